import Derived.Test.YthimaoipogocfaaGreatGRdone2
namespace Go.Proofs.YthimaoipogocfaaGreat
open Go.RowKit Go.Maps
attribute [local go_sem] run_store_f32 run_neg_inf

theorem box_kept {w X w2 : World} (h : Mod [] w X) (hm : Mod [] (X.alloc (B4 0 0 0 0)) w2) : w2.heap[X.heap.size]? = some (B4 0 0 0 0) ∧ w.heap.size ≤ X.heap.size := ⟨(hm.block _ (by simp) (by simp)).trans (heap_alloc_new X _), h.size⟩
theorem box_keptD {w X w2 : World} (h : Mod [] w X.drew) (hm : Mod [] (X.drew.alloc (B4 0 0 0 0)) w2) : w2.heap[X.heap.size]? = some (B4 0 0 0 0) ∧ w.heap.size ≤ X.heap.size := box_kept (X := X.drew) h hm
theorem box_keptE {w X w2 : World} (h : Mod [] w X.drew) (hm : Mod [] ((X.alloc (B4 0 0 0 0)).drew) w2) : w2.heap[X.heap.size]? = some (B4 0 0 0 0) ∧ w.heap.size ≤ X.heap.size := box_kept (X := X.drew) h hm
theorem box_all {w w2 : World} (h : Mod [] w w2) (x0 y0 x1 y1 : Int) : Mod [] w (w2.alloc (B4 x0 y0 x1 y1)) ∧ (w2.alloc (B4 x0 y0 x1 y1)).heap[w2.heap.size]? = some (B4 x0 y0 x1 y1) := ⟨h.trans (Mod.alloc _ _), heap_alloc_new w2 _⟩
theorem box_set {w w2 : World} {b : Nat} (h : Mod [] w w2) (hb : w2.heap[b]? = some (B4 0 0 0 0) ∧ w.heap.size ≤ b) (x0 y0 x1 y1 : Int) : Mod [] w ((((w2.setCell ⟨b, 0, none⟩ (.int .i64 x0)).setCell ⟨b, 1, none⟩ (.int .i64 y0)).setCell ⟨b, 2, none⟩ (.int .i64 x1)).setCell ⟨b, 3, none⟩ (.int .i64 y1)) ∧ ((((w2.setCell ⟨b, 0, none⟩ (.int .i64 x0)).setCell ⟨b, 1, none⟩ (.int .i64 y0)).setCell ⟨b, 2, none⟩ (.int .i64 x1)).setCell ⟨b, 3, none⟩ (.int .i64 y1)).heap[b]? = some (B4 x0 y0 x1 y1) :=
  ⟨h.then (mod_set4 _ b _ _ _ _) (fun x hx => .inr (by simp at hx; have := hb.2; omega)), B4_set4 hb.1 x0 y0 x1 y1⟩
theorem box_next {w w2 w3 : World} {b : Nat} (hm : Mod [] w2 w3) (h : w2.heap[b]? = some (B4 0 0 0 0) ∧ w.heap.size ≤ b) : w3.heap[b]? = some (B4 0 0 0 0) ∧ w.heap.size ≤ b := ⟨(hm.block _ (lt_of_block h.1) (by simp)).trans h.1, h.2⟩

set_option maxRecDepth 100000 in
set_option maxHeartbeats 4000000 in
theorem done_put {w : World} {py : Nat} {fan : Int} {s : St} {L : List Th} {F : List Nat} (h : RefRep w py fan L s.lg F) (m : Match s L) (ok : StOk s) (hnl : s.lg.length ≤ 99999900) {g off c : Nat} (hc : 18 ≤ c) (hc2 : c ≤ 9223372036854775807) {body : List Int} (hb : BytesAt w g off body) (hB : ByteL body) (hl : body.length = 18) {kind : Int} (hk : kind = 80 ∨ kind = 77) :
    Calls Tryz.prog 119 #[.pointer (some ⟨py, 0, none⟩), .int .u8 kind, .slice (some ⟨g, off, none⟩) 18 c] w (DonePost py fan s (parseF kind body) F w) := by
  obtain ⟨a, b, e0, e1, e2⟩ := two_bytes (body := body) (by omega)
  have c0 := hb 0 _ e0
  have c1 := hb 1 _ e1
  obtain ⟨a0, a1⟩ := hB a (List.mem_of_getElem? e0)
  obtain ⟨b0, b1⟩ := hB b (List.mem_of_getElem? e1)
  have hp : parseF kind body = ⟨kind, 0, a + 256 * b, coordV (body.drop 2) 0, coordV (body.drop 2) 1, coordV (body.drop 2) 2, coordV (body.drop 2) 3⟩ := by
    unfold parseF
    rw [if_neg (by omega), if_neg (by omega), e2, valB_two]
  have HAT := hideIt (fun W (hm : Mod [] w W) => at_any (h.kept hm (by simp)) m.len (a + 256 * b))
  obtain ⟨fv, hfv⟩ : ∃ fv : Nat → Int, fv = fun n => coordV (body.drop 2) ((n - (off + 2)) / 4) := ⟨_, rfl⟩
  have HVAL := hideIt (show ∀ W n cc, Mod [] w W → (∃ i, i < 4 ∧ n = off + (2 + i * 4)) → Calls Tryz.prog 117 #[.slice (some ⟨g, n, none⟩) 4 cc, .bool true] W (fun e w' => e = .returned (.int .i64 (fv n)) ∧ Mod [] W w' ∧ Mod [] w w') from fun W n cc hm ⟨i, hi, hn⟩ => by
    have e : fv n = coordV (body.drop 2) i := by
      rw [hfv]
      show coordV (body.drop 2) ((n - (off + 2)) / 4) = _
      congr 1
      omega
    rw [e]
    refine (value_coord (c := cc) (hb.keep hm) hB (i := i) (by omega) hn).mono ?_
    rintro e w' ⟨rfl, rfl⟩
    exact ⟨rfl, Mod.drew _, hm.trans (Mod.drew _)⟩)
  have f0 : fv (off + 2) = coordV (body.drop 2) 0 := by rw [hfv]; show coordV _ ((off + 2 - (off + 2)) / 4) = _; congr 1; omega
  have f1 : fv (off + 6) = coordV (body.drop 2) 1 := by rw [hfv]; show coordV _ ((off + 6 - (off + 2)) / 4) = _; congr 1; omega
  have f2 : fv (off + 10) = coordV (body.drop 2) 2 := by rw [hfv]; show coordV _ ((off + 10 - (off + 2)) / 4) = _; congr 1; omega
  have f3 : fv (off + 14) = coordV (body.drop 2) 3 := by rw [hfv]; show coordV _ ((off + 14 - (off + 2)) / 4) = _; congr 1; omega
  clear hfv
  have HPUT := hideIt (fun W (hm : Mod [] w W) => refPut_any (h.kept hm (by simp)) m.len hnl (parseF kind body).th)
  have HPN := hideIt (fun W (hm : Mod [] w W) c w' (hk2 : ((parseF kind body).kind = 77 ∧ hasT s.L (parseF kind body).id = true) ∨ ((parseF kind body).kind = 80 ∧ hasT s.L (parseF kind body).id = false)) (k : RefPutPost py fan (putF L (parseF kind body).th) (putFL L s.lg (parseF kind body).th) F W (.returned (.int .i64 c)) w') => donePut (r := parseF kind body) hm m ok hk2 k)
  have HNO := hideIt (fun W (hm : Mod [] w W) (hn : ∀ s'', ¬ Done s (parseF kind body) s'') => doneNo hm h m hn)
  have HHAS := hideIt (hasT_perm m.perm (a + 256 * b))
  rw [hp] at *
  generalize coordV (body.drop 2) 0 = x0 at *
  generalize coordV (body.drop 2) 1 = y0 at *
  generalize coordV (body.drop 2) 2 = x1 at *
  generalize coordV (body.drop 2) 3 = y1 at *
  have HPUT := hideIt (show ∀ W, Mod [] w W → Calls Tryz.prog 120 #[.pointer (some ⟨py, 0, none⟩), .int .i64 (a + 256 * b), R4 x0 y0 x1 y1] W (RefPutPost py fan (putF L ⟨a + 256 * b, x0, y0, x1, y1⟩) (putFL L s.lg ⟨a + 256 * b, x0, y0, x1, y1⟩) F W) from HPUT.out)
  have HPN := hideIt (show ∀ W, Mod [] w W → ∀ c w', ((kind = 77 ∧ hasT s.L (a + 256 * b) = true) ∨ (kind = 80 ∧ hasT s.L (a + 256 * b) = false)) → RefPutPost py fan (putF L ⟨a + 256 * b, x0, y0, x1, y1⟩) (putFL L s.lg ⟨a + 256 * b, x0, y0, x1, y1⟩) F W (.returned (.int .i64 c)) w' → DonePost py fan s ⟨kind, 0, a + 256 * b, x0, y0, x1, y1⟩ F w (.returned (.bool (c == 0))) w' from fun W hm c w' h1 h2 => (HPN.out W hm c w' h1 h2).2)
  have HNO := hideIt (show ∀ W, Mod [] w W → ((kind = 77 ∧ hasT s.L (a + 256 * b) = false) ∨ (kind = 80 ∧ hasT s.L (a + 256 * b) = true)) → DonePost py fan s ⟨kind, 0, a + 256 * b, x0, y0, x1, y1⟩ F w (.returned (.bool false)) W from fun W hm hc => HNO.out W hm (fun s'' hd => by
    cases hd with
    | put hk2 _ =>
      simp only at hk2
      rcases hc with ⟨e1, e2⟩ | ⟨e1, e2⟩ <;> rcases hk2 with ⟨e3, e4⟩ | ⟨e3, e4⟩
      · rw [e2] at e4; cases e4
      · omega
      · omega
      · rw [e2] at e4; cases e4
    | drop hk2 _ =>
      simp only at hk2
      omega))
  have HKD := hideIt hk
  rw [Nat.add_zero] at c0
  clear h hb hB hp e0 e1 e2
  go_enter Tryz.func119, Tryz.ntmps119
  go_wp2_with fail
  go_quiet (fail)
  have HMD := hideIt (show Mod [] w (w.drewN nq) from Mod.drewN _ nq)
  clear c0 c1
  generalize w.drewN nq = w1 at *
  have hk68 : (kind == 68) = false := beq_eq_false_iff_ne.2 (by omega)
  go_wp2_with fail
  refine (HAT.out _ HMD.out).mono ?_
  rintro e w2 ⟨kk, rfl, hAt, hw⟩
  obtain rfl := hw
  clear HAT
  have HAI := hideIt hAt.find
  clear hAt
  go_wp2_with fail
  have hc18 : ¬ (c = 2) := by omega
  have hc6 : ¬ (c = 6) := by omega
  have hc10 : ¬ (c = 10) := by omega
  have hc14 : ¬ (c = 14) := by omega
  have HK := hideIt (And.intro HPUT (And.intro HPN (And.intro HNO (And.intro HHAS HAI))))
  clear HPUT HPN HNO HHAS HAI m ok hnl hl hk
  have h6i : (6 : Int) ≤ (c : Int) := by omega
  have h10i : (10 : Int) ≤ (c : Int) := by omega
  have h14i : (14 : Int) ≤ (c : Int) := by omega
  have h18i : (18 : Int) ≤ (c : Int) := by omega
  have h6n : 6 ≤ c := by omega
  have h10n : 10 ≤ c := by omega
  have h14n : 14 ≤ c := by omega
  have hmw := HMD.out.trans (Mod.drew w1)
  go_region_held (fun _ => True)
    (trivial)
    ((go_at_call 117
      refine (HVAL.out _ _ _ (by first | with_reducible exact hmw | with_reducible exact hmw.trans (Mod.alloc _ _)) (by first | exact ⟨0, by omega, by omega⟩ | exact ⟨1, by omega, by omega⟩ | exact ⟨2, by omega, by omega⟩ | exact ⟨3, by omega, by omega⟩)).mono ?_
      rintro e2 w2 ⟨rfl, hm2, hmw2⟩
      first
        | (with_reducible have hbx := box_keptD hmw hm2)
        | (with_reducible have hbx := box_keptE hmw hm2)
        | (with_reducible have hbx := box_kept hmw hm2)
        | (with_reducible have hbx := box_next hm2 hbx)
        | skip
      first
        | (have z0 := (cell_B4 hbx.1).1; have z1 := (cell_B4 hbx.1).2.1; have z2 := (cell_B4 hbx.1).2.2.1; have z3 := (cell_B4 hbx.1).2.2.2; have zf := fun o => frozen_of_block hbx.1 o)
        | skip
      clear hm2
      have hmw := hmw2
      clear hmw2))
  all_goals
    obtain ⟨HPUT, HPN, HNO, HHAS, HAI⟩ := HK.out
    first
      | (obtain ⟨hF1, hF2⟩ := box_set hmw hbx x0 y0 x1 y1; clear hbx z0 z1 z2 z3 zf; generalize (((w2.setCell _ (.int .i64 x0)).setCell _ (.int .i64 y0)).setCell _ (.int .i64 x1)).setCell _ (.int .i64 y1) = wf at *)
      | (obtain ⟨hF1, hF2⟩ := box_all hmw x0 y0 x1 y1; generalize w2.alloc (B4 x0 y0 x1 y1) = wf at *)
    have HMF := hideIt hF1
    obtain ⟨q0, q1, q2, q3⟩ := cell_B4 hF2
    clear hF1 hF2 HK HVAL HMD
    rcases HAI.out with ⟨hkk, hfn⟩ | ⟨n, hkk, hfn, _⟩
    · have hneg : kk < 0 := by omega
      clear hkk HAI
      rcases HKD.out with hkd | hkd
      · clear HKD
        have hkb : (kind == 80) = true := by simp [hkd]
        have hq := hideIt (show (kind = 77 ∧ hasT s.L (a + 256 * b) = true) ∨ (kind = 80 ∧ hasT s.L (a + 256 * b) = false) from .inr ⟨hkd, by rw [← HHAS.out]; exact findT_none hfn⟩)
        clear hkd hfn HNO
        go_wp2_with fail
        refine (HPUT.out _ HMF.out).mono ?_
        intro e w4 hp
        have HDP := hideIt (HPN.out _ HMF.out (putF L ⟨a + 256 * b, x0, y0, x1, y1⟩).1 w4 hq.out ⟨rfl, hp.2⟩)
        have he := hp.1
        subst he
        clear hp HPUT HPN q0 q1 q2 q3 hq
        generalize (putF L ⟨a + 256 * b, x0, y0, x1, y1⟩).1 = cc at *
        go_wp2
        go_ret
        exact HDP.out
      · clear HKD
        have hkb : (kind == 80) = false := by simp [hkd]
        have HDP := hideIt (HNO.out _ HMF.out (.inl ⟨hkd, by rw [← HHAS.out]; exact findT_none hfn⟩))
        clear hkd hfn HPUT HPN HNO q0 q1 q2 q3
        go_wp2
        go_ret
        exact HDP.out
    · have hneg : ¬ (kk < 0) := by omega
      clear hkk HAI
      rcases HKD.out with hkd | hkd
      · clear HKD
        have hkb : (kind == 80) = true := by simp [hkd]
        have HDP := hideIt (HNO.out _ HMF.out (.inr ⟨hkd, by rw [← HHAS.out]; exact findT_some hfn⟩))
        clear hkd hfn HPUT HPN HNO q0 q1 q2 q3
        go_wp2
        go_ret
        exact HDP.out
      · clear HKD
        have hkb : (kind == 80) = false := by simp [hkd]
        have hq := hideIt (show (kind = 77 ∧ hasT s.L (a + 256 * b) = true) ∨ (kind = 80 ∧ hasT s.L (a + 256 * b) = false) from .inl ⟨hkd, by rw [← HHAS.out]; exact findT_some hfn⟩)
        clear hkd hfn HNO
        go_wp2_with fail
        refine (HPUT.out _ HMF.out).mono ?_
        intro e w4 hp
        have HDP := hideIt (HPN.out _ HMF.out (putF L ⟨a + 256 * b, x0, y0, x1, y1⟩).1 w4 hq.out ⟨rfl, hp.2⟩)
        have he := hp.1
        subst he
        clear hp HPUT HPN q0 q1 q2 q3 hq
        generalize (putF L ⟨a + 256 * b, x0, y0, x1, y1⟩).1 = cc at *
        go_wp2
        go_ret
        exact HDP.out

end Go.Proofs.YthimaoipogocfaaGreat
