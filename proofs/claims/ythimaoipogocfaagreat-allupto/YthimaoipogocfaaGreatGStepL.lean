import Derived.Test.YthimaoipogocfaaGreatGReplays
import Derived.Test.YthimaoipogocfaaGreatM18
import Derived.Test.YthimaoipogocfaaGreatM12
import Derived.Test.YthimaoipogocfaaGreatGBookB
import Derived.Test.YthimaoipogocfaaGreatGSpoilt
namespace Go.Proofs.YthimaoipogocfaaGreat
open Go.RowKit Go.Maps
attribute [local go_sem] run_store_f32 run_neg_inf

theorem hLogS' {w : World} {q fan : Nat} {s : St} {F : List Nat} (h : HAt w q fan s F) (hl : s.lg.length ≤ 1000000000000) : Calls Tryz.prog 28 #[.pointer (some ⟨q, 0, none⟩)] w (LogTold s.lg w) := by
  obtain ⟨ts, h1, h2⟩ := h
  exact hLog_any h1 hl
theorem RefRep.logRow {w : World} {py : Nat} {fan : Int} {L : List Th} {lg : List Int} {F : List Nat} (h : RefRep w py fan L lg F) : ∃ g c, w.cell? ⟨py, 2, none⟩ = some (.slice (some ⟨g, 0, none⟩) lg.length c) ∧ BytesAt w g 0 lg := by
  obtain ⟨tv, gl, cl, last, nl, h1, h2, h3, h4, h5, ⟨h6, rfl⟩, rfl⟩ := h
  exact ⟨gl, cl, (cell_T58 h1).2.2.1, BytesAt.of_owns h4⟩
theorem RefRep.logOwn {w : World} {py : Nat} {fan : Int} {L : List Th} {lg : List Int} {F : List Nat} (h : RefRep w py fan L lg F) : ∃ g c, w.cell? ⟨py, 2, none⟩ = some (.slice (some ⟨g, 0, none⟩) lg.length c) ∧ w.ownsRow 0 5 1 (.slice (some ⟨g, 0, none⟩) lg.length c) lg.length (u8s lg) ∧ ByteL lg := by
  obtain ⟨tv, gl, cl, last, nl, h1, h2, h3, h4, h5, ⟨h6, rfl⟩, rfl⟩ := h
  exact ⟨gl, cl, (cell_T58 h1).2.2.1, h4, h5⟩

set_option maxRecDepth 100000 in
set_option maxHeartbeats 1000000 in
theorem step_replay {B : Nat} {w : World} {pw : Nat} {ps : List PS} {K : Nat} (h : WRep B w pw ps K) (hB : B ≤ w.heap.size) (hlen : ps.length ≤ 100000000) (s : Stp) (hk : s.k = 13) {l : List Int} (hv : LogV w s.j l) (hl : l.length ≤ 99999900) :
    Calls Tryz.prog 30 #[.pointer (some ⟨pw, 0, none⟩), S10 s] w (ReplaysPost B pw ps K l.length w) := by
  obtain ⟨hm0, hb0⟩ := step_box w s
  have HR := hideIt (replays_any (h.kept hm0) (Nat.le_trans hB hm0.size) hlen (hv.keep hm0) hl)
  have HBL := hideIt (hm0.below_of hB (by simp))
  have q1 : (s.k == 1) = false := beq_eq_false_iff_ne.2 (by omega)
  have q13 : (s.k == 13) = true := by simp [hk]
  have HB0 := hideIt hb0
  clear h hv hm0 hb0 hk
  go_enter Tryz.func30, Tryz.ntmps30
  go_wp2_with fail
  refine HR.out.mono ?_
  rintro e w1 ⟨rfl, ps', r1, r2, r3⟩
  have HP := hideIt (show ReplaysPost B pw ps K l.length w (.returned (.bool true)) w1 from ⟨rfl, ps', r1, HBL.out.trans r2, r3⟩)
  clear HR HBL r1 r2 r3 HB0
  go_wp2
  go_ret
  exact HP.out

set_option maxRecDepth 100000 in
set_option maxHeartbeats 2000000 in
theorem step_late {B : Nat} {w : World} {pw : Nat} {ps : List PS} {K : Nat} (h : WRep B w pw ps K) (hB : B ≤ w.heap.size) (hpos : 0 < ps.length) (hlen : ps.length ≤ 100000000) (hK : K ≤ 100000000) (N : Nat) (hN : ∀ p ∈ ps, p.nl ≤ N) (s : Stp) (hs : s.ok) (hk7 : 7 ≤ s.k) (hk14 : s.k ≤ 14) (q13 : (s.k == 13) = false) {l : List Int} (hv : LogV w s.j l) (hNl : N + l.length ≤ 99999900) :
    Calls Tryz.prog 30 #[.pointer (some ⟨pw, 0, none⟩), S10 s] w (ReplaysPost B pw ps (K + 4) (N + l.length) w) := by
  obtain ⟨hm0, hb0⟩ := step_box w s
  have h0 := h.kept hm0
  have c0 : (w.alloc (B40 s)).cell? ⟨w.heap.size, 0, none⟩ = some (.int .i64 s.k) := cell_B40 hb0 0 _ rfl
  have c1 : (w.alloc (B40 s)).cell? ⟨w.heap.size, 1, none⟩ = some (.int .i64 s.e) := cell_B40 hb0 1 _ rfl
  obtain ⟨lv, bk, Fb, h1, h2, h3, h4, h5, h6, h7, h8⟩ := h0
  have hform : ∃ g c, lv = .slice (some ⟨g, 0, none⟩) ps.length c := by
    rcases h3.2 with ⟨_, hz⟩ | ⟨g, c, cur, rfl, hrest⟩
    · omega
    · exact ⟨_, _, rfl⟩
  obtain ⟨g, c, rfl⟩ := hform
  have cl := cell_T34 h1
  have hrow : ∀ k, k < ps.length → (w.alloc (B40 s)).cell? ⟨g, k * 2, none⟩ = some (.pointer (some ⟨(ps.getD k ps0).px, 0, none⟩)) ∧ (w.alloc (B40 s)).cell? ⟨g, k * 2 + 1, none⟩ = some (.pointer (some ⟨(ps.getD k ps0).py, 0, none⟩)) := fun k hk => by
    have := pair_cells h3 (List.getElem?_eq_getElem hk)
    rw [show ps.getD k ps0 = ps[k] by simp [List.getD, hk]]
    exact this
  have hse := hs.e
  unfold i64ok at hse
  have q1 : (s.k == 1) = false := beq_eq_false_iff_ne.2 (by omega)
  go_enter Tryz.func30, Tryz.ntmps30
  go_wp2_with fail
  generalize hW : w.alloc (B40 s) = w1 at *
  go_region_held (fun w' => w'.cell? ⟨pw, 0, none⟩ = some (.slice (some ⟨g, 0, none⟩) ps.length c) ∧ w'.cell? ⟨w.heap.size, 1, none⟩ = some (.int .i64 s.e) ∧ ∀ k, k < ps.length → w'.cell? ⟨g, k * 2, none⟩ = some (.pointer (some ⟨(ps.getD k ps0).px, 0, none⟩)) ∧ w'.cell? ⟨g, k * 2 + 1, none⟩ = some (.pointer (some ⟨(ps.getD k ps0).py, 0, none⟩))) ((first | exact ⟨cl, c1, hrow⟩ | exact held_mod ((Mod.alloc _ _).trans (Mod.drew _)) ⟨cl, c1, hrow⟩))
    ((go_at_call 53; refine (lpick_any _ _ _ hse.1 hse.2 ?_ ?_).mono ?_; (omega); (omega); rintro e w' ⟨K, rfl, hK0, hK1, rfl⟩; obtain ⟨k, rfl⟩ := Int.eq_ofNat_of_zero_le hK0; have hkl : k < ps.length := by omega))
  all_goals
    rename_i hheld
    clear hheld hrow cl c0 c1 h1 h2 h3 h4 h5 h6 h7 h8 hW hK0 hK1 hse
    have hpm : ps[k] ∈ ps := List.getElem_mem hkl
    generalize ps[k] = p at *
    have hmd : Mod [] w1 ((w1.alloc (B52 p.px p.py)).drew) := (Mod.alloc _ _).trans (Mod.drew _)
    have hm2 := hm0.trans hmd
    have hW2 := h.kept hm2
    have hP2 : PairRep ((w1.alloc (B52 p.px p.py)).drew) p := by
      obtain ⟨lv, _, _, _, _, _, h4, _⟩ := hW2
      exact h4 p hpm
    have hb2 := (hmd.block _ (lt_of_block hb0) (by simp)).trans hb0
    have hb3 : ((w1.alloc (B52 p.px p.py)).drew).heap[w1.heap.size]? = some (B52 p.px p.py) := heap_alloc_new w1 _
    obtain ⟨e0, e1⟩ := cell_B52 hb3
    have hB2 : B ≤ ((w1.alloc (B52 p.px p.py)).drew).heap.size := Nat.le_trans hB hm2.size
    have HH := hideIt (finds_any hW2 hB2 hK hP2 s hs)
    obtain ⟨F1, F2, t1, t2, t3, t4, t5⟩ := hP2
    have hnl : p.s.lg.length ≤ N := hN p hpm
    have HL := hideIt (hLogS' t1 (by omega))
    have HBKD := hideIt (fun W (hW : Mod [] ((w1.alloc (B52 p.px p.py)).drew) W) => hW2.booked hW hB2)
    obtain ⟨gl, cl, y2, y3, y4⟩ := t2.logOwn
    have HY := hideIt (BytesAt.of_owns y3)
    have HSP := hideIt (fun W (hW : Mod [] ((w1.alloc (B52 p.px p.py)).drew) W) => spoilt_any (owns_kept y3 hW (by simp)) y4 (by omega) ((hv.keep hm2).keep hW) (by omega) hs.a hs.b)
    have HRP := hideIt (show ∀ W u l', Mod [] ((w1.alloc (B52 p.px p.py)).drew) W → LogV W u l' → l'.length ≤ p.s.lg.length + l.length → Calls Tryz.prog 52 #[.pointer (some ⟨pw, 0, none⟩), u] W (ReplaysPost B pw ps K (N + l.length) W) from fun W u l' hW hu hl' => by
      refine (replays_any (hW2.kept hW) (Nat.le_trans hB2 hW.size) hlen hu (by omega)).mono ?_
      rintro e w' ⟨e1, ps', e2, e3, e4⟩
      refine ⟨e1, ps', e2, e3, e4.imp id (fun ⟨q, a, b⟩ => ⟨q, a, by omega⟩)⟩)
    clear t1 t2 t3 t4 t5 y3 y4
    have HBEL := hideIt (hm2.below_of hB (by simp))
    generalize (w1.alloc (B52 p.px p.py)).drew = w2 at *
    have d0 : w2.cell? ⟨w.heap.size, 0, none⟩ = some (.int .i64 s.k) := cell_B40 hb2 0 _ rfl
    have d1 : w2.cell? ⟨w.heap.size, 1, none⟩ = some (.int .i64 s.e) := cell_B40 hb2 1 _ rfl
    have d2 : w2.cell? ⟨w.heap.size, 2, none⟩ = some (.int .i64 s.a) := cell_B40 hb2 2 _ rfl
    have d3 : w2.cell? ⟨w.heap.size, 3, none⟩ = some (.int .i64 s.b) := cell_B40 hb2 3 _ rfl
    have d4 : w2.cell? ⟨w.heap.size, 4, none⟩ = some (.int .i64 s.c) := cell_B40 hb2 4 _ rfl
    have d5 : w2.cell? ⟨w.heap.size, 5, none⟩ = some (.int .i64 s.x0) := cell_B40 hb2 5 _ rfl
    have d6 : w2.cell? ⟨w.heap.size, 6, none⟩ = some (.int .i64 s.y0) := cell_B40 hb2 6 _ rfl
    have d7 : w2.cell? ⟨w.heap.size, 7, none⟩ = some (.int .i64 s.x1) := cell_B40 hb2 7 _ rfl
    have d8 : w2.cell? ⟨w.heap.size, 8, none⟩ = some (.int .i64 s.y1) := cell_B40 hb2 8 _ rfl
    have d9 : w2.cell? ⟨w.heap.size, 9, none⟩ = some s.j := cell_B40 hb2 9 _ rfl
    have q2 : (s.k == 2) = false := beq_eq_false_iff_ne.2 (by omega)
    have q3 : (s.k == 3) = false := beq_eq_false_iff_ne.2 (by omega)
    have q4 : (s.k == 4) = false := beq_eq_false_iff_ne.2 (by omega)
    have q5 : (s.k == 5) = false := beq_eq_false_iff_ne.2 (by omega)
    have q6 : (s.k == 6) = false := beq_eq_false_iff_ne.2 (by omega)
    have hcase : (s.k == 7) = true ∨ ((s.k == 7) = false ∧ (s.k == 8) = true) ∨ ((s.k == 7) = false ∧ (s.k == 8) = false ∧ (s.k == 9) = true) ∨ ((s.k == 7) = false ∧ (s.k == 8) = false ∧ (s.k == 9) = false ∧ (s.k == 10) = true) ∨ ((s.k == 7) = false ∧ (s.k == 8) = false ∧ (s.k == 9) = false ∧ (s.k == 10) = false ∧ (s.k == 11) = true) ∨ ((s.k == 7) = false ∧ (s.k == 8) = false ∧ (s.k == 9) = false ∧ (s.k == 10) = false ∧ (s.k == 11) = false ∧ (s.k == 12) = true) ∨ ((s.k == 7) = false ∧ (s.k == 8) = false ∧ (s.k == 9) = false ∧ (s.k == 10) = false ∧ (s.k == 11) = false ∧ (s.k == 12) = false ∧ (s.k == 14) = true) := by
      simp only [beq_iff_eq, beq_eq_false_iff_ne] at q13 ⊢
      omega
    clear hW2 hm2 hmd hm0 hb0 hb2 hb3 h hpm hN hk7 hk14 hv
    rcases hcase with q7 | ⟨q7, q8⟩ | ⟨q7, q8, q9⟩ | ⟨q7, q8, q9, q10⟩ | ⟨q7, q8, q9, q10, q11⟩ | ⟨q7, q8, q9, q10, q11, q12⟩ | ⟨q7, q8, q9, q10, q11, q12, q14⟩
    rotate_left 5
    · clear HH HSP HRP d2 d3 d4 d5 d6 d7 d8 d9
      go_wp2_with fail
      refine HL.out.mono ?_
      rintro e w3 ⟨gb, cb, rfl, ho3, hg3, hm3⟩
      have e1' := cell_mod hm3 e1
      have y2' := cell_mod hm3 y2
      have e1d := cell_mod (hm3.trans (Mod.drew _)) e1
      have y2d := cell_mod (hm3.trans (Mod.drew _)) y2
      have s1 := (BytesAt.of_owns (owns_kept ho3 (Mod.drew (F := []) _) (by simp))).str rfl cb
      have s2 := (HY.out.keep (hm3.trans (Mod.drew _))).str rfl cl
      have HBC := hideIt (show ∀ W, Mod [] w3 W → Calls Tryz.prog 56 #[.pointer (some ⟨pw, 1, none⟩), .slice (some ⟨gb, 0, none⟩) p.s.lg.length cb] W (fun e w' => e = .returned (.tuple #[]) ∧ WRep B w' pw ps (K + 4) ∧ Below B w2 w') from fun W hW => by
        have hmW := hm3.trans hW
        obtain ⟨lv, bk, Fb, k1, k2, k3, k4, k5, k6⟩ := HBKD.out W hmW
        have hz := hmW.size
        have hnew : ∀ x ∈ (Value.slice (some ⟨gb, 0, none⟩) p.s.lg.length cb).ownBlock.toList, w2.heap.size ≤ x := fun x hx => by
          have e : x = gb := by simpa [Value.ownBlock] using hx
          omega
        refine (bookB_any k1 k2 hK (by omega) k3 (owns_lift (owns_kept ho3 hW (by simp)) (fun x hx => Nat.le_trans hB2 (hnew x hx))) (by omega) (fun x hx => ⟨fun hx' => ?_, fun e => ?_⟩)).mono ?_
        · have := hnew x hx
          have := k4 x hx'
          omega
        · have := hnew x hx
          omega
        · intro e w' hp
          obtain ⟨e1, e2, e3⟩ := k6 _ w' e hnew hp
          exact ⟨e1, e2, (hmW.below_of hB2 (by simp)).trans e3⟩)
      clear HL ho3 hm3 hg3 e1 e0 y2 d0 d1 HY HBKD
      go_wp2_with fail
      go_region
      all_goals
        have HC2 := hideIt (HBC.out _ (Mod.drew _))
        clear HBC s1 s2 e1' y2' e1d y2d
        go_wp2_with fail
        refine HC2.out.mono ?_
        rintro e w4 ⟨rfl, r1, r2⟩
        have HR := hideIt (And.intro r1 (HBEL.out.trans r2))
        clear HC2 r1 r2 HBEL
        go_wp2
        go_ret
        exact ⟨rfl, ps, HR.out.1, HR.out.2, .inl rfl⟩
    · clear HH HL HBKD HY d4 d5 d6 d7 d8
      go_wp2_with fail
      clear d0 d1 e0
      go_region_held (fun w' => w'.cell? ⟨w1.heap.size, 1, none⟩ = some (.pointer (some ⟨p.py, 0, none⟩)) ∧ w'.cell? ⟨p.py, 2, none⟩ = some (.slice (some ⟨gl, 0, none⟩) p.s.lg.length cl) ∧ w'.cell? ⟨w.heap.size, 2, none⟩ = some (.int .i64 s.a) ∧ w'.cell? ⟨w.heap.size, 3, none⟩ = some (.int .i64 s.b) ∧ w'.cell? ⟨w.heap.size, 9, none⟩ = some s.j)
        ((first | exact ⟨e1, y2, d2, d3, d9⟩ | exact ⟨cell_mod hm3 e1, cell_mod hm3 y2, cell_mod hm3 d2, cell_mod hm3 d3, cell_mod hm3 d9⟩))
        ((go_at_call 57; refine (HSP.out _ (Mod.drew _)).mono ?_; rintro e w3 ⟨u, l', rfl, hu, hl', hm3'⟩; have hm3 := (Mod.drew w2).trans hm3'; clear hm3'))
      all_goals
        rename_i hheld
        have HR := hideIt (HRP.out _ _ _ hm3 hu hl')
        have HB3 := hideIt (HBEL.out.trans (hm3.below_of hB2 (by simp)))
        clear hheld HSP HRP hu hl' hm3 d2 d3 d9 e1 y2 HBEL
        go_wp2_with fail
        refine HR.out.mono ?_
        rintro e w4 ⟨rfl, ps', r1, r2, r3⟩
        have HP := hideIt (show ReplaysPost B pw ps (K + 4) (N + l.length) w (.returned (.bool true)) w4 from ⟨rfl, ps', r1.more (by omega), HB3.out.trans r2, r3⟩)
        clear HR HB3 r1 r2 r3
        go_wp2
        go_ret
        exact HP.out
    all_goals
      clear HL HBKD HY HSP HRP y2
      go_wp2_with fail
      refine HH.out.mono ?_
      rintro e w3 ⟨rfl, r1, r2⟩
      have HR := hideIt (And.intro r1 (HBEL.out.trans r2))
      clear HH HBEL r1 r2 d0 d1 d2 d3 d4 d5 d6 d7 d8 d9 e0 e1
      go_wp2
      go_ret
      exact ⟨rfl, ps, HR.out.1, HR.out.2, .inl rfl⟩

/-- bytes that a step bears -/
def StpJ (w : World) (s : Stp) (j : Nat) : Prop := ∃ l, LogV w s.j l ∧ l.length ≤ j

theorem steps_fourteen : StepsTo 14 StpJ := by
  intro B w pw ps K h hB hlen N hN hNm hK s hs j hj hj2 hk hpos
  obtain ⟨l, hv, hl⟩ := hj
  by_cases h6 : s.k ≤ 6
  · refine (step_six h hB hlen N hN (by omega) s hs h6 hpos).mono ?_
    rintro e w' ⟨he, ps', a, b, c, d, f⟩
    exact ⟨he, ps', a.more (by omega), b, c, d, fun q hq => by have := f q hq; omega⟩
  · have hfin : ∀ K2 n e w', K2 ≤ K + 4 → n ≤ N + l.length → ReplaysPost B pw ps K2 n w e w' → StepAny B pw ps.length (N + (897 + j)) (K + 4) w e w' := by
      rintro K2 n e w' hK2 hn ⟨he, ps', a, b, c⟩
      refine ⟨he, ps', a.more hK2, b, ?_, ?_, fun q hq => ?_⟩
      · rcases c with rfl | ⟨p, rfl, _⟩
        · exact Nat.le_refl _
        · simp
      · rcases c with rfl | ⟨p, rfl, _⟩
        · omega
        · simp
      · rcases c with rfl | ⟨p, rfl, hp⟩
        · have := hN q hq
          omega
        · rcases List.mem_append.1 hq with hq | hq
          · have := hN q hq
            omega
          · simp only [List.mem_singleton] at hq
            subst hq
            omega
    by_cases h13 : s.k = 13
    · refine (step_replay h hB hlen s h13 hv (by omega)).mono ?_
      intro e w' hp
      exact hfin _ _ e w' (by omega) (by omega) hp
    · refine (step_late h hB hpos hlen hK N hN s hs (by omega) hk (beq_eq_false_iff_ne.2 h13) hv (by omega)).mono ?_
      intro e w' hp
      exact hfin _ _ e w' (Nat.le_refl _) (Nat.le_refl _) hp

end Go.Proofs.YthimaoipogocfaaGreat
