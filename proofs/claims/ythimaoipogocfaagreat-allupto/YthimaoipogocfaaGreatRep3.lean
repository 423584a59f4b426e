import Derived.Test.YthimaoipogocfaaGreatRep2
namespace Go.Proofs.YthimaoipogocfaaGreat
open Go.RowKit Go.Maps
attribute [local go_sem] run_store_f32 run_neg_inf

set_option maxRecDepth 100000 in
set_option maxHeartbeats 1000000 in
theorem redo_head {w : World} {q fan : Nat} {s : St} {F : List Nat} (h : HAt w q fan s F) {fn id x0 y0 x1 y1 : Int} :
    Calls Tryz.prog 49 #[.pointer (some ⟨q, 0, none⟩), .agg #[.int .u8 72, .int .i64 fn, .int .i64 id, .int .i64 x0, .int .i64 y0, .int .i64 x1, .int .i64 y1]] w (RedoPost q fan s ⟨72, fn, id, x0, y0, x1, y1⟩ F w) := by
  have hm0 := Mod.alloc (F := []) w (rcO ⟨72, fn, id, x0, y0, x1, y1⟩)
  have HH := hideIt (hasS h id)
  generalize hasT s.L id = b at *
  have HZ := hideIt (show ∀ W, Mod [] (w.alloc (rcO ⟨72, fn, id, x0, y0, x1, y1⟩)) W → W.heap[w.heap.size]? = some (rcO ⟨72, fn, id, x0, y0, x1, y1⟩) from fun W hm => (hm.block _ (by simp) (by simp)).trans (heap_alloc_new w _))
  have HNO := hideIt (show ∀ W, Mod [] w W → RedoPost q fan s ⟨72, fn, id, x0, y0, x1, y1⟩ F w (.returned (.bool false)) W from fun W hm => redoNo h (fun s'' hd => by
    cases hd with
    | put hk2 _ => simp only at hk2; omega
    | drop hk2 _ => simp only at hk2; omega) hm)
  have HM0 := hideIt hm0
  obtain ⟨r0, r1, r2, r3, r4, r5, r6⟩ := cell_rcO (heap_alloc_new w (rcO ⟨72, fn, id, x0, y0, x1, y1⟩))
  simp only at r0 r1 r2 r3 r4 r5 r6
  clear h hm0
  go_enter Tryz.func49, Tryz.ntmps49
  go_wp2_with fail
  refine (HH.out _ HM0.out).mono ?_
  rintro e w1 ⟨rfl, hm1⟩
  clear r0 r1 r2 r3 r4 r5 r6
  obtain ⟨r0, r1, r2, r3, r4, r5, r6⟩ := cell_rcO (HZ.out w1 hm1)
  simp only at r0 r1 r2 r3 r4 r5 r6
  have HM1 := hideIt (HM0.out.trans hm1)
  clear hm1 HZ HH
  go_wp2
  go_ret
  exact HNO.out _ HM1.out

theorem redo_all {w : World} {q fan : Nat} {s : St} {F : List Nat} (h : HAt w q fan s F) (hl : s.lg.length ≤ 10000000000) (hk : s.L.length ≤ 1000) {r : Rc} (hr : RcOk r) :
    Calls Tryz.prog 49 #[.pointer (some ⟨q, 0, none⟩), r.val] w (RedoPost q fan s r F w) := by
  by_cases h72 : r.kind = 72
  · obtain ⟨kind, fn, id, x0, y0, x1, y1⟩ := r
    simp only at h72
    subst h72
    exact redo_head h
  · exact redo_any h hl hk hr h72

/-- bytes that are handed in -/
structure LogV (w : World) (v : Value) (l : List Int) : Prop where
  out : (v = .slice none 0 0 ∧ l = []) ∨ (∃ g off c, v = .slice (some ⟨g, off, none⟩) l.length c ∧ BytesAt w g off l ∧ l.length ≤ c ∧ c ≤ maxLen) ∨ ∃ a c, v = .slice (some a) 0 c ∧ l = []
  byte : ByteL l
  len : l.length ≤ 1000000000
theorem LogV.keep {w w' : World} {v : Value} {l : List Int} (h : LogV w v l) (hm : Mod [] w w') : LogV w' v l := by
  refine ⟨?_, h.byte, h.len⟩
  rcases h.out with h1 | ⟨g, off, c, h1, h2, h3⟩ | h1
  · exact .inl h1
  · exact .inr (.inl ⟨g, off, c, h1, h2.keep hm, h3⟩)
  · exact .inr (.inr h1)
set_option maxRecDepth 100000 in
set_option maxHeartbeats 400000 in
theorem read_empty (a : Addr) (c : Nat) (w : World) {k : Nat} : Calls Tryz.prog 48 #[.slice (some a) 0 c, .int .i64 k] w (ReadPost (readF [] k) w) := by
  have HF := hideIt (fun W (hm : Mod [] w W) => readNone (r := readF [] k) rfl hm)
  have hk : (0 : Int) ≤ (k : Int) := by omega
  go_enter Tryz.func48, Tryz.ntmps48
  go_wp2
  exact bodyPost_ret (v := .tuple #[.agg #[.int .u8 0, .int .i64 0, .int .i64 0, .int .i64 0, .int .i64 0, .int .i64 0, .int .i64 0], .bool false]) (by simp [results, Tryz.results48, go_sem]) rfl (HF.out _ (Mod.alloc _ _))

theorem read_v {w : World} {v : Value} {l : List Int} (h : LogV w v l) {k : Nat} (hk : k = 0 ∨ 4 ≤ k) (hk2 : k ≤ 1000000000000) : Calls Tryz.prog 48 #[v, .int .i64 k] w (ReadPost (readF l k) w) := by
  have hl := h.len
  rcases h.out with ⟨rfl, rfl⟩ | ⟨g, off, c, rfl, h2, h3, h4⟩ | ⟨a, c, rfl, rfl⟩
  · exact read_nil w
  · exact read_any h2 rfl (by omega) h.byte h3 h4 hk hk2
  · exact read_empty a c w

def BadPost (w : World) (e : Ending) (w' : World) : Prop := e = .returned (.tuple #[.pointer none, .int .i64 0, .int .i64 5]) ∧ Mod [] w w'

set_option maxRecDepth 100000 in
set_option maxHeartbeats 400000 in
theorem replay_none {w : World} {v : Value} {l : List Int} (h : LogV w v l) (hr : readF l 0 = none) : Calls Tryz.prog 29 #[v] w (BadPost w) := by
  have HR := hideIt (show Calls Tryz.prog 48 #[v, .int .i64 0] w (fun e w' => e = .returned (.tuple #[.agg #[.int .u8 0, .int .i64 0, .int .i64 0, .int .i64 0, .int .i64 0, .int .i64 0, .int .i64 0], .bool false]) ∧ Mod [] w w') from by
    have := read_v h (k := 0) (.inl rfl) (by omega)
    rw [hr] at this
    exact this)
  clear h hr
  go_enter Tryz.func29, Tryz.ntmps29
  go_wp2_with fail
  refine HR.out.mono ?_
  rintro e w1 ⟨rfl, hm1⟩
  clear HR
  go_wp2
  go_ret3
  exact ⟨rfl, hm1.trans (Mod.alloc _ _)⟩

/-- what stands first, where it is a record -/
theorem readHead {w : World} {v : Value} {l : List Int} (h : LogV w v l) {r : Rc} (hr : readF l 0 = some r) : Calls Tryz.prog 48 #[v, .int .i64 0] w (fun e w' => e = .returned (.tuple #[.agg #[.int .u8 r.kind, .int .i64 r.fan, .int .i64 r.id, .int .i64 r.x0, .int .i64 r.y0, .int .i64 r.x1, .int .i64 r.y1], .bool true]) ∧ Mod [] w w') := by
  have := read_v h (k := 0) (.inl rfl) (by omega)
  rw [hr] at this
  exact this

set_option maxRecDepth 100000 in
set_option maxHeartbeats 400000 in
theorem replay_kind {w : World} {v : Value} {l : List Int} (h : LogV w v l) {r : Rc} (hr : readF l 0 = some r) (hk : r.kind ≠ 72) : Calls Tryz.prog 29 #[v] w (BadPost w) := by
  have HR := hideIt (readHead h hr)
  have hne : (r.kind != 72) = true := by simpa using hk
  clear h hr hk
  go_enter Tryz.func29, Tryz.ntmps29
  go_wp2_with fail
  refine HR.out.mono ?_
  rintro e w1 ⟨rfl, hm1⟩
  clear HR
  go_wp2
  go_ret3
  exact ⟨rfl, hm1.trans (Mod.alloc _ _)⟩

set_option maxRecDepth 100000 in
set_option maxHeartbeats 400000 in
theorem replay_fan {w : World} {v : Value} {l : List Int} (h : LogV w v l) {r : Rc} (hr : readF l 0 = some r) (hk : r.kind = 72) (hf : fanB r.fan = false) : Calls Tryz.prog 29 #[v] w (BadPost w) := by
  have HR := hideIt (readHead h hr)
  rw [hk] at HR
  have HN := hideIt (fun W => hNew_bad r.fan W hf)
  clear h hr hk hf
  go_enter Tryz.func29, Tryz.ntmps29
  go_wp2_with fail
  refine HR.out.mono ?_
  rintro e w1 ⟨rfl, hm1⟩
  clear HR
  go_wp2_with fail
  refine (HN.out _).mono ?_
  rintro e w2 ⟨rfl, hw⟩
  obtain rfl := hw
  go_wp2
  go_ret3
  exact ⟨rfl, hm1.trans (Mod.alloc _ _)⟩

def ReplayPost (l : List Int) (fan : Nat) (w : World) (e : Ending) (w' : World) : Prop :=
  ∃ q s F, e = .returned (.tuple #[.pointer (some ⟨q, 0, none⟩), .int .i64 s.lg.length, .int .i64 0]) ∧ HAt w' q fan s F ∧ Steps l (stNew fan) s ∧ Stuck l s ∧ StOk s ∧ (∀ x ∈ F, w.heap.size ≤ x) ∧ Mod [] w w'

/-- where the loop stands -/
structure ReplayAt (l : List Int) (fan q : Nat) (s : St) (F : List Nat) (w wr : World) : Prop where
  tree : HAt wr q fan s F
  steps : Steps l (stNew fan) s
  ok : StOk s
  pre : s.lg = l.take s.lg.length
  le : s.lg.length ≤ l.length
  six : 6 ≤ s.lg.length
  new : ∀ x ∈ F, w.heap.size ≤ x
  mod : Mod [] w wr

/-- how long a tree's log is, read off the world -/
def logLen (w : World) (q : Nat) : Nat := match w.cell? ⟨q, 1, none⟩ with
  | some (.slice _ n _) => n
  | _ => 0
theorem ReplayAt.log {l : List Int} {fan q : Nat} {s : St} {F : List Nat} {w wr : World} (h : ReplayAt l fan q s F w wr) : ∃ g c, wr.cell? ⟨q, 1, none⟩ = some (.slice (some ⟨g, 0, none⟩) s.lg.length c) ∧ logLen wr q = s.lg.length ∧ q < wr.heap.size := by
  obtain ⟨ts, ⟨p, lv, F0, h1, h2, h3, h4, h5, ⟨h6, h7, h8⟩, hF⟩, _⟩ := h.tree
  rcases ownV h3 with ⟨rfl, h0⟩ | ⟨g, c, rfl⟩
  · omega
  · have hc := cell_hL h1
    exact ⟨g, c, hc, by unfold logLen; rw [hc], lt_of_block h1⟩

theorem Steps.snoc {l : List Int} {a b c : St} {r : Rc} (h : Steps l a b) (hr : readF l b.lg.length = some r) (hd : Done b r c) : Steps l a c := h.trans (.step hr hd (.refl _))

set_option maxRecDepth 100000 in
set_option maxHeartbeats 1000000 in
theorem replay_good {w : World} {v : Value} {l : List Int} (h : LogV w v l) {r : Rc} (hr : readF l 0 = some r) (hk : r.kind = 72) (hf : fanB r.fan = true) : Calls Tryz.prog 29 #[v] w (ReplayPost l r.fan.toNat w) := by
  have HR := hideIt (readHead h hr)
  rw [hk] at HR
  obtain ⟨f4, f16⟩ := fanB_iff.1 hf
  have hfe : ((r.fan.toNat : Nat) : Int) = r.fan := by omega
  have HN := hideIt (fun W => hNew_good r.fan.toNat W (by omega) (by omega))
  rw [hfe] at HN
  have hb := readF_bytes h.byte hr
  have hrh : r = rcHead r.fan := by
    rcases hb.1.kind with ⟨e, e1, e2, e3, e4, e5⟩ | ⟨e, _⟩ | ⟨e, _⟩
    · obtain ⟨kind, fan, id, x0, y0, x1, y1⟩ := r
      simp only at e e1 e2 e3 e4 e5
      subst e e1 e2 e3 e4 e5
      rfl
    · omega
    · omega
  have h6 : (stNew (r.fan.toNat : Nat)).lg = r.bytes [] := by rw [hfe]; show (rcHead r.fan).bytes [] = _; rw [← hrh]
  have hpre : (stNew (r.fan.toNat : Nat)).lg = l.take (stNew (r.fan.toNat : Nat)).lg.length ∧ (stNew (r.fan.toNat : Nat)).lg.length ≤ l.length ∧ 6 ≤ (stNew (r.fan.toNat : Nat)).lg.length := by
    rw [h6]
    obtain ⟨_, b2, b3⟩ := hb
    simp only [List.take_zero, Nat.zero_add, List.nil_append] at b2 b3
    refine ⟨b2.symm, b3, ?_⟩
    unfold Rc.bytes
    rw [recF_length]
    unfold Rc.body
    rw [if_pos hk]
    simp [headB, numB_length]
  have HS := hideIt (show ∀ q F w1 W, Mod [] w w1 → HRep W q r.fan.toNat [] ((rcHead (r.fan.toNat : Nat)).bytes []) F → (∀ x ∈ F, w1.heap.size ≤ x) → Mod [] w1 W → ReplayAt l r.fan.toNat q (stNew (r.fan.toNat : Nat)) F w W from fun q F w1 W hm1 k1 k2 k3 => by
    have := hm1.size
    exact ⟨⟨[], k1, rfl⟩, .refl _, ⟨by simp [stNew], by simp [stNew]⟩, hpre.1, hpre.2.1, hpre.2.2, fun x hx => by have := k2 x hx; omega, hm1.trans k3⟩)
  have HV := hideIt h
  generalize r.fan.toNat = fan at *
  clear h hr hk hf hb hrh h6 hpre
  go_enter Tryz.func29, Tryz.ntmps29
  go_wp2_with fail
  refine HR.out.mono ?_
  rintro e w1 ⟨rfl, hm1⟩
  have HM1 := hideIt (hm1.trans (Mod.alloc (F := []) w1 (rcO ⟨72, r.fan, r.id, r.x0, r.y0, r.x1, r.y1⟩)))
  clear HR hm1
  go_wp2_with fail
  refine (HN.out _).mono ?_
  rintro e w2 ⟨q, F2, rfl, k1, k2, k3⟩
  have HS2 := hideIt (HS.out q F2 _ w2 HM1.out k1 k2 k3)
  clear k1 k2 k3 HS HN HM1
  go_wp2_with fail
  go_loopw [] (fun wr => ∃ s F, Hid (ReplayAt l fan q s F w wr)) (fun wr => l.length + 1 - logLen wr q)
  case atStart => exact ⟨_, _, HS2⟩
  case round =>
    obtain ⟨s, F, hR⟩ := hrel
    obtain ⟨gl, cl, hcl, hll, hql⟩ := hR.out.log
    have hle := hR.out.le
    have hsix := hR.out.six
    have hln := HV.out.len
    have HREAD := hideIt (read_v (HV.out.keep hR.out.mod) (k := s.lg.length) (.inr (by omega)) (by omega))
    have HLL := hideIt hll
    clear hll
    cases hrd : readF l s.lg.length with
    | none =>
      rw [hrd] at HREAD
      have HREAD2 := hideIt (show Calls Tryz.prog 48 #[v, .int .i64 s.lg.length] wr (fun e w' => e = .returned (.tuple #[.agg #[.int .u8 0, .int .i64 0, .int .i64 0, .int .i64 0, .int .i64 0, .int .i64 0, .int .i64 0], .bool false]) ∧ Mod [] wr w') from HREAD.out)
      have HFIN := hideIt (show ∀ W, Mod [] wr W → ReplayPost l fan w (.returned (.tuple #[.pointer (some ⟨q, 0, none⟩), .int .i64 s.lg.length, .int .i64 0])) W from fun W hm => ⟨q, s, F, rfl, hR.out.tree.kept hm (by simp), hR.out.steps, fun r hr => (by rw [hrd] at hr; cases hr), hR.out.ok, hR.out.new, hR.out.mod.trans hm⟩)
      clear HREAD hrd
      go_wp2_with fail
      refine HREAD2.out.mono ?_
      rintro e w3 ⟨rfl, hm3⟩
      have hc3 := cell_mod hm3 hcl
      have HM3 := hideIt hm3
      clear hm3 HREAD2 hcl
      have hc4 := fun o => cell_mod (Mod.alloc (F := []) w3 o) hc3
      have hc5 := fun o => cell_mod ((Mod.alloc (F := []) w3 o).trans (Mod.drew _)) hc3
      have HFW := hideIt (fun o => HFIN.out _ (HM3.out.trans ((Mod.alloc w3 o).trans (Mod.drew _))))
      clear HFIN
      go_wp2_with fail
      go_region
      all_goals
        clear hc3 hc4 hc5
        go_wp2
        go_ret3
        exact HFW.out _
    | some r2 =>
      rw [hrd] at HREAD
      obtain ⟨hrok, _, _⟩ := readF_bytes HV.out.byte hrd
      have hpre := fun s' (hd : Done s r2 s') => Done.pre HV.out.byte hR.out.pre hrd hd
      have hLk := hR.out.ok.len
      have HREAD2 := hideIt (show Calls Tryz.prog 48 #[v, .int .i64 s.lg.length] wr (fun e w' => e = .returned (.tuple #[.agg #[.int .u8 r2.kind, .int .i64 r2.fan, .int .i64 r2.id, .int .i64 r2.x0, .int .i64 r2.y0, .int .i64 r2.x1, .int .i64 r2.y1], .bool true]) ∧ Mod [] wr w') from HREAD.out)
      have HREDO := hideIt (show ∀ W, Mod [] wr W → Calls Tryz.prog 49 #[.pointer (some ⟨q, 0, none⟩), .agg #[.int .u8 r2.kind, .int .i64 r2.fan, .int .i64 r2.id, .int .i64 r2.x0, .int .i64 r2.y0, .int .i64 r2.x1, .int .i64 r2.y1]] W (RedoPost q fan s r2 F W) from fun W hm => redo_all (hR.out.tree.kept hm (by simp)) (by omega) (by omega) hrok)
      have HDONE := hideIt (show ∀ W w4 s' F', Mod [] wr W → HAt w4 q fan s' F' → Done s r2 s' → (∀ x ∈ F', x ∈ F ∨ W.heap.size ≤ x) → Mod F W w4 → ReplayAt l fan q s' F' w w4 ∧ s.lg.length < s'.lg.length from fun W w4 s' F' hm k1 k2 k3 k4 => by
        obtain ⟨p1, p2, p3⟩ := hpre s' k2
        have hmW := hR.out.mod.trans hm
        have hs := hmW.size
        refine ⟨⟨k1, hR.out.steps.snoc hrd k2, hR.out.ok.done k2, p1, p3, by omega, fun x hx => ?_, hmW.then k4 (fun x hx => .inr (hR.out.new x hx))⟩, p2⟩
        rcases k3 x hx with h | h
        · exact hR.out.new x h
        · omega)
      have HEND := hideIt (show ∀ W w4 s' F', Mod [] wr W → HAt w4 q fan s' F' → s' = s → (∀ s'', ¬ Done s r2 s'') → (∀ x ∈ F', x ∈ F ∨ W.heap.size ≤ x) → Mod F W w4 → ∀ W2, Mod [] w4 W2 → ReplayPost l fan w (.returned (.tuple #[.pointer (some ⟨q, 0, none⟩), .int .i64 s.lg.length, .int .i64 0])) W2 from fun W w4 s' F' hm k1 k2 kn k3 k4 W2 hm2 => by
        subst k2
        have hmW := hR.out.mod.trans hm
        have hs := hmW.size
        refine ⟨q, s', F', rfl, k1.kept hm2 (by simp), hR.out.steps, fun r hr => ?_, hR.out.ok, fun x hx => ?_, (hmW.then k4 (fun x hx => .inr (hR.out.new x hx))).trans hm2⟩
        · rw [hrd] at hr
          cases hr
          exact kn
        · rcases k3 x hx with h | h
          · exact hR.out.new x h
          · omega)
      have HLOG := hideIt (show ∀ w4 F', HAt w4 q fan s F' → ∃ g c, w4.cell? ⟨q, 1, none⟩ = some (.slice (some ⟨g, 0, none⟩) s.lg.length c) from fun w4 F' k => by
        obtain ⟨ts, ⟨p, lv, F0, h1, h2, h3, h4, h5, ⟨h6, h7, h8⟩, hF⟩, _⟩ := k
        rcases ownV h3 with ⟨rfl, h0⟩ | ⟨g, c, rfl⟩
        · omega
        · exact ⟨g, c, cell_hL h1⟩)
      clear HREAD hrd hrok hpre hLk
      go_wp2_with fail
      refine HREAD2.out.mono ?_
      rintro e w3 ⟨rfl, hm3⟩
      have HM3 := hideIt hm3
      clear hm3 HREAD2 hcl
      go_wp2_with fail
      have hmA : Mod [] wr (w3.alloc (rcO r2)) := HM3.out.trans (Mod.alloc _ _)
      refine (HREDO.out _ hmA).mono ?_
      rintro e w4 ⟨b, s', F', rfl, k1, k2, k3, k4⟩
      cases b with
      | true =>
        have k2' : Done s r2 s' := by
          rcases k2 with ⟨_, h⟩ | ⟨h, _⟩
          · exact h
          · cases h
        obtain ⟨hN, hlt⟩ := HDONE.out _ _ _ _ hmA k1 k2' k3 k4
        have HN := hideIt hN
        have HLT := hideIt (show l.length + 1 - logLen w4 q < l.length + 1 - logLen wr q from by
          obtain ⟨_, _, _, hll4, _⟩ := hN.log
          rw [hll4, HLL.out]
          have := hN.le
          omega)
        clear hmA k1 k2 k2' k3 k4 hN hlt HDONE HEND HLOG HREDO
        go_wp2_with fail
        go_roundw
        case rel => exact ⟨s', F', HN⟩
        case measure => exact HLT.out
      | false =>
        obtain ⟨ks, kn⟩ : s' = s ∧ ∀ s'', ¬ Done s r2 s'' := by
          rcases k2 with ⟨h, _⟩ | ⟨_, h⟩
          · cases h
          · exact h
        obtain ⟨g4, c4, hc4⟩ := HLOG.out w4 F' (ks ▸ k1)
        have hc5 := cell_mod (Mod.drew (F := []) w4) hc4
        have HFW := hideIt (HEND.out _ _ _ _ hmA k1 ks kn k3 k4 _ (Mod.drew w4))
        clear hmA k1 k2 ks kn k3 k4 HDONE HEND HLOG HREDO
        go_wp2_with fail
        go_region
        all_goals
          clear hc4 hc5
          go_wp2
          go_ret3
          exact HFW.out

end Go.Proofs.YthimaoipogocfaaGreat
