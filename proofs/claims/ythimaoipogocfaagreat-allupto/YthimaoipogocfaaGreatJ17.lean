import Derived.Test.YthimaoipogocfaaGreatJ16
namespace Go.Proofs.YthimaoipogocfaaGreat
open Go.RowKit Go.Maps
attribute [local go_sem] run_store_f32 run_neg_inf

/-- the three questions that Put asks first -/
theorem hAsk {w : World} {q fan : Nat} {ts : List Tg} {lg : List Int} {F : List Nat} (h : HRep w q fan ts lg F) (id : Int) (b : Bool) (hb : (findG ts id).isSome = b) :
    ∀ W, Mod [] w W → Calls Tryz.prog 33 #[.pointer (some ⟨q, 0, none⟩), .int .i64 id] W (HasPost b W) := fun W hm => by
  have := has_any (h.kept hm (by simp)) id
  rw [hb] at this
  exact this

set_option maxRecDepth 100000 in
set_option maxHeartbeats 1000000 in
theorem hPut_go {w : World} {q fan : Nat} {ts : List Tg} {lg : List Int} {F : List Nat} (h : HRep w q fan ts lg F) (hl : lg.length ≤ 10000000000) (id x0 y0 x1 y1 : Int) (hid : idB id = true) (hr : rectB x0 y0 x1 y1 = true) (b : Bool) (hb : (findG ts id).isSome = b) (hlen : b = true ∨ ts.length < 400) (hl2 : ts.length ≤ 100000) :
    Calls Tryz.prog 24 #[.pointer (some ⟨q, 0, none⟩), .int .i64 id, R4 x0 y0 x1 y1] w (HPutPost q fan ts lg id x0 y0 x1 y1 F w) := by
  have hc : putC ts id x0 y0 x1 y1 = 0 := by
    unfold putC
    rw [hid, hr, if_neg (by simp), if_neg (by simp), if_neg]
    rintro ⟨e, h4⟩
    rw [e] at hb
    simp at hb
    subst hb
    simp at hlen
    omega
  have hok := rectB_ok hr
  have hid2 := idB_iff.1 hid
  have HASK := hideIt (hAsk h id b hb)
  have HZ := hideIt (show ∀ W, Mod [] (w.alloc (B4 x0 y0 x1 y1)) W → W.heap[w.heap.size]? = some (B4 x0 y0 x1 y1) from fun W hm => (hm.block _ (by simp) (by simp)).trans (heap_alloc_new w _))
  have HLEN := hideIt (fun W (hm : Mod [] w W) => hLen_any (h.kept hm (by simp)))
  have HWR := hideIt (show ∀ W, Mod [] w W → Calls Tryz.prog 34 #[.pointer (some ⟨q, 0, none⟩), (rcPut b id x0 y0 x1 y1).val] W (HWritePost q fan ts (lg ++ (rcPut b id x0 y0 x1 y1).bytes lg) F W) from fun W hm => by
    refine write_any (h.kept hm (by simp)) (by omega) ?_ ?_
    · unfold RectOk at hok
      unfold Rc.ok rcPut i64ok
      cases b <;> simp <;> omega
    · refine .inr ⟨?_, rfl⟩
      cases b <;> simp [rcPut])
  have HFIN := hideIt (show ∀ (w1 w2 w3 : World) p lv F0 e, Mod [] w w1 → w2.heap[q]? = some (hO p lv) → w2.ownsRow 0 5 1 lv (lg ++ (rcPut b id x0 y0 x1 y1).bytes lg).length (u8s (lg ++ (rcPut b id x0 y0 x1 y1).bytes lg)) → q ∉ F0 → (∀ k, lv.ownBlock = some k → k ∉ F0 ∧ k ≠ q) → ByteL (lg ++ (rcPut b id x0 y0 x1 y1).bytes lg) ∧ 4 ≤ (lg ++ (rcPut b id x0 y0 x1 y1).bytes lg).length → (∀ x ∈ q :: (lv.ownBlock.toList ++ F0), x ∈ F ∨ w1.heap.size ≤ x) → Mod F w1 w2 → BPutPost p fan ts id x0 y0 x1 y1 F0 w2 e w3 → HPutPost q fan ts lg id x0 y0 x1 y1 F w (.returned (.int .i64 0)) w3 from fun w1 w2 w3 p lv F0 e hm k1 k3 k4 k5 k6 k7 k8 hs => by
    obtain ⟨blk, hs⟩ := hs
    refine ⟨blk, ?_⟩
    have hidso : IdsOk (dropG ts id ++ [⟨blk, id, x0, y0, x1, y1⟩]) := fun t ht => by
      rcases List.mem_append.1 ht with ht | ht
      · exact h.idsOk.drop id t ht
      · simp only [List.mem_singleton] at ht
        subst ht
        exact hid2
    unfold putG putLg
    rw [hc, if_pos rfl, if_pos rfl, hb]
    exact hSet (hm.nil.trans k8) (fun x hx => by
      have := hm.size
      rcases k7 x hx with h | h
      · exact .inl h
      · exact .inr (by omega)) k1 k3 k4 k5 ⟨hidso, k6⟩ hs 0)
  have HOK := hideIt hok
  have HFL := hideIt (show w.heap.size ∉ F from fun hx => Nat.lt_irrefl _ (h.lt _ hx))
  have HID := hideIt (show ∀ W, Calls Tryz.prog 40 #[.int .i64 id] W (fun e w' => e = .returned (.bool true) ∧ w' = W) from fun W => by have := isID_any id W; rw [hid] at this; exact this)
  have HR := hideIt (show ∀ W, Calls Tryz.prog 41 #[R4 x0 y0 x1 y1] W (fun e w' => e = .returned (.bool true) ∧ Mod [] W w') from fun W => by have := isRect_any x0 y0 x1 y1 W; rw [hr] at this; exact this.mono (fun _ _ h => ⟨h.1, by rw [h.2]; exact Mod.alloc _ _⟩))
  clear hc hid hr hok h hb hid2 hl
  have hm0 := Mod.alloc (F := []) w (B4 x0 y0 x1 y1)
  have HM0 := hideIt hm0
  clear hm0
  go_enter Tryz.func24, Tryz.ntmps24
  go_wp2_with fail
  refine (HASK.out _ HM0.out).mono ?_
  rintro e w1 ⟨rfl, hm1⟩
  have HM1 := hideIt hm1
  clear hm1
  go_wp2_with fail
  refine (HID.out _).mono ?_
  rintro e w' ⟨rfl, hw⟩
  obtain rfl := hw.symm
  clear hw
  obtain ⟨z0, z1, z2, z3⟩ := cell_B4 (HZ.out w1 HM1.out)
  go_wp2_with fail
  refine (HR.out _).mono ?_
  rintro e w2 ⟨rfl, hm2⟩
  have HM2 := hideIt (HM1.out.trans hm2)
  clear hm2 z0 z1 z2 z3 HM1
  cases b with
  | true =>
    clear hlen
    obtain ⟨z0, z1, z2, z3⟩ := cell_B4 (HZ.out w2 HM2.out)
    have HWR2 := hideIt (HWR.out w2 (HM0.out.trans HM2.out))
    simp only [rcPut, Rc.val, if_true] at HWR2
    go_wp2_with fail
    refine HWR2.out.mono ?_
    rintro e w3 ⟨rfl, F', ⟨p, lv, F0, k1, k2, k3, k4, k5, k6, rfl⟩, k7, k8⟩
    clear z0 z1 z2 z3
    have hr3 := (k8.block w.heap.size (by have := HM2.out.size; simp at this; omega) HFL.out).trans (HZ.out w2 HM2.out)
    obtain ⟨z0, z1, z2, z3⟩ := cell_B4 hr3
    obtain ⟨y0', y1', y2', y3'⟩ := cell_B4 (show w3.drew.heap[w.heap.size]? = some (B4 x0 y0 x1 y1) from hr3)
    have c := cell_hO k1
    have cd := cell_mod (Mod.drew w3) c
    have HB := hideIt (show ∀ W, Mod [] w3 W → Calls Tryz.prog 42 #[.pointer (some ⟨p, 0, none⟩), .int .i64 id, R4 x0 y0 x1 y1] W (BPutPost p fan ts id x0 y0 x1 y1 F0 W) from fun W hm => bPut_any (k2.kept hm (by simp)) id HOK.out)
    have HFIN2 := hideIt (show ∀ W w4 e, Mod [] w3 W → BPutPost p fan ts id x0 y0 x1 y1 F0 W e w4 → HPutPost q fan ts lg id x0 y0 x1 y1 F w (.returned (.int .i64 0)) w4 from fun W w4 e hm hs => HFIN.out w2 W w4 p lv F0 e (HM0.out.trans HM2.out) ((hm.block q (lt_of_block k1) (by simp)).trans k1) (owns_kept k3 hm (by simp)) k4 k5 k6.2 k7 (k8.trans hm.nil) hs)
    clear k1 k2 k3 k4 k5 k6 k7 k8 hr3 HWR2 HWR HFIN HZ
    go_wp2_with fail
    go_region_with (go_at_call 42; refine (HB.out _ (Mod.drew _)).mono ?_; rintro e w4 ⟨blk, rfl, hs⟩)
    all_goals
      have hfin := HFIN2.out _ _ _ (Mod.drew _) ⟨blk, rfl, hs⟩
      have HF := hideIt hfin
      clear hfin hs
      go_wp2
      go_ret
      exact HF.out
  | false =>
    have hl4 : ts.length < 400 := by simpa using hlen
    have hl4' : ¬ ((400 : Int) ≤ (ts.length : Int)) := by omega
    clear hlen
    go_wp2_with fail
    refine (HLEN.out _ (HM0.out.trans HM2.out)).mono ?_
    rintro e w3 ⟨rfl, rfl⟩
    obtain ⟨z0, z1, z2, z3⟩ := cell_B4 (HZ.out w2 HM2.out)
    have HWR2 := hideIt (HWR.out w2 (HM0.out.trans HM2.out))
    simp only [rcPut, Rc.val] at HWR2
    go_wp2_with fail
    refine HWR2.out.mono ?_
    rintro e w3 ⟨rfl, F', ⟨p, lv, F0, k1, k2, k3, k4, k5, k6, rfl⟩, k7, k8⟩
    clear z0 z1 z2 z3
    have hr3 := (k8.block w.heap.size (by have := HM2.out.size; simp at this; omega) HFL.out).trans (HZ.out w2 HM2.out)
    obtain ⟨z0, z1, z2, z3⟩ := cell_B4 hr3
    obtain ⟨y0', y1', y2', y3'⟩ := cell_B4 (show w3.drew.heap[w.heap.size]? = some (B4 x0 y0 x1 y1) from hr3)
    have c := cell_hO k1
    have cd := cell_mod (Mod.drew w3) c
    have HB := hideIt (show ∀ W, Mod [] w3 W → Calls Tryz.prog 42 #[.pointer (some ⟨p, 0, none⟩), .int .i64 id, R4 x0 y0 x1 y1] W (BPutPost p fan ts id x0 y0 x1 y1 F0 W) from fun W hm => bPut_any (k2.kept hm (by simp)) id HOK.out)
    have HFIN2 := hideIt (show ∀ W w4 e, Mod [] w3 W → BPutPost p fan ts id x0 y0 x1 y1 F0 W e w4 → HPutPost q fan ts lg id x0 y0 x1 y1 F w (.returned (.int .i64 0)) w4 from fun W w4 e hm hs => HFIN.out w2 W w4 p lv F0 e (HM0.out.trans HM2.out) ((hm.block q (lt_of_block k1) (by simp)).trans k1) (owns_kept k3 hm (by simp)) k4 k5 k6.2 k7 (k8.trans hm.nil) hs)
    clear k1 k2 k3 k4 k5 k6 k7 k8 hr3 HWR2 HWR HFIN HZ
    go_wp2_with fail
    go_region_with (go_at_call 42; refine (HB.out _ (Mod.drew _)).mono ?_; rintro e w4 ⟨blk, rfl, hs⟩)
    all_goals
      have hfin := HFIN2.out _ _ _ (Mod.drew _) ⟨blk, rfl, hs⟩
      have HF := hideIt hfin
      clear hfin hs
      go_wp2
      go_ret
      exact HF.out

end Go.Proofs.YthimaoipogocfaaGreat

namespace Go.Proofs.YthimaoipogocfaaGreat
open Go.RowKit Go.Maps
attribute [local go_sem] run_store_f32 run_neg_inf

set_option maxRecDepth 100000 in
theorem hPut_id {w : World} {q fan : Nat} {ts : List Tg} {lg : List Int} {F : List Nat} (h : HRep w q fan ts lg F) (id x0 y0 x1 y1 : Int) (hid : idB id = false) :
    Calls Tryz.prog 24 #[.pointer (some ⟨q, 0, none⟩), .int .i64 id, R4 x0 y0 x1 y1] w (HPutPost q fan ts lg id x0 y0 x1 y1 F w) := by
  have hc : putC ts id x0 y0 x1 y1 = 1 := by simp [putC, hid]
  have HF := hideIt (fun w' (hm : Mod [] w w') => hPutSame h hm hc (by omega))
  have HASK := hideIt (hAsk h id _ rfl)
  clear hc h
  generalize (findG ts id).isSome = b at *
  go_enter Tryz.func24, Tryz.ntmps24
  go_wp2_with fail
  refine (HASK.out _ (Mod.alloc _ _)).mono ?_
  rintro e w1 ⟨rfl, hm1⟩
  go_wp2_with fail
  refine (isID_any _ _).mono ?_
  rw [hid]
  rintro e w' ⟨rfl, hw⟩
  obtain rfl := hw.symm
  go_wp2
  go_ret
  exact HF.out _ ((Mod.alloc _ _).trans hm1)

set_option maxRecDepth 100000 in
theorem hPut_rect {w : World} {q fan : Nat} {ts : List Tg} {lg : List Int} {F : List Nat} (h : HRep w q fan ts lg F) (id x0 y0 x1 y1 : Int) (hid : idB id = true) (hr : rectB x0 y0 x1 y1 = false) :
    Calls Tryz.prog 24 #[.pointer (some ⟨q, 0, none⟩), .int .i64 id, R4 x0 y0 x1 y1] w (HPutPost q fan ts lg id x0 y0 x1 y1 F w) := by
  have hc : putC ts id x0 y0 x1 y1 = 2 := by simp [putC, hid, hr]
  have HF := hideIt (fun w' (hm : Mod [] w w') => hPutSame h hm hc (by omega))
  have HASK := hideIt (hAsk h id _ rfl)
  have HZ := hideIt (show ∀ W, Mod [] (w.alloc (B4 x0 y0 x1 y1)) W → W.heap[w.heap.size]? = some (B4 x0 y0 x1 y1) from fun W hm => (hm.block _ (by simp) (by simp)).trans (heap_alloc_new w _))
  clear hc h
  generalize (findG ts id).isSome = b at *
  go_enter Tryz.func24, Tryz.ntmps24
  go_wp2_with fail
  refine (HASK.out _ (Mod.alloc _ _)).mono ?_
  rintro e w1 ⟨rfl, hm1⟩
  obtain ⟨z0, z1, z2, z3⟩ := cell_B4 (HZ.out w1 hm1)
  go_wp2_with fail
  refine (isID_any _ _).mono ?_
  rw [hid]
  rintro e w' ⟨rfl, hw⟩
  obtain rfl := hw.symm
  go_wp2_with fail
  refine (isRect_any _ _ _ _ _).mono ?_
  rw [hr]
  rintro e w2 ⟨rfl, hw⟩
  obtain rfl := hw.symm
  go_wp2
  go_ret
  exact HF.out _ (((Mod.alloc _ _).trans hm1).trans (Mod.alloc _ _))

set_option maxRecDepth 100000 in
set_option maxHeartbeats 400000 in
theorem hPut_full {w : World} {q fan : Nat} {ts : List Tg} {lg : List Int} {F : List Nat} (h : HRep w q fan ts lg F) (id x0 y0 x1 y1 : Int) (hid : idB id = true) (hr : rectB x0 y0 x1 y1 = true) (hf : findG ts id = none) (hl : 400 ≤ ts.length) (hl2 : ts.length ≤ 100000) :
    Calls Tryz.prog 24 #[.pointer (some ⟨q, 0, none⟩), .int .i64 id, R4 x0 y0 x1 y1] w (HPutPost q fan ts lg id x0 y0 x1 y1 F w) := by
  have hc : putC ts id x0 y0 x1 y1 = 4 := by simp [putC, hid, hr, hf, hl]
  have HF := hideIt (fun w' (hm : Mod [] w w') => hPutSame h hm hc (by omega))
  have HASK := hideIt (hAsk h id false (by rw [hf]; rfl))
  have HL := hideIt (fun w1 (hm : Mod [] w w1) => hLen_any (h.kept hm (by simp)))
  have HZ := hideIt (show ∀ W, Mod [] (w.alloc (B4 x0 y0 x1 y1)) W → W.heap[w.heap.size]? = some (B4 x0 y0 x1 y1) from fun W hm => (hm.block _ (by simp) (by simp)).trans (heap_alloc_new w _))
  have hl' : (400 : Int) ≤ (ts.length : Int) := by omega
  clear hc h hf
  go_enter Tryz.func24, Tryz.ntmps24
  go_wp2_with fail
  refine (HASK.out _ (Mod.alloc _ _)).mono ?_
  rintro e w1 ⟨rfl, hm1⟩
  obtain ⟨z0, z1, z2, z3⟩ := cell_B4 (HZ.out w1 hm1)
  go_wp2_with fail
  refine (isID_any _ _).mono ?_
  rw [hid]
  rintro e w' ⟨rfl, hw⟩
  obtain rfl := hw.symm
  go_wp2_with fail
  refine (isRect_any _ _ _ _ _).mono ?_
  rw [hr]
  rintro e w2 ⟨rfl, hw⟩
  have hm2 : Mod [] w w2 := by rw [hw]; exact ((Mod.alloc _ _).trans hm1).trans (Mod.alloc _ _)
  clear hw z0 z1 z2 z3
  go_wp2_with fail
  refine (HL.out _ hm2).mono ?_
  rintro e w3 ⟨rfl, rfl⟩
  go_wp2
  go_ret
  exact HF.out _ hm2

theorem hPut_any {w : World} {q fan : Nat} {ts : List Tg} {lg : List Int} {F : List Nat} (h : HRep w q fan ts lg F) (hg : lg.length ≤ 10000000000) (id x0 y0 x1 y1 : Int) (hl2 : ts.length ≤ 100000) :
    Calls Tryz.prog 24 #[.pointer (some ⟨q, 0, none⟩), .int .i64 id, R4 x0 y0 x1 y1] w (HPutPost q fan ts lg id x0 y0 x1 y1 F w) := by
  cases hid : idB id with
  | false => exact hPut_id h id x0 y0 x1 y1 hid
  | true =>
    cases hr : rectB x0 y0 x1 y1 with
    | false => exact hPut_rect h id x0 y0 x1 y1 hid hr
    | true =>
      cases hf : findG ts id with
      | some n => exact hPut_go h hg id x0 y0 x1 y1 hid hr true (by rw [hf]; rfl) (.inl rfl) hl2
      | none =>
        by_cases hl : ts.length < 400
        · exact hPut_go h hg id x0 y0 x1 y1 hid hr false (by rw [hf]; rfl) (.inr hl) hl2
        · exact hPut_full h id x0 y0 x1 y1 hid hr hf (by omega) hl2

/-! ### New -/
theorem hNew_bad (fan : Int) (w : World) (hf : fanB fan = false) : Calls Tryz.prog 32 #[.int .i64 fan] w fun e w' => e = .returned (.tuple #[.pointer none, .int .i64 1]) ∧ w = w' := by
  go_enter Tryz.func32, Tryz.ntmps32
  go_wp2_with fail
  refine (isFan_any _ _).mono ?_
  rw [hf]
  rintro e w' ⟨rfl, rfl⟩
  go_wp2
  go_ret2
  exact ⟨rfl, rfl⟩

def HNewPost (fan : Nat) (w : World) (e : Ending) (w' : World) : Prop := ∃ q F, e = .returned (.tuple #[.pointer (some ⟨q, 0, none⟩), .int .i64 0]) ∧ HRep w' q fan [] ((rcHead fan).bytes []) F ∧ (∀ x ∈ F, w.heap.size ≤ x) ∧ Mod [] w w'

set_option maxRecDepth 100000 in
set_option maxHeartbeats 400000 in
theorem hNew_good (fan : Nat) (w : World) (h4 : 4 ≤ fan) (h16 : fan ≤ 16) : Calls Tryz.prog 32 #[.int .i64 fan] w (HNewPost fan w) := by
  have hf : fanB fan = true := fanB_iff.2 (by omega)
  go_enter Tryz.func32, Tryz.ntmps32
  go_wp2_with fail
  refine (isFan_any _ _).mono ?_
  rw [hf]
  rintro e w' ⟨rfl, hw⟩
  obtain rfl := hw.symm
  go_wp2_with fail
  refine (bNew_any h4 h16 w).mono ?_
  rintro e w1 ⟨p, F, rfl, a1, a2, a3⟩
  have hnot : w1.heap.size ∉ F := fun hx => absurd (a1.lt _ hx) (Nat.lt_irrefl _)
  have HW := hideIt (write_go (w := w1.alloc (hO p (.slice none 0 0))) (q := w1.heap.size) (ts := []) (r := rcHead fan) (n := 6) (lg' := (rcHead fan).bytes []) (heap_alloc_new w1 _) (a1.kept (Mod.alloc (F := []) _ _) (fun x _ h => by cases h)) hnot (fun k hk => by simp [Value.ownBlock] at hk) (fun t ht => by cases ht) ⟨Rc.bytes_byte (by simp [rcHead]) [], by unfold Rc.bytes; rw [recF_length]; omega⟩ (fun W _ => append_nil_head (by unfold i64ok; omega)))
  simp only [Rc.val, rcHead] at HW
  have HFIN := hideIt (show ∀ w2 e, HWritePost w1.heap.size fan [] ((rcHead fan).bytes []) (w1.heap.size :: ((Value.slice none 0 0).ownBlock.toList ++ F)) (w1.alloc (hO p (.slice none 0 0))) e w2 → HNewPost fan w (.returned (.tuple #[.pointer (some ⟨w1.heap.size, 0, none⟩), .int .i64 0])) w2 from fun w2 e hs => by
    obtain ⟨_, F', b1, b2, b3⟩ := hs
    have hsz := a3.size
    have hnew : ∀ x ∈ w1.heap.size :: ((Value.slice none 0 0).ownBlock.toList ++ F), w.heap.size ≤ x := fun x hx => by
      simp [Value.ownBlock] at hx
      rcases hx with rfl | hx
      · exact hsz
      · exact a2 x hx
    refine ⟨_, F', rfl, b1, fun x hx => ?_, (a3.trans (Mod.alloc _ _)).then b3 (fun x hx => .inr (hnew x hx))⟩
    rcases b2 x hx with h | h
    · exact hnew x h
    · simp at h
      omega)
  clear a1 a2 a3 hnot
  go_wp2_with fail
  refine HW.out.mono ?_
  intro e w2 hs
  have hfin := HFIN.out w2 e hs
  obtain ⟨rfl, _⟩ := hs
  have HF := hideIt hfin
  clear hfin HFIN HW
  go_wp2
  go_ret2
  exact HF.out

end Go.Proofs.YthimaoipogocfaaGreat

namespace Go.Proofs.YthimaoipogocfaaGreat
open Go.RowKit Go.Maps
attribute [local go_sem] run_store_f32 run_neg_inf


/-- which of n numbers a raw number speaks of -/
def pickF (c n : Int) : Int := (if c < 0 then -(c + 1) else c) % n

theorem pickF_lt (c n : Int) (hn : 0 < n) : 0 ≤ pickF c n ∧ pickF c n < n := ⟨Int.emod_nonneg _ (by omega), Int.emod_lt_of_pos _ hn⟩
theorem pickF_neg (c n : Int) (hc : c < 0) : -(c + 1).tmod n = pickF c n := by
  have e : -(c + 1).tmod n = (-(c + 1)).tmod n := by rw [Int.neg_tmod]
  rw [e, Int.tmod_eq_emod_of_nonneg (by omega)]
  unfold pickF
  rw [if_pos hc]
theorem pickF_pos (c n : Int) (hc : ¬ c < 0) : c % n = pickF c n := by unfold pickF; rw [if_neg hc]

theorem pick_any (c n : Int) (w : World) (hc : i64ok c) (hn : 0 < n) (hn2 : n ≤ 9223372036854775807) :
    Calls Tryz.prog 14 #[.int .i64 c, .int .i64 n] w fun e w' => e = .returned (.int .i64 (pickF c n)) ∧ w' = w := by
  obtain ⟨h1, h2⟩ := hc
  by_cases hc : c < 0
  · have HP := hideIt (pickF_neg c n hc)
    go_enter Tryz.func14, Tryz.ntmps14
    go_wp2
    go_ret
    exact ⟨ret_int HP.out, rfl⟩
  · have HP := hideIt (pickF_pos c n hc)
    go_enter Tryz.func14, Tryz.ntmps14
    go_wp2
    go_ret
    exact ⟨ret_int HP.out, rfl⟩

/-- a raw thing -/
structure Kt where
  i : Int
  x : Int
  y : Int
  w : Int
  h : Int

structure Kt.ok (t : Kt) : Prop where
  i : i64ok t.i
  x : i64ok t.x
  y : i64ok t.y
  w : i64ok t.w
  h : i64ok t.h

abbrev ktV (t : Kt) : Value := .agg #[.int .i64 t.i, .int .i64 t.x, .int .i64 t.y, .int .i64 t.w, .int .i64 t.h]
def Kt.id (t : Kt) : Int := pickF t.i 300
def Kt.x0 (t : Kt) (dx : Int) : Int := pickF t.x 2001 - 1000 + dx
def Kt.y0 (t : Kt) (dy : Int) : Int := pickF t.y 2001 - 1000 + dy
def Kt.x1 (t : Kt) (dx : Int) : Int := t.x0 dx + pickF t.w 60
def Kt.y1 (t : Kt) (dy : Int) : Int := t.y0 dy + pickF t.h 60

theorem kid_any (t : Kt) (ht : t.ok) (w : World) : Calls Tryz.prog 15 #[ktV t] w fun e w' => e = .returned (.int .i64 t.id) ∧ Mod [] w w' := by
  obtain ⟨i, x, y, z, h⟩ := t
  have HT := hideIt ht.i
  clear ht
  go_enter Tryz.func15, Tryz.ntmps15
  go_wp2_with fail
  refine (pick_any _ _ _ HT.out (by omega) (by omega)).mono ?_
  rintro e w' ⟨rfl, rfl⟩
  go_wp2
  go_ret
  exact ⟨rfl, Mod.alloc _ _⟩

set_option maxRecDepth 100000 in
set_option maxHeartbeats 400000 in
theorem krect_any (t : Kt) (ht : t.ok) (dx dy : Int) (hx : -1000000000 ≤ dx ∧ dx ≤ 1000000000) (hy : -1000000000 ≤ dy ∧ dy ≤ 1000000000) (w : World) :
    Calls Tryz.prog 18 #[ktV t, .int .i64 dx, .int .i64 dy] w fun e w' => e = .returned (R4 (t.x0 dx) (t.y0 dy) (t.x1 dx) (t.y1 dy)) ∧ Mod [] w w' := by
  obtain ⟨i, x, y, z, h⟩ := t
  obtain ⟨x1, x2⟩ := hx
  obtain ⟨y1, y2⟩ := hy
  have hX := fun W => pick_any x 2001 W ht.x (by omega) (by omega)
  have hY := fun W => pick_any y 2001 W ht.y (by omega) (by omega)
  obtain ⟨px1, px2⟩ := pickF_lt x 2001 (by omega)
  obtain ⟨py1, py2⟩ := pickF_lt y 2001 (by omega)
  obtain ⟨pz1, pz2⟩ := pickF_lt z 60 (by omega)
  obtain ⟨ph1, ph2⟩ := pickF_lt h 60 (by omega)
  have e1 : (⟨i, x, y, z, h⟩ : Kt).x0 dx = pickF x 2001 - 1000 + dx := rfl
  have e2 : (⟨i, x, y, z, h⟩ : Kt).y0 dy = pickF y 2001 - 1000 + dy := rfl
  have e3 : (⟨i, x, y, z, h⟩ : Kt).x1 dx = pickF x 2001 - 1000 + dx + pickF z 60 := rfl
  have e4 : (⟨i, x, y, z, h⟩ : Kt).y1 dy = pickF y 2001 - 1000 + dy + pickF h 60 := rfl
  rw [e1, e2, e3, e4]
  generalize pickF x 2001 = ax at *
  generalize pickF y 2001 = ay at *
  have HX := hideIt hX
  have HY := hideIt hY
  have HZ := hideIt ht.w
  have HH := hideIt ht.h
  clear hX hY e1 e2 e3 e4 ht
  go_enter Tryz.func18, Tryz.ntmps18
  go_wp2_with fail
  refine (HX.out _).mono ?_
  rintro e w' ⟨rfl, hw⟩
  obtain rfl := hw.symm
  clear hw
  go_wp2_with fail
  refine (HY.out _).mono ?_
  rintro e w' ⟨rfl, hw⟩
  obtain rfl := hw.symm
  clear hw
  go_wp2_with fail
  have b1 : -9223372036854775808 ≤ ax - 1000 + dx ∧ ax - 1000 + dx ≤ 9223372036854775000 := by omega
  have b2 : -9223372036854775808 ≤ ay - 1000 + dy ∧ ay - 1000 + dy ≤ 9223372036854775000 := by omega
  obtain ⟨b10, b11⟩ := b1
  obtain ⟨b20, b21⟩ := b2
  obtain ⟨X, hXE⟩ : ∃ X, X = ax - 1000 + dx := ⟨_, rfl⟩
  obtain ⟨Y, hYE⟩ : ∃ Y, Y = ay - 1000 + dy := ⟨_, rfl⟩
  rw [← hXE] at b10 b11 ⊢
  rw [← hYE] at b20 b21 ⊢
  have HXE := hideIt hXE
  have HYE := hideIt hYE
  have wz : IntKind.i64.wrap (X + pickF z 60) = X + pickF z 60 := by rw [IntKind.wrap_i64]; omega
  have wh : IntKind.i64.wrap (Y + pickF h 60) = Y + pickF h 60 := by rw [IntKind.wrap_i64]; omega
  clear hXE hYE
  clear px1 px2 py1 py2 x1 x2 y1 y2 HX HY
  go_region_held (fun w' => w'.cell? ⟨w.heap.size, 3, none⟩ = some (.int .i64 z) ∧ w'.cell? ⟨w.heap.size, 4, none⟩ = some (.int .i64 h))
    ((go_keep))
    ((go_at_call 14; refine (pick_any _ 60 _ ?_ (by omega) (by omega)).mono ?_; (first | exact HZ.out | exact HH.out); rintro e w' ⟨rfl, rfl⟩))
  all_goals
    go_wp2
    exact bodyPost_ret (v := R4 X Y (X + pickF z 60) (Y + pickF h 60)) (by simp [results, Tryz.results18, go_sem]) rfl ⟨by rw [HXE.out, HYE.out], ((Mod.alloc _ _).trans (Mod.alloc _ _)).trans (Mod.drew _)⟩

end Go.Proofs.YthimaoipogocfaaGreat

namespace Go.Proofs.YthimaoipogocfaaGreat
open Go.RowKit Go.Maps

/-- a thing as it is told: its number and its rectangle -/
structure Th where
  id : Int
  x0 : Int
  y0 : Int
  x1 : Int
  y1 : Int

def Tg.th (t : Tg) : Th := ⟨t.id, t.x0, t.y0, t.x1, t.y1⟩
def dropT (L : List Th) (id : Int) : List Th := L.filter (fun t => t.id != id)
def putT (L : List Th) (t : Th) : List Th := dropT L t.id ++ [t]
def Kt.th (t : Kt) (dx dy : Int) : Th := ⟨t.id, t.x0 dx, t.y0 dy, t.x1 dx, t.y1 dy⟩
def plantL (ks : List Kt) (dx dy : Int) : List Th := ks.foldl (fun L k => putT L (k.th dx dy)) []
/-- the one thing that each tree has -/
def plantT (ks : List Kt) (dx dy : Int) : List Th := putT (plantL (ks.take 300) dx dy) ⟨4000, dx, dy, dx, dy⟩

theorem plantL_snoc (ks : List Kt) (k : Kt) (dx dy : Int) : plantL (ks ++ [k]) dx dy = putT (plantL ks dx dy) (k.th dx dy) := by simp [plantL]
theorem putT_length (L : List Th) (t : Th) : (putT L t).length ≤ L.length + 1 := by
  simp only [putT, dropT, List.length_append, List.length_cons, List.length_nil]
  have := List.length_filter_le (fun s : Th => s.id != t.id) L
  omega
theorem plantL_length (dx dy : Int) (ks : List Kt) : (plantL ks dx dy).length ≤ ks.length := by
  have key : ∀ (ks : List Kt) (L : List Th), (ks.foldl (fun L k => putT L (k.th dx dy)) L).length ≤ L.length + ks.length := by
    intro ks
    induction ks with
    | nil => intro L; simp
    | cons k ks ih =>
      intro L
      have h1 := ih (putT L (k.th dx dy))
      have h2 := putT_length L (k.th dx dy)
      simp only [List.foldl_cons, List.length_cons]
      omega
  have := key ks []
  simpa [plantL] using this

theorem filter_eraseIdx {L : List Th} : ∀ {n : Nat} {t : Th}, (L.map (·.id)).Nodup → L[n]? = some t → L.eraseIdx n = L.filter (fun s => s.id != t.id) := by
  induction L with
  | nil => intro n t _ h; simp at h
  | cons a L ih =>
    intro n t hn h
    rw [List.map_cons, List.nodup_cons] at hn
    cases n with
    | zero =>
      simp only [List.getElem?_cons_zero, Option.some.injEq] at h
      subst h
      have hall : L.filter (fun s => s.id != a.id) = L := List.filter_eq_self.2 (fun s hs => by
        simp only [bne_iff_ne, ne_eq]
        exact fun e => hn.1 (List.mem_map.2 ⟨s, hs, e⟩))
      simp [hall]
    | succ n =>
      simp only [List.getElem?_cons_succ] at h
      have hne : a.id ≠ t.id := fun e => hn.1 (List.mem_map.2 ⟨t, List.mem_of_getElem? h, e.symm⟩)
      have := ih hn.2 h
      simp only [List.eraseIdx_cons_succ, this]
      rw [List.filter_cons_of_pos (by simpa using hne)]

theorem dropG_th {ts : List Tg} (hn : (ts.map (·.id)).Nodup) (id : Int) : (dropG ts id).map Tg.th = dropT (ts.map Tg.th) id := by
  have hmap : (ts.map Tg.th).map (·.id) = ts.map (·.id) := by simp [Tg.th, Function.comp_def]
  unfold dropG
  cases hf : findG ts id with
  | none =>
    have h0 := findG_none hf
    simp only []
    symm
    unfold dropT
    refine List.filter_eq_self.2 (fun s hs => ?_)
    obtain ⟨t, ht, rfl⟩ := List.mem_map.1 hs
    simp only [Tg.th, bne_iff_ne, ne_eq]
    exact h0 t ht
  | some n =>
    obtain ⟨t, hget, rfl, _⟩ := findG_get hf
    have h1 : (ts.map Tg.th)[n]? = some t.th := by simp [hget]
    have h2 := filter_eraseIdx (by rw [hmap]; exact hn) h1
    have h3 : (ts.eraseIdx n).map Tg.th = (ts.map Tg.th).eraseIdx n := by
      rw [List.eraseIdx_eq_take_drop_succ, List.eraseIdx_eq_take_drop_succ, List.map_append, List.map_take, List.map_drop]
    simp only []
    rw [h3, h2]
    rfl

theorem putG_th {ts : List Tg} (hn : (ts.map (·.id)).Nodup) {id x0 y0 x1 y1 : Int} (hc : putC ts id x0 y0 x1 y1 = 0) (blk : Nat) : (putG ts id x0 y0 x1 y1 blk).map Tg.th = putT (ts.map Tg.th) ⟨id, x0, y0, x1, y1⟩ := by
  unfold putG
  rw [if_pos hc, List.map_append, dropG_th hn]
  rfl

theorem putC_ok {ts : List Tg} {id x0 y0 x1 y1 : Int} (hi : 0 ≤ id ∧ id ≤ 4095) (hr : RectOk x0 y0 x1 y1) (hl : ts.length < 400) : putC ts id x0 y0 x1 y1 = 0 := by
  unfold putC
  rw [idB_iff.2 hi, rectOk_B hr, if_neg (by simp), if_neg (by simp), if_neg (by omega)]

theorem Kt.id_ok (t : Kt) : 0 ≤ t.id ∧ t.id ≤ 4095 := by
  have := pickF_lt t.i 300 (by omega)
  unfold Kt.id
  omega

theorem Kt.rect_ok (t : Kt) {dx dy : Int} (hx : -999995000 ≤ dx ∧ dx ≤ 999995000) (hy : -999995000 ≤ dy ∧ dy ≤ 999995000) : RectOk (t.x0 dx) (t.y0 dy) (t.x1 dx) (t.y1 dy) := by
  have h1 := pickF_lt t.x 2001 (by omega)
  have h2 := pickF_lt t.y 2001 (by omega)
  have h3 := pickF_lt t.w 60 (by omega)
  have h4 := pickF_lt t.h 60 (by omega)
  unfold RectOk Kt.x1 Kt.y1 Kt.x0 Kt.y0
  omega

/-! ### things and their log -/
structure St where
  L : List Th
  lg : List Int
def hasT (L : List Th) (id : Int) : Bool := L.any (fun t => t.id == id)
def putLT (L : List Th) (lg : List Int) (t : Th) : List Int := lg ++ (rcPut (hasT L t.id) t.id t.x0 t.y0 t.x1 t.y1).bytes lg
def dropLT (L : List Th) (lg : List Int) (id : Int) : List Int := if hasT L id then lg ++ (rcDrop id).bytes lg else lg
def stNew (fan : Int) : St := ⟨[], (rcHead fan).bytes []⟩
def stPut (s : St) (t : Th) : St := ⟨putT s.L t, putLT s.L s.lg t⟩
def stDrop (s : St) (id : Int) : St := ⟨dropT s.L id, dropLT s.L s.lg id⟩
def plantS (fan : Int) (ks : List Kt) (dx dy : Int) : St := ks.foldl (fun s k => stPut s (k.th dx dy)) (stNew fan)
def plantG (fan : Int) (ks : List Kt) (dx dy : Int) : List Int := (plantS fan ks dx dy).lg
/-- .. with the one thing that each tree has -/
def plantGT (fan : Int) (ks : List Kt) (dx dy : Int) : List Int := putLT (plantL (ks.take 300) dx dy) (plantG fan (ks.take 300) dx dy) ⟨4000, dx, dy, dx, dy⟩
theorem plantS_L (fan : Int) (ks : List Kt) (dx dy : Int) : (plantS fan ks dx dy).L = plantL ks dx dy := by
  have key : ∀ (ks : List Kt) (s : St), (ks.foldl (fun s k => stPut s (k.th dx dy)) s).L = ks.foldl (fun L k => putT L (k.th dx dy)) s.L := by
    intro ks
    induction ks with
    | nil => intro s; rfl
    | cons k ks ih => intro s; exact ih (stPut s (k.th dx dy))
  exact key ks (stNew fan)
theorem plantG_snoc (fan : Int) (ks : List Kt) (k : Kt) (dx dy : Int) : plantG fan (ks ++ [k]) dx dy = putLT (plantL ks dx dy) (plantG fan ks dx dy) (k.th dx dy) := by
  rw [← plantS_L fan ks dx dy]
  simp [plantG, plantS, stPut]
theorem putLT_length (L : List Th) (lg : List Int) (t : Th) : (putLT L lg t).length ≤ lg.length + 23 := by
  unfold putLT
  rw [List.length_append]
  have := Rc.bytes_length (rcPut (hasT L t.id) t.id t.x0 t.y0 t.x1 t.y1) lg
  omega
theorem findG_hasT (ts : List Tg) (id : Int) : (findG ts id).isSome = hasT (ts.map Tg.th) id := by
  unfold findG hasT
  rw [List.findIdx?_isSome, List.any_map]
  rfl
theorem putLg_LT {ts : List Tg} {lg : List Int} {id x0 y0 x1 y1 : Int} (hc : putC ts id x0 y0 x1 y1 = 0) : putLg ts lg id x0 y0 x1 y1 = putLT (ts.map Tg.th) lg ⟨id, x0, y0, x1, y1⟩ := by
  unfold putLg putLT
  rw [if_pos hc, findG_hasT]
theorem dropLg_LT (ts : List Tg) (lg : List Int) (id : Int) : dropLg ts lg id = dropLT (ts.map Tg.th) lg id := by
  unfold dropLg dropLT
  rw [findG_hasT]
theorem dropLT_length (L : List Th) (lg : List Int) (id : Int) : (dropLT L lg id).length ≤ lg.length + 23 := by
  unfold dropLT
  split
  · rw [List.length_append]
    have := Rc.bytes_length (rcDrop id) lg
    omega
  · omega
theorem dropLg_length (ts : List Tg) (lg : List Int) (id : Int) : (dropLg ts lg id).length ≤ lg.length + 23 := by
  unfold dropLg
  split
  · rw [List.length_append]
    have := Rc.bytes_length (rcDrop id) lg
    omega
  · omega

/-- Put of a thing that is let in -/
def HPut0 (q fan : Nat) (L : List Th) (lg : List Int) (n : Nat) (F : List Nat) (w : World) (e : Ending) (w' : World) : Prop := e = .returned (.int .i64 0) ∧ ∃ ts F', HRep w' q fan ts lg F' ∧ ts.map Tg.th = L ∧ ts.length ≤ n ∧ (∀ x ∈ F', x ∈ F ∨ w.heap.size ≤ x) ∧ Mod F w w'

theorem hPut0 {w : World} {q fan : Nat} {ts : List Tg} {lg : List Int} {F : List Nat} (h : HRep w q fan ts lg F) (hg : lg.length ≤ 10000000000) {id x0 y0 x1 y1 : Int} (hi : 0 ≤ id ∧ id ≤ 4095) (hr : RectOk x0 y0 x1 y1) (hl : ts.length < 400) :
    Calls Tryz.prog 24 #[.pointer (some ⟨q, 0, none⟩), .int .i64 id, R4 x0 y0 x1 y1] w (HPut0 q fan (putT (ts.map Tg.th) ⟨id, x0, y0, x1, y1⟩) (putLT (ts.map Tg.th) lg ⟨id, x0, y0, x1, y1⟩) (ts.length + 1) F w) := by
  refine (hPut_any h hg id x0 y0 x1 y1 (by omega)).mono ?_
  rintro e w' ⟨blk, rfl, F', a1, a2, a3⟩
  have hc := putC_ok hi hr hl
  have hth := putG_th h.ids hc blk
  refine ⟨by rw [hc], _, F', putLg_LT hc ▸ a1, hth, ?_, a2, a3⟩
  have h1 := congrArg List.length hth
  have h2 := putT_length (ts.map Tg.th) ⟨id, x0, y0, x1, y1⟩
  rw [← hth] at h2
  simpa using h2

end Go.Proofs.YthimaoipogocfaaGreat

