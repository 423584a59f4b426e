import Derived.Test.YthimaoipogocfaaGreatJ15
import Derived.Test.YthimaoipogocfaaGreatJ14
namespace Go.Proofs.YthimaoipogocfaaGreat
open Go.RowKit
attribute [local go_sem] run_store_f32 run_neg_inf

theorem infoJ : (Tryz.prog.info? 3).map (fun i => (i.zero, i.size, i.bytes)) = some (some (.int .i64 0), 1, 8) := by kernel_rfl
theorem run_idx4 (a b c d : Value) (i : Int) (v : Value) (w : World) (h : (i = 0 ∧ v = a) ∨ (i = 1 ∧ v = b) ∨ (i = 2 ∧ v = c) ∨ (i = 3 ∧ v = d)) : (Instr.index 164 (.agg #[a, b, c, d]) (.int .i64 i)).run Tryz.prog w = .ok v w := by
  obtain ⟨i0, hi, hz0, hz1, hz2⟩ := info_partsB infoJ
  rcases h with ⟨rfl, rfl⟩ | ⟨rfl, rfl⟩ | ⟨rfl, rfl⟩ | ⟨rfl, rfl⟩ <;> simp [Instr.index, run_underlying Tryz.underlying164, asIntOf, sizeOf, typeInfo, hi, hz1, part, go_sem]

def coordsB (x0 y0 x1 y1 : Int) (k : Nat) : List Int := ([x0, y0, x1, y1].take k).flatMap (fun z => numB z 4)
theorem coordsB_step {x0 y0 x1 y1 z : Int} {k : Nat} (h : [x0, y0, x1, y1][k]? = some z) : coordsB x0 y0 x1 y1 (k + 1) = coordsB x0 y0 x1 y1 k ++ numB z 4 := by
  obtain ⟨hk, rfl⟩ := List.getElem?_eq_some_iff.1 h
  unfold coordsB
  rw [List.take_succ_eq_append_getElem hk, List.flatMap_append, List.flatMap_cons, List.flatMap_nil, List.append_nil]
theorem coordsB_all (id x0 y0 x1 y1 : Int) : numB id 2 ++ coordsB x0 y0 x1 y1 4 = putB id x0 y0 x1 y1 := by simp [coordsB, putB]

set_option maxRecDepth 100000 in
set_option maxHeartbeats 2000000 in
theorem append_put {w : World} {g c n : Nat} {lg : List Int} (hown : w.ownsRow 0 5 1 (.slice (some ⟨g, 0, none⟩) n c) n (u8s lg)) (hB : ByteL lg) (hn : n ≤ 100000000000) (h4 : 4 ≤ n) {kind id x0 y0 x1 y1 : Int} (hk : kind = 80 ∨ kind = 77) (hf : i64ok id) (hx0 : i64ok x0) (hy0 : i64ok y0) (hx1 : i64ok x1) (hy1 : i64ok y1) :
    Calls Tryz.prog 61 #[.slice (some ⟨g, 0, none⟩) n c, (⟨kind, 0, id, x0, y0, x1, y1⟩ : Rc).val] w (LogPost (.slice (some ⟨g, 0, none⟩) n c) (lg ++ (⟨kind, 0, id, x0, y0, x1, y1⟩ : Rc).bytes lg) (n + 23) w) := by
  obtain ⟨i0, hi, hz0, hz1, hz2⟩ := info_partsB infoB
  have HF := hideIt hf
  have HXS := hideIt (And.intro hx0 (And.intro hy0 (And.intro hx1 hy1)))
  have hlen : lg.length = n := by
    have := hown.1
    rw [u8s_length] at this
    omega
  subst hlen
  obtain ⟨g1, g2⟩ := grow_kind (w := w) (o := rcO (⟨kind, 0, id, x0, y0, x1, y1⟩ : Rc)) (b := kind) hown
  have HG1 := hideIt g1
  have HG2 := hideIt g2
  have hm0 := (Mod.alloc (F := []) w (rcO (⟨kind, 0, id, x0, y0, x1, y1⟩ : Rc))).trans (Mod.alloc (F := []) (w.alloc (rcO (⟨kind, 0, id, x0, y0, x1, y1⟩ : Rc))) (.cells #[.int .u8 kind] 5))
  have hr0 := heap_alloc_new w (rcO (⟨kind, 0, id, x0, y0, x1, y1⟩ : Rc))
  have hglt : g < w.heap.size := owns_lt hown rfl
  have HM0 := hideIt hm0
  have HR0 := hideIt hr0
  have HB := hideIt hB
  clear g1 g2 hm0 hr0 hf hown hB hx0 hy0 hx1 hy1
  simp only [Rc.val]
  go_enter Tryz.func61, Tryz.ntmps61
  go_wp2_with (at_builtin; refine wpList_append_rows _ rfl _ _ 56 rfl 0 5 i0 (.int .u8 0) 1 1 Tryz.underlying56 hi hz0 hz1 hz2 rfl (by decide) _ lg.length (u8s lg) rfl HG1.out _ 1 (u8s [kind]) rfl HG2.out (by omega) (by unfold maxLen; omega) (by omega) (Nat.zero_le _) ?_)
  intro g2 c2 w2 ho2 hm2 hat2
  have hA := LogGrow.add (lv := .slice (some ⟨g, 0, none⟩) lg.length c) (xs := lg) HM0.out ho2 hm2 (hat2.imp (fun h => h) (fun h => by simpa using h))
  have hr2 := ((hm2.block w.heap.size (by simp; omega) (by simp [Value.ownBlock]; omega)).trans ((Mod.alloc (F := []) _ _).block w.heap.size (by simp) (by simp))).trans HR0.out
  have hlt0 := lt_of_block hr2
  have hg2 : g2 ≠ w.heap.size := by
    rcases hat2 with h | h
    · simp [Value.ownBlock] at h
      omega
    · omega
  have HR2 := hideIt hr2
  obtain ⟨hf0, -, hf1, hf3, hf4, hf5, hf6⟩ := cell_rcO hr2
  simp only at hf0 hf1 hf3 hf4 hf5 hf6
  have HA := hideIt hA
  clear ho2 hm2 hat2 hr2 hA HG1 HG2 HM0 HR0
  rcases hk with rfl | rfl
  case inl =>
    go_wp2_with fail
    refine (appendNumber_any HA.out.own HF.out (size := 2) (by omega) (by omega)).mono ?_
    rintro e w3 ⟨g3, c3, rfl, hA3⟩
    have hr3 := (hA3.mod.block w.heap.size hlt0 (by simp [Value.ownBlock]; omega)).trans HR2.out
    have hlt3 := lt_of_block hr3
    clear hf0 hf1 hf3 hf4 hf5 hf6
    obtain ⟨-, -, -, hf3, hf4, hf5, hf6⟩ := cell_rcO hr3
    simp only at hf3 hf4 hf5 hf6
    have hA3 := HA.out.next hA3
    rw [List.append_assoc] at hA3
    have HA3 := hideIt hA3
    clear hA3 HA hr3 HR2
    go_wp2_with fail
    go_loopw [0, 43] (fun lv i wr => ∃ (z : Int) (k g1 c1 : Nat), k ≤ 4 ∧ z = k ∧ i = .int .i64 z ∧ lv = .slice (some ⟨g1, 0, none⟩) (lg.length + (3 + 4 * k)) c1 ∧ Hid (LogGrow w (.slice (some ⟨g, 0, none⟩) lg.length c) (lg ++ (80 :: (numB id 2 ++ coordsB x0 y0 x1 y1 k))) (lg.length + (3 + 4 * k)) wr g1 c1)) (fun _ i _ => 4 - (intOf i).toNat)
    case atStart => exact ⟨0, 0, g3, c3, by omega, rfl, rfl, rfl, hideIt (by simpa [coordsB] using HA3.out)⟩
    case round =>
      clear hf3 hf4 hf5 hf6 hlt3
      obtain ⟨z, k, g1, c1, hk, hzk, rfl, rfl, hR⟩ := hrel
      have hstep : k < 4 → ∀ z, [x0, y0, x1, y1][k]? = some z → i64ok z ∧ coordsB x0 y0 x1 y1 (k + 1) = coordsB x0 y0 x1 y1 k ++ numB z 4 := fun h4 z hz => by
        refine ⟨?_, coordsB_step hz⟩
        obtain ⟨a1, a2, a3, a4⟩ := HXS.out
        rcases (show k = 0 ∨ k = 1 ∨ k = 2 ∨ k = 3 by omega) with rfl | rfl | rfl | rfl <;> simp at hz <;> subst hz <;> assumption
      have HSTEP := hideIt hstep
      clear hstep
      rcases (show k = 0 ∨ k = 1 ∨ k = 2 ∨ k = 3 ∨ k = 4 by omega) with rfl | rfl | rfl | rfl | rfl
      case' inl => obtain ⟨hz, hst⟩ := HSTEP.out (by omega) x0 rfl; obtain rfl : z = 0 := (by simpa using hzk); have hix := run_idx4 (.int .i64 x0) (.int .i64 y0) (.int .i64 x1) (.int .i64 y1) 0 (.int .i64 x0) wr (.inl ⟨rfl, rfl⟩)
      case' inr.inl => obtain ⟨hz, hst⟩ := HSTEP.out (by omega) y0 rfl; obtain rfl : z = 1 := (by simpa using hzk); have hix := run_idx4 (.int .i64 x0) (.int .i64 y0) (.int .i64 x1) (.int .i64 y1) 1 (.int .i64 y0) wr (.inr (.inl ⟨rfl, rfl⟩))
      case' inr.inr.inl => obtain ⟨hz, hst⟩ := HSTEP.out (by omega) x1 rfl; obtain rfl : z = 2 := (by simpa using hzk); have hix := run_idx4 (.int .i64 x0) (.int .i64 y0) (.int .i64 x1) (.int .i64 y1) 2 (.int .i64 x1) wr (.inr (.inr (.inl ⟨rfl, rfl⟩)))
      case' inr.inr.inr.inl => obtain ⟨hz, hst⟩ := HSTEP.out (by omega) y1 rfl; obtain rfl : z = 3 := (by simpa using hzk); have hix := run_idx4 (.int .i64 x0) (.int .i64 y0) (.int .i64 x1) (.int .i64 y1) 3 (.int .i64 y1) wr (.inr (.inr (.inr ⟨rfl, rfl⟩)))
      case inr.inr.inr.inr =>
        obtain rfl : z = 4 := by simpa using hzk
        clear hzk
        have hA3 : LogGrow w (.slice (some ⟨g, 0, none⟩) lg.length c) (lg ++ (80 :: putB id x0 y0 x1 y1)) (lg.length + 19) wr g1 c1 := by
          have := hR.out
          rw [coordsB_all] at this
          exact this
        have HA3 := hideIt hA3
        clear hA3 hR HSTEP
        go_wp2_with fail
        refine (seal_log (m := lg.length) HA3.out (HB.out.append (ByteL.cons (by omega) (Rc.body_byte ⟨80, 0, id, x0, y0, x1, y1⟩))) (by omega) rfl (.inr h4)).mono ?_
        rintro e w4 ⟨rfl, hm4⟩
        have hA4 := HA3.out.keep hm4
        obtain ⟨s1, s2⟩ := sealF_range lg (80 :: putB id x0 y0 x1 y1)
        have HSB := hideIt (show lg ++ (⟨80, 0, id, x0, y0, x1, y1⟩ : Rc).bytes lg = lg ++ (80 :: putB id x0 y0 x1 y1) ++ numB (sealF lg (80 :: putB id x0 y0 x1 y1)) 4 from by rw [List.append_assoc]; rfl)
        generalize sealF lg (80 :: putB id x0 y0 x1 y1) = S at *
        have HA4 := hideIt hA4
        clear hA4 hm4 HA3
        go_wp2_with fail
        refine (appendNumber_any HA4.out.own (by unfold i64ok; omega) (size := 4) (by omega) (by omega)).mono ?_
        rintro e w5 ⟨g5, c5, rfl, hA5⟩
        have HA5 := hideIt (HA4.out.next hA5)
        clear hA5 HA4
        go_wp2
        go_ret
        exact ⟨g5, c5, rfl, by rw [HSB.out]; exact HA5.out⟩
      all_goals
        have HZ := hideIt hz
        have HST := hideIt hst
        clear hz hst HSTEP hzk
        go_wp2_with fail
        refine (appendNumber_any hR.out.own HZ.out (size := 4) (by omega) (by omega)).mono ?_
        rintro e w4 ⟨g4, c4, rfl, hA4⟩
        clear hix
        have hA4 := hR.out.next hA4
        rw [List.append_assoc, List.cons_append, List.append_assoc, ← HST.out] at hA4
        have HA4 := hideIt hA4
        clear hA4 hR
        go_wp2_with fail
        go_roundw
        case rel => exact ⟨_, _, g4, c4, by decide, rfl, rfl, rfl, HA4⟩
        case measure => simp [intOf]

  case inr =>
    go_wp2_with fail
    refine (appendNumber_any HA.out.own HF.out (size := 2) (by omega) (by omega)).mono ?_
    rintro e w3 ⟨g3, c3, rfl, hA3⟩
    have hr3 := (hA3.mod.block w.heap.size hlt0 (by simp [Value.ownBlock]; omega)).trans HR2.out
    have hlt3 := lt_of_block hr3
    clear hf0 hf1 hf3 hf4 hf5 hf6
    obtain ⟨-, -, -, hf3, hf4, hf5, hf6⟩ := cell_rcO hr3
    simp only at hf3 hf4 hf5 hf6
    have hA3 := HA.out.next hA3
    rw [List.append_assoc] at hA3
    have HA3 := hideIt hA3
    clear hA3 HA hr3 HR2
    go_wp2_with fail
    go_loopw [0, 43] (fun lv i wr => ∃ (z : Int) (k g1 c1 : Nat), k ≤ 4 ∧ z = k ∧ i = .int .i64 z ∧ lv = .slice (some ⟨g1, 0, none⟩) (lg.length + (3 + 4 * k)) c1 ∧ Hid (LogGrow w (.slice (some ⟨g, 0, none⟩) lg.length c) (lg ++ (77 :: (numB id 2 ++ coordsB x0 y0 x1 y1 k))) (lg.length + (3 + 4 * k)) wr g1 c1)) (fun _ i _ => 4 - (intOf i).toNat)
    case atStart => exact ⟨0, 0, g3, c3, by omega, rfl, rfl, rfl, hideIt (by simpa [coordsB] using HA3.out)⟩
    case round =>
      clear hf3 hf4 hf5 hf6 hlt3
      obtain ⟨z, k, g1, c1, hk, hzk, rfl, rfl, hR⟩ := hrel
      have hstep : k < 4 → ∀ z, [x0, y0, x1, y1][k]? = some z → i64ok z ∧ coordsB x0 y0 x1 y1 (k + 1) = coordsB x0 y0 x1 y1 k ++ numB z 4 := fun h4 z hz => by
        refine ⟨?_, coordsB_step hz⟩
        obtain ⟨a1, a2, a3, a4⟩ := HXS.out
        rcases (show k = 0 ∨ k = 1 ∨ k = 2 ∨ k = 3 by omega) with rfl | rfl | rfl | rfl <;> simp at hz <;> subst hz <;> assumption
      have HSTEP := hideIt hstep
      clear hstep
      rcases (show k = 0 ∨ k = 1 ∨ k = 2 ∨ k = 3 ∨ k = 4 by omega) with rfl | rfl | rfl | rfl | rfl
      case' inl => obtain ⟨hz, hst⟩ := HSTEP.out (by omega) x0 rfl; obtain rfl : z = 0 := (by simpa using hzk); have hix := run_idx4 (.int .i64 x0) (.int .i64 y0) (.int .i64 x1) (.int .i64 y1) 0 (.int .i64 x0) wr (.inl ⟨rfl, rfl⟩)
      case' inr.inl => obtain ⟨hz, hst⟩ := HSTEP.out (by omega) y0 rfl; obtain rfl : z = 1 := (by simpa using hzk); have hix := run_idx4 (.int .i64 x0) (.int .i64 y0) (.int .i64 x1) (.int .i64 y1) 1 (.int .i64 y0) wr (.inr (.inl ⟨rfl, rfl⟩))
      case' inr.inr.inl => obtain ⟨hz, hst⟩ := HSTEP.out (by omega) x1 rfl; obtain rfl : z = 2 := (by simpa using hzk); have hix := run_idx4 (.int .i64 x0) (.int .i64 y0) (.int .i64 x1) (.int .i64 y1) 2 (.int .i64 x1) wr (.inr (.inr (.inl ⟨rfl, rfl⟩)))
      case' inr.inr.inr.inl => obtain ⟨hz, hst⟩ := HSTEP.out (by omega) y1 rfl; obtain rfl : z = 3 := (by simpa using hzk); have hix := run_idx4 (.int .i64 x0) (.int .i64 y0) (.int .i64 x1) (.int .i64 y1) 3 (.int .i64 y1) wr (.inr (.inr (.inr ⟨rfl, rfl⟩)))
      case inr.inr.inr.inr =>
        obtain rfl : z = 4 := by simpa using hzk
        clear hzk
        have hA3 : LogGrow w (.slice (some ⟨g, 0, none⟩) lg.length c) (lg ++ (77 :: putB id x0 y0 x1 y1)) (lg.length + 19) wr g1 c1 := by
          have := hR.out
          rw [coordsB_all] at this
          exact this
        have HA3 := hideIt hA3
        clear hA3 hR HSTEP
        go_wp2_with fail
        refine (seal_log (m := lg.length) HA3.out (HB.out.append (ByteL.cons (by omega) (Rc.body_byte ⟨77, 0, id, x0, y0, x1, y1⟩))) (by omega) rfl (.inr h4)).mono ?_
        rintro e w4 ⟨rfl, hm4⟩
        have hA4 := HA3.out.keep hm4
        obtain ⟨s1, s2⟩ := sealF_range lg (77 :: putB id x0 y0 x1 y1)
        have HSB := hideIt (show lg ++ (⟨77, 0, id, x0, y0, x1, y1⟩ : Rc).bytes lg = lg ++ (77 :: putB id x0 y0 x1 y1) ++ numB (sealF lg (77 :: putB id x0 y0 x1 y1)) 4 from by rw [List.append_assoc]; rfl)
        generalize sealF lg (77 :: putB id x0 y0 x1 y1) = S at *
        have HA4 := hideIt hA4
        clear hA4 hm4 HA3
        go_wp2_with fail
        refine (appendNumber_any HA4.out.own (by unfold i64ok; omega) (size := 4) (by omega) (by omega)).mono ?_
        rintro e w5 ⟨g5, c5, rfl, hA5⟩
        have HA5 := hideIt (HA4.out.next hA5)
        clear hA5 HA4
        go_wp2
        go_ret
        exact ⟨g5, c5, rfl, by rw [HSB.out]; exact HA5.out⟩
      all_goals
        have HZ := hideIt hz
        have HST := hideIt hst
        clear hz hst HSTEP hzk
        go_wp2_with fail
        refine (appendNumber_any hR.out.own HZ.out (size := 4) (by omega) (by omega)).mono ?_
        rintro e w4 ⟨g4, c4, rfl, hA4⟩
        clear hix
        have hA4 := hR.out.next hA4
        rw [List.append_assoc, List.cons_append, List.append_assoc, ← HST.out] at hA4
        have HA4 := hideIt hA4
        clear hA4 hR
        go_wp2_with fail
        go_roundw
        case rel => exact ⟨_, _, g4, c4, by decide, rfl, rfl, rfl, HA4⟩
        case measure => simp [intOf]

end Go.Proofs.YthimaoipogocfaaGreat

namespace Go.Proofs.YthimaoipogocfaaGreat
open Go.RowKit Go.Maps
attribute [local go_sem] run_store_f32 run_neg_inf

abbrev hO (p : Nat) (lv : Value) : Obj := .cells #[.pointer (some ⟨p, 0, none⟩), lv] 81 (0, 0)

/-- numbers that a thing may have -/
def IdsOk (ts : List Tg) : Prop := ∀ t ∈ ts, 0 ≤ t.id ∧ t.id ≤ 4095

/-- THE PROGRAM'S TREE IN MEMORY: its things, its log. -/
def HRep (w : World) (q fan : Nat) (ts : List Tg) (lg : List Int) (F : List Nat) : Prop := ∃ p lv F0, w.heap[q]? = some (hO p lv) ∧ TreeRep w p fan ts F0 ∧ w.ownsRow 0 5 1 lv lg.length (u8s lg) ∧ q ∉ F0 ∧ (∀ k, lv.ownBlock = some k → k ∉ F0 ∧ k ≠ q) ∧ (IdsOk ts ∧ ByteL lg ∧ 4 ≤ lg.length) ∧ F = q :: (lv.ownBlock.toList ++ F0)

theorem cell_hO {w : World} {q p : Nat} {lv : Value} (h : w.heap[q]? = some (hO p lv)) : w.cell? ⟨q, 0, none⟩ = some (.pointer (some ⟨p, 0, none⟩)) := by rw [cell_of_block h]; rfl
theorem cell_hL {w : World} {q p : Nat} {lv : Value} (h : w.heap[q]? = some (hO p lv)) : w.cell? ⟨q, 1, none⟩ = some lv := by rw [cell_of_block h]; rfl
theorem hO_set {w : World} {q p : Nat} {lv : Value} (h : w.heap[q]? = some (hO p lv)) (lv' : Value) : (w.setCell ⟨q, 1, none⟩ lv').heap[q]? = some (hO p lv') := by
  rw [block_setCell h]; rfl

theorem cell_B4 {w : World} {p : Nat} {a b c d : Int} (h : w.heap[p]? = some (B4 a b c d)) : w.cell? ⟨p, 0, none⟩ = some (.int .i64 a) ∧ w.cell? ⟨p, 1, none⟩ = some (.int .i64 b) ∧ w.cell? ⟨p, 2, none⟩ = some (.int .i64 c) ∧ w.cell? ⟨p, 3, none⟩ = some (.int .i64 d) := by
  refine ⟨?_, ?_, ?_, ?_⟩ <;> rw [cell_of_block h] <;> rfl

theorem B4_set4 {w : World} {p : Nat} {a b c d : Int} (h : w.heap[p]? = some (B4 a b c d)) (x0 y0 x1 y1 : Int) :
    ((((w.setCell ⟨p, 0, none⟩ (.int .i64 x0)).setCell ⟨p, 1, none⟩ (.int .i64 y0)).setCell ⟨p, 2, none⟩ (.int .i64 x1)).setCell ⟨p, 3, none⟩ (.int .i64 y1)).heap[p]? = some (B4 x0 y0 x1 y1) := by
  rw [block_setCell (block_setCell (block_setCell (block_setCell h 0 _) 1 _) 2 _) 3 _]
  simp

/-- a result of four cells, told -/
theorem told4 {w w1 : World} (hm : Mod [] (w.alloc (B4 0 0 0 0)) w1) (x0 y0 x1 y1 : Int) (o : Obj) {W : World} (hW : W = ((((w1.setCell ⟨w.heap.size, 0, none⟩ (.int .i64 x0)).setCell ⟨w.heap.size, 1, none⟩ (.int .i64 y0)).setCell ⟨w.heap.size, 2, none⟩ (.int .i64 x1)).setCell ⟨w.heap.size, 3, none⟩ (.int .i64 y1)).alloc o) :
    Mod [] w W ∧ W.cell? ⟨w.heap.size, 0, none⟩ = some (.int .i64 x0) ∧ W.cell? ⟨w.heap.size, 1, none⟩ = some (.int .i64 y0) ∧ W.cell? ⟨w.heap.size, 2, none⟩ = some (.int .i64 x1) ∧ W.cell? ⟨w.heap.size, 3, none⟩ = some (.int .i64 y1) := by
  have hz1 := (hm.block w.heap.size (by simp) (by simp)).trans (heap_alloc_new w (B4 0 0 0 0))
  have h4 := B4_set4 hz1 x0 y0 x1 y1
  have hm4 := mod_set4 w1 w.heap.size (.int .i64 x0) (.int .i64 y0) (.int .i64 x1) (.int .i64 y1)
  generalize (((w1.setCell ⟨w.heap.size, 0, none⟩ (.int .i64 x0)).setCell ⟨w.heap.size, 1, none⟩ (.int .i64 y0)).setCell ⟨w.heap.size, 2, none⟩ (.int .i64 x1)).setCell ⟨w.heap.size, 3, none⟩ (.int .i64 y1) = w4 at *
  subst hW
  exact ⟨(((Mod.alloc w _).trans hm).then hm4 (fun x hx => .inr (by simp at hx; omega))).trans (Mod.alloc _ _), cell_B4 (((Mod.alloc (F := []) w4 o).block _ (lt_of_block h4) (by simp)).trans h4)⟩

theorem HRep.kept {w w' : World} {q fan : Nat} {ts : List Tg} {lg : List Int} {F G : List Nat} (h : HRep w q fan ts lg F) (hm : Mod G w w') (hf : ∀ x ∈ F, x ∉ G) : HRep w' q fan ts lg F := by
  obtain ⟨p, lv, F0, h1, h2, h3, h4, h5, h6, rfl⟩ := h
  exact ⟨p, lv, F0, (hm.block q (lt_of_block h1) (hf q (by simp))).trans h1, h2.kept hm (fun x hx => hf x (by simp [hx])), owns_kept h3 hm (fun x hx => hf x (by simp [hx])), h4, h5, h6, rfl⟩

theorem HRep.lt {w : World} {q fan : Nat} {ts : List Tg} {lg : List Int} {F : List Nat} (h : HRep w q fan ts lg F) : ∀ x ∈ F, x < w.heap.size := by
  obtain ⟨p, lv, F0, h1, h2, h3, h4, h5, h6, rfl⟩ := h
  intro x hx
  rcases List.mem_cons.1 hx with rfl | hx
  · exact lt_of_block h1
  rcases List.mem_append.1 hx with hx | hx
  · exact owns_lt h3 (by simpa using hx)
  · exact h2.lt x hx

theorem HRep.ids {w : World} {q fan : Nat} {ts : List Tg} {lg : List Int} {F : List Nat} (h : HRep w q fan ts lg F) : (ts.map (·.id)).Nodup := by
  obtain ⟨_, _, _, _, ⟨_, _, _, _, _, ht, _⟩, _⟩ := h
  exact ht.ids

theorem HRep.idsOk {w : World} {q fan : Nat} {ts : List Tg} {lg : List Int} {F : List Nat} (h : HRep w q fan ts lg F) : IdsOk ts := by
  obtain ⟨_, _, _, _, _, _, _, _, h, _⟩ := h
  exact h.1

theorem HRep.bytes {w : World} {q fan : Nat} {ts : List Tg} {lg : List Int} {F : List Nat} (h : HRep w q fan ts lg F) : ByteL lg := by
  obtain ⟨_, _, _, _, _, _, _, _, h, _⟩ := h
  exact h.2.1

theorem HRep.rects {w : World} {q fan : Nat} {ts : List Tg} {lg : List Int} {F : List Nat} (h : HRep w q fan ts lg F) : ∀ t ∈ ts, RectOk t.x0 t.y0 t.x1 t.y1 := by
  obtain ⟨_, _, _, _, ⟨_, _, _, _, _, ht, _⟩, _⟩ := h
  exact fun t hm => (ht.node.thing t (ht.perm.mem_iff.2 hm)).1.rect

/-! ### Len, has, Get, Height -/
set_option maxRecDepth 100000 in
theorem hLen_any {w : World} {q fan : Nat} {ts : List Tg} {lg : List Int} {F : List Nat} (h : HRep w q fan ts lg F) :
    Calls Tryz.prog 21 #[.pointer (some ⟨q, 0, none⟩)] w fun e w' => e = .returned (.int .i64 ts.length) ∧ w = w' := by
  obtain ⟨p, lv, F0, h1, h2, -, -, -, -, rfl⟩ := h
  have c := cell_hO h1
  have H2 := hideIt h2
  clear h1 h2
  go_enter Tryz.func21, Tryz.ntmps21
  go_wp2_with fail
  refine (bLen_any H2.out).mono ?_
  rintro e w1 ⟨rfl, rfl⟩
  go_wp2
  go_ret
  exact ⟨rfl, rfl⟩

theorem rectOfG_R4 (ts : List Tg) (id : Int) : ∃ x0 y0 x1 y1, rectOfG ts id = R4 x0 y0 x1 y1 ∧ (findG ts id = none → x0 = 0 ∧ y0 = 0 ∧ x1 = 0 ∧ y1 = 0) := by
  unfold rectOfG
  cases findG ts id with
  | none => exact ⟨0, 0, 0, 0, rfl, fun _ => ⟨rfl, rfl, rfl, rfl⟩⟩
  | some n => exact ⟨_, _, _, _, rfl, fun h => by cases h⟩

def HasPost (b : Bool) (w : World) (e : Ending) (w' : World) : Prop := e = .returned (.bool b) ∧ Mod [] w w'

set_option maxRecDepth 100000 in
theorem has_any {w : World} {q fan : Nat} {ts : List Tg} {lg : List Int} {F : List Nat} (h : HRep w q fan ts lg F) (id : Int) :
    Calls Tryz.prog 33 #[.pointer (some ⟨q, 0, none⟩), .int .i64 id] w (HasPost (findG ts id).isSome w) := by
  obtain ⟨p, lv, F0, h1, h2, -, -, -, -, rfl⟩ := h
  have c := cell_hO h1
  have hcall := bGet_any h2 id
  obtain ⟨x0, y0, x1, y1, er, _⟩ := rectOfG_R4 ts id
  unfold BGetPost at hcall
  rw [er] at hcall
  clear er h1 h2
  generalize (findG ts id).isSome = b at *
  have H2 := hideIt hcall
  clear hcall
  go_enter Tryz.func33, Tryz.ntmps33
  go_wp2_with fail
  refine H2.out.mono ?_
  rintro e w1 ⟨rfl, hm⟩
  go_wp2
  go_ret
  exact ⟨rfl, hm.trans (Mod.alloc _ _)⟩

def HGetPost (ts : List Tg) (id : Int) (w : World) (e : Ending) (w' : World) : Prop := e = .returned (.tuple #[rectOfG ts id, .int .i64 (if (findG ts id).isSome then 0 else 3)]) ∧ Mod [] w w'

set_option maxRecDepth 100000 in
set_option maxHeartbeats 400000 in
theorem hGet_any {w : World} {q fan : Nat} {ts : List Tg} {lg : List Int} {F : List Nat} (h : HRep w q fan ts lg F) (id : Int) :
    Calls Tryz.prog 27 #[.pointer (some ⟨q, 0, none⟩), .int .i64 id] w (HGetPost ts id w) := by
  have hm0 : Mod [] w (w.alloc (B4 0 0 0 0)) := Mod.alloc _ _
  obtain ⟨p, lv, F0, h1, h2, -, -, -, -, rfl⟩ := h.kept hm0 (by simp)
  have c := cell_hO h1
  have hcall := bGet_any h2 id
  obtain ⟨x0, y0, x1, y1, er, ez⟩ := rectOfG_R4 ts id
  unfold HGetPost
  unfold BGetPost at hcall
  rw [er] at hcall ⊢
  have hlt : w.heap.size < (w.alloc (B4 0 0 0 0)).heap.size := by simp
  have hz := heap_alloc_new w (B4 0 0 0 0)
  cases hf : findG ts id with
  | none =>
    obtain ⟨rfl, rfl, rfl, rfl⟩ := ez hf
    rw [hf] at hcall
    have H := hideIt hcall
    have HM0 := hideIt hm0
    have HZ := hideIt hz
    clear hcall er ez hf h1 h2 h hz hlt hm0
    go_enter Tryz.func27, Tryz.ntmps27
    go_wp2_with fail
    refine H.out.mono ?_
    rintro e w1 ⟨rfl, hm⟩
    have hz1 := (hm.block _ (by simp) (by simp)).trans HZ.out
    have hlt1 := lt_of_block hz1
    obtain ⟨z0, z1, z2, z3⟩ := cell_B4 hz1
    have f0 := frozen_of_block hz1 0
    have f1 := frozen_of_block hz1 1
    have f2 := frozen_of_block hz1 2
    have f3 := frozen_of_block hz1 3
    have HM := hideIt hm
    clear hm H HM0 hz1
    go_wp2
    obtain ⟨hW, v0, v1, v2, v3⟩ := told4 HM.out 0 0 0 0 (B4 0 0 0 0) rfl
    generalize (((((w1.setCell _ _).setCell _ _).setCell _ _).setCell _ _).alloc _) = W at *
    have HW := hideIt hW
    clear hW z0 z1 z2 z3 f0 f1 f2 f3 hlt1
    exact bodyPost_ret (v := .tuple #[R4 0 0 0 0, .int .i64 3]) (by simp [results, Tryz.results27, go_sem, v0, v1, v2, v3]) rfl ⟨rfl, HW.out⟩
  | some n =>
    rw [hf] at hcall
    have H := hideIt hcall
    have HM0 := hideIt hm0
    have HZ := hideIt hz
    clear hcall er ez hf h1 h2 h hz hlt hm0
    go_enter Tryz.func27, Tryz.ntmps27
    go_wp2_with fail
    refine H.out.mono ?_
    rintro e w1 ⟨rfl, hm⟩
    have hz1 := (hm.block _ (by simp) (by simp)).trans HZ.out
    have hlt1 := lt_of_block hz1
    obtain ⟨z0, z1, z2, z3⟩ := cell_B4 hz1
    have f0 := frozen_of_block hz1 0
    have f1 := frozen_of_block hz1 1
    have f2 := frozen_of_block hz1 2
    have f3 := frozen_of_block hz1 3
    have HM := hideIt hm
    clear hm H HM0 hz1
    go_wp2
    obtain ⟨hW, v0, v1, v2, v3⟩ := told4 HM.out x0 y0 x1 y1 (B4 x0 y0 x1 y1) rfl
    generalize (((((w1.setCell _ _).setCell _ _).setCell _ _).setCell _ _).alloc _) = W at *
    have HW := hideIt hW
    clear hW z0 z1 z2 z3 f0 f1 f2 f3 hlt1
    exact bodyPost_ret (v := .tuple #[R4 x0 y0 x1 y1, .int .i64 0]) (by simp [results, Tryz.results27, go_sem, v0, v1, v2, v3]) rfl ⟨rfl, HW.out⟩

set_option maxRecDepth 100000 in
theorem hHeight_any {w : World} {q fan : Nat} {ts : List Tg} {lg : List Int} {F : List Nat} (h : HRep w q fan ts lg F) (hn : ts.length ≤ 1000) :
    Calls Tryz.prog 93 #[.pointer (some ⟨q, 0, none⟩)] w fun e w' => (∃ m : Nat, e = .returned (.int .i64 (m : Int)) ∧ 1 ≤ m ∧ ts.length ≤ fan ^ m ∧ (m = 1 ∨ 2 * leastF fan ^ (m - 1) ≤ ts.length) ∧ m ≤ 11) ∧ w = w' := by
  obtain ⟨p, lv, F0, h1, ⟨bm, es, clock, hh, k, ht, rfl⟩, -, -, -, -, rfl⟩ := h
  have c := cell_hO h1
  have hlo : 2 ≤ leastF fan := by unfold leastF; omega
  obtain ⟨s1, s2⟩ := ht.node.size
  have hlen := ht.perm.length_eq
  rw [hlen] at s1 s2
  have hmost := ht.most
  have hb : ts.length ≤ fan ^ (hh + 1) := by
    have : k.n * fan ^ hh ≤ fan * fan ^ hh := Nat.mul_le_mul_right _ hmost
    rw [Nat.pow_succ, Nat.mul_comm]
    omega
  have ha : hh + 1 = 1 ∨ 2 * leastF fan ^ (hh + 1 - 1) ≤ ts.length := by
    rcases ht.least with e | e
    · exact .inl (by omega)
    · refine .inr (Nat.le_trans ?_ s1)
      exact Nat.mul_le_mul_right _ e
  have hhh : hh + 1 ≤ 11 := by
    rcases ha with e | e
    · omega
    · by_cases h9 : hh + 1 ≤ 11
      · exact h9
      · have h4 : 2 ^ (hh + 1 - 1) ≤ leastF fan ^ (hh + 1 - 1) := Nat.pow_le_pow_left hlo _
        have : 2 ^ 10 ≤ 2 ^ (hh + 1 - 1) := Nat.pow_le_pow_right (by omega) (by omega)
        omega
  have hcall := bHeight_any ht (by omega)
  have H2 := hideIt hcall
  have HF := hideIt (And.intro hb (And.intro ha hhh))
  clear h1 ht hcall s1 s2 hlen hmost ha hb hhh
  go_enter Tryz.func93, Tryz.ntmps93
  go_wp2_with fail
  refine H2.out.mono ?_
  rintro e w1 ⟨rfl, rfl⟩
  go_wp2
  go_ret
  exact ⟨⟨hh + 1, by simp, by omega, HF.out.1, HF.out.2.1, HF.out.2.2⟩, rfl⟩

end Go.Proofs.YthimaoipogocfaaGreat

namespace Go.Proofs.YthimaoipogocfaaGreat
open Go.RowKit Go.Maps
attribute [local go_sem] run_store_f32 run_neg_inf

/-- the log of a tree has grown -/
def HWritePost (q fan : Nat) (ts : List Tg) (lg : List Int) (F : List Nat) (w : World) (e : Ending) (w' : World) : Prop := e = .returned (.tuple #[]) ∧ ∃ F', HRep w' q fan ts lg F' ∧ (∀ x ∈ F', x ∈ F ∨ w.heap.size ≤ x) ∧ Mod F w w'

theorem hWrote {w w1 : World} {q p fan g c n : Nat} {lv : Value} {ts : List Tg} {lg' : List Int} {F0 : List Nat} (h1 : w.heap[q]? = some (hO p lv)) (h2 : TreeRep w p fan ts F0) (h4 : q ∉ F0) (h5 : ∀ k, lv.ownBlock = some k → k ∉ F0 ∧ k ≠ q) (h6 : IdsOk ts) (hB : ByteL lg' ∧ 4 ≤ lg'.length) (hg : LogGrow w lv lg' n w1 g c) :
    w1.heap[q]? = some (hO p lv) ∧ HWritePost q fan ts lg' (q :: (lv.ownBlock.toList ++ F0)) w (.returned (.tuple #[])) (w1.setCell ⟨q, 1, none⟩ (.slice (some ⟨g, 0, none⟩) n c)) := by
  have hq1 : w1.heap[q]? = some (hO p lv) := (hg.mod.block q (lt_of_block h1) (fun hx => (h5 q (by simpa using hx)).2 rfl)).trans h1
  refine ⟨hq1, rfl, q :: ([g] ++ F0), ?_, fun x hx => ?_, ?_⟩
  · have hgF : g ∉ F0 ∧ g ≠ q := by
      rcases hg.lies with hx | hx
      · exact h5 g (by simpa using hx)
      · refine ⟨fun hF => ?_, fun e => ?_⟩
        · have := h2.lt g hF
          omega
        · have := lt_of_block h1
          omega
    have hms := Mod.setCell (F := [q]) w1 ⟨q, 1, none⟩ (.slice (some ⟨g, 0, none⟩) n c) (by simp)
    refine ⟨p, .slice (some ⟨g, 0, none⟩) n c, F0, hO_set hq1 _, (h2.kept hg.mod (fun x hx hy => (h5 x (by simpa using hy)).1 hx)).kept hms (fun x hx hy => h4 (by simp at hy; exact hy ▸ hx)), ?_, h4, fun k hk => ?_, ⟨h6, hB⟩, by simp [Value.ownBlock]⟩
    · have h3 := owns_kept hg.own hms (fun x hx => by
        simp [Value.ownBlock] at hx
        subst hx
        simpa using hgF.2)
      have hl := hg.len
      rw [hl]
      exact h3
    · simp [Value.ownBlock] at hk
      subst hk
      exact hgF
  · simp at hx
    rcases hx with rfl | rfl | hx
    · exact .inl (by simp)
    · rcases hg.lies with h | h
      · exact .inl (by simp at h; simp [h])
      · exact .inr h
    · exact .inl (by simp [hx])
  · exact (hg.mod.mono (fun x hx => by simp at hx; simp [hx])).trans (Mod.setCell _ _ _ (by simp))

set_option maxRecDepth 100000 in
set_option maxHeartbeats 400000 in
theorem write_go {w : World} {q p fan n : Nat} {lv : Value} {ts : List Tg} {lg' : List Int} {F0 : List Nat} {r : Rc} (h1 : w.heap[q]? = some (hO p lv)) (h2 : TreeRep w p fan ts F0) (h4 : q ∉ F0) (h5 : ∀ k, lv.ownBlock = some k → k ∉ F0 ∧ k ≠ q) (h6 : IdsOk ts) (hB : ByteL lg' ∧ 4 ≤ lg'.length) (happ : ∀ W, Mod [] w W → Calls Tryz.prog 61 #[lv, r.val] W (LogPost lv lg' n W)) :
    Calls Tryz.prog 34 #[.pointer (some ⟨q, 0, none⟩), r.val] w (HWritePost q fan ts lg' (q :: (lv.ownBlock.toList ++ F0)) w) := by
  have hm0 := Mod.alloc (F := []) w (rcO r)
  have hmd := hm0.trans (Mod.drew _)
  have c := cell_mod hm0 (cell_hL h1)
  have cd := cell_mod hmd (cell_hL h1)
  have HA := hideIt (happ _ hmd)
  have h1d := (hmd.block q (lt_of_block h1) (by simp)).trans h1
  have HW := hideIt (show ∀ w1 g c', LogGrow ((w.alloc (rcO r)).drew) lv lg' n w1 g c' → w1.heap[q]? = some (hO p lv) ∧ HWritePost q fan ts lg' (q :: (lv.ownBlock.toList ++ F0)) w (.returned (.tuple #[])) (w1.setCell ⟨q, 1, none⟩ (.slice (some ⟨g, 0, none⟩) n c')) from fun w1 g c' hg => by
    obtain ⟨a1, _, F', a2, a3, a4⟩ := hWrote h1d (h2.kept hmd (by simp)) h4 h5 h6 hB hg
    have hs := hmd.size
    exact ⟨a1, rfl, F', a2, fun x hx => (a3 x hx).imp (fun h => h) (fun h => by omega), hmd.nil.trans a4⟩)
  have hlt := lt_of_block h1
  have hr0 := heap_alloc_new w (rcO r)
  obtain ⟨r0, r1, r2, r3, r4, r5, r6⟩ := cell_rcO hr0
  have HR := hideIt hr0
  clear h1 h2 h4 h5 h6 hB happ hm0 hmd h1d hr0
  simp only [Rc.val] at HA ⊢
  go_enter Tryz.func34, Tryz.ntmps34
  go_wp2_with fail
  go_region_with (go_at_call 61; refine HA.out.mono ?_; rintro e w1 ⟨g, c1, rfl, hg⟩; obtain ⟨hq1, hfin⟩ := HW.out w1 g c1 hg; have cq := cell_hL hq1; have fq := frozen_of_block hq1 1; have hlt1 := lt_of_block hq1)
  all_goals
    have HF := hideIt hfin
    clear hg hfin hq1 HW HA
    go_wp2
    go_end0
    exact HF.out

theorem write_any {w : World} {q fan : Nat} {ts : List Tg} {lg : List Int} {F : List Nat} (h : HRep w q fan ts lg F) (hl : lg.length ≤ 100000000000) {r : Rc} (hr : r.ok) (hk : r = rcDrop r.id ∨ ((r.kind = 80 ∨ r.kind = 77) ∧ r.fan = 0)) :
    Calls Tryz.prog 34 #[.pointer (some ⟨q, 0, none⟩), r.val] w (HWritePost q fan ts (lg ++ r.bytes lg) F w) := by
  obtain ⟨p, lv, F0, h1, h2, h3, h4, h5, ⟨h6, h7, h8⟩, rfl⟩ := h
  obtain ⟨hkk, o1, o2, o3, o4, o5, o6⟩ := hr
  have hB : ByteL (lg ++ r.bytes lg) ∧ 4 ≤ (lg ++ r.bytes lg).length := ⟨h7.append (Rc.bytes_byte (by omega) lg), by rw [List.length_append]; omega⟩
  rcases ownV h3 with ⟨rfl, h0⟩ | ⟨g, c, rfl⟩
  · omega
  rcases hk with e | ⟨e, e2⟩
  · refine write_go (n := lg.length + 7) h1 h2 h4 h5 h6 hB (fun W hm => ?_)
    rw [e]
    exact append_drop (owns_kept h3 hm (by simp)) h7 hl h8 o2
  · refine write_go (n := lg.length + 23) h1 h2 h4 h5 h6 hB (fun W hm => ?_)
    obtain ⟨kind, fan, id, x0, y0, x1, y1⟩ := r
    simp only at e e2 o2 o3 o4 o5 o6
    subst e2
    exact append_put (owns_kept h3 hm (by simp)) h7 hl h8 e o2 o3 o4 o5 o6

end Go.Proofs.YthimaoipogocfaaGreat

namespace Go.Proofs.YthimaoipogocfaaGreat
open Go.RowKit Go.Maps
attribute [local go_sem] run_store_f32 run_neg_inf

def HSetPost (q fan : Nat) (c : Int) (ts' : List Tg) (lg' : List Int) (F : List Nat) (w : World) (e : Ending) (w' : World) : Prop := e = .returned (.int .i64 c) ∧ ∃ F', HRep w' q fan ts' lg' F' ∧ (∀ x ∈ F', x ∈ F ∨ w.heap.size ≤ x) ∧ Mod F w w'

theorem hSame {w w' : World} {q fan : Nat} {ts : List Tg} {lg : List Int} {F : List Nat} (h : HRep w q fan ts lg F) (hm : Mod [] w w') (c : Int) : HSetPost q fan c ts lg F w (.returned (.int .i64 c)) w' := ⟨rfl, F, h.kept hm (by simp), fun x hx => .inl hx, hm.nil⟩

/-- what a call on the tree of boxes leaves of the program's tree -/
theorem hSet {w w1 w2 : World} {q fan : Nat} {ts' : List Tg} {lg : List Int} {p : Nat} {lv : Value} {F F0 : List Nat} {e : Ending} (hm : Mod F w w1) (hF : ∀ x ∈ q :: (lv.ownBlock.toList ++ F0), x ∈ F ∨ w.heap.size ≤ x)
    (h1 : w1.heap[q]? = some (hO p lv)) (h3 : w1.ownsRow 0 5 1 lv lg.length (u8s lg)) (h4 : q ∉ F0) (h5 : ∀ k, lv.ownBlock = some k → k ∉ F0 ∧ k ≠ q) (h6 : IdsOk ts' ∧ ByteL lg ∧ 4 ≤ lg.length) (hs : BSetPost p fan ts' F0 w1 e w2) (c : Int) : HSetPost q fan c ts' lg F w (.returned (.int .i64 c)) w2 := by
  obtain ⟨_, F', a1, a2, a3⟩ := hs
  have hsz := hm.size
  have hql := lt_of_block h1
  refine ⟨rfl, q :: (lv.ownBlock.toList ++ F'), ⟨p, lv, F', (a3.block q hql h4).trans h1, a1, owns_kept h3 a3 (fun k hk => (h5 k hk).1), fun hx => ?_, fun k hk => ⟨fun hx => ?_, (h5 k hk).2⟩, h6, rfl⟩, fun x hx => ?_, hm.then a3 (fun x hx => hF x (by simp [hx]))⟩
  · rcases a2 q hx with h | h
    · exact h4 h
    · omega
  · rcases a2 k hx with h | h
    · exact (h5 k hk).1 h
    · have := owns_lt h3 hk
      omega
  · rcases List.mem_cons.1 hx with rfl | hx
    · exact hF _ (by simp)
    rcases List.mem_append.1 hx with hx | hx
    · exact hF x (by simp at hx; simp [hx])
    · rcases a2 x hx with h | h
      · exact hF x (by simp [h])
      · exact .inr (by omega)

/-- what Drop writes -/
def dropLg (ts : List Tg) (lg : List Int) (id : Int) : List Int := if (findG ts id).isSome then lg ++ (rcDrop id).bytes lg else lg

theorem IdsOk.drop {ts : List Tg} (h : IdsOk ts) (id : Int) : IdsOk (dropG ts id) := by
  unfold dropG
  split
  · exact fun t ht => h t (List.mem_of_mem_eraseIdx ht)
  · exact h
theorem IdsOk.find {ts : List Tg} (h : IdsOk ts) {id : Int} {n : Nat} (hf : findG ts id = some n) : 0 ≤ id ∧ id ≤ 4095 := by
  obtain ⟨t, h1, rfl, _⟩ := findG_get hf
  exact h t (List.mem_of_getElem? h1)

set_option maxRecDepth 100000 in
set_option maxHeartbeats 1000000 in
theorem hDrop_any {w : World} {q fan : Nat} {ts : List Tg} {lg : List Int} {F : List Nat} (h : HRep w q fan ts lg F) (hl : lg.length ≤ 10000000000) (id : Int) :
    Calls Tryz.prog 16 #[.pointer (some ⟨q, 0, none⟩), .int .i64 id] w (HSetPost q fan (if (findG ts id).isSome then 0 else 3) (dropG ts id) (dropLg ts lg id) F w) := by
  have hhas := has_any h id
  unfold dropLg
  cases hf : findG ts id with
  | none =>
    have e2 : dropG ts id = ts := by unfold dropG; rw [hf]
    rw [hf] at hhas
    rw [e2]
    have HH := hideIt hhas
    have H := hideIt h
    clear hhas h hf e2
    go_enter Tryz.func16, Tryz.ntmps16
    go_wp2_with fail
    refine HH.out.mono ?_
    rintro e w1 ⟨rfl, hm⟩
    go_wp2
    go_ret
    exact hSame H.out hm 3
  | some n =>
    rw [hf] at hhas
    have hid := h.idsOk.find hf
    have HOK := hideIt (h.idsOk.drop id)
    have HW := hideIt (fun w1 (hm : Mod [] w w1) => write_any (h.kept hm (by simp)) (by omega) (r := rcDrop id) (by unfold Rc.ok rcDrop i64ok; simp; omega) (.inl rfl))
    have HH := hideIt hhas
    clear hhas h hf hid
    go_enter Tryz.func16, Tryz.ntmps16
    go_wp2_with fail
    refine HH.out.mono ?_
    rintro e w1 ⟨rfl, hm⟩
    have HM := hideIt hm
    have HW1 := hideIt (HW.out w1 hm)
    simp only [Rc.val, rcDrop] at HW1
    clear hm HW HH
    go_wp2_with fail
    refine HW1.out.mono ?_
    rintro e w2 ⟨rfl, F', ⟨p, lv, F0, k1, k2, k3, k4, k5, k6, rfl⟩, k7, k8⟩
    have c := cell_hO k1
    have HB := hideIt (bDrop_any k2 id)
    have hfoot : ∀ x ∈ q :: (lv.ownBlock.toList ++ F0), x ∈ F ∨ w.heap.size ≤ x := fun x hx => by
      have := HM.out.size
      rcases k7 x hx with h | h
      · exact .inl h
      · exact .inr (by omega)
    have HFIN := hideIt (fun w3 e (hs : BSetPost p fan (dropG ts id) F0 w2 e w3) => hSet (HM.out.nil.trans k8) hfoot k1 k3 k4 k5 ⟨HOK.out, k6.2⟩ hs 0)
    clear k1 k2 k3 k4 k5 k6 k7 k8 hfoot HW1
    go_wp2_with fail
    refine HB.out.mono ?_
    intro e w3 hs
    have hfin := HFIN.out _ _ hs
    obtain ⟨rfl, _⟩ := hs
    have HF := hideIt hfin
    clear hfin
    go_wp2
    go_ret
    exact HF.out

/-- what Put tells -/
def putC (ts : List Tg) (id x0 y0 x1 y1 : Int) : Int := if idB id = false then 1 else if rectB x0 y0 x1 y1 = false then 2 else if findG ts id = none ∧ 400 ≤ ts.length then 4 else 0
def putG (ts : List Tg) (id x0 y0 x1 y1 : Int) (blk : Nat) : List Tg := if putC ts id x0 y0 x1 y1 = 0 then dropG ts id ++ [⟨blk, id, x0, y0, x1, y1⟩] else ts
def putLg (ts : List Tg) (lg : List Int) (id x0 y0 x1 y1 : Int) : List Int := if putC ts id x0 y0 x1 y1 = 0 then lg ++ (rcPut (findG ts id).isSome id x0 y0 x1 y1).bytes lg else lg
def HPutPost (q fan : Nat) (ts : List Tg) (lg : List Int) (id x0 y0 x1 y1 : Int) (F : List Nat) (w : World) (e : Ending) (w' : World) : Prop := ∃ blk, HSetPost q fan (putC ts id x0 y0 x1 y1) (putG ts id x0 y0 x1 y1 blk) (putLg ts lg id x0 y0 x1 y1) F w e w'

theorem hPutSame {w w' : World} {q fan : Nat} {ts : List Tg} {lg : List Int} {F : List Nat} {id x0 y0 x1 y1 c : Int} (h : HRep w q fan ts lg F) (hm : Mod [] w w') (hc : putC ts id x0 y0 x1 y1 = c) (h0 : c ≠ 0) : HPutPost q fan ts lg id x0 y0 x1 y1 F w (.returned (.int .i64 c)) w' := by
  refine ⟨0, ?_⟩
  unfold putG putLg
  rw [hc, if_neg h0, if_neg h0]
  exact hSame h hm c

end Go.Proofs.YthimaoipogocfaaGreat

