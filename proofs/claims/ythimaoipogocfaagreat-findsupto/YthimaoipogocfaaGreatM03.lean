import Derived.Test.YthimaoipogocfaaGreatM02
import Derived.Test.YthimaoipogocfaaGreatJ15
import Derived.Deep.DeepCutAuto
namespace Go.Proofs.YthimaoipogocfaaGreat
open Go.RowKit
attribute [local go_sem] run_store_f32 run_neg_inf

def SwapPost (g n c : Nat) (l : List Wt) (w : World) (e : Ending) (w' : World) : Prop := e = .returned (.tuple #[]) ∧ w'.ownsRow 0 138 3 (.slice (some ⟨g, 0, none⟩) n c) n (wtsV l) ∧ Mod [g] w w'

theorem swap_row {w : World} {g n c : Nat} {l : List Wt} (h : w.ownsRow 0 138 3 (.slice (some ⟨g, 0, none⟩) n c) n (wtsV l)) (hl : l.length = n) {i j : Nat} (hi : i < n) (hj : j < n) {W : World}
    (hW : W = ((((((w.setCell ⟨g, i * 3, none⟩ (.int .i64 (wat l j).id)).setCell ⟨g, i * 3 + 1, none⟩ (.int .i64 (wat l j).far)).setCell ⟨g, i * 3 + 2, none⟩ (ptrN (wat l j).nd)).setCell ⟨g, j * 3, none⟩ (.int .i64 (wat l i).id)).setCell ⟨g, j * 3 + 1, none⟩ (.int .i64 (wat l i).far)).setCell ⟨g, j * 3 + 2, none⟩ (ptrN (wat l i).nd))) :
    W.ownsRow 0 138 3 (.slice (some ⟨g, 0, none⟩) n c) n (wtsV (swapW l i j)) ∧ Mod [g] w W := by
  subst hW
  constructor
  · have e : wtsV (swapW l i j) = (((((((wtsV l).set (i * 3) (.int .i64 (wat l j).id)).set (i * 3 + 1) (.int .i64 (wat l j).far)).set (i * 3 + 2) (ptrN (wat l j).nd))).set (j * 3) (.int .i64 (wat l i).id)).set (j * 3 + 1) (.int .i64 (wat l i).far)).set (j * 3 + 2) (ptrN (wat l i).nd) := by
      unfold swapW
      rw [wtsV_set _ j _ (by rw [List.length_set]; omega), wtsV_set _ i _ (by omega)]
    rw [e]
    exact owns_set (owns_set (owns_set (owns_set (owns_set (owns_set h _ _) _ _) _ _) _ _) _ _) _ _
  · exact (((((Mod.setCell _ _ _ (by simp)).trans (Mod.setCell _ _ _ (by simp))).trans (Mod.setCell _ _ _ (by simp))).trans (Mod.setCell _ _ _ (by simp))).trans (Mod.setCell _ _ _ (by simp))).trans (Mod.setCell _ _ _ (by simp))

theorem frozen_row {w : World} {e : TypeId} {size g n c : Nat} {xs : List Value} (h : w.ownsRow 0 e size (.slice (some ⟨g, 0, none⟩) n c) n xs) (o : Nat) : w.frozen? ⟨g, o, none⟩ = false := by
  rcases h.2 with ⟨h0, _⟩ | ⟨g', cap, cur, hv, hb, hg, _⟩
  · cases h0
  · simp only [Value.slice.injEq, Option.some.injEq, Addr.mk.injEq, and_true, true_and] at hv
    obtain ⟨rfl, rfl⟩ := hv
    exact frozen_of_block hg o

set_option maxRecDepth 100000 in
set_option maxHeartbeats 1000000 in
theorem swap_same {w : World} {g n c : Nat} {l : List Wt} (h : w.ownsRow 0 138 3 (.slice (some ⟨g, 0, none⟩) n c) n (wtsV l)) (hl : l.length = n) {i : Nat} (hi : i < n) :
    Calls Tryz.prog 233 #[.slice (some ⟨g, 0, none⟩) n c, .int .i64 i, .int .i64 i] w (SwapPost g n c (swapW l i i) w) := by
  obtain ⟨i0, i1, i2⟩ := wt_cells h (k := i) (by omega)
  have fz := fun o => frozen_row h o
  have hglt : g < w.heap.size := owns_lt h rfl
  have HF := hideIt (fun (W : World) => swap_row (W := W) h hl hi hi)
  have hi' : (0 : Int) ≤ (i : Int) ∧ (i : Int) < (n : Int) := by omega
  generalize (wat l i).id = I at *
  generalize (wat l i).far = IF at *
  simp only [ptrN] at i2
  have hd := Mod.drew (F := []) w
  have di0 := cell_mod hd i0
  have di1 := cell_mod hd i1
  have di2 := cell_mod hd i2
  have dfz : ∀ o, w.drew.frozen? ⟨g, o, none⟩ = false := fz
  have hgd : g < w.drew.heap.size := hglt
  clear h hd
  go_enter Tryz.func233, Tryz.ntmps233
  go_wp2_with fail
  go_region
  all_goals
    obtain ⟨hrow, hmod⟩ := HF.out _ rfl
    have HP := hideIt (And.intro (owns_kept hrow (Mod.drew (F := []) _) (by simp)) (hmod.trans (Mod.drew _)))
    clear hrow hmod HF
    go_end0
    exact ⟨rfl, HP.out.1, HP.out.2⟩

set_option maxRecDepth 100000 in
set_option maxHeartbeats 1000000 in
theorem swap_ne {w : World} {g n c : Nat} {l : List Wt} (h : w.ownsRow 0 138 3 (.slice (some ⟨g, 0, none⟩) n c) n (wtsV l)) (hl : l.length = n) {i j : Nat} (hi : i < n) (hj : j < n) (hij : i ≠ j) :
    Calls Tryz.prog 233 #[.slice (some ⟨g, 0, none⟩) n c, .int .i64 i, .int .i64 j] w (SwapPost g n c (swapW l i j) w) := by
  obtain ⟨i0, i1, i2⟩ := wt_cells h (k := i) (by omega)
  obtain ⟨j0, j1, j2⟩ := wt_cells h (k := j) (by omega)
  have fz := fun o => frozen_row h o
  have hglt : g < w.heap.size := owns_lt h rfl
  have HF := hideIt (fun (W : World) => swap_row (W := W) h hl hi hj)
  have hi' : (0 : Int) ≤ (i : Int) ∧ (i : Int) < (n : Int) := by omega
  have hj' : (0 : Int) ≤ (j : Int) ∧ (j : Int) < (n : Int) := by omega
  generalize (wat l i).id = I at *
  generalize (wat l i).far = IF at *
  simp only [ptrN] at i2
  generalize (wat l j).id = J at *
  generalize (wat l j).far = JF at *
  simp only [ptrN] at j2
  have hd := Mod.drew (F := []) w
  have di0 := cell_mod hd i0
  have di1 := cell_mod hd i1
  have di2 := cell_mod hd i2
  have dj0 := cell_mod hd j0
  have dj1 := cell_mod hd j1
  have dj2 := cell_mod hd j2
  have dfz : ∀ o, w.drew.frozen? ⟨g, o, none⟩ = false := fz
  have hgd : g < w.drew.heap.size := hglt
  clear h hd
  go_enter Tryz.func233, Tryz.ntmps233
  go_wp2_with fail
  go_region
  all_goals
    obtain ⟨hrow, hmod⟩ := HF.out _ rfl
    have HP := hideIt (And.intro (owns_kept hrow (Mod.drew (F := []) _) (by simp)) (hmod.trans (Mod.drew _)))
    clear hrow hmod HF
    go_end0
    exact ⟨rfl, HP.out.1, HP.out.2⟩

theorem swap_any {w : World} {g n c : Nat} {l : List Wt} (h : w.ownsRow 0 138 3 (.slice (some ⟨g, 0, none⟩) n c) n (wtsV l)) (hl : l.length = n) {i j : Nat} (hi : i < n) (hj : j < n) :
    Calls Tryz.prog 233 #[.slice (some ⟨g, 0, none⟩) n c, .int .i64 i, .int .i64 j] w (SwapPost g n c (swapW l i j) w) := by
  by_cases hij : i = j
  · subst hij
    exact swap_same h hl hi
  · exact swap_ne h hl hi hj hij

/-! ### the queue: what it holds, where -/
structure QAt (w : World) (qb : Nat) (l : List Wt) (v : Value) : Prop where
  here : w.heap[qb]? = some (qO v)
  row : w.ownsRow 0 138 3 v l.length (wtsV l)
  ne : qb ∉ v.ownBlock.toList

theorem QAt.kept {w w' : World} {qb : Nat} {l : List Wt} {v : Value} {G : List Nat} (h : QAt w qb l v) (hm : Mod G w w') (h1 : qb ∉ G) (h2 : ∀ x ∈ v.ownBlock.toList, x ∉ G) : QAt w' qb l v :=
  ⟨(hm.block qb (lt_of_block h.here) h1).trans h.here, owns_kept h.row hm (fun k hk => h2 k (by rw [hk]; simp)), h.ne⟩
theorem QAt.keep {w w' : World} {qb : Nat} {l : List Wt} {v : Value} (h : QAt w qb l v) (hm : Mod [] w w') : QAt w' qb l v := h.kept hm (by simp) (by simp)

set_option maxRecDepth 100000 in
theorem qlen_any {w : World} {g n c : Nat} : Calls Tryz.prog 73 #[.slice (some ⟨g, 0, none⟩) n c] w fun e w' => e = .returned (.int .i64 n) ∧ w = w' := by
  go_enter Tryz.func73, Tryz.ntmps73
  go_wp2
  go_ret
  exact ⟨rfl, rfl⟩

set_option maxRecDepth 100000 in
theorem qlen_nil {w : World} : Calls Tryz.prog 73 #[.slice none 0 0] w fun e w' => e = .returned (.int .i64 0) ∧ w = w' := by
  go_enter Tryz.func73, Tryz.ntmps73
  go_wp2
  go_ret
  exact ⟨rfl, rfl⟩

end Go.Proofs.YthimaoipogocfaaGreat

namespace Go.Proofs.YthimaoipogocfaaGreat
open Go.RowKit
attribute [local go_sem] run_store_f32 run_neg_inf

theorem infoW : (Tryz.prog.info? 138).map (fun i => (i.zero, i.size, i.bytes)) = some (some (.agg #[.int .i64 0, .int .i64 0, .pointer none]), 3, 24) := by kernel_rfl

abbrev wtV (e : Wt) : Value := .agg #[.int .i64 e.id, .int .i64 e.far, .pointer (adN e.nd)]
abbrev wtI (e : Wt) : Value := .iface 138 (wtV e)

theorem run_assertW (x : Value) (w : World) : (Instr.typeAssert (.iface 138 x) 20 138 false).run Tryz.prog w = .ok x w := by
  simp [Instr.typeAssert, run_underlying Tryz.underlying138]

/-- something more waits, or something less -/
def QPost (qb : Nat) (l : List Wt) (v : Value) (w : World) (e : Ending) (w' : World) : Prop := e = .returned (.tuple #[]) ∧ ∃ v', QAt w' qb l v' ∧ (∀ x ∈ v'.ownBlock.toList, x ∈ v.ownBlock.toList ∨ w.heap.size ≤ x) ∧ Mod (qb :: v.ownBlock.toList) w w'

theorem pushed {w w4 w5 : World} {qb g5 c5 : Nat} {l : List Wt} {e : Wt} {v : Value} (hq : QAt w qb l v) (hm : Mod [] w w4) (ho : w5.ownsRow 0 138 3 (.slice (some ⟨g5, 0, none⟩) (l.length + 1) c5) (l.length + 1) (catL (wtsV l) (wtCells e))) (hm5 : Mod v.ownBlock.toList w4 w5) (hat : v.ownBlock = some g5 ∨ g5 = w4.heap.size) :
    w5.heap[qb]? = some (qO v) ∧ QPost qb (l ++ [e]) v w (.returned (.tuple #[])) (w5.setCell ⟨qb, 0, none⟩ (.slice (some ⟨g5, 0, none⟩) (l.length + 1) c5)) := by
  have hlt := lt_of_block hq.here
  have hs := hm.size
  have h5 : w5.heap[qb]? = some (qO v) := (hm5.block qb (by omega) hq.ne).trans ((hm.block qb hlt (by simp)).trans hq.here)
  have hg : g5 ∈ v.ownBlock.toList ∨ w.heap.size ≤ g5 := by
    rcases hat with h | h
    · exact .inl (by rw [h]; simp)
    · exact .inr (by omega)
  have hne : g5 ≠ qb := fun h => by
    rcases hg with h1 | h1
    · exact hq.ne (h ▸ h1)
    · omega
  refine ⟨h5, rfl, .slice (some ⟨g5, 0, none⟩) (l.length + 1) c5, ⟨qO_set h5 _, ?_, ?_⟩, fun x hx => ?_, (hm.nil.trans (hm5.mono (by simp +contextual))).trans (Mod.setCell _ _ _ (by simp))⟩
  · have e1 : catL (wtsV l) (wtCells e) = wtsV (l ++ [e]) := by rw [wtsV_append]; simp [catL, wtsV]
    have := owns_kept ho (Mod.setCell (F := [qb]) w5 ⟨qb, 0, none⟩ (.slice (some ⟨g5, 0, none⟩) (l.length + 1) c5) (by simp)) (fun x hx => by simp [Value.ownBlock] at hx; subst hx; simpa using hne)
    rw [e1] at this
    rw [List.length_append]
    exact this
  · simp [Value.ownBlock]
    exact fun h => hne h.symm
  · simp [Value.ownBlock] at hx
    subst hx
    exact hg

set_option maxRecDepth 100000 in
set_option maxHeartbeats 1000000 in
theorem qpush_any {w : World} {qb : Nat} {l : List Wt} {v : Value} (h : QAt w qb l v) (e : Wt) (hl : l.length ≤ 100000) :
    Calls Tryz.prog 232 #[.pointer (some ⟨qb, 0, none⟩), wtI e] w (QPost qb (l ++ [e]) v w) := by
  obtain ⟨i0, hi, hz0, hz1, hz2⟩ := info_partsB infoW
  have cq := cell_qO h.here
  have hta := run_assertW (wtV e)
  have cqb : ∀ o, (w.alloc o).cell? ⟨qb, 0, none⟩ = some v := fun o => cell_mod (Mod.alloc _ _) cq
  have HSRC := hideIt (show srcRow ((w.alloc (.cells #[.int .i64 e.id, .int .i64 e.far, .pointer (adN e.nd)] 138)).drew) 3 (.slice (some ⟨w.heap.size, 0, none⟩) 1 1) 1 (wtCells e) from
    srcRow_mod (srcRow_of_owns (owns_allocB (w := w) (cur := #[.int .i64 e.id, .int .i64 e.far, .pointer (adN e.nd)]) (e := 138) (n := 1) (size := 3) rfl (by decide) (base := 0) (Nat.zero_le _)) (fun u hu => wtsV_one [e] u (by simpa [wtsV, wtCells] using hu))) (Mod.drew _))
  have hmA : Mod [] w ((w.alloc (.cells #[.int .i64 e.id, .int .i64 e.far, .pointer (adN e.nd)] 138)).drew) := (Mod.alloc _ _).trans (Mod.drew _)
  have HOWN := hideIt (show ((w.alloc (.cells #[.int .i64 e.id, .int .i64 e.far, .pointer (adN e.nd)] 138)).drew).ownsRow 0 138 3 v l.length (wtsV l) from owns_kept h.row hmA (by simp))
  have HP := hideIt (fun (w5 : World) (g5 c5 : Nat) => pushed (e := e) (w5 := w5) (g5 := g5) (c5 := c5) h hmA)
  clear h hmA
  go_enter Tryz.func232, Tryz.ntmps232
  go_wp2_with fail
  go_region_law (refine step_append_rows _ rfl _ _ 140 rfl 0 138 i0 (.agg #[.int .i64 0, .int .i64 0, .pointer none]) 3 24 Tryz.underlying140 hi hz0 hz1 hz2 rfl (by decide) _ l.length (wtsV l) rfl HOWN.out _ 1 (wtCells e) rfl HSRC.out (by omega) (by unfold maxLen; omega) (by omega) (Nat.zero_le _) ?_; intro g5 c5 w5 ho5 hm5 hat5; obtain ⟨hp5, hfin⟩ := HP.out w5 g5 c5 ho5 hm5 hat5; have hc5 := cell_qO hp5; have hf5 := frozen_of_block hp5 0)
  all_goals
    have HF := hideIt hfin
    clear hfin ho5 hm5 hat5 hp5 hc5 hf5 HSRC HOWN HP cq cqb hta
    go_wp2
    go_end0
    exact HF.out

end Go.Proofs.YthimaoipogocfaaGreat

namespace Go.Proofs.YthimaoipogocfaaGreat
open Go.RowKit
attribute [local go_sem] run_store_f32 run_neg_inf

theorem owns_shrink {w : World} {e : TypeId} {size g n m c : Nat} {xs : List Value} (h : w.ownsRow 0 e size (.slice (some ⟨g, 0, none⟩) n c) n xs) (hm : m ≤ n) : w.ownsRow 0 e size (.slice (some ⟨g, 0, none⟩) m c) m (xs.take (m * size)) := by
  have hl := h.1
  have hms : m * size ≤ n * size := Nat.mul_le_mul_right _ hm
  refine ⟨by rw [List.length_take]; omega, ?_⟩
  rcases h.2 with ⟨h0, _⟩ | ⟨g', cap, cur, hv, hb, hg, hnc, hcm, hcs, htake⟩
  · cases h0
  · simp only [Value.slice.injEq, Option.some.injEq, Addr.mk.injEq, and_true, true_and] at hv
    obtain ⟨rfl, rfl⟩ := hv
    exact .inr ⟨g, c, cur, rfl, hb, hg, by omega, hcm, hcs, by rw [← htake, List.take_take, Nat.min_eq_left hms]⟩
theorem wtsV_take (l : List Wt) (n : Nat) (h : n ≤ l.length) : wtsV (l.take n) = (wtsV l).take (n * 3) := by
  have e : wtsV l = wtsV (l.take n) ++ wtsV (l.drop n) := by rw [← wtsV_append, List.take_append_drop]
  rw [e]
  refine (List.take_left' ?_).symm
  rw [wtsV_length, List.length_take, Nat.min_eq_left h]

def PopPost (qb g n c : Nat) (l : List Wt) (w : World) (e : Ending) (w' : World) : Prop := e = .returned (wtI (wat l n)) ∧ QAt w' qb (l.take n) (.slice (some ⟨g, 0, none⟩) n c) ∧ Mod [qb] w w'

set_option maxRecDepth 100000 in
set_option maxHeartbeats 1000000 in
theorem qpop_any {w : World} {qb g n c : Nat} {l : List Wt} (h : QAt w qb l (.slice (some ⟨g, 0, none⟩) (n + 1) c)) (hl : l.length = n + 1) (hn : n ≤ 100000) :
    Calls Tryz.prog 231 #[.pointer (some ⟨qb, 0, none⟩)] w (PopPost qb g n c l w) := by
  have hrow := h.row
  rw [hl] at hrow
  obtain ⟨i0, i1, i2⟩ := wt_cells hrow (k := n) (by omega)
  have cq := cell_qO h.here
  have fz := frozen_of_block h.here 0
  have hlt := lt_of_block h.here
  have hcap : n + 1 ≤ c := by
    rcases hrow.2 with ⟨h0, _⟩ | ⟨g', cap, cur, hv, hb, hg, hnc, _⟩
    · cases h0
    · simp only [Value.slice.injEq, Option.some.injEq, Addr.mk.injEq, and_true, true_and] at hv
      obtain ⟨rfl, rfl⟩ := hv
      exact hnc
  have HF := hideIt (show ∀ W, W = w.setCell ⟨qb, 0, none⟩ (.slice (some ⟨g, 0, none⟩) n c) → QAt W qb (l.take n) (.slice (some ⟨g, 0, none⟩) n c) ∧ Mod [qb] w W from fun W hW => by
    subst hW
    have hms := Mod.setCell (F := [qb]) w ⟨qb, 0, none⟩ (.slice (some ⟨g, 0, none⟩) n c) (by simp)
    have hne : qb ≠ g := fun e => h.ne (by rw [e]; simp [Value.ownBlock])
    have hlen : (l.take n).length = n := by rw [List.length_take]; omega
    refine ⟨⟨qO_set h.here _, ?_, by simpa [Value.ownBlock] using hne⟩, hms⟩
    rw [hlen, wtsV_take l n (by omega)]
    exact owns_kept (owns_shrink hrow (by omega)) hms (fun k hk => by simp [Value.ownBlock] at hk; subst hk; simpa using fun e => hne e.symm))
  simp only [ptrN] at i2
  clear hrow h
  go_enter Tryz.func231, Tryz.ntmps231
  go_wp2
  obtain ⟨k1, k2⟩ := HF.out _ rfl
  have HP := hideIt (show ∀ o, QAt ((w.setCell ⟨qb, 0, none⟩ (.slice (some ⟨g, 0, none⟩) n c)).alloc o) qb (l.take n) (.slice (some ⟨g, 0, none⟩) n c) ∧ Mod [qb] w ((w.setCell ⟨qb, 0, none⟩ (.slice (some ⟨g, 0, none⟩) n c)).alloc o) from fun o => ⟨k1.keep (Mod.alloc _ _), k2.trans (Mod.alloc _ _)⟩)
  clear k1 k2 HF
  go_ret
  exact ⟨rfl, (HP.out _).1, (HP.out _).2⟩

/-! ### container/heap over the queue -/
abbrev qI (qb : Nat) : Value := .iface 136 (.pointer (some ⟨qb, 0, none⟩))

/-- the queue, its row written out -/
structure QRow (w : World) (qb g n c : Nat) (l : List Wt) : Prop where
  q : QAt w qb l (.slice (some ⟨g, 0, none⟩) n c)
  len : l.length = n
theorem QRow.row {w : World} {qb g n c : Nat} {l : List Wt} (h : QRow w qb g n c l) : w.ownsRow 0 138 3 (.slice (some ⟨g, 0, none⟩) n c) n (wtsV l) := by
  have := h.q.row
  rw [h.len] at this
  exact this
theorem QRow.keep {w w' : World} {qb g n c : Nat} {l : List Wt} (h : QRow w qb g n c l) (hm : Mod [] w w') : QRow w' qb g n c l := ⟨h.q.keep hm, h.len⟩
theorem QRow.ne {w : World} {qb g n c : Nat} {l : List Wt} (h : QRow w qb g n c l) : qb ≠ g := fun e => h.q.ne (by rw [e]; simp [Value.ownBlock])
theorem QRow.swapped {w w' : World} {qb g n c : Nat} {l l' : List Wt} {e : Ending} (h : QRow w qb g n c l) (hs : SwapPost g n c l' w e w') (hl : l'.length = n) : QRow w' qb g n c l' ∧ Mod [g] w w' := by
  obtain ⟨_, k1, k2⟩ := hs
  refine ⟨⟨⟨(k2.block qb (lt_of_block h.q.here) (by simpa using h.ne)).trans h.q.here, by rw [hl]; exact k1, h.q.ne⟩, hl⟩, k2⟩

def UpPost (qb g n c : Nat) (l : List Wt) (w : World) (e : Ending) (w' : World) : Prop := e = .returned (.tuple #[]) ∧ ∃ l', QRow w' qb g n c l' ∧ l'.Perm l ∧ HeapW l' n ∧ Mod [g] w w'

set_option maxRecDepth 100000 in
set_option maxHeartbeats 1000000 in
theorem up_any {w : World} {qb g n c : Nat} {l : List Wt} (h : QRow w qb g n c l) (hn : n ≤ 100000) {j : Nat} (hj : j < n) (hu : UpW l n j) :
    Calls Tryz.prog 147 #[qI qb, .int .i64 j] w (UpPost qb g n c l w) := by
  have H := hideIt (And.intro h hu)
  clear h hu
  go_enter Tryz.func147, Tryz.ntmps147
  go_wp2_with fail
  go_loopw [1] (fun jv wr => ∃ k : Nat, k < n ∧ jv = .int .i64 k ∧ Hid (∃ l', QRow wr qb g n c l' ∧ l'.Perm l ∧ UpW l' n k ∧ Mod [g] w wr)) (fun jv _ => (intOf jv).toNat)
  case atStart => exact ⟨j, hj, rfl, hideIt ⟨l, H.out.1, .refl _, H.out.2, Mod.refl _ _⟩⟩
  case round =>
    obtain ⟨k, hk, rfl, hR⟩ := hrel
    obtain ⟨l', hq, hp, hu, hm⟩ := hR.out
    by_cases h0 : k = 0
    · subst h0
      have HF := hideIt (show UpPost qb g n c l w (.returned (.tuple #[])) wr from ⟨rfl, l', hq, hp, hu.done (.inl rfl), hm⟩)
      clear hR hq hp hu hm
      go_wp2
      go_end0
      exact HF.out
    · obtain ⟨i, hi⟩ : ∃ i, i = (k - 1) / 2 := ⟨_, rfl⟩
      have hdiv : ((k : Int) - 1).tdiv 2 = (i : Int) := by
        rw [hi, show (k : Int) - 1 = ((k - 1 : Nat) : Int) by omega]
        rfl
      have hik : i < k := by omega
      have hne : ((i : Int) == (k : Int)) = false := by simp; omega
      have HLESS := hideIt (less_any hq.row hq.len hk (show i < n by omega))
      have HSWAP := hideIt (fun W (hm : Mod [] wr W) => swap_any (hq.keep hm).row hq.len (show i < n by omega) hk)
      have hmeth := fun N => run_mV hq.q.here sel_Less N
      have HQ := hideIt hq
      have HX := hideIt (And.intro hp (And.intro hu hm))
      have HI := hideIt hi
      clear hR hq hp hu hm hi
      cases hless : lessW (wat l' k) (wat l' i) with
      | false =>
        rw [hless] at HLESS
        have HDONE := hideIt (show HeapW l' n from HX.out.2.1.done (.inr (by rw [← HI.out]; exact not_lessW_le hless)))
        clear hless HSWAP
        go_wp2_with fail
        refine HLESS.out.mono ?_
        rintro e w2 ⟨rfl, hm2⟩
        have HF := hideIt (show UpPost qb g n c l w (.returned (.tuple #[])) w2 from ⟨rfl, l', HQ.out.keep hm2, HX.out.1, HDONE.out, HX.out.2.2.trans hm2.nil⟩)
        clear hm2 HLESS HDONE HQ HX hmeth
        go_wp2
        go_end0
        exact HF.out
      | true =>
        rw [hless] at HLESS
        have HSTEP := hideIt (show UpW (swapW l' i k) n i from by
          have := HX.out.2.1.step (by rw [HQ.out.len]; exact Nat.le_refl _) hk (by omega) (by rw [← HI.out]; exact lessW_le hless)
          rw [← HI.out] at this
          exact this)
        have HPERM := hideIt ((swapW_perm (l := l') (i := i) (j := k) (by rw [HQ.out.len]; omega) (by rw [HQ.out.len]; omega)).trans HX.out.1)
        clear hless
        go_wp2_with fail
        refine HLESS.out.mono ?_
        rintro e w2 ⟨rfl, hm2⟩
        have hmeth2 := fun N => run_mV (HQ.out.keep hm2).q.here sel_Swap N
        have HSW := hideIt (HSWAP.out w2 hm2)
        have HQ2 := hideIt (HQ.out.keep hm2)
        have HM2 := hideIt (HX.out.2.2.trans hm2.nil)
        clear hm2 HLESS HSWAP hmeth HQ HX
        go_wp2_with fail
        refine HSW.out.mono ?_
        intro e w3 hs
        obtain ⟨k1, k2⟩ := HQ2.out.swapped hs (by rw [swapW_length]; exact HQ2.out.len)
        obtain ⟨rfl, _⟩ := hs
        have HN := hideIt (show ∃ l'', QRow w3 qb g n c l'' ∧ l''.Perm l ∧ UpW l'' n i ∧ Mod [g] w w3 from ⟨_, k1, HPERM.out, HSTEP.out, HM2.out.trans k2⟩)
        clear k1 k2 HSW HQ2 HM2 HPERM HSTEP hmeth2
        go_wp2_with fail
        go_roundw
        case rel => exact ⟨i, by omega, rfl, HN⟩
        case measure => simp [intOf]; omega

end Go.Proofs.YthimaoipogocfaaGreat

namespace Go.Proofs.YthimaoipogocfaaGreat
open Go.RowKit
attribute [local go_sem] run_store_f32 run_neg_inf

/-- a heap once more, below n; what stands behind is as it was -/
def DownRes (qb g N c n : Nat) (l : List Wt) (w w' : World) : Prop := ∃ l', QRow w' qb g N c l' ∧ l'.Perm l ∧ HeapW l' n ∧ (∀ k, n ≤ k → wat l' k = wat l k) ∧ Mod [g] w w'
def DownPost (qb g N c n : Nat) (l : List Wt) (w : World) (e : Ending) (w' : World) : Prop := ∃ b, e = .returned (.bool b) ∧ DownRes qb g N c n l w w'

/-- the lesser of the two below -/
theorem down_min {l : List Wt} {n i j : Nat} (h1 : 2 * i + 1 < n → (wat l j).le (wat l (2 * i + 1))) (h2 : 2 * i + 2 < n → (wat l j).le (wat l (2 * i + 2))) : ∀ k, k < n → 0 < k → (k - 1) / 2 = i → (wat l j).le (wat l k) := by
  intro k hk h0 hp
  rcases (show k = 2 * i + 1 ∨ k = 2 * i + 2 by omega) with rfl | rfl
  · exact h1 hk
  · exact h2 hk

set_option maxRecDepth 100000 in
set_option maxHeartbeats 2000000 in
theorem down_any {w : World} {qb g N c n : Nat} {l : List Wt} (h : QRow w qb g N c l) (hN : N ≤ 100000) (hn : n < N) (hd : DownW l n 0) :
    Calls Tryz.prog 110 #[qI qb, .int .i64 0, .int .i64 n] w (DownPost qb g N c n l w) := by
  have H := hideIt (And.intro h hd)
  clear h hd
  go_enter Tryz.func110, Tryz.ntmps110
  go_wp2_with fail
  go_loopw [7] (fun iv wr => ∃ i : Nat, i ≤ n ∧ iv = .int .i64 i ∧ Hid (∃ l', QRow wr qb g N c l' ∧ l'.Perm l ∧ DownW l' n i ∧ (∀ k, n ≤ k → wat l' k = wat l k) ∧ Mod [g] w wr)) (fun iv _ => n - (intOf iv).toNat)
  case atStart => exact ⟨0, by omega, rfl, hideIt ⟨l, H.out.1, .refl _, H.out.2, fun _ _ => rfl, Mod.refl _ _⟩⟩
  case round =>
    obtain ⟨i, hi, rfl, hR⟩ := hrel
    obtain ⟨l', hq, hp, hu, hk, hm⟩ := hR.out
    by_cases h1 : n ≤ 2 * i + 1
    · have HF := hideIt (show ∀ b, DownPost qb g N c n l w (.returned (.bool b)) wr from fun b => ⟨b, rfl, l', hq, hp, hu.done (fun k hk h0 hp => by omega), hk, hm⟩)
      have hge : (n : Int) ≤ 2 * (i : Int) + 1 := by omega
      clear hR hq hp hu hm hk
      go_wp2
      go_ret
      exact HF.out _
    · have hge : ¬ ((n : Int) ≤ 2 * (i : Int) + 1) := by omega
      obtain ⟨j1, hj1⟩ : ∃ j1 : Nat, j1 = 2 * i + 1 := ⟨_, rfl⟩
      obtain ⟨j2, hj2⟩ : ∃ j2 : Nat, j2 = 2 * i + 2 := ⟨_, rfl⟩
      have E1 := hideIt (show 2 * (i : Int) + 1 = (j1 : Int) by omega)
      have E2 := hideIt (show (j1 : Int) + 1 = (j2 : Int) by omega)
      have hge1 : ¬ ((n : Int) ≤ (j1 : Int)) := by omega
      have hneg : ¬ ((j1 : Int) < 0) := by omega
      have hmeth := fun M => run_mV hq.q.here sel_Less M
      have HQ := hideIt hq
      have HX := hideIt (And.intro hp (And.intro hu (And.intro hk hm)))
      have hji : j1 ≤ 1000000 := by omega
      have HJ1 := hideIt hj1
      have HJ2 := hideIt hj2
      have b1 : 2 * i + 1 ≤ j1 := by omega
      have b2 : j1 ≤ 2 * i + 1 := by omega
      have b3 : 2 * i + 2 ≤ j2 := by omega
      have b4 : j2 ≤ 2 * i + 2 := by omega
      clear hj1 hj2
      clear hR hq hp hu hm hk hge
      go_upto_region 3 with fail
      rw [E1.out]
      go_upto_region 6 with fail
      rw [E2.out]
      by_cases h2 : j2 < n
      · have h2' : (j2 : Int) < (n : Int) := by omega
        have HLJ := hideIt (less_any HQ.out.row HQ.out.len (show j2 < N by omega) (show j1 < N by omega))
        cases hl1 : lessW (wat l' j2) (wat l' j1) with
        | true =>
          rw [hl1] at HLJ
          have HMIN := hideIt (show ∀ k, k < n → 0 < k → (k - 1) / 2 = i → (wat l' j2).le (wat l' k) from down_min (fun _ => by rw [← HJ1.out]; exact lessW_le hl1) (fun _ => by rw [← HJ2.out]; exact Wt.le_refl _))
          clear hl1
          go_wp2_with fail
          refine HLJ.out.mono ?_
          rintro e w2 ⟨rfl, hm2⟩
          have hmeth2 := fun M => run_mV (HQ.out.keep hm2).q.here sel_Less M
          have HM2 := hideIt hm2
          clear hm2 HLJ hmeth
          have HLI := hideIt (fun W (hm : Mod [] wr W) => less_any (HQ.out.keep hm).row HQ.out.len (show j2 < N by omega) (show i < N by omega))
          cases hl2 : lessW (wat l' j2) (wat l' i) with
          | false =>
            rw [hl2] at HLI
            have HDONE := hideIt (show HeapW l' n from HX.out.2.1.done (fun k hk h0 hp => Wt.le_trans (not_lessW_le hl2) (HMIN.out k hk h0 hp)))
            clear hl2
            have hmW : Mod [] wr w2 := HM2.out
            go_wp2_with fail
            refine (HLI.out _ hmW).mono ?_
            rintro e w3 ⟨rfl, hm3⟩
            have HF := hideIt (show ∀ b, DownPost qb g N c n l w (.returned (.bool b)) w3 from fun b => ⟨b, rfl, l', HQ.out.keep (hmW.trans hm3), HX.out.1, HDONE.out, HX.out.2.2.1, HX.out.2.2.2.trans (hmW.trans hm3).nil⟩)
            clear hm3 HLI HDONE HQ HX
            go_wp2
            go_ret
            exact HF.out _
          | true =>
            rw [hl2] at HLI
            have HSTEP := hideIt (show DownW (swapW l' i j2) n j2 from HX.out.2.1.step (by rw [HQ.out.len]; omega) (by omega) (by omega) (by omega) (lessW_le hl2) HMIN.out)
            have HPERM := hideIt ((swapW_perm (l := l') (i := i) (j := j2) (by rw [HQ.out.len]; omega) (by rw [HQ.out.len]; omega)).trans HX.out.1)
            have HSAME := hideIt (show ∀ k, n ≤ k → wat (swapW l' i j2) k = wat l k from fun k hk => by rw [wat_swap (by rw [HQ.out.len]; omega) (by rw [HQ.out.len]; omega), if_neg (by omega), if_neg (by omega)]; exact HX.out.2.2.1 k hk)
            have HSWAP := hideIt (fun W (hm : Mod [] wr W) => swap_any (HQ.out.keep hm).row HQ.out.len (show i < N by omega) (show j2 < N by omega))
            clear hl2
            have hmW : Mod [] wr w2 := HM2.out
            go_wp2_with fail
            refine (HLI.out _ hmW).mono ?_
            rintro e w3 ⟨rfl, hm3⟩
            have hmeth3 := fun M => run_mV (HQ.out.keep (hmW.trans hm3)).q.here sel_Swap M
            have HSW := hideIt (HSWAP.out w3 (hmW.trans hm3))
            have HQ3 := hideIt (HQ.out.keep (hmW.trans hm3))
            have HM3 := hideIt (HX.out.2.2.2.trans (hmW.trans hm3).nil)
            clear hm3 HLI HSWAP HQ HX
            go_wp2_with fail
            refine HSW.out.mono ?_
            intro e w4 hs
            obtain ⟨k1, k2⟩ := HQ3.out.swapped hs (by rw [swapW_length]; exact HQ3.out.len)
            obtain ⟨rfl, _⟩ := hs
            have HN := hideIt (show ∃ l'', QRow w4 qb g N c l'' ∧ l''.Perm l ∧ DownW l'' n j2 ∧ (∀ k, n ≤ k → wat l'' k = wat l k) ∧ Mod [g] w w4 from ⟨_, k1, HPERM.out, HSTEP.out, HSAME.out, HM3.out.trans k2⟩)
            clear k1 k2 HSW HQ3 HM3 HPERM HSTEP HSAME hmeth3
            go_wp2_with fail
            go_roundw
            case rel => exact ⟨j2, by omega, rfl, HN⟩
            case measure => simp [intOf]; omega
        | false =>
          rw [hl1] at HLJ
          have HMIN := hideIt (show ∀ k, k < n → 0 < k → (k - 1) / 2 = i → (wat l' j1).le (wat l' k) from down_min (fun _ => by rw [← HJ1.out]; exact Wt.le_refl _) (fun _ => by rw [← HJ2.out]; exact not_lessW_le hl1))
          clear hl1
          go_wp2_with fail
          refine HLJ.out.mono ?_
          rintro e w2 ⟨rfl, hm2⟩
          have hmeth2 := fun M => run_mV (HQ.out.keep hm2).q.here sel_Less M
          have HM2 := hideIt hm2
          clear hm2 HLJ hmeth
          have HLI := hideIt (fun W (hm : Mod [] wr W) => less_any (HQ.out.keep hm).row HQ.out.len (show j1 < N by omega) (show i < N by omega))
          cases hl2 : lessW (wat l' j1) (wat l' i) with
          | false =>
            rw [hl2] at HLI
            have HDONE := hideIt (show HeapW l' n from HX.out.2.1.done (fun k hk h0 hp => Wt.le_trans (not_lessW_le hl2) (HMIN.out k hk h0 hp)))
            clear hl2
            have hmW : Mod [] wr w2 := HM2.out
            go_wp2_with fail
            refine (HLI.out _ hmW).mono ?_
            rintro e w3 ⟨rfl, hm3⟩
            have HF := hideIt (show ∀ b, DownPost qb g N c n l w (.returned (.bool b)) w3 from fun b => ⟨b, rfl, l', HQ.out.keep (hmW.trans hm3), HX.out.1, HDONE.out, HX.out.2.2.1, HX.out.2.2.2.trans (hmW.trans hm3).nil⟩)
            clear hm3 HLI HDONE HQ HX
            go_wp2
            go_ret
            exact HF.out _
          | true =>
            rw [hl2] at HLI
            have HSTEP := hideIt (show DownW (swapW l' i j1) n j1 from HX.out.2.1.step (by rw [HQ.out.len]; omega) (by omega) (by omega) (by omega) (lessW_le hl2) HMIN.out)
            have HPERM := hideIt ((swapW_perm (l := l') (i := i) (j := j1) (by rw [HQ.out.len]; omega) (by rw [HQ.out.len]; omega)).trans HX.out.1)
            have HSAME := hideIt (show ∀ k, n ≤ k → wat (swapW l' i j1) k = wat l k from fun k hk => by rw [wat_swap (by rw [HQ.out.len]; omega) (by rw [HQ.out.len]; omega), if_neg (by omega), if_neg (by omega)]; exact HX.out.2.2.1 k hk)
            have HSWAP := hideIt (fun W (hm : Mod [] wr W) => swap_any (HQ.out.keep hm).row HQ.out.len (show i < N by omega) (show j1 < N by omega))
            clear hl2
            have hmW : Mod [] wr w2 := HM2.out
            go_wp2_with fail
            refine (HLI.out _ hmW).mono ?_
            rintro e w3 ⟨rfl, hm3⟩
            have hmeth3 := fun M => run_mV (HQ.out.keep (hmW.trans hm3)).q.here sel_Swap M
            have HSW := hideIt (HSWAP.out w3 (hmW.trans hm3))
            have HQ3 := hideIt (HQ.out.keep (hmW.trans hm3))
            have HM3 := hideIt (HX.out.2.2.2.trans (hmW.trans hm3).nil)
            clear hm3 HLI HSWAP HQ HX
            go_wp2_with fail
            refine HSW.out.mono ?_
            intro e w4 hs
            obtain ⟨k1, k2⟩ := HQ3.out.swapped hs (by rw [swapW_length]; exact HQ3.out.len)
            obtain ⟨rfl, _⟩ := hs
            have HN := hideIt (show ∃ l'', QRow w4 qb g N c l'' ∧ l''.Perm l ∧ DownW l'' n j1 ∧ (∀ k, n ≤ k → wat l'' k = wat l k) ∧ Mod [g] w w4 from ⟨_, k1, HPERM.out, HSTEP.out, HSAME.out, HM3.out.trans k2⟩)
            clear k1 k2 HSW HQ3 HM3 HPERM HSTEP HSAME hmeth3
            go_wp2_with fail
            go_roundw
            case rel => exact ⟨j1, by omega, rfl, HN⟩
            case measure => simp [intOf]; omega
      · have h2' : ¬ ((j2 : Int) < (n : Int)) := by omega
        have HMIN := hideIt (show ∀ k, k < n → 0 < k → (k - 1) / 2 = i → (wat l' j1).le (wat l' k) from down_min (fun _ => by rw [← HJ1.out]; exact Wt.le_refl _) (fun h => by omega))
        have HLI := hideIt (fun W (hm : Mod [] wr W) => less_any (HQ.out.keep hm).row HQ.out.len (show j1 < N by omega) (show i < N by omega))
        cases hl2 : lessW (wat l' j1) (wat l' i) with
        | false =>
          rw [hl2] at HLI
          have HDONE := hideIt (show HeapW l' n from HX.out.2.1.done (fun k hk h0 hp => Wt.le_trans (not_lessW_le hl2) (HMIN.out k hk h0 hp)))
          clear hl2
          have hmW : Mod [] wr wr := Mod.refl _ _
          go_wp2_with fail
          refine (HLI.out _ hmW).mono ?_
          rintro e w3 ⟨rfl, hm3⟩
          have HF := hideIt (show ∀ b, DownPost qb g N c n l w (.returned (.bool b)) w3 from fun b => ⟨b, rfl, l', HQ.out.keep (hmW.trans hm3), HX.out.1, HDONE.out, HX.out.2.2.1, HX.out.2.2.2.trans (hmW.trans hm3).nil⟩)
          clear hm3 HLI HDONE HQ HX
          go_wp2
          go_ret
          exact HF.out _
        | true =>
          rw [hl2] at HLI
          have HSTEP := hideIt (show DownW (swapW l' i j1) n j1 from HX.out.2.1.step (by rw [HQ.out.len]; omega) (by omega) (by omega) (by omega) (lessW_le hl2) HMIN.out)
          have HPERM := hideIt ((swapW_perm (l := l') (i := i) (j := j1) (by rw [HQ.out.len]; omega) (by rw [HQ.out.len]; omega)).trans HX.out.1)
          have HSAME := hideIt (show ∀ k, n ≤ k → wat (swapW l' i j1) k = wat l k from fun k hk => by rw [wat_swap (by rw [HQ.out.len]; omega) (by rw [HQ.out.len]; omega), if_neg (by omega), if_neg (by omega)]; exact HX.out.2.2.1 k hk)
          have HSWAP := hideIt (fun W (hm : Mod [] wr W) => swap_any (HQ.out.keep hm).row HQ.out.len (show i < N by omega) (show j1 < N by omega))
          clear hl2
          have hmW : Mod [] wr wr := Mod.refl _ _
          go_wp2_with fail
          refine (HLI.out _ hmW).mono ?_
          rintro e w3 ⟨rfl, hm3⟩
          have hmeth3 := fun M => run_mV (HQ.out.keep (hmW.trans hm3)).q.here sel_Swap M
          have HSW := hideIt (HSWAP.out w3 (hmW.trans hm3))
          have HQ3 := hideIt (HQ.out.keep (hmW.trans hm3))
          have HM3 := hideIt (HX.out.2.2.2.trans (hmW.trans hm3).nil)
          clear hm3 HLI HSWAP HQ HX
          go_wp2_with fail
          refine HSW.out.mono ?_
          intro e w4 hs
          obtain ⟨k1, k2⟩ := HQ3.out.swapped hs (by rw [swapW_length]; exact HQ3.out.len)
          obtain ⟨rfl, _⟩ := hs
          have HN := hideIt (show ∃ l'', QRow w4 qb g N c l'' ∧ l''.Perm l ∧ DownW l'' n j1 ∧ (∀ k, n ≤ k → wat l'' k = wat l k) ∧ Mod [g] w w4 from ⟨_, k1, HPERM.out, HSTEP.out, HSAME.out, HM3.out.trans k2⟩)
          clear k1 k2 HSW HQ3 HM3 HPERM HSTEP HSAME hmeth3
          go_wp2_with fail
          go_roundw
          case rel => exact ⟨j1, by omega, rfl, HN⟩
          case measure => simp [intOf]; omega

end Go.Proofs.YthimaoipogocfaaGreat

namespace Go.Proofs.YthimaoipogocfaaGreat
open Go.RowKit
attribute [local go_sem] run_store_f32 run_neg_inf

/-- the queue as a heap -/
structure QHeap (w : World) (qb : Nat) (l : List Wt) (v : Value) : Prop where
  q : QAt w qb l v
  heap : HeapW l l.length
theorem QHeap.keep {w w' : World} {qb : Nat} {l : List Wt} {v : Value} (h : QHeap w qb l v) (hm : Mod [] w w') : QHeap w' qb l v := ⟨h.q.keep hm, h.heap⟩

def HPushPost (qb : Nat) (l : List Wt) (e0 : Wt) (v : Value) (w : World) (e : Ending) (w' : World) : Prop := e = .returned (.tuple #[]) ∧ ∃ l' v', QHeap w' qb l' v' ∧ l'.Perm (e0 :: l) ∧ (∀ x ∈ v'.ownBlock.toList, x ∈ v.ownBlock.toList ∨ w.heap.size ≤ x) ∧ Mod (qb :: v.ownBlock.toList) w w'

theorem ownV3 {w : World} {T : TypeId} {v : Value} {n : Nat} {xs : List Value} (h : w.ownsRow 0 T 3 v n xs) (hn : 0 < n) : ∃ g c, v = .slice (some ⟨g, 0, none⟩) n c := by
  rcases h.2 with ⟨_, h0⟩ | ⟨g, c, _, h, _⟩
  · omega
  · exact ⟨g, c, h⟩

set_option maxRecDepth 100000 in
set_option maxHeartbeats 1000000 in
theorem hpush_any {w : World} {qb : Nat} {l : List Wt} {v : Value} (h : QHeap w qb l v) (e0 : Wt) (hl : l.length ≤ 90000) :
    Calls Tryz.prog 111 #[qI qb, wtI e0] w (HPushPost qb l e0 v w) := by
  have hmeth := fun M => run_mP (w := w) (qb := qb) sel_Push M
  have HP := hideIt (qpush_any h.q e0 (by omega))
  have hup := h.heap.push e0
  have HU := hideIt hup
  clear h hup
  go_enter Tryz.func111, Tryz.ntmps111
  go_wp2_with fail
  refine HP.out.mono ?_
  rintro e w1 ⟨rfl, v1, k1, k2, k3⟩
  have hlen : (l ++ [e0]).length = l.length + 1 := by simp
  have hrow := k1.row
  rw [hlen] at hrow
  obtain ⟨g, c, rfl⟩ := ownV3 hrow (by omega)
  have hQ : QRow w1 qb g (l.length + 1) c (l ++ [e0]) := ⟨k1, hlen⟩
  have hmeth1 := fun M => run_mV k1.here sel_Len M
  have HUP := hideIt (up_any hQ (by omega) (show l.length < l.length + 1 by omega) HU.out)
  have HFIN := hideIt (show ∀ w2, UpPost qb g (l.length + 1) c (l ++ [e0]) w1 (.returned (.tuple #[])) w2 → HPushPost qb l e0 v w (.returned (.tuple #[])) w2 from fun w2 hs => by
    obtain ⟨_, l', b1, b2, b3, b4⟩ := hs
    refine ⟨rfl, l', _, ⟨b1.q, by rw [b1.len]; exact b3⟩, b2.trans (List.perm_append_singleton e0 l), k2, k3.then b4 (fun x hx => ?_)⟩
    simp only [List.mem_singleton] at hx
    subst hx
    rcases k2 x (by simp [Value.ownBlock]) with h | h
    · exact .inl (by simp at h; simp [h])
    · exact .inr h)
  clear k1 k2 k3 hrow hQ HP HU hmeth hlen
  go_wp2_with fail
  refine qlen_any.mono ?_
  rintro e w2 ⟨rfl, rfl⟩
  go_wp2_with fail
  refine HUP.out.mono ?_
  intro e w2 hs
  have hs' := hs
  obtain ⟨rfl, _⟩ := hs
  have HF := hideIt (HFIN.out w2 hs')
  clear hs' HFIN HUP hmeth1
  go_wp2
  go_end0
  exact HF.out

def HPopPost (qb g n c : Nat) (l : List Wt) (w : World) (e : Ending) (w' : World) : Prop := e = .returned (wtI (wat l 0)) ∧ ∃ l', QHeap w' qb l' (.slice (some ⟨g, 0, none⟩) n c) ∧ l'.length = n ∧ (wat l 0 :: l').Perm l ∧ Mod [qb, g] w w'

set_option maxRecDepth 100000 in
set_option maxHeartbeats 1000000 in
theorem hpop_any {w : World} {qb g n c : Nat} {l : List Wt} (h : QRow w qb g (n + 1) c l) (hh : HeapW l (n + 1)) (hn : n ≤ 90000) :
    Calls Tryz.prog 74 #[qI qb] w (HPopPost qb g n c l w) := by
  have hmeth := fun M => run_mV h.q.here sel_Len M
  have hmethS := fun M => run_mV h.q.here sel_Swap M
  have hlen := h.len
  have HSW := hideIt (swap_any h.row h.len (show 0 < n + 1 by omega) (show n < n + 1 by omega))
  have HD := hideIt (show DownW (swapW l 0 n) n 0 from hh.pop (by omega))
  have HQ := hideIt h
  clear h hh
  go_enter Tryz.func74, Tryz.ntmps74
  go_wp2_with fail
  refine qlen_any.mono ?_
  rintro e w' ⟨rfl, hw⟩
  obtain rfl := hw
  go_wp2_with fail
  refine HSW.out.mono ?_
  intro e w1 hs
  obtain ⟨k1, k2⟩ := HQ.out.swapped hs (by rw [swapW_length]; exact HQ.out.len)
  obtain ⟨rfl, _⟩ := hs
  have HDOWN := hideIt (down_any k1 (by omega) (show n < n + 1 by omega) HD.out)
  have HM1 := hideIt k2
  clear k1 k2 HSW HD hmeth hmethS
  go_wp2_with fail
  refine HDOWN.out.mono ?_
  rintro e w2 ⟨b, rfl, l2, d1, d2, d3, d4, d5⟩
  have hmethP := fun M => run_mP (w := w2) (qb := qb) sel_Pop M
  have HPOP := hideIt (qpop_any d1.q d1.len (by omega))
  have h0n : wat l2 n = wat l 0 := by
    rw [d4 n (Nat.le_refl _), wat_swap (by omega) (by omega), if_pos rfl]
  have HFIN := hideIt (show ∀ w3, PopPost qb g n c l2 w2 (.returned (wtI (wat l2 n))) w3 → HPopPost qb g n c l w (.returned (wtI (wat l2 n))) w3 from fun w3 hs => by
    obtain ⟨_, b1, b2⟩ := hs
    have hl2 := d1.len
    have hlt : (l2.take n).length = n := by rw [List.length_take]; omega
    refine ⟨by rw [h0n], l2.take n, ⟨b1, ?_⟩, hlt, ?_, ((HM1.out.trans d5).mono (by simp)).trans (b2.mono (by simp))⟩
    · rw [hlt]
      intro k hk h0
      have e : ∀ m, m < n → wat (l2.take n) m = wat l2 m := fun m hm => by
        unfold wat
        rw [List.getD_eq_getElem?_getD, List.getD_eq_getElem?_getD, List.getElem?_take, if_pos hm]
      rw [e _ (by omega), e _ (by omega)]
      exact d3 k hk h0
    · have e : l2 = l2.take n ++ [wat l2 n] := by
        have h1 := List.take_append_drop n l2
        have h2 : l2.drop n = [wat l2 n] := by
          have hg := wat_get (l := l2) (k := n) (by omega)
          rw [List.getElem?_eq_getElem (by omega)] at hg
          rw [List.drop_eq_getElem_cons (by omega), Option.some.inj hg, List.drop_eq_nil_of_le (by omega)]
        rw [h2] at h1
        exact h1.symm
      rw [← h0n]
      refine List.Perm.trans ?_ (d2.trans (swapW_perm (by omega) (by omega)))
      conv => rhs; rw [e]
      exact (List.perm_append_singleton _ _).symm)
  clear d1 d2 d3 d4 d5 h0n HDOWN HM1 HQ
  go_wp2_with fail
  refine HPOP.out.mono ?_
  intro e w3 hs
  have hs' := hs
  obtain ⟨rfl, _⟩ := hs
  have HF := hideIt (HFIN.out w3 hs')
  clear hs' HFIN HPOP hmethP
  go_wp2
  go_ret
  exact HF.out

end Go.Proofs.YthimaoipogocfaaGreat

