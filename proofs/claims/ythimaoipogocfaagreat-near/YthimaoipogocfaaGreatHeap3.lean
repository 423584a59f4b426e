import Derived.Test.YthimaoipogocfaaGreatHeap2
namespace Go.Proofs.YthimaoipogocfaaGreat
open Go.RowKit
attribute [local go_sem] run_store_f32 run_neg_inf

def SwapPost (g n c : Nat) (l : List Wt) (w : World) (e : Ending) (w' : World) : Prop := e = .returned (.tuple #[]) ∧ w'.ownsRow 0 138 3 (.slice (some ⟨g, 0, none⟩) n c) n (wtsV l) ∧ Mod [g] w w'

theorem swap_row {w : World} {g n c : Nat} {l : List Wt} (h : w.ownsRow 0 138 3 (.slice (some ⟨g, 0, none⟩) n c) n (wtsV l)) (hl : l.length = n) {i j : Nat} (hi : i < n) (hj : j < n) {W : World}
    (hW : W = ((((((w.setCell ⟨g, i * 3, none⟩ (.int .i64 (wat l j).id)).setCell ⟨g, i * 3 + 1, none⟩ (.int .i64 (wat l j).far)).setCell ⟨g, i * 3 + 2, none⟩ (ptrN (wat l j).nd)).setCell ⟨g, j * 3, none⟩ (.int .i64 (wat l i).id)).setCell ⟨g, j * 3 + 1, none⟩ (.int .i64 (wat l i).far)).setCell ⟨g, j * 3 + 2, none⟩ (ptrN (wat l i).nd))) :
    W.ownsRow 0 138 3 (.slice (some ⟨g, 0, none⟩) n c) n (wtsV (swapW l i j)) ∧ Mod [g] w W := by
  subst hW
  constructor
  · have e : wtsV (swapW l i j) = (((((((wtsV l).set (i * 3) (.int .i64 (wat l j).id)).set (i * 3 + 1) (.int .i64 (wat l j).far)).set (i * 3 + 2) (ptrN (wat l j).nd))).set (j * 3) (.int .i64 (wat l i).id)).set (j * 3 + 1) (.int .i64 (wat l i).far)).set (j * 3 + 2) (ptrN (wat l i).nd) := by
      unfold swapW
      rw [wtsV_set _ j _ (by rw [List.length_set]; omega), wtsV_set _ i _ (by omega)]
    rw [e]
    exact owns_set (owns_set (owns_set (owns_set (owns_set (owns_set h _ _) _ _) _ _) _ _) _ _) _ _
  · exact (((((Mod.setCell _ _ _ (by simp)).trans (Mod.setCell _ _ _ (by simp))).trans (Mod.setCell _ _ _ (by simp))).trans (Mod.setCell _ _ _ (by simp))).trans (Mod.setCell _ _ _ (by simp))).trans (Mod.setCell _ _ _ (by simp))

theorem frozen_row {w : World} {e : TypeId} {size g n c : Nat} {xs : List Value} (h : w.ownsRow 0 e size (.slice (some ⟨g, 0, none⟩) n c) n xs) (o : Nat) : w.frozen? ⟨g, o, none⟩ = false := by
  rcases h.2 with ⟨h0, _⟩ | ⟨g', cap, cur, hv, hb, hg, _⟩
  · cases h0
  · simp only [Value.slice.injEq, Option.some.injEq, Addr.mk.injEq, and_true, true_and] at hv
    obtain ⟨rfl, rfl⟩ := hv
    exact frozen_of_block hg o

set_option maxRecDepth 100000 in
set_option maxHeartbeats 1000000 in
theorem swap_same {w : World} {g n c : Nat} {l : List Wt} (h : w.ownsRow 0 138 3 (.slice (some ⟨g, 0, none⟩) n c) n (wtsV l)) (hl : l.length = n) {i : Nat} (hi : i < n) :
    Calls Tryz.prog 233 #[.slice (some ⟨g, 0, none⟩) n c, .int .i64 i, .int .i64 i] w (SwapPost g n c (swapW l i i) w) := by
  obtain ⟨i0, i1, i2⟩ := wt_cells h (k := i) (by omega)
  have fz := fun o => frozen_row h o
  have hglt : g < w.heap.size := owns_lt h rfl
  have HF := hideIt (fun (W : World) => swap_row (W := W) h hl hi hi)
  have hi' : (0 : Int) ≤ (i : Int) ∧ (i : Int) < (n : Int) := by omega
  generalize (wat l i).id = I at *
  generalize (wat l i).far = IF at *
  simp only [ptrN] at i2
  have hd := Mod.drew (F := []) w
  have di0 := cell_mod hd i0
  have di1 := cell_mod hd i1
  have di2 := cell_mod hd i2
  have dfz : ∀ o, w.drew.frozen? ⟨g, o, none⟩ = false := fz
  have hgd : g < w.drew.heap.size := hglt
  clear h hd
  go_enter Tryz.func233, Tryz.ntmps233
  go_wp2_with fail
  go_region
  all_goals
    obtain ⟨hrow, hmod⟩ := HF.out _ rfl
    have HP := hideIt (And.intro (owns_kept hrow (Mod.drew (F := []) _) (by simp)) (hmod.trans (Mod.drew _)))
    clear hrow hmod HF
    go_end0
    exact ⟨rfl, HP.out.1, HP.out.2⟩

set_option maxRecDepth 100000 in
set_option maxHeartbeats 1000000 in
theorem swap_ne {w : World} {g n c : Nat} {l : List Wt} (h : w.ownsRow 0 138 3 (.slice (some ⟨g, 0, none⟩) n c) n (wtsV l)) (hl : l.length = n) {i j : Nat} (hi : i < n) (hj : j < n) (hij : i ≠ j) :
    Calls Tryz.prog 233 #[.slice (some ⟨g, 0, none⟩) n c, .int .i64 i, .int .i64 j] w (SwapPost g n c (swapW l i j) w) := by
  obtain ⟨i0, i1, i2⟩ := wt_cells h (k := i) (by omega)
  obtain ⟨j0, j1, j2⟩ := wt_cells h (k := j) (by omega)
  have fz := fun o => frozen_row h o
  have hglt : g < w.heap.size := owns_lt h rfl
  have HF := hideIt (fun (W : World) => swap_row (W := W) h hl hi hj)
  have hi' : (0 : Int) ≤ (i : Int) ∧ (i : Int) < (n : Int) := by omega
  have hj' : (0 : Int) ≤ (j : Int) ∧ (j : Int) < (n : Int) := by omega
  generalize (wat l i).id = I at *
  generalize (wat l i).far = IF at *
  simp only [ptrN] at i2
  generalize (wat l j).id = J at *
  generalize (wat l j).far = JF at *
  simp only [ptrN] at j2
  have hd := Mod.drew (F := []) w
  have di0 := cell_mod hd i0
  have di1 := cell_mod hd i1
  have di2 := cell_mod hd i2
  have dj0 := cell_mod hd j0
  have dj1 := cell_mod hd j1
  have dj2 := cell_mod hd j2
  have dfz : ∀ o, w.drew.frozen? ⟨g, o, none⟩ = false := fz
  have hgd : g < w.drew.heap.size := hglt
  clear h hd
  go_enter Tryz.func233, Tryz.ntmps233
  go_wp2_with fail
  go_region
  all_goals
    obtain ⟨hrow, hmod⟩ := HF.out _ rfl
    have HP := hideIt (And.intro (owns_kept hrow (Mod.drew (F := []) _) (by simp)) (hmod.trans (Mod.drew _)))
    clear hrow hmod HF
    go_end0
    exact ⟨rfl, HP.out.1, HP.out.2⟩

theorem swap_any {w : World} {g n c : Nat} {l : List Wt} (h : w.ownsRow 0 138 3 (.slice (some ⟨g, 0, none⟩) n c) n (wtsV l)) (hl : l.length = n) {i j : Nat} (hi : i < n) (hj : j < n) :
    Calls Tryz.prog 233 #[.slice (some ⟨g, 0, none⟩) n c, .int .i64 i, .int .i64 j] w (SwapPost g n c (swapW l i j) w) := by
  by_cases hij : i = j
  · subst hij
    exact swap_same h hl hi
  · exact swap_ne h hl hi hj hij

/-! ### the queue: what it holds, where -/
structure QAt (w : World) (qb : Nat) (l : List Wt) (v : Value) : Prop where
  here : w.heap[qb]? = some (qO v)
  row : w.ownsRow 0 138 3 v l.length (wtsV l)
  ne : qb ∉ v.ownBlock.toList

theorem QAt.kept {w w' : World} {qb : Nat} {l : List Wt} {v : Value} {G : List Nat} (h : QAt w qb l v) (hm : Mod G w w') (h1 : qb ∉ G) (h2 : ∀ x ∈ v.ownBlock.toList, x ∉ G) : QAt w' qb l v :=
  ⟨(hm.block qb (lt_of_block h.here) h1).trans h.here, owns_kept h.row hm (fun k hk => h2 k (by rw [hk]; simp)), h.ne⟩
theorem QAt.keep {w w' : World} {qb : Nat} {l : List Wt} {v : Value} (h : QAt w qb l v) (hm : Mod [] w w') : QAt w' qb l v := h.kept hm (by simp) (by simp)

set_option maxRecDepth 100000 in
theorem qlen_any {w : World} {g n c : Nat} : Calls Tryz.prog 73 #[.slice (some ⟨g, 0, none⟩) n c] w fun e w' => e = .returned (.int .i64 n) ∧ w = w' := by
  go_enter Tryz.func73, Tryz.ntmps73
  go_wp2
  go_ret
  exact ⟨rfl, rfl⟩

set_option maxRecDepth 100000 in
theorem qlen_nil {w : World} : Calls Tryz.prog 73 #[.slice none 0 0] w fun e w' => e = .returned (.int .i64 0) ∧ w = w' := by
  go_enter Tryz.func73, Tryz.ntmps73
  go_wp2
  go_ret
  exact ⟨rfl, rfl⟩

end Go.Proofs.YthimaoipogocfaaGreat
