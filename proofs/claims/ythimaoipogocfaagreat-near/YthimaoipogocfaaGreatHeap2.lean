import Derived.Test.YthimaoipogocfaaGreatHeap1
namespace Go.Proofs.YthimaoipogocfaaGreat
open Go.RowKit
attribute [local go_sem] run_store_f32 run_neg_inf

theorem owns_set {w : World} {base : Nat} {e : TypeId} {size g n c : Nat} {xs : List Value} (h : w.ownsRow base e size (.slice (some ⟨g, 0, none⟩) n c) n xs) (j : Nat) (u : Value) : (w.setCell ⟨g, j, none⟩ u).ownsRow base e size (.slice (some ⟨g, 0, none⟩) n c) n (xs.set j u) := by
  refine ⟨by rw [List.length_set]; exact h.1, ?_⟩
  rcases h.2 with ⟨h0, _⟩ | ⟨g', cap, cur, hv, hb, hg, hnc, hcm, hcs, htake⟩
  · cases h0
  · simp only [Value.slice.injEq, Option.some.injEq, Addr.mk.injEq, and_true, true_and] at hv
    obtain ⟨rfl, rfl⟩ := hv
    refine .inr ⟨g, c, cur.setIfInBounds j u, rfl, hb, ?_, hnc, hcm, by simpa using hcs, ?_⟩
    · rw [block_setCell hg]
    · rw [← htake, Array.toList_setIfInBounds, List.take_set]

theorem wtsV_set (l : List Wt) (i : Nat) (e : Wt) (hi : i < l.length) : wtsV (l.set i e) = (((wtsV l).set (i * 3) (.int .i64 e.id)).set (i * 3 + 1) (.int .i64 e.far)).set (i * 3 + 2) (ptrN e.nd) := by
  induction l generalizing i with
  | nil => simp at hi
  | cons a l ih =>
    have e1 : ∀ (b : Wt) m, wtsV (b :: m) = wtCells b ++ wtsV m := fun _ _ => rfl
    cases i with
    | zero =>
      rw [List.set_cons_zero, e1, e1]
      simp [wtCells]
    | succ i =>
      rw [List.set_cons_succ, e1, e1, ih i (by simpa using hi)]
      have hl : (wtCells a).length = 3 := rfl
      rw [List.set_append_right _ _ (by omega), List.set_append_right _ _ (by omega), List.set_append_right _ _ (by omega), hl]
      congr 2
      · congr 1
        · congr 1
          omega
        · omega
      · omega

def lessW (a b : Wt) : Bool := decide (a.far < b.far ∨ (a.far = b.far ∧ a.id < b.id))
theorem lessW_iff {a b : Wt} : lessW a b = true ↔ (a.far < b.far ∨ (a.far = b.far ∧ a.id < b.id)) := by simp [lessW]
theorem lessW_le {a b : Wt} (h : lessW a b = true) : a.le b := by have := lessW_iff.1 h; unfold Wt.le; omega
theorem not_lessW_le {a b : Wt} (h : lessW a b = false) : b.le a := by
  have : ¬ (a.far < b.far ∨ (a.far = b.far ∧ a.id < b.id)) := fun hn => by rw [lessW_iff.2 hn] at h; cases h
  unfold Wt.le
  omega
theorem less_or (a b : Wt) : decide (orF (cmpF a.far b.far) (cmpF a.id b.id) < 0) = lessW a b := by
  unfold orF cmpF lessW
  rw [decide_eq_decide]
  by_cases h1 : a.far < b.far
  · simp [h1]
  · by_cases h2 : b.far < a.far
    · simp [h1, h2]
      omega
    · by_cases h3 : a.id < b.id
      · simp [h1, h2, h3]
        omega
      · by_cases h4 : b.id < a.id
        · simp [h1, h2, h3, h4]
        · simp [h1, h2, h3, h4]

theorem or_drew (a b : Int) (w : World) : Calls Tryz.prog 140 #[.slice (some ⟨w.heap.size, 0, none⟩) 2 2] ((w.alloc (.cells #[.int .i64 a, .int .i64 b] 3)).drew) (IntEq (orF a b) ((w.alloc (.cells #[.int .i64 a, .int .i64 b] 3)).drew)) := by
  have h := heap_alloc_new w (.cells #[.int .i64 a, .int .i64 b] 3)
  have hd : ((w.alloc (.cells #[.int .i64 a, .int .i64 b] 3)).drew).heap[w.heap.size]? = some (.cells #[.int .i64 a, .int .i64 b] 3) := h
  refine or_any ?_ ?_ <;> rw [cell_of_block hd] <;> rfl

/-- cells of what waits -/
theorem wt_cells {w : World} {g n c : Nat} {l : List Wt} (h : w.ownsRow 0 138 3 (.slice (some ⟨g, 0, none⟩) n c) n (wtsV l)) {k : Nat} (hk : k < l.length) :
    w.cell? ⟨g, k * 3, none⟩ = some (.int .i64 (wat l k).id) ∧ w.cell? ⟨g, k * 3 + 1, none⟩ = some (.int .i64 (wat l k).far) ∧ w.cell? ⟨g, k * 3 + 2, none⟩ = some (ptrN (wat l k).nd) := by
  have hg := wat_get hk
  exact ⟨owns_cell h _ _ (wtsV_get l k _ hg 0 (by omega)), owns_cell h _ _ (wtsV_get l k _ hg 1 (by omega)), owns_cell h _ _ (wtsV_get l k _ hg 2 (by omega))⟩

set_option maxRecDepth 100000 in
set_option maxHeartbeats 1000000 in
theorem less_any {w : World} {g n c : Nat} {l : List Wt} (h : w.ownsRow 0 138 3 (.slice (some ⟨g, 0, none⟩) n c) n (wtsV l)) (hl : l.length = n) {i j : Nat} (hi : i < n) (hj : j < n) :
    Calls Tryz.prog 230 #[.slice (some ⟨g, 0, none⟩) n c, .int .i64 i, .int .i64 j] w (BoolPost (lessW (wat l i) (wat l j)) w) := by
  obtain ⟨i0, i1, -⟩ := wt_cells h (k := i) (by omega)
  obtain ⟨j0, j1, -⟩ := wt_cells h (k := j) (by omega)
  have hlo := less_or (wat l i) (wat l j)
  have HLO := hideIt hlo
  generalize lessW (wat l i) (wat l j) = B at *
  generalize (wat l i).id = I at *
  generalize (wat l i).far = IF at *
  generalize (wat l j).id = J at *
  generalize (wat l j).far = JF at *
  have HKEEP := hideIt (show ∀ w', Mod [] w w' → Mod [] w w' ∧ w'.cell? ⟨g, i * 3, none⟩ = some (.int .i64 I) ∧ w'.cell? ⟨g, i * 3 + 1, none⟩ = some (.int .i64 IF) ∧ w'.cell? ⟨g, j * 3, none⟩ = some (.int .i64 J) ∧ w'.cell? ⟨g, j * 3 + 1, none⟩ = some (.int .i64 JF) from fun w' hm => ⟨hm, cell_mod hm i0, cell_mod hm i1, cell_mod hm j0, cell_mod hm j1⟩)
  have hi' : (0 : Int) ≤ (i : Int) ∧ (i : Int) < (n : Int) := by omega
  have hj' : (0 : Int) ≤ (j : Int) ∧ (j : Int) < (n : Int) := by omega
  clear h hlo i0 i1 j0 j1
  go_enter Tryz.func230, Tryz.ntmps230
  go_wp2_with fail
  go_region_held (fun w' => Mod [] w w' ∧ w'.cell? ⟨g, i * 3, none⟩ = some (.int .i64 I) ∧ w'.cell? ⟨g, i * 3 + 1, none⟩ = some (.int .i64 IF) ∧ w'.cell? ⟨g, j * 3, none⟩ = some (.int .i64 J) ∧ w'.cell? ⟨g, j * 3 + 1, none⟩ = some (.int .i64 JF))
    ((first
      | exact HKEEP.out _ (Mod.drew _)
      | exact HKEEP.out _ ((Mod.alloc _ _).trans (Mod.drew _))
      | exact HKEEP.out _ (by simp only [*])
      | exact HKEEP.out _ (Mod.trans (by simp only [*]) (Mod.alloc _ _))))
    ((first
      | (go_at_call 141; refine (compareInt_any _ _ _).mono ?_; rintro e w' ⟨rfl, rfl⟩)
      | (go_at_call 140; refine (or_drew _ _ _).mono ?_; rintro e w'' ⟨rfl, rfl⟩)
      | (go_at_call 140; refine (or_new _ _ _).mono ?_; rintro e w'' ⟨rfl, rfl⟩)))
  all_goals
    rename_i hheld
    have hmm := hheld.1
    clear hheld
    go_wp2
    go_ret
    exact ⟨ret_bool HLO.out, hmm⟩

end Go.Proofs.YthimaoipogocfaaGreat
