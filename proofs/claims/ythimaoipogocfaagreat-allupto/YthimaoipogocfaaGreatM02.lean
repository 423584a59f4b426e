import Derived.Test.YthimaoipogocfaaGreatM01
import Derived.Test.YthimaoipogocfaaGreatJ03
import Derived.Test.YthimaoipogocfaaGreatJ15
namespace Go.Proofs.YthimaoipogocfaaGreat
open Go.RowKit
attribute [local go_sem] run_store_f32 run_neg_inf

/-! ### the queue in memory -/
def adN (o : Option Nat) : Option Addr := o.map fun p => ⟨p, 0, none⟩
abbrev ptrN (o : Option Nat) : Value := .pointer (adN o)
def wtCells (e : Wt) : List Value := [.int .i64 e.id, .int .i64 e.far, ptrN e.nd]
def wtsV (l : List Wt) : List Value := l.flatMap wtCells
theorem wtsV_length (l : List Wt) : (wtsV l).length = l.length * 3 := by
  induction l with
  | nil => rfl
  | cons a l ih => simp only [wtsV, List.flatMap_cons, List.length_append] at ih ⊢; rw [ih]; simp [wtCells]; omega
theorem wtsV_append (l m : List Wt) : wtsV (l ++ m) = wtsV l ++ wtsV m := by simp [wtsV]
theorem wtsV_get (l : List Wt) (k : Nat) (e : Wt) (h : l[k]? = some e) (j : Nat) (hj : j < 3) : (wtsV l)[k * 3 + j]? = (wtCells e)[j]? := by
  induction l generalizing k with
  | nil => simp at h
  | cons s L ih =>
    have e1 : wtsV (s :: L) = wtCells s ++ wtsV L := rfl
    have hl : (wtCells s).length = 3 := rfl
    rw [e1]
    cases k with
    | zero =>
      simp at h
      subst h
      rw [List.getElem?_append_left (by omega)]
      congr 1
      omega
    | succ k =>
      simp at h
      rw [List.getElem?_append_right (by omega), hl, ← ih k h]
      congr 1
      omega
theorem ptrN_one (o : Option Nat) : (ptrN o).oneCell' = true := rfl
theorem wtsV_one (l : List Wt) : ∀ u ∈ wtsV l, u.oneCell' = true := by
  intro u hu
  obtain ⟨e, _, hu⟩ := List.mem_flatMap.1 hu
  simp [wtCells] at hu
  rcases hu with rfl | rfl | rfl
  · rfl
  · rfl
  · exact ptrN_one _
abbrev qO (v : Value) : Obj := .cells #[v] 140 (0, 0)
theorem cell_qO {w : World} {p : Nat} {v : Value} (h : w.heap[p]? = some (qO v)) : w.cell? ⟨p, 0, none⟩ = some v := by rw [cell_of_block h]; rfl
theorem qO_set {w : World} {p : Nat} {v : Value} (h : w.heap[p]? = some (qO v)) (v' : Value) : (w.setCell ⟨p, 0, none⟩ v').heap[p]? = some (qO v') := by rw [block_setCell h]; rfl

/-! ### methods, found by their names -/
theorem run_nilchk (a : Addr) (x y : String) (w : World) : (Builtin.ssaWrapNilChk_ #[136] 136 #[.pointer (some a), strVal x, strVal y]).run Tryz.prog w = .ok (.pointer (some a)) w := rfl
theorem run_mV {w : World} {qb : Nat} {v : Value} (h : w.heap[qb]? = some (qO v)) {nm : String} {f : FuncId} (hs : selOf Tryz.prog 136 nm = some ([], some (f, false))) (n : Nat) :
    (method (n + 1) 136 (.pointer (some ⟨qb, 0, none⟩)) nm).run Tryz.prog w = .ok (f, v) w := by
  have c0 := cell_qO h
  unfold selOf at hs
  obtain ⟨i, hi, hs⟩ := Option.bind_eq_some_iff.1 hs
  obtain ⟨m, hm, hs⟩ := Option.map_eq_some_iff.1 hs
  obtain ⟨nmm, sig, path, func⟩ := m
  simp only [Prod.mk.injEq] at hs
  obtain ⟨h1, rfl⟩ := hs
  have hpath : path.toList = [] := List.map_eq_nil_iff.1 h1
  have hp : path = #[] := by cases path; simp at hpath; simp [hpath]
  unfold method
  simp [typeInfo, hi, hm, hpath, follow, run_underlying Tryz.underlying136, receiverAt, Place.get, asAddr, loadVar]
  simp [hp, run_nilchk, isAgg, run_underlying Tryz.underlying140, go_sem, c0]
theorem run_mP {w : World} {qb : Nat} {nm : String} {f : FuncId} (hs : selOf Tryz.prog 136 nm = some ([], some (f, true))) (n : Nat) :
    (method (n + 1) 136 (.pointer (some ⟨qb, 0, none⟩)) nm).run Tryz.prog w = .ok (f, .pointer (some ⟨qb, 0, none⟩)) w := by
  unfold selOf at hs
  obtain ⟨i, hi, hs⟩ := Option.bind_eq_some_iff.1 hs
  obtain ⟨m, hm, hs⟩ := Option.map_eq_some_iff.1 hs
  obtain ⟨nmm, sig, path, func⟩ := m
  simp only [Prod.mk.injEq] at hs
  obtain ⟨h1, rfl⟩ := hs
  have hpath : path.toList = [] := List.map_eq_nil_iff.1 h1
  unfold method
  simp [typeInfo, hi, hm, hpath, follow, run_underlying Tryz.underlying136, receiverAt, Place.get, asAddr, loadVar]
theorem sel_Len : selOf Tryz.prog 136 "Len" = some ([], some (73, false)) := by kernel_rfl
theorem sel_Less : selOf Tryz.prog 136 "Less" = some ([], some (230, false)) := by kernel_rfl
theorem sel_Swap : selOf Tryz.prog 136 "Swap" = some ([], some (233, false)) := by kernel_rfl
theorem sel_Push : selOf Tryz.prog 136 "Push" = some ([], some (232, true)) := by kernel_rfl
theorem sel_Pop : selOf Tryz.prog 136 "Pop" = some ([], some (231, true)) := by kernel_rfl

end Go.Proofs.YthimaoipogocfaaGreat

namespace Go.Proofs.YthimaoipogocfaaGreat
open Go.RowKit
attribute [local go_sem] run_store_f32 run_neg_inf

theorem owns_set {w : World} {base : Nat} {e : TypeId} {size g n c : Nat} {xs : List Value} (h : w.ownsRow base e size (.slice (some ⟨g, 0, none⟩) n c) n xs) (j : Nat) (u : Value) : (w.setCell ⟨g, j, none⟩ u).ownsRow base e size (.slice (some ⟨g, 0, none⟩) n c) n (xs.set j u) := by
  refine ⟨by rw [List.length_set]; exact h.1, ?_⟩
  rcases h.2 with ⟨h0, _⟩ | ⟨g', cap, cur, hv, hb, hg, hnc, hcm, hcs, htake⟩
  · cases h0
  · simp only [Value.slice.injEq, Option.some.injEq, Addr.mk.injEq, and_true, true_and] at hv
    obtain ⟨rfl, rfl⟩ := hv
    refine .inr ⟨g, c, cur.setIfInBounds j u, rfl, hb, ?_, hnc, hcm, by simpa using hcs, ?_⟩
    · rw [block_setCell hg]
    · rw [← htake, Array.toList_setIfInBounds, List.take_set]

theorem wtsV_set (l : List Wt) (i : Nat) (e : Wt) (hi : i < l.length) : wtsV (l.set i e) = (((wtsV l).set (i * 3) (.int .i64 e.id)).set (i * 3 + 1) (.int .i64 e.far)).set (i * 3 + 2) (ptrN e.nd) := by
  induction l generalizing i with
  | nil => simp at hi
  | cons a l ih =>
    have e1 : ∀ (b : Wt) m, wtsV (b :: m) = wtCells b ++ wtsV m := fun _ _ => rfl
    cases i with
    | zero =>
      rw [List.set_cons_zero, e1, e1]
      simp [wtCells]
    | succ i =>
      rw [List.set_cons_succ, e1, e1, ih i (by simpa using hi)]
      have hl : (wtCells a).length = 3 := rfl
      rw [List.set_append_right _ _ (by omega), List.set_append_right _ _ (by omega), List.set_append_right _ _ (by omega), hl]
      congr 2
      · congr 1
        · congr 1
          omega
        · omega
      · omega

def lessW (a b : Wt) : Bool := decide (a.far < b.far ∨ (a.far = b.far ∧ a.id < b.id))
theorem lessW_iff {a b : Wt} : lessW a b = true ↔ (a.far < b.far ∨ (a.far = b.far ∧ a.id < b.id)) := by simp [lessW]
theorem lessW_le {a b : Wt} (h : lessW a b = true) : a.le b := by have := lessW_iff.1 h; unfold Wt.le; omega
theorem not_lessW_le {a b : Wt} (h : lessW a b = false) : b.le a := by
  have : ¬ (a.far < b.far ∨ (a.far = b.far ∧ a.id < b.id)) := fun hn => by rw [lessW_iff.2 hn] at h; cases h
  unfold Wt.le
  omega
theorem less_or (a b : Wt) : decide (orF (cmpF a.far b.far) (cmpF a.id b.id) < 0) = lessW a b := by
  unfold orF cmpF lessW
  rw [decide_eq_decide]
  by_cases h1 : a.far < b.far
  · simp [h1]
  · by_cases h2 : b.far < a.far
    · simp [h1, h2]
      omega
    · by_cases h3 : a.id < b.id
      · simp [h1, h2, h3]
        omega
      · by_cases h4 : b.id < a.id
        · simp [h1, h2, h3, h4]
        · simp [h1, h2, h3, h4]

theorem or_drew (a b : Int) (w : World) : Calls Tryz.prog 140 #[.slice (some ⟨w.heap.size, 0, none⟩) 2 2] ((w.alloc (.cells #[.int .i64 a, .int .i64 b] 3)).drew) (IntEq (orF a b) ((w.alloc (.cells #[.int .i64 a, .int .i64 b] 3)).drew)) := by
  have h := heap_alloc_new w (.cells #[.int .i64 a, .int .i64 b] 3)
  have hd : ((w.alloc (.cells #[.int .i64 a, .int .i64 b] 3)).drew).heap[w.heap.size]? = some (.cells #[.int .i64 a, .int .i64 b] 3) := h
  refine or_any ?_ ?_ <;> rw [cell_of_block hd] <;> rfl

/-- cells of what waits -/
theorem wt_cells {w : World} {g n c : Nat} {l : List Wt} (h : w.ownsRow 0 138 3 (.slice (some ⟨g, 0, none⟩) n c) n (wtsV l)) {k : Nat} (hk : k < l.length) :
    w.cell? ⟨g, k * 3, none⟩ = some (.int .i64 (wat l k).id) ∧ w.cell? ⟨g, k * 3 + 1, none⟩ = some (.int .i64 (wat l k).far) ∧ w.cell? ⟨g, k * 3 + 2, none⟩ = some (ptrN (wat l k).nd) := by
  have hg := wat_get hk
  exact ⟨owns_cell h _ _ (wtsV_get l k _ hg 0 (by omega)), owns_cell h _ _ (wtsV_get l k _ hg 1 (by omega)), owns_cell h _ _ (wtsV_get l k _ hg 2 (by omega))⟩

set_option maxRecDepth 100000 in
set_option maxHeartbeats 1000000 in
theorem less_any {w : World} {g n c : Nat} {l : List Wt} (h : w.ownsRow 0 138 3 (.slice (some ⟨g, 0, none⟩) n c) n (wtsV l)) (hl : l.length = n) {i j : Nat} (hi : i < n) (hj : j < n) :
    Calls Tryz.prog 230 #[.slice (some ⟨g, 0, none⟩) n c, .int .i64 i, .int .i64 j] w (BoolPost (lessW (wat l i) (wat l j)) w) := by
  obtain ⟨i0, i1, -⟩ := wt_cells h (k := i) (by omega)
  obtain ⟨j0, j1, -⟩ := wt_cells h (k := j) (by omega)
  have hlo := less_or (wat l i) (wat l j)
  have HLO := hideIt hlo
  generalize lessW (wat l i) (wat l j) = B at *
  generalize (wat l i).id = I at *
  generalize (wat l i).far = IF at *
  generalize (wat l j).id = J at *
  generalize (wat l j).far = JF at *
  have HKEEP := hideIt (show ∀ w', Mod [] w w' → Mod [] w w' ∧ w'.cell? ⟨g, i * 3, none⟩ = some (.int .i64 I) ∧ w'.cell? ⟨g, i * 3 + 1, none⟩ = some (.int .i64 IF) ∧ w'.cell? ⟨g, j * 3, none⟩ = some (.int .i64 J) ∧ w'.cell? ⟨g, j * 3 + 1, none⟩ = some (.int .i64 JF) from fun w' hm => ⟨hm, cell_mod hm i0, cell_mod hm i1, cell_mod hm j0, cell_mod hm j1⟩)
  have hi' : (0 : Int) ≤ (i : Int) ∧ (i : Int) < (n : Int) := by omega
  have hj' : (0 : Int) ≤ (j : Int) ∧ (j : Int) < (n : Int) := by omega
  clear h hlo i0 i1 j0 j1
  go_enter Tryz.func230, Tryz.ntmps230
  go_wp2_with fail
  go_region_held (fun w' => Mod [] w w' ∧ w'.cell? ⟨g, i * 3, none⟩ = some (.int .i64 I) ∧ w'.cell? ⟨g, i * 3 + 1, none⟩ = some (.int .i64 IF) ∧ w'.cell? ⟨g, j * 3, none⟩ = some (.int .i64 J) ∧ w'.cell? ⟨g, j * 3 + 1, none⟩ = some (.int .i64 JF))
    ((first
      | exact HKEEP.out _ (Mod.drew _)
      | exact HKEEP.out _ ((Mod.alloc _ _).trans (Mod.drew _))
      | exact HKEEP.out _ (by simp only [*])
      | exact HKEEP.out _ (Mod.trans (by simp only [*]) (Mod.alloc _ _))))
    ((first
      | (go_at_call 141; refine (compareInt_any _ _ _).mono ?_; rintro e w' ⟨rfl, rfl⟩)
      | (go_at_call 140; refine (or_drew _ _ _).mono ?_; rintro e w'' ⟨rfl, rfl⟩)
      | (go_at_call 140; refine (or_new _ _ _).mono ?_; rintro e w'' ⟨rfl, rfl⟩)))
  all_goals
    rename_i hheld
    have hmm := hheld.1
    clear hheld
    go_wp2
    go_ret
    exact ⟨ret_bool HLO.out, hmm⟩

end Go.Proofs.YthimaoipogocfaaGreat

namespace Go.Proofs.YthimaoipogocfaaGreat
open Go.RowKit
attribute [local go_sem] run_store_f32 run_neg_inf

def SwapPost (g n c : Nat) (l : List Wt) (w : World) (e : Ending) (w' : World) : Prop := e = .returned (.tuple #[]) ∧ w'.ownsRow 0 138 3 (.slice (some ⟨g, 0, none⟩) n c) n (wtsV l) ∧ Mod [g] w w'

theorem swap_row {w : World} {g n c : Nat} {l : List Wt} (h : w.ownsRow 0 138 3 (.slice (some ⟨g, 0, none⟩) n c) n (wtsV l)) (hl : l.length = n) {i j : Nat} (hi : i < n) (hj : j < n) {W : World}
    (hW : W = ((((((w.setCell ⟨g, i * 3, none⟩ (.int .i64 (wat l j).id)).setCell ⟨g, i * 3 + 1, none⟩ (.int .i64 (wat l j).far)).setCell ⟨g, i * 3 + 2, none⟩ (ptrN (wat l j).nd)).setCell ⟨g, j * 3, none⟩ (.int .i64 (wat l i).id)).setCell ⟨g, j * 3 + 1, none⟩ (.int .i64 (wat l i).far)).setCell ⟨g, j * 3 + 2, none⟩ (ptrN (wat l i).nd))) :
    W.ownsRow 0 138 3 (.slice (some ⟨g, 0, none⟩) n c) n (wtsV (swapW l i j)) ∧ Mod [g] w W := by
  subst hW
  constructor
  · have e : wtsV (swapW l i j) = (((((((wtsV l).set (i * 3) (.int .i64 (wat l j).id)).set (i * 3 + 1) (.int .i64 (wat l j).far)).set (i * 3 + 2) (ptrN (wat l j).nd))).set (j * 3) (.int .i64 (wat l i).id)).set (j * 3 + 1) (.int .i64 (wat l i).far)).set (j * 3 + 2) (ptrN (wat l i).nd) := by
      unfold swapW
      rw [wtsV_set _ j _ (by rw [List.length_set]; omega), wtsV_set _ i _ (by omega)]
    rw [e]
    exact owns_set (owns_set (owns_set (owns_set (owns_set (owns_set h _ _) _ _) _ _) _ _) _ _) _ _
  · exact (((((Mod.setCell _ _ _ (by simp)).trans (Mod.setCell _ _ _ (by simp))).trans (Mod.setCell _ _ _ (by simp))).trans (Mod.setCell _ _ _ (by simp))).trans (Mod.setCell _ _ _ (by simp))).trans (Mod.setCell _ _ _ (by simp))

theorem frozen_row {w : World} {e : TypeId} {size g n c : Nat} {xs : List Value} (h : w.ownsRow 0 e size (.slice (some ⟨g, 0, none⟩) n c) n xs) (o : Nat) : w.frozen? ⟨g, o, none⟩ = false := by
  rcases h.2 with ⟨h0, _⟩ | ⟨g', cap, cur, hv, hb, hg, _⟩
  · cases h0
  · simp only [Value.slice.injEq, Option.some.injEq, Addr.mk.injEq, and_true, true_and] at hv
    obtain ⟨rfl, rfl⟩ := hv
    exact frozen_of_block hg o

set_option maxRecDepth 100000 in
set_option maxHeartbeats 1000000 in
theorem swap_same {w : World} {g n c : Nat} {l : List Wt} (h : w.ownsRow 0 138 3 (.slice (some ⟨g, 0, none⟩) n c) n (wtsV l)) (hl : l.length = n) {i : Nat} (hi : i < n) :
    Calls Tryz.prog 233 #[.slice (some ⟨g, 0, none⟩) n c, .int .i64 i, .int .i64 i] w (SwapPost g n c (swapW l i i) w) := by
  obtain ⟨i0, i1, i2⟩ := wt_cells h (k := i) (by omega)
  have fz := fun o => frozen_row h o
  have hglt : g < w.heap.size := owns_lt h rfl
  have HF := hideIt (fun (W : World) => swap_row (W := W) h hl hi hi)
  have hi' : (0 : Int) ≤ (i : Int) ∧ (i : Int) < (n : Int) := by omega
  generalize (wat l i).id = I at *
  generalize (wat l i).far = IF at *
  simp only [ptrN] at i2
  have hd := Mod.drew (F := []) w
  have di0 := cell_mod hd i0
  have di1 := cell_mod hd i1
  have di2 := cell_mod hd i2
  have dfz : ∀ o, w.drew.frozen? ⟨g, o, none⟩ = false := fz
  have hgd : g < w.drew.heap.size := hglt
  clear h hd
  go_enter Tryz.func233, Tryz.ntmps233
  go_wp2_with fail
  go_region
  all_goals
    obtain ⟨hrow, hmod⟩ := HF.out _ rfl
    have HP := hideIt (And.intro (owns_kept hrow (Mod.drew (F := []) _) (by simp)) (hmod.trans (Mod.drew _)))
    clear hrow hmod HF
    go_end0
    exact ⟨rfl, HP.out.1, HP.out.2⟩

set_option maxRecDepth 100000 in
set_option maxHeartbeats 1000000 in
theorem swap_ne {w : World} {g n c : Nat} {l : List Wt} (h : w.ownsRow 0 138 3 (.slice (some ⟨g, 0, none⟩) n c) n (wtsV l)) (hl : l.length = n) {i j : Nat} (hi : i < n) (hj : j < n) (hij : i ≠ j) :
    Calls Tryz.prog 233 #[.slice (some ⟨g, 0, none⟩) n c, .int .i64 i, .int .i64 j] w (SwapPost g n c (swapW l i j) w) := by
  obtain ⟨i0, i1, i2⟩ := wt_cells h (k := i) (by omega)
  obtain ⟨j0, j1, j2⟩ := wt_cells h (k := j) (by omega)
  have fz := fun o => frozen_row h o
  have hglt : g < w.heap.size := owns_lt h rfl
  have HF := hideIt (fun (W : World) => swap_row (W := W) h hl hi hj)
  have hi' : (0 : Int) ≤ (i : Int) ∧ (i : Int) < (n : Int) := by omega
  have hj' : (0 : Int) ≤ (j : Int) ∧ (j : Int) < (n : Int) := by omega
  generalize (wat l i).id = I at *
  generalize (wat l i).far = IF at *
  simp only [ptrN] at i2
  generalize (wat l j).id = J at *
  generalize (wat l j).far = JF at *
  simp only [ptrN] at j2
  have hd := Mod.drew (F := []) w
  have di0 := cell_mod hd i0
  have di1 := cell_mod hd i1
  have di2 := cell_mod hd i2
  have dj0 := cell_mod hd j0
  have dj1 := cell_mod hd j1
  have dj2 := cell_mod hd j2
  have dfz : ∀ o, w.drew.frozen? ⟨g, o, none⟩ = false := fz
  have hgd : g < w.drew.heap.size := hglt
  clear h hd
  go_enter Tryz.func233, Tryz.ntmps233
  go_wp2_with fail
  go_region
  all_goals
    obtain ⟨hrow, hmod⟩ := HF.out _ rfl
    have HP := hideIt (And.intro (owns_kept hrow (Mod.drew (F := []) _) (by simp)) (hmod.trans (Mod.drew _)))
    clear hrow hmod HF
    go_end0
    exact ⟨rfl, HP.out.1, HP.out.2⟩

theorem swap_any {w : World} {g n c : Nat} {l : List Wt} (h : w.ownsRow 0 138 3 (.slice (some ⟨g, 0, none⟩) n c) n (wtsV l)) (hl : l.length = n) {i j : Nat} (hi : i < n) (hj : j < n) :
    Calls Tryz.prog 233 #[.slice (some ⟨g, 0, none⟩) n c, .int .i64 i, .int .i64 j] w (SwapPost g n c (swapW l i j) w) := by
  by_cases hij : i = j
  · subst hij
    exact swap_same h hl hi
  · exact swap_ne h hl hi hj hij

/-! ### the queue: what it holds, where -/
structure QAt (w : World) (qb : Nat) (l : List Wt) (v : Value) : Prop where
  here : w.heap[qb]? = some (qO v)
  row : w.ownsRow 0 138 3 v l.length (wtsV l)
  ne : qb ∉ v.ownBlock.toList

theorem QAt.kept {w w' : World} {qb : Nat} {l : List Wt} {v : Value} {G : List Nat} (h : QAt w qb l v) (hm : Mod G w w') (h1 : qb ∉ G) (h2 : ∀ x ∈ v.ownBlock.toList, x ∉ G) : QAt w' qb l v :=
  ⟨(hm.block qb (lt_of_block h.here) h1).trans h.here, owns_kept h.row hm (fun k hk => h2 k (by rw [hk]; simp)), h.ne⟩
theorem QAt.keep {w w' : World} {qb : Nat} {l : List Wt} {v : Value} (h : QAt w qb l v) (hm : Mod [] w w') : QAt w' qb l v := h.kept hm (by simp) (by simp)

set_option maxRecDepth 100000 in
theorem qlen_any {w : World} {g n c : Nat} : Calls Tryz.prog 73 #[.slice (some ⟨g, 0, none⟩) n c] w fun e w' => e = .returned (.int .i64 n) ∧ w = w' := by
  go_enter Tryz.func73, Tryz.ntmps73
  go_wp2
  go_ret
  exact ⟨rfl, rfl⟩

set_option maxRecDepth 100000 in
theorem qlen_nil {w : World} : Calls Tryz.prog 73 #[.slice none 0 0] w fun e w' => e = .returned (.int .i64 0) ∧ w = w' := by
  go_enter Tryz.func73, Tryz.ntmps73
  go_wp2
  go_ret
  exact ⟨rfl, rfl⟩

end Go.Proofs.YthimaoipogocfaaGreat

namespace Go.Proofs.YthimaoipogocfaaGreat
open Go.RowKit
attribute [local go_sem] run_store_f32 run_neg_inf

theorem infoW : (Tryz.prog.info? 138).map (fun i => (i.zero, i.size, i.bytes)) = some (some (.agg #[.int .i64 0, .int .i64 0, .pointer none]), 3, 24) := by kernel_rfl

abbrev wtV (e : Wt) : Value := .agg #[.int .i64 e.id, .int .i64 e.far, .pointer (adN e.nd)]
abbrev wtI (e : Wt) : Value := .iface 138 (wtV e)

theorem run_assertW (x : Value) (w : World) : (Instr.typeAssert (.iface 138 x) 20 138 false).run Tryz.prog w = .ok x w := by
  simp [Instr.typeAssert, run_underlying Tryz.underlying138]

/-- something more waits, or something less -/
def QPost (qb : Nat) (l : List Wt) (v : Value) (w : World) (e : Ending) (w' : World) : Prop := e = .returned (.tuple #[]) ∧ ∃ v', QAt w' qb l v' ∧ (∀ x ∈ v'.ownBlock.toList, x ∈ v.ownBlock.toList ∨ w.heap.size ≤ x) ∧ Mod (qb :: v.ownBlock.toList) w w'

theorem pushed {w w4 w5 : World} {qb g5 c5 : Nat} {l : List Wt} {e : Wt} {v : Value} (hq : QAt w qb l v) (hm : Mod [] w w4) (ho : w5.ownsRow 0 138 3 (.slice (some ⟨g5, 0, none⟩) (l.length + 1) c5) (l.length + 1) (catL (wtsV l) (wtCells e))) (hm5 : Mod v.ownBlock.toList w4 w5) (hat : v.ownBlock = some g5 ∨ g5 = w4.heap.size) :
    w5.heap[qb]? = some (qO v) ∧ QPost qb (l ++ [e]) v w (.returned (.tuple #[])) (w5.setCell ⟨qb, 0, none⟩ (.slice (some ⟨g5, 0, none⟩) (l.length + 1) c5)) := by
  have hlt := lt_of_block hq.here
  have hs := hm.size
  have h5 : w5.heap[qb]? = some (qO v) := (hm5.block qb (by omega) hq.ne).trans ((hm.block qb hlt (by simp)).trans hq.here)
  have hg : g5 ∈ v.ownBlock.toList ∨ w.heap.size ≤ g5 := by
    rcases hat with h | h
    · exact .inl (by rw [h]; simp)
    · exact .inr (by omega)
  have hne : g5 ≠ qb := fun h => by
    rcases hg with h1 | h1
    · exact hq.ne (h ▸ h1)
    · omega
  refine ⟨h5, rfl, .slice (some ⟨g5, 0, none⟩) (l.length + 1) c5, ⟨qO_set h5 _, ?_, ?_⟩, fun x hx => ?_, (hm.nil.trans (hm5.mono (by simp +contextual))).trans (Mod.setCell _ _ _ (by simp))⟩
  · have e1 : catL (wtsV l) (wtCells e) = wtsV (l ++ [e]) := by rw [wtsV_append]; simp [catL, wtsV]
    have := owns_kept ho (Mod.setCell (F := [qb]) w5 ⟨qb, 0, none⟩ (.slice (some ⟨g5, 0, none⟩) (l.length + 1) c5) (by simp)) (fun x hx => by simp [Value.ownBlock] at hx; subst hx; simpa using hne)
    rw [e1] at this
    rw [List.length_append]
    exact this
  · simp [Value.ownBlock]
    exact fun h => hne h.symm
  · simp [Value.ownBlock] at hx
    subst hx
    exact hg

set_option maxRecDepth 100000 in
set_option maxHeartbeats 1000000 in
theorem qpush_any {w : World} {qb : Nat} {l : List Wt} {v : Value} (h : QAt w qb l v) (e : Wt) (hl : l.length ≤ 100000) :
    Calls Tryz.prog 232 #[.pointer (some ⟨qb, 0, none⟩), wtI e] w (QPost qb (l ++ [e]) v w) := by
  obtain ⟨i0, hi, hz0, hz1, hz2⟩ := info_partsB infoW
  have cq := cell_qO h.here
  have hta := run_assertW (wtV e)
  have cqb : ∀ o, (w.alloc o).cell? ⟨qb, 0, none⟩ = some v := fun o => cell_mod (Mod.alloc _ _) cq
  have HSRC := hideIt (show srcRow ((w.alloc (.cells #[.int .i64 e.id, .int .i64 e.far, .pointer (adN e.nd)] 138)).drew) 3 (.slice (some ⟨w.heap.size, 0, none⟩) 1 1) 1 (wtCells e) from
    srcRow_mod (srcRow_of_owns (owns_allocB (w := w) (cur := #[.int .i64 e.id, .int .i64 e.far, .pointer (adN e.nd)]) (e := 138) (n := 1) (size := 3) rfl (by decide) (base := 0) (Nat.zero_le _)) (fun u hu => wtsV_one [e] u (by simpa [wtsV, wtCells] using hu))) (Mod.drew _))
  have hmA : Mod [] w ((w.alloc (.cells #[.int .i64 e.id, .int .i64 e.far, .pointer (adN e.nd)] 138)).drew) := (Mod.alloc _ _).trans (Mod.drew _)
  have HOWN := hideIt (show ((w.alloc (.cells #[.int .i64 e.id, .int .i64 e.far, .pointer (adN e.nd)] 138)).drew).ownsRow 0 138 3 v l.length (wtsV l) from owns_kept h.row hmA (by simp))
  have HP := hideIt (fun (w5 : World) (g5 c5 : Nat) => pushed (e := e) (w5 := w5) (g5 := g5) (c5 := c5) h hmA)
  clear h hmA
  go_enter Tryz.func232, Tryz.ntmps232
  go_wp2_with fail
  go_region_law (refine step_append_rows _ rfl _ _ 140 rfl 0 138 i0 (.agg #[.int .i64 0, .int .i64 0, .pointer none]) 3 24 Tryz.underlying140 hi hz0 hz1 hz2 rfl (by decide) _ l.length (wtsV l) rfl HOWN.out _ 1 (wtCells e) rfl HSRC.out (by omega) (by unfold maxLen; omega) (by omega) (Nat.zero_le _) ?_; intro g5 c5 w5 ho5 hm5 hat5; obtain ⟨hp5, hfin⟩ := HP.out w5 g5 c5 ho5 hm5 hat5; have hc5 := cell_qO hp5; have hf5 := frozen_of_block hp5 0)
  all_goals
    have HF := hideIt hfin
    clear hfin ho5 hm5 hat5 hp5 hc5 hf5 HSRC HOWN HP cq cqb hta
    go_wp2
    go_end0
    exact HF.out

end Go.Proofs.YthimaoipogocfaaGreat

namespace Go.Proofs.YthimaoipogocfaaGreat
open Go.RowKit
attribute [local go_sem] run_store_f32 run_neg_inf

theorem owns_shrink {w : World} {e : TypeId} {size g n m c : Nat} {xs : List Value} (h : w.ownsRow 0 e size (.slice (some ⟨g, 0, none⟩) n c) n xs) (hm : m ≤ n) : w.ownsRow 0 e size (.slice (some ⟨g, 0, none⟩) m c) m (xs.take (m * size)) := by
  have hl := h.1
  have hms : m * size ≤ n * size := Nat.mul_le_mul_right _ hm
  refine ⟨by rw [List.length_take]; omega, ?_⟩
  rcases h.2 with ⟨h0, _⟩ | ⟨g', cap, cur, hv, hb, hg, hnc, hcm, hcs, htake⟩
  · cases h0
  · simp only [Value.slice.injEq, Option.some.injEq, Addr.mk.injEq, and_true, true_and] at hv
    obtain ⟨rfl, rfl⟩ := hv
    exact .inr ⟨g, c, cur, rfl, hb, hg, by omega, hcm, hcs, by rw [← htake, List.take_take, Nat.min_eq_left hms]⟩
theorem wtsV_take (l : List Wt) (n : Nat) (h : n ≤ l.length) : wtsV (l.take n) = (wtsV l).take (n * 3) := by
  have e : wtsV l = wtsV (l.take n) ++ wtsV (l.drop n) := by rw [← wtsV_append, List.take_append_drop]
  rw [e]
  refine (List.take_left' ?_).symm
  rw [wtsV_length, List.length_take, Nat.min_eq_left h]

def PopPost (qb g n c : Nat) (l : List Wt) (w : World) (e : Ending) (w' : World) : Prop := e = .returned (wtI (wat l n)) ∧ QAt w' qb (l.take n) (.slice (some ⟨g, 0, none⟩) n c) ∧ Mod [qb] w w'

set_option maxRecDepth 100000 in
set_option maxHeartbeats 1000000 in
theorem qpop_any {w : World} {qb g n c : Nat} {l : List Wt} (h : QAt w qb l (.slice (some ⟨g, 0, none⟩) (n + 1) c)) (hl : l.length = n + 1) (hn : n ≤ 100000) :
    Calls Tryz.prog 231 #[.pointer (some ⟨qb, 0, none⟩)] w (PopPost qb g n c l w) := by
  have hrow := h.row
  rw [hl] at hrow
  obtain ⟨i0, i1, i2⟩ := wt_cells hrow (k := n) (by omega)
  have cq := cell_qO h.here
  have fz := frozen_of_block h.here 0
  have hlt := lt_of_block h.here
  have hcap : n + 1 ≤ c := by
    rcases hrow.2 with ⟨h0, _⟩ | ⟨g', cap, cur, hv, hb, hg, hnc, _⟩
    · cases h0
    · simp only [Value.slice.injEq, Option.some.injEq, Addr.mk.injEq, and_true, true_and] at hv
      obtain ⟨rfl, rfl⟩ := hv
      exact hnc
  have HF := hideIt (show ∀ W, W = w.setCell ⟨qb, 0, none⟩ (.slice (some ⟨g, 0, none⟩) n c) → QAt W qb (l.take n) (.slice (some ⟨g, 0, none⟩) n c) ∧ Mod [qb] w W from fun W hW => by
    subst hW
    have hms := Mod.setCell (F := [qb]) w ⟨qb, 0, none⟩ (.slice (some ⟨g, 0, none⟩) n c) (by simp)
    have hne : qb ≠ g := fun e => h.ne (by rw [e]; simp [Value.ownBlock])
    have hlen : (l.take n).length = n := by rw [List.length_take]; omega
    refine ⟨⟨qO_set h.here _, ?_, by simpa [Value.ownBlock] using hne⟩, hms⟩
    rw [hlen, wtsV_take l n (by omega)]
    exact owns_kept (owns_shrink hrow (by omega)) hms (fun k hk => by simp [Value.ownBlock] at hk; subst hk; simpa using fun e => hne e.symm))
  simp only [ptrN] at i2
  clear hrow h
  go_enter Tryz.func231, Tryz.ntmps231
  go_wp2
  obtain ⟨k1, k2⟩ := HF.out _ rfl
  have HP := hideIt (show ∀ o, QAt ((w.setCell ⟨qb, 0, none⟩ (.slice (some ⟨g, 0, none⟩) n c)).alloc o) qb (l.take n) (.slice (some ⟨g, 0, none⟩) n c) ∧ Mod [qb] w ((w.setCell ⟨qb, 0, none⟩ (.slice (some ⟨g, 0, none⟩) n c)).alloc o) from fun o => ⟨k1.keep (Mod.alloc _ _), k2.trans (Mod.alloc _ _)⟩)
  clear k1 k2 HF
  go_ret
  exact ⟨rfl, (HP.out _).1, (HP.out _).2⟩

/-! ### container/heap over the queue -/
abbrev qI (qb : Nat) : Value := .iface 136 (.pointer (some ⟨qb, 0, none⟩))

/-- the queue, its row written out -/
structure QRow (w : World) (qb g n c : Nat) (l : List Wt) : Prop where
  q : QAt w qb l (.slice (some ⟨g, 0, none⟩) n c)
  len : l.length = n
theorem QRow.row {w : World} {qb g n c : Nat} {l : List Wt} (h : QRow w qb g n c l) : w.ownsRow 0 138 3 (.slice (some ⟨g, 0, none⟩) n c) n (wtsV l) := by
  have := h.q.row
  rw [h.len] at this
  exact this
theorem QRow.keep {w w' : World} {qb g n c : Nat} {l : List Wt} (h : QRow w qb g n c l) (hm : Mod [] w w') : QRow w' qb g n c l := ⟨h.q.keep hm, h.len⟩
theorem QRow.ne {w : World} {qb g n c : Nat} {l : List Wt} (h : QRow w qb g n c l) : qb ≠ g := fun e => h.q.ne (by rw [e]; simp [Value.ownBlock])
theorem QRow.swapped {w w' : World} {qb g n c : Nat} {l l' : List Wt} {e : Ending} (h : QRow w qb g n c l) (hs : SwapPost g n c l' w e w') (hl : l'.length = n) : QRow w' qb g n c l' ∧ Mod [g] w w' := by
  obtain ⟨_, k1, k2⟩ := hs
  refine ⟨⟨⟨(k2.block qb (lt_of_block h.q.here) (by simpa using h.ne)).trans h.q.here, by rw [hl]; exact k1, h.q.ne⟩, hl⟩, k2⟩

def UpPost (qb g n c : Nat) (l : List Wt) (w : World) (e : Ending) (w' : World) : Prop := e = .returned (.tuple #[]) ∧ ∃ l', QRow w' qb g n c l' ∧ l'.Perm l ∧ HeapW l' n ∧ Mod [g] w w'

set_option maxRecDepth 100000 in
set_option maxHeartbeats 1000000 in
theorem up_any {w : World} {qb g n c : Nat} {l : List Wt} (h : QRow w qb g n c l) (hn : n ≤ 100000) {j : Nat} (hj : j < n) (hu : UpW l n j) :
    Calls Tryz.prog 147 #[qI qb, .int .i64 j] w (UpPost qb g n c l w) := by
  have H := hideIt (And.intro h hu)
  clear h hu
  go_enter Tryz.func147, Tryz.ntmps147
  go_wp2_with fail
  go_loopw [1] (fun jv wr => ∃ k : Nat, k < n ∧ jv = .int .i64 k ∧ Hid (∃ l', QRow wr qb g n c l' ∧ l'.Perm l ∧ UpW l' n k ∧ Mod [g] w wr)) (fun jv _ => (intOf jv).toNat)
  case atStart => exact ⟨j, hj, rfl, hideIt ⟨l, H.out.1, .refl _, H.out.2, Mod.refl _ _⟩⟩
  case round =>
    obtain ⟨k, hk, rfl, hR⟩ := hrel
    obtain ⟨l', hq, hp, hu, hm⟩ := hR.out
    by_cases h0 : k = 0
    · subst h0
      have HF := hideIt (show UpPost qb g n c l w (.returned (.tuple #[])) wr from ⟨rfl, l', hq, hp, hu.done (.inl rfl), hm⟩)
      clear hR hq hp hu hm
      go_wp2
      go_end0
      exact HF.out
    · obtain ⟨i, hi⟩ : ∃ i, i = (k - 1) / 2 := ⟨_, rfl⟩
      have hdiv : ((k : Int) - 1).tdiv 2 = (i : Int) := by
        rw [hi, show (k : Int) - 1 = ((k - 1 : Nat) : Int) by omega]
        rfl
      have hik : i < k := by omega
      have hne : ((i : Int) == (k : Int)) = false := by simp; omega
      have HLESS := hideIt (less_any hq.row hq.len hk (show i < n by omega))
      have HSWAP := hideIt (fun W (hm : Mod [] wr W) => swap_any (hq.keep hm).row hq.len (show i < n by omega) hk)
      have hmeth := fun N => run_mV hq.q.here sel_Less N
      have HQ := hideIt hq
      have HX := hideIt (And.intro hp (And.intro hu hm))
      have HI := hideIt hi
      clear hR hq hp hu hm hi
      cases hless : lessW (wat l' k) (wat l' i) with
      | false =>
        rw [hless] at HLESS
        have HDONE := hideIt (show HeapW l' n from HX.out.2.1.done (.inr (by rw [← HI.out]; exact not_lessW_le hless)))
        clear hless HSWAP
        go_wp2_with fail
        refine HLESS.out.mono ?_
        rintro e w2 ⟨rfl, hm2⟩
        have HF := hideIt (show UpPost qb g n c l w (.returned (.tuple #[])) w2 from ⟨rfl, l', HQ.out.keep hm2, HX.out.1, HDONE.out, HX.out.2.2.trans hm2.nil⟩)
        clear hm2 HLESS HDONE HQ HX hmeth
        go_wp2
        go_end0
        exact HF.out
      | true =>
        rw [hless] at HLESS
        have HSTEP := hideIt (show UpW (swapW l' i k) n i from by
          have := HX.out.2.1.step (by rw [HQ.out.len]; exact Nat.le_refl _) hk (by omega) (by rw [← HI.out]; exact lessW_le hless)
          rw [← HI.out] at this
          exact this)
        have HPERM := hideIt ((swapW_perm (l := l') (i := i) (j := k) (by rw [HQ.out.len]; omega) (by rw [HQ.out.len]; omega)).trans HX.out.1)
        clear hless
        go_wp2_with fail
        refine HLESS.out.mono ?_
        rintro e w2 ⟨rfl, hm2⟩
        have hmeth2 := fun N => run_mV (HQ.out.keep hm2).q.here sel_Swap N
        have HSW := hideIt (HSWAP.out w2 hm2)
        have HQ2 := hideIt (HQ.out.keep hm2)
        have HM2 := hideIt (HX.out.2.2.trans hm2.nil)
        clear hm2 HLESS HSWAP hmeth HQ HX
        go_wp2_with fail
        refine HSW.out.mono ?_
        intro e w3 hs
        obtain ⟨k1, k2⟩ := HQ2.out.swapped hs (by rw [swapW_length]; exact HQ2.out.len)
        obtain ⟨rfl, _⟩ := hs
        have HN := hideIt (show ∃ l'', QRow w3 qb g n c l'' ∧ l''.Perm l ∧ UpW l'' n i ∧ Mod [g] w w3 from ⟨_, k1, HPERM.out, HSTEP.out, HM2.out.trans k2⟩)
        clear k1 k2 HSW HQ2 HM2 HPERM HSTEP hmeth2
        go_wp2_with fail
        go_roundw
        case rel => exact ⟨i, by omega, rfl, HN⟩
        case measure => simp [intOf]; omega

end Go.Proofs.YthimaoipogocfaaGreat

