import Derived.Test.YthimaoipogocfaaGreatNearP
import Derived.Test.YthimaoipogocfaaGreatJ03
namespace Go.Proofs.YthimaoipogocfaaGreat
open Go.RowKit
attribute [local go_sem] run_store_f32 run_neg_inf

/-! ### the queue in memory -/
def adN (o : Option Nat) : Option Addr := o.map fun p => ⟨p, 0, none⟩
abbrev ptrN (o : Option Nat) : Value := .pointer (adN o)
def wtCells (e : Wt) : List Value := [.int .i64 e.id, .int .i64 e.far, ptrN e.nd]
def wtsV (l : List Wt) : List Value := l.flatMap wtCells
theorem wtsV_length (l : List Wt) : (wtsV l).length = l.length * 3 := by
  induction l with
  | nil => rfl
  | cons a l ih => simp only [wtsV, List.flatMap_cons, List.length_append] at ih ⊢; rw [ih]; simp [wtCells]; omega
theorem wtsV_append (l m : List Wt) : wtsV (l ++ m) = wtsV l ++ wtsV m := by simp [wtsV]
theorem wtsV_get (l : List Wt) (k : Nat) (e : Wt) (h : l[k]? = some e) (j : Nat) (hj : j < 3) : (wtsV l)[k * 3 + j]? = (wtCells e)[j]? := by
  induction l generalizing k with
  | nil => simp at h
  | cons s L ih =>
    have e1 : wtsV (s :: L) = wtCells s ++ wtsV L := rfl
    have hl : (wtCells s).length = 3 := rfl
    rw [e1]
    cases k with
    | zero =>
      simp at h
      subst h
      rw [List.getElem?_append_left (by omega)]
      congr 1
      omega
    | succ k =>
      simp at h
      rw [List.getElem?_append_right (by omega), hl, ← ih k h]
      congr 1
      omega
theorem ptrN_one (o : Option Nat) : (ptrN o).oneCell' = true := rfl
theorem wtsV_one (l : List Wt) : ∀ u ∈ wtsV l, u.oneCell' = true := by
  intro u hu
  obtain ⟨e, _, hu⟩ := List.mem_flatMap.1 hu
  simp [wtCells] at hu
  rcases hu with rfl | rfl | rfl
  · rfl
  · rfl
  · exact ptrN_one _
abbrev qO (v : Value) : Obj := .cells #[v] 140 (0, 0)
theorem cell_qO {w : World} {p : Nat} {v : Value} (h : w.heap[p]? = some (qO v)) : w.cell? ⟨p, 0, none⟩ = some v := by rw [cell_of_block h]; rfl
theorem qO_set {w : World} {p : Nat} {v : Value} (h : w.heap[p]? = some (qO v)) (v' : Value) : (w.setCell ⟨p, 0, none⟩ v').heap[p]? = some (qO v') := by rw [block_setCell h]; rfl

/-! ### methods, found by their names -/
theorem run_nilchk (a : Addr) (x y : String) (w : World) : (Builtin.ssaWrapNilChk_ #[136] 136 #[.pointer (some a), strVal x, strVal y]).run Tryz.prog w = .ok (.pointer (some a)) w := rfl
theorem run_mV {w : World} {qb : Nat} {v : Value} (h : w.heap[qb]? = some (qO v)) {nm : String} {f : FuncId} (hs : selOf Tryz.prog 136 nm = some ([], some (f, false))) (n : Nat) :
    (method (n + 1) 136 (.pointer (some ⟨qb, 0, none⟩)) nm).run Tryz.prog w = .ok (f, v) w := by
  have c0 := cell_qO h
  unfold selOf at hs
  obtain ⟨i, hi, hs⟩ := Option.bind_eq_some_iff.1 hs
  obtain ⟨m, hm, hs⟩ := Option.map_eq_some_iff.1 hs
  obtain ⟨nmm, sig, path, func⟩ := m
  simp only [Prod.mk.injEq] at hs
  obtain ⟨h1, rfl⟩ := hs
  have hpath : path.toList = [] := List.map_eq_nil_iff.1 h1
  have hp : path = #[] := by cases path; simp at hpath; simp [hpath]
  unfold method
  simp [typeInfo, hi, hm, hpath, follow, run_underlying Tryz.underlying136, receiverAt, Place.get, asAddr, loadVar]
  simp [hp, run_nilchk, isAgg, run_underlying Tryz.underlying140, go_sem, c0]
theorem run_mP {w : World} {qb : Nat} {nm : String} {f : FuncId} (hs : selOf Tryz.prog 136 nm = some ([], some (f, true))) (n : Nat) :
    (method (n + 1) 136 (.pointer (some ⟨qb, 0, none⟩)) nm).run Tryz.prog w = .ok (f, .pointer (some ⟨qb, 0, none⟩)) w := by
  unfold selOf at hs
  obtain ⟨i, hi, hs⟩ := Option.bind_eq_some_iff.1 hs
  obtain ⟨m, hm, hs⟩ := Option.map_eq_some_iff.1 hs
  obtain ⟨nmm, sig, path, func⟩ := m
  simp only [Prod.mk.injEq] at hs
  obtain ⟨h1, rfl⟩ := hs
  have hpath : path.toList = [] := List.map_eq_nil_iff.1 h1
  unfold method
  simp [typeInfo, hi, hm, hpath, follow, run_underlying Tryz.underlying136, receiverAt, Place.get, asAddr, loadVar]
theorem sel_Len : selOf Tryz.prog 136 "Len" = some ([], some (73, false)) := by kernel_rfl
theorem sel_Less : selOf Tryz.prog 136 "Less" = some ([], some (230, false)) := by kernel_rfl
theorem sel_Swap : selOf Tryz.prog 136 "Swap" = some ([], some (233, false)) := by kernel_rfl
theorem sel_Push : selOf Tryz.prog 136 "Push" = some ([], some (232, true)) := by kernel_rfl
theorem sel_Pop : selOf Tryz.prog 136 "Pop" = some ([], some (231, true)) := by kernel_rfl

end Go.Proofs.YthimaoipogocfaaGreat
