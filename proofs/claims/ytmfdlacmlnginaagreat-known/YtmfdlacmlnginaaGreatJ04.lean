import Derived.Test.YtmfdlacmlnginaaGreatJ03
import Derived.Shelf.Abstract
namespace Go.Proofs.YtmfdlacmlnginaaGreat
open Go.RowKit
attribute [local go_sem] run_store_f32 run_neg_inf

def cmpF (a b : Int) : Int := if a < b then -1 else if b < a then 1 else 0
def orF (a b : Int) : Int := if a = 0 then b else a
def IntEq (n : Int) (w : World) (e : Ending) (w' : World) : Prop := e = .returned (.int .i64 n) ∧ w = w'

set_option maxRecDepth 100000 in
theorem isNaNInt_any (a : Int) (w : World) : Calls Tryz.prog 151 #[.int .i64 a] w fun e w' => e = .returned (.bool false) ∧ w = w' := by
  go_enter Tryz.func151, Tryz.ntmps151
  go_wp2
  go_ret
  exact ⟨ret_bool (by simp), rfl⟩

set_option maxRecDepth 100000 in
theorem compareInt_any (a b : Int) (w : World) : Calls Tryz.prog 127 #[.int .i64 a, .int .i64 b] w (IntEq (cmpF a b) w) := by
  have hc : (a < b → cmpF a b = -1) ∧ (b < a → cmpF a b = 1) ∧ (a = b → cmpF a b = 0) := by
    unfold cmpF
    refine ⟨fun h => by rw [if_pos h], fun h => by rw [if_neg (by omega), if_pos h], fun h => by rw [if_neg (by omega), if_neg (by omega)]⟩
  have HC := hideIt hc
  clear hc
  generalize cmpF a b = z at *
  by_cases h1 : a < b
  · go_enter Tryz.func127, Tryz.ntmps127
    go_wp2_with (go_at_call 151; refine (isNaNInt_any _ _).mono ?_; rintro e w' ⟨rfl, rfl⟩)
    go_ret
    exact ⟨ret_int (HC.out.1 h1).symm, rfl⟩
  · by_cases h2 : b < a
    · go_enter Tryz.func127, Tryz.ntmps127
      go_wp2_with (go_at_call 151; refine (isNaNInt_any _ _).mono ?_; rintro e w' ⟨rfl, rfl⟩)
      go_ret
      exact ⟨ret_int (HC.out.2.1 h2).symm, rfl⟩
    · go_enter Tryz.func127, Tryz.ntmps127
      go_wp2_with (go_at_call 151; refine (isNaNInt_any _ _).mono ?_; rintro e w' ⟨rfl, rfl⟩)
      go_ret
      exact ⟨ret_int (HC.out.2.2 (by omega)).symm, rfl⟩

set_option maxRecDepth 100000 in
theorem or_any {w : World} {g : Nat} {a b : Int} (h0 : w.cell? ⟨g, 0, none⟩ = some (.int .i64 a)) (h1 : w.cell? ⟨g, 1, none⟩ = some (.int .i64 b)) :
    Calls Tryz.prog 126 #[.slice (some ⟨g, 0, none⟩) 2 2] w (IntEq (orF a b) w) := by
  have hc : (a ≠ 0 → orF a b = a) ∧ (a = 0 → orF a b = b) := by
    unfold orF
    exact ⟨fun h => by rw [if_neg h], fun h => by rw [if_pos h]⟩
  have HC := hideIt hc
  clear hc
  generalize orF a b = z at *
  go_enter Tryz.func126, Tryz.ntmps126
  go_wp2_with fail
  go_loop [8] (fun i => ∃ k : Nat, k ≤ 2 ∧ i = .int .i64 k ∧ (1 ≤ k → a = 0) ∧ (2 ≤ k → b = 0)) (fun i => 2 - (intOf i).toNat)
  case atStart => exact ⟨0, by omega, rfl, by omega, by omega⟩
  case round =>
    obtain ⟨k, hk, rfl, ha, hb⟩ := hrel
    have : k = 0 ∨ k = 1 ∨ k = 2 := by omega
    rcases this with rfl | rfl | rfl
    · by_cases hz : a = 0
      · subst hz
        go_wp2_with fail
        go_round
        case rel => exact ⟨1, by omega, by go_num, by simp, by omega⟩
        case measure => simp [intOf]
      · have HZ := hideIt hz
        go_wp2
        go_ret
        exact ⟨ret_int (HC.out.1 HZ.out).symm, rfl⟩
    · have ha' := ha (by omega)
      by_cases hz : b = 0
      · subst hz
        go_wp2_with fail
        go_round
        case rel => exact ⟨2, by omega, by go_num, by simp [ha'], by simp⟩
        case measure => simp [intOf]
      · have HA := hideIt ha'
        go_wp2
        go_ret
        exact ⟨ret_int (HC.out.2 HA.out).symm, rfl⟩
    · have ha' := ha (by omega)
      have hb' := hb (by omega)
      have HA := hideIt (And.intro ha' hb')
      clear ha hb ha' hb'
      go_wp2
      go_ret
      exact ⟨ret_int (by rw [HC.out.2 HA.out.1, HA.out.2]), rfl⟩

end Go.Proofs.YtmfdlacmlnginaaGreat

namespace Go.Proofs.YtmfdlacmlnginaaGreat
open Go.RowKit
attribute [local go_sem] run_store_f32 run_neg_inf

theorem or_new (a b : Int) (w : World) : Calls Tryz.prog 126 #[.slice (some ⟨w.heap.size, 0, none⟩) 2 2] (w.alloc (.cells #[.int .i64 a, .int .i64 b] 3)) (IntEq (orF a b) (w.alloc (.cells #[.int .i64 a, .int .i64 b] 3))) :=
  or_any (by rw [cell_of_block (heap_alloc_new w _)]; rfl) (by rw [cell_of_block (heap_alloc_new w _)]; rfl)

set_option maxRecDepth 100000 in
set_option maxHeartbeats 400000 in
theorem compareX_any (a b : Bx) (w : World) : Calls Tryz.prog 155 #[bxV a, bxV b] w (SomeInt w) := by
  go_enter Tryz.func155, Tryz.ntmps155
  go_wp2_with fail
  have hm1 : Mod [] w ((w.alloc (bxO a)).alloc (bxO b)) := (Mod.alloc _ _).trans (Mod.alloc _ _)
  have g1 : ((w.alloc (bxO a)).alloc (bxO b)).heap[w.heap.size]? = some (bxO a) := by
    rw [Below.heap_alloc _ _ _ (by simp)]
    exact heap_alloc_new w _
  have g2 : ((w.alloc (bxO a)).alloc (bxO b)).heap[w.heap.size + 1]? = some (bxO b) := by
    have := heap_alloc_new (w.alloc (bxO a)) (bxO b)
    simpa using this
  generalize ((w.alloc (bxO a)).alloc (bxO b)) = w1 at *
  have HM := hideIt hm1
  clear hm1
  obtain ⟨a0, a1, a2, a3⟩ := cell_bxO g1
  obtain ⟨b0, b1, b2, b3⟩ := cell_bxO g2
  clear g1 g2 a1 a3 b1 b3
  go_region_held (fun w' => w'.cell? ⟨w.heap.size, 0, none⟩ = some (.float .f32 a.x0) ∧ w'.cell? ⟨w.heap.size, 2, none⟩ = some (.float .f32 a.x1) ∧ w'.cell? ⟨w.heap.size + 1, 0, none⟩ = some (.float .f32 b.x0) ∧ w'.cell? ⟨w.heap.size + 1, 2, none⟩ = some (.float .f32 b.x1))
    ((first | go_keep | exact ⟨cell_mod hm (by simp [*]), cell_mod hm (by simp [*]), cell_mod hm (by simp [*]), cell_mod hm (by simp [*])⟩))
    ((first
      | (go_at_call 180; refine (compare32_any _ _ _).mono ?_; rintro e w' ⟨n, rfl, hm⟩)
      | (go_at_call 126; refine (or_new _ _ _).mono ?_; rintro e w'' ⟨rfl, rfl⟩)))
  rename_i n1 hm0 hh
  clear hh
  have hmm := (((HM.out.trans (Mod.drew _)).trans hm0).trans hm).trans (Mod.alloc _ (.cells #[.int .i64 n1, .int .i64 n] 3))
  clear hm0 hm
  go_wp2
  go_ret
  exact ⟨_, rfl, hmm⟩

set_option maxRecDepth 100000 in
set_option maxHeartbeats 400000 in
theorem compareY_any (a b : Bx) (w : World) : Calls Tryz.prog 157 #[bxV a, bxV b] w (SomeInt w) := by
  go_enter Tryz.func157, Tryz.ntmps157
  go_wp2_with fail
  have hm1 : Mod [] w ((w.alloc (bxO a)).alloc (bxO b)) := (Mod.alloc _ _).trans (Mod.alloc _ _)
  have g1 : ((w.alloc (bxO a)).alloc (bxO b)).heap[w.heap.size]? = some (bxO a) := by
    rw [Below.heap_alloc _ _ _ (by simp)]
    exact heap_alloc_new w _
  have g2 : ((w.alloc (bxO a)).alloc (bxO b)).heap[w.heap.size + 1]? = some (bxO b) := by
    have := heap_alloc_new (w.alloc (bxO a)) (bxO b)
    simpa using this
  generalize ((w.alloc (bxO a)).alloc (bxO b)) = w1 at *
  have HM := hideIt hm1
  clear hm1
  obtain ⟨a0, a1, a2, a3⟩ := cell_bxO g1
  obtain ⟨b0, b1, b2, b3⟩ := cell_bxO g2
  clear g1 g2 a0 a2 b0 b2
  go_region_held (fun w' => w'.cell? ⟨w.heap.size, 1, none⟩ = some (.float .f32 a.y0) ∧ w'.cell? ⟨w.heap.size, 3, none⟩ = some (.float .f32 a.y1) ∧ w'.cell? ⟨w.heap.size + 1, 1, none⟩ = some (.float .f32 b.y0) ∧ w'.cell? ⟨w.heap.size + 1, 3, none⟩ = some (.float .f32 b.y1))
    ((first | go_keep | exact ⟨cell_mod hm (by simp [*]), cell_mod hm (by simp [*]), cell_mod hm (by simp [*]), cell_mod hm (by simp [*])⟩))
    ((first
      | (go_at_call 180; refine (compare32_any _ _ _).mono ?_; rintro e w' ⟨n, rfl, hm⟩)
      | (go_at_call 126; refine (or_new _ _ _).mono ?_; rintro e w'' ⟨rfl, rfl⟩)))
  rename_i n1 hm0 hh
  clear hh
  have hmm := (((HM.out.trans (Mod.drew _)).trans hm0).trans hm).trans (Mod.alloc _ (.cells #[.int .i64 n1, .int .i64 n] 3))
  clear hm0 hm
  go_wp2
  go_ret
  exact ⟨_, rfl, hmm⟩


end Go.Proofs.YtmfdlacmlnginaaGreat

namespace Go.Proofs.YtmfdlacmlnginaaGreat
open Go.RowKit
attribute [local go_sem] run_store_f32 run_neg_inf

/-- there is a box at the head of a block -/
def HasBx (w : World) (p : Nat) (T : TypeId) (b : Bx) : Prop := ∃ rest, w.heap[p]? = some (bxC b rest T)

theorem HasBx.kept {w w' : World} {p : Nat} {T : TypeId} {b : Bx} {F : List Nat} (h : HasBx w p T b) (hm : Mod F w w') (hp : p ∉ F) : HasBx w' p T b := by
  obtain ⟨rest, h⟩ := h
  exact ⟨rest, (hm.block p (lt_of_block h) hp).trans h⟩

def selOf (P : Program) (t : TypeId) (nm : String) : Option (List (TypeId × Nat × Bool) × Option (FuncId × Bool)) :=
  (P.info? t).bind fun i => (i.methods.find? (·.name == nm)).map fun m => (m.path.toList.map (fun s => (s.struct, s.index, s.deref)), m.func)

theorem run_edges_T {w : World} {p : Nat} {b : Bx} (h : HasBx w p 120 b) {nm : String} (hs : selOf Tryz.prog 103 nm = some ([(120, 0, true)], some (61, false))) (n : Nat) :
    (method (n + 1) 103 (.pointer (some ⟨p, 0, none⟩)) nm).run Tryz.prog w = .ok (61, bxV b) w := by
  obtain ⟨rest, h⟩ := h
  obtain ⟨c0, c1, c2, c3⟩ := cell_bxC h
  unfold selOf at hs
  obtain ⟨i, hi, hs⟩ := Option.bind_eq_some_iff.1 hs
  obtain ⟨m, hm, hs⟩ := Option.map_eq_some_iff.1 hs
  obtain ⟨nmm, sig, path, func⟩ := m
  simp only [Prod.mk.injEq] at hs
  obtain ⟨h1, rfl⟩ := hs
  obtain ⟨s, hpath, hs'⟩ : ∃ s : FieldStep, path.toList = [s] ∧ (s.struct, s.index, s.deref) = (120, 0, true) := by
    cases hp : path.toList with
    | nil => rw [hp] at h1; simp at h1
    | cons s r =>
      rw [hp] at h1
      simp only [List.map_cons, List.cons.injEq, List.map_eq_nil_iff] at h1
      obtain ⟨h2, rfl⟩ := h1
      exact ⟨s, rfl, h2⟩
  simp only [Prod.mk.injEq] at hs'
  obtain ⟨s1, s2, s3⟩ := hs'
  unfold method
  simp [typeInfo, hi, hm, hpath, follow, s1, s2, s3, run_underlying Tryz.underlying120, receiverAt, Place.get, fieldPlace, asAddr, loadVar]
  simp [go_sem, Addr.add, c0, c1, c2, c3]

theorem run_edges_N {w : World} {p : Nat} {b : Bx} (h : HasBx w p 116 b) {nm : String} (hs : selOf Tryz.prog 105 nm = some ([(116, 0, true)], some (61, false))) (n : Nat) :
    (method (n + 1) 105 (.pointer (some ⟨p, 0, none⟩)) nm).run Tryz.prog w = .ok (61, bxV b) w := by
  obtain ⟨rest, h⟩ := h
  obtain ⟨c0, c1, c2, c3⟩ := cell_bxC h
  unfold selOf at hs
  obtain ⟨i, hi, hs⟩ := Option.bind_eq_some_iff.1 hs
  obtain ⟨m, hm, hs⟩ := Option.map_eq_some_iff.1 hs
  obtain ⟨nmm, sig, path, func⟩ := m
  simp only [Prod.mk.injEq] at hs
  obtain ⟨h1, rfl⟩ := hs
  obtain ⟨s, hpath, hs'⟩ : ∃ s : FieldStep, path.toList = [s] ∧ (s.struct, s.index, s.deref) = (116, 0, true) := by
    cases hp : path.toList with
    | nil => rw [hp] at h1; simp at h1
    | cons s r =>
      rw [hp] at h1
      simp only [List.map_cons, List.cons.injEq, List.map_eq_nil_iff] at h1
      obtain ⟨h2, rfl⟩ := h1
      exact ⟨s, rfl, h2⟩
  simp only [Prod.mk.injEq] at hs'
  obtain ⟨s1, s2, s3⟩ := hs'
  unfold method
  simp [typeInfo, hi, hm, hpath, follow, s1, s2, s3, run_underlying Tryz.underlying116, receiverAt, Place.get, fieldPlace, asAddr, loadVar]
  simp [go_sem, Addr.add, c0, c1, c2, c3]


set_option maxRecDepth 100000 in
set_option maxHeartbeats 400000 in
theorem cmpTX_any {w : World} {p q : Nat} {a b : Bx} (hp : HasBx w p 120 a) (hq : HasBx w q 120 b) :
    Calls Tryz.prog 154 #[.pointer (some ⟨p, 0, none⟩), .pointer (some ⟨q, 0, none⟩)] w (SomeInt w) := by
  go_enter Tryz.func154, Tryz.ntmps154
  go_wp2_with fail
  rw [run_edges_T hp]
  case hs => kernel_rfl
  go_wp2_with fail
  refine (edges_any _ _).mono ?_
  rintro e w1 ⟨rfl, hm1⟩
  have hq1 := hq.kept hm1 (by simp)
  go_wp2_with fail
  rw [run_edges_T hq1]
  case hs => kernel_rfl
  go_wp2_with fail
  refine (edges_any _ _).mono ?_
  rintro e w2 ⟨rfl, hm2⟩
  have hm := hm1.trans hm2
  clear hm1 hm2 hq1 hp hq
  go_wp2_with fail
  refine (compareX_any _ _ _).mono ?_
  rintro e w3 ⟨n, rfl, hm3⟩
  have hm' := hm.trans hm3
  go_wp2
  go_ret
  exact ⟨_, rfl, hm'⟩

set_option maxRecDepth 100000 in
set_option maxHeartbeats 400000 in
theorem cmpTY_any {w : World} {p q : Nat} {a b : Bx} (hp : HasBx w p 120 a) (hq : HasBx w q 120 b) :
    Calls Tryz.prog 156 #[.pointer (some ⟨p, 0, none⟩), .pointer (some ⟨q, 0, none⟩)] w (SomeInt w) := by
  go_enter Tryz.func156, Tryz.ntmps156
  go_wp2_with fail
  rw [run_edges_T hp]
  case hs => kernel_rfl
  go_wp2_with fail
  refine (edges_any _ _).mono ?_
  rintro e w1 ⟨rfl, hm1⟩
  have hq1 := hq.kept hm1 (by simp)
  go_wp2_with fail
  rw [run_edges_T hq1]
  case hs => kernel_rfl
  go_wp2_with fail
  refine (edges_any _ _).mono ?_
  rintro e w2 ⟨rfl, hm2⟩
  have hm := hm1.trans hm2
  clear hm1 hm2 hq1 hp hq
  go_wp2_with fail
  refine (compareY_any _ _ _).mono ?_
  rintro e w3 ⟨n, rfl, hm3⟩
  have hm' := hm.trans hm3
  go_wp2
  go_ret
  exact ⟨_, rfl, hm'⟩

set_option maxRecDepth 100000 in
set_option maxHeartbeats 400000 in
theorem cmpNX_any {w : World} {p q : Nat} {a b : Bx} (hp : HasBx w p 116 a) (hq : HasBx w q 116 b) :
    Calls Tryz.prog 162 #[.pointer (some ⟨p, 0, none⟩), .pointer (some ⟨q, 0, none⟩)] w (SomeInt w) := by
  go_enter Tryz.func162, Tryz.ntmps162
  go_wp2_with fail
  rw [run_edges_N hp]
  case hs => kernel_rfl
  go_wp2_with fail
  refine (edges_any _ _).mono ?_
  rintro e w1 ⟨rfl, hm1⟩
  have hq1 := hq.kept hm1 (by simp)
  go_wp2_with fail
  rw [run_edges_N hq1]
  case hs => kernel_rfl
  go_wp2_with fail
  refine (edges_any _ _).mono ?_
  rintro e w2 ⟨rfl, hm2⟩
  have hm := hm1.trans hm2
  clear hm1 hm2 hq1 hp hq
  go_wp2_with fail
  refine (compareX_any _ _ _).mono ?_
  rintro e w3 ⟨n, rfl, hm3⟩
  have hm' := hm.trans hm3
  go_wp2
  go_ret
  exact ⟨_, rfl, hm'⟩

set_option maxRecDepth 100000 in
set_option maxHeartbeats 400000 in
theorem cmpNY_any {w : World} {p q : Nat} {a b : Bx} (hp : HasBx w p 116 a) (hq : HasBx w q 116 b) :
    Calls Tryz.prog 163 #[.pointer (some ⟨p, 0, none⟩), .pointer (some ⟨q, 0, none⟩)] w (SomeInt w) := by
  go_enter Tryz.func163, Tryz.ntmps163
  go_wp2_with fail
  rw [run_edges_N hp]
  case hs => kernel_rfl
  go_wp2_with fail
  refine (edges_any _ _).mono ?_
  rintro e w1 ⟨rfl, hm1⟩
  have hq1 := hq.kept hm1 (by simp)
  go_wp2_with fail
  rw [run_edges_N hq1]
  case hs => kernel_rfl
  go_wp2_with fail
  refine (edges_any _ _).mono ?_
  rintro e w2 ⟨rfl, hm2⟩
  have hm := hm1.trans hm2
  clear hm1 hm2 hq1 hp hq
  go_wp2_with fail
  refine (compareY_any _ _ _).mono ?_
  rintro e w3 ⟨n, rfl, hm3⟩
  have hm' := hm.trans hm3
  go_wp2
  go_ret
  exact ⟨_, rfl, hm'⟩

end Go.Proofs.YtmfdlacmlnginaaGreat

namespace Go.Proofs.YtmfdlacmlnginaaGreat
open Go.RowKit

/-! ### rows of pointers -/
def ptr (p : Nat) : Value := .pointer (some ⟨p, 0, none⟩)
def ptrs (ps : List Nat) : List Value := ps.map ptr
theorem ptrs_length (ps : List Nat) : (ptrs ps).length = ps.length := by simp [ptrs]
/-- the block of a row: pointers, and what stands behind them -/
def rowO (ps : List Nat) (rest : List Value) (T : TypeId) : Obj := .cells (ptrs ps ++ rest).toArray T (0, 0)

theorem rowO_cell {w : World} {g : Nat} {ps : List Nat} {rest : List Value} {T : TypeId} (h : w.heap[g]? = some (rowO ps rest T)) (j : Nat) (hj : j < ps.length) : w.cell? ⟨g, j, none⟩ = some (.pointer (some ⟨ps[j], 0, none⟩)) := by
  rw [cell_of_block h]
  simp [ptrs, List.getElem?_append, hj, ptr]

/-- two places exchanged -/
def swapL (ps : List Nat) (i j : Nat) : List Nat := (ps.set i (ps.getD j 0)).set j (ps.getD i 0)
theorem swapL_length (ps : List Nat) (i j : Nat) : (swapL ps i j).length = ps.length := by simp [swapL]
theorem swapL_perm (ps : List Nat) (i : Nat) (h : i + 1 < ps.length) : (swapL ps (i + 1) i).Perm ps := by
  induction ps generalizing i with
  | nil => simp at h
  | cons a l ih =>
    cases i with
    | zero =>
      cases l with
      | nil => simp at h
      | cons b l =>
        show (swapL (a :: b :: l) 1 0).Perm _
        simp [swapL]
        exact List.Perm.swap _ _ _
    | succ i =>
      have := ih i (by simpa using h)
      simp only [swapL, List.set_cons_succ, List.getD_cons_succ] at this ⊢
      exact this.cons a

theorem rowO_swap {w : World} {g : Nat} {ps : List Nat} {rest : List Value} {T : TypeId} (h : w.heap[g]? = some (rowO ps rest T)) (i j : Nat) (hi : i < ps.length) (hj : j < ps.length) :
    ((w.setCell ⟨g, i, none⟩ (.pointer (some ⟨ps[j], 0, none⟩))).setCell ⟨g, j, none⟩ (.pointer (some ⟨ps[i], 0, none⟩))).drew.heap[g]? = some (rowO (swapL ps i j) rest T) := by
  have h1 := block_setCell h i (.pointer (some ⟨ps[j], 0, none⟩))
  have h2 := block_setCell h1 j (.pointer (some ⟨ps[i], 0, none⟩))
  refine h2.trans ?_
  have e : ∀ (l : List Nat) (k v : Nat), k < l.length → ((ptrs l ++ rest).toArray.setIfInBounds k (.pointer (some ⟨v, 0, none⟩))) = (ptrs (l.set k v) ++ rest).toArray := by
    intro l k v hk
    rw [List.setIfInBounds_toArray]
    congr 1
    rw [List.set_append_left _ _ (by rw [ptrs_length]; exact hk)]
    simp [ptrs, List.map_set, ptr]
  rw [e _ _ _ hi, e _ _ _ (by simpa using hj)]
  unfold rowO swapL
  have q1 : ps.getD j 0 = ps[j] := by simp [List.getD, hj]
  have q2 : ps.getD i 0 = ps[i] := by simp [List.getD, hi]
  rw [q1, q2]

/-- what the comparison owes -/
structure CmpOk (g : FuncId) (ps : List Nat) (F : List Nat) (w : World) : Prop where
  out : ∀ p ∈ ps, ∀ q ∈ ps, ∀ W, Mod F w W → Calls Tryz.prog g #[.pointer (some ⟨p, 0, none⟩), .pointer (some ⟨q, 0, none⟩)] W (SomeInt W)

def SortPost (blk : Nat) (ps : List Nat) (rest : List Value) (T : TypeId) (w : World) (e : Ending) (w' : World) : Prop :=
  e = .returned (.tuple #[]) ∧ Mod [blk] w w' ∧ ∃ ps', ps'.Perm ps ∧ w'.heap[blk]? = some (rowO ps' rest T)

theorem CmpOk.at {g : FuncId} {ps F : List Nat} {w : World} (h : CmpOk g ps F w) {ps' : List Nat} (hp : ps'.Perm ps) {W : World} (hm : Mod F w W) {i j : Nat} (hi : i < ps'.length) (hj : j < ps'.length) :
    Calls Tryz.prog g #[.pointer (some ⟨ps'[i], 0, none⟩), .pointer (some ⟨ps'[j], 0, none⟩)] W (SomeInt W) :=
  h.out _ (hp.mem_iff.1 (List.getElem_mem hi)) _ (hp.mem_iff.1 (List.getElem_mem hj)) W hm

end Go.Proofs.YtmfdlacmlnginaaGreat

namespace Go.Proofs.YtmfdlacmlnginaaGreat
open Go.RowKit
attribute [local go_sem] run_store_f32 run_neg_inf

set_option maxRecDepth 100000 in
set_option maxHeartbeats 1000000 in
theorem insT_any {w : World} {blk n cap : Nat} {ps : List Nat} {rest : List Value} {g : FuncId} (eg : ∀ args w, (callFunc g args).run Tryz.prog w = .ok (.enter g args) w)
    (hr : w.heap[blk]? = some (rowO ps rest 103)) (hn : ps.length = n) (hn2 : n ≤ 100) (a b : Nat) (ha : a ≤ n) (hb : b ≤ n) (hc : CmpOk g ps [blk] w) :
    Calls Tryz.prog 189 #[.slice (some ⟨blk, 0, none⟩) n cap, .int .i64 a, .int .i64 b, .func (.func g) #[] #[]] w (SortPost blk ps rest 103 w) := by
  have HR := hideIt hr
  have HC := hideIt hc
  clear hr hc
  by_cases hab : a < b
  · go_enter Tryz.func189, Tryz.ntmps189
    go_wp2_with fail
    go_loopw [8] (fun i wr => ∃ k : Nat, k ≤ b ∧ a + 1 ≤ k ∧ i = .int .i64 k ∧ ∃ ps', ps'.Perm ps ∧ Mod [blk] w wr ∧ wr.heap[blk]? = some (rowO ps' rest 103)) (fun i _ => b - (intOf i).toNat)
    case atStart => exact ⟨a + 1, by omega, by omega, by go_num, ps, .refl _, Mod.refl _ _, HR.out⟩
    case round =>
      obtain ⟨k, hk, hk1, rfl, ps', hp, hm, hr⟩ := hrel
      have hl : ps'.length = n := hp.length_eq.trans hn
      by_cases hlt : k < b
      · have hlt' : (k : Int) < (b : Int) := by omega
        go_wp2_with fail
        go_loopw [9] (fun i wx => ∃ j : Nat, a ≤ j ∧ j ≤ k ∧ i = .int .i64 j ∧ ∃ ps', ps'.Perm ps ∧ Mod [blk] w wx ∧ wx.heap[blk]? = some (rowO ps' rest 103)) (fun i _ => (intOf i).toNat)
        case atStart => exact ⟨k, by omega, by omega, rfl, ps', hp, hm, hr⟩
        case round =>
          clear hp hm hr hl
          obtain ⟨j, hj1, hj2, rfl, ps', hp, hm, hr⟩ := hrel
          have hl : ps'.length = n := hp.length_eq.trans hn
          by_cases hgt : a < j
          · obtain ⟨m, rfl⟩ : ∃ m, j = m + 1 := ⟨j - 1, by omega⟩
            have c1 := rowO_cell hr (m + 1) (by omega)
            have c2 := rowO_cell hr m (by omega)
            have hgt' : (a : Int) < (m : Int) + 1 := by omega
            have hi1 : (m : Int) + 1 < (n : Int) := by omega
            have hi2 : (m : Int) < (n : Int) := by omega
            have hi3 : m + 1 < n := by omega
            have hi4 : m < n := by omega
            have hi5 : (0 : Int) ≤ (m : Int) + 1 := by omega
            have ea : ((m : Int) + 1).toNat = m + 1 := by omega
            have ra : IntKind.i64.wrap ((m : Int) + 1) = (m : Int) + 1 := by rw [IntKind.wrap_i64]; omega
            have ec : ((m : Int)).toNat = m := by omega
            have rc : IntKind.i64.wrap ((m : Int)) = (m : Int) := by rw [IntKind.wrap_i64]; omega
            have pc : (0 : Int) ≤ (m : Int) := by omega
            have HCC := hideIt (fun W (hW : Mod [blk] w W) => HC.out.at hp hW (i := m + 1) (j := m) (by omega) (by omega))
            have HS := hideIt (fun (W : World) (hW : W.heap[blk]? = some (rowO ps' rest 103)) => rowO_swap hW (m + 1) m (by omega) (by omega))
            have HP := hideIt ((swapL_perm ps' m (by omega)).trans hp)
            have HPP := hideIt hp
            have HM := hideIt hm
            have HRR := hideIt hr
            generalize ps'[m + 1] = u at *
            generalize ps'[m] = v at *
            clear hr hm hp hgt
            go_wp2_with fail
            go_region_held (fun w' => w'.cell? ⟨blk, m + 1, none⟩ = some (.pointer (some ⟨u, 0, none⟩)) ∧ w'.cell? ⟨blk, m, none⟩ = some (.pointer (some ⟨v, 0, none⟩)))
              ((first | go_keep | exact ⟨cell_mod hmc (by simp [*]), cell_mod hmc (by simp [*])⟩))
              ((go_at_fn g; refine (HCC.out _ (HM.out.trans (Mod.drew _))).mono ?_; rintro e w' ⟨z, rfl, hmc⟩))
            rename_i hheld
            obtain ⟨c3, c4⟩ := hheld
            have hm3 : Mod [blk] w w' := (HM.out.trans (Mod.drew _)).trans hmc.nil
            have hr3 : w'.heap[blk]? = some (rowO ps' rest 103) := (hmc.block blk (lt_of_block HRR.out) (by simp)).trans HRR.out
            have hr4 := HS.out w' hr3
            have hf := frozen_of_block hr3
            have f1 := hf (m + 1)
            have f2 := hf m
            clear hf hmc c1 c2 HCC HM HRR HS
            have HM3 := hideIt hm3
            have HR3 := hideIt hr3
            have HR4 := hideIt hr4
            clear hm3 hr3 hr4
            by_cases hz : z < 0
            · clear HR3
              go_wp2_with fail
              go_region
              have hm5 := HM3.out.trans (mod_set2 w' blk (m + 1) m (.pointer (some ⟨v, 0, none⟩)) (.pointer (some ⟨u, 0, none⟩)))
              have HM5 := hideIt hm5
              clear hm5 HM3 c3 c4 f1 f2
              generalize ((w'.setCell ⟨blk, m + 1, none⟩ (.pointer (some ⟨v, 0, none⟩))).setCell ⟨blk, m, none⟩ (.pointer (some ⟨u, 0, none⟩))).drew = w5 at *
              go_wp2_with fail
              go_roundw
              case rel => exact ⟨m, by omega, by omega, by go_num, _, HP.out, HM5.out, HR4.out⟩
              case measure => simp [intOf]
            · clear HR4 c3 c4 f1 f2
              go_wp2_with fail
              go_roundw
              case rel => exact ⟨k + 1, by omega, by omega, by go_num, _, HPP.out, HM3.out, HR3.out⟩
              case measure => simp [intOf]; omega
          · have hle : ¬ ((a : Int) < (j : Int)) := by omega
            have HPP := hideIt hp
            have HM3 := hideIt hm
            have HR3 := hideIt hr
            clear hp hm hr
            go_wp2_with fail
            go_region
            go_wp2_with fail
            go_roundw
            case rel => exact ⟨k + 1, by omega, by omega, by go_num, _, HPP.out, HM3.out.trans (Mod.drew _), HR3.out⟩
            case measure => simp [intOf]; omega
      · have hge : ¬ ((k : Int) < (b : Int)) := by omega
        have HPP := hideIt hp
        have HM3 := hideIt hm
        have HR3 := hideIt hr
        clear hp hm hr
        go_wp2
        exact bodyPost_ret (v := .tuple #[]) (by simp [results, Tryz.results189, go_sem]) rfl ⟨rfl, HM3.out, _, HPP.out, HR3.out⟩
  · have hge : ¬ ((a : Int) + 1 < (b : Int)) := by omega
    go_enter Tryz.func189, Tryz.ntmps189
    go_wp2_with fail
    go_loopw [8] (fun i wr => i = .int .i64 ((a : Int) + 1) ∧ wr = w) (fun _ _ => 0)
    case atStart => exact ⟨by go_num, rfl⟩
    case round =>
      obtain ⟨rfl, rfl⟩ := hrel
      go_wp2
      exact bodyPost_ret (v := .tuple #[]) (by simp [results, Tryz.results189, go_sem]) rfl ⟨rfl, Mod.refl _ _, _, .refl _, HR.out⟩

end Go.Proofs.YtmfdlacmlnginaaGreat

namespace Go.Proofs.YtmfdlacmlnginaaGreat
open Go.RowKit
attribute [local go_sem] run_store_f32 run_neg_inf

set_option maxRecDepth 100000 in
set_option maxHeartbeats 1000000 in
theorem insN_any {w : World} {blk n cap : Nat} {ps : List Nat} {rest : List Value} {g : FuncId} (eg : ∀ args w, (callFunc g args).run Tryz.prog w = .ok (.enter g args) w)
    (hr : w.heap[blk]? = some (rowO ps rest 105)) (hn : ps.length = n) (hn2 : n ≤ 100) (a b : Nat) (ha : a ≤ n) (hb : b ≤ n) (hc : CmpOk g ps [blk] w) :
    Calls Tryz.prog 192 #[.slice (some ⟨blk, 0, none⟩) n cap, .int .i64 a, .int .i64 b, .func (.func g) #[] #[]] w (SortPost blk ps rest 105 w) := by
  have HR := hideIt hr
  have HC := hideIt hc
  clear hr hc
  by_cases hab : a < b
  · go_enter Tryz.func192, Tryz.ntmps192
    go_wp2_with fail
    go_loopw [8] (fun i wr => ∃ k : Nat, k ≤ b ∧ a + 1 ≤ k ∧ i = .int .i64 k ∧ ∃ ps', ps'.Perm ps ∧ Mod [blk] w wr ∧ wr.heap[blk]? = some (rowO ps' rest 105)) (fun i _ => b - (intOf i).toNat)
    case atStart => exact ⟨a + 1, by omega, by omega, by go_num, ps, .refl _, Mod.refl _ _, HR.out⟩
    case round =>
      obtain ⟨k, hk, hk1, rfl, ps', hp, hm, hr⟩ := hrel
      have hl : ps'.length = n := hp.length_eq.trans hn
      by_cases hlt : k < b
      · have hlt' : (k : Int) < (b : Int) := by omega
        go_wp2_with fail
        go_loopw [9] (fun i wx => ∃ j : Nat, a ≤ j ∧ j ≤ k ∧ i = .int .i64 j ∧ ∃ ps', ps'.Perm ps ∧ Mod [blk] w wx ∧ wx.heap[blk]? = some (rowO ps' rest 105)) (fun i _ => (intOf i).toNat)
        case atStart => exact ⟨k, by omega, by omega, rfl, ps', hp, hm, hr⟩
        case round =>
          clear hp hm hr hl
          obtain ⟨j, hj1, hj2, rfl, ps', hp, hm, hr⟩ := hrel
          have hl : ps'.length = n := hp.length_eq.trans hn
          by_cases hgt : a < j
          · obtain ⟨m, rfl⟩ : ∃ m, j = m + 1 := ⟨j - 1, by omega⟩
            have c1 := rowO_cell hr (m + 1) (by omega)
            have c2 := rowO_cell hr m (by omega)
            have hgt' : (a : Int) < (m : Int) + 1 := by omega
            have hi1 : (m : Int) + 1 < (n : Int) := by omega
            have hi2 : (m : Int) < (n : Int) := by omega
            have hi3 : m + 1 < n := by omega
            have hi4 : m < n := by omega
            have hi5 : (0 : Int) ≤ (m : Int) + 1 := by omega
            have ea : ((m : Int) + 1).toNat = m + 1 := by omega
            have ra : IntKind.i64.wrap ((m : Int) + 1) = (m : Int) + 1 := by rw [IntKind.wrap_i64]; omega
            have ec : ((m : Int)).toNat = m := by omega
            have rc : IntKind.i64.wrap ((m : Int)) = (m : Int) := by rw [IntKind.wrap_i64]; omega
            have pc : (0 : Int) ≤ (m : Int) := by omega
            have HCC := hideIt (fun W (hW : Mod [blk] w W) => HC.out.at hp hW (i := m + 1) (j := m) (by omega) (by omega))
            have HS := hideIt (fun (W : World) (hW : W.heap[blk]? = some (rowO ps' rest 105)) => rowO_swap hW (m + 1) m (by omega) (by omega))
            have HP := hideIt ((swapL_perm ps' m (by omega)).trans hp)
            have HPP := hideIt hp
            have HM := hideIt hm
            have HRR := hideIt hr
            generalize ps'[m + 1] = u at *
            generalize ps'[m] = v at *
            clear hr hm hp hgt
            go_wp2_with fail
            go_region_held (fun w' => w'.cell? ⟨blk, m + 1, none⟩ = some (.pointer (some ⟨u, 0, none⟩)) ∧ w'.cell? ⟨blk, m, none⟩ = some (.pointer (some ⟨v, 0, none⟩)))
              ((first | go_keep | exact ⟨cell_mod hmc (by simp [*]), cell_mod hmc (by simp [*])⟩))
              ((go_at_fn g; refine (HCC.out _ (HM.out.trans (Mod.drew _))).mono ?_; rintro e w' ⟨z, rfl, hmc⟩))
            rename_i hheld
            obtain ⟨c3, c4⟩ := hheld
            have hm3 : Mod [blk] w w' := (HM.out.trans (Mod.drew _)).trans hmc.nil
            have hr3 : w'.heap[blk]? = some (rowO ps' rest 105) := (hmc.block blk (lt_of_block HRR.out) (by simp)).trans HRR.out
            have hr4 := HS.out w' hr3
            have hf := frozen_of_block hr3
            have f1 := hf (m + 1)
            have f2 := hf m
            clear hf hmc c1 c2 HCC HM HRR HS
            have HM3 := hideIt hm3
            have HR3 := hideIt hr3
            have HR4 := hideIt hr4
            clear hm3 hr3 hr4
            by_cases hz : z < 0
            · clear HR3
              go_wp2_with fail
              go_region
              have hm5 := HM3.out.trans (mod_set2 w' blk (m + 1) m (.pointer (some ⟨v, 0, none⟩)) (.pointer (some ⟨u, 0, none⟩)))
              have HM5 := hideIt hm5
              clear hm5 HM3 c3 c4 f1 f2
              generalize ((w'.setCell ⟨blk, m + 1, none⟩ (.pointer (some ⟨v, 0, none⟩))).setCell ⟨blk, m, none⟩ (.pointer (some ⟨u, 0, none⟩))).drew = w5 at *
              go_wp2_with fail
              go_roundw
              case rel => exact ⟨m, by omega, by omega, by go_num, _, HP.out, HM5.out, HR4.out⟩
              case measure => simp [intOf]
            · clear HR4 c3 c4 f1 f2
              go_wp2_with fail
              go_roundw
              case rel => exact ⟨k + 1, by omega, by omega, by go_num, _, HPP.out, HM3.out, HR3.out⟩
              case measure => simp [intOf]; omega
          · have hle : ¬ ((a : Int) < (j : Int)) := by omega
            have HPP := hideIt hp
            have HM3 := hideIt hm
            have HR3 := hideIt hr
            clear hp hm hr
            go_wp2_with fail
            go_region
            go_wp2_with fail
            go_roundw
            case rel => exact ⟨k + 1, by omega, by omega, by go_num, _, HPP.out, HM3.out.trans (Mod.drew _), HR3.out⟩
            case measure => simp [intOf]; omega
      · have hge : ¬ ((k : Int) < (b : Int)) := by omega
        have HPP := hideIt hp
        have HM3 := hideIt hm
        have HR3 := hideIt hr
        clear hp hm hr
        go_wp2
        exact bodyPost_ret (v := .tuple #[]) (by simp [results, Tryz.results192, go_sem]) rfl ⟨rfl, HM3.out, _, HPP.out, HR3.out⟩
  · have hge : ¬ ((a : Int) + 1 < (b : Int)) := by omega
    go_enter Tryz.func192, Tryz.ntmps192
    go_wp2_with fail
    go_loopw [8] (fun i wr => i = .int .i64 ((a : Int) + 1) ∧ wr = w) (fun _ _ => 0)
    case atStart => exact ⟨by go_num, rfl⟩
    case round =>
      obtain ⟨rfl, rfl⟩ := hrel
      go_wp2
      exact bodyPost_ret (v := .tuple #[]) (by simp [results, Tryz.results192, go_sem]) rfl ⟨rfl, Mod.refl _ _, _, .refl _, HR.out⟩

end Go.Proofs.YtmfdlacmlnginaaGreat

