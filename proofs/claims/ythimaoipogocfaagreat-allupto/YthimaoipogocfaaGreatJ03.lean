import Derived.Test.YthimaoipogocfaaGreatJ02
import Derived.BigQuiet
import Derived.BigRegion
import Derived.Deep.RegionHeld
import Derived.Shelf.Abstract
namespace Go.Proofs.YthimaoipogocfaaGreat
open Go.RowKit

theorem ret_bool {a b : Bool} (h : a = b) : Ending.returned (.bool a) = .returned (.bool b) := by rw [h]
theorem ret_int {a b : Int} (h : a = b) : Ending.returned (.int .i64 a) = .returned (.int .i64 b) := by rw [h]

abbrev R4 (a b c d : Int) : Value := .agg #[.int .i64 a, .int .i64 b, .int .i64 c, .int .i64 d]
abbrev B4 (a b c d : Int) : Obj := .cells #[.int .i64 a, .int .i64 b, .int .i64 c, .int .i64 d] 36 (0, 0)
abbrev bxV (b : Bx) : Value := .agg #[.float .f32 b.x0, .float .f32 b.y0, .float .f32 b.x1, .float .f32 b.y1]
abbrev bxO (b : Bx) : Obj := .cells #[.float .f32 b.x0, .float .f32 b.y0, .float .f32 b.x1, .float .f32 b.y1] 122 (0, 0)

theorem cell_bxO {w : World} {p : Nat} {b : Bx} (h : w.heap[p]? = some (bxO b)) : w.cell? ⟨p, 0, none⟩ = some (.float .f32 b.x0) ∧ w.cell? ⟨p, 1, none⟩ = some (.float .f32 b.y0) ∧ w.cell? ⟨p, 2, none⟩ = some (.float .f32 b.x1) ∧ w.cell? ⟨p, 3, none⟩ = some (.float .f32 b.y1) := by
  refine ⟨?_, ?_, ?_, ?_⟩ <;> rw [cell_of_block h] <;> rfl

def BoxPost (b : Bx) (w : World) (e : Ending) (w' : World) : Prop := e = .returned (bxV b) ∧ Mod [] w w'
def BoolPost (b : Bool) (w : World) (e : Ending) (w' : World) : Prop := e = .returned (.bool b) ∧ Mod [] w w'
def IntPost (n : Int) (w : World) (e : Ending) (w' : World) : Prop := e = .returned (.int .i64 n) ∧ Mod [] w w'

theorem run_store_f32 (a : Addr) (b : Nat) (m : Mode) (w : World) : (store a (.float .f32 b) m).run Tryz.prog w = stored Tryz.prog w a (.float .f32 b) m := run_store Tryz.prog w a _ m rfl
theorem run_neg_inf (w : World) : (Op.unary .neg (.float .f32 infW)).run Tryz.prog w = .ok (.float .f32 ninfW) w := rfl
attribute [local go_sem] run_store_f32 run_neg_inf

set_option maxRecDepth 100000 in
theorem edges_any (b : Bx) (w : World) : Calls Tryz.prog 69 #[bxV b] w (BoxPost b w) := by
  go_enter Tryz.func69, Tryz.ntmps69
  go_wp2
  exact bodyPost_ret (v := bxV b) (by simp [results, Tryz.results69, go_sem]) rfl ⟨rfl, (Mod.alloc _ _).trans (Mod.alloc _ _)⟩

set_option maxRecDepth 100000 in
theorem nowhere_any (w : World) : Calls Tryz.prog 146 #[] w (BoxPost Bx.none w) := by
  have c2 := fun w => run_convert_float_float (P := Tryz.prog) w 202 120 .f64 .f32 _ _ (by rw [Tryz.underlying202]; rfl) Tryz.underlying120 inf_to32
  go_enter Tryz.func146, Tryz.ntmps146
  go_wp2_with (go_at_call 137; refine (Inf_up _).mono ?_; rintro e w' ⟨rfl, rfl⟩)
  exact bodyPost_ret (v := bxV Bx.none) (by simp [results, Tryz.results146, go_sem, Bx.none]) rfl ⟨rfl, Mod.alloc _ _⟩

set_option maxRecDepth 100000 in
theorem boxOf_any {x0 y0 x1 y1 : Int} (h : RectOk x0 y0 x1 y1) (w : World) : Calls Tryz.prog 65 #[R4 x0 y0 x1 y1] w (BoxPost (Bx.of x0 y0 x1 y1) w) := by
  have HB := hideIt h
  clear h
  go_enter Tryz.func65, Tryz.ntmps65
  go_wp2_with fail
  go_region_held (fun w' => w'.cell? ⟨w.heap.size, 0, none⟩ = some (.int .i64 x0) ∧ w'.cell? ⟨w.heap.size, 1, none⟩ = some (.int .i64 y0) ∧ w'.cell? ⟨w.heap.size, 2, none⟩ = some (.int .i64 x1) ∧ w'.cell? ⟨w.heap.size, 3, none⟩ = some (.int .i64 y1))
    ((go_keep))
    ((first
      | (go_at_call 102; refine (roundDown_any _ (by have := HB.out; unfold RectOk at this; omega) (by have := HB.out; unfold RectOk at this; omega) _).mono ?_; rintro e w' ⟨rfl, rfl⟩)
      | (go_at_call 103; refine (roundUp_any _ (by have := HB.out; unfold RectOk at this; omega) (by have := HB.out; unfold RectOk at this; omega) _).mono ?_; rintro e w' ⟨rfl, rfl⟩)))
  all_goals
    go_wp2
    exact bodyPost_ret (v := bxV (Bx.of x0 y0 x1 y1)) (by simp [results, Tryz.results65, go_sem, Bx.of]) rfl ⟨rfl, ((Mod.alloc _ _).trans (Mod.alloc _ _)).trans (Mod.drew _)⟩

set_option maxRecDepth 100000 in
theorem meets_any {a b : Bx} (ha : a.Num) (hb : b.Num) (w : World) : Calls Tryz.prog 98 #[bxV a, bxV b] w (BoolPost (a.meets b) w) := by
  have e1 := leq32 ha.out.1 hb.out.2.2.1
  have e2 := leq32 hb.out.1 ha.out.2.2.1
  have e3 := leq32 ha.out.2.1 hb.out.2.2.2
  have e4 := leq32 hb.out.2.1 ha.out.2.2.2
  have hm : a.meets b = (leW a.x0 b.x1 && leW b.x0 a.x1 && leW a.y0 b.y1 && leW b.y0 a.y1) := rfl
  have HM := hideIt hm
  clear hm ha hb
  go_enter Tryz.func98, Tryz.ntmps98
  go_wp2
  all_goals
    go_ret
    refine ⟨ret_bool ?_, (Mod.alloc _ _).trans (Mod.alloc _ _)⟩
    rw [HM.out]
    clear e1 e2 e3 e4 HM
    simp_all

end Go.Proofs.YthimaoipogocfaaGreat

namespace Go.Proofs.YthimaoipogocfaaGreat
open Go.RowKit
attribute [local go_sem] run_store_f32 run_neg_inf

/-- a block that begins with a box -/
abbrev bxC (b : Bx) (rest : List Value) (T : TypeId) : Obj := .cells (List.toArray (.float .f32 b.x0 :: .float .f32 b.y0 :: .float .f32 b.x1 :: .float .f32 b.y1 :: rest)) T (0, 0)

theorem cell_bxC {w : World} {p : Nat} {b : Bx} {rest : List Value} {T : TypeId} (h : w.heap[p]? = some (bxC b rest T)) : w.cell? ⟨p, 0, none⟩ = some (.float .f32 b.x0) ∧ w.cell? ⟨p, 1, none⟩ = some (.float .f32 b.y0) ∧ w.cell? ⟨p, 2, none⟩ = some (.float .f32 b.x1) ∧ w.cell? ⟨p, 3, none⟩ = some (.float .f32 b.y1) := by
  refine ⟨?_, ?_, ?_, ?_⟩ <;> rw [cell_of_block h] <;> simp

theorem bxC_set01 {w : World} {p : Nat} {b : Bx} {rest : List Value} {T : TypeId} (h : w.heap[p]? = some (bxC b rest T)) (v0 v1 : Nat) :
    ((w.setCell ⟨p, 0, none⟩ (.float .f32 v0)).setCell ⟨p, 1, none⟩ (.float .f32 v1)).drew.heap[p]? = some (bxC ⟨v0, v1, b.x1, b.y1⟩ rest T) := by
  have h1 := block_setCell h 0 (.float .f32 v0)
  have h2 := block_setCell h1 1 (.float .f32 v1)
  exact h2.trans (by simp)
theorem bxC_set23 {w : World} {p : Nat} {b : Bx} {rest : List Value} {T : TypeId} (h : w.heap[p]? = some (bxC b rest T)) (v0 v1 : Nat) :
    ((w.setCell ⟨p, 2, none⟩ (.float .f32 v0)).setCell ⟨p, 3, none⟩ (.float .f32 v1)).drew.heap[p]? = some (bxC ⟨b.x0, b.y0, v0, v1⟩ rest T) := by
  have h1 := block_setCell h 2 (.float .f32 v0)
  have h2 := block_setCell h1 3 (.float .f32 v1)
  exact h2.trans (by simp)
theorem mod_set2 (w : World) (p i j : Nat) (u v : Value) : Mod [p] w ((w.setCell ⟨p, i, none⟩ u).setCell ⟨p, j, none⟩ v).drew :=
  ((Mod.setCell _ _ _ (by simp)).trans (Mod.setCell _ _ _ (by simp))).trans (Mod.drew _)

def GrowPost (p : Nat) (b : Bx) (rest : List Value) (T : TypeId) (w : World) (e : Ending) (w' : World) : Prop :=
  e = .returned (.tuple #[]) ∧ Mod [p] w w' ∧ w'.heap[p]? = some (bxC b rest T)

set_option maxRecDepth 100000 in
set_option maxHeartbeats 400000 in
theorem grow_any {w : World} {p : Nat} {b o : Bx} {rest : List Value} {T : TypeId} (h : w.heap[p]? = some (bxC b rest T)) (hb : b.Num) (ho : o.Num) :
    Calls Tryz.prog 104 #[.pointer (some ⟨p, 0, none⟩), bxV o] w (GrowPost p (b.grow o) rest T w) := by
  have m0 := fun w => run_min32 (P := Tryz.prog) w #[120, 120] 120 hb.out.1 ho.out.1
  have m1 := fun w => run_min32 (P := Tryz.prog) w #[120, 120] 120 hb.out.2.1 ho.out.2.1
  have m2 := fun w => run_max32 (P := Tryz.prog) w #[120, 120] 120 hb.out.2.2.1 ho.out.2.2.1
  have m3 := fun w => run_max32 (P := Tryz.prog) w #[120, 120] 120 hb.out.2.2.2 ho.out.2.2.2
  have hlt := lt_of_block h
  have h1 := (Mod.alloc (F := []) w (bxO o)).block p hlt (by simp)
  rw [h] at h1
  obtain ⟨o0, o1, o2, o3⟩ := cell_bxO (heap_alloc_new w (bxO o))
  have hne : p ≠ w.heap.size := by omega
  clear h hb ho
  go_enter Tryz.func104, Tryz.ntmps104
  go_wp2_with fail
  have hm1 : Mod [p] w (w.alloc (bxO o)) := Mod.alloc _ _
  generalize w.alloc (bxO o) = w1 at *
  have c := cell_bxC h1
  obtain ⟨c0, c1, c2, c3⟩ := c
  have f := frozen_of_block h1
  have f0 := f 0
  have f1 := f 1
  have f2 := f 2
  have f3 := f 3
  clear f
  have H1 := hideIt h1
  have HM := hideIt hm1
  clear h1 hm1
  go_region
  have h2 := bxC_set01 H1.out (minW b.x0 o.x0) (minW b.y0 o.y0)
  have hm2 := HM.out.trans (mod_set2 w1 p 0 1 (.float .f32 (minW b.x0 o.x0)) (.float .f32 (minW b.y0 o.y0)))
  have o2' : ∀ u v, ((w1.setCell ⟨p, 0, none⟩ u).setCell ⟨p, 1, none⟩ v).drew.cell? ⟨w.heap.size, 2, none⟩ = some (.float .f32 o.x1) := fun u v => ((mod_set2 w1 p 0 1 u v).cell (World.block_lt_of_cell? w1 _ o2) (by simp; omega) 2).trans o2
  have o3' : ∀ u v, ((w1.setCell ⟨p, 0, none⟩ u).setCell ⟨p, 1, none⟩ v).drew.cell? ⟨w.heap.size, 3, none⟩ = some (.float .f32 o.y1) := fun u v => ((mod_set2 w1 p 0 1 u v).cell (World.block_lt_of_cell? w1 _ o3) (by simp; omega) 3).trans o3
  have p2 := o2' (.float .f32 (minW b.x0 o.x0)) (.float .f32 (minW b.y0 o.y0))
  have p3 := o3' (.float .f32 (minW b.x0 o.x0)) (.float .f32 (minW b.y0 o.y0))
  clear o0 o1 o2 o3 o2' o3' c0 c1 c2 c3 f0 f1 f2 f3 m0 m1 HM H1
  generalize ((w1.setCell ⟨p, 0, none⟩ (.float .f32 (minW b.x0 o.x0))).setCell ⟨p, 1, none⟩ (.float .f32 (minW b.y0 o.y0))).drew = w2 at *
  obtain ⟨c0, c1, c2, c3⟩ := cell_bxC h2
  have f := frozen_of_block h2
  have f2 := f 2
  have f3 := f 3
  clear f
  have H2 := hideIt h2
  have HM := hideIt hm2
  clear h2 hm2
  simp only at c2 c3
  go_wp2_with fail
  go_region
  have h3 := bxC_set23 H2.out (maxW b.x1 o.x1) (maxW b.y1 o.y1)
  have hm3 := HM.out.trans (mod_set2 w2 p 2 3 (.float .f32 (maxW b.x1 o.x1)) (.float .f32 (maxW b.y1 o.y1)))
  go_wp2
  exact bodyPost_ret (v := .tuple #[]) (by simp [results, Tryz.results104, go_sem]) rfl ⟨rfl, hm3, h3⟩


end Go.Proofs.YthimaoipogocfaaGreat

namespace Go.Proofs.YthimaoipogocfaaGreat
open Go.RowKit
attribute [local go_sem] run_store_f32 run_neg_inf

/-! ### as whole numbers -/
def spanF (b : Bx) : Int := truncW b.x1 - truncW b.x0 + truncW b.y1 - truncW b.y0
def WholePost (b : Bx) (w : World) (e : Ending) (w' : World) : Prop := e = .returned (R4 (truncW b.x0) (truncW b.y0) (truncW b.x1) (truncW b.y1)) ∧ Mod [] w w'

set_option maxRecDepth 100000 in
theorem whole_any {b : Bx} (h : b.Ok) (w : World) : Calls Tryz.prog 149 #[bxV b] w (WholePost b w) := by
  have v0 := fun w => run_convert_float_int (P := Tryz.prog) w 120 3 .f32 .i64 _ _ (by rw [Tryz.underlying120]; rfl) Tryz.underlying3 (trunc_val h.out.1)
  have v1 := fun w => run_convert_float_int (P := Tryz.prog) w 120 3 .f32 .i64 _ _ (by rw [Tryz.underlying120]; rfl) Tryz.underlying3 (trunc_val h.out.2.1)
  have v2 := fun w => run_convert_float_int (P := Tryz.prog) w 120 3 .f32 .i64 _ _ (by rw [Tryz.underlying120]; rfl) Tryz.underlying3 (trunc_val h.out.2.2.1)
  have v3 := fun w => run_convert_float_int (P := Tryz.prog) w 120 3 .f32 .i64 _ _ (by rw [Tryz.underlying120]; rfl) Tryz.underlying3 (trunc_val h.out.2.2.2)
  clear h
  go_enter Tryz.func149, Tryz.ntmps149
  go_wp2
  exact bodyPost_ret (v := R4 (truncW b.x0) (truncW b.y0) (truncW b.x1) (truncW b.y1)) (by simp [results, Tryz.results149, go_sem]) rfl ⟨rfl, (Mod.alloc _ _).trans (Mod.alloc _ _)⟩

set_option maxRecDepth 100000 in
theorem span_any {b : Bx} (h : b.Ok) (w : World) : Calls Tryz.prog 143 #[bxV b] w (IntPost (spanF b) w) := by
  have HW := hideIt (whole_any h)
  have h0 := h.out.1.2
  have h1 := h.out.2.1.2
  have h2 := h.out.2.2.1.2
  have h3 := h.out.2.2.2.2
  have hsp : spanF b = truncW b.x1 - truncW b.x0 + truncW b.y1 - truncW b.y0 := rfl
  have HS := hideIt hsp
  clear h hsp
  go_enter Tryz.func143, Tryz.ntmps143
  go_wp2_with fail
  refine (HW.out _).mono ?_
  rintro e w1 ⟨rfl, hm⟩
  have hm1 := (Mod.alloc w (bxO b)).trans hm
  clear hm
  go_wp2
  go_ret
  exact ⟨by rw [HS.out]; rfl, hm1.trans (Mod.alloc _ _)⟩

def SomeInt (w : World) (e : Ending) (w' : World) : Prop := ∃ n, e = .returned (.int .i64 n) ∧ Mod [] w w'
theorem span_some {b : Bx} (h : b.Ok) (w : World) : Calls Tryz.prog 143 #[bxV b] w (SomeInt w) := (span_any h w).mono fun _ _ hp => ⟨_, hp⟩

set_option maxRecDepth 100000 in
set_option maxHeartbeats 400000 in
theorem growth_any {b o : Bx} (hb : b.Ok) (ho : o.Ok) (w : World) : Calls Tryz.prog 142 #[bxV b, bxV o] w (SomeInt w) := by
  have HB := hideIt hb
  have HO := hideIt ho
  clear hb ho
  go_enter Tryz.func142, Tryz.ntmps142
  go_wp2_with fail
  have hm1 : Mod [] w (((w.alloc (bxO b)).alloc (bxO o)).alloc (bxO b)) := ((Mod.alloc _ _).trans (Mod.alloc _ _)).trans (Mod.alloc _ _)
  have g1 : (((w.alloc (bxO b)).alloc (bxO o)).alloc (bxO b)).heap[w.heap.size + 1 + 1]? = some (bxO b) := by
    have := heap_alloc_new ((w.alloc (bxO b)).alloc (bxO o)) (bxO b)
    simpa using this
  have g2 : (((w.alloc (bxO b)).alloc (bxO o)).alloc (bxO b)).heap[w.heap.size]? = some (bxO b) := by
    rw [Below.heap_alloc _ _ _ (by simp; omega), Below.heap_alloc _ _ _ (by simp)]
    exact heap_alloc_new w _
  generalize (((w.alloc (bxO b)).alloc (bxO o)).alloc (bxO b)) = w1 at *
  refine (grow_any (rest := []) g1 HB.out.num HO.out.num).mono ?_
  rintro e w2 ⟨rfl, hm2, g3⟩
  have g4 := (hm2.block _ (lt_of_block g2) (by simp; omega)).trans g2
  have HG := hideIt (Bx.grow_ok HB.out HO.out)
  have hm3 : Mod [] w w2 := hm1.then hm2 (fun x hx => .inr (by simp at hx; omega))
  have HM := hideIt hm3
  generalize b.grow o = c at *
  clear hm1 hm2 hm3 g1 g2
  obtain ⟨c0, c1, c2, c3⟩ := cell_bxC (rest := []) g3
  obtain ⟨d0, d1, d2, d3⟩ := cell_bxO g4
  clear g3 g4
  go_wp2_with fail
  go_region_held (fun w' => w'.cell? ⟨w.heap.size + 1 + 1, 0, none⟩ = some (.float .f32 c.x0) ∧ w'.cell? ⟨w.heap.size + 1 + 1, 1, none⟩ = some (.float .f32 c.y0) ∧ w'.cell? ⟨w.heap.size + 1 + 1, 2, none⟩ = some (.float .f32 c.x1) ∧ w'.cell? ⟨w.heap.size + 1 + 1, 3, none⟩ = some (.float .f32 c.y1) ∧
      w'.cell? ⟨w.heap.size, 0, none⟩ = some (.float .f32 b.x0) ∧ w'.cell? ⟨w.heap.size, 1, none⟩ = some (.float .f32 b.y0) ∧ w'.cell? ⟨w.heap.size, 2, none⟩ = some (.float .f32 b.x1) ∧ w'.cell? ⟨w.heap.size, 3, none⟩ = some (.float .f32 b.y1))
    ((first | go_keep | exact ⟨cell_mod hm (by simp [*]), cell_mod hm (by simp [*]), cell_mod hm (by simp [*]), cell_mod hm (by simp [*]), cell_mod hm (by simp [*]), cell_mod hm (by simp [*]), cell_mod hm (by simp [*]), cell_mod hm (by simp [*])⟩))
    ((go_at_call 143; refine (span_some (b := ⟨_, _, _, _⟩) (by first | exact HG.out | exact HB.out) _).mono ?_; rintro e w' ⟨n, rfl, hm⟩))
  rename_i hm0 hheld
  have hmm : Mod [] w w' := ((HM.out.trans (Mod.drew _)).trans hm0).trans hm
  clear hheld hm0 hm
  go_wp2
  go_ret
  exact ⟨_, rfl, hmm⟩

/-! ### how boxes compare: whatever it is, it is a number -/
set_option maxRecDepth 100000 in
theorem isNaN32_any (a : Nat) (w : World) : Calls Tryz.prog 206 #[.float .f32 a] w (BoolPost (FloatKind.f32.format.order a a != some .eq) w) := by
  go_enter Tryz.func206, Tryz.ntmps206
  go_wp2
  go_ret
  exact ⟨rfl, Mod.refl _ _⟩

set_option maxRecDepth 100000 in
theorem compare32_any (a b : Nat) (w : World) : Calls Tryz.prog 195 #[.float .f32 a, .float .f32 b] w (SomeInt w) := by
  go_enter Tryz.func195, Tryz.ntmps195
  go_wp2_with fail
  refine (isNaN32_any _ _).mono ?_
  rintro e w1 ⟨rfl, hm1⟩
  go_wp2_with fail
  refine (isNaN32_any _ _).mono ?_
  rintro e w2 ⟨rfl, hm2⟩
  have hm := hm1.trans hm2
  clear hm1 hm2
  generalize (FloatKind.f32.format.order a a != some .eq) = p
  generalize (FloatKind.f32.format.order b b != some .eq) = q
  go_wp2
  all_goals
    go_ret
    exact ⟨_, rfl, hm⟩

end Go.Proofs.YthimaoipogocfaaGreat

namespace Go.Proofs.YthimaoipogocfaaGreat
open Go.RowKit
attribute [local go_sem] run_store_f32 run_neg_inf

def cmpF (a b : Int) : Int := if a < b then -1 else if b < a then 1 else 0
def orF (a b : Int) : Int := if a = 0 then b else a
def IntEq (n : Int) (w : World) (e : Ending) (w' : World) : Prop := e = .returned (.int .i64 n) ∧ w = w'

set_option maxRecDepth 100000 in
theorem isNaNInt_any (a : Int) (w : World) : Calls Tryz.prog 166 #[.int .i64 a] w fun e w' => e = .returned (.bool false) ∧ w = w' := by
  go_enter Tryz.func166, Tryz.ntmps166
  go_wp2
  go_ret
  exact ⟨ret_bool (by simp), rfl⟩

set_option maxRecDepth 100000 in
theorem compareInt_any (a b : Int) (w : World) : Calls Tryz.prog 141 #[.int .i64 a, .int .i64 b] w (IntEq (cmpF a b) w) := by
  have hc : (a < b → cmpF a b = -1) ∧ (b < a → cmpF a b = 1) ∧ (a = b → cmpF a b = 0) := by
    unfold cmpF
    refine ⟨fun h => by rw [if_pos h], fun h => by rw [if_neg (by omega), if_pos h], fun h => by rw [if_neg (by omega), if_neg (by omega)]⟩
  have HC := hideIt hc
  clear hc
  generalize cmpF a b = z at *
  by_cases h1 : a < b
  · go_enter Tryz.func141, Tryz.ntmps141
    go_wp2_with (go_at_call 166; refine (isNaNInt_any _ _).mono ?_; rintro e w' ⟨rfl, rfl⟩)
    go_ret
    exact ⟨ret_int (HC.out.1 h1).symm, rfl⟩
  · by_cases h2 : b < a
    · go_enter Tryz.func141, Tryz.ntmps141
      go_wp2_with (go_at_call 166; refine (isNaNInt_any _ _).mono ?_; rintro e w' ⟨rfl, rfl⟩)
      go_ret
      exact ⟨ret_int (HC.out.2.1 h2).symm, rfl⟩
    · go_enter Tryz.func141, Tryz.ntmps141
      go_wp2_with (go_at_call 166; refine (isNaNInt_any _ _).mono ?_; rintro e w' ⟨rfl, rfl⟩)
      go_ret
      exact ⟨ret_int (HC.out.2.2 (by omega)).symm, rfl⟩

set_option maxRecDepth 100000 in
theorem or_any {w : World} {g : Nat} {a b : Int} (h0 : w.cell? ⟨g, 0, none⟩ = some (.int .i64 a)) (h1 : w.cell? ⟨g, 1, none⟩ = some (.int .i64 b)) :
    Calls Tryz.prog 140 #[.slice (some ⟨g, 0, none⟩) 2 2] w (IntEq (orF a b) w) := by
  have hc : (a ≠ 0 → orF a b = a) ∧ (a = 0 → orF a b = b) := by
    unfold orF
    exact ⟨fun h => by rw [if_neg h], fun h => by rw [if_pos h]⟩
  have HC := hideIt hc
  clear hc
  generalize orF a b = z at *
  go_enter Tryz.func140, Tryz.ntmps140
  go_wp2_with fail
  go_loop [8] (fun i => ∃ k : Nat, k ≤ 2 ∧ i = .int .i64 k ∧ (1 ≤ k → a = 0) ∧ (2 ≤ k → b = 0)) (fun i => 2 - (intOf i).toNat)
  case atStart => exact ⟨0, by omega, rfl, by omega, by omega⟩
  case round =>
    obtain ⟨k, hk, rfl, ha, hb⟩ := hrel
    have : k = 0 ∨ k = 1 ∨ k = 2 := by omega
    rcases this with rfl | rfl | rfl
    · by_cases hz : a = 0
      · subst hz
        go_wp2_with fail
        go_round
        case rel => exact ⟨1, by omega, by go_num, by simp, by omega⟩
        case measure => simp [intOf]
      · have HZ := hideIt hz
        go_wp2
        go_ret
        exact ⟨ret_int (HC.out.1 HZ.out).symm, rfl⟩
    · have ha' := ha (by omega)
      by_cases hz : b = 0
      · subst hz
        go_wp2_with fail
        go_round
        case rel => exact ⟨2, by omega, by go_num, by simp [ha'], by simp⟩
        case measure => simp [intOf]
      · have HA := hideIt ha'
        go_wp2
        go_ret
        exact ⟨ret_int (HC.out.2 HA.out).symm, rfl⟩
    · have ha' := ha (by omega)
      have hb' := hb (by omega)
      have HA := hideIt (And.intro ha' hb')
      clear ha hb ha' hb'
      go_wp2
      go_ret
      exact ⟨ret_int (by rw [HC.out.2 HA.out.1, HA.out.2]), rfl⟩

end Go.Proofs.YthimaoipogocfaaGreat

namespace Go.Proofs.YthimaoipogocfaaGreat
open Go.RowKit
attribute [local go_sem] run_store_f32 run_neg_inf

theorem or_new (a b : Int) (w : World) : Calls Tryz.prog 140 #[.slice (some ⟨w.heap.size, 0, none⟩) 2 2] (w.alloc (.cells #[.int .i64 a, .int .i64 b] 3)) (IntEq (orF a b) (w.alloc (.cells #[.int .i64 a, .int .i64 b] 3))) :=
  or_any (by rw [cell_of_block (heap_alloc_new w _)]; rfl) (by rw [cell_of_block (heap_alloc_new w _)]; rfl)

set_option maxRecDepth 100000 in
set_option maxHeartbeats 400000 in
theorem compareX_any (a b : Bx) (w : World) : Calls Tryz.prog 170 #[bxV a, bxV b] w (SomeInt w) := by
  go_enter Tryz.func170, Tryz.ntmps170
  go_wp2_with fail
  have hm1 : Mod [] w ((w.alloc (bxO a)).alloc (bxO b)) := (Mod.alloc _ _).trans (Mod.alloc _ _)
  have g1 : ((w.alloc (bxO a)).alloc (bxO b)).heap[w.heap.size]? = some (bxO a) := by
    rw [Below.heap_alloc _ _ _ (by simp)]
    exact heap_alloc_new w _
  have g2 : ((w.alloc (bxO a)).alloc (bxO b)).heap[w.heap.size + 1]? = some (bxO b) := by
    have := heap_alloc_new (w.alloc (bxO a)) (bxO b)
    simpa using this
  generalize ((w.alloc (bxO a)).alloc (bxO b)) = w1 at *
  have HM := hideIt hm1
  clear hm1
  obtain ⟨a0, a1, a2, a3⟩ := cell_bxO g1
  obtain ⟨b0, b1, b2, b3⟩ := cell_bxO g2
  clear g1 g2 a1 a3 b1 b3
  go_region_held (fun w' => w'.cell? ⟨w.heap.size, 0, none⟩ = some (.float .f32 a.x0) ∧ w'.cell? ⟨w.heap.size, 2, none⟩ = some (.float .f32 a.x1) ∧ w'.cell? ⟨w.heap.size + 1, 0, none⟩ = some (.float .f32 b.x0) ∧ w'.cell? ⟨w.heap.size + 1, 2, none⟩ = some (.float .f32 b.x1))
    ((first | go_keep | exact ⟨cell_mod hm (by simp [*]), cell_mod hm (by simp [*]), cell_mod hm (by simp [*]), cell_mod hm (by simp [*])⟩))
    ((first
      | (go_at_call 195; refine (compare32_any _ _ _).mono ?_; rintro e w' ⟨n, rfl, hm⟩)
      | (go_at_call 140; refine (or_new _ _ _).mono ?_; rintro e w'' ⟨rfl, rfl⟩)))
  rename_i n1 hm0 hh
  clear hh
  have hmm := (((HM.out.trans (Mod.drew _)).trans hm0).trans hm).trans (Mod.alloc _ (.cells #[.int .i64 n1, .int .i64 n] 3))
  clear hm0 hm
  go_wp2
  go_ret
  exact ⟨_, rfl, hmm⟩

set_option maxRecDepth 100000 in
set_option maxHeartbeats 400000 in
theorem compareY_any (a b : Bx) (w : World) : Calls Tryz.prog 172 #[bxV a, bxV b] w (SomeInt w) := by
  go_enter Tryz.func172, Tryz.ntmps172
  go_wp2_with fail
  have hm1 : Mod [] w ((w.alloc (bxO a)).alloc (bxO b)) := (Mod.alloc _ _).trans (Mod.alloc _ _)
  have g1 : ((w.alloc (bxO a)).alloc (bxO b)).heap[w.heap.size]? = some (bxO a) := by
    rw [Below.heap_alloc _ _ _ (by simp)]
    exact heap_alloc_new w _
  have g2 : ((w.alloc (bxO a)).alloc (bxO b)).heap[w.heap.size + 1]? = some (bxO b) := by
    have := heap_alloc_new (w.alloc (bxO a)) (bxO b)
    simpa using this
  generalize ((w.alloc (bxO a)).alloc (bxO b)) = w1 at *
  have HM := hideIt hm1
  clear hm1
  obtain ⟨a0, a1, a2, a3⟩ := cell_bxO g1
  obtain ⟨b0, b1, b2, b3⟩ := cell_bxO g2
  clear g1 g2 a0 a2 b0 b2
  go_region_held (fun w' => w'.cell? ⟨w.heap.size, 1, none⟩ = some (.float .f32 a.y0) ∧ w'.cell? ⟨w.heap.size, 3, none⟩ = some (.float .f32 a.y1) ∧ w'.cell? ⟨w.heap.size + 1, 1, none⟩ = some (.float .f32 b.y0) ∧ w'.cell? ⟨w.heap.size + 1, 3, none⟩ = some (.float .f32 b.y1))
    ((first | go_keep | exact ⟨cell_mod hm (by simp [*]), cell_mod hm (by simp [*]), cell_mod hm (by simp [*]), cell_mod hm (by simp [*])⟩))
    ((first
      | (go_at_call 195; refine (compare32_any _ _ _).mono ?_; rintro e w' ⟨n, rfl, hm⟩)
      | (go_at_call 140; refine (or_new _ _ _).mono ?_; rintro e w'' ⟨rfl, rfl⟩)))
  rename_i n1 hm0 hh
  clear hh
  have hmm := (((HM.out.trans (Mod.drew _)).trans hm0).trans hm).trans (Mod.alloc _ (.cells #[.int .i64 n1, .int .i64 n] 3))
  clear hm0 hm
  go_wp2
  go_ret
  exact ⟨_, rfl, hmm⟩


end Go.Proofs.YthimaoipogocfaaGreat

namespace Go.Proofs.YthimaoipogocfaaGreat
open Go.RowKit
attribute [local go_sem] run_store_f32 run_neg_inf

/-- there is a box at the head of a block -/
def HasBx (w : World) (p : Nat) (T : TypeId) (b : Bx) : Prop := ∃ rest, w.heap[p]? = some (bxC b rest T)

theorem HasBx.kept {w w' : World} {p : Nat} {T : TypeId} {b : Bx} {F : List Nat} (h : HasBx w p T b) (hm : Mod F w w') (hp : p ∉ F) : HasBx w' p T b := by
  obtain ⟨rest, h⟩ := h
  exact ⟨rest, (hm.block p (lt_of_block h) hp).trans h⟩

def selOf (P : Program) (t : TypeId) (nm : String) : Option (List (TypeId × Nat × Bool) × Option (FuncId × Bool)) :=
  (P.info? t).bind fun i => (i.methods.find? (·.name == nm)).map fun m => (m.path.toList.map (fun s => (s.struct, s.index, s.deref)), m.func)

theorem run_edges_T {w : World} {p : Nat} {b : Bx} (h : HasBx w p 130 b) {nm : String} (hs : selOf Tryz.prog 113 nm = some ([(130, 0, true)], some (69, false))) (n : Nat) :
    (method (n + 1) 113 (.pointer (some ⟨p, 0, none⟩)) nm).run Tryz.prog w = .ok (69, bxV b) w := by
  obtain ⟨rest, h⟩ := h
  obtain ⟨c0, c1, c2, c3⟩ := cell_bxC h
  unfold selOf at hs
  obtain ⟨i, hi, hs⟩ := Option.bind_eq_some_iff.1 hs
  obtain ⟨m, hm, hs⟩ := Option.map_eq_some_iff.1 hs
  obtain ⟨nmm, sig, path, func⟩ := m
  simp only [Prod.mk.injEq] at hs
  obtain ⟨h1, rfl⟩ := hs
  obtain ⟨s, hpath, hs'⟩ : ∃ s : FieldStep, path.toList = [s] ∧ (s.struct, s.index, s.deref) = (130, 0, true) := by
    cases hp : path.toList with
    | nil => rw [hp] at h1; simp at h1
    | cons s r =>
      rw [hp] at h1
      simp only [List.map_cons, List.cons.injEq, List.map_eq_nil_iff] at h1
      obtain ⟨h2, rfl⟩ := h1
      exact ⟨s, rfl, h2⟩
  simp only [Prod.mk.injEq] at hs'
  obtain ⟨s1, s2, s3⟩ := hs'
  unfold method
  simp [typeInfo, hi, hm, hpath, follow, s1, s2, s3, run_underlying Tryz.underlying130, receiverAt, Place.get, fieldPlace, asAddr, loadVar]
  simp [go_sem, Addr.add, c0, c1, c2, c3]

theorem run_edges_N {w : World} {p : Nat} {b : Bx} (h : HasBx w p 126 b) {nm : String} (hs : selOf Tryz.prog 115 nm = some ([(126, 0, true)], some (69, false))) (n : Nat) :
    (method (n + 1) 115 (.pointer (some ⟨p, 0, none⟩)) nm).run Tryz.prog w = .ok (69, bxV b) w := by
  obtain ⟨rest, h⟩ := h
  obtain ⟨c0, c1, c2, c3⟩ := cell_bxC h
  unfold selOf at hs
  obtain ⟨i, hi, hs⟩ := Option.bind_eq_some_iff.1 hs
  obtain ⟨m, hm, hs⟩ := Option.map_eq_some_iff.1 hs
  obtain ⟨nmm, sig, path, func⟩ := m
  simp only [Prod.mk.injEq] at hs
  obtain ⟨h1, rfl⟩ := hs
  obtain ⟨s, hpath, hs'⟩ : ∃ s : FieldStep, path.toList = [s] ∧ (s.struct, s.index, s.deref) = (126, 0, true) := by
    cases hp : path.toList with
    | nil => rw [hp] at h1; simp at h1
    | cons s r =>
      rw [hp] at h1
      simp only [List.map_cons, List.cons.injEq, List.map_eq_nil_iff] at h1
      obtain ⟨h2, rfl⟩ := h1
      exact ⟨s, rfl, h2⟩
  simp only [Prod.mk.injEq] at hs'
  obtain ⟨s1, s2, s3⟩ := hs'
  unfold method
  simp [typeInfo, hi, hm, hpath, follow, s1, s2, s3, run_underlying Tryz.underlying126, receiverAt, Place.get, fieldPlace, asAddr, loadVar]
  simp [go_sem, Addr.add, c0, c1, c2, c3]


set_option maxRecDepth 100000 in
set_option maxHeartbeats 400000 in
theorem cmpTX_any {w : World} {p q : Nat} {a b : Bx} (hp : HasBx w p 130 a) (hq : HasBx w q 130 b) :
    Calls Tryz.prog 169 #[.pointer (some ⟨p, 0, none⟩), .pointer (some ⟨q, 0, none⟩)] w (SomeInt w) := by
  go_enter Tryz.func169, Tryz.ntmps169
  go_wp2_with fail
  rw [run_edges_T hp]
  case hs => kernel_rfl
  go_wp2_with fail
  refine (edges_any _ _).mono ?_
  rintro e w1 ⟨rfl, hm1⟩
  have hq1 := hq.kept hm1 (by simp)
  go_wp2_with fail
  rw [run_edges_T hq1]
  case hs => kernel_rfl
  go_wp2_with fail
  refine (edges_any _ _).mono ?_
  rintro e w2 ⟨rfl, hm2⟩
  have hm := hm1.trans hm2
  clear hm1 hm2 hq1 hp hq
  go_wp2_with fail
  refine (compareX_any _ _ _).mono ?_
  rintro e w3 ⟨n, rfl, hm3⟩
  have hm' := hm.trans hm3
  go_wp2
  go_ret
  exact ⟨_, rfl, hm'⟩

set_option maxRecDepth 100000 in
set_option maxHeartbeats 400000 in
theorem cmpTY_any {w : World} {p q : Nat} {a b : Bx} (hp : HasBx w p 130 a) (hq : HasBx w q 130 b) :
    Calls Tryz.prog 171 #[.pointer (some ⟨p, 0, none⟩), .pointer (some ⟨q, 0, none⟩)] w (SomeInt w) := by
  go_enter Tryz.func171, Tryz.ntmps171
  go_wp2_with fail
  rw [run_edges_T hp]
  case hs => kernel_rfl
  go_wp2_with fail
  refine (edges_any _ _).mono ?_
  rintro e w1 ⟨rfl, hm1⟩
  have hq1 := hq.kept hm1 (by simp)
  go_wp2_with fail
  rw [run_edges_T hq1]
  case hs => kernel_rfl
  go_wp2_with fail
  refine (edges_any _ _).mono ?_
  rintro e w2 ⟨rfl, hm2⟩
  have hm := hm1.trans hm2
  clear hm1 hm2 hq1 hp hq
  go_wp2_with fail
  refine (compareY_any _ _ _).mono ?_
  rintro e w3 ⟨n, rfl, hm3⟩
  have hm' := hm.trans hm3
  go_wp2
  go_ret
  exact ⟨_, rfl, hm'⟩

set_option maxRecDepth 100000 in
set_option maxHeartbeats 400000 in
theorem cmpNX_any {w : World} {p q : Nat} {a b : Bx} (hp : HasBx w p 126 a) (hq : HasBx w q 126 b) :
    Calls Tryz.prog 177 #[.pointer (some ⟨p, 0, none⟩), .pointer (some ⟨q, 0, none⟩)] w (SomeInt w) := by
  go_enter Tryz.func177, Tryz.ntmps177
  go_wp2_with fail
  rw [run_edges_N hp]
  case hs => kernel_rfl
  go_wp2_with fail
  refine (edges_any _ _).mono ?_
  rintro e w1 ⟨rfl, hm1⟩
  have hq1 := hq.kept hm1 (by simp)
  go_wp2_with fail
  rw [run_edges_N hq1]
  case hs => kernel_rfl
  go_wp2_with fail
  refine (edges_any _ _).mono ?_
  rintro e w2 ⟨rfl, hm2⟩
  have hm := hm1.trans hm2
  clear hm1 hm2 hq1 hp hq
  go_wp2_with fail
  refine (compareX_any _ _ _).mono ?_
  rintro e w3 ⟨n, rfl, hm3⟩
  have hm' := hm.trans hm3
  go_wp2
  go_ret
  exact ⟨_, rfl, hm'⟩

set_option maxRecDepth 100000 in
set_option maxHeartbeats 400000 in
theorem cmpNY_any {w : World} {p q : Nat} {a b : Bx} (hp : HasBx w p 126 a) (hq : HasBx w q 126 b) :
    Calls Tryz.prog 178 #[.pointer (some ⟨p, 0, none⟩), .pointer (some ⟨q, 0, none⟩)] w (SomeInt w) := by
  go_enter Tryz.func178, Tryz.ntmps178
  go_wp2_with fail
  rw [run_edges_N hp]
  case hs => kernel_rfl
  go_wp2_with fail
  refine (edges_any _ _).mono ?_
  rintro e w1 ⟨rfl, hm1⟩
  have hq1 := hq.kept hm1 (by simp)
  go_wp2_with fail
  rw [run_edges_N hq1]
  case hs => kernel_rfl
  go_wp2_with fail
  refine (edges_any _ _).mono ?_
  rintro e w2 ⟨rfl, hm2⟩
  have hm := hm1.trans hm2
  clear hm1 hm2 hq1 hp hq
  go_wp2_with fail
  refine (compareY_any _ _ _).mono ?_
  rintro e w3 ⟨n, rfl, hm3⟩
  have hm' := hm.trans hm3
  go_wp2
  go_ret
  exact ⟨_, rfl, hm'⟩

end Go.Proofs.YthimaoipogocfaaGreat

namespace Go.Proofs.YthimaoipogocfaaGreat
open Go.RowKit

/-! ### rows of pointers -/
def ptr (p : Nat) : Value := .pointer (some ⟨p, 0, none⟩)
def ptrs (ps : List Nat) : List Value := ps.map ptr
theorem ptrs_length (ps : List Nat) : (ptrs ps).length = ps.length := by simp [ptrs]
/-- the block of a row: pointers, and what stands behind them -/
def rowO (ps : List Nat) (rest : List Value) (T : TypeId) : Obj := .cells (ptrs ps ++ rest).toArray T (0, 0)

theorem rowO_cell {w : World} {g : Nat} {ps : List Nat} {rest : List Value} {T : TypeId} (h : w.heap[g]? = some (rowO ps rest T)) (j : Nat) (hj : j < ps.length) : w.cell? ⟨g, j, none⟩ = some (.pointer (some ⟨ps[j], 0, none⟩)) := by
  rw [cell_of_block h]
  simp [ptrs, List.getElem?_append, hj, ptr]

/-- two places exchanged -/
def swapL (ps : List Nat) (i j : Nat) : List Nat := (ps.set i (ps.getD j 0)).set j (ps.getD i 0)
theorem swapL_length (ps : List Nat) (i j : Nat) : (swapL ps i j).length = ps.length := by simp [swapL]
theorem swapL_perm (ps : List Nat) (i : Nat) (h : i + 1 < ps.length) : (swapL ps (i + 1) i).Perm ps := by
  induction ps generalizing i with
  | nil => simp at h
  | cons a l ih =>
    cases i with
    | zero =>
      cases l with
      | nil => simp at h
      | cons b l =>
        show (swapL (a :: b :: l) 1 0).Perm _
        simp [swapL]
        exact List.Perm.swap _ _ _
    | succ i =>
      have := ih i (by simpa using h)
      simp only [swapL, List.set_cons_succ, List.getD_cons_succ] at this ⊢
      exact this.cons a

theorem rowO_swap {w : World} {g : Nat} {ps : List Nat} {rest : List Value} {T : TypeId} (h : w.heap[g]? = some (rowO ps rest T)) (i j : Nat) (hi : i < ps.length) (hj : j < ps.length) :
    ((w.setCell ⟨g, i, none⟩ (.pointer (some ⟨ps[j], 0, none⟩))).setCell ⟨g, j, none⟩ (.pointer (some ⟨ps[i], 0, none⟩))).drew.heap[g]? = some (rowO (swapL ps i j) rest T) := by
  have h1 := block_setCell h i (.pointer (some ⟨ps[j], 0, none⟩))
  have h2 := block_setCell h1 j (.pointer (some ⟨ps[i], 0, none⟩))
  refine h2.trans ?_
  have e : ∀ (l : List Nat) (k v : Nat), k < l.length → ((ptrs l ++ rest).toArray.setIfInBounds k (.pointer (some ⟨v, 0, none⟩))) = (ptrs (l.set k v) ++ rest).toArray := by
    intro l k v hk
    rw [List.setIfInBounds_toArray]
    congr 1
    rw [List.set_append_left _ _ (by rw [ptrs_length]; exact hk)]
    simp [ptrs, List.map_set, ptr]
  rw [e _ _ _ hi, e _ _ _ (by simpa using hj)]
  unfold rowO swapL
  have q1 : ps.getD j 0 = ps[j] := by simp [List.getD, hj]
  have q2 : ps.getD i 0 = ps[i] := by simp [List.getD, hi]
  rw [q1, q2]

/-- what the comparison owes -/
structure CmpOk (g : FuncId) (ps : List Nat) (F : List Nat) (w : World) : Prop where
  out : ∀ p ∈ ps, ∀ q ∈ ps, ∀ W, Mod F w W → Calls Tryz.prog g #[.pointer (some ⟨p, 0, none⟩), .pointer (some ⟨q, 0, none⟩)] W (SomeInt W)

def SortPost (blk : Nat) (ps : List Nat) (rest : List Value) (T : TypeId) (w : World) (e : Ending) (w' : World) : Prop :=
  e = .returned (.tuple #[]) ∧ Mod [blk] w w' ∧ ∃ ps', ps'.Perm ps ∧ w'.heap[blk]? = some (rowO ps' rest T)

theorem CmpOk.at {g : FuncId} {ps F : List Nat} {w : World} (h : CmpOk g ps F w) {ps' : List Nat} (hp : ps'.Perm ps) {W : World} (hm : Mod F w W) {i j : Nat} (hi : i < ps'.length) (hj : j < ps'.length) :
    Calls Tryz.prog g #[.pointer (some ⟨ps'[i], 0, none⟩), .pointer (some ⟨ps'[j], 0, none⟩)] W (SomeInt W) :=
  h.out _ (hp.mem_iff.1 (List.getElem_mem hi)) _ (hp.mem_iff.1 (List.getElem_mem hj)) W hm

end Go.Proofs.YthimaoipogocfaaGreat

