import Derived.Test.YthimaoipogocfaaGreatHeap7
import Derived.Test.YthimaoipogocfaaGreatJ12
namespace Go.Proofs.YthimaoipogocfaaGreat
open Go.RowKit
attribute [local go_sem] run_store_f32 run_neg_inf

/-! ### how far a place is -/
def besI (n low high : Int) : Int := max (low - n) (max (n - high) 0)
def farI (x y x0 y0 x1 y1 : Int) : Int := besI x x0 x1 * besI x x0 x1 + besI y y0 y1 * besI y y0 y1
def Near9 (n : Int) : Prop := -1000000000 ≤ n ∧ n ≤ 1000000000

theorem max2_int {P : Program} (a b : Int) (w : World) : (Builtin.max2 (.int .i64 a) (.int .i64 b)).run P w = .ok (.int .i64 (max a b)) w := by
  unfold Builtin.max2
  by_cases h : a < b
  · simp [h, Int.max_eq_right (Int.le_of_lt h)]
  · simp [h, Int.max_eq_left (by omega : b ≤ a)]
theorem run_max3 {P : Program} (ts : Array TypeId) (t : TypeId) (a b c : Int) (w : World) : (Builtin.max_ ts t #[.int .i64 a, .int .i64 b, .int .i64 c]).run P w = .ok (.int .i64 (max (max a b) c)) w := by
  simp [Builtin.max_, max2_int]

set_option maxRecDepth 100000 in
theorem beside_any {n low high : Int} (hn : Near9 n) (hl : Near9 low) (hh : Near9 high) (w : World) : Calls Tryz.prog 148 #[.int .i64 n, .int .i64 low, .int .i64 high] w (fun e w' => e = .returned (.int .i64 (besI n low high)) ∧ w' = w) := by
  obtain ⟨n1, n2⟩ := hn
  obtain ⟨l1, l2⟩ := hl
  obtain ⟨h1, h2⟩ := hh
  have hmx := run_max3 (P := Tryz.prog) #[3, 3, 3] 3 (low - n) (n - high) 0
  go_enter Tryz.func148, Tryz.ntmps148
  go_wp2
  go_ret
  exact ⟨rfl, rfl⟩

theorem besI_near {n low high : Int} (hn : Near9 n) (hl : Near9 low) (hh : Near9 high) : 0 ≤ besI n low high ∧ besI n low high ≤ 2000000000 := by
  unfold Near9 at *
  unfold besI
  omega
theorem sq_near {a : Int} (h0 : 0 ≤ a) (h : a ≤ 2000000000) : 0 ≤ a * a ∧ a * a ≤ 4000000000000000000 := ⟨Int.mul_nonneg h0 h0, by
  have := Int.mul_le_mul h h h0 (by omega : (0 : Int) ≤ 2000000000)
  omega⟩
theorem besI_mono {n l h l' h' : Int} (hl : l' ≤ l) (hh : h ≤ h') : besI n l' h' ≤ besI n l h := by
  unfold besI
  omega
theorem besI_pos (n l h : Int) : 0 ≤ besI n l h := by unfold besI; omega
theorem farI_mono {x y a0 a1 a2 a3 b0 b1 b2 b3 : Int} (h0 : b0 ≤ a0) (h1 : b1 ≤ a1) (h2 : a2 ≤ b2) (h3 : a3 ≤ b3) : farI x y b0 b1 b2 b3 ≤ farI x y a0 a1 a2 a3 := by
  unfold farI
  have k1 := besI_mono (n := x) h0 h2
  have k2 := besI_mono (n := y) h1 h3
  exact Int.add_le_add (Int.mul_le_mul k1 k1 (besI_pos _ _ _) (besI_pos _ _ _)) (Int.mul_le_mul k2 k2 (besI_pos _ _ _) (besI_pos _ _ _))

set_option maxRecDepth 100000 in
set_option maxHeartbeats 400000 in
theorem far_any {x y x0 y0 x1 y1 : Int} (hx : Near9 x) (hy : Near9 y) (h0 : Near9 x0) (h1 : Near9 y0) (h2 : Near9 x1) (h3 : Near9 y1) (w : World) : Calls Tryz.prog 112 #[R4 x0 y0 x1 y1, .int .i64 x, .int .i64 y] w (IntPost (farI x y x0 y0 x1 y1) w) := by
  obtain ⟨a1, a2⟩ := besI_near hx h0 h2
  obtain ⟨b1, b2⟩ := besI_near hy h1 h3
  obtain ⟨a3, a4⟩ := sq_near a1 a2
  obtain ⟨b3, b4⟩ := sq_near b1 b2
  have HE := hideIt (show farI x y x0 y0 x1 y1 = besI x x0 x1 * besI x x0 x1 + besI y y0 y1 * besI y y0 y1 from rfl)
  go_enter Tryz.func112, Tryz.ntmps112
  go_wp2_with fail
  go_region_held (fun w' => w'.cell? ⟨w.heap.size, 0, none⟩ = some (.int .i64 x0) ∧ w'.cell? ⟨w.heap.size, 1, none⟩ = some (.int .i64 y0) ∧ w'.cell? ⟨w.heap.size, 2, none⟩ = some (.int .i64 x1) ∧ w'.cell? ⟨w.heap.size, 3, none⟩ = some (.int .i64 y1))
    ((go_keep))
    ((go_at_call 148; refine (beside_any (by assumption) (by assumption) (by assumption) _).mono ?_; rintro e w' ⟨rfl, rfl⟩))
  all_goals
    go_wp2
    go_ret
    exact ⟨by rw [HE.out]; rfl, (Mod.alloc _ _).trans (Mod.drew _)⟩

def bxFar (x y : Int) (b : Bx) : Int := farI x y (truncW b.x0) (truncW b.y0) (truncW b.x1) (truncW b.y1)
def tgFar (x y : Int) (t : Tg) : Int := farI x y t.x0 t.y0 t.x1 t.y1

set_option maxRecDepth 100000 in
theorem bxFar_any {x y : Int} {b : Bx} (hx : Near9 x) (hy : Near9 y) (hb : b.Ok) (w : World) : Calls Tryz.prog 113 #[bxV b, .int .i64 x, .int .i64 y] w (IntPost (bxFar x y b) w) := by
  have HW := hideIt (whole_any hb)
  have HFR := hideIt (far_any hx hy hb.out.1.2 hb.out.2.1.2 hb.out.2.2.1.2 hb.out.2.2.2.2)
  have HE := hideIt (show bxFar x y b = farI x y (truncW b.x0) (truncW b.y0) (truncW b.x1) (truncW b.y1) from rfl)
  generalize farI x y (truncW b.x0) (truncW b.y0) (truncW b.x1) (truncW b.y1) = d at *
  clear hx hy hb
  go_enter Tryz.func113, Tryz.ntmps113
  go_wp2_with fail
  refine (HW.out _).mono ?_
  rintro e w1 ⟨rfl, hm⟩
  go_wp2_with fail
  refine (HFR.out _).mono ?_
  rintro e w2 ⟨rfl, hm2⟩
  have HM := hideIt (((Mod.alloc _ _).trans hm).trans hm2)
  clear hm hm2
  go_wp2
  go_ret
  exact ⟨by rw [HE.out]; rfl, HM.out⟩

/-- a box is no farther than what lies in it -/
theorem bxFar_le {x y : Int} {t : Tg} {b : Bx} (hr : RectOk t.x0 t.y0 t.x1 t.y1) (hin : t.bx.In b) : bxFar x y b ≤ tgFar x y t := by
  obtain ⟨⟨r1, r2, r3⟩, r4, r5, r6⟩ := hr
  obtain ⟨i1, i2, i3, i4⟩ := hin
  have d0 := (down_is t.x0 r1 (by omega)).2.1
  have d1 := (down_is t.y0 r4 (by omega)).2.1
  have d2 := (up_is t.x1 (by omega) r3).2.1
  have d3 := (up_is t.y1 (by omega) r6).2.1
  exact farI_mono (Int.le_trans (trunc_mono i1) d0) (Int.le_trans (trunc_mono i2) d1) (Int.le_trans d2 (trunc_mono i3)) (Int.le_trans d3 (trunc_mono i4))

end Go.Proofs.YthimaoipogocfaaGreat
