import Derived.Test.YthimaoipogocfaaGreatJ17
namespace Go.Proofs.YthimaoipogocfaaGreat
open Go.RowKit Go.Maps
attribute [local go_sem] run_store_f32 run_neg_inf

theorem remL_lt (c n : Int) (hn : 0 < n) : 0 ≤ c % n ∧ c % n < n := ⟨Int.emod_nonneg _ (by omega), Int.emod_lt_of_pos _ hn⟩

theorem remL_neg (c n : Int) (hc : c < 0) (hn : 0 < n) : 0 ≤ -(c + 1).tmod n ∧ -(c + 1).tmod n < n := by
  have e : -(c + 1).tmod n = (-(c + 1)).tmod n := by rw [Int.neg_tmod]
  rw [e, Int.tmod_eq_emod_of_nonneg (by omega)]
  exact remL_lt _ n hn

/-- pick: a number below n. -/
theorem lpick_any (c n : Int) (w : World) (h1 : -9223372036854775808 ≤ c) (h2 : c ≤ 9223372036854775807) (hn : 0 < n) (hn2 : n ≤ 9223372036854775807) :
    Calls Tryz.prog 53 #[.int .i64 c, .int .i64 n] w fun e w' => ∃ k : Int, e = .returned (.int .i64 k) ∧ 0 ≤ k ∧ k < n ∧ w' = w := by
  by_cases hc : c < 0
  · go_enter Tryz.func53, Tryz.ntmps53
    go_wp2
    go_ret
    exact ⟨_, rfl, (remL_neg c n hc hn).1, (remL_neg c n hc hn).2, rfl⟩
  · go_enter Tryz.func53, Tryz.ntmps53
    go_wp2
    go_ret
    exact ⟨_, rfl, (remL_lt _ n hn).1, (remL_lt _ n hn).2, rfl⟩

theorem num_any (c : Int) (w : World) : Calls Tryz.prog 81 #[.int .i64 c] w fun e w' => e = .returned (.int .i64 c) ∧ w' = w := by
  go_enter Tryz.func81, Tryz.ntmps81
  go_wp2
  go_ret
  exact ⟨rfl, rfl⟩

theorem Place_any (x y : Int) (w : World) : Calls Tryz.prog 155 #[.int .i64 x, .int .i64 y] w fun e w' => e = .returned (.bool (placeB x y)) ∧ w' = w := by
  by_cases h1 : -1000000000 ≤ x <;> by_cases h2 : x ≤ 1000000000 <;> by_cases h3 : -1000000000 ≤ y <;> by_cases h4 : y ≤ 1000000000
  all_goals
    go_enter Tryz.func155, Tryz.ntmps155
    go_wp2
    go_ret
    first
      | exact ⟨ret_bool (placeB_true (by omega)), rfl⟩
      | exact ⟨ret_bool (placeB_false (by omega)), rfl⟩

theorem Rect_any (x0 y0 x1 y1 : Int) (w : World) : Calls Tryz.prog 123 #[R4 x0 y0 x1 y1] w fun e w' => e = .returned (.bool (rectB x0 y0 x1 y1)) ∧ w' = w.alloc (B4 x0 y0 x1 y1) := by
  cases hp : placeB x0 y0 <;> cases hq : placeB x1 y1 <;> by_cases h1 : x0 ≤ x1 <;> by_cases h2 : y0 ≤ y1
  all_goals
    go_enter Tryz.func123, Tryz.ntmps123
    go_wp2_with fail
    refine (Place_any x0 y0 _).mono ?_
    rw [hp]
    rintro e w' ⟨rfl, rfl⟩
    go_wp2_with fail
    refine (Place_any x1 y1 _).mono ?_
    rw [hq]
    rintro e w' ⟨rfl, rfl⟩
    go_wp2
    go_ret
    refine ⟨ret_bool ?_, rfl⟩
    simp [rectB, hp, hq]
    try omega
end Go.Proofs.YthimaoipogocfaaGreat
