import Derived.Test.YtideopmkmobicaaRows
import Derived.WalkKit
import Derived.WalkSpells
import Derived.WalkLawsBesides
namespace Go.Proofs.Ytideopmkmobicaa
open Go.RowKit

theorem rem_lt (c n : Int) (hn : 0 < n) : 0 ≤ c % n ∧ c % n < n := ⟨Int.emod_nonneg _ (by omega), Int.emod_lt_of_pos _ hn⟩

theorem rem_neg (c n : Int) (hc : c < 0) (hn : 0 < n) : 0 ≤ -(c + 1).tmod n ∧ -(c + 1).tmod n < n := by
  have e : -(c + 1).tmod n = (-(c + 1)).tmod n := by rw [Int.neg_tmod]
  rw [e, Int.tmod_eq_emod_of_nonneg (by omega)]
  exact rem_lt _ n hn

/-- pick: a number below n. -/
theorem pick_any (c n : Int) (w : World) (h1 : -9223372036854775808 ≤ c) (h2 : c ≤ 9223372036854775807) (hn : 0 < n) (hn2 : n ≤ 9223372036854775807) :
    Calls Try.prog 11 #[.int .i64 c, .int .i64 n] w fun e w' => ∃ k : Int, e = .returned (.int .i64 k) ∧ 0 ≤ k ∧ k < n ∧ w' = w := by
  by_cases hc : c < 0
  · go_enter Try.func11, Try.ntmps11
    go_wp2
    go_ret
    exact ⟨_, rfl, (rem_neg c n hc hn).1, (rem_neg c n hc hn).2, rfl⟩
  · go_enter Try.func11, Try.ntmps11
    go_wp2
    go_ret
    exact ⟨_, rfl, (rem_lt _ n hn).1, (rem_lt _ n hn).2, rfl⟩

theorem num_any (c : Int) (w : World) : Calls Try.prog 20 #[.int .i64 c] w fun e w' => e = .returned (.int .i64 c) ∧ w' = w := by
  go_enter Try.func20, Try.ntmps20
  go_wp2
  go_ret
  exact ⟨rfl, rfl⟩

theorem ret_bool {a b : Bool} (h : a = b) : Ending.returned (.bool a) = .returned (.bool b) := by rw [h]
theorem dec_true {p : Prop} [Decidable p] (h : p) : true = decide p := (decide_eq_true h).symm
theorem dec_false {p : Prop} [Decidable p] (h : ¬ p) : false = decide p := (decide_eq_false h).symm

def fanB (n : Int) : Bool := decide (4 ≤ n ∧ n ≤ 16)
theorem fanB_true {n : Int} (h : 4 ≤ n ∧ n ≤ 16) : true = fanB n := dec_true h
theorem fanB_false {n : Int} (h : ¬ (4 ≤ n ∧ n ≤ 16)) : false = fanB n := dec_false h
theorem fanB_iff {n : Int} : fanB n = true ↔ (4 ≤ n ∧ n ≤ 16) := by simp [fanB]

theorem isFan_any (n : Int) (w : World) : Calls Try.prog 18 #[.int .i64 n] w fun e w' => e = .returned (.bool (fanB n)) ∧ w' = w := by
  by_cases h1 : 4 ≤ n
  · by_cases h2 : n ≤ 16
    · go_enter Try.func18, Try.ntmps18
      go_wp2
      go_ret
      exact ⟨ret_bool (fanB_true (by omega)), rfl⟩
    · go_enter Try.func18, Try.ntmps18
      go_wp2
      go_ret
      exact ⟨ret_bool (fanB_false (by omega)), rfl⟩
  · go_enter Try.func18, Try.ntmps18
    go_wp2
    go_ret
    exact ⟨ret_bool (fanB_false (by omega)), rfl⟩

def idB (n : Int) : Bool := decide (0 ≤ n ∧ n ≤ 4095)
theorem idB_true {n : Int} (h : 0 ≤ n ∧ n ≤ 4095) : true = idB n := dec_true h
theorem idB_false {n : Int} (h : ¬ (0 ≤ n ∧ n ≤ 4095)) : false = idB n := dec_false h
theorem idB_iff {n : Int} : idB n = true ↔ (0 ≤ n ∧ n ≤ 4095) := by simp [idB]

theorem isID_any (n : Int) (w : World) : Calls Try.prog 61 #[.int .i64 n] w fun e w' => e = .returned (.bool (idB n)) ∧ w' = w := by
  by_cases h1 : 0 ≤ n
  · by_cases h2 : n ≤ 4095
    · go_enter Try.func61, Try.ntmps61
      go_wp2
      go_ret
      exact ⟨ret_bool (idB_true (by omega)), rfl⟩
    · go_enter Try.func61, Try.ntmps61
      go_wp2
      go_ret
      exact ⟨ret_bool (idB_false (by omega)), rfl⟩
  · go_enter Try.func61, Try.ntmps61
    go_wp2
    go_ret
    exact ⟨ret_bool (idB_false (by omega)), rfl⟩

def coordB (n : Int) : Bool := decide (-1000000000 ≤ n ∧ n ≤ 1000000000)
theorem coordB_true {n : Int} (h : -1000000000 ≤ n ∧ n ≤ 1000000000) : true = coordB n := dec_true h
theorem coordB_false {n : Int} (h : ¬ (-1000000000 ≤ n ∧ n ≤ 1000000000)) : false = coordB n := dec_false h
theorem coordB_iff {n : Int} : coordB n = true ↔ (-1000000000 ≤ n ∧ n ≤ 1000000000) := by simp [coordB]

theorem isCoord_any (n : Int) (w : World) : Calls Try.prog 69 #[.int .i64 n] w fun e w' => e = .returned (.bool (coordB n)) ∧ w' = w := by
  by_cases h1 : -1000000000 ≤ n
  · by_cases h2 : n ≤ 1000000000
    · go_enter Try.func69, Try.ntmps69
      go_wp2
      go_ret
      exact ⟨ret_bool (coordB_true (by omega)), rfl⟩
    · go_enter Try.func69, Try.ntmps69
      go_wp2
      go_ret
      exact ⟨ret_bool (coordB_false (by omega)), rfl⟩
  · go_enter Try.func69, Try.ntmps69
    go_wp2
    go_ret
    exact ⟨ret_bool (coordB_false (by omega)), rfl⟩

/-- A place. -/
def placeB (x y : Int) : Bool := decide ((-1000000000 ≤ x ∧ x ≤ 1000000000) ∧ (-1000000000 ≤ y ∧ y ≤ 1000000000))
theorem placeB_true {x y : Int} (h : (-1000000000 ≤ x ∧ x ≤ 1000000000) ∧ (-1000000000 ≤ y ∧ y ≤ 1000000000)) : true = placeB x y := dec_true h
theorem placeB_false {x y : Int} (h : ¬ ((-1000000000 ≤ x ∧ x ≤ 1000000000) ∧ (-1000000000 ≤ y ∧ y ≤ 1000000000))) : false = placeB x y := dec_false h
theorem placeB_iff {x y : Int} : placeB x y = true ↔ ((-1000000000 ≤ x ∧ x ≤ 1000000000) ∧ (-1000000000 ≤ y ∧ y ≤ 1000000000)) := by simp [placeB]

theorem isPlace_any (x y : Int) (w : World) : Calls Try.prog 67 #[.int .i64 x, .int .i64 y] w fun e w' => e = .returned (.bool (placeB x y)) ∧ w' = w := by
  have hpl : placeB x y = (coordB x && coordB y) := by simp [placeB, coordB]
  have H : Hid (placeB x y = (coordB x && coordB y)) := hpl
  clear hpl
  cases hx : coordB x with
  | true =>
    go_enter Try.func67, Try.ntmps67
    go_wp2_with fail
    refine (isCoord_any x _).mono ?_
    rw [hx]
    rintro e w' ⟨rfl, rfl⟩
    go_wp2_with fail
    refine (isCoord_any y _).mono ?_
    rintro e w' ⟨rfl, rfl⟩
    go_wp2
    go_ret
    exact ⟨ret_bool (by rw [H.out, hx]; rfl), rfl⟩
  | false =>
    go_enter Try.func67, Try.ntmps67
    go_wp2_with fail
    refine (isCoord_any x _).mono ?_
    rw [hx]
    rintro e w' ⟨rfl, rfl⟩
    go_wp2
    go_ret
    exact ⟨ret_bool (by rw [H.out, hx]; rfl), rfl⟩

theorem Place_any (x y : Int) (w : World) : Calls Try.prog 64 #[.int .i64 x, .int .i64 y] w fun e w' => e = .returned (.bool (placeB x y)) ∧ w' = w := by
  by_cases h1 : -1000000000 ≤ x <;> by_cases h2 : x ≤ 1000000000 <;> by_cases h3 : -1000000000 ≤ y <;> by_cases h4 : y ≤ 1000000000
  all_goals
    go_enter Try.func64, Try.ntmps64
    go_wp2
    go_ret
    first
      | exact ⟨ret_bool (placeB_true (by omega)), rfl⟩
      | exact ⟨ret_bool (placeB_false (by omega)), rfl⟩

/-- A rectangle. -/
def rectB (x0 y0 x1 y1 : Int) : Bool := placeB x0 y0 && placeB x1 y1 && decide (x0 ≤ x1) && decide (y0 ≤ y1)

abbrev R4 (x0 y0 x1 y1 : Int) : Value := .agg #[.int .i64 x0, .int .i64 y0, .int .i64 x1, .int .i64 y1]
abbrev B4 (x0 y0 x1 y1 : Int) : Obj := .cells #[.int .i64 x0, .int .i64 y0, .int .i64 x1, .int .i64 y1] 37

theorem isRect_any (x0 y0 x1 y1 : Int) (w : World) : Calls Try.prog 62 #[R4 x0 y0 x1 y1] w fun e w' => e = .returned (.bool (rectB x0 y0 x1 y1)) ∧ w' = w.alloc (B4 x0 y0 x1 y1) := by
  cases hp : placeB x0 y0 with
  | false =>
    go_enter Try.func62, Try.ntmps62
    go_wp2_with fail
    refine (isPlace_any x0 y0 _).mono ?_
    rw [hp]
    rintro e w' ⟨rfl, rfl⟩
    go_wp2
    go_ret
    exact ⟨ret_bool (by simp [rectB, hp]), rfl⟩
  | true =>
    cases hq : placeB x1 y1 with
    | false =>
      go_enter Try.func62, Try.ntmps62
      go_wp2_with fail
      refine (isPlace_any x0 y0 _).mono ?_
      rw [hp]
      rintro e w' ⟨rfl, rfl⟩
      go_wp2_with fail
      refine (isPlace_any x1 y1 _).mono ?_
      rw [hq]
      rintro e w' ⟨rfl, rfl⟩
      go_wp2
      go_ret
      exact ⟨ret_bool (by simp [rectB, hp, hq]), rfl⟩
    | true =>
      by_cases h1 : x0 ≤ x1 <;> by_cases h2 : y0 ≤ y1
      all_goals
        go_enter Try.func62, Try.ntmps62
        go_wp2_with fail
        refine (isPlace_any x0 y0 _).mono ?_
        rw [hp]
        rintro e w' ⟨rfl, rfl⟩
        go_wp2_with fail
        refine (isPlace_any x1 y1 _).mono ?_
        rw [hq]
        rintro e w' ⟨rfl, rfl⟩
        go_wp2
        go_ret
        refine ⟨ret_bool ?_, rfl⟩
        simp [rectB, hp, hq]
        try omega

theorem Rect_any (x0 y0 x1 y1 : Int) (w : World) : Calls Try.prog 50 #[R4 x0 y0 x1 y1] w fun e w' => e = .returned (.bool (rectB x0 y0 x1 y1)) ∧ w' = w.alloc (B4 x0 y0 x1 y1) := by
  cases hp : placeB x0 y0 <;> cases hq : placeB x1 y1 <;> by_cases h1 : x0 ≤ x1 <;> by_cases h2 : y0 ≤ y1
  all_goals
    go_enter Try.func50, Try.ntmps50
    go_wp2_with fail
    refine (Place_any x0 y0 _).mono ?_
    rw [hp]
    rintro e w' ⟨rfl, rfl⟩
    go_wp2_with fail
    refine (Place_any x1 y1 _).mono ?_
    rw [hq]
    rintro e w' ⟨rfl, rfl⟩
    go_wp2
    go_ret
    refine ⟨ret_bool ?_, rfl⟩
    simp [rectB, hp, hq]
    try omega
end Go.Proofs.Ytideopmkmobicaa
