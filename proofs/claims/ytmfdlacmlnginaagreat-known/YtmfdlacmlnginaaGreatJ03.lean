import Derived.Test.YtmfdlacmlnginaaGreatJ02
import Derived.BigQuiet
import Derived.BigRegion
import Derived.Deep.RegionHeld
namespace Go.Proofs.YtmfdlacmlnginaaGreat
open Go.RowKit

/-- a word of a greater kind that stands for a number is itself -/
theorem order_self {f : Ieee.Format} {b : Nat} {s : Bool} {m : Nat} {p : Int} (h : f.read b = .number s m p) : f.order b b = some .eq := by
  unfold Ieee.Format.order
  rw [h]
  unfold Ieee.Datum.order
  simp only
  congr 1
  show compareOfLessAndEq _ _ = _
  unfold compareOfLessAndEq
  rw [if_neg (by omega), if_pos rfl]

theorem read_double {s : Bool} {r : Nat} (h : r < 9218868437227405312) : ∃ m p, Ieee.double.read (if s then 9223372036854775808 + r else r) = .number s m p := by
  have hs : Ieee.double.signWeight = 9223372036854775808 := by decide
  have hb : Ieee.double.binade = 4503599627370496 := by decide
  have hi : Ieee.double.infRung = 9218868437227405312 := by decide
  unfold Ieee.Format.read
  simp only [hs, hb, hi]
  have e1 : (if s then 9223372036854775808 + r else r) % 9223372036854775808 = r := by cases s <;> simp <;> omega
  have e2 : ((if s then 9223372036854775808 + r else r) / 9223372036854775808 % 2 == 1) = s := by
    cases s
    · have : r / 9223372036854775808 % 2 = 0 := by omega
      show (r / 9223372036854775808 % 2 == 1) = false
      rw [this]; rfl
    · have : (9223372036854775808 + r) / 9223372036854775808 % 2 = 1 := by omega
      show ((9223372036854775808 + r) / 9223372036854775808 % 2 == 1) = true
      rw [this]; rfl
  rw [e1, e2]
  by_cases h1 : r < 4503599627370496
  · rw [if_pos h1]; exact ⟨_, _, rfl⟩
  · rw [if_neg h1, if_pos h]; exact ⟨_, _, rfl⟩

/-- float64(x) of what an edge may be is a number -/
theorem wide_of {x : Nat} (h1 : 8388608 ≤ rungW x) (h2 : rungW x < 1409286144) : ∃ r, floatToFloatBits .f32 x .f64 = some r ∧ Ieee.double.order r r = some .eq := by
  have hr : Ieee.single.read x = .number (negW x) (8388608 + rungW x % 8388608) (-149 + ((rungW x / 8388608 - 1 : Nat) : Int)) := by
    have hs : Ieee.single.signWeight = 2147483648 := by decide
    have hb : Ieee.single.binade = 8388608 := by decide
    have hl : Ieee.single.leastPlace = -149 := by decide
    have hi : Ieee.single.infRung = 2139095040 := by decide
    unfold Ieee.Format.read
    simp only [hs, hb, hl, hi]
    unfold rungW at h1 h2
    rw [if_neg (by omega), if_pos (by omega)]
    rfl
  generalize negW x = s at hr
  obtain ⟨m, hm⟩ : ∃ m, 8388608 + rungW x % 8388608 = m := ⟨_, rfl⟩
  obtain ⟨e, he⟩ : ∃ e, rungW x / 8388608 - 1 = e := ⟨_, rfl⟩
  rw [hm, he] at hr
  have m1 : 8388608 ≤ m := by omega
  have m2 : m < 16777216 := by omega
  have e2 : e ≤ 167 := by omega
  have hlog : m.log2 = 23 := by
    have := (Nat.log2_eq_iff (n := m) (k := 23) (by omega)).2 ⟨by omega, by omega⟩
    exact this
  have hw : ∃ r, Ieee.double.write (.number s m (-149 + (e : Int))) = (if s then 9223372036854775808 + r else r) ∧ r < 9218868437227405312 := by
    show ∃ r, Ieee.double.nearest s m (-149 + (e : Int)) = _ ∧ _
    unfold Ieee.Format.nearest
    rw [if_neg (by omega)]
    have hb : Ieee.double.binade = 4503599627370496 := by decide
    have hl : Ieee.double.leastPlace = -1074 := by decide
    have hi : Ieee.double.infRung = 9218868437227405312 := by decide
    have hf : Ieee.double.fractionBits = 52 := by decide
    have hs : Ieee.double.signWeight = 9223372036854775808 := by decide
    simp only [hl, hf, hb, hi, hlog]
    have q1 : max (-149 + (e : Int) + ((23 : Nat) : Int) - ((52 : Nat) : Int)) (-1074) = (e : Int) - 178 := by omega
    rw [q1]
    have q2 : (-149 + (e : Int) - ((e : Int) - 178)).toNat = 29 := by omega
    have q3 : ((e : Int) - 178 - (-149 + (e : Int))).toNat = 0 := by omega
    have q4 : ((e : Int) - 178 - -1074).toNat = e + 896 := by omega
    rw [q2, q3, q4]
    obtain ⟨k, hk, _, hk3⟩ := cut_even s (m <<< 29) 0 (by omega)
    rw [hk, hk3 (by simp [Nat.mod_one])]
    simp only [Nat.pow_zero, Nat.div_one, Nat.shiftLeft_eq]
    unfold Ieee.Format.word
    rw [hs]
    have b1 : m * 2 ^ 29 < 16777216 * 2 ^ 29 := Nat.mul_lt_mul_of_pos_right m2 (Nat.two_pow_pos _)
    have b2 : (16777216 * 2 ^ 29 : Nat) = 9007199254740992 := by decide
    rw [b2] at b1
    refine ⟨_, rfl, ?_⟩
    have b4 : (e + 896) * 4503599627370496 + 9007199254740992 ≤ 9218868437227405312 := by omega
    exact Nat.lt_of_le_of_lt (Nat.min_le_left _ _) (Nat.lt_of_lt_of_le (Nat.add_lt_add_left b1 _) b4)
  obtain ⟨r, hw, hr2⟩ := hw
  refine ⟨(if s then 9223372036854775808 + r else r), ?_, ?_⟩
  · unfold floatToFloatBits
    rw [if_neg (by decide)]
    have hd : FloatKind.f32.decode x = .number s m (-149 + (e : Int)) := hr
    rw [hd]
    simp only
    have hen : FloatKind.f64.encode (.number s m (-149 + (e : Int))) = (if s then 9223372036854775808 + r else r) := hw
    rw [hen]
    obtain ⟨m', p', hrd⟩ := read_double (s := s) hr2
    have hde : FloatKind.f64.decode (if s then 9223372036854775808 + r else r) = .number s m' p' := hrd
    rw [hde]
    rfl
  · obtain ⟨m', p', hrd⟩ := read_double (s := s) hr2
    exact order_self hrd

theorem fW_lt (n : Int) (h : -1000000000 ≤ n) (h' : n ≤ 1000000000) : fW n < 3556769792 := by
  obtain ⟨s, r, e, hr, _⟩ := fW_is n h h'
  rw [e]; unfold wordS; split <;> omega

theorem fW_rung {n : Int} (h : -1000000000 ≤ n) (h' : n ≤ 1000000000) (hne : truncW (fW n) ≠ n) : 8388608 ≤ rungW (fW n) ∧ rungW (fW n) < 1409286144 := by
  obtain ⟨s, r, e, hr, hc⟩ := fW_is n h h'
  rw [e, trunc_word s r (by omega)] at hne
  rw [e, wordS_rung s r (by omega)]
  rcases hc with hc | ⟨hs, r1, d, l, d1, l1, l2, n1, n2, n3, hm⟩
  · exact absurd hc hne
  · refine ⟨?_, hr⟩
    by_cases q : 8388608 ≤ r
    · exact q
    · exfalso
      have hz : magR r / 2 ^ 149 = 0 := by
        unfold magR
        rw [if_pos (by omega)]
        exact Nat.div_eq_of_lt (by omega)
      have hp : 0 < l * 2 ^ d := Nat.mul_pos (by omega) (Nat.two_pow_pos d)
      have hp2 : 0 < (l + 1) * 2 ^ d := Nat.mul_pos (by omega) (Nat.two_pow_pos d)
      rcases hm with ⟨m1, _⟩ | ⟨m1, _⟩ <;> omega

theorem eq32 {a b : Nat} (ha : NumW a) (hb : NumW b) : (FloatKind.f32.format.order a b == some .eq) = decide (keyW a = keyW b) := by
  rw [order32, order_num ha hb]
  show (some (compareOfLessAndEq (keyW a) (keyW b)) == some Ordering.eq) = _
  unfold compareOfLessAndEq
  by_cases h1 : keyW a < keyW b
  · rw [if_pos h1]; simp; omega
  · rw [if_neg h1]
    by_cases h2 : keyW a = keyW b
    · rw [if_pos h2]; simp; omega
    · rw [if_neg h2]; simp; omega
theorem gt32 {a b : Nat} (ha : NumW a) (hb : NumW b) : (FloatKind.f32.format.order a b == some .gt) = decide (keyW b < keyW a) := by
  rw [order32, order_num ha hb]
  show (some (compareOfLessAndEq (keyW a) (keyW b)) == some Ordering.gt) = _
  unfold compareOfLessAndEq
  by_cases h1 : keyW a < keyW b
  · rw [if_pos h1]; simp; omega
  · rw [if_neg h1]
    by_cases h2 : keyW a = keyW b
    · rw [if_pos h2]; simp; omega
    · rw [if_neg h2]; simp; omega

theorem zero_num : NumW 0 := by unfold NumW; decide
theorem key_zero : keyW 0 = 0 := by decide

def FltPost (b : Nat) (w : World) (e : Ending) (w' : World) : Prop := e = .returned (.float .f32 b) ∧ w = w'

theorem IsNaN_not {r : Nat} (h : Ieee.double.order r r = some .eq) (w : World) : Calls Tryz.prog 145 #[.float .f64 r] w fun e w' => e = .returned (.bool false) ∧ w = w' := by
  have h' : FloatKind.f64.format.order r r = some .eq := h
  go_enter Tryz.func145, Tryz.ntmps145
  go_wp2
  go_ret
  exact ⟨rfl, rfl⟩

def nextPost (up : Bool) (x : Nat) : Nat := if up then nextW x else prevW x

set_option maxRecDepth 100000 in
theorem Next_any (up : Bool) {x : Nat} (h1 : 8388608 ≤ rungW x) (h2 : rungW x < 1409286144) (hx : x < 3556769792) (w : World) :
    Calls Tryz.prog 122 #[.float .f32 x, .float .f32 (if up then infW else ninfW)] w (FltPost (nextPost up x) w) := by
  obtain ⟨r, hr, hself⟩ := wide_of h1 h2
  have hfin : FinW x := by unfold FinW; omega
  have hne : keyW x ≠ 0 := by unfold keyW sgnI; split <;> omega
  have hx1 : 1 ≤ x := by
    have : rungW x ≤ x := Nat.mod_le _ _
    omega
  have hy : NumW (if up then infW else ninfW) := by cases up; exact ninf_num; exact inf_num
  have hwy : floatToFloatBits .f32 (if up then infW else ninfW) .f64 = some (if up then 9218868437227405312 else 18442240474082181120) := by cases up <;> decide
  have hsy : Ieee.double.order (if up then 9218868437227405312 else 18442240474082181120) (if up then 9218868437227405312 else 18442240474082181120) = some .eq := by cases up <;> decide
  have hlt : (up = true → keyW x < keyW (if up then infW else ninfW)) ∧ (up = false → keyW (if up then infW else ninfW) < keyW x) := by
    constructor
    · rintro rfl; exact key_lt_inf hfin
    · rintro rfl; exact key_gt_ninf hfin
  generalize (if up then infW else ninfW) = y at *
  generalize (if up then 9218868437227405312 else 18442240474082181120) = y2 at *
  have c1 := run_convert_float_float (P := Tryz.prog) w 110 182 .f32 .f64 x r (by rw [Tryz.underlying110]; rfl) Tryz.underlying182 hr
  have c2 := run_convert_float_float (P := Tryz.prog) w 110 182 .f32 .f64 y y2 (by rw [Tryz.underlying110]; rfl) Tryz.underlying182 hwy
  have b1 := run_f32bits
  have b2 := run_f32frombits
  have e1 := eq32 (.of_fin hfin) hy
  have e2 := eq32 (.of_fin hfin) zero_num
  have e3 := gt32 hy (.of_fin hfin)
  have e4 := gt32 (.of_fin hfin) zero_num
  rw [key_zero] at e2 e4
  rw [decide_eq_false (by cases up; (have := hlt.2 rfl; omega); (have := hlt.1 rfl; omega))] at e1
  rw [decide_eq_false hne] at e2
  have e3' : decide (keyW x < keyW y) = up := by
    cases up
    · have := hlt.2 rfl; exact decide_eq_false (by omega)
    · have := hlt.1 rfl; exact decide_eq_true (by omega)
  rw [e3'] at e3
  have hres : ∀ d, d = (decide (0 < keyW x)) → nextPost up x = if up = d then ((x : Int) + 1).toNat else ((x : Int) - 1).toNat := by
    rintro d rfl
    unfold nextPost nextW prevW
    cases up <;> by_cases hk : 0 < keyW x <;> simp [hk] <;> omega
  have I1 := hideIt (IsNaN_not hself)
  have I2 := hideIt (IsNaN_not hsy)
  have HX := hideIt hx
  have HX1 := hideIt hx1
  generalize hd : decide (0 < keyW x) = d at *
  have HRES := hideIt (hres d rfl)
  generalize nextPost up x = z at *
  clear hr hself hfin hne h1 h2 hx hx1 hy hwy hsy hlt e3' hd hres
  cases up <;> cases d
  all_goals
    go_enter Tryz.func122, Tryz.ntmps122
    go_wp2_with (first
      | (go_at_call 145; refine (I1.out _).mono ?_; rintro e w' ⟨rfl, rfl⟩)
      | (go_at_call 145; refine (I2.out _).mono ?_; rintro e w' ⟨rfl, rfl⟩))
    go_ret
    refine ⟨congrArg (fun b => Ending.returned (Value.float .f32 b)) ?_, rfl⟩
    have h0 := HRES.out
    have q1 := HX.out
    have q2 := HX1.out
    simp only [Bool.false_eq_true, Bool.true_eq_false, if_true, if_false] at h0
    omega

set_option maxRecDepth 100000 in
theorem roundDown_any (n : Int) (h : -1000000000 ≤ n) (h' : n ≤ 1000000000) (w : World) :
    Calls Tryz.prog 90 #[.int .i64 n] w (FltPost (downW n) w) := by
  have hv := trunc_val (f_edge n h h')
  have hf : floatOfInt .f32 n = fW n := rfl
  have c1 := run_convert_float_int (P := Tryz.prog) w 110 3 .f32 .i64 (fW n) (truncW (fW n)) (by rw [Tryz.underlying110]; rfl) Tryz.underlying3 hv
  have c2 := run_convert_float_float (P := Tryz.prog) w 182 110 .f64 .f32 _ _ (by rw [Tryz.underlying182]; rfl) Tryz.underlying110 ninf_to32
  unfold downW
  have HN := hideIt (fun hne w => Next_any false (fW_rung h h' hne).1 (fW_rung h h' hne).2 (fW_lt n h h') w)
  have hnp : nextPost false (fW n) = prevW (fW n) := rfl
  generalize hz : prevW (fW n) = z at *
  generalize hx : fW n = x at *
  generalize hy : truncW x = t at *
  rw [hnp] at HN
  clear hv h h' hz hx hy hnp
  by_cases hlt : n < t
  · rw [if_pos hlt]
    have HN2 := hideIt (HN.out (by omega))
    clear HN
    go_enter Tryz.func90, Tryz.ntmps90
    go_wp2_with (first
      | (go_at_call 123; refine (Inf_down _).mono ?_; rintro e w' ⟨rfl, rfl⟩)
      | (go_at_call 122; refine (HN2.out _).mono ?_; rintro e w' ⟨rfl, rfl⟩))
    go_ret
    exact ⟨rfl, rfl⟩
  · rw [if_neg hlt]
    clear HN
    go_enter Tryz.func90, Tryz.ntmps90
    go_wp2
    go_ret
    exact ⟨rfl, rfl⟩

set_option maxRecDepth 100000 in
theorem roundUp_any (n : Int) (h : -1000000000 ≤ n) (h' : n ≤ 1000000000) (w : World) :
    Calls Tryz.prog 91 #[.int .i64 n] w (FltPost (upW n) w) := by
  have hv := trunc_val (f_edge n h h')
  have hf : floatOfInt .f32 n = fW n := rfl
  have c1 := run_convert_float_int (P := Tryz.prog) w 110 3 .f32 .i64 (fW n) (truncW (fW n)) (by rw [Tryz.underlying110]; rfl) Tryz.underlying3 hv
  have c2 := run_convert_float_float (P := Tryz.prog) w 182 110 .f64 .f32 _ _ (by rw [Tryz.underlying182]; rfl) Tryz.underlying110 inf_to32
  unfold upW
  have HN := hideIt (fun hne w => Next_any true (fW_rung h h' hne).1 (fW_rung h h' hne).2 (fW_lt n h h') w)
  have hnp : nextPost true (fW n) = nextW (fW n) := rfl
  generalize hz : nextW (fW n) = z at *
  generalize hx : fW n = x at *
  generalize hy : truncW x = t at *
  rw [hnp] at HN
  clear hv h h' hz hx hy hnp
  by_cases hlt : t < n
  · rw [if_pos hlt]
    have HN2 := hideIt (HN.out (by omega))
    clear HN
    go_enter Tryz.func91, Tryz.ntmps91
    go_wp2_with (first
      | (go_at_call 123; refine (Inf_up _).mono ?_; rintro e w' ⟨rfl, rfl⟩)
      | (go_at_call 122; refine (HN2.out _).mono ?_; rintro e w' ⟨rfl, rfl⟩))
    go_ret
    exact ⟨rfl, rfl⟩
  · rw [if_neg hlt]
    clear HN
    go_enter Tryz.func91, Tryz.ntmps91
    go_wp2
    go_ret
    exact ⟨rfl, rfl⟩

end Go.Proofs.YtmfdlacmlnginaaGreat

namespace Go.Proofs.YtmfdlacmlnginaaGreat
open Go.RowKit

theorem ret_bool {a b : Bool} (h : a = b) : Ending.returned (.bool a) = .returned (.bool b) := by rw [h]
theorem ret_int {a b : Int} (h : a = b) : Ending.returned (.int .i64 a) = .returned (.int .i64 b) := by rw [h]

abbrev R4 (a b c d : Int) : Value := .agg #[.int .i64 a, .int .i64 b, .int .i64 c, .int .i64 d]
abbrev B4 (a b c d : Int) : Obj := .cells #[.int .i64 a, .int .i64 b, .int .i64 c, .int .i64 d] 36 (0, 0)
abbrev bxV (b : Bx) : Value := .agg #[.float .f32 b.x0, .float .f32 b.y0, .float .f32 b.x1, .float .f32 b.y1]
abbrev bxO (b : Bx) : Obj := .cells #[.float .f32 b.x0, .float .f32 b.y0, .float .f32 b.x1, .float .f32 b.y1] 112 (0, 0)

theorem cell_bxO {w : World} {p : Nat} {b : Bx} (h : w.heap[p]? = some (bxO b)) : w.cell? ⟨p, 0, none⟩ = some (.float .f32 b.x0) ∧ w.cell? ⟨p, 1, none⟩ = some (.float .f32 b.y0) ∧ w.cell? ⟨p, 2, none⟩ = some (.float .f32 b.x1) ∧ w.cell? ⟨p, 3, none⟩ = some (.float .f32 b.y1) := by
  refine ⟨?_, ?_, ?_, ?_⟩ <;> rw [cell_of_block h] <;> rfl

def BoxPost (b : Bx) (w : World) (e : Ending) (w' : World) : Prop := e = .returned (bxV b) ∧ Mod [] w w'
def BoolPost (b : Bool) (w : World) (e : Ending) (w' : World) : Prop := e = .returned (.bool b) ∧ Mod [] w w'
def IntPost (n : Int) (w : World) (e : Ending) (w' : World) : Prop := e = .returned (.int .i64 n) ∧ Mod [] w w'

theorem run_store_f32 (a : Addr) (b : Nat) (m : Mode) (w : World) : (store a (.float .f32 b) m).run Tryz.prog w = stored Tryz.prog w a (.float .f32 b) m := run_store Tryz.prog w a _ m rfl
theorem run_neg_inf (w : World) : (Op.unary .neg (.float .f32 infW)).run Tryz.prog w = .ok (.float .f32 ninfW) w := rfl
attribute [local go_sem] run_store_f32 run_neg_inf

set_option maxRecDepth 100000 in
theorem edges_any (b : Bx) (w : World) : Calls Tryz.prog 61 #[bxV b] w (BoxPost b w) := by
  go_enter Tryz.func61, Tryz.ntmps61
  go_wp2
  exact bodyPost_ret (v := bxV b) (by simp [results, Tryz.results61, go_sem]) rfl ⟨rfl, (Mod.alloc _ _).trans (Mod.alloc _ _)⟩

set_option maxRecDepth 100000 in
theorem nowhere_any (w : World) : Calls Tryz.prog 132 #[] w (BoxPost Bx.none w) := by
  have c2 := fun w => run_convert_float_float (P := Tryz.prog) w 182 110 .f64 .f32 _ _ (by rw [Tryz.underlying182]; rfl) Tryz.underlying110 inf_to32
  go_enter Tryz.func132, Tryz.ntmps132
  go_wp2_with (go_at_call 123; refine (Inf_up _).mono ?_; rintro e w' ⟨rfl, rfl⟩)
  exact bodyPost_ret (v := bxV Bx.none) (by simp [results, Tryz.results132, go_sem, Bx.none]) rfl ⟨rfl, Mod.alloc _ _⟩

set_option maxRecDepth 100000 in
theorem boxOf_any {x0 y0 x1 y1 : Int} (h : RectOk x0 y0 x1 y1) (w : World) : Calls Tryz.prog 57 #[R4 x0 y0 x1 y1] w (BoxPost (Bx.of x0 y0 x1 y1) w) := by
  have HB := hideIt h
  clear h
  go_enter Tryz.func57, Tryz.ntmps57
  go_wp2_with fail
  go_region_held (fun w' => w'.cell? ⟨w.heap.size, 0, none⟩ = some (.int .i64 x0) ∧ w'.cell? ⟨w.heap.size, 1, none⟩ = some (.int .i64 y0) ∧ w'.cell? ⟨w.heap.size, 2, none⟩ = some (.int .i64 x1) ∧ w'.cell? ⟨w.heap.size, 3, none⟩ = some (.int .i64 y1))
    ((go_keep))
    ((first
      | (go_at_call 90; refine (roundDown_any _ (by have := HB.out; unfold RectOk at this; omega) (by have := HB.out; unfold RectOk at this; omega) _).mono ?_; rintro e w' ⟨rfl, rfl⟩)
      | (go_at_call 91; refine (roundUp_any _ (by have := HB.out; unfold RectOk at this; omega) (by have := HB.out; unfold RectOk at this; omega) _).mono ?_; rintro e w' ⟨rfl, rfl⟩)))
  all_goals
    go_wp2
    exact bodyPost_ret (v := bxV (Bx.of x0 y0 x1 y1)) (by simp [results, Tryz.results57, go_sem, Bx.of]) rfl ⟨rfl, ((Mod.alloc _ _).trans (Mod.alloc _ _)).trans (Mod.drew _)⟩

set_option maxRecDepth 100000 in
theorem meets_any {a b : Bx} (ha : a.Num) (hb : b.Num) (w : World) : Calls Tryz.prog 86 #[bxV a, bxV b] w (BoolPost (a.meets b) w) := by
  have e1 := leq32 ha.out.1 hb.out.2.2.1
  have e2 := leq32 hb.out.1 ha.out.2.2.1
  have e3 := leq32 ha.out.2.1 hb.out.2.2.2
  have e4 := leq32 hb.out.2.1 ha.out.2.2.2
  have hm : a.meets b = (leW a.x0 b.x1 && leW b.x0 a.x1 && leW a.y0 b.y1 && leW b.y0 a.y1) := rfl
  have HM := hideIt hm
  clear hm ha hb
  go_enter Tryz.func86, Tryz.ntmps86
  go_wp2
  all_goals
    go_ret
    refine ⟨ret_bool ?_, (Mod.alloc _ _).trans (Mod.alloc _ _)⟩
    rw [HM.out]
    clear e1 e2 e3 e4 HM
    simp_all

end Go.Proofs.YtmfdlacmlnginaaGreat

namespace Go.Proofs.YtmfdlacmlnginaaGreat
open Go.RowKit
attribute [local go_sem] run_store_f32 run_neg_inf

/-- a block that begins with a box -/
abbrev bxC (b : Bx) (rest : List Value) (T : TypeId) : Obj := .cells (List.toArray (.float .f32 b.x0 :: .float .f32 b.y0 :: .float .f32 b.x1 :: .float .f32 b.y1 :: rest)) T (0, 0)

theorem cell_bxC {w : World} {p : Nat} {b : Bx} {rest : List Value} {T : TypeId} (h : w.heap[p]? = some (bxC b rest T)) : w.cell? ⟨p, 0, none⟩ = some (.float .f32 b.x0) ∧ w.cell? ⟨p, 1, none⟩ = some (.float .f32 b.y0) ∧ w.cell? ⟨p, 2, none⟩ = some (.float .f32 b.x1) ∧ w.cell? ⟨p, 3, none⟩ = some (.float .f32 b.y1) := by
  refine ⟨?_, ?_, ?_, ?_⟩ <;> rw [cell_of_block h] <;> simp

theorem bxC_set01 {w : World} {p : Nat} {b : Bx} {rest : List Value} {T : TypeId} (h : w.heap[p]? = some (bxC b rest T)) (v0 v1 : Nat) :
    ((w.setCell ⟨p, 0, none⟩ (.float .f32 v0)).setCell ⟨p, 1, none⟩ (.float .f32 v1)).drew.heap[p]? = some (bxC ⟨v0, v1, b.x1, b.y1⟩ rest T) := by
  have h1 := block_setCell h 0 (.float .f32 v0)
  have h2 := block_setCell h1 1 (.float .f32 v1)
  exact h2.trans (by simp)
theorem bxC_set23 {w : World} {p : Nat} {b : Bx} {rest : List Value} {T : TypeId} (h : w.heap[p]? = some (bxC b rest T)) (v0 v1 : Nat) :
    ((w.setCell ⟨p, 2, none⟩ (.float .f32 v0)).setCell ⟨p, 3, none⟩ (.float .f32 v1)).drew.heap[p]? = some (bxC ⟨b.x0, b.y0, v0, v1⟩ rest T) := by
  have h1 := block_setCell h 2 (.float .f32 v0)
  have h2 := block_setCell h1 3 (.float .f32 v1)
  exact h2.trans (by simp)
theorem mod_set2 (w : World) (p i j : Nat) (u v : Value) : Mod [p] w ((w.setCell ⟨p, i, none⟩ u).setCell ⟨p, j, none⟩ v).drew :=
  ((Mod.setCell _ _ _ (by simp)).trans (Mod.setCell _ _ _ (by simp))).trans (Mod.drew _)

def GrowPost (p : Nat) (b : Bx) (rest : List Value) (T : TypeId) (w : World) (e : Ending) (w' : World) : Prop :=
  e = .returned (.tuple #[]) ∧ Mod [p] w w' ∧ w'.heap[p]? = some (bxC b rest T)

set_option maxRecDepth 100000 in
set_option maxHeartbeats 400000 in
theorem grow_any {w : World} {p : Nat} {b o : Bx} {rest : List Value} {T : TypeId} (h : w.heap[p]? = some (bxC b rest T)) (hb : b.Num) (ho : o.Num) :
    Calls Tryz.prog 92 #[.pointer (some ⟨p, 0, none⟩), bxV o] w (GrowPost p (b.grow o) rest T w) := by
  have m0 := fun w => run_min32 (P := Tryz.prog) w #[110, 110] 110 hb.out.1 ho.out.1
  have m1 := fun w => run_min32 (P := Tryz.prog) w #[110, 110] 110 hb.out.2.1 ho.out.2.1
  have m2 := fun w => run_max32 (P := Tryz.prog) w #[110, 110] 110 hb.out.2.2.1 ho.out.2.2.1
  have m3 := fun w => run_max32 (P := Tryz.prog) w #[110, 110] 110 hb.out.2.2.2 ho.out.2.2.2
  have hlt := lt_of_block h
  have h1 := (Mod.alloc (F := []) w (bxO o)).block p hlt (by simp)
  rw [h] at h1
  obtain ⟨o0, o1, o2, o3⟩ := cell_bxO (heap_alloc_new w (bxO o))
  have hne : p ≠ w.heap.size := by omega
  clear h hb ho
  go_enter Tryz.func92, Tryz.ntmps92
  go_wp2_with fail
  have hm1 : Mod [p] w (w.alloc (bxO o)) := Mod.alloc _ _
  generalize w.alloc (bxO o) = w1 at *
  have c := cell_bxC h1
  obtain ⟨c0, c1, c2, c3⟩ := c
  have f := frozen_of_block h1
  have f0 := f 0
  have f1 := f 1
  have f2 := f 2
  have f3 := f 3
  clear f
  have H1 := hideIt h1
  have HM := hideIt hm1
  clear h1 hm1
  go_region
  have h2 := bxC_set01 H1.out (minW b.x0 o.x0) (minW b.y0 o.y0)
  have hm2 := HM.out.trans (mod_set2 w1 p 0 1 (.float .f32 (minW b.x0 o.x0)) (.float .f32 (minW b.y0 o.y0)))
  have o2' : ∀ u v, ((w1.setCell ⟨p, 0, none⟩ u).setCell ⟨p, 1, none⟩ v).drew.cell? ⟨w.heap.size, 2, none⟩ = some (.float .f32 o.x1) := fun u v => ((mod_set2 w1 p 0 1 u v).cell (World.block_lt_of_cell? w1 _ o2) (by simp; omega) 2).trans o2
  have o3' : ∀ u v, ((w1.setCell ⟨p, 0, none⟩ u).setCell ⟨p, 1, none⟩ v).drew.cell? ⟨w.heap.size, 3, none⟩ = some (.float .f32 o.y1) := fun u v => ((mod_set2 w1 p 0 1 u v).cell (World.block_lt_of_cell? w1 _ o3) (by simp; omega) 3).trans o3
  have p2 := o2' (.float .f32 (minW b.x0 o.x0)) (.float .f32 (minW b.y0 o.y0))
  have p3 := o3' (.float .f32 (minW b.x0 o.x0)) (.float .f32 (minW b.y0 o.y0))
  clear o0 o1 o2 o3 o2' o3' c0 c1 c2 c3 f0 f1 f2 f3 m0 m1 HM H1
  generalize ((w1.setCell ⟨p, 0, none⟩ (.float .f32 (minW b.x0 o.x0))).setCell ⟨p, 1, none⟩ (.float .f32 (minW b.y0 o.y0))).drew = w2 at *
  obtain ⟨c0, c1, c2, c3⟩ := cell_bxC h2
  have f := frozen_of_block h2
  have f2 := f 2
  have f3 := f 3
  clear f
  have H2 := hideIt h2
  have HM := hideIt hm2
  clear h2 hm2
  simp only at c2 c3
  go_wp2_with fail
  go_region
  have h3 := bxC_set23 H2.out (maxW b.x1 o.x1) (maxW b.y1 o.y1)
  have hm3 := HM.out.trans (mod_set2 w2 p 2 3 (.float .f32 (maxW b.x1 o.x1)) (.float .f32 (maxW b.y1 o.y1)))
  go_wp2
  exact bodyPost_ret (v := .tuple #[]) (by simp [results, Tryz.results92, go_sem]) rfl ⟨rfl, hm3, h3⟩


end Go.Proofs.YtmfdlacmlnginaaGreat

namespace Go.Proofs.YtmfdlacmlnginaaGreat
open Go.RowKit
attribute [local go_sem] run_store_f32 run_neg_inf

/-! ### as whole numbers -/
def spanF (b : Bx) : Int := truncW b.x1 - truncW b.x0 + truncW b.y1 - truncW b.y0
def WholePost (b : Bx) (w : World) (e : Ending) (w' : World) : Prop := e = .returned (R4 (truncW b.x0) (truncW b.y0) (truncW b.x1) (truncW b.y1)) ∧ Mod [] w w'

set_option maxRecDepth 100000 in
theorem whole_any {b : Bx} (h : b.Ok) (w : World) : Calls Tryz.prog 135 #[bxV b] w (WholePost b w) := by
  have v0 := fun w => run_convert_float_int (P := Tryz.prog) w 110 3 .f32 .i64 _ _ (by rw [Tryz.underlying110]; rfl) Tryz.underlying3 (trunc_val h.out.1)
  have v1 := fun w => run_convert_float_int (P := Tryz.prog) w 110 3 .f32 .i64 _ _ (by rw [Tryz.underlying110]; rfl) Tryz.underlying3 (trunc_val h.out.2.1)
  have v2 := fun w => run_convert_float_int (P := Tryz.prog) w 110 3 .f32 .i64 _ _ (by rw [Tryz.underlying110]; rfl) Tryz.underlying3 (trunc_val h.out.2.2.1)
  have v3 := fun w => run_convert_float_int (P := Tryz.prog) w 110 3 .f32 .i64 _ _ (by rw [Tryz.underlying110]; rfl) Tryz.underlying3 (trunc_val h.out.2.2.2)
  clear h
  go_enter Tryz.func135, Tryz.ntmps135
  go_wp2
  exact bodyPost_ret (v := R4 (truncW b.x0) (truncW b.y0) (truncW b.x1) (truncW b.y1)) (by simp [results, Tryz.results135, go_sem]) rfl ⟨rfl, (Mod.alloc _ _).trans (Mod.alloc _ _)⟩

set_option maxRecDepth 100000 in
theorem span_any {b : Bx} (h : b.Ok) (w : World) : Calls Tryz.prog 129 #[bxV b] w (IntPost (spanF b) w) := by
  have HW := hideIt (whole_any h)
  have h0 := h.out.1.2
  have h1 := h.out.2.1.2
  have h2 := h.out.2.2.1.2
  have h3 := h.out.2.2.2.2
  have hsp : spanF b = truncW b.x1 - truncW b.x0 + truncW b.y1 - truncW b.y0 := rfl
  have HS := hideIt hsp
  clear h hsp
  go_enter Tryz.func129, Tryz.ntmps129
  go_wp2_with fail
  refine (HW.out _).mono ?_
  rintro e w1 ⟨rfl, hm⟩
  have hm1 := (Mod.alloc w (bxO b)).trans hm
  clear hm
  go_wp2
  go_ret
  exact ⟨by rw [HS.out]; rfl, hm1.trans (Mod.alloc _ _)⟩

def SomeInt (w : World) (e : Ending) (w' : World) : Prop := ∃ n, e = .returned (.int .i64 n) ∧ Mod [] w w'
theorem span_some {b : Bx} (h : b.Ok) (w : World) : Calls Tryz.prog 129 #[bxV b] w (SomeInt w) := (span_any h w).mono fun _ _ hp => ⟨_, hp⟩

set_option maxRecDepth 100000 in
set_option maxHeartbeats 400000 in
theorem growth_any {b o : Bx} (hb : b.Ok) (ho : o.Ok) (w : World) : Calls Tryz.prog 128 #[bxV b, bxV o] w (SomeInt w) := by
  have HB := hideIt hb
  have HO := hideIt ho
  clear hb ho
  go_enter Tryz.func128, Tryz.ntmps128
  go_wp2_with fail
  have hm1 : Mod [] w (((w.alloc (bxO b)).alloc (bxO o)).alloc (bxO b)) := ((Mod.alloc _ _).trans (Mod.alloc _ _)).trans (Mod.alloc _ _)
  have g1 : (((w.alloc (bxO b)).alloc (bxO o)).alloc (bxO b)).heap[w.heap.size + 1 + 1]? = some (bxO b) := by
    have := heap_alloc_new ((w.alloc (bxO b)).alloc (bxO o)) (bxO b)
    simpa using this
  have g2 : (((w.alloc (bxO b)).alloc (bxO o)).alloc (bxO b)).heap[w.heap.size]? = some (bxO b) := by
    rw [Below.heap_alloc _ _ _ (by simp; omega), Below.heap_alloc _ _ _ (by simp)]
    exact heap_alloc_new w _
  generalize (((w.alloc (bxO b)).alloc (bxO o)).alloc (bxO b)) = w1 at *
  refine (grow_any (rest := []) g1 HB.out.num HO.out.num).mono ?_
  rintro e w2 ⟨rfl, hm2, g3⟩
  have g4 := (hm2.block _ (lt_of_block g2) (by simp; omega)).trans g2
  have HG := hideIt (Bx.grow_ok HB.out HO.out)
  have hm3 : Mod [] w w2 := hm1.then hm2 (fun x hx => .inr (by simp at hx; omega))
  have HM := hideIt hm3
  generalize b.grow o = c at *
  clear hm1 hm2 hm3 g1 g2
  obtain ⟨c0, c1, c2, c3⟩ := cell_bxC (rest := []) g3
  obtain ⟨d0, d1, d2, d3⟩ := cell_bxO g4
  clear g3 g4
  go_wp2_with fail
  go_region_held (fun w' => w'.cell? ⟨w.heap.size + 1 + 1, 0, none⟩ = some (.float .f32 c.x0) ∧ w'.cell? ⟨w.heap.size + 1 + 1, 1, none⟩ = some (.float .f32 c.y0) ∧ w'.cell? ⟨w.heap.size + 1 + 1, 2, none⟩ = some (.float .f32 c.x1) ∧ w'.cell? ⟨w.heap.size + 1 + 1, 3, none⟩ = some (.float .f32 c.y1) ∧
      w'.cell? ⟨w.heap.size, 0, none⟩ = some (.float .f32 b.x0) ∧ w'.cell? ⟨w.heap.size, 1, none⟩ = some (.float .f32 b.y0) ∧ w'.cell? ⟨w.heap.size, 2, none⟩ = some (.float .f32 b.x1) ∧ w'.cell? ⟨w.heap.size, 3, none⟩ = some (.float .f32 b.y1))
    ((first | go_keep | exact ⟨cell_mod hm (by simp [*]), cell_mod hm (by simp [*]), cell_mod hm (by simp [*]), cell_mod hm (by simp [*]), cell_mod hm (by simp [*]), cell_mod hm (by simp [*]), cell_mod hm (by simp [*]), cell_mod hm (by simp [*])⟩))
    ((go_at_call 129; refine (span_some (b := ⟨_, _, _, _⟩) (by first | exact HG.out | exact HB.out) _).mono ?_; rintro e w' ⟨n, rfl, hm⟩))
  rename_i hm0 hheld
  have hmm : Mod [] w w' := ((HM.out.trans (Mod.drew _)).trans hm0).trans hm
  clear hheld hm0 hm
  go_wp2
  go_ret
  exact ⟨_, rfl, hmm⟩

/-! ### how boxes compare: whatever it is, it is a number -/
set_option maxRecDepth 100000 in
theorem isNaN32_any (a : Nat) (w : World) : Calls Tryz.prog 191 #[.float .f32 a] w (BoolPost (FloatKind.f32.format.order a a != some .eq) w) := by
  go_enter Tryz.func191, Tryz.ntmps191
  go_wp2
  go_ret
  exact ⟨rfl, Mod.refl _ _⟩

set_option maxRecDepth 100000 in
theorem compare32_any (a b : Nat) (w : World) : Calls Tryz.prog 180 #[.float .f32 a, .float .f32 b] w (SomeInt w) := by
  go_enter Tryz.func180, Tryz.ntmps180
  go_wp2_with fail
  refine (isNaN32_any _ _).mono ?_
  rintro e w1 ⟨rfl, hm1⟩
  go_wp2_with fail
  refine (isNaN32_any _ _).mono ?_
  rintro e w2 ⟨rfl, hm2⟩
  have hm := hm1.trans hm2
  clear hm1 hm2
  generalize (FloatKind.f32.format.order a a != some .eq) = p
  generalize (FloatKind.f32.format.order b b != some .eq) = q
  go_wp2
  all_goals
    go_ret
    exact ⟨_, rfl, hm⟩

end Go.Proofs.YtmfdlacmlnginaaGreat

