import Derived.Test.YthimaoipogocfaaGreatJ01
import Derived.Laws.FloatArith
import Derived.Test.YthimaoipogocfaaGreatChecked
import Derived.Laws.Externs
namespace Go.Proofs.YthimaoipogocfaaGreat

def fW (n : Int) : Nat := Ieee.single.nearest (decide (n < 0)) n.natAbs 0

theorem trunc_word (s : Bool) (r : Nat) (h : r < 2147483648) : truncW (wordS s r) = sgnI s (magR r / 2 ^ 149) := by
  unfold truncW; rw [wordS_rung s r h, wordS_neg s r h]
theorem key_word (s : Bool) (r : Nat) (h : r < 2147483648) : keyW (wordS s r) = sgnI s r := by
  unfold keyW; rw [wordS_rung s r h, wordS_neg s r h]
theorem fin_word (s : Bool) (r : Nat) (h : r < 2139095040) : FinW (wordS s r) := by
  unfold FinW; rw [wordS_rung s r (by omega)]; exact h

theorem mag_up (d k : Nat) : k * 2 ^ (149 + d) / 2 ^ 149 = k * 2 ^ d := by
  rw [Nat.add_comm, Nat.pow_add, ← Nat.mul_assoc, Nat.mul_div_cancel _ (Nat.two_pow_pos 149)]

/-- what the word nearest to a whole number is: the number itself, or one of the two multiples beside it -/
theorem fW_is (n : Int) (h : -1000000000 ≤ n) (h' : n ≤ 1000000000) :
    ∃ s r, fW n = wordS s r ∧ r < 1409286144 ∧ 
      ((sgnI s (magR r / 2 ^ 149) = n) ∨ (s = decide (n < 0) ∧ 1 ≤ r ∧ ∃ d l, d ≤ 6 ∧ 8388608 ≤ l ∧ l < 16777216 ∧ l * 2 ^ d < n.natAbs ∧ n.natAbs < (l + 1) * 2 ^ d ∧ (l + 1) * 2 ^ d ≤ 1000000000 ∧
        ((magR r / 2 ^ 149 = l * 2 ^ d ∧ magR (r + 1) / 2 ^ 149 = (l + 1) * 2 ^ d) ∨ (magR r / 2 ^ 149 = (l + 1) * 2 ^ d ∧ magR (r - 1) / 2 ^ 149 = l * 2 ^ d)))) := by
  by_cases h0 : n.natAbs = 0
  · have : n = 0 := by omega
    subst this
    exact ⟨false, 0, by decide, by decide, Or.inl (by decide)⟩
  rcases nearest_rung (decide (n < 0)) n.natAbs h0 (by omega) with ⟨e, k, e1, k1, k2, k3, k4⟩ | ⟨d, k, d1, d2, e1, k1, k2, k3, k4⟩
  · refine ⟨_, _, e1, by omega, Or.inl ?_⟩
    rw [magR_of e k k1 k2, k4, Nat.mul_div_cancel _ (Nat.two_pow_pos 149)]
    unfold sgnI
    split
    · rename_i q; simp at q; omega
    · rename_i q; simp at q; omega
  · refine ⟨_, _, e1, by omega, ?_⟩
    have m1 : ∀ j, 8388608 ≤ j → j ≤ 16777216 → magR ((149 + d) * 8388608 + j) / 2 ^ 149 = j * 2 ^ d := by
      intro j j1 j2
      rw [magR_of (149 + d) j j1 j2, mag_up]
    have hdm := Nat.div_add_mod n.natAbs (2 ^ d)
    have hml := Nat.mod_lt n.natAbs (Nat.two_pow_pos d)
    by_cases hx : n.natAbs % 2 ^ d = 0
    · left
      have := k4 hx
      subst this
      rw [m1 _ k1 (by omega)]
      rw [hx, Nat.add_zero, Nat.mul_comm] at hdm
      rw [hdm]
      unfold sgnI
      split
      · rename_i q; simp at q; omega
      · rename_i q; simp at q; omega
    · right
      refine ⟨rfl, by omega, d, n.natAbs / 2 ^ d, d2, k1, k2, ?_, ?_, ?_, ?_⟩
      · rw [Nat.mul_comm]; omega
      · rw [Nat.add_mul, Nat.one_mul, Nat.mul_comm]; omega
      · have hd : d = 1 ∨ d = 2 ∨ d = 3 ∨ d = 4 ∨ d = 5 ∨ d = 6 := by omega
        have hb : n.natAbs ≤ 1000000000 := by omega
        generalize n.natAbs = m at *
        rcases hd with rfl | rfl | rfl | rfl | rfl | rfl <;> omega
      · rcases k3 with rfl | rfl
        · left
          refine ⟨m1 _ k1 (by omega), ?_⟩
          have := m1 (n.natAbs / 2 ^ d + 1) (by omega) (by omega)
          rw [← Nat.add_assoc] at this
          exact this
        · right
          refine ⟨m1 _ (by omega) (by omega), ?_⟩
          have := m1 (n.natAbs / 2 ^ d) k1 (by omega)
          have e : (149 + d) * 8388608 + (n.natAbs / 2 ^ d + 1) - 1 = (149 + d) * 8388608 + n.natAbs / 2 ^ d := by omega
          rw [e]; exact this

/-- the word below, and above (of words that are not 0) -/
def prevW (b : Nat) : Nat := if 0 < keyW b then b - 1 else b + 1
def nextW (b : Nat) : Nat := if 0 < keyW b then b + 1 else b - 1
def downW (n : Int) : Nat := if n < truncW (fW n) then prevW (fW n) else fW n
def upW (n : Int) : Nat := if truncW (fW n) < n then nextW (fW n) else fW n

theorem wordS_succ (s : Bool) (r : Nat) : wordS s r + 1 = wordS s (r + 1) := by unfold wordS; cases s <;> simp <;> omega
theorem wordS_pred (s : Bool) (r : Nat) (h : 1 ≤ r) : wordS s r - 1 = wordS s (r - 1) := by unfold wordS; cases s <;> simp <;> omega

theorem fW_fin (n : Int) (h : -1000000000 ≤ n) (h' : n ≤ 1000000000) : FinW (fW n) := by
  obtain ⟨s, r, e, hr, _⟩ := fW_is n h h'
  rw [e]; exact fin_word _ _ (by omega)

theorem fW_trunc (n : Int) (h : -1000000000 ≤ n) (h' : n ≤ 1000000000) : -1000000000 ≤ truncW (fW n) ∧ truncW (fW n) ≤ 1000000000 := by
  obtain ⟨s, r, e, hr, hc⟩ := fW_is n h h'
  rw [e, trunc_word s r (by omega)]
  rcases hc with hc | ⟨hs, _, d, l, d1, l1, l2, n1, n2, n3, ⟨m1, _⟩ | ⟨m1, _⟩⟩
  · omega
  · rw [m1]; unfold sgnI; split <;> omega
  · rw [m1]; unfold sgnI; split <;> omega

theorem fW_far {n : Int} (h : -1000000000 ≤ n) (h' : n ≤ 1000000000) (hne : truncW (fW n) ≠ n) : keyW (fW n) ≠ 0 := by
  obtain ⟨s, r, e, hr, hc⟩ := fW_is n h h'
  rw [e, trunc_word s r (by omega)] at hne
  rw [e, key_word s r (by omega)]
  rcases hc with hc | ⟨hs, r1, _⟩
  · exact absurd hc hne
  · unfold sgnI; split <;> omega

theorem down_is (n : Int) (h : -1000000000 ≤ n) (h' : n ≤ 1000000000) :
    FinW (downW n) ∧ truncW (downW n) ≤ n ∧ -1000000000 ≤ truncW (downW n) ∧ keyW (downW n) ≤ keyW (fW n) := by
  unfold downW
  by_cases hlt : n < truncW (fW n)
  · rw [if_pos hlt]
    have hne := fW_far h h' (by omega)
    obtain ⟨s, r, e, hr, hc⟩ := fW_is n h h'
    rw [e] at hlt hne ⊢
    rw [trunc_word s r (by omega)] at hlt
    unfold prevW
    rw [key_word s r (by omega)] at hne ⊢
    rcases hc with hc | ⟨hs, r1, d, l, d1, l1, l2, n1, n2, n3, hm⟩
    · omega
    · rcases hm with ⟨m1, m2⟩ | ⟨m1, m2⟩
      · rw [m1] at hlt
        cases s
        · simp at hs
          simp only [sgnI, Bool.false_eq_true, if_false] at hlt; exfalso
          generalize l * 2 ^ d = z at *
          omega
        · simp at hs
          rw [if_neg (by simp [sgnI]), wordS_succ, trunc_word _ _ (by omega), m2, key_word _ _ (by omega)]
          refine ⟨fin_word _ _ (by omega), ?_, ?_, ?_⟩ <;> simp only [sgnI, if_true] <;> omega
      · rw [m1] at hlt
        cases s
        · simp at hs
          rw [if_pos (by simp [sgnI]; omega), wordS_pred _ _ r1, trunc_word _ _ (by omega), m2, key_word _ _ (by omega)]
          refine ⟨fin_word _ _ (by omega), ?_, ?_, ?_⟩ <;> simp only [sgnI, Bool.false_eq_true, if_false] <;> omega
        · simp at hs
          simp only [sgnI, if_true] at hlt; exfalso
          generalize (l + 1) * 2 ^ d = z at *
          omega
  · rw [if_neg hlt]
    exact ⟨fW_fin n h h', by omega, (fW_trunc n h h').1, Int.le_refl _⟩

theorem up_is (n : Int) (h : -1000000000 ≤ n) (h' : n ≤ 1000000000) :
    FinW (upW n) ∧ n ≤ truncW (upW n) ∧ truncW (upW n) ≤ 1000000000 ∧ keyW (fW n) ≤ keyW (upW n) := by
  unfold upW
  by_cases hlt : truncW (fW n) < n
  · rw [if_pos hlt]
    have hne := fW_far h h' (by omega)
    obtain ⟨s, r, e, hr, hc⟩ := fW_is n h h'
    rw [e] at hlt hne ⊢
    rw [trunc_word s r (by omega)] at hlt
    unfold nextW
    rw [key_word s r (by omega)] at hne ⊢
    rcases hc with hc | ⟨hs, r1, d, l, d1, l1, l2, n1, n2, n3, hm⟩
    · omega
    · rcases hm with ⟨m1, m2⟩ | ⟨m1, m2⟩
      · rw [m1] at hlt
        cases s
        · simp at hs
          rw [if_pos (by simp [sgnI]; omega), wordS_succ, trunc_word _ _ (by omega), m2, key_word _ _ (by omega)]
          refine ⟨fin_word _ _ (by omega), ?_, ?_, ?_⟩ <;> simp only [sgnI, Bool.false_eq_true, if_false] <;> omega
        · simp at hs
          simp only [sgnI, if_true] at hlt; exfalso
          generalize l * 2 ^ d = z at *
          omega
      · rw [m1] at hlt
        cases s
        · simp at hs
          simp only [sgnI, Bool.false_eq_true, if_false] at hlt; exfalso
          generalize (l + 1) * 2 ^ d = z at *
          omega
        · simp at hs
          rw [if_neg (by simp [sgnI]), wordS_pred _ _ r1, trunc_word _ _ (by omega), m2, key_word _ _ (by omega)]
          refine ⟨fin_word _ _ (by omega), ?_, ?_, ?_⟩ <;> simp only [sgnI, if_true] <;> omega
  · rw [if_neg hlt]
    exact ⟨fW_fin n h h', by omega, (fW_trunc n h h').2, Int.le_refl _⟩

/-- what meets as whole numbers meets as boxes -/
theorem down_le_up {a b : Int} (ha : -1000000000 ≤ a) (ha' : a ≤ 1000000000) (hb : -1000000000 ≤ b) (hb' : b ≤ 1000000000) (h : a ≤ b) : keyW (downW a) ≤ keyW (upW b) := by
  obtain ⟨_, d1, _, d2⟩ := down_is a ha ha'
  obtain ⟨_, u1, _, u2⟩ := up_is b hb hb'
  by_cases e : a = b
  · subst e; omega
  · by_cases q : keyW (downW a) ≤ keyW (upW b)
    · exact q
    · exfalso
      have := trunc_mono (a := upW b) (b := downW a) (by omega)
      omega

/-- inside stays inside -/
theorem NumW.of_fin {b : Nat} (h : FinW b) : NumW b := by unfold NumW; unfold FinW at h; omega

end Go.Proofs.YthimaoipogocfaaGreat

namespace Go.Proofs.YthimaoipogocfaaGreat

/-! ### what the program's operations on float32 give -/
def leW (a b : Nat) : Bool := decide (keyW a ≤ keyW b)
def minW (a b : Nat) : Nat := if keyW a < keyW b then a else if keyW b < keyW a then b else if negW a then a else b
def maxW (a b : Nat) : Nat := if keyW a < keyW b then b else if keyW b < keyW a then a else if negW a then b else a

theorem order32 (a b : Nat) : FloatKind.f32.format.order a b = Ieee.single.order a b := rfl

theorem leq32 {a b : Nat} (ha : NumW a) (hb : NumW b) : (FloatKind.f32.format.order a b == some .lt || FloatKind.f32.format.order a b == some .eq) = leW a b := by
  rw [order32, order_num ha hb]
  unfold leW
  show ((some (compareOfLessAndEq (keyW a) (keyW b)) == some Ordering.lt) || (some (compareOfLessAndEq (keyW a) (keyW b)) == some Ordering.eq)) = _
  unfold compareOfLessAndEq
  by_cases h1 : keyW a < keyW b
  · rw [if_pos h1]; simp; omega
  · rw [if_neg h1]
    by_cases h2 : keyW a = keyW b
    · rw [if_pos h2]; simp; omega
    · rw [if_neg h2]; simp; omega

theorem decode_neg {a : Nat} (ha : NumW a) : (FloatKind.f32.decode a).neg = negW a := by
  show (Ieee.single.read a).neg = _
  by_cases h : FinW a
  · obtain ⟨m, e, r, _⟩ := read_fin h
    rw [r]; rfl
  · rw [read_inf ha h]; rfl

theorem run_min32 {P : Program} (w : World) (ts : Array TypeId) (t : TypeId) {a b : Nat} (ha : NumW a) (hb : NumW b) :
    (Builtin.min_ ts t #[.float .f32 a, .float .f32 b]).run P w = .ok (.float .f32 (minW a b)) w := by
  have ho := order_num ha hb
  have hn := decode_neg ha
  rw [← order32] at ho
  unfold minW
  by_cases h1 : keyW a < keyW b
  · rw [cmpI_lt h1] at ho
    rw [if_pos h1]
    simp [Builtin.min_, Builtin.min2, ho]
  · rw [if_neg h1]
    by_cases h2 : keyW b < keyW a
    · rw [cmpI_gt h2] at ho
      rw [if_pos h2]
      simp [Builtin.min_, Builtin.min2, ho]
    · have he : compare (keyW a) (keyW b) = .eq := by
        show compareOfLessAndEq _ _ = _
        unfold compareOfLessAndEq
        rw [if_neg h1, if_pos (by omega)]
      rw [he] at ho
      rw [if_neg h2]
      simp [Builtin.min_, Builtin.min2, ho, hn]

theorem run_max32 {P : Program} (w : World) (ts : Array TypeId) (t : TypeId) {a b : Nat} (ha : NumW a) (hb : NumW b) :
    (Builtin.max_ ts t #[.float .f32 a, .float .f32 b]).run P w = .ok (.float .f32 (maxW a b)) w := by
  have ho := order_num ha hb
  have hn := decode_neg ha
  rw [← order32] at ho
  unfold maxW
  by_cases h1 : keyW a < keyW b
  · rw [cmpI_lt h1] at ho
    rw [if_pos h1]
    simp [Builtin.max_, Builtin.max2, ho]
  · rw [if_neg h1]
    by_cases h2 : keyW b < keyW a
    · rw [cmpI_gt h2] at ho
      rw [if_pos h2]
      simp [Builtin.max_, Builtin.max2, ho]
    · have he : compare (keyW a) (keyW b) = .eq := by
        show compareOfLessAndEq _ _ = _
        unfold compareOfLessAndEq
        rw [if_neg h1, if_pos (by omega)]
      rw [he] at ho
      rw [if_neg h2]
      simp [Builtin.max_, Builtin.max2, ho, hn]

theorem minW_or (a b : Nat) : minW a b = a ∨ minW a b = b := by
  unfold minW; split
  · exact .inl rfl
  · split
    · exact .inr rfl
    · split
      · exact .inl rfl
      · exact .inr rfl
theorem maxW_or (a b : Nat) : maxW a b = a ∨ maxW a b = b := by
  unfold maxW; split
  · exact .inr rfl
  · split
    · exact .inl rfl
    · split
      · exact .inr rfl
      · exact .inl rfl
theorem minW_key (a b : Nat) : keyW (minW a b) = min (keyW a) (keyW b) := by
  unfold minW; split
  · omega
  · split
    · omega
    · split <;> omega
theorem maxW_key (a b : Nat) : keyW (maxW a b) = max (keyW a) (keyW b) := by
  unfold maxW; split
  · omega
  · split
    · omega
    · split <;> omega

/-- a word that stands for what an edge may be -/
def EdgeW (a : Nat) : Prop := FinW a ∧ -1000000000 ≤ truncW a ∧ truncW a ≤ 1000000000

theorem EdgeW.num {a : Nat} (h : EdgeW a) : NumW a := .of_fin h.1
theorem EdgeW.min {a b : Nat} (ha : EdgeW a) (hb : EdgeW b) : EdgeW (minW a b) := by rcases minW_or a b with e | e <;> rw [e] <;> assumption
theorem EdgeW.max {a b : Nat} (ha : EdgeW a) (hb : EdgeW b) : EdgeW (maxW a b) := by rcases maxW_or a b with e | e <;> rw [e] <;> assumption
theorem NumW.min {a b : Nat} (ha : NumW a) (hb : NumW b) : NumW (minW a b) := by rcases minW_or a b with e | e <;> rw [e] <;> assumption
theorem NumW.max {a b : Nat} (ha : NumW a) (hb : NumW b) : NumW (maxW a b) := by rcases maxW_or a b with e | e <;> rw [e] <;> assumption

theorem down_edge (n : Int) (h : -1000000000 ≤ n) (h' : n ≤ 1000000000) : EdgeW (downW n) := by
  obtain ⟨a, b, c, _⟩ := down_is n h h'
  exact ⟨a, c, by omega⟩
theorem up_edge (n : Int) (h : -1000000000 ≤ n) (h' : n ≤ 1000000000) : EdgeW (upW n) := by
  obtain ⟨a, b, c, _⟩ := up_is n h h'
  exact ⟨a, by omega, c⟩
theorem f_edge (n : Int) (h : -1000000000 ≤ n) (h' : n ≤ 1000000000) : EdgeW (fW n) := ⟨fW_fin n h h', (fW_trunc n h h').1, (fW_trunc n h h').2⟩

theorem trunc_val {a : Nat} (h : EdgeW a) : floatToIntVal .f32 a .i64 = some (truncW a) := by
  unfold floatToIntVal
  have : (FloatKind.f32.decode a).toInt .zero = some (truncW a) := toInt_fin h.1
  rw [this]
  have h1 := h.2.1
  have h2 := h.2.2
  have m1 : IntKind.i64.min = -9223372036854775808 := by decide
  have m2 : IntKind.i64.max = 9223372036854775807 := by decide
  simp only [m1, m2]
  rw [if_pos ⟨by omega, by omega⟩]

/-- the two ends -/
def infW : Nat := 2139095040
def ninfW : Nat := 4286578688
theorem inf_num : NumW infW := by unfold NumW; decide
theorem ninf_num : NumW ninfW := by unfold NumW; decide
theorem key_inf : keyW infW = 2139095040 := by decide
theorem key_ninf : keyW ninfW = -2139095040 := by decide
theorem key_le_inf {a : Nat} (h : NumW a) : keyW a ≤ keyW infW := by
  rw [key_inf]; unfold keyW NumW sgnI at *; split <;> omega
theorem key_ge_ninf {a : Nat} (h : NumW a) : keyW ninfW ≤ keyW a := by
  rw [key_ninf]; unfold keyW NumW sgnI at *; split <;> omega
theorem key_lt_inf {a : Nat} (h : FinW a) : keyW a < keyW infW := by
  rw [key_inf]; unfold keyW FinW sgnI at *; split <;> omega
theorem key_gt_ninf {a : Nat} (h : FinW a) : keyW ninfW < keyW a := by
  rw [key_ninf]; unfold keyW FinW sgnI at *; split <;> omega
theorem min_inf {a : Nat} (h : FinW a) : minW infW a = a := by
  unfold minW
  have := key_lt_inf h
  rw [if_neg (by omega), if_pos this]
theorem max_ninf {a : Nat} (h : FinW a) : maxW ninfW a = a := by
  unfold maxW
  have := key_gt_ninf h
  rw [if_pos this]
theorem min_inf' {a : Nat} (h : FinW a) : minW a infW = a := by
  unfold minW
  rw [if_pos (key_lt_inf h)]
theorem max_ninf' {a : Nat} (h : FinW a) : maxW a ninfW = a := by
  unfold maxW
  have := key_gt_ninf h
  rw [if_neg (by omega), if_pos this]

/-! ### boxes -/
structure Bx where
  x0 : Nat
  y0 : Nat
  x1 : Nat
  y1 : Nat

def Bx.none : Bx := ⟨infW, infW, ninfW, ninfW⟩
structure Bx.Num (b : Bx) : Prop where
  out : NumW b.x0 ∧ NumW b.y0 ∧ NumW b.x1 ∧ NumW b.y1
structure Bx.Ok (b : Bx) : Prop where
  out : EdgeW b.x0 ∧ EdgeW b.y0 ∧ EdgeW b.x1 ∧ EdgeW b.y1
def Bx.grow (b o : Bx) : Bx := ⟨minW b.x0 o.x0, minW b.y0 o.y0, maxW b.x1 o.x1, maxW b.y1 o.y1⟩
/-- a lies in b -/
def Bx.In (a b : Bx) : Prop := keyW b.x0 ≤ keyW a.x0 ∧ keyW b.y0 ≤ keyW a.y0 ∧ keyW a.x1 ≤ keyW b.x1 ∧ keyW a.y1 ≤ keyW b.y1
def Bx.meets (b o : Bx) : Bool := leW b.x0 o.x1 && leW o.x0 b.x1 && leW b.y0 o.y1 && leW o.y0 b.y1
def Bx.of (x0 y0 x1 y1 : Int) : Bx := ⟨downW x0, downW y0, upW x1, upW y1⟩

theorem Bx.Ok.num {b : Bx} (h : b.Ok) : b.Num := ⟨h.out.1.num, h.out.2.1.num, h.out.2.2.1.num, h.out.2.2.2.num⟩
theorem Bx.none_num : Bx.none.Num := ⟨inf_num, inf_num, ninf_num, ninf_num⟩
theorem Bx.grow_num {b o : Bx} (h : b.Num) (k : o.Num) : (b.grow o).Num := ⟨.min h.out.1 k.out.1, .min h.out.2.1 k.out.2.1, .max h.out.2.2.1 k.out.2.2.1, .max h.out.2.2.2 k.out.2.2.2⟩
theorem Bx.grow_ok {b o : Bx} (h : b.Ok) (k : o.Ok) : (b.grow o).Ok := ⟨.min h.out.1 k.out.1, .min h.out.2.1 k.out.2.1, .max h.out.2.2.1 k.out.2.2.1, .max h.out.2.2.2 k.out.2.2.2⟩
theorem Bx.none_grow {o : Bx} (k : o.Ok) : Bx.none.grow o = o := by
  unfold Bx.grow Bx.none
  simp only [min_inf k.out.1.1, min_inf k.out.2.1.1, max_ninf k.out.2.2.1.1, max_ninf k.out.2.2.2.1]
theorem Bx.grow_none {o : Bx} (k : o.Ok) : o.grow Bx.none = o := by
  unfold Bx.grow Bx.none
  simp only [min_inf' k.out.1.1, min_inf' k.out.2.1.1, max_ninf' k.out.2.2.1.1, max_ninf' k.out.2.2.2.1]
theorem Bx.In.refl (b : Bx) : b.In b := ⟨Int.le_refl _, Int.le_refl _, Int.le_refl _, Int.le_refl _⟩
theorem Bx.In.trans {a b c : Bx} (h : a.In b) (k : b.In c) : a.In c := by
  obtain ⟨h1, h2, h3, h4⟩ := h
  obtain ⟨k1, k2, k3, k4⟩ := k
  exact ⟨by omega, by omega, by omega, by omega⟩
theorem Bx.in_grow (a b : Bx) : a.In (a.grow b) := by
  refine ⟨?_, ?_, ?_, ?_⟩ <;> simp only [Bx.grow, minW_key, maxW_key] <;> omega
theorem Bx.in_grow' (a b : Bx) : b.In (a.grow b) := by
  refine ⟨?_, ?_, ?_, ?_⟩ <;> simp only [Bx.grow, minW_key, maxW_key] <;> omega
theorem Bx.meets_of_in {a b o : Bx} (h : a.In b) (k : a.meets o = true) : b.meets o = true := by
  obtain ⟨h1, h2, h3, h4⟩ := h
  simp only [Bx.meets, leW, Bool.and_eq_true, decide_eq_true_eq] at *
  omega
theorem Bx.meets_self_of_in {a b : Bx} (h : a.In b) (h0 : keyW a.x0 ≤ keyW a.x1) (h1 : keyW a.y0 ≤ keyW a.y1) : b.meets a = true := by
  obtain ⟨a1, a2, a3, a4⟩ := h
  simp only [Bx.meets, leW, Bool.and_eq_true, decide_eq_true_eq] at *
  omega

/-- a rectangle as the document has it -/
def RectOk (x0 y0 x1 y1 : Int) : Prop := (-1000000000 ≤ x0 ∧ x0 ≤ x1 ∧ x1 ≤ 1000000000) ∧ (-1000000000 ≤ y0 ∧ y0 ≤ y1 ∧ y1 ≤ 1000000000)

theorem Bx.of_ok {x0 y0 x1 y1 : Int} (h : RectOk x0 y0 x1 y1) : (Bx.of x0 y0 x1 y1).Ok := by
  obtain ⟨⟨a, b, c⟩, d, e, f⟩ := h
  exact ⟨down_edge _ a (by omega), down_edge _ d (by omega), up_edge _ (by omega) c, up_edge _ (by omega) f⟩
theorem Bx.of_wide {x0 y0 x1 y1 : Int} (h : RectOk x0 y0 x1 y1) : keyW (Bx.of x0 y0 x1 y1).x0 ≤ keyW (Bx.of x0 y0 x1 y1).x1 ∧ keyW (Bx.of x0 y0 x1 y1).y0 ≤ keyW (Bx.of x0 y0 x1 y1).y1 := by
  obtain ⟨⟨a, b, c⟩, d, e, f⟩ := h
  exact ⟨down_le_up a (by omega) (by omega) c b, down_le_up d (by omega) (by omega) f e⟩
/-- rectangles that meet have boxes that meet -/
theorem Bx.of_meets {a0 a1 a2 a3 b0 b1 b2 b3 : Int} (ha : RectOk a0 a1 a2 a3) (hb : RectOk b0 b1 b2 b3) (h1 : a0 ≤ b2) (h2 : b0 ≤ a2) (h3 : a1 ≤ b3) (h4 : b1 ≤ a3) :
    (Bx.of a0 a1 a2 a3).meets (Bx.of b0 b1 b2 b3) = true := by
  obtain ⟨⟨a, b, c⟩, d, e, f⟩ := ha
  obtain ⟨⟨a', b', c'⟩, d', e', f'⟩ := hb
  have g1 : leW (downW a0) (upW b2) = true := decide_eq_true (down_le_up (by omega) (by omega) (by omega) (by omega) h1)
  have g2 : leW (downW b0) (upW a2) = true := decide_eq_true (down_le_up (by omega) (by omega) (by omega) (by omega) h2)
  have g3 : leW (downW a1) (upW b3) = true := decide_eq_true (down_le_up (by omega) (by omega) (by omega) (by omega) h3)
  have g4 : leW (downW b1) (upW a3) = true := decide_eq_true (down_le_up (by omega) (by omega) (by omega) (by omega) h4)
  simp only [Bx.meets, Bx.of, g1, g2, g3, g4, Bool.and_self]

end Go.Proofs.YthimaoipogocfaaGreat

namespace Go.Proofs.YthimaoipogocfaaGreat
open Go.RowKit

theorem run_f64frombits (n : Int) (w : World) : (callFunc 165 #[.int .u64 n]).run Tryz.prog w = .ok (.value (.float .f64 n.toNat)) w := by
  rw [run_callFunc_extern (e := Extern.MathFloatBits.float64frombits) Tryz.func165 (by kernel_rfl) (by kernel_rfl) (by kernel_rfl) (by kernel_rfl)]
  rfl
theorem run_f32frombits (n : Int) (w : World) : (callFunc 163 #[.int .u32 n]).run Tryz.prog w = .ok (.value (.float .f32 n.toNat)) w := by
  rw [run_callFunc_extern (e := Extern.MathFloatBits.float32frombits) Tryz.func163 (by kernel_rfl) (by kernel_rfl) (by kernel_rfl) (by kernel_rfl)]
  rfl
theorem run_f32bits (b : Nat) (w : World) : (callFunc 164 #[.float .f32 b]).run Tryz.prog w = .ok (.value (.int .u32 b)) w := by
  rw [run_callFunc_extern (e := Extern.MathFloatBits.float32bits) Tryz.func164 (by kernel_rfl) (by kernel_rfl) (by kernel_rfl) (by kernel_rfl)]
  rfl

/-! ### math.Inf, math.Nextafter32 -/
theorem Inf_up (w : World) : Calls Tryz.prog 137 #[.int .i64 1] w fun e w' => e = .returned (.float .f64 9218868437227405312) ∧ w = w' := by
  have hx := run_f64frombits
  go_enter Tryz.func137, Tryz.ntmps137
  go_wp2
  go_ret
  exact ⟨rfl, rfl⟩
theorem Inf_down (w : World) : Calls Tryz.prog 137 #[.int .i64 (-1)] w fun e w' => e = .returned (.float .f64 18442240474082181120) ∧ w = w' := by
  have hx := run_f64frombits
  go_enter Tryz.func137, Tryz.ntmps137
  go_wp2
  go_ret
  exact ⟨rfl, rfl⟩

theorem inf_to32 : floatToFloatBits .f64 9218868437227405312 .f32 = some infW := by decide
theorem ninf_to32 : floatToFloatBits .f64 18442240474082181120 .f32 = some ninfW := by decide

end Go.Proofs.YthimaoipogocfaaGreat

namespace Go.Proofs.YthimaoipogocfaaGreat
open Go.RowKit

/-- a word of a greater kind that stands for a number is itself -/
theorem order_self {f : Ieee.Format} {b : Nat} {s : Bool} {m : Nat} {p : Int} (h : f.read b = .number s m p) : f.order b b = some .eq := by
  unfold Ieee.Format.order
  rw [h]
  unfold Ieee.Datum.order
  simp only
  congr 1
  show compareOfLessAndEq _ _ = _
  unfold compareOfLessAndEq
  rw [if_neg (by omega), if_pos rfl]

theorem read_double {s : Bool} {r : Nat} (h : r < 9218868437227405312) : ∃ m p, Ieee.double.read (if s then 9223372036854775808 + r else r) = .number s m p := by
  have hs : Ieee.double.signWeight = 9223372036854775808 := by decide
  have hb : Ieee.double.binade = 4503599627370496 := by decide
  have hi : Ieee.double.infRung = 9218868437227405312 := by decide
  unfold Ieee.Format.read
  simp only [hs, hb, hi]
  have e1 : (if s then 9223372036854775808 + r else r) % 9223372036854775808 = r := by cases s <;> simp <;> omega
  have e2 : ((if s then 9223372036854775808 + r else r) / 9223372036854775808 % 2 == 1) = s := by
    cases s
    · have : r / 9223372036854775808 % 2 = 0 := by omega
      show (r / 9223372036854775808 % 2 == 1) = false
      rw [this]; rfl
    · have : (9223372036854775808 + r) / 9223372036854775808 % 2 = 1 := by omega
      show ((9223372036854775808 + r) / 9223372036854775808 % 2 == 1) = true
      rw [this]; rfl
  rw [e1, e2]
  by_cases h1 : r < 4503599627370496
  · rw [if_pos h1]; exact ⟨_, _, rfl⟩
  · rw [if_neg h1, if_pos h]; exact ⟨_, _, rfl⟩

/-- float64(x) of what an edge may be is a number -/
theorem wide_of {x : Nat} (h1 : 8388608 ≤ rungW x) (h2 : rungW x < 1409286144) : ∃ r, floatToFloatBits .f32 x .f64 = some r ∧ Ieee.double.order r r = some .eq := by
  have hr : Ieee.single.read x = .number (negW x) (8388608 + rungW x % 8388608) (-149 + ((rungW x / 8388608 - 1 : Nat) : Int)) := by
    have hs : Ieee.single.signWeight = 2147483648 := by decide
    have hb : Ieee.single.binade = 8388608 := by decide
    have hl : Ieee.single.leastPlace = -149 := by decide
    have hi : Ieee.single.infRung = 2139095040 := by decide
    unfold Ieee.Format.read
    simp only [hs, hb, hl, hi]
    unfold rungW at h1 h2
    rw [if_neg (by omega), if_pos (by omega)]
    rfl
  generalize negW x = s at hr
  obtain ⟨m, hm⟩ : ∃ m, 8388608 + rungW x % 8388608 = m := ⟨_, rfl⟩
  obtain ⟨e, he⟩ : ∃ e, rungW x / 8388608 - 1 = e := ⟨_, rfl⟩
  rw [hm, he] at hr
  have m1 : 8388608 ≤ m := by omega
  have m2 : m < 16777216 := by omega
  have e2 : e ≤ 167 := by omega
  have hlog : m.log2 = 23 := by
    have := (Nat.log2_eq_iff (n := m) (k := 23) (by omega)).2 ⟨by omega, by omega⟩
    exact this
  have hw : ∃ r, Ieee.double.write (.number s m (-149 + (e : Int))) = (if s then 9223372036854775808 + r else r) ∧ r < 9218868437227405312 := by
    show ∃ r, Ieee.double.nearest s m (-149 + (e : Int)) = _ ∧ _
    unfold Ieee.Format.nearest
    rw [if_neg (by omega)]
    have hb : Ieee.double.binade = 4503599627370496 := by decide
    have hl : Ieee.double.leastPlace = -1074 := by decide
    have hi : Ieee.double.infRung = 9218868437227405312 := by decide
    have hf : Ieee.double.fractionBits = 52 := by decide
    have hs : Ieee.double.signWeight = 9223372036854775808 := by decide
    simp only [hl, hf, hb, hi, hlog]
    have q1 : max (-149 + (e : Int) + ((23 : Nat) : Int) - ((52 : Nat) : Int)) (-1074) = (e : Int) - 178 := by omega
    rw [q1]
    have q2 : (-149 + (e : Int) - ((e : Int) - 178)).toNat = 29 := by omega
    have q3 : ((e : Int) - 178 - (-149 + (e : Int))).toNat = 0 := by omega
    have q4 : ((e : Int) - 178 - -1074).toNat = e + 896 := by omega
    rw [q2, q3, q4]
    obtain ⟨k, hk, _, hk3⟩ := cut_even s (m <<< 29) 0 (by omega)
    rw [hk, hk3 (by simp [Nat.mod_one])]
    simp only [Nat.pow_zero, Nat.div_one, Nat.shiftLeft_eq]
    unfold Ieee.Format.word
    rw [hs]
    have b1 : m * 2 ^ 29 < 16777216 * 2 ^ 29 := Nat.mul_lt_mul_of_pos_right m2 (Nat.two_pow_pos _)
    have b2 : (16777216 * 2 ^ 29 : Nat) = 9007199254740992 := by decide
    rw [b2] at b1
    refine ⟨_, rfl, ?_⟩
    have b4 : (e + 896) * 4503599627370496 + 9007199254740992 ≤ 9218868437227405312 := by omega
    exact Nat.lt_of_le_of_lt (Nat.min_le_left _ _) (Nat.lt_of_lt_of_le (Nat.add_lt_add_left b1 _) b4)
  obtain ⟨r, hw, hr2⟩ := hw
  refine ⟨(if s then 9223372036854775808 + r else r), ?_, ?_⟩
  · unfold floatToFloatBits
    rw [if_neg (by decide)]
    have hd : FloatKind.f32.decode x = .number s m (-149 + (e : Int)) := hr
    rw [hd]
    simp only
    have hen : FloatKind.f64.encode (.number s m (-149 + (e : Int))) = (if s then 9223372036854775808 + r else r) := hw
    rw [hen]
    obtain ⟨m', p', hrd⟩ := read_double (s := s) hr2
    have hde : FloatKind.f64.decode (if s then 9223372036854775808 + r else r) = .number s m' p' := hrd
    rw [hde]
    rfl
  · obtain ⟨m', p', hrd⟩ := read_double (s := s) hr2
    exact order_self hrd

theorem fW_lt (n : Int) (h : -1000000000 ≤ n) (h' : n ≤ 1000000000) : fW n < 3556769792 := by
  obtain ⟨s, r, e, hr, _⟩ := fW_is n h h'
  rw [e]; unfold wordS; split <;> omega

theorem fW_rung {n : Int} (h : -1000000000 ≤ n) (h' : n ≤ 1000000000) (hne : truncW (fW n) ≠ n) : 8388608 ≤ rungW (fW n) ∧ rungW (fW n) < 1409286144 := by
  obtain ⟨s, r, e, hr, hc⟩ := fW_is n h h'
  rw [e, trunc_word s r (by omega)] at hne
  rw [e, wordS_rung s r (by omega)]
  rcases hc with hc | ⟨hs, r1, d, l, d1, l1, l2, n1, n2, n3, hm⟩
  · exact absurd hc hne
  · refine ⟨?_, hr⟩
    by_cases q : 8388608 ≤ r
    · exact q
    · exfalso
      have hz : magR r / 2 ^ 149 = 0 := by
        unfold magR
        rw [if_pos (by omega)]
        exact Nat.div_eq_of_lt (by omega)
      have hp : 0 < l * 2 ^ d := Nat.mul_pos (by omega) (Nat.two_pow_pos d)
      have hp2 : 0 < (l + 1) * 2 ^ d := Nat.mul_pos (by omega) (Nat.two_pow_pos d)
      rcases hm with ⟨m1, _⟩ | ⟨m1, _⟩ <;> omega

theorem eq32 {a b : Nat} (ha : NumW a) (hb : NumW b) : (FloatKind.f32.format.order a b == some .eq) = decide (keyW a = keyW b) := by
  rw [order32, order_num ha hb]
  show (some (compareOfLessAndEq (keyW a) (keyW b)) == some Ordering.eq) = _
  unfold compareOfLessAndEq
  by_cases h1 : keyW a < keyW b
  · rw [if_pos h1]; simp; omega
  · rw [if_neg h1]
    by_cases h2 : keyW a = keyW b
    · rw [if_pos h2]; simp; omega
    · rw [if_neg h2]; simp; omega
theorem gt32 {a b : Nat} (ha : NumW a) (hb : NumW b) : (FloatKind.f32.format.order a b == some .gt) = decide (keyW b < keyW a) := by
  rw [order32, order_num ha hb]
  show (some (compareOfLessAndEq (keyW a) (keyW b)) == some Ordering.gt) = _
  unfold compareOfLessAndEq
  by_cases h1 : keyW a < keyW b
  · rw [if_pos h1]; simp; omega
  · rw [if_neg h1]
    by_cases h2 : keyW a = keyW b
    · rw [if_pos h2]; simp; omega
    · rw [if_neg h2]; simp; omega

theorem zero_num : NumW 0 := by unfold NumW; decide
theorem key_zero : keyW 0 = 0 := by decide

def FltPost (b : Nat) (w : World) (e : Ending) (w' : World) : Prop := e = .returned (.float .f32 b) ∧ w = w'

theorem IsNaN_not {r : Nat} (h : Ieee.double.order r r = some .eq) (w : World) : Calls Tryz.prog 160 #[.float .f64 r] w fun e w' => e = .returned (.bool false) ∧ w = w' := by
  have h' : FloatKind.f64.format.order r r = some .eq := h
  go_enter Tryz.func160, Tryz.ntmps160
  go_wp2
  go_ret
  exact ⟨rfl, rfl⟩

def nextPost (up : Bool) (x : Nat) : Nat := if up then nextW x else prevW x

set_option maxRecDepth 100000 in
theorem Next_any (up : Bool) {x : Nat} (h1 : 8388608 ≤ rungW x) (h2 : rungW x < 1409286144) (hx : x < 3556769792) (w : World) :
    Calls Tryz.prog 136 #[.float .f32 x, .float .f32 (if up then infW else ninfW)] w (FltPost (nextPost up x) w) := by
  obtain ⟨r, hr, hself⟩ := wide_of h1 h2
  have hfin : FinW x := by unfold FinW; omega
  have hne : keyW x ≠ 0 := by unfold keyW sgnI; split <;> omega
  have hx1 : 1 ≤ x := by
    have : rungW x ≤ x := Nat.mod_le _ _
    omega
  have hy : NumW (if up then infW else ninfW) := by cases up; exact ninf_num; exact inf_num
  have hwy : floatToFloatBits .f32 (if up then infW else ninfW) .f64 = some (if up then 9218868437227405312 else 18442240474082181120) := by cases up <;> decide
  have hsy : Ieee.double.order (if up then 9218868437227405312 else 18442240474082181120) (if up then 9218868437227405312 else 18442240474082181120) = some .eq := by cases up <;> decide
  have hlt : (up = true → keyW x < keyW (if up then infW else ninfW)) ∧ (up = false → keyW (if up then infW else ninfW) < keyW x) := by
    constructor
    · rintro rfl; exact key_lt_inf hfin
    · rintro rfl; exact key_gt_ninf hfin
  generalize (if up then infW else ninfW) = y at *
  generalize (if up then 9218868437227405312 else 18442240474082181120) = y2 at *
  have c1 := run_convert_float_float (P := Tryz.prog) w 120 202 .f32 .f64 x r (by rw [Tryz.underlying120]; rfl) Tryz.underlying202 hr
  have c2 := run_convert_float_float (P := Tryz.prog) w 120 202 .f32 .f64 y y2 (by rw [Tryz.underlying120]; rfl) Tryz.underlying202 hwy
  have b1 := run_f32bits
  have b2 := run_f32frombits
  have e1 := eq32 (.of_fin hfin) hy
  have e2 := eq32 (.of_fin hfin) zero_num
  have e3 := gt32 hy (.of_fin hfin)
  have e4 := gt32 (.of_fin hfin) zero_num
  rw [key_zero] at e2 e4
  rw [decide_eq_false (by cases up; (have := hlt.2 rfl; omega); (have := hlt.1 rfl; omega))] at e1
  rw [decide_eq_false hne] at e2
  have e3' : decide (keyW x < keyW y) = up := by
    cases up
    · have := hlt.2 rfl; exact decide_eq_false (by omega)
    · have := hlt.1 rfl; exact decide_eq_true (by omega)
  rw [e3'] at e3
  have hres : ∀ d, d = (decide (0 < keyW x)) → nextPost up x = if up = d then ((x : Int) + 1).toNat else ((x : Int) - 1).toNat := by
    rintro d rfl
    unfold nextPost nextW prevW
    cases up <;> by_cases hk : 0 < keyW x <;> simp [hk] <;> omega
  have I1 := hideIt (IsNaN_not hself)
  have I2 := hideIt (IsNaN_not hsy)
  have HX := hideIt hx
  have HX1 := hideIt hx1
  generalize hd : decide (0 < keyW x) = d at *
  have HRES := hideIt (hres d rfl)
  generalize nextPost up x = z at *
  clear hr hself hfin hne h1 h2 hx hx1 hy hwy hsy hlt e3' hd hres
  cases up <;> cases d
  all_goals
    go_enter Tryz.func136, Tryz.ntmps136
    go_wp2_with (first
      | (go_at_call 160; refine (I1.out _).mono ?_; rintro e w' ⟨rfl, rfl⟩)
      | (go_at_call 160; refine (I2.out _).mono ?_; rintro e w' ⟨rfl, rfl⟩))
    go_ret
    refine ⟨congrArg (fun b => Ending.returned (Value.float .f32 b)) ?_, rfl⟩
    have h0 := HRES.out
    have q1 := HX.out
    have q2 := HX1.out
    simp only [Bool.false_eq_true, Bool.true_eq_false, if_true, if_false] at h0
    omega

set_option maxRecDepth 100000 in
theorem roundDown_any (n : Int) (h : -1000000000 ≤ n) (h' : n ≤ 1000000000) (w : World) :
    Calls Tryz.prog 102 #[.int .i64 n] w (FltPost (downW n) w) := by
  have hv := trunc_val (f_edge n h h')
  have hf : floatOfInt .f32 n = fW n := rfl
  have c1 := run_convert_float_int (P := Tryz.prog) w 120 3 .f32 .i64 (fW n) (truncW (fW n)) (by rw [Tryz.underlying120]; rfl) Tryz.underlying3 hv
  have c2 := run_convert_float_float (P := Tryz.prog) w 202 120 .f64 .f32 _ _ (by rw [Tryz.underlying202]; rfl) Tryz.underlying120 ninf_to32
  unfold downW
  have HN := hideIt (fun hne w => Next_any false (fW_rung h h' hne).1 (fW_rung h h' hne).2 (fW_lt n h h') w)
  have hnp : nextPost false (fW n) = prevW (fW n) := rfl
  generalize hz : prevW (fW n) = z at *
  generalize hx : fW n = x at *
  generalize hy : truncW x = t at *
  rw [hnp] at HN
  clear hv h h' hz hx hy hnp
  by_cases hlt : n < t
  · rw [if_pos hlt]
    have HN2 := hideIt (HN.out (by omega))
    clear HN
    go_enter Tryz.func102, Tryz.ntmps102
    go_wp2_with (first
      | (go_at_call 137; refine (Inf_down _).mono ?_; rintro e w' ⟨rfl, rfl⟩)
      | (go_at_call 136; refine (HN2.out _).mono ?_; rintro e w' ⟨rfl, rfl⟩))
    go_ret
    exact ⟨rfl, rfl⟩
  · rw [if_neg hlt]
    clear HN
    go_enter Tryz.func102, Tryz.ntmps102
    go_wp2
    go_ret
    exact ⟨rfl, rfl⟩

set_option maxRecDepth 100000 in
theorem roundUp_any (n : Int) (h : -1000000000 ≤ n) (h' : n ≤ 1000000000) (w : World) :
    Calls Tryz.prog 103 #[.int .i64 n] w (FltPost (upW n) w) := by
  have hv := trunc_val (f_edge n h h')
  have hf : floatOfInt .f32 n = fW n := rfl
  have c1 := run_convert_float_int (P := Tryz.prog) w 120 3 .f32 .i64 (fW n) (truncW (fW n)) (by rw [Tryz.underlying120]; rfl) Tryz.underlying3 hv
  have c2 := run_convert_float_float (P := Tryz.prog) w 202 120 .f64 .f32 _ _ (by rw [Tryz.underlying202]; rfl) Tryz.underlying120 inf_to32
  unfold upW
  have HN := hideIt (fun hne w => Next_any true (fW_rung h h' hne).1 (fW_rung h h' hne).2 (fW_lt n h h') w)
  have hnp : nextPost true (fW n) = nextW (fW n) := rfl
  generalize hz : nextW (fW n) = z at *
  generalize hx : fW n = x at *
  generalize hy : truncW x = t at *
  rw [hnp] at HN
  clear hv h h' hz hx hy hnp
  by_cases hlt : t < n
  · rw [if_pos hlt]
    have HN2 := hideIt (HN.out (by omega))
    clear HN
    go_enter Tryz.func103, Tryz.ntmps103
    go_wp2_with (first
      | (go_at_call 137; refine (Inf_up _).mono ?_; rintro e w' ⟨rfl, rfl⟩)
      | (go_at_call 136; refine (HN2.out _).mono ?_; rintro e w' ⟨rfl, rfl⟩))
    go_ret
    exact ⟨rfl, rfl⟩
  · rw [if_neg hlt]
    clear HN
    go_enter Tryz.func103, Tryz.ntmps103
    go_wp2
    go_ret
    exact ⟨rfl, rfl⟩

end Go.Proofs.YthimaoipogocfaaGreat

