import Derived.Test.YthimaoipogocfaaJ06
namespace Go.Proofs.Ythimaoipogocfaa
open Go.RowKit
attribute [local go_sem] run_store_f32 run_neg_inf

theorem lowF_mono (m : Nat) (hm : 2 ≤ m) {a b : Nat} (h : a ≤ b) : 2 * m ^ a ≤ 2 * m ^ b := Nat.mul_le_mul_left 2 (Nat.pow_le_pow_right (by omega) h)

/-- a height that the document allows -/
structure HeightOk (fan n h : Nat) : Prop where
  one : 1 ≤ h
  most : n ≤ fan ^ h
  least : h = 1 ∨ 2 * leastF fan ^ (h - 1) ≤ n

theorem HeightOk.le {fan n h : Nat} (hn : n ≤ 400) (hh : HeightOk fan n h) : h ≤ 8 := by
  have hlo : 2 ≤ leastF fan := by unfold leastF; omega
  rcases hh.least with h3 | h3
  · omega
  · have h4 : 2 ^ (h - 1) ≤ leastF fan ^ (h - 1) := Nat.pow_le_pow_left hlo _
    by_cases h9 : h ≤ 8
    · exact h9
    · have : 2 ^ 8 ≤ 2 ^ (h - 1) := Nat.pow_le_pow_right (by omega) (by omega)
      omega

set_option maxRecDepth 100000 in
set_option maxHeartbeats 1000000 in
theorem allowed_any (fan n h : Nat) (w : World) (hf : 4 ≤ fan ∧ fan ≤ 16) (hn : n ≤ 400) (hh : HeightOk fan n h) :
    Calls Try.prog 8 #[.int .i64 fan, .int .i64 n, .int .i64 h] w fun e w' => e = .returned (.bool true) ∧ w = w' := by
  have h8 := hh.le hn
  obtain ⟨h1, h2, h3⟩ := hh
  obtain ⟨f4, f16⟩ := hf
  have l2 : 2 ≤ leastF fan := by unfold leastF; omega
  have l6 : leastF fan ≤ 6 := by unfold leastF; omega
  have hld : leastF fan = if 2 * fan / 5 ≤ 2 then 2 else 2 * fan / 5 := by unfold leastF; split <;> omega
  have hup : ∀ k, k ≤ 8 → fan ^ k ≤ 4294967296 := fun k hk => by
    have e1 : fan ^ k ≤ 16 ^ k := Nat.pow_le_pow_left f16 k
    have e2 : 16 ^ k ≤ 16 ^ 8 := Nat.pow_le_pow_right (by omega) hk
    omega
  have HUP := hideIt hup
  have H3 := hideIt h3
  have H2 := hideIt h2
  have HLD := hideIt hld
  clear hup h3 h2 hld
  have hdech : decide ((h : Int) < 1) = false := by simp; omega
  have hdech2 : decide (20 < (h : Int)) = false := by simp; omega
  by_cases hsm : 2 * fan / 5 ≤ 2
  · have hl : leastF fan = 2 := by rw [HLD.out, if_pos hsm]
    have hdec : ¬ (2 < 2 * (fan : Int) / 5) := by omega
    obtain ⟨m, hm⟩ : ∃ m : Nat, m = 2 := ⟨2, rfl⟩
    have hmi : (2 : Int) = (m : Int) := by omega
    have hm2 : 2 ≤ m := by omega
    have hm6 : m ≤ 6 := by omega
    have hlm : leastF fan = m := by omega
    rw [hlm] at H3
    have HMI := hideIt hmi
    clear hl hm hmi hlm HLD l2 l6
    go_enter Try.func8, Try.ntmps8
    go_wp2_with fail
    go_loop [8, 9, 10] (fun lo hi i => ∃ k : Nat, 1 ≤ k ∧ k ≤ h ∧ i = .int .i64 k ∧ lo = .int .i64 ((2 * m ^ (k - 1) : Nat) : Int) ∧ hi = .int .i64 ((fan ^ k : Nat) : Int)) (fun _ _ i => h - (intOf i).toNat)
    case atStart => exact ⟨1, by omega, h1, rfl, by simp, by simp⟩
    case round =>
      obtain ⟨k, hk1, hk2, rfl, rfl, rfl⟩ := hrel
      have hY := HUP.out k (by omega)
      by_cases hlt : k < h
      · have hX : 2 * m ^ (k - 1) ≤ n := by
          rcases H3.out with e | e
          · omega
          · exact Nat.le_trans (lowF_mono m hm2 (by omega)) e
        have hX1 : 2 * m ^ (k + 1 - 1) = 2 * m ^ (k - 1) * m := by
          rw [show k + 1 - 1 = (k - 1) + 1 by omega, Nat.pow_succ, Nat.mul_assoc]
        have hY1 : fan ^ (k + 1) = fan ^ k * fan := Nat.pow_succ _ _
        have HX1 := hideIt hX1
        have HY1 := hideIt hY1
        clear hX1 hY1
        generalize 2 * m ^ (k - 1) = X at *
        generalize fan ^ k = Y at *
        have e1 : 0 ≤ (X : Int) * (2 : Int) ∧ (X : Int) * (2 : Int) ≤ 4000 := by
          rw [HMI.out]
          have := Nat.mul_le_mul (show X ≤ 400 by omega) hm6
          refine ⟨Int.mul_nonneg (by omega) (by omega), ?_⟩
          have h' : ((X * m : Nat) : Int) ≤ 2400 := by omega
          rw [Int.natCast_mul] at h'
          omega
        have e2 : 0 ≤ (Y : Int) * (fan : Int) ∧ (Y : Int) * (fan : Int) ≤ 68719476736 := by
          have := Nat.mul_le_mul hY f16
          refine ⟨Int.mul_nonneg (by omega) (by omega), ?_⟩
          have h' : ((Y * fan : Nat) : Int) ≤ 68719476736 := by omega
          rw [Int.natCast_mul] at h'
          omega
        obtain ⟨e10, e11⟩ := e1
        obtain ⟨e20, e21⟩ := e2
        have hXi : (X : Int) ≤ (n : Int) := by omega
        go_wp2
        go_round
        case rel => exact ⟨k + 1, by omega, by omega, by go_num, by rw [HX1.out, Int.natCast_mul, ← HMI.out], by rw [HY1.out, Int.natCast_mul]⟩
        case measure => simp [intOf]; omega
      · have hkh : k = h := by omega
        subst hkh
        have hY2 := H2.out
        by_cases h11 : k = 1
        · subst h11
          have hb1 : (((1 : Nat) : Int) == 1) = true := rfl
          generalize fan ^ 1 = Y at *
          have hYi : (n : Int) ≤ (Y : Int) := by omega
          go_wp2
          go_ret
          exact ⟨rfl, rfl⟩
        · have hX : 2 * m ^ (k - 1) ≤ n := by
            rcases H3.out with e | e
            · omega
            · exact e
          have hb1 : ((k : Int) == 1) = false := beq_eq_false_iff_ne.2 (by omega)
          generalize 2 * m ^ (k - 1) = X at *
          generalize fan ^ k = Y at *
          have hYi : (n : Int) ≤ (Y : Int) := by omega
          have hXi : (X : Int) ≤ (n : Int) := by omega
          go_wp2
          go_ret
          exact ⟨rfl, rfl⟩
  · have hl : leastF fan = 2 * fan / 5 := by rw [HLD.out, if_neg hsm]
    have hdec : 2 < 2 * (fan : Int) / 5 := by omega
    obtain ⟨m, hm⟩ : ∃ m : Nat, m = 2 * fan / 5 := ⟨_, rfl⟩
    have hmi : 2 * (fan : Int) / 5 = (m : Int) := by omega
    have hm2 : 2 ≤ m := by omega
    have hm6 : m ≤ 6 := by omega
    have hlm : leastF fan = m := by omega
    rw [hlm] at H3
    have HMI := hideIt hmi
    clear hl hm hmi hlm HLD l2 l6
    go_enter Try.func8, Try.ntmps8
    go_wp2_with fail
    go_loop [8, 9, 10] (fun lo hi i => ∃ k : Nat, 1 ≤ k ∧ k ≤ h ∧ i = .int .i64 k ∧ lo = .int .i64 ((2 * m ^ (k - 1) : Nat) : Int) ∧ hi = .int .i64 ((fan ^ k : Nat) : Int)) (fun _ _ i => h - (intOf i).toNat)
    case atStart => exact ⟨1, by omega, h1, rfl, by simp, by simp⟩
    case round =>
      obtain ⟨k, hk1, hk2, rfl, rfl, rfl⟩ := hrel
      have hY := HUP.out k (by omega)
      by_cases hlt : k < h
      · have hX : 2 * m ^ (k - 1) ≤ n := by
          rcases H3.out with e | e
          · omega
          · exact Nat.le_trans (lowF_mono m hm2 (by omega)) e
        have hX1 : 2 * m ^ (k + 1 - 1) = 2 * m ^ (k - 1) * m := by
          rw [show k + 1 - 1 = (k - 1) + 1 by omega, Nat.pow_succ, Nat.mul_assoc]
        have hY1 : fan ^ (k + 1) = fan ^ k * fan := Nat.pow_succ _ _
        have HX1 := hideIt hX1
        have HY1 := hideIt hY1
        clear hX1 hY1
        generalize 2 * m ^ (k - 1) = X at *
        generalize fan ^ k = Y at *
        have e1 : 0 ≤ (X : Int) * (2 * (fan : Int) / 5) ∧ (X : Int) * (2 * (fan : Int) / 5) ≤ 4000 := by
          rw [HMI.out]
          have := Nat.mul_le_mul (show X ≤ 400 by omega) hm6
          refine ⟨Int.mul_nonneg (by omega) (by omega), ?_⟩
          have h' : ((X * m : Nat) : Int) ≤ 2400 := by omega
          rw [Int.natCast_mul] at h'
          omega
        have e2 : 0 ≤ (Y : Int) * (fan : Int) ∧ (Y : Int) * (fan : Int) ≤ 68719476736 := by
          have := Nat.mul_le_mul hY f16
          refine ⟨Int.mul_nonneg (by omega) (by omega), ?_⟩
          have h' : ((Y * fan : Nat) : Int) ≤ 68719476736 := by omega
          rw [Int.natCast_mul] at h'
          omega
        obtain ⟨e10, e11⟩ := e1
        obtain ⟨e20, e21⟩ := e2
        have hXi : (X : Int) ≤ (n : Int) := by omega
        go_wp2
        go_round
        case rel => exact ⟨k + 1, by omega, by omega, by go_num, by rw [HX1.out, Int.natCast_mul, ← HMI.out], by rw [HY1.out, Int.natCast_mul]⟩
        case measure => simp [intOf]; omega
      · have hkh : k = h := by omega
        subst hkh
        have hY2 := H2.out
        by_cases h11 : k = 1
        · subst h11
          have hb1 : (((1 : Nat) : Int) == 1) = true := rfl
          generalize fan ^ 1 = Y at *
          have hYi : (n : Int) ≤ (Y : Int) := by omega
          go_wp2
          go_ret
          exact ⟨rfl, rfl⟩
        · have hX : 2 * m ^ (k - 1) ≤ n := by
            rcases H3.out with e | e
            · omega
            · exact e
          have hb1 : ((k : Int) == 1) = false := beq_eq_false_iff_ne.2 (by omega)
          generalize 2 * m ^ (k - 1) = X at *
          generalize fan ^ k = Y at *
          have hYi : (n : Int) ≤ (Y : Int) := by omega
          have hXi : (X : Int) ≤ (n : Int) := by omega
          go_wp2
          go_ret
          exact ⟨rfl, rfl⟩

end Go.Proofs.Ythimaoipogocfaa
