import Derived.Test.YthimaoipogocfaaGreatJ07
namespace Go.Proofs.YthimaoipogocfaaGreat
open Go.RowKit

/-- what waits: its number, how far it is, its node, the things that are meant -/
structure Wt where
  id : Int
  far : Int
  nd : Option Nat
  ts : List Tg

def Wt.le (a b : Wt) : Prop := a.far < b.far ∨ (a.far = b.far ∧ a.id ≤ b.id)
theorem Wt.le_refl (a : Wt) : a.le a := .inr ⟨rfl, Int.le_refl _⟩
theorem Wt.le_trans {a b c : Wt} (h : a.le b) (k : b.le c) : a.le c := by unfold Wt.le at *; omega
theorem Wt.le_total (a b : Wt) : a.le b ∨ b.le a := by unfold Wt.le; omega
def wt0 : Wt := ⟨0, 0, none, []⟩
def wat (l : List Wt) (k : Nat) : Wt := l.getD k wt0
theorem wat_get {l : List Wt} {k : Nat} (h : k < l.length) : l[k]? = some (wat l k) := by
  unfold wat
  rw [List.getD_eq_getElem?_getD, List.getElem?_eq_getElem h]
  rfl
theorem wat_mem {l : List Wt} {k : Nat} (h : k < l.length) : wat l k ∈ l := List.mem_of_getElem? (wat_get h)
def swapW (l : List Wt) (i j : Nat) : List Wt := (l.set i (wat l j)).set j (wat l i)
theorem swapW_length (l : List Wt) (i j : Nat) : (swapW l i j).length = l.length := by simp [swapW]
theorem wat_swap {l : List Wt} {i j : Nat} (hi : i < l.length) (hj : j < l.length) (k : Nat) : wat (swapW l i j) k = if k = j then wat l i else if k = i then wat l j else wat l k := by
  have e : ∀ (m : List Wt) n, wat m n = (m[n]?).getD wt0 := fun m n => List.getD_eq_getElem?_getD
  rw [e (swapW l i j) k, swapW, List.getElem?_set, List.getElem?_set]
  by_cases h1 : k = j
  · subst h1; simp [hj]
  · have h1' : ¬ j = k := fun h => h1 h.symm
    rw [if_neg h1', if_neg h1]
    by_cases h2 : k = i
    · subst h2; simp [hi]
    · have h2' : ¬ i = k := fun h => h2 h.symm
      rw [if_neg h2', if_neg h2, e l k]

theorem swapW_perm {l : List Wt} {i j : Nat} (hi : i < l.length) (hj : j < l.length) : (swapW l i j).Perm l := by
  have h := Array.swap_perm (xs := l.toArray) (i := i) (j := j) (by simpa using hi) (by simpa using hj)
  have h2 := h.toList
  have e1 : (l.toArray.swap i j (by simpa using hi) (by simpa using hj)).toList = swapW l i j := by
    have a1 : wat l i = l[i] := by have := wat_get hi; rw [List.getElem?_eq_getElem hi] at this; exact (Option.some.inj this).symm
    have a2 : wat l j = l[j] := by have := wat_get hj; rw [List.getElem?_eq_getElem hj] at this; exact (Option.some.inj this).symm
    simp [Array.swap, swapW, a1, a2]
  rw [e1] at h2
  simpa using h2

/-- a heap, of the first n -/
def HeapW (l : List Wt) (n : Nat) : Prop := ∀ k, k < n → 0 < k → (wat l ((k - 1) / 2)).le (wat l k)
/-- .. but what stands at j may be too small -/
def UpW (l : List Wt) (n j : Nat) : Prop := (∀ k, k < n → 0 < k → k ≠ j → (wat l ((k - 1) / 2)).le (wat l k)) ∧ ∀ k, k < n → 0 < k → (k - 1) / 2 = j → 0 < j → (wat l ((j - 1) / 2)).le (wat l k)
/-- .. but what stands at i may be too great -/
def DownW (l : List Wt) (n i : Nat) : Prop := (∀ k, k < n → 0 < k → (k - 1) / 2 ≠ i → (wat l ((k - 1) / 2)).le (wat l k)) ∧ ∀ k, k < n → 0 < k → (k - 1) / 2 = i → 0 < i → (wat l ((i - 1) / 2)).le (wat l k)

theorem HeapW.least {l : List Wt} {n : Nat} (h : HeapW l n) : ∀ k, k < n → (wat l 0).le (wat l k) := by
  intro k
  induction k using Nat.strongRecOn with
  | ind k ih =>
    intro hk
    by_cases h0 : k = 0
    · subst h0; exact Wt.le_refl _
    · exact Wt.le_trans (ih ((k - 1) / 2) (by omega) (by omega)) (h k hk (by omega))

theorem UpW.done {l : List Wt} {n j : Nat} (h : UpW l n j) (hj : j = 0 ∨ (wat l ((j - 1) / 2)).le (wat l j)) : HeapW l n := by
  intro k hk h0
  by_cases e : k = j
  · subst e
    rcases hj with hj | hj
    · omega
    · exact hj
  · exact h.1 k hk h0 e

theorem UpW.step {l : List Wt} {n j : Nat} (h : UpW l n j) (hn : n ≤ l.length) (hj : j < n) (h0 : 0 < j) (hle : (wat l j).le (wat l ((j - 1) / 2))) : UpW (swapW l ((j - 1) / 2) j) n ((j - 1) / 2) := by
  have hi : (j - 1) / 2 < l.length := by omega
  have hj' : j < l.length := by omega
  have hne : (j - 1) / 2 ≠ j := by omega
  constructor
  · intro k hk k0 kne
    rw [wat_swap hi hj', wat_swap hi hj']
    by_cases e1 : k = j
    · subst e1
      rw [if_neg hne, if_pos rfl, if_pos rfl]
      exact hle
    · rw [if_neg e1, if_neg kne]
      by_cases e2 : (k - 1) / 2 = j
      · rw [if_pos e2]
        exact h.2 k hk k0 e2 h0
      · rw [if_neg e2]
        by_cases e3 : (k - 1) / 2 = (j - 1) / 2
        · rw [if_pos e3]
          have := h.1 k hk k0 e1
          rw [e3] at this
          exact Wt.le_trans hle this
        · rw [if_neg e3]
          exact h.1 k hk k0 e1
  · intro k hk k0 kp ip
    rw [wat_swap hi hj', wat_swap hi hj']
    have g1 : ((j - 1) / 2 - 1) / 2 ≠ j := by omega
    have g2 : ((j - 1) / 2 - 1) / 2 ≠ (j - 1) / 2 := by omega
    rw [if_neg g1, if_neg g2]
    have hpar := h.1 ((j - 1) / 2) (by omega) ip hne
    by_cases e1 : k = j
    · subst e1
      rw [if_pos rfl]
      exact hpar
    · have e2 : k ≠ (j - 1) / 2 := by omega
      rw [if_neg e1, if_neg e2]
      have := h.1 k hk k0 e1
      rw [kp] at this
      exact Wt.le_trans hpar this

theorem DownW.done {l : List Wt} {n i : Nat} (h : DownW l n i) (hc : ∀ k, k < n → 0 < k → (k - 1) / 2 = i → (wat l i).le (wat l k)) : HeapW l n := by
  intro k hk h0
  by_cases e : (k - 1) / 2 = i
  · rw [e]; exact hc k hk h0 e
  · exact h.1 k hk h0 e

theorem DownW.step {l : List Wt} {n i j : Nat} (h : DownW l n i) (hn : n ≤ l.length) (hj : j < n) (hji : (j - 1) / 2 = i) (h0 : 0 < j) (hle : (wat l j).le (wat l i)) (hmin : ∀ k, k < n → 0 < k → (k - 1) / 2 = i → (wat l j).le (wat l k)) : DownW (swapW l i j) n j := by
  have hi : i < l.length := by omega
  have hj' : j < l.length := by omega
  have hne : i ≠ j := by omega
  constructor
  · intro k hk k0 kne
    rw [wat_swap hi hj', wat_swap hi hj']
    rw [if_neg kne]
    by_cases e3 : (k - 1) / 2 = i
    · rw [if_pos e3]
      by_cases e1 : k = j
      · subst e1
        rw [if_pos rfl]
        exact hle
      · have e2 : k ≠ i := by omega
        rw [if_neg e1, if_neg e2]
        exact hmin k hk k0 e3
    · rw [if_neg e3]
      by_cases e1 : k = j
      · subst e1; exact absurd hji e3
      · rw [if_neg e1]
        by_cases e2 : k = i
        · subst e2
          rw [if_pos rfl]
          exact h.2 j hj h0 hji k0
        · rw [if_neg e2]
          exact h.1 k hk k0 e3
  · intro k hk k0 kp jp
    rw [wat_swap hi hj', wat_swap hi hj']
    have e1 : k ≠ j := by omega
    have e2 : k ≠ i := by omega
    rw [hji, if_neg hne, if_pos rfl, if_neg e1, if_neg e2]
    have := h.1 k hk k0 (by omega)
    rw [kp] at this
    exact this

/-- a heap's beginning, when what stood at n comes to its front -/
theorem HeapW.pop {l : List Wt} {n : Nat} (h : HeapW l (n + 1)) (hn : n < l.length) : DownW (swapW l 0 n) n 0 := by
  constructor
  · intro k hk k0 kne
    rw [wat_swap (by omega) hn, wat_swap (by omega) hn]
    rw [if_neg (by omega), if_neg kne, if_neg (by omega), if_neg (by omega)]
    exact h k (by omega) k0
  · intro k hk k0 kp ip
    omega

theorem HeapW.push {l : List Wt} (h : HeapW l l.length) (x : Wt) : UpW (l ++ [x]) (l.length + 1) l.length := by
  have e : ∀ k, k < l.length → wat (l ++ [x]) k = wat l k := fun k hk => by
    unfold wat
    rw [List.getD_eq_getElem?_getD, List.getD_eq_getElem?_getD, List.getElem?_append_left hk]
  constructor
  · intro k hk k0 kne
    rw [e _ (by omega), e _ (by omega)]
    exact h k (by omega) k0
  · intro k hk k0 kp jp
    omega

end Go.Proofs.YthimaoipogocfaaGreat
