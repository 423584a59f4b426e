import Derived.Test.YthimaoipogocfaaGreatHeapP
namespace Go.Proofs.YthimaoipogocfaaGreat
open Go.RowKit

/-- what is told of one thing: its number, how far it is -/
structure Ht where
  id : Int
  far : Int
theorem Ht.ext' {a b : Ht} (h1 : a.id = b.id) (h2 : a.far = b.far) : a = b := by
  cases a; cases b; simp at *; exact ⟨h1, h2⟩
def hle (a b : Ht) : Bool := decide (a.far < b.far ∨ (a.far = b.far ∧ a.id ≤ b.id))
theorem hle_iff {a b : Ht} : hle a b = true ↔ (a.far < b.far ∨ (a.far = b.far ∧ a.id ≤ b.id)) := by simp [hle]
def sortH (l : List Ht) : List Ht := l.mergeSort hle
theorem sortH_perm (l : List Ht) : (sortH l).Perm l := List.mergeSort_perm l hle
theorem sortH_pairwise (l : List Ht) : (sortH l).Pairwise (fun a b => hle a b = true) :=
  List.pairwise_mergeSort (le := hle) (fun a b c h1 h2 => by rw [hle_iff] at *; omega) (fun a b => by simp only [Bool.or_eq_true]; rw [hle_iff, hle_iff]; omega) l
theorem sortH_unique {l m : List Ht} (hp : m.Perm l) (hs : m.Pairwise (fun a b => hle a b = true)) : m = sortH l :=
  List.Perm.eq_of_pairwise (le := fun a b => hle a b = true) (fun a b _ _ h1 h2 => by
    rw [hle_iff] at h1 h2
    exact Ht.ext' (by omega) (by omega)) hs (sortH_pairwise l) (hp.trans (sortH_perm l).symm)
theorem sortH_congr {l m : List Ht} (h : l.Perm m) : sortH l = sortH m := sortH_unique ((sortH_perm l).trans h) (sortH_pairwise l)
theorem sortH_length (l : List Ht) : (sortH l).length = l.length := (sortH_perm l).length_eq

/-- the nearest were taken, one behind the other -/
theorem near_done {hits pend all : List Ht} {most : Nat} (hp : (hits ++ pend).Perm all) (hs : hits.Pairwise (fun a b => hle a b = true)) (hb : ∀ a ∈ hits, ∀ b ∈ pend, hle a b = true) (he : hits.length = most ∨ (pend = [] ∧ hits.length ≤ most)) : hits = (sortH all).take most := by
  have e : hits ++ sortH pend = sortH all := by
    refine sortH_unique (((sortH_perm pend).append_left hits).trans hp) ?_
    refine List.pairwise_append.2 ⟨hs, sortH_pairwise pend, fun a ha b hb' => hb a ha b ((sortH_perm pend).mem_iff.1 hb')⟩
  rw [← e]
  rcases he with he | ⟨he, hl⟩
  · rw [← he, List.take_left']
    rfl
  · subst he
    have : sortH [] = [] := List.eq_nil_of_length_eq_zero (by rw [sortH_length]; rfl)
    rw [this, List.append_nil, List.take_of_length_le hl]

end Go.Proofs.YthimaoipogocfaaGreat
