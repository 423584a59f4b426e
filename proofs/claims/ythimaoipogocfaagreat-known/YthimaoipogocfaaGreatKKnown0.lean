import Derived.Test.YthimaoipogocfaaGreatKSeen
namespace Go.Proofs.YthimaoipogocfaaGreat
open Go.RowKit Go.Maps
attribute [local go_sem] run_store_f32 run_neg_inf

theorem mem_dropT {L : List Th} {t : Th} {id : Int} : t ∈ dropT L id ↔ t ∈ L ∧ t.id ≠ id := by simp [dropT]
theorem mem_putT {L : List Th} {s t : Th} : t ∈ putT L s ↔ (t ∈ L ∧ t.id ≠ s.id) ∨ t = s := by simp [putT, dropT]

/-- what was put last under its number is there -/
theorem plantL_last (ks : List Kt) (dx dy : Int) {i : Nat} {t : Kt} (hi : ks[i]? = some t) : ∀ m, i < m → m ≤ ks.length → (∀ j s, i < j → j < m → ks[j]? = some s → s.id ≠ t.id) → t.th dx dy ∈ plantL (ks.take m) dx dy := by
  intro m
  induction m with
  | zero => intro h; omega
  | succ m ih =>
    intro h1 h2 h3
    have hm : m < ks.length := by omega
    rw [List.take_succ_eq_append_getElem hm, plantL_snoc, mem_putT]
    by_cases e : m = i
    · subst e
      have e2 : ks[m] = t := by
        rw [List.getElem?_eq_getElem hm] at hi
        exact Option.some.inj hi
      exact .inr (by rw [e2])
    · refine .inl ⟨ih (by omega) (by omega) (fun j s a b c => h3 j s a (by omega) c), fun e3 => ?_⟩
      exact h3 m ks[m] (by omega) (by omega) (List.getElem?_eq_getElem hm) e3.symm

theorem plantL_has (ks : List Kt) (dx dy : Int) {i : Nat} {t : Kt} (hi : ks[i]? = some t) : ∀ m, i < m → m ≤ ks.length → ∃ s ∈ plantL (ks.take m) dx dy, s.id = t.id := by
  intro m
  induction m with
  | zero => intro h; omega
  | succ m ih =>
    intro h1 h2
    have hm : m < ks.length := by omega
    rw [List.take_succ_eq_append_getElem hm, plantL_snoc]
    by_cases e : (ks[m]).id = t.id
    · exact ⟨_, mem_putT.2 (.inr rfl), e⟩
    · have hne : m ≠ i := fun e2 => by
        subst e2
        rw [List.getElem?_eq_getElem hm] at hi
        exact e (by rw [Option.some.inj hi])
      obtain ⟨s, hs, hse⟩ := ih (by omega) (by omega)
      exact ⟨s, mem_putT.2 (.inl ⟨hs, fun e3 => e (by rw [← hse]; exact e3.symm)⟩), hse⟩

theorem Kt.id_lt (t : Kt) : t.id < 300 := (pickF_lt t.i 300 (by omega)).2

theorem take_min (ks : List Kt) : ks.take (min ks.length 300) = ks.take 300 := by
  by_cases h : ks.length ≤ 300
  · rw [Nat.min_eq_left h, List.take_of_length_le (Nat.le_refl _), List.take_of_length_le h]
  · rw [Nat.min_eq_right (by omega)]

theorem plantT_last (ks : List Kt) (dx dy : Int) {i : Nat} {t : Kt} (hi : ks[i]? = some t) (hlt : i < min ks.length 300) (h : ∀ j s, i < j → j < min ks.length 300 → ks[j]? = some s → s.id ≠ t.id) : t.th dx dy ∈ plantT ks dx dy := by
  have h1 := plantL_last ks dx dy hi (min ks.length 300) hlt (Nat.min_le_left _ _) h
  rw [take_min] at h1
  refine mem_putT.2 (.inl ⟨h1, fun e => ?_⟩)
  have := t.id_lt
  have e' : t.id = 4000 := e
  omega

theorem plantT_there (ks : List Kt) (dx dy : Int) {i : Nat} {t : Kt} (hi : ks[i]? = some t) (hlt : i < min ks.length 300) : ∃ s ∈ plantT ks dx dy, s.id = t.id := by
  obtain ⟨s, hs, e⟩ := plantL_has ks dx dy hi (min ks.length 300) hlt (Nat.min_le_left _ _)
  rw [take_min] at hs
  refine ⟨s, mem_putT.2 (.inl ⟨hs, fun e2 => ?_⟩), e⟩
  have := t.id_lt
  have e' : s.id = 4000 := e2
  omega

/-! ### Drop -/
def KDropPost (B q fan : Nat) (L : List Th) (lg : List Int) (c : Int) (w : World) (e : Ending) (w' : World) : Prop := e = .returned (.int .i64 c) ∧ KRep B w' q fan L lg ∧ ∃ F : List Nat, (∀ x ∈ F, B ≤ x) ∧ Mod F w w'

theorem kDrop_any {B : Nat} {w : World} {q fan : Nat} {L : List Th} {lg : List Int} (h : KRep B w q fan L lg) (hg : lg.length ≤ 10000000000) (hB : B ≤ w.heap.size) (id c : Int) (hc : ((∃ t ∈ L, t.id = id) ∧ c = 0) ∨ ((∀ t ∈ L, t.id ≠ id) ∧ c = 3)) :
    Calls Tryz.prog 16 #[.pointer (some ⟨q, 0, none⟩), .int .i64 id] w (KDropPost B q fan (dropT L id) (dropLT L lg id) c w) := by
  obtain ⟨ts, F, h1, rfl, h3, h4⟩ := h.out
  have hcode : (if (findG ts id).isSome then (0 : Int) else 3) = c := by
    cases hf : findG ts id with
    | some n =>
      obtain ⟨r, hr, hid, _⟩ := findG_get hf
      rcases hc with ⟨_, e⟩ | ⟨h, _⟩
      · rw [e]; rfl
      · exact absurd hid (h r.th (List.mem_map.2 ⟨r, List.mem_of_getElem? hr, rfl⟩))
    | none =>
      rcases hc with ⟨⟨t, ht, e⟩, _⟩ | ⟨_, e⟩
      · obtain ⟨s, hs, rfl⟩ := List.mem_map.1 ht
        exact absurd e (findG_none hf s hs)
      · rw [e]; rfl
  refine (hDrop_any h1 hg id).mono ?_
  rintro e w' ⟨rfl, F', b1, b2, b3⟩
  have hl : (dropG ts id).length ≤ ts.length := by
    have h := congrArg List.length (dropG_th h1.ids id)
    have h2 := List.length_filter_le (fun t : Th => t.id != id) (ts.map Tg.th)
    simp only [List.length_map] at h h2
    unfold dropT at h
    omega
  refine ⟨by rw [hcode], ⟨dropG ts id, F', dropLg_LT ts lg id ▸ b1, dropG_th h1.ids id, by omega, fun x hx => ?_⟩, F, h4, b3⟩
  rcases b2 x hx with hx | hx
  · exact h4 x hx
  · omega

end Go.Proofs.YthimaoipogocfaaGreat
