import Derived.Test.YthimaoipogocfaaGreatKKnown0
namespace Go.Proofs.YthimaoipogocfaaGreat
open Go.RowKit Go.Maps
attribute [local go_sem] run_store_f32 run_neg_inf

/-- a thing's five cells -/
abbrev Five (w : World) (b o : Nat) (t : Kt) : Prop := w.cell? ⟨b, o, none⟩ = some (.int .i64 t.i) ∧ w.cell? ⟨b, o + 1, none⟩ = some (.int .i64 t.x) ∧ w.cell? ⟨b, o + 2, none⟩ = some (.int .i64 t.y) ∧ w.cell? ⟨b, o + 3, none⟩ = some (.int .i64 t.w) ∧ w.cell? ⟨b, o + 4, none⟩ = some (.int .i64 t.h)
theorem KtAt.five {w : World} {b o : Nat} {t : Kt} (h : KtAt w b o t) : Five w b o t := ⟨h.c0, h.c1, h.c2, h.c3, h.c4⟩
theorem Five.mod {w w' : World} {b o : Nat} {t : Kt} (h : Five w b o t) (hm : Mod [] w w') : Five w' b o t := ⟨cell_mod hm h.1, cell_mod hm h.2.1, cell_mod hm h.2.2.1, cell_mod hm h.2.2.2.1, cell_mod hm h.2.2.2.2⟩

/-- none of the later ones has its number, up to here -/
structure LastIs (ks : List Kt) (i : Nat) (t : Kt) (k : Nat) (b : Bool) : Prop where
  out : b = true ↔ ∀ j s, i < j → j < k → ks[j]? = some s → s.id ≠ t.id

theorem LastIs.start (ks : List Kt) (i : Nat) (t : Kt) : LastIs ks i t (i + 1) true := ⟨⟨fun _ j s h1 h2 => by omega, fun _ => rfl⟩⟩
theorem LastIs.stay {ks : List Kt} {i : Nat} {t : Kt} {k : Nat} (h : LastIs ks i t k false) : LastIs ks i t (k + 1) false := by
  refine ⟨⟨fun e => (by cases e), fun h2 => ?_⟩⟩
  exact h.out.2 (fun j s a b => h2 j s a (by omega))
theorem LastIs.step {ks : List Kt} {i : Nat} {t : Kt} {k : Nat} {s : Kt} (h : LastIs ks i t k true) (hik : i < k) (hs : ks[k]? = some s) : LastIs ks i t (k + 1) (s.id != t.id) := by
  refine ⟨⟨fun e j u h1 h2 h3 => ?_, fun h2 => ?_⟩⟩
  · by_cases hj : j = k
    · subst hj
      rw [hs] at h3
      cases h3
      simpa using e
    · exact h.out.1 rfl j u h1 (by omega) h3
  · simpa using h2 k s hik (by omega) hs

/-- what Known's tree holds behind the two drops -/
theorem known_here {ks : List Kt} {i : Nat} {t : Kt} {g : Int} (hi : ks[i]? = some t) (hlt : i < min ks.length 300) (hl : LastIs ks i t (min ks.length 300) true) (hg : t.id ≠ g) : t.th 0 0 ∈ dropT (dropT (plantT ks 0 0) g) g := by
  have h1 := plantT_last ks 0 0 hi hlt (hl.out.1 rfl)
  exact mem_dropT.2 ⟨mem_dropT.2 ⟨h1, hg⟩, hg⟩

theorem known_gone {L : List Th} {g : Int} : ∀ t ∈ dropT L g, t.id ≠ g := fun _ ht => (mem_dropT.1 ht).2

theorem kseen_any {B : Nat} {w : World} {q fan : Nat} {ks : List Kt} {g : Int} {lg : List Int} (h : KRep B w q fan (dropT (dropT (plantT ks 0 0) g) g) lg) {i : Nat} {t : Kt} (hi : ks[i]? = some t) (hlt : i < min ks.length 300) (hl : LastIs ks i t (min ks.length 300) true) :
    Calls Tryz.prog 17 #[.pointer (some ⟨q, 0, none⟩), .int .i64 t.id, R4 (t.x0 0) (t.y0 0) (t.x1 0) (t.y1 0), .bool (t.id == g)] w (KBool true w) := by
  have h1 := pickF_lt t.x 2001 (by omega)
  have h2 := pickF_lt t.y 2001 (by omega)
  have h3 := pickF_lt t.w 60 (by omega)
  have h4 := pickF_lt t.h 60 (by omega)
  have hb : (-2000 ≤ t.x0 0 ∧ t.x0 0 ≤ t.x1 0 ∧ t.x1 0 ≤ 2000) ∧ (-2000 ≤ t.y0 0 ∧ t.y0 0 ≤ t.y1 0 ∧ t.y1 0 ≤ 2000) := by
    unfold Kt.x1 Kt.y1 Kt.x0 Kt.y0
    omega
  by_cases e : t.id = g
  · rw [show (t.id == g) = true from by simp [e]]
    exact seen_gone h t.id _ _ _ _ hb (by rw [e]; exact known_gone)
  · rw [show (t.id == g) = false from by simp [e]]
    exact seen_here h t.id _ _ _ _ hb (known_here hi hlt hl e)

end Go.Proofs.YthimaoipogocfaaGreat
