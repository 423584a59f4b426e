import Derived.Test.YthimaoipogocfaaGreatGKept
import Derived.Test.YthimaoipogocfaaGreatGHolds
namespace Go.Proofs.YthimaoipogocfaaGreat
open Go.RowKit Go.Maps
attribute [local go_sem] run_store_f32 run_neg_inf

def psCells (p : PS) : List Value := [.pointer (some ⟨p.px, 0, none⟩), .pointer (some ⟨p.py, 0, none⟩)]
def flatP (ps : List PS) : List Value := ps.flatMap psCells

theorem flatP_length (ps : List PS) : (flatP ps).length = ps.length * 2 := by
  induction ps with
  | nil => rfl
  | cons t L ih => simp only [flatP, List.flatMap_cons, List.length_append, List.length_cons] at ih ⊢; rw [ih]; simp [psCells]; omega

theorem flatP_get (L : List PS) (k : Nat) (t : PS) (h : L[k]? = some t) (j : Nat) (hj : j < 2) : (flatP L)[k * 2 + j]? = (psCells t)[j]? := by
  induction L generalizing k with
  | nil => simp at h
  | cons s L ih =>
    have e : flatP (s :: L) = psCells s ++ flatP L := rfl
    have hl : (psCells s).length = 2 := rfl
    rw [e]
    cases k with
    | zero =>
      simp at h
      subst h
      rw [List.getElem?_append_left (by omega)]
      congr 1
      omega
    | succ k =>
      simp at h
      rw [List.getElem?_append_right (by omega), hl, ← ih k h]
      congr 1
      omega

theorem psCells_one (p : PS) : ∀ u ∈ psCells p, u.oneCell' = true := by
  intro u hu
  simp [psCells] at hu
  rcases hu with rfl | rfl <;> rfl

/-- THE LAW's WORLD IN MEMORY, from block B on: pairs of trees that share nothing; the book, with at most N lists of a kind. -/
def WRep (B : Nat) (w : World) (pw : Nat) (ps : List PS) (N : Nat) : Prop :=
  ∃ lv bk Fb, w.heap[pw]? = some (T34 lv bk) ∧ B ≤ pw ∧ w.ownsRow B 102 2 lv ps.length (flatP ps) ∧ (∀ p ∈ ps, PairRep w p) ∧ (∀ p ∈ ps, ∀ x ∈ p.F, B ≤ x ∧ x ≠ pw ∧ x ∉ lv.ownBlock.toList ∧ x ∉ Fb) ∧
    (∀ (i j : Nat) (p q : PS), ps[i]? = some p → ps[j]? = some q → i ≠ j → ∀ x ∈ p.F, x ∉ q.F) ∧ BookRep B w bk N Fb ∧ ∀ x ∈ Fb, x ≠ pw ∧ x ∉ lv.ownBlock.toList

theorem WRep.kept {B : Nat} {w w' : World} {pw : Nat} {ps : List PS} {N : Nat} (h : WRep B w pw ps N) (hm : Mod [] w w') : WRep B w' pw ps N := by
  obtain ⟨lv, bk, Fb, h1, h2, h3, h4, h5, h6, h7, h8⟩ := h
  exact ⟨lv, bk, Fb, (hm.block pw (lt_of_block h1) (by simp)).trans h1, h2, owns_kept h3 hm (by simp), fun p hp => (h4 p hp).kept hm (by simp), h5, h6, h7.kept hm (by simp), h8⟩

theorem WRep.more {B : Nat} {w : World} {pw : Nat} {ps : List PS} {N M : Nat} (h : WRep B w pw ps N) (hN : N ≤ M) : WRep B w pw ps M := by
  obtain ⟨lv, bk, Fb, h1, h2, h3, h4, h5, h6, h7, h8⟩ := h
  exact ⟨lv, bk, Fb, h1, h2, h3, h4, h5, h6, h7.more hN, h8⟩

theorem lawKept {B : Nat} {w : World} {pw : Nat} {ps : List PS} {N : Nat} (h : WRep B w pw ps N) (hN : N ≤ 1000000000) : Calls Tryz.prog 31 #[.pointer (some ⟨pw, 1, none⟩)] w fun e w' => e = .returned (.bool true) ∧ Mod [] w w' := by
  obtain ⟨lv, bk, Fb, h1, h2, h3, h4, h5, h6, h7, h8⟩ := h
  exact kept_any h1 h7 hN

theorem info52 : (Tryz.prog.info? 102).map (fun i => (i.zero, i.size, i.bytes)) = some (some (.agg #[.pointer none, .pointer none]), 2, 16) := by kernel_rfl

def JoinPost (B pw : Nat) (ps : List PS) (N : Nat) (w : World) (e : Ending) (w' : World) : Prop := e = .returned (.bool true) ∧ WRep B w' pw ps N ∧ Below B w w'

set_option maxRecDepth 100000 in
set_option maxHeartbeats 1000000 in
theorem joined_none {B : Nat} {w : World} {pw : Nat} {ps : List PS} {N : Nat} (h : WRep B w pw ps N) (c : Int) :
    Calls Tryz.prog 51 #[.pointer (some ⟨pw, 0, none⟩), .pointer none, .int .i64 c, .pointer none, .int .i64 c] w (JoinPost B pw ps N w) := by
  go_enter Tryz.func51, Tryz.ntmps51
  go_wp2_with fail
  refine (num_any _ _).mono ?_
  rintro e w3 ⟨rfl, hw⟩
  obtain rfl := hw.symm
  go_wp2
  go_ret
  exact ⟨rfl, h, Below.refl _ _⟩

set_option maxRecDepth 100000 in
set_option maxHeartbeats 1000000 in
theorem joined_some {B : Nat} {w0 w : World} {pw : Nat} {ps : List PS} {N : Nat} (h : WRep B w0 pw ps N) (hm : Mod [] w0 w) (p : PS) (hp : PairRep w p) (hf : ∀ x ∈ p.F, w0.heap.size ≤ x) (hlen : ps.length ≤ 100000000) :
    Calls Tryz.prog 51 #[.pointer (some ⟨pw, 0, none⟩), .pointer (some ⟨p.px, 0, none⟩), .int .i64 0, .pointer (some ⟨p.py, 0, none⟩), .int .i64 0] w (JoinPost B pw (ps ++ [p]) N w) := by
  obtain ⟨i0, hi, hz0, hz1, hz2⟩ := info_partsB info52
  obtain ⟨lv, bk, Fb, h1', h2, h3', h4', h5, h6, h7', h8⟩ := h
  have hold : ∀ q ∈ ps, ∀ x ∈ q.F, x < w0.heap.size := fun q hq x hx => (h4' q hq).lt x hx
  have hlvlt : pw < w0.heap.size := lt_of_block h1'
  have hlv0 : ∀ k ∈ lv.ownBlock.toList, k < w0.heap.size := fun k hk => owns_lt h3' (by simpa using hk)
  have h1 := (hm.block pw hlvlt (by simp)).trans h1'
  have h3 := owns_kept h3' hm (by simp)
  have h4 : ∀ q ∈ ps, PairRep w q := fun q hq => (h4' q hq).kept hm (by simp)
  have h7 := h7'.kept hm (by simp)
  have hfb0 : ∀ x ∈ Fb, x < w0.heap.size := fun x hx => (h7'.bounds x hx).2
  clear h1' h3' h4' h7'
  have hz := hm.size
  have hc0 := cell_T34 h1
  have hm1 : Mod [] w (w.alloc (B52 p.px p.py)) := Mod.alloc _ _
  have h31 := owns_kept h3 hm1 (by simp)
  have hsrc : srcRow (w.alloc (B52 p.px p.py)) 2 (.slice (some ⟨w.heap.size, 0, none⟩) 1 1) 1 (psCells p) :=
    srcRow_of_owns (owns_allocB (w := w) (cur := #[.pointer (some ⟨p.px, 0, none⟩), .pointer (some ⟨p.py, 0, none⟩)]) (e := 102) (n := 1) (size := 2) rfl (by decide) (base := 0) (Nat.zero_le _)) (psCells_one p)
  have HSR := hideIt hsrc
  have HO := hideIt h31
  have hbB : B ≤ (w.alloc (B52 p.px p.py)).heap.size := by simp; omega
  clear hsrc h31
  go_enter Tryz.func51, Tryz.ntmps51
  go_wp2_with fail
  refine (num_any _ _).mono ?_
  rintro e w3 ⟨rfl, hw⟩
  obtain rfl := hw.symm
  go_wp2_with (at_builtin; go_must (refine wpList_append_rows _ rfl _ _ 61 rfl B 102 i0 (.agg #[.pointer none, .pointer none]) 2 16 Tryz.underlying61 hi hz0 hz1 hz2 rfl (by decide) _ ps.length (flatP ps) rfl HO.out _ 1 (psCells p) rfl HSR.out (by omega) (by unfold maxLen; omega) (by omega) hbB ?_))
  intro g c w2 ho2 hm2 hat2
  have hm2' : Mod lv.ownBlock.toList w w2 := (Mod.alloc _ _).trans hm2
  have hpwlv : pw ∉ lv.ownBlock.toList := owns_ne' h3 h1 (by decide)
  have h12 := (hm2'.block pw (lt_of_block h1) hpwlv).trans h1
  have hgpw : g ≠ pw := owns_ne ho2 h12 (by decide)
  have hms : Mod [pw] w2 (w2.setCell ⟨pw, 0, none⟩ (.slice (some ⟨g, 0, none⟩) (ps.length + 1) c)) := Mod.setCell _ _ _ (by simp)
  have hM : Mod (pw :: lv.ownBlock.toList) w (w2.setCell ⟨pw, 0, none⟩ (.slice (some ⟨g, 0, none⟩) (ps.length + 1) c)) :=
    (hm2'.mono (by intro x hx; simp [hx])).trans (hms.mono (by simp))
  have hg1 : g ∈ lv.ownBlock.toList ∨ g = w.heap.size + 1 := by
    rcases hat2 with h | h
    · exact .inl (by simp [h])
    · exact .inr h
  have hpnew : ∀ x ∈ p.F, x < w.heap.size := hp.lt
  have hfin : JoinPost B pw (ps ++ [p]) N w (.returned (.bool true)) (w2.setCell ⟨pw, 0, none⟩ (.slice (some ⟨g, 0, none⟩) (ps.length + 1) c)) := by
    have hnewout : ∀ x ∈ p.F, x ∉ pw :: lv.ownBlock.toList := fun x hx hx' => by
      have := hf x hx
      rcases List.mem_cons.1 hx' with e | e
      · omega
      · have := hlv0 x e; omega
    have holdout : ∀ q ∈ ps, ∀ x ∈ q.F, x ∉ pw :: lv.ownBlock.toList := fun q hq x hx hx' => by
      have := h5 q hq x hx
      rcases List.mem_cons.1 hx' with e | e
      · exact this.2.1 e
      · exact this.2.2.1 e
    refine ⟨rfl, ⟨_, bk, Fb, T34_set h12, h2, ?_, ?_, ?_, ?_, h7.kept hM (fun x hx hx' => ?_), fun x hx => ⟨(h8 x hx).1, ?_⟩⟩, ?_⟩
    · have := owns_kept ho2 hms (by simpa [Value.ownBlock] using hgpw)
      rw [show (ps ++ [p]).length = ps.length + 1 by simp, show flatP (ps ++ [p]) = catL (flatP ps) (psCells p) by simp [flatP, catL]]
      exact this
    · intro q hq
      rcases List.mem_append.1 hq with hq | hq
      · exact (h4 q hq).kept hM (holdout q hq)
      · simp only [List.mem_singleton] at hq
        subst hq
        exact hp.kept hM hnewout
    · intro q hq x hx
      rcases List.mem_append.1 hq with hq | hq
      · have h := h5 q hq x hx
        have h' := hold q hq x hx
        refine ⟨h.1, h.2.1, ?_, h.2.2.2⟩
        simp only [Value.ownBlock, Option.mem_toList, Option.some.injEq]
        rintro rfl
        rcases hg1 with e | e
        · exact h.2.2.1 e
        · omega
      · simp only [List.mem_singleton] at hq
        subst hq
        have h := hf x hx
        have h' := hpnew x hx
        refine ⟨by omega, by omega, ?_, fun hx' => by have := hfb0 x hx'; omega⟩
        simp only [Value.ownBlock, Option.mem_toList, Option.some.injEq]
        rintro rfl
        rcases hg1 with e | e
        · have := hlv0 _ e; omega
        · omega
    · intro i j a b hia hjb hij x hx hx'
      have hcase : ∀ (i : Nat) (a : PS), (ps ++ [p])[i]? = some a → (i < ps.length ∧ ps[i]? = some a) ∨ (i = ps.length ∧ a = p) := fun i a h => by
        by_cases hi : i < ps.length
        · rw [List.getElem?_append_left hi] at h
          exact .inl ⟨hi, h⟩
        · rw [List.getElem?_append_right (by omega)] at h
          have h0 : i - ps.length = 0 := by
            have := (List.getElem?_eq_some_iff.1 h).1
            simp at this
            omega
          rw [h0] at h
          simp at h
          exact .inr ⟨by omega, h.symm⟩
      rcases hcase i a hia with ⟨hi, ha⟩ | ⟨hi, rfl⟩
      · rcases hcase j b hjb with ⟨hj, hb⟩ | ⟨hj, rfl⟩
        · exact h6 i j a b ha hb hij x hx hx'
        · have h1 := hold a (List.mem_of_getElem? ha) x hx
          have h2 := hf x hx'
          omega
      · rcases hcase j b hjb with ⟨hj, hb⟩ | ⟨hj, rfl⟩
        · have h1 := hold b (List.mem_of_getElem? hb) x hx'
          have h2 := hf x hx
          omega
        · omega
    · have h := h8 x hx
      rcases List.mem_cons.1 hx' with e | e
      · exact h.1 e
      · exact h.2 e
    · have h := h8 x hx
      have h' := hfb0 x hx
      simp only [Value.ownBlock, Option.mem_toList, Option.some.injEq]
      rintro rfl
      rcases hg1 with e | e
      · exact h.2 e
      · omega
    · refine hM.below_of (by omega) (fun x hx => ?_)
      rcases List.mem_cons.1 hx with e | e
      · omega
      · exact (h3.lt x (by simpa using e)).1
  have HFIN := hideIt hfin
  have hc2 := cell_T34 h12
  have hf2 := frozen_of_block h12 0
  clear hfin hM hms hm2 hm2' ho2 HO HSR h1 h3 h4 h5 h6 h7 h8 hfb0 hc0 h12 hp hold hat2 hm hm1
  go_wp2
  go_ret
  exact HFIN.out

end Go.Proofs.YthimaoipogocfaaGreat
