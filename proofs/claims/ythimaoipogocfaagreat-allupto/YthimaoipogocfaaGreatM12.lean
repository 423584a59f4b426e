import Derived.Test.YthimaoipogocfaaGreatM11
import Derived.Deep.RegionHeld
import Derived.Test.YthimaoipogocfaaGreatRows
import Derived.ProofKit
import Derived.OpenShut
import Derived.ShutString
import Derived.ChangeOld
import Derived.JoinedCond
import Derived.Deep.Slices
namespace Go.Proofs.YthimaoipogocfaaGreat
open Go.RowKit Go.Maps
attribute [local go_sem] run_store_f32 run_neg_inf

/-- n: how many pairs there are behind the step; M: no log is longer -/
def StepPost (B pw n M K : Nat) (w : World) (e : Ending) (w' : World) : Prop :=
  e = .returned (.bool true) ∧ ∃ ps', WRep B w' pw ps' K ∧ Below B w w' ∧ ps'.length = n ∧ ∀ q ∈ ps', q.nl ≤ M

theorem step_box (w : World) (s : Stp) : Mod [] w (w.alloc (B40 s)) ∧ (w.alloc (B40 s)).heap[w.heap.size]? = some (B40 s) := ⟨Mod.alloc _ _, heap_alloc_new w _⟩

theorem fan_cases (a : Int) : fanB a = true ∨ fanB a = false := by cases fanB a <;> simp

set_option maxRecDepth 100000 in
set_option maxHeartbeats 1000000 in
theorem step_bad {B : Nat} {w : World} {pw : Nat} {ps : List PS} {K : Nat} (h : WRep B w pw ps K) (hB : B ≤ w.heap.size) (N : Nat) (hN : ∀ p ∈ ps, p.nl ≤ N) (s : Stp) (hk : (s.k == 1) = true) (hf : fanB s.a = false) :
    Calls Tryz.prog 30 #[.pointer (some ⟨pw, 0, none⟩), S10 s] w (StepPost B pw ps.length (N + 897) K w) := by
  obtain ⟨hm0, hb0⟩ := step_box w s
  have h0 := h.kept hm0
  have c2 : (w.alloc (B40 s)).cell? ⟨w.heap.size, 2, none⟩ = some (.int .i64 s.a) := cell_B40 hb0 2 _ rfl
  have HJ := hideIt (joined_none h0 1)
  clear hb0
  go_enter Tryz.func30, Tryz.ntmps30
  go_wp2_with fail
  refine (hNew_bad _ _ hf).mono ?_
  rintro e w1 ⟨rfl, rfl⟩
  go_wp2_with fail
  refine (refNew_bad _ _ hf).mono ?_
  rintro e w1 ⟨rfl, rfl⟩
  go_wp2_with fail
  refine HJ.out.mono ?_
  clear HJ c2
  rintro e w1 ⟨rfl, hw1, hb1⟩
  have hfin : StepPost B pw ps.length (N + 897) K w (.returned (.bool true)) w1 := ⟨rfl, ps, hw1, ((Mod.below_of hm0 hB (by simp)).trans hb1), rfl, fun q hq => by have := hN q hq; omega⟩
  clear hw1 hb1 h0 h
  go_wp2
  go_ret
  exact hfin

set_option maxRecDepth 100000 in
set_option maxHeartbeats 1000000 in
theorem step_good {B : Nat} {w : World} {pw : Nat} {ps : List PS} {K : Nat} (h : WRep B w pw ps K) (hB : B ≤ w.heap.size) (hlen : ps.length ≤ 100000000) (N : Nat) (hN : ∀ p ∈ ps, p.nl ≤ N) (s : Stp) (hk : (s.k == 1) = true) (hf : fanB s.a = true) :
    Calls Tryz.prog 30 #[.pointer (some ⟨pw, 0, none⟩), S10 s] w (StepPost B pw (ps.length + 1) (N + 897) K w) := by
  obtain ⟨hm0, hb0⟩ := step_box w s
  obtain ⟨f4, f16⟩ := fanB_iff.1 hf
  obtain ⟨fn, hfn⟩ := Int.eq_ofNat_of_zero_le (show 0 ≤ s.a by omega)
  have HN := hideIt (show ∀ W, Calls Tryz.prog 32 #[.int .i64 s.a] W (HNewPost fn W) from fun W => by rw [hfn]; exact hNew_good fn W (by omega) (by omega))
  have HRN := hideIt (show ∀ W, Calls Tryz.prog 50 #[.int .i64 s.a] W (RefNewPost fn W) from fun W => by rw [← hfn]; exact refNew_good _ W hf)
  have c20 : (w.alloc (B40 s)).cell? ⟨w.heap.size, 2, none⟩ = some (.int .i64 s.a) := cell_B40 hb0 2 _ rfl
  have HB0 := hideIt hb0
  clear hb0 hfn f4 f16
  go_enter Tryz.func30, Tryz.ntmps30
  go_wp2_with fail
  clear c20
  refine (HN.out _).mono ?_
  rintro e w1 ⟨qx, F1, rfl, hc1, hf1, hm1⟩
  have hb1 := (hm1.block _ (lt_of_block HB0.out) (by simp)).trans HB0.out
  have c2 : w1.cell? ⟨w.heap.size, 2, none⟩ = some (.int .i64 s.a) := cell_B40 hb1 2 _ rfl
  clear HN hb1
  go_wp2_with fail
  refine (HRN.out _).mono ?_
  rintro e w2 ⟨rfl, F2, hr2, hm2, hf2⟩
  have hz0 := hm0.size
  have hz1 : (w.alloc (B40 s)).heap.size ≤ w1.heap.size := hm1.size
  have hz2 := hm2.size
  have hp : PairRep w2 ⟨qx, w1.heap.size, fn, ⟨[], (rcHead fn).bytes []⟩, [], F1 ++ F2⟩ := by
    have hc1' : HAt w1 qx fn ⟨[], (rcHead fn).bytes []⟩ F1 := ⟨[], hc1, rfl⟩
    refine ⟨F1, F2, hc1'.kept hm2 (by simp), hr2, fun x hx hx' => ?_, rfl, ⟨List.Perm.refl _, by simp⟩⟩
    have h1 := hc1'.lt x hx
    have h2 := hf2 x hx'
    omega
  have HJ := hideIt (joined_some h (hm0.trans (hm1.trans hm2)) _ hp (fun x hx => by
    rcases List.mem_append.1 hx with hx | hx
    · have : (w.alloc (B40 s)).heap.size ≤ x := hf1 x hx
      omega
    · have := hf2 x hx; omega) hlen)
  clear hp hr2 hc1 c2 HRN hf1
  go_wp2_with fail
  refine HJ.out.mono ?_
  clear HJ
  rintro e w3 ⟨rfl, hw3, hb3⟩
  have hfin : StepPost B pw (ps.length + 1) (N + 897) K w (.returned (.bool true)) w3 := by
    refine ⟨rfl, _, hw3, ((Mod.below_of (hm0.trans (hm1.trans hm2)) hB (by simp)).trans hb3), by simp, fun q hq => ?_⟩
    rcases List.mem_append.1 hq with hq | hq
    · have := hN q hq; omega
    · simp at hq
      subst hq
      have := Rc.bytes_length (rcHead fn) []
      show ((rcHead fn).bytes []).length ≤ _
      omega
  clear hw3 hb3 hm0 hm1 hm2 h
  go_wp2
  go_ret
  exact hfin

/-- one pair of the list has been turned -/
theorem WRep.next {B : Nat} {w w' : World} {pw : Nat} {ps : List PS} {K : Nat} (h : WRep B w pw ps K) (hB : B ≤ w.heap.size) {k : Nat} {p q : PS} (hk : ps[k]? = some p) (hN : Next w p q w') : WRep B w' pw (ps.set k q) K ∧ Below B w w' := by
  obtain ⟨lv, bk, Fb, h1, h2, h3, h4, h5, h6, h7, h8⟩ := h
  have hpm : p ∈ ps := List.mem_of_getElem? hk
  have hlt := h5 p hpm
  have hkl : k < ps.length := (List.getElem?_eq_some_iff.1 hk).1
  have hlv : ∀ x, lv.ownBlock = some x → x < w.heap.size := fun x hx => owns_lt h3 hx
  have hpw := lt_of_block h1
  have hget : ∀ (i : Nat) (a : PS), (ps.set k q)[i]? = some a → (i = k ∧ a = q) ∨ (i ≠ k ∧ ps[i]? = some a) := fun i a ha => by
    rw [List.getElem?_set] at ha
    by_cases hik : k = i
    · subst hik
      simp [hkl] at ha
      exact .inl ⟨rfl, ha.symm⟩
    · rw [if_neg hik] at ha
      exact .inr ⟨fun e => hik e.symm, ha⟩
  have hold : ∀ (i : Nat) (a : PS), i ≠ k → ps[i]? = some a → ∀ x ∈ a.F, x ∉ q.F := fun i a hi ha x hx hx' => by
    rcases hN.foot x hx' with h | h
    · exact h6 i k a p ha hk hi x hx h
    · have := (h4 a (List.mem_of_getElem? ha)).lt x hx
      omega
  refine ⟨⟨lv, bk, Fb, ?_, h2, ?_, ?_, ?_, ?_, h7.kept hN.mod (fun x hx hx' => (hlt x hx').2.2.2 hx), h8⟩, hN.mod.below_of hB (fun x hx => (hlt x hx).1)⟩
  · exact (hN.mod.block pw hpw (fun hx => (hlt pw hx).2.1 rfl)).trans h1
  · rw [List.length_set]
    have e : flatP (ps.set k q) = flatP ps := by
      have hc : psCells q = psCells p := by simp [psCells, hN.px, hN.py]
      unfold flatP
      rw [List.flatMap_def, List.flatMap_def, List.map_set, hc]
      congr 1
      apply List.ext_getElem?
      intro i
      rw [List.getElem?_set]
      by_cases hik : k = i
      · subst hik
        simp [hkl, (List.getElem?_eq_some_iff.1 hk).2]
      · rw [if_neg hik]
    rw [e]
    exact owns_kept h3 hN.mod (fun x hx hx' => (hlt x hx').2.2.1 (by simp [hx]))
  · intro a ha
    obtain ⟨i, hi⟩ := List.getElem?_of_mem ha
    rcases hget i a hi with ⟨_, rfl⟩ | ⟨hik, hi⟩
    · exact hN.rep
    · exact (h4 a (List.mem_of_getElem? hi)).kept hN.mod (fun x hx hx' => h6 i k a p hi hk hik x hx hx')
  · intro a ha x hx
    obtain ⟨i, hi⟩ := List.getElem?_of_mem ha
    rcases hget i a hi with ⟨_, rfl⟩ | ⟨hik, hi⟩
    · rcases hN.foot x hx with h | h
      · exact hlt x h
      · refine ⟨by omega, by omega, fun hx' => ?_, fun hx' => ?_⟩
        · have := hlv x (by simpa using hx')
          omega
        · have := (h7.bounds x hx').2
          omega
    · exact h5 a (List.mem_of_getElem? hi) x hx
  · intro i j a b ha hb hij x hx hx'
    rcases hget i a ha with ⟨hi, e⟩ | ⟨hik, ha'⟩
    · rcases hget j b hb with ⟨hj, _⟩ | ⟨hjk, hb'⟩
      · omega
      · exact hold j b hjk hb' x hx' (e ▸ hx)
    · rcases hget j b hb with ⟨hj, e⟩ | ⟨hjk, hb'⟩
      · exact hold i a hik ha' x hx (e ▸ hx')
      · exact h6 i j a b ha' hb' hij x hx hx'

theorem pair_cells {w : World} {B g n c : Nat} {ps : List PS} (h : w.ownsRow B 102 2 (.slice (some ⟨g, 0, none⟩) n c) n (flatP ps)) {k : Nat} {p : PS} (hk : ps[k]? = some p) :
    w.cell? ⟨g, k * 2, none⟩ = some (.pointer (some ⟨p.px, 0, none⟩)) ∧ w.cell? ⟨g, k * 2 + 1, none⟩ = some (.pointer (some ⟨p.py, 0, none⟩)) :=
  ⟨owns_cell h _ _ (flatP_get ps k p hk 0 (by omega)), owns_cell h _ _ (flatP_get ps k p hk 1 (by omega))⟩

def ps0 : PS := ⟨0, 0, 0, ⟨[], []⟩, [], []⟩

theorem held_mod {pw g b n c : Nat} {e : Int} {ps : List PS} {w w' : World} (hm : Mod [] w w')
    (h : w.cell? ⟨pw, 0, none⟩ = some (.slice (some ⟨g, 0, none⟩) n c) ∧ w.cell? ⟨b, 1, none⟩ = some (.int .i64 e) ∧ ∀ k, k < n → w.cell? ⟨g, k * 2, none⟩ = some (.pointer (some ⟨(ps.getD k ps0).px, 0, none⟩)) ∧ w.cell? ⟨g, k * 2 + 1, none⟩ = some (.pointer (some ⟨(ps.getD k ps0).py, 0, none⟩))) :
    w'.cell? ⟨pw, 0, none⟩ = some (.slice (some ⟨g, 0, none⟩) n c) ∧ w'.cell? ⟨b, 1, none⟩ = some (.int .i64 e) ∧ ∀ k, k < n → w'.cell? ⟨g, k * 2, none⟩ = some (.pointer (some ⟨(ps.getD k ps0).px, 0, none⟩)) ∧ w'.cell? ⟨g, k * 2 + 1, none⟩ = some (.pointer (some ⟨(ps.getD k ps0).py, 0, none⟩)) :=
  ⟨cell_mod hm h.1, cell_mod hm h.2.1, fun k hk => ⟨cell_mod hm (h.2.2 k hk).1, cell_mod hm (h.2.2 k hk).2⟩⟩

set_option maxRecDepth 100000 in
set_option maxHeartbeats 1000000 in
theorem step_other {B : Nat} {w : World} {pw : Nat} {ps : List PS} {K : Nat} (h : WRep B w pw ps K) (hB : B ≤ w.heap.size) (hpos : 0 < ps.length) (hlen : ps.length ≤ 100000000) (N : Nat) (hN : ∀ p ∈ ps, p.nl ≤ N) (hNm : N ≤ 99999000) (s : Stp) (hs : s.ok) (hk : s.k ≤ 6) (hk1 : (s.k == 1) = false) :
    Calls Tryz.prog 30 #[.pointer (some ⟨pw, 0, none⟩), S10 s] w (StepPost B pw ps.length (N + adds s.k) K w) := by
  obtain ⟨hm0, hb0⟩ := step_box w s
  have h0 := h.kept hm0
  have c0 : (w.alloc (B40 s)).cell? ⟨w.heap.size, 0, none⟩ = some (.int .i64 s.k) := cell_B40 hb0 0 _ rfl
  have c1 : (w.alloc (B40 s)).cell? ⟨w.heap.size, 1, none⟩ = some (.int .i64 s.e) := cell_B40 hb0 1 _ rfl
  obtain ⟨lv, bk, Fb, h1, h2, h3, h4, h5, h6, h7, h8⟩ := h0
  have hform : ∃ g c, lv = .slice (some ⟨g, 0, none⟩) ps.length c := by
    rcases h3.2 with ⟨_, hz⟩ | ⟨g, c, cur, rfl, hrest⟩
    · omega
    · exact ⟨_, _, rfl⟩
  obtain ⟨g, c, rfl⟩ := hform
  have cl := cell_T34 h1
  have hrow : ∀ k, k < ps.length → (w.alloc (B40 s)).cell? ⟨g, k * 2, none⟩ = some (.pointer (some ⟨(ps.getD k ps0).px, 0, none⟩)) ∧ (w.alloc (B40 s)).cell? ⟨g, k * 2 + 1, none⟩ = some (.pointer (some ⟨(ps.getD k ps0).py, 0, none⟩)) := fun k hk => by
    have := pair_cells h3 (List.getElem?_eq_getElem hk)
    rw [show ps.getD k ps0 = ps[k] by simp [List.getD, hk]]
    exact this
  have hse := hs.e
  unfold i64ok at hse
  go_enter Tryz.func30, Tryz.ntmps30
  go_wp2_with fail
  generalize hW : w.alloc (B40 s) = w1 at *
  have hk13 : (s.k == 13) = false := beq_eq_false_iff_ne.2 (by omega)
  go_region_held (fun w' => w'.cell? ⟨pw, 0, none⟩ = some (.slice (some ⟨g, 0, none⟩) ps.length c) ∧ w'.cell? ⟨w.heap.size, 1, none⟩ = some (.int .i64 s.e) ∧ ∀ k, k < ps.length → w'.cell? ⟨g, k * 2, none⟩ = some (.pointer (some ⟨(ps.getD k ps0).px, 0, none⟩)) ∧ w'.cell? ⟨g, k * 2 + 1, none⟩ = some (.pointer (some ⟨(ps.getD k ps0).py, 0, none⟩))) ((first | exact ⟨cl, c1, hrow⟩ | exact held_mod ((Mod.alloc _ _).trans (Mod.drew _)) ⟨cl, c1, hrow⟩))
    ((go_at_call 53; refine (lpick_any _ _ _ hse.1 hse.2 ?_ ?_).mono ?_; (omega); (omega); rintro e w' ⟨K, rfl, hK0, hK1, rfl⟩; obtain ⟨k, rfl⟩ := Int.eq_ofNat_of_zero_le hK0; have hkl : k < ps.length := by omega))
  all_goals
    rename_i hheld
    clear hheld hrow cl c0 c1 h1 h2 h3 h4 h5 h6 h7 h8 hW hK0 hK1 hse
    have hkp : ps[k]? = some ps[k] := List.getElem?_eq_getElem hkl
    have hpm : ps[k] ∈ ps := List.getElem_mem hkl
    have hNk := hN _ hpm
    generalize ps[k] = p at *
    have hmd : Mod [] w1 ((w1.alloc (B52 p.px p.py)).drew) := (Mod.alloc _ _).trans (Mod.drew _)
    have hm2 := hm0.trans hmd
    have hW2 := h.kept hm2
    have hP2 : PairRep ((w1.alloc (B52 p.px p.py)).drew) p := by
      obtain ⟨lv, _, _, _, _, _, h4, _⟩ := hW2
      exact h4 p hpm
    have hb2 := (hmd.block _ (lt_of_block hb0) (by simp)).trans hb0
    have hb3 : ((w1.alloc (B52 p.px p.py)).drew).heap[w1.heap.size]? = some (B52 p.px p.py) := heap_alloc_new w1 _
    obtain ⟨e0, e1⟩ := cell_B52 hb3
    have hB2 : B ≤ ((w1.alloc (B52 p.px p.py)).drew).heap.size := Nat.le_trans hB hm2.size
    have HH := hideIt (lholds_any hP2 (by omega) s hs (.pointer (some ⟨pw, 0, none⟩)))
    have hbel := hm2.below_of hB (by simp)
    generalize (w1.alloc (B52 p.px p.py)).drew = w2 at *
    have d0 : w2.cell? ⟨w.heap.size, 0, none⟩ = some (.int .i64 s.k) := cell_B40 hb2 0 _ rfl
    have d1 : w2.cell? ⟨w.heap.size, 1, none⟩ = some (.int .i64 s.e) := cell_B40 hb2 1 _ rfl
    have d2 : w2.cell? ⟨w.heap.size, 2, none⟩ = some (.int .i64 s.a) := cell_B40 hb2 2 _ rfl
    have d3 : w2.cell? ⟨w.heap.size, 3, none⟩ = some (.int .i64 s.b) := cell_B40 hb2 3 _ rfl
    have d4 : w2.cell? ⟨w.heap.size, 4, none⟩ = some (.int .i64 s.c) := cell_B40 hb2 4 _ rfl
    have d5 : w2.cell? ⟨w.heap.size, 5, none⟩ = some (.int .i64 s.x0) := cell_B40 hb2 5 _ rfl
    have d6 : w2.cell? ⟨w.heap.size, 6, none⟩ = some (.int .i64 s.y0) := cell_B40 hb2 6 _ rfl
    have d7 : w2.cell? ⟨w.heap.size, 7, none⟩ = some (.int .i64 s.x1) := cell_B40 hb2 7 _ rfl
    have d8 : w2.cell? ⟨w.heap.size, 8, none⟩ = some (.int .i64 s.y1) := cell_B40 hb2 8 _ rfl
    have d9 : w2.cell? ⟨w.heap.size, 9, none⟩ = some s.j := cell_B40 hb2 9 _ rfl
    have hfin : ∀ w3 q, Next w2 p q w3 → q.nl ≤ p.nl + adds s.k → StepPost B pw ps.length (N + adds s.k) K w (.returned (.bool true)) w3 := fun w3 q hn hq => by
      obtain ⟨hw3, hb3⟩ := hW2.next hB2 hkp hn
      refine ⟨rfl, _, hw3, hbel.trans hb3, by simp, fun r hr => ?_⟩
      rcases List.mem_or_eq_of_mem_set hr with hr | rfl
      · have := hN r hr; omega
      · omega
    have hstill : StepPost B pw ps.length (N + adds s.k) K w (.returned (.bool true)) w2 := hfin w2 p (Next.refl hP2) (by omega)
    have HFIN := hideIt hfin
    have HST := hideIt hstill
    clear hfin hstill hP2 hW2 hm2 hmd hm0 hb0 hb2 hb3 hbel h hN hpm hkp
    have hcase : (s.k == 2) = true ∨ ((s.k == 2) = false ∧ (s.k == 3) = true) ∨ ((s.k == 2) = false ∧ (s.k == 3) = false ∧ (s.k == 4) = true) ∨ ((s.k == 2) = false ∧ (s.k == 3) = false ∧ (s.k == 4) = false ∧ (s.k == 5) = true) ∨ ((s.k == 2) = false ∧ (s.k == 3) = false ∧ (s.k == 4) = false ∧ (s.k == 5) = false ∧ (s.k == 6) = true) ∨ ((s.k == 2) = false ∧ (s.k == 3) = false ∧ (s.k == 4) = false ∧ (s.k == 5) = false ∧ (s.k == 6) = false) := by
      cases (s.k == 2) <;> cases (s.k == 3) <;> cases (s.k == 4) <;> cases (s.k == 5) <;> cases (s.k == 6) <;> simp
    rcases hcase with q2 | ⟨q2, q3⟩ | ⟨q2, q3, q4⟩ | ⟨q2, q3, q4, q5⟩ | ⟨q2, q3, q4, q5, q6⟩ | ⟨q2, q3, q4, q5, q6⟩
    · go_wp2_with fail
      refine HH.out.mono ?_
      rintro e w3 ⟨rfl, q, hn, hq⟩
      have hf := hideIt (HFIN.out w3 q hn hq)
      clear HFIN HST HH hn hq d0 d1 d2 d3 d4 d5 d6 d7 d8 d9 e0 e1
      go_wp2
      go_ret
      exact hf.out
    · go_wp2_with fail
      refine HH.out.mono ?_
      rintro e w3 ⟨rfl, q, hn, hq⟩
      have hf := hideIt (HFIN.out w3 q hn hq)
      clear HFIN HST HH hn hq d0 d1 d2 d3 d4 d5 d6 d7 d8 d9 e0 e1
      go_wp2
      go_ret
      exact hf.out
    · go_wp2_with fail
      refine HH.out.mono ?_
      rintro e w3 ⟨rfl, q, hn, hq⟩
      have hf := hideIt (HFIN.out w3 q hn hq)
      clear HFIN HST HH hn hq d0 d1 d2 d3 d4 d5 d6 d7 d8 d9 e0 e1
      go_wp2
      go_ret
      exact hf.out
    · go_wp2_with fail
      refine HH.out.mono ?_
      rintro e w3 ⟨rfl, q, hn, hq⟩
      have hf := hideIt (HFIN.out w3 q hn hq)
      clear HFIN HST HH hn hq d0 d1 d2 d3 d4 d5 d6 d7 d8 d9 e0 e1
      go_wp2
      go_ret
      exact hf.out
    · go_wp2_with fail
      refine HH.out.mono ?_
      rintro e w3 ⟨rfl, q, hn, hq⟩
      have hf := hideIt (HFIN.out w3 q hn hq)
      clear HFIN HST HH hn hq d0 d1 d2 d3 d4 d5 d6 d7 d8 d9 e0 e1
      go_wp2
      go_ret
      exact hf.out
    · have q7 : (s.k == 7) = false := beq_eq_false_iff_ne.2 (by omega)
      have q8 : (s.k == 8) = false := beq_eq_false_iff_ne.2 (by omega)
      have q9 : (s.k == 9) = false := beq_eq_false_iff_ne.2 (by omega)
      have q10 : (s.k == 10) = false := beq_eq_false_iff_ne.2 (by omega)
      have q11 : (s.k == 11) = false := beq_eq_false_iff_ne.2 (by omega)
      have q12 : (s.k == 12) = false := beq_eq_false_iff_ne.2 (by omega)
      have q14 : (s.k == 14) = false := beq_eq_false_iff_ne.2 (by omega)
      clear HH HFIN
      go_wp2
      go_ret
      exact HST.out

def StepAny (B pw n M K : Nat) (w : World) (e : Ending) (w' : World) : Prop :=
  e = .returned (.bool true) ∧ ∃ ps', WRep B w' pw ps' K ∧ Below B w w' ∧ n ≤ ps'.length ∧ ps'.length ≤ n + 1 ∧ ∀ q ∈ ps', q.nl ≤ M

theorem step_six {B : Nat} {w : World} {pw : Nat} {ps : List PS} {K : Nat} (h : WRep B w pw ps K) (hB : B ≤ w.heap.size) (hlen : ps.length ≤ 100000000) (N : Nat) (hN : ∀ p ∈ ps, p.nl ≤ N) (hNm : N ≤ 99999000) (s : Stp) (hs : s.ok) (hk : s.k ≤ 6) (hpos : 0 < ps.length) :
    Calls Tryz.prog 30 #[.pointer (some ⟨pw, 0, none⟩), S10 s] w (StepAny B pw ps.length (N + 897) K w) := by
  cases hk1 : (s.k == 1) with
  | true =>
    rcases fan_cases s.a with hf | hf
    · refine (step_good h hB hlen N hN s hk1 hf).mono ?_
      rintro e w' ⟨rfl, ps', a, b, c, d⟩
      exact ⟨rfl, ps', a, b, by omega, by omega, d⟩
    · refine (step_bad h hB N hN s hk1 hf).mono ?_
      rintro e w' ⟨rfl, ps', a, b, c, d⟩
      exact ⟨rfl, ps', a, b, by omega, by omega, d⟩
  | false =>
    refine (step_other h hB hpos hlen N hN hNm s hs hk hk1).mono ?_
    rintro e w' ⟨rfl, ps', a, b, c, d⟩
    refine ⟨rfl, ps', a, b, by omega, by omega, fun q hq => ?_⟩
    have := d q hq
    have := adds_le s.k
    omega

end Go.Proofs.YthimaoipogocfaaGreat

namespace Go.Proofs.YthimaoipogocfaaGreat
open Go.RowKit Go.Maps
attribute [local go_sem] run_store_f32 run_neg_inf

def PlaysPost (w : World) (e : Ending) (w' : World) : Prop := e = .returned (.bool true) ∧ Below w.heap.size w w'

abbrev T34n : Obj := .cells #[.slice none 0 0, .slice none 0 0, .slice none 0 0, .slice none 0 0, .slice none 0 0, .slice none 0 0, .slice none 0 0] 68 (0, 0)
theorem WRep.start (w : World) : WRep w.heap.size (w.alloc (T34n)) w.heap.size [] 0 := by
  refine ⟨.slice none 0 0, bk0, [], heap_alloc_new w _, Nat.le_refl _, World.ownsRow_nil _ _ _ _, ?_, ?_, ?_, BookRep.empty _ _ _, by simp⟩
  · intro p hp; cases hp
  · intro p hp; cases hp
  · intro i j p q h; simp at h

theorem WRep.block {B : Nat} {w : World} {pw : Nat} {ps : List PS} {K : Nat} (h : WRep B w pw ps K) : ∃ g c bk, w.heap[pw]? = some (T34 (.slice g ps.length c) bk) := by
  obtain ⟨lv, bk, Fb, h1, h2, h3, _⟩ := h
  rcases h3.2 with ⟨rfl, hz⟩ | ⟨g, c, cur, rfl, _⟩
  · exact ⟨none, 0, bk, by rw [hz]; exact h1⟩
  · exact ⟨_, _, bk, h1⟩

/-- what steps up to the first k may add -/
def tot (cost : Nat → Nat) : Nat → Nat
  | 0 => 0
  | k + 1 => tot cost k + cost k
theorem tot_mono (cost : Nat → Nat) {k n : Nat} (h : k ≤ n) : tot cost k ≤ tot cost n := by
  induction n with
  | zero => have : k = 0 := by omega
            subst this; exact Nat.le_refl _
  | succ n ih =>
    by_cases e : k = n + 1
    · subst e; exact Nat.le_refl _
    · exact Nat.le_trans (ih (by omega)) (Nat.le_add_right _ _)

/-- a step of the kinds up to last is as the document says -/
def StepsTo (last : Int) (C : World → Stp → Nat → Prop) : Prop :=
  ∀ (B : Nat) (w : World) (pw : Nat) (ps : List PS) (K : Nat), WRep B w pw ps K → B ≤ w.heap.size → ps.length ≤ 100000000 → ∀ N, (∀ p ∈ ps, p.nl ≤ N) → N ≤ 99998000 → K ≤ 100000000 → ∀ s : Stp, s.ok → ∀ j, C w s j → N + j ≤ 99998000 → s.k ≤ last → 0 < ps.length →
    Calls Tryz.prog 30 #[.pointer (some ⟨pw, 0, none⟩), S10 s] w (StepAny B pw ps.length (N + (897 + j)) (K + 4) w)

def lawNil : Value := .slice none 0 0
abbrev lawNew : Stp := ⟨1, 0, 4, 0, 0, 0, 0, 0, 0, .slice none 0 0⟩
abbrev lawPut1 : Stp := ⟨2, 0, 1, 0, 0, 0, 0, 10, 10, .slice none 0 0⟩
abbrev lawPut2 : Stp := ⟨2, 0, 2, 0, 0, 10, 10, 20, 20, .slice none 0 0⟩
abbrev lawPut3 : Stp := ⟨2, 0, 3, 0, 0, 11, 0, 11, 9, .slice none 0 0⟩

theorem ok_new : lawNew.ok := by constructor <;> exact ⟨by decide, by decide⟩
theorem ok_put1 : lawPut1.ok := by constructor <;> exact ⟨by decide, by decide⟩
theorem ok_put2 : lawPut2.ok := by constructor <;> exact ⟨by decide, by decide⟩
theorem ok_put3 : lawPut3.ok := by constructor <;> exact ⟨by decide, by decide⟩

/-- the ten cells of a step, at an offset of a block -/
structure StpAt (w : World) (b o : Nat) (s : Stp) : Prop where
  c0 : w.cell? ⟨b, o, none⟩ = some (.int .i64 s.k)
  c1 : w.cell? ⟨b, o + 1, none⟩ = some (.int .i64 s.e)
  c2 : w.cell? ⟨b, o + 2, none⟩ = some (.int .i64 s.a)
  c3 : w.cell? ⟨b, o + 3, none⟩ = some (.int .i64 s.b)
  c4 : w.cell? ⟨b, o + 4, none⟩ = some (.int .i64 s.c)
  c5 : w.cell? ⟨b, o + 5, none⟩ = some (.int .i64 s.x0)
  c6 : w.cell? ⟨b, o + 6, none⟩ = some (.int .i64 s.y0)
  c7 : w.cell? ⟨b, o + 7, none⟩ = some (.int .i64 s.x1)
  c8 : w.cell? ⟨b, o + 8, none⟩ = some (.int .i64 s.y1)
  c9 : w.cell? ⟨b, o + 9, none⟩ = some s.j

theorem StpAt.kept {w w' : World} {b o : Nat} {s : Stp} (h : StpAt w b o s) (hb : Below w.heap.size w w') : StpAt w' b o s := by
  have hm := Mod.of_below hb
  exact ⟨cell_mod hm h.c0, cell_mod hm h.c1, cell_mod hm h.c2, cell_mod hm h.c3, cell_mod hm h.c4, cell_mod hm h.c5, cell_mod hm h.c6, cell_mod hm h.c7, cell_mod hm h.c8, cell_mod hm h.c9⟩

set_option maxRecDepth 100000 in
set_option maxHeartbeats 2000000 in
theorem plays_any (last : Int) {C : World → Stp → Nat → Prop} (hC : ∀ w w' s j, C w s j → Mod [] w w' → C w' s j) (hstep : StepsTo last C) (a : Option Addr) (n c : Nat) (cost : Nat → Nat) (w : World) (hn : n ≤ 87381) (hcost : tot cost n ≤ 1048576)
    (hsc : ∀ i, i < n → ∃ b off, a = some ⟨b, off, none⟩ ∧ ∃ s : Stp, s.ok ∧ StpAt w b (off + i * 10) s ∧ C w s (cost i)) :
    Calls Tryz.prog 12 #[.slice a n c, .int .i64 last] w (PlaysPost w) := by
  have HSC := hideIt hsc
  have HC := hideIt hC
  have HSTEP := hideIt hstep
  have HCOST := hideIt hcost
  clear hsc hC hstep hcost
  have hW0 := WRep.start w
  have hb0 : Below w.heap.size w (w.alloc (T34n)) := (Below.refl _ _).alloc (Nat.le_refl _) _
  have hz0 : w.heap.size ≤ (w.alloc (T34n)).heap.size := by simp
  go_enter Tryz.func12, Tryz.ntmps12
  go_wp2_with fail
  generalize w.alloc (T34n) = w0 at *
  have h1 := step_good hW0 hz0 (by simp) 0 (by simp) lawNew rfl rfl
  refine h1.mono ?_
  clear h1
  rintro e w1 ⟨rfl, ps1, hw1, hb1, hl1, hn1⟩
  obtain ⟨g1, d1, bk1, hT1⟩ := hw1.block
  have cT := cell_T34 hT1
  simp only [List.length_nil, Nat.zero_add] at hl1
  have hz1 : w.heap.size ≤ w1.heap.size := Nat.le_trans hz0 hb1.size
  have hB1 := hb0.trans hb1
  rw [hl1] at cT
  go_wp2_with fail
  have h2 := step_other hw1 hz1 (by omega) (by omega) 897 (fun q hq => by have := hn1 q hq; omega) (by omega) lawPut1 ok_put1 (by decide) rfl
  refine h2.mono ?_
  clear h2 cT hT1
  rintro e w2 ⟨rfl, ps2, hw2, hb2, hl2, hn2⟩
  have hz2 : w.heap.size ≤ w2.heap.size := Nat.le_trans hz1 hb2.size
  have hB2 := hB1.trans hb2
  go_wp2_with fail
  have h3 := step_other hw2 hz2 (by omega) (by omega) 1794 (fun q hq => by have := hn2 q hq; have := adds_le 2; omega) (by omega) lawPut2 ok_put2 (by decide) rfl
  refine h3.mono ?_
  clear h3
  rintro e w3 ⟨rfl, ps3, hw3, hb3, hl3, hn3⟩
  have hz3 : w.heap.size ≤ w3.heap.size := Nat.le_trans hz2 hb3.size
  have hB3 := hB2.trans hb3
  go_wp2_with fail
  have h4 := step_other hw3 hz3 (by omega) (by omega) 2691 (fun q hq => by have := hn3 q hq; have := adds_le 2; omega) (by omega) lawPut3 ok_put3 (by decide) rfl
  refine h4.mono ?_
  clear h4
  rintro e w4 ⟨rfl, ps4, hw4, hb4, hl4, hn4⟩
  have hz4 : w.heap.size ≤ w4.heap.size := Nat.le_trans hz3 hb4.size
  have hB4 := hB3.trans hb4
  go_wp2_with fail
  have hL4 : ps4.length = 1 := by omega
  have hN4 : ∀ q ∈ ps4, q.nl ≤ 3588 := fun q hq => by have := hn4 q hq; have := adds_le 2; omega
  clear hw1 hw2 hw3 hb1 hb2 hb3 hb4 hB1 hB2 hB3 hb0 hW0 hn1 hn2 hn3 hn4 hz0 hz1 hz2 hz3 hl1 hl2 hl3 hl4
  go_loopw [6, 10] (fun ok i wr => ok = .bool true ∧ ∃ k : Nat, k ≤ n ∧ i = .int .i64 k ∧ ∃ ps, WRep w.heap.size wr w.heap.size ps (4 * k) ∧ Below w.heap.size w wr ∧ 0 < ps.length ∧ ps.length ≤ 1 + k ∧ ∀ q ∈ ps, q.nl ≤ 3588 + 897 * k + tot cost k) (fun _ i _ => n - (intOf i).toNat)
  case atStart => exact ⟨rfl, 0, Nat.zero_le _, rfl, ps4, hw4, hB4, by omega, by omega, fun q hq => by have := hN4 q hq; omega⟩
  case round =>
    clear hw4 hB4 hL4 hN4 hz4
    obtain ⟨rfl, k, hk, rfl, ps, hw, hB, hp0, hp1, hpn⟩ := hrel
    by_cases hlt : k < n
    · obtain ⟨b, off, rfl, s, hs, hat, hCs⟩ := HSC.out k hlt
      have hCs := HC.out _ _ _ _ hCs (Mod.of_below hB)
      obtain ⟨a0, a1, a2, a3, a4, a5, a6, a7, a8, a9⟩ := hat.kept hB
      clear hat
      have hki : (k : Int) < (n : Int) := by omega
      have ht1 := tot_mono cost (show k + 1 ≤ n by omega)
      have ht2 : tot cost (k + 1) = tot cost k + cost k := rfl
      have ht3 := HCOST.out
      have hck : 3588 + 897 * k + tot cost k + cost k ≤ 99998000 := by omega
      have hnk : 3588 + 897 * k + tot cost k ≤ 99998000 := by omega
      have HST := hideIt (fun hk6 => HSTEP.out _ _ _ _ _ hw hB.size (by omega) (3588 + 897 * k + tot cost k) hpn hnk (by omega) s hs (cost k) hCs hck hk6 hp0)
      have HT2 := hideIt ht2
      have HW := hideIt hw
      have HB := hideIt hB
      have HPN := hideIt hpn
      clear ht1 ht2 ht3 hck hnk hCs hw hB hpn
      by_cases hk6 : s.k ≤ last
      · have hk6' : ¬ (last < s.k) := by omega
        go_wp2_with fail
        refine (HST.out hk6).mono ?_
        clear HST a0 a1 a2 a3 a4 a5 a6 a7 a8 a9 HPN
        rintro e w5 ⟨rfl, ps5, hw5, hb5, hl5, hl5', hn5⟩
        have hB5 := HB.out.trans hb5
        have HK := hideIt (lawKept hw5 (by omega))
        have HW5 := hideIt hw5
        have HB5 := hideIt hB5
        have HN5 := hideIt hn5
        clear HW HB hw5 hb5 hB5 hn5
        go_wp2_with fail
        refine HK.out.mono ?_
        rintro e w6 ⟨rfl, hm6⟩
        have HW6 := hideIt (HW5.out.kept hm6)
        have HB6 := hideIt (HB5.out.trans (hm6.below_of HB5.out.size (by simp)))
        clear HK hm6 HW5 HB5
        go_wp2_with fail
        go_roundw
        case rel => exact ⟨rfl, k + 1, by omega, by go_num, ps5, HW6.out, HB6.out, by omega, by omega, fun q hq => by have := HN5.out q hq; have := HT2.out; omega⟩
        case measure => simp [intOf]; omega
      · have hk6' : last < s.k := by omega
        clear a1 a2 a3 a4 a5 a6 a7 a8 a9 HST
        go_wp2_with fail
        go_roundw
        case rel => exact ⟨rfl, k + 1, by omega, by go_num, ps, HW.out.more (by omega), HB.out, by omega, by omega, fun q hq => by have := HPN.out q hq; have := HT2.out; omega⟩
        case measure => simp [intOf]; omega
    · go_wp2_with fail
      have hcst := HCOST.out
      have htk : tot cost k ≤ tot cost n := tot_mono cost hk
      clear HSC HC HSTEP HCOST
      have hpm : ps.length ≤ 87382 := by omega
      have hpN : ∀ q ∈ ps, q.nl ≤ 99999000 := fun q hq => by have := hpn q hq; omega
      have h4k : 4 * k ≤ 1000000000 := by omega
      clear hpn hp1 hlt hk hcst htk
      generalize 4 * k = K at *
      obtain ⟨m, hm⟩ : ∃ m, m = ps.length := ⟨_, rfl⟩
      go_loopw [6, 12] (fun ok i wr => ok = .bool true ∧ ∃ k : Nat, k ≤ m ∧ i = .int .i64 k ∧ ∃ ps, WRep w.heap.size wr w.heap.size ps K ∧ Below w.heap.size w wr ∧ ps.length = m ∧ ∀ q ∈ ps, q.nl ≤ 99999000) (fun _ i _ => m - (intOf i).toNat)
      case atStart => exact ⟨rfl, 0, Nat.zero_le _, rfl, ps, hw, hB, hm.symm, hpN⟩
      case round =>
        have hmm : m ≤ 87382 := by omega
        clear hw hB hp0 hpN hm hpm
        obtain ⟨rfl, k2, hk2, rfl, qs, hw, hB, hl, hN⟩ := hrel
        obtain ⟨g7, d7, bk7, hT⟩ := hw.block
        rw [hl] at hT
        have cT := cell_T34 hT
        have hz := hB.size
        by_cases hlt2 : k2 < m
        · have hki2 : (k2 : Int) < (m : Int) := by omega
          have hst := step_other hw hz (by omega) (by omega) 99999000 hN (by omega) ⟨5, k2, 0, 0, 0, 0, 0, 0, 0, .slice none 0 0⟩ (by constructor <;> (unfold i64ok; simp only; omega)) (by show (5 : Int) ≤ 6; decide) rfl
          have HS := hideIt hst
          clear hst hT
          go_wp2_with fail
          refine HS.out.mono ?_
          clear HS cT hw hN
          rintro e w7 ⟨rfl, qs7, hw7, hb7, hl7, hn7⟩
          have hB7 := hB.trans hb7
          have hn7' : ∀ q ∈ qs7, q.nl ≤ 99999000 := fun q hq => by have := hn7 q hq; rw [show adds (5 : Int) = 0 by decide] at this; omega
          clear hB hb7 hn7
          obtain ⟨wo, hwo⟩ : ∃ wo : World, wo = wr := ⟨_, rfl⟩
          clear hwo
          go_wp2_with fail
          go_loopw [6, 13] (fun ok i wr => ok = .bool true ∧ ∃ k : Nat, k ≤ 8 ∧ i = .int .i64 k ∧ ∃ ps, WRep w.heap.size wr w.heap.size ps K ∧ Below w.heap.size w wr ∧ ps.length = m ∧ ∀ q ∈ ps, q.nl ≤ 99999000) (fun _ i _ => 8 - (intOf i).toNat)
          case atStart => exact ⟨rfl, 0, by omega, rfl, qs7, hw7, hB7, by omega, hn7'⟩
          case round =>
            clear hw7 hB7 hn7' hl7
            obtain ⟨rfl, j, hj, rfl, rs, hw, hB, hl', hN⟩ := hrel
            have hz' := hB.size
            by_cases hj8 : j < 8
            · have hst := step_other hw hz' (by omega) (by omega) 99999000 hN (by omega) ⟨4, k2, j, 0, 0, 0, 0, 0, 0, .slice none 0 0⟩ (by constructor <;> (unfold i64ok; simp only; omega)) (by show (4 : Int) ≤ 6; decide) rfl
              have HS := hideIt hst
              clear hst
              go_wp2_with fail
              refine HS.out.mono ?_
              clear HS hw hN
              rintro e w8 ⟨rfl, qs8, hw8, hb8, hl8, hn8⟩
              have hB8 := hB.trans hb8
              have hn8' : ∀ q ∈ qs8, q.nl ≤ 99999000 := fun q hq => by have := hn8 q hq; rw [show adds (4 : Int) = 0 by decide] at this; omega
              clear hB hb8 hn8
              go_wp2_with fail
              go_roundw
              case rel => exact ⟨rfl, j + 1, by omega, by go_num, qs8, hw8, hB8, by omega, hn8'⟩
              case measure => simp [intOf]; omega
            · go_wp2_with fail
              go_roundw
              case rel => exact ⟨rfl, k2 + 1, by omega, by go_num, rs, hw, hB, hl', hN⟩
              case measure => simp [intOf]; omega
        · go_wp2_with fail
          have HK := hideIt (lawKept hw h4k)
          refine HK.out.mono ?_
          rintro e w6 ⟨rfl, hm6⟩
          have HB6 := hideIt (hB.trans (hm6.below_of hz (by simp)))
          clear hT cT hw hN HK hm6 hB
          go_wp2
          go_ret
          exact ⟨rfl, HB6.out⟩

end Go.Proofs.YthimaoipogocfaaGreat

namespace Go.Proofs.YthimaoipogocfaaGreat.readk
open Go.ChangeShapes Go.WideShapes Go.ChangeAt Go.RowKit

theorem own : ownKnob Tryz.prog.godebug = none := by kernel_rfl
theorem laidOut : laidOutB Tryz.prog = true := by kernel_rfl
theorem cells40 : Tryz.prog.cellsOf 71 = 10 := by kernel_rfl
theorem cells37 : Tryz.prog.cellsOf 36 = 4 := by kernel_rfl
theorem cells38 : Tryz.prog.cellsOf 56 = 1 := by kernel_rfl
theorem cells3 : Tryz.prog.cellsOf 3 = 1 := by kernel_rfl

/-! ### what the bound gives -/
theorem one_le {H : Type} (d : DataW H) : 1 ≤ Rows.uptoBulk d := by
  cases d with
  | lit l => cases l <;> simp [Rows.uptoBulk]
  | nil => simp [Rows.uptoBulk]
  | ptr d => simp [Rows.uptoBulk]
  | slice elems spare => simp [Rows.uptoBulk]
  | agg parts => simp [Rows.uptoBulk]
  | iface t d => simp [Rows.uptoBulk]
  | map entries => simp [Rows.uptoBulk]
  | held h => simp [Rows.uptoBulk]

theorem len_le {H : Type} (m : Nat) (D : Nat → DataW H) (h : ∀ i, i < m → 12 ≤ Rows.uptoBulk (D i)) : 12 * m ≤ Rows.uptoBulkAll ((List.range m).map D) := by
  have key : ∀ l : List (DataW H), (∀ d ∈ l, 12 ≤ Rows.uptoBulk d) → 12 * l.length ≤ Rows.uptoBulkAll l := by
    intro l
    induction l with
    | nil => intro _; simp [Rows.uptoBulkAll]
    | cons d l ih =>
      intro hl
      have h1 := hl d (by simp)
      have h2 := ih (fun x hx => hl x (by simp [hx]))
      simp only [Rows.uptoBulkAll, List.length_cons]
      omega
  have := key ((List.range m).map D) (fun d hd => by
    obtain ⟨i, hi, rfl⟩ := List.mem_map.1 hd
    exact h i (List.mem_range.1 hi))
  simpa using this

/-! ### a step, read -/
theorem ten (l : List Value) (h : l.length = 10) : ∃ a b c d e f g i j k, l = [a, b, c, d, e, f, g, i, j, k] := by
  match l, h with
  | [a, b, c, d, e, f, g, i, j, k], _ => exact ⟨a, b, c, d, e, f, g, i, j, k, rfl⟩

theorem seven {A : Type} (l : List A) (h : l.length = 7) : ∃ a b c d e f g, l = [a, b, c, d, e, f, g] := by
  match l, h with
  | [a, b, c, d, e, f, g], _ => exact ⟨a, b, c, d, e, f, g, rfl⟩

theorem four {A : Type} (l : List A) (h : l.length = 4) : ∃ a b c d, l = [a, b, c, d] := by
  match l, h with
  | [a, b, c, d], _ => exact ⟨a, b, c, d, rfl⟩

theorem wf_ok {n : Int} (h : (Lit.int .i64 n).wf = true) : i64ok n := by
  simpa [Lit.wf, IntKind.min, IntKind.max, IntKind.signed, IntKind.bits, i64ok] using h

section
variable {H : Type} {enc : TypeId × Value → H} {w : World} {base : Nat} {spare : Nat → Bool} {held : Bool}

theorem int_cell {n : Nat} {v : Value} {y : DataW H × List MemPlace} (h : DataW.trod enc Tryz.prog w base spare held n 3 [v] = some y) : ∃ a, v = .int .i64 a ∧ i64ok a := by
  obtain ⟨a, ha, _, hw⟩ := DataW.trod_int Tryz.underlying3 h
  simp at ha
  exact ⟨a, ha, wf_ok hw⟩

theorem rect_cells {n : Nat} {v0 v1 v2 v3 : Value} {y : DataW H × List MemPlace} (h : DataW.trod enc Tryz.prog w base spare held n 36 [v0, v1, v2, v3] = some y) :
    ∃ a b c d, v0 = .int .i64 a ∧ v1 = .int .i64 b ∧ v2 = .int .i64 c ∧ v3 = .int .i64 d ∧ i64ok a ∧ i64ok b ∧ i64ok c ∧ i64ok d ∧ 5 ≤ Rows.uptoBulk y.1 := by
  obtain ⟨xs, m, _, rfl, hl, hlen, hf⟩ := DataW.trod_struct Tryz.underlying36 h
  obtain ⟨y0, y1, y2, y3, rfl⟩ := four xs (by simpa using hlen)
  have f0 := hf 0 _ rfl
  have f1 := hf 1 _ rfl
  have f2 := hf 2 _ rfl
  have f3 := hf 3 _ rfl
  simp [cells3] at f0 f1 f2 f3
  obtain ⟨a, ha, oa⟩ := int_cell f0
  obtain ⟨b, hb, ob⟩ := int_cell f1
  obtain ⟨c, hc, oc⟩ := int_cell f2
  obtain ⟨d, hd, od⟩ := int_cell f3
  refine ⟨a, b, c, d, ha, hb, hc, hd, oa, ob, oc, od, ?_⟩
  have := one_le y0.1
  have := one_le y1.1
  have := one_le y2.1
  have := one_le y3.1
  simp [Rows.uptoBulk, Rows.uptoBulkAll]
  omega
end

theorem spot_none {w : World} {b o : Nat} {sp : Option _} {v : Value} (h : w.cell? ⟨b, o, sp⟩ = some v) : sp = none := by
  have := World.cell?_spot h
  exact this

end Go.Proofs.YthimaoipogocfaaGreat.readk

