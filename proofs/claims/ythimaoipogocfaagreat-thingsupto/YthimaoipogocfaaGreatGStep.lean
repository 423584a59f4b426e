import Derived.Test.YthimaoipogocfaaGreatGJoined
import Derived.Deep.RegionHeld
namespace Go.Proofs.YthimaoipogocfaaGreat
open Go.RowKit Go.Maps
attribute [local go_sem] run_store_f32 run_neg_inf

/-- n: how many pairs there are behind the step; M: no log is longer -/
def StepPost (B pw n M K : Nat) (w : World) (e : Ending) (w' : World) : Prop :=
  e = .returned (.bool true) ∧ ∃ ps', WRep B w' pw ps' K ∧ Below B w w' ∧ ps'.length = n ∧ ∀ q ∈ ps', q.nl ≤ M

theorem step_box (w : World) (s : Stp) : Mod [] w (w.alloc (B40 s)) ∧ (w.alloc (B40 s)).heap[w.heap.size]? = some (B40 s) := ⟨Mod.alloc _ _, heap_alloc_new w _⟩

theorem fan_cases (a : Int) : fanB a = true ∨ fanB a = false := by cases fanB a <;> simp

set_option maxRecDepth 100000 in
set_option maxHeartbeats 1000000 in
theorem step_bad {B : Nat} {w : World} {pw : Nat} {ps : List PS} {K : Nat} (h : WRep B w pw ps K) (hB : B ≤ w.heap.size) (N : Nat) (hN : ∀ p ∈ ps, p.nl ≤ N) (s : Stp) (hk : (s.k == 1) = true) (hf : fanB s.a = false) :
    Calls Tryz.prog 30 #[.pointer (some ⟨pw, 0, none⟩), S10 s] w (StepPost B pw ps.length (N + 897) K w) := by
  obtain ⟨hm0, hb0⟩ := step_box w s
  have h0 := h.kept hm0
  have c2 : (w.alloc (B40 s)).cell? ⟨w.heap.size, 2, none⟩ = some (.int .i64 s.a) := cell_B40 hb0 2 _ rfl
  have HJ := hideIt (joined_none h0 1)
  clear hb0
  go_enter Tryz.func30, Tryz.ntmps30
  go_wp2_with fail
  refine (hNew_bad _ _ hf).mono ?_
  rintro e w1 ⟨rfl, rfl⟩
  go_wp2_with fail
  refine (refNew_bad _ _ hf).mono ?_
  rintro e w1 ⟨rfl, rfl⟩
  go_wp2_with fail
  refine HJ.out.mono ?_
  clear HJ c2
  rintro e w1 ⟨rfl, hw1, hb1⟩
  have hfin : StepPost B pw ps.length (N + 897) K w (.returned (.bool true)) w1 := ⟨rfl, ps, hw1, ((Mod.below_of hm0 hB (by simp)).trans hb1), rfl, fun q hq => by have := hN q hq; omega⟩
  clear hw1 hb1 h0 h
  go_wp2
  go_ret
  exact hfin

set_option maxRecDepth 100000 in
set_option maxHeartbeats 1000000 in
theorem step_good {B : Nat} {w : World} {pw : Nat} {ps : List PS} {K : Nat} (h : WRep B w pw ps K) (hB : B ≤ w.heap.size) (hlen : ps.length ≤ 100000000) (N : Nat) (hN : ∀ p ∈ ps, p.nl ≤ N) (s : Stp) (hk : (s.k == 1) = true) (hf : fanB s.a = true) :
    Calls Tryz.prog 30 #[.pointer (some ⟨pw, 0, none⟩), S10 s] w (StepPost B pw (ps.length + 1) (N + 897) K w) := by
  obtain ⟨hm0, hb0⟩ := step_box w s
  obtain ⟨f4, f16⟩ := fanB_iff.1 hf
  obtain ⟨fn, hfn⟩ := Int.eq_ofNat_of_zero_le (show 0 ≤ s.a by omega)
  have HN := hideIt (show ∀ W, Calls Tryz.prog 32 #[.int .i64 s.a] W (HNewPost fn W) from fun W => by rw [hfn]; exact hNew_good fn W (by omega) (by omega))
  have HRN := hideIt (show ∀ W, Calls Tryz.prog 50 #[.int .i64 s.a] W (RefNewPost fn W) from fun W => by rw [← hfn]; exact refNew_good _ W hf)
  have c20 : (w.alloc (B40 s)).cell? ⟨w.heap.size, 2, none⟩ = some (.int .i64 s.a) := cell_B40 hb0 2 _ rfl
  have HB0 := hideIt hb0
  clear hb0 hfn f4 f16
  go_enter Tryz.func30, Tryz.ntmps30
  go_wp2_with fail
  clear c20
  refine (HN.out _).mono ?_
  rintro e w1 ⟨qx, F1, rfl, hc1, hf1, hm1⟩
  have hb1 := (hm1.block _ (lt_of_block HB0.out) (by simp)).trans HB0.out
  have c2 : w1.cell? ⟨w.heap.size, 2, none⟩ = some (.int .i64 s.a) := cell_B40 hb1 2 _ rfl
  clear HN hb1
  go_wp2_with fail
  refine (HRN.out _).mono ?_
  rintro e w2 ⟨rfl, F2, hr2, hm2, hf2⟩
  have hz0 := hm0.size
  have hz1 : (w.alloc (B40 s)).heap.size ≤ w1.heap.size := hm1.size
  have hz2 := hm2.size
  have hp : PairRep w2 ⟨qx, w1.heap.size, fn, ⟨[], (rcHead fn).bytes []⟩, [], F1 ++ F2⟩ := by
    have hc1' : HAt w1 qx fn ⟨[], (rcHead fn).bytes []⟩ F1 := ⟨[], hc1, rfl⟩
    refine ⟨F1, F2, hc1'.kept hm2 (by simp), hr2, fun x hx hx' => ?_, rfl, ⟨List.Perm.refl _, by simp⟩⟩
    have h1 := hc1'.lt x hx
    have h2 := hf2 x hx'
    omega
  have HJ := hideIt (joined_some h (hm0.trans (hm1.trans hm2)) _ hp (fun x hx => by
    rcases List.mem_append.1 hx with hx | hx
    · have : (w.alloc (B40 s)).heap.size ≤ x := hf1 x hx
      omega
    · have := hf2 x hx; omega) hlen)
  clear hp hr2 hc1 c2 HRN hf1
  go_wp2_with fail
  refine HJ.out.mono ?_
  clear HJ
  rintro e w3 ⟨rfl, hw3, hb3⟩
  have hfin : StepPost B pw (ps.length + 1) (N + 897) K w (.returned (.bool true)) w3 := by
    refine ⟨rfl, _, hw3, ((Mod.below_of (hm0.trans (hm1.trans hm2)) hB (by simp)).trans hb3), by simp, fun q hq => ?_⟩
    rcases List.mem_append.1 hq with hq | hq
    · have := hN q hq; omega
    · simp at hq
      subst hq
      have := Rc.bytes_length (rcHead fn) []
      show ((rcHead fn).bytes []).length ≤ _
      omega
  clear hw3 hb3 hm0 hm1 hm2 h
  go_wp2
  go_ret
  exact hfin

/-- one pair of the list has been turned -/
theorem WRep.next {B : Nat} {w w' : World} {pw : Nat} {ps : List PS} {K : Nat} (h : WRep B w pw ps K) (hB : B ≤ w.heap.size) {k : Nat} {p q : PS} (hk : ps[k]? = some p) (hN : Next w p q w') : WRep B w' pw (ps.set k q) K ∧ Below B w w' := by
  obtain ⟨lv, bk, Fb, h1, h2, h3, h4, h5, h6, h7, h8⟩ := h
  have hpm : p ∈ ps := List.mem_of_getElem? hk
  have hlt := h5 p hpm
  have hkl : k < ps.length := (List.getElem?_eq_some_iff.1 hk).1
  have hlv : ∀ x, lv.ownBlock = some x → x < w.heap.size := fun x hx => owns_lt h3 hx
  have hpw := lt_of_block h1
  have hget : ∀ (i : Nat) (a : PS), (ps.set k q)[i]? = some a → (i = k ∧ a = q) ∨ (i ≠ k ∧ ps[i]? = some a) := fun i a ha => by
    rw [List.getElem?_set] at ha
    by_cases hik : k = i
    · subst hik
      simp [hkl] at ha
      exact .inl ⟨rfl, ha.symm⟩
    · rw [if_neg hik] at ha
      exact .inr ⟨fun e => hik e.symm, ha⟩
  have hold : ∀ (i : Nat) (a : PS), i ≠ k → ps[i]? = some a → ∀ x ∈ a.F, x ∉ q.F := fun i a hi ha x hx hx' => by
    rcases hN.foot x hx' with h | h
    · exact h6 i k a p ha hk hi x hx h
    · have := (h4 a (List.mem_of_getElem? ha)).lt x hx
      omega
  refine ⟨⟨lv, bk, Fb, ?_, h2, ?_, ?_, ?_, ?_, h7.kept hN.mod (fun x hx hx' => (hlt x hx').2.2.2 hx), h8⟩, hN.mod.below_of hB (fun x hx => (hlt x hx).1)⟩
  · exact (hN.mod.block pw hpw (fun hx => (hlt pw hx).2.1 rfl)).trans h1
  · rw [List.length_set]
    have e : flatP (ps.set k q) = flatP ps := by
      have hc : psCells q = psCells p := by simp [psCells, hN.px, hN.py]
      unfold flatP
      rw [List.flatMap_def, List.flatMap_def, List.map_set, hc]
      congr 1
      apply List.ext_getElem?
      intro i
      rw [List.getElem?_set]
      by_cases hik : k = i
      · subst hik
        simp [hkl, (List.getElem?_eq_some_iff.1 hk).2]
      · rw [if_neg hik]
    rw [e]
    exact owns_kept h3 hN.mod (fun x hx hx' => (hlt x hx').2.2.1 (by simp [hx]))
  · intro a ha
    obtain ⟨i, hi⟩ := List.getElem?_of_mem ha
    rcases hget i a hi with ⟨_, rfl⟩ | ⟨hik, hi⟩
    · exact hN.rep
    · exact (h4 a (List.mem_of_getElem? hi)).kept hN.mod (fun x hx hx' => h6 i k a p hi hk hik x hx hx')
  · intro a ha x hx
    obtain ⟨i, hi⟩ := List.getElem?_of_mem ha
    rcases hget i a hi with ⟨_, rfl⟩ | ⟨hik, hi⟩
    · rcases hN.foot x hx with h | h
      · exact hlt x h
      · refine ⟨by omega, by omega, fun hx' => ?_, fun hx' => ?_⟩
        · have := hlv x (by simpa using hx')
          omega
        · have := (h7.bounds x hx').2
          omega
    · exact h5 a (List.mem_of_getElem? hi) x hx
  · intro i j a b ha hb hij x hx hx'
    rcases hget i a ha with ⟨hi, e⟩ | ⟨hik, ha'⟩
    · rcases hget j b hb with ⟨hj, _⟩ | ⟨hjk, hb'⟩
      · omega
      · exact hold j b hjk hb' x hx' (e ▸ hx)
    · rcases hget j b hb with ⟨hj, e⟩ | ⟨hjk, hb'⟩
      · exact hold i a hik ha' x hx (e ▸ hx')
      · exact h6 i j a b ha' hb' hij x hx hx'

theorem pair_cells {w : World} {B g n c : Nat} {ps : List PS} (h : w.ownsRow B 102 2 (.slice (some ⟨g, 0, none⟩) n c) n (flatP ps)) {k : Nat} {p : PS} (hk : ps[k]? = some p) :
    w.cell? ⟨g, k * 2, none⟩ = some (.pointer (some ⟨p.px, 0, none⟩)) ∧ w.cell? ⟨g, k * 2 + 1, none⟩ = some (.pointer (some ⟨p.py, 0, none⟩)) :=
  ⟨owns_cell h _ _ (flatP_get ps k p hk 0 (by omega)), owns_cell h _ _ (flatP_get ps k p hk 1 (by omega))⟩

def ps0 : PS := ⟨0, 0, 0, ⟨[], []⟩, [], []⟩

theorem held_mod {pw g b n c : Nat} {e : Int} {ps : List PS} {w w' : World} (hm : Mod [] w w')
    (h : w.cell? ⟨pw, 0, none⟩ = some (.slice (some ⟨g, 0, none⟩) n c) ∧ w.cell? ⟨b, 1, none⟩ = some (.int .i64 e) ∧ ∀ k, k < n → w.cell? ⟨g, k * 2, none⟩ = some (.pointer (some ⟨(ps.getD k ps0).px, 0, none⟩)) ∧ w.cell? ⟨g, k * 2 + 1, none⟩ = some (.pointer (some ⟨(ps.getD k ps0).py, 0, none⟩))) :
    w'.cell? ⟨pw, 0, none⟩ = some (.slice (some ⟨g, 0, none⟩) n c) ∧ w'.cell? ⟨b, 1, none⟩ = some (.int .i64 e) ∧ ∀ k, k < n → w'.cell? ⟨g, k * 2, none⟩ = some (.pointer (some ⟨(ps.getD k ps0).px, 0, none⟩)) ∧ w'.cell? ⟨g, k * 2 + 1, none⟩ = some (.pointer (some ⟨(ps.getD k ps0).py, 0, none⟩)) :=
  ⟨cell_mod hm h.1, cell_mod hm h.2.1, fun k hk => ⟨cell_mod hm (h.2.2 k hk).1, cell_mod hm (h.2.2 k hk).2⟩⟩

set_option maxRecDepth 100000 in
set_option maxHeartbeats 1000000 in
theorem step_other {B : Nat} {w : World} {pw : Nat} {ps : List PS} {K : Nat} (h : WRep B w pw ps K) (hB : B ≤ w.heap.size) (hpos : 0 < ps.length) (hlen : ps.length ≤ 100000000) (N : Nat) (hN : ∀ p ∈ ps, p.nl ≤ N) (hNm : N ≤ 99999000) (s : Stp) (hs : s.ok) (hk : s.k ≤ 6) (hk1 : (s.k == 1) = false) :
    Calls Tryz.prog 30 #[.pointer (some ⟨pw, 0, none⟩), S10 s] w (StepPost B pw ps.length (N + adds s.k) K w) := by
  obtain ⟨hm0, hb0⟩ := step_box w s
  have h0 := h.kept hm0
  have c0 : (w.alloc (B40 s)).cell? ⟨w.heap.size, 0, none⟩ = some (.int .i64 s.k) := cell_B40 hb0 0 _ rfl
  have c1 : (w.alloc (B40 s)).cell? ⟨w.heap.size, 1, none⟩ = some (.int .i64 s.e) := cell_B40 hb0 1 _ rfl
  obtain ⟨lv, bk, Fb, h1, h2, h3, h4, h5, h6, h7, h8⟩ := h0
  have hform : ∃ g c, lv = .slice (some ⟨g, 0, none⟩) ps.length c := by
    rcases h3.2 with ⟨_, hz⟩ | ⟨g, c, cur, rfl, hrest⟩
    · omega
    · exact ⟨_, _, rfl⟩
  obtain ⟨g, c, rfl⟩ := hform
  have cl := cell_T34 h1
  have hrow : ∀ k, k < ps.length → (w.alloc (B40 s)).cell? ⟨g, k * 2, none⟩ = some (.pointer (some ⟨(ps.getD k ps0).px, 0, none⟩)) ∧ (w.alloc (B40 s)).cell? ⟨g, k * 2 + 1, none⟩ = some (.pointer (some ⟨(ps.getD k ps0).py, 0, none⟩)) := fun k hk => by
    have := pair_cells h3 (List.getElem?_eq_getElem hk)
    rw [show ps.getD k ps0 = ps[k] by simp [List.getD, hk]]
    exact this
  have hse := hs.e
  unfold i64ok at hse
  go_enter Tryz.func30, Tryz.ntmps30
  go_wp2_with fail
  generalize hW : w.alloc (B40 s) = w1 at *
  have hk13 : (s.k == 13) = false := beq_eq_false_iff_ne.2 (by omega)
  go_region_held (fun w' => w'.cell? ⟨pw, 0, none⟩ = some (.slice (some ⟨g, 0, none⟩) ps.length c) ∧ w'.cell? ⟨w.heap.size, 1, none⟩ = some (.int .i64 s.e) ∧ ∀ k, k < ps.length → w'.cell? ⟨g, k * 2, none⟩ = some (.pointer (some ⟨(ps.getD k ps0).px, 0, none⟩)) ∧ w'.cell? ⟨g, k * 2 + 1, none⟩ = some (.pointer (some ⟨(ps.getD k ps0).py, 0, none⟩))) ((first | exact ⟨cl, c1, hrow⟩ | exact held_mod ((Mod.alloc _ _).trans (Mod.drew _)) ⟨cl, c1, hrow⟩))
    ((go_at_call 53; refine (lpick_any _ _ _ hse.1 hse.2 ?_ ?_).mono ?_; (omega); (omega); rintro e w' ⟨K, rfl, hK0, hK1, rfl⟩; obtain ⟨k, rfl⟩ := Int.eq_ofNat_of_zero_le hK0; have hkl : k < ps.length := by omega))
  all_goals
    rename_i hheld
    clear hheld hrow cl c0 c1 h1 h2 h3 h4 h5 h6 h7 h8 hW hK0 hK1 hse
    have hkp : ps[k]? = some ps[k] := List.getElem?_eq_getElem hkl
    have hpm : ps[k] ∈ ps := List.getElem_mem hkl
    have hNk := hN _ hpm
    generalize ps[k] = p at *
    have hmd : Mod [] w1 ((w1.alloc (B52 p.px p.py)).drew) := (Mod.alloc _ _).trans (Mod.drew _)
    have hm2 := hm0.trans hmd
    have hW2 := h.kept hm2
    have hP2 : PairRep ((w1.alloc (B52 p.px p.py)).drew) p := by
      obtain ⟨lv, _, _, _, _, _, h4, _⟩ := hW2
      exact h4 p hpm
    have hb2 := (hmd.block _ (lt_of_block hb0) (by simp)).trans hb0
    have hb3 : ((w1.alloc (B52 p.px p.py)).drew).heap[w1.heap.size]? = some (B52 p.px p.py) := heap_alloc_new w1 _
    obtain ⟨e0, e1⟩ := cell_B52 hb3
    have hB2 : B ≤ ((w1.alloc (B52 p.px p.py)).drew).heap.size := Nat.le_trans hB hm2.size
    have HH := hideIt (lholds_any hP2 (by omega) s hs (.pointer (some ⟨pw, 0, none⟩)))
    have hbel := hm2.below_of hB (by simp)
    generalize (w1.alloc (B52 p.px p.py)).drew = w2 at *
    have d0 : w2.cell? ⟨w.heap.size, 0, none⟩ = some (.int .i64 s.k) := cell_B40 hb2 0 _ rfl
    have d1 : w2.cell? ⟨w.heap.size, 1, none⟩ = some (.int .i64 s.e) := cell_B40 hb2 1 _ rfl
    have d2 : w2.cell? ⟨w.heap.size, 2, none⟩ = some (.int .i64 s.a) := cell_B40 hb2 2 _ rfl
    have d3 : w2.cell? ⟨w.heap.size, 3, none⟩ = some (.int .i64 s.b) := cell_B40 hb2 3 _ rfl
    have d4 : w2.cell? ⟨w.heap.size, 4, none⟩ = some (.int .i64 s.c) := cell_B40 hb2 4 _ rfl
    have d5 : w2.cell? ⟨w.heap.size, 5, none⟩ = some (.int .i64 s.x0) := cell_B40 hb2 5 _ rfl
    have d6 : w2.cell? ⟨w.heap.size, 6, none⟩ = some (.int .i64 s.y0) := cell_B40 hb2 6 _ rfl
    have d7 : w2.cell? ⟨w.heap.size, 7, none⟩ = some (.int .i64 s.x1) := cell_B40 hb2 7 _ rfl
    have d8 : w2.cell? ⟨w.heap.size, 8, none⟩ = some (.int .i64 s.y1) := cell_B40 hb2 8 _ rfl
    have d9 : w2.cell? ⟨w.heap.size, 9, none⟩ = some s.j := cell_B40 hb2 9 _ rfl
    have hfin : ∀ w3 q, Next w2 p q w3 → q.nl ≤ p.nl + adds s.k → StepPost B pw ps.length (N + adds s.k) K w (.returned (.bool true)) w3 := fun w3 q hn hq => by
      obtain ⟨hw3, hb3⟩ := hW2.next hB2 hkp hn
      refine ⟨rfl, _, hw3, hbel.trans hb3, by simp, fun r hr => ?_⟩
      rcases List.mem_or_eq_of_mem_set hr with hr | rfl
      · have := hN r hr; omega
      · omega
    have hstill : StepPost B pw ps.length (N + adds s.k) K w (.returned (.bool true)) w2 := hfin w2 p (Next.refl hP2) (by omega)
    have HFIN := hideIt hfin
    have HST := hideIt hstill
    clear hfin hstill hP2 hW2 hm2 hmd hm0 hb0 hb2 hb3 hbel h hN hpm hkp
    have hcase : (s.k == 2) = true ∨ ((s.k == 2) = false ∧ (s.k == 3) = true) ∨ ((s.k == 2) = false ∧ (s.k == 3) = false ∧ (s.k == 4) = true) ∨ ((s.k == 2) = false ∧ (s.k == 3) = false ∧ (s.k == 4) = false ∧ (s.k == 5) = true) ∨ ((s.k == 2) = false ∧ (s.k == 3) = false ∧ (s.k == 4) = false ∧ (s.k == 5) = false ∧ (s.k == 6) = true) ∨ ((s.k == 2) = false ∧ (s.k == 3) = false ∧ (s.k == 4) = false ∧ (s.k == 5) = false ∧ (s.k == 6) = false) := by
      cases (s.k == 2) <;> cases (s.k == 3) <;> cases (s.k == 4) <;> cases (s.k == 5) <;> cases (s.k == 6) <;> simp
    rcases hcase with q2 | ⟨q2, q3⟩ | ⟨q2, q3, q4⟩ | ⟨q2, q3, q4, q5⟩ | ⟨q2, q3, q4, q5, q6⟩ | ⟨q2, q3, q4, q5, q6⟩
    · go_wp2_with fail
      refine HH.out.mono ?_
      rintro e w3 ⟨rfl, q, hn, hq⟩
      have hf := hideIt (HFIN.out w3 q hn hq)
      clear HFIN HST HH hn hq d0 d1 d2 d3 d4 d5 d6 d7 d8 d9 e0 e1
      go_wp2
      go_ret
      exact hf.out
    · go_wp2_with fail
      refine HH.out.mono ?_
      rintro e w3 ⟨rfl, q, hn, hq⟩
      have hf := hideIt (HFIN.out w3 q hn hq)
      clear HFIN HST HH hn hq d0 d1 d2 d3 d4 d5 d6 d7 d8 d9 e0 e1
      go_wp2
      go_ret
      exact hf.out
    · go_wp2_with fail
      refine HH.out.mono ?_
      rintro e w3 ⟨rfl, q, hn, hq⟩
      have hf := hideIt (HFIN.out w3 q hn hq)
      clear HFIN HST HH hn hq d0 d1 d2 d3 d4 d5 d6 d7 d8 d9 e0 e1
      go_wp2
      go_ret
      exact hf.out
    · go_wp2_with fail
      refine HH.out.mono ?_
      rintro e w3 ⟨rfl, q, hn, hq⟩
      have hf := hideIt (HFIN.out w3 q hn hq)
      clear HFIN HST HH hn hq d0 d1 d2 d3 d4 d5 d6 d7 d8 d9 e0 e1
      go_wp2
      go_ret
      exact hf.out
    · go_wp2_with fail
      refine HH.out.mono ?_
      rintro e w3 ⟨rfl, q, hn, hq⟩
      have hf := hideIt (HFIN.out w3 q hn hq)
      clear HFIN HST HH hn hq d0 d1 d2 d3 d4 d5 d6 d7 d8 d9 e0 e1
      go_wp2
      go_ret
      exact hf.out
    · have q7 : (s.k == 7) = false := beq_eq_false_iff_ne.2 (by omega)
      have q8 : (s.k == 8) = false := beq_eq_false_iff_ne.2 (by omega)
      have q9 : (s.k == 9) = false := beq_eq_false_iff_ne.2 (by omega)
      have q10 : (s.k == 10) = false := beq_eq_false_iff_ne.2 (by omega)
      have q11 : (s.k == 11) = false := beq_eq_false_iff_ne.2 (by omega)
      have q12 : (s.k == 12) = false := beq_eq_false_iff_ne.2 (by omega)
      have q14 : (s.k == 14) = false := beq_eq_false_iff_ne.2 (by omega)
      clear HH HFIN
      go_wp2
      go_ret
      exact HST.out

def StepAny (B pw n M K : Nat) (w : World) (e : Ending) (w' : World) : Prop :=
  e = .returned (.bool true) ∧ ∃ ps', WRep B w' pw ps' K ∧ Below B w w' ∧ n ≤ ps'.length ∧ ps'.length ≤ n + 1 ∧ ∀ q ∈ ps', q.nl ≤ M

theorem step_six {B : Nat} {w : World} {pw : Nat} {ps : List PS} {K : Nat} (h : WRep B w pw ps K) (hB : B ≤ w.heap.size) (hlen : ps.length ≤ 100000000) (N : Nat) (hN : ∀ p ∈ ps, p.nl ≤ N) (hNm : N ≤ 99999000) (s : Stp) (hs : s.ok) (hk : s.k ≤ 6) (hpos : 0 < ps.length) :
    Calls Tryz.prog 30 #[.pointer (some ⟨pw, 0, none⟩), S10 s] w (StepAny B pw ps.length (N + 897) K w) := by
  cases hk1 : (s.k == 1) with
  | true =>
    rcases fan_cases s.a with hf | hf
    · refine (step_good h hB hlen N hN s hk1 hf).mono ?_
      rintro e w' ⟨rfl, ps', a, b, c, d⟩
      exact ⟨rfl, ps', a, b, by omega, by omega, d⟩
    · refine (step_bad h hB N hN s hk1 hf).mono ?_
      rintro e w' ⟨rfl, ps', a, b, c, d⟩
      exact ⟨rfl, ps', a, b, by omega, by omega, d⟩
  | false =>
    refine (step_other h hB hpos hlen N hN hNm s hs hk hk1).mono ?_
    rintro e w' ⟨rfl, ps', a, b, c, d⟩
    refine ⟨rfl, ps', a, b, by omega, by omega, fun q hq => ?_⟩
    have := d q hq
    have := adds_le s.k
    omega

end Go.Proofs.YthimaoipogocfaaGreat
