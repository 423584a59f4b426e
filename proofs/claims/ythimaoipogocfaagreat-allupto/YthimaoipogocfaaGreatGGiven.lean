import Derived.Test.YthimaoipogocfaaGreatRep3
import Derived.Test.YthimaoipogocfaaGreatM16
import Derived.Laws.CopyOwn
import Derived.OwnWalk
namespace Go.Proofs.YthimaoipogocfaaGreat
open Go.RowKit Go.Maps
attribute [local go_sem] run_store_f32 run_neg_inf

/-! ### bytes that are handed in, with stains behind them -/
theorem LogV.src {w : World} {v : Value} {l : List Int} (h : LogV w v l) : srcRow w 1 v l.length (u8s l) := by
  refine ⟨by rw [u8s_length, Nat.mul_one], u8s_one _, ?_⟩
  rcases h.out with ⟨rfl, rfl⟩ | ⟨g, off, c, rfl, h2, _⟩ | ⟨a, c, rfl, rfl⟩
  · exact .inl ⟨rfl, rfl⟩
  rotate_left
  · exact .inr ⟨a, c, rfl, fun j u hu => by simp [u8s] at hu⟩
  · refine .inr ⟨_, _, rfl, fun j u hu => ?_⟩
    have hj : j < l.length := by
      have := (List.getElem?_eq_some_iff.1 hu).1
      rw [u8s_length] at this
      exact this
    have hj2 := u8s_get (List.getElem?_eq_getElem hj)
    rw [hu] at hj2
    cases hj2
    have e : (⟨g, off, none⟩ : Addr).add j = ⟨g, off + j, none⟩ := by unfold Addr.add; split <;> simp_all
    rw [e]
    exact h2 j _ (List.getElem?_eq_getElem hj)

theorem LogV.form {w : World} {v : Value} {l : List Int} (h : LogV w v l) : ∃ a c, v = .slice a l.length c := by
  rcases h.out with ⟨rfl, rfl⟩ | ⟨g, off, c, rfl, _⟩ | ⟨a, c, rfl, rfl⟩
  · exact ⟨_, _, rfl⟩
  · exact ⟨_, _, rfl⟩
  · exact ⟨_, _, rfl⟩

/-- what lies behind, once j stains are there -/
def stainF (l : List Int) (j : Nat) : List Int := l ++ (List.replicate j 77 ++ List.replicate (8 - j) 0)
theorem stainF_length (l : List Int) {j : Nat} (h : j ≤ 8) : (stainF l j).length = l.length + 8 := by
  simp [stainF]
  omega
theorem stainF_set (l : List Int) {j : Nat} (h : j < 8) : (stainF l j).set (l.length + j) 77 = stainF l (j + 1) := by
  unfold stainF
  rw [List.set_append_right _ _ (by omega), show l.length + j - l.length = j by omega, List.set_append_right _ _ (by simp), List.length_replicate, Nat.sub_self]
  obtain ⟨k, hk⟩ : ∃ k, 8 - j = k + 1 := ⟨7 - j, by omega⟩
  rw [hk, show 8 - (j + 1) = k by omega, List.replicate_succ, List.set_cons_zero, List.replicate_succ' (n := j), List.append_assoc]
  rfl

def GivenPost (l : List Int) (w : World) (e : Ending) (w' : World) : Prop :=
  ∃ g u, e = .returned (.tuple #[.slice (some ⟨g, 0, none⟩) (l.length + 8) (l.length + 8), u]) ∧ w'.ownsRow 0 5 1 (.slice (some ⟨g, 0, none⟩) (l.length + 8) (l.length + 8)) (l.length + 8) (u8s (stainF l 8)) ∧ LogV w' u l ∧ w.heap.size ≤ g ∧ Mod [] w w'

theorem BytesAt.of_row {w : World} {g n c : Nat} {l m : List Int} (h : w.ownsRow 0 5 1 (.slice (some ⟨g, 0, none⟩) n c) n (u8s (l ++ m))) : BytesAt w g 0 l := fun j b hj => by
  rw [Nat.zero_add]
  refine owns_cell h j _ (u8s_get ?_)
  rw [List.getElem?_append_left (List.getElem?_eq_some_iff.1 hj).1]
  exact hj

set_option maxRecDepth 100000 in
set_option maxHeartbeats 1000000 in
theorem given_any {w : World} {v : Value} {l : List Int} (h : LogV w v l) : Calls Tryz.prog 82 #[v] w (GivenPost l w) := by
  obtain ⟨i0, hi, hz0, hz1, hz2⟩ := info_partsB infoB
  have hlen := h.len
  obtain ⟨a, c, hv⟩ := h.form
  have HV := hideIt h
  have HVE := hideIt hv
  clear h
  subst hv
  go_enter Tryz.func82, Tryz.ntmps82
  go_wp2_with (refine wpList_make_full _ rfl _ _ 56 rfl 0 5 i0 (.int .u8 0) 1 Tryz.underlying56 hi hz0 hz1 .i64 .i64 _ _ (l.length + 8) rfl rfl (by omega) (by omega) (by rw [hz2]; omega) (by unfold maxLen; omega) (Nat.zero_le _) ?_)
  intro w1 ho1 hg1
  have hm1 : Mod [] w w1 := Mod.of_grown hg1
  have hb1 := hm1.below_of (Nat.le_refl _) (by simp)
  obtain ⟨G, hG⟩ : ∃ G, G = w.heap.size := ⟨_, rfl⟩
  have hz1' := hm1.size
  have hg : w1.heap[G]? = some (.cells (List.replicate (l.length + 8) (Value.int .u8 0)).toArray 5 (0, 0)) := by
    rcases ho1.2 with ⟨h0, _⟩ | ⟨g, cap, cur, e, _, hgg, _, _, hcs, htk⟩
    · cases h0
    · cases e
      rw [hG, hgg]
      rw [toList_madeCells_one, List.take_of_length_le (by simp [hcs])] at htk
      congr 2
      apply Array.toList_inj.1
      simpa using htk
  rw [← hG]
  have HNEW := hideIt hG
  have HM1 := hideIt hm1
  have HB1 := hideIt (hG ▸ hb1)
  clear hG hg1 ho1 hm1 hb1
  have hsz1 : (Tryz.prog.info? 5).map (·.size) = some 1 := by rw [hi]; simp [hz1]
  have HPOS := hideIt (show 0 < (u8s l).length → (some (⟨G, 0, none⟩ : Addr) = some ⟨G, 0, none⟩) ∧ ∃ ad, a = some ad ∧ ∀ j v, (u8s l)[j]? = some v → w1.cell? (ad.add j) = some v from fun hpos => ⟨rfl, by
    rcases (HV.out.keep HM1.out).src.2.2 with ⟨e, e2⟩ | ⟨ad, c', e, hc⟩
    · rw [u8s_length] at hpos
      omega
    · cases e
      exact ⟨ad, rfl, hc⟩⟩)
  have hmin : (u8s l).length = Nat.min l.length (l.length + 8) := by rw [u8s_length]; exact (Nat.min_eq_left (by omega)).symm
  have hfit : 0 + (u8s l).length ≤ (List.replicate (l.length + 8) (Value.int .u8 0)).length := by simp [u8s_length]
  obtain ⟨w2, hcp, hg2, hb2⟩ : ∃ w2, (∀ ty, (Builtin.copy_ #[56, 56] ty #[.slice (some ⟨G, 0, none⟩) (l.length + 8) (l.length + 8), .slice a l.length c]).run Tryz.prog w1 = .ok (.int .i64 (l.length : Nat)) w2) ∧ Hid (w2.heap[G]? = some (.cells (splice (List.replicate (l.length + 8) (Value.int .u8 0)) 0 (u8s l)).toArray 5 (0, 0))) ∧ Below G w w2 := by
    by_cases h0 : l.length = 0
    · obtain rfl : l = [] := List.eq_nil_of_length_eq_zero h0
      refine ⟨w1, fun ty => run_copy_none (P := Tryz.prog) w1 56 56 ty 5 _ _ _ _ _ _ Tryz.underlying56 hsz1 rfl, hideIt ?_, HB1.out⟩
      rw [hg]
      rfl
    · obtain ⟨_, ad, rfl, hsrc⟩ := HPOS.out (by rw [u8s_length]; omega)
      refine ⟨w1.setRow G ((List.replicate (l.length + 8) (Value.int .u8 0)).toArray.toList.take 0 ++ u8s l ++ (List.replicate (l.length + 8) (Value.int .u8 0)).toArray.toList.drop (0 + (u8s l).length)).toArray, fun ty => ?_, hideIt ?_, ?_⟩
      · have := run_copy_row (P := Tryz.prog) w1 56 56 ty 5 G 0 (l.length + 8) (l.length + 8) ad l.length c _ 5 (u8s l) Tryz.underlying56 hsz1 hg hmin hsrc (by simpa using hfit) (u8s_one l)
        rw [this, u8s_length]
        rfl
      · rw [setRow_heap w1 G _ _ 5 _ hg]
        simp [splice, u8s_length]
      · exact below_setRow HB1.out (Nat.le_refl _) _
  have HO2 := hideIt (show w2.ownsRow 0 5 1 (.slice (some ⟨G, 0, none⟩) (l.length + 8) (l.length + 8)) (l.length + 8) (u8s (stainF l 0)) by
    have e : splice (List.replicate (l.length + 8) (Value.int .u8 0)) 0 (u8s l) = u8s (stainF l 0) := by
      unfold splice stainF
      rw [u8s_append, u8s_length]
      simp [u8s]
    have := owns_new (base := 0) (n := l.length + 8) (size := 1) hg2.out (by simp [e, u8s_length, stainF_length]) (by unfold maxLen; omega) (Nat.zero_le _)
    rw [e] at this
    exact this)
  have HM2 := hideIt (show Mod [] w w2 from Mod.of_below (HNEW.out ▸ hb2))
  clear hg2 hb2 hg HM1 HB1 HPOS hmin hfit
  go_wp2_with fail
  clear hcp
  go_loopw [5] (fun i wr => ∃ j : Nat, j ≤ 8 ∧ i = .int .i64 ((l.length + j : Nat) : Int) ∧ Hid (Mod [] w wr ∧ wr.ownsRow 0 5 1 (.slice (some ⟨G, 0, none⟩) (l.length + 8) (l.length + 8)) (l.length + 8) (u8s (stainF l j)))) (fun i _ => l.length + 8 - (intOf i).toNat)
  case atStart => exact ⟨0, by omega, rfl, hideIt ⟨HM2.out, HO2.out⟩⟩
  case round =>
    clear HM2 HO2
    obtain ⟨j, hj, rfl, hr⟩ := hrel
    by_cases hlt : j < 8
    · have hlt' : ((l.length + j : Nat) : Int) < ((l.length + 8 : Nat) : Int) := by omega
      have hget : ∃ z, (stainF l j)[l.length + j]? = some z := ⟨_, List.getElem?_eq_getElem (by rw [stainF_length l hj]; omega)⟩
      obtain ⟨z, hz⟩ := hget
      have hcell := owns_cell hr.out.2 (l.length + j) _ (u8s_get hz)
      obtain ⟨_, e, hfz⟩ := owns_form hr.out.2 (by omega)
      cases e
      have hfk := hfz (l.length + j)
      have HN := hideIt (show (wr.setCell ⟨G, l.length + j, none⟩ (.int .u8 77)).ownsRow 0 5 1 (.slice (some ⟨G, 0, none⟩) (l.length + 8) (l.length + 8)) (l.length + 8) (u8s (stainF l (j + 1))) by
        have := owns_setL hr.out.2 (l.length + j) (.int .u8 77)
        rw [← stainF_set l hlt]
        unfold u8s at this ⊢
        rw [List.map_set]
        exact this)
      have HMN := hideIt (show Mod [] w (wr.setCell ⟨G, l.length + j, none⟩ (.int .u8 77)) from hr.out.1.then (Mod.setCell (F := [G]) _ _ _ (by simp)) (fun x hx => .inr (by simp at hx; have := HNEW.out; omega)))
      clear hr hz hfz
      go_wp2_with fail
      go_roundw
      case rel => exact ⟨j + 1, by omega, by go_num, hideIt ⟨HMN.out, HN.out⟩⟩
      case measure => simp [intOf]; omega
    · obtain rfl : j = 8 := by omega
      have hge : ¬ (((l.length + 8 : Nat) : Int) < ((l.length + 8 : Nat) : Int)) := by omega
      have HFIN := hideIt (show ∀ u W, LogV wr u l → Mod [] wr W → GivenPost l w (.returned (.tuple #[.slice (some ⟨G, 0, none⟩) (l.length + 8) (l.length + 8), u])) W from fun u W hu hm => ⟨G, u, rfl, owns_kept hr.out.2 hm (by simp), hu.keep hm, by have := HNEW.out; omega, hr.out.1.trans hm⟩)
      have HLV := hideIt (show LogV wr (.slice (some ⟨G, 0, none⟩) l.length (l.length + 8)) l from ⟨.inr (.inl ⟨G, 0, l.length + 8, rfl, BytesAt.of_row (l := l) hr.out.2, by omega, by unfold maxLen; omega⟩), HV.out.byte, hlen⟩)
      rcases HV.out.out with ⟨e, el⟩ | ⟨g, off, c', e, _⟩ | ⟨a', c', e, el⟩
      · subst el
        cases e
        have HN := hideIt (fun W => HFIN.out (.slice none 0 0) W ⟨.inl ⟨rfl, rfl⟩, HV.out.byte, hlen⟩)
        clear HFIN HLV hr HV
        have hnil := fun W => Lib.run_eql_slice_nil (P := Tryz.prog) W 56 5 none 0 0 0 0 Tryz.underlying56
        go_wp2
        go_ret2
        exact HN.out _ (Mod.refl _ _)
      · cases e
        have hnil := fun W => Lib.run_eql_slice_nil (P := Tryz.prog) W 56 5 (some ⟨g, off, none⟩) l.length c 0 0 Tryz.underlying56
        have HN := hideIt (fun W => HFIN.out _ W HLV.out)
        clear HFIN HLV hr HV
        go_wp2_with fail
        go_region
        all_goals
          go_wp2
          go_ret2
          exact HN.out _ (Mod.drew _)
      · subst el
        cases e
        have hnil := fun W => Lib.run_eql_slice_nil (P := Tryz.prog) W 56 5 (some a') 0 c 0 0 Tryz.underlying56
        have HN := hideIt (fun W => HFIN.out _ W HLV.out)
        clear HFIN HLV hr HV
        go_wp2_with fail
        go_region
        all_goals
          go_wp2
          go_ret2
          exact HN.out _ (Mod.drew _)

/-! ### do they stand as they did? then they are written over -/
theorem LogV.lt {w : World} {v : Value} {l : List Int} (h : LogV w v l) (hl : l ≠ []) : ∀ x ∈ v.ownBlock.toList, x < w.heap.size := by
  rcases h.out with ⟨_, h1⟩ | ⟨g, off, c, rfl, h2, h3⟩ | ⟨_, _, _, h1⟩
  · exact absurd h1 hl
  rotate_left
  · exact absurd h1 hl
  · intro x hx
    have e : x = g := by simpa [Value.ownBlock] using hx
    subst e
    have h0 : 0 < l.length := by
      cases l with
      | nil => exact absurd rfl hl
      | cons a l => simp
    exact World.block_lt_of_cell? w _ (h2 0 _ (List.getElem?_eq_getElem h0))
theorem LogV.keepF {w w' : World} {v : Value} {l : List Int} {F : List Nat} (h : LogV w v l) (hm : Mod F w w') (hf : l ≠ [] → ∀ x ∈ v.ownBlock.toList, x ∉ F) : LogV w' v l := by
  refine ⟨?_, h.byte, h.len⟩
  rcases h.out with h1 | ⟨g, off, c, rfl, h2, h3⟩ | h1
  · exact .inl h1
  rotate_left
  · exact .inr (.inr h1)
  · refine .inr (.inl ⟨g, off, c, rfl, fun j b hj => ?_, h3⟩)
    have hc := h2 j b hj
    have hl : l ≠ [] := fun e => by rw [e] at hj; simp at hj
    exact (hm.cell (World.block_lt_of_cell? w _ hc) (hf hl g (by simp [Value.ownBlock])) _).trans hc

set_option maxRecDepth 100000 in
set_option maxHeartbeats 1000000 in
theorem clean_any {w : World} {g : Nat} {v : Value} {l : List Int} (ho : w.ownsRow 0 5 1 (.slice (some ⟨g, 0, none⟩) (l.length + 8) (l.length + 8)) (l.length + 8) (u8s (stainF l 8))) (hv : LogV w v l) (hvg : l ≠ [] → g ∉ v.ownBlock.toList) :
    Calls Tryz.prog 84 #[.slice (some ⟨g, 0, none⟩) (l.length + 8) (l.length + 8), v] w (fun e w' => e = .returned (.bool true) ∧ Mod [g] w w') := by
  have hlen := hv.len
  obtain ⟨a, c, hve⟩ := hv.form
  subst hve
  have HV := hideIt (show ∀ W, Mod [g] w W → LogV W (.slice a l.length c) l from fun W hm => hv.keepF hm (fun hl x hx hx' => hvg hl (by simp at hx'; subst hx'; exact hx)))
  have HO := hideIt ho
  obtain ⟨f, hf⟩ : ∃ f : Nat → Value, f = fun _ => .int .u8 99 := ⟨_, rfl⟩
  have HFV := hideIt (show ∀ j, f j = .int .u8 99 from fun j => by rw [hf])
  clear ho hv hvg hf
  go_enter Tryz.func84, Tryz.ntmps84
  go_wp2_with fail
  go_loopw [5, 6] (fun ok i wr => ok = .bool true ∧ ∃ k : Nat, k ≤ l.length + 8 ∧ i = .int .i64 k ∧ Hid (Mod [g] w wr ∧ wr.ownsRow 0 5 1 (.slice (some ⟨g, 0, none⟩) (l.length + 8) (l.length + 8)) (l.length + 8) (rowF f k ++ (u8s (stainF l 8)).drop k))) (fun _ i _ => l.length + 8 - (intOf i).toNat)
  case atStart => exact ⟨rfl, 0, by omega, rfl, hideIt ⟨Mod.refl _ _, HO.out⟩⟩
  case round =>
    obtain ⟨rfl, k, hk, rfl, hr⟩ := hrel
    by_cases hlt : k < l.length + 8
    · have hlt' : (k : Int) < ((l.length + 8 : Nat) : Int) := by omega
      have hsl : (stainF l 8).length = l.length + 8 := stainF_length l (Nat.le_refl _)
      obtain ⟨_, e, hfz⟩ := owns_form hr.out.2 (by omega)
      cases e
      have hfk := hfz k
      have hget : (rowF f k ++ (u8s (stainF l 8)).drop k)[k]? = (u8s (stainF l 8))[k]? := by
        rw [List.getElem?_append_right (by rw [rowF_length]; exact Nat.le_refl _), rowF_length, Nat.sub_self, List.getElem?_drop, Nat.add_zero]
      have HN := hideIt (show ∀ W, Mod [] wr W → Mod [g] w (W.setCell ⟨g, k, none⟩ (.int .u8 99)) ∧ (W.setCell ⟨g, k, none⟩ (.int .u8 99)).ownsRow 0 5 1 (.slice (some ⟨g, 0, none⟩) (l.length + 8) (l.length + 8)) (l.length + 8) (rowF f (k + 1) ++ (u8s (stainF l 8)).drop (k + 1)) from fun W hW => by
        have := owns_setL (owns_kept hr.out.2 hW (by simp)) k (f k)
        rw [rowF_set (by rw [u8s_length, hsl]; exact hlt), HFV.out k] at this
        exact ⟨(hr.out.1.trans hW.nil).trans (Mod.setCell _ _ _ (by simp)), this⟩)
      by_cases hkn : k < l.length
      · have hkn' : (k : Int) < (l.length : Int) := by omega
        have hlk : l[k]? = some l[k] := List.getElem?_eq_getElem hkn
        have hst : (stainF l 8)[k]? = some l[k] := by
          unfold stainF
          rw [List.getElem?_append_left hkn]
          exact hlk
        have hcell := owns_cell hr.out.2 k _ (hget.trans (u8s_get hst))
        obtain ⟨b, off, rfl, hcb⟩ : ∃ b off, a = some ⟨b, off, none⟩ ∧ wr.cell? ⟨b, off + k, none⟩ = some (.int .u8 l[k]) := by
          rcases (HV.out _ hr.out.1).out with ⟨_, e⟩ | ⟨b, off, c', e, h2, _⟩ | ⟨_, _, _, e⟩
          · rw [e] at hkn
            simp at hkn
          · cases e
            exact ⟨b, off, rfl, h2 k _ hlk⟩
          · rw [e] at hkn
            simp at hkn
        generalize l[k] = z at *
        clear hr hget hfz hst hlk
        go_wp2_with fail
        go_region
        all_goals
          have HN2 := hideIt (HN.out _ (Mod.drew wr))
          have hcell2 := cell_mod (Mod.drew wr) hcell
          have hfk2 : (wr.drew).frozen? ⟨g, k, none⟩ = false := hfk
          clear HN hcell hcb hfk
          go_wp2_with fail
          go_roundw
          case rel => exact ⟨rfl, k + 1, by omega, by go_num, hideIt HN2.out⟩
          case measure => simp [intOf]; omega
      · have hkn' : ¬ ((k : Int) < (l.length : Int)) := by omega
        have hst : (stainF l 8)[k]? = some 77 := by
          unfold stainF
          rw [List.getElem?_append_right (by omega), List.getElem?_append_left (by simp; omega), List.getElem?_replicate, if_pos (by omega)]
        have hcell := owns_cell hr.out.2 k _ (hget.trans (u8s_get hst))
        clear hr hget hfz hst
        go_wp2_with fail
        go_roundw
        case rel => exact ⟨rfl, k + 1, by omega, by go_num, hideIt (HN.out _ (Mod.refl _ _))⟩
        case measure => simp [intOf]; omega
    · obtain rfl : k = l.length + 8 := by omega
      have hge : ¬ (((l.length + 8 : Nat) : Int) < ((l.length + 8 : Nat) : Int)) := by omega
      have HM := hideIt hr.out.1
      clear hr
      go_wp2
      go_ret
      exact ⟨rfl, HM.out⟩

end Go.Proofs.YthimaoipogocfaaGreat
