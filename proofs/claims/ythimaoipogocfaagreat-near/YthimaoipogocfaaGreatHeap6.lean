import Derived.Test.YthimaoipogocfaaGreatHeap5
import Derived.Deep.DeepCutAuto
namespace Go.Proofs.YthimaoipogocfaaGreat
open Go.RowKit
attribute [local go_sem] run_store_f32 run_neg_inf

/-- a heap once more, below n; what stands behind is as it was -/
def DownRes (qb g N c n : Nat) (l : List Wt) (w w' : World) : Prop := ∃ l', QRow w' qb g N c l' ∧ l'.Perm l ∧ HeapW l' n ∧ (∀ k, n ≤ k → wat l' k = wat l k) ∧ Mod [g] w w'
def DownPost (qb g N c n : Nat) (l : List Wt) (w : World) (e : Ending) (w' : World) : Prop := ∃ b, e = .returned (.bool b) ∧ DownRes qb g N c n l w w'

/-- the lesser of the two below -/
theorem down_min {l : List Wt} {n i j : Nat} (h1 : 2 * i + 1 < n → (wat l j).le (wat l (2 * i + 1))) (h2 : 2 * i + 2 < n → (wat l j).le (wat l (2 * i + 2))) : ∀ k, k < n → 0 < k → (k - 1) / 2 = i → (wat l j).le (wat l k) := by
  intro k hk h0 hp
  rcases (show k = 2 * i + 1 ∨ k = 2 * i + 2 by omega) with rfl | rfl
  · exact h1 hk
  · exact h2 hk

set_option maxRecDepth 100000 in
set_option maxHeartbeats 2000000 in
theorem down_any {w : World} {qb g N c n : Nat} {l : List Wt} (h : QRow w qb g N c l) (hN : N ≤ 100000) (hn : n < N) (hd : DownW l n 0) :
    Calls Tryz.prog 110 #[qI qb, .int .i64 0, .int .i64 n] w (DownPost qb g N c n l w) := by
  have H := hideIt (And.intro h hd)
  clear h hd
  go_enter Tryz.func110, Tryz.ntmps110
  go_wp2_with fail
  go_loopw [7] (fun iv wr => ∃ i : Nat, i ≤ n ∧ iv = .int .i64 i ∧ Hid (∃ l', QRow wr qb g N c l' ∧ l'.Perm l ∧ DownW l' n i ∧ (∀ k, n ≤ k → wat l' k = wat l k) ∧ Mod [g] w wr)) (fun iv _ => n - (intOf iv).toNat)
  case atStart => exact ⟨0, by omega, rfl, hideIt ⟨l, H.out.1, .refl _, H.out.2, fun _ _ => rfl, Mod.refl _ _⟩⟩
  case round =>
    obtain ⟨i, hi, rfl, hR⟩ := hrel
    obtain ⟨l', hq, hp, hu, hk, hm⟩ := hR.out
    by_cases h1 : n ≤ 2 * i + 1
    · have HF := hideIt (show ∀ b, DownPost qb g N c n l w (.returned (.bool b)) wr from fun b => ⟨b, rfl, l', hq, hp, hu.done (fun k hk h0 hp => by omega), hk, hm⟩)
      have hge : (n : Int) ≤ 2 * (i : Int) + 1 := by omega
      clear hR hq hp hu hm hk
      go_wp2
      go_ret
      exact HF.out _
    · have hge : ¬ ((n : Int) ≤ 2 * (i : Int) + 1) := by omega
      obtain ⟨j1, hj1⟩ : ∃ j1 : Nat, j1 = 2 * i + 1 := ⟨_, rfl⟩
      obtain ⟨j2, hj2⟩ : ∃ j2 : Nat, j2 = 2 * i + 2 := ⟨_, rfl⟩
      have E1 := hideIt (show 2 * (i : Int) + 1 = (j1 : Int) by omega)
      have E2 := hideIt (show (j1 : Int) + 1 = (j2 : Int) by omega)
      have hge1 : ¬ ((n : Int) ≤ (j1 : Int)) := by omega
      have hneg : ¬ ((j1 : Int) < 0) := by omega
      have hmeth := fun M => run_mV hq.q.here sel_Less M
      have HQ := hideIt hq
      have HX := hideIt (And.intro hp (And.intro hu (And.intro hk hm)))
      have hji : j1 ≤ 1000000 := by omega
      have HJ1 := hideIt hj1
      have HJ2 := hideIt hj2
      have b1 : 2 * i + 1 ≤ j1 := by omega
      have b2 : j1 ≤ 2 * i + 1 := by omega
      have b3 : 2 * i + 2 ≤ j2 := by omega
      have b4 : j2 ≤ 2 * i + 2 := by omega
      clear hj1 hj2
      clear hR hq hp hu hm hk hge
      go_upto_region 3 with fail
      rw [E1.out]
      go_upto_region 6 with fail
      rw [E2.out]
      by_cases h2 : j2 < n
      · have h2' : (j2 : Int) < (n : Int) := by omega
        have HLJ := hideIt (less_any HQ.out.row HQ.out.len (show j2 < N by omega) (show j1 < N by omega))
        cases hl1 : lessW (wat l' j2) (wat l' j1) with
        | true =>
          rw [hl1] at HLJ
          have HMIN := hideIt (show ∀ k, k < n → 0 < k → (k - 1) / 2 = i → (wat l' j2).le (wat l' k) from down_min (fun _ => by rw [← HJ1.out]; exact lessW_le hl1) (fun _ => by rw [← HJ2.out]; exact Wt.le_refl _))
          clear hl1
          go_wp2_with fail
          refine HLJ.out.mono ?_
          rintro e w2 ⟨rfl, hm2⟩
          have hmeth2 := fun M => run_mV (HQ.out.keep hm2).q.here sel_Less M
          have HM2 := hideIt hm2
          clear hm2 HLJ hmeth
          have HLI := hideIt (fun W (hm : Mod [] wr W) => less_any (HQ.out.keep hm).row HQ.out.len (show j2 < N by omega) (show i < N by omega))
          cases hl2 : lessW (wat l' j2) (wat l' i) with
          | false =>
            rw [hl2] at HLI
            have HDONE := hideIt (show HeapW l' n from HX.out.2.1.done (fun k hk h0 hp => Wt.le_trans (not_lessW_le hl2) (HMIN.out k hk h0 hp)))
            clear hl2
            have hmW : Mod [] wr w2 := HM2.out
            go_wp2_with fail
            refine (HLI.out _ hmW).mono ?_
            rintro e w3 ⟨rfl, hm3⟩
            have HF := hideIt (show ∀ b, DownPost qb g N c n l w (.returned (.bool b)) w3 from fun b => ⟨b, rfl, l', HQ.out.keep (hmW.trans hm3), HX.out.1, HDONE.out, HX.out.2.2.1, HX.out.2.2.2.trans (hmW.trans hm3).nil⟩)
            clear hm3 HLI HDONE HQ HX
            go_wp2
            go_ret
            exact HF.out _
          | true =>
            rw [hl2] at HLI
            have HSTEP := hideIt (show DownW (swapW l' i j2) n j2 from HX.out.2.1.step (by rw [HQ.out.len]; omega) (by omega) (by omega) (by omega) (lessW_le hl2) HMIN.out)
            have HPERM := hideIt ((swapW_perm (l := l') (i := i) (j := j2) (by rw [HQ.out.len]; omega) (by rw [HQ.out.len]; omega)).trans HX.out.1)
            have HSAME := hideIt (show ∀ k, n ≤ k → wat (swapW l' i j2) k = wat l k from fun k hk => by rw [wat_swap (by rw [HQ.out.len]; omega) (by rw [HQ.out.len]; omega), if_neg (by omega), if_neg (by omega)]; exact HX.out.2.2.1 k hk)
            have HSWAP := hideIt (fun W (hm : Mod [] wr W) => swap_any (HQ.out.keep hm).row HQ.out.len (show i < N by omega) (show j2 < N by omega))
            clear hl2
            have hmW : Mod [] wr w2 := HM2.out
            go_wp2_with fail
            refine (HLI.out _ hmW).mono ?_
            rintro e w3 ⟨rfl, hm3⟩
            have hmeth3 := fun M => run_mV (HQ.out.keep (hmW.trans hm3)).q.here sel_Swap M
            have HSW := hideIt (HSWAP.out w3 (hmW.trans hm3))
            have HQ3 := hideIt (HQ.out.keep (hmW.trans hm3))
            have HM3 := hideIt (HX.out.2.2.2.trans (hmW.trans hm3).nil)
            clear hm3 HLI HSWAP HQ HX
            go_wp2_with fail
            refine HSW.out.mono ?_
            intro e w4 hs
            obtain ⟨k1, k2⟩ := HQ3.out.swapped hs (by rw [swapW_length]; exact HQ3.out.len)
            obtain ⟨rfl, _⟩ := hs
            have HN := hideIt (show ∃ l'', QRow w4 qb g N c l'' ∧ l''.Perm l ∧ DownW l'' n j2 ∧ (∀ k, n ≤ k → wat l'' k = wat l k) ∧ Mod [g] w w4 from ⟨_, k1, HPERM.out, HSTEP.out, HSAME.out, HM3.out.trans k2⟩)
            clear k1 k2 HSW HQ3 HM3 HPERM HSTEP HSAME hmeth3
            go_wp2_with fail
            go_roundw
            case rel => exact ⟨j2, by omega, rfl, HN⟩
            case measure => simp [intOf]; omega
        | false =>
          rw [hl1] at HLJ
          have HMIN := hideIt (show ∀ k, k < n → 0 < k → (k - 1) / 2 = i → (wat l' j1).le (wat l' k) from down_min (fun _ => by rw [← HJ1.out]; exact Wt.le_refl _) (fun _ => by rw [← HJ2.out]; exact not_lessW_le hl1))
          clear hl1
          go_wp2_with fail
          refine HLJ.out.mono ?_
          rintro e w2 ⟨rfl, hm2⟩
          have hmeth2 := fun M => run_mV (HQ.out.keep hm2).q.here sel_Less M
          have HM2 := hideIt hm2
          clear hm2 HLJ hmeth
          have HLI := hideIt (fun W (hm : Mod [] wr W) => less_any (HQ.out.keep hm).row HQ.out.len (show j1 < N by omega) (show i < N by omega))
          cases hl2 : lessW (wat l' j1) (wat l' i) with
          | false =>
            rw [hl2] at HLI
            have HDONE := hideIt (show HeapW l' n from HX.out.2.1.done (fun k hk h0 hp => Wt.le_trans (not_lessW_le hl2) (HMIN.out k hk h0 hp)))
            clear hl2
            have hmW : Mod [] wr w2 := HM2.out
            go_wp2_with fail
            refine (HLI.out _ hmW).mono ?_
            rintro e w3 ⟨rfl, hm3⟩
            have HF := hideIt (show ∀ b, DownPost qb g N c n l w (.returned (.bool b)) w3 from fun b => ⟨b, rfl, l', HQ.out.keep (hmW.trans hm3), HX.out.1, HDONE.out, HX.out.2.2.1, HX.out.2.2.2.trans (hmW.trans hm3).nil⟩)
            clear hm3 HLI HDONE HQ HX
            go_wp2
            go_ret
            exact HF.out _
          | true =>
            rw [hl2] at HLI
            have HSTEP := hideIt (show DownW (swapW l' i j1) n j1 from HX.out.2.1.step (by rw [HQ.out.len]; omega) (by omega) (by omega) (by omega) (lessW_le hl2) HMIN.out)
            have HPERM := hideIt ((swapW_perm (l := l') (i := i) (j := j1) (by rw [HQ.out.len]; omega) (by rw [HQ.out.len]; omega)).trans HX.out.1)
            have HSAME := hideIt (show ∀ k, n ≤ k → wat (swapW l' i j1) k = wat l k from fun k hk => by rw [wat_swap (by rw [HQ.out.len]; omega) (by rw [HQ.out.len]; omega), if_neg (by omega), if_neg (by omega)]; exact HX.out.2.2.1 k hk)
            have HSWAP := hideIt (fun W (hm : Mod [] wr W) => swap_any (HQ.out.keep hm).row HQ.out.len (show i < N by omega) (show j1 < N by omega))
            clear hl2
            have hmW : Mod [] wr w2 := HM2.out
            go_wp2_with fail
            refine (HLI.out _ hmW).mono ?_
            rintro e w3 ⟨rfl, hm3⟩
            have hmeth3 := fun M => run_mV (HQ.out.keep (hmW.trans hm3)).q.here sel_Swap M
            have HSW := hideIt (HSWAP.out w3 (hmW.trans hm3))
            have HQ3 := hideIt (HQ.out.keep (hmW.trans hm3))
            have HM3 := hideIt (HX.out.2.2.2.trans (hmW.trans hm3).nil)
            clear hm3 HLI HSWAP HQ HX
            go_wp2_with fail
            refine HSW.out.mono ?_
            intro e w4 hs
            obtain ⟨k1, k2⟩ := HQ3.out.swapped hs (by rw [swapW_length]; exact HQ3.out.len)
            obtain ⟨rfl, _⟩ := hs
            have HN := hideIt (show ∃ l'', QRow w4 qb g N c l'' ∧ l''.Perm l ∧ DownW l'' n j1 ∧ (∀ k, n ≤ k → wat l'' k = wat l k) ∧ Mod [g] w w4 from ⟨_, k1, HPERM.out, HSTEP.out, HSAME.out, HM3.out.trans k2⟩)
            clear k1 k2 HSW HQ3 HM3 HPERM HSTEP HSAME hmeth3
            go_wp2_with fail
            go_roundw
            case rel => exact ⟨j1, by omega, rfl, HN⟩
            case measure => simp [intOf]; omega
      · have h2' : ¬ ((j2 : Int) < (n : Int)) := by omega
        have HMIN := hideIt (show ∀ k, k < n → 0 < k → (k - 1) / 2 = i → (wat l' j1).le (wat l' k) from down_min (fun _ => by rw [← HJ1.out]; exact Wt.le_refl _) (fun h => by omega))
        have HLI := hideIt (fun W (hm : Mod [] wr W) => less_any (HQ.out.keep hm).row HQ.out.len (show j1 < N by omega) (show i < N by omega))
        cases hl2 : lessW (wat l' j1) (wat l' i) with
        | false =>
          rw [hl2] at HLI
          have HDONE := hideIt (show HeapW l' n from HX.out.2.1.done (fun k hk h0 hp => Wt.le_trans (not_lessW_le hl2) (HMIN.out k hk h0 hp)))
          clear hl2
          have hmW : Mod [] wr wr := Mod.refl _ _
          go_wp2_with fail
          refine (HLI.out _ hmW).mono ?_
          rintro e w3 ⟨rfl, hm3⟩
          have HF := hideIt (show ∀ b, DownPost qb g N c n l w (.returned (.bool b)) w3 from fun b => ⟨b, rfl, l', HQ.out.keep (hmW.trans hm3), HX.out.1, HDONE.out, HX.out.2.2.1, HX.out.2.2.2.trans (hmW.trans hm3).nil⟩)
          clear hm3 HLI HDONE HQ HX
          go_wp2
          go_ret
          exact HF.out _
        | true =>
          rw [hl2] at HLI
          have HSTEP := hideIt (show DownW (swapW l' i j1) n j1 from HX.out.2.1.step (by rw [HQ.out.len]; omega) (by omega) (by omega) (by omega) (lessW_le hl2) HMIN.out)
          have HPERM := hideIt ((swapW_perm (l := l') (i := i) (j := j1) (by rw [HQ.out.len]; omega) (by rw [HQ.out.len]; omega)).trans HX.out.1)
          have HSAME := hideIt (show ∀ k, n ≤ k → wat (swapW l' i j1) k = wat l k from fun k hk => by rw [wat_swap (by rw [HQ.out.len]; omega) (by rw [HQ.out.len]; omega), if_neg (by omega), if_neg (by omega)]; exact HX.out.2.2.1 k hk)
          have HSWAP := hideIt (fun W (hm : Mod [] wr W) => swap_any (HQ.out.keep hm).row HQ.out.len (show i < N by omega) (show j1 < N by omega))
          clear hl2
          have hmW : Mod [] wr wr := Mod.refl _ _
          go_wp2_with fail
          refine (HLI.out _ hmW).mono ?_
          rintro e w3 ⟨rfl, hm3⟩
          have hmeth3 := fun M => run_mV (HQ.out.keep (hmW.trans hm3)).q.here sel_Swap M
          have HSW := hideIt (HSWAP.out w3 (hmW.trans hm3))
          have HQ3 := hideIt (HQ.out.keep (hmW.trans hm3))
          have HM3 := hideIt (HX.out.2.2.2.trans (hmW.trans hm3).nil)
          clear hm3 HLI HSWAP HQ HX
          go_wp2_with fail
          refine HSW.out.mono ?_
          intro e w4 hs
          obtain ⟨k1, k2⟩ := HQ3.out.swapped hs (by rw [swapW_length]; exact HQ3.out.len)
          obtain ⟨rfl, _⟩ := hs
          have HN := hideIt (show ∃ l'', QRow w4 qb g N c l'' ∧ l''.Perm l ∧ DownW l'' n j1 ∧ (∀ k, n ≤ k → wat l'' k = wat l k) ∧ Mod [g] w w4 from ⟨_, k1, HPERM.out, HSTEP.out, HSAME.out, HM3.out.trans k2⟩)
          clear k1 k2 HSW HQ3 HM3 HPERM HSTEP HSAME hmeth3
          go_wp2_with fail
          go_roundw
          case rel => exact ⟨j1, by omega, rfl, HN⟩
          case measure => simp [intOf]; omega

end Go.Proofs.YthimaoipogocfaaGreat
