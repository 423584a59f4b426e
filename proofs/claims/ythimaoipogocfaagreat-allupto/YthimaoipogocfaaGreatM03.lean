import Derived.Test.YthimaoipogocfaaGreatM02
import Derived.Deep.DeepCutAuto
import Derived.Test.YthimaoipogocfaaGreatJ12
namespace Go.Proofs.YthimaoipogocfaaGreat
open Go.RowKit
attribute [local go_sem] run_store_f32 run_neg_inf

/-- a heap once more, below n; what stands behind is as it was -/
def DownRes (qb g N c n : Nat) (l : List Wt) (w w' : World) : Prop := ∃ l', QRow w' qb g N c l' ∧ l'.Perm l ∧ HeapW l' n ∧ (∀ k, n ≤ k → wat l' k = wat l k) ∧ Mod [g] w w'
def DownPost (qb g N c n : Nat) (l : List Wt) (w : World) (e : Ending) (w' : World) : Prop := ∃ b, e = .returned (.bool b) ∧ DownRes qb g N c n l w w'

/-- the lesser of the two below -/
theorem down_min {l : List Wt} {n i j : Nat} (h1 : 2 * i + 1 < n → (wat l j).le (wat l (2 * i + 1))) (h2 : 2 * i + 2 < n → (wat l j).le (wat l (2 * i + 2))) : ∀ k, k < n → 0 < k → (k - 1) / 2 = i → (wat l j).le (wat l k) := by
  intro k hk h0 hp
  rcases (show k = 2 * i + 1 ∨ k = 2 * i + 2 by omega) with rfl | rfl
  · exact h1 hk
  · exact h2 hk

set_option maxRecDepth 100000 in
set_option maxHeartbeats 2000000 in
theorem down_any {w : World} {qb g N c n : Nat} {l : List Wt} (h : QRow w qb g N c l) (hN : N ≤ 100000) (hn : n < N) (hd : DownW l n 0) :
    Calls Tryz.prog 110 #[qI qb, .int .i64 0, .int .i64 n] w (DownPost qb g N c n l w) := by
  have H := hideIt (And.intro h hd)
  clear h hd
  go_enter Tryz.func110, Tryz.ntmps110
  go_wp2_with fail
  go_loopw [7] (fun iv wr => ∃ i : Nat, i ≤ n ∧ iv = .int .i64 i ∧ Hid (∃ l', QRow wr qb g N c l' ∧ l'.Perm l ∧ DownW l' n i ∧ (∀ k, n ≤ k → wat l' k = wat l k) ∧ Mod [g] w wr)) (fun iv _ => n - (intOf iv).toNat)
  case atStart => exact ⟨0, by omega, rfl, hideIt ⟨l, H.out.1, .refl _, H.out.2, fun _ _ => rfl, Mod.refl _ _⟩⟩
  case round =>
    obtain ⟨i, hi, rfl, hR⟩ := hrel
    obtain ⟨l', hq, hp, hu, hk, hm⟩ := hR.out
    by_cases h1 : n ≤ 2 * i + 1
    · have HF := hideIt (show ∀ b, DownPost qb g N c n l w (.returned (.bool b)) wr from fun b => ⟨b, rfl, l', hq, hp, hu.done (fun k hk h0 hp => by omega), hk, hm⟩)
      have hge : (n : Int) ≤ 2 * (i : Int) + 1 := by omega
      clear hR hq hp hu hm hk
      go_wp2
      go_ret
      exact HF.out _
    · have hge : ¬ ((n : Int) ≤ 2 * (i : Int) + 1) := by omega
      obtain ⟨j1, hj1⟩ : ∃ j1 : Nat, j1 = 2 * i + 1 := ⟨_, rfl⟩
      obtain ⟨j2, hj2⟩ : ∃ j2 : Nat, j2 = 2 * i + 2 := ⟨_, rfl⟩
      have E1 := hideIt (show 2 * (i : Int) + 1 = (j1 : Int) by omega)
      have E2 := hideIt (show (j1 : Int) + 1 = (j2 : Int) by omega)
      have hge1 : ¬ ((n : Int) ≤ (j1 : Int)) := by omega
      have hneg : ¬ ((j1 : Int) < 0) := by omega
      have hmeth := fun M => run_mV hq.q.here sel_Less M
      have HQ := hideIt hq
      have HX := hideIt (And.intro hp (And.intro hu (And.intro hk hm)))
      have hji : j1 ≤ 1000000 := by omega
      have HJ1 := hideIt hj1
      have HJ2 := hideIt hj2
      have b1 : 2 * i + 1 ≤ j1 := by omega
      have b2 : j1 ≤ 2 * i + 1 := by omega
      have b3 : 2 * i + 2 ≤ j2 := by omega
      have b4 : j2 ≤ 2 * i + 2 := by omega
      clear hj1 hj2
      clear hR hq hp hu hm hk hge
      go_upto_region 3 with fail
      rw [E1.out]
      go_upto_region 6 with fail
      rw [E2.out]
      by_cases h2 : j2 < n
      · have h2' : (j2 : Int) < (n : Int) := by omega
        have HLJ := hideIt (less_any HQ.out.row HQ.out.len (show j2 < N by omega) (show j1 < N by omega))
        cases hl1 : lessW (wat l' j2) (wat l' j1) with
        | true =>
          rw [hl1] at HLJ
          have HMIN := hideIt (show ∀ k, k < n → 0 < k → (k - 1) / 2 = i → (wat l' j2).le (wat l' k) from down_min (fun _ => by rw [← HJ1.out]; exact lessW_le hl1) (fun _ => by rw [← HJ2.out]; exact Wt.le_refl _))
          clear hl1
          go_wp2_with fail
          refine HLJ.out.mono ?_
          rintro e w2 ⟨rfl, hm2⟩
          have hmeth2 := fun M => run_mV (HQ.out.keep hm2).q.here sel_Less M
          have HM2 := hideIt hm2
          clear hm2 HLJ hmeth
          have HLI := hideIt (fun W (hm : Mod [] wr W) => less_any (HQ.out.keep hm).row HQ.out.len (show j2 < N by omega) (show i < N by omega))
          cases hl2 : lessW (wat l' j2) (wat l' i) with
          | false =>
            rw [hl2] at HLI
            have HDONE := hideIt (show HeapW l' n from HX.out.2.1.done (fun k hk h0 hp => Wt.le_trans (not_lessW_le hl2) (HMIN.out k hk h0 hp)))
            clear hl2
            have hmW : Mod [] wr w2 := HM2.out
            go_wp2_with fail
            refine (HLI.out _ hmW).mono ?_
            rintro e w3 ⟨rfl, hm3⟩
            have HF := hideIt (show ∀ b, DownPost qb g N c n l w (.returned (.bool b)) w3 from fun b => ⟨b, rfl, l', HQ.out.keep (hmW.trans hm3), HX.out.1, HDONE.out, HX.out.2.2.1, HX.out.2.2.2.trans (hmW.trans hm3).nil⟩)
            clear hm3 HLI HDONE HQ HX
            go_wp2
            go_ret
            exact HF.out _
          | true =>
            rw [hl2] at HLI
            have HSTEP := hideIt (show DownW (swapW l' i j2) n j2 from HX.out.2.1.step (by rw [HQ.out.len]; omega) (by omega) (by omega) (by omega) (lessW_le hl2) HMIN.out)
            have HPERM := hideIt ((swapW_perm (l := l') (i := i) (j := j2) (by rw [HQ.out.len]; omega) (by rw [HQ.out.len]; omega)).trans HX.out.1)
            have HSAME := hideIt (show ∀ k, n ≤ k → wat (swapW l' i j2) k = wat l k from fun k hk => by rw [wat_swap (by rw [HQ.out.len]; omega) (by rw [HQ.out.len]; omega), if_neg (by omega), if_neg (by omega)]; exact HX.out.2.2.1 k hk)
            have HSWAP := hideIt (fun W (hm : Mod [] wr W) => swap_any (HQ.out.keep hm).row HQ.out.len (show i < N by omega) (show j2 < N by omega))
            clear hl2
            have hmW : Mod [] wr w2 := HM2.out
            go_wp2_with fail
            refine (HLI.out _ hmW).mono ?_
            rintro e w3 ⟨rfl, hm3⟩
            have hmeth3 := fun M => run_mV (HQ.out.keep (hmW.trans hm3)).q.here sel_Swap M
            have HSW := hideIt (HSWAP.out w3 (hmW.trans hm3))
            have HQ3 := hideIt (HQ.out.keep (hmW.trans hm3))
            have HM3 := hideIt (HX.out.2.2.2.trans (hmW.trans hm3).nil)
            clear hm3 HLI HSWAP HQ HX
            go_wp2_with fail
            refine HSW.out.mono ?_
            intro e w4 hs
            obtain ⟨k1, k2⟩ := HQ3.out.swapped hs (by rw [swapW_length]; exact HQ3.out.len)
            obtain ⟨rfl, _⟩ := hs
            have HN := hideIt (show ∃ l'', QRow w4 qb g N c l'' ∧ l''.Perm l ∧ DownW l'' n j2 ∧ (∀ k, n ≤ k → wat l'' k = wat l k) ∧ Mod [g] w w4 from ⟨_, k1, HPERM.out, HSTEP.out, HSAME.out, HM3.out.trans k2⟩)
            clear k1 k2 HSW HQ3 HM3 HPERM HSTEP HSAME hmeth3
            go_wp2_with fail
            go_roundw
            case rel => exact ⟨j2, by omega, rfl, HN⟩
            case measure => simp [intOf]; omega
        | false =>
          rw [hl1] at HLJ
          have HMIN := hideIt (show ∀ k, k < n → 0 < k → (k - 1) / 2 = i → (wat l' j1).le (wat l' k) from down_min (fun _ => by rw [← HJ1.out]; exact Wt.le_refl _) (fun _ => by rw [← HJ2.out]; exact not_lessW_le hl1))
          clear hl1
          go_wp2_with fail
          refine HLJ.out.mono ?_
          rintro e w2 ⟨rfl, hm2⟩
          have hmeth2 := fun M => run_mV (HQ.out.keep hm2).q.here sel_Less M
          have HM2 := hideIt hm2
          clear hm2 HLJ hmeth
          have HLI := hideIt (fun W (hm : Mod [] wr W) => less_any (HQ.out.keep hm).row HQ.out.len (show j1 < N by omega) (show i < N by omega))
          cases hl2 : lessW (wat l' j1) (wat l' i) with
          | false =>
            rw [hl2] at HLI
            have HDONE := hideIt (show HeapW l' n from HX.out.2.1.done (fun k hk h0 hp => Wt.le_trans (not_lessW_le hl2) (HMIN.out k hk h0 hp)))
            clear hl2
            have hmW : Mod [] wr w2 := HM2.out
            go_wp2_with fail
            refine (HLI.out _ hmW).mono ?_
            rintro e w3 ⟨rfl, hm3⟩
            have HF := hideIt (show ∀ b, DownPost qb g N c n l w (.returned (.bool b)) w3 from fun b => ⟨b, rfl, l', HQ.out.keep (hmW.trans hm3), HX.out.1, HDONE.out, HX.out.2.2.1, HX.out.2.2.2.trans (hmW.trans hm3).nil⟩)
            clear hm3 HLI HDONE HQ HX
            go_wp2
            go_ret
            exact HF.out _
          | true =>
            rw [hl2] at HLI
            have HSTEP := hideIt (show DownW (swapW l' i j1) n j1 from HX.out.2.1.step (by rw [HQ.out.len]; omega) (by omega) (by omega) (by omega) (lessW_le hl2) HMIN.out)
            have HPERM := hideIt ((swapW_perm (l := l') (i := i) (j := j1) (by rw [HQ.out.len]; omega) (by rw [HQ.out.len]; omega)).trans HX.out.1)
            have HSAME := hideIt (show ∀ k, n ≤ k → wat (swapW l' i j1) k = wat l k from fun k hk => by rw [wat_swap (by rw [HQ.out.len]; omega) (by rw [HQ.out.len]; omega), if_neg (by omega), if_neg (by omega)]; exact HX.out.2.2.1 k hk)
            have HSWAP := hideIt (fun W (hm : Mod [] wr W) => swap_any (HQ.out.keep hm).row HQ.out.len (show i < N by omega) (show j1 < N by omega))
            clear hl2
            have hmW : Mod [] wr w2 := HM2.out
            go_wp2_with fail
            refine (HLI.out _ hmW).mono ?_
            rintro e w3 ⟨rfl, hm3⟩
            have hmeth3 := fun M => run_mV (HQ.out.keep (hmW.trans hm3)).q.here sel_Swap M
            have HSW := hideIt (HSWAP.out w3 (hmW.trans hm3))
            have HQ3 := hideIt (HQ.out.keep (hmW.trans hm3))
            have HM3 := hideIt (HX.out.2.2.2.trans (hmW.trans hm3).nil)
            clear hm3 HLI HSWAP HQ HX
            go_wp2_with fail
            refine HSW.out.mono ?_
            intro e w4 hs
            obtain ⟨k1, k2⟩ := HQ3.out.swapped hs (by rw [swapW_length]; exact HQ3.out.len)
            obtain ⟨rfl, _⟩ := hs
            have HN := hideIt (show ∃ l'', QRow w4 qb g N c l'' ∧ l''.Perm l ∧ DownW l'' n j1 ∧ (∀ k, n ≤ k → wat l'' k = wat l k) ∧ Mod [g] w w4 from ⟨_, k1, HPERM.out, HSTEP.out, HSAME.out, HM3.out.trans k2⟩)
            clear k1 k2 HSW HQ3 HM3 HPERM HSTEP HSAME hmeth3
            go_wp2_with fail
            go_roundw
            case rel => exact ⟨j1, by omega, rfl, HN⟩
            case measure => simp [intOf]; omega
      · have h2' : ¬ ((j2 : Int) < (n : Int)) := by omega
        have HMIN := hideIt (show ∀ k, k < n → 0 < k → (k - 1) / 2 = i → (wat l' j1).le (wat l' k) from down_min (fun _ => by rw [← HJ1.out]; exact Wt.le_refl _) (fun h => by omega))
        have HLI := hideIt (fun W (hm : Mod [] wr W) => less_any (HQ.out.keep hm).row HQ.out.len (show j1 < N by omega) (show i < N by omega))
        cases hl2 : lessW (wat l' j1) (wat l' i) with
        | false =>
          rw [hl2] at HLI
          have HDONE := hideIt (show HeapW l' n from HX.out.2.1.done (fun k hk h0 hp => Wt.le_trans (not_lessW_le hl2) (HMIN.out k hk h0 hp)))
          clear hl2
          have hmW : Mod [] wr wr := Mod.refl _ _
          go_wp2_with fail
          refine (HLI.out _ hmW).mono ?_
          rintro e w3 ⟨rfl, hm3⟩
          have HF := hideIt (show ∀ b, DownPost qb g N c n l w (.returned (.bool b)) w3 from fun b => ⟨b, rfl, l', HQ.out.keep (hmW.trans hm3), HX.out.1, HDONE.out, HX.out.2.2.1, HX.out.2.2.2.trans (hmW.trans hm3).nil⟩)
          clear hm3 HLI HDONE HQ HX
          go_wp2
          go_ret
          exact HF.out _
        | true =>
          rw [hl2] at HLI
          have HSTEP := hideIt (show DownW (swapW l' i j1) n j1 from HX.out.2.1.step (by rw [HQ.out.len]; omega) (by omega) (by omega) (by omega) (lessW_le hl2) HMIN.out)
          have HPERM := hideIt ((swapW_perm (l := l') (i := i) (j := j1) (by rw [HQ.out.len]; omega) (by rw [HQ.out.len]; omega)).trans HX.out.1)
          have HSAME := hideIt (show ∀ k, n ≤ k → wat (swapW l' i j1) k = wat l k from fun k hk => by rw [wat_swap (by rw [HQ.out.len]; omega) (by rw [HQ.out.len]; omega), if_neg (by omega), if_neg (by omega)]; exact HX.out.2.2.1 k hk)
          have HSWAP := hideIt (fun W (hm : Mod [] wr W) => swap_any (HQ.out.keep hm).row HQ.out.len (show i < N by omega) (show j1 < N by omega))
          clear hl2
          have hmW : Mod [] wr wr := Mod.refl _ _
          go_wp2_with fail
          refine (HLI.out _ hmW).mono ?_
          rintro e w3 ⟨rfl, hm3⟩
          have hmeth3 := fun M => run_mV (HQ.out.keep (hmW.trans hm3)).q.here sel_Swap M
          have HSW := hideIt (HSWAP.out w3 (hmW.trans hm3))
          have HQ3 := hideIt (HQ.out.keep (hmW.trans hm3))
          have HM3 := hideIt (HX.out.2.2.2.trans (hmW.trans hm3).nil)
          clear hm3 HLI HSWAP HQ HX
          go_wp2_with fail
          refine HSW.out.mono ?_
          intro e w4 hs
          obtain ⟨k1, k2⟩ := HQ3.out.swapped hs (by rw [swapW_length]; exact HQ3.out.len)
          obtain ⟨rfl, _⟩ := hs
          have HN := hideIt (show ∃ l'', QRow w4 qb g N c l'' ∧ l''.Perm l ∧ DownW l'' n j1 ∧ (∀ k, n ≤ k → wat l'' k = wat l k) ∧ Mod [g] w w4 from ⟨_, k1, HPERM.out, HSTEP.out, HSAME.out, HM3.out.trans k2⟩)
          clear k1 k2 HSW HQ3 HM3 HPERM HSTEP HSAME hmeth3
          go_wp2_with fail
          go_roundw
          case rel => exact ⟨j1, by omega, rfl, HN⟩
          case measure => simp [intOf]; omega

end Go.Proofs.YthimaoipogocfaaGreat

namespace Go.Proofs.YthimaoipogocfaaGreat
open Go.RowKit
attribute [local go_sem] run_store_f32 run_neg_inf

/-- the queue as a heap -/
structure QHeap (w : World) (qb : Nat) (l : List Wt) (v : Value) : Prop where
  q : QAt w qb l v
  heap : HeapW l l.length
theorem QHeap.keep {w w' : World} {qb : Nat} {l : List Wt} {v : Value} (h : QHeap w qb l v) (hm : Mod [] w w') : QHeap w' qb l v := ⟨h.q.keep hm, h.heap⟩

def HPushPost (qb : Nat) (l : List Wt) (e0 : Wt) (v : Value) (w : World) (e : Ending) (w' : World) : Prop := e = .returned (.tuple #[]) ∧ ∃ l' v', QHeap w' qb l' v' ∧ l'.Perm (e0 :: l) ∧ (∀ x ∈ v'.ownBlock.toList, x ∈ v.ownBlock.toList ∨ w.heap.size ≤ x) ∧ Mod (qb :: v.ownBlock.toList) w w'

theorem ownV3 {w : World} {T : TypeId} {v : Value} {n : Nat} {xs : List Value} (h : w.ownsRow 0 T 3 v n xs) (hn : 0 < n) : ∃ g c, v = .slice (some ⟨g, 0, none⟩) n c := by
  rcases h.2 with ⟨_, h0⟩ | ⟨g, c, _, h, _⟩
  · omega
  · exact ⟨g, c, h⟩

set_option maxRecDepth 100000 in
set_option maxHeartbeats 1000000 in
theorem hpush_any {w : World} {qb : Nat} {l : List Wt} {v : Value} (h : QHeap w qb l v) (e0 : Wt) (hl : l.length ≤ 90000) :
    Calls Tryz.prog 111 #[qI qb, wtI e0] w (HPushPost qb l e0 v w) := by
  have hmeth := fun M => run_mP (w := w) (qb := qb) sel_Push M
  have HP := hideIt (qpush_any h.q e0 (by omega))
  have hup := h.heap.push e0
  have HU := hideIt hup
  clear h hup
  go_enter Tryz.func111, Tryz.ntmps111
  go_wp2_with fail
  refine HP.out.mono ?_
  rintro e w1 ⟨rfl, v1, k1, k2, k3⟩
  have hlen : (l ++ [e0]).length = l.length + 1 := by simp
  have hrow := k1.row
  rw [hlen] at hrow
  obtain ⟨g, c, rfl⟩ := ownV3 hrow (by omega)
  have hQ : QRow w1 qb g (l.length + 1) c (l ++ [e0]) := ⟨k1, hlen⟩
  have hmeth1 := fun M => run_mV k1.here sel_Len M
  have HUP := hideIt (up_any hQ (by omega) (show l.length < l.length + 1 by omega) HU.out)
  have HFIN := hideIt (show ∀ w2, UpPost qb g (l.length + 1) c (l ++ [e0]) w1 (.returned (.tuple #[])) w2 → HPushPost qb l e0 v w (.returned (.tuple #[])) w2 from fun w2 hs => by
    obtain ⟨_, l', b1, b2, b3, b4⟩ := hs
    refine ⟨rfl, l', _, ⟨b1.q, by rw [b1.len]; exact b3⟩, b2.trans (List.perm_append_singleton e0 l), k2, k3.then b4 (fun x hx => ?_)⟩
    simp only [List.mem_singleton] at hx
    subst hx
    rcases k2 x (by simp [Value.ownBlock]) with h | h
    · exact .inl (by simp at h; simp [h])
    · exact .inr h)
  clear k1 k2 k3 hrow hQ HP HU hmeth hlen
  go_wp2_with fail
  refine qlen_any.mono ?_
  rintro e w2 ⟨rfl, rfl⟩
  go_wp2_with fail
  refine HUP.out.mono ?_
  intro e w2 hs
  have hs' := hs
  obtain ⟨rfl, _⟩ := hs
  have HF := hideIt (HFIN.out w2 hs')
  clear hs' HFIN HUP hmeth1
  go_wp2
  go_end0
  exact HF.out

def HPopPost (qb g n c : Nat) (l : List Wt) (w : World) (e : Ending) (w' : World) : Prop := e = .returned (wtI (wat l 0)) ∧ ∃ l', QHeap w' qb l' (.slice (some ⟨g, 0, none⟩) n c) ∧ l'.length = n ∧ (wat l 0 :: l').Perm l ∧ Mod [qb, g] w w'

set_option maxRecDepth 100000 in
set_option maxHeartbeats 1000000 in
theorem hpop_any {w : World} {qb g n c : Nat} {l : List Wt} (h : QRow w qb g (n + 1) c l) (hh : HeapW l (n + 1)) (hn : n ≤ 90000) :
    Calls Tryz.prog 74 #[qI qb] w (HPopPost qb g n c l w) := by
  have hmeth := fun M => run_mV h.q.here sel_Len M
  have hmethS := fun M => run_mV h.q.here sel_Swap M
  have hlen := h.len
  have HSW := hideIt (swap_any h.row h.len (show 0 < n + 1 by omega) (show n < n + 1 by omega))
  have HD := hideIt (show DownW (swapW l 0 n) n 0 from hh.pop (by omega))
  have HQ := hideIt h
  clear h hh
  go_enter Tryz.func74, Tryz.ntmps74
  go_wp2_with fail
  refine qlen_any.mono ?_
  rintro e w' ⟨rfl, hw⟩
  obtain rfl := hw
  go_wp2_with fail
  refine HSW.out.mono ?_
  intro e w1 hs
  obtain ⟨k1, k2⟩ := HQ.out.swapped hs (by rw [swapW_length]; exact HQ.out.len)
  obtain ⟨rfl, _⟩ := hs
  have HDOWN := hideIt (down_any k1 (by omega) (show n < n + 1 by omega) HD.out)
  have HM1 := hideIt k2
  clear k1 k2 HSW HD hmeth hmethS
  go_wp2_with fail
  refine HDOWN.out.mono ?_
  rintro e w2 ⟨b, rfl, l2, d1, d2, d3, d4, d5⟩
  have hmethP := fun M => run_mP (w := w2) (qb := qb) sel_Pop M
  have HPOP := hideIt (qpop_any d1.q d1.len (by omega))
  have h0n : wat l2 n = wat l 0 := by
    rw [d4 n (Nat.le_refl _), wat_swap (by omega) (by omega), if_pos rfl]
  have HFIN := hideIt (show ∀ w3, PopPost qb g n c l2 w2 (.returned (wtI (wat l2 n))) w3 → HPopPost qb g n c l w (.returned (wtI (wat l2 n))) w3 from fun w3 hs => by
    obtain ⟨_, b1, b2⟩ := hs
    have hl2 := d1.len
    have hlt : (l2.take n).length = n := by rw [List.length_take]; omega
    refine ⟨by rw [h0n], l2.take n, ⟨b1, ?_⟩, hlt, ?_, ((HM1.out.trans d5).mono (by simp)).trans (b2.mono (by simp))⟩
    · rw [hlt]
      intro k hk h0
      have e : ∀ m, m < n → wat (l2.take n) m = wat l2 m := fun m hm => by
        unfold wat
        rw [List.getD_eq_getElem?_getD, List.getD_eq_getElem?_getD, List.getElem?_take, if_pos hm]
      rw [e _ (by omega), e _ (by omega)]
      exact d3 k hk h0
    · have e : l2 = l2.take n ++ [wat l2 n] := by
        have h1 := List.take_append_drop n l2
        have h2 : l2.drop n = [wat l2 n] := by
          have hg := wat_get (l := l2) (k := n) (by omega)
          rw [List.getElem?_eq_getElem (by omega)] at hg
          rw [List.drop_eq_getElem_cons (by omega), Option.some.inj hg, List.drop_eq_nil_of_le (by omega)]
        rw [h2] at h1
        exact h1.symm
      rw [← h0n]
      refine List.Perm.trans ?_ (d2.trans (swapW_perm (by omega) (by omega)))
      conv => rhs; rw [e]
      exact (List.perm_append_singleton _ _).symm)
  clear d1 d2 d3 d4 d5 h0n HDOWN HM1 HQ
  go_wp2_with fail
  refine HPOP.out.mono ?_
  intro e w3 hs
  have hs' := hs
  obtain ⟨rfl, _⟩ := hs
  have HF := hideIt (HFIN.out w3 hs')
  clear hs' HFIN HPOP hmethP
  go_wp2
  go_ret
  exact HF.out

end Go.Proofs.YthimaoipogocfaaGreat

namespace Go.Proofs.YthimaoipogocfaaGreat
open Go.RowKit
attribute [local go_sem] run_store_f32 run_neg_inf

/-! ### how far a place is -/
def besI (n low high : Int) : Int := max (low - n) (max (n - high) 0)
def farI (x y x0 y0 x1 y1 : Int) : Int := besI x x0 x1 * besI x x0 x1 + besI y y0 y1 * besI y y0 y1
def Near9 (n : Int) : Prop := -1000000000 ≤ n ∧ n ≤ 1000000000

theorem max2_int {P : Program} (a b : Int) (w : World) : (Builtin.max2 (.int .i64 a) (.int .i64 b)).run P w = .ok (.int .i64 (max a b)) w := by
  unfold Builtin.max2
  by_cases h : a < b
  · simp [h, Int.max_eq_right (Int.le_of_lt h)]
  · simp [h, Int.max_eq_left (by omega : b ≤ a)]
theorem run_max3 {P : Program} (ts : Array TypeId) (t : TypeId) (a b c : Int) (w : World) : (Builtin.max_ ts t #[.int .i64 a, .int .i64 b, .int .i64 c]).run P w = .ok (.int .i64 (max (max a b) c)) w := by
  simp [Builtin.max_, max2_int]

set_option maxRecDepth 100000 in
theorem beside_any {n low high : Int} (hn : Near9 n) (hl : Near9 low) (hh : Near9 high) (w : World) : Calls Tryz.prog 148 #[.int .i64 n, .int .i64 low, .int .i64 high] w (fun e w' => e = .returned (.int .i64 (besI n low high)) ∧ w' = w) := by
  obtain ⟨n1, n2⟩ := hn
  obtain ⟨l1, l2⟩ := hl
  obtain ⟨h1, h2⟩ := hh
  have hmx := run_max3 (P := Tryz.prog) #[3, 3, 3] 3 (low - n) (n - high) 0
  go_enter Tryz.func148, Tryz.ntmps148
  go_wp2
  go_ret
  exact ⟨rfl, rfl⟩

theorem besI_near {n low high : Int} (hn : Near9 n) (hl : Near9 low) (hh : Near9 high) : 0 ≤ besI n low high ∧ besI n low high ≤ 2000000000 := by
  unfold Near9 at *
  unfold besI
  omega
theorem sq_near {a : Int} (h0 : 0 ≤ a) (h : a ≤ 2000000000) : 0 ≤ a * a ∧ a * a ≤ 4000000000000000000 := ⟨Int.mul_nonneg h0 h0, by
  have := Int.mul_le_mul h h h0 (by omega : (0 : Int) ≤ 2000000000)
  omega⟩
theorem besI_mono {n l h l' h' : Int} (hl : l' ≤ l) (hh : h ≤ h') : besI n l' h' ≤ besI n l h := by
  unfold besI
  omega
theorem besI_pos (n l h : Int) : 0 ≤ besI n l h := by unfold besI; omega
theorem farI_mono {x y a0 a1 a2 a3 b0 b1 b2 b3 : Int} (h0 : b0 ≤ a0) (h1 : b1 ≤ a1) (h2 : a2 ≤ b2) (h3 : a3 ≤ b3) : farI x y b0 b1 b2 b3 ≤ farI x y a0 a1 a2 a3 := by
  unfold farI
  have k1 := besI_mono (n := x) h0 h2
  have k2 := besI_mono (n := y) h1 h3
  exact Int.add_le_add (Int.mul_le_mul k1 k1 (besI_pos _ _ _) (besI_pos _ _ _)) (Int.mul_le_mul k2 k2 (besI_pos _ _ _) (besI_pos _ _ _))

set_option maxRecDepth 100000 in
set_option maxHeartbeats 400000 in
theorem far_any {x y x0 y0 x1 y1 : Int} (hx : Near9 x) (hy : Near9 y) (h0 : Near9 x0) (h1 : Near9 y0) (h2 : Near9 x1) (h3 : Near9 y1) (w : World) : Calls Tryz.prog 112 #[R4 x0 y0 x1 y1, .int .i64 x, .int .i64 y] w (IntPost (farI x y x0 y0 x1 y1) w) := by
  obtain ⟨a1, a2⟩ := besI_near hx h0 h2
  obtain ⟨b1, b2⟩ := besI_near hy h1 h3
  obtain ⟨a3, a4⟩ := sq_near a1 a2
  obtain ⟨b3, b4⟩ := sq_near b1 b2
  have HE := hideIt (show farI x y x0 y0 x1 y1 = besI x x0 x1 * besI x x0 x1 + besI y y0 y1 * besI y y0 y1 from rfl)
  go_enter Tryz.func112, Tryz.ntmps112
  go_wp2_with fail
  go_region_held (fun w' => w'.cell? ⟨w.heap.size, 0, none⟩ = some (.int .i64 x0) ∧ w'.cell? ⟨w.heap.size, 1, none⟩ = some (.int .i64 y0) ∧ w'.cell? ⟨w.heap.size, 2, none⟩ = some (.int .i64 x1) ∧ w'.cell? ⟨w.heap.size, 3, none⟩ = some (.int .i64 y1))
    ((go_keep))
    ((go_at_call 148; refine (beside_any (by assumption) (by assumption) (by assumption) _).mono ?_; rintro e w' ⟨rfl, rfl⟩))
  all_goals
    go_wp2
    go_ret
    exact ⟨by rw [HE.out]; rfl, (Mod.alloc _ _).trans (Mod.drew _)⟩

def bxFar (x y : Int) (b : Bx) : Int := farI x y (truncW b.x0) (truncW b.y0) (truncW b.x1) (truncW b.y1)
def tgFar (x y : Int) (t : Tg) : Int := farI x y t.x0 t.y0 t.x1 t.y1

set_option maxRecDepth 100000 in
theorem bxFar_any {x y : Int} {b : Bx} (hx : Near9 x) (hy : Near9 y) (hb : b.Ok) (w : World) : Calls Tryz.prog 113 #[bxV b, .int .i64 x, .int .i64 y] w (IntPost (bxFar x y b) w) := by
  have HW := hideIt (whole_any hb)
  have HFR := hideIt (far_any hx hy hb.out.1.2 hb.out.2.1.2 hb.out.2.2.1.2 hb.out.2.2.2.2)
  have HE := hideIt (show bxFar x y b = farI x y (truncW b.x0) (truncW b.y0) (truncW b.x1) (truncW b.y1) from rfl)
  generalize farI x y (truncW b.x0) (truncW b.y0) (truncW b.x1) (truncW b.y1) = d at *
  clear hx hy hb
  go_enter Tryz.func113, Tryz.ntmps113
  go_wp2_with fail
  refine (HW.out _).mono ?_
  rintro e w1 ⟨rfl, hm⟩
  go_wp2_with fail
  refine (HFR.out _).mono ?_
  rintro e w2 ⟨rfl, hm2⟩
  have HM := hideIt (((Mod.alloc _ _).trans hm).trans hm2)
  clear hm hm2
  go_wp2
  go_ret
  exact ⟨by rw [HE.out]; rfl, HM.out⟩

/-- a box is no farther than what lies in it -/
theorem bxFar_le {x y : Int} {t : Tg} {b : Bx} (hr : RectOk t.x0 t.y0 t.x1 t.y1) (hin : t.bx.In b) : bxFar x y b ≤ tgFar x y t := by
  obtain ⟨⟨r1, r2, r3⟩, r4, r5, r6⟩ := hr
  obtain ⟨i1, i2, i3, i4⟩ := hin
  have d0 := (down_is t.x0 r1 (by omega)).2.1
  have d1 := (down_is t.y0 r4 (by omega)).2.1
  have d2 := (up_is t.x1 (by omega) r3).2.1
  have d3 := (up_is t.y1 (by omega) r6).2.1
  exact farI_mono (Int.le_trans (trunc_mono i1) d0) (Int.le_trans (trunc_mono i2) d1) (Int.le_trans d2 (trunc_mono i3)) (Int.le_trans d3 (trunc_mono i4))

end Go.Proofs.YthimaoipogocfaaGreat

namespace Go.Proofs.YthimaoipogocfaaGreat
open Go.RowKit
attribute [local go_sem] run_store_f32 run_neg_inf

/-! ### open: what a node holds waits -/
def tgW (x y : Int) (t : Tg) : Wt := ⟨t.id, tgFar x y t, none, [t]⟩
def kdW (x y : Int) (c : Kd) : Wt := ⟨-1, bxFar x y c.bx, some c.p, c.ts⟩

structure Opened (qb : Nat) (es l : List Wt) (G : List Nat) (w0 wr : World) : Prop where
  out : ∃ l' v', QHeap wr qb l' v' ∧ l'.Perm (es ++ l) ∧ (∀ x ∈ v'.ownBlock.toList, x ∈ G ∨ w0.heap.size ≤ x) ∧ Mod G w0 wr
def OpenPost (qb : Nat) (es l : List Wt) (G : List Nat) (w : World) (e : Ending) (w' : World) : Prop := e = .returned (.tuple #[]) ∧ Opened qb es l G w w'

theorem Opened.refl {qb : Nat} {l : List Wt} {v : Value} {w : World} (h : QHeap w qb l v) : Opened qb [] l (qb :: v.ownBlock.toList) w w := ⟨l, v, h, List.Perm.refl _, fun x hx => .inl (by simp [hx]), Mod.refl _ _⟩
theorem Opened.mod {qb : Nat} {es l : List Wt} {G : List Nat} {w0 wr : World} (h : Opened qb es l G w0 wr) : Mod G w0 wr := by
  obtain ⟨_, _, _, _, _, h⟩ := h.out
  exact h
theorem Opened.keep {qb : Nat} {es l : List Wt} {G : List Nat} {w0 wr w' : World} (h : Opened qb es l G w0 wr) (hm : Mod [] wr w') : Opened qb es l G w0 w' := by
  obtain ⟨l', v', h1, h2, h3, h4⟩ := h.out
  exact ⟨l', v', h1.keep hm, h2, h3, h4.trans hm.nil⟩
/-- one more waits -/
theorem Opened.push {qb : Nat} {es l : List Wt} {G : List Nat} {w0 wr : World} (h : Opened qb es l G w0 wr) (hG : qb ∈ G) (e0 : Wt) (hl : es.length + l.length ≤ 90000) :
    Calls Tryz.prog 111 #[qI qb, wtI e0] wr (OpenPost qb (es ++ [e0]) l G w0) := by
  obtain ⟨l', v', h1, h2, h3, h4⟩ := h.out
  have hlen : l'.length ≤ 90000 := by rw [h2.length_eq, List.length_append]; omega
  refine (hpush_any h1 e0 hlen).mono ?_
  rintro e w1 ⟨rfl, l1, v1, k1, k2, k3, k4⟩
  have hs := h4.size
  refine ⟨rfl, l1, v1, k1, ?_, fun x hx => ?_, h4.then k4 (fun x hx => ?_)⟩
  · refine k2.trans ((h2.cons e0).trans ?_)
    rw [List.append_assoc]
    exact List.perm_middle.symm
  · rcases k3 x hx with h | h
    · exact h3 x h
    · exact .inr (by omega)
  · rcases List.mem_cons.1 hx with rfl | hx
    · exact .inl hG
    · exact h3 x hx

set_option maxRecDepth 100000 in
set_option maxHeartbeats 2000000 in
theorem open_leaf {w : World} {x y : Int} (hx : Near9 x) (hy : Near9 y) {k : Kd} {r cc : Nat} (hl : LeafAt w k (.slice (some ⟨r, 0, none⟩) k.n cc)) {qb : Nat} {l : List Wt} {v : Value} (hq : QHeap w qb l v) (hG : ∀ z ∈ k.F, z ∉ qb :: v.ownBlock.toList) (hn : k.n + l.length ≤ 90000) :
    Calls Tryz.prog 75 #[.pointer (some ⟨qb, 0, none⟩), .pointer (some ⟨k.p, 0, none⟩), .int .i64 x, .int .i64 y] w (OpenPost qb (k.ts.map (tgW x y)) l (qb :: v.ownBlock.toList) w) := by
  obtain ⟨c4, c5⟩ := cell_ndO hl.here
  have HS0 := hideIt (Opened.refl hq)
  have HQG := hideIt (show qb ∈ qb :: v.ownBlock.toList by simp)
  have HL := hideIt hl
  have hlen := hl.len
  generalize qb :: v.ownBlock.toList = G at *
  have HG := hideIt hG
  clear hl hq hG
  go_enter Tryz.func75, Tryz.ntmps75
  go_wp2_with fail
  go_loopw [17] (fun i wr => ∃ kk : Nat, kk ≤ k.n ∧ i = .int .i64 kk ∧ Hid (Opened qb ((k.ts.take kk).map (tgW x y)) l G w wr)) (fun i _ => k.n - (intOf i).toNat)
  case atStart => exact ⟨0, by omega, rfl, hideIt (by simpa using HS0.out)⟩
  case round =>
    clear c4 c5
    obtain ⟨kk, hkk, rfl, hR⟩ := hrel
    by_cases hlt : kk < k.n
    · have hlt' : (kk : Int) < (k.n : Int) := by omega
      have hkl : kk < k.ts.length := by omega
      have hmr := hR.out.mod
      have hl' := HL.out.kept hmr HG.out
      obtain ⟨rest, hro, _, _, _, _, _⟩ := owns_rowT hl'.row
      have htm : k.ts[kk] ∈ k.ts := List.getElem_mem hkl
      have hstep : k.ts.take (kk + 1) = k.ts.take kk ++ [k.ts[kk]] := List.take_succ_eq_append_getElem hkl
      have cI := rowO_get hro (j := kk) (p := k.ts[kk].blk) (by simp [tblks, hkl])
      have hT := HL.out.things _ htm
      have hbF : k.ts[kk].blk ∉ G := HG.out _ (by
        rw [HL.out.foot]
        exact List.mem_cons_of_mem _ (List.mem_append_right _ (List.mem_map.2 ⟨_, htm, rfl⟩)))
      have HST := hideIt hstep
      have hes : ((k.ts.take kk).map (tgW x y)).length ≤ kk := by simp; omega
      have HES := hideIt hes
      clear hmr hl' hro htm hstep hes
      generalize k.ts[kk] = t at *
      generalize hge : (k.ts.take kk).map (tgW x y) = es at *
      have HGE := hideIt hge
      obtain ⟨⟨r1, r2, r3⟩, r4, r5, r6⟩ := hT.rect
      have n0 : Near9 t.x0 := ⟨r1, by omega⟩
      have n1 : Near9 t.y0 := ⟨r4, by omega⟩
      have n2 : Near9 t.x1 := ⟨by omega, r3⟩
      have n3 : Near9 t.y1 := ⟨by omega, r6⟩
      have HKEEP := hideIt (show ∀ w', Mod G w w' → w'.cell? ⟨t.blk, 4, none⟩ = some (.int .i64 t.id) ∧ w'.cell? ⟨t.blk, 5, none⟩ = some (.int .i64 t.x0) ∧ w'.cell? ⟨t.blk, 6, none⟩ = some (.int .i64 t.y0) ∧ w'.cell? ⟨t.blk, 7, none⟩ = some (.int .i64 t.x1) ∧ w'.cell? ⟨t.blk, 8, none⟩ = some (.int .i64 t.y1) from fun w' hm => by
        have hh := (hT.kept hm hbF).here
        refine ⟨?_, ?_, ?_, ?_, ?_⟩ <;> rw [cell_of_block hh] <;> rfl)
      have HPU := hideIt (show ∀ W, Opened qb es l G w W → Calls Tryz.prog 111 #[qI qb, .iface 138 (.agg #[.int .i64 t.id, .int .i64 (farI x y t.x0 t.y0 t.x1 t.y1), .pointer none])] W (OpenPost qb (es ++ [tgW x y t]) l G w) from fun W h => Opened.push h HQG.out (tgW x y t) (by have := HES.out; omega))
      clear r1 r2 r3 r4 r5 r6 hT hbF hge
      go_wp2_with fail
      go_region_held (fun w' => w'.cell? ⟨t.blk, 4, none⟩ = some (.int .i64 t.id) ∧ w'.cell? ⟨t.blk, 5, none⟩ = some (.int .i64 t.x0) ∧ w'.cell? ⟨t.blk, 6, none⟩ = some (.int .i64 t.y0) ∧ w'.cell? ⟨t.blk, 7, none⟩ = some (.int .i64 t.x1) ∧ w'.cell? ⟨t.blk, 8, none⟩ = some (.int .i64 t.y1))
        ((first
          | exact HKEEP.out _ (hR.out.mod.trans (Mod.drew _))
          | exact HKEEP.out _ (hR.out.mod.trans ((Mod.drew _).trans hm2).nil)
          | exact HKEEP.out _ hop.mod))
        ((first
          | (go_at_call 112; refine (far_any (by assumption) (by assumption) (by assumption) (by assumption) (by assumption) (by assumption) _).mono ?_; rintro e w2 ⟨rfl, hm2⟩)
          | (go_at_call 111; refine (HPU.out _ (hR.out.keep ((Mod.drew _).trans hm2))).mono ?_; rintro e w3 ⟨rfl, hop⟩)))
      all_goals
        have HF := hideIt hop
        clear hop hm2 cI n0 n1 n2 n3
        go_wp2_with fail
        go_roundw
        case rel => exact ⟨kk + 1, by omega, by go_num, hideIt (by rw [HST.out, List.map_append, HGE.out]; exact HF.out)⟩
        case measure => simp [intOf]; omega
    · have hkn : kk = k.n := by omega
      subst hkn
      obtain ⟨c4, c5⟩ := cell_ndO (HL.out.kept hR.out.mod HG.out).here
      have hall : k.ts.take k.n = k.ts := by rw [← hlen]; exact List.take_length
      rw [hall] at hR
      clear hall hlt
      go_wp2_with fail
      go_loopw [44] (fun i w2 => i = .int .i64 0 ∧ w2 = wr) (fun _ _ => 0)
      case atStart => exact ⟨rfl, rfl⟩
      case round =>
        obtain ⟨rfl, rfl⟩ := hrel
        go_wp2
        go_end0
        exact ⟨rfl, hR.out⟩

set_option maxRecDepth 100000 in
set_option maxHeartbeats 2000000 in
theorem open_inner {w : World} {x y : Int} (hx : Near9 x) (hy : Near9 y) {fan lo h : Nat} {k : Kd} {ks : List Kd} {r cc : Nat} (h0 : 0 < lo) (hl : InnerAt w k (.slice (some ⟨r, 0, none⟩) k.n cc) ks) (hK : ∀ c ∈ ks, NodeAt w fan lo h c ∧ lo ≤ c.n ∧ c.n ≤ fan) {qb : Nat} {l : List Wt} {v : Value} (hq : QHeap w qb l v) (hG : ∀ z ∈ k.F, z ∉ qb :: v.ownBlock.toList) (hn : k.n + l.length ≤ 90000) :
    Calls Tryz.prog 75 #[.pointer (some ⟨qb, 0, none⟩), .pointer (some ⟨k.p, 0, none⟩), .int .i64 x, .int .i64 y] w (OpenPost qb (ks.map (kdW x y)) l (qb :: v.ownBlock.toList) w) := by
  obtain ⟨c4, c5⟩ := cell_ndO hl.here
  have HS0 := hideIt (Opened.refl hq)
  have HQG := hideIt (show qb ∈ qb :: v.ownBlock.toList by simp)
  have HL := hideIt hl
  have hlen := hl.len
  have HK := hideIt hK
  have HLO := hideIt h0
  generalize qb :: v.ownBlock.toList = G at *
  have HG := hideIt hG
  clear hl hq hG hK h0
  go_enter Tryz.func75, Tryz.ntmps75
  go_wp2_with fail
  go_loopw [17] (fun i w2 => i = .int .i64 0 ∧ w = w2) (fun _ _ => 0)
  case atStart => exact ⟨rfl, rfl⟩
  case round =>
    obtain ⟨rfl, rfl⟩ := hrel
    go_wp2_with fail
    go_loopw [44] (fun i wr => ∃ kk : Nat, kk ≤ k.n ∧ i = .int .i64 kk ∧ Hid (Opened qb ((ks.take kk).map (kdW x y)) l G w wr)) (fun i _ => k.n - (intOf i).toNat)
    case atStart => exact ⟨0, by omega, rfl, hideIt (by simpa using HS0.out)⟩
    case round =>
      clear c4 c5
      obtain ⟨kk, hkk, rfl, hR⟩ := hrel
      by_cases hlt : kk < k.n
      · have hlt' : (kk : Int) < (k.n : Int) := by omega
        have hkl : kk < ks.length := by omega
        have hmr := hR.out.mod
        have hl' := HL.out.kept hmr HG.out
        obtain ⟨rest, hro, hnc, _, _, _, hcm⟩ := owns_rowT hl'.row
        have hbig : k.n ≤ 9223372036854775807 := by unfold maxLen at hcm; omega
        clear hnc hcm
        have htm : ks[kk] ∈ ks := List.getElem_mem hkl
        have hstep : ks.take (kk + 1) = ks.take kk ++ [ks[kk]] := List.take_succ_eq_append_getElem hkl
        have cI := rowO_get hro (j := kk) (p := ks[kk].p) (by simp [kblks, hkl])
        have hFk := HL.out.kid_F htm
        have hT := (HK.out _ htm).1.kept hmr (fun x hx => HG.out x (hFk x hx))
        have hok : ks[kk].bx.Ok := KidOk.bxok (HK.out _ htm) HLO.out
        obtain ⟨t0, t1, t2, t3⟩ := (show Cells4 wr ks[kk].p ks[kk].bx from by
          obtain ⟨rs, hh⟩ := hT.hasBx
          exact cell_bxC hh)
        have HST := hideIt hstep
        have hes : ((ks.take kk).map (kdW x y)).length ≤ kk := by simp; omega
        have HES := hideIt hes
        have HBF := hideIt (fun W => bxFar_any (x := x) (y := y) hx hy hok W)
        clear hmr hl' hro htm hstep hes hT hFk hok
        generalize ks[kk] = t at *
        generalize hge : (ks.take kk).map (kdW x y) = es at *
        have HGE := hideIt hge
        have HPU := hideIt (show ∀ W, Opened qb es l G w W → Calls Tryz.prog 111 #[qI qb, .iface 138 (.agg #[.int .i64 (-1), .int .i64 (bxFar x y t.bx), .pointer (some ⟨t.p, 0, none⟩)])] W (OpenPost qb (es ++ [kdW x y t]) l G w) from fun W h => Opened.push h HQG.out (kdW x y t) (by have := HES.out; omega))
        clear hge
        go_wp2_with fail
        refine (HBF.out _).mono ?_
        rintro e w2 ⟨rfl, hm2⟩
        have HM2 := hideIt hm2
        clear hm2 t0 t1 t2 t3 cI
        go_wp2_with fail
        refine (HPU.out _ (hR.out.keep HM2.out)).mono ?_
        rintro e w3 ⟨rfl, hop⟩
        have HF := hideIt hop
        clear hop
        go_wp2_with fail
        go_roundw
        case rel => exact ⟨kk + 1, by omega, by go_num, hideIt (by rw [HST.out, List.map_append, HGE.out]; exact HF.out)⟩
        case measure => simp [intOf]; omega
      · have hkn : kk = k.n := by omega
        subst hkn
        have hall : ks.take k.n = ks := by rw [← hlen, List.take_length]
        rw [hall] at hR
        clear hall hlt
        go_wp2
        go_end0
        exact ⟨rfl, hR.out⟩

set_option maxRecDepth 100000 in
theorem open_none {w : World} {x y : Int} {k : Kd} (hh : w.heap[k.p]? = some (ndO k.bx (.slice none 0 0) (.slice none 0 0))) {qb : Nat} {l : List Wt} {v : Value} (hq : QHeap w qb l v) :
    Calls Tryz.prog 75 #[.pointer (some ⟨qb, 0, none⟩), .pointer (some ⟨k.p, 0, none⟩), .int .i64 x, .int .i64 y] w (OpenPost qb [] l (qb :: v.ownBlock.toList) w) := by
  obtain ⟨c4, c5⟩ := cell_ndO hh
  have HS0 := hideIt (Opened.refl hq)
  clear hh hq
  go_enter Tryz.func75, Tryz.ntmps75
  go_wp2_with fail
  go_loopw [17] (fun i w2 => i = .int .i64 0 ∧ w2 = w) (fun _ _ => 0)
  case atStart => exact ⟨rfl, rfl⟩
  case round =>
    obtain ⟨rfl, rfl⟩ := hrel
    go_wp2_with fail
    go_loopw [44] (fun i w2 => i = .int .i64 0 ∧ w2 = wr) (fun _ _ => 0)
    case atStart => exact ⟨rfl, rfl⟩
    case round =>
      obtain ⟨rfl, rfl⟩ := hrel
      go_wp2
      go_end0
      exact ⟨rfl, HS0.out⟩

end Go.Proofs.YthimaoipogocfaaGreat

