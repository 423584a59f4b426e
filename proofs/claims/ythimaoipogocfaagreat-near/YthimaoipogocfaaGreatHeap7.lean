import Derived.Test.YthimaoipogocfaaGreatHeap6
namespace Go.Proofs.YthimaoipogocfaaGreat
open Go.RowKit
attribute [local go_sem] run_store_f32 run_neg_inf

/-- the queue as a heap -/
structure QHeap (w : World) (qb : Nat) (l : List Wt) (v : Value) : Prop where
  q : QAt w qb l v
  heap : HeapW l l.length
theorem QHeap.keep {w w' : World} {qb : Nat} {l : List Wt} {v : Value} (h : QHeap w qb l v) (hm : Mod [] w w') : QHeap w' qb l v := ⟨h.q.keep hm, h.heap⟩

def HPushPost (qb : Nat) (l : List Wt) (e0 : Wt) (v : Value) (w : World) (e : Ending) (w' : World) : Prop := e = .returned (.tuple #[]) ∧ ∃ l' v', QHeap w' qb l' v' ∧ l'.Perm (e0 :: l) ∧ (∀ x ∈ v'.ownBlock.toList, x ∈ v.ownBlock.toList ∨ w.heap.size ≤ x) ∧ Mod (qb :: v.ownBlock.toList) w w'

theorem ownV3 {w : World} {T : TypeId} {v : Value} {n : Nat} {xs : List Value} (h : w.ownsRow 0 T 3 v n xs) (hn : 0 < n) : ∃ g c, v = .slice (some ⟨g, 0, none⟩) n c := by
  rcases h.2 with ⟨_, h0⟩ | ⟨g, c, _, h, _⟩
  · omega
  · exact ⟨g, c, h⟩

set_option maxRecDepth 100000 in
set_option maxHeartbeats 1000000 in
theorem hpush_any {w : World} {qb : Nat} {l : List Wt} {v : Value} (h : QHeap w qb l v) (e0 : Wt) (hl : l.length ≤ 90000) :
    Calls Tryz.prog 111 #[qI qb, wtI e0] w (HPushPost qb l e0 v w) := by
  have hmeth := fun M => run_mP (w := w) (qb := qb) sel_Push M
  have HP := hideIt (qpush_any h.q e0 (by omega))
  have hup := h.heap.push e0
  have HU := hideIt hup
  clear h hup
  go_enter Tryz.func111, Tryz.ntmps111
  go_wp2_with fail
  refine HP.out.mono ?_
  rintro e w1 ⟨rfl, v1, k1, k2, k3⟩
  have hlen : (l ++ [e0]).length = l.length + 1 := by simp
  have hrow := k1.row
  rw [hlen] at hrow
  obtain ⟨g, c, rfl⟩ := ownV3 hrow (by omega)
  have hQ : QRow w1 qb g (l.length + 1) c (l ++ [e0]) := ⟨k1, hlen⟩
  have hmeth1 := fun M => run_mV k1.here sel_Len M
  have HUP := hideIt (up_any hQ (by omega) (show l.length < l.length + 1 by omega) HU.out)
  have HFIN := hideIt (show ∀ w2, UpPost qb g (l.length + 1) c (l ++ [e0]) w1 (.returned (.tuple #[])) w2 → HPushPost qb l e0 v w (.returned (.tuple #[])) w2 from fun w2 hs => by
    obtain ⟨_, l', b1, b2, b3, b4⟩ := hs
    refine ⟨rfl, l', _, ⟨b1.q, by rw [b1.len]; exact b3⟩, b2.trans (List.perm_append_singleton e0 l), k2, k3.then b4 (fun x hx => ?_)⟩
    simp only [List.mem_singleton] at hx
    subst hx
    rcases k2 x (by simp [Value.ownBlock]) with h | h
    · exact .inl (by simp at h; simp [h])
    · exact .inr h)
  clear k1 k2 k3 hrow hQ HP HU hmeth hlen
  go_wp2_with fail
  refine qlen_any.mono ?_
  rintro e w2 ⟨rfl, rfl⟩
  go_wp2_with fail
  refine HUP.out.mono ?_
  intro e w2 hs
  have hs' := hs
  obtain ⟨rfl, _⟩ := hs
  have HF := hideIt (HFIN.out w2 hs')
  clear hs' HFIN HUP hmeth1
  go_wp2
  go_end0
  exact HF.out

def HPopPost (qb g n c : Nat) (l : List Wt) (w : World) (e : Ending) (w' : World) : Prop := e = .returned (wtI (wat l 0)) ∧ ∃ l', QHeap w' qb l' (.slice (some ⟨g, 0, none⟩) n c) ∧ l'.length = n ∧ (wat l 0 :: l').Perm l ∧ Mod [qb, g] w w'

set_option maxRecDepth 100000 in
set_option maxHeartbeats 1000000 in
theorem hpop_any {w : World} {qb g n c : Nat} {l : List Wt} (h : QRow w qb g (n + 1) c l) (hh : HeapW l (n + 1)) (hn : n ≤ 90000) :
    Calls Tryz.prog 74 #[qI qb] w (HPopPost qb g n c l w) := by
  have hmeth := fun M => run_mV h.q.here sel_Len M
  have hmethS := fun M => run_mV h.q.here sel_Swap M
  have hlen := h.len
  have HSW := hideIt (swap_any h.row h.len (show 0 < n + 1 by omega) (show n < n + 1 by omega))
  have HD := hideIt (show DownW (swapW l 0 n) n 0 from hh.pop (by omega))
  have HQ := hideIt h
  clear h hh
  go_enter Tryz.func74, Tryz.ntmps74
  go_wp2_with fail
  refine qlen_any.mono ?_
  rintro e w' ⟨rfl, hw⟩
  obtain rfl := hw
  go_wp2_with fail
  refine HSW.out.mono ?_
  intro e w1 hs
  obtain ⟨k1, k2⟩ := HQ.out.swapped hs (by rw [swapW_length]; exact HQ.out.len)
  obtain ⟨rfl, _⟩ := hs
  have HDOWN := hideIt (down_any k1 (by omega) (show n < n + 1 by omega) HD.out)
  have HM1 := hideIt k2
  clear k1 k2 HSW HD hmeth hmethS
  go_wp2_with fail
  refine HDOWN.out.mono ?_
  rintro e w2 ⟨b, rfl, l2, d1, d2, d3, d4, d5⟩
  have hmethP := fun M => run_mP (w := w2) (qb := qb) sel_Pop M
  have HPOP := hideIt (qpop_any d1.q d1.len (by omega))
  have h0n : wat l2 n = wat l 0 := by
    rw [d4 n (Nat.le_refl _), wat_swap (by omega) (by omega), if_pos rfl]
  have HFIN := hideIt (show ∀ w3, PopPost qb g n c l2 w2 (.returned (wtI (wat l2 n))) w3 → HPopPost qb g n c l w (.returned (wtI (wat l2 n))) w3 from fun w3 hs => by
    obtain ⟨_, b1, b2⟩ := hs
    have hl2 := d1.len
    have hlt : (l2.take n).length = n := by rw [List.length_take]; omega
    refine ⟨by rw [h0n], l2.take n, ⟨b1, ?_⟩, hlt, ?_, ((HM1.out.trans d5).mono (by simp)).trans (b2.mono (by simp))⟩
    · rw [hlt]
      intro k hk h0
      have e : ∀ m, m < n → wat (l2.take n) m = wat l2 m := fun m hm => by
        unfold wat
        rw [List.getD_eq_getElem?_getD, List.getD_eq_getElem?_getD, List.getElem?_take, if_pos hm]
      rw [e _ (by omega), e _ (by omega)]
      exact d3 k hk h0
    · have e : l2 = l2.take n ++ [wat l2 n] := by
        have h1 := List.take_append_drop n l2
        have h2 : l2.drop n = [wat l2 n] := by
          have hg := wat_get (l := l2) (k := n) (by omega)
          rw [List.getElem?_eq_getElem (by omega)] at hg
          rw [List.drop_eq_getElem_cons (by omega), Option.some.inj hg, List.drop_eq_nil_of_le (by omega)]
        rw [h2] at h1
        exact h1.symm
      rw [← h0n]
      refine List.Perm.trans ?_ (d2.trans (swapW_perm (by omega) (by omega)))
      conv => rhs; rw [e]
      exact (List.perm_append_singleton _ _).symm)
  clear d1 d2 d3 d4 d5 h0n HDOWN HM1 HQ
  go_wp2_with fail
  refine HPOP.out.mono ?_
  intro e w3 hs
  have hs' := hs
  obtain ⟨rfl, _⟩ := hs
  have HF := hideIt (HFIN.out w3 hs')
  clear hs' HFIN HPOP hmethP
  go_wp2
  go_ret
  exact HF.out

end Go.Proofs.YthimaoipogocfaaGreat
