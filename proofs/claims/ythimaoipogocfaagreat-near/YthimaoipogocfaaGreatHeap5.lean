import Derived.Test.YthimaoipogocfaaGreatHeap4
namespace Go.Proofs.YthimaoipogocfaaGreat
open Go.RowKit
attribute [local go_sem] run_store_f32 run_neg_inf

theorem owns_shrink {w : World} {e : TypeId} {size g n m c : Nat} {xs : List Value} (h : w.ownsRow 0 e size (.slice (some ⟨g, 0, none⟩) n c) n xs) (hm : m ≤ n) : w.ownsRow 0 e size (.slice (some ⟨g, 0, none⟩) m c) m (xs.take (m * size)) := by
  have hl := h.1
  have hms : m * size ≤ n * size := Nat.mul_le_mul_right _ hm
  refine ⟨by rw [List.length_take]; omega, ?_⟩
  rcases h.2 with ⟨h0, _⟩ | ⟨g', cap, cur, hv, hb, hg, hnc, hcm, hcs, htake⟩
  · cases h0
  · simp only [Value.slice.injEq, Option.some.injEq, Addr.mk.injEq, and_true, true_and] at hv
    obtain ⟨rfl, rfl⟩ := hv
    exact .inr ⟨g, c, cur, rfl, hb, hg, by omega, hcm, hcs, by rw [← htake, List.take_take, Nat.min_eq_left hms]⟩
theorem wtsV_take (l : List Wt) (n : Nat) (h : n ≤ l.length) : wtsV (l.take n) = (wtsV l).take (n * 3) := by
  have e : wtsV l = wtsV (l.take n) ++ wtsV (l.drop n) := by rw [← wtsV_append, List.take_append_drop]
  rw [e]
  refine (List.take_left' ?_).symm
  rw [wtsV_length, List.length_take, Nat.min_eq_left h]

def PopPost (qb g n c : Nat) (l : List Wt) (w : World) (e : Ending) (w' : World) : Prop := e = .returned (wtI (wat l n)) ∧ QAt w' qb (l.take n) (.slice (some ⟨g, 0, none⟩) n c) ∧ Mod [qb] w w'

set_option maxRecDepth 100000 in
set_option maxHeartbeats 1000000 in
theorem qpop_any {w : World} {qb g n c : Nat} {l : List Wt} (h : QAt w qb l (.slice (some ⟨g, 0, none⟩) (n + 1) c)) (hl : l.length = n + 1) (hn : n ≤ 100000) :
    Calls Tryz.prog 231 #[.pointer (some ⟨qb, 0, none⟩)] w (PopPost qb g n c l w) := by
  have hrow := h.row
  rw [hl] at hrow
  obtain ⟨i0, i1, i2⟩ := wt_cells hrow (k := n) (by omega)
  have cq := cell_qO h.here
  have fz := frozen_of_block h.here 0
  have hlt := lt_of_block h.here
  have hcap : n + 1 ≤ c := by
    rcases hrow.2 with ⟨h0, _⟩ | ⟨g', cap, cur, hv, hb, hg, hnc, _⟩
    · cases h0
    · simp only [Value.slice.injEq, Option.some.injEq, Addr.mk.injEq, and_true, true_and] at hv
      obtain ⟨rfl, rfl⟩ := hv
      exact hnc
  have HF := hideIt (show ∀ W, W = w.setCell ⟨qb, 0, none⟩ (.slice (some ⟨g, 0, none⟩) n c) → QAt W qb (l.take n) (.slice (some ⟨g, 0, none⟩) n c) ∧ Mod [qb] w W from fun W hW => by
    subst hW
    have hms := Mod.setCell (F := [qb]) w ⟨qb, 0, none⟩ (.slice (some ⟨g, 0, none⟩) n c) (by simp)
    have hne : qb ≠ g := fun e => h.ne (by rw [e]; simp [Value.ownBlock])
    have hlen : (l.take n).length = n := by rw [List.length_take]; omega
    refine ⟨⟨qO_set h.here _, ?_, by simpa [Value.ownBlock] using hne⟩, hms⟩
    rw [hlen, wtsV_take l n (by omega)]
    exact owns_kept (owns_shrink hrow (by omega)) hms (fun k hk => by simp [Value.ownBlock] at hk; subst hk; simpa using fun e => hne e.symm))
  simp only [ptrN] at i2
  clear hrow h
  go_enter Tryz.func231, Tryz.ntmps231
  go_wp2
  obtain ⟨k1, k2⟩ := HF.out _ rfl
  have HP := hideIt (show ∀ o, QAt ((w.setCell ⟨qb, 0, none⟩ (.slice (some ⟨g, 0, none⟩) n c)).alloc o) qb (l.take n) (.slice (some ⟨g, 0, none⟩) n c) ∧ Mod [qb] w ((w.setCell ⟨qb, 0, none⟩ (.slice (some ⟨g, 0, none⟩) n c)).alloc o) from fun o => ⟨k1.keep (Mod.alloc _ _), k2.trans (Mod.alloc _ _)⟩)
  clear k1 k2 HF
  go_ret
  exact ⟨rfl, (HP.out _).1, (HP.out _).2⟩

/-! ### container/heap over the queue -/
abbrev qI (qb : Nat) : Value := .iface 136 (.pointer (some ⟨qb, 0, none⟩))

/-- the queue, its row written out -/
structure QRow (w : World) (qb g n c : Nat) (l : List Wt) : Prop where
  q : QAt w qb l (.slice (some ⟨g, 0, none⟩) n c)
  len : l.length = n
theorem QRow.row {w : World} {qb g n c : Nat} {l : List Wt} (h : QRow w qb g n c l) : w.ownsRow 0 138 3 (.slice (some ⟨g, 0, none⟩) n c) n (wtsV l) := by
  have := h.q.row
  rw [h.len] at this
  exact this
theorem QRow.keep {w w' : World} {qb g n c : Nat} {l : List Wt} (h : QRow w qb g n c l) (hm : Mod [] w w') : QRow w' qb g n c l := ⟨h.q.keep hm, h.len⟩
theorem QRow.ne {w : World} {qb g n c : Nat} {l : List Wt} (h : QRow w qb g n c l) : qb ≠ g := fun e => h.q.ne (by rw [e]; simp [Value.ownBlock])
theorem QRow.swapped {w w' : World} {qb g n c : Nat} {l l' : List Wt} {e : Ending} (h : QRow w qb g n c l) (hs : SwapPost g n c l' w e w') (hl : l'.length = n) : QRow w' qb g n c l' ∧ Mod [g] w w' := by
  obtain ⟨_, k1, k2⟩ := hs
  refine ⟨⟨⟨(k2.block qb (lt_of_block h.q.here) (by simpa using h.ne)).trans h.q.here, by rw [hl]; exact k1, h.q.ne⟩, hl⟩, k2⟩

def UpPost (qb g n c : Nat) (l : List Wt) (w : World) (e : Ending) (w' : World) : Prop := e = .returned (.tuple #[]) ∧ ∃ l', QRow w' qb g n c l' ∧ l'.Perm l ∧ HeapW l' n ∧ Mod [g] w w'

set_option maxRecDepth 100000 in
set_option maxHeartbeats 1000000 in
theorem up_any {w : World} {qb g n c : Nat} {l : List Wt} (h : QRow w qb g n c l) (hn : n ≤ 100000) {j : Nat} (hj : j < n) (hu : UpW l n j) :
    Calls Tryz.prog 147 #[qI qb, .int .i64 j] w (UpPost qb g n c l w) := by
  have H := hideIt (And.intro h hu)
  clear h hu
  go_enter Tryz.func147, Tryz.ntmps147
  go_wp2_with fail
  go_loopw [1] (fun jv wr => ∃ k : Nat, k < n ∧ jv = .int .i64 k ∧ Hid (∃ l', QRow wr qb g n c l' ∧ l'.Perm l ∧ UpW l' n k ∧ Mod [g] w wr)) (fun jv _ => (intOf jv).toNat)
  case atStart => exact ⟨j, hj, rfl, hideIt ⟨l, H.out.1, .refl _, H.out.2, Mod.refl _ _⟩⟩
  case round =>
    obtain ⟨k, hk, rfl, hR⟩ := hrel
    obtain ⟨l', hq, hp, hu, hm⟩ := hR.out
    by_cases h0 : k = 0
    · subst h0
      have HF := hideIt (show UpPost qb g n c l w (.returned (.tuple #[])) wr from ⟨rfl, l', hq, hp, hu.done (.inl rfl), hm⟩)
      clear hR hq hp hu hm
      go_wp2
      go_end0
      exact HF.out
    · obtain ⟨i, hi⟩ : ∃ i, i = (k - 1) / 2 := ⟨_, rfl⟩
      have hdiv : ((k : Int) - 1).tdiv 2 = (i : Int) := by
        rw [hi, show (k : Int) - 1 = ((k - 1 : Nat) : Int) by omega]
        rfl
      have hik : i < k := by omega
      have hne : ((i : Int) == (k : Int)) = false := by simp; omega
      have HLESS := hideIt (less_any hq.row hq.len hk (show i < n by omega))
      have HSWAP := hideIt (fun W (hm : Mod [] wr W) => swap_any (hq.keep hm).row hq.len (show i < n by omega) hk)
      have hmeth := fun N => run_mV hq.q.here sel_Less N
      have HQ := hideIt hq
      have HX := hideIt (And.intro hp (And.intro hu hm))
      have HI := hideIt hi
      clear hR hq hp hu hm hi
      cases hless : lessW (wat l' k) (wat l' i) with
      | false =>
        rw [hless] at HLESS
        have HDONE := hideIt (show HeapW l' n from HX.out.2.1.done (.inr (by rw [← HI.out]; exact not_lessW_le hless)))
        clear hless HSWAP
        go_wp2_with fail
        refine HLESS.out.mono ?_
        rintro e w2 ⟨rfl, hm2⟩
        have HF := hideIt (show UpPost qb g n c l w (.returned (.tuple #[])) w2 from ⟨rfl, l', HQ.out.keep hm2, HX.out.1, HDONE.out, HX.out.2.2.trans hm2.nil⟩)
        clear hm2 HLESS HDONE HQ HX hmeth
        go_wp2
        go_end0
        exact HF.out
      | true =>
        rw [hless] at HLESS
        have HSTEP := hideIt (show UpW (swapW l' i k) n i from by
          have := HX.out.2.1.step (by rw [HQ.out.len]; exact Nat.le_refl _) hk (by omega) (by rw [← HI.out]; exact lessW_le hless)
          rw [← HI.out] at this
          exact this)
        have HPERM := hideIt ((swapW_perm (l := l') (i := i) (j := k) (by rw [HQ.out.len]; omega) (by rw [HQ.out.len]; omega)).trans HX.out.1)
        clear hless
        go_wp2_with fail
        refine HLESS.out.mono ?_
        rintro e w2 ⟨rfl, hm2⟩
        have hmeth2 := fun N => run_mV (HQ.out.keep hm2).q.here sel_Swap N
        have HSW := hideIt (HSWAP.out w2 hm2)
        have HQ2 := hideIt (HQ.out.keep hm2)
        have HM2 := hideIt (HX.out.2.2.trans hm2.nil)
        clear hm2 HLESS HSWAP hmeth HQ HX
        go_wp2_with fail
        refine HSW.out.mono ?_
        intro e w3 hs
        obtain ⟨k1, k2⟩ := HQ2.out.swapped hs (by rw [swapW_length]; exact HQ2.out.len)
        obtain ⟨rfl, _⟩ := hs
        have HN := hideIt (show ∃ l'', QRow w3 qb g n c l'' ∧ l''.Perm l ∧ UpW l'' n i ∧ Mod [g] w w3 from ⟨_, k1, HPERM.out, HSTEP.out, HM2.out.trans k2⟩)
        clear k1 k2 HSW HQ2 HM2 HPERM HSTEP hmeth2
        go_wp2_with fail
        go_roundw
        case rel => exact ⟨i, by omega, rfl, HN⟩
        case measure => simp [intOf]; omega

end Go.Proofs.YthimaoipogocfaaGreat
