import Derived.Test.YthimaoipogocfaaGreatJ17
import Derived.Test.YthimaoipogocfaaGreatRec8
namespace Go.Proofs.YthimaoipogocfaaGreat
open Go.RowKit Go.Maps
attribute [local go_sem] run_store_f32 run_neg_inf

/-! ### Log -/
def LogTold (lg : List Int) (w : World) (e : Ending) (w' : World) : Prop := ∃ g c, e = .returned (.slice (some ⟨g, 0, none⟩) lg.length c) ∧ w'.ownsRow 0 5 1 (.slice (some ⟨g, 0, none⟩) lg.length c) lg.length (u8s lg) ∧ w.heap.size ≤ g ∧ Mod [] w w'

set_option maxRecDepth 100000 in
set_option maxHeartbeats 400000 in
theorem clone_any {w : World} {g n c : Nat} {lg : List Int} (hown : w.ownsRow 0 5 1 (.slice (some ⟨g, 0, none⟩) n c) n (u8s lg)) (h0 : 0 < n) (hn : n ≤ 1000000000000) :
    Calls Tryz.prog 47 #[.slice (some ⟨g, 0, none⟩) n c] w (LogTold lg w) := by
  obtain ⟨i0, hi, hz0, hz1, hz2⟩ := info_partsB infoB
  have hlen : lg.length = n := by
    have := hown.1
    rw [u8s_length] at this
    omega
  subst hlen
  have hm0 := Mod.alloc (F := []) w (.cells #[] 5)
  have HO := hideIt (show (w.alloc (.cells #[] 5)).ownsRow 0 5 1 (.slice (some ⟨w.heap.size, 0, none⟩) 0 0) 0 (u8s []) from owns_allocB (w := w) (cur := #[]) (e := 5) (n := 0) (size := 1) rfl (by decide) (base := 0) (Nat.zero_le _))
  have HSRC := hideIt (srcRow_of_owns (owns_kept hown hm0 (by simp)) (u8s_one lg))
  have HM := hideIt hm0
  have hnil := fun W => Lib.run_eql_slice_nil (P := Tryz.prog) W 56 5 (some ⟨g, 0, none⟩) lg.length c 0 0 Tryz.underlying56
  clear hown hm0
  go_enter Tryz.func47, Tryz.ntmps47
  go_wp2_with (at_builtin; refine wpList_append_rows _ rfl _ _ 56 rfl 0 5 i0 (.int .u8 0) 1 1 Tryz.underlying56 hi hz0 hz1 hz2 rfl (by decide) _ 0 (u8s []) rfl HO.out _ lg.length (u8s lg) rfl HSRC.out (by omega) (by unfold maxLen; omega) (by omega) (Nat.zero_le _) ?_)
  intro g2 c2 w2 ho2 hm2 hat2
  have e : catL (u8s []) (u8s lg) = u8s lg := rfl
  rw [e] at ho2
  have HP := hideIt (show LogTold lg w (.returned (.slice (some ⟨g2, 0, none⟩) lg.length c2)) w2 from ⟨g2, c2, rfl, ho2, by
    rcases hat2 with h | h
    · simp [Value.ownBlock] at h
      omega
    · omega, HM.out.then hm2 (fun x hx => .inr (by simp [Value.ownBlock] at hx; omega))⟩)
  clear ho2 hm2 hat2 e
  go_wp2
  go_ret
  exact HP.out

set_option maxRecDepth 100000 in
set_option maxHeartbeats 400000 in
theorem hLog_any {w : World} {q fan : Nat} {ts : List Tg} {lg : List Int} {F : List Nat} (h : HRep w q fan ts lg F) (hl : lg.length ≤ 1000000000000) :
    Calls Tryz.prog 28 #[.pointer (some ⟨q, 0, none⟩)] w (LogTold lg w) := by
  obtain ⟨p, lv, F0, h1, -, h3, -, -, ⟨-, -, h8⟩, rfl⟩ := h
  rcases ownV h3 with ⟨rfl, h0⟩ | ⟨g, c, rfl⟩
  · omega
  have cl := cell_hL h1
  have HC := hideIt (clone_any h3 (by omega) hl)
  clear h1 h3
  go_enter Tryz.func28, Tryz.ntmps28
  go_wp2_with fail
  refine HC.out.mono ?_
  intro e w1 hs
  have HS := hideIt hs
  obtain ⟨g2, c2, rfl, _⟩ := hs
  go_wp2
  go_ret
  exact HS.out

end Go.Proofs.YthimaoipogocfaaGreat
