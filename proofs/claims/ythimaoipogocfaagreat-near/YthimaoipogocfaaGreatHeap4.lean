import Derived.Test.YthimaoipogocfaaGreatHeap3
import Derived.Test.YthimaoipogocfaaGreatJ15
namespace Go.Proofs.YthimaoipogocfaaGreat
open Go.RowKit
attribute [local go_sem] run_store_f32 run_neg_inf

theorem infoW : (Tryz.prog.info? 138).map (fun i => (i.zero, i.size, i.bytes)) = some (some (.agg #[.int .i64 0, .int .i64 0, .pointer none]), 3, 24) := by kernel_rfl

abbrev wtV (e : Wt) : Value := .agg #[.int .i64 e.id, .int .i64 e.far, .pointer (adN e.nd)]
abbrev wtI (e : Wt) : Value := .iface 138 (wtV e)

theorem run_assertW (x : Value) (w : World) : (Instr.typeAssert (.iface 138 x) 20 138 false).run Tryz.prog w = .ok x w := by
  simp [Instr.typeAssert, run_underlying Tryz.underlying138]

/-- something more waits, or something less -/
def QPost (qb : Nat) (l : List Wt) (v : Value) (w : World) (e : Ending) (w' : World) : Prop := e = .returned (.tuple #[]) ∧ ∃ v', QAt w' qb l v' ∧ (∀ x ∈ v'.ownBlock.toList, x ∈ v.ownBlock.toList ∨ w.heap.size ≤ x) ∧ Mod (qb :: v.ownBlock.toList) w w'

theorem pushed {w w4 w5 : World} {qb g5 c5 : Nat} {l : List Wt} {e : Wt} {v : Value} (hq : QAt w qb l v) (hm : Mod [] w w4) (ho : w5.ownsRow 0 138 3 (.slice (some ⟨g5, 0, none⟩) (l.length + 1) c5) (l.length + 1) (catL (wtsV l) (wtCells e))) (hm5 : Mod v.ownBlock.toList w4 w5) (hat : v.ownBlock = some g5 ∨ g5 = w4.heap.size) :
    w5.heap[qb]? = some (qO v) ∧ QPost qb (l ++ [e]) v w (.returned (.tuple #[])) (w5.setCell ⟨qb, 0, none⟩ (.slice (some ⟨g5, 0, none⟩) (l.length + 1) c5)) := by
  have hlt := lt_of_block hq.here
  have hs := hm.size
  have h5 : w5.heap[qb]? = some (qO v) := (hm5.block qb (by omega) hq.ne).trans ((hm.block qb hlt (by simp)).trans hq.here)
  have hg : g5 ∈ v.ownBlock.toList ∨ w.heap.size ≤ g5 := by
    rcases hat with h | h
    · exact .inl (by rw [h]; simp)
    · exact .inr (by omega)
  have hne : g5 ≠ qb := fun h => by
    rcases hg with h1 | h1
    · exact hq.ne (h ▸ h1)
    · omega
  refine ⟨h5, rfl, .slice (some ⟨g5, 0, none⟩) (l.length + 1) c5, ⟨qO_set h5 _, ?_, ?_⟩, fun x hx => ?_, (hm.nil.trans (hm5.mono (by simp +contextual))).trans (Mod.setCell _ _ _ (by simp))⟩
  · have e1 : catL (wtsV l) (wtCells e) = wtsV (l ++ [e]) := by rw [wtsV_append]; simp [catL, wtsV]
    have := owns_kept ho (Mod.setCell (F := [qb]) w5 ⟨qb, 0, none⟩ (.slice (some ⟨g5, 0, none⟩) (l.length + 1) c5) (by simp)) (fun x hx => by simp [Value.ownBlock] at hx; subst hx; simpa using hne)
    rw [e1] at this
    rw [List.length_append]
    exact this
  · simp [Value.ownBlock]
    exact fun h => hne h.symm
  · simp [Value.ownBlock] at hx
    subst hx
    exact hg

set_option maxRecDepth 100000 in
set_option maxHeartbeats 1000000 in
theorem qpush_any {w : World} {qb : Nat} {l : List Wt} {v : Value} (h : QAt w qb l v) (e : Wt) (hl : l.length ≤ 100000) :
    Calls Tryz.prog 232 #[.pointer (some ⟨qb, 0, none⟩), wtI e] w (QPost qb (l ++ [e]) v w) := by
  obtain ⟨i0, hi, hz0, hz1, hz2⟩ := info_partsB infoW
  have cq := cell_qO h.here
  have hta := run_assertW (wtV e)
  have cqb : ∀ o, (w.alloc o).cell? ⟨qb, 0, none⟩ = some v := fun o => cell_mod (Mod.alloc _ _) cq
  have HSRC := hideIt (show srcRow ((w.alloc (.cells #[.int .i64 e.id, .int .i64 e.far, .pointer (adN e.nd)] 138)).drew) 3 (.slice (some ⟨w.heap.size, 0, none⟩) 1 1) 1 (wtCells e) from
    srcRow_mod (srcRow_of_owns (owns_allocB (w := w) (cur := #[.int .i64 e.id, .int .i64 e.far, .pointer (adN e.nd)]) (e := 138) (n := 1) (size := 3) rfl (by decide) (base := 0) (Nat.zero_le _)) (fun u hu => wtsV_one [e] u (by simpa [wtsV, wtCells] using hu))) (Mod.drew _))
  have hmA : Mod [] w ((w.alloc (.cells #[.int .i64 e.id, .int .i64 e.far, .pointer (adN e.nd)] 138)).drew) := (Mod.alloc _ _).trans (Mod.drew _)
  have HOWN := hideIt (show ((w.alloc (.cells #[.int .i64 e.id, .int .i64 e.far, .pointer (adN e.nd)] 138)).drew).ownsRow 0 138 3 v l.length (wtsV l) from owns_kept h.row hmA (by simp))
  have HP := hideIt (fun (w5 : World) (g5 c5 : Nat) => pushed (e := e) (w5 := w5) (g5 := g5) (c5 := c5) h hmA)
  clear h hmA
  go_enter Tryz.func232, Tryz.ntmps232
  go_wp2_with fail
  go_region_law (refine step_append_rows _ rfl _ _ 140 rfl 0 138 i0 (.agg #[.int .i64 0, .int .i64 0, .pointer none]) 3 24 Tryz.underlying140 hi hz0 hz1 hz2 rfl (by decide) _ l.length (wtsV l) rfl HOWN.out _ 1 (wtCells e) rfl HSRC.out (by omega) (by unfold maxLen; omega) (by omega) (Nat.zero_le _) ?_; intro g5 c5 w5 ho5 hm5 hat5; obtain ⟨hp5, hfin⟩ := HP.out w5 g5 c5 ho5 hm5 hat5; have hc5 := cell_qO hp5; have hf5 := frozen_of_block hp5 0)
  all_goals
    have HF := hideIt hfin
    clear hfin ho5 hm5 hat5 hp5 hc5 hf5 HSRC HOWN HP cq cqb hta
    go_wp2
    go_end0
    exact HF.out

end Go.Proofs.YthimaoipogocfaaGreat
