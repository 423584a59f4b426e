import Derived.Test.YthimaoipogocfaaGreatJ20
namespace Go.Proofs.YthimaoipogocfaaGreat
open Go.RowKit Go.Maps

abbrev ktO (t : Kt) : Obj := .cells #[.int .i64 t.i, .int .i64 t.x, .int .i64 t.y, .int .i64 t.w, .int .i64 t.h] 29 (0, 0)
theorem cell_ktO {w : World} {p : Nat} {t : Kt} (h : w.heap[p]? = some (ktO t)) : w.cell? ⟨p, 0, none⟩ = some (.int .i64 t.i) ∧ w.cell? ⟨p, 1, none⟩ = some (.int .i64 t.x) ∧ w.cell? ⟨p, 2, none⟩ = some (.int .i64 t.y) ∧ w.cell? ⟨p, 3, none⟩ = some (.int .i64 t.w) ∧ w.cell? ⟨p, 4, none⟩ = some (.int .i64 t.h) := by
  refine ⟨?_, ?_, ?_, ?_, ?_⟩ <;> rw [cell_of_block h] <;> rfl

theorem Kt.bounds (t : Kt) : -1000 ≤ t.x0 0 ∧ t.x0 0 ≤ t.x1 0 ∧ t.x1 0 ≤ 1060 ∧ -1000 ≤ t.y0 0 ∧ t.y0 0 ≤ t.y1 0 ∧ t.y1 0 ≤ 1060 := by
  have h1 := pickF_lt t.x 2001 (by omega)
  have h2 := pickF_lt t.y 2001 (by omega)
  have h3 := pickF_lt t.w 60 (by omega)
  have h4 := pickF_lt t.h 60 (by omega)
  unfold Kt.x1 Kt.y1 Kt.x0 Kt.y0
  omega

end Go.Proofs.YthimaoipogocfaaGreat
