import Derived.Test.YtideopmkmobicaaStep
namespace Go.Proofs.Ytideopmkmobicaa
open Go.RowKit Go.Maps

set_option maxRecDepth 100000 in
set_option maxHeartbeats 1000000 in
theorem kept_any {w : World} {pw : Nat} {lv : Value} (h : w.heap[pw]? = some (T34 lv)) :
    Calls Try.prog 6 #[.pointer (some ⟨pw, 1, none⟩)] w fun e w' => e = .returned (.bool true) ∧ w = w' := by
  have c1 : w.cell? ⟨pw, 1, none⟩ = some (.slice none 0 0) := by rw [cell_of_block h]; rfl
  have c2 : w.cell? ⟨pw, 3, none⟩ = some (.slice none 0 0) := by rw [cell_of_block h]; rfl
  have c3 : w.cell? ⟨pw, 5, none⟩ = some (.slice none 0 0) := by rw [cell_of_block h]; rfl
  clear h
  go_enter Try.func6, Try.ntmps6
  go_wp2
  go_loop [3] (fun i => i = .int .i64 0) (fun _ => 0)
  case atStart => rfl
  case round =>
    subst hrel
    go_wp2
    go_loop [5] (fun i => i = .int .i64 0) (fun _ => 0)
    case atStart => rfl
    case round =>
      subst hrel
      go_wp2
      go_loop [7] (fun i => i = .int .i64 0) (fun _ => 0)
      case atStart => rfl
      case round =>
        subst hrel
        go_wp2
        go_ret
        exact ⟨rfl, rfl⟩

end Go.Proofs.Ytideopmkmobicaa
