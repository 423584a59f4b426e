import Derived.Test.YthimaoipogocfaaGreatGPlays
namespace Go.Proofs.YthimaoipogocfaaGreat
open Go.RowKit Go.Maps

theorem steps_six : StepsTo 6 (fun _ _ j => j = 0) := by
  intro B w pw ps K h hB hlen N hN hNm hK s hs j hj hj2 hk hpos
  subst hj
  refine (step_six h hB hlen N hN (by omega) s hs hk hpos).mono ?_
  rintro e w' ⟨he, ps', a, b, c, d, f⟩
  exact ⟨he, ps', a.more (by omega), b, c, d, fun q hq => by have := f q hq; omega⟩

end Go.Proofs.YthimaoipogocfaaGreat
