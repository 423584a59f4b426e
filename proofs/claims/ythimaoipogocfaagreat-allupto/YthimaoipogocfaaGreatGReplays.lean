import Derived.Test.YthimaoipogocfaaGreatGRplay
import Derived.Test.YthimaoipogocfaaGreatM12
namespace Go.Proofs.YthimaoipogocfaaGreat
open Go.RowKit Go.Maps
attribute [local go_sem] run_store_f32 run_neg_inf

def ReplaysPost (B pw : Nat) (ps : List PS) (K n : Nat) (w : World) (e : Ending) (w' : World) : Prop := e = .returned (.bool true) ∧ ∃ ps', WRep B w' pw ps' K ∧ Below B w w' ∧ (ps' = ps ∨ ∃ p : PS, ps' = ps ++ [p] ∧ p.nl ≤ n)

/-- a log that neither takes -/
def NoLog (l : List Int) : Prop := readF l 0 = none ∨ ∃ r, readF l 0 = some r ∧ (r.kind ≠ 72 ∨ (r.kind = 72 ∧ fanB r.fan = false))
theorem log_cases (l : List Int) : NoLog l ∨ ∃ r, readF l 0 = some r ∧ r.kind = 72 ∧ fanB r.fan = true := by
  cases h : readF l 0 with
  | none => exact .inl (.inl h)
  | some r =>
    by_cases hk : r.kind = 72
    · cases hf : fanB r.fan with
      | true => exact .inr ⟨r, rfl, hk, hf⟩
      | false => exact .inl (.inr ⟨r, h, .inr ⟨hk, hf⟩⟩)
    · exact .inl (.inr ⟨r, h, .inl hk⟩)
theorem replay_bad {w : World} {v : Value} {l : List Int} (h : LogV w v l) (hn : NoLog l) : Calls Tryz.prog 29 #[v] w (BadPost w) := by
  rcases hn with hn | ⟨r, hr, hk | ⟨hk, hf⟩⟩
  · exact replay_none h hn
  · exact replay_kind h hr hk
  · exact replay_fan h hr hk hf
theorem rreplay_bad {w : World} {v : Value} {l : List Int} (h : LogV w v l) (hn : NoLog l) : Calls Tryz.prog 83 #[v] w (BadPost w) := by
  rcases hn with hn | ⟨r, hr, hk | ⟨hk, hf⟩⟩
  · exact rreplay_none h hn
  · exact rreplay_kind h hr hk
  · exact rreplay_fan h hr hk hf

set_option maxRecDepth 100000 in
set_option maxHeartbeats 1000000 in
theorem replays_bad {B : Nat} {w : World} {pw : Nat} {ps : List PS} {K : Nat} (h : WRep B w pw ps K) (hB : B ≤ w.heap.size) {v : Value} {l : List Int} (hv : LogV w v l) (hn : NoLog l) :
    Calls Tryz.prog 52 #[.pointer (some ⟨pw, 0, none⟩), v] w (ReplaysPost B pw ps K l.length w) := by
  have HG := hideIt (given_any hv)
  have HW := hideIt h
  have HV := hideIt hv
  have HNO := hideIt hn
  clear h hv hn
  go_enter Tryz.func52, Tryz.ntmps52
  go_wp2_with fail
  refine HG.out.mono ?_
  rintro e w1 ⟨g, u, rfl, oA, lu, hg, m1⟩
  have HM1 := hideIt m1
  have HOA := hideIt oA
  have HU := hideIt (replay_bad lu HNO.out)
  clear HG m1 oA lu
  go_wp2_with fail
  refine HU.out.mono ?_
  rintro e w2 ⟨rfl, m2⟩
  have HM2 := hideIt (HM1.out.trans m2)
  have HOA := hideIt (owns_kept HOA.out m2 (by simp))
  have HR := hideIt (rreplay_bad (HV.out.keep HM2.out) HNO.out)
  clear HU HM1 m2
  go_wp2_with fail
  refine HR.out.mono ?_
  rintro e w3 ⟨rfl, m3⟩
  have HM3 := hideIt (HM2.out.trans m3)
  have HOA := hideIt (owns_kept HOA.out m3 (by simp))
  have HC := hideIt (clean_any HOA.out (HV.out.keep HM3.out) (fun hl hx => by have := HV.out.lt hl g hx; omega))
  clear HR HM2 m3
  go_wp2_with fail
  refine HC.out.mono ?_
  rintro e w4 ⟨rfl, m4⟩
  have hm4 : Mod [] w w4 := HM3.out.then m4 (fun x hx => .inr (by simp at hx; omega))
  have HJ := hideIt (joined_none (HW.out.kept hm4) 5)
  have HB4 := hideIt (hm4.below_of hB (by simp))
  clear HC HM3 m4 hm4 HW
  go_wp2_with fail
  refine HJ.out.mono ?_
  rintro e w5 ⟨rfl, r1, r2⟩
  have HP := hideIt (show ReplaysPost B pw ps K l.length w (.returned (.bool true)) w5 from ⟨rfl, ps, r1, HB4.out.trans r2, .inl rfl⟩)
  clear HJ HB4 r1 r2
  go_wp2
  go_ret
  exact HP.out

set_option maxRecDepth 100000 in
set_option maxHeartbeats 1000000 in
theorem replays_good {B : Nat} {w : World} {pw : Nat} {ps : List PS} {K : Nat} (h : WRep B w pw ps K) (hB : B ≤ w.heap.size) (hlen : ps.length ≤ 100000000) {v : Value} {l : List Int} (hv : LogV w v l) (hl : l.length ≤ 99999900) {r : Rc} (hr : readF l 0 = some r) (hk : r.kind = 72) (hf : fanB r.fan = true) :
    Calls Tryz.prog 52 #[.pointer (some ⟨pw, 0, none⟩), v] w (ReplaysPost B pw ps K l.length w) := by
  have HG := hideIt (given_any hv)
  have HW := hideIt h
  have HV := hideIt hv
  have HRP := hideIt (show ∀ W u, LogV W u l → Calls Tryz.prog 29 #[u] W (ReplayPost l r.fan.toNat W) from fun W u hu => replay_good hu hr hk hf)
  have HRR := hideIt (show ∀ W u, LogV W u l → Calls Tryz.prog 83 #[u] W (RReplayPost l r.fan.toNat W) from fun W u hu => rreplay_good hu hl hr hk hf)
  clear h hv hr hk hf
  generalize r.fan.toNat = fan at *
  go_enter Tryz.func52, Tryz.ntmps52
  go_wp2_with fail
  refine HG.out.mono ?_
  rintro e w1 ⟨g, u, rfl, oA, lu, hg, m1⟩
  have HM1 := hideIt m1
  have HOA := hideIt oA
  have HU := hideIt (HRP.out _ _ lu)
  clear HG HRP m1 oA lu
  go_wp2_with fail
  refine HU.out.mono ?_
  rintro e w2 ⟨q, s, F1, rfl, a1, a2, a3, a4, a5, m2⟩
  have HA := hideIt (And.intro a1 (And.intro a2 (And.intro a3 (And.intro a4 a5))))
  have HM2 := hideIt (HM1.out.trans m2)
  have hg1 : g < w1.heap.size := owns_lt HOA.out rfl
  have hz2 := m2.size
  have hz1 := HM1.out.size
  have HOA := hideIt (owns_kept HOA.out m2 (by simp))
  have HR := hideIt (HRR.out _ _ (HV.out.keep HM2.out))
  clear HU HM1 HRR m2 a1 a2 a3 a4 a5
  go_wp2_with fail
  refine HR.out.mono ?_
  rintro e w3 ⟨py, s2, L, F2, he, b1, b2, b3, b4, b5, b6, m3⟩
  obtain rfl : s2 = s := b3.det b4 HA.out.2.1 HA.out.2.2.1
  subst he
  have HM3 := hideIt (HM2.out.trans m3)
  have HOA := hideIt (owns_kept HOA.out m3 (by simp))
  have HC := hideIt (clean_any HOA.out (HV.out.keep HM3.out) (fun hl hx => by have := HV.out.lt hl g hx; omega))
  have HPR := hideIt (show ∀ w4, Mod [g] w3 w4 → PairRep w4 ⟨q, py, fan, s2, L, F1 ++ F2⟩ from fun w4 m4 => by
    refine ⟨F1, F2, (HA.out.1.kept m3 (by simp)).kept m4 (fun x hx hx' => ?_), b1.kept m4 (fun x hx hx' => ?_), fun x hx hx' => ?_, rfl, b2⟩
    · simp at hx'
      have := HA.out.2.2.2.2 x hx
      omega
    · simp at hx'
      have := b6 x hx
      omega
    · have h1 := HA.out.1.lt x hx
      have h2 := b6 x hx'
      omega)
  have HNF := hideIt (show ∀ x ∈ F1 ++ F2, w.heap.size ≤ x from fun x hx => by
    rcases List.mem_append.1 hx with hx | hx
    · have := HA.out.2.2.2.2 x hx
      omega
    · have := b6 x hx
      omega)
  clear HR HM2 m3 b1 b2 b3 b4 b6 HA
  go_wp2_with fail
  refine HC.out.mono ?_
  rintro e w4 ⟨rfl, m4⟩
  have hm4 : Mod [] w w4 := HM3.out.then m4 (fun x hx => .inr (by simp at hx; omega))
  have HJ := hideIt (joined_some HW.out hm4 ⟨q, py, fan, s2, L, F1 ++ F2⟩ (HPR.out w4 m4) HNF.out hlen)
  have HB4 := hideIt (hm4.below_of hB (by simp))
  clear HC HM3 m4 hm4 HW HPR HNF
  go_wp2_with fail
  refine HJ.out.mono ?_
  rintro e w5 ⟨rfl, r1, r2⟩
  have HP := hideIt (show ReplaysPost B pw ps K l.length w (.returned (.bool true)) w5 from ⟨rfl, _, r1, HB4.out.trans r2, .inr ⟨_, rfl, b5⟩⟩)
  clear HJ HB4 r1 r2 b5
  go_wp2
  go_ret
  exact HP.out

theorem replays_any {B : Nat} {w : World} {pw : Nat} {ps : List PS} {K : Nat} (h : WRep B w pw ps K) (hB : B ≤ w.heap.size) (hlen : ps.length ≤ 100000000) {v : Value} {l : List Int} (hv : LogV w v l) (hl : l.length ≤ 99999900) :
    Calls Tryz.prog 52 #[.pointer (some ⟨pw, 0, none⟩), v] w (ReplaysPost B pw ps K l.length w) := by
  rcases log_cases l with hn | ⟨r, hr, hk, hf⟩
  · exact replays_bad h hB hv hn
  · exact replays_good h hB hlen hv hl hr hk hf

end Go.Proofs.YthimaoipogocfaaGreat
