import Derived.Test.YthimaoipogocfaaGreatPair2
import Derived.Test.YthimaoipogocfaaGreatJ20
namespace Go.Proofs.YthimaoipogocfaaGreat
open Go.RowKit Go.Maps
attribute [local go_sem] run_store_f32 run_neg_inf

set_option maxRecDepth 100000 in
theorem hPairs_any {w : World} {q fan : Nat} {ts : List Tg} {lg : List Int} {F : List Nat} (h : HRep w q fan ts lg F) (hn : ts.length ≤ 1000) :
    Calls Tryz.prog 25 #[.pointer (some ⟨q, 0, none⟩)] w (PairsPost (pairsG ts) w) := by
  obtain ⟨p, lv, F0, h1, h2, -, -, -, -, rfl⟩ := h
  have c := cell_hO h1
  have H2 := hideIt (bPairs_any h2 hn)
  clear h1 h2
  go_enter Tryz.func25, Tryz.ntmps25
  go_wp2_with fail
  refine H2.out.mono ?_
  rintro e w1 ⟨rfl, hm⟩
  go_wp2
  go_ret
  exact ⟨rfl, hm⟩

def pairT (a b : Th) : Bool := decide (a.id < b.id) && meetI a.x0 a.y0 a.x1 a.y1 b.x0 b.y0 b.x1 b.y1
def pairsT (L : List Th) : Nat := (L.map (fun a => (L.filter (pairT a)).length)).sum
theorem pairsG_T (ts : List Tg) : pairsG ts = pairsT (ts.map Tg.th) := by
  unfold pairsG pairsT
  rw [List.map_map]
  congr 1
  refine List.map_congr_left (fun a _ => ?_)
  show (ts.filter (pairB a)).length = ((ts.map Tg.th).filter (pairT a.th)).length
  rw [List.filter_map, List.length_map]
  rfl
theorem pairsT_perm {L M : List Th} (h : L.Perm M) : pairsT L = pairsT M := by
  unfold pairsT
  have e : ∀ a : Th, (L.filter (pairT a)).length = (M.filter (pairT a)).length := fun a => (h.filter _).length_eq
  have e2 : L.map (fun a => (L.filter (pairT a)).length) = L.map (fun a => (M.filter (pairT a)).length) := List.map_congr_left (fun a _ => e a)
  rw [e2]
  exact (h.map _).sum_nat

theorem kPairs_any {B : Nat} {w : World} {q fan : Nat} {L : List Th} {lg : List Int} (h : KRep B w q fan L lg) : Calls Tryz.prog 25 #[.pointer (some ⟨q, 0, none⟩)] w (PairsPost (pairsT L) w) := by
  obtain ⟨ts, F, h1, rfl, h3, h4⟩ := h.out
  rw [← pairsG_T]
  exact hPairs_any h1 h3

end Go.Proofs.YthimaoipogocfaaGreat
