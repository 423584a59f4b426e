import Derived.Test.YthimaoipogocfaaGreatNear4
import Derived.Test.YthimaoipogocfaaGreatJ20
namespace Go.Proofs.YthimaoipogocfaaGreat
open Go.RowKit Go.Maps
attribute [local go_sem] run_store_f32 run_neg_inf

/-- hits behind a slice -/
def RowH (w : World) (v : Value) (hs : List Ht) : Prop := ∃ a c, v = .slice a hs.length c ∧ ∀ j e, hs[j]? = some e → ∃ b, a = some ⟨b, 0, none⟩ ∧ w.cell? ⟨b, j * 2, none⟩ = some (.int .i64 e.id) ∧ w.cell? ⟨b, j * 2 + 1, none⟩ = some (.int .i64 e.far)

theorem htsV_get (l : List Ht) (k : Nat) (e : Ht) (h : l[k]? = some e) (j : Nat) (hj : j < 2) : (htsV l)[k * 2 + j]? = (htCells e)[j]? := by
  induction l generalizing k with
  | nil => simp at h
  | cons s L ih =>
    have e1 : htsV (s :: L) = htCells s ++ htsV L := rfl
    have hl : (htCells s).length = 2 := rfl
    rw [e1]
    cases k with
    | zero =>
      simp at h
      subst h
      rw [List.getElem?_append_left (by omega)]
      congr 1
      omega
    | succ k =>
      simp at h
      rw [List.getElem?_append_right (by omega), hl, ← ih k h]
      congr 1
      omega

theorem RowH.of_owns {w : World} {v : Value} {hs : List Ht} (h : w.ownsRow 0 50 2 v hs.length (htsV hs)) : RowH w v hs := by
  rcases h.2 with ⟨rfl, h0⟩ | ⟨g, cap, cur, rfl, hb, hg, hnc, hcm, hcs, htake⟩
  · have hx : hs = [] := List.eq_nil_of_length_eq_zero h0
    subst hx
    exact ⟨none, 0, rfl, fun j x hx => by simp at hx⟩
  · refine ⟨some ⟨g, 0, none⟩, cap, rfl, fun j e he => ⟨g, rfl, ?_⟩⟩
    have hj : j < hs.length := (List.getElem?_eq_some_iff.1 he).1
    have key : ∀ i, i < 2 → w.cell? ⟨g, j * 2 + i, none⟩ = (htCells e)[i]? := fun i hi => by
      have h1 : (cur.toList.take (hs.length * 2))[j * 2 + i]? = (htsV hs)[j * 2 + i]? := by rw [htake]
      rw [List.getElem?_take_of_lt (by omega), Array.getElem?_toList] at h1
      rw [cell_of_block hg, h1]
      exact htsV_get hs j e he i hi
    exact ⟨key 0 (by omega), key 1 (by omega)⟩

theorem RowH.keep {w w' : World} {v : Value} {hs : List Ht} (h : RowH w v hs) (hm : Mod [] w w') : RowH w' v hs := by
  obtain ⟨a, c, h1, h2⟩ := h
  refine ⟨a, c, h1, fun j x hx => ?_⟩
  obtain ⟨b, h3, h4, h5⟩ := h2 j x hx
  exact ⟨b, h3, cell_mod hm h4, cell_mod hm h5⟩

def HNearPost (hs : List Ht) (w : World) (e : Ending) (w' : World) : Prop := ∃ v, e = .returned (.tuple #[v, .int .i64 0]) ∧ RowH w' v hs ∧ Mod [] w w'

set_option maxRecDepth 100000 in
set_option maxHeartbeats 400000 in
theorem hNear_good {w : World} {q fan : Nat} {ts : List Tg} {lg : List Int} {F : List Nat} (h : HRep w q fan ts lg F) {x y : Int} (hx : Near9 x) (hy : Near9 y) (hn : ts.length ≤ 1000) {most : Nat} (hmost : most ≤ 9223372036854775807) :
    Calls Tryz.prog 26 #[.pointer (some ⟨q, 0, none⟩), .int .i64 x, .int .i64 y, .int .i64 most] w (HNearPost ((sortH (ts.map (tgH x y))).take most) w) := by
  obtain ⟨p, lv, F0, h1, h2, -, -, -, hi, rfl⟩ := h
  have c := cell_hO h1
  have cd := cell_mod (Mod.drew _) c
  have hpl : placeB x y = true := placeB_iff.2 ⟨hx, hy⟩
  have hid : ∀ t ∈ ts, 0 ≤ t.id := fun t ht => (hi.1 t ht).1
  have HF := hideIt (fun W (hW : Mod [] w W) => bNear_any (h2.kept hW (by simp)) hx hy hid (by omega) hmost)
  have hm0 : ¬ ((most : Int) < 0) := by omega
  generalize (sortH (ts.map (tgH x y))).take most = hs at *
  clear h1 h2 hi hx hy hid
  go_enter Tryz.func26, Tryz.ntmps26
  go_wp2_with fail
  refine (isPlace_any _ _ _).mono ?_
  rw [hpl]
  rintro e w1 ⟨rfl, hw⟩
  obtain rfl := hw.symm
  clear hw
  go_wp2_with fail
  refine (HF.out _ (Mod.refl _ _)).mono ?_
  rintro e w2 ⟨v, rfl, k1, k2, k3⟩
  have HP := hideIt (show HNearPost hs w (.returned (.tuple #[v, .int .i64 0])) w2 from ⟨v, rfl, RowH.of_owns k1, k3⟩)
  clear k1 k2 k3 c cd HF
  go_wp2
  go_ret2
  exact HP.out

set_option maxRecDepth 100000 in
set_option maxHeartbeats 400000 in
theorem hNear_place (q : Nat) (w : World) {x y most : Int} (hp : placeB x y = false) :
    Calls Tryz.prog 26 #[.pointer (some ⟨q, 0, none⟩), .int .i64 x, .int .i64 y, .int .i64 most] w fun e w' => e = .returned (.tuple #[.slice none 0 0, .int .i64 1]) ∧ Mod [] w w' := by
  go_enter Tryz.func26, Tryz.ntmps26
  go_wp2_with fail
  refine (isPlace_any _ _ _).mono ?_
  rw [hp]
  rintro e w1 ⟨rfl, hw⟩
  obtain rfl := hw.symm
  clear hw
  go_wp2
  go_ret2
  exact ⟨rfl, Mod.refl _ _⟩

set_option maxRecDepth 100000 in
set_option maxHeartbeats 400000 in
theorem hNear_most (q : Nat) (w : World) {x y most : Int} (hp : placeB x y = true) (hm : most < 0) :
    Calls Tryz.prog 26 #[.pointer (some ⟨q, 0, none⟩), .int .i64 x, .int .i64 y, .int .i64 most] w fun e w' => e = .returned (.tuple #[.slice none 0 0, .int .i64 1]) ∧ Mod [] w w' := by
  go_enter Tryz.func26, Tryz.ntmps26
  go_wp2_with fail
  refine (isPlace_any _ _ _).mono ?_
  rw [hp]
  rintro e w1 ⟨rfl, hw⟩
  obtain rfl := hw.symm
  clear hw
  go_wp2
  go_ret2
  exact ⟨rfl, Mod.refl _ _⟩

/-! ### of things, wherever they lie in memory -/
def thH (x y : Int) (t : Th) : Ht := ⟨t.id, farI x y t.x0 t.y0 t.x1 t.y1⟩
def nearT (x y : Int) (most : Nat) (L : List Th) : List Ht := (sortH (L.map (thH x y))).take most
theorem nearT_perm {x y : Int} {most : Nat} {L M : List Th} (h : L.Perm M) : nearT x y most L = nearT x y most M := by
  unfold nearT
  rw [sortH_congr (h.map _)]
theorem nearT_length (x y : Int) (most : Nat) (L : List Th) : (nearT x y most L).length = min most L.length := by
  unfold nearT
  rw [List.length_take, sortH_length, List.length_map]

theorem kNear_any {B : Nat} {w : World} {q fan : Nat} {L : List Th} {lg : List Int} (h : KRep B w q fan L lg) {x y : Int} (hx : Near9 x) (hy : Near9 y) {most : Nat} (hmost : most ≤ 9223372036854775807) :
    Calls Tryz.prog 26 #[.pointer (some ⟨q, 0, none⟩), .int .i64 x, .int .i64 y, .int .i64 most] w (HNearPost (nearT x y most L) w) := by
  obtain ⟨ts, F, h1, rfl, h3, h4⟩ := h.out
  have e : nearT x y most (ts.map Tg.th) = (sortH (ts.map (tgH x y))).take most := by
    unfold nearT
    rw [List.map_map]
    rfl
  rw [e]
  exact hNear_good h1 hx hy h3 hmost

end Go.Proofs.YthimaoipogocfaaGreat
