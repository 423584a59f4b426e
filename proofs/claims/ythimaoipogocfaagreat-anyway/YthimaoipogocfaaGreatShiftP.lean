import Derived.Test.YthimaoipogocfaaGreatNear5
import Derived.Test.YthimaoipogocfaaGreatPair3
namespace Go.Proofs.YthimaoipogocfaaGreat
open Go.RowKit Go.Maps

/-! ### all moved by the same -/
def shT (p q : Int) (t : Th) : Th := ⟨t.id, t.x0 + p, t.y0 + q, t.x1 + p, t.y1 + q⟩
theorem th_shift (t : Kt) (p q : Int) : t.th p q = shT p q (t.th 0 0) := by
  unfold Kt.th shT Kt.x1 Kt.y1 Kt.x0 Kt.y0
  simp only [Th.mk.injEq]
  refine ⟨trivial, ?_, ?_, ?_, ?_⟩ <;> omega
theorem putT_shift (p q : Int) (L : List Th) (t : Th) : putT (L.map (shT p q)) (shT p q t) = (putT L t).map (shT p q) := by
  unfold putT dropT
  rw [List.map_append, List.filter_map]
  rfl
theorem plantL_shift (p q : Int) (ks : List Kt) : plantL ks p q = (plantL ks 0 0).map (shT p q) := by
  unfold plantL
  have key : ∀ (ks : List Kt) (L : List Th), ks.foldl (fun L k => putT L (k.th p q)) (L.map (shT p q)) = (ks.foldl (fun L k => putT L (k.th 0 0)) L).map (shT p q) := by
    intro ks
    induction ks with
    | nil => intro L; rfl
    | cons k ks ih =>
      intro L
      rw [List.foldl_cons, List.foldl_cons, th_shift k p q, putT_shift, ih]
  exact key ks []
theorem plantT_shift (p q : Int) (ks : List Kt) : plantT ks p q = (plantT ks 0 0).map (shT p q) := by
  unfold plantT
  rw [plantL_shift p q, ← putT_shift]
  simp [shT]
theorem foundT_shift (p q : Int) {f g : Th → Bool} (h : ∀ t, f (shT p q t) = g t) (L : List Th) : foundT f (L.map (shT p q)) = foundT g L := by
  unfold foundT
  rw [List.filter_map, List.map_map]
  have : (f ∘ shT p q) = g := funext h
  rw [this]
  rfl
theorem dec_congr {a b : Prop} [Decidable a] [Decidable b] (h : a ↔ b) : decide a = decide b := by simp [h]
theorem meetT_shift (p q c0 c1 c2 c3 : Int) (t : Th) : meetT (c0 + p) (c1 + q) (c2 + p) (c3 + q) (shT p q t) = meetT c0 c1 c2 c3 t := by
  unfold meetT meetI shT
  rw [dec_congr (show c0 + p ≤ t.x1 + p ↔ c0 ≤ t.x1 by omega), dec_congr (show t.x0 + p ≤ c2 + p ↔ t.x0 ≤ c2 by omega), dec_congr (show c1 + q ≤ t.y1 + q ↔ c1 ≤ t.y1 by omega), dec_congr (show t.y0 + q ≤ c3 + q ↔ t.y0 ≤ c3 by omega)]
theorem holdT_shift (p q c0 c1 c2 c3 : Int) (t : Th) : holdT (c0 + p) (c1 + q) (c2 + p) (c3 + q) (shT p q t) = holdT c0 c1 c2 c3 t := by
  unfold holdT holdI shT
  rw [dec_congr (show c0 + p ≤ t.x0 + p ↔ c0 ≤ t.x0 by omega), dec_congr (show t.x1 + p ≤ c2 + p ↔ t.x1 ≤ c2 by omega), dec_congr (show c1 + q ≤ t.y0 + q ↔ c1 ≤ t.y0 by omega), dec_congr (show t.y1 + q ≤ c3 + q ↔ t.y1 ≤ c3 by omega)]
theorem thH_shift (p q x y : Int) (t : Th) : thH (x + p) (y + q) (shT p q t) = thH x y t := by
  unfold thH shT farI besI
  simp only [Ht.mk.injEq, true_and]
  rw [show t.x0 + p - (x + p) = t.x0 - x by omega, show x + p - (t.x1 + p) = x - t.x1 by omega, show t.y0 + q - (y + q) = t.y0 - y by omega, show y + q - (t.y1 + q) = y - t.y1 by omega]
theorem nearT_shift (p q x y : Int) (m : Nat) (L : List Th) : nearT (x + p) (y + q) m (L.map (shT p q)) = nearT x y m L := by
  unfold nearT
  rw [List.map_map, show (thH (x + p) (y + q) ∘ shT p q) = thH x y from funext (thH_shift p q x y)]
theorem pairT_shift (p q : Int) (a b : Th) : pairT (shT p q a) (shT p q b) = pairT a b := by
  have := meetT_shift p q a.x0 a.y0 a.x1 a.y1 b
  unfold meetT at this
  unfold pairT
  rw [show meetI (shT p q a).x0 (shT p q a).y0 (shT p q a).x1 (shT p q a).y1 (shT p q b).x0 (shT p q b).y0 (shT p q b).x1 (shT p q b).y1 = meetI a.x0 a.y0 a.x1 a.y1 b.x0 b.y0 b.x1 b.y1 from this]
  rfl
theorem pairsT_shift (p q : Int) (L : List Th) : pairsT (L.map (shT p q)) = pairsT L := by
  unfold pairsT
  rw [List.map_map]
  congr 1
  refine List.map_congr_left (fun a _ => ?_)
  simp only [Function.comp]
  rw [List.filter_map, List.length_map]
  congr 1
  refine List.filter_congr (fun b _ => ?_)
  exact pairT_shift p q a b

end Go.Proofs.YthimaoipogocfaaGreat
