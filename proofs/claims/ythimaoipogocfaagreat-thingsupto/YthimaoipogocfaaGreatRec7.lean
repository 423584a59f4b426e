import Derived.Test.YthimaoipogocfaaGreatRec6
namespace Go.Proofs.YthimaoipogocfaaGreat
open Go.RowKit
attribute [local go_sem] run_store_f32 run_neg_inf

/-- what the bytes of a record's body say -/
def parseF (kind : Int) (body : List Int) : Rc :=
  if kind = 72 then ⟨72, valB body, 0, 0, 0, 0, 0⟩
  else if kind = 68 then ⟨68, 0, valB body, 0, 0, 0, 0⟩
  else ⟨kind, 0, valB (body.take 2), coordV (body.drop 2) 0, coordV (body.drop 2) 1, coordV (body.drop 2) 2, coordV (body.drop 2) 3⟩

theorem BytesAt.take {w : World} {g off : Nat} {l : List Int} (h : BytesAt w g off l) (k : Nat) : BytesAt w g off (l.take k) := fun j b hj => h j b (by
  rw [List.getElem?_take] at hj
  split at hj
  · exact hj
  · cases hj)

def ParsePost (r : Rc) (w : World) (e : Ending) (w' : World) : Prop := e = .returned r.val ∧ Mod [] w w'

set_option maxRecDepth 100000 in
set_option maxHeartbeats 400000 in
theorem parse_head {w : World} {g off c : Nat} {l : List Int} (hb : BytesAt w g off l) (hl : l.length = 1) (hB : ByteL l) :
    Calls Tryz.prog 79 #[.int .u8 72, .slice (some ⟨g, off, none⟩) 1 c] w (ParsePost (parseF 72 l) w) := by
  have HN := hideIt (fun W (hm : Mod [] w W) => number_any (c := c) (hb.keep hm) hl (by omega) hB)
  obtain ⟨r1, r2⟩ := valB_range hB
  rw [hl] at r2
  have HE := hideIt (show ∀ W, Mod [] w W → ParsePost (parseF 72 l) w (.returned (⟨72, valB l, 0, 0, 0, 0, 0⟩ : Rc).val) W from fun W hm => ⟨rfl, hm⟩)
  simp only [Rc.val] at HE
  generalize valB l = Z at *
  clear hb hB hl
  go_enter Tryz.func79, Tryz.ntmps79
  go_wp2_with fail
  refine (HN.out _ ((Mod.alloc _ _).trans (Mod.alloc _ _))).mono ?_
  rintro e w1 ⟨rfl, hw⟩
  obtain rfl := hw
  go_wp2
  exact bodyPost_ret (v := .agg #[.int .u8 72, .int .i64 Z, .int .i64 0, .int .i64 0, .int .i64 0, .int .i64 0, .int .i64 0]) (by simp [results, Tryz.results79, go_sem]) rfl (HE.out _ ((Mod.alloc _ _).trans (Mod.alloc _ _)))

set_option maxRecDepth 100000 in
set_option maxHeartbeats 400000 in
theorem parse_drop {w : World} {g off c : Nat} {l : List Int} (hb : BytesAt w g off l) (hl : l.length = 2) (hB : ByteL l) :
    Calls Tryz.prog 79 #[.int .u8 68, .slice (some ⟨g, off, none⟩) 2 c] w (ParsePost (parseF 68 l) w) := by
  have HN := hideIt (fun W (hm : Mod [] w W) => number_any (c := c) (hb.keep hm) hl (by omega) hB)
  obtain ⟨r1, r2⟩ := valB_range hB
  rw [hl] at r2
  have HE := hideIt (show ∀ W, Mod [] w W → ParsePost (parseF 68 l) w (.returned (⟨68, 0, valB l, 0, 0, 0, 0⟩ : Rc).val) W from fun W hm => ⟨rfl, hm⟩)
  simp only [Rc.val] at HE
  generalize valB l = Z at *
  clear hb hB hl
  go_enter Tryz.func79, Tryz.ntmps79
  go_wp2_with fail
  refine (HN.out _ ((Mod.alloc _ _).trans (Mod.alloc _ _))).mono ?_
  rintro e w1 ⟨rfl, hw⟩
  obtain rfl := hw
  go_wp2
  exact bodyPost_ret (v := .agg #[.int .u8 68, .int .i64 0, .int .i64 Z, .int .i64 0, .int .i64 0, .int .i64 0, .int .i64 0]) (by simp [results, Tryz.results79, go_sem]) rfl (HE.out _ ((Mod.alloc _ _).trans (Mod.alloc _ _)))

theorem told7 {w w2 : World} (hm : Mod [] w w2) {p q : Nat} (hp : w.heap.size ≤ p) (hq : w.heap.size ≤ q) (hne : p ≠ q) {r0 r : Rc} (b0 : w2.heap[p]? = some (rcO r0)) (A B C D : Value) {W : World}
    (hW : W = (((((((((((w2.setCell ⟨q, 3, none⟩ A).setCell ⟨q, 4, none⟩ B).setCell ⟨q, 5, none⟩ C).setCell ⟨q, 6, none⟩ D).setCell ⟨p, 0, none⟩ (.int .u8 r.kind)).setCell ⟨p, 1, none⟩ (.int .i64 r.fan)).setCell ⟨p, 2, none⟩ (.int .i64 r.id)).setCell ⟨p, 3, none⟩ (.int .i64 r.x0)).setCell ⟨p, 4, none⟩ (.int .i64 r.y0)).setCell ⟨p, 5, none⟩ (.int .i64 r.x1)).setCell ⟨p, 6, none⟩ (.int .i64 r.y1))) :
    Mod [] w W ∧ W.heap[p]? = some (rcO r) := by
  subst hW
  constructor
  · refine hm.then (G := [p, q]) ?_ (fun x hx => .inr (by simp at hx; omega))
    exact ((((((((((Mod.setCell _ _ _ (by simp)).trans (Mod.setCell _ _ _ (by simp))).trans (Mod.setCell _ _ _ (by simp))).trans (Mod.setCell _ _ _ (by simp))).trans (Mod.setCell _ _ _ (by simp))).trans (Mod.setCell _ _ _ (by simp))).trans (Mod.setCell _ _ _ (by simp))).trans (Mod.setCell _ _ _ (by simp))).trans (Mod.setCell _ _ _ (by simp))).trans (Mod.setCell _ _ _ (by simp))).trans (Mod.setCell _ _ _ (by simp))
  · have h4 : ((((w2.setCell ⟨q, 3, none⟩ A).setCell ⟨q, 4, none⟩ B).setCell ⟨q, 5, none⟩ C).setCell ⟨q, 6, none⟩ D).heap[p]? = some (rcO r0) := by
      rw [block_setCell_other hne, block_setCell_other hne, block_setCell_other hne, block_setCell_other hne]
      exact b0
    rw [block_setCell (block_setCell (block_setCell (block_setCell (block_setCell (block_setCell (block_setCell h4 0 _) 1 _) 2 _) 3 _) 4 _) 5 _) 6 _]
    simp

set_option maxRecDepth 100000 in
set_option maxHeartbeats 1000000 in
theorem parse_put {w : World} {g off c : Nat} {l : List Int} {kind : Int} (hk : kind = 80 ∨ kind = 77) (hb : BytesAt w g off l) (hl : l.length = 18) (hB : ByteL l) (hc : 18 ≤ c) :
    Calls Tryz.prog 79 #[.int .u8 kind, .slice (some ⟨g, off, none⟩) 18 c] w (ParsePost (parseF kind l) w) := by
  have HN := hideIt (fun W (hm : Mod [] w W) => number_any (c := c) ((hb.keep hm).take 2) (show (l.take 2).length = 2 by simp; omega) (by omega) (hB.take 2))
  have HR := hideIt (show ∀ W, Mod [] w W → Calls Tryz.prog 115 #[.slice (some ⟨g, off + 2, none⟩) 16 (c - 2)] W (fun e w' => e = .returned (R4 (coordV (l.drop 2) 0) (coordV (l.drop 2) 1) (coordV (l.drop 2) 2) (coordV (l.drop 2) 3)) ∧ Mod [] W w') from fun W hm => rect_any (c := c - 2) ((hb.keep hm).drop 2) (show (l.drop 2).length = 16 by simp; omega) (hB.drop 2) (by omega))
  obtain ⟨r1, r2⟩ := valB_range (hB.take 2)
  rw [show (l.take 2).length = 2 by simp; omega] at r2
  have e : parseF kind l = ⟨kind, 0, valB (l.take 2), coordV (l.drop 2) 0, coordV (l.drop 2) 1, coordV (l.drop 2) 2, coordV (l.drop 2) 3⟩ := by
    unfold parseF
    rw [if_neg (by omega), if_neg (by omega)]
  rw [e]
  have HE := hideIt (show ∀ W, Mod [] w W → ParsePost (⟨kind, 0, valB (l.take 2), coordV (l.drop 2) 0, coordV (l.drop 2) 1, coordV (l.drop 2) 2, coordV (l.drop 2) 3⟩ : Rc) w (.returned (⟨kind, 0, valB (l.take 2), coordV (l.drop 2) 0, coordV (l.drop 2) 1, coordV (l.drop 2) 2, coordV (l.drop 2) 3⟩ : Rc).val) W from fun W hm => ⟨rfl, hm⟩)
  generalize coordV (l.drop 2) 0 = C0 at *
  generalize coordV (l.drop 2) 1 = C1 at *
  generalize coordV (l.drop 2) 2 = C2 at *
  generalize coordV (l.drop 2) 3 = C3 at *
  simp only [Rc.val] at HE
  generalize valB (l.take 2) = Z at *
  clear hb hB hl e
  rcases hk with rfl | rfl
  case inl =>
    go_enter Tryz.func79, Tryz.ntmps79
    go_wp2_with fail
    refine (HN.out _ ((Mod.alloc _ _).trans (Mod.alloc _ _))).mono ?_
    rintro e w1 ⟨rfl, hw⟩
    obtain rfl := hw
    go_wp2_with fail
    have hmA : Mod [] w ((w.alloc (rcO ⟨0, 0, 0, 0, 0, 0, 0⟩)).alloc (rcO ⟨80, 0, Z, 0, 0, 0, 0⟩)) := (Mod.alloc _ _).trans (Mod.alloc _ _)
    refine (HR.out _ hmA).mono ?_
    rintro e w2 ⟨rfl, hm2⟩
    have b0 := ((hm2.block w.heap.size (by simp; omega) (by simp)).trans ((Mod.alloc (F := []) (w.alloc (rcO ⟨0, 0, 0, 0, 0, 0, 0⟩)) _).block w.heap.size (by simp) (by simp))).trans (heap_alloc_new w _)
    have b1 : w2.heap[w.heap.size + 1]? = some (rcO ⟨80, 0, Z, 0, 0, 0, 0⟩) := by
      have h := heap_alloc_new (w.alloc (rcO ⟨0, 0, 0, 0, 0, 0, 0⟩)) (rcO ⟨80, 0, Z, 0, 0, 0, 0⟩)
      rw [show (w.alloc (rcO ⟨0, 0, 0, 0, 0, 0, 0⟩)).heap.size = w.heap.size + 1 by simp] at h
      exact (hm2.block _ (by simp) (by simp)).trans h
    have HM2 := hideIt (hmA.trans hm2)
    have HB0 := hideIt b0
    obtain ⟨z0, z1, z2, z3, z4, z5, z6⟩ := cell_rcO b0
    obtain ⟨y0, y1, y2, y3, y4, y5, y6⟩ := cell_rcO b1
    simp only at z0 z1 z2 z3 z4 z5 z6 y0 y1 y2 y3 y4 y5 y6
    have f0 := fun o => frozen_of_block b0 o
    have f1 := fun o => frozen_of_block b1 o
    have l0 := lt_of_block b0
    have l1 := lt_of_block b1
    clear b0 b1 hm2 hmA HN HR
    go_wp2
    obtain ⟨hW, hB⟩ := told7 (r := ⟨80, 0, Z, C0, C1, C2, C3⟩) HM2.out (p := w.heap.size) (q := w.heap.size + 1) (by omega) (by omega) (by omega) HB0.out (.int .i64 C0) (.int .i64 C1) (.int .i64 C2) (.int .i64 C3) rfl
    simp only at hW hB
    generalize ((((((((((w2.setCell _ _).setCell _ _).setCell _ _).setCell _ _).setCell _ _).setCell _ _).setCell _ _).setCell _ _).setCell _ _).setCell _ _).setCell _ _ = W at *
    obtain ⟨v0, v1, v2, v3, v4, v5, v6⟩ := cell_rcO hB
    simp only at v0 v1 v2 v3 v4 v5 v6
    have HW := hideIt hW
    clear hW z0 z1 z2 z3 z4 z5 z6 y0 y1 y2 y3 y4 y5 y6 f0 f1 l0 l1 hB
    exact bodyPost_ret (v := .agg #[.int .u8 80, .int .i64 0, .int .i64 Z, .int .i64 C0, .int .i64 C1, .int .i64 C2, .int .i64 C3]) (by simp [results, Tryz.results79, go_sem, v0, v1, v2, v3, v4, v5, v6]) rfl (HE.out _ HW.out)
  case inr =>
    go_enter Tryz.func79, Tryz.ntmps79
    go_wp2_with fail
    refine (HN.out _ ((Mod.alloc _ _).trans (Mod.alloc _ _))).mono ?_
    rintro e w1 ⟨rfl, hw⟩
    obtain rfl := hw
    go_wp2_with fail
    have hmA : Mod [] w ((w.alloc (rcO ⟨0, 0, 0, 0, 0, 0, 0⟩)).alloc (rcO ⟨77, 0, Z, 0, 0, 0, 0⟩)) := (Mod.alloc _ _).trans (Mod.alloc _ _)
    refine (HR.out _ hmA).mono ?_
    rintro e w2 ⟨rfl, hm2⟩
    have b0 := ((hm2.block w.heap.size (by simp; omega) (by simp)).trans ((Mod.alloc (F := []) (w.alloc (rcO ⟨0, 0, 0, 0, 0, 0, 0⟩)) _).block w.heap.size (by simp) (by simp))).trans (heap_alloc_new w _)
    have b1 : w2.heap[w.heap.size + 1]? = some (rcO ⟨77, 0, Z, 0, 0, 0, 0⟩) := by
      have h := heap_alloc_new (w.alloc (rcO ⟨0, 0, 0, 0, 0, 0, 0⟩)) (rcO ⟨77, 0, Z, 0, 0, 0, 0⟩)
      rw [show (w.alloc (rcO ⟨0, 0, 0, 0, 0, 0, 0⟩)).heap.size = w.heap.size + 1 by simp] at h
      exact (hm2.block _ (by simp) (by simp)).trans h
    have HM2 := hideIt (hmA.trans hm2)
    have HB0 := hideIt b0
    obtain ⟨z0, z1, z2, z3, z4, z5, z6⟩ := cell_rcO b0
    obtain ⟨y0, y1, y2, y3, y4, y5, y6⟩ := cell_rcO b1
    simp only at z0 z1 z2 z3 z4 z5 z6 y0 y1 y2 y3 y4 y5 y6
    have f0 := fun o => frozen_of_block b0 o
    have f1 := fun o => frozen_of_block b1 o
    have l0 := lt_of_block b0
    have l1 := lt_of_block b1
    clear b0 b1 hm2 hmA HN HR
    go_wp2
    obtain ⟨hW, hB⟩ := told7 (r := ⟨77, 0, Z, C0, C1, C2, C3⟩) HM2.out (p := w.heap.size) (q := w.heap.size + 1) (by omega) (by omega) (by omega) HB0.out (.int .i64 C0) (.int .i64 C1) (.int .i64 C2) (.int .i64 C3) rfl
    simp only at hW hB
    generalize ((((((((((w2.setCell _ _).setCell _ _).setCell _ _).setCell _ _).setCell _ _).setCell _ _).setCell _ _).setCell _ _).setCell _ _).setCell _ _).setCell _ _ = W at *
    obtain ⟨v0, v1, v2, v3, v4, v5, v6⟩ := cell_rcO hB
    simp only at v0 v1 v2 v3 v4 v5 v6
    have HW := hideIt hW
    clear hW z0 z1 z2 z3 z4 z5 z6 y0 y1 y2 y3 y4 y5 y6 f0 f1 l0 l1 hB
    exact bodyPost_ret (v := .agg #[.int .u8 77, .int .i64 0, .int .i64 Z, .int .i64 C0, .int .i64 C1, .int .i64 C2, .int .i64 C3]) (by simp [results, Tryz.results79, go_sem, v0, v1, v2, v3, v4, v5, v6]) rfl (HE.out _ HW.out)

end Go.Proofs.YthimaoipogocfaaGreat
