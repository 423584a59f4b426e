import Derived.Test.YthimaoipogocfaaGreatGBytes
namespace Go.Proofs.YthimaoipogocfaaGreat
open Go.RowKit Go.Maps
attribute [local go_sem] run_store_f32 run_neg_inf

theorem cell_B4L {w : World} {p : Nat} {a b c d : Int} (h : w.heap[p]? = some (B4 a b c d)) : w.cell? ⟨p, 0, none⟩ = some (.int .i64 a) ∧ w.cell? ⟨p, 1, none⟩ = some (.int .i64 b) ∧ w.cell? ⟨p, 2, none⟩ = some (.int .i64 c) ∧ w.cell? ⟨p, 3, none⟩ = some (.int .i64 d) := by
  refine ⟨?_, ?_, ?_, ?_⟩ <;> rw [cell_of_block h] <;> rfl

/-- four bytes, just laid, as what is appended -/
theorem src_four (w : World) {n z0 z1 z2 z3 : Int} (e : numB n 4 = [z0, z1, z2, z3]) : srcRow (w.alloc (F4 z0 z1 z2 z3)) 1 (.slice (some ⟨w.heap.size, 0, none⟩) 4 4) 4 (u8s (numB n 4)) :=
  srcRow_of_owns (owns_four (Nat.le_refl _) e) (u8s_one _)

def BodyPost (l : List Int) (w : World) (e : Ending) (w' : World) : Prop := ∃ g cap, e = .returned (.slice (some ⟨g, 0, none⟩) 18 cap) ∧ w'.ownsRow w.heap.size 5 1 (.slice (some ⟨g, 0, none⟩) 18 cap) 18 (u8s l) ∧ Mod [] w w'

/-- what goes from one append to the next: the boxed rectangle, and the bytes so far -/
structure BodyAt (w : World) (x0 y0 x1 y1 : Int) (n g c : Nat) (xs : List Int) (w1 : World) : Prop where
  box : w1.heap[w.heap.size]? = some (B4 x0 y0 x1 y1)
  own : w1.ownsRow (w.heap.size + 1) 5 1 (.slice (some ⟨g, 0, none⟩) n c) n (u8s xs)
  mod : Mod [] w w1

theorem BodyAt.next {w : World} {x0 y0 x1 y1 : Int} {n g c : Nat} {xs : List Int} {w1 wa : World} (h : BodyAt w x0 y0 x1 y1 n g c xs w1) {z : Int} {g2 c2 : Nat} {w2 : World} (ha : Mod [] w1 wa)
    (ho : w2.ownsRow (w.heap.size + 1) 5 1 (.slice (some ⟨g2, 0, none⟩) (n + 4) c2) (n + 4) (catL (u8s xs) (u8s (numB z 4))))
    (hm : Mod [g] wa w2) : BodyAt w x0 y0 x1 y1 (n + 4) g2 c2 (xs ++ numB z 4) w2 := by
  have hlt := lt_of_block h.box
  have hg := (h.own.lt g rfl).1
  have hsz := ha.size
  refine ⟨?_, by rw [← u8s_cat]; exact ho, ?_⟩
  · rw [hm.block _ (by omega) (by simp; omega), ha.block _ hlt (by simp)]
    exact h.box
  · exact (h.mod.trans ha).then hm (by simp; omega)

set_option maxHeartbeats 400000 in
theorem Body_any (id x0 y0 x1 y1 : Int) (w : World) (hid : 0 ≤ id ∧ id ≤ 4095) (hr : RectOk x0 y0 x1 y1) :
    Calls Tryz.prog 154 #[.int .i64 id, R4 x0 y0 x1 y1] w (BodyPost (putB id x0 y0 x1 y1) w) := by
  obtain ⟨i0, hi, hz0, hz1, hz2⟩ := info_partsB infoB
  obtain ⟨hid0, hid1⟩ := hid
  obtain ⟨⟨hx0, hx1, hx2⟩, hy0, hy1, hy2⟩ := hr
  go_enter Tryz.func154, Tryz.ntmps154
  go_wp2_with fail
  refine (two_any id _ hid0 hid1).mono ?_
  rintro e w' ⟨t0, t1, rfl, hw, h2⟩
  have hA : BodyAt w x0 y0 x1 y1 2 (w.heap.size + 1) 2 (numB id 2) w' := by
    subst hw
    refine ⟨?_, ?_, ?_⟩
    · rw [Below.heap_alloc _ _ _ (by simp)]
      exact heap_alloc_new w _
    · have := owns_two (w := w.alloc (B4 x0 y0 x1 y1)) (base := w.heap.size + 1) (by simp) h2
      simpa using this
    · exact (Mod.alloc _ _).trans (Mod.alloc _ _)
  clear hw h2
  have hsz : (w.alloc (B4 x0 y0 x1 y1)).heap.size = w.heap.size + 1 := by simp
  rw [hsz]
  clear hsz
  obtain ⟨xs1, hxs1⟩ : ∃ xs1, xs1 = numB id 2 := ⟨_, rfl⟩
  obtain ⟨g1, hg1⟩ : ∃ g1, g1 = w.heap.size + 1 := ⟨_, rfl⟩
  have hA1 : BodyAt w x0 y0 x1 y1 2 g1 2 xs1 w' := hxs1 ▸ hg1 ▸ hA
  have HX1 := hideIt hxs1
  rw [← hg1]
  clear hg1 hA hxs1
  have hc0 := (cell_B4L hA1.box).1
  have hlt0 := lt_of_block hA1.box
  go_wp2_with fail
  refine (four_any x0 _ (by omega)).mono ?_
  rintro e v0 ⟨z0, z1, z2, z3, rfl, hw, h4⟩
  have hma : Mod [] w' v0 := by rw [hw]; exact Mod.alloc _ _
  have ho0 := owns_kept hA1.own hma (by simp)
  have hs0 : srcRow v0 1 (.slice (some ⟨w'.heap.size, 0, none⟩) 4 4) 4 (u8s (numB x0 4)) := by rw [hw]; exact src_four w' h4
  have hbz0 : w.heap.size + 1 ≤ v0.heap.size := by have := hma.size; omega
  have HMA := hideIt hma
  clear hw h4 hma
  go_wp2_with (at_builtin; refine wpList_append_rows _ rfl _ _ 56 rfl (w.heap.size + 1) 5 i0 (.int .u8 0) 1 1 Tryz.underlying56 hi hz0 hz1 hz2 rfl (by decide) _ 2 (u8s xs1) rfl ho0 _ 4 (u8s (numB x0 4)) rfl hs0 (by omega) (by unfold maxLen; omega) (by omega) hbz0 ?_)
  intro g2 c2 w2 hn0 hm0 _
  have hA2' := hA1.next HMA.out hn0 hm0
  obtain ⟨xs2, hxs2⟩ : ∃ xs2, xs2 = xs1 ++ numB x0 4 := ⟨_, rfl⟩
  rw [← hxs2] at hA2'
  have hA2 := hA2'
  have HX2 := hideIt hxs2
  clear hc0 hlt0 ho0 hs0 hbz0 hn0 hm0 hA1 HMA hA2' hxs2
  have hc1 := (cell_B4L hA2.box).2.1
  have hlt1 := lt_of_block hA2.box
  go_wp2_with fail
  refine (four_any y0 _ (by omega)).mono ?_
  rintro e v1 ⟨z0, z1, z2, z3, rfl, hw, h4⟩
  have hma : Mod [] w2 v1 := by rw [hw]; exact Mod.alloc _ _
  have ho1 := owns_kept hA2.own hma (by simp)
  have hs1 : srcRow v1 1 (.slice (some ⟨w2.heap.size, 0, none⟩) 4 4) 4 (u8s (numB y0 4)) := by rw [hw]; exact src_four w2 h4
  have hbz1 : w.heap.size + 1 ≤ v1.heap.size := by have := hma.size; omega
  have HMA := hideIt hma
  clear hw h4 hma
  go_wp2_with (at_builtin; refine wpList_append_rows _ rfl _ _ 56 rfl (w.heap.size + 1) 5 i0 (.int .u8 0) 1 1 Tryz.underlying56 hi hz0 hz1 hz2 rfl (by decide) _ 6 (u8s xs2) rfl ho1 _ 4 (u8s (numB y0 4)) rfl hs1 (by omega) (by unfold maxLen; omega) (by omega) hbz1 ?_)
  intro g3 c3 w3 hn1 hm1 _
  have hA3' := hA2.next HMA.out hn1 hm1
  obtain ⟨xs3, hxs3⟩ : ∃ xs3, xs3 = xs2 ++ numB y0 4 := ⟨_, rfl⟩
  rw [← hxs3] at hA3'
  have hA3 := hA3'
  have HX3 := hideIt hxs3
  clear hc1 hlt1 ho1 hs1 hbz1 hn1 hm1 hA2 HMA hA3' hxs3
  have hc2 := (cell_B4L hA3.box).2.2.1
  have hlt2 := lt_of_block hA3.box
  go_wp2_with fail
  refine (four_any x1 _ (by omega)).mono ?_
  rintro e v2 ⟨z0, z1, z2, z3, rfl, hw, h4⟩
  have hma : Mod [] w3 v2 := by rw [hw]; exact Mod.alloc _ _
  have ho2 := owns_kept hA3.own hma (by simp)
  have hs2 : srcRow v2 1 (.slice (some ⟨w3.heap.size, 0, none⟩) 4 4) 4 (u8s (numB x1 4)) := by rw [hw]; exact src_four w3 h4
  have hbz2 : w.heap.size + 1 ≤ v2.heap.size := by have := hma.size; omega
  have HMA := hideIt hma
  clear hw h4 hma
  go_wp2_with (at_builtin; refine wpList_append_rows _ rfl _ _ 56 rfl (w.heap.size + 1) 5 i0 (.int .u8 0) 1 1 Tryz.underlying56 hi hz0 hz1 hz2 rfl (by decide) _ 10 (u8s xs3) rfl ho2 _ 4 (u8s (numB x1 4)) rfl hs2 (by omega) (by unfold maxLen; omega) (by omega) hbz2 ?_)
  intro g4 c4 w4 hn2 hm2 _
  have hA4' := hA3.next HMA.out hn2 hm2
  obtain ⟨xs4, hxs4⟩ : ∃ xs4, xs4 = xs3 ++ numB x1 4 := ⟨_, rfl⟩
  rw [← hxs4] at hA4'
  have hA4 := hA4'
  have HX4 := hideIt hxs4
  clear hc2 hlt2 ho2 hs2 hbz2 hn2 hm2 hA3 HMA hA4' hxs4
  have hc3 := (cell_B4L hA4.box).2.2.2
  have hlt3 := lt_of_block hA4.box
  go_wp2_with fail
  refine (four_any y1 _ (by omega)).mono ?_
  rintro e v3 ⟨z0, z1, z2, z3, rfl, hw, h4⟩
  have hma : Mod [] w4 v3 := by rw [hw]; exact Mod.alloc _ _
  have ho3 := owns_kept hA4.own hma (by simp)
  have hs3 : srcRow v3 1 (.slice (some ⟨w4.heap.size, 0, none⟩) 4 4) 4 (u8s (numB y1 4)) := by rw [hw]; exact src_four w4 h4
  have hbz3 : w.heap.size + 1 ≤ v3.heap.size := by have := hma.size; omega
  have HMA := hideIt hma
  clear hw h4 hma
  go_wp2_with (at_builtin; refine wpList_append_rows _ rfl _ _ 56 rfl (w.heap.size + 1) 5 i0 (.int .u8 0) 1 1 Tryz.underlying56 hi hz0 hz1 hz2 rfl (by decide) _ 14 (u8s xs4) rfl ho3 _ 4 (u8s (numB y1 4)) rfl hs3 (by omega) (by unfold maxLen; omega) (by omega) hbz3 ?_)
  intro g5 c5 w5 hn3 hm3 _
  have hA5' := hA4.next HMA.out hn3 hm3
  obtain ⟨xs5, hxs5⟩ : ∃ xs5, xs5 = xs4 ++ numB y1 4 := ⟨_, rfl⟩
  rw [← hxs5] at hA5'
  have hA5 := hA5'
  have HX5 := hideIt hxs5
  clear hc3 hlt3 ho3 hs3 hbz3 hn3 hm3 hA4 HMA hA5' hxs5
  have HE := hideIt (show putB id x0 y0 x1 y1 = xs5 by rw [HX5.out, HX4.out, HX3.out, HX2.out, HX1.out]; rfl)
  have HFIN := hideIt (show BodyPost (putB id x0 y0 x1 y1) w (.returned (.slice (some ⟨g5, 0, none⟩) 18 c5)) w5 from ⟨g5, c5, rfl, by rw [HE.out]; exact owns_base hA5.own (by omega), hA5.mod⟩)
  clear hA5
  go_wp2
  go_ret
  exact HFIN.out

end Go.Proofs.YthimaoipogocfaaGreat
