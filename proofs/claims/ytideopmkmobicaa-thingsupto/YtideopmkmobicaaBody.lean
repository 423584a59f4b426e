import Derived.Test.YtideopmkmobicaaLeaves
import Derived.Test.YtideopmkmobicaaBytes
namespace Go.Proofs.Ytideopmkmobicaa
open Go.RowKit

theorem cell_B4 {w : World} {b : Nat} {x0 y0 x1 y1 : Int} (h : w.heap[b]? = some (B4 x0 y0 x1 y1)) :
    w.cell? ⟨b, 0, none⟩ = some (.int .i64 x0) ∧ w.cell? ⟨b, 1, none⟩ = some (.int .i64 y0) ∧ w.cell? ⟨b, 2, none⟩ = some (.int .i64 x1) ∧ w.cell? ⟨b, 3, none⟩ = some (.int .i64 y1) := by
  refine ⟨?_, ?_, ?_, ?_⟩ <;> rw [cell_of_block h] <;> rfl

abbrev F4 (z0 z1 z2 z3 : Int) : Obj := .cells #[.int .u8 z0, .int .u8 z1, .int .u8 z2, .int .u8 z3] 5

/-- four bytes, just laid, as what is appended -/
theorem src_four (w : World) (z0 z1 z2 z3 : Int) : srcRow (w.alloc (F4 z0 z1 z2 z3)) 1 (.slice (some ⟨w.heap.size, 0, none⟩) 4 4) 4 [.int .u8 z0, .int .u8 z1, .int .u8 z2, .int .u8 z3] :=
  srcRow_of_owns (owns_alloc (w := w) (cur := #[.int .u8 z0, .int .u8 z1, .int .u8 z2, .int .u8 z3]) (e := 5) (n := 4) (size := 1) rfl (by decide) (Nat.le_refl _)) (fun u h => by
    simp at h
    rcases h with rfl | rfl | rfl | rfl <;> rfl)

theorem u8_cat4 {xs : List Value} (h : ∀ u ∈ xs, isU8 u) (z0 z1 z2 z3 : Int) : ∀ u ∈ catL xs [.int .u8 z0, .int .u8 z1, .int .u8 z2, .int .u8 z3], isU8 u := fun u hu => by
  rcases mem_catL.1 hu with hu | hu
  · exact h u hu
  · simp at hu
    rcases hu with hu | hu | hu | hu <;> exact ⟨_, hu⟩

def BodyPost (w : World) (e : Ending) (w' : World) : Prop := ∃ g cap xs, e = .returned (.slice (some ⟨g, 0, none⟩) 18 cap) ∧ w'.ownsRow w.heap.size 5 1 (.slice (some ⟨g, 0, none⟩) 18 cap) 18 xs ∧ (∀ u ∈ xs, isU8 u) ∧ Below w.heap.size w w'

/-- what goes from one append to the next: the boxed rectangle, and the bytes so far -/
structure BodyAt (w : World) (x0 y0 x1 y1 : Int) (n g c : Nat) (xs : List Value) (w1 : World) : Prop where
  box : w1.heap[w.heap.size]? = some (B4 x0 y0 x1 y1)
  own : w1.ownsRow (w.heap.size + 1) 5 1 (.slice (some ⟨g, 0, none⟩) n c) n xs
  u8 : ∀ u ∈ xs, isU8 u
  below : Below w.heap.size w w1

theorem BodyAt.next {w : World} {x0 y0 x1 y1 : Int} {n g c : Nat} {xs : List Value} {w1 : World} (h : BodyAt w x0 y0 x1 y1 n g c xs w1) {z0 z1 z2 z3 : Int} {g2 c2 : Nat} {w2 : World}
    (ho : w2.ownsRow (w.heap.size + 1) 5 1 (.slice (some ⟨g2, 0, none⟩) (n + 4) c2) (n + 4) (catL xs [.int .u8 z0, .int .u8 z1, .int .u8 z2, .int .u8 z3]))
    (hm : Mod [g] (w1.alloc (F4 z0 z1 z2 z3)) w2) : BodyAt w x0 y0 x1 y1 (n + 4) g2 c2 (catL xs [.int .u8 z0, .int .u8 z1, .int .u8 z2, .int .u8 z3]) w2 := by
  have hlt := lt_of_block h.box
  have hg := (h.own.lt g rfl).1
  refine ⟨?_, ho, u8_cat4 h.u8 _ _ _ _, ?_⟩
  · rw [hm.block _ (by simp; omega) (by simp; omega), Below.heap_alloc _ _ _ hlt]
    exact h.box
  · exact (h.below.alloc (by omega) _).trans (hm.below_of (by simp; omega) (by simp; omega))

set_option maxHeartbeats 400000 in
theorem Body_any (id x0 y0 x1 y1 : Int) (w : World) (hid : 0 ≤ id ∧ id ≤ 4095) (hx0 : i64ok x0) (hy0 : i64ok y0) (hx1 : i64ok x1) (hy1 : i64ok y1) :
    Calls Try.prog 63 #[.int .i64 id, R4 x0 y0 x1 y1] w (BodyPost w) := by
  obtain ⟨i0, hi, hz0, hz1, hz2⟩ := info_parts info5
  obtain ⟨hid0, hid1⟩ := hid
  go_enter Try.func63, Try.ntmps63
  go_wp2_with fail
  refine (two_any id _ hid0 hid1).mono ?_
  rintro e w' ⟨t0, t1, rfl, hw⟩
  have hA : BodyAt w x0 y0 x1 y1 2 (w.heap.size + 1) 2 [.int .u8 t0, .int .u8 t1] w' := by
    subst hw
    refine ⟨?_, ?_, ?_, ?_⟩
    · rw [Below.heap_alloc _ _ _ (by simp)]
      exact heap_alloc_new w _
    · have := owns_alloc (w := w.alloc (B4 x0 y0 x1 y1)) (cur := #[.int .u8 t0, .int .u8 t1]) (e := 5) (n := 2) (size := 1) rfl (by decide) (base := w.heap.size + 1) (by simp)
      simpa using this
    · intro u hu
      simp at hu
      rcases hu with hu | hu <;> exact ⟨_, hu⟩
    · exact ((Below.refl _ _).alloc (Nat.le_refl _) _).alloc (by simp) _
  clear hw
  have hsz : (w.alloc (B4 x0 y0 x1 y1)).heap.size = w.heap.size + 1 := by simp
  rw [hsz]
  clear hsz
  generalize [Value.int .u8 t0, Value.int .u8 t1] = xs1 at hA
  obtain ⟨g1, hg1⟩ : ∃ g1, g1 = w.heap.size + 1 := ⟨_, rfl⟩
  have hA1 : BodyAt w x0 y0 x1 y1 2 g1 2 xs1 w' := hg1 ▸ hA
  rw [← hg1]
  clear hg1 hA
  have hc0 := (cell_B4 hA1.box).1
  have hlt0 := lt_of_block hA1.box
  go_wp2_with fail
  refine (four_any x0 _ hx0).mono ?_
  rintro e v0 ⟨z0, z1, z2, z3, rfl, rfl⟩
  have ho0 := hA1.own.alloc (F4 z0 z1 z2 z3)
  have hs0 := src_four w' z0 z1 z2 z3
  have hbz0 : w.heap.size + 1 ≤ (World.alloc w' (F4 z0 z1 z2 z3)).heap.size := by simp; omega
  go_wp2_with (at_builtin; refine wpList_append_rows _ rfl _ _ 38 rfl (w.heap.size + 1) 5 i0 (.int .u8 0) 1 1 Try.underlying38 hi hz0 hz1 hz2 rfl (by decide) _ 2 xs1 rfl ho0 _ 4 [.int .u8 z0, .int .u8 z1, .int .u8 z2, .int .u8 z3] rfl hs0 (by omega) (by unfold maxLen; omega) (by omega) hbz0 ?_)
  intro g2 c2 w2 hn0 hm0 _
  have hA2 := hA1.next hn0 hm0
  clear hc0 hlt0 ho0 hs0 hbz0 hn0 hm0 hA1
  generalize catL xs1 [.int .u8 z0, .int .u8 z1, .int .u8 z2, .int .u8 z3] = xs2 at hA2
  have hc1 := (cell_B4 hA2.box).2.1
  have hlt1 := lt_of_block hA2.box
  go_wp2_with fail
  refine (four_any y0 _ hy0).mono ?_
  rintro e v1 ⟨z0, z1, z2, z3, rfl, rfl⟩
  have ho1 := hA2.own.alloc (F4 z0 z1 z2 z3)
  have hs1 := src_four w2 z0 z1 z2 z3
  have hbz1 : w.heap.size + 1 ≤ (World.alloc w2 (F4 z0 z1 z2 z3)).heap.size := by simp; omega
  go_wp2_with (at_builtin; refine wpList_append_rows _ rfl _ _ 38 rfl (w.heap.size + 1) 5 i0 (.int .u8 0) 1 1 Try.underlying38 hi hz0 hz1 hz2 rfl (by decide) _ 6 xs2 rfl ho1 _ 4 [.int .u8 z0, .int .u8 z1, .int .u8 z2, .int .u8 z3] rfl hs1 (by omega) (by unfold maxLen; omega) (by omega) hbz1 ?_)
  intro g3 c3 w3 hn1 hm1 _
  have hA3 := hA2.next hn1 hm1
  clear hc1 hlt1 ho1 hs1 hbz1 hn1 hm1 hA2
  generalize catL xs2 [.int .u8 z0, .int .u8 z1, .int .u8 z2, .int .u8 z3] = xs3 at hA3
  have hc2 := (cell_B4 hA3.box).2.2.1
  have hlt2 := lt_of_block hA3.box
  go_wp2_with fail
  refine (four_any x1 _ hx1).mono ?_
  rintro e v2 ⟨z0, z1, z2, z3, rfl, rfl⟩
  have ho2 := hA3.own.alloc (F4 z0 z1 z2 z3)
  have hs2 := src_four w3 z0 z1 z2 z3
  have hbz2 : w.heap.size + 1 ≤ (World.alloc w3 (F4 z0 z1 z2 z3)).heap.size := by simp; omega
  go_wp2_with (at_builtin; refine wpList_append_rows _ rfl _ _ 38 rfl (w.heap.size + 1) 5 i0 (.int .u8 0) 1 1 Try.underlying38 hi hz0 hz1 hz2 rfl (by decide) _ 10 xs3 rfl ho2 _ 4 [.int .u8 z0, .int .u8 z1, .int .u8 z2, .int .u8 z3] rfl hs2 (by omega) (by unfold maxLen; omega) (by omega) hbz2 ?_)
  intro g4 c4 w4 hn2 hm2 _
  have hA4 := hA3.next hn2 hm2
  clear hc2 hlt2 ho2 hs2 hbz2 hn2 hm2 hA3
  generalize catL xs3 [.int .u8 z0, .int .u8 z1, .int .u8 z2, .int .u8 z3] = xs4 at hA4
  have hc3 := (cell_B4 hA4.box).2.2.2
  have hlt3 := lt_of_block hA4.box
  go_wp2_with fail
  refine (four_any y1 _ hy1).mono ?_
  rintro e v3 ⟨z0, z1, z2, z3, rfl, rfl⟩
  have ho3 := hA4.own.alloc (F4 z0 z1 z2 z3)
  have hs3 := src_four w4 z0 z1 z2 z3
  have hbz3 : w.heap.size + 1 ≤ (World.alloc w4 (F4 z0 z1 z2 z3)).heap.size := by simp; omega
  go_wp2_with (at_builtin; refine wpList_append_rows _ rfl _ _ 38 rfl (w.heap.size + 1) 5 i0 (.int .u8 0) 1 1 Try.underlying38 hi hz0 hz1 hz2 rfl (by decide) _ 14 xs4 rfl ho3 _ 4 [.int .u8 z0, .int .u8 z1, .int .u8 z2, .int .u8 z3] rfl hs3 (by omega) (by unfold maxLen; omega) (by omega) hbz3 ?_)
  intro g5 c5 w5 hn3 hm3 _
  have hA5 := hA4.next hn3 hm3
  clear hc3 hlt3 ho3 hs3 hbz3 hn3 hm3 hA4
  generalize catL xs4 [.int .u8 z0, .int .u8 z1, .int .u8 z2, .int .u8 z3] = xs5 at hA5
  go_wp2
  go_ret
  exact ⟨g5, c5, xs5, rfl, owns_base hA5.own (by omega), hA5.u8, hA5.below⟩

end Go.Proofs.Ytideopmkmobicaa
