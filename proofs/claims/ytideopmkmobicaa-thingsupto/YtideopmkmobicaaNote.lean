import Derived.Test.YtideopmkmobicaaBody
namespace Go.Proofs.Ytideopmkmobicaa
open Go.RowKit

/-- the reference's tree, as its block holds it -/
abbrev T58 (fan : Int) (tv lv : Value) (last : Int) : Obj := .cells #[.int .i64 fan, tv, lv, .int .i64 last] 58 (0, 0)

theorem cell_T58 {w : World} {b : Nat} {fan last : Int} {tv lv : Value} (h : w.heap[b]? = some (T58 fan tv lv last)) :
    w.cell? ⟨b, 0, none⟩ = some (.int .i64 fan) ∧ w.cell? ⟨b, 1, none⟩ = some tv ∧ w.cell? ⟨b, 2, none⟩ = some lv ∧ w.cell? ⟨b, 3, none⟩ = some (.int .i64 last) := by
  refine ⟨?_, ?_, ?_, ?_⟩ <;> rw [cell_of_block h] <;> rfl

/-- what note leaves -/
def NotePost (py nl m : Nat) (fan : Int) (tv : Value) (w : World) (e : Ending) (w' : World) : Prop :=
  e = .returned (.tuple #[]) ∧ ∃ g c last' ls', w'.heap[py]? = some (T58 fan tv (.slice (some ⟨g, 0, none⟩) (nl + (m + 5)) c) last') ∧ i64ok last' ∧
    w'.ownsRow w.heap.size 5 1 (.slice (some ⟨g, 0, none⟩) (nl + (m + 5)) c) (nl + (m + 5)) ls' ∧ (∀ u ∈ ls', isU8 u) ∧ Mod [py] w w'

theorem T58_set3 {w : World} {b : Nat} {fan last z : Int} {tv lv : Value} (h : w.heap[b]? = some (T58 fan tv lv last)) : (w.setCell ⟨b, 3, none⟩ (.int .i64 z)).heap[b]? = some (T58 fan tv lv z) := by
  rw [block_setCell h]; rfl
theorem T58_set2 {w : World} {b : Nat} {fan last : Int} {tv lv lv' : Value} (h : w.heap[b]? = some (T58 fan tv lv last)) : (w.setCell ⟨b, 2, none⟩ lv').heap[b]? = some (T58 fan tv lv' last) := by
  rw [block_setCell h]; rfl
theorem T58_set1 {w : World} {b : Nat} {fan last : Int} {tv lv tv' : Value} (h : w.heap[b]? = some (T58 fan tv lv last)) : (w.setCell ⟨b, 1, none⟩ tv').heap[b]? = some (T58 fan tv' lv last) := by
  rw [block_setCell h]; rfl

/-- a row of another element type lies in another block -/
theorem owns_ne {w : World} {base : Nat} {e e' : TypeId} {size g n c b : Nat} {xs : List Value} {cs : Array Value} {fr : Nat × Nat} (h : w.ownsRow base e size (.slice (some ⟨g, 0, none⟩) n c) n xs) (hb : w.heap[b]? = some (.cells cs e' fr)) (hne : e ≠ e') : g ≠ b := by
  rintro rfl
  rcases h.2 with ⟨h, _⟩ | ⟨g', c', cur, h1, _, h2, _⟩
  · cases h
  · cases h1
    rw [hb] at h2
    cases h2
    exact hne rfl

set_option maxHeartbeats 400000 in
theorem note_more (py : Nat) (fan last kind : Int) (tv : Value) (gl nl cl : Nat) (ls : List Value) (bv : Value) (m : Nat) (bs : List Value) (w : World)
    (ht : w.heap[py]? = some (T58 fan tv (.slice (some ⟨gl, 0, none⟩) nl cl) last)) (hlast : i64ok last) (hlog : w.ownsRow 0 5 1 (.slice (some ⟨gl, 0, none⟩) nl cl) nl ls) (hlu : ∀ u ∈ ls, isU8 u) (hnl : 0 < nl) (hnl2 : nl ≤ 100000000)
    (hm : m ≤ 100) (hb : srcRow w 1 bv m bs) (hu : ∀ u ∈ bs, isU8 u) :
    Calls Try.prog 19 #[.pointer (some ⟨py, 0, none⟩), .int .u8 kind, bv] w (NotePost py nl m fan tv w) := by
  obtain ⟨i0, hi, hz0, hz1, hz2⟩ := info_parts info5
  have hpy := lt_of_block ht
  have ht3 := (cell_T58 ht).2.2.2
  go_enter Try.func19, Try.ntmps19
  go_wp2_with fail
  refine (Record_any last kind bv m bs _ hlast hm hb hu).mono ?_
  rintro e w1 ⟨gr, cr, xs, rfl, hor, hxu, hbel⟩
  have ht1 : w1.heap[py]? = some (T58 fan tv (.slice (some ⟨gl, 0, none⟩) nl cl) last) := (hbel.block py hpy).trans ht
  have hgr := (hor.lt gr rfl)
  have hcr : m + 5 ≤ cr := by
    rcases hor.2 with ⟨h, _⟩ | ⟨g', c', cur, h1, _, _, h2, _⟩
    · cases h
    · cases h1; exact h2
  clear ht3
  have hcs := owns_u8 hor hxu
  obtain ⟨x0, hx0⟩ := hcs (m + 1) (by omega)
  obtain ⟨x1, hx1⟩ := hcs (m + 1 + 1) (by omega)
  obtain ⟨x2, hx2⟩ := hcs (m + 1 + 2) (by omega)
  obtain ⟨x3, hx3⟩ := hcs (m + 1 + 3) (by omega)
  have hval := value_any gr (m + 1) (cr - (m + 1)) x0 x1 x2 x3 w1 hx0 hx1 hx2 hx3
  clear hcs hx0 hx1 hx2 hx3
  go_wp2_with fail
  refine hval.mono ?_
  clear hval
  rintro e w2 ⟨z, rfl, hz, nq, hw⟩
  have hm2 : Mod [] w1 w2 := by rw [hw]; exact Mod.drewN _ _
  clear hw
  have ht2 : w2.heap[py]? = some (T58 fan tv (.slice (some ⟨gl, 0, none⟩) nl cl) last) := (hm2.block py (lt_of_block ht1) (by simp)).trans ht1
  have hor2 := owns_kept hor hm2 (by simp)
  have hlog2 := owns_kept (owns_kept hlog (Mod.of_below hbel) (by simp)) hm2 (by simp)
  have hgl : gl ≠ py := owns_ne hlog2 ht2 (by decide)
  have hc3 := (cell_T58 ht2).2.2.2
  have hf3 := frozen_of_block ht2 3
  have hM2 : Mod [py] w (w2.setCell ⟨py, 3, none⟩ (.int .i64 z)) := (((Mod.of_below hbel).trans hm2).nil).trans (Mod.setCell _ _ _ (by simp))
  have ht3 := T58_set3 (z := z) ht2
  have hor3 := owns_kept hor2 (Mod.setCell (F := [py]) w2 ⟨py, 3, none⟩ (.int .i64 z) (by simp)) (by simp [Value.ownBlock]; omega)
  have hlog3 := owns_kept hlog2 (Mod.setCell (F := [py]) w2 ⟨py, 3, none⟩ (.int .i64 z) (by simp)) (by simp [Value.ownBlock]; exact hgl)
  have hc2 := (cell_T58 ht3).2.2.1
  have hsz3 : w.heap.size ≤ (w2.setCell ⟨py, 3, none⟩ (.int .i64 z)).heap.size := hM2.size
  have hs3 := srcRow_of_owns hlog3 (fun u h => (hlu u h).one)
  clear hor2 hlog2 hm2 hor ht1 hlog hbel ht hb hgl
  generalize hW3 : w2.setCell ⟨py, 3, none⟩ (.int .i64 z) = w3 at *
  clear hlog3
  go_wp2_with (at_builtin; refine wpList_append_rows _ rfl _ _ 38 rfl w.heap.size 5 i0 (.int .u8 0) 1 1 Try.underlying38 hi hz0 hz1 hz2 rfl (by decide) _ 0 [] rfl (World.ownsRow_nil _ _ _ _) _ nl ls rfl hs3 (by omega) (by unfold maxLen; omega) (by omega) hsz3 ?_)
  intro g4 c4 w4 ho4 hm4 hat4
  have hm4' : Mod [] w3 w4 := hm4
  have hg4 := (ho4.lt g4 rfl).1
  have ht4 : w4.heap[py]? = some (T58 fan tv (.slice (some ⟨gl, 0, none⟩) nl cl) z) := (hm4'.block py (lt_of_block ht3) (by simp)).trans ht3
  have hs4 := srcRow_mod (srcRow_of_owns hor3 (fun u h => (hxu u h).one)) hm4'
  have hM4 : Mod [py] w w4 := hM2.trans hm4'.nil
  have hlu4 : ∀ u ∈ catL [] ls, isU8 u := fun u h => hlu u (by simpa [catL] using h)
  have hsz4 := hM4.size
  clear hc2 hs3 hsz3 hor3 ht3 hM2 hW3 hc3 hf3 ht2 hm4 hat4
  generalize catL [] ls = ls4 at ho4 hlu4
  go_wp2_with (at_builtin; refine wpList_append_rows _ rfl _ _ 38 rfl w.heap.size 5 i0 (.int .u8 0) 1 1 Try.underlying38 hi hz0 hz1 hz2 rfl (by decide) _ nl ls4 rfl ho4 _ (m + 5) xs rfl hs4 (by omega) (by unfold maxLen; omega) (by omega) hsz4 ?_)
  intro g5 c5 w5 ho5 hm5 hat5
  have hm5' : Mod [g4] w4 w5 := hm5
  have ht5 : w5.heap[py]? = some (T58 fan tv (.slice (some ⟨gl, 0, none⟩) nl cl) z) := (hm5'.block py (lt_of_block ht4) (by simp; omega)).trans ht4
  have hM5 : Mod [py] w w5 := hM4.then hm5' (by simp; omega)
  have hg5 := (ho5.lt g5 rfl).1
  have hc5 := (cell_T58 ht5).2.2.1
  have hf5 := frozen_of_block ht5 2
  have hu5 : ∀ u ∈ catL ls4 xs, isU8 u := fun u h => by
    rcases mem_catL.1 h with h | h
    · exact hlu4 u h
    · exact hxu u h
  clear hs4 ho4 ht4 hM4 hm5 hat5
  generalize catL ls4 xs = ls5 at ho5 hu5
  go_wp2
  go_end0
  refine ⟨rfl, g5, c5, z, ls5, T58_set2 ht5, hz, ?_, hu5, hM5.trans (Mod.setCell _ _ _ (by simp))⟩
  exact owns_kept ho5 (Mod.setCell (F := [py]) w5 ⟨py, 2, none⟩ _ (by simp)) (by simp [Value.ownBlock]; omega)


set_option maxHeartbeats 400000 in
theorem note_first (py : Nat) (fan last kind : Int) (tv : Value) (bv : Value) (m : Nat) (bs : List Value) (w : World)
    (ht : w.heap[py]? = some (T58 fan tv (.slice none 0 0) last)) (hlast : i64ok last)
    (hm : m ≤ 100) (hb : srcRow w 1 bv m bs) (hu : ∀ u ∈ bs, isU8 u) :
    Calls Try.prog 19 #[.pointer (some ⟨py, 0, none⟩), .int .u8 kind, bv] w (NotePost py 0 m fan tv w) := by
  obtain ⟨i0, hi, hz0, hz1, hz2⟩ := info_parts info5
  have hpy := lt_of_block ht
  have ht3 := (cell_T58 ht).2.2.2
  go_enter Try.func19, Try.ntmps19
  go_wp2_with fail
  refine (Record_any last kind bv m bs _ hlast hm hb hu).mono ?_
  rintro e w1 ⟨gr, cr, xs, rfl, hor, hxu, hbel⟩
  have ht1 : w1.heap[py]? = some (T58 fan tv (.slice none 0 0) last) := (hbel.block py hpy).trans ht
  have hgr := (hor.lt gr rfl)
  have hcr : m + 5 ≤ cr := by
    rcases hor.2 with ⟨h, _⟩ | ⟨g', c', cur, h1, _, _, h2, _⟩
    · cases h
    · cases h1; exact h2
  clear ht3
  have hcs := owns_u8 hor hxu
  obtain ⟨x0, hx0⟩ := hcs (m + 1) (by omega)
  obtain ⟨x1, hx1⟩ := hcs (m + 1 + 1) (by omega)
  obtain ⟨x2, hx2⟩ := hcs (m + 1 + 2) (by omega)
  obtain ⟨x3, hx3⟩ := hcs (m + 1 + 3) (by omega)
  have hval := value_any gr (m + 1) (cr - (m + 1)) x0 x1 x2 x3 w1 hx0 hx1 hx2 hx3
  clear hcs hx0 hx1 hx2 hx3
  go_wp2_with fail
  refine hval.mono ?_
  clear hval
  rintro e w2 ⟨z, rfl, hz, nq, hw⟩
  have hm2 : Mod [] w1 w2 := by rw [hw]; exact Mod.drewN _ _
  clear hw
  have ht2 : w2.heap[py]? = some (T58 fan tv (.slice none 0 0) last) := (hm2.block py (lt_of_block ht1) (by simp)).trans ht1
  have hor2 := owns_kept hor hm2 (by simp)
  have hc3 := (cell_T58 ht2).2.2.2
  have hf3 := frozen_of_block ht2 3
  have hM2 : Mod [py] w (w2.setCell ⟨py, 3, none⟩ (.int .i64 z)) := (((Mod.of_below hbel).trans hm2).nil).trans (Mod.setCell _ _ _ (by simp))
  have ht3 := T58_set3 (z := z) ht2
  have hor3 := owns_kept hor2 (Mod.setCell (F := [py]) w2 ⟨py, 3, none⟩ (.int .i64 z) (by simp)) (by simp [Value.ownBlock]; omega)
  have hc2 := (cell_T58 ht3).2.2.1
  have hsz3 : w.heap.size ≤ (w2.setCell ⟨py, 3, none⟩ (.int .i64 z)).heap.size := hM2.size
  clear hor2 hm2 hor ht1 hbel ht hb
  generalize hW3 : w2.setCell ⟨py, 3, none⟩ (.int .i64 z) = w3 at *
  have hs4 := srcRow_of_owns hor3 (fun u h => (hxu u h).one)
  have hsz4 := hM2.size
  go_wp2_with (at_builtin; refine wpList_append_rows _ rfl _ _ 38 rfl w.heap.size 5 i0 (.int .u8 0) 1 1 Try.underlying38 hi hz0 hz1 hz2 rfl (by decide) _ 0 [] rfl (World.ownsRow_nil _ _ _ _) _ (m + 5) xs rfl hs4 (by omega) (by unfold maxLen; omega) (by omega) hsz4 ?_)
  intro g5 c5 w5 ho5 hm5 hat5
  have hm5' : Mod [] w3 w5 := hm5
  have ht5 : w5.heap[py]? = some (T58 fan tv (.slice none 0 0) z) := (hm5'.block py (lt_of_block ht3) (by simp)).trans ht3
  have hM5 : Mod [py] w w5 := hM2.trans hm5'.nil
  have hg5 := (ho5.lt g5 rfl).1
  have hc5 := (cell_T58 ht5).2.2.1
  have hf5 := frozen_of_block ht5 2
  have hu5 : ∀ u ∈ catL [] xs, isU8 u := fun u h => hxu u (by simpa [catL] using h)
  clear hs4 ht3 hM2 hm5 hat5 hc2 hW3 hc3 hf3 ht2 hor3
  generalize catL [] xs = ls5 at ho5 hu5
  go_wp2
  go_end0
  refine ⟨rfl, g5, c5, z, ls5, ?_, hz, ?_, hu5, hM5.trans (Mod.setCell _ _ _ (by simp))⟩
  · rw [Nat.zero_add]
    exact T58_set2 ht5
  · rw [Nat.zero_add]
    exact owns_kept ho5 (Mod.setCell (F := [py]) w5 ⟨py, 2, none⟩ _ (by simp)) (by simp [Value.ownBlock]; omega)

end Go.Proofs.Ytideopmkmobicaa
