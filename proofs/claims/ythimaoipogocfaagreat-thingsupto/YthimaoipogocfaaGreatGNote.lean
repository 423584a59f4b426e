import Derived.Test.YthimaoipogocfaaGreatGBody
namespace Go.Proofs.YthimaoipogocfaaGreat
open Go.RowKit Go.Maps
attribute [local go_sem] run_store_f32 run_neg_inf

/-- the reference's tree, as its block holds it -/
abbrev T58 (fan : Int) (tv lv : Value) (last : Int) : Obj := .cells #[.int .i64 fan, tv, lv, .int .i64 last] 106 (0, 0)

theorem cell_T58 {w : World} {b : Nat} {fan last : Int} {tv lv : Value} (h : w.heap[b]? = some (T58 fan tv lv last)) :
    w.cell? ⟨b, 0, none⟩ = some (.int .i64 fan) ∧ w.cell? ⟨b, 1, none⟩ = some tv ∧ w.cell? ⟨b, 2, none⟩ = some lv ∧ w.cell? ⟨b, 3, none⟩ = some (.int .i64 last) := by
  refine ⟨?_, ?_, ?_, ?_⟩ <;> rw [cell_of_block h] <;> rfl

/-- the last record's sum, as it goes into the next one's -/
def LastOk (last : Int) (lg : List Int) : Prop := (0 ≤ last ∧ last < 4294967296) ∧ numB last 4 = ahead lg
theorem LastOk.nil : LastOk 0 [] := ⟨by omega, by decide⟩
theorem LastOk.of {lg : List Int} (h4 : 4 ≤ lg.length) (hB : ByteL lg) : LastOk (valB (lg.drop (lg.length - 4))) lg := by
  have hl : (lg.drop (lg.length - 4)).length = 4 := by rw [List.length_drop]; omega
  have hr := valB_range (hB.drop (lg.length - 4))
  rw [hl] at hr
  refine ⟨by omega, ?_⟩
  have h1 := numB_valB (hB.drop (lg.length - 4))
  rw [hl] at h1
  rw [h1]
  unfold ahead
  rw [if_neg (by rintro rfl; simp at h4)]

/-- what note leaves -/
def NotePost (py : Nat) (fan : Int) (tv : Value) (lg : List Int) (w : World) (e : Ending) (w' : World) : Prop :=
  e = .returned (.tuple #[]) ∧ ∃ g c last' nl', w'.heap[py]? = some (T58 fan tv (.slice (some ⟨g, 0, none⟩) nl' c) last') ∧ LastOk last' lg ∧
    w'.ownsRow w.heap.size 5 1 (.slice (some ⟨g, 0, none⟩) nl' c) nl' (u8s lg) ∧ ByteL lg ∧ (4 ≤ nl' ∧ nl' = lg.length) ∧ Mod [py] w w'

theorem rec_last (lg : List Int) (kind : Int) (bs : List Int) : ∃ x0 x1 x2 x3, (recF lg kind bs).drop (bs.length + 1) = [x0, x1, x2, x3] := by
  have hl : ((recF lg kind bs).drop (bs.length + 1)).length = 4 := by rw [List.length_drop, recF_length]; omega
  match (recF lg kind bs).drop (bs.length + 1), hl with
  | [x0, x1, x2, x3], _ => exact ⟨x0, x1, x2, x3, rfl⟩
theorem recF_byte {kind : Int} (hk : 0 ≤ kind ∧ kind < 256) (lg : List Int) {bs : List Int} (hB : ByteL bs) : ByteL (recF lg kind bs) := (ByteL.cons hk hB).append (numB_byte _ _)
theorem note_last {lg r : List Int} {m : Nat} {x0 x1 x2 x3 : Int} (hr : r.length = m + 5) (h : r.drop (m + 1) = [x0, x1, x2, x3]) : (lg ++ r).drop ((lg ++ r).length - 4) = [x0, x1, x2, x3] := by
  rw [List.length_append, hr, List.drop_append, show lg.length + (m + 5) - 4 - lg.length = m + 1 by omega, h, List.drop_of_length_le (by omega)]
  rfl

theorem T58_set3 {w : World} {b : Nat} {fan last z : Int} {tv lv : Value} (h : w.heap[b]? = some (T58 fan tv lv last)) : (w.setCell ⟨b, 3, none⟩ (.int .i64 z)).heap[b]? = some (T58 fan tv lv z) := by
  rw [block_setCell h]; rfl
theorem T58_set2 {w : World} {b : Nat} {fan last : Int} {tv lv lv' : Value} (h : w.heap[b]? = some (T58 fan tv lv last)) : (w.setCell ⟨b, 2, none⟩ lv').heap[b]? = some (T58 fan tv lv' last) := by
  rw [block_setCell h]; rfl
theorem T58_set1 {w : World} {b : Nat} {fan last : Int} {tv lv tv' : Value} (h : w.heap[b]? = some (T58 fan tv lv last)) : (w.setCell ⟨b, 1, none⟩ tv').heap[b]? = some (T58 fan tv' lv last) := by
  rw [block_setCell h]; rfl

/-- a row of another element type lies in another block -/
theorem owns_ne {w : World} {base : Nat} {e e' : TypeId} {size g n c b : Nat} {xs : List Value} {cs : Array Value} {fr : Nat × Nat} (h : w.ownsRow base e size (.slice (some ⟨g, 0, none⟩) n c) n xs) (hb : w.heap[b]? = some (.cells cs e' fr)) (hne : e ≠ e') : g ≠ b := by
  rintro rfl
  rcases h.2 with ⟨h, _⟩ | ⟨g', c', cur, h1, _, h2, _⟩
  · cases h
  · cases h1
    rw [hb] at h2
    cases h2
    exact hne rfl

set_option maxRecDepth 100000 in
set_option maxHeartbeats 1000000 in
theorem note_more (py : Nat) (fan last kind : Int) (tv : Value) (gl nl cl : Nat) (lg : List Int) (bv : Value) (m : Nat) (bs : List Int) (w : World)
    (ht : w.heap[py]? = some (T58 fan tv (.slice (some ⟨gl, 0, none⟩) nl cl) last)) (hlast : LastOk last lg) (hlog : w.ownsRow 0 5 1 (.slice (some ⟨gl, 0, none⟩) nl cl) nl (u8s lg)) (hlu : ByteL lg) (hnl : 4 ≤ nl ∧ nl = lg.length) (hnl2 : nl ≤ 100000000) (hk : 0 ≤ kind ∧ kind < 256)
    (hm : m ≤ 100) (hb : srcRow w 1 bv m (u8s bs)) (hu : ByteL bs) :
    Calls Tryz.prog 80 #[.pointer (some ⟨py, 0, none⟩), .int .u8 kind, bv] w (NotePost py fan tv (lg ++ recF lg kind bs) w) := by
  obtain ⟨i0, hi, hz0, hz1, hz2⟩ := info_partsB infoB
  have hpy := lt_of_block ht
  have HNL := hideIt hnl.2
  replace hnl := hnl.1
  have ht3 := (cell_T58 ht).2.2.2
  go_enter Tryz.func80, Tryz.ntmps80
  go_wp2_with fail
  have hbs : bs.length = m := by have := hb.1; rw [u8s_length] at this; omega
  refine (Record_any last kind lg bv m bs _ hlast.1 hlast.2 hk hm hb hu).mono ?_
  rintro e w1 ⟨gr, cr, rfl, hor, hbel⟩
  obtain ⟨xs, hxs⟩ : ∃ xs, xs = recF lg kind bs := ⟨_, rfl⟩
  rw [← hxs] at hor
  have hxu : ByteL xs := by rw [hxs]; exact recF_byte hk _ hu
  have hxl : xs.length = m + 5 := by rw [hxs, recF_length, hbs]
  have hx4 := rec_last lg kind bs
  rw [← hxs, hbs] at hx4
  have HXS := hideIt hxs
  clear hxs
  have ht1 : w1.heap[py]? = some (T58 fan tv (.slice (some ⟨gl, 0, none⟩) nl cl) last) := (hbel.block py hpy (by simp)).trans ht
  have hgr := (hor.lt gr rfl)
  have hcr : m + 5 ≤ cr := by
    rcases hor.2 with ⟨h, _⟩ | ⟨g', c', cur, h1, _, _, h2, _⟩
    · cases h
    · cases h1; exact h2
  clear ht3
  have hcs := BytesAt.of_owns hor
  obtain ⟨x0, x1, x2, x3, hx4⟩ := hx4
  have hat : ∀ j y, [x0, x1, x2, x3][j]? = some y → w1.cell? ⟨gr, m + 1 + j, none⟩ = some (.int .u8 y) := fun j y hj => by
    rw [← hx4, List.getElem?_drop] at hj
    have := hcs _ y hj
    rw [Nat.zero_add] at this
    exact this
  have hx0 := hat 0 x0 rfl
  rw [Nat.add_zero] at hx0
  have hx1 := hat 1 x1 rfl
  have hx2 := hat 2 x2 rfl
  have hx3 := hat 3 x3 rfl
  have hBx : ByteL [x0, x1, x2, x3] := by rw [← hx4]; exact hxu.drop _
  have hval := value_any gr (m + 1) (cr - (m + 1)) x0 x1 x2 x3 w1 hBx hx0 hx1 hx2 hx3
  have HX4 := hideIt hx4
  clear hat hx4 hBx
  clear hcs hx0 hx1 hx2 hx3
  go_wp2_with fail
  obtain ⟨z, hz⟩ : ∃ z, z = valB [x0, x1, x2, x3] := ⟨_, rfl⟩
  rw [← hz] at hval
  have HZ := hideIt hz
  clear hz
  refine hval.mono ?_
  clear hval
  rintro e w2 ⟨rfl, nq, hw⟩
  have hm2 : Mod [] w1 w2 := by rw [hw]; exact Mod.drewN _ _
  clear hw
  have ht2 : w2.heap[py]? = some (T58 fan tv (.slice (some ⟨gl, 0, none⟩) nl cl) last) := (hm2.block py (lt_of_block ht1) (by simp)).trans ht1
  have hor2 := owns_kept hor hm2 (by simp)
  have hlog2 := owns_kept (owns_kept hlog (hbel) (by simp)) hm2 (by simp)
  have hgl : gl ≠ py := owns_ne hlog2 ht2 (by decide)
  have hc3 := (cell_T58 ht2).2.2.2
  have hf3 := frozen_of_block ht2 3
  have hM2 : Mod [py] w (w2.setCell ⟨py, 3, none⟩ (.int .i64 z)) := (((hbel).trans hm2).nil).trans (Mod.setCell _ _ _ (by simp))
  have ht3 := T58_set3 (z := z) ht2
  have hor3 := owns_kept hor2 (Mod.setCell (F := [py]) w2 ⟨py, 3, none⟩ (.int .i64 z) (by simp)) (by simp [Value.ownBlock]; omega)
  have hlog3 := owns_kept hlog2 (Mod.setCell (F := [py]) w2 ⟨py, 3, none⟩ (.int .i64 z) (by simp)) (by simp [Value.ownBlock]; exact hgl)
  have hc2 := (cell_T58 ht3).2.2.1
  have hsz3 : w.heap.size ≤ (w2.setCell ⟨py, 3, none⟩ (.int .i64 z)).heap.size := hM2.size
  have hs3 := srcRow_of_owns hlog3 (u8s_one _)
  clear hor2 hlog2 hm2 hor ht1 hlog hbel ht hb hgl
  generalize hW3 : w2.setCell ⟨py, 3, none⟩ (.int .i64 z) = w3 at *
  clear hlog3
  go_wp2_with (at_builtin; refine wpList_append_rows _ rfl _ _ 56 rfl w.heap.size 5 i0 (.int .u8 0) 1 1 Tryz.underlying56 hi hz0 hz1 hz2 rfl (by decide) _ 0 [] rfl (World.ownsRow_nil _ _ _ _) _ nl (u8s lg) rfl hs3 (by omega) (by unfold maxLen; omega) (by omega) hsz3 ?_)
  intro g4 c4 w4 ho4 hm4 hat4
  have hm4' : Mod [] w3 w4 := hm4
  have hg4 := (ho4.lt g4 rfl).1
  have ht4 : w4.heap[py]? = some (T58 fan tv (.slice (some ⟨gl, 0, none⟩) nl cl) z) := (hm4'.block py (lt_of_block ht3) (by simp)).trans ht3
  have hs4 := srcRow_mod (srcRow_of_owns hor3 (u8s_one _)) hm4'
  have hM4 : Mod [py] w w4 := hM2.trans hm4'.nil
  have ho4 : w4.ownsRow w.heap.size 5 1 (.slice (some ⟨g4, 0, none⟩) nl c4) nl (u8s lg) := ho4
  have hsz4 := hM4.size
  clear hc2 hs3 hsz3 hor3 ht3 hM2 hW3 hc3 hf3 ht2 hm4 hat4
  go_wp2_with (at_builtin; refine wpList_append_rows _ rfl _ _ 56 rfl w.heap.size 5 i0 (.int .u8 0) 1 1 Tryz.underlying56 hi hz0 hz1 hz2 rfl (by decide) _ nl (u8s lg) rfl ho4 _ (m + 5) (u8s xs) rfl hs4 (by omega) (by unfold maxLen; omega) (by omega) hsz4 ?_)
  intro g5 c5 w5 ho5 hm5 hat5
  have hm5' : Mod [g4] w4 w5 := hm5
  have ht5 : w5.heap[py]? = some (T58 fan tv (.slice (some ⟨gl, 0, none⟩) nl cl) z) := (hm5'.block py (lt_of_block ht4) (by simp; omega)).trans ht4
  have hM5 : Mod [py] w w5 := hM4.then hm5' (by simp; omega)
  have hg5 := (ho5.lt g5 rfl).1
  have hc5 := (cell_T58 ht5).2.2.1
  have hf5 := frozen_of_block ht5 2
  clear hs4 ho4 ht4 hM4 hm5 hat5
  rw [u8s_cat] at ho5
  go_wp2
  go_end0
  have hlu5 : ByteL (lg ++ xs) := hlu.append hxu
  have hl5 : nl + (m + 5) = (lg ++ xs).length := by rw [List.length_append, hxl, HNL.out]
  have hlz : LastOk z (lg ++ xs) := by
    have := LastOk.of (lg := lg ++ xs) (by omega) hlu5
    rw [note_last hxl HX4.out, ← HZ.out] at this
    exact this
  rw [← HXS.out]
  refine ⟨rfl, g5, c5, z, nl + (m + 5), T58_set2 ht5, hlz, ?_, hlu5, ⟨by omega, hl5⟩, hM5.trans (Mod.setCell _ _ _ (by simp))⟩
  exact owns_kept ho5 (Mod.setCell (F := [py]) w5 ⟨py, 2, none⟩ _ (by simp)) (by simp [Value.ownBlock]; omega)


set_option maxRecDepth 100000 in
set_option maxHeartbeats 1000000 in
theorem note_first (py : Nat) (fan last kind : Int) (tv : Value) (bv : Value) (m : Nat) (bs : List Int) (w : World)
    (ht : w.heap[py]? = some (T58 fan tv (.slice none 0 0) last)) (hlast : LastOk last []) (hk : 0 ≤ kind ∧ kind < 256)
    (hm : m ≤ 100) (hb : srcRow w 1 bv m (u8s bs)) (hu : ByteL bs) :
    Calls Tryz.prog 80 #[.pointer (some ⟨py, 0, none⟩), .int .u8 kind, bv] w (NotePost py fan tv ([] ++ recF [] kind bs) w) := by
  obtain ⟨i0, hi, hz0, hz1, hz2⟩ := info_partsB infoB
  have hpy := lt_of_block ht
  have ht3 := (cell_T58 ht).2.2.2
  go_enter Tryz.func80, Tryz.ntmps80
  go_wp2_with fail
  have hbs : bs.length = m := by have := hb.1; rw [u8s_length] at this; omega
  refine (Record_any last kind [] bv m bs _ hlast.1 hlast.2 hk hm hb hu).mono ?_
  rintro e w1 ⟨gr, cr, rfl, hor, hbel⟩
  obtain ⟨xs, hxs⟩ : ∃ xs, xs = recF [] kind bs := ⟨_, rfl⟩
  rw [← hxs] at hor
  have hxu : ByteL xs := by rw [hxs]; exact recF_byte hk _ hu
  have hxl : xs.length = m + 5 := by rw [hxs, recF_length, hbs]
  have hx4 := rec_last [] kind bs
  rw [← hxs, hbs] at hx4
  have HXS := hideIt hxs
  clear hxs
  have ht1 : w1.heap[py]? = some (T58 fan tv (.slice none 0 0) last) := (hbel.block py hpy (by simp)).trans ht
  have hgr := (hor.lt gr rfl)
  have hcr : m + 5 ≤ cr := by
    rcases hor.2 with ⟨h, _⟩ | ⟨g', c', cur, h1, _, _, h2, _⟩
    · cases h
    · cases h1; exact h2
  clear ht3
  have hcs := BytesAt.of_owns hor
  obtain ⟨x0, x1, x2, x3, hx4⟩ := hx4
  have hat : ∀ j y, [x0, x1, x2, x3][j]? = some y → w1.cell? ⟨gr, m + 1 + j, none⟩ = some (.int .u8 y) := fun j y hj => by
    rw [← hx4, List.getElem?_drop] at hj
    have := hcs _ y hj
    rw [Nat.zero_add] at this
    exact this
  have hx0 := hat 0 x0 rfl
  rw [Nat.add_zero] at hx0
  have hx1 := hat 1 x1 rfl
  have hx2 := hat 2 x2 rfl
  have hx3 := hat 3 x3 rfl
  have hBx : ByteL [x0, x1, x2, x3] := by rw [← hx4]; exact hxu.drop _
  have hval := value_any gr (m + 1) (cr - (m + 1)) x0 x1 x2 x3 w1 hBx hx0 hx1 hx2 hx3
  have HX4 := hideIt hx4
  clear hat hx4 hBx
  clear hcs hx0 hx1 hx2 hx3
  go_wp2_with fail
  obtain ⟨z, hz⟩ : ∃ z, z = valB [x0, x1, x2, x3] := ⟨_, rfl⟩
  rw [← hz] at hval
  have HZ := hideIt hz
  clear hz
  refine hval.mono ?_
  clear hval
  rintro e w2 ⟨rfl, nq, hw⟩
  have hm2 : Mod [] w1 w2 := by rw [hw]; exact Mod.drewN _ _
  clear hw
  have ht2 : w2.heap[py]? = some (T58 fan tv (.slice none 0 0) last) := (hm2.block py (lt_of_block ht1) (by simp)).trans ht1
  have hor2 := owns_kept hor hm2 (by simp)
  have hc3 := (cell_T58 ht2).2.2.2
  have hf3 := frozen_of_block ht2 3
  have hM2 : Mod [py] w (w2.setCell ⟨py, 3, none⟩ (.int .i64 z)) := (((hbel).trans hm2).nil).trans (Mod.setCell _ _ _ (by simp))
  have ht3 := T58_set3 (z := z) ht2
  have hor3 := owns_kept hor2 (Mod.setCell (F := [py]) w2 ⟨py, 3, none⟩ (.int .i64 z) (by simp)) (by simp [Value.ownBlock]; omega)
  have hc2 := (cell_T58 ht3).2.2.1
  have hsz3 : w.heap.size ≤ (w2.setCell ⟨py, 3, none⟩ (.int .i64 z)).heap.size := hM2.size
  clear hor2 hm2 hor ht1 hbel ht hb
  generalize hW3 : w2.setCell ⟨py, 3, none⟩ (.int .i64 z) = w3 at *
  have hs4 := srcRow_of_owns hor3 (u8s_one _)
  have hsz4 := hM2.size
  go_wp2_with (at_builtin; refine wpList_append_rows _ rfl _ _ 56 rfl w.heap.size 5 i0 (.int .u8 0) 1 1 Tryz.underlying56 hi hz0 hz1 hz2 rfl (by decide) _ 0 [] rfl (World.ownsRow_nil _ _ _ _) _ (m + 5) (u8s xs) rfl hs4 (by omega) (by unfold maxLen; omega) (by omega) hsz4 ?_)
  intro g5 c5 w5 ho5 hm5 hat5
  have hm5' : Mod [] w3 w5 := hm5
  have ht5 : w5.heap[py]? = some (T58 fan tv (.slice none 0 0) z) := (hm5'.block py (lt_of_block ht3) (by simp)).trans ht3
  have hM5 : Mod [py] w w5 := hM2.trans hm5'.nil
  have hg5 := (ho5.lt g5 rfl).1
  have hc5 := (cell_T58 ht5).2.2.1
  have hf5 := frozen_of_block ht5 2
  clear hs4 ht3 hM2 hm5 hat5 hc2 hW3 hc3 hf3 ht2 hor3
  have ho5 : w5.ownsRow w.heap.size 5 1 (.slice (some ⟨g5, 0, none⟩) (m + 5) c5) (m + 5) (u8s xs) := ho5
  go_wp2
  go_end0
  have hlu5 : ByteL ([] ++ xs) := hxu
  have hl5 : m + 5 = ([] ++ xs : List Int).length := by rw [List.length_append, hxl]; simp
  have hlz : LastOk z ([] ++ xs) := by
    have := LastOk.of (lg := [] ++ xs) (by omega) hlu5
    rw [note_last hxl HX4.out, ← HZ.out] at this
    exact this
  rw [← HXS.out]
  refine ⟨rfl, g5, c5, z, m + 5, T58_set2 ht5, hlz, ?_, hlu5, ⟨by omega, hl5⟩, hM5.trans (Mod.setCell _ _ _ (by simp))⟩
  exact owns_kept ho5 (Mod.setCell (F := [py]) w5 ⟨py, 2, none⟩ _ (by simp)) (by simp [Value.ownBlock]; omega)

end Go.Proofs.YthimaoipogocfaaGreat
