import Derived.Test.YthimaoipogocfaaGreatGPut
import Derived.Test.YthimaoipogocfaaGreatGApp
import Derived.RegionTactic
namespace Go.Proofs.YthimaoipogocfaaGreat
open Go.RowKit Go.Maps
attribute [local go_sem] run_store_f32 run_neg_inf

theorem flat_set (L : List Th) (n : Nat) (s t : Th) (hn : L[n]? = some s) (hid : s.id = t.id) :
    ((((flat L).set (n * 5 + 1) (.int .i64 t.x0)).set (n * 5 + 2) (.int .i64 t.y0)).set (n * 5 + 3) (.int .i64 t.x1)).set (n * 5 + 4) (.int .i64 t.y1) = flat (L.set n t) := by
  induction L generalizing n with
  | nil => simp at hn
  | cons a L ih =>
    cases n with
    | zero =>
      simp at hn
      subst hn
      simp [flat, thCells, hid]
    | succ n =>
      simp at hn
      have e : ∀ M : List Value, ∀ j u, (thCells a ++ M).set (5 + j) u = thCells a ++ M.set j u := fun M j u => by
        rw [Nat.add_comm]
        rfl
      show ((((thCells a ++ flat L).set _ _).set _ _).set _ _).set _ _ = thCells a ++ flat (L.set n t)
      rw [show (n + 1) * 5 + 1 = 5 + (n * 5 + 1) by omega, show (n + 1) * 5 + 2 = 5 + (n * 5 + 2) by omega, show (n + 1) * 5 + 3 = 5 + (n * 5 + 3) by omega, show (n + 1) * 5 + 4 = 5 + (n * 5 + 4) by omega, e, e, e, e, ih n hn]

/-- four cells of a thing written -/
def setT4 (w : World) (g n : Nat) (t : Th) : World :=
  ((((w.setCell ⟨g, n * 5 + 1, none⟩ (.int .i64 t.x0)).setCell ⟨g, n * 5 + 1 + 1, none⟩ (.int .i64 t.y0)).setCell ⟨g, n * 5 + 1 + 2, none⟩ (.int .i64 t.x1)).setCell ⟨g, n * 5 + 1 + 3, none⟩ (.int .i64 t.y1)).drew

theorem setT4_mod (w : World) (g n : Nat) (t : Th) : Mod [g] w (setT4 w g n t) :=
  ((((Mod.setCell _ _ _ (by simp)).trans (Mod.setCell _ _ _ (by simp))).trans (Mod.setCell _ _ _ (by simp))).trans (Mod.setCell _ _ _ (by simp))).trans (Mod.drew _)

theorem setT4_owns {w : World} {g n m c : Nat} {L : List Th} {s t : Th} (h : w.ownsRow 0 193 5 (.slice (some ⟨g, 0, none⟩) m c) m (flat L)) (hs : L[n]? = some s) (hid : s.id = t.id) : (setT4 w g n t).ownsRow 0 193 5 (.slice (some ⟨g, 0, none⟩) m c) m (flat (L.set n t)) := by
  rw [← flat_set L n s t hs hid]
  exact owns_kept (owns_setL (owns_setL (owns_setL (owns_setL h _ _) _ _) _ _) _ _) (Mod.drew (F := []) _) (by simp)

theorem find_get {L : List Th} {id : Int} {n : Nat} (h : findT L id = some n) : ∃ s, L[n]? = some s ∧ s.id = id := by
  rw [findT, List.findIdx?_eq_some_iff_getElem] at h
  obtain ⟨hlt, h1, _⟩ := h
  exact ⟨L[n], List.getElem?_eq_getElem hlt, by simpa using h1⟩

set_option maxRecDepth 100000 in
set_option maxHeartbeats 400000 in
theorem refPut_old {w : World} {py : Nat} {fan : Int} {L : List Th} {lg : List Int} {F : List Nat} (h : RefRep w py fan L lg F) (hL : L.length ≤ 400) (hnl : lg.length ≤ 99999900) (t : Th) (hid : idB t.id = true) (hr : rectB t.x0 t.y0 t.x1 t.y1 = true) (n : Nat) (hf : findT L t.id = some n) :
    Calls Tryz.prog 120 #[.pointer (some ⟨py, 0, none⟩), .int .i64 t.id, R4 t.x0 t.y0 t.x1 t.y1] w (RefPutPost py fan (putF L t) (putFL L lg t) F w) := by
  have e : putF L t = (0, L.set n t) := by simp [putF, hid, hr, hf]
  have e2 : putFL L lg t = lg ++ recF lg 77 (putB t.id t.x0 t.y0 t.x1 t.y1) := by
    unfold putFL putLT
    rw [e, if_pos rfl, findT_has, hf]
    rfl
  rw [e2, e]
  clear e2
  obtain ⟨h0, h1⟩ := idB_iff.1 hid
  obtain ⟨s, hs, hsid⟩ := find_get hf
  have hnlt : n < L.length := (List.getElem?_eq_some_iff.1 hs).1
  have HF : Hid (findT L t.id = some n) := hf
  have HS : Hid (L[n]? = some s) := hs
  have HSI : Hid (s.id = t.id) := hsid
  clear e hf hs hsid
  go_enter Tryz.func120, Tryz.ntmps120
  go_wp2_with fail
  refine (Rect_any _ _ _ _ _).mono ?_
  rw [hr]
  rintro e w1 ⟨rfl, hw1⟩
  have hm1 : Mod [] w w1 := by rw [hw1]; exact (Mod.alloc _ _).trans (Mod.alloc _ _)
  have hbx1 : w1.heap[w.heap.size]? = some (B4 t.x0 t.y0 t.x1 t.y1) := by
    rw [hw1, Below.heap_alloc _ _ _ (by simp)]
    exact heap_alloc_new w _
  have hR1 := h.kept hm1 (by simp)
  clear hw1
  go_wp2_with fail
  refine (at_any hR1 (by omega) _).mono ?_
  rintro e w' ⟨k, rfl, hat, rfl⟩
  have hk : k = n := by
    rcases hat.find with ⟨_, h⟩ | ⟨m, hm, hn, _⟩
    · rw [HF.out] at h; cases h
    · rw [HF.out] at hn; cases hn; exact hm
  subst hk
  clear hat
  obtain ⟨tv, gl, cl, last, nl, ht1, h2, h3, h4, h5, h6, hF⟩ := hR1
  have HH : Hid (F = py :: gl :: tv.ownBlock.toList) := hF
  clear hF
  have hlen : ∃ g c, tv = .slice (some ⟨g, 0, none⟩) L.length c := by
    rcases h3.2 with ⟨rfl, hz⟩ | ⟨g, c, cur, rfl, hrest⟩
    · omega
    · exact ⟨_, _, rfl⟩
  obtain ⟨g, c, rfl⟩ := hlen
  have hcb := cell_B4 hbx1
  obtain ⟨cb0, cb1, cb2, cb3⟩ := hcb
  go_wp2_with fail
  refine (Body_any t.id _ _ _ _ _ ⟨h0, h1⟩ (rectB_ok hr)).mono ?_
  rintro e w2 ⟨gb, cb, rfl, hob, hb2⟩
  have hbu : ByteL (putB t.id t.x0 t.y0 t.x1 t.y1) := by have := Rc.body_byte (rcPut true t.id t.x0 t.y0 t.x1 t.y1); exact this
  obtain ⟨bs, hbs⟩ : ∃ bs, putB t.id t.x0 t.y0 t.x1 t.y1 = bs := ⟨_, rfl⟩
  rw [hbs] at hob hbu
  have HBS := hideIt hbs
  clear hbs
  have hm2 := hb2
  have ht2 := (hm2.block py (lt_of_block ht1) (by simp)).trans ht1
  have hbx2 := (hm2.block w.heap.size (lt_of_block hbx1) (by simp)).trans hbx1
  have h32 := owns_kept h3 hm2 (by simp)
  have h42 := owns_kept h4 hm2 (by simp)
  have hM2 := hm1.trans hm2
  have hsz1 := hM2.size
  clear hm1 hm2 hb2 ht1 h3 h4 cb0 cb1 cb2 cb3 hbx1
  have hc1 := (cell_T58 ht2).2.1
  obtain ⟨cb0, cb1, cb2, cb3⟩ := cell_B4 hbx2
  obtain ⟨d0, d1, d2, d3, d4⟩ := thing_cells h32 HS.out
  have hfz : ∀ o, w2.frozen? ⟨g, o, none⟩ = false := by
    rcases h32.2 with ⟨h, _⟩ | ⟨g', c', cur, h1, _, h2, _⟩
    · cases h
    · cases h1; exact fun o => frozen_of_block h2 o
  go_wp2_with fail
  go_region
  have hm3 := setT4_mod w2 g n t
  have h33 := setT4_owns h32 HS.out HSI.out
  have hgpy : g ≠ py := owns_ne h32 ht2 (by decide)
  have ht3 := (hm3.block py (lt_of_block ht2) (by simp; omega)).trans ht2
  have h43 := owns_kept h42 hm3 (owns_apart h42 h32 (by decide))
  have hob3 := owns_kept hob hm3 (owns_apart hob h32 (by decide))
  have hW : setT4 w2 g n t = ((((w2.setCell ⟨g, n * 5 + 1, none⟩ (.int .i64 t.x0)).setCell ⟨g, n * 5 + 1 + 1, none⟩ (.int .i64 t.y0)).setCell ⟨g, n * 5 + 1 + 2, none⟩ (.int .i64 t.x1)).setCell ⟨g, n * 5 + 1 + 3, none⟩ (.int .i64 t.y1)).drew := rfl
  rw [← hW]
  clear hW h42 h32 hob ht2 hc1 cb0 cb1 cb2 cb3 d0 d1 d2 d3 d4 hfz hbx2
  generalize setT4 w2 g n t = w3 at *
  go_wp2_with fail
  refine (note_more py fan last 77 _ gl nl cl lg _ 18 bs w3 ht3 h2 h43 h5 h6 (by omega) (by omega) (by omega) (srcRow_of_owns hob3 (u8s_one _)) hbu).mono ?_
  rintro e w5 ⟨rfl, gn, cn, last', nl', ht5, hl5, ho5, hu5, hn5, hm5⟩
  have hfin : RefPutPost py fan (0, L.set n t) (lg ++ recF lg 77 bs) F w (.returned (.int .i64 0)) w5 := by
    have hz3 := hm3.size
    have hgn := (ho5.lt gn rfl).1
    refine ⟨rfl, py :: gn :: [g], ⟨_, gn, cn, last', nl', ht5, hl5, ?_, owns_base ho5 (Nat.zero_le _), hu5, hn5, rfl⟩, ?_, ?_⟩
    · have := owns_kept h33 hm5 (by simpa [Value.ownBlock] using hgpy)
      rw [List.length_set]
      exact this
    · rw [HH.out]
      exact ((hM2.nil.trans (hm3.mono (by simp [Value.ownBlock])))).trans (hm5.mono (by simp))
    · intro x hx
      rw [HH.out]
      simp at hx
      rcases hx with rfl | rfl | rfl
      · exact .inl (by simp)
      · exact .inr (by omega)
      · exact .inl (by simp [Value.ownBlock])
  have HFIN := hideIt hfin
  clear hfin ht5 ho5 hm5 ht3 h33 h43 hob3
  go_wp2
  go_ret
  rw [HBS.out]
  exact HFIN.out

theorem refPut_any {w : World} {py : Nat} {fan : Int} {L : List Th} {lg : List Int} {F : List Nat} (h : RefRep w py fan L lg F) (hL : L.length ≤ 400) (hnl : lg.length ≤ 99999900) (t : Th) :
    Calls Tryz.prog 120 #[.pointer (some ⟨py, 0, none⟩), .int .i64 t.id, R4 t.x0 t.y0 t.x1 t.y1] w (RefPutPost py fan (putF L t) (putFL L lg t) F w) := by
  cases hid : idB t.id with
  | false => exact refPut_id h t hid
  | true =>
    cases hr : rectB t.x0 t.y0 t.x1 t.y1 with
    | false => exact refPut_rect h t hid hr
    | true =>
      cases hf : findT L t.id with
      | some n => exact refPut_old h hL hnl t hid hr n hf
      | none =>
        by_cases hl : L.length < 400
        · exact refPut_new h hnl t hid hr hf hl
        · exact refPut_full h hL t hid hr hf (by omega)

end Go.Proofs.YthimaoipogocfaaGreat
