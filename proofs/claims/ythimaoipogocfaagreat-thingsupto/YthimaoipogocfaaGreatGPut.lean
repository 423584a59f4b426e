import Derived.Test.YthimaoipogocfaaGreatGRef
import Derived.Deep.RegionHeldLaw
import Derived.Deep.RegionLaw
namespace Go.Proofs.YthimaoipogocfaaGreat
open Go.RowKit Go.Maps
attribute [local go_sem] run_store_f32 run_neg_inf

def findT (L : List Th) (id : Int) : Option Nat := L.findIdx? (fun s => s.id == id)

theorem AtIs.find {L : List Th} {id k : Int} (h : AtIs L id k) : (k = -1 ∧ findT L id = none) ∨ ∃ n : Nat, k = n ∧ findT L id = some n ∧ n < L.length := by
  rcases h with ⟨rfl, h⟩ | ⟨n, t, rfl, hn, ht, hb⟩
  · exact .inl ⟨rfl, by rw [findT, List.findIdx?_eq_none_iff]; intro s hs; simpa using h s hs⟩
  · obtain ⟨hlt, he⟩ := List.getElem?_eq_some_iff.1 hn
    refine .inr ⟨n, rfl, ?_, hlt⟩
    rw [findT, List.findIdx?_eq_some_iff_getElem]
    refine ⟨hlt, by rw [he]; simp [ht], fun j hj => ?_⟩
    have := hb (L[j]'(by omega)) (by
      rw [List.mem_take_iff_getElem]
      exact ⟨j, by omega, rfl⟩)
    simpa using this

/-- what a Put does -/
def putF (L : List Th) (t : Th) : Int × List Th :=
  if idB t.id = false then (1, L) else if rectB t.x0 t.y0 t.x1 t.y1 = false then (2, L) else
  match findT L t.id with
  | none => if 400 ≤ L.length then (4, L) else (0, L ++ [t])
  | some n => (0, L.set n t)

def putFL (L : List Th) (lg : List Int) (t : Th) : List Int := if (putF L t).1 = 0 then putLT L lg t else lg
theorem findT_has {L : List Th} {id : Int} : hasT L id = (findT L id).isSome := by
  unfold hasT findT
  rw [List.findIdx?_isSome]

def RefPutPost (py : Nat) (fan : Int) (r : Int × List Th) (lg' : List Int) (F : List Nat) (w : World) (e : Ending) (w' : World) : Prop :=
  e = .returned (.int .i64 r.1) ∧ ∃ F', RefRep w' py fan r.2 lg' F' ∧ Mod F w w' ∧ ∀ x ∈ F', x ∈ F ∨ w.heap.size ≤ x

theorem refPut_same {py : Nat} {fan : Int} {L : List Th} {lg : List Int} {F : List Nat} {w w' : World} (h : RefRep w py fan L lg F) (hm : Mod [] w w') (c : Int) : RefPutPost py fan (c, L) lg F w (.returned (.int .i64 c)) w' :=
  ⟨rfl, F, h.kept hm (by simp), hm.nil, fun x hx => .inl hx⟩

theorem refPut_id {w : World} {py : Nat} {fan : Int} {L : List Th} {lg : List Int} {F : List Nat} (h : RefRep w py fan L lg F) (t : Th) (hid : idB t.id = false) :
    Calls Tryz.prog 120 #[.pointer (some ⟨py, 0, none⟩), .int .i64 t.id, R4 t.x0 t.y0 t.x1 t.y1] w (RefPutPost py fan (putF L t) (putFL L lg t) F w) := by
  have e : putF L t = (1, L) := by simp [putF, hid]
  have e2 : putFL L lg t = lg := by unfold putFL; rw [e]; rfl
  rw [e2, e]
  have hn : ¬ (0 ≤ t.id ∧ t.id ≤ 4095) := fun hh => by rw [idB_iff.2 hh] at hid; cases hid
  clear e e2
  by_cases h0 : t.id < 0
  · go_enter Tryz.func120, Tryz.ntmps120
    go_wp2
    go_ret
    exact refPut_same h (Mod.alloc _ _) 1
  · have h1 : 4096 ≤ t.id := by omega
    go_enter Tryz.func120, Tryz.ntmps120
    go_wp2
    go_ret
    exact refPut_same h (Mod.alloc _ _) 1

theorem refPut_rect {w : World} {py : Nat} {fan : Int} {L : List Th} {lg : List Int} {F : List Nat} (h : RefRep w py fan L lg F) (t : Th) (hid : idB t.id = true) (hr : rectB t.x0 t.y0 t.x1 t.y1 = false) :
    Calls Tryz.prog 120 #[.pointer (some ⟨py, 0, none⟩), .int .i64 t.id, R4 t.x0 t.y0 t.x1 t.y1] w (RefPutPost py fan (putF L t) (putFL L lg t) F w) := by
  have e : putF L t = (2, L) := by simp [putF, hid, hr]
  have e2 : putFL L lg t = lg := by unfold putFL; rw [e]; rfl
  rw [e2, e]
  obtain ⟨h0, h1⟩ := idB_iff.1 hid
  clear e e2
  go_enter Tryz.func120, Tryz.ntmps120
  go_wp2_with fail
  refine (Rect_any _ _ _ _ _).mono ?_
  rw [hr]
  rintro e w' ⟨rfl, rfl⟩
  go_wp2
  go_ret
  exact refPut_same h ((Mod.alloc _ _).trans (Mod.alloc _ _)) 2

set_option maxRecDepth 100000 in
set_option maxHeartbeats 400000 in
theorem refPut_full {w : World} {py : Nat} {fan : Int} {L : List Th} {lg : List Int} {F : List Nat} (h : RefRep w py fan L lg F) (hL : L.length ≤ 400) (t : Th) (hid : idB t.id = true) (hr : rectB t.x0 t.y0 t.x1 t.y1 = true) (hf : findT L t.id = none) (hl : 400 ≤ L.length) :
    Calls Tryz.prog 120 #[.pointer (some ⟨py, 0, none⟩), .int .i64 t.id, R4 t.x0 t.y0 t.x1 t.y1] w (RefPutPost py fan (putF L t) (putFL L lg t) F w) := by
  have e : putF L t = (4, L) := by simp [putF, hid, hr, hf, hl]
  have e2 : putFL L lg t = lg := by unfold putFL; rw [e]; rfl
  rw [e2, e]
  obtain ⟨h0, h1⟩ := idB_iff.1 hid
  have HF : Hid (findT L t.id = none) := hf
  clear e hf
  go_enter Tryz.func120, Tryz.ntmps120
  go_wp2_with fail
  refine (Rect_any _ _ _ _ _).mono ?_
  rw [hr]
  rintro e w1 ⟨rfl, hw1⟩
  have hm1 : Mod [] w w1 := by rw [hw1]; exact (Mod.alloc _ _).trans (Mod.alloc _ _)
  have hR1 := h.kept hm1 (by simp)
  clear hw1
  go_wp2_with fail
  refine (at_any hR1 hL _).mono ?_
  rintro e w' ⟨k, rfl, hat, rfl⟩
  have hk : k = -1 := by
    rcases hat.find with ⟨h, _⟩ | ⟨n, _, hn, _⟩
    · exact h
    · rw [HF.out] at hn; cases hn
  subst hk
  clear hat
  obtain ⟨tv, gl, cl, last, nl, h1', h2, h3, h4, h5, h6, rfl⟩ := hR1
  have hc1 := (cell_T58 h1').2.1
  rcases h3.2 with ⟨rfl, hz⟩ | ⟨g, c, cur, rfl, hrest⟩
  · omega
  · clear hrest h3 h4 h5 h2 h1'
    go_wp2
    go_ret
    exact refPut_same h hm1 4

theorem owns_ne' {w : World} {base : Nat} {e e' : TypeId} {size n b : Nat} {v : Value} {xs : List Value} {cs : Array Value} {fr : Nat × Nat} (h : w.ownsRow base e size v n xs) (hb : w.heap[b]? = some (.cells cs e' fr)) (hne : e ≠ e') : b ∉ v.ownBlock.toList := by
  rcases h.2 with ⟨rfl, _⟩ | ⟨g', c', cur, rfl, _, h2, _⟩
  · simp [Value.ownBlock]
  · have : g' ≠ b := by
      rintro rfl
      rw [hb] at h2
      cases h2
      exact hne rfl
    simp [Value.ownBlock]
    omega

theorem owns_apart {w : World} {base base' : Nat} {e e' : TypeId} {size size' n n' : Nat} {v v' : Value} {xs xs' : List Value} (h : w.ownsRow base e size v n xs) (h' : w.ownsRow base' e' size' v' n' xs') (hne : e ≠ e') : ∀ k, v.ownBlock = some k → k ∉ v'.ownBlock.toList := fun k hk => by
  rcases h.2 with ⟨rfl, _⟩ | ⟨g', c', cur, rfl, _, h2, _⟩
  · cases hk
  · obtain rfl : g' = k := by simpa [Value.ownBlock] using hk
    exact owns_ne' h' h2 (fun e => hne e.symm)

theorem infoTh : (Tryz.prog.info? 193).map (fun i => (i.zero, i.size, i.bytes)) = some (some (.agg #[.int .i64 0, .int .i64 0, .int .i64 0, .int .i64 0, .int .i64 0]), 5, 40) := by kernel_rfl

set_option maxRecDepth 100000 in
set_option maxHeartbeats 400000 in
theorem refPut_new {w : World} {py : Nat} {fan : Int} {L : List Th} {lg : List Int} {F : List Nat} (h : RefRep w py fan L lg F) (hnl : lg.length ≤ 99999900) (t : Th) (hid : idB t.id = true) (hr : rectB t.x0 t.y0 t.x1 t.y1 = true) (hf : findT L t.id = none) (hl : L.length < 400) :
    Calls Tryz.prog 120 #[.pointer (some ⟨py, 0, none⟩), .int .i64 t.id, R4 t.x0 t.y0 t.x1 t.y1] w (RefPutPost py fan (putF L t) (putFL L lg t) F w) := by
  have e : putF L t = (0, L ++ [t]) := by simp [putF, hid, hr, hf]; omega
  have e2 : putFL L lg t = lg ++ recF lg 80 (putB t.id t.x0 t.y0 t.x1 t.y1) := by
    unfold putFL putLT
    rw [e, if_pos rfl, findT_has, hf]
    rfl
  rw [e2, e]
  clear e2
  obtain ⟨h0, h1⟩ := idB_iff.1 hid
  have HF : Hid (findT L t.id = none) := hf
  clear e hf
  go_enter Tryz.func120, Tryz.ntmps120
  go_wp2_with fail
  refine (Rect_any _ _ _ _ _).mono ?_
  rw [hr]
  rintro e w1 ⟨rfl, hw1⟩
  have hm1 : Mod [] w w1 := by rw [hw1]; exact (Mod.alloc _ _).trans (Mod.alloc _ _)
  have hbx1 : w1.heap[w.heap.size]? = some (B4 t.x0 t.y0 t.x1 t.y1) := by
    rw [hw1, Below.heap_alloc _ _ _ (by simp)]
    exact heap_alloc_new w _
  have hR1 := h.kept hm1 (by simp)
  clear hw1
  go_wp2_with fail
  refine (at_any hR1 (by omega) _).mono ?_
  rintro e w' ⟨k, rfl, hat, rfl⟩
  have hk : k = -1 := by
    rcases hat.find with ⟨h, _⟩ | ⟨n, _, hn, _⟩
    · exact h
    · rw [HF.out] at hn; cases hn
  subst hk
  clear hat
  obtain ⟨tv, gl, cl, last, nl, ht1, h2, h3, h4, h5, h6, hF⟩ := hR1
  have HH : Hid (F = py :: gl :: tv.ownBlock.toList) := hF
  clear hF
  have hlen : ∃ a c, tv = .slice a L.length c := by
    rcases h3.2 with ⟨rfl, hz⟩ | ⟨g, c, cur, rfl, hrest⟩
    · exact ⟨none, 0, by rw [hz]⟩
    · exact ⟨_, _, rfl⟩
  obtain ⟨ta, tc, rfl⟩ := hlen
  have hc1 := (cell_T58 ht1).2.1
  have hcb := cell_B4 hbx1
  obtain ⟨cb0, cb1, cb2, cb3⟩ := hcb
  go_wp2_with fail
  refine (Body_any t.id _ _ _ _ _ ⟨h0, h1⟩ (rectB_ok hr)).mono ?_
  rintro e w2 ⟨gb, cb, rfl, hob, hb2⟩
  have hbu : ByteL (putB t.id t.x0 t.y0 t.x1 t.y1) := by have := Rc.body_byte (rcPut true t.id t.x0 t.y0 t.x1 t.y1); exact this
  obtain ⟨bs, hbs⟩ : ∃ bs, putB t.id t.x0 t.y0 t.x1 t.y1 = bs := ⟨_, rfl⟩
  rw [hbs] at hob hbu
  have HBS := hideIt hbs
  clear hbs
  have hm2 := hb2
  obtain ⟨i1, hi, hz0, hz1, hz2⟩ := info_partsB infoTh
  have ht2 := (hm2.block py (lt_of_block ht1) (by simp)).trans ht1
  have hbx2 := (hm2.block w.heap.size (lt_of_block hbx1) (by simp)).trans hbx1
  have h32 := owns_kept h3 hm2 (by simp)
  have h42 := owns_kept h4 hm2 (by simp)
  have hM2 := hm1.trans hm2
  have hsz1 := hM2.size
  clear hm1 hm2 hb2 ht1 h3 h4 hc1 cb0 cb1 cb2 cb3 hbx1
  have hc1 := (cell_T58 ht2).2.1
  obtain ⟨cb0, cb1, cb2, cb3⟩ := cell_B4 hbx2
  go_wp2_with fail
  have hown3 : ((w2.alloc (.cells #[.int .i64 t.id, .int .i64 t.x0, .int .i64 t.y0, .int .i64 t.x1, .int .i64 t.y1] 193)).drew).ownsRow 0 193 5 (.slice ta L.length tc) L.length (flat L) :=
    owns_kept h32 ((Mod.alloc (F := []) _ _).trans (Mod.drew _)) (by simp)
  have hsrc3 : srcRow ((w2.alloc (.cells #[.int .i64 t.id, .int .i64 t.x0, .int .i64 t.y0, .int .i64 t.x1, .int .i64 t.y1] 193)).drew) 5 (.slice (some ⟨w2.heap.size, 0, none⟩) 1 1) 1 (thCells t) := by
    refine srcRow_mod (srcRow_of_owns (owns_allocB (w := w2) (cur := #[.int .i64 t.id, .int .i64 t.x0, .int .i64 t.y0, .int .i64 t.x1, .int .i64 t.y1]) (e := 193) (n := 1) (size := 5) rfl (by decide) (base := 0) (Nat.zero_le _)) ?_) (Mod.drew _)
    exact thCells_one t
  have hne := owns_ne' h32 ht2 (by decide)
  have ht3f : ∀ w3, Mod (Value.slice ta L.length tc).ownBlock.toList ((w2.alloc (.cells #[.int .i64 t.id, .int .i64 t.x0, .int .i64 t.y0, .int .i64 t.x1, .int .i64 t.y1] 193)).drew) w3 → w3.heap[py]? = some (T58 fan (.slice ta L.length tc) (.slice (some ⟨gl, 0, none⟩) nl cl) last) := fun w3 hm => by
    rw [hm.block py (by have := lt_of_block ht2; simp; omega) hne]
    exact (Below.heap_alloc _ _ _ (lt_of_block ht2)).trans ht2
  have hc1b : ∀ o, (w2.alloc o).cell? ⟨py, 1, none⟩ = some (.slice ta L.length tc) := fun o => ((Mod.alloc (F := []) w2 o).cell (lt_of_block ht2) (by simp) 1).trans hc1
  have HO3 := hideIt hown3
  have HS3 := hideIt hsrc3
  have HT3 := hideIt ht3f
  clear hown3 hsrc3 ht3f
  go_region_law (refine step_append_rows _ rfl _ _ 104 rfl 0 193 i1 (.agg #[.int .i64 0, .int .i64 0, .int .i64 0, .int .i64 0, .int .i64 0]) 5 40 Tryz.underlying104 hi hz0 hz1 hz2 rfl (by decide) _ L.length (flat L) rfl HO3.out _ 1 (thCells t) rfl HS3.out (by omega) (by unfold maxLen; omega) (by omega) (Nat.zero_le _) ?_; intro g3 c3 w3 ho3 hm3 hat3; have ht3 := HT3.out w3 hm3; have hc3 := (cell_T58 ht3).2.1; have hf3 := frozen_of_block ht3 1)
  all_goals
    have hm3' : Mod (Value.slice ta L.length tc).ownBlock.toList ((w2.alloc (.cells #[.int .i64 t.id, .int .i64 t.x0, .int .i64 t.y0, .int .i64 t.x1, .int .i64 t.y1] 193)).drew) w3 := hm3
    have hat3' : (Value.slice ta L.length tc).ownBlock = some g3 ∨ g3 = w2.heap.size + 1 := by
      rcases hat3 with h | h
      · exact .inl h
      · exact .inr (by simpa using h)
    have hmw3 : Mod (Value.slice ta L.length tc).ownBlock.toList w2 w3 := ((Mod.alloc _ _).trans (Mod.drew _)).trans hm3'
    have ho3' : w3.ownsRow 0 193 5 (.slice (some ⟨g3, 0, none⟩) (L.length + 1) c3) (L.length + 1) (catL (flat L) (thCells t)) := ho3
    have hob3 := owns_kept hob hmw3 (by rintro k rfl2; intro hk; exact (owns_apart hob h32 (by decide)) k rfl2 hk)
    have h43 := owns_kept h42 hmw3 (by rintro k rfl2; intro hk; exact (owns_apart h42 h32 (by decide)) k rfl2 hk)
    clear hm3 hat3 ho3 hm3' hob h42 h32 HO3 HS3 HT3 hc1 cb0 cb1 cb2 cb3 hc1b hbx2 ht2
    have hg3 : g3 ≠ py := owns_ne ho3' ht3 (by decide)
    have hgl : gl ≠ py := owns_ne h43 ht3 (by decide)
    have hgb : gb ≠ py := owns_ne hob3 ht3 (by decide)
    have hms : Mod [py] w3 (w3.setCell ⟨py, 1, none⟩ (.slice (some ⟨g3, 0, none⟩) (L.length + 1) c3)) := Mod.setCell _ _ _ (by simp)
    have ht4 := T58_set1 (tv' := .slice (some ⟨g3, 0, none⟩) (L.length + 1) c3) ht3
    have ho4 := owns_kept ho3' hms (by simpa [Value.ownBlock] using hg3)
    have h44 := owns_kept h43 hms (by simpa [Value.ownBlock] using hgl)
    have hob4 := owns_kept hob3 hms (by simpa [Value.ownBlock] using hgb)
    clear hob3 h43 ho3' ht3 hc3 hf3
    generalize w3.setCell ⟨py, 1, none⟩ (.slice (some ⟨g3, 0, none⟩) (L.length + 1) c3) = w4 at *
    go_wp2_with fail
    refine (note_more py fan last 80 _ gl nl cl lg _ 18 bs w4 ht4 h2 h44 h5 h6 (by omega) (by omega) (by omega) (srcRow_of_owns hob4 (u8s_one _)) hbu).mono ?_
    rintro e w5 ⟨rfl, gn, cn, last', nl', ht5, hl5, ho5, hu5, hn5, hm5⟩
    have hfin : RefPutPost py fan (0, L ++ [t]) (lg ++ recF lg 80 bs) F w (.returned (.int .i64 0)) w5 := by
      have hz3 := hmw3.size
      have hz4 := hms.size
      have hgn := (ho5.lt gn rfl).1
      refine ⟨rfl, py :: gn :: [g3], ⟨_, gn, cn, last', nl', ht5, hl5, ?_, owns_base ho5 (Nat.zero_le _), hu5, hn5, rfl⟩, ?_, ?_⟩
      · have := owns_kept ho4 hm5 (by simpa [Value.ownBlock] using hg3)
        rw [show (L ++ [t]).length = L.length + 1 by simp, show flat (L ++ [t]) = catL (flat L) (thCells t) by simp [flat, catL]]
        exact this
      · rw [HH.out]
        exact ((hM2.nil.trans (hmw3.mono (by intro x hx; simp [hx]))).trans (hms.mono (by simp))).trans (hm5.mono (by simp))
      · intro x hx
        rw [HH.out]
        simp at hx
        rcases hx with rfl | rfl | rfl
        · exact .inl (by simp)
        · exact .inr (by omega)
        · rcases hat3' with h | h
          · exact .inl (by simp [h])
          · exact .inr (by omega)
    have HFIN := hideIt hfin
    clear hfin ht5 ho5 hm5 ht4 ho4 h44 hob4
    go_wp2
    go_ret
    rw [HBS.out]
    exact HFIN.out

end Go.Proofs.YthimaoipogocfaaGreat
