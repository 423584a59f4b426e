import Derived.Test.YthimaoipogocfaaGreatM08
import Derived.Deep.DeepMust
namespace Go.Proofs.YthimaoipogocfaaGreat
open Go.RowKit Go.Maps
attribute [local go_sem] run_store_f32 run_neg_inf

theorem wpList_append_none {P : Program} (w : World) {ops : Array Oper} {rest : List Oper} {o : Oper} {a : Act} {Q : Exit → Act → World → Prop} (hgd : o.guard = none) (s xo : Operand) (t : TypeId)
    (ho : o.op = .call { callee := .builtin .append, args := #[s, xo], argTypes := #[t, t] })
    (e : TypeId) (i : TypeInfo) (ht : P.underlying t = some (.slice e)) (hi : P.info? e = some i)
    (hs : a.eval s = .slice none 0 0) (q : Option Addr) (c : Nat) (hx : a.eval xo = .slice q 0 c)
    (h : wpList P ops Q rest (a.put o.dst (.slice none 0 0)) w) : wpList P ops Q (o :: rest) a w := by
  refine wpList_plain hgd fun K hK => ?_
  have hr : (Builtin.append_ #[t, t] o.type #[.slice none 0 0, .slice q 0 c]).run P w = .ok (.slice none 0 0) w := by
    cases q <;> simp [Builtin.append_, run_underlying ht, sizeOf, typeInfo, hi, Builtin.lenOf, Builtin.firstCells, loadCells, loadCellsFrom]
  unfold Oper.wp execOp
  simp only [ho, resolve, invoke, builtin, Sem.run_bind, Sem.run_pure, Result.andThen_ok, List.map_toArray, List.map_cons, List.map_nil, hs, hx, hr]
  exact hK _ _ h

theorem srcRow_rest {w : World} {g c n : Nat} {L : List Th} (h : w.ownsRow 0 193 5 (.slice (some ⟨g, 0, none⟩) L.length c) L.length (flat L)) (hc : L.length ≤ c) (hn : n < L.length) :
    srcRow w 5 (.slice (if c = n + 1 then some ⟨g, 0, none⟩ else some ⟨g, (n + 1) * 5, none⟩) (L.length - (n + 1)) (c - (n + 1))) (L.length - (n + 1)) (flat (L.drop (n + 1))) := by
  refine ⟨by rw [flat_length]; simp, flat_one _, .inr ?_⟩
  by_cases hcn : c = n + 1
  · refine ⟨⟨g, 0, none⟩, c - (n + 1), by rw [if_pos hcn], fun j u hu => ?_⟩
    rw [List.drop_of_length_le (by omega)] at hu
    simp [flat] at hu
  · refine ⟨⟨g, (n + 1) * 5, none⟩, c - (n + 1), by rw [if_neg hcn], fun j u hu => ?_⟩
    rw [show (⟨g, (n + 1) * 5, none⟩ : Addr).add j = ⟨g, (n + 1) * 5 + j, none⟩ from by unfold Addr.add; split <;> simp_all]
    refine owns_cell h _ u ?_
    have e := flat_append (L.take (n + 1)) (L.drop (n + 1))
    rw [List.take_append_drop] at e
    rw [e, List.getElem?_append_right (by rw [flat_length]; simp; omega)]
    rw [← hu]
    congr 1
    rw [flat_length]
    simp
    omega

/-- what a Drop does -/
def dropF (L : List Th) (id : Int) : Int × List Th :=
  match findT L id with
  | none => (3, L)
  | some n => (0, L.eraseIdx n)

theorem refDrop_none {w : World} {py : Nat} {fan : Int} {L : List Th} {lg : List Int} {F : List Nat} (h : RefRep w py fan L lg F) (hL : L.length ≤ 400) (id : Int) (hf : findT L id = none) :
    Calls Tryz.prog 86 #[.pointer (some ⟨py, 0, none⟩), .int .i64 id] w (RefPutPost py fan (dropF L id) (dropLT L lg id) F w) := by
  have e : dropF L id = (3, L) := by simp [dropF, hf]
  have e2 : dropLT L lg id = lg := by unfold dropLT; rw [findT_has, hf]; rfl
  rw [e2, e]
  clear e2
  have HF : Hid (findT L id = none) := hf
  clear e hf
  go_enter Tryz.func86, Tryz.ntmps86
  go_wp2_with fail
  refine (at_any h hL _).mono ?_
  rintro e w' ⟨k, rfl, hat, rfl⟩
  have hk : k = -1 := by
    rcases hat.find with ⟨h, _⟩ | ⟨n, _, hn, _⟩
    · exact h
    · rw [HF.out] at hn; cases hn
  subst hk
  clear hat
  go_wp2
  go_ret
  exact refPut_same h (Mod.refl _ _) 3

set_option maxRecDepth 100000 in
set_option maxHeartbeats 400000 in
theorem refDrop_mid {w : World} {py : Nat} {fan : Int} {L : List Th} {lg : List Int} {F : List Nat} (h : RefRep w py fan L lg F) (hL : L.length ≤ 400) (hnl : lg.length ≤ 99999900) (id : Int) (n : Nat) (hf : findT L id = some n) (hid : 0 ≤ id ∧ id ≤ 4095) (hn0 : 0 < n) :
    Calls Tryz.prog 86 #[.pointer (some ⟨py, 0, none⟩), .int .i64 id] w (RefPutPost py fan (dropF L id) (dropLT L lg id) F w) := by
  have e : dropF L id = (0, L.eraseIdx n) := by simp [dropF, hf]
  have e2 : dropLT L lg id = lg ++ recF lg 68 (numB id 2) := by unfold dropLT; rw [findT_has, hf]; rfl
  rw [e2, e]
  clear e2
  obtain ⟨s, hs, hsid⟩ := find_get hf
  have hnlt : n < L.length := (List.getElem?_eq_some_iff.1 hs).1
  have HF : Hid (findT L id = some n) := hf
  clear e hf hs hsid
  go_enter Tryz.func86, Tryz.ntmps86
  go_wp2_with fail
  refine (at_any h hL _).mono ?_
  rintro e w' ⟨k, rfl, hat, rfl⟩
  have hk : k = n := by
    rcases hat.find with ⟨_, h⟩ | ⟨m, hm, hn, _⟩
    · rw [HF.out] at h; cases h
    · rw [HF.out] at hn; cases hn; exact hm
  subst hk
  clear hat
  obtain ⟨tv, gl, cl, last, nl, ht1, h2, h3, h4, h5, h6, hF⟩ := h
  have HH : Hid (F = py :: gl :: tv.ownBlock.toList) := hF
  clear hF
  have hlen : ∃ g c, tv = .slice (some ⟨g, 0, none⟩) L.length c ∧ L.length ≤ c ∧ c ≤ maxLen := by
    rcases h3.2 with ⟨rfl, hz⟩ | ⟨g, c, cur, rfl, hrest⟩
    · omega
    · exact ⟨_, _, rfl, hrest.2.2.1, hrest.2.2.2.1⟩
  obtain ⟨g, c, rfl, hc, hcm⟩ := hlen
  unfold maxLen at hcm
  have hc1 := (cell_T58 ht1).2.1
  obtain ⟨i1, hi, hz0, hz1, hz2⟩ := info_partsB infoTh
  have hsrc1 : srcRow w 5 (.slice (some ⟨g, 0, none⟩) n c) n (flat (L.take n)) := by
    refine ⟨by rw [flat_length]; simp; omega, flat_one _, .inr ⟨_, _, rfl, fun j u hu => ?_⟩⟩
    refine h3.cells rfl j u ?_
    have e := flat_append (L.take n) (L.drop n)
    rw [List.take_append_drop] at e
    rw [e, List.getElem?_append_left (List.getElem?_eq_some_iff.1 hu).1]
    exact hu
  have hlt : (n : Int) < (L.length : Int) := by omega
  go_wp2_with (at_builtin; refine wpList_append_rows _ rfl _ _ 104 rfl w.heap.size 193 i1 (.agg #[.int .i64 0, .int .i64 0, .int .i64 0, .int .i64 0, .int .i64 0]) 5 40 Tryz.underlying104 hi hz0 hz1 hz2 rfl (by decide) _ 0 [] rfl (World.ownsRow_nil _ _ _ _) _ n (flat (L.take n)) rfl hsrc1 (by omega) (by unfold maxLen; omega) (by omega) (Nat.le_refl _) ?_)
  intro g2 c2 w2 ho2 hm2 hat2
  have hm2' : Mod [] w w2 := hm2
  have ht2 := (hm2'.block py (lt_of_block ht1) (by simp)).trans ht1
  have h32 := owns_kept h3 hm2' (by simp)
  have h42 := owns_kept h4 hm2' (by simp)
  have hg2 := (ho2.lt g2 rfl).1
  clear hm2 hat2 hsrc1 hc1 h3 h4 ht1
  have hc1 := (cell_T58 ht2).2.1
  have hle : (n : Int) + 1 ≤ (L.length : Int) := by omega
  have hsrc2 := srcRow_rest h32 hc hnlt
  obtain ⟨A, hA⟩ : ∃ A, (if c = n + 1 then some (⟨g, 0, none⟩ : Addr) else some ⟨g, (n + 1) * 5, none⟩) = some A := by split <;> exact ⟨_, rfl⟩
  rw [hA] at hsrc2
  have HS2 := hideIt hsrc2
  clear hsrc2
  go_wp2_with (at_builtin; refine wpList_append_rows _ rfl _ _ 104 rfl w.heap.size 193 i1 (.agg #[.int .i64 0, .int .i64 0, .int .i64 0, .int .i64 0, .int .i64 0]) 5 40 Tryz.underlying104 hi hz0 hz1 hz2 rfl (by decide) _ n (catL [] (flat (L.take n))) rfl ho2 _ (L.length - (n + 1)) (flat (L.drop (n + 1))) rfl HS2.out (by omega) (by unfold maxLen; omega) (by omega) hm2'.size ?_)
  intro g3 c3 w3 ho3 hm3 hat3
  have hm3' : Mod [g2] w2 w3 := hm3
  have hpy := lt_of_block ht2
  have hg2py : g2 ≠ py := owns_ne ho2 ht2 (by decide)
  have ht3 := (hm3'.block py hpy (by simp; omega)).trans ht2
  have h43 := owns_kept h42 hm3' (owns_apart h42 ho2 (by decide))
  have hm03 : Mod [] w w3 := hm2'.then hm3' (by simp; omega)
  have ho3' : w3.ownsRow w.heap.size 193 5 (.slice (some ⟨g3, 0, none⟩) (n + (L.length - (n + 1))) c3) (n + (L.length - (n + 1))) (catL (catL [] (flat (L.take n))) (flat (L.drop (n + 1)))) := ho3
  rw [show n + (L.length - (n + 1)) = L.length - 1 by omega] at ho3'
  have hrow : w3.ownsRow w.heap.size 193 5 (.slice (some ⟨g3, 0, none⟩) (L.length - 1) c3) (L.length - 1) (flat (L.eraseIdx n)) := by
    rw [List.eraseIdx_eq_take_drop_succ, flat_append]
    exact ho3'
  clear ho3 ho3' ho2 h42 h32 hm3 hat3 hc1 HS2 hm3' hm2' ht2
  have hnn : n + (L.length - (n + 1)) = L.length - 1 := by omega
  have hc3 := (cell_T58 ht3).2.1
  have hf3 := frozen_of_block ht3 1
  have hms : Mod [py] w3 (w3.setCell ⟨py, 1, none⟩ (.slice (some ⟨g3, 0, none⟩) (L.length - 1) c3)) := Mod.setCell _ _ _ (by simp)
  have hapy : ∀ k, (Value.slice (some ⟨g3, 0, none⟩) (L.length - 1) c3).ownBlock = some k → k ∉ [py] := fun k hk hm => by
    have h := owns_ne' hrow ht3 (by decide)
    simp only [List.mem_singleton] at hm
    rw [hm] at hk
    exact h (by rw [hk]; simp)
  have hgl : gl ≠ py := owns_ne h43 ht3 (by decide)
  have ht4 := T58_set1 (tv' := .slice (some ⟨g3, 0, none⟩) (L.length - 1) c3) ht3
  have ho4 := owns_kept hrow hms hapy
  have h44 := owns_kept h43 hms (by simpa [Value.ownBlock] using hgl)
  obtain ⟨hid0, hid1⟩ := hid
  go_wp2_with fail
  generalize w3.setCell ⟨py, 1, none⟩ (.slice (some ⟨g3, 0, none⟩) (L.length - 1) c3) = w4 at *
  refine (two_any id _ hid0 hid1).mono ?_
  rintro e w5 ⟨t0, t1, rfl, hw5, h2b⟩
  have hm5 : Mod [] w4 w5 := by rw [hw5]; exact Mod.alloc _ _
  have hsrc5 : srcRow w5 1 (.slice (some ⟨w4.heap.size, 0, none⟩) 2 2) 2 (u8s (numB id 2)) := by
    rw [hw5]
    exact srcRow_of_owns (owns_two (Nat.le_refl _) h2b) (u8s_one _)
  have hu5 : ByteL (numB id 2) := numB_byte _ _
  clear hw5 h2b
  have ht5 := (hm5.block py (lt_of_block ht4) (by simp)).trans ht4
  have ho5 := owns_kept ho4 hm5 (by simp)
  have h45 := owns_kept h44 hm5 (by simp)
  have hz5 := hm5.size
  have hz4 := hms.size
  have hz3 := hm03.size
  clear ht4 ho4 h44 ht3 h43 hc3 hf3
  go_wp2_with fail
  refine (note_more py fan last 68 _ gl nl cl lg _ 2 (numB id 2) w5 ht5 h2 h45 h5 h6 (by omega) (by omega) (by omega) hsrc5 hu5).mono ?_
  rintro e w6 ⟨rfl, gn, cn, last', nl', ht6, hl6, ho6, hu6, hn6, hm6⟩
  have hfin : RefPutPost py fan (0, L.eraseIdx n) (lg ++ recF lg 68 (numB id 2)) F w (.returned (.int .i64 0)) w6 := by
    have hgn := (ho6.lt gn rfl).1
    refine ⟨rfl, py :: gn :: (Value.slice (some ⟨g3, 0, none⟩) (L.length - 1) c3).ownBlock.toList, ⟨_, gn, cn, last', nl', ht6, hl6, ?_, owns_base ho6 (Nat.zero_le _), hu6, hn6, rfl⟩, ?_, ?_⟩
    · have := owns_base (owns_kept ho5 hm6 hapy) (Nat.zero_le _)
      rw [show (L.eraseIdx n).length = L.length - 1 by rw [List.length_eraseIdx, if_pos hnlt]]
      exact this
    · rw [HH.out]
      exact ((hm03.nil.trans (hms.mono (by simp))).trans hm5.nil).trans (hm6.mono (by simp))
    · intro x hx
      rw [HH.out]
      simp only [List.mem_cons, Option.mem_toList] at hx
      rcases hx with rfl | rfl | hx
      · exact .inl (by simp)
      · exact .inr (by omega)
      · exact .inr (hrow.lt x hx).1
  have HFIN := hideIt hfin
  clear hfin ht6 ho6 hm6 ht5 ho5 h45 hrow
  go_wp2
  go_ret
  exact HFIN.out

set_option maxRecDepth 100000 in
set_option maxHeartbeats 400000 in
theorem refDrop_head {w : World} {py : Nat} {fan : Int} {L : List Th} {lg : List Int} {F : List Nat} (h : RefRep w py fan L lg F) (hL : L.length ≤ 400) (hnl : lg.length ≤ 99999900) (id : Int) (hf : findT L id = some 0) (hid : 0 ≤ id ∧ id ≤ 4095) (hlen2 : 1 < L.length) :
    Calls Tryz.prog 86 #[.pointer (some ⟨py, 0, none⟩), .int .i64 id] w (RefPutPost py fan (dropF L id) (dropLT L lg id) F w) := by
  have e : dropF L id = (0, L.eraseIdx 0) := by simp [dropF, hf]
  have e2 : dropLT L lg id = lg ++ recF lg 68 (numB id 2) := by unfold dropLT; rw [findT_has, hf]; rfl
  rw [e2, e]
  clear e2
  obtain ⟨s, hs, hsid⟩ := find_get hf
  have hnlt : 0 < L.length := (List.getElem?_eq_some_iff.1 hs).1
  have HF : Hid (findT L id = some 0) := hf
  clear e hf hs hsid
  go_enter Tryz.func86, Tryz.ntmps86
  go_wp2_with fail
  refine (at_any h hL _).mono ?_
  rintro e w' ⟨k, rfl, hat, rfl⟩
  have hk : k = 0 := by
    rcases hat.find with ⟨_, h⟩ | ⟨m, hm, hn, _⟩
    · rw [HF.out] at h; cases h
    · rw [HF.out] at hn; cases hn; exact hm
  subst hk
  clear hat
  obtain ⟨tv, gl, cl, last, nl, ht1, h2, h3, h4, h5, h6, hF⟩ := h
  have HH : Hid (F = py :: gl :: tv.ownBlock.toList) := hF
  clear hF
  have hlen : ∃ g c, tv = .slice (some ⟨g, 0, none⟩) L.length c ∧ L.length ≤ c ∧ c ≤ maxLen := by
    rcases h3.2 with ⟨rfl, hz⟩ | ⟨g, c, cur, rfl, hrest⟩
    · omega
    · exact ⟨_, _, rfl, hrest.2.2.1, hrest.2.2.2.1⟩
  obtain ⟨g, c, rfl, hc, hcm⟩ := hlen
  unfold maxLen at hcm
  have hc1 := (cell_T58 ht1).2.1
  obtain ⟨i1, hi, hz0, hz1, hz2⟩ := info_partsB infoTh
  have hsrc2 := srcRow_rest h3 hc hnlt
  simp only [Nat.zero_add, Nat.one_mul] at hsrc2
  obtain ⟨A, hA⟩ : ∃ A, (if c = 1 then some (⟨g, 0, none⟩ : Addr) else some ⟨g, 5, none⟩) = some A := by split <;> exact ⟨_, rfl⟩
  rw [hA] at hsrc2
  have HS2 := hideIt hsrc2
  clear hsrc2
  go_wp2_with (first | (at_builtin; refine wpList_append_none _ rfl _ _ 104 rfl 193 i1 Tryz.underlying104 hi rfl _ _ rfl ?_) | (at_builtin; refine wpList_append_rows _ rfl _ _ 104 rfl w.heap.size 193 i1 (.agg #[.int .i64 0, .int .i64 0, .int .i64 0, .int .i64 0, .int .i64 0]) 5 40 Tryz.underlying104 hi hz0 hz1 hz2 rfl (by decide) _ 0 [] rfl (World.ownsRow_nil _ _ _ _) _ (L.length - 1) (flat (L.drop 1)) rfl HS2.out (by omega) (by unfold maxLen; omega) (by omega) (Nat.le_refl _) ?_))
  intro g3 c3 w3 ho3 hm3 hat3
  have hm03 : Mod [] w w3 := hm3
  have ht3 := (hm03.block py (lt_of_block ht1) (by simp)).trans ht1
  have h43 := owns_kept h4 hm03 (by simp)
  have hrow : w3.ownsRow w.heap.size 193 5 (.slice (some ⟨g3, 0, none⟩) (L.length - 1) c3) (L.length - 1) (flat (L.eraseIdx 0)) := by
    rw [show flat (L.eraseIdx 0) = catL [] (flat L.tail) by simp [catL]]
    exact ho3
  clear ho3 h3 h4 hm3 hat3 hc1 HS2 ht1
  have hc3 := (cell_T58 ht3).2.1
  have hf3 := frozen_of_block ht3 1
  have hms : Mod [py] w3 (w3.setCell ⟨py, 1, none⟩ (.slice (some ⟨g3, 0, none⟩) (L.length - 1) c3)) := Mod.setCell _ _ _ (by simp)
  have hapy : ∀ k, (Value.slice (some ⟨g3, 0, none⟩) (L.length - 1) c3).ownBlock = some k → k ∉ [py] := fun k hk hm => by
    have h := owns_ne' hrow ht3 (by decide)
    simp only [List.mem_singleton] at hm
    rw [hm] at hk
    exact h (by rw [hk]; simp)
  have hgl : gl ≠ py := owns_ne h43 ht3 (by decide)
  have ht4 := T58_set1 (tv' := .slice (some ⟨g3, 0, none⟩) (L.length - 1) c3) ht3
  have ho4 := owns_kept hrow hms hapy
  have h44 := owns_kept h43 hms (by simpa [Value.ownBlock] using hgl)
  obtain ⟨hid0, hid1⟩ := hid
  go_wp2_with fail
  generalize w3.setCell ⟨py, 1, none⟩ (.slice (some ⟨g3, 0, none⟩) (L.length - 1) c3) = w4 at *
  refine (two_any id _ hid0 hid1).mono ?_
  rintro e w5 ⟨t0, t1, rfl, hw5, h2b⟩
  have hm5 : Mod [] w4 w5 := by rw [hw5]; exact Mod.alloc _ _
  have hsrc5 : srcRow w5 1 (.slice (some ⟨w4.heap.size, 0, none⟩) 2 2) 2 (u8s (numB id 2)) := by
    rw [hw5]
    exact srcRow_of_owns (owns_two (Nat.le_refl _) h2b) (u8s_one _)
  have hu5 : ByteL (numB id 2) := numB_byte _ _
  clear hw5 h2b
  have ht5 := (hm5.block py (lt_of_block ht4) (by simp)).trans ht4
  have ho5 := owns_kept ho4 hm5 (by simp)
  have h45 := owns_kept h44 hm5 (by simp)
  have hz5 := hm5.size
  have hz4 := hms.size
  have hz3 := hm03.size
  clear ht4 ho4 h44 ht3 h43 hc3 hf3
  go_wp2_with fail
  refine (note_more py fan last 68 _ gl nl cl lg _ 2 (numB id 2) w5 ht5 h2 h45 h5 h6 (by omega) (by omega) (by omega) hsrc5 hu5).mono ?_
  rintro e w6 ⟨rfl, gn, cn, last', nl', ht6, hl6, ho6, hu6, hn6, hm6⟩
  have hfin : RefPutPost py fan (0, L.eraseIdx 0) (lg ++ recF lg 68 (numB id 2)) F w (.returned (.int .i64 0)) w6 := by
    have hgn := (ho6.lt gn rfl).1
    refine ⟨rfl, py :: gn :: (Value.slice (some ⟨g3, 0, none⟩) (L.length - 1) c3).ownBlock.toList, ⟨_, gn, cn, last', nl', ht6, hl6, ?_, owns_base ho6 (Nat.zero_le _), hu6, hn6, rfl⟩, ?_, ?_⟩
    · have := owns_base (owns_kept ho5 hm6 hapy) (Nat.zero_le _)
      rw [show (L.eraseIdx 0).length = L.length - 1 by rw [List.length_eraseIdx, if_pos hnlt]]
      exact this
    · rw [HH.out]
      exact ((hm03.nil.trans (hms.mono (by simp))).trans hm5.nil).trans (hm6.mono (by simp))
    · intro x hx
      rw [HH.out]
      simp only [List.mem_cons, Option.mem_toList] at hx
      rcases hx with rfl | rfl | hx
      · exact .inl (by simp)
      · exact .inr (by omega)
      · exact .inr (hrow.lt x hx).1
  have HFIN := hideIt hfin
  clear hfin ht6 ho6 hm6 ht5 ho5 h45 hrow
  go_wp2
  go_ret
  exact HFIN.out

set_option maxRecDepth 100000 in
set_option maxHeartbeats 400000 in
theorem refDrop_only {w : World} {py : Nat} {fan : Int} {L : List Th} {lg : List Int} {F : List Nat} (h : RefRep w py fan L lg F) (hL : L.length ≤ 400) (hnl : lg.length ≤ 99999900) (id : Int) (hf : findT L id = some 0) (hid : 0 ≤ id ∧ id ≤ 4095) (hlen2 : L.length = 1) :
    Calls Tryz.prog 86 #[.pointer (some ⟨py, 0, none⟩), .int .i64 id] w (RefPutPost py fan (dropF L id) (dropLT L lg id) F w) := by
  have e : dropF L id = (0, L.eraseIdx 0) := by simp [dropF, hf]
  have e2 : dropLT L lg id = lg ++ recF lg 68 (numB id 2) := by unfold dropLT; rw [findT_has, hf]; rfl
  rw [e2, e]
  clear e2
  obtain ⟨s, hs, hsid⟩ := find_get hf
  have hnlt : 0 < L.length := (List.getElem?_eq_some_iff.1 hs).1
  have HF : Hid (findT L id = some 0) := hf
  clear e hf hs hsid
  go_enter Tryz.func86, Tryz.ntmps86
  go_wp2_with fail
  refine (at_any h hL _).mono ?_
  rintro e w' ⟨k, rfl, hat, rfl⟩
  have hk : k = 0 := by
    rcases hat.find with ⟨_, h⟩ | ⟨m, hm, hn, _⟩
    · rw [HF.out] at h; cases h
    · rw [HF.out] at hn; cases hn; exact hm
  subst hk
  clear hat
  obtain ⟨tv, gl, cl, last, nl, ht1, h2, h3, h4, h5, h6, hF⟩ := h
  have HH : Hid (F = py :: gl :: tv.ownBlock.toList) := hF
  clear hF
  have hlen : ∃ g c, tv = .slice (some ⟨g, 0, none⟩) L.length c ∧ L.length ≤ c ∧ c ≤ maxLen := by
    rcases h3.2 with ⟨rfl, hz⟩ | ⟨g, c, cur, rfl, hrest⟩
    · omega
    · exact ⟨_, _, rfl, hrest.2.2.1, hrest.2.2.2.1⟩
  obtain ⟨g, c, rfl, hc, hcm⟩ := hlen
  unfold maxLen at hcm
  have hc1 := (cell_T58 ht1).2.1
  obtain ⟨i1, hi, hz0, hz1, hz2⟩ := info_partsB infoTh
  obtain ⟨A, hA⟩ : ∃ A, (if c = 1 then some (⟨g, 0, none⟩ : Addr) else some ⟨g, 5, none⟩) = some A := by split <;> exact ⟨_, rfl⟩
  have hLl : L.length = 1 := hlen2
  have hrow0 : w.ownsRow w.heap.size 193 5 (.slice none 0 0) 0 (flat (L.eraseIdx 0)) := by
    rw [List.eq_nil_of_length_eq_zero (l := L.eraseIdx 0) (by rw [List.length_eraseIdx]; simp [hLl])]
    exact World.ownsRow_nil _ _ _ _
  have HR0 := hideIt hrow0
  have H41 := hideIt h4
  have hpylt := lt_of_block ht1
  have hf3 := frozen_of_block ht1 1
  clear hrow0 h3 h4
  go_wp2_with (first | (at_builtin; refine wpList_append_none _ rfl _ _ 104 rfl 193 i1 Tryz.underlying104 hi rfl _ _ rfl ?_))
  have hm03 : Mod [] w w := Mod.refl _ _
  have ht3 := ht1
  have h43 := H41.out
  have hrow : w.ownsRow w.heap.size 193 5 (.slice none 0 0) (L.length - 1) (flat (L.eraseIdx 0)) := by rw [hLl]; exact HR0.out
  clear ht1 H41 HR0
  have hms : Mod [py] w (w.setCell ⟨py, 1, none⟩ (.slice none 0 0)) := Mod.setCell _ _ _ (by simp)
  have hapy : ∀ k, (Value.slice none 0 0).ownBlock = some k → k ∉ [py] := fun k hk hm => by
    have h := owns_ne' hrow ht3 (by decide)
    simp only [List.mem_singleton] at hm
    rw [hm] at hk
    exact h (by rw [hk]; simp)
  have hgl : gl ≠ py := owns_ne h43 ht3 (by decide)
  have ht4 := T58_set1 (tv' := .slice none 0 0) ht3
  have ho4 := owns_kept hrow hms hapy
  have h44 := owns_kept h43 hms (by simpa [Value.ownBlock] using hgl)
  obtain ⟨hid0, hid1⟩ := hid
  generalize w.setCell ⟨py, 1, none⟩ (.slice none 0 0) = w4 at *
  refine (two_any id _ hid0 hid1).mono ?_
  rintro e w5 ⟨t0, t1, rfl, hw5, h2b⟩
  have hm5 : Mod [] w4 w5 := by rw [hw5]; exact Mod.alloc _ _
  have hsrc5 : srcRow w5 1 (.slice (some ⟨w4.heap.size, 0, none⟩) 2 2) 2 (u8s (numB id 2)) := by
    rw [hw5]
    exact srcRow_of_owns (owns_two (Nat.le_refl _) h2b) (u8s_one _)
  have hu5 : ByteL (numB id 2) := numB_byte _ _
  clear hw5 h2b
  have ht5 := (hm5.block py (lt_of_block ht4) (by simp)).trans ht4
  have ho5 := owns_kept ho4 hm5 (by simp)
  have h45 := owns_kept h44 hm5 (by simp)
  have hz5 := hm5.size
  have hz4 := hms.size
  have hz3 := hm03.size
  clear ht4 ho4 h44 ht3 h43 hf3 hLl hlen2 hA hc1
  go_wp2_with fail
  refine (note_more py fan last 68 _ gl nl cl lg _ 2 (numB id 2) w5 ht5 h2 h45 h5 h6 (by omega) (by omega) (by omega) hsrc5 hu5).mono ?_
  rintro e w6 ⟨rfl, gn, cn, last', nl', ht6, hl6, ho6, hu6, hn6, hm6⟩
  have hfin : RefPutPost py fan (0, L.eraseIdx 0) (lg ++ recF lg 68 (numB id 2)) F w (.returned (.int .i64 0)) w6 := by
    have hgn := (ho6.lt gn rfl).1
    refine ⟨rfl, py :: gn :: (Value.slice none 0 0).ownBlock.toList, ⟨_, gn, cn, last', nl', ht6, hl6, ?_, owns_base ho6 (Nat.zero_le _), hu6, hn6, rfl⟩, ?_, ?_⟩
    · have := owns_base (owns_kept ho5 hm6 hapy) (Nat.zero_le _)
      rw [show (L.eraseIdx 0).length = L.length - 1 by rw [List.length_eraseIdx, if_pos hnlt]]
      exact this
    · rw [HH.out]
      exact ((hm03.nil.trans (hms.mono (by simp))).trans hm5.nil).trans (hm6.mono (by simp))
    · intro x hx
      rw [HH.out]
      simp only [List.mem_cons, Option.mem_toList] at hx
      rcases hx with rfl | rfl | hx
      · exact .inl (by simp)
      · exact .inr (by omega)
      · exact .inr (hrow.lt x hx).1
  have HFIN := hideIt hfin
  clear hfin ht6 ho6 hm6 ht5 ho5 h45 hrow
  go_wp2
  go_ret
  exact HFIN.out

theorem refDrop_any {w : World} {py : Nat} {fan : Int} {L : List Th} {lg : List Int} {F : List Nat} (h : RefRep w py fan L lg F) (hL : L.length ≤ 400) (hnl : lg.length ≤ 99999900) (hg : ∀ s ∈ L, 0 ≤ s.id ∧ s.id ≤ 4095) (id : Int) :
    Calls Tryz.prog 86 #[.pointer (some ⟨py, 0, none⟩), .int .i64 id] w (RefPutPost py fan (dropF L id) (dropLT L lg id) F w) := by
  cases hf : findT L id with
  | none => exact refDrop_none h hL id hf
  | some n =>
    obtain ⟨s, hs, hsid⟩ := find_get hf
    obtain ⟨hlt, he⟩ := List.getElem?_eq_some_iff.1 hs
    have hid : 0 ≤ id ∧ id ≤ 4095 := hsid ▸ hg s (he ▸ List.getElem_mem hlt)
    cases n with
    | zero =>
      by_cases h1 : 1 < L.length
      · exact refDrop_head h hL hnl id hf hid h1
      · exact refDrop_only h hL hnl id hf hid (by omega)
    | succ n => exact refDrop_mid h hL hnl id (n + 1) hf hid (by omega)

end Go.Proofs.YthimaoipogocfaaGreat

namespace Go.Proofs.YthimaoipogocfaaGreat
open Go.RowKit Go.Maps
attribute [local go_sem] run_store_f32 run_neg_inf

/-- what a Get tells: the rectangle, the error -/
def getF (L : List Th) (id : Int) : Th × Int :=
  match findT L id with
  | none => (⟨0, 0, 0, 0, 0⟩, 3)
  | some n => (L.getD n ⟨0, 0, 0, 0, 0⟩, 0)

def GetPost (r : Th × Int) (w : World) (e : Ending) (w' : World) : Prop := e = .returned (.tuple #[R4 r.1.x0 r.1.y0 r.1.x1 r.1.y1, .int .i64 r.2]) ∧ Mod [] w w'

set_option maxRecDepth 100000 in
set_option maxHeartbeats 400000 in
theorem refGet_none {w : World} {py : Nat} {fan : Int} {L : List Th} {lg : List Int} {F : List Nat} (h : RefRep w py fan L lg F) (hL : L.length ≤ 400) (id : Int) (hf : findT L id = none) :
    Calls Tryz.prog 87 #[.pointer (some ⟨py, 0, none⟩), .int .i64 id] w (GetPost (getF L id) w) := by
  have e : getF L id = (⟨0, 0, 0, 0, 0⟩, 3) := by simp [getF, hf]
  rw [e]
  have HF : Hid (findT L id = none) := hf
  clear e hf
  have hat := at_any (h.kept (Mod.alloc (F := []) w (B4 0 0 0 0)) (by simp)) hL id
  go_enter Tryz.func87, Tryz.ntmps87
  go_wp2_with fail
  refine hat.mono ?_
  clear hat
  rintro e w' ⟨k, rfl, hat, rfl⟩
  have hk : k = -1 := by
    rcases hat.find with ⟨h, _⟩ | ⟨n, _, hn, _⟩
    · exact h
    · rw [HF.out] at hn; cases hn
  subst hk
  clear hat
  go_wp2
  exact bodyPost_ret (v := .tuple #[R4 0 0 0 0, .int .i64 3]) (by simp [results, Tryz.results87, go_sem]) rfl ⟨rfl, Mod.alloc _ _⟩

set_option maxRecDepth 100000 in
set_option maxHeartbeats 400000 in
theorem refGet_some {w : World} {py : Nat} {fan : Int} {L : List Th} {lg : List Int} {F : List Nat} (h : RefRep w py fan L lg F) (hL : L.length ≤ 400) (id : Int) (n : Nat) (hf : findT L id = some n) :
    Calls Tryz.prog 87 #[.pointer (some ⟨py, 0, none⟩), .int .i64 id] w (GetPost (getF L id) w) := by
  obtain ⟨s, hs, hsid⟩ := find_get hf
  have hnlt : n < L.length := (List.getElem?_eq_some_iff.1 hs).1
  have e : getF L id = (s, 0) := by simp [getF, hf, hs]
  rw [e]
  have HF : Hid (findT L id = some n) := hf
  have h' := h.kept (Mod.alloc (F := []) w (B4 0 0 0 0)) (by simp)
  have hat := at_any h' hL id
  obtain ⟨tv, gl, cl, last, nl, ht1, h2, h3, h4, h5, h6, hF⟩ := h'
  have hlen : ∃ g c, tv = .slice (some ⟨g, 0, none⟩) L.length c := by
    rcases h3.2 with ⟨rfl, hz⟩ | ⟨g, c, cur, rfl, hrest⟩
    · omega
    · exact ⟨_, _, rfl⟩
  obtain ⟨g, c, rfl⟩ := hlen
  have hc1 := (cell_T58 ht1).2.1
  obtain ⟨d0, d1, d2, d3, d4⟩ := thing_cells h3 hs
  clear e hf hF h hs hsid h4 h5 h3 ht1
  go_enter Tryz.func87, Tryz.ntmps87
  go_wp2_with fail
  refine hat.mono ?_
  clear hat
  rintro e w' ⟨k, rfl, hat, rfl⟩
  have hk : k = n := by
    rcases hat.find with ⟨_, h⟩ | ⟨m, hm, hn, _⟩
    · rw [HF.out] at h; cases h
    · rw [HF.out] at hn; cases hn; exact hm
  subst hk
  clear hat
  go_wp2
  exact bodyPost_ret (v := .tuple #[R4 s.x0 s.y0 s.x1 s.y1, .int .i64 0]) (by simp [results, Tryz.results87, go_sem]) rfl ⟨rfl, Mod.alloc _ _⟩

theorem refGet_any {w : World} {py : Nat} {fan : Int} {L : List Th} {lg : List Int} {F : List Nat} (h : RefRep w py fan L lg F) (hL : L.length ≤ 400) (id : Int) :
    Calls Tryz.prog 87 #[.pointer (some ⟨py, 0, none⟩), .int .i64 id] w (GetPost (getF L id) w) := by
  cases hf : findT L id with
  | none => exact refGet_none h hL id hf
  | some n => exact refGet_some h hL id n hf

theorem head_bytes (fan : Int) : (rcHead fan).bytes [] = [] ++ recF [] 72 (headB fan) := by
  have hb : (rcHead fan).body = headB fan := by unfold Rc.body; rw [if_pos (show (rcHead fan).kind = 72 from rfl)]; rfl
  unfold Rc.bytes
  rw [hb, List.nil_append]
  rfl

def RefNewPost (fan : Int) (w : World) (e : Ending) (w' : World) : Prop :=
  e = .returned (.tuple #[.pointer (some ⟨w.heap.size, 0, none⟩), .int .i64 0]) ∧ ∃ F, RefRep w' w.heap.size fan [] ((rcHead fan).bytes []) F ∧ Mod [] w w' ∧ ∀ x ∈ F, w.heap.size ≤ x

theorem refNew_bad (fan : Int) (w : World) (hf : fanB fan = false) : Calls Tryz.prog 50 #[.int .i64 fan] w fun e w' => e = .returned (.tuple #[.pointer none, .int .i64 1]) ∧ w = w' := by
  have hn : ¬ (4 ≤ fan ∧ fan ≤ 16) := fun hh => by rw [fanB_iff.2 hh] at hf; cases hf
  by_cases h0 : fan < 4
  · go_enter Tryz.func50, Tryz.ntmps50
    go_wp2
    go_ret2
    exact ⟨rfl, rfl⟩
  · have h1 : 16 < fan := by omega
    go_enter Tryz.func50, Tryz.ntmps50
    go_wp2
    go_ret2
    exact ⟨rfl, rfl⟩

set_option maxRecDepth 100000 in
set_option maxHeartbeats 400000 in
theorem refNew_good (fan : Int) (w : World) (hf : fanB fan = true) : Calls Tryz.prog 50 #[.int .i64 fan] w (RefNewPost fan w) := by
  obtain ⟨h0, h1⟩ := fanB_iff.1 hf
  have hm0 : Mod [] w ((w.alloc (T58 fan (.slice none 0 0) (.slice none 0 0) 0)).alloc (.cells #[.int .u8 fan] 5)) := (Mod.alloc _ _).trans (Mod.alloc _ _)
  have ht0 : ((w.alloc (T58 fan (.slice none 0 0) (.slice none 0 0) 0)).alloc (.cells #[.int .u8 fan] 5)).heap[w.heap.size]? = some (T58 fan (.slice none 0 0) (.slice none 0 0) 0) := by
    rw [Below.heap_alloc _ _ _ (by simp)]
    exact heap_alloc_new w _
  have hfb : [fan] = headB fan := by
    show [fan] = [fan % 256]
    rw [Int.emod_eq_of_lt (by omega) (by omega)]
  have hs0 : srcRow ((w.alloc (T58 fan (.slice none 0 0) (.slice none 0 0) 0)).alloc (.cells #[.int .u8 fan] 5)) 1 (.slice (some ⟨w.heap.size + 1, 0, none⟩) 1 1) 1 (u8s (headB fan)) := by
    have := srcRow_of_owns (owns_allocB (w := w.alloc (T58 fan (.slice none 0 0) (.slice none 0 0) 0)) (cur := #[.int .u8 fan]) (e := 5) (n := 1) (size := 1) rfl (by decide) (base := 0) (Nat.zero_le _)) (fun u h => by
      simp at h
      rw [h]
      rfl)
    rw [← hfb]
    simpa [u8s] using this
  obtain ⟨lgn, hlg⟩ : ∃ l, l = (rcHead fan).bytes [] := ⟨_, rfl⟩
  unfold RefNewPost
  rw [← hlg]
  have hnote := note_first w.heap.size fan 0 72 (.slice none 0 0) _ 1 (headB fan) _ ht0 LastOk.nil (by omega) (by decide) hs0 (numB_byte _ _)
  rw [← head_bytes, ← hlg] at hnote
  clear hlg
  clear ht0 hs0
  have HN := hideIt hnote
  clear hnote
  go_enter Tryz.func50, Tryz.ntmps50
  go_wp2_with fail
  refine HN.out.mono ?_
  clear HN
  rintro e w1 ⟨rfl, g, c, last', nl', ht1, hl1, ho1, hu1, hn1, hm1⟩
  have hz := hm0.size
  have hgn := (ho1.lt g rfl).1
  have hfin : (Ending.returned (.tuple #[.pointer (some ⟨w.heap.size, 0, none⟩), .int .i64 0]) = .returned (.tuple #[.pointer (some ⟨w.heap.size, 0, none⟩), .int .i64 0])) ∧ ∃ F, RefRep w1 w.heap.size fan [] lgn F ∧ Mod [] w w1 ∧ ∀ x ∈ F, w.heap.size ≤ x := by
    refine ⟨rfl, [w.heap.size, g], ⟨.slice none 0 0, g, c, last', nl', ht1, hl1, World.ownsRow_nil _ _ _ _, owns_base ho1 (Nat.zero_le _), hu1, hn1, rfl⟩, hm0.then hm1 (by simp), ?_⟩
    intro x hx
    simp at hx
    rcases hx with rfl | rfl
    · exact Nat.le_refl _
    · omega
  have HFIN := hideIt hfin
  clear hfin ht1 ho1 hm1
  go_wp2
  go_ret2
  exact ⟨rfl, HFIN.out.2⟩

end Go.Proofs.YthimaoipogocfaaGreat

