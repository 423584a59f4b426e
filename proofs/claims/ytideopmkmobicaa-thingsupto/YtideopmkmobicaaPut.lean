import Derived.Test.YtideopmkmobicaaCode
namespace Go.Proofs.Ytideopmkmobicaa
open Go.RowKit Go.Maps

theorem codePut_same {px : Nat} {L : List Th} {F : List Nat} {w w' : World} (h : CodeRep w px L F) (hm : Mod [] w w') (c : Int) : CodePutPost px (c, L) F w (.returned (.int .i64 c)) w' :=
  ⟨rfl, h.kept hm (by simp), hm.nil⟩

set_option maxRecDepth 100000 in
theorem Put_id {w : World} {px : Nat} {L : List Th} {F : List Nat} (h : CodeRep w px L F) (t : Th) (hid : idB t.id = false) :
    Calls Try.prog 45 #[.pointer (some ⟨px, 0, none⟩), .int .i64 t.id, R4 t.x0 t.y0 t.x1 t.y1] w (CodePutPost px (putF L t) F w) := by
  have e : putF L t = (1, L) := by simp [putF, hid]
  rw [e]
  clear e
  go_enter Try.func45, Try.ntmps45
  go_wp2_with fail
  refine (isID_any _ _).mono ?_
  rw [hid]
  rintro e w1 ⟨rfl, hw⟩
  obtain rfl := hw.symm
  go_wp2
  go_ret
  exact codePut_same h (Mod.alloc _ _) 1

set_option maxRecDepth 100000 in
theorem Put_rect {w : World} {px : Nat} {L : List Th} {F : List Nat} (h : CodeRep w px L F) (t : Th) (hid : idB t.id = true) (hr : rectB t.x0 t.y0 t.x1 t.y1 = false) :
    Calls Try.prog 45 #[.pointer (some ⟨px, 0, none⟩), .int .i64 t.id, R4 t.x0 t.y0 t.x1 t.y1] w (CodePutPost px (putF L t) F w) := by
  have e : putF L t = (2, L) := by simp [putF, hid, hr]
  rw [e]
  clear e
  go_enter Try.func45, Try.ntmps45
  go_wp2_with fail
  refine (isID_any _ _).mono ?_
  rw [hid]
  rintro e w1 ⟨rfl, hw⟩
  obtain rfl := hw.symm
  go_wp2_with fail
  refine (isRect_any _ _ _ _ _).mono ?_
  rw [hr]
  rintro e w1 ⟨rfl, hw⟩
  obtain rfl := hw.symm
  go_wp2
  go_ret
  exact codePut_same h ((Mod.alloc _ _).trans (Mod.alloc _ _)) 2

set_option maxRecDepth 100000 in
set_option maxHeartbeats 400000 in
theorem Put_full {w : World} {px : Nat} {L : List Th} {F : List Nat} (h : CodeRep w px L F) (t : Th) (hid : idB t.id = true) (hr : rectB t.x0 t.y0 t.x1 t.y1 = true) (hf : findT L t.id = none) (hl : 400 ≤ L.length) :
    Calls Try.prog 45 #[.pointer (some ⟨px, 0, none⟩), .int .i64 t.id, R4 t.x0 t.y0 t.x1 t.y1] w (CodePutPost px (putF L t) F w) := by
  have e : putF L t = (4, L) := by simp [putF, hid, hr, hf, hl]
  rw [e]
  have HF := hideIt hf
  clear e hf
  go_enter Try.func45, Try.ntmps45
  go_wp2_with fail
  refine (isID_any _ _).mono ?_
  rw [hid]
  rintro e w1 ⟨rfl, hw⟩
  obtain rfl := hw.symm
  go_wp2_with fail
  refine (isRect_any _ _ _ _ _).mono ?_
  rw [hr]
  rintro e w1 ⟨rfl, hw⟩
  have hm1 : Mod [] w w1 := by rw [hw]; exact (Mod.alloc _ _).trans (Mod.alloc _ _)
  clear hw
  have h1 := h.kept hm1 (by simp)
  go_wp2_with fail
  refine (has_any h1 t.id).mono ?_
  rw [HF.out]
  rintro e w2 ⟨rfl, hm2⟩
  have hm := hm1.trans hm2
  have h2 := h.kept hm (by simp)
  clear hm1 hm2 h1
  go_wp2_with fail
  refine (Len_any h2).mono ?_
  rintro e w3 ⟨rfl, rfl⟩
  go_wp2
  go_ret
  exact codePut_same h hm 4

set_option maxRecDepth 100000 in
set_option maxHeartbeats 400000 in
theorem Put_new {w : World} {px : Nat} {L : List Th} {F : List Nat} (h : CodeRep w px L F) (t : Th) (hid : idB t.id = true) (hr : rectB t.x0 t.y0 t.x1 t.y1 = true) (hf : findT L t.id = none) (hl : L.length < 400) :
    Calls Try.prog 45 #[.pointer (some ⟨px, 0, none⟩), .int .i64 t.id, R4 t.x0 t.y0 t.x1 t.y1] w (CodePutPost px (putF L t) F w) := by
  have e : putF L t = (0, L ++ [t]) := by simp [putF, hid, hr, hf]; omega
  rw [e]
  have HF := hideIt hf
  clear e hf
  go_enter Try.func45, Try.ntmps45
  go_wp2_with fail
  refine (isID_any _ _).mono ?_
  rw [hid]
  rintro e w1 ⟨rfl, hw⟩
  obtain rfl := hw.symm
  go_wp2_with fail
  refine (isRect_any _ _ _ _ _).mono ?_
  rw [hr]
  rintro e w1 ⟨rfl, hw⟩
  have hm1 : Mod [] w w1 := by rw [hw]; exact (Mod.alloc _ _).trans (Mod.alloc _ _)
  have hbx1 : w1.heap[w.heap.size]? = some (B4 t.x0 t.y0 t.x1 t.y1) := by
    rw [hw, Below.heap_alloc _ _ _ (by simp)]
    exact heap_alloc_new w _
  clear hw
  have h1 := h.kept hm1 (by simp)
  go_wp2_with fail
  refine (has_any h1 t.id).mono ?_
  rw [HF.out]
  rintro e w2 ⟨rfl, hm2⟩
  have hm := hm1.trans hm2
  have h2 := h.kept hm (by simp)
  have hbx2 := (hm2.block _ (lt_of_block hbx1) (by simp)).trans hbx1
  clear hm1 hm2 h1 hbx1
  go_wp2_with fail
  refine (Len_any h2).mono ?_
  rintro e w3 ⟨rfl, rfl⟩
  obtain ⟨bm, es, clock, g1, g2, g3, rfl⟩ := h2
  have hc := cell_T69 g1
  obtain ⟨cb0, cb1, cb2, cb3⟩ := cell_B4 hbx2
  have hrun : (Instr.mapUpdate 67 (.map (some bm)) (.int .i64 t.id) (R4 t.x0 t.y0 t.x1 t.y1)).run Try.prog w2.drew = .ok () (ChangeMaps.setBlock w2.drew bm (.map (es.push ⟨.int .i64 t.id, thVal t, clock⟩) (clock + 1))) := run_put_new (w := w2.drew) g2 g3 t HF.out
  have hne := T69_ne g1 g2
  obtain ⟨hm2, hb2⟩ := setBlock_mod (w := w2.drew) (.map (es.push ⟨.int .i64 t.id, thVal t, clock⟩) (clock + 1)) g2
  have hfin : CodePutPost px (0, L ++ [t]) [px, bm] w (.returned (.int .i64 0)) (ChangeMaps.setBlock w2.drew bm (.map (es.push ⟨.int .i64 t.id, thVal t, clock⟩) (clock + 1))) :=
    ⟨rfl, ⟨bm, _, _, (hm2.block px (lt_of_block g1) (by simpa using hne)).trans g1, hb2, g3.push t clock, rfl⟩, (hm.nil.trans (Mod.drew _)).trans (hm2.mono (by simp))⟩
  have HFIN := hideIt hfin
  clear hfin hm2 hb2 g1 g2 g3 h
  generalize ChangeMaps.setBlock w2.drew bm (.map (es.push ⟨.int .i64 t.id, thVal t, clock⟩) (clock + 1)) = w5 at *
  go_wp2_with fail
  go_region
  all_goals
    go_wp2
    go_ret
    exact HFIN.out

set_option maxRecDepth 100000 in
set_option maxHeartbeats 400000 in
theorem Put_old {w : World} {px : Nat} {L : List Th} {F : List Nat} (h : CodeRep w px L F) (t : Th) (hid : idB t.id = true) (hr : rectB t.x0 t.y0 t.x1 t.y1 = true) (n : Nat) (hf : findT L t.id = some n) :
    Calls Try.prog 45 #[.pointer (some ⟨px, 0, none⟩), .int .i64 t.id, R4 t.x0 t.y0 t.x1 t.y1] w (CodePutPost px (putF L t) F w) := by
  have e : putF L t = (0, L.set n t) := by simp [putF, hid, hr, hf]
  rw [e]
  have HF := hideIt hf
  clear e hf
  go_enter Try.func45, Try.ntmps45
  go_wp2_with fail
  refine (isID_any _ _).mono ?_
  rw [hid]
  rintro e w1 ⟨rfl, hw⟩
  obtain rfl := hw.symm
  go_wp2_with fail
  refine (isRect_any _ _ _ _ _).mono ?_
  rw [hr]
  rintro e w1 ⟨rfl, hw⟩
  have hm1 : Mod [] w w1 := by rw [hw]; exact (Mod.alloc _ _).trans (Mod.alloc _ _)
  have hbx1 : w1.heap[w.heap.size]? = some (B4 t.x0 t.y0 t.x1 t.y1) := by
    rw [hw, Below.heap_alloc _ _ _ (by simp)]
    exact heap_alloc_new w _
  clear hw
  have h1 := h.kept hm1 (by simp)
  go_wp2_with fail
  refine (has_any h1 t.id).mono ?_
  rw [HF.out]
  rintro e w2 ⟨rfl, hm2⟩
  have hm := hm1.trans hm2
  have h2 := h.kept hm (by simp)
  have hbx2 := (hm2.block _ (lt_of_block hbx1) (by simp)).trans hbx1
  clear hm1 hm2 h1 hbx1
  obtain ⟨bm, es, clock, g1, g2, g3, rfl⟩ := h2
  have hc := cell_T69 g1
  obtain ⟨cb0, cb1, cb2, cb3⟩ := cell_B4 hbx2
  have hrun : (Instr.mapUpdate 67 (.map (some bm)) (.int .i64 t.id) (R4 t.x0 t.y0 t.x1 t.y1)).run Try.prog w2.drew = .ok () (ChangeMaps.setBlock w2.drew bm (.map (es.modify n fun e => { e with key := .int .i64 t.id, val := thVal t }) clock)) := run_put_old (w := w2.drew) g2 g3 t n HF.out
  have hne := T69_ne g1 g2
  obtain ⟨hm2, hb2⟩ := setBlock_mod (w := w2.drew) (.map (es.modify n fun e => { e with key := .int .i64 t.id, val := thVal t }) clock) g2
  have hfin : CodePutPost px (0, L.set n t) [px, bm] w (.returned (.int .i64 0)) (ChangeMaps.setBlock w2.drew bm (.map (es.modify n fun e => { e with key := .int .i64 t.id, val := thVal t }) clock)) :=
    ⟨rfl, ⟨bm, _, _, (hm2.block px (lt_of_block g1) (by simpa using hne)).trans g1, hb2, g3.modify n t, rfl⟩, (hm.nil.trans (Mod.drew _)).trans (hm2.mono (by simp))⟩
  have HFIN := hideIt hfin
  clear hfin hm2 hb2 g1 g2 g3 h
  generalize ChangeMaps.setBlock w2.drew bm (.map (es.modify n fun e => { e with key := .int .i64 t.id, val := thVal t }) clock) = w5 at *
  go_wp2_with fail
  go_region
  all_goals
    go_wp2
    go_ret
    exact HFIN.out

theorem Put_any {w : World} {px : Nat} {L : List Th} {F : List Nat} (h : CodeRep w px L F) (t : Th) :
    Calls Try.prog 45 #[.pointer (some ⟨px, 0, none⟩), .int .i64 t.id, R4 t.x0 t.y0 t.x1 t.y1] w (CodePutPost px (putF L t) F w) := by
  cases hid : idB t.id with
  | false => exact Put_id h t hid
  | true =>
    cases hr : rectB t.x0 t.y0 t.x1 t.y1 with
    | false => exact Put_rect h t hid hr
    | true =>
      cases hf : findT L t.id with
      | some n => exact Put_old h t hid hr n hf
      | none =>
        by_cases hl : L.length < 400
        · exact Put_new h t hid hr hf hl
        · exact Put_full h t hid hr hf (by omega)

end Go.Proofs.Ytideopmkmobicaa
