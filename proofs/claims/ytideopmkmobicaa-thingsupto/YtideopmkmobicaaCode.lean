import Derived.Test.YtideopmkmobicaaMap
import Derived.RegionTactic
namespace Go.Proofs.Ytideopmkmobicaa
open Go.RowKit Go.Maps

def HasPost (b : Bool) (w : World) (e : Ending) (w' : World) : Prop := e = .returned (.bool b) ∧ Mod [] w w'

theorem cell_T69 {w : World} {px bm : Nat} (h : w.heap[px]? = some (T69 bm)) : w.cell? ⟨px, 0, none⟩ = some (.map (some bm)) := by
  rw [cell_of_block h]; rfl

set_option maxRecDepth 100000 in
set_option maxHeartbeats 400000 in
theorem has_any {w : World} {px : Nat} {L : List Th} {F : List Nat} (h : CodeRep w px L F) (id : Int) :
    Calls Try.prog 47 #[.pointer (some ⟨px, 0, none⟩), .int .i64 id] w (HasPost (findT L id).isSome w) := by
  obtain ⟨bm, es, clock, h1, h2, h3, rfl⟩ := h
  have hc := cell_T69 h1
  have hrun := run_look h2 h3 id
  generalize (findT L id).isSome = b at hrun ⊢
  generalize (getF L id).1.x0 = x0 at hrun
  generalize (getF L id).1.y0 = y0 at hrun
  generalize (getF L id).1.x1 = x1 at hrun
  generalize (getF L id).1.y1 = y1 at hrun
  clear h1 h2 h3
  go_enter Try.func47, Try.ntmps47
  go_wp2
  go_ret
  exact ⟨rfl, Mod.alloc _ _⟩

set_option maxRecDepth 100000 in
set_option maxHeartbeats 400000 in
theorem Len_any {w : World} {px : Nat} {L : List Th} {F : List Nat} (h : CodeRep w px L F) :
    Calls Try.prog 30 #[.pointer (some ⟨px, 0, none⟩)] w fun e w' => e = .returned (.int .i64 L.length) ∧ w = w' := by
  obtain ⟨bm, es, clock, h1, h2, h3, rfl⟩ := h
  have hc := cell_T69 h1
  have hrun := run_len h2 h3
  clear h1 h2 h3
  go_enter Try.func30, Try.ntmps30
  go_wp2
  go_ret
  exact ⟨rfl, rfl⟩

set_option maxRecDepth 100000 in
set_option maxHeartbeats 400000 in
theorem Get_any {w : World} {px : Nat} {L : List Th} {F : List Nat} (h : CodeRep w px L F) (id : Int) :
    Calls Try.prog 28 #[.pointer (some ⟨px, 0, none⟩), .int .i64 id] w (GetPost (getF L id) w) := by
  obtain ⟨bm, es, clock, h1, h2, h3, rfl⟩ := h
  have hx := lt_of_block h1
  have hb := lt_of_block h2
  have h1' := (Mod.alloc (F := []) w (B4 0 0 0 0)).block px hx (by simp)
  have h2' := (Mod.alloc (F := []) w (B4 0 0 0 0)).block bm hb (by simp)
  have hc := cell_T69 (h1'.trans h1)
  have hrun := run_look (h2'.trans h2) h3 id
  have hsnd : (getF L id).2 = if (findT L id).isSome then 0 else 3 := by
    unfold getF
    cases findT L id <;> rfl
  have hzero : (findT L id).isSome = false → (getF L id).1 = th0 := by
    unfold getF
    cases findT L id <;> simp [th0]
  generalize (findT L id).isSome = b at hrun hsnd hzero
  generalize getF L id = r at *
  obtain ⟨⟨i, x0, y0, x1, y1⟩, er⟩ := r
  simp only at hsnd hrun hzero
  clear h1 h2 h3 h1' h2'
  cases b with
  | true =>
    simp only [if_true] at hsnd
    subst hsnd
    clear hzero
    go_enter Try.func28, Try.ntmps28
    go_wp2
    exact bodyPost_ret (v := .tuple #[R4 x0 y0 x1 y1, .int .i64 0]) (by simp [results, Try.results28, go_sem]) rfl ⟨rfl, (Mod.alloc _ _).trans (Mod.alloc _ _)⟩
  | false =>
    simp at hsnd
    subst hsnd
    have hz := hzero rfl
    simp only [th0, Th.mk.injEq] at hz
    obtain ⟨rfl, rfl, rfl, rfl, rfl⟩ := hz
    clear hzero
    go_enter Try.func28, Try.ntmps28
    go_wp2
    exact bodyPost_ret (v := .tuple #[R4 0 0 0 0, .int .i64 3]) (by simp [results, Try.results28, go_sem]) rfl ⟨rfl, (Mod.alloc _ _).trans (Mod.alloc _ _)⟩

def CodePutPost (px : Nat) (r : Int × List Th) (F : List Nat) (w : World) (e : Ending) (w' : World) : Prop :=
  e = .returned (.int .i64 r.1) ∧ CodeRep w' px r.2 F ∧ Mod F w w'

theorem setBlock_mod {w : World} {b : Nat} {o : Obj} (o' : Obj) (hb : w.heap[b]? = some o) : Mod [b] w (ChangeMaps.setBlock w b o') ∧ (ChangeMaps.setBlock w b o').heap[b]? = some o' := by
  refine ⟨⟨rfl, rfl, rfl, by simp [ChangeMaps.setBlock], fun k _ hk => ?_⟩, ?_⟩
  · simp only [List.mem_singleton] at hk
    simp only [ChangeMaps.setBlock]
    rw [Array.getElem?_setIfInBounds_ne (fun e => hk e.symm)]
  · simp only [ChangeMaps.setBlock]
    rw [Array.getElem?_setIfInBounds_self_of_lt (lt_of_block hb)]

theorem T69_ne {w : World} {px bm : Nat} {es : Array MapEntry} {clock : Nat} (h1 : w.heap[px]? = some (T69 bm)) (h2 : w.heap[bm]? = some (.map es clock)) : px ≠ bm := by
  rintro rfl
  rw [h1] at h2
  cases h2

set_option maxRecDepth 100000 in
set_option maxHeartbeats 400000 in
theorem Drop_any {w : World} {px : Nat} {L : List Th} {F : List Nat} (h : CodeRep w px L F) (id : Int) :
    Calls Try.prog 26 #[.pointer (some ⟨px, 0, none⟩), .int .i64 id] w (CodePutPost px (dropF L id) F w) := by
  have hhas := has_any h id
  cases hf : findT L id with
  | none =>
    have e : dropF L id = (3, L) := by simp [dropF, hf]
    rw [e]
    rw [hf] at hhas
    have HH := hideIt hhas
    clear e hf hhas
    go_enter Try.func26, Try.ntmps26
    go_wp2_with fail
    refine HH.out.mono ?_
    clear HH
    rintro e w1 ⟨rfl, hm⟩
    go_wp2
    go_ret
    exact ⟨rfl, h.kept hm (by simp), hm.nil⟩
  | some n =>
    have e : dropF L id = (0, L.eraseIdx n) := by simp [dropF, hf]
    rw [e]
    rw [hf] at hhas
    have HH := hideIt hhas
    have HF := hideIt hf
    clear e hf hhas
    go_enter Try.func26, Try.ntmps26
    go_wp2_with fail
    refine HH.out.mono ?_
    clear HH
    rintro e w1 ⟨rfl, hm⟩
    obtain ⟨bm, es, clock, h1, h2, h3, rfl⟩ := h.kept hm (by simp)
    have hc := cell_T69 h1
    have hrun := run_drop h2 h3 id n HF.out
    have hne := T69_ne h1 h2
    obtain ⟨hm2, hb2⟩ := setBlock_mod (.map (es.eraseIdxIfInBounds n) clock) h2
    have hfin : CodePutPost px (0, L.eraseIdx n) [px, bm] w (.returned (.int .i64 0)) (ChangeMaps.setBlock w1 bm (.map (es.eraseIdxIfInBounds n) clock)) :=
      ⟨rfl, ⟨bm, _, _, (hm2.block px (lt_of_block h1) (by simpa using hne)).trans h1, hb2, h3.erase n, rfl⟩, hm.nil.trans (hm2.mono (by simp))⟩
    have HFIN := hideIt hfin
    clear hfin hm2 hb2 h1 h2 h3 h
    generalize ChangeMaps.setBlock w1 bm (.map (es.eraseIdxIfInBounds n) clock) = w2 at *
    go_wp2
    go_ret
    exact HFIN.out

def NewPost (w : World) (e : Ending) (w' : World) : Prop :=
  e = .returned (.tuple #[.pointer (some ⟨w.heap.size + 1, 0, none⟩), .int .i64 0]) ∧ CodeRep w' (w.heap.size + 1) [] [w.heap.size + 1, w.heap.size] ∧ Mod [] w w'

theorem New_bad (fan : Int) (w : World) (hf : fanB fan = false) : Calls Try.prog 7 #[.int .i64 fan] w fun e w' => e = .returned (.tuple #[.pointer none, .int .i64 1]) ∧ w = w' := by
  go_enter Try.func7, Try.ntmps7
  go_wp2_with fail
  refine (isFan_any _ _).mono ?_
  rw [hf]
  rintro e w' ⟨rfl, rfl⟩
  go_wp2
  go_ret2
  exact ⟨rfl, rfl⟩

theorem New_good (fan : Int) (w : World) (hf : fanB fan = true) : Calls Try.prog 7 #[.int .i64 fan] w (NewPost w) := by
  have hmm := @run_makeMap Try.prog
  go_enter Try.func7, Try.ntmps7
  go_wp2_with fail
  refine (isFan_any _ _).mono ?_
  rw [hf]
  rintro e w' ⟨rfl, hw⟩
  obtain rfl := hw.symm
  go_wp2
  go_ret2
  refine ⟨rfl, ⟨w.heap.size, #[], 0, ?_, ?_, rfl, rfl⟩, (Mod.alloc _ _).trans (Mod.alloc _ _)⟩
  · have := heap_alloc_new (w.alloc (.map #[] 0)) (T69 w.heap.size)
    simpa using this
  · rw [Below.heap_alloc _ _ _ (by simp)]
    exact heap_alloc_new w _

end Go.Proofs.Ytideopmkmobicaa
