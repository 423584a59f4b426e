import Derived.Test.YthimaoipogocfaaGreatJ18
import Derived.Sort.OwnSortedInts
import Derived.Test.YthimaoipogocfaaGreatJ13
import Derived.Test.YthimaoipogocfaaGreatJ16
namespace Go.Proofs.YthimaoipogocfaaGreat
open Go.RowKit Go.Sort

def ints (xs : List Int) : List Value := xs.map (Value.int .i64)
def sortI (xs : List Int) : List Int := xs.mergeSort fun x y => decide (x ≤ y)
theorem sortI_length (xs : List Int) : (sortI xs).length = xs.length := by simp [sortI]
theorem sortI_perm (xs : List Int) : (sortI xs).Perm xs := List.mergeSort_perm _ _

def SortIPost (v : Value) (n : Nat) (xs : List Int) (w : World) (e : Ending) (w' : World) : Prop := e = .returned (.tuple #[]) ∧ w'.ownsRow 0 3 1 v n (ints (sortI xs)) ∧ Mod v.ownBlock.toList w w'

theorem sort_any {w : World} {v : Value} {n : Nat} {xs : List Int} (h : w.ownsRow 0 3 1 v n (ints xs)) (hn : n ≤ 100000) :
    Calls Tryz.prog 135 #[v] w (SortIPost v n xs w) := by
  have hl : xs.length = n := by
    have := h.1
    simpa [ints] using this
  subst hl
  rcases h.2 with ⟨rfl, h0⟩ | ⟨g, cap, cur, rfl, hb, hg, hnc, hcm, hcs, htake⟩
  · have hx : xs = [] := List.eq_nil_of_length_eq_zero h0
    subst hx
    refine (Any.slices_Sort_int_none Tryz.laysSort none 0 w).mono ?_
    rintro e w' ⟨rfl, rfl⟩
    refine ⟨rfl, ?_, Mod.refl _ _⟩
    rw [show sortI ([] : List Int) = [] from by simp [sortI]]
    exact h
  · have hH : Holds (Value.int .i64) w g 0 xs.toArray := holds_of_blockI hg (by simpa [ints] using htake)
    refine (Any.slices_Sort_int Tryz.laysSort g 0 cap xs w hH (lt_of_block hg) (by omega)).mono ?_
    rintro e w' ⟨rfl, m, os, rfl⟩
    obtain ⟨q1, q2, q3, q4, q5⟩ := grownBy_sortedI (w := w) (g := g) (n := m) (os := os) (sortI xs).toArray
    refine ⟨rfl, ?_, q1, q2, q3, q4, fun k hk hf => q5 k hk (fun e => hf ?_)⟩
    · exact ownsRow_sortedI (ss := xs) (ts := sortI xs) (sortI_length xs) hb hg hnc hcm hcs
    · cases e
      simp [Value.ownBlock]

end Go.Proofs.YthimaoipogocfaaGreat

namespace Go.Proofs.YthimaoipogocfaaGreat
open Go.RowKit
attribute [local go_sem] run_store_f32 run_neg_inf

abbrev idsO (v : Value) : Obj := .cells #[v] 39 (0, 0)
abbrev fnO (f : FuncId) : Obj := .cells #[.func (.func f) #[] #[]] 134 (0, 0)
theorem cell_idsO {w : World} {p : Nat} {v : Value} (h : w.heap[p]? = some (idsO v)) : w.cell? ⟨p, 0, none⟩ = some v := by rw [cell_of_block h]; rfl
theorem cell_fnO {w : World} {p : Nat} {f : FuncId} (h : w.heap[p]? = some (fnO f)) : w.cell? ⟨p, 0, none⟩ = some (.func (.func f) #[] #[]) := by rw [cell_of_block h]; rfl
theorem cellsB4 {w : World} {p : Nat} {a b c d : Int} (h : w.heap[p]? = some (B4 a b c d)) : w.cell? ⟨p, 0, none⟩ = some (.int .i64 a) ∧ w.cell? ⟨p, 1, none⟩ = some (.int .i64 b) ∧ w.cell? ⟨p, 2, none⟩ = some (.int .i64 c) ∧ w.cell? ⟨p, 3, none⟩ = some (.int .i64 d) := by
  refine ⟨?_, ?_, ?_, ?_⟩ <;> rw [cell_of_block h] <;> rfl
theorem TgAt.rest {w : World} {t : Tg} (h : TgAt w t) : w.cell? ⟨t.blk, 4, none⟩ = some (.int .i64 t.id) ∧ w.cell? ⟨t.blk, 5, none⟩ = some (.int .i64 t.x0) ∧ w.cell? ⟨t.blk, 6, none⟩ = some (.int .i64 t.y0) ∧ w.cell? ⟨t.blk, 7, none⟩ = some (.int .i64 t.x1) ∧ w.cell? ⟨t.blk, 8, none⟩ = some (.int .i64 t.y1) := by
  have hh := h.here
  unfold tgO bxC at hh
  refine ⟨?_, ?_, ?_, ?_, ?_⟩ <;> rw [cell_of_block hh] <;> rfl

theorem infoI : (Tryz.prog.info? 3).map (fun i => (i.zero, i.size, i.bytes)) = some (some (.int .i64 0), 1, 8) := by kernel_rfl
theorem ints_one (xs : List Int) : ∀ u ∈ ints xs, u.oneCell' = true := by
  intro u hu
  obtain ⟨x, _, rfl⟩ := List.mem_map.1 hu
  rfl

/-- a number was added to the list -/
def AddPost (ib : Nat) (sv : Value) (n : Nat) (xs : List Int) (id : Int) (w : World) (e : Ending) (w' : World) : Prop :=
  e = .returned (.tuple #[]) ∧ ∃ sv', w'.heap[ib]? = some (idsO sv') ∧ w'.ownsRow 0 3 1 sv' (n + 1) (ints (xs ++ [id])) ∧ (∀ x ∈ sv'.ownBlock.toList, x ∈ sv.ownBlock.toList ∨ w.heap.size ≤ x) ∧ Mod (ib :: sv.ownBlock.toList) w w'

theorem addMid {w w4 w5 : World} {ib n g5 c5 : Nat} {sv : Value} {xs : List Int} {id : Int} {o : Obj} (hm : Mod [] w w4) (hib : w4.heap[ib]? = some (idsO sv)) (hne : ib ∉ sv.ownBlock.toList) (ho : w5.ownsRow 0 3 1 (.slice (some ⟨g5, 0, none⟩) (n + 1) c5) (n + 1) (catL (ints xs) (ints [id])))
    (hm5 : Mod sv.ownBlock.toList ((w4.alloc o).drew) w5) (hat : sv.ownBlock = some g5 ∨ g5 = ((w4.alloc o).drew).heap.size) :
    AddPost ib sv n xs id w (.returned (.tuple #[])) (w5.setCell ⟨ib, 0, none⟩ (.slice (some ⟨g5, 0, none⟩) (n + 1) c5)) := by
  have hm45 : Mod sv.ownBlock.toList w4 w5 := ((Mod.alloc _ _).trans (Mod.drew _)).trans hm5
  have hlt := lt_of_block hib
  have hib5 := (hm45.block ib hlt hne).trans hib
  have hg : g5 ∈ sv.ownBlock.toList ∨ w4.heap.size < g5 := by
    rcases hat with h | h
    · exact .inl (by rw [h]; simp)
    · refine .inr ?_
      rw [h]
      show w4.heap.size < (w4.alloc o).heap.size
      simp
  have hgi : g5 ≠ ib := fun e => by
    rcases hg with h | h
    · exact hne (e ▸ h)
    · omega
  have hs := hm.size
  refine ⟨rfl, .slice (some ⟨g5, 0, none⟩) (n + 1) c5, ?_, ?_, fun x hx => ?_, ?_⟩
  · rw [block_setCell hib5 0 _]
    simp
  · have h := owns_kept ho (Mod.setCell (F := [ib]) w5 ⟨ib, 0, none⟩ (.slice (some ⟨g5, 0, none⟩) (n + 1) c5) (by simp)) (fun x hx => by simp [Value.ownBlock] at hx; subst hx; simpa using hgi)
    have e : catL (ints xs) (ints [id]) = ints (xs ++ [id]) := by simp [catL, ints]
    rw [← e]
    exact h
  · simp [Value.ownBlock] at hx
    subst hx
    rcases hg with h | h
    · exact .inl h
    · exact .inr (by omega)
  · exact (hm.nil.trans (hm45.mono (by simp +contextual))).trans (Mod.setCell _ _ _ (by simp))

set_option maxRecDepth 100000 in
set_option maxHeartbeats 1000000 in
theorem find1_meet_false {w : World} {t : Tg} {c0 c1 c2 c3 : Int} {fb wb ib : Nat} (hfb : w.heap[fb]? = some (fnO 71)) (hwb : w.heap[wb]? = some (B4 c0 c1 c2 c3)) (ht : TgAt w t) (hfit : meetI c0 c1 c2 c3 t.x0 t.y0 t.x1 t.y1 = false) :
    Calls Tryz.prog 134 #[.pointer (some ⟨t.blk, 0, none⟩), .pointer (some ⟨fb, 0, none⟩), .pointer (some ⟨wb, 0, none⟩), .pointer (some ⟨ib, 0, none⟩)] w fun e w' => e = .returned (.tuple #[]) ∧ Mod [] w w' := by
  obtain ⟨t4, t5, t6, t7, t8⟩ := ht.rest
  obtain ⟨z0, z1, z2, z3⟩ := cellsB4 hwb
  have f0 := cell_fnO hfb
  have HME := hideIt (show ∀ W, Calls Tryz.prog 71 #[R4 c0 c1 c2 c3, R4 t.x0 t.y0 t.x1 t.y1] W (BoolPost false W) from fun W => by
    have := meet_any c0 c1 c2 c3 t.x0 t.y0 t.x1 t.y1 W
    rw [hfit] at this
    exact this)
  have eg : ∀ args w, (callFunc 71 args).run Tryz.prog w = .ok (.enter 71 args) w := enters_of Tryz.func71 (by kernel_rfl) rfl
  clear hfb hwb ht hfit
  go_enter Tryz.func134, Tryz.ntmps134
  go_wp2_with fail
  go_region_with (go_at_call 71; refine (HME.out _).mono ?_; rintro e w4 ⟨rfl, hm2⟩)
  all_goals
    have hm := (Mod.drew w).trans hm2
    clear hm2 t4 t5 t6 t7 t8 z0 z1 z2 z3 f0
    go_wp2
    go_end0
    exact ⟨rfl, hm⟩

set_option maxRecDepth 100000 in
set_option maxHeartbeats 1000000 in
theorem find1_meet_true {w : World} {t : Tg} {c0 c1 c2 c3 : Int} {fb wb ib : Nat} (hfb : w.heap[fb]? = some (fnO 71)) (hwb : w.heap[wb]? = some (B4 c0 c1 c2 c3)) (ht : TgAt w t) (hfit : meetI c0 c1 c2 c3 t.x0 t.y0 t.x1 t.y1 = true)
    {sv : Value} {n : Nat} {xs : List Int} (hib : w.heap[ib]? = some (idsO sv)) (hrow : w.ownsRow 0 3 1 sv n (ints xs)) (hn : n ≤ 1000) (hne : ib ∉ sv.ownBlock.toList) :
    Calls Tryz.prog 134 #[.pointer (some ⟨t.blk, 0, none⟩), .pointer (some ⟨fb, 0, none⟩), .pointer (some ⟨wb, 0, none⟩), .pointer (some ⟨ib, 0, none⟩)] w (AddPost ib sv n xs t.id w) := by
  obtain ⟨t4, t5, t6, t7, t8⟩ := ht.rest
  obtain ⟨z0, z1, z2, z3⟩ := cellsB4 hwb
  have f0 := cell_fnO hfb
  have HME := hideIt (show ∀ W, Calls Tryz.prog 71 #[R4 c0 c1 c2 c3, R4 t.x0 t.y0 t.x1 t.y1] W (BoolPost true W) from fun W => by
    have := meet_any c0 c1 c2 c3 t.x0 t.y0 t.x1 t.y1 W
    rw [hfit] at this
    exact this)
  have eg : ∀ args w, (callFunc 71 args).run Tryz.prog w = .ok (.enter 71 args) w := enters_of Tryz.func71 (by kernel_rfl) rfl
  have HT := hideIt ht
  have HIB := hideIt hib
  have HROW := hideIt hrow
  have HNE := hideIt hne
  clear hfb hwb hfit ht hib hrow hne
  go_enter Tryz.func134, Tryz.ntmps134
  go_wp2_with fail
  go_region_with (go_at_call 71; refine (HME.out _).mono ?_; rintro e w4 ⟨rfl, hm2⟩)
  all_goals
    have hm := (Mod.drew w).trans hm2
    clear hm2 t4 t5 t6 t7 t8 z0 z1 z2 z3 f0 HME eg
    have hib4 := (hm.block ib (lt_of_block HIB.out) (by simp)).trans HIB.out
    have s4 := (HT.out.kept hm (by simp)).rest.1
    have i4 := cell_idsO hib4
    have i4b : ∀ o, (w4.alloc o).cell? ⟨ib, 0, none⟩ = some sv := fun o => cell_mod (Mod.alloc _ _) i4
    obtain ⟨i0, hi, hz0, hz1, hz2⟩ := info_partsT infoI
    have HSRC := hideIt (show srcRow ((w4.alloc (.cells #[.int .i64 t.id] 3)).drew) 1 (.slice (some ⟨w4.heap.size, 0, none⟩) 1 1) 1 (ints [t.id]) from
      srcRow_mod (srcRow_of_owns (owns_allocT (w := w4) (cur := #[.int .i64 t.id]) (e := 3) (n := 1) (size := 1) rfl (by decide) (base := 0) (Nat.zero_le _)) (ints_one [t.id])) (Mod.drew _))
    have HOWN := hideIt (show ((w4.alloc (.cells #[.int .i64 t.id] 3)).drew).ownsRow 0 3 1 sv n (ints xs) from
      owns_kept HROW.out ((hm.trans (Mod.alloc _ _)).trans (Mod.drew _)) (by simp))
    have HI5 := hideIt (show ∀ w5, Mod sv.ownBlock.toList ((w4.alloc (.cells #[.int .i64 t.id] 3)).drew) w5 → w5.heap[ib]? = some (idsO sv) from fun w5 hm5 =>
      ((((Mod.alloc w4 (.cells #[.int .i64 t.id] 3)).trans (Mod.drew _)).trans hm5).block ib (lt_of_block hib4) HNE.out).trans hib4)
    have HM := hideIt hm
    have HIB4 := hideIt hib4
    clear hm hib4
    go_wp2_with fail
    go_region_law (refine step_append_rows _ rfl _ _ 39 rfl 0 3 i0 (.int .i64 0) 1 8 Tryz.underlying39 hi hz0 hz1 hz2 rfl (by decide) _ n (ints xs) rfl HOWN.out _ 1 (ints [t.id]) rfl HSRC.out (by omega) (by unfold maxLen; omega) (by omega) (Nat.zero_le _) ?_; intro g5 c5 w5 ho5 hm5 hat5; have hp5 := HI5.out w5 hm5; have hc5 := cell_idsO hp5; have hf5 := frozen_of_block hp5 0)
    all_goals
      have hfin := addMid HM.out HIB4.out HNE.out ho5 hm5 hat5
      have HF := hideIt hfin
      clear hfin ho5 hm5 hat5 hp5 s4 i4 i4b HSRC HOWN HI5
      go_wp2
      go_end0
      exact HF.out

set_option maxRecDepth 100000 in
set_option maxHeartbeats 1000000 in
theorem find1_holds_false {w : World} {t : Tg} {c0 c1 c2 c3 : Int} {fb wb ib : Nat} (hfb : w.heap[fb]? = some (fnO 101)) (hwb : w.heap[wb]? = some (B4 c0 c1 c2 c3)) (ht : TgAt w t) (hfit : holdI c0 c1 c2 c3 t.x0 t.y0 t.x1 t.y1 = false) :
    Calls Tryz.prog 134 #[.pointer (some ⟨t.blk, 0, none⟩), .pointer (some ⟨fb, 0, none⟩), .pointer (some ⟨wb, 0, none⟩), .pointer (some ⟨ib, 0, none⟩)] w fun e w' => e = .returned (.tuple #[]) ∧ Mod [] w w' := by
  obtain ⟨t4, t5, t6, t7, t8⟩ := ht.rest
  obtain ⟨z0, z1, z2, z3⟩ := cellsB4 hwb
  have f0 := cell_fnO hfb
  have HME := hideIt (show ∀ W, Calls Tryz.prog 101 #[R4 c0 c1 c2 c3, R4 t.x0 t.y0 t.x1 t.y1] W (BoolPost false W) from fun W => by
    have := holds_any c0 c1 c2 c3 t.x0 t.y0 t.x1 t.y1 W
    rw [hfit] at this
    exact this)
  have eg : ∀ args w, (callFunc 101 args).run Tryz.prog w = .ok (.enter 101 args) w := enters_of Tryz.func101 (by kernel_rfl) rfl
  clear hfb hwb ht hfit
  go_enter Tryz.func134, Tryz.ntmps134
  go_wp2_with fail
  go_region_with (go_at_call 101; refine (HME.out _).mono ?_; rintro e w4 ⟨rfl, hm2⟩)
  all_goals
    have hm := (Mod.drew w).trans hm2
    clear hm2 t4 t5 t6 t7 t8 z0 z1 z2 z3 f0
    go_wp2
    go_end0
    exact ⟨rfl, hm⟩

set_option maxRecDepth 100000 in
set_option maxHeartbeats 1000000 in
theorem find1_holds_true {w : World} {t : Tg} {c0 c1 c2 c3 : Int} {fb wb ib : Nat} (hfb : w.heap[fb]? = some (fnO 101)) (hwb : w.heap[wb]? = some (B4 c0 c1 c2 c3)) (ht : TgAt w t) (hfit : holdI c0 c1 c2 c3 t.x0 t.y0 t.x1 t.y1 = true)
    {sv : Value} {n : Nat} {xs : List Int} (hib : w.heap[ib]? = some (idsO sv)) (hrow : w.ownsRow 0 3 1 sv n (ints xs)) (hn : n ≤ 1000) (hne : ib ∉ sv.ownBlock.toList) :
    Calls Tryz.prog 134 #[.pointer (some ⟨t.blk, 0, none⟩), .pointer (some ⟨fb, 0, none⟩), .pointer (some ⟨wb, 0, none⟩), .pointer (some ⟨ib, 0, none⟩)] w (AddPost ib sv n xs t.id w) := by
  obtain ⟨t4, t5, t6, t7, t8⟩ := ht.rest
  obtain ⟨z0, z1, z2, z3⟩ := cellsB4 hwb
  have f0 := cell_fnO hfb
  have HME := hideIt (show ∀ W, Calls Tryz.prog 101 #[R4 c0 c1 c2 c3, R4 t.x0 t.y0 t.x1 t.y1] W (BoolPost true W) from fun W => by
    have := holds_any c0 c1 c2 c3 t.x0 t.y0 t.x1 t.y1 W
    rw [hfit] at this
    exact this)
  have eg : ∀ args w, (callFunc 101 args).run Tryz.prog w = .ok (.enter 101 args) w := enters_of Tryz.func101 (by kernel_rfl) rfl
  have HT := hideIt ht
  have HIB := hideIt hib
  have HROW := hideIt hrow
  have HNE := hideIt hne
  clear hfb hwb hfit ht hib hrow hne
  go_enter Tryz.func134, Tryz.ntmps134
  go_wp2_with fail
  go_region_with (go_at_call 101; refine (HME.out _).mono ?_; rintro e w4 ⟨rfl, hm2⟩)
  all_goals
    have hm := (Mod.drew w).trans hm2
    clear hm2 t4 t5 t6 t7 t8 z0 z1 z2 z3 f0 HME eg
    have hib4 := (hm.block ib (lt_of_block HIB.out) (by simp)).trans HIB.out
    have s4 := (HT.out.kept hm (by simp)).rest.1
    have i4 := cell_idsO hib4
    have i4b : ∀ o, (w4.alloc o).cell? ⟨ib, 0, none⟩ = some sv := fun o => cell_mod (Mod.alloc _ _) i4
    obtain ⟨i0, hi, hz0, hz1, hz2⟩ := info_partsT infoI
    have HSRC := hideIt (show srcRow ((w4.alloc (.cells #[.int .i64 t.id] 3)).drew) 1 (.slice (some ⟨w4.heap.size, 0, none⟩) 1 1) 1 (ints [t.id]) from
      srcRow_mod (srcRow_of_owns (owns_allocT (w := w4) (cur := #[.int .i64 t.id]) (e := 3) (n := 1) (size := 1) rfl (by decide) (base := 0) (Nat.zero_le _)) (ints_one [t.id])) (Mod.drew _))
    have HOWN := hideIt (show ((w4.alloc (.cells #[.int .i64 t.id] 3)).drew).ownsRow 0 3 1 sv n (ints xs) from
      owns_kept HROW.out ((hm.trans (Mod.alloc _ _)).trans (Mod.drew _)) (by simp))
    have HI5 := hideIt (show ∀ w5, Mod sv.ownBlock.toList ((w4.alloc (.cells #[.int .i64 t.id] 3)).drew) w5 → w5.heap[ib]? = some (idsO sv) from fun w5 hm5 =>
      ((((Mod.alloc w4 (.cells #[.int .i64 t.id] 3)).trans (Mod.drew _)).trans hm5).block ib (lt_of_block hib4) HNE.out).trans hib4)
    have HM := hideIt hm
    have HIB4 := hideIt hib4
    clear hm hib4
    go_wp2_with fail
    go_region_law (refine step_append_rows _ rfl _ _ 39 rfl 0 3 i0 (.int .i64 0) 1 8 Tryz.underlying39 hi hz0 hz1 hz2 rfl (by decide) _ n (ints xs) rfl HOWN.out _ 1 (ints [t.id]) rfl HSRC.out (by omega) (by unfold maxLen; omega) (by omega) (Nat.zero_le _) ?_; intro g5 c5 w5 ho5 hm5 hat5; have hp5 := HI5.out w5 hm5; have hc5 := cell_idsO hp5; have hf5 := frozen_of_block hp5 0)
    all_goals
      have hfin := addMid HM.out HIB4.out HNE.out ho5 hm5 hat5
      have HF := hideIt hfin
      clear hfin ho5 hm5 hat5 hp5 s4 i4 i4b HSRC HOWN HI5
      go_wp2
      go_end0
      exact HF.out

end Go.Proofs.YthimaoipogocfaaGreat

namespace Go.Proofs.YthimaoipogocfaaGreat
open Go.RowKit
attribute [local go_sem] run_store_f32 run_neg_inf

/-- what find's closure has found -/
structure FindS (f : FuncId) (c0 c1 c2 c3 : Int) (fits : Tg → Bool) (fb wb ib : Nat) (acc : List Tg) (G : List Nat) (w : World) : Prop where
  fn : w.heap[fb]? = some (fnO f)
  win : w.heap[wb]? = some (B4 c0 c1 c2 c3)
  row : ∃ sv, w.heap[ib]? = some (idsO sv) ∧ w.ownsRow 0 3 1 sv (acc.filter fits).length (ints ((acc.filter fits).map (·.id))) ∧ G = ib :: sv.ownBlock.toList

/-- a row lies apart from a block of another type -/
theorem owns_not {w : World} {e T : TypeId} {v : Value} {n p : Nat} {xs : List Value} {cs : Array Value} {fr : Nat × Nat} (h : w.ownsRow 0 e 1 v n xs) (hp : w.heap[p]? = some (.cells cs T fr)) (hT : T ≠ e) : p ∉ v.ownBlock.toList := fun hx => by
  rcases h.2 with ⟨rfl, _⟩ | ⟨g, cap, cur, rfl, hb, hg, _⟩
  · simp [Value.ownBlock] at hx
  · simp [Value.ownBlock] at hx
    subst hx
    rw [hg] at hp
    simp at hp
    exact hT hp.2.1.symm

theorem FindS.keep {f : FuncId} {c0 c1 c2 c3 : Int} {fits : Tg → Bool} {fb wb ib : Nat} {acc : List Tg} {G : List Nat} {w w' : World} (h : FindS f c0 c1 c2 c3 fits fb wb ib acc G w) (hm : Mod [] w w') : FindS f c0 c1 c2 c3 fits fb wb ib acc G w' := by
  obtain ⟨sv, h1, h2, h3⟩ := h.row
  exact ⟨(hm.block _ (lt_of_block h.fn) (by simp)).trans h.fn, (hm.block _ (lt_of_block h.win) (by simp)).trans h.win, sv, (hm.block _ (lt_of_block h1) (by simp)).trans h1, owns_kept h2 hm (by simp), h3⟩

theorem FindS.lt {f : FuncId} {c0 c1 c2 c3 : Int} {fits : Tg → Bool} {fb wb ib : Nat} {acc : List Tg} {G : List Nat} {w : World} (h : FindS f c0 c1 c2 c3 fits fb wb ib acc G w) : ∀ x ∈ G, x < w.heap.size := by
  obtain ⟨sv, h1, h2, rfl⟩ := h.row
  intro x hx
  rcases List.mem_cons.1 hx with rfl | hx
  · exact lt_of_block h1
  · exact owns_lt h2 (by simpa using hx)

theorem FindS.no {f : FuncId} {c0 c1 c2 c3 : Int} {fits : Tg → Bool} {fb wb ib : Nat} {acc : List Tg} {G : List Nat} {w w' : World} {t : Tg} (h : FindS f c0 c1 c2 c3 fits fb wb ib acc G w) (hm : Mod [] w w') (hf : fits t = false) : VisPost (FindS f c0 c1 c2 c3 fits fb wb ib) (acc ++ [t]) G w (.returned (.tuple #[])) w' := by
  have h' := h.keep hm
  have e : (acc ++ [t]).filter fits = acc.filter fits := by simp [hf]
  refine ⟨rfl, G, ⟨h'.fn, h'.win, ?_⟩, fun x hx => .inl hx, hm.nil⟩
  rw [e]
  exact h'.row

theorem FindS.yes {f : FuncId} {c0 c1 c2 c3 : Int} {fits : Tg → Bool} {fb wb ib : Nat} {acc : List Tg} {w w' : World} {t : Tg} {sv : Value} {e : Ending} (h : FindS f c0 c1 c2 c3 fits fb wb ib acc (ib :: sv.ownBlock.toList) w) (h1 : w.heap[ib]? = some (idsO sv)) (h2 : w.ownsRow 0 3 1 sv (acc.filter fits).length (ints ((acc.filter fits).map (·.id))))
    (hp : AddPost ib sv (acc.filter fits).length ((acc.filter fits).map (·.id)) t.id w e w') (hf : fits t = true) : VisPost (FindS f c0 c1 c2 c3 fits fb wb ib) (acc ++ [t]) (ib :: sv.ownBlock.toList) w e w' := by
  obtain ⟨rfl, sv', k1, k2, k3, k4⟩ := hp
  have e : (acc ++ [t]).filter fits = acc.filter fits ++ [t] := by simp [hf]
  have n1 : fb ∉ ib :: sv.ownBlock.toList := fun hx => by
    rcases List.mem_cons.1 hx with e | hx
    · have := h.fn
      rw [e, h1] at this
      simp at this
    · exact owns_not h2 h.fn (by decide) hx
  have n2 : wb ∉ ib :: sv.ownBlock.toList := fun hx => by
    rcases List.mem_cons.1 hx with e | hx
    · have := h.win
      rw [e, h1] at this
      simp at this
    · exact owns_not h2 h.win (by decide) hx
  refine ⟨rfl, ib :: sv'.ownBlock.toList, ⟨(k4.block _ (lt_of_block h.fn) n1).trans h.fn, (k4.block _ (lt_of_block h.win) n2).trans h.win, sv', k1, ?_, rfl⟩, fun x hx => ?_, k4⟩
  · rw [e]
    simpa using k2
  · rcases List.mem_cons.1 hx with rfl | hx
    · exact .inl (by simp)
    · rcases k3 x hx with hx | hx
      · exact .inl (by simp [hx])
      · exact .inr hx

theorem viewer_meet (c0 c1 c2 c3 : Int) (fb wb ib : Nat) : Viewer 134 #[.pointer (some ⟨fb, 0, none⟩), .pointer (some ⟨wb, 0, none⟩), .pointer (some ⟨ib, 0, none⟩)] (FindS 71 c0 c1 c2 c3 (fun t => meetI c0 c1 c2 c3 t.x0 t.y0 t.x1 t.y1) fb wb ib) where
  enters := enters_of Tryz.func134 (by kernel_rfl) rfl
  sees := fun acc G t w hac h ht htG => by
    cases hfit : meetI c0 c1 c2 c3 t.x0 t.y0 t.x1 t.y1 with
    | false =>
      refine (find1_meet_false h.fn h.win ht hfit).mono ?_
      rintro e w' ⟨rfl, hm⟩
      exact h.no hm hfit
    | true =>
      obtain ⟨sv, h1, h2, rfl⟩ := h.row
      have hl := List.length_filter_le (fun t : Tg => meetI c0 c1 c2 c3 t.x0 t.y0 t.x1 t.y1) acc
      exact (find1_meet_true h.fn h.win ht hfit h1 h2 (by omega) (owns_not h2 h1 (by decide))).mono fun e w' hp => h.yes h1 h2 hp hfit
  keep := fun acc G w w' h hm => h.keep hm
  lt := fun acc G w h => h.lt

theorem viewer_holds (c0 c1 c2 c3 : Int) (fb wb ib : Nat) : Viewer 134 #[.pointer (some ⟨fb, 0, none⟩), .pointer (some ⟨wb, 0, none⟩), .pointer (some ⟨ib, 0, none⟩)] (FindS 101 c0 c1 c2 c3 (fun t => holdI c0 c1 c2 c3 t.x0 t.y0 t.x1 t.y1) fb wb ib) where
  enters := enters_of Tryz.func134 (by kernel_rfl) rfl
  sees := fun acc G t w hac h ht htG => by
    cases hfit : holdI c0 c1 c2 c3 t.x0 t.y0 t.x1 t.y1 with
    | false =>
      refine (find1_holds_false h.fn h.win ht hfit).mono ?_
      rintro e w' ⟨rfl, hm⟩
      exact h.no hm hfit
    | true =>
      obtain ⟨sv, h1, h2, rfl⟩ := h.row
      have hl := List.length_filter_le (fun t : Tg => holdI c0 c1 c2 c3 t.x0 t.y0 t.x1 t.y1) acc
      exact (find1_holds_true h.fn h.win ht hfit h1 h2 (by omega) (owns_not h2 h1 (by decide))).mono fun e w' hp => h.yes h1 h2 hp hfit
  keep := fun acc G w w' h hm => h.keep hm
  lt := fun acc G w h => h.lt

/-! ### find -/
def FindPost (xs : List Int) (w : World) (e : Ending) (w' : World) : Prop := ∃ v, e = .returned v ∧ w'.ownsRow 0 3 1 v xs.length (ints xs) ∧ (∀ x ∈ v.ownBlock.toList, w.heap.size ≤ x) ∧ Mod [] w w'

/-- the end of find: behind the visit, sorted -/
theorem findEnd {ib : Nat} {xs : List Int} {w0 w4 w5 w6 : World} {sv : Value} {e : Ending} (hm0 : Mod [] w0 w4) (hib : w0.heap.size ≤ ib) (hne : ib ∉ sv.ownBlock.toList) (hG : ∀ x ∈ ib :: sv.ownBlock.toList, x ∈ [ib] ∨ w4.heap.size ≤ x) (hm5 : Mod [ib] w4 w5)
    (h : SortIPost sv xs.length xs w5 e w6) : FindPost (sortI xs) w0 (.returned sv) w6 := by
  obtain ⟨_, h1, h2⟩ := h
  have hs := hm0.size
  have hown : ∀ x ∈ sv.ownBlock.toList, w0.heap.size ≤ x := fun x hx => by
    rcases hG x (by simp [hx]) with h | h
    · simp at h
      exact absurd (h ▸ hx) hne
    · omega
  have hm5' : Mod [] w0 w5 := hm0.then hm5 (fun x hx => .inr (by simp at hx; omega))
  refine ⟨sv, rfl, ?_, hown, hm5'.then h2 (fun x hx => .inr (hown x hx))⟩
  rw [sortI_length]
  exact h1

end Go.Proofs.YthimaoipogocfaaGreat

namespace Go.Proofs.YthimaoipogocfaaGreat
open Go.RowKit
attribute [local go_sem] run_store_f32 run_neg_inf

/-- find's three blocks -/
abbrev findW (w : World) (f : FuncId) (c0 c1 c2 c3 : Int) : World := ((w.alloc (B4 c0 c1 c2 c3)).alloc (fnO f)).alloc (idsO (.slice none 0 0))

theorem findW_mod (w : World) (f : FuncId) (c0 c1 c2 c3 : Int) : Mod [] w (findW w f c0 c1 c2 c3) := ((Mod.alloc _ _).trans (Mod.alloc _ _)).trans (Mod.alloc _ _)

theorem findW_start (w : World) (f : FuncId) (c0 c1 c2 c3 : Int) (fits : Tg → Bool) : FindS f c0 c1 c2 c3 fits (w.heap.size + 1) w.heap.size (w.heap.size + 2) [] [w.heap.size + 2] (findW w f c0 c1 c2 c3) := by
  have hm1 : Mod [] (w.alloc (B4 c0 c1 c2 c3)) (findW w f c0 c1 c2 c3) := (Mod.alloc _ _).trans (Mod.alloc _ _)
  have hm2 : Mod [] ((w.alloc (B4 c0 c1 c2 c3)).alloc (fnO f)) (findW w f c0 c1 c2 c3) := Mod.alloc _ _
  have h1 := heap_alloc_new w (B4 c0 c1 c2 c3)
  have h2 := heap_alloc_new (w.alloc (B4 c0 c1 c2 c3)) (fnO f)
  have h3 := heap_alloc_new ((w.alloc (B4 c0 c1 c2 c3)).alloc (fnO f)) (idsO (.slice none 0 0))
  have e1 : (w.alloc (B4 c0 c1 c2 c3)).heap.size = w.heap.size + 1 := by simp
  have e2 : ((w.alloc (B4 c0 c1 c2 c3)).alloc (fnO f)).heap.size = w.heap.size + 2 := by simp
  rw [e1] at h2
  rw [e2] at h3
  exact ⟨(hm2.block _ (by omega) (by simp)).trans h2, (hm1.block _ (by omega) (by simp)).trans h1, .slice none 0 0, h3, ⟨rfl, .inl ⟨rfl, rfl⟩⟩, rfl⟩

set_option maxRecDepth 100000 in
set_option maxHeartbeats 2000000 in
theorem find_any {w : World} {f : FuncId} {c0 c1 c2 c3 : Int} {fits : Tg → Bool} (V : ∀ fb wb ib, Viewer 134 #[.pointer (some ⟨fb, 0, none⟩), .pointer (some ⟨wb, 0, none⟩), .pointer (some ⟨ib, 0, none⟩)] (FindS f c0 c1 c2 c3 fits fb wb ib)) (hr : RectOk c0 c1 c2 c3)
    {p fan : Nat} {ts : List Tg} {bm : Nat} {es : Array MapEntry} {clock h : Nat} {k : Kd} (ht : TreeAt w p fan ts bm es clock h k) (hn : ts.length ≤ 1000) :
    Calls Tryz.prog 100 #[.pointer (some ⟨p, 0, none⟩), R4 c0 c1 c2 c3, .func (.func f) #[] #[]] w (FindPost (sortI (((shown (Bx.of c0 c1 c2 c3) k.ts).filter fits).map (·.id))) w) := by
  have hm0 := findW_mod w f c0 c1 c2 c3
  have hS0 := findW_start w f c0 c1 c2 c3 fits
  have ht0 := ht.kept hm0 (by simp)
  have hlt := ht.node.lt
  have hlen := ht.perm.length_eq
  have y1 := (cell_trO ht0.here).2.1
  obtain ⟨z0, z1, z2, z3⟩ := cellsB4 hS0.win
  have HVIS := hideIt (show ∀ W, Mod [] (findW w f c0 c1 c2 c3) W → Calls Tryz.prog 68 #[.pointer (some ⟨k.p, 0, none⟩), bxV (Bx.of c0 c1 c2 c3), .func (.func 134) #[] #[.pointer (some ⟨w.heap.size + 1, 0, none⟩), .pointer (some ⟨w.heap.size, 0, none⟩), .pointer (some ⟨w.heap.size + 2, 0, none⟩)]] W (VisPost (FindS f c0 c1 c2 c3 fits (w.heap.size + 1) w.heap.size (w.heap.size + 2)) (shown (Bx.of c0 c1 c2 c3) k.ts) [w.heap.size + 2] W) from fun W hm =>
    visit_any (V _ _ _) (Bx.of_ok hr).num h W k [] [w.heap.size + 2] (ht0.node.kept hm (by simp)) (hS0.keep hm) (fun x hx he => by
      have := hlt x hx
      simp at he
      omega) (by simp; omega))
  have HR := hideIt hr
  have HM0 := hideIt hm0
  have hsh : ((shown (Bx.of c0 c1 c2 c3) k.ts).filter fits).length ≤ 1000 := by
    have h1 := List.length_filter_le fits (shown (Bx.of c0 c1 c2 c3) k.ts)
    have h2 := List.length_filter_le (fun t : Tg => t.bx.meets (Bx.of c0 c1 c2 c3)) k.ts
    unfold shown at *
    omega
  have HSH := hideIt hsh
  generalize shown (Bx.of c0 c1 c2 c3) k.ts = vs at *
  clear V hr ht hn hm0 hS0 ht0 hlt hlen hsh
  go_enter Tryz.func100, Tryz.ntmps100
  go_wp2_with fail
  have y1d := cell_mod (Mod.drew (findW w f c0 c1 c2 c3)) y1
  go_region_with (first
    | (go_at_call 65; refine (boxOf_any HR.out _).mono ?_; rintro e w4 ⟨rfl, hm4⟩; have x1 := cell_mod hm4 y1d)
    | (go_at_call 68; refine (HVIS.out _ ((Mod.drew _).trans hm4)).mono ?_; rintro e w5 ⟨rfl, G', hS5, hG5, hm5⟩))
  all_goals
    obtain ⟨sv, k1, k2, rfl⟩ := hS5.row
    have i5 := cell_idsO k1
    have hne := owns_not k2 k1 (by decide)
    have HSORT := hideIt (sort_any k2 (by have := HSH.out; omega))
    have HX := hideIt (And.intro hG5 (And.intro hm5 (And.intro hm4 hne)))
    have I5 := hideIt i5
    clear hS5 k1 k2 hG5 hm5 hm4 hne y1 y1d x1 z0 z1 z2 z3
    go_wp2_with fail
    refine HSORT.out.mono ?_
    intro e w6 h6
    obtain ⟨hG5, hm5, hm4, hne⟩ := HX.out
    have hfin := findEnd (HM0.out.trans ((Mod.drew _).trans hm4)) (by omega) hne hG5 hm5 (xs := (vs.filter fits).map (·.id)) (by simpa using h6)
    have i6 := cell_modG h6.2.2 hne I5.out
    obtain rfl := h6.1
    have HF := hideIt hfin
    clear hfin h6 hG5 hm5 hm4 hne HX i5 I5 HSORT
    go_wp2
    go_ret
    exact HF.out

end Go.Proofs.YthimaoipogocfaaGreat

namespace Go.Proofs.YthimaoipogocfaaGreat
open Go.RowKit Go.Maps
attribute [local go_sem] run_store_f32 run_neg_inf

theorem sortI_pairwise (l : List Int) : (sortI l).Pairwise (· ≤ ·) := by
  have := List.pairwise_mergeSort (le := fun x y : Int => decide (x ≤ y)) (fun a b c h1 h2 => by simp at *; omega) (fun a b => by simp; omega) l
  simpa [sortI] using this
theorem sortI_congr {l m : List Int} (h : l.Perm m) : sortI l = sortI m :=
  List.Perm.eq_of_pairwise (le := (· ≤ ·)) (fun a b _ _ h1 h2 => by omega) (sortI_pairwise l) (sortI_pairwise m) (((sortI_perm l).trans h).trans (sortI_perm m).symm)
theorem sortI_mem {l : List Int} {x : Int} : x ∈ sortI l ↔ x ∈ l := (sortI_perm l).mem_iff

/-- what is told of things -/
def foundG (fits : Tg → Bool) (ts : List Tg) : List Int := sortI ((ts.filter fits).map (·.id))
def meetG (c0 c1 c2 c3 : Int) (t : Tg) : Bool := meetI c0 c1 c2 c3 t.x0 t.y0 t.x1 t.y1
def holdG (c0 c1 c2 c3 : Int) (t : Tg) : Bool := holdI c0 c1 c2 c3 t.x0 t.y0 t.x1 t.y1
theorem foundG_len (fits : Tg → Bool) (ts : List Tg) : (foundG fits ts).length ≤ ts.length := by
  unfold foundG
  rw [sortI_length, List.length_map]
  exact List.length_filter_le _ _

theorem found_eq {w : World} {fan lo h : Nat} {k : Kd} {ts : List Tg} {c0 c1 c2 c3 : Int} (hn : NodeAt w fan lo h k) (hp : k.ts.Perm ts) (hr : RectOk c0 c1 c2 c3) {fits : Tg → Bool} (hf : ∀ t : Tg, RectOk t.x0 t.y0 t.x1 t.y1 → fits t = true → meetI c0 c1 c2 c3 t.x0 t.y0 t.x1 t.y1 = true) :
    sortI (((shown (Bx.of c0 c1 c2 c3) k.ts).filter fits).map (·.id)) = foundG fits ts := by
  have e : (shown (Bx.of c0 c1 c2 c3) k.ts).filter fits = k.ts.filter fits := by
    unfold shown
    rw [List.filter_filter]
    refine List.filter_congr (fun t ht => ?_)
    cases hft : fits t with
    | false => rfl
    | true =>
      have hrt := (hn.thing t ht).1.rect
      obtain ⟨m1, m2, m3, m4⟩ := meetI_iff.1 (hf t hrt hft)
      have : t.bx.meets (Bx.of c0 c1 c2 c3) = true := Bx.of_meets hrt hr m2 m1 m4 m3
      rw [this]
      rfl
  rw [e]
  exact sortI_congr ((hp.filter fits).map _)

theorem hold_meet {c0 c1 c2 c3 : Int} {t : Tg} (hr : RectOk t.x0 t.y0 t.x1 t.y1) (h : holdG c0 c1 c2 c3 t = true) : meetI c0 c1 c2 c3 t.x0 t.y0 t.x1 t.y1 = true := by
  obtain ⟨h1, h2, h3, h4⟩ := holdI_iff.1 h
  unfold RectOk at hr
  exact meetI_iff.2 (by omega)

theorem FindPost.from {xs : List Int} {w w1 w' : World} {e : Ending} (h : FindPost xs w1 e w') (hm : Mod [] w w1) : FindPost xs w e w' := by
  obtain ⟨v, h1, h2, h3, h4⟩ := h
  have := hm.size
  exact ⟨v, h1, h2, fun x hx => Nat.le_trans this (h3 x hx), hm.trans h4⟩

set_option maxRecDepth 100000 in
theorem bMeeting_any {w : World} {p fan : Nat} {ts : List Tg} {F : List Nat} (ht : TreeRep w p fan ts F) {c0 c1 c2 c3 : Int} (hr : RectOk c0 c1 c2 c3) (hn : ts.length ≤ 1000) :
    Calls Tryz.prog 63 #[.pointer (some ⟨p, 0, none⟩), R4 c0 c1 c2 c3] w (FindPost (foundG (meetG c0 c1 c2 c3) ts) w) := by
  have hm0 : Mod [] w (w.alloc (B4 c0 c1 c2 c3)) := Mod.alloc _ _
  obtain ⟨bm, es, clock, h, k, ht0, rfl⟩ := ht.kept hm0 (by simp)
  have hcall := find_any (viewer_meet c0 c1 c2 c3) hr ht0 hn
  have e := found_eq ht0.node ht0.perm hr (fits := meetG c0 c1 c2 c3) (fun _ _ hft => hft)
  have HF := hideIt (show Calls Tryz.prog 100 #[.pointer (some ⟨p, 0, none⟩), R4 c0 c1 c2 c3, .func (.func 71) #[] #[]] (w.alloc (B4 c0 c1 c2 c3)) (FindPost (foundG (meetG c0 c1 c2 c3) ts) (w.alloc (B4 c0 c1 c2 c3))) from by rw [← e]; exact hcall)
  have HM := hideIt hm0
  clear hm0 ht0 hcall e ht hr hn
  go_enter Tryz.func63, Tryz.ntmps63
  go_wp2_with fail
  refine HF.out.mono ?_
  intro e w1 h1
  have h2 := h1.from HM.out
  obtain ⟨v, rfl, _⟩ := h1
  have HP := hideIt h2
  clear h2
  go_wp2
  go_ret
  exact HP.out

set_option maxRecDepth 100000 in
theorem bWithin_any {w : World} {p fan : Nat} {ts : List Tg} {F : List Nat} (ht : TreeRep w p fan ts F) {c0 c1 c2 c3 : Int} (hr : RectOk c0 c1 c2 c3) (hn : ts.length ≤ 1000) :
    Calls Tryz.prog 64 #[.pointer (some ⟨p, 0, none⟩), R4 c0 c1 c2 c3] w (FindPost (foundG (holdG c0 c1 c2 c3) ts) w) := by
  have hm0 : Mod [] w (w.alloc (B4 c0 c1 c2 c3)) := Mod.alloc _ _
  obtain ⟨bm, es, clock, h, k, ht0, rfl⟩ := ht.kept hm0 (by simp)
  have hcall := find_any (viewer_holds c0 c1 c2 c3) hr ht0 hn
  have e := found_eq ht0.node ht0.perm hr (fits := holdG c0 c1 c2 c3) (fun _ hrt hft => hold_meet hrt hft)
  have HF := hideIt (show Calls Tryz.prog 100 #[.pointer (some ⟨p, 0, none⟩), R4 c0 c1 c2 c3, .func (.func 101) #[] #[]] (w.alloc (B4 c0 c1 c2 c3)) (FindPost (foundG (holdG c0 c1 c2 c3) ts) (w.alloc (B4 c0 c1 c2 c3))) from by rw [← e]; exact hcall)
  have HM := hideIt hm0
  clear hm0 ht0 hcall e ht hr hn
  go_enter Tryz.func64, Tryz.ntmps64
  go_wp2_with fail
  refine HF.out.mono ?_
  intro e w1 h1
  have h2 := h1.from HM.out
  obtain ⟨v, rfl, _⟩ := h1
  have HP := hideIt h2
  clear h2
  go_wp2
  go_ret
  exact HP.out

/-! ### package hedgerow -/
def HFindPost (xs : List Int) (w : World) (e : Ending) (w' : World) : Prop := ∃ v, e = .returned (.tuple #[v, .int .i64 0]) ∧ w'.ownsRow 0 3 1 v xs.length (ints xs) ∧ (∀ x ∈ v.ownBlock.toList, w.heap.size ≤ x) ∧ Mod [] w w'

set_option maxRecDepth 100000 in
theorem hMeets_bad (q : Nat) (w : World) {c0 c1 c2 c3 : Int} (hr : rectB c0 c1 c2 c3 = false) :
    Calls Tryz.prog 36 #[.pointer (some ⟨q, 0, none⟩), R4 c0 c1 c2 c3] w fun e w' => e = .returned (.tuple #[.slice none 0 0, .int .i64 2]) ∧ Mod [] w w' := by
  go_enter Tryz.func36, Tryz.ntmps36
  go_wp2_with fail
  refine (isRect_any _ _ _ _ _).mono ?_
  rw [hr]
  rintro e w1 ⟨rfl, hw⟩
  obtain rfl := hw.symm
  go_wp2
  go_ret2
  exact ⟨rfl, (Mod.alloc _ _).trans (Mod.alloc _ _)⟩

set_option maxRecDepth 100000 in
set_option maxHeartbeats 400000 in
theorem hMeets_good {w : World} {q fan : Nat} {ts : List Tg} {lg : List Int} {F : List Nat} (h : HRep w q fan ts lg F) {c0 c1 c2 c3 : Int} (hr : RectOk c0 c1 c2 c3) (hn : ts.length ≤ 1000) :
    Calls Tryz.prog 36 #[.pointer (some ⟨q, 0, none⟩), R4 c0 c1 c2 c3] w (HFindPost (foundG (meetG c0 c1 c2 c3) ts) w) := by
  have hm0 : Mod [] w ((w.alloc (B4 c0 c1 c2 c3)).alloc (B4 c0 c1 c2 c3)) := (Mod.alloc _ _).trans (Mod.alloc _ _)
  obtain ⟨p, lv, F0, h1, h2, -, -, -, -, rfl⟩ := h.kept hm0 (by simp)
  have c := cell_hO h1
  have cd := cell_mod (Mod.drew _) c
  have hz0 : ((w.alloc (B4 c0 c1 c2 c3)).alloc (B4 c0 c1 c2 c3)).heap[w.heap.size]? = some (B4 c0 c1 c2 c3) := by
    rw [Below.heap_alloc _ _ _ (by simp)]
    exact heap_alloc_new w _
  obtain ⟨z0, z1, z2, z3⟩ := cellsB4 hz0
  have hrb := rectOk_B hr
  have HF := hideIt (fun W (hW : Mod [] ((w.alloc (B4 c0 c1 c2 c3)).alloc (B4 c0 c1 c2 c3)) W) => bMeeting_any (h2.kept hW (by simp)) hr hn)
  have HM := hideIt hm0
  clear hm0 h1 h2 hr hn hz0 h
  go_enter Tryz.func36, Tryz.ntmps36
  go_wp2_with fail
  refine (isRect_any _ _ _ _ _).mono ?_
  rw [hrb]
  rintro e w1 ⟨rfl, hw⟩
  obtain rfl := hw.symm
  clear hw
  go_wp2_with fail
  go_region_with (go_at_call 63; refine (HF.out _ (Mod.drew _)).mono ?_; rintro e w3 ⟨v, rfl, k1, k2, k3⟩)
  all_goals
    have hfin : HFindPost (foundG (meetG c0 c1 c2 c3) ts) w (.returned (.tuple #[v, .int .i64 0])) w3 := by
      have hs := HM.out.size
      exact ⟨v, rfl, k1, fun x hx => Nat.le_trans hs (k2 x hx), HM.out.trans ((Mod.drew _).trans k3)⟩
    have HP := hideIt hfin
    clear hfin k1 k2 k3 z0 z1 z2 z3 c cd
    go_wp2
    go_ret2
    exact HP.out

set_option maxRecDepth 100000 in
theorem hWithin_bad (q : Nat) (w : World) {c0 c1 c2 c3 : Int} (hr : rectB c0 c1 c2 c3 = false) :
    Calls Tryz.prog 38 #[.pointer (some ⟨q, 0, none⟩), R4 c0 c1 c2 c3] w fun e w' => e = .returned (.tuple #[.slice none 0 0, .int .i64 2]) ∧ Mod [] w w' := by
  go_enter Tryz.func38, Tryz.ntmps38
  go_wp2_with fail
  refine (isRect_any _ _ _ _ _).mono ?_
  rw [hr]
  rintro e w1 ⟨rfl, hw⟩
  obtain rfl := hw.symm
  go_wp2
  go_ret2
  exact ⟨rfl, (Mod.alloc _ _).trans (Mod.alloc _ _)⟩

set_option maxRecDepth 100000 in
set_option maxHeartbeats 400000 in
theorem hWithin_good {w : World} {q fan : Nat} {ts : List Tg} {lg : List Int} {F : List Nat} (h : HRep w q fan ts lg F) {c0 c1 c2 c3 : Int} (hr : RectOk c0 c1 c2 c3) (hn : ts.length ≤ 1000) :
    Calls Tryz.prog 38 #[.pointer (some ⟨q, 0, none⟩), R4 c0 c1 c2 c3] w (HFindPost (foundG (holdG c0 c1 c2 c3) ts) w) := by
  have hm0 : Mod [] w ((w.alloc (B4 c0 c1 c2 c3)).alloc (B4 c0 c1 c2 c3)) := (Mod.alloc _ _).trans (Mod.alloc _ _)
  obtain ⟨p, lv, F0, h1, h2, -, -, -, -, rfl⟩ := h.kept hm0 (by simp)
  have c := cell_hO h1
  have cd := cell_mod (Mod.drew _) c
  have hz0 : ((w.alloc (B4 c0 c1 c2 c3)).alloc (B4 c0 c1 c2 c3)).heap[w.heap.size]? = some (B4 c0 c1 c2 c3) := by
    rw [Below.heap_alloc _ _ _ (by simp)]
    exact heap_alloc_new w _
  obtain ⟨z0, z1, z2, z3⟩ := cellsB4 hz0
  have hrb := rectOk_B hr
  have HF := hideIt (fun W (hW : Mod [] ((w.alloc (B4 c0 c1 c2 c3)).alloc (B4 c0 c1 c2 c3)) W) => bWithin_any (h2.kept hW (by simp)) hr hn)
  have HM := hideIt hm0
  clear hm0 h1 h2 hr hn hz0 h
  go_enter Tryz.func38, Tryz.ntmps38
  go_wp2_with fail
  refine (isRect_any _ _ _ _ _).mono ?_
  rw [hrb]
  rintro e w1 ⟨rfl, hw⟩
  obtain rfl := hw.symm
  clear hw
  go_wp2_with fail
  go_region_with (go_at_call 64; refine (HF.out _ (Mod.drew _)).mono ?_; rintro e w3 ⟨v, rfl, k1, k2, k3⟩)
  all_goals
    have hfin : HFindPost (foundG (holdG c0 c1 c2 c3) ts) w (.returned (.tuple #[v, .int .i64 0])) w3 := by
      have hs := HM.out.size
      exact ⟨v, rfl, k1, fun x hx => Nat.le_trans hs (k2 x hx), HM.out.trans ((Mod.drew _).trans k3)⟩
    have HP := hideIt hfin
    clear hfin k1 k2 k3 z0 z1 z2 z3 c cd
    go_wp2
    go_ret2
    exact HP.out

end Go.Proofs.YthimaoipogocfaaGreat

