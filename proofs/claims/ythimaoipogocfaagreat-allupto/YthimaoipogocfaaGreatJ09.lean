import Derived.Test.YthimaoipogocfaaGreatJ08
namespace Go.Proofs.YthimaoipogocfaaGreat
open Go.RowKit
attribute [local go_sem] run_store_f32 run_neg_inf

def PutRes (fan lo h : Nat) (k : Kd) (t : Tg) (w : World) (v : Value) (w' : World) : Prop :=
  (v = .pointer none ∧ ∃ k1, NodeAt w' fan lo h k1 ∧ k1.p = k.p ∧ k1.ts.Perm (t :: k.ts) ∧ k.n ≤ k1.n ∧ k1.n ≤ fan ∧ ∀ x ∈ k1.F, x ∈ k.F ∨ x = t.blk ∨ w.heap.size ≤ x) ∨
  (∃ k1 k2, v = .pointer (some ⟨k2.p, 0, none⟩) ∧ NodeAt w' fan lo h k1 ∧ NodeAt w' fan lo h k2 ∧ k1.p = k.p ∧ (k1.ts ++ k2.ts).Perm (t :: k.ts) ∧ lo ≤ k1.n ∧ lo ≤ k2.n ∧ k1.n ≤ fan ∧ k2.n ≤ fan ∧ (k1.F ++ k2.F).Nodup ∧ ∀ x ∈ k1.F ++ k2.F, x ∈ k.F ∨ x = t.blk ∨ w.heap.size ≤ x)
def PutPost (fan lo h : Nat) (k : Kd) (t : Tg) (w : World) (e : Ending) (w' : World) : Prop := ∃ v, e = .returned v ∧ PutRes fan lo h k t w v w' ∧ Mod k.F w w'

/-- what cut gives, as what put gives -/
theorem PutRes.of_cut {fan lo h : Nat} {k kk : Kd} {t : Tg} {w w5 : World} {e : Ending} {w' : World} (hc : CutPost2 fan lo h kk w5 e w') (hk : NodeAt w5 fan lo h kk) (hp : kk.p = k.p) (hts : kk.ts.Perm (t :: k.ts)) (hn : k.n ≤ kk.n) (hn2 : kk.n ≤ fan + lo)
    (hF : ∀ x ∈ kk.F, x ∈ k.F ∨ x = t.blk ∨ w.heap.size ≤ x) (hkp : k.p ∈ k.F) (hm : Mod k.F w w5) : PutPost fan lo h k t w e w' := by
  rcases hc with ⟨h1, rfl, hm2⟩ | ⟨h1, k1, k2, rfl, a1, a2, a3, a4, a5, a6, a7, a8, a9, hm2⟩
  · exact ⟨_, rfl, .inl ⟨rfl, kk, hk.kept hm2 (by simp), hp, hts, hn, h1, hF⟩, hm.trans hm2.nil⟩
  · refine ⟨_, rfl, .inr ⟨k1, k2, rfl, a1, a2, a3.trans hp, a4.trans hts, a5, a6, by omega, by omega, a8, fun x hx => ?_⟩, hm.trans (hm2.mono (by simpa [hp] using hkp))⟩
    rcases a9 x hx with h | h
    · exact hF x h
    · have := hm.size
      exact .inr (.inr (by omega))

theorem TgAt.cells {w : World} {t : Tg} (h : TgAt w t) : Cells4 w t.blk t.bx := cell_bxC h.here

/-- the node's box grows ahead of all: as the first statement leaves the world -/
structure Grown (w w1 : World) (k : Kd) (t : Tg) (tv bv : Value) : Prop where
  m : Mod [k.p] w w1
  here : w1.heap[k.p]? = some (ndO (k.bx.grow t.bx) tv bv)

theorem tblks_append (a b : List Tg) : tblks (a ++ b) = tblks a ++ tblks b := by simp [tblks]
theorem ptrs_append (a b : List Nat) : ptrs (a ++ b) = ptrs a ++ ptrs b := by simp [ptrs]

theorem putLeafMid {w w1 w5 : World} {k : Kd} {t : Tg} {tv : Value} {g5 c5 : Nat} (hl : LeafAt w k tv) (ht : TgAt w t) (htF : t.blk ∉ k.F) (hg : Grown w w1 k t tv (.slice none 0 0)) (hm : Mod tv.ownBlock.toList w1 w5)
    (ho : w5.ownsRow 0 113 1 (.slice (some ⟨g5, 0, none⟩) (k.n + 1) c5) (k.n + 1) (catL (ptrs (tblks k.ts)) (ptrs [t.blk]))) (hat : tv.ownBlock = some g5 ∨ g5 = w1.heap.size + 1)
    (hp : (w5.setCell ⟨k.p, 4, none⟩ (.slice (some ⟨g5, 0, none⟩) (k.n + 1) c5)).heap[k.p]? = some (ndO (k.bx.grow t.bx) (.slice (some ⟨g5, 0, none⟩) (k.n + 1) c5) (.slice none 0 0))) :
    LeafAt (w5.setCell ⟨k.p, 4, none⟩ (.slice (some ⟨g5, 0, none⟩) (k.n + 1) c5)) ⟨k.p, k.bx.grow t.bx, k.ts ++ [t], k.p :: (g5 :: tblks (k.ts ++ [t])), k.n + 1⟩ (.slice (some ⟨g5, 0, none⟩) (k.n + 1) c5) ∧ (k.ts ++ [t]).Perm (t :: k.ts) ∧
    (∀ x ∈ k.p :: (g5 :: tblks (k.ts ++ [t])), x ∈ k.F ∨ x = t.blk ∨ w.heap.size ≤ x) ∧ Mod k.F w (w5.setCell ⟨k.p, 4, none⟩ (.slice (some ⟨g5, 0, none⟩) (k.n + 1) c5)) := by
  have hF := hl.foot
  have hnd := hl.ok.nodup
  rw [hF] at hnd
  have hsep := List.nodup_cons.1 hnd
  have hs2 := List.nodup_append.1 hsep.2
  have hkp : k.p ∈ k.F := by rw [hF]; simp
  have hown : ∀ x ∈ tv.ownBlock.toList, x ∈ k.F := fun x hx => by rw [hF]; exact List.mem_cons_of_mem _ (List.mem_append_left _ hx)
  have htb : ∀ x ∈ tblks k.ts, x ∈ k.F := fun x hx => by rw [hF]; exact List.mem_cons_of_mem _ (List.mem_append_right _ hx)
  have hz1 := hg.m.size
  have hg5 : g5 ∈ tv.ownBlock.toList ∨ w.heap.size ≤ g5 := by
    rcases hat with h | h
    · exact .inl (by rw [h]; simp)
    · exact .inr (by omega)
  have hg5p : g5 ≠ k.p := by
    rcases hg5 with h | h
    · exact fun e => hsep.1 (List.mem_append_left _ (e ▸ h))
    · have := lt_of_block hl.here; omega
  have hg5t : ∀ x, (x ∈ tblks k.ts ∨ x = t.blk) → g5 ≠ x := fun x hx e => by
    subst e
    rcases hg5 with h | h
    · rcases hx with hx | hx
      · exact hs2.2.2 _ h _ hx rfl
      · exact htF (hx ▸ hown _ h)
    · rcases hx with hx | hx
      · obtain ⟨s, hs, e⟩ := List.mem_map.1 hx
        have := lt_of_block (hl.things s hs).here
        omega
      · have := lt_of_block ht.here
        omega
  have hmF : Mod k.F w (w5.setCell ⟨k.p, 4, none⟩ (.slice (some ⟨g5, 0, none⟩) (k.n + 1) c5)) := ((hg.m.mono (by simpa using hkp)).trans (hm.mono hown)).trans (Mod.setCell _ _ _ hkp)
  have hmG : Mod (k.p :: tv.ownBlock.toList) w (w5.setCell ⟨k.p, 4, none⟩ (.slice (some ⟨g5, 0, none⟩) (k.n + 1) c5)) := ((hg.m.mono (by simp)).trans (hm.mono (by simp +contextual))).trans (Mod.setCell _ _ _ (by simp))
  refine ⟨⟨hp, ?_, ?_, fun s hs => ?_, rfl, ⟨?_, Bx.grow_num hl.ok.num (Bx.of_ok ht.rect).num, fun s hs => ?_, fun _ => ?_, fun e => absurd e (by simp)⟩⟩, List.perm_append_singleton t k.ts, fun x hx => ?_, hmF⟩
  · have := owns_kept ho (Mod.setCell (F := [k.p]) w5 ⟨k.p, 4, none⟩ (.slice (some ⟨g5, 0, none⟩) (k.n + 1) c5) (by simp)) (fun x hx => by simp [Value.ownBlock] at hx; subst hx; simpa using hg5p)
    show World.ownsRow _ 0 _ 1 _ (k.n + 1) (ptrs (tblks (k.ts ++ [t])))
    rw [tblks_append, ptrs_append]
    exact this
  · show (k.ts ++ [t]).length = k.n + 1
    simp [hl.len]
  · rcases List.mem_append.1 hs with hs | hs
    · refine (hl.things s hs).kept hmG ?_
      have hb : s.blk ∈ tblks k.ts := List.mem_map.2 ⟨s, hs, rfl⟩
      simp only [List.mem_cons, not_or]
      exact ⟨fun e => hsep.1 (List.mem_append_right _ (e ▸ hb)), fun h => hs2.2.2 _ h _ hb rfl⟩
    · simp at hs
      subst hs
      refine ht.kept hmG (fun h => htF ?_)
      rcases List.mem_cons.1 h with h | h
      · rw [h]; exact hkp
      · exact hown _ h
  · show (k.p :: (g5 :: tblks (k.ts ++ [t]))).Nodup
    rw [tblks_append]
    simp only [List.nodup_cons, List.mem_cons, not_or, List.mem_append]
    refine ⟨⟨fun e => hg5p e.symm, fun h => hsep.1 (List.mem_append_right _ h), fun h => ?_⟩, ⟨fun h => hg5t _ (.inl h) rfl, fun h => ?_⟩, ?_⟩
    · simp [tblks] at h
      exact htF (h ▸ hkp)
    · simp [tblks] at h
      exact hg5t _ (.inr rfl) h
    · refine List.nodup_append.2 ⟨hs2.2.1, by simp [tblks], fun a ha b hb e => ?_⟩
      simp [tblks] at hb
      subst hb
      exact htF (htb _ (e ▸ ha))
  · rcases List.mem_append.1 hs with hs | hs
    · exact Bx.grow_in (hl.ok.cover s hs)
    · simp at hs
      subst hs
      exact Bx.grow_in' (Bx.In.refl _)
  · by_cases he : k.ts = []
    · have hb := Bx.of_ok ht.rect
      show (k.bx.grow t.bx).Ok
      rw [hl.ok.none he]
      have e2 : Bx.none.grow t.bx = t.bx := Bx.none_grow hb
      rw [e2]
      exact hb
    · exact Bx.grow_ok (hl.ok.ok he) (Bx.of_ok ht.rect)
  · rcases List.mem_cons.1 hx with rfl | hx
    · exact .inl hkp
    rcases List.mem_cons.1 hx with rfl | hx
    · rcases hg5 with h | h
      · exact .inl (hown _ h)
      · exact .inr (.inr h)
    · rw [tblks_append] at hx
      rcases List.mem_append.1 hx with hx | hx
      · exact .inl (htb x hx)
      · simp [tblks] at hx
        exact .inr (.inl hx)

set_option maxRecDepth 100000 in
set_option maxHeartbeats 1000000 in
theorem put_leaf {w : World} {fan : Nat} {k : Kd} {t : Tg} (hk : NodeAt w fan (leastF fan) 0 k) (ht : TgAt w t) (htF : t.blk ∉ k.F) (hn : k.n ≤ fan) (hf4 : 4 ≤ fan) (hf : fan ≤ 16) :
    Calls Tryz.prog 66 #[.pointer (some ⟨k.p, 0, none⟩), .pointer (some ⟨t.blk, 0, none⟩), .int .i64 fan] w (PutPost fan (leastF fan) 0 k t w) := by
  obtain ⟨tv, hl⟩ := hk
  obtain ⟨t0, t1, t2, t3⟩ := ht.cells
  have hkp : k.p ∈ k.F := by rw [hl.foot]; simp
  have hpt : k.p ≠ t.blk := fun e => htF (e ▸ hkp)
  have HL := hideIt hl
  have HT := hideIt ht
  have HTF := hideIt htF
  have HKP := hideIt hkp
  have HNB := hideIt (And.intro hl.ok.num (Bx.of_ok ht.rect).num)
  clear hl ht htF hkp
  go_enter Tryz.func66, Tryz.ntmps66
  go_wp2_with fail
  go_region_held (fun w' => w'.cell? ⟨t.blk, 0, none⟩ = some (.float .f32 t.bx.x0) ∧ w'.cell? ⟨t.blk, 1, none⟩ = some (.float .f32 t.bx.y0) ∧ w'.cell? ⟨t.blk, 2, none⟩ = some (.float .f32 t.bx.x1) ∧ w'.cell? ⟨t.blk, 3, none⟩ = some (.float .f32 t.bx.y1))
    ((first
      | exact ⟨cell_mod (Mod.drew _) (by simp only [*]), cell_mod (Mod.drew _) (by simp only [*]), cell_mod (Mod.drew _) (by simp only [*]), cell_mod (Mod.drew _) (by simp only [*])⟩
      | exact (HT.out.kept hmg.m (by simpa using fun e => hpt e.symm)).cells
      | exact ⟨cell_mod hm (by simp only [*]), cell_mod hm (by simp only [*]), cell_mod hm (by simp only [*]), cell_mod hm (by simp only [*])⟩))
    ((first
      | (go_at_call 69; refine (edges_any ⟨_, _, _, _⟩ _).mono ?_; rintro e w' ⟨rfl, hm⟩)
      | (go_at_call 104; refine (grow_any (b := k.bx) (o := t.bx) (rest := [tv, .slice none 0 0]) (T := 126) ((((Mod.drew w).trans hm).block k.p (lt_of_block HL.out.here) (by simp)).trans HL.out.here) HNB.out.1 HNB.out.2).mono ?_; rintro e w1 ⟨rfl, hmg', hg⟩; have hmg : Grown w w1 k t tv (.slice none 0 0) := ⟨(((Mod.drew w).trans hm).nil).trans hmg', hg⟩)))
  rename_i hheld
  have HG := hideIt hmg
  clear hheld hm hmg' hg hmg t0 t1 t2 t3
  go_wp2_with fail
  refine (isLeaf_nil HG.out.here).mono ?_
  rintro e w3 ⟨rfl, rfl⟩
  have hF := HL.out.foot
  have hnd := HL.out.ok.nodup
  rw [hF] at hnd
  have hsep := List.nodup_cons.1 hnd
  have hpown : ∀ x, tv.ownBlock = some x → x ≠ k.p := fun x hx e => hsep.1 (List.mem_append_left _ (by rw [hx, ← e]; simp))
  have hrow1 := owns_kept HL.out.row HG.out.m (fun x hx => by simpa using hpown x hx)
  obtain ⟨c4, _⟩ := cell_ndO HG.out.here
  have f4 := frozen_of_block HG.out.here 4
  have hplt := lt_of_block HG.out.here
  obtain ⟨i0, hi, hz0, hz1, hz2⟩ := info_partsT infoT
  have hsrc : srcRow (w1.alloc (.cells #[.pointer (some ⟨t.blk, 0, none⟩)] 113)) 1 (.slice (some ⟨w1.heap.size, 0, none⟩) 1 1) 1 (ptrs [t.blk]) :=
    srcRow_of_owns (owns_allocT (w := w1) (cur := #[.pointer (some ⟨t.blk, 0, none⟩)]) (e := 113) (n := 1) (size := 1) rfl (by decide) (base := 0) (Nat.zero_le _)) (ptrs_oneT [t.blk])
  have hown := hrow1.alloc (.cells #[.pointer (some ⟨t.blk, 0, none⟩)] 113)
  have HSRC := hideIt hsrc
  have HOWN := hideIt hown
  have HSEP := hideIt hsep
  have HPO := hideIt hpown
  clear hsrc hown hrow1 hnd hsep hpown hF
  go_wp2_with (at_builtin; refine wpList_append_rows _ rfl _ _ 123 rfl 0 113 i0 (.pointer none) 1 8 Tryz.underlying123 hi hz0 hz1 hz2 rfl (by decide) _ k.n (ptrs (tblks k.ts)) rfl HOWN.out _ 1 (ptrs [t.blk]) rfl HSRC.out (by omega) (by unfold maxLen; omega) (by omega) (by simp) ?_)
  intro g5 c5 w5 ho5 hm5 hat5
  have hm15 : Mod tv.ownBlock.toList w1 w5 := (Mod.alloc w1 _).trans hm5
  have hp5 := (hm15.block k.p hplt (fun hx => HPO.out k.p (by simpa using hx) rfl)).trans HG.out.here
  obtain ⟨e4, _⟩ := cell_ndO hp5
  have g4 := frozen_of_block hp5 4
  have hp6 := ndO_set4 hp5 (.slice (some ⟨g5, 0, none⟩) (k.n + 1) c5)
  have HO5 := hideIt ho5
  have HM15 := hideIt hm15
  have HP6 := hideIt hp6
  have HAT := hideIt hat5
  clear ho5 hm5 hm15 hp6 hat5 c4 f4 HSRC HOWN
  go_wp2_with fail
  clear e4 g4
  have hfin := putLeafMid HL.out HT.out HTF.out HG.out HM15.out HO5.out HAT.out HP6.out
  generalize (w5.setCell ⟨k.p, 4, none⟩ (.slice (some ⟨g5, 0, none⟩) (k.n + 1) c5)) = w6 at *
  have HFN := hideIt hfin
  clear hfin HO5 HM15 HP6 HAT hp5
  refine (cut_leaf HFN.out.1 (by show k.n + 1 ≤ 21; omega) hf4 hf).mono ?_
  intro e w7 h7
  have hlo : 2 ≤ leastF fan := by unfold leastF; omega
  obtain ⟨v, rfl, hres, hm7⟩ := PutRes.of_cut (k := k) (t := t) (w := w) h7 ⟨_, HFN.out.1⟩ rfl HFN.out.2.1 (by show k.n ≤ k.n + 1; omega) (by show k.n + 1 ≤ _; omega) HFN.out.2.2.1 HKP.out HFN.out.2.2.2
  have HR := hideIt hres
  clear h7 hres
  go_wp2
  go_ret
  exact ⟨v, rfl, HR.out, hm7⟩

end Go.Proofs.YthimaoipogocfaaGreat

namespace Go.Proofs.YthimaoipogocfaaGreat
open Go.RowKit

theorem nodup_repl {p : Nat} {own R C N : List Nat} {tb sz : Nat} (h : (p :: (own ++ (R ++ C))).Nodup) (hN : N.Nodup) (hx : ∀ x ∈ N, x ∈ C ∨ x = tb ∨ sz ≤ x) (htb : tb ∉ p :: (own ++ (R ++ C))) (hsz : ∀ x ∈ p :: (own ++ (R ++ C)), x < sz) : (p :: (own ++ (R ++ N))).Nodup := by
  have h1 := List.nodup_cons.1 h
  have h2 := List.nodup_append.1 h1.2
  have h3 := List.nodup_append.1 h2.2.1
  have key : ∀ y ∈ p :: (own ++ (R ++ C)), y ∉ C → y ∉ N := fun y hy hyC hyN => by
    rcases hx y hyN with h | h | h
    · exact hyC h
    · exact htb (h ▸ hy)
    · have := hsz y hy; omega
  refine List.nodup_cons.2 ⟨fun hp => ?_, List.nodup_append.2 ⟨h2.1, List.nodup_append.2 ⟨h3.1, hN, fun a ha b hb e => ?_⟩, fun a ha b hb e => ?_⟩⟩
  · rcases List.mem_append.1 hp with hp | hp
    · exact h1.1 (List.mem_append_left _ hp)
    rcases List.mem_append.1 hp with hp | hp
    · exact h1.1 (List.mem_append_right _ (List.mem_append_left _ hp))
    · exact key p (by simp) (fun hc => h1.1 (List.mem_append_right _ (List.mem_append_right _ hc))) hp
  · subst e
    exact key a (by simp [ha]) (fun hc => h3.2.2 a ha a hc rfl) hb
  · subst e
    rcases List.mem_append.1 hb with hb | hb
    · exact h2.2.2 a ha a (List.mem_append_left _ hb) rfl
    · exact key a (by simp [ha]) (fun hc => h2.2.2 a ha a (List.mem_append_right _ hc) rfl) hb

theorem kid_at {ks : List Kd} {i p : Nat} (h : (kblks ks)[i]? = some p) : ∃ l c r, ks = l ++ c :: r ∧ c.p = p := by
  simp only [kblks, List.getElem?_map, Option.map_eq_some_iff] at h
  obtain ⟨c, hc, hp⟩ := h
  obtain ⟨l, r, e⟩ := List.append_of_mem (List.mem_of_getElem? hc)
  exact ⟨l, c, r, e, hp⟩

/-- the kid in the midst is another now; the rest stands -/
structure MidPut (w w2 : World) (fan lo h : Nat) (k : Kd) (t : Tg) (bv : Value) (l r N : List Kd) : Prop where
  here : w2.heap[k.p]? = some (ndO (k.bx.grow t.bx) (.slice none 0 0) bv)
  rest : ∀ c ∈ l ++ r, KidOk w2 fan lo h c
  news : ∀ c ∈ N, KidOk w2 fan lo h c
  ts : (kts (l ++ r) ++ kts N).Perm (t :: k.ts)
  nodup : (k.p :: (bv.ownBlock.toList ++ (kF (l ++ r) ++ kF N))).Nodup
  foot : ∀ x ∈ kF (l ++ r) ++ kF N, x ∈ k.F ∨ x = t.blk ∨ w.heap.size ≤ x
  m : Mod k.F w w2

theorem midPut {w w1 w' w2 : World} {fan lo h : Nat} {k : Kd} {t : Tg} {bv : Value} {l r N : List Kd} {c : Kd} (hi : InnerAt w k bv (l ++ c :: r)) (hK : ∀ d ∈ l ++ c :: r, KidOk w fan lo h d) (htF : t.blk ∉ k.F) (hg : Grown w w1 k t (.slice none 0 0) bv)
    (hm : Mod [] w1 w') (hm2 : Mod c.F w' w2) (hN : ∀ d ∈ N, KidOk w2 fan lo h d) (hts : (kts N).Perm (t :: c.ts)) (hnd : (kF N).Nodup) (hft : ∀ x ∈ kF N, x ∈ c.F ∨ x = t.blk ∨ w'.heap.size ≤ x) : MidPut w w2 fan lo h k t bv l r N := by
  have hF := hi.foot
  have hnodup := hi.ok.nodup
  rw [hF] at hnodup
  have hpF : (kF (l ++ c :: r)).Perm (kF (l ++ r) ++ c.F) := by
    have := kF_perm (List.perm_middle (a := c) (l₁ := l) (l₂ := r))
    refine this.trans ?_
    show (kF (c :: (l ++ r))).Perm _
    have e : kF (c :: (l ++ r)) = c.F ++ kF (l ++ r) := by simp [kF]
    rw [e]
    exact List.perm_append_comm
  have hpn : (k.p :: (bv.ownBlock.toList ++ kF (l ++ c :: r))).Perm (k.p :: (bv.ownBlock.toList ++ (kF (l ++ r) ++ c.F))) := List.Perm.cons _ (List.Perm.append_left _ hpF)
  have hnd2 := hpn.nodup_iff.1 hnodup
  have hmemF : ∀ x ∈ k.p :: (bv.ownBlock.toList ++ (kF (l ++ r) ++ c.F)), x ∈ k.F := fun x hx => by rw [hF]; exact hpn.mem_iff.2 hx
  have hlt : ∀ x ∈ k.F, x < w.heap.size := NodeAt.lt (fan := fan) (lo := lo) (h := h + 1) ⟨bv, _, hi, hK⟩
  have hz : w.heap.size ≤ w'.heap.size := Nat.le_trans hg.m.size hm.size
  have h1 := List.nodup_cons.1 hnd2
  have h2 := List.nodup_append.1 h1.2
  have h3 := List.nodup_append.1 h2.2.1
  have hkpc : k.p ∉ c.F := fun hx => h1.1 (List.mem_append_right _ (List.mem_append_right _ hx))
  have hkp : k.p ∈ k.F := hmemF _ (by simp)
  have hcF : ∀ x ∈ c.F, x ∈ k.F := fun x hx => hmemF x (by simp [hx])
  have hm02 : Mod (k.p :: c.F) w w2 := ((hg.m.mono (by simp)).trans hm.nil).trans (hm2.mono (by simp +contextual))
  refine ⟨?_, fun d hd => ?_, hN, ?_, ?_, fun x hx => ?_, hm02.mono (fun x hx => ?_)⟩
  · have e1 := (hm.block k.p (lt_of_block hg.here) (by simp)).trans hg.here
    exact (hm2.block k.p (lt_of_block e1) hkpc).trans e1
  · have hd' : d ∈ l ++ c :: r := by
      rcases List.mem_append.1 hd with h | h
      · exact List.mem_append_left _ h
      · exact List.mem_append_right _ (List.mem_cons_of_mem _ h)
    refine (hK d hd').kept hm02 (fun x hx hxc => ?_)
    have hxR := mem_kF hd hx
    rcases List.mem_cons.1 hxc with e | hxc
    · exact h1.1 (List.mem_append_right _ (List.mem_append_left _ (e ▸ hxR)))
    · exact h3.2.2 x hxR x hxc rfl
  · have e1 : (kts (l ++ r) ++ kts N).Perm (kts (l ++ r) ++ (t :: c.ts)) := List.Perm.append_left _ hts
    have e2 : (kts (l ++ r) ++ (t :: c.ts)).Perm (t :: (kts (l ++ r) ++ c.ts)) := List.perm_middle
    have e3 : k.ts.Perm (kts (l ++ r) ++ c.ts) := by
      rw [hi.things]
      have := kts_perm (List.perm_middle (a := c) (l₁ := l) (l₂ := r))
      refine this.trans ?_
      have e : kts (c :: (l ++ r)) = c.ts ++ kts (l ++ r) := by simp [kts]
      rw [e]
      exact List.perm_append_comm
    exact (e1.trans e2).trans (e3.symm.cons t)
  · exact nodup_repl (tb := t.blk) (sz := w'.heap.size) hnd2 hnd hft (fun hx => htF (hmemF _ hx)) (fun x hx => Nat.lt_of_lt_of_le (hlt x (hmemF x hx)) hz)
  · rcases List.mem_append.1 hx with hx | hx
    · exact .inl (hmemF x (by simp [hx]))
    · rcases hft x hx with h | h | h
      · exact .inl (hcF x h)
      · exact .inr (.inl h)
      · exact .inr (.inr (Nat.le_trans hz h))
  · rcases List.mem_cons.1 hx with e | hx
    · exact e ▸ hkp
    · exact hcF x hx

/-- .. so the node is one again, ahead of the cut -/
theorem MidPut.node {w w2 : World} {fan lo h : Nat} {k : Kd} {t : Tg} {bv : Value} {l r N ks' : List Kd} (hM : MidPut w w2 fan lo h k t bv l r N) (hp : ks'.Perm (l ++ r ++ N)) (hrow : w2.ownsRow 0 115 1 bv ks'.length (ptrs (kblks ks'))) (hk : KdOk k) (ht : TgAt w t) (hne : k.ts ≠ []) :
    InnerAt w2 ⟨k.p, k.bx.grow t.bx, kts ks', k.p :: (bv.ownBlock.toList ++ kF ks'), ks'.length⟩ bv ks' ∧ (∀ c ∈ ks', KidOk w2 fan lo h c) ∧ (kts ks').Perm (t :: k.ts) ∧ ∀ x ∈ kF ks', x ∈ k.F ∨ x = t.blk ∨ w.heap.size ≤ x := by
  have hpF : (kF ks').Perm (kF (l ++ r) ++ kF N) := by rw [← kF_append]; exact kF_perm hp
  have hpt : (kts ks').Perm (t :: k.ts) := by
    refine (kts_perm hp).trans ?_
    rw [kts_append]
    exact hM.ts
  refine ⟨⟨hM.here, hrow, rfl, rfl, rfl, ⟨?_, Bx.grow_num hk.num (Bx.of_ok ht.rect).num, fun s hs => ?_, fun _ => Bx.grow_ok (hk.ok hne) (Bx.of_ok ht.rect), fun e => ?_⟩⟩, fun c hc => ?_, hpt, fun x hx => hM.foot x (hpF.mem_iff.1 hx)⟩
  · exact (List.Perm.cons _ (List.Perm.append_left _ hpF)).nodup_iff.2 hM.nodup
  · rcases List.mem_cons.1 (hpt.mem_iff.1 hs) with rfl | hs
    · exact Bx.grow_in' (Bx.In.refl _)
    · exact Bx.grow_in (hk.cover s hs)
  · exfalso
    have e' : kts ks' = [] := e
    rw [e'] at hpt
    have := hpt.length_eq
    simp at this
  · rcases List.mem_append.1 (hp.mem_iff.1 hc) with hc | hc
    · exact hM.rest c hc
    · exact hM.news c hc

/-- the row of the kids has grown: it may stand elsewhere now -/
theorem MidPut.grown {w w5 w6 : World} {fan lo h : Nat} {k : Kd} {t : Tg} {l r N : List Kd} {g n cc g5 c5 m : Nat} (hM : MidPut w w5 fan lo h k t (.slice (some ⟨g, 0, none⟩) n cc) l r N) (hgF : g ∈ k.F) (hkp : k.p ∈ k.F) (hlt : ∀ x ∈ kF (l ++ r) ++ kF N, x < w5.heap.size) (hm : Mod [g] w5 w6) (hg5 : g5 = g ∨ w5.heap.size ≤ g5) (hz : w.heap.size ≤ w5.heap.size) :
    MidPut w (w6.setCell ⟨k.p, 5, none⟩ (.slice (some ⟨g5, 0, none⟩) m c5)) fan lo h k t (.slice (some ⟨g5, 0, none⟩) m c5) l r N ∧ (∀ x, g5 = x → x ∈ k.F ∨ w.heap.size ≤ x) := by
  have hnd := hM.nodup
  simp only [Value.ownBlock] at hnd
  have h1 := List.nodup_cons.1 hnd
  have hgp : k.p ≠ g := fun e => h1.1 (by rw [e]; simp)
  have h2 := List.nodup_append.1 h1.2
  have hgk : g ∉ kF (l ++ r) ++ kF N := fun hx => h2.2.2 g (by simp) g hx rfl
  have hpk : k.p ∉ kF (l ++ r) ++ kF N := fun hx => h1.1 (List.mem_append_right _ hx)
  have hm2 : Mod [k.p, g] w5 (w6.setCell ⟨k.p, 5, none⟩ (.slice (some ⟨g5, 0, none⟩) m c5)) := (hm.mono (by simp)).trans (Mod.setCell _ _ _ (by simp))
  have hout : ∀ x ∈ kF (l ++ r) ++ kF N, x ∉ [k.p, g] := fun x hx => by
    simp only [List.mem_cons, List.not_mem_nil, or_false, not_or]
    exact ⟨fun e => hpk (e ▸ hx), fun e => hgk (e ▸ hx)⟩
  have hplt := lt_of_block hM.here
  refine ⟨⟨?_, fun c hc => (hM.rest c hc).kept hm2 (fun x hx => hout x (List.mem_append_left _ (mem_kF hc hx))), fun c hc => (hM.news c hc).kept hm2 (fun x hx => hout x (List.mem_append_right _ (mem_kF hc hx))), hM.ts, ?_, hM.foot, ?_⟩, fun x e => ?_⟩
  · refine ndO_set5 (bv := .slice (some ⟨g, 0, none⟩) n cc) ?_ _
    exact (hm.block k.p hplt (by simpa using hgp)).trans hM.here
  · simp only [Value.ownBlock]
    refine List.nodup_cons.2 ⟨fun hx => ?_, List.nodup_append.2 ⟨by simp, h2.2.1, fun a ha b hb e => ?_⟩⟩
    · rcases List.mem_append.1 hx with hx | hx
      · simp at hx
        rcases hg5 with e | e
        · exact hgp (hx.trans e)
        · omega
      · exact hpk hx
    · simp at ha
      subst ha e
      rcases hg5 with e | e
      · exact hgk (e ▸ hb)
      · have := hlt _ hb; omega
  · refine hM.m.trans (hm2.mono (fun x hx => ?_))
    simp only [List.mem_cons, List.not_mem_nil, or_false] at hx
    rcases hx with rfl | rfl
    · exact hkp
    · exact hgF
  · rcases hg5 with e2 | e2
    · exact .inl (by rw [← e, e2]; exact hgF)
    · exact .inr (by omega)

end Go.Proofs.YthimaoipogocfaaGreat

namespace Go.Proofs.YthimaoipogocfaaGreat
open Go.RowKit
attribute [local go_sem] run_store_f32 run_neg_inf

theorem mod_cell {F : List Nat} {w w' : World} (hm : Mod F w w') {b o : Nat} {v : Value} (h : w.cell? ⟨b, o, none⟩ = some v) (hf : b ∉ F) : w'.cell? ⟨b, o, none⟩ = some v :=
  (hm.cell (World.block_lt_of_cell? w _ h) hf o).trans h

theorem kid_facts {w : World} {k : Kd} {bv : Value} {ks l r : List Kd} {c : Kd} {b : Nat} (hi : InnerAt w k bv ks) (hks : ks = l ++ c :: r) (hb : b ∉ k.F) : c ∈ ks ∧ b ∉ c.F ∧ k.p ∉ c.F := by
  have hcm : c ∈ ks := by rw [hks]; simp
  refine ⟨hcm, fun hx => hb (hi.kid_F hcm _ hx), fun hx => ?_⟩
  have hnd := hi.ok.nodup
  rw [hi.foot] at hnd
  exact (List.nodup_cons.1 hnd).1 (List.mem_append_right _ (mem_kF hcm hx))

/-- what the put into a kid owes, from here -/
def PutIH (fan lo h : Nat) : Prop := ∀ (w : World) (c : Kd) (t : Tg), NodeAt w fan lo h c → TgAt w t → t.blk ∉ c.F → c.n ≤ fan → 1 ≤ c.n → Calls Tryz.prog 66 #[.pointer (some ⟨c.p, 0, none⟩), .pointer (some ⟨t.blk, 0, none⟩), .int .i64 fan] w (PutPost fan lo h c t w)

set_option maxRecDepth 100000 in
set_option maxHeartbeats 2000000 in
theorem put_inner {w : World} {fan h : Nat} {k : Kd} {t : Tg} (IH : PutIH fan (leastF fan) h) (hk : NodeAt w fan (leastF fan) (h + 1) k) (ht : TgAt w t) (htF : t.blk ∉ k.F) (hn : k.n ≤ fan) (hn1 : 1 ≤ k.n) (hf4 : 4 ≤ fan) (hf : fan ≤ 16) :
    Calls Tryz.prog 66 #[.pointer (some ⟨k.p, 0, none⟩), .pointer (some ⟨t.blk, 0, none⟩), .int .i64 fan] w (PutPost fan (leastF fan) (h + 1) k t w) := by
  obtain ⟨bv0, ks, hi, hK0⟩ := hk
  have hK : ∀ c ∈ ks, KidOk w fan (leastF fan) h c := hK0
  clear hK0
  have hlo : leastF fan ≤ 6 ∧ 2 ≤ leastF fan := by unfold leastF; omega
  have hl0 : 0 < leastF fan := by omega
  rcases ownV hi.row with ⟨_, h0⟩ | ⟨g, cc, rfl⟩
  · omega
  have hne : k.ts ≠ [] := by
    rw [hi.things]
    refine kts_ne (w := w) (fan := fan) (lo := leastF fan) (h := h) (fun e => ?_) hK hl0
    have := hi.len
    rw [e] at this
    simp at this
    omega
  obtain ⟨t0, t1, t2, t3⟩ := ht.cells
  have hkp : k.p ∈ k.F := by rw [hi.foot]; simp
  have hpt : k.p ≠ t.blk := fun e => htF (e ▸ hkp)
  have HI := hideIt hi
  have HK := hideIt hK
  have HT := hideIt ht
  have HTF := hideIt htF
  have HKP := hideIt hkp
  have HNB := hideIt (And.intro hi.ok.num (Bx.of_ok ht.rect).num)
  have HIH := hideIt IH
  have HNE := hideIt hne
  clear hi hK ht htF hkp IH hne
  go_enter Tryz.func66, Tryz.ntmps66
  go_wp2_with fail
  go_region_held (fun w' => w'.cell? ⟨t.blk, 0, none⟩ = some (.float .f32 t.bx.x0) ∧ w'.cell? ⟨t.blk, 1, none⟩ = some (.float .f32 t.bx.y0) ∧ w'.cell? ⟨t.blk, 2, none⟩ = some (.float .f32 t.bx.x1) ∧ w'.cell? ⟨t.blk, 3, none⟩ = some (.float .f32 t.bx.y1))
    ((first
      | exact ⟨cell_mod (Mod.drew _) (by simp only [*]), cell_mod (Mod.drew _) (by simp only [*]), cell_mod (Mod.drew _) (by simp only [*]), cell_mod (Mod.drew _) (by simp only [*])⟩
      | exact (HT.out.kept hmg.m (by simpa using fun e => hpt e.symm)).cells
      | exact ⟨cell_mod hm (by simp only [*]), cell_mod hm (by simp only [*]), cell_mod hm (by simp only [*]), cell_mod hm (by simp only [*])⟩))
    ((first
      | (go_at_call 69; refine (edges_any ⟨_, _, _, _⟩ _).mono ?_; rintro e w' ⟨rfl, hm⟩)
      | (go_at_call 104; refine (grow_any (b := k.bx) (o := t.bx) (rest := [.slice none 0 0, .slice (some ⟨g, 0, none⟩) k.n cc]) (T := 126) ((((Mod.drew w).trans hm).block k.p (lt_of_block HI.out.here) (by simp)).trans HI.out.here) HNB.out.1 HNB.out.2).mono ?_; rintro e w1 ⟨rfl, hmg', hg⟩; have hmg : Grown w w1 k t (.slice none 0 0) (.slice (some ⟨g, 0, none⟩) k.n cc) := ⟨(((Mod.drew w).trans hm).nil).trans hmg', hg⟩)))
  rename_i hheld
  have HG := hideIt hmg
  clear hheld hm hmg' hg hmg t0 t1 t2 t3
  go_wp2_with fail
  refine (isLeaf_some HG.out.here (by omega)).mono ?_
  rintro e w3 ⟨rfl, rfl⟩
  have hF := HI.out.foot
  have hnd := HI.out.ok.nodup
  rw [hF] at hnd
  have hsep := List.nodup_cons.1 hnd
  have hgp : g ≠ k.p := fun e => hsep.1 (by rw [e]; simp [Value.ownBlock])
  have hrow1 := owns_kept HI.out.row HG.out.m (fun x hx => by simp [Value.ownBlock] at hx; subst hx; simpa using hgp)
  obtain ⟨_, c5⟩ := cell_ndO HG.out.here
  obtain ⟨t0, t1, t2, t3⟩ := (HT.out.kept HG.out.m (by simpa using fun e => hpt e.symm)).cells
  have hK1 : ∀ d ∈ ks, KidOk w1 fan (leastF fan) h d := fun d hd => (HK.out d hd).kept HG.out.m (fun x hx => by
    simp only [List.mem_singleton]
    exact fun e => hsep.1 (List.mem_append_right _ (e ▸ mem_kF hd hx)))
  obtain ⟨rest, hro, _, _, hlr, _, _⟩ := owns_rowT hrow1
  have HCL := hideIt (fun W (hW : Mod [] w1 W) => closest_any (w := W) (blk := g) (n := k.n) (cap := cc) (ps := kblks ks) (bx := kxAt ks) (c := t.bx) (fun j p hp => cell_mod hW (rowO_get hro hp)) hlr hn1 (by omega) (kxAt_row (fun d hd => (hK1 d hd).kept hW (by simp)) hl0) (Bx.of_ok HT.out.rect))
  have HK1 := hideIt hK1
  have HROW := hideIt hrow1
  clear hF hnd hsep hrow1 hK1 hro
  go_wp2_with fail
  go_region_held (fun w' => w'.cell? ⟨k.p, 5, none⟩ = some (.slice (some ⟨g, 0, none⟩) k.n cc) ∧ w'.cell? ⟨t.blk, 0, none⟩ = some (.float .f32 t.bx.x0) ∧ w'.cell? ⟨t.blk, 1, none⟩ = some (.float .f32 t.bx.y0) ∧ w'.cell? ⟨t.blk, 2, none⟩ = some (.float .f32 t.bx.x1) ∧ w'.cell? ⟨t.blk, 3, none⟩ = some (.float .f32 t.bx.y1))
    ((first
      | exact ⟨mod_cell hmp (by simp only [*]) hkpc, mod_cell hmp (by simp only [*]) htc, mod_cell hmp (by simp only [*]) htc, mod_cell hmp (by simp only [*]) htc, mod_cell hmp (by simp only [*]) htc⟩
      | exact ⟨cell_mod hmc (by simp only [*]), cell_mod hmc (by simp only [*]), cell_mod hmc (by simp only [*]), cell_mod hmc (by simp only [*]), cell_mod hmc (by simp only [*])⟩
      | exact ⟨cell_mod hm (by simp only [*]), cell_mod hm (by simp only [*]), cell_mod hm (by simp only [*]), cell_mod hm (by simp only [*]), cell_mod hm (by simp only [*])⟩
      | exact ⟨cell_mod (Mod.drew _) (by simp only [*]), cell_mod (Mod.drew _) (by simp only [*]), cell_mod (Mod.drew _) (by simp only [*]), cell_mod (Mod.drew _) (by simp only [*]), cell_mod (Mod.drew _) (by simp only [*])⟩))
    ((first
      | (go_at_call 69; refine (edges_any ⟨_, _, _, _⟩ _).mono ?_; rintro e w' ⟨rfl, hm⟩)
      | (go_at_call 106; refine (HCL.out _ ((Mod.drew w1).trans hm)).mono ?_; rintro e w4 ⟨i, p, hip, rfl, hmc⟩; obtain ⟨l, c, r, hks, rfl⟩ := kid_at hip; obtain ⟨hcm, htc, hkpc⟩ := kid_facts HI.out hks HTF.out; have hm14 : Mod [] w1 w4 := ((Mod.drew w1).trans hm).trans hmc)
      | (go_at_call 66; refine (HIH.out w4 c t ((HK1.out c hcm).kept hm14 (by simp)).1 ((HT.out.kept HG.out.m (by simpa using fun e => hpt e.symm)).kept hm14 (by simp)) htc (HK.out c hcm).2.2 (by have := (HK.out c hcm).2.1; omega)).mono ?_; rintro e w5 ⟨v, rfl, hres, hmp⟩)))
  rename_i hheld
  obtain ⟨k5, _, _, _, _⟩ := hheld
  subst hks
  have hgc : g ∉ c.F := fun hx => by
    have hnd := HI.out.ok.nodup
    rw [HI.out.foot] at hnd
    exact (List.nodup_append.1 (List.nodup_cons.1 hnd).2).2.2 g (by simp [Value.ownBlock]) g (mem_kF hcm hx) rfl
  have hrow5 := owns_kept (owns_kept HROW.out hm14 (by simp)) hmp (fun x hx => by simp [Value.ownBlock] at hx; subst hx; exact hgc)
  have hgF : g ∈ k.F := by rw [HI.out.foot]; simp [Value.ownBlock]
  have hz5 : w.heap.size ≤ w5.heap.size := Nat.le_trans (Nat.le_trans HG.out.m.size hm14.size) hmp.size
  have hlen := HI.out.len
  have hcl := (HK.out c hcm).2.1
  rcases hres with ⟨rfl, c1, a1, a2, a3, a4, a5, a6⟩ | ⟨c1, c2, rfl, a1, a2, a3, a4, a5, a6, a7, a8, a9, a10⟩
  · have hM := midPut (N := [c1]) HI.out HK.out HTF.out HG.out hm14 hmp (fun d hd => by simp at hd; subst hd; exact ⟨a1, by omega, a5⟩) (by simpa [kts] using a3) (by simpa [kF] using a1.ok.nodup) (fun x hx => a6 x (by simpa [kF] using hx))
    have hin := hM.node (ks' := l ++ c1 :: r) (List.perm_middle.trans (List.perm_append_singleton c1 (l ++ r)).symm) (by
      have e1 : (l ++ c1 :: r).length = k.n := by rw [← hlen]; simp
      have e2 : kblks (l ++ c1 :: r) = kblks (l ++ c :: r) := by simp [kblks, a2]
      rw [e1, e2]
      exact hrow5) HI.out.ok HT.out HNE.out
    have hln : (l ++ c1 :: r).length = k.n := by rw [← hlen]; simp
    have HIN := hideIt hin
    have HM5 := hideIt hM.m
    clear hM hin a1 a3 a6 hrow5 k5 c5 t0 t1 t2 t3 HROW HK1 HCL hm hmc hm14 hmp
    go_wp2_with fail
    refine (cut_inner HIN.out.1 HIN.out.2.1 (by show (l ++ c1 :: r).length ≤ 21; omega) hf4 hf).mono ?_
    intro e w7 h7
    obtain ⟨v, rfl, hres, hm7⟩ := PutRes.of_cut (k := k) (t := t) (w := w) h7 ⟨_, _, HIN.out.1, HIN.out.2.1⟩ rfl HIN.out.2.2.1 (by show k.n ≤ (l ++ c1 :: r).length; omega) (by show (l ++ c1 :: r).length ≤ _; omega) (fun x hx => by
      rcases List.mem_cons.1 hx with rfl | hx
      · exact .inl HKP.out
      rcases List.mem_append.1 hx with hx | hx
      · simp [Value.ownBlock] at hx; subst hx; exact .inl hgF
      · exact HIN.out.2.2.2 x hx) HKP.out HM5.out
    have HR := hideIt hres
    clear h7 hres
    go_wp2
    go_ret
    exact ⟨v, rfl, HR.out, hm7⟩
  · have hM := midPut (N := [c1, c2]) HI.out HK.out HTF.out HG.out hm14 hmp (fun d hd => by
      simp at hd
      rcases hd with rfl | rfl
      · exact ⟨a1, a5, a7⟩
      · exact ⟨a2, a6, a8⟩) (by simpa [kts] using a4) (by simpa [kF] using a9) (fun x hx => a10 x (by simpa [kF] using hx))
    have hltF : ∀ x ∈ kF (l ++ r) ++ kF [c1, c2], x < w5.heap.size := fun x hx => by
      rw [← kF_append] at hx
      obtain ⟨d, hd, hx⟩ := List.mem_flatMap.1 hx
      rcases List.mem_append.1 hd with hd | hd
      · exact NodeAt.lt (hM.rest d hd).1 x hx
      · exact NodeAt.lt (hM.news d hd).1 x hx
    have hf5 := frozen_of_block hM.here 5
    have hplt := lt_of_block hM.here
    obtain ⟨i0, hi0, hz0, hz1, hz2⟩ := info_partsT infoN
    have hsrc : srcRow (w5.alloc (.cells #[.pointer (some ⟨c2.p, 0, none⟩)] 115)) 1 (.slice (some ⟨w5.heap.size, 0, none⟩) 1 1) 1 (ptrs [c2.p]) :=
      srcRow_of_owns (owns_allocT (w := w5) (cur := #[.pointer (some ⟨c2.p, 0, none⟩)]) (e := 115) (n := 1) (size := 1) rfl (by decide) (base := 0) (Nat.zero_le _)) (ptrs_oneT [c2.p])
    have hown := hrow5.alloc (.cells #[.pointer (some ⟨c2.p, 0, none⟩)] 115)
    have HSRC := hideIt hsrc
    have HOWN := hideIt hown
    have HMM := hideIt hM
    have HA3 := hideIt a3
    have hgp : g ≠ k.p := hgp
    have HLT := hideIt hltF
    clear hM hsrc hown a1 a2 a3 a4 a9 a10 hrow5 c5 t0 t1 t2 t3 HROW HK1 HCL hm hmc hm14 hmp hltF
    go_wp2_with (at_builtin; refine wpList_append_rows _ rfl _ _ 124 rfl 0 115 i0 (.pointer none) 1 8 Tryz.underlying124 hi0 hz0 hz1 hz2 rfl (by decide) _ k.n (ptrs (kblks (l ++ c :: r))) rfl HOWN.out _ 1 (ptrs [c2.p]) rfl HSRC.out (by omega) (by unfold maxLen; omega) (by omega) (by simp) ?_)
    intro g5 cc5 w6 ho6 hm6 hat6
    have hm56 : Mod [g] w5 w6 := (Mod.alloc w5 _).trans hm6
    have hp6 := (hm56.block k.p hplt (by simpa using fun e => hgp e.symm)).trans HMM.out.here
    obtain ⟨_, e5⟩ := cell_ndO hp6
    have g6 := frozen_of_block hp6 5
    have hg5 : g5 = g ∨ w5.heap.size ≤ g5 := by
      rcases hat6 with h | h
      · simp [Value.ownBlock] at h; exact .inl h.symm
      · exact .inr (by omega)
    obtain ⟨hM7, hgin⟩ := HMM.out.grown (m := k.n + 1) (c5 := cc5) hgF HKP.out HLT.out hm56 hg5 hz5
    have hg5p : g5 ≠ k.p := by
      have hnd7 := hM7.nodup
      simp only [Value.ownBlock] at hnd7
      exact fun e => (List.nodup_cons.1 hnd7).1 (by rw [e]; simp)
    have hrow7 := owns_kept ho6 (Mod.setCell (F := [k.p]) w6 ⟨k.p, 5, none⟩ (.slice (some ⟨g5, 0, none⟩) (k.n + 1) cc5) (by simp)) (fun x hx => by simp [Value.ownBlock] at hx; subst hx; simpa using hg5p)
    have hln : (l ++ c1 :: r ++ [c2]).length = k.n + 1 := by rw [← hlen]; simp; omega
    have hin := hM7.node (ks' := l ++ c1 :: r ++ [c2]) (by
      have q1 : (l ++ c1 :: r ++ [c2]).Perm (c1 :: (l ++ r) ++ [c2]) := List.Perm.append_right _ List.perm_middle
      have q2 : (c1 :: (l ++ r) ++ [c2]).Perm ((l ++ r ++ [c1]) ++ [c2]) := List.Perm.append_right _ (List.perm_append_singleton c1 (l ++ r)).symm
      exact (q1.trans q2).trans (by simp)) (by
      have e2 : kblks (l ++ c1 :: r ++ [c2]) = kblks (l ++ c :: r) ++ [c2.p] := by simp [kblks, HA3.out]
      rw [hln, e2, ptrs_append]
      exact hrow7) HI.out.ok HT.out HNE.out
    have HIN := hideIt hin
    have HM5 := hideIt hM7.m
    have HGI := hideIt hgin
    clear hM7 hin hgin ho6 hm6 hat6 hm56 hp6 hrow7 hg5 HSRC HOWN HMM k5 hf5
    go_wp2_with fail
    clear e5 g6
    generalize w6.setCell ⟨k.p, 5, none⟩ (.slice (some ⟨g5, 0, none⟩) (k.n + 1) cc5) = w7 at *
    refine (cut_inner HIN.out.1 HIN.out.2.1 (by show (l ++ c1 :: r ++ [c2]).length ≤ 21; omega) hf4 hf).mono ?_
    intro e w8 h7
    obtain ⟨v, rfl, hres, hm7⟩ := PutRes.of_cut (k := k) (t := t) (w := w) h7 ⟨_, _, HIN.out.1, HIN.out.2.1⟩ rfl HIN.out.2.2.1 (by show k.n ≤ (l ++ c1 :: r ++ [c2]).length; omega) (by show (l ++ c1 :: r ++ [c2]).length ≤ _; omega) (fun x hx => by
      rcases List.mem_cons.1 hx with rfl | hx
      · exact .inl HKP.out
      rcases List.mem_append.1 hx with hx | hx
      · simp [Value.ownBlock] at hx
        rcases HGI.out x hx.symm with h | h
        · exact .inl h
        · exact .inr (.inr h)
      · exact HIN.out.2.2.2 x hx) HKP.out HM5.out
    have HR := hideIt hres
    clear h7 hres
    go_wp2
    go_ret
    exact ⟨v, rfl, HR.out, hm7⟩

/-- PUT, of every height. -/
theorem put_any {fan : Nat} (hf4 : 4 ≤ fan) (hf : fan ≤ 16) : ∀ (h : Nat) (w : World) (k : Kd) (t : Tg), NodeAt w fan (leastF fan) h k → TgAt w t → t.blk ∉ k.F → k.n ≤ fan → (h = 0 ∨ 1 ≤ k.n) → Calls Tryz.prog 66 #[.pointer (some ⟨k.p, 0, none⟩), .pointer (some ⟨t.blk, 0, none⟩), .int .i64 fan] w (PutPost fan (leastF fan) h k t w)
  | 0, _, _, _, hk, ht, htF, hn, _ => put_leaf hk ht htF hn hf4 hf
  | h + 1, _, _, _, hk, ht, htF, hn, hor => put_inner (fun w c t hc ht htc hcn hc1 => put_any hf4 hf h w c t hc ht htc hcn (.inr hc1)) hk ht htF hn (by rcases hor with e | e; (cases e); exact e) hf4 hf

end Go.Proofs.YthimaoipogocfaaGreat

