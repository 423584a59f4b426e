import Derived.Test.YtmfdlacmlnginaaGreatJ11
import Derived.LaidEqlPtr
namespace Go.Proofs.YtmfdlacmlnginaaGreat
open Go.RowKit
attribute [local go_sem] run_store_f32 run_neg_inf

theorem mod_cell {F : List Nat} {w w' : World} (hm : Mod F w w') {b o : Nat} {v : Value} (h : w.cell? ⟨b, o, none⟩ = some v) (hf : b ∉ F) : w'.cell? ⟨b, o, none⟩ = some v :=
  (hm.cell (World.block_lt_of_cell? w _ h) hf o).trans h

theorem kid_facts {w : World} {k : Kd} {bv : Value} {ks l r : List Kd} {c : Kd} {b : Nat} (hi : InnerAt w k bv ks) (hks : ks = l ++ c :: r) (hb : b ∉ k.F) : c ∈ ks ∧ b ∉ c.F ∧ k.p ∉ c.F := by
  have hcm : c ∈ ks := by rw [hks]; simp
  refine ⟨hcm, fun hx => hb (hi.kid_F hcm _ hx), fun hx => ?_⟩
  have hnd := hi.ok.nodup
  rw [hi.foot] at hnd
  exact (List.nodup_cons.1 hnd).1 (List.mem_append_right _ (mem_kF hcm hx))

/-- what the put into a kid owes, from here -/
def PutIH (fan lo h : Nat) : Prop := ∀ (w : World) (c : Kd) (t : Tg), NodeAt w fan lo h c → TgAt w t → t.blk ∉ c.F → c.n ≤ fan → 1 ≤ c.n → Calls Tryz.prog 58 #[.pointer (some ⟨c.p, 0, none⟩), .pointer (some ⟨t.blk, 0, none⟩), .int .i64 fan] w (PutPost fan lo h c t w)

set_option maxRecDepth 100000 in
set_option maxHeartbeats 2000000 in
theorem put_inner {w : World} {fan h : Nat} {k : Kd} {t : Tg} (IH : PutIH fan (leastF fan) h) (hk : NodeAt w fan (leastF fan) (h + 1) k) (ht : TgAt w t) (htF : t.blk ∉ k.F) (hn : k.n ≤ fan) (hn1 : 1 ≤ k.n) (hf4 : 4 ≤ fan) (hf : fan ≤ 16) :
    Calls Tryz.prog 58 #[.pointer (some ⟨k.p, 0, none⟩), .pointer (some ⟨t.blk, 0, none⟩), .int .i64 fan] w (PutPost fan (leastF fan) (h + 1) k t w) := by
  obtain ⟨bv0, ks, hi, hK0⟩ := hk
  have hK : ∀ c ∈ ks, KidOk w fan (leastF fan) h c := hK0
  clear hK0
  have hlo : leastF fan ≤ 6 ∧ 2 ≤ leastF fan := by unfold leastF; omega
  have hl0 : 0 < leastF fan := by omega
  rcases ownV hi.row with ⟨_, h0⟩ | ⟨g, cc, rfl⟩
  · omega
  have hne : k.ts ≠ [] := by
    rw [hi.things]
    refine kts_ne (w := w) (fan := fan) (lo := leastF fan) (h := h) (fun e => ?_) hK hl0
    have := hi.len
    rw [e] at this
    simp at this
    omega
  obtain ⟨t0, t1, t2, t3⟩ := ht.cells
  have hkp : k.p ∈ k.F := by rw [hi.foot]; simp
  have hpt : k.p ≠ t.blk := fun e => htF (e ▸ hkp)
  have HI := hideIt hi
  have HK := hideIt hK
  have HT := hideIt ht
  have HTF := hideIt htF
  have HKP := hideIt hkp
  have HNB := hideIt (And.intro hi.ok.num (Bx.of_ok ht.rect).num)
  have HIH := hideIt IH
  have HNE := hideIt hne
  clear hi hK ht htF hkp IH hne
  go_enter Tryz.func58, Tryz.ntmps58
  go_wp2_with fail
  go_region_held (fun w' => w'.cell? ⟨t.blk, 0, none⟩ = some (.float .f32 t.bx.x0) ∧ w'.cell? ⟨t.blk, 1, none⟩ = some (.float .f32 t.bx.y0) ∧ w'.cell? ⟨t.blk, 2, none⟩ = some (.float .f32 t.bx.x1) ∧ w'.cell? ⟨t.blk, 3, none⟩ = some (.float .f32 t.bx.y1))
    ((first
      | exact ⟨cell_mod (Mod.drew _) (by simp only [*]), cell_mod (Mod.drew _) (by simp only [*]), cell_mod (Mod.drew _) (by simp only [*]), cell_mod (Mod.drew _) (by simp only [*])⟩
      | exact (HT.out.kept hmg.m (by simpa using fun e => hpt e.symm)).cells
      | exact ⟨cell_mod hm (by simp only [*]), cell_mod hm (by simp only [*]), cell_mod hm (by simp only [*]), cell_mod hm (by simp only [*])⟩))
    ((first
      | (go_at_call 61; refine (edges_any ⟨_, _, _, _⟩ _).mono ?_; rintro e w' ⟨rfl, hm⟩)
      | (go_at_call 92; refine (grow_any (b := k.bx) (o := t.bx) (rest := [.slice none 0 0, .slice (some ⟨g, 0, none⟩) k.n cc]) (T := 116) ((((Mod.drew w).trans hm).block k.p (lt_of_block HI.out.here) (by simp)).trans HI.out.here) HNB.out.1 HNB.out.2).mono ?_; rintro e w1 ⟨rfl, hmg', hg⟩; have hmg : Grown w w1 k t (.slice none 0 0) (.slice (some ⟨g, 0, none⟩) k.n cc) := ⟨(((Mod.drew w).trans hm).nil).trans hmg', hg⟩)))
  rename_i hheld
  have HG := hideIt hmg
  clear hheld hm hmg' hg hmg t0 t1 t2 t3
  go_wp2_with fail
  refine (isLeaf_some HG.out.here (by omega)).mono ?_
  rintro e w3 ⟨rfl, rfl⟩
  have hF := HI.out.foot
  have hnd := HI.out.ok.nodup
  rw [hF] at hnd
  have hsep := List.nodup_cons.1 hnd
  have hgp : g ≠ k.p := fun e => hsep.1 (by rw [e]; simp [Value.ownBlock])
  have hrow1 := owns_kept HI.out.row HG.out.m (fun x hx => by simp [Value.ownBlock] at hx; subst hx; simpa using hgp)
  obtain ⟨_, c5⟩ := cell_ndO HG.out.here
  obtain ⟨t0, t1, t2, t3⟩ := (HT.out.kept HG.out.m (by simpa using fun e => hpt e.symm)).cells
  have hK1 : ∀ d ∈ ks, KidOk w1 fan (leastF fan) h d := fun d hd => (HK.out d hd).kept HG.out.m (fun x hx => by
    simp only [List.mem_singleton]
    exact fun e => hsep.1 (List.mem_append_right _ (e ▸ mem_kF hd hx)))
  obtain ⟨rest, hro, _, _, hlr, _, _⟩ := owns_rowT hrow1
  have HCL := hideIt (fun W (hW : Mod [] w1 W) => closest_any (w := W) (blk := g) (n := k.n) (cap := cc) (ps := kblks ks) (bx := kxAt ks) (c := t.bx) (fun j p hp => cell_mod hW (rowO_get hro hp)) hlr hn1 (by omega) (kxAt_row (fun d hd => (hK1 d hd).kept hW (by simp)) hl0) (Bx.of_ok HT.out.rect))
  have HK1 := hideIt hK1
  have HROW := hideIt hrow1
  clear hF hnd hsep hrow1 hK1 hro
  go_wp2_with fail
  go_region_held (fun w' => w'.cell? ⟨k.p, 5, none⟩ = some (.slice (some ⟨g, 0, none⟩) k.n cc) ∧ w'.cell? ⟨t.blk, 0, none⟩ = some (.float .f32 t.bx.x0) ∧ w'.cell? ⟨t.blk, 1, none⟩ = some (.float .f32 t.bx.y0) ∧ w'.cell? ⟨t.blk, 2, none⟩ = some (.float .f32 t.bx.x1) ∧ w'.cell? ⟨t.blk, 3, none⟩ = some (.float .f32 t.bx.y1))
    ((first
      | exact ⟨mod_cell hmp (by simp only [*]) hkpc, mod_cell hmp (by simp only [*]) htc, mod_cell hmp (by simp only [*]) htc, mod_cell hmp (by simp only [*]) htc, mod_cell hmp (by simp only [*]) htc⟩
      | exact ⟨cell_mod hmc (by simp only [*]), cell_mod hmc (by simp only [*]), cell_mod hmc (by simp only [*]), cell_mod hmc (by simp only [*]), cell_mod hmc (by simp only [*])⟩
      | exact ⟨cell_mod hm (by simp only [*]), cell_mod hm (by simp only [*]), cell_mod hm (by simp only [*]), cell_mod hm (by simp only [*]), cell_mod hm (by simp only [*])⟩
      | exact ⟨cell_mod (Mod.drew _) (by simp only [*]), cell_mod (Mod.drew _) (by simp only [*]), cell_mod (Mod.drew _) (by simp only [*]), cell_mod (Mod.drew _) (by simp only [*]), cell_mod (Mod.drew _) (by simp only [*])⟩))
    ((first
      | (go_at_call 61; refine (edges_any ⟨_, _, _, _⟩ _).mono ?_; rintro e w' ⟨rfl, hm⟩)
      | (go_at_call 94; refine (HCL.out _ ((Mod.drew w1).trans hm)).mono ?_; rintro e w4 ⟨i, p, hip, rfl, hmc⟩; obtain ⟨l, c, r, hks, rfl⟩ := kid_at hip; obtain ⟨hcm, htc, hkpc⟩ := kid_facts HI.out hks HTF.out; have hm14 : Mod [] w1 w4 := ((Mod.drew w1).trans hm).trans hmc)
      | (go_at_call 58; refine (HIH.out w4 c t ((HK1.out c hcm).kept hm14 (by simp)).1 ((HT.out.kept HG.out.m (by simpa using fun e => hpt e.symm)).kept hm14 (by simp)) htc (HK.out c hcm).2.2 (by have := (HK.out c hcm).2.1; omega)).mono ?_; rintro e w5 ⟨v, rfl, hres, hmp⟩)))
  rename_i hheld
  obtain ⟨k5, _, _, _, _⟩ := hheld
  subst hks
  have hgc : g ∉ c.F := fun hx => by
    have hnd := HI.out.ok.nodup
    rw [HI.out.foot] at hnd
    exact (List.nodup_append.1 (List.nodup_cons.1 hnd).2).2.2 g (by simp [Value.ownBlock]) g (mem_kF hcm hx) rfl
  have hrow5 := owns_kept (owns_kept HROW.out hm14 (by simp)) hmp (fun x hx => by simp [Value.ownBlock] at hx; subst hx; exact hgc)
  have hgF : g ∈ k.F := by rw [HI.out.foot]; simp [Value.ownBlock]
  have hz5 : w.heap.size ≤ w5.heap.size := Nat.le_trans (Nat.le_trans HG.out.m.size hm14.size) hmp.size
  have hlen := HI.out.len
  have hcl := (HK.out c hcm).2.1
  rcases hres with ⟨rfl, c1, a1, a2, a3, a4, a5, a6⟩ | ⟨c1, c2, rfl, a1, a2, a3, a4, a5, a6, a7, a8, a9, a10⟩
  · have hM := midPut (N := [c1]) HI.out HK.out HTF.out HG.out hm14 hmp (fun d hd => by simp at hd; subst hd; exact ⟨a1, by omega, a5⟩) (by simpa [kts] using a3) (by simpa [kF] using a1.ok.nodup) (fun x hx => a6 x (by simpa [kF] using hx))
    have hin := hM.node (ks' := l ++ c1 :: r) (List.perm_middle.trans (List.perm_append_singleton c1 (l ++ r)).symm) (by
      have e1 : (l ++ c1 :: r).length = k.n := by rw [← hlen]; simp
      have e2 : kblks (l ++ c1 :: r) = kblks (l ++ c :: r) := by simp [kblks, a2]
      rw [e1, e2]
      exact hrow5) HI.out.ok HT.out HNE.out
    have hln : (l ++ c1 :: r).length = k.n := by rw [← hlen]; simp
    have HIN := hideIt hin
    have HM5 := hideIt hM.m
    clear hM hin a1 a3 a6 hrow5 k5 c5 t0 t1 t2 t3 HROW HK1 HCL hm hmc hm14 hmp
    go_wp2_with fail
    refine (cut_inner HIN.out.1 HIN.out.2.1 (by show (l ++ c1 :: r).length ≤ 21; omega) hf4 hf).mono ?_
    intro e w7 h7
    obtain ⟨v, rfl, hres, hm7⟩ := PutRes.of_cut (k := k) (t := t) (w := w) h7 ⟨_, _, HIN.out.1, HIN.out.2.1⟩ rfl HIN.out.2.2.1 (by show k.n ≤ (l ++ c1 :: r).length; omega) (by show (l ++ c1 :: r).length ≤ _; omega) (fun x hx => by
      rcases List.mem_cons.1 hx with rfl | hx
      · exact .inl HKP.out
      rcases List.mem_append.1 hx with hx | hx
      · simp [Value.ownBlock] at hx; subst hx; exact .inl hgF
      · exact HIN.out.2.2.2 x hx) HKP.out HM5.out
    have HR := hideIt hres
    clear h7 hres
    go_wp2
    go_ret
    exact ⟨v, rfl, HR.out, hm7⟩
  · have hM := midPut (N := [c1, c2]) HI.out HK.out HTF.out HG.out hm14 hmp (fun d hd => by
      simp at hd
      rcases hd with rfl | rfl
      · exact ⟨a1, a5, a7⟩
      · exact ⟨a2, a6, a8⟩) (by simpa [kts] using a4) (by simpa [kF] using a9) (fun x hx => a10 x (by simpa [kF] using hx))
    have hltF : ∀ x ∈ kF (l ++ r) ++ kF [c1, c2], x < w5.heap.size := fun x hx => by
      rw [← kF_append] at hx
      obtain ⟨d, hd, hx⟩ := List.mem_flatMap.1 hx
      rcases List.mem_append.1 hd with hd | hd
      · exact NodeAt.lt (hM.rest d hd).1 x hx
      · exact NodeAt.lt (hM.news d hd).1 x hx
    have hf5 := frozen_of_block hM.here 5
    have hplt := lt_of_block hM.here
    obtain ⟨i0, hi0, hz0, hz1, hz2⟩ := info_partsT infoN
    have hsrc : srcRow (w5.alloc (.cells #[.pointer (some ⟨c2.p, 0, none⟩)] 105)) 1 (.slice (some ⟨w5.heap.size, 0, none⟩) 1 1) 1 (ptrs [c2.p]) :=
      srcRow_of_owns (owns_allocT (w := w5) (cur := #[.pointer (some ⟨c2.p, 0, none⟩)]) (e := 105) (n := 1) (size := 1) rfl (by decide) (base := 0) (Nat.zero_le _)) (ptrs_oneT [c2.p])
    have hown := hrow5.alloc (.cells #[.pointer (some ⟨c2.p, 0, none⟩)] 105)
    have HSRC := hideIt hsrc
    have HOWN := hideIt hown
    have HMM := hideIt hM
    have HA3 := hideIt a3
    have hgp : g ≠ k.p := hgp
    have HLT := hideIt hltF
    clear hM hsrc hown a1 a2 a3 a4 a9 a10 hrow5 c5 t0 t1 t2 t3 HROW HK1 HCL hm hmc hm14 hmp hltF
    go_wp2_with (at_builtin; refine wpList_append_rows _ rfl _ _ 114 rfl 0 105 i0 (.pointer none) 1 8 Tryz.underlying114 hi0 hz0 hz1 hz2 rfl (by decide) _ k.n (ptrs (kblks (l ++ c :: r))) rfl HOWN.out _ 1 (ptrs [c2.p]) rfl HSRC.out (by omega) (by unfold maxLen; omega) (by omega) (by simp) ?_)
    intro g5 cc5 w6 ho6 hm6 hat6
    have hm56 : Mod [g] w5 w6 := (Mod.alloc w5 _).trans hm6
    have hp6 := (hm56.block k.p hplt (by simpa using fun e => hgp e.symm)).trans HMM.out.here
    obtain ⟨_, e5⟩ := cell_ndO hp6
    have g6 := frozen_of_block hp6 5
    have hg5 : g5 = g ∨ w5.heap.size ≤ g5 := by
      rcases hat6 with h | h
      · simp [Value.ownBlock] at h; exact .inl h.symm
      · exact .inr (by omega)
    obtain ⟨hM7, hgin⟩ := HMM.out.grown (m := k.n + 1) (c5 := cc5) hgF HKP.out HLT.out hm56 hg5 hz5
    have hg5p : g5 ≠ k.p := by
      have hnd7 := hM7.nodup
      simp only [Value.ownBlock] at hnd7
      exact fun e => (List.nodup_cons.1 hnd7).1 (by rw [e]; simp)
    have hrow7 := owns_kept ho6 (Mod.setCell (F := [k.p]) w6 ⟨k.p, 5, none⟩ (.slice (some ⟨g5, 0, none⟩) (k.n + 1) cc5) (by simp)) (fun x hx => by simp [Value.ownBlock] at hx; subst hx; simpa using hg5p)
    have hln : (l ++ c1 :: r ++ [c2]).length = k.n + 1 := by rw [← hlen]; simp; omega
    have hin := hM7.node (ks' := l ++ c1 :: r ++ [c2]) (by
      have q1 : (l ++ c1 :: r ++ [c2]).Perm (c1 :: (l ++ r) ++ [c2]) := List.Perm.append_right _ List.perm_middle
      have q2 : (c1 :: (l ++ r) ++ [c2]).Perm ((l ++ r ++ [c1]) ++ [c2]) := List.Perm.append_right _ (List.perm_append_singleton c1 (l ++ r)).symm
      exact (q1.trans q2).trans (by simp)) (by
      have e2 : kblks (l ++ c1 :: r ++ [c2]) = kblks (l ++ c :: r) ++ [c2.p] := by simp [kblks, HA3.out]
      rw [hln, e2, ptrs_append]
      exact hrow7) HI.out.ok HT.out HNE.out
    have HIN := hideIt hin
    have HM5 := hideIt hM7.m
    have HGI := hideIt hgin
    clear hM7 hin hgin ho6 hm6 hat6 hm56 hp6 hrow7 hg5 HSRC HOWN HMM k5 hf5
    go_wp2_with fail
    clear e5 g6
    generalize w6.setCell ⟨k.p, 5, none⟩ (.slice (some ⟨g5, 0, none⟩) (k.n + 1) cc5) = w7 at *
    refine (cut_inner HIN.out.1 HIN.out.2.1 (by show (l ++ c1 :: r ++ [c2]).length ≤ 21; omega) hf4 hf).mono ?_
    intro e w8 h7
    obtain ⟨v, rfl, hres, hm7⟩ := PutRes.of_cut (k := k) (t := t) (w := w) h7 ⟨_, _, HIN.out.1, HIN.out.2.1⟩ rfl HIN.out.2.2.1 (by show k.n ≤ (l ++ c1 :: r ++ [c2]).length; omega) (by show (l ++ c1 :: r ++ [c2]).length ≤ _; omega) (fun x hx => by
      rcases List.mem_cons.1 hx with rfl | hx
      · exact .inl HKP.out
      rcases List.mem_append.1 hx with hx | hx
      · simp [Value.ownBlock] at hx
        rcases HGI.out x hx.symm with h | h
        · exact .inl h
        · exact .inr (.inr h)
      · exact HIN.out.2.2.2 x hx) HKP.out HM5.out
    have HR := hideIt hres
    clear h7 hres
    go_wp2
    go_ret
    exact ⟨v, rfl, HR.out, hm7⟩

/-- PUT, of every height. -/
theorem put_any {fan : Nat} (hf4 : 4 ≤ fan) (hf : fan ≤ 16) : ∀ (h : Nat) (w : World) (k : Kd) (t : Tg), NodeAt w fan (leastF fan) h k → TgAt w t → t.blk ∉ k.F → k.n ≤ fan → (h = 0 ∨ 1 ≤ k.n) → Calls Tryz.prog 58 #[.pointer (some ⟨k.p, 0, none⟩), .pointer (some ⟨t.blk, 0, none⟩), .int .i64 fan] w (PutPost fan (leastF fan) h k t w)
  | 0, _, _, _, hk, ht, htF, hn, _ => put_leaf hk ht htF hn hf4 hf
  | h + 1, _, _, _, hk, ht, htF, hn, hor => put_inner (fun w c t hc ht htc hcn hc1 => put_any hf4 hf h w c t hc ht htc hcn (.inr hc1)) hk ht htF hn (by rcases hor with e | e; (cases e); exact e) hf4 hf

end Go.Proofs.YtmfdlacmlnginaaGreat

namespace Go.Proofs.YtmfdlacmlnginaaGreat
open Go.RowKit
attribute [local go_sem] run_store_f32 run_neg_inf

theorem info70 : (Tryz.prog.info? 120).map (·.size) = some 9 := by kernel_rfl

theorem eqlT {w : World} {s t : Tg} (hs : TgAt w s) (ht : TgAt w t) : (binOp .eql 103 (.pointer (some ⟨t.blk, 0, none⟩)) (.pointer (some ⟨s.blk, 0, none⟩))).run Tryz.prog w = .ok (.bool (decide (t.blk = s.blk))) w := by
  obtain ⟨j, hj, hsz⟩ := Option.map_eq_some_iff.1 info70
  by_cases e : t.blk = s.blk
  · rw [e]
    have := run_eql_ptr_same (P := Tryz.prog) (w := w) ⟨s.blk, 0, none⟩ Tryz.underlying103 hj
    simpa using this
  · have := run_eql_ptr_other (P := Tryz.prog) (w := w) (a := ⟨t.blk, 0, none⟩) (b := ⟨s.blk, 0, none⟩) Tryz.underlying103 hj (by omega) (fun h => e (congrArg Addr.block h)) ht.here hs.here
    rw [decide_eq_false e]
    exact this

theorem TgAt.same {w : World} {s t : Tg} (hs : TgAt w s) (ht : TgAt w t) (e : s.blk = t.blk) : s = t := by
  have h1 := hs.here
  rw [e, ht.here] at h1
  have h2 := Option.some.inj h1
  unfold tgO bxC at h2
  simp only [Obj.cells.injEq, and_true] at h2
  have h3 := congrArg Array.toList h2
  simp only [List.cons.injEq, Value.int.injEq, true_and, and_true] at h3
  obtain ⟨_, _, _, _, i, a, b, c, d⟩ := h3
  cases s
  cases t
  simp_all

/-- where a thing stands in a leaf, or nowhere -/
def IdxRes (ts : List Tg) (t : Tg) (i : Int) : Prop := (i = -1 ∧ t ∉ ts) ∨ ∃ j : Nat, i = j ∧ ts[j]? = some t
def IdxPost (ts : List Tg) (t : Tg) (w : World) (e : Ending) (w' : World) : Prop := ∃ i, e = .returned (.int .i64 i) ∧ IdxRes ts t i ∧ w = w'

set_option maxRecDepth 100000 in
theorem index_nil (t : Tg) (w : World) : Calls Tryz.prog 84 #[.slice none 0 0, .pointer (some ⟨t.blk, 0, none⟩)] w (IdxPost [] t w) := by
  go_enter Tryz.func84, Tryz.ntmps84
  go_wp2_with fail
  go_loop [8] (fun i => i = .int .i64 0) (fun _ => 0)
  case atStart => rfl
  case round =>
    subst hrel
    go_wp2
    go_ret
    exact ⟨-1, rfl, .inl ⟨rfl, by simp⟩, rfl⟩

set_option maxRecDepth 100000 in
set_option maxHeartbeats 400000 in
theorem index_some {w : World} {g c : Nat} {ts : List Tg} {t : Tg} (hr : ∀ j p, (tblks ts)[j]? = some p → w.cell? ⟨g, j, none⟩ = some (.pointer (some ⟨p, 0, none⟩))) (hT : ∀ s ∈ ts, TgAt w s) (ht : TgAt w t) (hn : ts.length ≤ 1000) :
    Calls Tryz.prog 84 #[.slice (some ⟨g, 0, none⟩) ts.length c, .pointer (some ⟨t.blk, 0, none⟩)] w (IdxPost ts t w) := by
  have HR := hideIt hr
  have HT := hideIt hT
  have H := hideIt ht
  clear hr hT ht
  go_enter Tryz.func84, Tryz.ntmps84
  go_wp2_with fail
  go_loop [8] (fun i => ∃ k : Nat, k ≤ ts.length ∧ i = .int .i64 k ∧ Hid (∀ s ∈ ts.take k, s ≠ t)) (fun i => ts.length - (intOf i).toNat)
  case atStart => exact ⟨0, by omega, rfl, hideIt (fun s hs => by simp at hs)⟩
  case round =>
    obtain ⟨k, hk, rfl, hno⟩ := hrel
    by_cases hlt : k < ts.length
    · have hlt' : (k : Int) < (ts.length : Int) := by omega
      have hget : ts[k]? = some ts[k] := List.getElem?_eq_getElem hlt
      have c1 := HR.out k ts[k].blk (by simp [tblks, hget])
      have hq := eqlT (HT.out ts[k] (List.getElem_mem hlt)) H.out
      have hsame := hideIt (fun (e : ts[k].blk = t.blk) => (HT.out ts[k] (List.getElem_mem hlt)).same H.out e)
      have HG := hideIt hget
      have hstep : ts.take (k + 1) = ts.take k ++ [ts[k]] := List.take_succ_eq_append_getElem hlt
      have HST := hideIt hstep
      clear hget hstep
      generalize ts[k] = s at *
      by_cases e : t.blk = s.blk
      · rw [decide_eq_true e] at hq
        have he : s = t := hsame.out e.symm
        subst he
        clear e
        go_wp2
        go_ret
        exact ⟨k, rfl, .inr ⟨k, rfl, HG.out⟩, rfl⟩
      · rw [decide_eq_false e] at hq
        have HE := hideIt e
        clear e
        go_wp2_with fail
        go_round
        case rel =>
          refine ⟨k + 1, by omega, by go_num, hideIt (fun u hu => ?_)⟩
          rw [HST.out] at hu
          rcases List.mem_append.1 hu with hu | hu
          · exact hno.out u hu
          · simp at hu
            subst hu
            exact fun e => HE.out (by rw [e])
        case measure => simp [intOf]; omega
    · have hge : ¬ ((k : Int) < (ts.length : Int)) := by omega
      have hall : ts.take k = ts := List.take_of_length_le (by omega)
      have HN := hideIt (show t ∉ ts from fun hx => hno.out t (by rw [hall]; exact hx) rfl)
      clear hno hall
      go_wp2
      go_ret
      exact ⟨-1, rfl, .inl ⟨rfl, HN.out⟩, rfl⟩

end Go.Proofs.YtmfdlacmlnginaaGreat

namespace Go.Proofs.YtmfdlacmlnginaaGreat
open Go.RowKit
attribute [local go_sem] run_store_f32 run_neg_inf

/-- the thing is out, or it was not there -/
def DropRes (fan lo h : Nat) (k : Kd) (t : Tg) (w : World) (b : Bool) (w' : World) : Prop :=
  (b = true ∧ ∃ k1, NodeAt w' fan lo h k1 ∧ k1.p = k.p ∧ (t :: k1.ts).Perm k.ts ∧ k.n ≤ k1.n + 1 ∧ k1.n ≤ k.n ∧ (∀ x ∈ k1.F, x ∈ k.F ∨ w.heap.size ≤ x) ∧ Mod k.F w w' ∧ TgAt w' t ∧ t.blk ∉ k1.F) ∨
  (b = false ∧ t ∉ k.ts ∧ Mod [] w w')
def DropPost (fan lo h : Nat) (k : Kd) (t : Tg) (w : World) (e : Ending) (w' : World) : Prop := ∃ b, e = .returned (.bool b) ∧ DropRes fan lo h k t w b w'

theorem dropLeafFin {fan lo : Nat} {w w1 w2 : World} {k : Kd} {t : Tg} {g c j : Nat} {rest : List Value} (hl : LeafAt w k (.slice (some ⟨g, 0, none⟩) k.n c)) (hj : k.ts[j]? = some t) (hsz : (ptrs (tblks k.ts) ++ rest).length = c) (hcm : c ≤ maxLen)
    (hm1 : Mod [g] w w1) (hr1 : w1.heap[g]? = some (rowO ((tblks k.ts).take j ++ (tblks k.ts).drop (j + 1)) (List.replicate (j + 1 - j) (.pointer none) ++ rest) 103))
    (hw2 : w2 = w1.setCell ⟨k.p, 4, none⟩ (.slice (some ⟨g, 0, none⟩) (k.n - 1) c)) :
    ∃ ts', (t :: ts').Perm k.ts ∧ ts'.length = k.n - 1 ∧ w2.heap[k.p]? = some (ndO k.bx (.slice (some ⟨g, 0, none⟩) ts'.length c) (.slice none 0 0)) ∧ w2.ownsRow 0 103 1 (.slice (some ⟨g, 0, none⟩) ts'.length c) ts'.length (ptrs (tblks ts')) ∧ (∀ s ∈ ts', TgAt w2 s) ∧
      (∀ e w3, FitPost k.p (.slice (some ⟨g, 0, none⟩) ts'.length c) (.slice none 0 0) (ts'.map Tg.bx) w2 e w3 → DropRes fan lo 0 k t w true w3) := by
  have hF := hl.foot
  simp only [Value.ownBlock] at hF
  have hnd := hl.ok.nodup
  rw [hF] at hnd
  have h1 := List.nodup_cons.1 hnd
  have h2 := List.nodup_append.1 h1.2
  have hgp : g ≠ k.p := fun e => h1.1 (by rw [e]; simp)
  have hjl : j < k.ts.length := (List.getElem?_eq_some_iff.1 hj).1
  have hjt : k.ts[j] = t := (List.getElem?_eq_some_iff.1 hj).2
  have hsplit : k.ts = k.ts.take j ++ t :: k.ts.drop (j + 1) := by
    rw [← hjt, List.getElem_cons_drop, List.take_append_drop]
  have hperm : (t :: (k.ts.take j ++ k.ts.drop (j + 1))).Perm k.ts := by
    conv => rhs; rw [hsplit]
    exact List.perm_middle.symm
  have hlen : (k.ts.take j ++ k.ts.drop (j + 1)).length = k.n - 1 := by
    have := hperm.length_eq
    rw [List.length_cons, hl.len] at this
    omega
  have hblks : (tblks k.ts).take j ++ (tblks k.ts).drop (j + 1) = tblks (k.ts.take j ++ k.ts.drop (j + 1)) := by simp [tblks, List.map_take, List.map_drop]
  rw [hblks] at hr1
  have hmem : ∀ s ∈ k.ts.take j ++ k.ts.drop (j + 1), s ∈ k.ts := fun s hs => hperm.mem_iff.1 (List.mem_cons_of_mem _ hs)
  have hn0 : 0 < k.n := by rw [← hl.len]; omega
  have hm2 : Mod [k.p, g] w w2 := by
    rw [hw2]
    exact (hm1.mono (by simp)).trans (Mod.setCell _ _ _ (by simp))
  have hp1 := (hm1.block k.p (lt_of_block hl.here) (by simpa using fun e => hgp e.symm)).trans hl.here
  have hp2 : w2.heap[k.p]? = some (ndO k.bx (.slice (some ⟨g, 0, none⟩) (k.ts.take j ++ k.ts.drop (j + 1)).length c) (.slice none 0 0)) := by
    rw [hw2, hlen]
    exact ndO_set4 hp1 _
  have hro := row_ownsT (base := 0) (c := c) hr1 (Nat.zero_le _) (by
    have e1 : (tblks (k.ts.take j ++ k.ts.drop (j + 1))).length = k.n - 1 := by simp only [tblks, List.length_map]; exact hlen
    have e2 : (tblks k.ts).length = k.n := by simp only [tblks, List.length_map]; exact hl.len
    simp only [List.length_append, ptrs_length, List.length_replicate] at hsz ⊢
    rw [e1]
    rw [e2] at hsz
    omega) hcm
  have hro1 : (tblks (k.ts.take j ++ k.ts.drop (j + 1))).length = (k.ts.take j ++ k.ts.drop (j + 1)).length := by simp only [tblks, List.length_map]
  rw [hro1] at hro
  have hro2 : w2.ownsRow 0 103 1 (.slice (some ⟨g, 0, none⟩) (k.ts.take j ++ k.ts.drop (j + 1)).length c) (k.ts.take j ++ k.ts.drop (j + 1)).length (ptrs (tblks (k.ts.take j ++ k.ts.drop (j + 1)))) := by
    rw [hw2]
    exact owns_kept hro (Mod.setCell (F := [k.p]) _ _ _ (by simp)) (fun x hx => by simp [Value.ownBlock] at hx; subst hx; simpa using hgp)
  have hbF : ∀ s ∈ k.ts, s.blk ∉ [k.p, g] := fun s hs => by
    have hb : s.blk ∈ tblks k.ts := List.mem_map.2 ⟨s, hs, rfl⟩
    simp only [List.mem_cons, List.not_mem_nil, or_false, not_or]
    exact ⟨fun e => h1.1 (List.mem_append_right _ (e ▸ hb)), fun e => h2.2.2 g (by simp) _ hb e.symm⟩
  have hT2 : ∀ s ∈ k.ts.take j ++ k.ts.drop (j + 1), TgAt w2 s := fun s hs => (hl.things s (hmem s hs)).kept hm2 (hbF s (hmem s hs))
  refine ⟨k.ts.take j ++ k.ts.drop (j + 1), hperm, hlen, hp2, hro2, hT2, fun e w3 hfit => ?_⟩
  obtain ⟨b, _, hm3, hp3, n3, in3, ok3, no3⟩ := hfit
  have hro3 := owns_kept hro2 hm3 (fun x hx => by simp [Value.ownBlock] at hx; subst hx; simpa using hgp)
  have hnb : (tblks (k.ts.take j ++ k.ts.drop (j + 1))).Nodup := by
    have := (hperm.map Tg.blk).nodup_iff.2 h2.2.1
    exact (List.nodup_cons.1 this).2
  have hsub : ∀ x ∈ tblks (k.ts.take j ++ k.ts.drop (j + 1)), x ∈ tblks k.ts := fun x hx => by
    obtain ⟨s, hs, e⟩ := List.mem_map.1 hx
    exact List.mem_map.2 ⟨s, hmem s hs, e⟩
  refine .inl ⟨rfl, ⟨k.p, b, k.ts.take j ++ k.ts.drop (j + 1), k.p :: ([g] ++ tblks (k.ts.take j ++ k.ts.drop (j + 1))), (k.ts.take j ++ k.ts.drop (j + 1)).length⟩, ⟨_, ⟨hp3, hro3, rfl, fun s hs => (hT2 s hs).kept hm3 (fun hx => hbF s (hmem s hs) (by simp at hx; simp [hx])), rfl, ⟨?_, n3, fun s hs => in3 _ (List.mem_map.2 ⟨s, hs, rfl⟩), fun hne => ok3 (by simpa using hne), fun he => no3 (by
    have he' : k.ts.take j ++ k.ts.drop (j + 1) = [] := he
    rw [he']
    rfl)⟩⟩⟩, rfl, hperm, ?_, ?_, fun x hx => .inl ?_, ?_, ?_, ?_⟩
  · show (k.p :: ([g] ++ tblks (k.ts.take j ++ k.ts.drop (j + 1)))).Nodup
    refine List.nodup_cons.2 ⟨fun hx => ?_, List.nodup_append.2 ⟨by simp, hnb, fun a ha b' hb e => h2.2.2 a (by simpa using ha) b' (hsub _ hb) e⟩⟩
    rcases List.mem_append.1 hx with hx | hx
    · simp at hx; exact hgp hx.symm
    · exact h1.1 (List.mem_append_right _ (hsub _ hx))
  · show k.n ≤ (k.ts.take j ++ k.ts.drop (j + 1)).length + 1
    omega
  · show (k.ts.take j ++ k.ts.drop (j + 1)).length ≤ k.n
    omega
  · have hx' : x ∈ k.p :: ([g] ++ tblks (k.ts.take j ++ k.ts.drop (j + 1))) := hx
    rw [hF]
    rcases List.mem_cons.1 hx' with rfl | hx'
    · simp
    rcases List.mem_append.1 hx' with hx' | hx'
    · simp at hx'; simp [hx']
    · exact List.mem_cons_of_mem _ (List.mem_append_right _ (hsub _ hx'))
  · refine (hm2.trans (hm3.mono (by simp))).mono (fun x hx => ?_)
    rw [hF]
    simp only [List.mem_cons, List.not_mem_nil, or_false] at hx
    rcases hx with rfl | rfl <;> simp
  · have htm : t ∈ k.ts := hperm.mem_iff.1 (by simp)
    exact ((hl.things t htm).kept hm2 (hbF t htm)).kept hm3 (fun hx => hbF t htm (by simp at hx; simp [hx]))
  · have htm : t ∈ k.ts := hperm.mem_iff.1 (by simp)
    have hb := hbF t htm
    simp only [List.mem_cons, List.not_mem_nil, or_false, not_or] at hb
    have hnn := (hperm.map Tg.blk).nodup_iff.2 h2.2.1
    show t.blk ∉ k.p :: ([g] ++ tblks (k.ts.take j ++ k.ts.drop (j + 1)))
    intro hx
    rcases List.mem_cons.1 hx with e | hx
    · exact hb.1 e
    rcases List.mem_append.1 hx with hx | hx
    · simp at hx; exact hb.2 hx
    · exact (List.nodup_cons.1 hnn).1 hx

set_option maxRecDepth 100000 in
set_option maxHeartbeats 1000000 in
theorem drop_leaf {w : World} {fan lo : Nat} {k : Kd} {t : Tg} (hk : NodeAt w fan lo 0 k) (ht : TgAt w t) (hn : k.n ≤ 100) :
    Calls Tryz.prog 54 #[.pointer (some ⟨k.p, 0, none⟩), .pointer (some ⟨t.blk, 0, none⟩), .int .i64 fan] w (DropPost fan lo 0 k t w) := by
  obtain ⟨tv, hl⟩ := hk
  obtain ⟨c4, c5⟩ := cell_ndO hl.here
  have hidx : Calls Tryz.prog 84 #[tv, .pointer (some ⟨t.blk, 0, none⟩)] w (IdxPost k.ts t w) := by
    rcases ownV hl.row with ⟨rfl, h0⟩ | ⟨g, c, rfl⟩
    · have : k.ts = [] := List.eq_nil_of_length_eq_zero (by rw [hl.len]; exact h0)
      rw [this]
      exact index_nil t w
    · obtain ⟨rest, hro, _, _, _, _, _⟩ := owns_rowT hl.row
      have := index_some (w := w) (g := g) (c := c) (ts := k.ts) (t := t) (fun j p hp => rowO_get hro hp) hl.things ht (by rw [hl.len]; omega)
      rw [hl.len] at this
      exact this
  have HX := hideIt hidx
  have HL := hideIt hl
  clear hidx hl ht
  go_enter Tryz.func54, Tryz.ntmps54
  go_wp2_with fail
  refine HX.out.mono ?_
  rintro e w1 ⟨i, rfl, hi, rfl⟩
  rcases hi with ⟨rfl, hno⟩ | ⟨j, rfl, hj⟩
  · have HN := hideIt hno
    clear hno
    go_wp2_with fail
    go_loop [36] (fun i => i = .int .i64 0) (fun _ => 0)
    case atStart => rfl
    case round =>
      subst hrel
      go_wp2
      go_ret
      exact ⟨false, rfl, .inr ⟨rfl, HN.out, Mod.refl _ _⟩⟩
  · have hjl : j < k.n := by rw [← HL.out.len]; exact (List.getElem?_eq_some_iff.1 hj).1
    rcases ownV HL.out.row with ⟨_, h0⟩ | ⟨g, c, rfl⟩
    · omega
    obtain ⟨rest, hro, hnc, _, hlr, hsz, hcm⟩ := owns_rowT HL.out.row
    have hd := deleteT (w := w) (cap := c) (i := j) (j := j + 1) hro hlr (by omega) hnc (by omega) (by omega)
    rw [show ((j + 1 : Nat) : Int) = (j : Int) + 1 by omega] at hd
    have HD := hideIt hd
    have hge : (0 : Int) ≤ (j : Int) := by omega
    have hkn : k.n - (j + 1 - j) = k.n - 1 := by omega
    clear hro hd
    go_wp2_with fail
    refine HD.out.mono ?_
    rintro e w2 ⟨he, hm2, hr2⟩
    rw [hkn] at he
    subst he
    have hF := HL.out.foot
    have hnd := HL.out.ok.nodup
    rw [hF] at hnd
    have hgp : g ≠ k.p := fun e => (List.nodup_cons.1 hnd).1 (by rw [e]; simp [Value.ownBlock])
    have hp2 := (hm2.block k.p (lt_of_block HL.out.here) (by simpa using fun e => hgp e.symm)).trans HL.out.here
    obtain ⟨d4, _⟩ := cell_ndO hp2
    have f4 := frozen_of_block hp2 4
    obtain ⟨ts', q1, q2, q3, q4, q5, q6⟩ := dropLeafFin (fan := fan) (lo := lo) HL.out hj hsz hcm hm2 hr2 rfl
    have HQ := hideIt (And.intro q3 (And.intro q4 (And.intro q5 q6)))
    clear q1 q3 q4 q5 q6 hp2 hm2 hr2 hnd hF HD c4 c5
    go_wp2_with fail
    clear d4 f4
    generalize w2.setCell ⟨k.p, 4, none⟩ (.slice (some ⟨g, 0, none⟩) (k.n - 1) c) = w3 at *
    refine (fit_leaf HQ.out.1 HQ.out.2.1 HQ.out.2.2.1 (by omega)).mono ?_
    intro e w4 h4
    have hfin := HQ.out.2.2.2 e w4 h4
    obtain ⟨_, rfl, _⟩ := h4
    have HF := hideIt hfin
    clear hfin
    go_wp2
    go_ret
    exact ⟨true, rfl, HF.out⟩

end Go.Proofs.YtmfdlacmlnginaaGreat

