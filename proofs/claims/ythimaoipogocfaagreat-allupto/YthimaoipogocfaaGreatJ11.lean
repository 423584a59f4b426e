import Derived.Test.YthimaoipogocfaaGreatJ10
namespace Go.Proofs.YthimaoipogocfaaGreat
open Go.RowKit
attribute [local go_sem] run_store_f32 run_neg_inf

/-- the kids' blocks lie apart from the node's own -/
theorem apartK {w : World} {k : Kd} {g n cc : Nat} {ks : List Kd} (hi : InnerAt w k (.slice (some ⟨g, 0, none⟩) n cc) ks) : ∀ d ∈ ks, ∀ x ∈ d.F, x ∉ [k.p, g] := fun d hd x hx => by
  have hnd := hi.ok.nodup
  rw [hi.foot] at hnd
  simp only [Value.ownBlock] at hnd
  have h1 := List.nodup_cons.1 hnd
  have h2 := List.nodup_append.1 h1.2
  have hxF := mem_kF hd hx
  simp only [List.mem_cons, List.not_mem_nil, or_false, not_or]
  exact ⟨fun e => h1.1 (List.mem_append_right _ (e ▸ hxF)), fun e => h2.2.2 g (by simp) x hxF e.symm⟩

theorem kF_nodup {w : World} {k : Kd} {bv : Value} {ks : List Kd} (hi : InnerAt w k bv ks) : (kF ks).Nodup := by
  have hnd := hi.ok.nodup
  rw [hi.foot] at hnd
  exact (List.nodup_append.1 (List.nodup_cons.1 hnd).2).2.1

theorem mid_perm {l r a b : List Kd} {c j : Kd} (hab : l ++ r = a ++ j :: b) : (l ++ c :: r).Perm (c :: j :: (a ++ b)) := by
  refine List.perm_middle.trans (List.Perm.cons _ ?_)
  rw [hab]
  exact List.perm_middle

theorem apart2 {w : World} {k : Kd} {bv : Value} {l r a b : List Kd} {c j : Kd} (hi : InnerAt w k bv (l ++ c :: r)) (hab : l ++ r = a ++ j :: b) : (j.F ++ c.F).Nodup := by
  have h := (kF_perm (mid_perm (c := c) hab)).nodup_iff.1 (kF_nodup hi)
  have e : kF (c :: j :: (a ++ b)) = c.F ++ (j.F ++ kF (a ++ b)) := by simp [kF]
  rw [e] at h
  have h1 := List.nodup_append.1 h
  have h2 := List.nodup_append.1 h1.2.1
  exact List.nodup_append.2 ⟨h2.1, h1.1, fun x hx y hy e => h1.2.2 y hy x (List.mem_append_left _ hx) e.symm⟩

theorem kid_split {l r : List Kd} {i p : Nat} (h : (kblks (l ++ r))[i]? = some p) : ∃ a j b, l ++ r = a ++ j :: b ∧ j.p = p := kid_at h

set_option maxRecDepth 100000 in
set_option maxHeartbeats 2000000 in
theorem mend_leaf {w : World} {fan : Nat} {k : Kd} {g cc : Nat} {l r : List Kd} {c : Kd} (hi : InnerAt w k (.slice (some ⟨g, 0, none⟩) k.n cc) (l ++ c :: r)) (hK : ∀ d ∈ l ++ r, KidOk w fan (leastF fan) 0 d) (hc : NodeAt w fan (leastF fan) 0 c) (hcn : leastF fan ≤ c.n + 1) (hcf : c.n ≤ fan) (hk2 : 2 ≤ k.n) (hkf : k.n ≤ fan) (hf4 : 4 ≤ fan) (hf : fan ≤ 16) :
    Calls Tryz.prog 99 #[.pointer (some ⟨k.p, 0, none⟩), .int .i64 l.length, .int .i64 fan] w (MendPost fan (leastF fan) 0 k w) := by
  have hlo : leastF fan ≤ 6 ∧ 2 ≤ leastF fan ∧ 2 * leastF fan ≤ fan + 1 := by unfold leastF; omega
  have hl0 : 0 < leastF fan := by omega
  obtain ⟨_, c5⟩ := cell_ndO hi.here
  obtain ⟨rest, hro, hnc, _, hlr, hsz, hcm⟩ := owns_rowT hi.row
  have hll : l.length < k.n := by rw [← hi.len]; simp
  have cI := rowO_get hro (j := l.length) (p := c.p) (by simp [kblks])
  have hll' : (l.length : Int) < (k.n : Int) := by omega
  obtain ⟨tvc, hlc⟩ := hc
  have HC := hideIt (count_any hlc.here (ownV hlc.row) (.inl ⟨rfl, rfl⟩) (by omega))
  rw [Nat.add_zero] at HC
  have HI := hideIt hi
  have HK := hideIt hK
  have HLC := hideIt hlc
  have HSZ := hideIt (And.intro hsz hcm)
  have HRO := hideIt hro
  have HLR := hideIt hlr
  clear hi hK hlc hsz hcm hro hlr
  go_enter Tryz.func99, Tryz.ntmps99
  go_wp2_with fail
  refine HC.out.mono ?_
  rintro e w0 ⟨rfl, hm0⟩
  clear HC
  go_wp2_with fail
  refine (least_any fan hf _).mono ?_
  rintro e w0' ⟨rfl, rfl⟩
  by_cases hge : leastF fan ≤ c.n
  · have hge' : (leastF fan : Int) ≤ (c.n : Int) := by omega
    have hfin : MendPost fan (leastF fan) 0 k w (.returned (.tuple #[])) w0 := by
      have hlen := HI.out.len
      refine ⟨_, l ++ c :: r, rfl, (hm0.block _ (lt_of_block HI.out.here) (by simp)).trans HI.out.here, ?_, fun d hd => ?_, ?_, by omega, by omega, ?_, fun x hx => .inl ?_, hm0.nil⟩
      · rw [hlen]; exact owns_kept HI.out.row hm0 (by simp)
      · rcases List.mem_append.1 hd with h | h
        · exact (HK.out d (List.mem_append_left _ h)).kept hm0 (by simp)
        rcases List.mem_cons.1 h with rfl | h
        · exact KidOk.kept ⟨⟨_, HLC.out⟩, hge, hcf⟩ hm0 (by simp)
        · exact (HK.out d (List.mem_append_right _ h)).kept hm0 (by simp)
      · rw [HI.out.things]
      · have := HI.out.ok.nodup
        rw [HI.out.foot] at this
        exact this
      · rw [HI.out.foot]
        exact List.mem_cons_of_mem _ hx
    have HF := hideIt hfin
    clear hfin c5 cI
    go_wp2
    exact bodyPost_ret (v := .tuple #[]) (by simp [results, Tryz.results99, go_sem]) rfl HF.out
  · have hlt : ¬ ((leastF fan : Int) ≤ (c.n : Int)) := by omega
    have hd := deleteN (w := w0) (cap := cc) (i := l.length) (j := l.length + 1) ((hm0.block _ (lt_of_block HRO.out) (by simp)).trans HRO.out) HLR.out (by omega) hnc (by omega) (by omega)
    rw [show ((l.length + 1 : Nat) : Int) = (l.length : Int) + 1 by omega] at hd
    have HD := hideIt hd
    have c50 := cell_mod hm0 c5
    have HI0 := hideIt (HI.out.kept hm0 (by simp))
    have HK0 := hideIt (fun d hd => (HK.out d hd).kept hm0 (by simp))
    have HLC0 := hideIt (HLC.out.kept hm0 (by simp))
    have HM0 := hideIt hm0
    clear hd c5 cI HRO hm0
    go_wp2_with fail
    refine HD.out.mono ?_
    rintro e w1 ⟨he, hm1, hr1⟩
    rw [show k.n - (l.length + 1 - l.length) = k.n - 1 by omega] at he
    subst he
    obtain ⟨q1, q2, q3, q4, q5, q6⟩ := outRow HI0.out HSZ.out.1 HSZ.out.2 hm1 hr1
    obtain ⟨_, d5⟩ := cell_ndO q5
    have f5 := frozen_of_block q5 5
    have HQ := hideIt (And.intro q2 (And.intro q3 q4))
    clear q2 q3 q4 q5 hm1 hr1 HD c50
    go_wp2_with fail
    clear d5 f5
    generalize w1.setCell ⟨k.p, 5, none⟩ (.slice (some ⟨g, 0, none⟩) (k.n - 1) cc) = w2 at *
    have hap := apartK HI0.out
    have hm02 := HQ.out.2.2
    have HK2 := hideIt (fun d hd => (HK0.out d hd).kept hm02 (hap d (by
      rcases List.mem_append.1 hd with h | h
      · exact List.mem_append_left _ h
      · exact List.mem_append_right _ (List.mem_cons_of_mem _ h))))
    have HLC2 := hideIt (HLC0.out.kept hm02 (hap c (by simp)))
    have hcne : c.ts ≠ [] := fun e => by
      have := HLC.out.len
      rw [e] at this
      simp at this
      omega
    have hcok := HLC.out.ok.ok hcne
    obtain ⟨rest2, hro2, hnc2, _, hlr2, _, _⟩ := owns_rowT HQ.out.2.1
    have HCL := hideIt (fun W (hW : Mod [] w2 W) => closest_any (w := W) (blk := g) (n := k.n - 1) (cap := cc) (ps := kblks (l ++ r)) (bx := kxAt (l ++ r)) (c := c.bx) (fun j p hp => cell_mod hW (rowO_get hro2 hp)) hlr2 (by omega) (by omega) (kxAt_row (fun d hd => (HK2.out d hd).kept hW (by simp)) hl0) hcok)
    obtain ⟨_, e5⟩ := cell_ndO HQ.out.1
    obtain ⟨b0, b1, b2, b3⟩ := cell_bxC HLC2.out.here
    clear hm02 hro2
    go_region_held (fun w' => w'.cell? ⟨k.p, 5, none⟩ = some (.slice (some ⟨g, 0, none⟩) (k.n - 1) cc) ∧ w'.cell? ⟨c.p, 0, none⟩ = some (.float .f32 c.bx.x0) ∧ w'.cell? ⟨c.p, 1, none⟩ = some (.float .f32 c.bx.y0) ∧ w'.cell? ⟨c.p, 2, none⟩ = some (.float .f32 c.bx.x1) ∧ w'.cell? ⟨c.p, 3, none⟩ = some (.float .f32 c.bx.y1))
      ((first
        | exact ⟨cell_mod hmc (by simp only [*]), cell_mod hmc (by simp only [*]), cell_mod hmc (by simp only [*]), cell_mod hmc (by simp only [*]), cell_mod hmc (by simp only [*])⟩
        | exact ⟨cell_mod hm (by simp only [*]), cell_mod hm (by simp only [*]), cell_mod hm (by simp only [*]), cell_mod hm (by simp only [*]), cell_mod hm (by simp only [*])⟩
        | exact ⟨cell_mod (Mod.drew _) (by simp only [*]), cell_mod (Mod.drew _) (by simp only [*]), cell_mod (Mod.drew _) (by simp only [*]), cell_mod (Mod.drew _) (by simp only [*]), cell_mod (Mod.drew _) (by simp only [*])⟩))
      ((first
        | (go_at_call 69; refine (edges_any ⟨_, _, _, _⟩ _).mono ?_; rintro e w' ⟨rfl, hm⟩)
        | (go_at_call 106; refine (HCL.out _ ((Mod.drew w2).trans hm)).mono ?_; rintro e w3 ⟨i, p, hip, rfl, hmc⟩; obtain ⟨a, j, b, hab, rfl⟩ := kid_split hip)))
    rename_i hheld
    have hm23 : Mod [] w2 w3 := ((Mod.drew w2).trans hm).trans hmc
    have hjm : j ∈ l ++ r := by rw [hab]; simp
    obtain ⟨tvj, hlj0⟩ := (HK2.out j hjm).1
    have hjn := (HK2.out j hjm).2.1
    have hjf := (HK2.out j hjm).2.2
    have hlj := hlj0.kept hm23 (by simp)
    have hlc := HLC2.out.kept hm23 (by simp)
    have hdj := apart2 HI0.out hab
    rcases ownV hlj.row with ⟨_, h0⟩ | ⟨gj, cj, rfl⟩
    · omega
    rcases ownV hlc.row with ⟨_, h0⟩ | ⟨gc, cz, rfl⟩
    · omega
    obtain ⟨j4, j5⟩ := cell_ndO hlj.here
    obtain ⟨p4, p5⟩ := cell_ndO hlc.here
    have hjfr := frozen_of_block hlj.here 4
    obtain ⟨i0, hi0, hz0, hz1, hz2⟩ := info_partsT infoT
    have HOJ := hideIt (show w3.drew.ownsRow 0 113 1 (.slice (some ⟨gj, 0, none⟩) j.n cj) j.n (ptrs (tblks j.ts)) from hlj.row)
    have HSC := hideIt (show srcRow w3.drew 1 (.slice (some ⟨gc, 0, none⟩) c.n cz) c.n (ptrs (tblks c.ts)) from srcRow_of_owns hlc.row (ptrs_oneT _))
    have hgjp : gj ≠ j.p := fun e => by
      have hnd := hlj.ok.nodup
      rw [hlj.foot] at hnd
      exact (List.nodup_cons.1 hnd).1 (by rw [e]; simp [Value.ownBlock])
    have HJ4 := hideIt (fun w4 (hm4 : Mod [gj] w3.drew w4) => (hm4.block j.p (lt_of_block hlj.here) (by simpa using fun e => hgjp e.symm)).trans hlj.here)
    have HLJ := hideIt hlj
    have HLC3 := hideIt hlc
    have HM23 := hideIt hm23
    have HDJ := hideIt hdj
    clear hheld hm hmc hm23 hlj hlc hdj hlj0 HCL e5 b0 b1 b2 b3 hip
    go_wp2_with fail
    go_region_law (refine step_append_rows _ rfl _ _ 123 rfl 0 113 i0 (.pointer none) 1 8 Tryz.underlying123 hi0 hz0 hz1 hz2 rfl (by decide) _ j.n (ptrs (tblks j.ts)) rfl HOJ.out _ c.n (ptrs (tblks c.ts)) rfl HSC.out (by omega) (by unfold maxLen; omega) (by omega) (Nat.zero_le _) ?_; intro g5 c5 w4 ho4 hm4 hat4; have hp4 := HJ4.out w4 hm4; have hc4 := (cell_ndO hp4).1; have hf4 := frozen_of_block hp4 4)
    all_goals
      have hcj : c.p ≠ j.p := fun e => (List.nodup_append.1 HDJ.out).2.2 j.p (by rw [HLJ.out.foot]; simp) c.p (by rw [HLC3.out.foot]; simp) e.symm
      have hcgj : c.p ≠ gj := fun e => (List.nodup_append.1 HDJ.out).2.2 gj (by rw [HLJ.out.foot]; simp [Value.ownBlock]) c.p (by rw [HLC3.out.foot]; simp) e.symm
      have hm34 : Mod [gj] w3 w4 := (Mod.drew w3).trans hm4
      have hc4' := (hm34.block c.p (lt_of_block HLC3.out.here) (by simpa using hcgj)).trans HLC3.out.here
      have hp5 := ndO_set4 hp4 (.slice (some ⟨g5, 0, none⟩) (j.n + c.n) c5)
      have hc5' := (block_setCell_other hcj 4 (.slice (some ⟨g5, 0, none⟩) (j.n + c.n) c5)).trans hc4'
      have hg5 : g5 = gj ∨ w3.heap.size ≤ g5 := by
        rcases hat4 with h | h
        · exact .inl (Option.some.inj (show some gj = some g5 from h)).symm
        · exact .inr (by rw [h]; exact Nat.le_refl _)
      have hm45 : Mod [j.p] w4 (w4.setCell ⟨j.p, 4, none⟩ (.slice (some ⟨g5, 0, none⟩) (j.n + c.n) c5)) := Mod.setCell _ _ _ (by simp)
      have HO4 := hideIt ho4
      have HM34 := hideIt hm34
      have HM45 := hideIt hm45
      have HP5 := hideIt hp5
      have x5 := (cell_ndO hp5).2
      have y5 := (cell_ndO hc5').2
      have z5 := frozen_of_block hp5 5
      clear ho4 hm4 hat4 hp4 hc4 hf4 hm34 hm45 hp5 hc4' hc5' j4 j5 p4 p5 hjfr HOJ HSC HJ4
      generalize w4.setCell ⟨j.p, 4, none⟩ (.slice (some ⟨g5, 0, none⟩) (j.n + c.n) c5) = w5 at *
      go_wp2_with fail
      go_region
      all_goals
        have hp6 : (w5.setCell ⟨j.p, 5, none⟩ (.slice none 0 0)).drew.heap[j.p]? = some (ndO j.bx (.slice (some ⟨g5, 0, none⟩) (j.n + c.n) c5) (.slice none 0 0)) := ndO_set5 HP5.out (.slice none 0 0)
        have hm46 : Mod [j.p] w4 (w5.setCell ⟨j.p, 5, none⟩ (.slice none 0 0)).drew := (HM45.out.trans (Mod.setCell _ _ _ (by simp))).trans (Mod.drew _)
        obtain ⟨s1, s2, s3, s4⟩ := joinLeaf (w6 := (w5.setCell ⟨j.p, 5, none⟩ (.slice none 0 0)).drew) HLJ.out HLC3.out HDJ.out HM34.out HO4.out hg5 hm46 hp6
        have HS := hideIt (And.intro hp6 (And.intro s2 (And.intro s3 s4)))
        clear hp6 hm46 s2 s3 s4 x5 y5 z5 HP5 HM45 HO4 hg5
        generalize (w5.setCell ⟨j.p, 5, none⟩ (.slice none 0 0)).drew = w6 at *
        go_wp2_with fail
        refine (fit_leaf HS.out.1 HS.out.2.1 HS.out.2.2.1 (by omega)).mono ?_
        intro e w7 h7
        obtain ⟨b7, hJ, hJF, hJm⟩ := HS.out.2.2.2 e w7 (by omega) h7
        obtain ⟨_, rfl, _⟩ := h7
        have HJ := hideIt hJ
        have HJF := hideIt hJF
        have HJM := hideIt hJm
        clear hJ hJF hJm HS
        go_wp2_with fail
        refine (cut_leaf HJ.out (by show j.n + c.n ≤ 21; omega) hf4 hf).mono ?_
        intro e w8 h8
        have hgj' : g ∉ j.F := fun hx => apartK HI0.out j (by
          have : j ∈ a ++ j :: b := by simp
          rw [← hab] at this
          rcases List.mem_append.1 this with h | h
          · exact List.mem_append_left _ h
          · exact List.mem_append_right _ (List.mem_cons_of_mem _ h)) g hx (by simp)
        have hKa : ∀ d ∈ j :: (a ++ b), KidOk w fan (leastF fan) 0 d := fun d hd => HK.out d (by
          rw [hab]
          rcases List.mem_cons.1 hd with rfl | hd
          · simp
          rcases List.mem_append.1 hd with h | h
          · simp [h]
          · simp [h])
        have hm2 : Mod [k.p, g] w w2 := HM0.out.nil.trans HQ.out.2.2
        have hz23 := HM23.out.size
        have hjp : j.p ∈ j.F := by rw [HLJ.out.foot]; simp
        have hkp : k.p ∈ k.F := by rw [HI.out.foot]; simp
        have hgF : g ∈ k.F := by rw [HI.out.foot]; simp [Value.ownBlock]
        have hln : a.length + b.length + 1 = k.n - 1 := by
          have := congrArg List.length hab
          simp at this
          have := HI.out.len
          simp at this
          omega
        rcases h8 with ⟨hle8, rfl, hm8⟩ | ⟨hgt8, J1, J2, rfl, b1, b2, b3, b4, b5, b6, b7', b8, b9, hm8⟩
        · have hm28 : Mod j.F w2 w8 := (HM23.out.nil.trans HJM.out).trans hm8.nil
          have hX := midX (w8 := w8) (N := [⟨j.p, b7, j.ts ++ c.ts, j.p :: ([g5] ++ tblks (j.ts ++ c.ts)), j.n + c.n⟩]) HI.out (mid_perm hab) hKa ⟨_, HLC.out⟩ HQ.out.1 hm2 hm28 (fun d hd => by
            simp at hd
            subst hd
            exact ⟨⟨_, HJ.out.kept hm8 (by simp)⟩, by show leastF fan ≤ j.n + c.n; omega, hle8⟩) (by simp [kts]) (by simpa [kF] using HJ.out.ok.nodup) (fun x hx => by
            rcases HJF.out x (by simpa [kF] using hx) with h | h
            · exact .inl h
            · exact .inr (by omega))
          have hfin := hX.mend (ks' := a ++ ⟨j.p, b7, j.ts ++ c.ts, j.p :: ([g5] ++ tblks (j.ts ++ c.ts)), j.n + c.n⟩ :: b) (List.perm_middle.trans (List.perm_append_singleton _ (a ++ b)).symm) (by
            have e1 : kblks (a ++ ⟨j.p, b7, j.ts ++ c.ts, j.p :: ([g5] ++ tblks (j.ts ++ c.ts)), j.n + c.n⟩ :: b) = kblks (l ++ r) := by rw [hab]; simp [kblks]
            have e2 : (a ++ (⟨j.p, b7, j.ts ++ c.ts, j.p :: ([g5] ++ tblks (j.ts ++ c.ts)), j.n + c.n⟩ : Kd) :: b).length = k.n - 1 := by simp; omega
            rw [e1, e2]
            exact owns_kept HQ.out.2.1 hm28 (fun x hx => by simp [Value.ownBlock] at hx; subst hx; exact hgj')) (by simp; omega) (by simp; omega) (fun x hx => by simp [Value.ownBlock] at hx; subst hx; exact .inl hgF)
          have HF := hideIt hfin
          clear hX hfin hm28 hm8 hm2
          go_wp2
          exact bodyPost_ret (v := .tuple #[]) (by simp [results, Tryz.results99, go_sem]) rfl HF.out
        · have hm28 : Mod j.F w2 w8 := (HM23.out.nil.trans HJM.out).trans (hm8.mono (by simpa using hjp))
          have hX := midX (w8 := w8) (N := [J1, J2]) HI.out (mid_perm hab) hKa ⟨_, HLC.out⟩ HQ.out.1 hm2 hm28 (fun d hd => by
            have hbb : J1.n + J2.n = j.n + c.n := b7'
            simp at hd
            rcases hd with rfl | rfl
            · exact ⟨b1, b5, by omega⟩
            · exact ⟨b2, b6, by omega⟩) (by simpa [kts] using b4) (by simpa [kF] using b8) (fun x hx => by
            rcases b9 x (by simpa [kF] using hx) with h | h
            · rcases HJF.out x h with h | h
              · exact .inl h
              · exact .inr (by omega)
            · have := HJM.out.size
              exact .inr (by omega))
          have hrow8 := owns_kept HQ.out.2.1 hm28 (fun x hx => by simp [Value.ownBlock] at hx; subst hx; exact hgj')
          have hz8 : w.heap.size ≤ w8.heap.size := Nat.le_trans hm2.size hm28.size
          obtain ⟨_, u5⟩ := cell_ndO hX.here
          have hplt := lt_of_block hX.here
          obtain ⟨i1, hi1, hy0, hy1, hy2⟩ := info_partsT infoN
          have hsrc : srcRow (w8.alloc (.cells #[.pointer (some ⟨J2.p, 0, none⟩)] 115)) 1 (.slice (some ⟨w8.heap.size, 0, none⟩) 1 1) 1 (ptrs [J2.p]) :=
            srcRow_of_owns (owns_allocT (w := w8) (cur := #[.pointer (some ⟨J2.p, 0, none⟩)]) (e := 115) (n := 1) (size := 1) rfl (by decide) (base := 0) (Nat.zero_le _)) (ptrs_oneT [J2.p])
          have hown := hrow8.alloc (.cells #[.pointer (some ⟨J2.p, 0, none⟩)] 115)
          have HSRC := hideIt hsrc
          have HOWN := hideIt hown
          have HX := hideIt hX
          have HB3 := hideIt b3
          clear hX hsrc hown hrow8 hm28 hm8 hm2 b1 b2 b3 b4 b8 b9
          go_wp2_with (at_builtin; refine wpList_append_rows _ rfl _ _ 124 rfl 0 115 i1 (.pointer none) 1 8 Tryz.underlying124 hi1 hy0 hy1 hy2 rfl (by decide) _ (k.n - 1) (ptrs (kblks (l ++ r))) rfl HOWN.out _ 1 (ptrs [J2.p]) rfl HSRC.out (by omega) (by unfold maxLen; omega) (by omega) (by simp) ?_)
          intro g9 c9 w9 ho9 hm9 hat9
          have hm89 : Mod [g] w8 w9 := (Mod.alloc w8 _).trans hm9
          have hp9 := (hm89.block k.p hplt (by simpa using fun e => q6 e.symm)).trans HX.out.here
          obtain ⟨_, v5⟩ := cell_ndO hp9
          have v6 := frozen_of_block hp9 5
          have hg9 : g9 = g ∨ w8.heap.size ≤ g9 := by
            rcases hat9 with h | h
            · simp [Value.ownBlock] at h; exact .inl h.symm
            · exact .inr (by omega)
          obtain ⟨hX9, hgin⟩ := HX.out.grown (m := k.n - 1 + 1) (c5 := c9) hgF hkp hm89 hg9 hz8
          have hg9p : g9 ≠ k.p := by
            have hnd7 := hX9.nodup
            simp only [Value.ownBlock] at hnd7
            exact fun e => (List.nodup_cons.1 hnd7).1 (by rw [e]; simp)
          have hrow9 := owns_kept ho9 (Mod.setCell (F := [k.p]) w9 ⟨k.p, 5, none⟩ (.slice (some ⟨g9, 0, none⟩) (k.n - 1 + 1) c9) (by simp)) (fun x hx => by simp [Value.ownBlock] at hx; subst hx; simpa using hg9p)
          have hfin := hX9.mend (ks' := a ++ J1 :: b ++ [J2]) (by
            have y1 : (a ++ J1 :: b ++ [J2]).Perm (J1 :: (a ++ b) ++ [J2]) := List.Perm.append_right _ List.perm_middle
            have y2 : (J1 :: (a ++ b) ++ [J2]).Perm ((a ++ b ++ [J1]) ++ [J2]) := List.Perm.append_right _ (List.perm_append_singleton J1 (a ++ b)).symm
            exact (y1.trans y2).trans (by simp)) (by
            have e1 : kblks (a ++ J1 :: b ++ [J2]) = kblks (a ++ j :: b) ++ [J2.p] := by
              have hb3 : J1.p = j.p := HB3.out
              simp [kblks, hb3]
            have e2 : (a ++ J1 :: b ++ [J2]).length = k.n - 1 + 1 := by simp; omega
            rw [e1, e2, ptrs_append]
            exact hrow9) (by simp; omega) (by simp; omega) (fun x hx => by
            simp [Value.ownBlock] at hx
            exact hgin x hx.symm)
          have HF := hideIt hfin
          clear hX9 hgin hfin hrow9 hp9 hm89 hm9 ho9 hat9 HSRC HOWN HX u5
          go_wp2
          exact bodyPost_ret (v := .tuple #[]) (by simp [results, Tryz.results99, go_sem]) rfl HF.out

end Go.Proofs.YthimaoipogocfaaGreat

namespace Go.Proofs.YthimaoipogocfaaGreat
open Go.RowKit

/-- two inner nodes in one, ahead of the box -/
theorem joinInner {w3 w4 w6 : World} {fan lo h : Nat} {j c : Kd} {js cs : List Kd} {gj cj g5 c5 : Nat} {tvc : Value} (hj : InnerAt w3 j (.slice (some ⟨gj, 0, none⟩) j.n cj) js) (hjK : ∀ d ∈ js, KidOk w3 fan lo h d) (hc : InnerAt w3 c tvc cs) (hcK : ∀ d ∈ cs, KidOk w3 fan lo h d) (hnd : (j.F ++ c.F).Nodup) (hm4 : Mod [gj] w3 w4) (ho : w4.ownsRow 0 115 1 (.slice (some ⟨g5, 0, none⟩) (j.n + c.n) c5) (j.n + c.n) (catL (ptrs (kblks js)) (ptrs (kblks cs))))
    (hg5 : g5 = gj ∨ w3.heap.size ≤ g5) (hm6 : Mod [j.p] w4 w6) (hp6 : w6.heap[j.p]? = some (ndO j.bx (.slice none 0 0) (.slice (some ⟨g5, 0, none⟩) (j.n + c.n) c5))) :
    (js ++ cs).length = j.n + c.n ∧ w6.ownsRow 0 115 1 (.slice (some ⟨g5, 0, none⟩) (j.n + c.n) c5) (js ++ cs).length (ptrs (kblks (js ++ cs))) ∧ (∀ d ∈ js ++ cs, KidOk w6 fan lo h d) ∧ (∀ d ∈ js ++ cs, d.p ≠ j.p) ∧ g5 ≠ j.p ∧
    ∀ e w7, 0 < j.n → 0 < lo → FitPost j.p (.slice none 0 0) (.slice (some ⟨g5, 0, none⟩) (j.n + c.n) c5) ((js ++ cs).map Kd.bx) w6 e w7 → ∃ b, InnerAt w7 ⟨j.p, b, kts (js ++ cs), j.p :: ([g5] ++ kF (js ++ cs)), j.n + c.n⟩ (.slice (some ⟨g5, 0, none⟩) (j.n + c.n) c5) (js ++ cs) ∧ (∀ d ∈ js ++ cs, KidOk w7 fan lo h d) ∧ (∀ x ∈ j.p :: ([g5] ++ kF (js ++ cs)), (x ∈ j.F ∨ x ∈ c.F) ∨ w3.heap.size ≤ x) ∧ Mod j.F w3 w7 := by
  have hjF := hj.foot
  simp only [Value.ownBlock] at hjF
  have hcF := hc.foot
  have hd := List.nodup_append.1 hnd
  have hd1 := hd.1
  rw [hjF] at hd1
  have a1 := List.nodup_cons.1 hd1
  have a2 := List.nodup_append.1 a1.2
  have hgp : gj ≠ j.p := fun e => a1.1 (by rw [e]; simp)
  have hjp : j.p ∈ j.F := by rw [hjF]; simp
  have hgjF : gj ∈ j.F := by rw [hjF]; simp
  have hct : ∀ x ∈ kF cs, x ∈ c.F := fun x hx => by rw [hcF]; exact List.mem_cons_of_mem _ (List.mem_append_right _ hx)
  have hjt : ∀ x ∈ kF js, x ∈ j.F := fun x hx => by rw [hjF]; exact List.mem_cons_of_mem _ (List.mem_append_right _ hx)
  have hcn : (kF cs).Nodup := by
    have := hc.ok.nodup
    rw [hcF] at this
    exact (List.nodup_append.1 (List.nodup_cons.1 this).2).2.1
  have hlen : (js ++ cs).length = j.n + c.n := by rw [List.length_append, hj.len, hc.len]
  have hltj : ∀ x ∈ j.F, x < w3.heap.size := NodeAt.lt (fan := fan) (lo := lo) (h := h + 1) ⟨_, js, hj, hjK⟩
  have hltc : ∀ x ∈ c.F, x < w3.heap.size := NodeAt.lt (fan := fan) (lo := lo) (h := h + 1) ⟨_, cs, hc, hcK⟩
  have hg5p : g5 ≠ j.p := by
    rcases hg5 with e | e
    · rw [e]; exact hgp
    · have := hltj _ hjp; omega
  have hall : ∀ x ∈ kF (js ++ cs), (x ∈ kF js ∨ x ∈ kF cs) := fun x hx => by
    rw [kF_append] at hx
    exact List.mem_append.1 hx
  have hm36 : Mod [j.p, gj] w3 w6 := (hm4.mono (by simp)).trans (hm6.mono (by simp))
  have hout : ∀ x ∈ kF (js ++ cs), x ∉ [j.p, gj] := fun x hx => by
    simp only [List.mem_cons, List.not_mem_nil, or_false, not_or]
    rcases hall x hx with h | h
    · exact ⟨fun e => a1.1 (List.mem_append_right _ (e ▸ h)), fun e => a2.2.2 gj (by simp) x h e.symm⟩
    · exact ⟨fun e => hd.2.2 j.p hjp x (hct x h) e.symm, fun e => hd.2.2 gj hgjF x (hct x h) e.symm⟩
  have hT : ∀ d ∈ js ++ cs, KidOk w6 fan lo h d := fun d hd => by
    have h3 : KidOk w3 fan lo h d := by
      rcases List.mem_append.1 hd with h | h
      · exact hjK d h
      · exact hcK d h
    exact h3.kept hm36 (fun x hx => hout _ (mem_kF hd hx))
  have hdp : ∀ d ∈ js ++ cs, d.p ≠ j.p := fun d hd e => hout _ (mem_kF hd (hT d hd).1.p_mem) (by simp [e])
  have hrow : w6.ownsRow 0 115 1 (.slice (some ⟨g5, 0, none⟩) (j.n + c.n) c5) (js ++ cs).length (ptrs (kblks (js ++ cs))) := by
    have ek : kblks (js ++ cs) = kblks js ++ kblks cs := by simp [kblks]
    rw [hlen, ek, ptrs_append]
    exact owns_kept ho hm6 (fun x hx => by simp [Value.ownBlock] at hx; subst hx; simpa using hg5p)
  refine ⟨hlen, hrow, hT, hdp, hg5p, fun e w7 h0 hlo hfit => ?_⟩
  obtain ⟨b, _, hm7, hp7, n7, in7, ok7, _⟩ := hfit
  have hT7 : ∀ d ∈ js ++ cs, KidOk w7 fan lo h d := fun d hd => (hT d hd).kept hm7 (fun x hx hxc => hout _ (mem_kF hd hx) (by simp at hxc; simp [hxc]))
  have hne0 : js ++ cs ≠ [] := fun e => by
    rw [e] at hlen
    simp at hlen
    omega
  have hne := kts_ne hne0 hT7 hlo
  refine ⟨b, ⟨hp7, ?_, hlen, rfl, rfl, ⟨?_, n7, fun t ht => ?_, fun _ => ok7 (by simpa using hne0), fun e => absurd e hne⟩⟩, hT7, fun x hx => ?_, ?_⟩
  · have := owns_kept hrow hm7 (fun x hx => by simp [Value.ownBlock] at hx; subst hx; simpa using hg5p)
    rw [hlen] at this
    exact this
  · show (j.p :: ([g5] ++ kF (js ++ cs))).Nodup
    refine List.nodup_cons.2 ⟨fun hx => ?_, List.nodup_append.2 ⟨by simp, ?_, fun a ha b' hb e => ?_⟩⟩
    · rcases List.mem_append.1 hx with hx | hx
      · simp at hx; exact hg5p hx.symm
      · exact hout _ hx (by simp)
    · rw [kF_append]
      exact List.nodup_append.2 ⟨a2.2.1, hcn, fun x hx y hy e => hd.2.2 x (hjt x hx) y (hct y hy) e⟩
    · simp at ha
      subst ha e
      rcases hg5 with e | e
      · exact hout _ hb (by simp [e])
      · rcases hall _ hb with h | h
        · have := hltj _ (hjt _ h); omega
        · have := hltc _ (hct _ h); omega
  · obtain ⟨d, hd, htd⟩ := List.mem_flatMap.1 ht
    exact ((hT7 d hd).1.ok.cover t htd).trans (in7 _ (List.mem_map.2 ⟨d, hd, rfl⟩))
  · rcases List.mem_cons.1 hx with rfl | hx
    · exact .inl (.inl hjp)
    rcases List.mem_append.1 hx with hx | hx
    · simp at hx
      subst hx
      rcases hg5 with e | e
      · exact .inl (.inl (e ▸ hgjF))
      · exact .inr e
    · rcases hall x hx with h | h
      · exact .inl (.inl (hjt x h))
      · exact .inl (.inr (hct x h))
  · refine (hm36.trans (hm7.mono (by simp))).mono (fun x hx => ?_)
    simp only [List.mem_cons, List.not_mem_nil, or_false] at hx
    rcases hx with rfl | rfl
    · exact hjp
    · exact hgjF

end Go.Proofs.YthimaoipogocfaaGreat

