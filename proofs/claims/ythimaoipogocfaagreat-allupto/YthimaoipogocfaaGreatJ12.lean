import Derived.Test.YthimaoipogocfaaGreatJ11
import Derived.Shelf.SlSortCmp.QuietGrown
namespace Go.Proofs.YthimaoipogocfaaGreat
open Go.RowKit
attribute [local go_sem] run_store_f32 run_neg_inf

theorem node_ne {w : World} {fan lo h : Nat} {k : Kd} (hk : NodeAt w fan lo h k) (h0 : 0 < lo) (hn : 0 < k.n) : k.ts ≠ [] := fun e => by
  have := (NodeAt.size hk).1
  rw [e] at this
  have hp : 0 < k.n * lo ^ h := Nat.mul_pos hn (Nat.pow_pos h0)
  simp at this
  omega

/-- a node whose block was written over with what it held -/
theorem sameInner {w w' : World} {fan lo h : Nat} {k : Kd} {bv : Value} {ks : List Kd} (hi : InnerAt w k bv ks) (hK : ∀ d ∈ ks, KidOk w fan lo h d) (hm : Mod [k.p] w w') (hp : w'.heap[k.p]? = some (ndO k.bx (.slice none 0 0) bv)) : InnerAt w' k bv ks ∧ ∀ d ∈ ks, KidOk w' fan lo h d := by
  have hnd := hi.ok.nodup
  rw [hi.foot] at hnd
  have h1 := List.nodup_cons.1 hnd
  refine ⟨⟨hp, owns_kept hi.row hm (fun x hx => ?_), hi.len, hi.things, hi.foot, hi.ok⟩, fun d hd => (hK d hd).kept hm (fun x hx => ?_)⟩
  · simp only [List.mem_singleton]
    exact fun e => h1.1 (List.mem_append_left _ (by rw [hx, ← e]; simp))
  · simp only [List.mem_singleton]
    exact fun e => h1.1 (List.mem_append_right _ (e ▸ mem_kF hd hx))

set_option maxRecDepth 100000 in
set_option maxHeartbeats 2000000 in
theorem mend_inner {w : World} {fan h : Nat} {k : Kd} {g cc : Nat} {l r : List Kd} {c : Kd} (hi : InnerAt w k (.slice (some ⟨g, 0, none⟩) k.n cc) (l ++ c :: r)) (hK : ∀ d ∈ l ++ r, KidOk w fan (leastF fan) (h + 1) d) (hc : NodeAt w fan (leastF fan) (h + 1) c) (hcn : leastF fan ≤ c.n + 1) (hcf : c.n ≤ fan) (hk2 : 2 ≤ k.n) (hkf : k.n ≤ fan) (hf4 : 4 ≤ fan) (hf : fan ≤ 16) :
    Calls Tryz.prog 99 #[.pointer (some ⟨k.p, 0, none⟩), .int .i64 l.length, .int .i64 fan] w (MendPost fan (leastF fan) (h + 1) k w) := by
  have hlo : leastF fan ≤ 6 ∧ 2 ≤ leastF fan ∧ 2 * leastF fan ≤ fan + 1 := by unfold leastF; omega
  have hl0 : 0 < leastF fan := by omega
  obtain ⟨_, c5⟩ := cell_ndO hi.here
  obtain ⟨rest, hro, hnc, _, hlr, hsz, hcm⟩ := owns_rowT hi.row
  have hll : l.length < k.n := by rw [← hi.len]; simp
  have cI := rowO_get hro (j := l.length) (p := c.p) (by simp [kblks])
  have hll' : (l.length : Int) < (k.n : Int) := by omega
  have hcne := node_ne hc hl0 (by omega)
  obtain ⟨tvc, cs, hlc, hcK0⟩ := hc
  have hcK : ∀ d ∈ cs, KidOk w fan (leastF fan) h d := hcK0
  have HCK := hideIt hcK
  have HCNE := hideIt hcne
  clear hcK0 hcK hcne
  have HC := hideIt (count_any hlc.here (.inl ⟨rfl, rfl⟩) (ownV hlc.row) (by omega))
  rw [Nat.zero_add] at HC
  have HI := hideIt hi
  have HK := hideIt hK
  have HLC := hideIt hlc
  have HSZ := hideIt (And.intro hsz hcm)
  have HRO := hideIt hro
  have HLR := hideIt hlr
  clear hi hK hlc hsz hcm hro hlr
  go_enter Tryz.func99, Tryz.ntmps99
  go_wp2_with fail
  refine HC.out.mono ?_
  rintro e w0 ⟨rfl, hm0⟩
  clear HC
  go_wp2_with fail
  refine (least_any fan hf _).mono ?_
  rintro e w0' ⟨rfl, rfl⟩
  by_cases hge : leastF fan ≤ c.n
  · have hge' : (leastF fan : Int) ≤ (c.n : Int) := by omega
    have hfin : MendPost fan (leastF fan) (h + 1) k w (.returned (.tuple #[])) w0 := by
      have hlen := HI.out.len
      refine ⟨_, l ++ c :: r, rfl, (hm0.block _ (lt_of_block HI.out.here) (by simp)).trans HI.out.here, ?_, fun d hd => ?_, ?_, by omega, by omega, ?_, fun x hx => .inl ?_, hm0.nil⟩
      · rw [hlen]; exact owns_kept HI.out.row hm0 (by simp)
      · rcases List.mem_append.1 hd with h | h
        · exact (HK.out d (List.mem_append_left _ h)).kept hm0 (by simp)
        rcases List.mem_cons.1 h with rfl | h
        · exact KidOk.kept ⟨⟨_, cs, HLC.out, HCK.out⟩, hge, hcf⟩ hm0 (by simp)
        · exact (HK.out d (List.mem_append_right _ h)).kept hm0 (by simp)
      · rw [HI.out.things]
      · have := HI.out.ok.nodup
        rw [HI.out.foot] at this
        exact this
      · rw [HI.out.foot]
        exact List.mem_cons_of_mem _ hx
    have HF := hideIt hfin
    clear hfin c5 cI
    go_wp2
    exact bodyPost_ret (v := .tuple #[]) (by simp [results, Tryz.results99, go_sem]) rfl HF.out
  · have hlt : ¬ ((leastF fan : Int) ≤ (c.n : Int)) := by omega
    have hd := deleteN (w := w0) (cap := cc) (i := l.length) (j := l.length + 1) ((hm0.block _ (lt_of_block HRO.out) (by simp)).trans HRO.out) HLR.out (by omega) hnc (by omega) (by omega)
    rw [show ((l.length + 1 : Nat) : Int) = (l.length : Int) + 1 by omega] at hd
    have HD := hideIt hd
    have c50 := cell_mod hm0 c5
    have HI0 := hideIt (HI.out.kept hm0 (by simp))
    have HK0 := hideIt (fun d hd => (HK.out d hd).kept hm0 (by simp))
    have HLC0 := hideIt (HLC.out.kept hm0 (by simp))
    have HCK0 := hideIt (fun d hd => (HCK.out d hd).kept hm0 (by simp))
    have HM0 := hideIt hm0
    clear hd c5 cI HRO hm0
    go_wp2_with fail
    refine HD.out.mono ?_
    rintro e w1 ⟨he, hm1, hr1⟩
    rw [show k.n - (l.length + 1 - l.length) = k.n - 1 by omega] at he
    subst he
    obtain ⟨q1, q2, q3, q4, q5, q6⟩ := outRow HI0.out HSZ.out.1 HSZ.out.2 hm1 hr1
    obtain ⟨_, d5⟩ := cell_ndO q5
    have f5 := frozen_of_block q5 5
    have HQ := hideIt (And.intro q2 (And.intro q3 q4))
    clear q2 q3 q4 q5 hm1 hr1 HD c50
    go_wp2_with fail
    clear d5 f5
    generalize w1.setCell ⟨k.p, 5, none⟩ (.slice (some ⟨g, 0, none⟩) (k.n - 1) cc) = w2 at *
    have hap := apartK HI0.out
    have hm02 := HQ.out.2.2
    have HK2 := hideIt (fun d hd => (HK0.out d hd).kept hm02 (hap d (by
      rcases List.mem_append.1 hd with h | h
      · exact List.mem_append_left _ h
      · exact List.mem_append_right _ (List.mem_cons_of_mem _ h))))
    have HLC2 := hideIt (HLC0.out.kept hm02 (hap c (by simp)))
    have HCK2 := hideIt (fun d hd => (HCK0.out d hd).kept hm02 (fun x hx => hap c (by simp) x (HLC0.out.kid_F hd x hx)))
    have hcok := HLC.out.ok.ok HCNE.out
    obtain ⟨rest2, hro2, hnc2, _, hlr2, _, _⟩ := owns_rowT HQ.out.2.1
    have HCL := hideIt (fun W (hW : Mod [] w2 W) => closest_any (w := W) (blk := g) (n := k.n - 1) (cap := cc) (ps := kblks (l ++ r)) (bx := kxAt (l ++ r)) (c := c.bx) (fun j p hp => cell_mod hW (rowO_get hro2 hp)) hlr2 (by omega) (by omega) (kxAt_row (fun d hd => (HK2.out d hd).kept hW (by simp)) hl0) hcok)
    obtain ⟨_, e5⟩ := cell_ndO HQ.out.1
    obtain ⟨b0, b1, b2, b3⟩ := cell_bxC HLC2.out.here
    clear hm02 hro2
    go_region_held (fun w' => w'.cell? ⟨k.p, 5, none⟩ = some (.slice (some ⟨g, 0, none⟩) (k.n - 1) cc) ∧ w'.cell? ⟨c.p, 0, none⟩ = some (.float .f32 c.bx.x0) ∧ w'.cell? ⟨c.p, 1, none⟩ = some (.float .f32 c.bx.y0) ∧ w'.cell? ⟨c.p, 2, none⟩ = some (.float .f32 c.bx.x1) ∧ w'.cell? ⟨c.p, 3, none⟩ = some (.float .f32 c.bx.y1))
      ((first
        | exact ⟨cell_mod hmc (by simp only [*]), cell_mod hmc (by simp only [*]), cell_mod hmc (by simp only [*]), cell_mod hmc (by simp only [*]), cell_mod hmc (by simp only [*])⟩
        | exact ⟨cell_mod hm (by simp only [*]), cell_mod hm (by simp only [*]), cell_mod hm (by simp only [*]), cell_mod hm (by simp only [*]), cell_mod hm (by simp only [*])⟩
        | exact ⟨cell_mod (Mod.drew _) (by simp only [*]), cell_mod (Mod.drew _) (by simp only [*]), cell_mod (Mod.drew _) (by simp only [*]), cell_mod (Mod.drew _) (by simp only [*]), cell_mod (Mod.drew _) (by simp only [*])⟩))
      ((first
        | (go_at_call 69; refine (edges_any ⟨_, _, _, _⟩ _).mono ?_; rintro e w' ⟨rfl, hm⟩)
        | (go_at_call 106; refine (HCL.out _ ((Mod.drew w2).trans hm)).mono ?_; rintro e w3 ⟨i, p, hip, rfl, hmc⟩; obtain ⟨a, j, b, hab, rfl⟩ := kid_split hip)))
    rename_i hheld
    have hm23 : Mod [] w2 w3 := ((Mod.drew w2).trans hm).trans hmc
    have hjm : j ∈ l ++ r := by rw [hab]; simp
    obtain ⟨tvj, js, hlj0, hjK0⟩ := (HK2.out j hjm).1
    have hjK : ∀ d ∈ js, KidOk w3 fan (leastF fan) h d := fun d hd => KidOk.kept (hjK0 d hd) hm23 (by simp)
    have hcK3 : ∀ d ∈ cs, KidOk w3 fan (leastF fan) h d := fun d hd => KidOk.kept (HCK2.out d hd) hm23 (by simp)
    have hjn := (HK2.out j hjm).2.1
    have hjf := (HK2.out j hjm).2.2
    have hlj := hlj0.kept hm23 (by simp)
    have hlc := HLC2.out.kept hm23 (by simp)
    have hdj := apart2 HI0.out hab
    rcases ownV hlj.row with ⟨_, h0⟩ | ⟨gj, cj, rfl⟩
    · omega
    rcases ownV hlc.row with ⟨_, h0⟩ | ⟨gc, cz, rfl⟩
    · omega
    obtain ⟨j4, j5⟩ := cell_ndO hlj.here
    obtain ⟨p4, p5⟩ := cell_ndO hlc.here
    have hjfr := frozen_of_block hlj.here 4
    have hgjp : gj ≠ j.p := fun e => by
      have hnd := hlj.ok.nodup
      rw [hlj.foot] at hnd
      exact (List.nodup_cons.1 hnd).1 (by rw [e]; simp [Value.ownBlock])
    have hcj : c.p ≠ j.p := fun e => (List.nodup_append.1 hdj).2.2 j.p (by rw [hlj.foot]; simp) c.p (by rw [hlc.foot]; simp) e.symm
    have hcgj : c.p ≠ gj := fun e => (List.nodup_append.1 hdj).2.2 gj (by rw [hlj.foot]; simp [Value.ownBlock]) c.p (by rw [hlc.foot]; simp) e.symm
    have hmA : Mod [j.p] w3 (w3.setCell ⟨j.p, 4, none⟩ (.slice none 0 0)).drew := (Mod.setCell _ _ _ (by simp)).trans (Mod.drew _)
    have hA := sameInner hlj hjK hmA (ndO_set4 hlj.here (.slice none 0 0))
    have hcA := hlc.kept hmA (fun x hx => by simp only [List.mem_singleton]; exact fun e => (List.nodup_append.1 hdj).2.2 j.p (by rw [hlj.foot]; simp) x hx e.symm)
    have hcKA : ∀ d ∈ cs, KidOk (w3.setCell ⟨j.p, 4, none⟩ (.slice none 0 0)).drew fan (leastF fan) h d := fun d hd => (hcK3 d hd).kept hmA (fun x hx => by simp only [List.mem_singleton]; exact fun e => (List.nodup_append.1 hdj).2.2 j.p (by rw [hlj.foot]; simp) x (hlc.kid_F hd x hx) e.symm)
    have HLJ := hideIt hA.1
    have HJK := hideIt hA.2
    have HLC3 := hideIt hcA
    have HCKA := hideIt hcKA
    have HM23 := hideIt (hm23.nil.trans hmA)
    have HDJ := hideIt hdj
    have hjpF : j.p ∈ j.F := by rw [hlj.foot]; simp
    clear hheld hm hmc hm23 hlj hlc hdj hlj0 HCL e5 b0 b1 b2 b3 hip hA hcA hcKA hmA hjK hcK3 hjK0
    go_wp2_with fail
    go_region
    clear j4 j5 p4 p5 hjfr
    generalize (w3.setCell ⟨j.p, 4, none⟩ (.slice none 0 0)).drew = wA at *
    obtain ⟨j4, j5⟩ := cell_ndO HLJ.out.here
    obtain ⟨p4, p5⟩ := cell_ndO HLC3.out.here
    have hjfr := frozen_of_block HLJ.out.here 5
    obtain ⟨i0, hi0, hz0, hz1, hz2⟩ := info_partsT infoN
    have HOJ := hideIt (show wA.drew.ownsRow 0 115 1 (.slice (some ⟨gj, 0, none⟩) j.n cj) j.n (ptrs (kblks js)) from HLJ.out.row)
    have HSC := hideIt (show srcRow wA.drew 1 (.slice (some ⟨gc, 0, none⟩) c.n cz) c.n (ptrs (kblks cs)) from srcRow_of_owns HLC3.out.row (ptrs_oneT _))
    have HJ4 := hideIt (fun w4 (hm4 : Mod [gj] wA.drew w4) => (hm4.block j.p (lt_of_block HLJ.out.here) (by simpa using fun e => hgjp e.symm)).trans HLJ.out.here)
    go_wp2_with fail
    go_region_law (refine step_append_rows _ rfl _ _ 124 rfl 0 115 i0 (.pointer none) 1 8 Tryz.underlying124 hi0 hz0 hz1 hz2 rfl (by decide) _ j.n (ptrs (kblks js)) rfl HOJ.out _ c.n (ptrs (kblks cs)) rfl HSC.out (by omega) (by unfold maxLen; omega) (by omega) (Nat.zero_le _) ?_; intro g5 c5 w4 ho4 hm4 hat4; have hp4 := HJ4.out w4 hm4; have hc4 := (cell_ndO hp4).2; have hf4 := frozen_of_block hp4 5)
    all_goals
      have hm34 : Mod [gj] wA w4 := (Mod.drew wA).trans hm4
      have hg5 : g5 = gj ∨ wA.heap.size ≤ g5 := by
        rcases hat4 with h | h
        · exact .inl (Option.some.inj (show some gj = some g5 from h)).symm
        · exact .inr (by rw [h]; exact Nat.le_refl _)
      have hm46 : Mod [j.p] w4 (w4.setCell ⟨j.p, 5, none⟩ (.slice (some ⟨g5, 0, none⟩) (j.n + c.n) c5)) := Mod.setCell _ _ _ (by simp)
      have hp6 := ndO_set5 hp4 (.slice (some ⟨g5, 0, none⟩) (j.n + c.n) c5)
      have ho4' : w4.ownsRow 0 115 1 (.slice (some ⟨g5, 0, none⟩) (j.n + c.n) c5) (j.n + c.n) (catL (ptrs (kblks js)) (ptrs (kblks cs))) := ho4
      clear ho4
      · obtain ⟨s1, s2, s3, s3p, s3g, s4⟩ := joinInner (w6 := w4.setCell ⟨j.p, 5, none⟩ (.slice (some ⟨g5, 0, none⟩) (j.n + c.n) c5)) HLJ.out HJK.out HLC3.out HCKA.out HDJ.out hm34 ho4' hg5 hm46 hp6
        have HS := hideIt (And.intro hp6 (And.intro s2 (And.intro s3 (And.intro s3p (And.intro s3g s4)))))
        clear hp6 hm46 s2 s3 s3p s3g s4 ho4' hm4 hat4 hp4 hc4 hf4 hm34 j4 j5 p4 p5 hjfr HOJ HSC HJ4 hg5
        generalize w4.setCell ⟨j.p, 5, none⟩ (.slice (some ⟨g5, 0, none⟩) (j.n + c.n) c5) = w6 at *
        go_wp2_with fail
        refine (fit_inner HS.out.1 HS.out.2.1 (fun d hd => ⟨(HS.out.2.2.1 d hd).1.hasBx, (HS.out.2.2.1 d hd).bxok hl0, HS.out.2.2.2.1 d hd⟩) (fun x hx => by simp [Value.ownBlock] at hx; subst hx; exact HS.out.2.2.2.2.1) (by omega)).mono ?_
        intro e w7 h7
        obtain ⟨b7, hJ, hJKK, hJF, hJm⟩ := HS.out.2.2.2.2.2 e w7 (by omega) hl0 h7
        have HJKK := hideIt hJKK
        clear hJKK
        obtain ⟨_, rfl, _⟩ := h7
        have HJ := hideIt hJ
        have HJF := hideIt hJF
        have HJM := hideIt hJm
        clear hJ hJF hJm HS
        go_wp2_with fail
        refine (cut_inner HJ.out HJKK.out (by show j.n + c.n ≤ 21; omega) hf4 hf).mono ?_
        intro e w8 h8
        have hgj' : g ∉ j.F := fun hx => apartK HI0.out j (by
          have : j ∈ a ++ j :: b := by simp
          rw [← hab] at this
          rcases List.mem_append.1 this with h | h
          · exact List.mem_append_left _ h
          · exact List.mem_append_right _ (List.mem_cons_of_mem _ h)) g hx (by simp)
        have hKa : ∀ d ∈ j :: (a ++ b), KidOk w fan (leastF fan) (h + 1) d := fun d hd => HK.out d (by
          rw [hab]
          rcases List.mem_cons.1 hd with rfl | hd
          · simp
          rcases List.mem_append.1 hd with h | h
          · simp [h]
          · simp [h])
        have hm2 : Mod [k.p, g] w w2 := HM0.out.nil.trans HQ.out.2.2
        have hz23 := HM23.out.size
        have hjp : j.p ∈ j.F := hjpF
        have hcN : NodeAt w fan (leastF fan) (h + 1) c := ⟨_, cs, HLC.out, HCK.out⟩
        have hkp : k.p ∈ k.F := by rw [HI.out.foot]; simp
        have hgF : g ∈ k.F := by rw [HI.out.foot]; simp [Value.ownBlock]
        have hln : a.length + b.length + 1 = k.n - 1 := by
          have := congrArg List.length hab
          simp at this
          have := HI.out.len
          simp at this
          omega
        rcases h8 with ⟨hle8, rfl, hm8⟩ | ⟨hgt8, J1, J2, rfl, b1, b2, b3, b4, b5, b6, b7', b8, b9, hm8⟩
        · have hm28 : Mod j.F w2 w8 := ((HM23.out.mono (by simpa using hjpF)).trans HJM.out).trans hm8.nil
          have hX := midX (w8 := w8) (N := [⟨j.p, b7, kts (js ++ cs), j.p :: ([g5] ++ kF (js ++ cs)), j.n + c.n⟩]) HI.out (mid_perm hab) hKa hcN HQ.out.1 hm2 hm28 (fun d hd => by
            simp at hd
            subst hd
            exact ⟨⟨_, js ++ cs, HJ.out.kept hm8 (by simp), fun d hd => (HJKK.out d hd).kept hm8 (by simp)⟩, by show leastF fan ≤ j.n + c.n; omega, hle8⟩) (by rw [HLJ.out.things, HLC3.out.things, ← kts_append]; simp [kts]) (by simpa [kF] using HJ.out.ok.nodup) (fun x hx => by
            rcases HJF.out x (by simpa [kF] using hx) with h | h
            · exact .inl h
            · exact .inr (by omega))
          have hfin := hX.mend (ks' := a ++ ⟨j.p, b7, kts (js ++ cs), j.p :: ([g5] ++ kF (js ++ cs)), j.n + c.n⟩ :: b) (List.perm_middle.trans (List.perm_append_singleton _ (a ++ b)).symm) (by
            have e1 : kblks (a ++ ⟨j.p, b7, kts (js ++ cs), j.p :: ([g5] ++ kF (js ++ cs)), j.n + c.n⟩ :: b) = kblks (l ++ r) := by rw [hab]; simp [kblks]
            have e2 : (a ++ (⟨j.p, b7, kts (js ++ cs), j.p :: ([g5] ++ kF (js ++ cs)), j.n + c.n⟩ : Kd) :: b).length = k.n - 1 := by simp; omega
            rw [e1, e2]
            exact owns_kept HQ.out.2.1 hm28 (fun x hx => by simp [Value.ownBlock] at hx; subst hx; exact hgj')) (by simp; omega) (by simp; omega) (fun x hx => by simp [Value.ownBlock] at hx; subst hx; exact .inl hgF)
          have HF := hideIt hfin
          clear hX hfin hm28 hm8 hm2
          go_wp2
          exact bodyPost_ret (v := .tuple #[]) (by simp [results, Tryz.results99, go_sem]) rfl HF.out
        · have hm28 : Mod j.F w2 w8 := ((HM23.out.mono (by simpa using hjpF)).trans HJM.out).trans (hm8.mono (by simpa using hjp))
          have hX := midX (w8 := w8) (N := [J1, J2]) HI.out (mid_perm hab) hKa hcN HQ.out.1 hm2 hm28 (fun d hd => by
            have hbb : J1.n + J2.n = j.n + c.n := b7'
            simp at hd
            rcases hd with rfl | rfl
            · exact ⟨b1, b5, by omega⟩
            · exact ⟨b2, b6, by omega⟩) (by rw [HLJ.out.things, HLC3.out.things, ← kts_append]; simpa [kts] using b4) (by simpa [kF] using b8) (fun x hx => by
            rcases b9 x (by simpa [kF] using hx) with h | h
            · rcases HJF.out x h with h | h
              · exact .inl h
              · exact .inr (by omega)
            · have := HJM.out.size
              exact .inr (by omega))
          have hrow8 := owns_kept HQ.out.2.1 hm28 (fun x hx => by simp [Value.ownBlock] at hx; subst hx; exact hgj')
          have hz8 : w.heap.size ≤ w8.heap.size := Nat.le_trans hm2.size hm28.size
          obtain ⟨_, u5⟩ := cell_ndO hX.here
          have hplt := lt_of_block hX.here
          obtain ⟨i1, hi1, hy0, hy1, hy2⟩ := info_partsT infoN
          have hsrc : srcRow (w8.alloc (.cells #[.pointer (some ⟨J2.p, 0, none⟩)] 115)) 1 (.slice (some ⟨w8.heap.size, 0, none⟩) 1 1) 1 (ptrs [J2.p]) :=
            srcRow_of_owns (owns_allocT (w := w8) (cur := #[.pointer (some ⟨J2.p, 0, none⟩)]) (e := 115) (n := 1) (size := 1) rfl (by decide) (base := 0) (Nat.zero_le _)) (ptrs_oneT [J2.p])
          have hown := hrow8.alloc (.cells #[.pointer (some ⟨J2.p, 0, none⟩)] 115)
          have HSRC := hideIt hsrc
          have HOWN := hideIt hown
          have HX := hideIt hX
          have HB3 := hideIt b3
          clear hX hsrc hown hrow8 hm28 hm8 hm2 b1 b2 b3 b4 b8 b9
          go_wp2_with (at_builtin; refine wpList_append_rows _ rfl _ _ 124 rfl 0 115 i1 (.pointer none) 1 8 Tryz.underlying124 hi1 hy0 hy1 hy2 rfl (by decide) _ (k.n - 1) (ptrs (kblks (l ++ r))) rfl HOWN.out _ 1 (ptrs [J2.p]) rfl HSRC.out (by omega) (by unfold maxLen; omega) (by omega) (by simp) ?_)
          intro g9 c9 w9 ho9 hm9 hat9
          have hm89 : Mod [g] w8 w9 := (Mod.alloc w8 _).trans hm9
          have hp9 := (hm89.block k.p hplt (by simpa using fun e => q6 e.symm)).trans HX.out.here
          obtain ⟨_, v5⟩ := cell_ndO hp9
          have v6 := frozen_of_block hp9 5
          have hg9 : g9 = g ∨ w8.heap.size ≤ g9 := by
            rcases hat9 with h | h
            · simp [Value.ownBlock] at h; exact .inl h.symm
            · exact .inr (by omega)
          obtain ⟨hX9, hgin⟩ := HX.out.grown (m := k.n - 1 + 1) (c5 := c9) hgF hkp hm89 hg9 hz8
          have hg9p : g9 ≠ k.p := by
            have hnd7 := hX9.nodup
            simp only [Value.ownBlock] at hnd7
            exact fun e => (List.nodup_cons.1 hnd7).1 (by rw [e]; simp)
          have hrow9 := owns_kept ho9 (Mod.setCell (F := [k.p]) w9 ⟨k.p, 5, none⟩ (.slice (some ⟨g9, 0, none⟩) (k.n - 1 + 1) c9) (by simp)) (fun x hx => by simp [Value.ownBlock] at hx; subst hx; simpa using hg9p)
          have hfin := hX9.mend (ks' := a ++ J1 :: b ++ [J2]) (by
            have y1 : (a ++ J1 :: b ++ [J2]).Perm (J1 :: (a ++ b) ++ [J2]) := List.Perm.append_right _ List.perm_middle
            have y2 : (J1 :: (a ++ b) ++ [J2]).Perm ((a ++ b ++ [J1]) ++ [J2]) := List.Perm.append_right _ (List.perm_append_singleton J1 (a ++ b)).symm
            exact (y1.trans y2).trans (by simp)) (by
            have e1 : kblks (a ++ J1 :: b ++ [J2]) = kblks (a ++ j :: b) ++ [J2.p] := by
              have hb3 : J1.p = j.p := HB3.out
              simp [kblks, hb3]
            have e2 : (a ++ J1 :: b ++ [J2]).length = k.n - 1 + 1 := by simp; omega
            rw [e1, e2, ptrs_append]
            exact hrow9) (by simp; omega) (by simp; omega) (fun x hx => by
            simp [Value.ownBlock] at hx
            exact hgin x hx.symm)
          have HF := hideIt hfin
          clear hX9 hgin hfin hrow9 hp9 hm89 hm9 ho9 hat9 HSRC HOWN HX u5
          go_wp2
          exact bodyPost_ret (v := .tuple #[]) (by simp [results, Tryz.results99, go_sem]) rfl HF.out

end Go.Proofs.YthimaoipogocfaaGreat

namespace Go.Proofs.YthimaoipogocfaaGreat
open Go.RowKit

/-- MEND, of every height. -/
theorem mend_any {w : World} {fan : Nat} (hf4 : 4 ≤ fan) (hf : fan ≤ 16) : ∀ {h : Nat} {k : Kd} {g cc : Nat} {l r : List Kd} {c : Kd}, InnerAt w k (.slice (some ⟨g, 0, none⟩) k.n cc) (l ++ c :: r) → (∀ d ∈ l ++ r, KidOk w fan (leastF fan) h d) → NodeAt w fan (leastF fan) h c → leastF fan ≤ c.n + 1 → c.n ≤ fan → 2 ≤ k.n → k.n ≤ fan →
    Calls Tryz.prog 99 #[.pointer (some ⟨k.p, 0, none⟩), .int .i64 l.length, .int .i64 fan] w (MendPost fan (leastF fan) h k w)
  | 0, _, _, _, _, _, _, hi, hK, hc, h1, h2, h3, h4 => mend_leaf hi hK hc h1 h2 h3 h4 hf4 hf
  | _ + 1, _, _, _, _, _, _, hi, hK, hc, h1, h2, h3, h4 => mend_inner hi hK hc h1 h2 h3 h4 hf4 hf

/-- the node as it is behind the taking out from below a kid -/
theorem afterDrop {w w4 w5 : World} {fan lo h : Nat} {k : Kd} {t : Tg} {g cc : Nat} {l r : List Kd} {d d1 : Kd} (hi : InnerAt w k (.slice (some ⟨g, 0, none⟩) k.n cc) (l ++ d :: r)) (hK : ∀ c ∈ l ++ d :: r, KidOk w fan lo h c) (hm : Mod [] w w4) (h0 : 0 < lo) (hk2 : 2 ≤ k.n)
    (hd : NodeAt w5 fan lo h d1) (hp : d1.p = d.p) (hts : (t :: d1.ts).Perm d.ts) (hft : ∀ x ∈ d1.F, x ∈ d.F ∨ w4.heap.size ≤ x) (hm5 : Mod d.F w4 w5) (htd : t.blk ∉ d1.F) :
    ∃ k', k'.p = k.p ∧ k'.bx = k.bx ∧ k'.n = k.n ∧ InnerAt w5 k' (.slice (some ⟨g, 0, none⟩) k'.n cc) (l ++ d1 :: r) ∧ (∀ c ∈ l ++ r, KidOk w5 fan lo h c) ∧ (t :: k'.ts).Perm k.ts ∧ (∀ x ∈ k'.F, x ∈ k.F ∨ w.heap.size ≤ x) ∧ Mod k.F w w5 ∧ t.blk ∉ k'.F := by
  have hF := hi.foot
  simp only [Value.ownBlock] at hF
  have hnodup := hi.ok.nodup
  rw [hF] at hnodup
  have hpF : (kF (l ++ d :: r)).Perm (kF (l ++ r) ++ d.F) := by
    refine (kF_perm (List.perm_middle (a := d) (l₁ := l) (l₂ := r))).trans ?_
    have e : kF (d :: (l ++ r)) = d.F ++ kF (l ++ r) := by simp [kF]
    rw [e]
    exact List.perm_append_comm
  have hpF1 : (kF (l ++ d1 :: r)).Perm (kF (l ++ r) ++ d1.F) := by
    refine (kF_perm (List.perm_middle (a := d1) (l₁ := l) (l₂ := r))).trans ?_
    have e : kF (d1 :: (l ++ r)) = d1.F ++ kF (l ++ r) := by simp [kF]
    rw [e]
    exact List.perm_append_comm
  have hpn : (k.p :: ([g] ++ kF (l ++ d :: r))).Perm (k.p :: ([g] ++ (kF (l ++ r) ++ d.F))) := List.Perm.cons _ (List.Perm.append_left _ hpF)
  have hnd2 : (k.p :: ([g] ++ (kF (l ++ r) ++ d.F))).Nodup := hpn.nodup_iff.1 hnodup
  have hmemF : ∀ x ∈ k.p :: ([g] ++ (kF (l ++ r) ++ d.F)), x ∈ k.F := fun x hx => by rw [hF]; exact hpn.mem_iff.2 hx
  have hlt : ∀ x ∈ k.F, x < w.heap.size := NodeAt.lt (fan := fan) (lo := lo) (h := h + 1) ⟨_, _, hi, hK⟩
  have h1 := List.nodup_cons.1 hnd2
  have h2 := List.nodup_append.1 h1.2
  have h3 := List.nodup_append.1 h2.2.1
  have hz := hm.size
  have hkpd : k.p ∉ d.F := fun hx => h1.1 (by simp [hx])
  have hgd : g ∉ d.F := fun hx => h2.2.2 g (by simp) g (by simp [hx]) rfl
  have hm05 : Mod d.F w w5 := hm.nil.trans hm5
  have hdF : ∀ x ∈ d.F, x ∈ k.F := fun x hx => hmemF x (by simp [hx])
  have hnd5 : (k.p :: ([g] ++ (kF (l ++ r) ++ d1.F))).Nodup := nodup_repl (C := d.F) (tb := w4.heap.size) (sz := w4.heap.size) hnd2 hd.ok.nodup (fun x hx => by
    rcases hft x hx with h | h
    · exact .inl h
    · exact .inr (.inr h)) (fun hx => by have := hlt _ (hmemF _ hx); omega) (fun x hx => Nat.lt_of_lt_of_le (hlt x (hmemF x hx)) hz)
  have hrest : ∀ c ∈ l ++ r, KidOk w5 fan lo h c := fun c hc => by
    have hc' : c ∈ l ++ d :: r := by
      rcases List.mem_append.1 hc with h | h
      · exact List.mem_append_left _ h
      · exact List.mem_append_right _ (List.mem_cons_of_mem _ h)
    exact (hK c hc').kept hm05 (fun x hx hxd => h3.2.2 x (mem_kF hc hx) x hxd rfl)
  have hpt : (t :: kts (l ++ d1 :: r)).Perm k.ts := by
    rw [hi.things]
    have e1 : (kts (l ++ d1 :: r)).Perm (d1.ts ++ kts (l ++ r)) := (kts_perm List.perm_middle).trans (by simp [kts])
    have e2 : (kts (l ++ d :: r)).Perm (d.ts ++ kts (l ++ r)) := (kts_perm List.perm_middle).trans (by simp [kts])
    exact ((e1.cons t).trans (List.Perm.append_right (kts (l ++ r)) hts)).trans e2.symm
  have hlen : (l ++ d1 :: r).length = k.n := by rw [← hi.len]; simp
  have hne : kts (l ++ d1 :: r) ≠ [] := fun e => by
    have hsome : l ++ r ≠ [] := fun e2 => by
      have := congrArg List.length e2
      rw [List.length_append, List.length_nil] at this
      have hl := hi.len
      rw [List.length_append, List.length_cons] at hl
      omega
    have hn := kts_ne hsome hrest h0
    have e1 : (kts (l ++ d1 :: r)).Perm (d1.ts ++ kts (l ++ r)) := (kts_perm List.perm_middle).trans (by simp [kts])
    rw [e] at e1
    have := e1.symm.eq_nil
    simp at this
    exact hn this.2
  have hkne : k.ts ≠ [] := fun e => by
    rw [e] at hpt
    have := hpt.length_eq
    simp at this
  refine ⟨⟨k.p, k.bx, kts (l ++ d1 :: r), k.p :: ([g] ++ kF (l ++ d1 :: r)), k.n⟩, rfl, rfl, rfl, ⟨?_, ?_, hlen, rfl, rfl, ⟨?_, hi.ok.num, fun s hs => ?_, fun _ => hi.ok.ok hkne, fun e => absurd e hne⟩⟩, hrest, hpt, fun x hx => ?_, hm05.mono hdF, ?_⟩
  · exact (hm05.block k.p (lt_of_block hi.here) hkpd).trans hi.here
  · have e : kblks (l ++ d1 :: r) = kblks (l ++ d :: r) := by simp [kblks, hp]
    rw [e]
    exact owns_kept hi.row hm05 (fun x hx => by simp [Value.ownBlock] at hx; subst hx; exact hgd)
  · exact (List.Perm.cons _ (List.Perm.append_left _ hpF1)).nodup_iff.2 hnd5
  · exact hi.ok.cover s (hpt.mem_iff.1 (List.mem_cons_of_mem _ hs))
  · have hx' : x ∈ k.p :: ([g] ++ kF (l ++ d1 :: r)) := hx
    rcases List.mem_cons.1 hx' with rfl | hx'
    · exact .inl (hmemF _ (by simp))
    rcases List.mem_append.1 hx' with hx' | hx'
    · exact .inl (hmemF x (by simp at hx'; simp [hx']))
    · rcases List.mem_append.1 (hpF1.mem_iff.1 hx') with hx' | hx'
      · exact .inl (hmemF x (by simp [hx']))
      · rcases hft x hx' with h | h
        · exact .inl (hdF x h)
        · exact .inr (by omega)
  · have htm : t ∈ d.ts := hts.mem_iff.1 (by simp)
    have htF : t.blk ∈ d.F := ((hK d (by simp)).1.thing t htm).2
    show t.blk ∉ k.p :: ([g] ++ kF (l ++ d1 :: r))
    intro hx
    rcases List.mem_cons.1 hx with e | hx
    · exact hkpd (e ▸ htF)
    rcases List.mem_append.1 hx with hx | hx
    · simp at hx; exact hgd (hx ▸ htF)
    · rcases List.mem_append.1 (hpF1.mem_iff.1 hx) with hx | hx
      · exact h3.2.2 _ hx _ htF rfl
      · exact htd hx

/-- .. and behind the mending, and the box -/
theorem dropFin {w w5 w6 w7 : World} {fan lo h : Nat} {k k' : Kd} {t : Tg} {e6 e7 : Ending} {bv : Value} {ks' : List Kd} (hp : k'.p = k.p) (hn : k'.n = k.n) (hts : (t :: k'.ts).Perm k.ts) (hF : ∀ x ∈ k'.F, x ∈ k.F ∨ w.heap.size ≤ x) (hm5 : Mod k.F w w5) (hkp : k.p ∈ k.F) (h0 : 0 < lo) (hk2 : 2 ≤ k.n) (htk : t.blk ∉ k'.F) (ht5 : TgAt w5 t) (hkp' : k'.p ∈ k'.F)
    (hM : e6 = .returned (.tuple #[]) ∧ w6.heap[k'.p]? = some (ndO k'.bx (.slice none 0 0) bv) ∧ w6.ownsRow 0 115 1 bv ks'.length (ptrs (kblks ks')) ∧ (∀ c ∈ ks', KidOk w6 fan lo h c) ∧ (kts ks').Perm k'.ts ∧ k'.n ≤ ks'.length + 1 ∧ ks'.length ≤ k'.n ∧ (k'.p :: (bv.ownBlock.toList ++ kF ks')).Nodup ∧ (∀ x ∈ bv.ownBlock.toList ++ kF ks', x ∈ k'.F ∨ w5.heap.size ≤ x) ∧ Mod k'.F w5 w6)
    (h7 : FitPost k'.p (.slice none 0 0) bv (ks'.map Kd.bx) w6 e7 w7) : DropRes fan lo (h + 1) k t w true w7 := by
  obtain ⟨_, a1, a2, a3, a4, a5, a6, a7, a8, a9⟩ := hM
  obtain ⟨b, _, hm7, hp7, n7, in7, ok7, _⟩ := h7
  rw [hp] at a1 a7 hm7 hp7
  have h1 := List.nodup_cons.1 a7
  have hK7 : ∀ c ∈ ks', KidOk w7 fan lo h c := fun c hc => (a3 c hc).kept hm7 (fun x hx => by
    simp only [List.mem_singleton]
    exact fun e => h1.1 (List.mem_append_right _ (e ▸ mem_kF hc hx)))
  have hne0 : ks' ≠ [] := fun e => by subst e; simp at a5; omega
  have hne := kts_ne hne0 hK7 h0
  have hz5 := hm5.size
  refine .inl ⟨rfl, ⟨k.p, b, kts ks', k.p :: (bv.ownBlock.toList ++ kF ks'), ks'.length⟩, ⟨bv, ks', ⟨hp7, owns_kept a2 hm7 (fun x hx => ?_), rfl, rfl, rfl, ⟨a7, n7, fun s hs => ?_, fun _ => ok7 (by simpa using hne0), fun e => absurd e hne⟩⟩, hK7⟩, rfl, (a4.cons t).trans hts, ?_, ?_, fun x hx => ?_, ?_, ?_, ?_⟩
  · simp only [List.mem_singleton]
    exact fun e => h1.1 (List.mem_append_left _ (by rw [hx, ← e]; simp))
  · obtain ⟨c, hc, hsc⟩ := List.mem_flatMap.1 hs
    exact ((hK7 c hc).1.ok.cover s hsc).trans (in7 _ (List.mem_map.2 ⟨c, hc, rfl⟩))
  · show k.n ≤ ks'.length + 1
    omega
  · show ks'.length ≤ k.n
    omega
  · have hx' : x ∈ k.p :: (bv.ownBlock.toList ++ kF ks') := hx
    rcases List.mem_cons.1 hx' with rfl | hx'
    · exact .inl hkp
    · rcases a8 x hx' with h | h
      · exact hF x h
      · exact .inr (by omega)
  · have a9' : Mod k.F w w6 := hm5.then a9 hF
    exact a9'.trans (hm7.mono (by simpa using hkp))
  · exact (ht5.kept a9 htk).kept hm7 (by simp only [List.mem_singleton]; exact fun e => htk (by rw [e, ← hp]; exact hkp'))
  · show t.blk ∉ k.p :: (bv.ownBlock.toList ++ kF ks')
    intro hx
    rcases List.mem_cons.1 hx with e | hx
    · exact htk (by rw [e, ← hp]; exact hkp')
    · rcases a8 _ hx with h | h
      · exact htk h
      · have := lt_of_block ht5.here; omega

end Go.Proofs.YthimaoipogocfaaGreat

namespace Go.Proofs.YthimaoipogocfaaGreat
open Go.RowKit Go.Sort
attribute [local go_sem] run_store_f32 run_neg_inf

theorem mixedP : Tryz.prog.follows .mixedOrders = true := by kernel_rfl

theorem grow2 (w : World) (a b : Obj) : (w.alloc a).alloc b = grow (w.drewN 0) #[a, b] := by
  have e : w.heap ++ #[a, b] = (w.heap.push a).push b := by
    apply Array.ext'
    simp
  show (w.alloc a).alloc b = { w with heap := w.heap ++ #[a, b] }
  rw [e]
  rfl

theorem mod_grow (w : World) (n : Nat) (os : Array Obj) : Mod [] w (grow (w.drewN n) os) :=
  ⟨rfl, rfl, rfl, by simp [grow, World.drewN], fun k hk _ => by
    show (w.heap ++ os)[k]? = w.heap[k]?
    rw [Array.getElem?_append, if_pos hk]⟩

def GrownPost (v : Value) (w : World) (e : Ending) (w' : World) : Prop := e = .returned v ∧ ∃ q os', w' = grow (w.drewN q) os'

set_option maxRecDepth 100000 in
theorem edges_grown (b : Bx) (w : World) : Calls Tryz.prog 69 #[bxV b] w (GrownPost (bxV b) w) := by
  go_enter Tryz.func69, Tryz.ntmps69
  go_wp2
  exact bodyPost_ret (v := bxV b) (by simp [results, Tryz.results69, go_sem]) rfl ⟨rfl, 0, _, grow2 _ _ _⟩

set_option maxRecDepth 100000 in
theorem meets_grown {a b : Bx} (ha : a.Num) (hb : b.Num) (w : World) : Calls Tryz.prog 98 #[bxV a, bxV b] w (GrownPost (.bool (a.meets b)) w) := by
  have e1 := leq32 ha.out.1 hb.out.2.2.1
  have e2 := leq32 hb.out.1 ha.out.2.2.1
  have e3 := leq32 ha.out.2.1 hb.out.2.2.2
  have e4 := leq32 hb.out.2.1 ha.out.2.2.2
  have hm : a.meets b = (leW a.x0 b.x1 && leW b.x0 a.x1 && leW a.y0 b.y1 && leW b.y0 a.y1) := rfl
  have HM := hideIt hm
  clear hm ha hb
  go_enter Tryz.func98, Tryz.ntmps98
  go_wp2
  all_goals
    go_ret
    refine ⟨ret_bool ?_, 0, _, grow2 _ _ _⟩
    rw [HM.out]
    clear e1 e2 e3 e4 HM
    simp_all

end Go.Proofs.YthimaoipogocfaaGreat

