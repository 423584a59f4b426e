import Derived.Test.YthimaoipogocfaaGreatShiftP
import Derived.Test.YthimaoipogocfaaGreatKt0
import Derived.Deep.DeepCutAuto
namespace Go.Proofs.YthimaoipogocfaaGreat
open Go.RowKit Go.Maps
attribute [local go_sem] run_store_f32 run_neg_inf

theorem Kt.shift (t : Kt) (p q : Int) : t.x0 p = t.x0 0 + p ∧ t.y0 q = t.y0 0 + q ∧ t.x1 p = t.x1 0 + p ∧ t.y1 q = t.y1 0 + q := by
  unfold Kt.x1 Kt.y1 Kt.x0 Kt.y0
  omega

set_option maxRecDepth 100000 in
set_option maxHeartbeats 4000000 in
theorem shifted_any {w : World} {f : Int} (hf : i64ok f) {a : Option Addr} {ks : List Kt} {c : Nat} (hK : KsAt w a ks) {dx dy : Int} (hdx : i64ok dx) (hdy : i64ok dy) {t : Kt} (ht : t.ok) :
    Calls Tryz.prog 10 #[.int .i64 f, .slice a ks.length c, .int .i64 dx, .int .i64 dy, ktV t] w fun e w' => e = .returned (.bool true) ∧ Mod [] w w' := by
  have hm0 : Mod [] w (w.alloc (ktO t)) := Mod.alloc _ _
  have hth := heap_alloc_new w (ktO t)
  have HPK1 := hideIt (fun W => pick_any dx 1999990001 W hdx (by omega) (by omega))
  obtain ⟨p1, p2⟩ := pickF_lt dx 1999990001 (by omega)
  have HPK2 := hideIt (fun W => pick_any dy 1999990001 W hdy (by omega) (by omega))
  obtain ⟨q1, q2⟩ := pickF_lt dy 1999990001 (by omega)
  generalize pickF dx 1999990001 = P0 at *
  generalize pickF dy 1999990001 = Q0 at *
  have HPL1 := hideIt (planted_any hf (dx := 0) (dy := 0) (by omega) (by omega) (hK.kept hm0) (c := c))
  have HPL2 := hideIt (fun W (hW : Mod [] (w.alloc (ktO t)) W) => planted_any hf (dx := P0 - 999995000) (dy := Q0 - 999995000) (by omega) (by omega) ((hK.kept hm0).kept hW) (c := c))
  generalize (4 + pickF f 13).toNat = fan at *
  have HR1 := hideIt (fun W => krect_any t ht 0 0 (by omega) (by omega) W)
  have HR2 := hideIt (show ∀ W, Calls Tryz.prog 18 #[ktV t, .int .i64 (P0 - 999995000), .int .i64 (Q0 - 999995000)] W (fun e w' => e = .returned (R4 (t.x0 0 + (P0 - 999995000)) (t.y0 0 + (Q0 - 999995000)) (t.x1 0 + (P0 - 999995000)) (t.y1 0 + (Q0 - 999995000))) ∧ Mod [] W w') from fun W => by
    obtain ⟨e1, e2, e3, e4⟩ := t.shift (P0 - 999995000) (Q0 - 999995000)
    rw [← e1, ← e2, ← e3, ← e4]
    exact krect_any t ht _ _ (by omega) (by omega) W)
  obtain ⟨b1, b2, b3, b4, b5, b6⟩ := t.bounds
  generalize t.x0 0 = X0 at *
  generalize t.y0 0 = Y0 at *
  generalize t.x1 0 = X1 at *
  generalize t.y1 0 = Y1 at *
  have HTH := hideIt (show ∀ W, Mod [] (w.alloc (ktO t)) W → W.heap[w.heap.size]? = some (ktO t) from fun W hm => (hm.block _ (by simp) (by simp)).trans hth)
  have HM0 := hideIt hm0
  have v1 : IntKind.i64.wrap (P0 - 999995000) = P0 - 999995000 := by rw [IntKind.wrap_i64]; omega
  have v2 : IntKind.i64.wrap (Q0 - 999995000) = Q0 - 999995000 := by rw [IntKind.wrap_i64]; omega
  clear hf hK hdx hdy ht hm0 hth
  go_enter Tryz.func10, Tryz.ntmps10
  go_wp2_with fail
  refine (HPK1.out _).mono ?_
  rintro e w' ⟨rfl, hw⟩
  obtain rfl := hw.symm
  clear hw
  go_wp2_with fail
  refine (HPK2.out _).mono ?_
  rintro e w' ⟨rfl, hw⟩
  obtain rfl := hw.symm
  clear hw
  go_wp2_with fail
  refine HPL1.out.mono ?_
  intro e w1 hpl
  obtain ⟨s, rfl, hrep1, hm1⟩ := hpl.rep
  have HREP1 := hideIt hrep1
  have HM1 := hideIt hm1
  clear hpl hrep1 hm1 HPL1 HPK1 HPK2
  go_wp2_with fail
  refine (HPL2.out _ HM1.out).mono ?_
  intro e w2 hpl
  obtain ⟨u, rfl, hrep2, hm2⟩ := hpl.rep
  rw [plantT_shift] at hrep2
  obtain ⟨L, hL⟩ : ∃ L, plantT ks 0 0 = L := ⟨_, rfl⟩
  have hLp : 1 ≤ L.length := by rw [← hL]; simp [plantT, putT]
  rw [hL] at hrep2 HREP1
  have HREP2 := hideIt hrep2
  have HM2 := hideIt hm2
  obtain ⟨t0, t1, t2, t3, t4⟩ := cell_ktO (HTH.out w2 (HM1.out.trans hm2))
  clear hpl hrep2 hm2 HPL2 hL
  go_wp2_with fail
  refine (HR1.out _).mono ?_
  rintro e w3 ⟨rfl, hm3⟩
  have HM3 := hideIt hm3
  obtain ⟨t0, t1, t2, t3, t4⟩ := cell_ktO (HTH.out (w3.alloc (B4 X0 Y0 X1 Y1)) (((HM1.out.trans HM2.out).trans hm3).trans (Mod.alloc _ _)))
  clear hm3 HR1
  go_wp2_with fail
  refine (HR2.out _).mono ?_
  rintro e w4 ⟨rfl, hm4⟩
  have HWW := hideIt (show Mod [] (w3.alloc (B4 X0 Y0 X1 Y1)) (w4.alloc (B4 (X0 + (P0 - 999995000)) (Y0 + (Q0 - 999995000)) (X1 + (P0 - 999995000)) (Y1 + (Q0 - 999995000)))) from hm4.trans (Mod.alloc _ _))
  clear hm4 HR2 t0 t1 t2 t3 t4 HTH v1 v2
  have hp1 : -999995000 ≤ P0 - 999995000 ∧ P0 - 999995000 ≤ 999995000 := by omega
  have hq1 : -999995000 ≤ Q0 - 999995000 ∧ Q0 - 999995000 ≤ 999995000 := by omega
  clear p1 p2 q1 q2
  generalize P0 - 999995000 = P at *
  generalize Q0 - 999995000 = Q at *
  have HA := hideIt (show ∀ W, Mod [] (w4.alloc (B4 (X0 + P) (Y0 + Q) (X1 + P) (Y1 + Q))) W → W.heap[w3.heap.size]? = some (B4 X0 Y0 X1 Y1) from fun W hm => ((HWW.out.trans hm).block _ (by simp) (by simp)).trans (heap_alloc_new w3 _))
  have HB := hideIt (show ∀ W, Mod [] (w4.alloc (B4 (X0 + P) (Y0 + Q) (X1 + P) (Y1 + Q))) W → W.heap[w4.heap.size]? = some (B4 (X0 + P) (Y0 + Q) (X1 + P) (Y1 + Q)) from fun W hm => (hm.block _ (by simp) (by simp)).trans (heap_alloc_new w4 _))
  have HMW := hideIt (show ∀ W, Mod [] (w4.alloc (B4 (X0 + P) (Y0 + Q) (X1 + P) (Y1 + Q))) W → Mod [] w W from fun W hm => (((((HM0.out.trans HM1.out).trans HM2.out).trans HM3.out).trans (Mod.alloc _ _)).trans HWW.out).trans hm)
  have HRA := hideIt (show RectOk X0 Y0 X1 Y1 by unfold RectOk; omega)
  have HRB := hideIt (show RectOk (X0 + P) (Y0 + Q) (X1 + P) (Y1 + Q) by unfold RectOk; omega)
  have HK1 := hideIt (fun W (hm : Mod [] (w4.alloc (B4 (X0 + P) (Y0 + Q) (X1 + P) (Y1 + Q))) W) => HREP1.out.keep ((((HM2.out.trans HM3.out).trans (Mod.alloc _ _)).trans HWW.out).trans hm))
  have HK2 := hideIt (fun W (hm : Mod [] (w4.alloc (B4 (X0 + P) (Y0 + Q) (X1 + P) (Y1 + Q))) W) => HREP2.out.keep (((HM3.out.trans (Mod.alloc _ _)).trans HWW.out).trans hm))
  have hlen := HREP1.out.len
  have l1 := foundT_len (meetT X0 Y0 X1 Y1) L
  have l2 := foundT_len (holdT X0 Y0 X1 Y1) L
  have l3 := nearT_length X1 Y0 300 L
  have e1 := foundT_shift P Q (meetT_shift P Q X0 Y0 X1 Y1) L
  have e2 := foundT_shift P Q (holdT_shift P Q X0 Y0 X1 Y1) L
  have e3 := nearT_shift P Q X1 Y0 300 L
  have e4 := pairsT_shift P Q L
  obtain ⟨xs, hxs⟩ : ∃ xs, foundT (meetT X0 Y0 X1 Y1) L = xs := ⟨_, rfl⟩
  obtain ⟨ys, hys⟩ : ∃ ys, foundT (holdT X0 Y0 X1 Y1) L = ys := ⟨_, rfl⟩
  obtain ⟨hs, hhs⟩ : ∃ hs, nearT X1 Y0 300 L = hs := ⟨_, rfl⟩
  obtain ⟨np, hnp⟩ : ∃ np, pairsT L = np := ⟨_, rfl⟩
  rw [hxs] at e1 l1
  rw [hys] at e2 l2
  rw [hhs] at e3 l3
  rw [hnp] at e4
  have HF1 := hideIt (show ∀ W, Mod [] (w4.alloc (B4 (X0 + P) (Y0 + Q) (X1 + P) (Y1 + Q))) W → Calls Tryz.prog 19 #[.pointer (some ⟨s, 0, none⟩), R4 X0 Y0 X1 Y1] W (KFindPost xs W) from fun W hm => by rw [← hxs]; exact kmeets_any (HK1.out W hm) HRA.out)
  have HF2 := hideIt (show ∀ W, Mod [] (w4.alloc (B4 (X0 + P) (Y0 + Q) (X1 + P) (Y1 + Q))) W → Calls Tryz.prog 19 #[.pointer (some ⟨u, 0, none⟩), R4 (X0 + P) (Y0 + Q) (X1 + P) (Y1 + Q)] W (KFindPost xs W) from fun W hm => by rw [← e1]; exact kmeets_any (HK2.out W hm) HRB.out)
  have HF3 := hideIt (show ∀ W, Mod [] (w4.alloc (B4 (X0 + P) (Y0 + Q) (X1 + P) (Y1 + Q))) W → Calls Tryz.prog 20 #[.pointer (some ⟨s, 0, none⟩), R4 X0 Y0 X1 Y1] W (KFindPost ys W) from fun W hm => by rw [← hys]; exact kwithin_any (HK1.out W hm) HRA.out)
  have HF4 := hideIt (show ∀ W, Mod [] (w4.alloc (B4 (X0 + P) (Y0 + Q) (X1 + P) (Y1 + Q))) W → Calls Tryz.prog 20 #[.pointer (some ⟨u, 0, none⟩), R4 (X0 + P) (Y0 + Q) (X1 + P) (Y1 + Q)] W (KFindPost ys W) from fun W hm => by rw [← e2]; exact kwithin_any (HK2.out W hm) HRB.out)
  have HF5 := hideIt (show ∀ W, Mod [] (w4.alloc (B4 (X0 + P) (Y0 + Q) (X1 + P) (Y1 + Q))) W → Calls Tryz.prog 25 #[.pointer (some ⟨s, 0, none⟩)] W (PairsPost np W) from fun W hm => by rw [← hnp]; exact kPairs_any (HK1.out W hm))
  have HF6 := hideIt (show ∀ W, Mod [] (w4.alloc (B4 (X0 + P) (Y0 + Q) (X1 + P) (Y1 + Q))) W → Calls Tryz.prog 25 #[.pointer (some ⟨u, 0, none⟩)] W (PairsPost np W) from fun W hm => by rw [← e4]; exact kPairs_any (HK2.out W hm))
  have HF7 := hideIt (show ∀ W, Mod [] (w4.alloc (B4 (X0 + P) (Y0 + Q) (X1 + P) (Y1 + Q))) W → Calls Tryz.prog 26 #[.pointer (some ⟨s, 0, none⟩), .int .i64 X1, .int .i64 Y0, .int .i64 300] W (HNearPost hs W) from fun W hm => by rw [← hhs]; exact kNear_any (HK1.out W hm) (by unfold Near9; omega) (by unfold Near9; omega) (most := 300) (by omega))
  have HF8 := hideIt (show ∀ W, Mod [] (w4.alloc (B4 (X0 + P) (Y0 + Q) (X1 + P) (Y1 + Q))) W → Calls Tryz.prog 26 #[.pointer (some ⟨u, 0, none⟩), .int .i64 (X1 + P), .int .i64 (Y0 + Q), .int .i64 300] W (HNearPost hs W) from fun W hm => by rw [← e3]; exact kNear_any (HK2.out W hm) (by unfold Near9; omega) (by unfold Near9; omega) (most := 300) (by omega))
  have hl1 : xs.length ≤ 1000 := by omega
  have hl2 : ys.length ≤ 1000 := by omega
  have hl3 : 1 ≤ hs.length ∧ hs.length ≤ 300 := by omega
  have HN0 := hideIt (Mod.refl [] (w4.alloc (B4 (X0 + P) (Y0 + Q) (X1 + P) (Y1 + Q))))
  clear l1 l2 l3 e1 e2 e3 e4 hxs hys hhs hnp hlen HREP1 HREP2 HM0 HM1 HM2 HM3 HK1 HK2 HRA HRB hLp
  obtain ⟨z0, z1, z2, z3⟩ := cellsB4 (HA.out _ HN0.out)
  go_wp2_with fail
  clear z0 z1 z2 z3
  refine (HF1.out _ HN0.out).mono ?_
  rintro e w5 ⟨s1, rfl, hrow1, hm⟩
  have HR1 := hideIt hrow1
  have HN1 := hideIt (HN0.out.trans hm)
  obtain ⟨z0, z1, z2, z3⟩ := cellsB4 (HB.out _ HN1.out)
  clear hm hrow1 HF1
  go_wp2_with fail
  clear z0 z1 z2 z3
  refine (HF2.out _ HN1.out).mono ?_
  rintro e w6 ⟨s2, rfl, hrow2, hm⟩
  have HR1 := hideIt (HR1.out.keep hm)
  have HR2 := hideIt hrow2
  have HN2 := hideIt (HN1.out.trans hm)
  obtain ⟨z0, z1, z2, z3⟩ := cellsB4 (HA.out _ HN2.out)
  clear hm hrow2 HF2
  go_wp2_with fail
  clear z0 z1 z2 z3
  refine (HF3.out _ HN2.out).mono ?_
  rintro e w7 ⟨s3, rfl, hrow3, hm⟩
  have HR1 := hideIt (HR1.out.keep hm)
  have HR2 := hideIt (HR2.out.keep hm)
  have HR3 := hideIt hrow3
  have HN3 := hideIt (HN2.out.trans hm)
  obtain ⟨z0, z1, z2, z3⟩ := cellsB4 (HB.out _ HN3.out)
  clear hm hrow3 HF3
  go_wp2_with fail
  clear z0 z1 z2 z3
  refine (HF4.out _ HN3.out).mono ?_
  rintro e w8 ⟨s4, rfl, hrow4, hm⟩
  have HR1 := hideIt (HR1.out.keep hm)
  have HR2 := hideIt (HR2.out.keep hm)
  have HR3 := hideIt (HR3.out.keep hm)
  have HR4 := hideIt hrow4
  have HN4 := hideIt (HN3.out.trans hm)
  clear hm hrow4 HF4
  have HS1 := hideIt (show Calls Tryz.prog 22 #[s1, s2] w8 (KBool true w8) from by
    have := same_any HR1.out HR2.out (by omega) (by omega)
    rw [decide_eq_true rfl] at this
    exact this)
  go_wp2_with fail
  refine HS1.out.mono ?_
  rintro e w9 ⟨rfl, hm⟩
  have HN5 := hideIt (HN4.out.trans hm)
  have HS2 := hideIt (show Calls Tryz.prog 22 #[s3, s4] w9 (KBool true w9) from by
    have := same_any (HR3.out.keep hm) (HR4.out.keep hm) (by omega) (by omega)
    rw [decide_eq_true rfl] at this
    exact this)
  clear hm HS1 HR1 HR2 HR3 HR4
  go_wp2_with fail
  refine HS2.out.mono ?_
  rintro e w10 ⟨rfl, hm⟩
  have HN6 := hideIt (HN5.out.trans hm)
  clear hm HS2
  go_wp2_with fail
  refine (HF5.out _ HN6.out).mono ?_
  rintro e w11 ⟨rfl, hm⟩
  have HN7 := hideIt (HN6.out.trans hm)
  clear hm HF5
  go_wp2_with fail
  refine (HF6.out _ HN7.out).mono ?_
  rintro e w12 ⟨rfl, hm⟩
  have HN8 := hideIt (HN7.out.trans hm)
  obtain ⟨z0, z1, z2, z3⟩ := cellsB4 (HA.out _ HN8.out)
  clear hm HF6
  go_wp2_with fail
  clear z0 z1 z2 z3
  refine (HF7.out _ HN8.out).mono ?_
  rintro e w13 ⟨k1, rfl, hrow1, hm⟩
  have HRK := hideIt hrow1
  have HN9 := hideIt (HN8.out.trans hm)
  obtain ⟨z0, z1, z2, z3⟩ := cellsB4 (HB.out _ HN9.out)
  clear hm HF7 hrow1
  go_wp2_with fail
  clear z0 z1 z2 z3
  refine (HF8.out _ HN9.out).mono ?_
  rintro e w14 ⟨k2, rfl, hrow2, hm⟩
  obtain ⟨ka, kc, rfl, hka⟩ := HRK.out.keep hm
  obtain ⟨la, lc, rfl, hla⟩ := hrow2
  have HKA := hideIt hka
  have HLA := hideIt hla
  have HFIN := hideIt (HMW.out _ (HN9.out.trans hm))
  have hge : ¬ ((hs.length : Int) < 1) := by omega
  clear hm HF8 hka hla HRK HMW HA HB HN0 HN1 HN2 HN3 HN4 HN5 HN6 HN7 HN8 HN9 HWW hl1 hl2
  go_wp2_with fail
  go_loopw [33] (fun i wr => ∃ kk : Nat, kk ≤ hs.length ∧ i = .int .i64 kk ∧ Mod [] w14 wr) (fun i _ => hs.length - (intOf i).toNat)
  case atStart => exact ⟨0, by omega, rfl, Mod.refl _ _⟩
  case round =>
    obtain ⟨kk, hkk, rfl, hmr⟩ := hrel
    by_cases hlt : kk < hs.length
    · have hlt' : (kk : Int) < (hs.length : Int) := by omega
      obtain ⟨b, rfl, y0, y1⟩ := HKA.out kk _ (List.getElem?_eq_getElem hlt)
      obtain ⟨b', rfl, y2, y3⟩ := HLA.out kk _ (List.getElem?_eq_getElem hlt)
      have y0 := cell_mod hmr y0
      have y1 := cell_mod hmr y1
      have y2 := cell_mod hmr y2
      have y3 := cell_mod hmr y3
      generalize hs[kk] = e at *
      have HMR := hideIt hmr
      clear hmr
      go_wp2_with fail
      go_region_held (fun w' => w'.cell? ⟨b, kk * 2, none⟩ = some (.int .i64 e.id) ∧ w'.cell? ⟨b, kk * 2 + 1, none⟩ = some (.int .i64 e.far) ∧ w'.cell? ⟨b', kk * 2, none⟩ = some (.int .i64 e.id) ∧ w'.cell? ⟨b', kk * 2 + 1, none⟩ = some (.int .i64 e.far))
        ((go_keep))
        ((fail))
      all_goals
        have HMD := hideIt (HMR.out.trans (Mod.drew _))
        clear y0 y1 y2 y3
        go_wp2_with fail
        go_roundw
        case rel => exact ⟨kk + 1, by omega, by go_num, HMD.out⟩
        case measure => simp [intOf]; omega
    · have hge2 : ¬ ((kk : Int) < (hs.length : Int)) := by omega
      have HF := hideIt (HFIN.out.trans hmr)
      clear hmr
      go_wp2
      go_ret
      exact ⟨rfl, HF.out⟩

end Go.Proofs.YthimaoipogocfaaGreat
