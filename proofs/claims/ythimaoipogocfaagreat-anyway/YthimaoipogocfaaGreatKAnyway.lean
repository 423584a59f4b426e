import Derived.Test.YthimaoipogocfaaGreatShiftP
import Derived.Test.YthimaoipogocfaaGreatKAny0
import Derived.Test.YthimaoipogocfaaGreatKt0
import Derived.Deep.DeepCutAuto
namespace Go.Proofs.YthimaoipogocfaaGreat
open Go.RowKit Go.Maps
attribute [local go_sem] run_store_f32 run_neg_inf

theorem ks_nil (w : World) : KsAt w none [] := fun j t h => by simp at h

set_option maxRecDepth 100000 in
set_option maxHeartbeats 4000000 in
theorem anyway_any {w : World} {f : Int} (hf : i64ok f) {o : Int} (ho : i64ok o) {a : Option Addr} {ks : List Kt} {c : Nat} (hK : KsAt w a ks) {t : Kt} (ht : t.ok) :
    Calls Tryz.prog 8 #[.int .i64 f, .int .i64 o, .slice a ks.length c, ktV t] w fun e w' => e = .returned (.bool true) ∧ Mod [] w w' := by
  have hm0 : Mod [] w (w.alloc (ktO t)) := Mod.alloc _ _
  have hth := heap_alloc_new w (ktO t)
  have HPL1 := hideIt (planted_any hf (dx := 0) (dy := 0) (by omega) (by omega) (hK.kept hm0) (c := c))
  have HPL2 := hideIt (show ∀ W, Calls Tryz.prog 13 #[.int .i64 o, .slice none 0 0, .int .i64 0, .int .i64 0] W (PlantPost (4 + pickF o 13).toNat (plantT [] 0 0) (plantGT (4 + pickF o 13).toNat [] 0 0) W) from fun W => planted_any ho (dx := 0) (dy := 0) (by omega) (by omega) (ks_nil W) (c := 0))
  generalize (4 + pickF f 13).toNat = fan at *
  generalize hfo : (4 + pickF o 13).toNat = fan2 at *
  have HR1 := hideIt (fun W => krect_any t ht 0 0 (by omega) (by omega) W)
  obtain ⟨b1, b2, b3, b4, b5, b6⟩ := t.bounds
  generalize t.x0 0 = X0 at *
  generalize t.y0 0 = Y0 at *
  generalize t.x1 0 = X1 at *
  generalize t.y1 0 = Y1 at *
  have HTH := hideIt (show ∀ W, Mod [] (w.alloc (ktO t)) W → W.heap[w.heap.size]? = some (ktO t) from fun W hm => (hm.block _ (by simp) (by simp)).trans hth)
  have HM0 := hideIt hm0
  have HKS := hideIt (hK.kept hm0)
  have hmin : ∀ w, (Builtin.min_ #[3, 3] 3 #[.int .i64 (ks.length : Int), .int .i64 300]).run Tryz.prog w = .ok (.int .i64 ((ks.take 300).length : Int)) w := fun w => by
    rw [run_min2, List.length_take]
    congr 2
    omega
  have hm300 : (ks.take 300).length ≤ 300 := List.length_take_le 300 ks
  have hmks : (ks.take 300).length ≤ ks.length := by rw [List.length_take]; omega
  clear hf ho hK ht hm0 hth hfo
  go_enter Tryz.func8, Tryz.ntmps8
  go_wp2_with fail
  refine HPL1.out.mono ?_
  intro e w1 hpl
  obtain ⟨s, rfl, hrep1, hm1⟩ := hpl.rep
  have HREP1 := hideIt hrep1
  have HM1 := hideIt hm1
  clear hpl hrep1 hm1 HPL1
  go_wp2_with fail
  refine (HPL2.out _).mono ?_
  rintro e w2 ⟨u, F2, ts2, rfl, k1, k2, k3, k4, k5⟩
  have HA0 := hideIt (show AnyAt w1 u fan2 ((ks.take 300).drop (ks.take 300).length) (.slice none 0 0) w2 from by
    rw [List.drop_length]
    exact ⟨ts2, F2, _, k1, k2, by have := plantGT_length fan2 [] 0 0; simp; exact this, ⟨rfl, .inl ⟨rfl, rfl⟩⟩, k4, by simp [Value.ownBlock], k5⟩)
  clear k1 k2 k3 k4 k5 HPL2
  generalize hM : (ks.take 300).length = m at *
  have HMM := hideIt hM
  clear hM
  have v1 : IntKind.i64.wrap ((m : Int) - 1) = (m : Int) - 1 := by rw [IntKind.wrap_i64]; omega
  go_wp2_with fail
  go_loopw [11, 12] (fun dv iv wr => ∃ (z : Int) (j : Nat), iv = .int .i64 z ∧ z = (j : Int) - 1 ∧ j ≤ m ∧ Hid (AnyAt w1 u fan2 ((ks.take 300).drop j) dv wr)) (fun _ iv _ => (intOf iv + 1).toNat)
  case atStart => exact ⟨_, m, rfl, rfl, Nat.le_refl _, HA0⟩
  case round =>
    obtain ⟨z, j, rfl, hz, hj, hR⟩ := hrel
    by_cases hj0 : j = 0
    · subst hj0
      have hzn : ¬ (0 : Int) ≤ z := by omega
      have hzlt : z < 0 := by omega
      clear hz
      rw [List.drop_zero] at hR
      obtain ⟨da, dc, rfl⟩ := hR.out.slice
      have hperm := plantT_last ks
      generalize plantT ks 0 0 = L at *
      generalize ks.take 300 = M at *
      have hmr := hR.out.mod
      obtain ⟨tsu, Fu, lgu, a1, a2, a3, a4, a5, a6, a7⟩ := hR.out.out
      have hll := lastT_length M
      have hLl : L.length = (lastT M).length + 1 := by rw [hperm.length_eq]; rfl
      have htl : tsu.length = (lastT M).length + 1 := by
        have := congrArg List.length a2
        simpa using this
      have hMl : M.length ≤ 300 := by rw [HMM.out]; exact hm300
      have hrepu : KRep w1.heap.size wr u fan2 (midT :: lastT M) lgu := ⟨tsu, Fu, a1, a2, by omega, a5⟩
      have HREPU := hideIt hrepu
      have HREPS := hideIt (HREP1.out.keep hmr)
      have HMR := hideIt (HM1.out.trans hmr)
      obtain ⟨t0, t1, t2, t3, t4⟩ := cell_ktO (HTH.out wr HMR.out)
      clear hR hmr a1 a2 a3 a4 a5 a6 a7 htl hrepu HREP1 HTH
      go_wp2_with fail
      refine (HR1.out _).mono ?_
      rintro e w3 ⟨rfl, hm3⟩
      have HM3 := hideIt hm3
      clear hm3 HR1 t0 t1 t2 t3 t4
      have HA := hideIt (show ∀ W, Mod [] (w3.alloc (B4 X0 Y0 X1 Y1)) W → W.heap[w3.heap.size]? = some (B4 X0 Y0 X1 Y1) from fun W hm => (hm.block _ (by simp) (by simp)).trans (heap_alloc_new w3 _))
      have HMW := hideIt (show ∀ W, Mod [] (w3.alloc (B4 X0 Y0 X1 Y1)) W → Mod [] w W from fun W hm => (((HM0.out.trans HMR.out).trans HM3.out).trans (Mod.alloc _ _)).trans hm)
      have HRA := hideIt (show RectOk X0 Y0 X1 Y1 by unfold RectOk; omega)
      have HK1 := hideIt (fun W (hm : Mod [] (w3.alloc (B4 X0 Y0 X1 Y1)) W) => HREPS.out.keep ((HM3.out.trans (Mod.alloc _ _)).trans hm))
      have HK2 := hideIt (fun W (hm : Mod [] (w3.alloc (B4 X0 Y0 X1 Y1)) W) => HREPU.out.keep ((HM3.out.trans (Mod.alloc _ _)).trans hm))
      have l1 := foundT_len (meetT X0 Y0 X1 Y1) L
      have l2 := foundT_len (holdT X0 Y0 X1 Y1) L
      have l3 := nearT_length X0 Y0 7 L
      have e1 := (foundT_perm (p := meetT X0 Y0 X1 Y1) hperm).symm
      have e2 := (foundT_perm (p := holdT X0 Y0 X1 Y1) hperm).symm
      have e3 := (nearT_perm (x := X0) (y := Y0) (most := 7) hperm).symm
      have e4 := (pairsT_perm hperm).symm
      obtain ⟨xs, hxs⟩ : ∃ xs, foundT (meetT X0 Y0 X1 Y1) L = xs := ⟨_, rfl⟩
      obtain ⟨ys, hys⟩ : ∃ ys, foundT (holdT X0 Y0 X1 Y1) L = ys := ⟨_, rfl⟩
      obtain ⟨hs, hhs⟩ : ∃ hs, nearT X0 Y0 7 L = hs := ⟨_, rfl⟩
      obtain ⟨np, hnp⟩ : ∃ np, pairsT L = np := ⟨_, rfl⟩
      rw [hxs] at e1 l1
      rw [hys] at e2 l2
      rw [hhs] at e3 l3
      rw [hnp] at e4
      have HF1 := hideIt (show ∀ W, Mod [] (w3.alloc (B4 X0 Y0 X1 Y1)) W → Calls Tryz.prog 19 #[.pointer (some ⟨s, 0, none⟩), R4 X0 Y0 X1 Y1] W (KFindPost xs W) from fun W hm => by rw [← hxs]; exact kmeets_any (HK1.out W hm) HRA.out)
      have HF2 := hideIt (show ∀ W, Mod [] (w3.alloc (B4 X0 Y0 X1 Y1)) W → Calls Tryz.prog 19 #[.pointer (some ⟨u, 0, none⟩), R4 X0 Y0 X1 Y1] W (KFindPost xs W) from fun W hm => by rw [← e1]; exact kmeets_any (HK2.out W hm) HRA.out)
      have HF3 := hideIt (show ∀ W, Mod [] (w3.alloc (B4 X0 Y0 X1 Y1)) W → Calls Tryz.prog 20 #[.pointer (some ⟨s, 0, none⟩), R4 X0 Y0 X1 Y1] W (KFindPost ys W) from fun W hm => by rw [← hys]; exact kwithin_any (HK1.out W hm) HRA.out)
      have HF4 := hideIt (show ∀ W, Mod [] (w3.alloc (B4 X0 Y0 X1 Y1)) W → Calls Tryz.prog 20 #[.pointer (some ⟨u, 0, none⟩), R4 X0 Y0 X1 Y1] W (KFindPost ys W) from fun W hm => by rw [← e2]; exact kwithin_any (HK2.out W hm) HRA.out)
      have HF5 := hideIt (show ∀ W, Mod [] (w3.alloc (B4 X0 Y0 X1 Y1)) W → Calls Tryz.prog 25 #[.pointer (some ⟨s, 0, none⟩)] W (PairsPost np W) from fun W hm => by rw [← hnp]; exact kPairs_any (HK1.out W hm))
      have HF6 := hideIt (show ∀ W, Mod [] (w3.alloc (B4 X0 Y0 X1 Y1)) W → Calls Tryz.prog 25 #[.pointer (some ⟨u, 0, none⟩)] W (PairsPost np W) from fun W hm => by rw [← e4]; exact kPairs_any (HK2.out W hm))
      have HF7 := hideIt (show ∀ W, Mod [] (w3.alloc (B4 X0 Y0 X1 Y1)) W → Calls Tryz.prog 26 #[.pointer (some ⟨s, 0, none⟩), .int .i64 X0, .int .i64 Y0, .int .i64 7] W (HNearPost hs W) from fun W hm => by rw [← hhs]; exact kNear_any (HK1.out W hm) (by unfold Near9; omega) (by unfold Near9; omega) (most := 7) (by omega))
      have HF8 := hideIt (show ∀ W, Mod [] (w3.alloc (B4 X0 Y0 X1 Y1)) W → Calls Tryz.prog 26 #[.pointer (some ⟨u, 0, none⟩), .int .i64 X0, .int .i64 Y0, .int .i64 7] W (HNearPost hs W) from fun W hm => by rw [← e3]; exact kNear_any (HK2.out W hm) (by unfold Near9; omega) (by unfold Near9; omega) (most := 7) (by omega))
      have HL1 := hideIt (show ∀ W, Mod [] (w3.alloc (B4 X0 Y0 X1 Y1)) W → Calls Tryz.prog 21 #[.pointer (some ⟨s, 0, none⟩)] W (fun e w' => e = .returned (.int .i64 (((lastT M).length : Int) + 1)) ∧ W = w') from fun W hm => by
        have := kLen_any (HK1.out W hm)
        rw [hLl] at this
        exact this)
      have HL2 := hideIt (show ∀ W, Mod [] (w3.alloc (B4 X0 Y0 X1 Y1)) W → Calls Tryz.prog 21 #[.pointer (some ⟨u, 0, none⟩)] W (fun e w' => e = .returned (.int .i64 (((lastT M).length : Int) + 1)) ∧ W = w') from fun W hm => by
        have := kLen_any (HK2.out W hm)
        rw [show (midT :: lastT M).length = (lastT M).length + 1 from rfl] at this
        exact this)
      have hmin7 : ∀ w, (Builtin.min_ #[3, 3] 3 #[.int .i64 (((lastT M).length : Int) + 1), .int .i64 7]).run Tryz.prog w = .ok (.int .i64 (hs.length : Int)) w := fun w => by
        rw [run_min2, l3, hLl]
        congr 2
        omega
      have hl1 : xs.length ≤ 1000 := by omega
      have hl2 : ys.length ≤ 1000 := by omega
      have hl3 : hs.length ≤ 7 := by omega
      have hdn : (lastT M).length ≤ 300 := by omega
      have HN0 := hideIt (Mod.refl [] (w3.alloc (B4 X0 Y0 X1 Y1)))
      clear l1 l2 l3 e1 e2 e3 e4 hxs hys hhs hnp hperm hLl hll hMl HREPS HREPU HM0 HM1 HM3 HMR HK1 HK2 HRA hmin HKS HMM HA0
      generalize (lastT M).length = dn at *
      obtain ⟨z0, z1, z2, z3⟩ := cellsB4 (HA.out _ HN0.out)
      go_wp2_with fail
      clear z0 z1 z2 z3
      refine (HF1.out _ HN0.out).mono ?_
      rintro e w5 ⟨s1, rfl, hrow1, hm⟩
      have HR1 := hideIt hrow1
      have HN1 := hideIt (HN0.out.trans hm)
      obtain ⟨z0, z1, z2, z3⟩ := cellsB4 (HA.out _ HN1.out)
      clear hm hrow1 HF1
      go_wp2_with fail
      clear z0 z1 z2 z3
      refine (HF2.out _ HN1.out).mono ?_
      rintro e w6 ⟨s2, rfl, hrow2, hm⟩
      have HR1 := hideIt (HR1.out.keep hm)
      have HR2 := hideIt hrow2
      have HN2 := hideIt (HN1.out.trans hm)
      obtain ⟨z0, z1, z2, z3⟩ := cellsB4 (HA.out _ HN2.out)
      clear hm hrow2 HF2
      go_wp2_with fail
      clear z0 z1 z2 z3
      refine (HF3.out _ HN2.out).mono ?_
      rintro e w7 ⟨s3, rfl, hrow3, hm⟩
      have HR1 := hideIt (HR1.out.keep hm)
      have HR2 := hideIt (HR2.out.keep hm)
      have HR3 := hideIt hrow3
      have HN3 := hideIt (HN2.out.trans hm)
      obtain ⟨z0, z1, z2, z3⟩ := cellsB4 (HA.out _ HN3.out)
      clear hm hrow3 HF3
      go_wp2_with fail
      clear z0 z1 z2 z3
      refine (HF4.out _ HN3.out).mono ?_
      rintro e w8 ⟨s4, rfl, hrow4, hm⟩
      have HR1 := hideIt (HR1.out.keep hm)
      have HR2 := hideIt (HR2.out.keep hm)
      have HR3 := hideIt (HR3.out.keep hm)
      have HR4 := hideIt hrow4
      have HN4 := hideIt (HN3.out.trans hm)
      clear hm hrow4 HF4
      have HS1 := hideIt (show Calls Tryz.prog 22 #[s1, s2] w8 (KBool true w8) from by
        have := same_any HR1.out HR2.out (by omega) (by omega)
        rw [decide_eq_true rfl] at this
        exact this)
      go_wp2_with fail
      refine HS1.out.mono ?_
      rintro e w9 ⟨rfl, hm⟩
      have HN5 := hideIt (HN4.out.trans hm)
      have HS2 := hideIt (show Calls Tryz.prog 22 #[s3, s4] w9 (KBool true w9) from by
        have := same_any (HR3.out.keep hm) (HR4.out.keep hm) (by omega) (by omega)
        rw [decide_eq_true rfl] at this
        exact this)
      clear hm HS1 HR1 HR2 HR3 HR4
      go_wp2_with fail
      refine HS2.out.mono ?_
      rintro e w10 ⟨rfl, hm⟩
      have HN6 := hideIt (HN5.out.trans hm)
      clear hm HS2
      go_wp2_with fail
      refine (HF5.out _ HN6.out).mono ?_
      rintro e w11 ⟨rfl, hm⟩
      have HN7 := hideIt (HN6.out.trans hm)
      clear hm HF5
      go_wp2_with fail
      refine (HF6.out _ HN7.out).mono ?_
      rintro e w12 ⟨rfl, hm⟩
      have HN8 := hideIt (HN7.out.trans hm)
      clear hm HF6
      go_wp2_with fail
      refine (HL1.out _ HN8.out).mono ?_
      rintro e w' ⟨rfl, hw⟩
      obtain rfl := hw
      go_wp2_with fail
      refine (HL2.out _ HN8.out).mono ?_
      rintro e w' ⟨rfl, hw⟩
      obtain rfl := hw
      obtain ⟨z0, z1, z2, z3⟩ := cellsB4 (HA.out _ HN8.out)
      clear HL1 HL2
      go_wp2_with fail
      clear z0 z1 z2 z3
      refine (HF7.out _ HN8.out).mono ?_
      rintro e w13 ⟨k1, rfl, hrow1, hm⟩
      have HRK := hideIt hrow1
      have HN9 := hideIt (HN8.out.trans hm)
      obtain ⟨z0, z1, z2, z3⟩ := cellsB4 (HA.out _ HN9.out)
      clear hm HF7 hrow1
      go_wp2_with fail
      clear z0 z1 z2 z3
      refine (HF8.out _ HN9.out).mono ?_
      rintro e w14 ⟨k2, rfl, hrow2, hm⟩
      obtain ⟨ka, kc, rfl, hka⟩ := HRK.out.keep hm
      obtain ⟨la, lc, rfl, hla⟩ := hrow2
      have HKA := hideIt hka
      have HLA := hideIt hla
      have HFIN := hideIt (HMW.out _ (HN9.out.trans hm))
      clear hm HF8 hka hla HRK HMW HA HN0 HN1 HN2 HN3 HN4 HN5 HN6 HN7 HN8 HN9 hl1 hl2
      go_wp2_with fail
      go_loopw [35] (fun i wr => ∃ kk : Nat, kk ≤ hs.length ∧ i = .int .i64 kk ∧ Mod [] w14 wr) (fun i _ => hs.length - (intOf i).toNat)
      case atStart => exact ⟨0, by omega, rfl, Mod.refl _ _⟩
      case round =>
        obtain ⟨kk, hkk, rfl, hmr⟩ := hrel
        by_cases hlt : kk < hs.length
        · have hlt' : (kk : Int) < (hs.length : Int) := by omega
          obtain ⟨b, rfl, y0, y1⟩ := HKA.out kk _ (List.getElem?_eq_getElem hlt)
          obtain ⟨b', rfl, y2, y3⟩ := HLA.out kk _ (List.getElem?_eq_getElem hlt)
          have y0 := cell_mod hmr y0
          have y1 := cell_mod hmr y1
          have y2 := cell_mod hmr y2
          have y3 := cell_mod hmr y3
          generalize hs[kk] = e at *
          have HMR := hideIt hmr
          clear hmr
          go_wp2_with fail
          go_region_held (fun w' => w'.cell? ⟨b, kk * 2, none⟩ = some (.int .i64 e.id) ∧ w'.cell? ⟨b, kk * 2 + 1, none⟩ = some (.int .i64 e.far) ∧ w'.cell? ⟨b', kk * 2, none⟩ = some (.int .i64 e.id) ∧ w'.cell? ⟨b', kk * 2 + 1, none⟩ = some (.int .i64 e.far))
            ((go_keep))
            ((fail))
          all_goals
            have HMD := hideIt (HMR.out.trans (Mod.drew _))
            clear y0 y1 y2 y3
            go_wp2_with fail
            go_roundw
            case rel => exact ⟨kk + 1, by omega, by go_num, HMD.out⟩
            case measure => simp [intOf]; omega
        · have hge2 : ¬ ((kk : Int) < (hs.length : Int)) := by omega
          have HF := hideIt (HFIN.out.trans hmr)
          clear hmr
          go_wp2
          go_ret
          exact ⟨rfl, HF.out⟩
    · obtain ⟨kk, rfl⟩ : ∃ kk, j = kk + 1 := ⟨j - 1, by omega⟩
      have hz' : z = (kk : Int) := by omega
      subst hz'
      have hkm : kk < (ks.take 300).length := by rw [HMM.out]; omega
      have hkl : kk < ks.length := by omega
      have hget : ks[kk]? = some ks[kk] := List.getElem?_eq_getElem hkl
      obtain ⟨hok, b, off, rfl, hAt⟩ := HKS.out kk _ hget
      have hdrop : (ks.take 300).drop kk = ks[kk] :: (ks.take 300).drop (kk + 1) := by
        rw [List.drop_eq_getElem_cons hkm, List.getElem_take]
      have hMl : ((ks.take 300).drop (kk + 1)).length ≤ 300 := by simp; omega
      generalize ks[kk] = k at *
      generalize (ks.take 300).drop (kk + 1) = M at *
      have HDR := hideIt hdrop
      have HOK := hideIt hok
      have HAT := hideIt (show ∀ W, Mod [] w1 W → KtAt W b (off + kk * 5) k from fun W hm => hAt.kept (HM1.out.trans hm) (by simp))
      obtain ⟨c0, c1, c2, c3, c4⟩ := HAT.out _ hR.out.mod
      obtain ⟨da, dc, rfl⟩ := hR.out.slice
      have hkz : (kk : Int) < (ks.length : Int) := by omega
      clear hget hok hAt hdrop hkm hkl hz
      go_wp2_with fail
      refine (kid_any k HOK.out _).mono ?_
      rintro e w3 ⟨rfl, hm3⟩
      have HA3 := hideIt (hR.out.keep hm3)
      clear hm3 c0 c1 c2 c3 c4 hR
      cases hb : decide (k.id ∈ (lastT M).map (·.id)) with
      | true =>
        have HIN := hideIt (show Calls Tryz.prog 23 #[.slice da (lastT M).length dc, .int .i64 k.id] w3 (KBool true w3) from by
          have := kin_any HA3.out.row (by have := lastT_length M; rw [List.length_map]; omega) k.id
          rw [hb] at this
          exact this)
        have HB := hideIt hb
        clear hb
        go_wp2_with fail
        refine HIN.out.mono ?_
        rintro e w4 ⟨rfl, hm4⟩
        have HF := hideIt ((HA3.out.keep hm4).skip HB.out)
        clear hm4 HIN HA3
        go_wp2_with fail
        go_roundw
        case rel => exact ⟨_, kk, rfl, rfl, by omega, hideIt (by rw [HDR.out]; exact HF.out)⟩
        case measure => simp [intOf]
      | false =>
        have HIN := hideIt (show Calls Tryz.prog 23 #[.slice da (lastT M).length dc, .int .i64 k.id] w3 (KBool false w3) from by
          have := kin_any HA3.out.row (by have := lastT_length M; rw [List.length_map]; omega) k.id
          rw [hb] at this
          exact this)
        have HB := hideIt hb
        clear hb
        go_wp2_with fail
        refine HIN.out.mono ?_
        rintro e w4 ⟨rfl, hm4⟩
        have HA4 := hideIt (HA3.out.keep hm4)
        clear hm4 HIN HA3
        have hll : (lastT M).length ≤ 300 := Nat.le_trans (lastT_length M) hMl
        have HLX := hideIt (show (lastT M).length + 1 ≤ maxLen ∧ ((lastT M).length + 1) * 8 ≤ 140737488355328 by unfold maxLen; omega)
        obtain ⟨i0, hi, hz0, hz1, hz2⟩ := info_partsB infoI
        have HSRC := hideIt (show srcRow (w4.alloc (.cells #[.int .i64 k.id] 3)) 1 (.slice (some ⟨w4.heap.size, 0, none⟩) 1 1) 1 (ints [k.id]) from
          srcRow_of_owns (owns_allocT (w := w4) (cur := #[.int .i64 k.id]) (e := 3) (n := 1) (size := 1) rfl (by decide) (base := 0) (Nat.zero_le _)) (ints_one [k.id]))
        have HOWN := hideIt (show (w4.alloc (.cells #[.int .i64 k.id] 3)).ownsRow 0 3 1 (.slice da (lastT M).length dc) (lastT M).length (ints ((lastT M).map (·.id))) from by
          obtain ⟨_, _, _, _, _, _, h4, _⟩ := HA4.out.out
          exact owns_kept h4 (Mod.alloc (F := []) _ _) (by simp))
        go_wp2_with (at_builtin; refine wpList_append_rows _ rfl _ _ 39 rfl 0 3 i0 (.int .i64 0) 1 8 Tryz.underlying39 hi hz0 hz1 hz2 rfl (by decide) _ (lastT M).length (ints ((lastT M).map Th.id)) rfl HOWN.out _ 1 (ints [k.id]) rfl HSRC.out (Nat.succ_pos _) HLX.out.1 HLX.out.2 (Nat.zero_le _) ?_)
        intro g5 c5 w5 ho5 hm5 hat5
        have HM5 := hideIt (HA4.out.add (Mod.alloc _ _) ho5 hm5 (hat5.imp id (fun h => by simpa using h)))
        clear ho5 hm5 hat5 HSRC HOWN HA4
        obtain ⟨c0, c1, c2, c3, c4⟩ := HAT.out _ HM5.out.mod
        go_wp2_with fail
        refine (krect_any k HOK.out 0 0 (by omega) (by omega) _).mono ?_
        rintro e w6 ⟨rfl, hm6⟩
        have HPUT := hideIt ((HM5.out.keep hm6).put HB.out hMl)
        clear hm6 HM5 c0 c1 c2 c3 c4
        go_wp2_with fail
        refine HPUT.out.mono ?_
        rintro e w7 ⟨rfl, hA7⟩
        have HF := hideIt hA7
        clear hA7 HPUT
        go_wp2_with fail
        go_roundw
        case rel => exact ⟨_, kk, rfl, rfl, by omega, hideIt (by rw [HDR.out]; exact HF.out)⟩
        case measure => simp [intOf]

end Go.Proofs.YthimaoipogocfaaGreat
