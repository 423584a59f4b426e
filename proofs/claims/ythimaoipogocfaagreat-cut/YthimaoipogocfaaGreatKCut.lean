import Derived.Test.YthimaoipogocfaaGreatKCut0
namespace Go.Proofs.YthimaoipogocfaaGreat
open Go.RowKit Go.Maps
attribute [local go_sem] run_store_f32 run_neg_inf

set_option maxRecDepth 100000 in
set_option maxHeartbeats 4000000 in
theorem cut_any {w : World} {f : Int} (hf : i64ok f) {a : Option Addr} {ks : List Kt} {c : Nat} (hK : KsAt w a ks) {dr ca : Int} (hdr : i64ok dr) (hca : i64ok ca) {t : Kt} (ht : t.ok) :
    Calls Tryz.prog 11 #[.int .i64 f, .slice a ks.length c, .int .i64 dr, .int .i64 ca, ktV t] w fun e w' => e = .returned (.bool true) ∧ Mod [] w w' := by
  have hm0 : Mod [] w (w.alloc (ktB t)) := Mod.alloc _ _
  have hth := heap_alloc_new w (ktB t)
  obtain ⟨f4, f16, fe⟩ := fanF_lt f
  have HPL := hideIt (planted_any hf (dx := 0) (dy := 0) (by omega) (by omega) (hK.kept hm0) (c := c))
  generalize (4 + pickF f 13).toNat = fan at *
  have hG0 := plantGT_length (fan : Int) ks 0 0
  rw [← plantSt_lg] at hG0
  obtain ⟨d1, d2⟩ := pickF_lt dr 300 (by omega)
  have hCS := cutS (fan : Int) ks d1 d2
  have HDROP := hideIt (fun W q F (h : HAt W q fan (plantSt fan ks 0 0) F) => hDropS h (by omega) (pickF dr 300))
  generalize stDrop (plantSt (fan : Int) ks 0 0) (pickF dr 300) = s1 at *
  have HCS := hideIt hCS
  have hlow := hCS.low
  have hhigh := hCS.high
  have HPK := hideIt (fun W => pick_any ca ((s1.lg.length : Int) + 1) W hca (by omega) (by omega))
  obtain ⟨p1, p2⟩ := pickF_lt ca ((s1.lg.length : Int) + 1) (by omega)
  obtain ⟨kk, hkk⟩ : ∃ kk : Nat, pickF ca ((s1.lg.length : Int) + 1) = kk := ⟨(pickF ca ((s1.lg.length : Int) + 1)).toNat, by omega⟩
  rw [hkk] at HPK p1 p2
  have hkle : kk ≤ s1.lg.length := by omega
  clear hkk p1 p2 hCS
  have HM0 := hideIt hm0
  have HTH := hideIt (show ∀ W, Mod [] (w.alloc (ktB t)) W → W.heap[w.heap.size]? = some (ktB t) from fun W hm => (hm.block _ (by simp) (by simp)).trans hth)
  have HP := hideIt (And.intro hf (And.intro hdr hca))
  have HR := hideIt (show ∀ W, Calls Tryz.prog 18 #[ktV t, .int .i64 0, .int .i64 0] W (fun e w' => e = .returned (R4 (t.x0 0) (t.y0 0) (t.x1 0) (t.y1 0)) ∧ Mod [] W w') from fun W => krect_any t ht 0 0 (by omega) (by omega) W)
  have HRO := hideIt (t.rect_ok (dx := 0) (dy := 0) (by omega) (by omega))
  generalize t.x0 0 = X0 at *
  generalize t.y0 0 = Y0 at *
  generalize t.x1 0 = X1 at *
  generalize t.y1 0 = Y1 at *
  clear hK hm0 hth hf hdr hca ht
  go_enter Tryz.func11, Tryz.ntmps11
  go_wp2_with fail
  refine HPL.out.mono ?_
  intro e w1 hpl
  obtain ⟨q, F1, rfl, hat1, hF1, hm1⟩ := hpl.hat
  have hmw1 := HM0.out.trans hm1
  have HT1 := hideIt (And.intro hat1 (And.intro hF1 hm1))
  clear hpl HPL hat1 hF1 hm1 hmw1
  go_wp2_with fail
  refine (pick_any _ _ _ HP.out.2.1 (by omega) (by omega)).mono ?_
  rintro e w' ⟨rfl, hw⟩
  obtain rfl := hw.symm
  clear hw
  go_wp2_with fail
  refine (HDROP.out _ _ _ HT1.out.1).mono ?_
  rintro e w2 ⟨c2, F2, rfl, hat2, _, hF2, hm2⟩
  obtain ⟨_, hF1, hm1⟩ := HT1.out
  have hmw2 : Mod [] (w.alloc (ktB t)) w2 := hm1.then hm2 (fun x hx => .inr (hF1 x hx))
  have HLOG := hideIt (hLogS hat2 (by omega))
  have hnF2 : ∀ x ∈ F2, (w.alloc (ktB t)).heap.size ≤ x := fun x hx => by
    have := hm1.size
    rcases hF2 x hx with h | h
    · exact hF1 x h
    · omega
  have HNF := hideIt hnF2
  have HT2 := hideIt (And.intro hat2 hmw2)
  clear hat2 hF2 hm2 hF1 hm1 hmw2 HT1 HDROP hnF2
  go_wp2_with fail
  refine HLOG.out.mono ?_
  rintro e w3 ⟨g, cj, rfl, ho3, hg3, hm3⟩
  have hrow := RowB.of_told ho3
  have hat3 := HT2.out.1.kept hm3 (by simp)
  have hgF : g ∉ F2 := fun hx => by have := HT2.out.1.lt g hx; omega
  have HT3 := hideIt (And.intro hat3 (And.intro hrow (And.intro hgF (HT2.out.2.trans hm3))))
  have hcap := hrow.cap
  clear hrow hat3 hgF ho3 hg3 hm3 HLOG HT2
  go_wp2_with fail
  refine (HPK.out _).mono ?_
  rintro e w' ⟨rfl, hw⟩
  obtain rfl := hw.symm
  clear hw HPK
  go_wp2_with fail
  refine (replay_cut f4 f16 HCS.out HT3.out.2.1 HT3.out.1.byte hkle).mono ?_
  rintro e w4 ⟨ps, used, ec, rfl, hfirst, hm4⟩
  have HT4 := hideIt (And.intro hfirst hm4)
  have HROW4 := hideIt (HT3.out.2.1.kept hm4 (by simp))
  clear hfirst hm4
  go_wp2_with fail
  refine (replay_whole f4 f16 HCS.out HROW4.out HT3.out.1.byte).mono ?_
  rintro e w5 ⟨qr, Fr, rfl, hatr, hFr, hm5⟩
  obtain ⟨a1, a2, a3, a4⟩ := HT3.out
  obtain ⟨b1, b2⟩ := HT4.out
  have HW := hideIt (cutW a1 a2 a3 b1 b2 hatr hFr hm5 HNF.out (a4.trans b2).size)
  have HM5 := hideIt ((a4.trans b2).trans hm5)
  have hlen29 : ¬ ((s1.lg.length : Int) < 29) := by omega
  have hlnn : ((s1.lg.length : Int) != (s1.lg.length : Int)) = false := by simp
  obtain ⟨t0, t1, t2, t3, t4⟩ := cell_ktB (HTH.out w5 HM5.out)
  clear a1 a2 a3 a4 b1 b2 hatr hFr hm5 HROW4 HT4 HT3
  go_wp2_with fail
  refine (HR.out _).mono ?_
  rintro e w6 ⟨rfl, hm6⟩
  have hk := HCS.out.hist.ok.len
  have HK6 := hideIt (kmeets_any ((HW.out.keep hm6).t.krep (by omega)) HRO.out)
  have HW6 := hideIt (HW.out.keep hm6)
  have HM6 := hideIt (HM5.out.trans hm6)
  clear hm6 HW HM5 t0 t1 t2 t3 t4
  go_wp2_with fail
  refine HK6.out.mono ?_
  rintro e w7 ⟨va, rfl, hra, hm7⟩
  have HRA := hideIt hra
  have HW7 := hideIt (HW6.out.keep hm7)
  have HM7 := hideIt (HM6.out.trans hm7)
  obtain ⟨t0, t1, t2, t3, t4⟩ := cell_ktB (HTH.out w7 HM7.out)
  clear hra hm7 HK6 HW6 HM6
  go_wp2_with fail
  refine (HR.out _).mono ?_
  rintro e w8 ⟨rfl, hm8⟩
  have HK8 := hideIt (kmeets_any ((HW7.out.keep hm8).r.krep (by omega)) HRO.out)
  have HRA8 := hideIt (HRA.out.keep hm8)
  have HW8 := hideIt (HW7.out.keep hm8)
  have HM8 := hideIt (HM7.out.trans hm8)
  clear hm8 HW7 HM7 t0 t1 t2 t3 t4 HRA
  go_wp2_with fail
  refine HK8.out.mono ?_
  rintro e w9 ⟨vb, rfl, hrb, hm9⟩
  have hlf := foundT_len (meetT X0 Y0 X1 Y1) s1.L
  have hsame := same_any (HRA8.out.keep hm9) hrb (by omega) (by omega)
  rw [decide_eq_true rfl] at hsame
  have HSM := hideIt hsame
  have HW9 := hideIt (HW8.out.keep hm9)
  have HM9 := hideIt (HM8.out.trans hm9)
  clear hm9 hrb HRA8 HW8 HM8 HK8 hsame hlf HR HTH
  go_wp2_with fail
  refine HSM.out.mono ?_
  rintro e w10 ⟨rfl, hm10⟩
  have HP10 := hideIt (kPairs_any ((HW9.out.keep hm10).t.krep (by omega)))
  have HW10 := hideIt (HW9.out.keep hm10)
  have HM10 := hideIt (HM9.out.trans hm10)
  clear hm10 HW9 HM9 HSM
  go_wp2_with fail
  refine HP10.out.mono ?_
  rintro e w11 ⟨rfl, hm11⟩
  have HP11 := hideIt (kPairs_any ((HW10.out.keep hm11).r.krep (by omega)))
  have HW11 := hideIt (HW10.out.keep hm11)
  have HM11 := hideIt (HM10.out.trans hm11)
  clear hm11 HW10 HM10 HP10
  go_wp2_with fail
  refine HP11.out.mono ?_
  rintro e w12 ⟨rfl, hm12⟩
  have HPUT := hideIt (hPut4 (HW11.out.keep hm12).t (by omega) (by omega) HCS.out.put)
  have HW12 := hideIt (HW11.out.keep hm12)
  have HM12 := hideIt (HM11.out.trans hm12)
  clear hm12 HW11 HM11 HP11
  go_wp2_with fail
  refine HPUT.out.mono ?_
  rintro e w13 ⟨rfl, F', k1, k2, k3⟩
  have hatr := HW12.out.r.kept k3 (fun x hx hF => HW12.out.apart x hF hx)
  have HPUT2 := hideIt (hPut4 hatr (by omega) (by omega) HCS.out.put)
  have HA13 := hideIt (And.intro k1 (And.intro k2 k3))
  have HM13 := hideIt (HM12.out.then k3 (fun x hx => .inr (HW12.out.newF x hx)))
  clear k1 k2 k3 hatr HPUT HM12
  go_wp2_with fail
  refine HPUT2.out.mono ?_
  rintro e w14 ⟨rfl, Fr', k1, k2, k3⟩
  obtain ⟨b1, b2, b3⟩ := HA13.out
  have hX := cutX HW12.out b1 b2 b3 k1 k3
  have HM14 := hideIt (HM13.out.then k3 (fun x hx => .inr (HW12.out.newR x hx)))
  obtain ⟨Ft, hft⟩ := hX.t
  have hl2 : (stPut s1 ⟨4000, 0, 0, 0, 0⟩).lg.length ≤ 1000000000000 := by
    have := putLT_length s1.L s1.lg ⟨4000, 0, 0, 0, 0⟩
    show (putLT s1.L s1.lg ⟨4000, 0, 0, 0, 0⟩).length ≤ _
    omega
  generalize stPut s1 ⟨4000, 0, 0, 0, 0⟩ = s2 at *
  have HLT := hideIt (hLogS hft hl2)
  have HX := hideIt hX
  have HL2 := hideIt hl2
  clear b1 b2 b3 k1 k2 k3 hX hft hl2 HA13 HW12 HM13 HPUT2
  go_wp2_with fail
  refine HLT.out.mono ?_
  rintro e w15 ⟨gx, cx, rfl, hox, _, hm15⟩
  obtain ⟨Fr2, hfr⟩ := (HX.out.keep hm15).r
  have HLR := hideIt (hLogS hfr HL2.out)
  have HRX := hideIt (RowB.of_told hox)
  have HX15 := hideIt (HX.out.keep hm15)
  have HM15 := hideIt (HM14.out.trans hm15)
  clear hox hm15 hfr HX HM14 HLT
  go_wp2_with fail
  refine HLR.out.mono ?_
  rintro e w16 ⟨gy, cy, rfl, hoy, _, hm16⟩
  have HRX16 := hideIt (HRX.out.kept hm16 (by simp))
  have HRY16 := hideIt (RowB.of_told hoy)
  have HX16 := hideIt (HX15.out.keep hm16)
  have HM16 := hideIt (HM15.out.trans hm16)
  clear hoy hm16 HRX HX15 HM15 HLR
  have sx := fun W (hm : Mod [] w16 W) => (HRX16.out.kept hm (by simp)).str (Nat.le_refl _)
  have sy := fun W (hm : Mod [] w16 W) => (HRY16.out.kept hm (by simp)).str (Nat.le_refl _)
  rw [List.take_length] at sx sy
  have sx0 := sx _ (Mod.refl _ _)
  have sy0 := sy _ (Mod.refl _ _)
  have sxd := sx _ (Mod.drew _)
  have syd := sy _ (Mod.drew _)
  clear sx sy
  have hXf := HX16.out.first
  have HMW := hideIt (HM0.out.trans HM16.out)
  have HROW := hideIt HX16.out.row
  have hcapJ := hcap.1
  clear HM16 HM0 HCS HP HRO HRX16 HRY16 HX16 HNF HL2 hlen29 hlnn
  rcases hXf with ⟨hk6, rfl, rfl, rfl⟩ | ⟨hk6, qs, p, Fs, rfl, rfl, rfl, hats, hp1, hp2, hp3, hp4⟩
  · have hk6' : (kk : Int) < 6 := by omega
    go_wp2
    all_goals
      go_ret
      exact ⟨rfl, HMW.out⟩
  · have hk6' : ¬ ((kk : Int) < 6) := by omega
    have HLS := hideIt (fun W (hm : Mod [] w16 W) => hLogS (hats.kept hm (by simp)) (by omega))
    have HPRE := hideIt hp1
    have h1 : ¬ ((p.lg.length : Int) > (kk : Int)) := by omega
    have h2 : ¬ ((p.lg.length : Int) < 6) := by omega
    have h3 : ¬ ((kk : Int) - (p.lg.length : Int) ≥ 23) := by omega
    have hpl : p.lg.length ≤ s1.lg.length := by omega
    clear hats hp1
    go_wp2_with fail
    refine (HLS.out _ (Mod.refl _ _)).mono ?_
    rintro e w17 ⟨gl, cl, rfl, hol, _, hm17⟩
    have sl := ((RowB.of_told hol).kept (Mod.drew (F := []) _) (by simp)).str (Nat.le_refl _)
    rw [List.take_length] at sl
    have sj := ((HROW.out.kept hm17 (by simp)).kept (Mod.drew (F := []) _) (by simp)).str hpl
    rw [← HPRE.out] at sj
    have HM17 := hideIt (HMW.out.trans hm17)
    clear hol hm17 HLS HMW HROW HPRE sx0 sy0 sxd syd
    go_wp2_with fail
    go_region
    all_goals
      have HMD := hideIt (HM17.out.trans (Mod.drew w17))
      clear sl sj HM17
      go_wp2
      go_ret
      exact ⟨rfl, HMD.out⟩

end Go.Proofs.YthimaoipogocfaaGreat
