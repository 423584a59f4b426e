import Derived.Test.YthimaoipogocfaaGreatNear5
import Derived.Test.YthimaoipogocfaaGreatKSeen
import Derived.Test.YthimaoipogocfaaGreatKt0
import Derived.Deep.DeepCutAuto
import Derived.Deep.QuietTactic
import Derived.BigQuiet
namespace Go.Proofs.YthimaoipogocfaaGreat
open Go.RowKit Go.Maps
attribute [local go_sem] run_store_f32 run_neg_inf

theorem besI_zero {n l h : Int} : besI n l h = 0 ↔ l ≤ n ∧ n ≤ h := by unfold besI; omega
theorem farI_zero (x y x0 y0 x1 y1 : Int) : farI x y x0 y0 x1 y1 = 0 ↔ (x0 ≤ x ∧ x ≤ x1) ∧ (y0 ≤ y ∧ y ≤ y1) := by
  rw [← besI_zero, ← besI_zero]
  unfold farI
  have h1 := Int.mul_nonneg (besI_pos x x0 x1) (besI_pos x x0 x1)
  have h2 := Int.mul_nonneg (besI_pos y y0 y1) (besI_pos y y0 y1)
  constructor
  · intro h
    have e1 : besI x x0 x1 * besI x x0 x1 = 0 := by omega
    have e2 : besI y y0 y1 * besI y y0 y1 = 0 := by omega
    exact ⟨(Int.mul_eq_zero.1 e1).elim id id, (Int.mul_eq_zero.1 e2).elim id id⟩
  · rintro ⟨h, h'⟩
    rw [h, h']
    rfl
theorem far_here (x y : Int) (t : Th) : meetT x y x y t = decide ((thH x y t).far = 0) := by
  have h1 := farI_zero x y t.x0 t.y0 t.x1 t.y1
  cases hm : meetT x y x y t with
  | true =>
    have := meetI_iff.1 hm
    exact (decide_eq_true (h1.2 (by omega))).symm
  | false =>
    refine (decide_eq_false (fun h => ?_)).symm
    have hq := h1.1 h
    have : meetT x y x y t = true := meetI_iff.2 (by omega)
    rw [hm] at this
    cases this
theorem nearT_take {x y : Int} {k : Nat} {L : List Th} (hl : L.length ≤ 1000) : nearT x y k L = (nearT x y 1000 L).take k := by
  unfold nearT
  rw [List.take_of_length_le (i := 1000) (by rw [sortH_length, List.length_map]; exact hl)]
theorem near_strict {x y : Int} {m : Nat} {L : List Th} (hn : (L.map (·.id)).Nodup) : (nearT x y m L).Pairwise (fun a b => a.far < b.far ∨ (a.far = b.far ∧ a.id < b.id)) := by
  unfold nearT
  refine List.Pairwise.sublist (List.take_sublist _ _) ?_
  have h1 := sortH_pairwise (L.map (thH x y))
  have h2 : ((sortH (L.map (thH x y))).map (·.id)).Nodup := by
    refine ((sortH_perm (L.map (thH x y))).map _).nodup_iff.2 ?_
    rw [List.map_map]
    exact hn
  have h3 : (sortH (L.map (thH x y))).Pairwise (fun a b => a.id ≠ b.id) := List.pairwise_map.1 h2
  refine (h1.and h3).imp (fun {a b} h => ?_)
  have := hle_iff.1 h.1
  have := h.2
  omega
theorem near_mem {x y : Int} {m : Nat} {L : List Th} {e : Ht} (h : e ∈ nearT x y m L) : ∃ t ∈ L, e = thH x y t := by
  have h1 := (sortH_perm (L.map (thH x y))).mem_iff.1 (List.mem_of_mem_take h)
  obtain ⟨t, ht, rfl⟩ := List.mem_map.1 h1
  exact ⟨t, ht, rfl⟩
def zeros (hs : List Ht) : Nat := (hs.filter (fun e => decide (e.far = 0))).length
theorem zeros_near {x y : Int} {L : List Th} (hl : L.length ≤ 1000) : zeros (nearT x y 1000 L) = (foundT (meetT x y x y) L).length := by
  unfold zeros nearT foundT
  rw [List.take_of_length_le (i := 1000) (by rw [sortH_length, List.length_map]; exact hl)]
  rw [sortI_length, List.length_map, ((sortH_perm (L.map (thH x y))).filter _).length_eq, List.filter_map, List.length_map]
  congr 1
  exact List.filter_congr (fun t _ => (far_here x y t).symm)
theorem zeros_step {hs : List Ht} {k : Nat} (h : k < hs.length) : zeros (hs.take (k + 1)) = zeros (hs.take k) + (if (hs[k]).far = 0 then 1 else 0) := by
  unfold zeros
  rw [List.take_succ_eq_append_getElem h, List.filter_append, List.length_append]
  congr 1
  by_cases e : (hs[k]).far = 0
  · rw [if_pos e, List.filter_cons_of_pos (by simpa using e)]; rfl
  · rw [if_neg e, List.filter_cons_of_neg (by simpa using e)]; rfl
theorem zeros_le (hs : List Ht) : zeros hs ≤ hs.length := List.length_filter_le _ _
theorem run_min2n {P : Program} (ts : Array TypeId) (t : TypeId) (a b : Int) (w : World) : (Builtin.min_ ts t #[.int .i64 a, .int .i64 b]).run P w = .ok (.int .i64 (min a b)) w := by
  have h2 : (Builtin.min2 (.int .i64 a) (.int .i64 b)).run P w = .ok (.int .i64 (min a b)) w := by
    unfold Builtin.min2
    by_cases h : b < a
    · simp [h, Int.min_eq_right (Int.le_of_lt h)]
    · simp [h, Int.min_eq_left (by omega : a ≤ b)]
  simp [Builtin.min_, h2]

set_option maxRecDepth 100000 in
set_option maxHeartbeats 4000000 in
theorem near_any {w : World} {f : Int} (hf : i64ok f) {a : Option Addr} {ks : List Kt} {c : Nat} (hK : KsAt w a ks) {x y m : Int} (hx : i64ok x) (hy : i64ok y) (hmo : i64ok m) :
    Calls Tryz.prog 9 #[.int .i64 f, .slice a ks.length c, .int .i64 x, .int .i64 y, .int .i64 m] w fun e w' => e = .returned (.bool true) ∧ Mod [] w w' := by
  have HPL1 := hideIt (planted_any hf (dx := 0) (dy := 0) (by omega) (by omega) hK (c := c))
  have HPK1 := hideIt (fun W => pick_any x 4001 W hx (by omega) (by omega))
  have HPK2 := hideIt (fun W => pick_any y 4001 W hy (by omega) (by omega))
  have HPK3 := hideIt (fun W => pick_any m 20 W hmo (by omega) (by omega))
  obtain ⟨p1, p2⟩ := pickF_lt x 4001 (by omega)
  obtain ⟨q1, q2⟩ := pickF_lt y 4001 (by omega)
  obtain ⟨k1, k2⟩ := pickF_lt m 20 (by omega)
  generalize pickF x 4001 = X0 at *
  generalize pickF y 4001 = Y0 at *
  generalize pickF m 20 = K0 at *
  obtain ⟨kn, rfl⟩ := Int.eq_ofNat_of_zero_le k1
  generalize (4 + pickF f 13).toNat = fan at *
  have v1 : IntKind.i64.wrap (X0 - 2000) = X0 - 2000 := by rw [IntKind.wrap_i64]; omega
  have v2 : IntKind.i64.wrap (Y0 - 2000) = Y0 - 2000 := by rw [IntKind.wrap_i64]; omega
  clear hf hK hx hy hmo
  go_enter Tryz.func9, Tryz.ntmps9
  go_wp2_with fail
  refine HPL1.out.mono ?_
  intro e w1 hpl
  obtain ⟨q, rfl, hrep, hm1⟩ := hpl.rep
  obtain ⟨L, hL⟩ : ∃ L, plantT ks 0 0 = L := ⟨_, rfl⟩
  have hLp : 1 ≤ L.length := by rw [← hL]; simp [plantT, putT]
  rw [hL] at hrep
  have HREP := hideIt hrep
  have HM1 := hideIt hm1
  clear hpl hrep hm1 HPL1 hL
  go_wp2_with fail
  refine (HPK1.out _).mono ?_
  rintro e w' ⟨rfl, hw⟩
  obtain rfl := hw.symm
  clear hw
  go_wp2_with fail
  refine (HPK2.out _).mono ?_
  rintro e w' ⟨rfl, hw⟩
  obtain rfl := hw.symm
  clear hw
  go_wp2_with fail
  refine (HPK3.out _).mono ?_
  rintro e w' ⟨rfl, hw⟩
  obtain rfl := hw.symm
  clear hw HPK1 HPK2 HPK3
  have hX : -2000 ≤ X0 - 2000 ∧ X0 - 2000 ≤ 2000 := by omega
  have hY : -2000 ≤ Y0 - 2000 ∧ Y0 - 2000 ≤ 2000 := by omega
  clear p1 p2 q1 q2 v1 v2
  generalize X0 - 2000 = X at *
  generalize Y0 - 2000 = Y at *
  have HXY := hideIt (And.intro hX hY)
  have HF1 := hideIt (show ∀ W, Mod [] w1 W → Calls Tryz.prog 26 #[.pointer (some ⟨q, 0, none⟩), .int .i64 X, .int .i64 Y, .int .i64 kn] W (HNearPost (nearT X Y kn L) W) from fun W hm => kNear_any (HREP.out.keep hm) (by unfold Near9; omega) (by unfold Near9; omega) (by omega))
  have HF2 := hideIt (show ∀ W, Mod [] w1 W → Calls Tryz.prog 26 #[.pointer (some ⟨q, 0, none⟩), .int .i64 X, .int .i64 Y, .int .i64 1000] W (HNearPost (nearT X Y 1000 L) W) from fun W hm => kNear_any (HREP.out.keep hm) (by unfold Near9; omega) (by unfold Near9; omega) (most := 1000) (by omega))
  have HF3 := hideIt (show ∀ W, Mod [] w1 W → Calls Tryz.prog 21 #[.pointer (some ⟨q, 0, none⟩)] W (fun e w' => e = .returned (.int .i64 L.length) ∧ W = w') from fun W hm => kLen_any (HREP.out.keep hm))
  have HF4 := hideIt (show ∀ W, Mod [] w1 W → Calls Tryz.prog 19 #[.pointer (some ⟨q, 0, none⟩), R4 X Y X Y] W (KFindPost (foundT (meetT X Y X Y) L) W) from fun W hm => kmeets_any (HREP.out.keep hm) (by unfold RectOk; omega))
  have hlen := HREP.out.len
  have l1 := foundT_len (meetT X Y X Y) L
  have l2 := nearT_length X Y 1000 L
  have l3 := nearT_length X Y kn L
  have ht := nearT_take (x := X) (y := Y) (k := kn) hlen
  have hzr := zeros_near (x := X) (y := Y) hlen
  have HPW := hideIt (near_strict (x := X) (y := Y) (m := 1000) HREP.out.ids)
  have HMEM := hideIt (show ∀ e ∈ nearT X Y 1000 L, ∃ t ∈ L, e = thH X Y t from fun e he => near_mem he)
  have HDEC := hideIt (show ∀ t ∈ L, decide (t.id ∈ foundT (meetT X Y X Y) L) = decide ((thH X Y t).far = 0) from fun t ht => (dec_foundT HREP.out.ids ht).trans (far_here X Y t))
  generalize foundT (meetT X Y X Y) L = xs at *
  generalize nearT X Y kn L = hsa at *
  generalize nearT X Y 1000 L = hs at *
  have hasl : hsa.length = min kn hs.length := by rw [ht, List.length_take]
  have hmin : ∀ w, (Builtin.min_ #[3, 3] 3 #[.int .i64 (kn : Int), .int .i64 (L.length : Int)]).run Tryz.prog w = .ok (.int .i64 (hsa.length : Int)) w := fun w => by
    rw [run_min2n]
    congr 2
    omega
  have HTK := hideIt (show ∀ j e, hsa[j]? = some e → hs[j]? = some e from fun j e hj => by
    rw [ht, List.getElem?_take] at hj
    split at hj
    · exact hj
    · cases hj)
  have hLl : L.length = hs.length := by omega
  have HASL := hideIt hasl
  clear hasl
  have HZR := hideIt hzr
  have hxl : xs.length ≤ 1000 := by omega
  clear l1 l2 l3 ht hzr
  rw [hLl] at hmin HF3 hLp hlen
  have HN0 := hideIt (Mod.refl [] w1)
  go_wp2_with fail
  refine (HF1.out _ HN0.out).mono ?_
  rintro e w2 ⟨k1, rfl, hrow1, hm⟩
  have HR1 := hideIt hrow1
  have HN1 := hideIt (HN0.out.trans hm)
  clear hm hrow1 HF1
  go_wp2_with fail
  refine (HF2.out _ HN1.out).mono ?_
  rintro e w3 ⟨k2, rfl, hrow2, hm⟩
  have HR1 := hideIt (HR1.out.keep hm)
  have HR2 := hideIt hrow2
  have HN2 := hideIt (HN1.out.trans hm)
  clear hm hrow2 HF2
  go_wp2_with fail
  refine (HF3.out _ HN2.out).mono ?_
  rintro e w' ⟨rfl, hw⟩
  obtain rfl := hw.symm
  clear hw HF3
  go_wp2_with fail
  refine (HF4.out _ HN2.out).mono ?_
  rintro e w4 ⟨sx, rfl, hrow3, hm⟩
  obtain ⟨aa, ac, rfl, haa⟩ := HR1.out.keep hm
  obtain ⟨ba, bc, rfl, hba⟩ := HR2.out.keep hm
  have HN4 := hideIt (HN2.out.trans hm)
  have HAA := hideIt haa
  have HBA := hideIt hba
  have HRX := hideIt hrow3
  obtain ⟨xa, xc, hsx, _⟩ := hrow3
  subst hsx
  clear hm haa hba HR1 HR2 HF4 HN0 HN1 HN2
  have hge : ¬ ((hs.length : Int) < 1) := by omega
  go_wp2_with fail
  clear hmin
  go_loopw [20, 21] (fun z i wr => ∃ kk : Nat, kk ≤ hs.length ∧ i = .int .i64 kk ∧ z = .int .i64 (zeros (hs.take kk)) ∧ Mod [] w4 wr) (fun _ i _ => hs.length - (intOf i).toNat)
  case atStart => exact ⟨0, by omega, rfl, rfl, Mod.refl _ _⟩
  case round =>
    obtain ⟨kk, hkk, rfl, rfl, hmr⟩ := hrel
    by_cases hlt : kk < hs.length
    · have hlt' : (kk : Int) < (hs.length : Int) := by omega
      have hget : hs[kk]? = some hs[kk] := List.getElem?_eq_getElem hlt
      obtain ⟨t, htL, het⟩ := HMEM.out _ (List.getElem_mem hlt)
      obtain ⟨⟨r1, r2, r3⟩, r4, r5, r6⟩ := HREP.out.rects t htL
      have HGET := hideIt (show ∀ W, Mod [] w4 W → Calls Tryz.prog 27 #[.pointer (some ⟨q, 0, none⟩), .int .i64 t.id] W (fun e w' => e = .returned (.tuple #[R4 t.x0 t.y0 t.x1 t.y1, .int .i64 0]) ∧ Mod [] W w') from fun W hm => kGet_in (HREP.out.keep (HN4.out.trans hm)) htL)
      have hdec := HDEC.out t htL
      obtain ⟨a1, a2⟩ := besI_near (n := X) (low := t.x0) (high := t.x1) (by unfold Near9; omega) (by unfold Near9; omega) (by unfold Near9; omega)
      obtain ⟨b1, b2⟩ := besI_near (n := Y) (low := t.y0) (high := t.y1) (by unfold Near9; omega) (by unfold Near9; omega) (by unfold Near9; omega)
      obtain ⟨a3, a4⟩ := sq_near a1 a2
      obtain ⟨b3, b4⟩ := sq_near b1 b2
      have hmx : ∀ w, (Builtin.max_ #[3, 3, 3] 3 #[.int .i64 (t.x0 - X), .int .i64 (X - t.x1), .int .i64 0]).run Tryz.prog w = .ok (.int .i64 (besI X t.x0 t.x1)) w := fun w => by
        rw [run_max3]
        unfold besI
        congr 2
        omega
      have hmy : ∀ w, (Builtin.max_ #[3, 3, 3] 3 #[.int .i64 (t.y0 - Y), .int .i64 (Y - t.y1), .int .i64 0]).run Tryz.prog w = .ok (.int .i64 (besI Y t.y0 t.y1)) w := fun w => by
        rw [run_max3]
        unfold besI
        congr 2
        omega
      have hfar : (hs[kk]).far = besI X t.x0 t.x1 * besI X t.x0 t.x1 + besI Y t.y0 t.y1 * besI Y t.y0 t.y1 := by rw [het]; rfl
      have hfar2 : (thH X Y t).far = besI X t.x0 t.x1 * besI X t.x0 t.x1 + besI Y t.y0 t.y1 * besI Y t.y0 t.y1 := rfl
      have hid : (hs[kk]).id = t.id := by rw [het]; rfl
      rw [hfar2] at hdec
      obtain ⟨b, rfl, y0, y1⟩ := HBA.out kk _ hget
      rw [hid] at y0
      rw [hfar] at y1
      have hzs := zeros_step hlt
      rw [hfar] at hzs
      have HAT := hideIt (show ∀ e, hsa[kk]? = some e → e.id = t.id ∧ e.far = besI X t.x0 t.x1 * besI X t.x0 t.x1 + besI Y t.y0 t.y1 * besI Y t.y0 t.y1 from fun e he => by
        have := HTK.out kk e he
        rw [hget] at this
        cases this
        exact ⟨hid, hfar⟩)
      have HPV := hideIt (show ∀ j, j + 1 = kk → ∀ e, hs[j]? = some e → e.far < besI X t.x0 t.x1 * besI X t.x0 t.x1 + besI Y t.y0 t.y1 * besI Y t.y0 t.y1 ∨ (e.far = besI X t.x0 t.x1 * besI X t.x0 t.x1 + besI Y t.y0 t.y1 * besI Y t.y0 t.y1 ∧ e.id < t.id) from fun j hj e he => by
        obtain ⟨hjl, hje⟩ := List.getElem?_eq_some_iff.1 he
        have := List.pairwise_iff_getElem.1 HPW.out j kk hjl hlt (by omega)
        rw [hje, hfar, hid] at this
        exact this)
      have HIN := hideIt (show ∀ W, Mod [] w4 W → Calls Tryz.prog 23 #[.slice xa xs.length xc, .int .i64 t.id] W (KBool (decide (besI X t.x0 t.x1 * besI X t.x0 t.x1 + besI Y t.y0 t.y1 * besI Y t.y0 t.y1 = 0)) W) from fun W hm => by
        have := kin_any (HRX.out.keep hm) (by omega) t.id
        rw [hdec] at this
        exact this)
      have y0 := cell_mod hmr y0
      have y1 := cell_mod hmr y1
      have HZS := hideIt hzs
      have hzb : zeros (hs.take kk) ≤ 1000 := by have h1 := zeros_le (hs.take kk); rw [List.length_take] at h1; omega
      have HMR := hideIt hmr
      clear hget het hdec hfar hfar2 hid hzs hmr
      generalize besI X t.x0 t.x1 = DX at *
      generalize besI Y t.y0 t.y1 = DY at *
      obtain ⟨F, hF⟩ : ∃ F, DX * DX + DY * DY = F := ⟨_, rfl⟩
      rw [hF] at y1 HAT HPV HIN HZS
      have HFE := hideIt hF
      have hF0 : 0 ≤ F := by omega
      clear hF
      clear HREP HDEC HPW HMEM HTK HR1 HRX HXY hge htL
      go_wp2_with fail
      refine (HGET.out _ HMR.out).mono ?_
      rintro e w5 ⟨rfl, hm5⟩
      have HM5 := hideIt (HMR.out.trans hm5)
      have y0 := cell_mod (hm5.trans (Mod.alloc _ (B4 t.x0 t.y0 t.x1 t.y1))) y0
      have y1 := cell_mod (hm5.trans (Mod.alloc _ (B4 t.x0 t.y0 t.x1 t.y1))) y1
      have HM5 := hideIt (HM5.out.trans (Mod.alloc _ (B4 t.x0 t.y0 t.x1 t.y1)))
      clear hm5 HGET
      go_wp2_with fail
      refine (HIN.out _ HM5.out).mono ?_
      rintro e w6 ⟨rfl, hm6⟩
      have HM6 := hideIt (HM5.out.trans hm6)
      have y0 := cell_mod hm6 y0
      have y1 := cell_mod hm6 y1
      clear hm6 HIN HM5 hmx hmy
      have HFE2 := HFE.out
      by_cases hz : F = 0
      · have hd : decide (F = 0) = true := by simp [hz]
        have hq : (F == 0) = true := by simp [hz]
        have HFZ := hideIt hz
        rw [hd]
        clear hz hd
        by_cases hk0 : kk = 0
        · have hkz : decide (0 < (kk : Int)) = false := decide_eq_false (by omega)
          have hkz' : decide (0 < kk) = false := decide_eq_false (by omega)
          clear hk0
          go_wp2_with fail
          go_quiet (fail)
          have y0 := cell_mod (Mod.drewN _ nq) y0
          have y1 := cell_mod (Mod.drewN _ nq) y1
          have HM7 := hideIt (HM6.out.trans (Mod.drewN _ nq))
          clear HM6 
          generalize w6.drewN nq = w7 at *
          by_cases hla : kk < hsa.length
          · have hla' : (kk : Int) < (hsa.length : Int) := by omega
            obtain ⟨ab, hab, z0, z1⟩ := HAA.out kk _ (List.getElem?_eq_getElem hla)
            obtain ⟨ea, eb⟩ := HAT.out _ (List.getElem?_eq_getElem hla)
            rw [ea] at z0
            rw [eb] at z1
            subst hab
            have z0 := cell_mod HM7.out z0
            have z1 := cell_mod HM7.out z1
            clear ea eb
            go_wp2_with fail
            go_quiet (fail)
            clear z0 z1
            have HMD := hideIt (HM7.out.trans (Mod.drewN _ nq))
            clear y0 y1 HM7
            generalize w7.drewN nq = w8 at *
            go_wp2_with fail
            go_roundw
            case rel => exact ⟨kk + 1, by omega, by go_num, by rw [HZS.out, if_pos HFZ.out, Int.natCast_add]; rfl, HMD.out⟩
            case measure => simp [intOf]; omega
          · have hla' : decide ((kk : Int) < (hsa.length : Int)) = false := decide_eq_false (by omega)
            have hla2 : decide (kk < hsa.length) = false := decide_eq_false hla
            clear hla
            go_wp2_with fail
            go_quiet (fail)
            have HMD := hideIt (HM7.out.trans (Mod.drewN _ nq))
            clear y0 y1 HM7
            generalize w7.drewN nq = w8 at *
            go_wp2_with fail
            go_roundw
            case rel => exact ⟨kk + 1, by omega, by go_num, by rw [HZS.out, if_pos HFZ.out, Int.natCast_add]; rfl, HMD.out⟩
            case measure => simp [intOf]; omega
        · obtain ⟨j, hj⟩ : ∃ j, j + 1 = kk := ⟨kk - 1, by omega⟩
          have hkp : 0 < (kk : Int) := by omega
          have hkp2 : decide (0 < (kk : Int)) = true := decide_eq_true hkp
          have hkp3 : decide (0 < kk) = true := decide_eq_true (by omega)
          have hlj : j < hs.length := by omega
          have hlj' : (j : Int) < (hs.length : Int) := by omega
          have hsub : (kk : Int) - 1 = (j : Int) := by omega
          have hgj := List.getElem?_eq_getElem hlj
          obtain ⟨b2, hb2, x0, x1⟩ := HBA.out j _ hgj
          obtain rfl : b = b2 := by cases hb2; rfl
          have hpv := HPV.out j hj _ hgj
          generalize hs[j] = p at *
          have x0 := cell_mod HM6.out x0
          have x1 := cell_mod HM6.out x1
          clear hgj hb2 hj hk0
          have hnl : decide (F < p.far) = false := decide_eq_false (by omega)
          by_cases heq : F = p.far
          · have hq2 : (F == p.far) = true := by simp [heq]
            have hnid : decide (t.id ≤ p.id) = false := decide_eq_false (by omega)
            clear heq hpv
            go_wp2_with fail
            go_quiet (fail)
            have y0 := cell_mod (Mod.drewN _ nq) y0
            have y1 := cell_mod (Mod.drewN _ nq) y1
            have HM7 := hideIt (HM6.out.trans (Mod.drewN _ nq))
            clear HM6 x0 x1
            generalize w6.drewN nq = w7 at *
            by_cases hla : kk < hsa.length
            · have hla' : (kk : Int) < (hsa.length : Int) := by omega
              obtain ⟨ab, hab, z0, z1⟩ := HAA.out kk _ (List.getElem?_eq_getElem hla)
              obtain ⟨ea, eb⟩ := HAT.out _ (List.getElem?_eq_getElem hla)
              rw [ea] at z0
              rw [eb] at z1
              subst hab
              have z0 := cell_mod HM7.out z0
              have z1 := cell_mod HM7.out z1
              clear ea eb
              go_wp2_with fail
              go_quiet (fail)
              clear z0 z1
              have HMD := hideIt (HM7.out.trans (Mod.drewN _ nq))
              clear y0 y1 HM7
              generalize w7.drewN nq = w8 at *
              go_wp2_with fail
              go_roundw
              case rel => exact ⟨kk + 1, by omega, by go_num, by rw [HZS.out, if_pos HFZ.out, Int.natCast_add]; rfl, HMD.out⟩
              case measure => simp [intOf]; omega
            · have hla' : decide ((kk : Int) < (hsa.length : Int)) = false := decide_eq_false (by omega)
              have hla2 : decide (kk < hsa.length) = false := decide_eq_false hla
              clear hla
              go_wp2_with fail
              go_quiet (fail)
              have HMD := hideIt (HM7.out.trans (Mod.drewN _ nq))
              clear y0 y1 HM7
              generalize w7.drewN nq = w8 at *
              go_wp2_with fail
              go_roundw
              case rel => exact ⟨kk + 1, by omega, by go_num, by rw [HZS.out, if_pos HFZ.out, Int.natCast_add]; rfl, HMD.out⟩
              case measure => simp [intOf]; omega
          · have hq2 : (F == p.far) = false := by simp [heq]
            clear heq hpv
            go_wp2_with fail
            go_quiet (fail)
            have y0 := cell_mod (Mod.drewN _ nq) y0
            have y1 := cell_mod (Mod.drewN _ nq) y1
            have HM7 := hideIt (HM6.out.trans (Mod.drewN _ nq))
            clear HM6 x0 x1
            generalize w6.drewN nq = w7 at *
            by_cases hla : kk < hsa.length
            · have hla' : (kk : Int) < (hsa.length : Int) := by omega
              obtain ⟨ab, hab, z0, z1⟩ := HAA.out kk _ (List.getElem?_eq_getElem hla)
              obtain ⟨ea, eb⟩ := HAT.out _ (List.getElem?_eq_getElem hla)
              rw [ea] at z0
              rw [eb] at z1
              subst hab
              have z0 := cell_mod HM7.out z0
              have z1 := cell_mod HM7.out z1
              clear ea eb
              go_wp2_with fail
              go_quiet (fail)
              clear z0 z1
              have HMD := hideIt (HM7.out.trans (Mod.drewN _ nq))
              clear y0 y1 HM7
              generalize w7.drewN nq = w8 at *
              go_wp2_with fail
              go_roundw
              case rel => exact ⟨kk + 1, by omega, by go_num, by rw [HZS.out, if_pos HFZ.out, Int.natCast_add]; rfl, HMD.out⟩
              case measure => simp [intOf]; omega
            · have hla' : decide ((kk : Int) < (hsa.length : Int)) = false := decide_eq_false (by omega)
              have hla2 : decide (kk < hsa.length) = false := decide_eq_false hla
              clear hla
              go_wp2_with fail
              go_quiet (fail)
              have HMD := hideIt (HM7.out.trans (Mod.drewN _ nq))
              clear y0 y1 HM7
              generalize w7.drewN nq = w8 at *
              go_wp2_with fail
              go_roundw
              case rel => exact ⟨kk + 1, by omega, by go_num, by rw [HZS.out, if_pos HFZ.out, Int.natCast_add]; rfl, HMD.out⟩
              case measure => simp [intOf]; omega
      · have hd : decide (F = 0) = false := by simp [hz]
        have hq : (F == 0) = false := by simp [hz]
        have HFZ := hideIt hz
        rw [hd]
        clear hz hd
        by_cases hk0 : kk = 0
        · have hkz : decide (0 < (kk : Int)) = false := decide_eq_false (by omega)
          have hkz' : decide (0 < kk) = false := decide_eq_false (by omega)
          clear hk0
          go_wp2_with fail
          go_quiet (fail)
          have y0 := cell_mod (Mod.drewN _ nq) y0
          have y1 := cell_mod (Mod.drewN _ nq) y1
          have HM7 := hideIt (HM6.out.trans (Mod.drewN _ nq))
          clear HM6 
          generalize w6.drewN nq = w7 at *
          by_cases hla : kk < hsa.length
          · have hla' : (kk : Int) < (hsa.length : Int) := by omega
            obtain ⟨ab, hab, z0, z1⟩ := HAA.out kk _ (List.getElem?_eq_getElem hla)
            obtain ⟨ea, eb⟩ := HAT.out _ (List.getElem?_eq_getElem hla)
            rw [ea] at z0
            rw [eb] at z1
            subst hab
            have z0 := cell_mod HM7.out z0
            have z1 := cell_mod HM7.out z1
            clear ea eb
            go_wp2_with fail
            go_quiet (fail)
            clear z0 z1
            have HMD := hideIt (HM7.out.trans (Mod.drewN _ nq))
            clear y0 y1 HM7
            generalize w7.drewN nq = w8 at *
            go_wp2_with fail
            go_roundw
            case rel => exact ⟨kk + 1, by omega, by go_num, by rw [HZS.out, if_neg HFZ.out]; rfl, HMD.out⟩
            case measure => simp [intOf]; omega
          · have hla' : decide ((kk : Int) < (hsa.length : Int)) = false := decide_eq_false (by omega)
            have hla2 : decide (kk < hsa.length) = false := decide_eq_false hla
            clear hla
            go_wp2_with fail
            go_quiet (fail)
            have HMD := hideIt (HM7.out.trans (Mod.drewN _ nq))
            clear y0 y1 HM7
            generalize w7.drewN nq = w8 at *
            go_wp2_with fail
            go_roundw
            case rel => exact ⟨kk + 1, by omega, by go_num, by rw [HZS.out, if_neg HFZ.out]; rfl, HMD.out⟩
            case measure => simp [intOf]; omega
        · obtain ⟨j, hj⟩ : ∃ j, j + 1 = kk := ⟨kk - 1, by omega⟩
          have hkp : 0 < (kk : Int) := by omega
          have hkp2 : decide (0 < (kk : Int)) = true := decide_eq_true hkp
          have hkp3 : decide (0 < kk) = true := decide_eq_true (by omega)
          have hlj : j < hs.length := by omega
          have hlj' : (j : Int) < (hs.length : Int) := by omega
          have hsub : (kk : Int) - 1 = (j : Int) := by omega
          have hgj := List.getElem?_eq_getElem hlj
          obtain ⟨b2, hb2, x0, x1⟩ := HBA.out j _ hgj
          obtain rfl : b = b2 := by cases hb2; rfl
          have hpv := HPV.out j hj _ hgj
          generalize hs[j] = p at *
          have x0 := cell_mod HM6.out x0
          have x1 := cell_mod HM6.out x1
          clear hgj hb2 hj hk0
          have hnl : decide (F < p.far) = false := decide_eq_false (by omega)
          by_cases heq : F = p.far
          · have hq2 : (F == p.far) = true := by simp [heq]
            have hnid : decide (t.id ≤ p.id) = false := decide_eq_false (by omega)
            clear heq hpv
            go_wp2_with fail
            go_quiet (fail)
            have y0 := cell_mod (Mod.drewN _ nq) y0
            have y1 := cell_mod (Mod.drewN _ nq) y1
            have HM7 := hideIt (HM6.out.trans (Mod.drewN _ nq))
            clear HM6 x0 x1
            generalize w6.drewN nq = w7 at *
            by_cases hla : kk < hsa.length
            · have hla' : (kk : Int) < (hsa.length : Int) := by omega
              obtain ⟨ab, hab, z0, z1⟩ := HAA.out kk _ (List.getElem?_eq_getElem hla)
              obtain ⟨ea, eb⟩ := HAT.out _ (List.getElem?_eq_getElem hla)
              rw [ea] at z0
              rw [eb] at z1
              subst hab
              have z0 := cell_mod HM7.out z0
              have z1 := cell_mod HM7.out z1
              clear ea eb
              go_wp2_with fail
              go_quiet (fail)
              clear z0 z1
              have HMD := hideIt (HM7.out.trans (Mod.drewN _ nq))
              clear y0 y1 HM7
              generalize w7.drewN nq = w8 at *
              go_wp2_with fail
              go_roundw
              case rel => exact ⟨kk + 1, by omega, by go_num, by rw [HZS.out, if_neg HFZ.out]; rfl, HMD.out⟩
              case measure => simp [intOf]; omega
            · have hla' : decide ((kk : Int) < (hsa.length : Int)) = false := decide_eq_false (by omega)
              have hla2 : decide (kk < hsa.length) = false := decide_eq_false hla
              clear hla
              go_wp2_with fail
              go_quiet (fail)
              have HMD := hideIt (HM7.out.trans (Mod.drewN _ nq))
              clear y0 y1 HM7
              generalize w7.drewN nq = w8 at *
              go_wp2_with fail
              go_roundw
              case rel => exact ⟨kk + 1, by omega, by go_num, by rw [HZS.out, if_neg HFZ.out]; rfl, HMD.out⟩
              case measure => simp [intOf]; omega
          · have hq2 : (F == p.far) = false := by simp [heq]
            clear heq hpv
            go_wp2_with fail
            go_quiet (fail)
            have y0 := cell_mod (Mod.drewN _ nq) y0
            have y1 := cell_mod (Mod.drewN _ nq) y1
            have HM7 := hideIt (HM6.out.trans (Mod.drewN _ nq))
            clear HM6 x0 x1
            generalize w6.drewN nq = w7 at *
            by_cases hla : kk < hsa.length
            · have hla' : (kk : Int) < (hsa.length : Int) := by omega
              obtain ⟨ab, hab, z0, z1⟩ := HAA.out kk _ (List.getElem?_eq_getElem hla)
              obtain ⟨ea, eb⟩ := HAT.out _ (List.getElem?_eq_getElem hla)
              rw [ea] at z0
              rw [eb] at z1
              subst hab
              have z0 := cell_mod HM7.out z0
              have z1 := cell_mod HM7.out z1
              clear ea eb
              go_wp2_with fail
              go_quiet (fail)
              clear z0 z1
              have HMD := hideIt (HM7.out.trans (Mod.drewN _ nq))
              clear y0 y1 HM7
              generalize w7.drewN nq = w8 at *
              go_wp2_with fail
              go_roundw
              case rel => exact ⟨kk + 1, by omega, by go_num, by rw [HZS.out, if_neg HFZ.out]; rfl, HMD.out⟩
              case measure => simp [intOf]; omega
            · have hla' : decide ((kk : Int) < (hsa.length : Int)) = false := decide_eq_false (by omega)
              have hla2 : decide (kk < hsa.length) = false := decide_eq_false hla
              clear hla
              go_wp2_with fail
              go_quiet (fail)
              have HMD := hideIt (HM7.out.trans (Mod.drewN _ nq))
              clear y0 y1 HM7
              generalize w7.drewN nq = w8 at *
              go_wp2_with fail
              go_roundw
              case rel => exact ⟨kk + 1, by omega, by go_num, by rw [HZS.out, if_neg HFZ.out]; rfl, HMD.out⟩
              case measure => simp [intOf]; omega
    · have hge2 : ¬ ((kk : Int) < (hs.length : Int)) := by omega
      have hkn : kk = hs.length := by omega
      have HF := hideIt (HM1.out.trans (HN4.out.trans hmr))
      have hz : (((zeros (hs.take kk) : Nat) : Int) == (xs.length : Int)) = true := by
        rw [hkn, List.take_length, HZR.out]
        simp
      clear hmr
      generalize ((zeros (hs.take kk) : Nat) : Int) = Z at *
      go_wp2
      go_ret
      exact ⟨rfl, HF.out⟩

end Go.Proofs.YthimaoipogocfaaGreat
