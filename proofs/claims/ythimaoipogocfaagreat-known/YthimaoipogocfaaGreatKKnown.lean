import Derived.Test.YthimaoipogocfaaGreatKKnown1
import Derived.Deep.DeepCutAuto
namespace Go.Proofs.YthimaoipogocfaaGreat
open Go.RowKit Go.Maps
attribute [local go_sem] run_store_f32 run_neg_inf

/-- any raw thing's number -/
theorem kid_eta (i x y z h : Int) (ht : (⟨i, x, y, z, h⟩ : Kt).ok) (w : World) : Calls Tryz.prog 15 #[.agg #[.int .i64 i, .int .i64 x, .int .i64 y, .int .i64 z, .int .i64 h]] w fun e w' => e = .returned (.int .i64 (pickF i 300)) ∧ Mod [] w w' := kid_any ⟨i, x, y, z, h⟩ ht w

set_option maxRecDepth 100000 in
set_option maxHeartbeats 4000000 in
theorem known_any {w : World} {f : Int} (hf : i64ok f) {a : Option Addr} {ks : List Kt} {c : Nat} (hK : KsAt w a ks) {d : Int} (hd : i64ok d) :
    Calls Tryz.prog 6 #[.int .i64 f, .slice a ks.length c, .int .i64 d] w fun e w' => e = .returned (.bool true) ∧ Mod [] w w' := by
  have HPL := hideIt (planted_any hf (dx := 0) (dy := 0) (by omega) (by omega) hK (c := c))
  generalize (4 + pickF f 13).toNat = fan at *
  by_cases h0 : ks.length = 0
  · have hb0 : ((ks.length : Int) == 0) = true := by simp [h0]
    clear hK hd hf h0
    go_enter Tryz.func6, Tryz.ntmps6
    go_wp2_with fail
    refine HPL.out.mono ?_
    intro e w1 hpl
    obtain ⟨q, rfl, _, hm1⟩ := hpl.rep
    clear hpl HPL
    go_wp2
    go_ret
    exact ⟨rfl, hm1⟩
  · have hb0 : ((ks.length : Int) == 0) = false := beq_eq_false_iff_ne.2 (by omega)
    obtain ⟨nn, hnn⟩ : ∃ nn, nn = min ks.length 300 := ⟨_, rfl⟩
    have hn1 : 0 < nn := by rw [hnn]; exact Nat.lt_min.2 ⟨by omega, by omega⟩
    have hn2 : nn ≤ 300 := by rw [hnn]; exact Nat.min_le_right _ _
    have hn3 : nn ≤ ks.length := by rw [hnn]; exact Nat.min_le_left _ _
    have hn4 : nn = ks.length ∨ nn = 300 := by rw [hnn]; rcases Nat.le_total ks.length 300 with h | h; exact .inl (Nat.min_eq_left h); exact .inr (Nat.min_eq_right h)
    obtain ⟨p1, p2⟩ := pickF_lt d nn (by omega)
    obtain ⟨m, hm⟩ : ∃ m : Nat, (m : Int) = pickF d nn := ⟨(pickF d nn).toNat, by omega⟩
    have hmn : m < nn := by omega
    have HPICK := hideIt (show ∀ W, Calls Tryz.prog 14 #[.int .i64 d, .int .i64 nn] W (fun e w' => e = .returned (.int .i64 (m : Int)) ∧ w' = W) from fun W => by
      rw [hm]
      exact pick_any d nn W hd (by omega) (by omega))
    obtain ⟨b, off, e0⟩ : ∃ b off, a = some ⟨b, off, none⟩ := by
      obtain ⟨_, b, off, e, _⟩ := hK 0 _ (List.getElem?_eq_getElem (by omega))
      exact ⟨b, off, e⟩
    subst e0
    have HT := hideIt (show ∀ i, i < nn → ∃ t : Kt, ks[i]? = some t ∧ t.ok ∧ KtAt w b (off + i * 5) t from fun i hi => by
      have hget : ks[i]? = some ks[i] := List.getElem?_eq_getElem (by omega)
      obtain ⟨h1, b', off', e, h2⟩ := hK i _ hget
      cases e
      exact ⟨_, hget, h1, h2⟩)
    obtain ⟨tm, hgm, hokm, hAtm⟩ := HT.out m hmn
    obtain ⟨g, hg⟩ : ∃ g, g = tm.id := ⟨_, rfl⟩
    have HTHERE := hideIt (show ∃ s ∈ plantT ks 0 0, s.id = g from by rw [hg]; exact plantT_there ks 0 0 hgm (by rw [← hnn]; exact hmn))
    have HKID := hideIt (show ∀ W, Calls Tryz.prog 15 #[ktV tm] W (fun e w' => e = .returned (.int .i64 g) ∧ Mod [] W w') from fun W => by rw [hg]; exact kid_any _ hokm W)
    have HFIVE := hideIt (show ∀ W, Mod [] w W → Five W b (off + m * 5) tm from fun W hW => hAtm.five.mod hW)
    have HSEEN := hideIt (show ∀ W q lg, KRep w.heap.size W q fan (dropT (dropT (plantT ks 0 0) g) g) lg → ∀ i t, i < nn → ks[i]? = some t → LastIs ks i t nn true → Calls Tryz.prog 17 #[.pointer (some ⟨q, 0, none⟩), .int .i64 t.id, R4 (t.x0 0) (t.y0 0) (t.x1 0) (t.y1 0), .bool (t.id == g)] W (KBool true W) from fun W q lg h i t hi hget hl => by
      rw [hnn] at hi hl
      exact kseen_any h hget hi hl)
    have HNN := hideIt hnn
    have hmk : (m : Int) < (ks.length : Int) := by omega
    have hlg := plantGT_length fan ks 0 0
    generalize plantGT fan ks 0 0 = lg0 at *
    have HLG := hideIt hlg
    generalize plantT ks 0 0 = L0 at *
    clear hlg
    clear hK hd hf h0 hnn p1 p2 hm hgm hokm hAtm hg
    go_enter Tryz.func6, Tryz.ntmps6
    go_wp2_with fail
    refine HPL.out.mono ?_
    intro e w1 hpl
    obtain ⟨q, rfl, hrep, hm1⟩ := hpl.rep
    have HREP := hideIt hrep
    have HM1 := hideIt hm1
    clear hpl HPL hrep
    go_upto_region 6 with fail
    go_cut [8] (fun v wx => v = .int .i64 (nn : Int) ∧ w1 = wx)
    case first =>
      as_aux_lemma =>
        by_cases hs : (ks.length : Int) < 300
        · go_wp2_with fail
          all_goals
            go_meet
            exact ⟨congrArg (Value.int .i64) (by omega), rfl⟩
        · go_wp2_with fail
          all_goals
            go_meet
            exact ⟨congrArg (Value.int .i64) (by omega), rfl⟩
    case rest =>
      obtain ⟨rfl, rfl⟩ := hcut
      obtain ⟨c0, c1, c2, c3, c4⟩ := HFIVE.out w1 hm1
      clear hm1
      go_wp2_with fail
      refine (HPICK.out _).mono ?_
      rintro e w' ⟨rfl, hw⟩
      obtain rfl := hw.symm
      clear hw
      go_wp2_with fail
      clear c0 c1 c2 c3 c4
      refine (HKID.out _).mono ?_
      rintro e w2 ⟨rfl, hm2⟩
      have HD := hideIt (kDrop_any (HREP.out.keep hm2) (by have := HLG.out; omega) (Nat.le_trans HM1.out.size hm2.size) g 0 (.inl ⟨HTHERE.out, rfl⟩))
      have HM2 := hideIt (HM1.out.trans hm2)
      clear hm2 HREP HKID HPICK
      go_wp2_with fail
      refine HD.out.mono ?_
      rintro e w3 ⟨rfl, hrep3, F3, hF3, hm3⟩
      have hm03 := HM2.out.then hm3 (fun x hx => .inr (hF3 x hx))
      have HD2 := hideIt (kDrop_any hrep3 (by have := HLG.out; have := dropLT_length L0 lg0 g; omega) hm03.size g 3 (.inr ⟨known_gone, rfl⟩))
      have HM3 := hideIt hm03
      clear hm3 hm03 hF3 hrep3 HD
      go_wp2_with fail
      refine HD2.out.mono ?_
      rintro e w4 ⟨rfl, hrep4, F4, hF4, hm4⟩
      have HM4 := hideIt (HM3.out.then hm4 (fun x hx => .inr (hF4 x hx)))
      have HREP4 := hideIt hrep4
      clear hm4 hF4 hrep4 HD2 HTHERE HFIVE HM1 HM2 HM3
      go_wp2_with fail
      go_loopw [12] (fun v wr => ∃ i : Nat, i ≤ nn ∧ v = .int .i64 i ∧ Mod [] w4 wr) (fun v _ => nn - (intOf v).toNat)
      case atStart => exact ⟨0, by omega, rfl, Mod.refl _ _⟩
      case round =>
        obtain ⟨i, hi, rfl, hmr⟩ := hrel
        by_cases hlt : i < nn
        · have hlt' : (i : Int) < (nn : Int) := by omega
          have hik' : (i : Int) < (ks.length : Int) := by omega
          obtain ⟨t, hget, hok, hAt⟩ := HT.out i hlt
          have HFT := hideIt (show ∀ W, Mod [] w4 W → Five W b (off + i * 5) t from fun W hW => hAt.five.mod (HM4.out.trans hW))
          have HOK := hideIt hok
          have HGET := hideIt hget
          clear hok hget hAt
          go_wp2_with fail
          go_loopw [13, 14] (fun lv kv wx => ∃ (lb : Bool) (k : Nat), i < k ∧ k ≤ nn ∧ lv = .bool lb ∧ kv = .int .i64 k ∧ Hid (LastIs ks i t k lb) ∧ Mod [] w4 wx) (fun _ kv _ => nn - (intOf kv).toNat)
          case atStart => exact ⟨true, i + 1, by omega, by omega, rfl, by go_num, hideIt (LastIs.start _ _ _), hmr⟩
          case round =>
            obtain ⟨lb, k, hik, hkn, rfl, rfl, hL, hmx⟩ := hrel
            have HMX := hideIt hmx
            clear hmx
            by_cases hk : k < nn
            · have hk' : (k : Int) < (nn : Int) := by omega
              have hkk' : (k : Int) < (ks.length : Int) := by omega
              obtain ⟨s, hgs, hoks, hAts⟩ := HT.out k hk
              cases lb with
              | false =>
                have HST := hideIt hL.out.stay
                clear hgs hoks hAts hL
                go_wp2_with fail
                go_region
                all_goals
                  go_wp2_with fail
                  go_roundw
                  case rel => exact ⟨false, k + 1, by omega, by omega, rfl, by go_num, HST, HMX.out.trans (Mod.drew _)⟩
                  case measure => simp [intOf]; omega
              | true =>
                have HST := hideIt (hL.out.step hik hgs)
                have HOKS := hideIt hoks
                have HKEEP := hideIt (show ∀ w', Mod [] wr w' → Mod [] wr w' ∧ w'.cell? ⟨b, off + k * 5, none⟩ = some (.int .i64 s.i) ∧ w'.cell? ⟨b, off + k * 5 + 1, none⟩ = some (.int .i64 s.x) ∧ w'.cell? ⟨b, off + k * 5 + 2, none⟩ = some (.int .i64 s.y) ∧ w'.cell? ⟨b, off + k * 5 + 3, none⟩ = some (.int .i64 s.w) ∧ w'.cell? ⟨b, off + k * 5 + 4, none⟩ = some (.int .i64 s.h) ∧ w'.cell? ⟨b, off + i * 5, none⟩ = some (.int .i64 t.i) ∧ w'.cell? ⟨b, off + i * 5 + 1, none⟩ = some (.int .i64 t.x) ∧ w'.cell? ⟨b, off + i * 5 + 2, none⟩ = some (.int .i64 t.y) ∧ w'.cell? ⟨b, off + i * 5 + 3, none⟩ = some (.int .i64 t.w) ∧ w'.cell? ⟨b, off + i * 5 + 4, none⟩ = some (.int .i64 t.h) from fun w' hm => by
                  have h1 : Five w' b (off + k * 5) s := hAts.five.mod (HM4.out.trans (HMX.out.trans hm))
                  have h2 := HFT.out w' (HMX.out.trans hm)
                  exact ⟨hm, h1.1, h1.2.1, h1.2.2.1, h1.2.2.2.1, h1.2.2.2.2, h2⟩)
                clear hgs hoks hAts hL
                go_wp2_with fail
                go_region_held (fun w' => Mod [] wr w' ∧ w'.cell? ⟨b, off + k * 5, none⟩ = some (.int .i64 s.i) ∧ w'.cell? ⟨b, off + k * 5 + 1, none⟩ = some (.int .i64 s.x) ∧ w'.cell? ⟨b, off + k * 5 + 2, none⟩ = some (.int .i64 s.y) ∧ w'.cell? ⟨b, off + k * 5 + 3, none⟩ = some (.int .i64 s.w) ∧ w'.cell? ⟨b, off + k * 5 + 4, none⟩ = some (.int .i64 s.h) ∧ w'.cell? ⟨b, off + i * 5, none⟩ = some (.int .i64 t.i) ∧ w'.cell? ⟨b, off + i * 5 + 1, none⟩ = some (.int .i64 t.x) ∧ w'.cell? ⟨b, off + i * 5 + 2, none⟩ = some (.int .i64 t.y) ∧ w'.cell? ⟨b, off + i * 5 + 3, none⟩ = some (.int .i64 t.w) ∧ w'.cell? ⟨b, off + i * 5 + 4, none⟩ = some (.int .i64 t.h))
                  ((first
                    | exact HKEEP.out _ (Mod.drew _)
                    | exact HKEEP.out _ (Mod.trans (by simp only [*]) hm2)))
                  ((go_at_call 15; refine (kid_eta _ _ _ _ _ ?_ _).mono ?_; (first | exact HOKS.out | exact HOK.out); rintro e w2 ⟨rfl, hm2⟩))
                all_goals
                  rename_i hheld
                  have HMH := hideIt (HMX.out.trans hheld.1)
                  clear hheld hm2 HKEEP
                  go_wp2_with fail
                  go_roundw
                  case rel => exact ⟨_, k + 1, by omega, by omega, rfl, by go_num, HST, HMH.out⟩
                  case measure => simp [intOf]; omega
            · have hge : ¬ ((k : Int) < (nn : Int)) := by omega
              have hkn2 : k = nn := by omega
              rw [hkn2] at hL
              cases lb with
              | false =>
                clear hL hkn2
                go_wp2_with fail
                go_roundw
                case rel => exact ⟨i + 1, by omega, by go_num, HMX.out⟩
                case measure => simp [intOf]; omega
              | true =>
                have HSN := hideIt (fun W (hW : Mod [] wr W) => HSEEN.out W q _ (HREP4.out.keep (HMX.out.trans hW)) i t hlt HGET.out hL.out)
                have HKEEP := hideIt (show ∀ w', Mod [] wr w' → Mod [] wr w' ∧ w'.cell? ⟨b, off + i * 5, none⟩ = some (.int .i64 t.i) ∧ w'.cell? ⟨b, off + i * 5 + 1, none⟩ = some (.int .i64 t.x) ∧ w'.cell? ⟨b, off + i * 5 + 2, none⟩ = some (.int .i64 t.y) ∧ w'.cell? ⟨b, off + i * 5 + 3, none⟩ = some (.int .i64 t.w) ∧ w'.cell? ⟨b, off + i * 5 + 4, none⟩ = some (.int .i64 t.h) from fun w' hm => ⟨hm, HFT.out w' (HMX.out.trans hm)⟩)
                clear hL hkn2
                go_wp2_with fail
                go_region_held (fun w' => Mod [] wr w' ∧ w'.cell? ⟨b, off + i * 5, none⟩ = some (.int .i64 t.i) ∧ w'.cell? ⟨b, off + i * 5 + 1, none⟩ = some (.int .i64 t.x) ∧ w'.cell? ⟨b, off + i * 5 + 2, none⟩ = some (.int .i64 t.y) ∧ w'.cell? ⟨b, off + i * 5 + 3, none⟩ = some (.int .i64 t.w) ∧ w'.cell? ⟨b, off + i * 5 + 4, none⟩ = some (.int .i64 t.h))
                  ((first
                    | exact HKEEP.out _ (Mod.drew _)
                    | exact HKEEP.out _ (Mod.trans (by simp only [*]) hm2)
                    | exact HKEEP.out _ (Mod.trans (by simp only [*]) hm3)
                    | exact HKEEP.out _ (Mod.trans (by simp only [*]) hm5)))
                  ((first
                    | (go_at_call 15; refine (kid_any t HOK.out _).mono ?_; rintro e w2 ⟨rfl, hm2⟩)
                    | (go_at_call 18; refine (krect_any t HOK.out 0 0 (by omega) (by omega) _).mono ?_; rintro e w3 ⟨rfl, hm3⟩)
                    | (go_at_call 17; refine (HSN.out _ (by simp only [*])).mono ?_; rintro e w5 ⟨rfl, hm5⟩)))
                all_goals
                  rename_i hheld
                  have HMH := hideIt (HMX.out.trans hheld.1)
                  clear hheld hm2 hm3 hm5 HKEEP HSN
                  go_wp2_with fail
                  go_roundw
                  case rel => exact ⟨i + 1, by omega, by go_num, HMH.out⟩
                  case measure => simp [intOf]; omega
        · have hge : ¬ ((i : Int) < (nn : Int)) := by omega
          go_wp2
          go_ret
          exact ⟨rfl, HM4.out.trans hmr⟩

end Go.Proofs.YthimaoipogocfaaGreat
