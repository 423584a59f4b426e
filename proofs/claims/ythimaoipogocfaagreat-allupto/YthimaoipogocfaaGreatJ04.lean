import Derived.Test.YthimaoipogocfaaGreatJ03
namespace Go.Proofs.YthimaoipogocfaaGreat
open Go.RowKit
attribute [local go_sem] run_store_f32 run_neg_inf

set_option maxRecDepth 100000 in
set_option maxHeartbeats 1000000 in
theorem insT_any {w : World} {blk n cap : Nat} {ps : List Nat} {rest : List Value} {g : FuncId} (eg : ∀ args w, (callFunc g args).run Tryz.prog w = .ok (.enter g args) w)
    (hr : w.heap[blk]? = some (rowO ps rest 113)) (hn : ps.length = n) (hn2 : n ≤ 100) (a b : Nat) (ha : a ≤ n) (hb : b ≤ n) (hc : CmpOk g ps [blk] w) :
    Calls Tryz.prog 204 #[.slice (some ⟨blk, 0, none⟩) n cap, .int .i64 a, .int .i64 b, .func (.func g) #[] #[]] w (SortPost blk ps rest 113 w) := by
  have HR := hideIt hr
  have HC := hideIt hc
  clear hr hc
  by_cases hab : a < b
  · go_enter Tryz.func204, Tryz.ntmps204
    go_wp2_with fail
    go_loopw [8] (fun i wr => ∃ k : Nat, k ≤ b ∧ a + 1 ≤ k ∧ i = .int .i64 k ∧ ∃ ps', ps'.Perm ps ∧ Mod [blk] w wr ∧ wr.heap[blk]? = some (rowO ps' rest 113)) (fun i _ => b - (intOf i).toNat)
    case atStart => exact ⟨a + 1, by omega, by omega, by go_num, ps, .refl _, Mod.refl _ _, HR.out⟩
    case round =>
      obtain ⟨k, hk, hk1, rfl, ps', hp, hm, hr⟩ := hrel
      have hl : ps'.length = n := hp.length_eq.trans hn
      by_cases hlt : k < b
      · have hlt' : (k : Int) < (b : Int) := by omega
        go_wp2_with fail
        go_loopw [9] (fun i wx => ∃ j : Nat, a ≤ j ∧ j ≤ k ∧ i = .int .i64 j ∧ ∃ ps', ps'.Perm ps ∧ Mod [blk] w wx ∧ wx.heap[blk]? = some (rowO ps' rest 113)) (fun i _ => (intOf i).toNat)
        case atStart => exact ⟨k, by omega, by omega, rfl, ps', hp, hm, hr⟩
        case round =>
          clear hp hm hr hl
          obtain ⟨j, hj1, hj2, rfl, ps', hp, hm, hr⟩ := hrel
          have hl : ps'.length = n := hp.length_eq.trans hn
          by_cases hgt : a < j
          · obtain ⟨m, rfl⟩ : ∃ m, j = m + 1 := ⟨j - 1, by omega⟩
            have c1 := rowO_cell hr (m + 1) (by omega)
            have c2 := rowO_cell hr m (by omega)
            have hgt' : (a : Int) < (m : Int) + 1 := by omega
            have hi1 : (m : Int) + 1 < (n : Int) := by omega
            have hi2 : (m : Int) < (n : Int) := by omega
            have hi3 : m + 1 < n := by omega
            have hi4 : m < n := by omega
            have hi5 : (0 : Int) ≤ (m : Int) + 1 := by omega
            have ea : ((m : Int) + 1).toNat = m + 1 := by omega
            have ra : IntKind.i64.wrap ((m : Int) + 1) = (m : Int) + 1 := by rw [IntKind.wrap_i64]; omega
            have ec : ((m : Int)).toNat = m := by omega
            have rc : IntKind.i64.wrap ((m : Int)) = (m : Int) := by rw [IntKind.wrap_i64]; omega
            have pc : (0 : Int) ≤ (m : Int) := by omega
            have HCC := hideIt (fun W (hW : Mod [blk] w W) => HC.out.at hp hW (i := m + 1) (j := m) (by omega) (by omega))
            have HS := hideIt (fun (W : World) (hW : W.heap[blk]? = some (rowO ps' rest 113)) => rowO_swap hW (m + 1) m (by omega) (by omega))
            have HP := hideIt ((swapL_perm ps' m (by omega)).trans hp)
            have HPP := hideIt hp
            have HM := hideIt hm
            have HRR := hideIt hr
            generalize ps'[m + 1] = u at *
            generalize ps'[m] = v at *
            clear hr hm hp hgt
            go_wp2_with fail
            go_region_held (fun w' => w'.cell? ⟨blk, m + 1, none⟩ = some (.pointer (some ⟨u, 0, none⟩)) ∧ w'.cell? ⟨blk, m, none⟩ = some (.pointer (some ⟨v, 0, none⟩)))
              ((first | go_keep | exact ⟨cell_mod hmc (by simp [*]), cell_mod hmc (by simp [*])⟩))
              ((go_at_fn g; refine (HCC.out _ (HM.out.trans (Mod.drew _))).mono ?_; rintro e w' ⟨z, rfl, hmc⟩))
            rename_i hheld
            obtain ⟨c3, c4⟩ := hheld
            have hm3 : Mod [blk] w w' := (HM.out.trans (Mod.drew _)).trans hmc.nil
            have hr3 : w'.heap[blk]? = some (rowO ps' rest 113) := (hmc.block blk (lt_of_block HRR.out) (by simp)).trans HRR.out
            have hr4 := HS.out w' hr3
            have hf := frozen_of_block hr3
            have f1 := hf (m + 1)
            have f2 := hf m
            clear hf hmc c1 c2 HCC HM HRR HS
            have HM3 := hideIt hm3
            have HR3 := hideIt hr3
            have HR4 := hideIt hr4
            clear hm3 hr3 hr4
            by_cases hz : z < 0
            · clear HR3
              go_wp2_with fail
              go_region
              have hm5 := HM3.out.trans (mod_set2 w' blk (m + 1) m (.pointer (some ⟨v, 0, none⟩)) (.pointer (some ⟨u, 0, none⟩)))
              have HM5 := hideIt hm5
              clear hm5 HM3 c3 c4 f1 f2
              generalize ((w'.setCell ⟨blk, m + 1, none⟩ (.pointer (some ⟨v, 0, none⟩))).setCell ⟨blk, m, none⟩ (.pointer (some ⟨u, 0, none⟩))).drew = w5 at *
              go_wp2_with fail
              go_roundw
              case rel => exact ⟨m, by omega, by omega, by go_num, _, HP.out, HM5.out, HR4.out⟩
              case measure => simp [intOf]
            · clear HR4 c3 c4 f1 f2
              go_wp2_with fail
              go_roundw
              case rel => exact ⟨k + 1, by omega, by omega, by go_num, _, HPP.out, HM3.out, HR3.out⟩
              case measure => simp [intOf]; omega
          · have hle : ¬ ((a : Int) < (j : Int)) := by omega
            have HPP := hideIt hp
            have HM3 := hideIt hm
            have HR3 := hideIt hr
            clear hp hm hr
            go_wp2_with fail
            go_region
            go_wp2_with fail
            go_roundw
            case rel => exact ⟨k + 1, by omega, by omega, by go_num, _, HPP.out, HM3.out.trans (Mod.drew _), HR3.out⟩
            case measure => simp [intOf]; omega
      · have hge : ¬ ((k : Int) < (b : Int)) := by omega
        have HPP := hideIt hp
        have HM3 := hideIt hm
        have HR3 := hideIt hr
        clear hp hm hr
        go_wp2
        exact bodyPost_ret (v := .tuple #[]) (by simp [results, Tryz.results204, go_sem]) rfl ⟨rfl, HM3.out, _, HPP.out, HR3.out⟩
  · have hge : ¬ ((a : Int) + 1 < (b : Int)) := by omega
    go_enter Tryz.func204, Tryz.ntmps204
    go_wp2_with fail
    go_loopw [8] (fun i wr => i = .int .i64 ((a : Int) + 1) ∧ wr = w) (fun _ _ => 0)
    case atStart => exact ⟨by go_num, rfl⟩
    case round =>
      obtain ⟨rfl, rfl⟩ := hrel
      go_wp2
      exact bodyPost_ret (v := .tuple #[]) (by simp [results, Tryz.results204, go_sem]) rfl ⟨rfl, Mod.refl _ _, _, .refl _, HR.out⟩

end Go.Proofs.YthimaoipogocfaaGreat

namespace Go.Proofs.YthimaoipogocfaaGreat
open Go.RowKit
attribute [local go_sem] run_store_f32 run_neg_inf

set_option maxRecDepth 100000 in
set_option maxHeartbeats 1000000 in
theorem insN_any {w : World} {blk n cap : Nat} {ps : List Nat} {rest : List Value} {g : FuncId} (eg : ∀ args w, (callFunc g args).run Tryz.prog w = .ok (.enter g args) w)
    (hr : w.heap[blk]? = some (rowO ps rest 115)) (hn : ps.length = n) (hn2 : n ≤ 100) (a b : Nat) (ha : a ≤ n) (hb : b ≤ n) (hc : CmpOk g ps [blk] w) :
    Calls Tryz.prog 207 #[.slice (some ⟨blk, 0, none⟩) n cap, .int .i64 a, .int .i64 b, .func (.func g) #[] #[]] w (SortPost blk ps rest 115 w) := by
  have HR := hideIt hr
  have HC := hideIt hc
  clear hr hc
  by_cases hab : a < b
  · go_enter Tryz.func207, Tryz.ntmps207
    go_wp2_with fail
    go_loopw [8] (fun i wr => ∃ k : Nat, k ≤ b ∧ a + 1 ≤ k ∧ i = .int .i64 k ∧ ∃ ps', ps'.Perm ps ∧ Mod [blk] w wr ∧ wr.heap[blk]? = some (rowO ps' rest 115)) (fun i _ => b - (intOf i).toNat)
    case atStart => exact ⟨a + 1, by omega, by omega, by go_num, ps, .refl _, Mod.refl _ _, HR.out⟩
    case round =>
      obtain ⟨k, hk, hk1, rfl, ps', hp, hm, hr⟩ := hrel
      have hl : ps'.length = n := hp.length_eq.trans hn
      by_cases hlt : k < b
      · have hlt' : (k : Int) < (b : Int) := by omega
        go_wp2_with fail
        go_loopw [9] (fun i wx => ∃ j : Nat, a ≤ j ∧ j ≤ k ∧ i = .int .i64 j ∧ ∃ ps', ps'.Perm ps ∧ Mod [blk] w wx ∧ wx.heap[blk]? = some (rowO ps' rest 115)) (fun i _ => (intOf i).toNat)
        case atStart => exact ⟨k, by omega, by omega, rfl, ps', hp, hm, hr⟩
        case round =>
          clear hp hm hr hl
          obtain ⟨j, hj1, hj2, rfl, ps', hp, hm, hr⟩ := hrel
          have hl : ps'.length = n := hp.length_eq.trans hn
          by_cases hgt : a < j
          · obtain ⟨m, rfl⟩ : ∃ m, j = m + 1 := ⟨j - 1, by omega⟩
            have c1 := rowO_cell hr (m + 1) (by omega)
            have c2 := rowO_cell hr m (by omega)
            have hgt' : (a : Int) < (m : Int) + 1 := by omega
            have hi1 : (m : Int) + 1 < (n : Int) := by omega
            have hi2 : (m : Int) < (n : Int) := by omega
            have hi3 : m + 1 < n := by omega
            have hi4 : m < n := by omega
            have hi5 : (0 : Int) ≤ (m : Int) + 1 := by omega
            have ea : ((m : Int) + 1).toNat = m + 1 := by omega
            have ra : IntKind.i64.wrap ((m : Int) + 1) = (m : Int) + 1 := by rw [IntKind.wrap_i64]; omega
            have ec : ((m : Int)).toNat = m := by omega
            have rc : IntKind.i64.wrap ((m : Int)) = (m : Int) := by rw [IntKind.wrap_i64]; omega
            have pc : (0 : Int) ≤ (m : Int) := by omega
            have HCC := hideIt (fun W (hW : Mod [blk] w W) => HC.out.at hp hW (i := m + 1) (j := m) (by omega) (by omega))
            have HS := hideIt (fun (W : World) (hW : W.heap[blk]? = some (rowO ps' rest 115)) => rowO_swap hW (m + 1) m (by omega) (by omega))
            have HP := hideIt ((swapL_perm ps' m (by omega)).trans hp)
            have HPP := hideIt hp
            have HM := hideIt hm
            have HRR := hideIt hr
            generalize ps'[m + 1] = u at *
            generalize ps'[m] = v at *
            clear hr hm hp hgt
            go_wp2_with fail
            go_region_held (fun w' => w'.cell? ⟨blk, m + 1, none⟩ = some (.pointer (some ⟨u, 0, none⟩)) ∧ w'.cell? ⟨blk, m, none⟩ = some (.pointer (some ⟨v, 0, none⟩)))
              ((first | go_keep | exact ⟨cell_mod hmc (by simp [*]), cell_mod hmc (by simp [*])⟩))
              ((go_at_fn g; refine (HCC.out _ (HM.out.trans (Mod.drew _))).mono ?_; rintro e w' ⟨z, rfl, hmc⟩))
            rename_i hheld
            obtain ⟨c3, c4⟩ := hheld
            have hm3 : Mod [blk] w w' := (HM.out.trans (Mod.drew _)).trans hmc.nil
            have hr3 : w'.heap[blk]? = some (rowO ps' rest 115) := (hmc.block blk (lt_of_block HRR.out) (by simp)).trans HRR.out
            have hr4 := HS.out w' hr3
            have hf := frozen_of_block hr3
            have f1 := hf (m + 1)
            have f2 := hf m
            clear hf hmc c1 c2 HCC HM HRR HS
            have HM3 := hideIt hm3
            have HR3 := hideIt hr3
            have HR4 := hideIt hr4
            clear hm3 hr3 hr4
            by_cases hz : z < 0
            · clear HR3
              go_wp2_with fail
              go_region
              have hm5 := HM3.out.trans (mod_set2 w' blk (m + 1) m (.pointer (some ⟨v, 0, none⟩)) (.pointer (some ⟨u, 0, none⟩)))
              have HM5 := hideIt hm5
              clear hm5 HM3 c3 c4 f1 f2
              generalize ((w'.setCell ⟨blk, m + 1, none⟩ (.pointer (some ⟨v, 0, none⟩))).setCell ⟨blk, m, none⟩ (.pointer (some ⟨u, 0, none⟩))).drew = w5 at *
              go_wp2_with fail
              go_roundw
              case rel => exact ⟨m, by omega, by omega, by go_num, _, HP.out, HM5.out, HR4.out⟩
              case measure => simp [intOf]
            · clear HR4 c3 c4 f1 f2
              go_wp2_with fail
              go_roundw
              case rel => exact ⟨k + 1, by omega, by omega, by go_num, _, HPP.out, HM3.out, HR3.out⟩
              case measure => simp [intOf]; omega
          · have hle : ¬ ((a : Int) < (j : Int)) := by omega
            have HPP := hideIt hp
            have HM3 := hideIt hm
            have HR3 := hideIt hr
            clear hp hm hr
            go_wp2_with fail
            go_region
            go_wp2_with fail
            go_roundw
            case rel => exact ⟨k + 1, by omega, by omega, by go_num, _, HPP.out, HM3.out.trans (Mod.drew _), HR3.out⟩
            case measure => simp [intOf]; omega
      · have hge : ¬ ((k : Int) < (b : Int)) := by omega
        have HPP := hideIt hp
        have HM3 := hideIt hm
        have HR3 := hideIt hr
        clear hp hm hr
        go_wp2
        exact bodyPost_ret (v := .tuple #[]) (by simp [results, Tryz.results207, go_sem]) rfl ⟨rfl, HM3.out, _, HPP.out, HR3.out⟩
  · have hge : ¬ ((a : Int) + 1 < (b : Int)) := by omega
    go_enter Tryz.func207, Tryz.ntmps207
    go_wp2_with fail
    go_loopw [8] (fun i wr => i = .int .i64 ((a : Int) + 1) ∧ wr = w) (fun _ _ => 0)
    case atStart => exact ⟨by go_num, rfl⟩
    case round =>
      obtain ⟨rfl, rfl⟩ := hrel
      go_wp2
      exact bodyPost_ret (v := .tuple #[]) (by simp [results, Tryz.results207, go_sem]) rfl ⟨rfl, Mod.refl _ _, _, .refl _, HR.out⟩

end Go.Proofs.YthimaoipogocfaaGreat

namespace Go.Proofs.YthimaoipogocfaaGreat
open Go.RowKit
attribute [local go_sem] run_store_f32 run_neg_inf

set_option maxRecDepth 100000 in
set_option maxHeartbeats 1000000 in
theorem symT_any {w : World} {blk cap : Nat} {ps : List Nat} {rest : List Value} {g : FuncId} (eg : ∀ args w, (callFunc g args).run Tryz.prog w = .ok (.enter g args) w)
    (hr : w.heap[blk]? = some (rowO ps rest 113)) (hn : ps.length = 21) (hc : CmpOk g ps [blk] w) :
    Calls Tryz.prog 205 #[.slice (some ⟨blk, 0, none⟩) 21 cap, .int .i64 0, .int .i64 20, .int .i64 21, .func (.func g) #[] #[]] w (SortPost blk ps rest 113 w) := by
  have HR := hideIt hr
  have HC := hideIt hc
  clear hr hc
  go_enter Tryz.func205, Tryz.ntmps205
  go_wp2_with fail
  go_loopw [14, 15] (fun i j wr => ∃ x y : Nat, x ≤ y ∧ y ≤ 20 ∧ i = .int .i64 x ∧ j = .int .i64 y ∧ Mod [blk] w wr ∧ wr.heap[blk]? = some (rowO ps rest 113)) (fun i j _ => (intOf j).toNat - (intOf i).toNat)
  case atStart => exact ⟨0, 20, by omega, by omega, rfl, rfl, Mod.refl _ _, HR.out⟩
  case round =>
    obtain ⟨x, y, hxy, hy, rfl, rfl, hm, hr⟩ := hrel
    by_cases hlt : x < y
    · have hlt' : (x : Int) < (y : Int) := by omega
      obtain ⟨h, hh⟩ : ∃ h : Nat, ((x : Int) + (y : Int)) / 2 = (h : Int) := ⟨(x + y) / 2, by omega⟩
      have hx1 : x ≤ h := by omega
      have hy1 : h < y := by omega
      have hi1 : (h : Int) < 21 := by omega
      have hi2 : h < 21 := by omega
      have c1 := rowO_cell hr 20 (by omega)
      have c2 := rowO_cell hr h (by omega)
      have HCC := hideIt (fun W (hW : Mod [blk] w W) => HC.out.at (.refl _) hW (i := 20) (j := h) (by omega) (by omega))
      have HM := hideIt hm
      have HRR := hideIt hr
      generalize ps[20] = u at *
      generalize ps[h] = v at *
      clear hr hm
      go_wp2_with fail
      go_region_held (fun w' => w'.cell? ⟨blk, 20, none⟩ = some (.pointer (some ⟨u, 0, none⟩)) ∧ w'.cell? ⟨blk, h, none⟩ = some (.pointer (some ⟨v, 0, none⟩)))
        ((first | go_keep | exact ⟨cell_mod hmc (by simp [*]), cell_mod hmc (by simp [*])⟩))
        ((go_at_fn g; refine (HCC.out _ (HM.out.trans (Mod.drew _))).mono ?_; rintro e w' ⟨z, rfl, hmc⟩))
      rename_i hheld
      have hm3 : Mod [blk] w w' := (HM.out.trans (Mod.drew _)).trans hmc.nil
      have hr3 : w'.heap[blk]? = some (rowO ps rest 113) := (hmc.block blk (lt_of_block HRR.out) (by simp)).trans HRR.out
      have HM3 := hideIt hm3
      have HR3 := hideIt hr3
      clear hheld hmc c1 c2 HCC HM HRR hm3 hr3
      generalize decide (z < 0) = d
      cases d
      rotate_left
      · go_wp2_with fail
        go_roundw
        case rel => exact ⟨x, h, by omega, by omega, by go_num, by go_num, HM3.out, HR3.out⟩
        case measure => simp [intOf]; omega
      · go_wp2_with fail
        go_roundw
        case rel => exact ⟨h + 1, y, by omega, by omega, by go_num, by go_num, HM3.out, HR3.out⟩
        case measure => simp [intOf]; omega
    · have hge : ¬ ((x : Int) < (y : Int)) := by omega
      have HM := hideIt hm
      have HRR := hideIt hr
      clear hm hr
      go_wp2_with fail
      go_loopw [17] (fun i wx => ∃ k : Nat, x ≤ k ∧ k ≤ 20 ∧ i = .int .i64 k ∧ ∃ ps', ps'.Perm ps ∧ Mod [blk] w wx ∧ wx.heap[blk]? = some (rowO ps' rest 113)) (fun i _ => (intOf i).toNat)
      case atStart => exact ⟨20, by omega, by omega, rfl, ps, .refl _, HM.out, HRR.out⟩
      case round =>
        clear HM HRR
        obtain ⟨k, hk1, hk2, rfl, ps', hp, hm, hr⟩ := hrel
        have hl : ps'.length = 21 := hp.length_eq.trans hn
        by_cases hgt : x < k
        · obtain ⟨m, rfl⟩ : ∃ m, k = m + 1 := ⟨k - 1, by omega⟩
          have c1 := rowO_cell hr (m + 1) (by omega)
          have c2 := rowO_cell hr m (by omega)
          have hgt' : (x : Int) < (m : Int) + 1 := by omega
          have hi1 : (m : Int) + 1 < 21 := by omega
          have hi2 : (m : Int) < 21 := by omega
          have hi3 : m + 1 < 21 := by omega
          have hi4 : m < 21 := by omega
          have hi5 : (0 : Int) ≤ (m : Int) + 1 := by omega
          have ea : ((m : Int) + 1).toNat = m + 1 := by omega
          have ra : IntKind.i64.wrap ((m : Int) + 1) = (m : Int) + 1 := by rw [IntKind.wrap_i64]; omega
          have ec : ((m : Int)).toNat = m := by omega
          have rc : IntKind.i64.wrap ((m : Int)) = (m : Int) := by rw [IntKind.wrap_i64]; omega
          have pc : (0 : Int) ≤ (m : Int) := by omega
          have hf := frozen_of_block hr
          have f1 := hf (m + 1)
          have f2 := hf m
          have HS := hideIt (rowO_swap hr (m + 1) m (by omega) (by omega))
          have HP := hideIt ((swapL_perm ps' m (by omega)).trans hp)
          generalize ps'[m + 1] = u at *
          generalize ps'[m] = v at *
          have HM5 := hideIt (hm.trans (mod_set2 wr blk (m + 1) m (.pointer (some ⟨v, 0, none⟩)) (.pointer (some ⟨u, 0, none⟩))))
          clear hr hm hp hgt hf
          go_wp2_with fail
          go_region
          clear c1 c2 f1 f2
          generalize ((wr.setCell ⟨blk, m + 1, none⟩ (.pointer (some ⟨v, 0, none⟩))).setCell ⟨blk, m, none⟩ (.pointer (some ⟨u, 0, none⟩))).drew = w5 at *
          go_wp2_with fail
          go_roundw
          case rel => exact ⟨m, by omega, by omega, by go_num, _, HP.out, HM5.out, HS.out⟩
          case measure => simp [intOf]
        · have hle : ¬ ((x : Int) < (k : Int)) := by omega
          have HPP := hideIt hp
          have HM3 := hideIt hm
          have HR3 := hideIt hr
          clear hp hm hr
          go_wp2
          exact bodyPost_ret (v := .tuple #[]) (by simp [results, Tryz.results205, go_sem]) rfl ⟨rfl, HM3.out, _, HPP.out, HR3.out⟩

end Go.Proofs.YthimaoipogocfaaGreat

namespace Go.Proofs.YthimaoipogocfaaGreat
open Go.RowKit
attribute [local go_sem] run_store_f32 run_neg_inf

set_option maxRecDepth 100000 in
set_option maxHeartbeats 1000000 in
theorem symN_any {w : World} {blk cap : Nat} {ps : List Nat} {rest : List Value} {g : FuncId} (eg : ∀ args w, (callFunc g args).run Tryz.prog w = .ok (.enter g args) w)
    (hr : w.heap[blk]? = some (rowO ps rest 115)) (hn : ps.length = 21) (hc : CmpOk g ps [blk] w) :
    Calls Tryz.prog 208 #[.slice (some ⟨blk, 0, none⟩) 21 cap, .int .i64 0, .int .i64 20, .int .i64 21, .func (.func g) #[] #[]] w (SortPost blk ps rest 115 w) := by
  have HR := hideIt hr
  have HC := hideIt hc
  clear hr hc
  go_enter Tryz.func208, Tryz.ntmps208
  go_wp2_with fail
  go_loopw [14, 15] (fun i j wr => ∃ x y : Nat, x ≤ y ∧ y ≤ 20 ∧ i = .int .i64 x ∧ j = .int .i64 y ∧ Mod [blk] w wr ∧ wr.heap[blk]? = some (rowO ps rest 115)) (fun i j _ => (intOf j).toNat - (intOf i).toNat)
  case atStart => exact ⟨0, 20, by omega, by omega, rfl, rfl, Mod.refl _ _, HR.out⟩
  case round =>
    obtain ⟨x, y, hxy, hy, rfl, rfl, hm, hr⟩ := hrel
    by_cases hlt : x < y
    · have hlt' : (x : Int) < (y : Int) := by omega
      obtain ⟨h, hh⟩ : ∃ h : Nat, ((x : Int) + (y : Int)) / 2 = (h : Int) := ⟨(x + y) / 2, by omega⟩
      have hx1 : x ≤ h := by omega
      have hy1 : h < y := by omega
      have hi1 : (h : Int) < 21 := by omega
      have hi2 : h < 21 := by omega
      have c1 := rowO_cell hr 20 (by omega)
      have c2 := rowO_cell hr h (by omega)
      have HCC := hideIt (fun W (hW : Mod [blk] w W) => HC.out.at (.refl _) hW (i := 20) (j := h) (by omega) (by omega))
      have HM := hideIt hm
      have HRR := hideIt hr
      generalize ps[20] = u at *
      generalize ps[h] = v at *
      clear hr hm
      go_wp2_with fail
      go_region_held (fun w' => w'.cell? ⟨blk, 20, none⟩ = some (.pointer (some ⟨u, 0, none⟩)) ∧ w'.cell? ⟨blk, h, none⟩ = some (.pointer (some ⟨v, 0, none⟩)))
        ((first | go_keep | exact ⟨cell_mod hmc (by simp [*]), cell_mod hmc (by simp [*])⟩))
        ((go_at_fn g; refine (HCC.out _ (HM.out.trans (Mod.drew _))).mono ?_; rintro e w' ⟨z, rfl, hmc⟩))
      rename_i hheld
      have hm3 : Mod [blk] w w' := (HM.out.trans (Mod.drew _)).trans hmc.nil
      have hr3 : w'.heap[blk]? = some (rowO ps rest 115) := (hmc.block blk (lt_of_block HRR.out) (by simp)).trans HRR.out
      have HM3 := hideIt hm3
      have HR3 := hideIt hr3
      clear hheld hmc c1 c2 HCC HM HRR hm3 hr3
      generalize decide (z < 0) = d
      cases d
      rotate_left
      · go_wp2_with fail
        go_roundw
        case rel => exact ⟨x, h, by omega, by omega, by go_num, by go_num, HM3.out, HR3.out⟩
        case measure => simp [intOf]; omega
      · go_wp2_with fail
        go_roundw
        case rel => exact ⟨h + 1, y, by omega, by omega, by go_num, by go_num, HM3.out, HR3.out⟩
        case measure => simp [intOf]; omega
    · have hge : ¬ ((x : Int) < (y : Int)) := by omega
      have HM := hideIt hm
      have HRR := hideIt hr
      clear hm hr
      go_wp2_with fail
      go_loopw [17] (fun i wx => ∃ k : Nat, x ≤ k ∧ k ≤ 20 ∧ i = .int .i64 k ∧ ∃ ps', ps'.Perm ps ∧ Mod [blk] w wx ∧ wx.heap[blk]? = some (rowO ps' rest 115)) (fun i _ => (intOf i).toNat)
      case atStart => exact ⟨20, by omega, by omega, rfl, ps, .refl _, HM.out, HRR.out⟩
      case round =>
        clear HM HRR
        obtain ⟨k, hk1, hk2, rfl, ps', hp, hm, hr⟩ := hrel
        have hl : ps'.length = 21 := hp.length_eq.trans hn
        by_cases hgt : x < k
        · obtain ⟨m, rfl⟩ : ∃ m, k = m + 1 := ⟨k - 1, by omega⟩
          have c1 := rowO_cell hr (m + 1) (by omega)
          have c2 := rowO_cell hr m (by omega)
          have hgt' : (x : Int) < (m : Int) + 1 := by omega
          have hi1 : (m : Int) + 1 < 21 := by omega
          have hi2 : (m : Int) < 21 := by omega
          have hi3 : m + 1 < 21 := by omega
          have hi4 : m < 21 := by omega
          have hi5 : (0 : Int) ≤ (m : Int) + 1 := by omega
          have ea : ((m : Int) + 1).toNat = m + 1 := by omega
          have ra : IntKind.i64.wrap ((m : Int) + 1) = (m : Int) + 1 := by rw [IntKind.wrap_i64]; omega
          have ec : ((m : Int)).toNat = m := by omega
          have rc : IntKind.i64.wrap ((m : Int)) = (m : Int) := by rw [IntKind.wrap_i64]; omega
          have pc : (0 : Int) ≤ (m : Int) := by omega
          have hf := frozen_of_block hr
          have f1 := hf (m + 1)
          have f2 := hf m
          have HS := hideIt (rowO_swap hr (m + 1) m (by omega) (by omega))
          have HP := hideIt ((swapL_perm ps' m (by omega)).trans hp)
          generalize ps'[m + 1] = u at *
          generalize ps'[m] = v at *
          have HM5 := hideIt (hm.trans (mod_set2 wr blk (m + 1) m (.pointer (some ⟨v, 0, none⟩)) (.pointer (some ⟨u, 0, none⟩))))
          clear hr hm hp hgt hf
          go_wp2_with fail
          go_region
          clear c1 c2 f1 f2
          generalize ((wr.setCell ⟨blk, m + 1, none⟩ (.pointer (some ⟨v, 0, none⟩))).setCell ⟨blk, m, none⟩ (.pointer (some ⟨u, 0, none⟩))).drew = w5 at *
          go_wp2_with fail
          go_roundw
          case rel => exact ⟨m, by omega, by omega, by go_num, _, HP.out, HM5.out, HS.out⟩
          case measure => simp [intOf]
        · have hle : ¬ ((x : Int) < (k : Int)) := by omega
          have HPP := hideIt hp
          have HM3 := hideIt hm
          have HR3 := hideIt hr
          clear hp hm hr
          go_wp2
          exact bodyPost_ret (v := .tuple #[]) (by simp [results, Tryz.results208, go_sem]) rfl ⟨rfl, HM3.out, _, HPP.out, HR3.out⟩

end Go.Proofs.YthimaoipogocfaaGreat

namespace Go.Proofs.YthimaoipogocfaaGreat
open Go.RowKit
attribute [local go_sem] run_store_f32 run_neg_inf

theorem cmpNextT {g : FuncId} {ps F : List Nat} {w : World} (h : CmpOk g ps F w) {ps' : List Nat} (hp : ps'.Perm ps) {W : World} (hm : Mod F w W) : CmpOk g ps' F W :=
  ⟨fun p hp' q hq' V hV => h.out p (hp.mem_iff.1 hp') q (hp.mem_iff.1 hq') V (hm.trans hV)⟩

set_option maxRecDepth 100000 in
set_option maxHeartbeats 1000000 in
theorem stableT_any {w : World} {blk n cap : Nat} {ps : List Nat} {rest : List Value} {g : FuncId} (eg : ∀ args w, (callFunc g args).run Tryz.prog w = .ok (.enter g args) w)
    (hr : w.heap[blk]? = some (rowO ps rest 113)) (hn : ps.length = n) (hn2 : n ≤ 21) (hc : CmpOk g ps [blk] w) :
    Calls Tryz.prog 194 #[.slice (some ⟨blk, 0, none⟩) n cap, .int .i64 n, .func (.func g) #[] #[]] w (SortPost blk ps rest 113 w) := by
  have HR := hideIt hr
  have HC := hideIt hc
  clear hr hc
  go_enter Tryz.func194, Tryz.ntmps194
  go_wp2_with fail
  go_loopw [7, 8] (fun i j wr => ∃ x y : Nat, x ≤ n ∧ y = x + 20 ∧ i = .int .i64 x ∧ j = .int .i64 y ∧ ∃ ps', ps'.Perm ps ∧ Mod [blk] w wr ∧ wr.heap[blk]? = some (rowO ps' rest 113)) (fun i _ _ => n - (intOf i).toNat)
  case atStart => exact ⟨0, 20, by omega, rfl, rfl, rfl, ps, .refl _, Mod.refl _ _, HR.out⟩
  case round =>
    obtain ⟨x, y, hx, hy, rfl, rfl, ps', hp, hm, hr⟩ := hrel
    have hl : ps'.length = n := hp.length_eq.trans hn
    have HI := hideIt (fun a b ha hb => insT_any (cap := cap) eg hr hl (by omega) a b ha hb (cmpNextT HC.out hp hm))
    have HM := hideIt hm
    have HP := hideIt hp
    have HY := hideIt hy
    clear hm hp hr hy
    by_cases hle : y ≤ n
    · have hle' : (y : Int) ≤ (n : Int) := by omega
      go_wp2_with fail
      refine (HI.out x y (by omega) (by omega)).mono ?_
      rintro e w1 ⟨rfl, hm1, ps1, hp1, hr1⟩
      have HM1 := hideIt (HM.out.trans hm1)
      have HP1 := hideIt (hp1.trans HP.out)
      have HR1 := hideIt hr1
      clear hm1 hp1 hr1 HM HP HI
      go_wp2_with fail
      go_roundw
      case rel => exact ⟨y, y + 20, by omega, rfl, by go_num, by go_num, ps1, HP1.out, HM1.out, HR1.out⟩
      case measure => have := HY.out; simp [intOf]; omega
    · have hle' : ¬ ((y : Int) ≤ (n : Int)) := by omega
      go_wp2_with fail
      refine (HI.out x n (by omega) (by omega)).mono ?_
      rintro e w1 ⟨rfl, hm1, ps1, hp1, hr1⟩
      have HM1 := hideIt (HM.out.trans hm1)
      have HP1 := hideIt (hp1.trans HP.out)
      have HR1 := hideIt hr1
      clear hm1 hp1 hr1 HM HP HI
      go_wp2_with fail
      go_loopw [6, 7, 8, 9] (fun i _ _ _ wr => Hid (i = .int .i64 20 ∨ i = .int .i64 40) ∧ ∃ ps', ps'.Perm ps ∧ Mod [blk] w wr ∧ wr.heap[blk]? = some (rowO ps' rest 113)) (fun i _ _ _ _ => 40 - (intOf i).toNat)
      case atStart => exact ⟨hideIt (.inl rfl), ps1, HP1.out, HM1.out, HR1.out⟩
      case round =>
        clear HM1 HP1 HR1
        obtain ⟨hi, ps2, hp, hm, hr⟩ := hrel
        have hl : ps2.length = n := hp.length_eq.trans hn
        rcases hi.out with rfl | rfl
        · by_cases h21 : n = 21
          · subst h21
            have HI := hideIt (symT_any (cap := cap) eg hr hl (cmpNextT HC.out hp hm))
            have HM := hideIt hm
            have HP := hideIt hp
            clear hm hp hr
            go_wp2_with fail
            go_loopw [7, 8] (fun i j wx => i = .int .i64 0 ∧ j = .int .i64 40 ∧ wx = wr) (fun _ _ _ => 0)
            case atStart => exact ⟨rfl, rfl, rfl⟩
            case round =>
              obtain ⟨rfl, rfl, rfl⟩ := hrel
              go_wp2_with fail
              refine HI.out.mono ?_
              rintro e w1 ⟨rfl, hm1, ps1, hp1, hr1⟩
              have HM1 := hideIt (HM.out.trans hm1)
              have HP1 := hideIt (hp1.trans HP.out)
              have HR1 := hideIt hr1
              clear hm1 hp1 hr1 HM HP HI
              go_wp2_with fail
              go_roundw
              case rel =>
                repeat apply Exists.intro
                refine ⟨?_, rfl⟩
                exact ⟨hideIt (.inr (by go_num)), ps1, HP1.out, HM1.out, HR1.out⟩
              case measure => simp [intOf]
          · have hge : ¬ ((20 : Int) < (n : Int)) := by omega
            have HM := hideIt hm
            have HP := hideIt hp
            have HRR := hideIt hr
            clear hm hp hr
            go_wp2
            exact bodyPost_ret (v := .tuple #[]) (by simp [results, Tryz.results194, go_sem]) rfl ⟨rfl, HM.out, _, HP.out, HRR.out⟩
        · have hge : ¬ ((40 : Int) < (n : Int)) := by omega
          have HM := hideIt hm
          have HP := hideIt hp
          have HRR := hideIt hr
          clear hm hp hr
          go_wp2
          exact bodyPost_ret (v := .tuple #[]) (by simp [results, Tryz.results194, go_sem]) rfl ⟨rfl, HM.out, _, HP.out, HRR.out⟩

set_option maxRecDepth 100000 in
theorem sortStableT_any {w : World} {blk n cap : Nat} {ps : List Nat} {rest : List Value} {g : FuncId} (eg : ∀ args w, (callFunc g args).run Tryz.prog w = .ok (.enter g args) w)
    (hr : w.heap[blk]? = some (rowO ps rest 113)) (hn : ps.length = n) (hn2 : n ≤ 21) (hc : CmpOk g ps [blk] w) :
    Calls Tryz.prog 168 #[.slice (some ⟨blk, 0, none⟩) n cap, .func (.func g) #[] #[]] w (SortPost blk ps rest 113 w) := by
  have HS := hideIt (stableT_any (cap := cap) eg hr hn hn2 hc)
  clear hr hc
  go_enter Tryz.func168, Tryz.ntmps168
  go_wp2_with fail
  refine HS.out.mono ?_
  rintro e w1 ⟨rfl, h1⟩
  go_wp2
  exact bodyPost_ret (v := .tuple #[]) (by simp [results, Tryz.results168, go_sem]) rfl ⟨rfl, h1⟩

end Go.Proofs.YthimaoipogocfaaGreat

namespace Go.Proofs.YthimaoipogocfaaGreat
open Go.RowKit
attribute [local go_sem] run_store_f32 run_neg_inf

theorem cmpNextN {g : FuncId} {ps F : List Nat} {w : World} (h : CmpOk g ps F w) {ps' : List Nat} (hp : ps'.Perm ps) {W : World} (hm : Mod F w W) : CmpOk g ps' F W :=
  ⟨fun p hp' q hq' V hV => h.out p (hp.mem_iff.1 hp') q (hp.mem_iff.1 hq') V (hm.trans hV)⟩

set_option maxRecDepth 100000 in
set_option maxHeartbeats 1000000 in
theorem stableN_any {w : World} {blk n cap : Nat} {ps : List Nat} {rest : List Value} {g : FuncId} (eg : ∀ args w, (callFunc g args).run Tryz.prog w = .ok (.enter g args) w)
    (hr : w.heap[blk]? = some (rowO ps rest 115)) (hn : ps.length = n) (hn2 : n ≤ 21) (hc : CmpOk g ps [blk] w) :
    Calls Tryz.prog 197 #[.slice (some ⟨blk, 0, none⟩) n cap, .int .i64 n, .func (.func g) #[] #[]] w (SortPost blk ps rest 115 w) := by
  have HR := hideIt hr
  have HC := hideIt hc
  clear hr hc
  go_enter Tryz.func197, Tryz.ntmps197
  go_wp2_with fail
  go_loopw [7, 8] (fun i j wr => ∃ x y : Nat, x ≤ n ∧ y = x + 20 ∧ i = .int .i64 x ∧ j = .int .i64 y ∧ ∃ ps', ps'.Perm ps ∧ Mod [blk] w wr ∧ wr.heap[blk]? = some (rowO ps' rest 115)) (fun i _ _ => n - (intOf i).toNat)
  case atStart => exact ⟨0, 20, by omega, rfl, rfl, rfl, ps, .refl _, Mod.refl _ _, HR.out⟩
  case round =>
    obtain ⟨x, y, hx, hy, rfl, rfl, ps', hp, hm, hr⟩ := hrel
    have hl : ps'.length = n := hp.length_eq.trans hn
    have HI := hideIt (fun a b ha hb => insN_any (cap := cap) eg hr hl (by omega) a b ha hb (cmpNextN HC.out hp hm))
    have HM := hideIt hm
    have HP := hideIt hp
    have HY := hideIt hy
    clear hm hp hr hy
    by_cases hle : y ≤ n
    · have hle' : (y : Int) ≤ (n : Int) := by omega
      go_wp2_with fail
      refine (HI.out x y (by omega) (by omega)).mono ?_
      rintro e w1 ⟨rfl, hm1, ps1, hp1, hr1⟩
      have HM1 := hideIt (HM.out.trans hm1)
      have HP1 := hideIt (hp1.trans HP.out)
      have HR1 := hideIt hr1
      clear hm1 hp1 hr1 HM HP HI
      go_wp2_with fail
      go_roundw
      case rel => exact ⟨y, y + 20, by omega, rfl, by go_num, by go_num, ps1, HP1.out, HM1.out, HR1.out⟩
      case measure => have := HY.out; simp [intOf]; omega
    · have hle' : ¬ ((y : Int) ≤ (n : Int)) := by omega
      go_wp2_with fail
      refine (HI.out x n (by omega) (by omega)).mono ?_
      rintro e w1 ⟨rfl, hm1, ps1, hp1, hr1⟩
      have HM1 := hideIt (HM.out.trans hm1)
      have HP1 := hideIt (hp1.trans HP.out)
      have HR1 := hideIt hr1
      clear hm1 hp1 hr1 HM HP HI
      go_wp2_with fail
      go_loopw [6, 7, 8, 9] (fun i _ _ _ wr => Hid (i = .int .i64 20 ∨ i = .int .i64 40) ∧ ∃ ps', ps'.Perm ps ∧ Mod [blk] w wr ∧ wr.heap[blk]? = some (rowO ps' rest 115)) (fun i _ _ _ _ => 40 - (intOf i).toNat)
      case atStart => exact ⟨hideIt (.inl rfl), ps1, HP1.out, HM1.out, HR1.out⟩
      case round =>
        clear HM1 HP1 HR1
        obtain ⟨hi, ps2, hp, hm, hr⟩ := hrel
        have hl : ps2.length = n := hp.length_eq.trans hn
        rcases hi.out with rfl | rfl
        · by_cases h21 : n = 21
          · subst h21
            have HI := hideIt (symN_any (cap := cap) eg hr hl (cmpNextN HC.out hp hm))
            have HM := hideIt hm
            have HP := hideIt hp
            clear hm hp hr
            go_wp2_with fail
            go_loopw [7, 8] (fun i j wx => i = .int .i64 0 ∧ j = .int .i64 40 ∧ wx = wr) (fun _ _ _ => 0)
            case atStart => exact ⟨rfl, rfl, rfl⟩
            case round =>
              obtain ⟨rfl, rfl, rfl⟩ := hrel
              go_wp2_with fail
              refine HI.out.mono ?_
              rintro e w1 ⟨rfl, hm1, ps1, hp1, hr1⟩
              have HM1 := hideIt (HM.out.trans hm1)
              have HP1 := hideIt (hp1.trans HP.out)
              have HR1 := hideIt hr1
              clear hm1 hp1 hr1 HM HP HI
              go_wp2_with fail
              go_roundw
              case rel =>
                repeat apply Exists.intro
                refine ⟨?_, rfl⟩
                exact ⟨hideIt (.inr (by go_num)), ps1, HP1.out, HM1.out, HR1.out⟩
              case measure => simp [intOf]
          · have hge : ¬ ((20 : Int) < (n : Int)) := by omega
            have HM := hideIt hm
            have HP := hideIt hp
            have HRR := hideIt hr
            clear hm hp hr
            go_wp2
            exact bodyPost_ret (v := .tuple #[]) (by simp [results, Tryz.results197, go_sem]) rfl ⟨rfl, HM.out, _, HP.out, HRR.out⟩
        · have hge : ¬ ((40 : Int) < (n : Int)) := by omega
          have HM := hideIt hm
          have HP := hideIt hp
          have HRR := hideIt hr
          clear hm hp hr
          go_wp2
          exact bodyPost_ret (v := .tuple #[]) (by simp [results, Tryz.results197, go_sem]) rfl ⟨rfl, HM.out, _, HP.out, HRR.out⟩

set_option maxRecDepth 100000 in
theorem sortStableN_any {w : World} {blk n cap : Nat} {ps : List Nat} {rest : List Value} {g : FuncId} (eg : ∀ args w, (callFunc g args).run Tryz.prog w = .ok (.enter g args) w)
    (hr : w.heap[blk]? = some (rowO ps rest 115)) (hn : ps.length = n) (hn2 : n ≤ 21) (hc : CmpOk g ps [blk] w) :
    Calls Tryz.prog 176 #[.slice (some ⟨blk, 0, none⟩) n cap, .func (.func g) #[] #[]] w (SortPost blk ps rest 115 w) := by
  have HS := hideIt (stableN_any (cap := cap) eg hr hn hn2 hc)
  clear hr hc
  go_enter Tryz.func176, Tryz.ntmps176
  go_wp2_with fail
  refine HS.out.mono ?_
  rintro e w1 ⟨rfl, h1⟩
  go_wp2
  exact bodyPost_ret (v := .tuple #[]) (by simp [results, Tryz.results176, go_sem]) rfl ⟨rfl, h1⟩

end Go.Proofs.YthimaoipogocfaaGreat

namespace Go.Proofs.YthimaoipogocfaaGreat
open Go.RowKit

/-! ### the box around several -/
def around (bs : List Bx) : Bx := bs.foldl Bx.grow Bx.none
theorem around_snoc (bs : List Bx) (b : Bx) : around (bs ++ [b]) = (around bs).grow b := by simp [around, List.foldl_append]

theorem foldl_num : ∀ (bs : List Bx) (b : Bx), b.Num → (∀ x ∈ bs, x.Num) → (bs.foldl Bx.grow b).Num
  | [], _, h, _ => h
  | x :: bs, _, h, hs => foldl_num bs _ (Bx.grow_num h (hs x (by simp))) (fun y hy => hs y (by simp [hy]))
theorem around_num {bs : List Bx} (h : ∀ x ∈ bs, x.Num) : (around bs).Num := foldl_num bs _ Bx.none_num h

theorem foldl_in : ∀ (bs : List Bx) (b : Bx), b.In (bs.foldl Bx.grow b) ∧ ∀ x ∈ bs, x.In (bs.foldl Bx.grow b)
  | [], b => ⟨Bx.In.refl b, fun x hx => by cases hx⟩
  | y :: bs, b => by
    obtain ⟨h1, h2⟩ := foldl_in bs (b.grow y)
    refine ⟨(Bx.in_grow b y).trans h1, fun x hx => ?_⟩
    rcases List.mem_cons.1 hx with rfl | hx
    · exact (Bx.in_grow' b x).trans h1
    · exact h2 x hx
theorem around_in {bs : List Bx} {x : Bx} (h : x ∈ bs) : x.In (around bs) := (foldl_in bs _).2 x h

theorem foldl_ok : ∀ (bs : List Bx) (b : Bx), b.Ok → (∀ x ∈ bs, x.Ok) → (bs.foldl Bx.grow b).Ok
  | [], _, h, _ => h
  | x :: bs, _, h, hs => foldl_ok bs _ (Bx.grow_ok h (hs x (by simp))) (fun y hy => hs y (by simp [hy]))
theorem around_ok {bs : List Bx} (hne : bs ≠ []) (h : ∀ x ∈ bs, x.Ok) : (around bs).Ok := by
  cases bs with
  | nil => exact absurd rfl hne
  | cons b bs =>
    show (bs.foldl Bx.grow (Bx.none.grow b)).Ok
    rw [Bx.none_grow (h b (by simp))]
    exact foldl_ok bs b (h b (by simp)) (fun x hx => h x (by simp [hx]))

/-- pointers and the boxes behind them -/
def RowBx (w : World) (blk off : Nat) (T : TypeId) (l : List (Nat × Bx)) : Prop :=
  (∀ j x, l[j]? = some x → w.cell? ⟨blk, off + j, none⟩ = some (.pointer (some ⟨x.1, 0, none⟩))) ∧ ∀ x ∈ l, HasBx w x.1 T x.2 ∧ x.2.Num

theorem RowBx.kept {w w' : World} {blk off : Nat} {T : TypeId} {l : List (Nat × Bx)} (h : RowBx w blk off T l) (hm : Mod [] w w') : RowBx w' blk off T l :=
  ⟨fun j x hx => cell_mod hm (h.1 j x hx), fun x hx => ⟨(h.2 x hx).1.kept hm (by simp), (h.2 x hx).2⟩⟩

end Go.Proofs.YthimaoipogocfaaGreat

