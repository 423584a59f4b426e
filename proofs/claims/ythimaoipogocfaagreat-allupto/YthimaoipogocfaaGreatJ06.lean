import Derived.Test.YthimaoipogocfaaGreatJ05
import Derived.Test.YthimaoipogocfaaGreatJ04
import Derived.Laws.Cover3
import Derived.Deep.RegionLaw
import Derived.Lib.SliceRun
namespace Go.Proofs.YthimaoipogocfaaGreat
open Go.RowKit
attribute [local go_sem] run_store_f32 run_neg_inf

theorem PartsPost.newT {T : TypeId} {ps ps' : List Nat} {lo g : Nat} {w w1 : World} {e : Ending} {w' : World} (h : PartsPost T ps' lo [g] w1 e w') (hp : ps'.Perm ps) (hm : Mod [] w w1) (hg : w.heap.size ≤ g) : PartsPost T ps lo [] w e w' := by
  obtain ⟨g1, c1, g2, c2, l1, l2, he, hpm, h1, h2, hm2, ho1, ho2, hne, hor⟩ := h
  refine ⟨g1, c1, g2, c2, l1, l2, he, hpm.trans hp, h1, h2, hm.then hm2 (fun x hx => .inr (by simp at hx; omega)), ho1, owns_base ho2 hm.size, hne, .inr ?_⟩
  rcases hor with hor | hor
  · simp at hor; omega
  · have := hm.size; omega

theorem cmpOkTX {w : World} {g : Nat} {ps : List Nat} {bx : Nat → Bx} (hB : ∀ p ∈ ps, HasBx w p 130 (bx p) ∧ (bx p).Ok) (hg : ∀ p ∈ ps, p ≠ g) : CmpOk 169 ps [g] w :=
  ⟨fun p hp q hq _ hW => cmpTX_any ((hB p hp).1.kept hW (by simpa using hg p hp)) ((hB q hq).1.kept hW (by simpa using hg q hq))⟩
theorem cmpOkTY {w : World} {g : Nat} {ps : List Nat} {bx : Nat → Bx} (hB : ∀ p ∈ ps, HasBx w p 130 (bx p) ∧ (bx p).Ok) (hg : ∀ p ∈ ps, p ≠ g) : CmpOk 171 ps [g] w :=
  ⟨fun p hp q hq _ hW => cmpTY_any ((hB p hp).1.kept hW (by simpa using hg p hp)) ((hB q hq).1.kept hW (by simpa using hg q hq))⟩

theorem HasBx.ltT {w : World} {p : Nat} {T : TypeId} {b : Bx} (h : HasBx w p T b) : p < w.heap.size := by
  obtain ⟨_, h⟩ := h
  exact lt_of_block h

set_option maxRecDepth 100000 in
set_option maxHeartbeats 1000000 in
theorem halveT {w : World} {blk n cap least : Nat} {ps : List Nat} {bx : Nat → Bx} (h : w.ownsRow 0 113 1 (.slice (some ⟨blk, 0, none⟩) n cap) n (ptrs ps)) (hB : ∀ p ∈ ps, HasBx w p 130 (bx p) ∧ (bx p).Ok) (hn2 : n ≤ 21) (hl0 : 0 < least) (hl2 : 2 * least ≤ n) :
    Calls Tryz.prog 144 #[.slice (some ⟨blk, 0, none⟩) n cap, .int .i64 least] w (PartsPost 113 ps least [] w) := by
  obtain ⟨rest, hr, hnc, _, hl, hsz, hcm⟩ := owns_rowT h
  have eX : ∀ args w, (callFunc 169 args).run Tryz.prog w = .ok (.enter 169 args) w := enters_of Tryz.func169 (by kernel_rfl) rfl
  have eY : ∀ args w, (callFunc 171 args).run Tryz.prog w = .ok (.enter 171 args) w := enters_of Tryz.func171 (by kernel_rfl) rfl
  have HEX := hideIt eX
  have HEY := hideIt eY
  have HCL := hideIt (fun W (hW : Mod [] w W) => cloneT (w := W) (blk := blk) (off := 0) (m := n) (c := cap) (ps := ps) (fun j p hp => by
    rw [Nat.zero_add]
    exact rowO_get ((hW.block blk (lt_of_block hr) (by simp)).trans hr) hp) hl (by omega) (by omega))
  have HB := hideIt hB
  have HBW : ∀ W, Mod [] w W → ∀ p ∈ ps, HasBx W p 130 (bx p) ∧ (bx p).Ok := fun W hW p hp => ⟨(hB p hp).1.kept hW (by simp), (hB p hp).2⟩
  have HBW' := hideIt HBW
  clear hB hr h hsz hcm eX eY HBW
  go_enter Tryz.func144, Tryz.ntmps144
  go_wp2_with fail
  refine (HCL.out w (Mod.refl _ _)).mono ?_
  rintro e w1 ⟨gX, cX, rfl, hm1, hoX⟩
  rw [hl] at hoX
  simp only [hl]
  go_wp2_with fail
  refine (HCL.out w1 hm1).mono ?_
  rintro e w2 ⟨gY, cY, rfl, hm2, hoY⟩
  rw [hl] at hoY
  simp only [hl]
  have hm12 := hm1.trans hm2
  have hoX2 := owns_kept hoX hm2 (by simp)
  have hgX := (hoX.lt gX rfl)
  have hgY := (hoY.lt gY rfl)
  have hXY : gX ≠ gY := by omega
  obtain ⟨restX, hrX, hncX, _, _, hszX, hcmX⟩ := owns_rowT hoX2
  obtain ⟨restY, hrY, hncY, _, _, hszY, hcmY⟩ := owns_rowT hoY
  have HSX := hideIt (sortStableT_any (cap := cX) HEX.out hrX hl hn2 (cmpOkTX (HBW'.out w2 hm12) (fun p hp => by have := (HB.out p hp).1.ltT; omega)))
  clear hm1 hm2 hoX hoX2 hoY HCL
  go_wp2_with fail
  refine HSX.out.mono ?_
  rintro e w3 ⟨rfl, hm3, psX, hpX, hrX3⟩
  have hm13 : Mod [] w w3 := hm12.then hm3 (fun x hx => .inr (by simp at hx; omega))
  have hrY3 := (hm3.block gY (lt_of_block hrY) (by simpa using fun e => hXY e.symm)).trans hrY
  have HSY := hideIt (sortStableT_any (cap := cY) HEY.out hrY3 hl hn2 (cmpOkTY (HBW'.out w3 hm13) (fun p hp => by have := (HB.out p hp).1.ltT; omega)))
  clear HSX hrX hrY hm3 hm12
  go_wp2_with fail
  refine HSY.out.mono ?_
  rintro e w4 ⟨rfl, hm4, psY, hpY, hrY4⟩
  have hm14 : Mod [] w w4 := hm13.then hm4 (fun x hx => .inr (by simp at hx; omega))
  have hrX4 := (hm4.block gX (lt_of_block hrX3) (by simpa using hXY)).trans hrX3
  have hlX : psX.length = n := hpX.length_eq.trans hl
  have hlY : psY.length = n := hpY.length_eq.trans hl
  have hBX : ∀ W, Mod [] w W → ∀ p ∈ psX, HasBx W p 130 (bx p) ∧ (bx p).Ok := fun W hW p hp => HBW'.out W hW p (hpX.mem_iff.1 hp)
  have hBY : ∀ W, Mod [] w W → ∀ p ∈ psY, HasBx W p 130 (bx p) ∧ (bx p).Ok := fun W hW p hp => HBW'.out W hW p (hpY.mem_iff.1 hp)
  have HCX := hideIt (bestCutT (cap := cX) (least := least) (rowBxT hrX4 (hBX w4 hm14)) (boxed_ok fun p hp => (hBX w4 hm14 p hp).2) (by simp [boxed, hlX]) (by omega) hncX hl0 hl2)
  clear HSY hrX3 hrY3 hm4 hm13
  go_wp2_with fail
  refine HCX.out.mono ?_
  rintro e w5 ⟨k1, z1, rfl, hk1, hk1', hm5⟩
  have hm15 := hm14.trans hm5
  have hrX5 := (hm5.block gX (lt_of_block hrX4) (by simp)).trans hrX4
  have hrY5 := (hm5.block gY (lt_of_block hrY4) (by simp)).trans hrY4
  have HCY := hideIt (bestCutT (cap := cY) (least := least) (rowBxT hrY5 (hBY w5 hm15)) (boxed_ok fun p hp => (hBY w5 hm15 p hp).2) (by simp [boxed, hlY]) (by omega) hncY hl0 hl2)
  clear HCX hrX4 hrY4 hm5 hm14
  go_wp2_with fail
  refine HCY.out.mono ?_
  rintro e w6 ⟨k2, z2, rfl, hk2, hk2', hm6⟩
  have hm16 := hm15.trans hm6
  have hrX6 := (hm6.block gX (lt_of_block hrX5) (by simp)).trans hrX5
  have hrY6 := (hm6.block gY (lt_of_block hrY5) (by simp)).trans hrY5
  have hqX : (ptrs psX ++ restX).length = cX := by rw [← hszX]; simp [ptrs, hlX, hl]
  have hqY : (ptrs psY ++ restY).length = cY := by rw [← hszY]; simp [ptrs, hlY, hl]
  have hoX6 := row_ownsT (base := 0) hrX6 (Nat.zero_le _) hqX hcmX
  have hoY6 := row_ownsT (base := 0) hrY6 (Nat.zero_le _) hqY hcmY
  rw [hlX] at hoX6
  rw [hlY] at hoY6
  have HPX := hideIt (partsT hoX6 (by omega) hl0 hk1 hk1' (by omega))
  have HPY := hideIt (partsT hoY6 (by omega) hl0 hk2 hk2' (by omega))
  have HM := hideIt hm16
  have HGX := hideIt (And.intro hpX hgX)
  have HGY := hideIt (And.intro hpY (Nat.le_trans (Mod.size (F := []) (w := w) (w' := w) (Mod.refl _ _)) hgX.1))
  have hgY' : w.heap.size ≤ gY := by omega
  clear HCY hrX5 hrY5 hrX6 hrY6 hm6 hm15 hm16 hoX6 hoY6 hqX hqY hBX hBY HBW' HB
  by_cases hz : z1 ≤ z2
  · go_wp2_with fail
    refine HPX.out.mono ?_
    intro e w7 hpp
    have hfin := hpp.newT hpX HM.out hgX.1
    obtain ⟨g1, c1, g2, c2, l1, l2, rfl, hrest⟩ := hfin
    clear hpp HPX HPY
    have HR := hideIt hrest
    clear hrest
    go_wp2
    go_ret2
    exact ⟨g1, c1, g2, c2, l1, l2, rfl, HR.out⟩
  · go_wp2_with fail
    refine HPY.out.mono ?_
    intro e w7 hpp
    have hfin := hpp.newT hpY HM.out hgY'
    obtain ⟨g1, c1, g2, c2, l1, l2, rfl, hrest⟩ := hfin
    clear hpp HPX HPY
    have HR := hideIt hrest
    clear hrest
    go_wp2
    go_ret2
    exact ⟨g1, c1, g2, c2, l1, l2, rfl, HR.out⟩

end Go.Proofs.YthimaoipogocfaaGreat

namespace Go.Proofs.YthimaoipogocfaaGreat
open Go.RowKit
attribute [local go_sem] run_store_f32 run_neg_inf

set_option maxRecDepth 100000 in
theorem aroundN_nil (w : World) : Calls Tryz.prog 109 #[.slice none 0 0] w (BoxPost Bx.none w) := by
  go_enter Tryz.func109, Tryz.ntmps109
  go_wp2_with fail
  refine (nowhere_any _).mono ?_
  rintro e w1 ⟨rfl, hm1⟩
  have hmw : Mod [] w w1 := (Mod.alloc _ _).trans hm1
  have hres1 : w1.heap[w.heap.size]? = some (.cells #[.float .f32 0, .float .f32 0, .float .f32 0, .float .f32 0] 122 (0, 0)) := (hm1.block _ (by simp) (by simp)).trans (heap_alloc_new w _)
  have hlt := lt_of_block hres1
  clear hm1
  go_wp2_with fail
  have hmw2 : Mod [] w (w1.alloc (bxO Bx.none)) := hmw.trans (Mod.alloc _ _)
  have hb : (w1.alloc (bxO Bx.none)).heap[w1.heap.size]? = some (bxO Bx.none) := heap_alloc_new w1 _
  have hres : (w1.alloc (bxO Bx.none)).heap[w.heap.size]? = some (.cells #[.float .f32 0, .float .f32 0, .float .f32 0, .float .f32 0] 122 (0, 0)) := by
    rw [Below.heap_alloc _ _ _ hlt]; exact hres1
  generalize hw2 : w1.alloc (bxO Bx.none) = w2 at *
  go_loopw [9] (fun i wr => i = .int .i64 0 ∧ wr = w2) (fun _ _ => 0)
  case atStart => exact ⟨rfl, by first | rfl | exact hw2⟩
  case round =>
    obtain ⟨rfl, rfl⟩ := hrel
    obtain ⟨c0, c1, c2, c3⟩ := cell_bxO hb
    have d0 := cell_of_block hres
    have f0 := frozen_of_block hres
    have d00 := d0 0
    have d01 := d0 1
    have d02 := d0 2
    have d03 := d0 3
    simp at d00 d01 d02 d03
    have f00 := f0 0
    have f01 := f0 1
    have f02 := f0 2
    have f03 := f0 3
    have hmf : ∀ u0 u1 u2 u3, Mod [] w ((((wr.setCell ⟨w.heap.size, 0, none⟩ u0).setCell ⟨w.heap.size, 1, none⟩ u1).setCell ⟨w.heap.size, 2, none⟩ u2).setCell ⟨w.heap.size, 3, none⟩ u3) := fun u0 u1 u2 u3 =>
      hmw2.then (G := [w.heap.size]) ((((Mod.setCell _ _ _ (by simp)).trans (Mod.setCell _ _ _ (by simp))).trans (Mod.setCell _ _ _ (by simp))).trans (Mod.setCell _ _ _ (by simp))) (fun x hx => .inr (by simp at hx; omega))
    have HMF := hideIt hmf
    clear d0 f0 hb hres hmf hmw hmw2 hw2 hres1
    go_wp2
    refine bodyPost_ret (v := bxV Bx.none) ?_ rfl ⟨rfl, HMF.out _ _ _ _⟩
    simp [results, Tryz.results109, go_sem, d00, d01, d02, d03]

set_option maxRecDepth 100000 in
set_option maxHeartbeats 1000000 in
theorem twoSpansN {w : World} {blk n cap at_ : Nat} {l : List (Nat × Bx)} (h : RowBx w blk 0 126 l) (hok : ∀ x ∈ l, x.2.Ok) (hn : l.length = n) (hn2 : n ≤ 1000) (hcap : n ≤ cap) (h0 : 0 < at_) (h1 : at_ < n) :
    Calls Tryz.prog 198 #[.slice (some ⟨blk, 0, none⟩) n cap, .int .i64 at_] w (SomeInt w) := by
  have ha1 : ∀ W, Mod [] w W → Calls Tryz.prog 109 #[.slice (some ⟨blk, 0, none⟩) at_ cap] W (BoxPost (around ((l.take at_).map (·.2))) W) := fun W hW =>
    aroundN_some (l := l.take at_) ⟨fun j x hx => (h.kept hW).1 j x (by
      rw [List.getElem?_take] at hx
      split at hx
      · exact hx
      · cases hx), fun x hx => (h.kept hW).2 x (List.mem_of_mem_take hx)⟩ (by simp; omega) (by omega)
  have ha2 : ∀ W, Mod [] w W → Calls Tryz.prog 109 #[.slice (some ⟨blk, at_, none⟩) (n - at_) (cap - at_)] W (BoxPost (around ((l.drop at_).map (·.2))) W) := fun W hW =>
    aroundN_some (l := l.drop at_) ⟨fun j x hx => by
      have := (h.kept hW).1 (at_ + j) x (by rw [List.getElem?_drop] at hx; exact hx)
      simpa using this, fun x hx => (h.kept hW).2 x (List.mem_of_mem_drop hx)⟩ (by simp; omega) (by omega)
  have hk1 : (around ((l.take at_).map (·.2))).Ok := around_ok (by simp; constructor; omega; intro hl; subst hl; simp at hn; omega) (fun x hx => by
    obtain ⟨y, hy, rfl⟩ := List.mem_map.1 hx
    exact hok y (List.mem_of_mem_take hy))
  have hk2 : (around ((l.drop at_).map (·.2))).Ok := around_ok (by simp; omega) (fun x hx => by
    obtain ⟨y, hy, rfl⟩ := List.mem_map.1 hx
    exact hok y (List.mem_of_mem_drop hy))
  obtain ⟨f, hf1, hf2⟩ : ∃ f : Nat → Bx, (∀ off, (f off).Ok) ∧ ∀ W off m c, Hid ((off = 0 ∧ m = at_ ∧ c = cap) ∨ (off = at_ ∧ m = n - at_ ∧ c = cap - at_)) → Mod [] w W → Calls Tryz.prog 109 #[.slice (some ⟨blk, off, none⟩) m c] W (BoxPost (f off) W) := by
    refine ⟨fun off => if off = 0 then around ((l.take at_).map (·.2)) else around ((l.drop at_).map (·.2)), fun off => ?_, fun W off m c hor hW => ?_⟩
    · show Bx.Ok (if off = 0 then _ else _)
      split
      · exact hk1
      · exact hk2
    · rcases hor.out with ⟨rfl, rfl, rfl⟩ | ⟨rfl, rfl, rfl⟩
      · exact ha1 W hW
      · show Calls _ _ _ _ (BoxPost (if off = 0 then _ else _) W)
        rw [if_neg (by omega)]
        exact ha2 W hW
  have HA := hideIt hf2
  have HK := hideIt hf1
  have i1 : (at_ : Int) < (n : Int) := by omega
  have i2 : (n : Int) ≤ (cap : Int) := by omega
  have i3 : (at_ : Int) ≤ (cap : Int) := by omega
  have i4 : ¬ cap = at_ := by omega
  have i5 : at_ ≤ cap := by omega
  have i6 : at_ ≤ n := by omega
  clear h hok ha1 ha2 hk1 hk2 hf1 hf2
  go_enter Tryz.func198, Tryz.ntmps198
  go_wp2_with fail
  go_region_held (fun w' => Mod [] w w')
    ((first | exact Mod.drew _ | exact Mod.trans (by assumption) hmc))
    ((first
      | (go_at_call 109; refine (HA.out _ _ _ _ (by first | exact hideIt (.inl ⟨rfl, rfl, rfl⟩) | exact hideIt (.inr ⟨rfl, rfl, rfl⟩)) (by assumption)).mono ?_; rintro e w' ⟨rfl, hmc⟩)
      | (go_at_call 143; refine (span_some (b := ⟨_, _, _, _⟩) (HK.out _) _).mono ?_; rintro e w' ⟨z, rfl, hmc⟩)))
  rename_i hmw
  clear hmc
  go_wp2
  go_ret
  exact ⟨_, rfl, hmw⟩

end Go.Proofs.YthimaoipogocfaaGreat

namespace Go.Proofs.YthimaoipogocfaaGreat
open Go.RowKit
attribute [local go_sem] run_store_f32 run_neg_inf

set_option maxRecDepth 100000 in
set_option maxHeartbeats 1000000 in
theorem bestCutN {w : World} {blk n cap least : Nat} {l : List (Nat × Bx)} (h : RowBx w blk 0 126 l) (hok : ∀ x ∈ l, x.2.Ok) (hn : l.length = n) (hn2 : n ≤ 1000) (hcap : n ≤ cap) (h0 : 0 < least) (h1 : 2 * least ≤ n) :
    Calls Tryz.prog 179 #[.slice (some ⟨blk, 0, none⟩) n cap, .int .i64 least] w (CutPost least (n - least) w) := by
  have HT := hideIt (fun W (hW : Mod [] w W) (k : Nat) (hk : 0 < k) (hk2 : k < n) => twoSpansN (cap := cap) (at_ := k) (h.kept hW) hok hn hn2 hcap hk hk2)
  clear h hok
  go_enter Tryz.func179, Tryz.ntmps179
  go_wp2_with fail
  refine (HT.out w (Mod.refl _ _) least h0 (by omega)).mono ?_
  rintro e w1 ⟨z1, rfl, hm1⟩
  go_wp2_with fail
  go_loopw [6, 7, 8] (fun b s a wr => ∃ (best k : Nat) (z : Int), b = .int .i64 best ∧ s = .int .i64 z ∧ a = .int .i64 k ∧ least ≤ best ∧ best ≤ n - least ∧ least + 1 ≤ k ∧ k ≤ n - least + 1 ∧ Mod [] w wr) (fun _ _ a _ => n + 1 - (intOf a).toNat)
  case atStart => exact ⟨least, least + 1, z1, rfl, rfl, by go_num, by omega, by omega, by omega, by omega, hm1⟩
  case round =>
    clear hm1
    obtain ⟨best, k, z, rfl, rfl, rfl, hb1, hb2, hk1, hk2, hm⟩ := hrel
    have hs : (n : Int) - (least : Int) = ((n - least : Nat) : Int) := by omega
    by_cases hlt : k ≤ n - least
    · have hlt' : (k : Int) ≤ ((n - least : Nat) : Int) := by omega
      have hlt2 : (k : Int) ≤ (n : Int) - (least : Int) := by omega
      have HM := hideIt hm
      have HHS := hideIt hs
      clear hm hs
      go_wp2_with fail
      refine (HT.out _ HM.out k (by omega) (by omega)).mono ?_
      rintro e w2 ⟨z2, rfl, hm2⟩
      have hm3 := HM.out.trans hm2
      clear hm2 HM
      by_cases hz : z2 < z
      · go_wp2_with fail
        go_roundw
        case rel => exact ⟨k, k + 1, z2, rfl, rfl, by go_num, by omega, by omega, by omega, by omega, hm3⟩
        case measure => simp [intOf]; omega
      · go_wp2_with fail
        go_roundw
        case rel => exact ⟨best, k + 1, z, rfl, rfl, by go_num, by omega, by omega, by omega, by omega, hm3⟩
        case measure => simp [intOf]; omega
    · have hge : ¬ ((k : Int) ≤ (n : Int) - (least : Int)) := by omega
      clear hs
      go_wp2
      go_ret2
      exact ⟨best, z, rfl, hb1, hb2, hm⟩

end Go.Proofs.YthimaoipogocfaaGreat

namespace Go.Proofs.YthimaoipogocfaaGreat
open Go.RowKit
attribute [local go_sem] run_store_f32 run_neg_inf

theorem infoN : (Tryz.prog.info? 115).map (fun i => (i.zero, i.size, i.bytes)) = some (some (.pointer none), 1, 8) := by kernel_rfl

theorem eql_nilN (a : Addr) (l c : Nat) (w : World) : (binOp .eql 124 (.slice (some a) l c) (.slice none 0 0)).run Tryz.prog w = .ok (.bool false) w := by
  simp only [binOp]
  simp [run_equal_slice_nil w 124 115 (some a) l c Tryz.underlying124]

set_option maxRecDepth 100000 in
set_option maxHeartbeats 400000 in
theorem cloneN {w : World} {blk off m c : Nat} {ps : List Nat} (h : ∀ j p, ps[j]? = some p → w.cell? ⟨blk, off + j, none⟩ = some (.pointer (some ⟨p, 0, none⟩))) (hm : ps.length = m) (h0 : 0 < m) (hm2 : m ≤ 1000) :
    Calls Tryz.prog 175 #[.slice (some ⟨blk, off, none⟩) m c] w (ClonePost 115 ps w) := by
  subst hm
  obtain ⟨i0, hi, hz0, hz1, hz2⟩ := info_partsT infoN
  have hsrc : srcRow (w.alloc (.cells #[] 115)) 1 (.slice (some ⟨blk, off, none⟩) ps.length c) ps.length (ptrs ps) := by
    refine ⟨by simp [ptrs], ptrs_oneT ps, .inr ⟨⟨blk, off, none⟩, c, rfl, fun j u hu => ?_⟩⟩
    simp only [ptrs, List.getElem?_map, Option.map_eq_some_iff] at hu
    obtain ⟨p, hp, rfl⟩ := hu
    have := cell_mod (Mod.alloc w (.cells #[] 115)) (h j p hp)
    rwa [show (⟨blk, off, none⟩ : Addr).add j = ⟨blk, off + j, none⟩ from by unfold Addr.add; split <;> simp_all]
  have hown := owns_allocT (w := w) (cur := #[]) (e := 115) (n := 0) (size := 1) rfl (by unfold maxLen; omega) (Nat.le_refl w.heap.size)
  have hxs : (#[] : Array Value).toList = [] := rfl
  rw [hxs] at hown
  have HSRC := hideIt hsrc
  have HOWN := hideIt hown
  clear h hsrc hown hxs
  have hnil := eql_nilN
  go_enter Tryz.func175, Tryz.ntmps175
  go_wp2_with (at_builtin; refine wpList_append_rows _ rfl _ _ 124 rfl w.heap.size 115 i0 (.pointer none) 1 8 Tryz.underlying124 hi hz0 hz1 hz2 rfl (by decide) _ 0 [] rfl HOWN.out _ ps.length (ptrs ps) rfl HSRC.out (by omega) (by unfold maxLen; omega) (by omega) (by simp) ?_)
  intro g5 c5 w5 ho5 hm5 hat5
  have hcat : catL [] (ptrs ps) = ptrs ps := rfl
  rw [hcat] at ho5
  have hmm : Mod [] w w5 := (Mod.alloc w _).then hm5 (fun x hx => .inr (by simp [Value.ownBlock] at hx; omega))
  clear hm5 hat5 HSRC HOWN hcat
  go_wp2
  go_ret
  exact ⟨g5, c5, rfl, hmm, ho5⟩

end Go.Proofs.YthimaoipogocfaaGreat

namespace Go.Proofs.YthimaoipogocfaaGreat
open Go.RowKit
attribute [local go_sem] run_store_f32 run_neg_inf

theorem zeroN : ∀ w, (zeroValue 115).run Tryz.prog w = .ok (.pointer none) w := fun w => by
  obtain ⟨i0, hi, hz0, hz1, hz2⟩ := info_partsT infoN
  simp [zeroValue, typeInfo, hi, hz0]

set_option maxRecDepth 100000 in
set_option maxHeartbeats 1000000 in
theorem deleteN {w : World} {blk n cap i j : Nat} {ps : List Nat} {rest : List Value} (h : w.heap[blk]? = some (rowO ps rest 115)) (hn : ps.length = n) (hn2 : n ≤ 1000) (hc : n ≤ cap) (hij : i < j) (hj : j ≤ n) :
    Calls Tryz.prog 133 #[.slice (some ⟨blk, 0, none⟩) n cap, .int .i64 i, .int .i64 j] w (DelPost blk n cap i j ps rest 115 w) := by
  obtain ⟨i0, hi, hz0, hz1, hz2⟩ := info_partsT infoN
  have hlen : (ptrs (ps.drop j)).length = n - j := by simp [ptrs]; omega
  have hsize : (ptrs ps ++ rest).length = n + rest.length := by simp [ptrs, hn]
  obtain ⟨A, hA, hsrc⟩ : ∃ A : Addr, (if cap = j then some (⟨blk, 0, none⟩ : Addr) else some ⟨blk, j, none⟩) = some A ∧ Hid (∀ t u, (ptrs (ps.drop j))[t]? = some u → w.drew.cell? (A.add t) = some u) := by
    by_cases hcj : cap = j
    · refine ⟨⟨blk, 0, none⟩, by simp [hcj], fun t u hu => ?_⟩
      have : (ptrs (ps.drop j)).length = 0 := by rw [hlen]; omega
      rw [List.length_eq_zero_iff.1 this] at hu
      simp at hu
    · refine ⟨⟨blk, j, none⟩, by simp [hcj], fun t u hu => ?_⟩
      simp only [ptrs, List.getElem?_map, Option.map_eq_some_iff, List.getElem?_drop] at hu
      obtain ⟨p, hp, rfl⟩ := hu
      rw [Addr.add_lit]
      exact rowO_get h hp
  have hW1 : (w.drew.setCells blk (0 + i * 1) (ptrs (ps.drop j))).heap[blk]? = some (.cells (setLT (ptrs ps ++ rest) (0 + i * 1) (ptrs (ps.drop j))).toArray 115 (0, 0)) := heap_setCellsT _ _ w.drew _ h
  have hm1 : Mod [blk] w (w.drew.setCells blk (0 + i * 1) (ptrs (ps.drop j))) := (Mod.drew w).trans (mod_setCellsT _ _ _)
  have e1 : setLT (ptrs ps ++ rest) (0 + i * 1) (ptrs (ps.drop j)) = ptrs (ps.take i ++ ps.drop j) ++ (ptrs (ps.drop (i + (n - j))) ++ rest) := by
    rw [setLT_eq _ _ _ (by rw [hlen, hsize]; omega), hlen]
    rw [List.take_append_of_le_length (by simp [ptrs]; omega), List.drop_append_of_le_length (by simp [ptrs]; omega)]
    simp [ptrs, List.map_take, List.map_drop]
  rw [e1] at hW1
  have hl2 : (ptrs (ps.take i ++ ps.drop j)).length = i + (n - j) := by simp [ptrs]; omega
  have hl3 : (ptrs (ps.drop (i + (n - j)))).length = j - i := by simp [ptrs]; omega
  obtain ⟨W1, hWe⟩ : ∃ W1, W1 = w.drew.setCells blk (0 + i * 1) (ptrs (ps.drop j)) := ⟨_, rfl⟩
  rw [← hWe] at hW1 hm1
  have hcl : ∀ ty, (Builtin.clear_ #[124] ty #[.slice (some ⟨blk, i + (n - j), none⟩) (n - (i + (n - j))) (cap - (i + (n - j)))]).run Tryz.prog W1 = .ok (.tuple #[]) (W1.setCells blk (i + (n - j)) (List.replicate (n - (i + (n - j))) (.pointer none))) := fun ty =>
    Lib.run_clear_slice W1 _ _ ty _ Tryz.underlying124 zeroN rfl rfl blk (i + (n - j)) _ _ (by omega) (fun t ht => by
      rw [cell_of_block hW1]
      have hlt : i + (n - j) + t < (ptrs (ps.take i ++ ps.drop j) ++ (ptrs (ps.drop (i + (n - j))) ++ rest)).length := by
        rw [List.length_append, List.length_append, hl2, hl3]; omega
      simp only [List.getElem?_toArray, List.getElem?_eq_getElem hlt, Option.isSome_some]) (fun t _ => frozen_of_block hW1 _)
  have hW2 := heap_setCellsT (List.replicate (n - (i + (n - j))) (.pointer none)) (i + (n - j)) W1 _ hW1
  have hm2 : Mod [blk] w (W1.setCells blk (i + (n - j)) (List.replicate (n - (i + (n - j))) (.pointer none))) := hm1.trans (mod_setCellsT _ _ _)
  have e2 : setLT (ptrs (ps.take i ++ ps.drop j) ++ (ptrs (ps.drop (i + (n - j))) ++ rest)) (i + (n - j)) (List.replicate (n - (i + (n - j))) (.pointer none)) = ptrs (ps.take i ++ ps.drop j) ++ (List.replicate (j - i) (.pointer none) ++ rest) := by
    rw [setLT_mid _ _ _ _ _ hl2.symm (by rw [hl3, List.length_replicate]; omega), show n - (i + (n - j)) = j - i by omega]
  rw [e2] at hW2
  have hspare : Hid (∀ t, t < (ptrs (ps.drop j)).length → (w.drew.cell? ⟨blk, 0 + i * 1 + t, none⟩).isSome = true ∧ w.drew.frozen? ⟨blk, 0 + i * 1 + t, none⟩ = false) := by
    intro t ht
    rw [hlen] at ht
    refine ⟨?_, frozen_of_block (w := w.drew) h _⟩
    have : w.drew.cell? ⟨blk, 0 + i * 1 + t, none⟩ = w.cell? ⟨blk, i + t, none⟩ := by rw [Nat.mul_one, Nat.zero_add]; rfl
    rw [this, rowO_cell h (i + t) (by omega)]
    rfl
  have HW := hideIt hWe
  have HF := hideIt (And.intro hm2 hW2)
  have s1 : Hid ((ptrs (ps.drop j)).length = (n - j) * 1) := by rw [Nat.mul_one]; exact hlen
  have hic : i ≤ cap := by omega
  have hjc : j ≤ cap := by omega
  have hin : i ≤ n := by omega
  have i1 : (i : Int) < (j : Int) := by omega
  have i2 : (j : Int) ≤ (n : Int) := by omega
  have i3 : (n : Int) ≤ (cap : Int) := by omega
  have i4 : ¬ i = j := by omega
  clear hWe hW1 hm1 e1 e2 hm2 hW2 h hl2 hl3 hsize
  go_enter Tryz.func133, Tryz.ntmps133
  go_wp2_with fail
  go_region_law (refine step_append_room rfl (.tmp 22) (.tmp 25) 124 rfl 115 i0 1 Tryz.underlying124 hi hz1 blk 0 i cap (by simp [Act.eval, Act.put]) A (n - j) (cap - j) (ptrs (ps.drop j)) (by simp [Act.eval, Act.put]) s1.out hsrc.out (ptrs_oneT _) (by omega) hspare.out ?_; rw [← HW.out])
  go_wp2
  go_ret
  exact ⟨by rw [show n - (j - i) = i + (n - j) by omega]; rfl, HF.out.1, HF.out.2⟩

end Go.Proofs.YthimaoipogocfaaGreat

namespace Go.Proofs.YthimaoipogocfaaGreat
open Go.RowKit
attribute [local go_sem] run_store_f32 run_neg_inf

set_option maxRecDepth 100000 in
set_option maxHeartbeats 400000 in
theorem partsN {w : World} {blk n cap k lo : Nat} {ps : List Nat} (h : w.ownsRow 0 115 1 (.slice (some ⟨blk, 0, none⟩) n cap) n (ptrs ps)) (hn2 : n ≤ 1000) (hlo : 0 < lo) (hk : lo ≤ k) (hk2 : k ≤ n - lo) (hk3 : lo ≤ n) :
    Calls Tryz.prog 180 #[.slice (some ⟨blk, 0, none⟩) n cap, .int .i64 k] w (PartsPost 115 ps lo [blk] w) := by
  obtain ⟨rest, hr, hnc, _, hl, hsz, hcm⟩ := owns_rowT h
  have i1 : (k : Int) < (n : Int) := by omega
  have i2 : (n : Int) ≤ (cap : Int) := by omega
  have i4 : ¬ cap = k := by omega
  have i5 : k ≤ cap := by omega
  have i6 : k ≤ n := by omega
  have hl2 : (ps.drop k).length = n - k := by simp; omega
  have HC := hideIt (cloneN (w := w) (blk := blk) (off := k) (m := n - k) (c := cap - k) (ps := ps.drop k) (fun j p hp => by
    rw [List.getElem?_drop] at hp
    exact rowO_get hr hp) hl2 (by omega) (by omega))
  have HR := hideIt hr
  have HSZ := hideIt (And.intro hsz hcm)
  clear hr h hsz hcm
  go_enter Tryz.func180, Tryz.ntmps180
  go_wp2_with fail
  refine HC.out.mono ?_
  rintro e w1 ⟨g, c, rfl, hm1, ho1⟩
  rw [hl2] at ho1
  simp only [hl2]
  have hr1 := (hm1.block blk (lt_of_block HR.out) (by simp)).trans HR.out
  have HD := hideIt (deleteN (w := w1) (cap := cap) (i := k) (j := n) hr1 hl hn2 hnc (by omega) (Nat.le_refl _))
  have hgw := (ho1.lt g rfl).1
  have hgb : g ≠ blk := by have := lt_of_block HR.out; omega
  clear HC
  go_wp2_with fail
  refine HD.out.mono ?_
  rintro e w2 ⟨rfl, hm2, hr2⟩
  have ho2 := owns_kept ho1 hm2 (fun x hx => by simp [Value.ownBlock] at hx; subst hx; simpa using hgb)
  have hm : Mod [blk] w w2 := hm1.nil.trans hm2
  have hd : ps.drop n = [] := by rw [← hl]; exact List.drop_length
  rw [hd, List.append_nil] at hr2
  have hlt : (ps.take k).length = n - (n - k) := by simp; omega
  have ho3 := row_ownsT (base := 0) (c := cap) hr2 (Nat.zero_le _) (by
    have := HSZ.out.1
    simp [ptrs] at this ⊢
    omega) HSZ.out.2
  have hfin : PartsPost 115 ps lo [blk] w (.returned (.tuple #[.slice (some ⟨blk, 0, none⟩) (n - (n - k)) cap, .slice (some ⟨g, 0, none⟩) (n - k) c])) w2 := by
    refine ⟨blk, cap, g, c, ps.take k, ps.drop k, by rw [hlt, hl2], by rw [List.take_append_drop], by omega, by omega, hm, ho3, by rw [hl2]; exact ho2, fun e => hgb e.symm, .inl (by simp)⟩
  have HF := hideIt hfin
  clear HD HR HSZ hr1 hr2 ho1 ho2 ho3 hm1 hm2 hm hfin
  go_wp2
  go_ret2
  exact HF.out

end Go.Proofs.YthimaoipogocfaaGreat

namespace Go.Proofs.YthimaoipogocfaaGreat
open Go.RowKit
attribute [local go_sem] run_store_f32 run_neg_inf

theorem cmpOkNX {w : World} {g : Nat} {ps : List Nat} {bx : Nat → Bx} (hB : ∀ p ∈ ps, HasBx w p 126 (bx p) ∧ (bx p).Ok) (hg : ∀ p ∈ ps, p ≠ g) : CmpOk 177 ps [g] w :=
  ⟨fun p hp q hq _ hW => cmpNX_any ((hB p hp).1.kept hW (by simpa using hg p hp)) ((hB q hq).1.kept hW (by simpa using hg q hq))⟩
theorem cmpOkNY {w : World} {g : Nat} {ps : List Nat} {bx : Nat → Bx} (hB : ∀ p ∈ ps, HasBx w p 126 (bx p) ∧ (bx p).Ok) (hg : ∀ p ∈ ps, p ≠ g) : CmpOk 178 ps [g] w :=
  ⟨fun p hp q hq _ hW => cmpNY_any ((hB p hp).1.kept hW (by simpa using hg p hp)) ((hB q hq).1.kept hW (by simpa using hg q hq))⟩

set_option maxRecDepth 100000 in
set_option maxHeartbeats 1000000 in
theorem halveN {w : World} {blk n cap least : Nat} {ps : List Nat} {bx : Nat → Bx} (h : w.ownsRow 0 115 1 (.slice (some ⟨blk, 0, none⟩) n cap) n (ptrs ps)) (hB : ∀ p ∈ ps, HasBx w p 126 (bx p) ∧ (bx p).Ok) (hn2 : n ≤ 21) (hl0 : 0 < least) (hl2 : 2 * least ≤ n) :
    Calls Tryz.prog 145 #[.slice (some ⟨blk, 0, none⟩) n cap, .int .i64 least] w (PartsPost 115 ps least [] w) := by
  obtain ⟨rest, hr, hnc, _, hl, hsz, hcm⟩ := owns_rowT h
  have eX : ∀ args w, (callFunc 177 args).run Tryz.prog w = .ok (.enter 177 args) w := enters_of Tryz.func177 (by kernel_rfl) rfl
  have eY : ∀ args w, (callFunc 178 args).run Tryz.prog w = .ok (.enter 178 args) w := enters_of Tryz.func178 (by kernel_rfl) rfl
  have HEX := hideIt eX
  have HEY := hideIt eY
  have HCL := hideIt (fun W (hW : Mod [] w W) => cloneN (w := W) (blk := blk) (off := 0) (m := n) (c := cap) (ps := ps) (fun j p hp => by
    rw [Nat.zero_add]
    exact rowO_get ((hW.block blk (lt_of_block hr) (by simp)).trans hr) hp) hl (by omega) (by omega))
  have HB := hideIt hB
  have HBW : ∀ W, Mod [] w W → ∀ p ∈ ps, HasBx W p 126 (bx p) ∧ (bx p).Ok := fun W hW p hp => ⟨(hB p hp).1.kept hW (by simp), (hB p hp).2⟩
  have HBW' := hideIt HBW
  clear hB hr h hsz hcm eX eY HBW
  go_enter Tryz.func145, Tryz.ntmps145
  go_wp2_with fail
  refine (HCL.out w (Mod.refl _ _)).mono ?_
  rintro e w1 ⟨gX, cX, rfl, hm1, hoX⟩
  rw [hl] at hoX
  simp only [hl]
  go_wp2_with fail
  refine (HCL.out w1 hm1).mono ?_
  rintro e w2 ⟨gY, cY, rfl, hm2, hoY⟩
  rw [hl] at hoY
  simp only [hl]
  have hm12 := hm1.trans hm2
  have hoX2 := owns_kept hoX hm2 (by simp)
  have hgX := (hoX.lt gX rfl)
  have hgY := (hoY.lt gY rfl)
  have hXY : gX ≠ gY := by omega
  obtain ⟨restX, hrX, hncX, _, _, hszX, hcmX⟩ := owns_rowT hoX2
  obtain ⟨restY, hrY, hncY, _, _, hszY, hcmY⟩ := owns_rowT hoY
  have HSX := hideIt (sortStableN_any (cap := cX) HEX.out hrX hl hn2 (cmpOkNX (HBW'.out w2 hm12) (fun p hp => by have := (HB.out p hp).1.ltT; omega)))
  clear hm1 hm2 hoX hoX2 hoY HCL
  go_wp2_with fail
  refine HSX.out.mono ?_
  rintro e w3 ⟨rfl, hm3, psX, hpX, hrX3⟩
  have hm13 : Mod [] w w3 := hm12.then hm3 (fun x hx => .inr (by simp at hx; omega))
  have hrY3 := (hm3.block gY (lt_of_block hrY) (by simpa using fun e => hXY e.symm)).trans hrY
  have HSY := hideIt (sortStableN_any (cap := cY) HEY.out hrY3 hl hn2 (cmpOkNY (HBW'.out w3 hm13) (fun p hp => by have := (HB.out p hp).1.ltT; omega)))
  clear HSX hrX hrY hm3 hm12
  go_wp2_with fail
  refine HSY.out.mono ?_
  rintro e w4 ⟨rfl, hm4, psY, hpY, hrY4⟩
  have hm14 : Mod [] w w4 := hm13.then hm4 (fun x hx => .inr (by simp at hx; omega))
  have hrX4 := (hm4.block gX (lt_of_block hrX3) (by simpa using hXY)).trans hrX3
  have hlX : psX.length = n := hpX.length_eq.trans hl
  have hlY : psY.length = n := hpY.length_eq.trans hl
  have hBX : ∀ W, Mod [] w W → ∀ p ∈ psX, HasBx W p 126 (bx p) ∧ (bx p).Ok := fun W hW p hp => HBW'.out W hW p (hpX.mem_iff.1 hp)
  have hBY : ∀ W, Mod [] w W → ∀ p ∈ psY, HasBx W p 126 (bx p) ∧ (bx p).Ok := fun W hW p hp => HBW'.out W hW p (hpY.mem_iff.1 hp)
  have HCX := hideIt (bestCutN (cap := cX) (least := least) (rowBxT hrX4 (hBX w4 hm14)) (boxed_ok fun p hp => (hBX w4 hm14 p hp).2) (by simp [boxed, hlX]) (by omega) hncX hl0 hl2)
  clear HSY hrX3 hrY3 hm4 hm13
  go_wp2_with fail
  refine HCX.out.mono ?_
  rintro e w5 ⟨k1, z1, rfl, hk1, hk1', hm5⟩
  have hm15 := hm14.trans hm5
  have hrX5 := (hm5.block gX (lt_of_block hrX4) (by simp)).trans hrX4
  have hrY5 := (hm5.block gY (lt_of_block hrY4) (by simp)).trans hrY4
  have HCY := hideIt (bestCutN (cap := cY) (least := least) (rowBxT hrY5 (hBY w5 hm15)) (boxed_ok fun p hp => (hBY w5 hm15 p hp).2) (by simp [boxed, hlY]) (by omega) hncY hl0 hl2)
  clear HCX hrX4 hrY4 hm5 hm14
  go_wp2_with fail
  refine HCY.out.mono ?_
  rintro e w6 ⟨k2, z2, rfl, hk2, hk2', hm6⟩
  have hm16 := hm15.trans hm6
  have hrX6 := (hm6.block gX (lt_of_block hrX5) (by simp)).trans hrX5
  have hrY6 := (hm6.block gY (lt_of_block hrY5) (by simp)).trans hrY5
  have hqX : (ptrs psX ++ restX).length = cX := by rw [← hszX]; simp [ptrs, hlX, hl]
  have hqY : (ptrs psY ++ restY).length = cY := by rw [← hszY]; simp [ptrs, hlY, hl]
  have hoX6 := row_ownsT (base := 0) hrX6 (Nat.zero_le _) hqX hcmX
  have hoY6 := row_ownsT (base := 0) hrY6 (Nat.zero_le _) hqY hcmY
  rw [hlX] at hoX6
  rw [hlY] at hoY6
  have HPX := hideIt (partsN hoX6 (by omega) hl0 hk1 hk1' (by omega))
  have HPY := hideIt (partsN hoY6 (by omega) hl0 hk2 hk2' (by omega))
  have HM := hideIt hm16
  have HGX := hideIt (And.intro hpX hgX)
  have HGY := hideIt (And.intro hpY (Nat.le_trans (Mod.size (F := []) (w := w) (w' := w) (Mod.refl _ _)) hgX.1))
  have hgY' : w.heap.size ≤ gY := by omega
  clear HCY hrX5 hrY5 hrX6 hrY6 hm6 hm15 hm16 hoX6 hoY6 hqX hqY hBX hBY HBW' HB
  by_cases hz : z1 ≤ z2
  · go_wp2_with fail
    refine HPX.out.mono ?_
    intro e w7 hpp
    have hfin := hpp.newT hpX HM.out hgX.1
    obtain ⟨g1, c1, g2, c2, l1, l2, rfl, hrest⟩ := hfin
    clear hpp HPX HPY
    have HR := hideIt hrest
    clear hrest
    go_wp2
    go_ret2
    exact ⟨g1, c1, g2, c2, l1, l2, rfl, HR.out⟩
  · go_wp2_with fail
    refine HPY.out.mono ?_
    intro e w7 hpp
    have hfin := hpp.newT hpY HM.out hgY'
    obtain ⟨g1, c1, g2, c2, l1, l2, rfl, hrest⟩ := hfin
    clear hpp HPX HPY
    have HR := hideIt hrest
    clear hrest
    go_wp2
    go_ret2
    exact ⟨g1, c1, g2, c2, l1, l2, rfl, HR.out⟩

end Go.Proofs.YthimaoipogocfaaGreat

