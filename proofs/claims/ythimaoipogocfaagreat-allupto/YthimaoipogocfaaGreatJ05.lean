import Derived.Test.YthimaoipogocfaaGreatJ04
import Derived.Laws.Cover3
import Derived.Deep.RegionLaw
import Derived.Lib.SliceRun
namespace Go.Proofs.YthimaoipogocfaaGreat
open Go.RowKit
attribute [local go_sem] run_store_f32 run_neg_inf

set_option maxRecDepth 100000 in
set_option maxHeartbeats 1000000 in
theorem aroundT_some {w : World} {blk off m c : Nat} {l : List (Nat × Bx)} (h : RowBx w blk off 130 l) (hm : l.length = m) (hm2 : m ≤ 1000) :
    Calls Tryz.prog 108 #[.slice (some ⟨blk, off, none⟩) m c] w (BoxPost (around (l.map (·.2))) w) := by
  have HB := hideIt h
  clear h
  go_enter Tryz.func108, Tryz.ntmps108
  go_wp2_with fail
  refine (nowhere_any _).mono ?_
  rintro e w1 ⟨rfl, hm1⟩
  have hmw : Mod [] w w1 := (Mod.alloc _ _).trans hm1
  have hz1 := hmw.size
  have hres1 : w1.heap[w.heap.size]? = some (.cells #[.float .f32 0, .float .f32 0, .float .f32 0, .float .f32 0] 122 (0, 0)) := (hm1.block _ (by simp) (by simp)).trans (heap_alloc_new w _)
  clear hm1
  have hqq : w.heap.size < w1.heap.size := lt_of_block hres1
  go_wp2_with fail
  generalize hq : w1.heap.size = q at *
  go_loopw [9] (fun i wr => ∃ k : Nat, k ≤ m ∧ i = .int .i64 k ∧ Mod [] w wr ∧ wr.heap[w.heap.size]? = some (.cells #[.float .f32 0, .float .f32 0, .float .f32 0, .float .f32 0] 122 (0, 0)) ∧ wr.heap[q]? = some (bxC (around ((l.take k).map (·.2))) [] 122)) (fun i _ => m - (intOf i).toNat)
  case atStart => 
    refine ⟨0, by omega, rfl, hmw.trans (Mod.alloc _ _), ?_, ?_⟩
    · rw [Below.heap_alloc _ _ _ (lt_of_block hres1)]; exact hres1
    · subst hq
      exact heap_alloc_new w1 _
  case round =>
    obtain ⟨k, hk, rfl, hmr, hres, hbq⟩ := hrel
    have hR := HB.out.kept hmr
    by_cases hlt : k < m
    · have hlt' : (k : Int) < (m : Int) := by omega
      have hkl : k < l.length := by omega
      have c1 := hR.1 k l[k] (List.getElem?_eq_getElem hkl)
      have hbx := (hR.2 l[k] (List.getElem_mem hkl)).1
      have hnum := (hR.2 l[k] (List.getElem_mem hkl)).2
      have hstep : around ((l.take (k + 1)).map (·.2)) = (around ((l.take k).map (·.2))).grow l[k].2 := by
        rw [List.take_succ_eq_append_getElem hkl, List.map_append, List.map_singleton, around_snoc]
      have hnumA : (around ((l.take k).map (·.2))).Num := around_num (fun x hx => by
        obtain ⟨y, hy, rfl⟩ := List.mem_map.1 hx
        exact (HB.out.2 y (List.mem_of_mem_take hy)).2)
      have HST := hideIt hstep
      have HN := hideIt (And.intro hnumA hnum)
      have HX := hideIt hbx
      have HQ := hideIt hbq
      have HRS := hideIt hres
      have HMR := hideIt hmr
      clear hstep hnumA hnum hbx hbq hres hmr hR
      generalize l[k] = t at *
      generalize around ((l.take k).map (·.2)) = ak at *
      go_wp2_with fail
      rw [run_edges_T HX.out]
      case hs => kernel_rfl
      go_wp2_with fail
      refine (edges_any _ _).mono ?_
      rintro e w2 ⟨rfl, hm2'⟩
      have hq2 := (hm2'.block _ (lt_of_block HQ.out) (by simp)).trans HQ.out
      have hr2 := (hm2'.block _ (lt_of_block HRS.out) (by simp)).trans HRS.out
      have hmr2 := HMR.out.trans hm2'
      clear hm2' HX HQ HRS HMR c1
      go_wp2_with fail
      refine (grow_any hq2 HN.out.1 HN.out.2).mono ?_
      rintro e w3 ⟨rfl, hm3, hq3⟩
      have hr3 := (hm3.block _ (lt_of_block hr2) (by simp; omega)).trans hr2
      have hmr3 : Mod [] w w3 := hmr2.then hm3 (fun x hx => .inr (by simp at hx; omega))
      rw [← HST.out] at hq3
      have H3 := hideIt (And.intro hmr3 (And.intro hr3 hq3))
      clear hm3 hmr2 hr2 hq2 hr3 hmr3 hq3 HST HN
      go_wp2_with fail
      go_roundw
      case rel => exact ⟨k + 1, by omega, by go_num, H3.out.1, H3.out.2.1, H3.out.2.2⟩
      case measure => simp [intOf]; omega
    · have hge : ¬ ((k : Int) < (m : Int)) := by omega
      have hall : l.take k = l := List.take_of_length_le (by omega)
      rw [hall] at hbq
      obtain ⟨ak, hak⟩ : ∃ ak, ak = around (l.map (·.2)) := ⟨_, rfl⟩
      rw [← hak] at hbq
      have HAK := hideIt hak
      obtain ⟨c0, c1, c2, c3⟩ := cell_bxC hbq
      have d0 := cell_of_block hres
      have f0 := frozen_of_block hres
      have d00 := d0 0
      have d01 := d0 1
      have d02 := d0 2
      have d03 := d0 3
      simp at d00 d01 d02 d03
      have f00 := f0 0
      have f01 := f0 1
      have f02 := f0 2
      have f03 := f0 3
      have hmf : ∀ u0 u1 u2 u3, Mod [] w ((((wr.setCell ⟨w.heap.size, 0, none⟩ u0).setCell ⟨w.heap.size, 1, none⟩ u1).setCell ⟨w.heap.size, 2, none⟩ u2).setCell ⟨w.heap.size, 3, none⟩ u3) := fun u0 u1 u2 u3 =>
        hmr.then (G := [w.heap.size]) ((((Mod.setCell _ _ _ (by simp)).trans (Mod.setCell _ _ _ (by simp))).trans (Mod.setCell _ _ _ (by simp))).trans (Mod.setCell _ _ _ (by simp))) (fun x hx => .inr (by simp at hx; omega))
      have HMF := hideIt hmf
      clear d0 f0 hR hall hbq hak hmf
      have hne : q ≠ w.heap.size := by omega
      go_wp2
      refine bodyPost_ret (v := bxV ak) ?_ rfl ⟨by rw [HAK.out], HMF.out _ _ _ _⟩
      simp [results, Tryz.results108, go_sem, d00, d01, d02, d03]

end Go.Proofs.YthimaoipogocfaaGreat

namespace Go.Proofs.YthimaoipogocfaaGreat
open Go.RowKit
attribute [local go_sem] run_store_f32 run_neg_inf

set_option maxRecDepth 100000 in
set_option maxHeartbeats 1000000 in
theorem aroundN_some {w : World} {blk off m c : Nat} {l : List (Nat × Bx)} (h : RowBx w blk off 126 l) (hm : l.length = m) (hm2 : m ≤ 1000) :
    Calls Tryz.prog 109 #[.slice (some ⟨blk, off, none⟩) m c] w (BoxPost (around (l.map (·.2))) w) := by
  have HB := hideIt h
  clear h
  go_enter Tryz.func109, Tryz.ntmps109
  go_wp2_with fail
  refine (nowhere_any _).mono ?_
  rintro e w1 ⟨rfl, hm1⟩
  have hmw : Mod [] w w1 := (Mod.alloc _ _).trans hm1
  have hz1 := hmw.size
  have hres1 : w1.heap[w.heap.size]? = some (.cells #[.float .f32 0, .float .f32 0, .float .f32 0, .float .f32 0] 122 (0, 0)) := (hm1.block _ (by simp) (by simp)).trans (heap_alloc_new w _)
  clear hm1
  have hqq : w.heap.size < w1.heap.size := lt_of_block hres1
  go_wp2_with fail
  generalize hq : w1.heap.size = q at *
  go_loopw [9] (fun i wr => ∃ k : Nat, k ≤ m ∧ i = .int .i64 k ∧ Mod [] w wr ∧ wr.heap[w.heap.size]? = some (.cells #[.float .f32 0, .float .f32 0, .float .f32 0, .float .f32 0] 122 (0, 0)) ∧ wr.heap[q]? = some (bxC (around ((l.take k).map (·.2))) [] 122)) (fun i _ => m - (intOf i).toNat)
  case atStart => 
    refine ⟨0, by omega, rfl, hmw.trans (Mod.alloc _ _), ?_, ?_⟩
    · rw [Below.heap_alloc _ _ _ (lt_of_block hres1)]; exact hres1
    · subst hq
      exact heap_alloc_new w1 _
  case round =>
    obtain ⟨k, hk, rfl, hmr, hres, hbq⟩ := hrel
    have hR := HB.out.kept hmr
    by_cases hlt : k < m
    · have hlt' : (k : Int) < (m : Int) := by omega
      have hkl : k < l.length := by omega
      have c1 := hR.1 k l[k] (List.getElem?_eq_getElem hkl)
      have hbx := (hR.2 l[k] (List.getElem_mem hkl)).1
      have hnum := (hR.2 l[k] (List.getElem_mem hkl)).2
      have hstep : around ((l.take (k + 1)).map (·.2)) = (around ((l.take k).map (·.2))).grow l[k].2 := by
        rw [List.take_succ_eq_append_getElem hkl, List.map_append, List.map_singleton, around_snoc]
      have hnumA : (around ((l.take k).map (·.2))).Num := around_num (fun x hx => by
        obtain ⟨y, hy, rfl⟩ := List.mem_map.1 hx
        exact (HB.out.2 y (List.mem_of_mem_take hy)).2)
      have HST := hideIt hstep
      have HN := hideIt (And.intro hnumA hnum)
      have HX := hideIt hbx
      have HQ := hideIt hbq
      have HRS := hideIt hres
      have HMR := hideIt hmr
      clear hstep hnumA hnum hbx hbq hres hmr hR
      generalize l[k] = t at *
      generalize around ((l.take k).map (·.2)) = ak at *
      go_wp2_with fail
      rw [run_edges_N HX.out]
      case hs => kernel_rfl
      go_wp2_with fail
      refine (edges_any _ _).mono ?_
      rintro e w2 ⟨rfl, hm2'⟩
      have hq2 := (hm2'.block _ (lt_of_block HQ.out) (by simp)).trans HQ.out
      have hr2 := (hm2'.block _ (lt_of_block HRS.out) (by simp)).trans HRS.out
      have hmr2 := HMR.out.trans hm2'
      clear hm2' HX HQ HRS HMR c1
      go_wp2_with fail
      refine (grow_any hq2 HN.out.1 HN.out.2).mono ?_
      rintro e w3 ⟨rfl, hm3, hq3⟩
      have hr3 := (hm3.block _ (lt_of_block hr2) (by simp; omega)).trans hr2
      have hmr3 : Mod [] w w3 := hmr2.then hm3 (fun x hx => .inr (by simp at hx; omega))
      rw [← HST.out] at hq3
      have H3 := hideIt (And.intro hmr3 (And.intro hr3 hq3))
      clear hm3 hmr2 hr2 hq2 hr3 hmr3 hq3 HST HN
      go_wp2_with fail
      go_roundw
      case rel => exact ⟨k + 1, by omega, by go_num, H3.out.1, H3.out.2.1, H3.out.2.2⟩
      case measure => simp [intOf]; omega
    · have hge : ¬ ((k : Int) < (m : Int)) := by omega
      have hall : l.take k = l := List.take_of_length_le (by omega)
      rw [hall] at hbq
      obtain ⟨ak, hak⟩ : ∃ ak, ak = around (l.map (·.2)) := ⟨_, rfl⟩
      rw [← hak] at hbq
      have HAK := hideIt hak
      obtain ⟨c0, c1, c2, c3⟩ := cell_bxC hbq
      have d0 := cell_of_block hres
      have f0 := frozen_of_block hres
      have d00 := d0 0
      have d01 := d0 1
      have d02 := d0 2
      have d03 := d0 3
      simp at d00 d01 d02 d03
      have f00 := f0 0
      have f01 := f0 1
      have f02 := f0 2
      have f03 := f0 3
      have hmf : ∀ u0 u1 u2 u3, Mod [] w ((((wr.setCell ⟨w.heap.size, 0, none⟩ u0).setCell ⟨w.heap.size, 1, none⟩ u1).setCell ⟨w.heap.size, 2, none⟩ u2).setCell ⟨w.heap.size, 3, none⟩ u3) := fun u0 u1 u2 u3 =>
        hmr.then (G := [w.heap.size]) ((((Mod.setCell _ _ _ (by simp)).trans (Mod.setCell _ _ _ (by simp))).trans (Mod.setCell _ _ _ (by simp))).trans (Mod.setCell _ _ _ (by simp))) (fun x hx => .inr (by simp at hx; omega))
      have HMF := hideIt hmf
      clear d0 f0 hR hall hbq hak hmf
      have hne : q ≠ w.heap.size := by omega
      go_wp2
      refine bodyPost_ret (v := bxV ak) ?_ rfl ⟨by rw [HAK.out], HMF.out _ _ _ _⟩
      simp [results, Tryz.results109, go_sem, d00, d01, d02, d03]

end Go.Proofs.YthimaoipogocfaaGreat

namespace Go.Proofs.YthimaoipogocfaaGreat
open Go.RowKit
attribute [local go_sem] run_store_f32 run_neg_inf

set_option maxRecDepth 100000 in
theorem aroundT_nil (w : World) : Calls Tryz.prog 108 #[.slice none 0 0] w (BoxPost Bx.none w) := by
  go_enter Tryz.func108, Tryz.ntmps108
  go_wp2_with fail
  refine (nowhere_any _).mono ?_
  rintro e w1 ⟨rfl, hm1⟩
  have hmw : Mod [] w w1 := (Mod.alloc _ _).trans hm1
  have hres1 : w1.heap[w.heap.size]? = some (.cells #[.float .f32 0, .float .f32 0, .float .f32 0, .float .f32 0] 122 (0, 0)) := (hm1.block _ (by simp) (by simp)).trans (heap_alloc_new w _)
  have hlt := lt_of_block hres1
  clear hm1
  go_wp2_with fail
  have hmw2 : Mod [] w (w1.alloc (bxO Bx.none)) := hmw.trans (Mod.alloc _ _)
  have hb : (w1.alloc (bxO Bx.none)).heap[w1.heap.size]? = some (bxO Bx.none) := heap_alloc_new w1 _
  have hres : (w1.alloc (bxO Bx.none)).heap[w.heap.size]? = some (.cells #[.float .f32 0, .float .f32 0, .float .f32 0, .float .f32 0] 122 (0, 0)) := by
    rw [Below.heap_alloc _ _ _ hlt]; exact hres1
  generalize hw2 : w1.alloc (bxO Bx.none) = w2 at *
  go_loopw [9] (fun i wr => i = .int .i64 0 ∧ wr = w2) (fun _ _ => 0)
  case atStart => exact ⟨rfl, by first | rfl | exact hw2⟩
  case round =>
    obtain ⟨rfl, rfl⟩ := hrel
    obtain ⟨c0, c1, c2, c3⟩ := cell_bxO hb
    have d0 := cell_of_block hres
    have f0 := frozen_of_block hres
    have d00 := d0 0
    have d01 := d0 1
    have d02 := d0 2
    have d03 := d0 3
    simp at d00 d01 d02 d03
    have f00 := f0 0
    have f01 := f0 1
    have f02 := f0 2
    have f03 := f0 3
    have hmf : ∀ u0 u1 u2 u3, Mod [] w ((((wr.setCell ⟨w.heap.size, 0, none⟩ u0).setCell ⟨w.heap.size, 1, none⟩ u1).setCell ⟨w.heap.size, 2, none⟩ u2).setCell ⟨w.heap.size, 3, none⟩ u3) := fun u0 u1 u2 u3 =>
      hmw2.then (G := [w.heap.size]) ((((Mod.setCell _ _ _ (by simp)).trans (Mod.setCell _ _ _ (by simp))).trans (Mod.setCell _ _ _ (by simp))).trans (Mod.setCell _ _ _ (by simp))) (fun x hx => .inr (by simp at hx; omega))
    have HMF := hideIt hmf
    clear d0 f0 hb hres hmf hmw hmw2 hw2 hres1
    go_wp2
    refine bodyPost_ret (v := bxV Bx.none) ?_ rfl ⟨rfl, HMF.out _ _ _ _⟩
    simp [results, Tryz.results108, go_sem, d00, d01, d02, d03]

set_option maxRecDepth 100000 in
set_option maxHeartbeats 1000000 in
theorem twoSpansT {w : World} {blk n cap at_ : Nat} {l : List (Nat × Bx)} (h : RowBx w blk 0 130 l) (hok : ∀ x ∈ l, x.2.Ok) (hn : l.length = n) (hn2 : n ≤ 1000) (hcap : n ≤ cap) (h0 : 0 < at_) (h1 : at_ < n) :
    Calls Tryz.prog 196 #[.slice (some ⟨blk, 0, none⟩) n cap, .int .i64 at_] w (SomeInt w) := by
  have ha1 : ∀ W, Mod [] w W → Calls Tryz.prog 108 #[.slice (some ⟨blk, 0, none⟩) at_ cap] W (BoxPost (around ((l.take at_).map (·.2))) W) := fun W hW =>
    aroundT_some (l := l.take at_) ⟨fun j x hx => (h.kept hW).1 j x (by
      rw [List.getElem?_take] at hx
      split at hx
      · exact hx
      · cases hx), fun x hx => (h.kept hW).2 x (List.mem_of_mem_take hx)⟩ (by simp; omega) (by omega)
  have ha2 : ∀ W, Mod [] w W → Calls Tryz.prog 108 #[.slice (some ⟨blk, at_, none⟩) (n - at_) (cap - at_)] W (BoxPost (around ((l.drop at_).map (·.2))) W) := fun W hW =>
    aroundT_some (l := l.drop at_) ⟨fun j x hx => by
      have := (h.kept hW).1 (at_ + j) x (by rw [List.getElem?_drop] at hx; exact hx)
      simpa using this, fun x hx => (h.kept hW).2 x (List.mem_of_mem_drop hx)⟩ (by simp; omega) (by omega)
  have hk1 : (around ((l.take at_).map (·.2))).Ok := around_ok (by simp; constructor; omega; intro hl; subst hl; simp at hn; omega) (fun x hx => by
    obtain ⟨y, hy, rfl⟩ := List.mem_map.1 hx
    exact hok y (List.mem_of_mem_take hy))
  have hk2 : (around ((l.drop at_).map (·.2))).Ok := around_ok (by simp; omega) (fun x hx => by
    obtain ⟨y, hy, rfl⟩ := List.mem_map.1 hx
    exact hok y (List.mem_of_mem_drop hy))
  obtain ⟨f, hf1, hf2⟩ : ∃ f : Nat → Bx, (∀ off, (f off).Ok) ∧ ∀ W off m c, Hid ((off = 0 ∧ m = at_ ∧ c = cap) ∨ (off = at_ ∧ m = n - at_ ∧ c = cap - at_)) → Mod [] w W → Calls Tryz.prog 108 #[.slice (some ⟨blk, off, none⟩) m c] W (BoxPost (f off) W) := by
    refine ⟨fun off => if off = 0 then around ((l.take at_).map (·.2)) else around ((l.drop at_).map (·.2)), fun off => ?_, fun W off m c hor hW => ?_⟩
    · show Bx.Ok (if off = 0 then _ else _)
      split
      · exact hk1
      · exact hk2
    · rcases hor.out with ⟨rfl, rfl, rfl⟩ | ⟨rfl, rfl, rfl⟩
      · exact ha1 W hW
      · show Calls _ _ _ _ (BoxPost (if off = 0 then _ else _) W)
        rw [if_neg (by omega)]
        exact ha2 W hW
  have HA := hideIt hf2
  have HK := hideIt hf1
  have i1 : (at_ : Int) < (n : Int) := by omega
  have i2 : (n : Int) ≤ (cap : Int) := by omega
  have i3 : (at_ : Int) ≤ (cap : Int) := by omega
  have i4 : ¬ cap = at_ := by omega
  have i5 : at_ ≤ cap := by omega
  have i6 : at_ ≤ n := by omega
  clear h hok ha1 ha2 hk1 hk2 hf1 hf2
  go_enter Tryz.func196, Tryz.ntmps196
  go_wp2_with fail
  go_region_held (fun w' => Mod [] w w')
    ((first | exact Mod.drew _ | exact Mod.trans (by assumption) hmc))
    ((first
      | (go_at_call 108; refine (HA.out _ _ _ _ (by first | exact hideIt (.inl ⟨rfl, rfl, rfl⟩) | exact hideIt (.inr ⟨rfl, rfl, rfl⟩)) (by assumption)).mono ?_; rintro e w' ⟨rfl, hmc⟩)
      | (go_at_call 143; refine (span_some (b := ⟨_, _, _, _⟩) (HK.out _) _).mono ?_; rintro e w' ⟨z, rfl, hmc⟩)))
  rename_i hmw
  clear hmc
  go_wp2
  go_ret
  exact ⟨_, rfl, hmw⟩

end Go.Proofs.YthimaoipogocfaaGreat

namespace Go.Proofs.YthimaoipogocfaaGreat
open Go.RowKit
attribute [local go_sem] run_store_f32 run_neg_inf

def CutPost (lo hi : Nat) (w : World) (e : Ending) (w' : World) : Prop := ∃ (k : Nat) (z : Int), e = .returned (.tuple #[.int .i64 k, .int .i64 z]) ∧ lo ≤ k ∧ k ≤ hi ∧ Mod [] w w'

set_option maxRecDepth 100000 in
set_option maxHeartbeats 1000000 in
theorem bestCutT {w : World} {blk n cap least : Nat} {l : List (Nat × Bx)} (h : RowBx w blk 0 130 l) (hok : ∀ x ∈ l, x.2.Ok) (hn : l.length = n) (hn2 : n ≤ 1000) (hcap : n ≤ cap) (h0 : 0 < least) (h1 : 2 * least ≤ n) :
    Calls Tryz.prog 173 #[.slice (some ⟨blk, 0, none⟩) n cap, .int .i64 least] w (CutPost least (n - least) w) := by
  have HT := hideIt (fun W (hW : Mod [] w W) (k : Nat) (hk : 0 < k) (hk2 : k < n) => twoSpansT (cap := cap) (at_ := k) (h.kept hW) hok hn hn2 hcap hk hk2)
  clear h hok
  go_enter Tryz.func173, Tryz.ntmps173
  go_wp2_with fail
  refine (HT.out w (Mod.refl _ _) least h0 (by omega)).mono ?_
  rintro e w1 ⟨z1, rfl, hm1⟩
  go_wp2_with fail
  go_loopw [6, 7, 8] (fun b s a wr => ∃ (best k : Nat) (z : Int), b = .int .i64 best ∧ s = .int .i64 z ∧ a = .int .i64 k ∧ least ≤ best ∧ best ≤ n - least ∧ least + 1 ≤ k ∧ k ≤ n - least + 1 ∧ Mod [] w wr) (fun _ _ a _ => n + 1 - (intOf a).toNat)
  case atStart => exact ⟨least, least + 1, z1, rfl, rfl, by go_num, by omega, by omega, by omega, by omega, hm1⟩
  case round =>
    clear hm1
    obtain ⟨best, k, z, rfl, rfl, rfl, hb1, hb2, hk1, hk2, hm⟩ := hrel
    have hs : (n : Int) - (least : Int) = ((n - least : Nat) : Int) := by omega
    by_cases hlt : k ≤ n - least
    · have hlt' : (k : Int) ≤ ((n - least : Nat) : Int) := by omega
      have hlt2 : (k : Int) ≤ (n : Int) - (least : Int) := by omega
      have HM := hideIt hm
      have HHS := hideIt hs
      clear hm hs
      go_wp2_with fail
      refine (HT.out _ HM.out k (by omega) (by omega)).mono ?_
      rintro e w2 ⟨z2, rfl, hm2⟩
      have hm3 := HM.out.trans hm2
      clear hm2 HM
      by_cases hz : z2 < z
      · go_wp2_with fail
        go_roundw
        case rel => exact ⟨k, k + 1, z2, rfl, rfl, by go_num, by omega, by omega, by omega, by omega, hm3⟩
        case measure => simp [intOf]; omega
      · go_wp2_with fail
        go_roundw
        case rel => exact ⟨best, k + 1, z, rfl, rfl, by go_num, by omega, by omega, by omega, by omega, hm3⟩
        case measure => simp [intOf]; omega
    · have hge : ¬ ((k : Int) ≤ (n : Int) - (least : Int)) := by omega
      clear hs
      go_wp2
      go_ret2
      exact ⟨best, z, rfl, hb1, hb2, hm⟩

end Go.Proofs.YthimaoipogocfaaGreat

namespace Go.Proofs.YthimaoipogocfaaGreat
open Go.RowKit
attribute [local go_sem] run_store_f32 run_neg_inf

theorem infoT : (Tryz.prog.info? 113).map (fun i => (i.zero, i.size, i.bytes)) = some (some (.pointer none), 1, 8) := by kernel_rfl

theorem info_partsT {e : TypeId} {z : Value} {s b : Nat} (h : (Tryz.prog.info? e).map (fun i => (i.zero, i.size, i.bytes)) = some (some z, s, b)) : ∃ i, Tryz.prog.info? e = some i ∧ i.zero = some z ∧ i.size = s ∧ i.bytes = b := by
  obtain ⟨i, hi, h2⟩ := Option.map_eq_some_iff.1 h
  simp only [Prod.mk.injEq] at h2
  exact ⟨i, hi, h2.1, h2.2.1, h2.2.2⟩

theorem owns_allocT {w : World} {cur : Array Value} {e : TypeId} {n size : Nat} (hs : cur.size = n * size) (hm : n ≤ maxLen) {base : Nat} (hb : base ≤ w.heap.size) :
    (w.alloc (.cells cur e)).ownsRow base e size (.slice (some ⟨w.heap.size, 0, none⟩) n n) n cur.toList := owns_new (heap_alloc_new w _) hs hm hb

theorem ptrs_oneT (ps : List Nat) : ∀ u ∈ ptrs ps, u.oneCell' = true := by
  intro u hu
  obtain ⟨p, _, rfl⟩ := List.mem_map.1 hu
  rfl

theorem eql_nilT (a : Addr) (l c : Nat) (w : World) : (binOp .eql 123 (.slice (some a) l c) (.slice none 0 0)).run Tryz.prog w = .ok (.bool false) w := by
  simp only [binOp]
  simp [run_equal_slice_nil w 123 113 (some a) l c Tryz.underlying123]

/-- a row that came to be, of these pointers -/
def ClonePost (T : TypeId) (ps : List Nat) (w : World) (e : Ending) (w' : World) : Prop :=
  ∃ g c, e = .returned (.slice (some ⟨g, 0, none⟩) ps.length c) ∧ Mod [] w w' ∧ w'.ownsRow w.heap.size T 1 (.slice (some ⟨g, 0, none⟩) ps.length c) ps.length (ptrs ps)

set_option maxRecDepth 100000 in
set_option maxHeartbeats 400000 in
theorem cloneT {w : World} {blk off m c : Nat} {ps : List Nat} (h : ∀ j p, ps[j]? = some p → w.cell? ⟨blk, off + j, none⟩ = some (.pointer (some ⟨p, 0, none⟩))) (hm : ps.length = m) (h0 : 0 < m) (hm2 : m ≤ 1000) :
    Calls Tryz.prog 167 #[.slice (some ⟨blk, off, none⟩) m c] w (ClonePost 113 ps w) := by
  subst hm
  obtain ⟨i0, hi, hz0, hz1, hz2⟩ := info_partsT infoT
  have hsrc : srcRow (w.alloc (.cells #[] 113)) 1 (.slice (some ⟨blk, off, none⟩) ps.length c) ps.length (ptrs ps) := by
    refine ⟨by simp [ptrs], ptrs_oneT ps, .inr ⟨⟨blk, off, none⟩, c, rfl, fun j u hu => ?_⟩⟩
    simp only [ptrs, List.getElem?_map, Option.map_eq_some_iff] at hu
    obtain ⟨p, hp, rfl⟩ := hu
    have := cell_mod (Mod.alloc w (.cells #[] 113)) (h j p hp)
    rwa [show (⟨blk, off, none⟩ : Addr).add j = ⟨blk, off + j, none⟩ from by unfold Addr.add; split <;> simp_all]
  have hown := owns_allocT (w := w) (cur := #[]) (e := 113) (n := 0) (size := 1) rfl (by unfold maxLen; omega) (Nat.le_refl w.heap.size)
  have hxs : (#[] : Array Value).toList = [] := rfl
  rw [hxs] at hown
  have HSRC := hideIt hsrc
  have HOWN := hideIt hown
  clear h hsrc hown hxs
  have hnil := eql_nilT
  go_enter Tryz.func167, Tryz.ntmps167
  go_wp2_with (at_builtin; refine wpList_append_rows _ rfl _ _ 123 rfl w.heap.size 113 i0 (.pointer none) 1 8 Tryz.underlying123 hi hz0 hz1 hz2 rfl (by decide) _ 0 [] rfl HOWN.out _ ps.length (ptrs ps) rfl HSRC.out (by omega) (by unfold maxLen; omega) (by omega) (by simp) ?_)
  intro g5 c5 w5 ho5 hm5 hat5
  have hcat : catL [] (ptrs ps) = ptrs ps := rfl
  rw [hcat] at ho5
  have hmm : Mod [] w w5 := (Mod.alloc w _).then hm5 (fun x hx => .inr (by simp [Value.ownBlock] at hx; omega))
  clear hm5 hat5 HSRC HOWN hcat
  go_wp2
  go_ret
  exact ⟨g5, c5, rfl, hmm, ho5⟩

end Go.Proofs.YthimaoipogocfaaGreat

namespace Go.Proofs.YthimaoipogocfaaGreat
open Go.RowKit
attribute [local go_sem] run_store_f32 run_neg_inf

def setLT : List Value → Nat → List Value → List Value
  | xs, _, [] => xs
  | xs, o, v :: r => setLT (xs.set o v) (o + 1) r

theorem setLT_eq : ∀ (vs xs : List Value) (o : Nat), o + vs.length ≤ xs.length → setLT xs o vs = xs.take o ++ vs ++ xs.drop (o + vs.length)
  | [], xs, o, _ => by simp [setLT]
  | v :: r, xs, o, h => by
    have hl : o < xs.length := by simp at h; omega
    rw [setLT, setLT_eq r (xs.set o v) (o + 1) (by simp at h ⊢; omega)]
    have hs : xs.set o v = xs.take o ++ v :: xs.drop (o + 1) := by rw [List.set_eq_take_append_cons_drop, if_pos hl]
    have hlo : (xs.take o).length = o := by simp; omega
    have e1 : (xs.set o v).take (o + 1) = xs.take o ++ [v] := by
      rw [hs, List.take_append, hlo]
      simp [List.take_take]
    have e2 : (xs.set o v).drop (o + 1 + r.length) = xs.drop (o + (v :: r).length) := by
      rw [List.drop_set_of_lt (by omega)]
      congr 1
      simp; omega
    rw [e1, e2]
    simp

theorem setLT_mid (A B C vs : List Value) (o : Nat) (ho : o = A.length) (hv : vs.length = B.length) : setLT (A ++ (B ++ C)) o vs = A ++ (vs ++ C) := by
  subst ho
  rw [setLT_eq _ _ _ (by simp; omega), List.take_left, List.append_assoc, ← List.drop_drop, List.drop_left, hv, List.drop_left]

theorem heap_setCellsT {b : Nat} {T : TypeId} : ∀ (vs : List Value) (o : Nat) (w : World) (xs : List Value), w.heap[b]? = some (.cells xs.toArray T (0, 0)) → (w.setCells b o vs).heap[b]? = some (.cells (setLT xs o vs).toArray T (0, 0))
  | [], _, _, _, h => h
  | v :: r, o, w, xs, h => by
    have h1 := block_setCell h o v
    rw [List.setIfInBounds_toArray] at h1
    exact heap_setCellsT r (o + 1) _ _ h1

theorem mod_setCellsT {b : Nat} : ∀ (vs : List Value) (o : Nat) (w : World), Mod [b] w (w.setCells b o vs)
  | [], _, w => Mod.refl _ _
  | v :: r, o, w => (Mod.setCell w ⟨b, o, none⟩ v (by simp)).trans (mod_setCellsT r (o + 1) _)

theorem zeroT : ∀ w, (zeroValue 113).run Tryz.prog w = .ok (.pointer none) w := fun w => by
  obtain ⟨i0, hi, hz0, hz1, hz2⟩ := info_partsT infoT
  simp [zeroValue, typeInfo, hi, hz0]

def DelPost (blk n cap i j : Nat) (ps : List Nat) (rest : List Value) (T : TypeId) (w : World) (e : Ending) (w' : World) : Prop :=
  e = .returned (.slice (some ⟨blk, 0, none⟩) (n - (j - i)) cap) ∧ Mod [blk] w w' ∧ w'.heap[blk]? = some (rowO (ps.take i ++ ps.drop j) (List.replicate (j - i) (.pointer none) ++ rest) T)

theorem rowO_get {w : World} {g : Nat} {ps : List Nat} {rest : List Value} {T : TypeId} (h : w.heap[g]? = some (rowO ps rest T)) {j p : Nat} (hj : ps[j]? = some p) : w.cell? ⟨g, j, none⟩ = some (.pointer (some ⟨p, 0, none⟩)) := by
  obtain ⟨h1, h2⟩ := List.getElem?_eq_some_iff.1 hj
  rw [rowO_cell h j h1, h2]

set_option maxRecDepth 100000 in
set_option maxHeartbeats 1000000 in
theorem deleteT {w : World} {blk n cap i j : Nat} {ps : List Nat} {rest : List Value} (h : w.heap[blk]? = some (rowO ps rest 113)) (hn : ps.length = n) (hn2 : n ≤ 1000) (hc : n ≤ cap) (hij : i < j) (hj : j ≤ n) :
    Calls Tryz.prog 97 #[.slice (some ⟨blk, 0, none⟩) n cap, .int .i64 i, .int .i64 j] w (DelPost blk n cap i j ps rest 113 w) := by
  obtain ⟨i0, hi, hz0, hz1, hz2⟩ := info_partsT infoT
  have hlen : (ptrs (ps.drop j)).length = n - j := by simp [ptrs]; omega
  have hsize : (ptrs ps ++ rest).length = n + rest.length := by simp [ptrs, hn]
  obtain ⟨A, hA, hsrc⟩ : ∃ A : Addr, (if cap = j then some (⟨blk, 0, none⟩ : Addr) else some ⟨blk, j, none⟩) = some A ∧ Hid (∀ t u, (ptrs (ps.drop j))[t]? = some u → w.drew.cell? (A.add t) = some u) := by
    by_cases hcj : cap = j
    · refine ⟨⟨blk, 0, none⟩, by simp [hcj], fun t u hu => ?_⟩
      have : (ptrs (ps.drop j)).length = 0 := by rw [hlen]; omega
      rw [List.length_eq_zero_iff.1 this] at hu
      simp at hu
    · refine ⟨⟨blk, j, none⟩, by simp [hcj], fun t u hu => ?_⟩
      simp only [ptrs, List.getElem?_map, Option.map_eq_some_iff, List.getElem?_drop] at hu
      obtain ⟨p, hp, rfl⟩ := hu
      rw [Addr.add_lit]
      exact rowO_get h hp
  have hW1 : (w.drew.setCells blk (0 + i * 1) (ptrs (ps.drop j))).heap[blk]? = some (.cells (setLT (ptrs ps ++ rest) (0 + i * 1) (ptrs (ps.drop j))).toArray 113 (0, 0)) := heap_setCellsT _ _ w.drew _ h
  have hm1 : Mod [blk] w (w.drew.setCells blk (0 + i * 1) (ptrs (ps.drop j))) := (Mod.drew w).trans (mod_setCellsT _ _ _)
  have e1 : setLT (ptrs ps ++ rest) (0 + i * 1) (ptrs (ps.drop j)) = ptrs (ps.take i ++ ps.drop j) ++ (ptrs (ps.drop (i + (n - j))) ++ rest) := by
    rw [setLT_eq _ _ _ (by rw [hlen, hsize]; omega), hlen]
    rw [List.take_append_of_le_length (by simp [ptrs]; omega), List.drop_append_of_le_length (by simp [ptrs]; omega)]
    simp [ptrs, List.map_take, List.map_drop]
  rw [e1] at hW1
  have hl2 : (ptrs (ps.take i ++ ps.drop j)).length = i + (n - j) := by simp [ptrs]; omega
  have hl3 : (ptrs (ps.drop (i + (n - j)))).length = j - i := by simp [ptrs]; omega
  obtain ⟨W1, hWe⟩ : ∃ W1, W1 = w.drew.setCells blk (0 + i * 1) (ptrs (ps.drop j)) := ⟨_, rfl⟩
  rw [← hWe] at hW1 hm1
  have hcl : ∀ ty, (Builtin.clear_ #[123] ty #[.slice (some ⟨blk, i + (n - j), none⟩) (n - (i + (n - j))) (cap - (i + (n - j)))]).run Tryz.prog W1 = .ok (.tuple #[]) (W1.setCells blk (i + (n - j)) (List.replicate (n - (i + (n - j))) (.pointer none))) := fun ty =>
    Lib.run_clear_slice W1 _ _ ty _ Tryz.underlying123 zeroT rfl rfl blk (i + (n - j)) _ _ (by omega) (fun t ht => by
      rw [cell_of_block hW1]
      have hlt : i + (n - j) + t < (ptrs (ps.take i ++ ps.drop j) ++ (ptrs (ps.drop (i + (n - j))) ++ rest)).length := by
        rw [List.length_append, List.length_append, hl2, hl3]; omega
      simp only [List.getElem?_toArray, List.getElem?_eq_getElem hlt, Option.isSome_some]) (fun t _ => frozen_of_block hW1 _)
  have hW2 := heap_setCellsT (List.replicate (n - (i + (n - j))) (.pointer none)) (i + (n - j)) W1 _ hW1
  have hm2 : Mod [blk] w (W1.setCells blk (i + (n - j)) (List.replicate (n - (i + (n - j))) (.pointer none))) := hm1.trans (mod_setCellsT _ _ _)
  have e2 : setLT (ptrs (ps.take i ++ ps.drop j) ++ (ptrs (ps.drop (i + (n - j))) ++ rest)) (i + (n - j)) (List.replicate (n - (i + (n - j))) (.pointer none)) = ptrs (ps.take i ++ ps.drop j) ++ (List.replicate (j - i) (.pointer none) ++ rest) := by
    rw [setLT_mid _ _ _ _ _ hl2.symm (by rw [hl3, List.length_replicate]; omega), show n - (i + (n - j)) = j - i by omega]
  rw [e2] at hW2
  have hspare : Hid (∀ t, t < (ptrs (ps.drop j)).length → (w.drew.cell? ⟨blk, 0 + i * 1 + t, none⟩).isSome = true ∧ w.drew.frozen? ⟨blk, 0 + i * 1 + t, none⟩ = false) := by
    intro t ht
    rw [hlen] at ht
    refine ⟨?_, frozen_of_block (w := w.drew) h _⟩
    have : w.drew.cell? ⟨blk, 0 + i * 1 + t, none⟩ = w.cell? ⟨blk, i + t, none⟩ := by rw [Nat.mul_one, Nat.zero_add]; rfl
    rw [this, rowO_cell h (i + t) (by omega)]
    rfl
  have HW := hideIt hWe
  have HF := hideIt (And.intro hm2 hW2)
  have s1 : Hid ((ptrs (ps.drop j)).length = (n - j) * 1) := by rw [Nat.mul_one]; exact hlen
  have hic : i ≤ cap := by omega
  have hjc : j ≤ cap := by omega
  have hin : i ≤ n := by omega
  have i1 : (i : Int) < (j : Int) := by omega
  have i2 : (j : Int) ≤ (n : Int) := by omega
  have i3 : (n : Int) ≤ (cap : Int) := by omega
  have i4 : ¬ i = j := by omega
  clear hWe hW1 hm1 e1 e2 hm2 hW2 h hl2 hl3 hsize
  go_enter Tryz.func97, Tryz.ntmps97
  go_wp2_with fail
  go_region_law (refine step_append_room rfl (.tmp 22) (.tmp 25) 123 rfl 113 i0 1 Tryz.underlying123 hi hz1 blk 0 i cap (by simp [Act.eval, Act.put]) A (n - j) (cap - j) (ptrs (ps.drop j)) (by simp [Act.eval, Act.put]) s1.out hsrc.out (ptrs_oneT _) (by omega) hspare.out ?_; rw [← HW.out])
  go_wp2
  go_ret
  exact ⟨by rw [show n - (j - i) = i + (n - j) by omega]; rfl, HF.out.1, HF.out.2⟩

end Go.Proofs.YthimaoipogocfaaGreat

namespace Go.Proofs.YthimaoipogocfaaGreat
open Go.RowKit
attribute [local go_sem] run_store_f32 run_neg_inf

theorem owns_rowT {w : World} {base : Nat} {T : TypeId} {g n c : Nat} {ps : List Nat} (h : w.ownsRow base T 1 (.slice (some ⟨g, 0, none⟩) n c) n (ptrs ps)) :
    ∃ rest, w.heap[g]? = some (rowO ps rest T) ∧ n ≤ c ∧ base ≤ g ∧ ps.length = n ∧ (ptrs ps ++ rest).length = c ∧ c ≤ maxLen := by
  rcases h.2 with ⟨h0, _⟩ | ⟨g', cap, cur, hv, hb, hg, hnc, hcm, hcs, htake⟩
  · cases h0
  · simp only [Value.slice.injEq, Option.some.injEq, Addr.mk.injEq, and_true, true_and] at hv
    obtain ⟨rfl, rfl⟩ := hv
    have hl : ps.length = n := by have := h.1; simpa [ptrs] using this
    refine ⟨cur.toList.drop n, ?_, hnc, hb, hl, ?_, hcm⟩
    · rw [hg]
      unfold rowO
      rw [← htake, Nat.mul_one, List.take_append_drop]
    · rw [← htake, Nat.mul_one, List.take_append_drop]
      simpa using hcs

theorem row_ownsT {w : World} {base : Nat} {T : TypeId} {g c : Nat} {ps : List Nat} {rest : List Value} (h : w.heap[g]? = some (rowO ps rest T)) (hb : base ≤ g) (hs : (ptrs ps ++ rest).length = c) (hc : c ≤ maxLen) :
    w.ownsRow base T 1 (.slice (some ⟨g, 0, none⟩) ps.length c) ps.length (ptrs ps) := by
  refine ⟨by simp [ptrs], .inr ⟨g, c, (ptrs ps ++ rest).toArray, rfl, hb, h, ?_, hc, by simpa using hs, ?_⟩⟩
  · rw [← hs]; simp [ptrs]
  · rw [Nat.mul_one]
    exact List.take_left' (by simp [ptrs])

def boxed (bx : Nat → Bx) (ps : List Nat) : List (Nat × Bx) := ps.map fun p => (p, bx p)

theorem rowBxT {w : World} {g : Nat} {T : TypeId} {ps : List Nat} {rest : List Value} {U : TypeId} {bx : Nat → Bx} (h : w.heap[g]? = some (rowO ps rest U)) (hB : ∀ p ∈ ps, HasBx w p T (bx p) ∧ (bx p).Ok) : RowBx w g 0 T (boxed bx ps) := by
  refine ⟨fun j x hx => ?_, fun x hx => ?_⟩
  · simp only [boxed, List.getElem?_map, Option.map_eq_some_iff] at hx
    obtain ⟨p, hp, rfl⟩ := hx
    rw [Nat.zero_add]
    exact rowO_get h hp
  · obtain ⟨p, hp, rfl⟩ := List.mem_map.1 hx
    exact ⟨(hB p hp).1, (hB p hp).2.num⟩

theorem boxed_ok {bx : Nat → Bx} {ps : List Nat} (h : ∀ p ∈ ps, (bx p).Ok) : ∀ x ∈ boxed bx ps, x.2.Ok := fun x hx => by
  obtain ⟨p, hp, rfl⟩ := List.mem_map.1 hx
  exact h p hp

/-- two new rows, that share what the one held -/
def PartsPost (T : TypeId) (ps : List Nat) (lo : Nat) (own : List Nat) (w : World) (e : Ending) (w' : World) : Prop :=
  ∃ g1 c1 g2 c2 l1 l2, e = .returned (.tuple #[.slice (some ⟨g1, 0, none⟩) l1.length c1, .slice (some ⟨g2, 0, none⟩) l2.length c2]) ∧ (l1 ++ l2).Perm ps ∧ lo ≤ l1.length ∧ lo ≤ l2.length ∧ Mod own w w' ∧
    w'.ownsRow 0 T 1 (.slice (some ⟨g1, 0, none⟩) l1.length c1) l1.length (ptrs l1) ∧ w'.ownsRow w.heap.size T 1 (.slice (some ⟨g2, 0, none⟩) l2.length c2) l2.length (ptrs l2) ∧ g1 ≠ g2 ∧ (g1 ∈ own ∨ w.heap.size ≤ g1)

set_option maxRecDepth 100000 in
set_option maxHeartbeats 400000 in
theorem partsT {w : World} {blk n cap k lo : Nat} {ps : List Nat} (h : w.ownsRow 0 113 1 (.slice (some ⟨blk, 0, none⟩) n cap) n (ptrs ps)) (hn2 : n ≤ 1000) (hlo : 0 < lo) (hk : lo ≤ k) (hk2 : k ≤ n - lo) (hk3 : lo ≤ n) :
    Calls Tryz.prog 174 #[.slice (some ⟨blk, 0, none⟩) n cap, .int .i64 k] w (PartsPost 113 ps lo [blk] w) := by
  obtain ⟨rest, hr, hnc, _, hl, hsz, hcm⟩ := owns_rowT h
  have i1 : (k : Int) < (n : Int) := by omega
  have i2 : (n : Int) ≤ (cap : Int) := by omega
  have i4 : ¬ cap = k := by omega
  have i5 : k ≤ cap := by omega
  have i6 : k ≤ n := by omega
  have hl2 : (ps.drop k).length = n - k := by simp; omega
  have HC := hideIt (cloneT (w := w) (blk := blk) (off := k) (m := n - k) (c := cap - k) (ps := ps.drop k) (fun j p hp => by
    rw [List.getElem?_drop] at hp
    exact rowO_get hr hp) hl2 (by omega) (by omega))
  have HR := hideIt hr
  have HSZ := hideIt (And.intro hsz hcm)
  clear hr h hsz hcm
  go_enter Tryz.func174, Tryz.ntmps174
  go_wp2_with fail
  refine HC.out.mono ?_
  rintro e w1 ⟨g, c, rfl, hm1, ho1⟩
  rw [hl2] at ho1
  simp only [hl2]
  have hr1 := (hm1.block blk (lt_of_block HR.out) (by simp)).trans HR.out
  have HD := hideIt (deleteT (w := w1) (cap := cap) (i := k) (j := n) hr1 hl hn2 hnc (by omega) (Nat.le_refl _))
  have hgw := (ho1.lt g rfl).1
  have hgb : g ≠ blk := by have := lt_of_block HR.out; omega
  clear HC
  go_wp2_with fail
  refine HD.out.mono ?_
  rintro e w2 ⟨rfl, hm2, hr2⟩
  have ho2 := owns_kept ho1 hm2 (fun x hx => by simp [Value.ownBlock] at hx; subst hx; simpa using hgb)
  have hm : Mod [blk] w w2 := hm1.nil.trans hm2
  have hd : ps.drop n = [] := by rw [← hl]; exact List.drop_length
  rw [hd, List.append_nil] at hr2
  have hlt : (ps.take k).length = n - (n - k) := by simp; omega
  have ho3 := row_ownsT (base := 0) (c := cap) hr2 (Nat.zero_le _) (by
    have := HSZ.out.1
    simp [ptrs] at this ⊢
    omega) HSZ.out.2
  have hfin : PartsPost 113 ps lo [blk] w (.returned (.tuple #[.slice (some ⟨blk, 0, none⟩) (n - (n - k)) cap, .slice (some ⟨g, 0, none⟩) (n - k) c])) w2 := by
    refine ⟨blk, cap, g, c, ps.take k, ps.drop k, by rw [hlt, hl2], by rw [List.take_append_drop], by omega, by omega, hm, ho3, by rw [hl2]; exact ho2, fun e => hgb e.symm, .inl (by simp)⟩
  have HF := hideIt hfin
  clear HD HR HSZ hr1 hr2 ho1 ho2 ho3 hm1 hm2 hm hfin
  go_wp2
  go_ret2
  exact HF.out

end Go.Proofs.YthimaoipogocfaaGreat

