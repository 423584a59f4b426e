import Derived.Test.YthimaoipogocfaaGreatM03
import Derived.Test.YthimaoipogocfaaGreatJ12
import Derived.Test.YthimaoipogocfaaGreatJ13
namespace Go.Proofs.YthimaoipogocfaaGreat
open Go.RowKit
attribute [local go_sem] run_store_f32 run_neg_inf

/-! ### how far a place is -/
def besI (n low high : Int) : Int := max (low - n) (max (n - high) 0)
def farI (x y x0 y0 x1 y1 : Int) : Int := besI x x0 x1 * besI x x0 x1 + besI y y0 y1 * besI y y0 y1
def Near9 (n : Int) : Prop := -1000000000 ≤ n ∧ n ≤ 1000000000

theorem max2_int {P : Program} (a b : Int) (w : World) : (Builtin.max2 (.int .i64 a) (.int .i64 b)).run P w = .ok (.int .i64 (max a b)) w := by
  unfold Builtin.max2
  by_cases h : a < b
  · simp [h, Int.max_eq_right (Int.le_of_lt h)]
  · simp [h, Int.max_eq_left (by omega : b ≤ a)]
theorem run_max3 {P : Program} (ts : Array TypeId) (t : TypeId) (a b c : Int) (w : World) : (Builtin.max_ ts t #[.int .i64 a, .int .i64 b, .int .i64 c]).run P w = .ok (.int .i64 (max (max a b) c)) w := by
  simp [Builtin.max_, max2_int]

set_option maxRecDepth 100000 in
theorem beside_any {n low high : Int} (hn : Near9 n) (hl : Near9 low) (hh : Near9 high) (w : World) : Calls Tryz.prog 148 #[.int .i64 n, .int .i64 low, .int .i64 high] w (fun e w' => e = .returned (.int .i64 (besI n low high)) ∧ w' = w) := by
  obtain ⟨n1, n2⟩ := hn
  obtain ⟨l1, l2⟩ := hl
  obtain ⟨h1, h2⟩ := hh
  have hmx := run_max3 (P := Tryz.prog) #[3, 3, 3] 3 (low - n) (n - high) 0
  go_enter Tryz.func148, Tryz.ntmps148
  go_wp2
  go_ret
  exact ⟨rfl, rfl⟩

theorem besI_near {n low high : Int} (hn : Near9 n) (hl : Near9 low) (hh : Near9 high) : 0 ≤ besI n low high ∧ besI n low high ≤ 2000000000 := by
  unfold Near9 at *
  unfold besI
  omega
theorem sq_near {a : Int} (h0 : 0 ≤ a) (h : a ≤ 2000000000) : 0 ≤ a * a ∧ a * a ≤ 4000000000000000000 := ⟨Int.mul_nonneg h0 h0, by
  have := Int.mul_le_mul h h h0 (by omega : (0 : Int) ≤ 2000000000)
  omega⟩
theorem besI_mono {n l h l' h' : Int} (hl : l' ≤ l) (hh : h ≤ h') : besI n l' h' ≤ besI n l h := by
  unfold besI
  omega
theorem besI_pos (n l h : Int) : 0 ≤ besI n l h := by unfold besI; omega
theorem farI_mono {x y a0 a1 a2 a3 b0 b1 b2 b3 : Int} (h0 : b0 ≤ a0) (h1 : b1 ≤ a1) (h2 : a2 ≤ b2) (h3 : a3 ≤ b3) : farI x y b0 b1 b2 b3 ≤ farI x y a0 a1 a2 a3 := by
  unfold farI
  have k1 := besI_mono (n := x) h0 h2
  have k2 := besI_mono (n := y) h1 h3
  exact Int.add_le_add (Int.mul_le_mul k1 k1 (besI_pos _ _ _) (besI_pos _ _ _)) (Int.mul_le_mul k2 k2 (besI_pos _ _ _) (besI_pos _ _ _))

set_option maxRecDepth 100000 in
set_option maxHeartbeats 400000 in
theorem far_any {x y x0 y0 x1 y1 : Int} (hx : Near9 x) (hy : Near9 y) (h0 : Near9 x0) (h1 : Near9 y0) (h2 : Near9 x1) (h3 : Near9 y1) (w : World) : Calls Tryz.prog 112 #[R4 x0 y0 x1 y1, .int .i64 x, .int .i64 y] w (IntPost (farI x y x0 y0 x1 y1) w) := by
  obtain ⟨a1, a2⟩ := besI_near hx h0 h2
  obtain ⟨b1, b2⟩ := besI_near hy h1 h3
  obtain ⟨a3, a4⟩ := sq_near a1 a2
  obtain ⟨b3, b4⟩ := sq_near b1 b2
  have HE := hideIt (show farI x y x0 y0 x1 y1 = besI x x0 x1 * besI x x0 x1 + besI y y0 y1 * besI y y0 y1 from rfl)
  go_enter Tryz.func112, Tryz.ntmps112
  go_wp2_with fail
  go_region_held (fun w' => w'.cell? ⟨w.heap.size, 0, none⟩ = some (.int .i64 x0) ∧ w'.cell? ⟨w.heap.size, 1, none⟩ = some (.int .i64 y0) ∧ w'.cell? ⟨w.heap.size, 2, none⟩ = some (.int .i64 x1) ∧ w'.cell? ⟨w.heap.size, 3, none⟩ = some (.int .i64 y1))
    ((go_keep))
    ((go_at_call 148; refine (beside_any (by assumption) (by assumption) (by assumption) _).mono ?_; rintro e w' ⟨rfl, rfl⟩))
  all_goals
    go_wp2
    go_ret
    exact ⟨by rw [HE.out]; rfl, (Mod.alloc _ _).trans (Mod.drew _)⟩

def bxFar (x y : Int) (b : Bx) : Int := farI x y (truncW b.x0) (truncW b.y0) (truncW b.x1) (truncW b.y1)
def tgFar (x y : Int) (t : Tg) : Int := farI x y t.x0 t.y0 t.x1 t.y1

set_option maxRecDepth 100000 in
theorem bxFar_any {x y : Int} {b : Bx} (hx : Near9 x) (hy : Near9 y) (hb : b.Ok) (w : World) : Calls Tryz.prog 113 #[bxV b, .int .i64 x, .int .i64 y] w (IntPost (bxFar x y b) w) := by
  have HW := hideIt (whole_any hb)
  have HFR := hideIt (far_any hx hy hb.out.1.2 hb.out.2.1.2 hb.out.2.2.1.2 hb.out.2.2.2.2)
  have HE := hideIt (show bxFar x y b = farI x y (truncW b.x0) (truncW b.y0) (truncW b.x1) (truncW b.y1) from rfl)
  generalize farI x y (truncW b.x0) (truncW b.y0) (truncW b.x1) (truncW b.y1) = d at *
  clear hx hy hb
  go_enter Tryz.func113, Tryz.ntmps113
  go_wp2_with fail
  refine (HW.out _).mono ?_
  rintro e w1 ⟨rfl, hm⟩
  go_wp2_with fail
  refine (HFR.out _).mono ?_
  rintro e w2 ⟨rfl, hm2⟩
  have HM := hideIt (((Mod.alloc _ _).trans hm).trans hm2)
  clear hm hm2
  go_wp2
  go_ret
  exact ⟨by rw [HE.out]; rfl, HM.out⟩

/-- a box is no farther than what lies in it -/
theorem bxFar_le {x y : Int} {t : Tg} {b : Bx} (hr : RectOk t.x0 t.y0 t.x1 t.y1) (hin : t.bx.In b) : bxFar x y b ≤ tgFar x y t := by
  obtain ⟨⟨r1, r2, r3⟩, r4, r5, r6⟩ := hr
  obtain ⟨i1, i2, i3, i4⟩ := hin
  have d0 := (down_is t.x0 r1 (by omega)).2.1
  have d1 := (down_is t.y0 r4 (by omega)).2.1
  have d2 := (up_is t.x1 (by omega) r3).2.1
  have d3 := (up_is t.y1 (by omega) r6).2.1
  exact farI_mono (Int.le_trans (trunc_mono i1) d0) (Int.le_trans (trunc_mono i2) d1) (Int.le_trans d2 (trunc_mono i3)) (Int.le_trans d3 (trunc_mono i4))

end Go.Proofs.YthimaoipogocfaaGreat

namespace Go.Proofs.YthimaoipogocfaaGreat
open Go.RowKit
attribute [local go_sem] run_store_f32 run_neg_inf

/-! ### open: what a node holds waits -/
def tgW (x y : Int) (t : Tg) : Wt := ⟨t.id, tgFar x y t, none, [t]⟩
def kdW (x y : Int) (c : Kd) : Wt := ⟨-1, bxFar x y c.bx, some c.p, c.ts⟩

structure Opened (qb : Nat) (es l : List Wt) (G : List Nat) (w0 wr : World) : Prop where
  out : ∃ l' v', QHeap wr qb l' v' ∧ l'.Perm (es ++ l) ∧ (∀ x ∈ v'.ownBlock.toList, x ∈ G ∨ w0.heap.size ≤ x) ∧ Mod G w0 wr
def OpenPost (qb : Nat) (es l : List Wt) (G : List Nat) (w : World) (e : Ending) (w' : World) : Prop := e = .returned (.tuple #[]) ∧ Opened qb es l G w w'

theorem Opened.refl {qb : Nat} {l : List Wt} {v : Value} {w : World} (h : QHeap w qb l v) : Opened qb [] l (qb :: v.ownBlock.toList) w w := ⟨l, v, h, List.Perm.refl _, fun x hx => .inl (by simp [hx]), Mod.refl _ _⟩
theorem Opened.mod {qb : Nat} {es l : List Wt} {G : List Nat} {w0 wr : World} (h : Opened qb es l G w0 wr) : Mod G w0 wr := by
  obtain ⟨_, _, _, _, _, h⟩ := h.out
  exact h
theorem Opened.keep {qb : Nat} {es l : List Wt} {G : List Nat} {w0 wr w' : World} (h : Opened qb es l G w0 wr) (hm : Mod [] wr w') : Opened qb es l G w0 w' := by
  obtain ⟨l', v', h1, h2, h3, h4⟩ := h.out
  exact ⟨l', v', h1.keep hm, h2, h3, h4.trans hm.nil⟩
/-- one more waits -/
theorem Opened.push {qb : Nat} {es l : List Wt} {G : List Nat} {w0 wr : World} (h : Opened qb es l G w0 wr) (hG : qb ∈ G) (e0 : Wt) (hl : es.length + l.length ≤ 90000) :
    Calls Tryz.prog 111 #[qI qb, wtI e0] wr (OpenPost qb (es ++ [e0]) l G w0) := by
  obtain ⟨l', v', h1, h2, h3, h4⟩ := h.out
  have hlen : l'.length ≤ 90000 := by rw [h2.length_eq, List.length_append]; omega
  refine (hpush_any h1 e0 hlen).mono ?_
  rintro e w1 ⟨rfl, l1, v1, k1, k2, k3, k4⟩
  have hs := h4.size
  refine ⟨rfl, l1, v1, k1, ?_, fun x hx => ?_, h4.then k4 (fun x hx => ?_)⟩
  · refine k2.trans ((h2.cons e0).trans ?_)
    rw [List.append_assoc]
    exact List.perm_middle.symm
  · rcases k3 x hx with h | h
    · exact h3 x h
    · exact .inr (by omega)
  · rcases List.mem_cons.1 hx with rfl | hx
    · exact .inl hG
    · exact h3 x hx

set_option maxRecDepth 100000 in
set_option maxHeartbeats 2000000 in
theorem open_leaf {w : World} {x y : Int} (hx : Near9 x) (hy : Near9 y) {k : Kd} {r cc : Nat} (hl : LeafAt w k (.slice (some ⟨r, 0, none⟩) k.n cc)) {qb : Nat} {l : List Wt} {v : Value} (hq : QHeap w qb l v) (hG : ∀ z ∈ k.F, z ∉ qb :: v.ownBlock.toList) (hn : k.n + l.length ≤ 90000) :
    Calls Tryz.prog 75 #[.pointer (some ⟨qb, 0, none⟩), .pointer (some ⟨k.p, 0, none⟩), .int .i64 x, .int .i64 y] w (OpenPost qb (k.ts.map (tgW x y)) l (qb :: v.ownBlock.toList) w) := by
  obtain ⟨c4, c5⟩ := cell_ndO hl.here
  have HS0 := hideIt (Opened.refl hq)
  have HQG := hideIt (show qb ∈ qb :: v.ownBlock.toList by simp)
  have HL := hideIt hl
  have hlen := hl.len
  generalize qb :: v.ownBlock.toList = G at *
  have HG := hideIt hG
  clear hl hq hG
  go_enter Tryz.func75, Tryz.ntmps75
  go_wp2_with fail
  go_loopw [17] (fun i wr => ∃ kk : Nat, kk ≤ k.n ∧ i = .int .i64 kk ∧ Hid (Opened qb ((k.ts.take kk).map (tgW x y)) l G w wr)) (fun i _ => k.n - (intOf i).toNat)
  case atStart => exact ⟨0, by omega, rfl, hideIt (by simpa using HS0.out)⟩
  case round =>
    clear c4 c5
    obtain ⟨kk, hkk, rfl, hR⟩ := hrel
    by_cases hlt : kk < k.n
    · have hlt' : (kk : Int) < (k.n : Int) := by omega
      have hkl : kk < k.ts.length := by omega
      have hmr := hR.out.mod
      have hl' := HL.out.kept hmr HG.out
      obtain ⟨rest, hro, _, _, _, _, _⟩ := owns_rowT hl'.row
      have htm : k.ts[kk] ∈ k.ts := List.getElem_mem hkl
      have hstep : k.ts.take (kk + 1) = k.ts.take kk ++ [k.ts[kk]] := List.take_succ_eq_append_getElem hkl
      have cI := rowO_get hro (j := kk) (p := k.ts[kk].blk) (by simp [tblks, hkl])
      have hT := HL.out.things _ htm
      have hbF : k.ts[kk].blk ∉ G := HG.out _ (by
        rw [HL.out.foot]
        exact List.mem_cons_of_mem _ (List.mem_append_right _ (List.mem_map.2 ⟨_, htm, rfl⟩)))
      have HST := hideIt hstep
      have hes : ((k.ts.take kk).map (tgW x y)).length ≤ kk := by simp; omega
      have HES := hideIt hes
      clear hmr hl' hro htm hstep hes
      generalize k.ts[kk] = t at *
      generalize hge : (k.ts.take kk).map (tgW x y) = es at *
      have HGE := hideIt hge
      obtain ⟨⟨r1, r2, r3⟩, r4, r5, r6⟩ := hT.rect
      have n0 : Near9 t.x0 := ⟨r1, by omega⟩
      have n1 : Near9 t.y0 := ⟨r4, by omega⟩
      have n2 : Near9 t.x1 := ⟨by omega, r3⟩
      have n3 : Near9 t.y1 := ⟨by omega, r6⟩
      have HKEEP := hideIt (show ∀ w', Mod G w w' → w'.cell? ⟨t.blk, 4, none⟩ = some (.int .i64 t.id) ∧ w'.cell? ⟨t.blk, 5, none⟩ = some (.int .i64 t.x0) ∧ w'.cell? ⟨t.blk, 6, none⟩ = some (.int .i64 t.y0) ∧ w'.cell? ⟨t.blk, 7, none⟩ = some (.int .i64 t.x1) ∧ w'.cell? ⟨t.blk, 8, none⟩ = some (.int .i64 t.y1) from fun w' hm => by
        have hh := (hT.kept hm hbF).here
        refine ⟨?_, ?_, ?_, ?_, ?_⟩ <;> rw [cell_of_block hh] <;> rfl)
      have HPU := hideIt (show ∀ W, Opened qb es l G w W → Calls Tryz.prog 111 #[qI qb, .iface 138 (.agg #[.int .i64 t.id, .int .i64 (farI x y t.x0 t.y0 t.x1 t.y1), .pointer none])] W (OpenPost qb (es ++ [tgW x y t]) l G w) from fun W h => Opened.push h HQG.out (tgW x y t) (by have := HES.out; omega))
      clear r1 r2 r3 r4 r5 r6 hT hbF hge
      go_wp2_with fail
      go_region_held (fun w' => w'.cell? ⟨t.blk, 4, none⟩ = some (.int .i64 t.id) ∧ w'.cell? ⟨t.blk, 5, none⟩ = some (.int .i64 t.x0) ∧ w'.cell? ⟨t.blk, 6, none⟩ = some (.int .i64 t.y0) ∧ w'.cell? ⟨t.blk, 7, none⟩ = some (.int .i64 t.x1) ∧ w'.cell? ⟨t.blk, 8, none⟩ = some (.int .i64 t.y1))
        ((first
          | exact HKEEP.out _ (hR.out.mod.trans (Mod.drew _))
          | exact HKEEP.out _ (hR.out.mod.trans ((Mod.drew _).trans hm2).nil)
          | exact HKEEP.out _ hop.mod))
        ((first
          | (go_at_call 112; refine (far_any (by assumption) (by assumption) (by assumption) (by assumption) (by assumption) (by assumption) _).mono ?_; rintro e w2 ⟨rfl, hm2⟩)
          | (go_at_call 111; refine (HPU.out _ (hR.out.keep ((Mod.drew _).trans hm2))).mono ?_; rintro e w3 ⟨rfl, hop⟩)))
      all_goals
        have HF := hideIt hop
        clear hop hm2 cI n0 n1 n2 n3
        go_wp2_with fail
        go_roundw
        case rel => exact ⟨kk + 1, by omega, by go_num, hideIt (by rw [HST.out, List.map_append, HGE.out]; exact HF.out)⟩
        case measure => simp [intOf]; omega
    · have hkn : kk = k.n := by omega
      subst hkn
      obtain ⟨c4, c5⟩ := cell_ndO (HL.out.kept hR.out.mod HG.out).here
      have hall : k.ts.take k.n = k.ts := by rw [← hlen]; exact List.take_length
      rw [hall] at hR
      clear hall hlt
      go_wp2_with fail
      go_loopw [44] (fun i w2 => i = .int .i64 0 ∧ w2 = wr) (fun _ _ => 0)
      case atStart => exact ⟨rfl, rfl⟩
      case round =>
        obtain ⟨rfl, rfl⟩ := hrel
        go_wp2
        go_end0
        exact ⟨rfl, hR.out⟩

set_option maxRecDepth 100000 in
set_option maxHeartbeats 2000000 in
theorem open_inner {w : World} {x y : Int} (hx : Near9 x) (hy : Near9 y) {fan lo h : Nat} {k : Kd} {ks : List Kd} {r cc : Nat} (h0 : 0 < lo) (hl : InnerAt w k (.slice (some ⟨r, 0, none⟩) k.n cc) ks) (hK : ∀ c ∈ ks, NodeAt w fan lo h c ∧ lo ≤ c.n ∧ c.n ≤ fan) {qb : Nat} {l : List Wt} {v : Value} (hq : QHeap w qb l v) (hG : ∀ z ∈ k.F, z ∉ qb :: v.ownBlock.toList) (hn : k.n + l.length ≤ 90000) :
    Calls Tryz.prog 75 #[.pointer (some ⟨qb, 0, none⟩), .pointer (some ⟨k.p, 0, none⟩), .int .i64 x, .int .i64 y] w (OpenPost qb (ks.map (kdW x y)) l (qb :: v.ownBlock.toList) w) := by
  obtain ⟨c4, c5⟩ := cell_ndO hl.here
  have HS0 := hideIt (Opened.refl hq)
  have HQG := hideIt (show qb ∈ qb :: v.ownBlock.toList by simp)
  have HL := hideIt hl
  have hlen := hl.len
  have HK := hideIt hK
  have HLO := hideIt h0
  generalize qb :: v.ownBlock.toList = G at *
  have HG := hideIt hG
  clear hl hq hG hK h0
  go_enter Tryz.func75, Tryz.ntmps75
  go_wp2_with fail
  go_loopw [17] (fun i w2 => i = .int .i64 0 ∧ w = w2) (fun _ _ => 0)
  case atStart => exact ⟨rfl, rfl⟩
  case round =>
    obtain ⟨rfl, rfl⟩ := hrel
    go_wp2_with fail
    go_loopw [44] (fun i wr => ∃ kk : Nat, kk ≤ k.n ∧ i = .int .i64 kk ∧ Hid (Opened qb ((ks.take kk).map (kdW x y)) l G w wr)) (fun i _ => k.n - (intOf i).toNat)
    case atStart => exact ⟨0, by omega, rfl, hideIt (by simpa using HS0.out)⟩
    case round =>
      clear c4 c5
      obtain ⟨kk, hkk, rfl, hR⟩ := hrel
      by_cases hlt : kk < k.n
      · have hlt' : (kk : Int) < (k.n : Int) := by omega
        have hkl : kk < ks.length := by omega
        have hmr := hR.out.mod
        have hl' := HL.out.kept hmr HG.out
        obtain ⟨rest, hro, hnc, _, _, _, hcm⟩ := owns_rowT hl'.row
        have hbig : k.n ≤ 9223372036854775807 := by unfold maxLen at hcm; omega
        clear hnc hcm
        have htm : ks[kk] ∈ ks := List.getElem_mem hkl
        have hstep : ks.take (kk + 1) = ks.take kk ++ [ks[kk]] := List.take_succ_eq_append_getElem hkl
        have cI := rowO_get hro (j := kk) (p := ks[kk].p) (by simp [kblks, hkl])
        have hFk := HL.out.kid_F htm
        have hT := (HK.out _ htm).1.kept hmr (fun x hx => HG.out x (hFk x hx))
        have hok : ks[kk].bx.Ok := KidOk.bxok (HK.out _ htm) HLO.out
        obtain ⟨t0, t1, t2, t3⟩ := (show Cells4 wr ks[kk].p ks[kk].bx from by
          obtain ⟨rs, hh⟩ := hT.hasBx
          exact cell_bxC hh)
        have HST := hideIt hstep
        have hes : ((ks.take kk).map (kdW x y)).length ≤ kk := by simp; omega
        have HES := hideIt hes
        have HBF := hideIt (fun W => bxFar_any (x := x) (y := y) hx hy hok W)
        clear hmr hl' hro htm hstep hes hT hFk hok
        generalize ks[kk] = t at *
        generalize hge : (ks.take kk).map (kdW x y) = es at *
        have HGE := hideIt hge
        have HPU := hideIt (show ∀ W, Opened qb es l G w W → Calls Tryz.prog 111 #[qI qb, .iface 138 (.agg #[.int .i64 (-1), .int .i64 (bxFar x y t.bx), .pointer (some ⟨t.p, 0, none⟩)])] W (OpenPost qb (es ++ [kdW x y t]) l G w) from fun W h => Opened.push h HQG.out (kdW x y t) (by have := HES.out; omega))
        clear hge
        go_wp2_with fail
        refine (HBF.out _).mono ?_
        rintro e w2 ⟨rfl, hm2⟩
        have HM2 := hideIt hm2
        clear hm2 t0 t1 t2 t3 cI
        go_wp2_with fail
        refine (HPU.out _ (hR.out.keep HM2.out)).mono ?_
        rintro e w3 ⟨rfl, hop⟩
        have HF := hideIt hop
        clear hop
        go_wp2_with fail
        go_roundw
        case rel => exact ⟨kk + 1, by omega, by go_num, hideIt (by rw [HST.out, List.map_append, HGE.out]; exact HF.out)⟩
        case measure => simp [intOf]; omega
      · have hkn : kk = k.n := by omega
        subst hkn
        have hall : ks.take k.n = ks := by rw [← hlen, List.take_length]
        rw [hall] at hR
        clear hall hlt
        go_wp2
        go_end0
        exact ⟨rfl, hR.out⟩

set_option maxRecDepth 100000 in
theorem open_none {w : World} {x y : Int} {k : Kd} (hh : w.heap[k.p]? = some (ndO k.bx (.slice none 0 0) (.slice none 0 0))) {qb : Nat} {l : List Wt} {v : Value} (hq : QHeap w qb l v) :
    Calls Tryz.prog 75 #[.pointer (some ⟨qb, 0, none⟩), .pointer (some ⟨k.p, 0, none⟩), .int .i64 x, .int .i64 y] w (OpenPost qb [] l (qb :: v.ownBlock.toList) w) := by
  obtain ⟨c4, c5⟩ := cell_ndO hh
  have HS0 := hideIt (Opened.refl hq)
  clear hh hq
  go_enter Tryz.func75, Tryz.ntmps75
  go_wp2_with fail
  go_loopw [17] (fun i w2 => i = .int .i64 0 ∧ w2 = w) (fun _ _ => 0)
  case atStart => exact ⟨rfl, rfl⟩
  case round =>
    obtain ⟨rfl, rfl⟩ := hrel
    go_wp2_with fail
    go_loopw [44] (fun i w2 => i = .int .i64 0 ∧ w2 = wr) (fun _ _ => 0)
    case atStart => exact ⟨rfl, rfl⟩
    case round =>
      obtain ⟨rfl, rfl⟩ := hrel
      go_wp2
      go_end0
      exact ⟨rfl, HS0.out⟩

end Go.Proofs.YthimaoipogocfaaGreat

namespace Go.Proofs.YthimaoipogocfaaGreat
open Go.RowKit

/-! ### what waits, and what was told: the search's own law -/
inductive Wait (P : Wt → Nat → Prop) : List Wt → Nat → Prop
  | nil : Wait P [] 0
  | cons {e l m n} : P e m → Wait P l n → Wait P (e :: l) (m + n)
theorem Wait.perm {P : Wt → Nat → Prop} {l l' : List Wt} (h : l.Perm l') : ∀ {n}, Wait P l n → Wait P l' n := by
  induction h with
  | nil => exact fun h => h
  | cons x _ ih => intro n h; cases h with | cons h1 h2 => exact .cons h1 (ih h2)
  | swap x y l =>
    intro n h
    cases h with
    | cons h1 h2 =>
      cases h2 with
      | cons h2 h3 => rw [Nat.add_left_comm]; exact .cons h2 (.cons h1 h3)
  | trans _ _ ih1 ih2 => exact fun h => ih2 (ih1 h)
theorem Wait.append {P : Wt → Nat → Prop} {l l' : List Wt} {n n' : Nat} (h : Wait P l n) (h' : Wait P l' n') : Wait P (l ++ l') (n + n') := by
  induction h with
  | nil => simpa using h'
  | cons h1 _ ih => rw [List.cons_append, Nat.add_assoc]; exact .cons h1 ih
theorem Wait.mem {P : Wt → Nat → Prop} {l : List Wt} {n : Nat} (h : Wait P l n) : ∀ e ∈ l, ∃ m, P e m := by
  induction h with
  | nil => intro e he; cases he
  | cons h1 _ ih =>
    intro e he
    rcases List.mem_cons.1 he with rfl | he
    · exact ⟨_, h1⟩
    · exact ih e he
theorem Wait.mono {P Q : Wt → Nat → Prop} {l : List Wt} {n : Nat} (h : Wait P l n) (hpq : ∀ e m, P e m → Q e m) : Wait Q l n := by
  induction h with
  | nil => exact .nil
  | cons h1 _ ih => exact .cons (hpq _ _ h1) ih

def tgH (x y : Int) (t : Tg) : Ht := ⟨t.id, tgFar x y t⟩
structure NdOk (w : World) (fan lo : Nat) (x y : Int) (F : List Nat) (e : Wt) (m h : Nat) (c : Kd) : Prop where
  node : NodeAt w fan lo h c
  foot : ∀ z ∈ c.F, z ∈ F
  nd : e.nd = some c.p
  ts : e.ts = c.ts
  far : ∀ t ∈ c.ts, e.far ≤ tgFar x y t
  ids : ∀ t ∈ c.ts, 0 ≤ t.id
  num : m = (h + 2) * c.ts.length + 1
def WtOk (w : World) (fan lo : Nat) (x y : Int) (F : List Nat) (e : Wt) (m : Nat) : Prop := (∃ t, e = tgW x y t ∧ 0 ≤ t.id ∧ m = 1) ∨ ∃ h c, NdOk w fan lo x y F e m h c
theorem WtOk.kept {w w' : World} {fan lo : Nat} {x y : Int} {F G : List Nat} {e : Wt} {m : Nat} (h : WtOk w fan lo x y F e m) (hm : Mod G w w') (hf : ∀ z ∈ F, z ∉ G) : WtOk w' fan lo x y F e m := by
  rcases h with h | ⟨h, c, k⟩
  · exact .inl h
  · exact .inr ⟨h, c, k.node.kept hm (fun z hz => hf z (k.foot z hz)), k.foot, k.nd, k.ts, k.far, k.ids, k.num⟩

def pend (l : List Wt) : List Tg := l.flatMap (·.ts)
theorem pend_perm {l l' : List Wt} (h : l.Perm l') : (pend l).Perm (pend l') := h.flatMap_right _
theorem pend_append (l l' : List Wt) : pend (l ++ l') = pend l ++ pend l' := by simp [pend]
def NdIds (l : List Wt) : Prop := ∀ e ∈ l, e.nd ≠ none → e.id = -1 ∧ e.ts ≠ []

/-- where a search stands -/
structure Seek (w : World) (fan lo : Nat) (x y : Int) (F : List Nat) (all : List Tg) (hs : List Ht) (l : List Wt) (n : Nat) : Prop where
  wait : Wait (WtOk w fan lo x y F) l n
  ids : NdIds l ∨ ∃ e, l = [e]
  perm : (hs ++ (pend l).map (tgH x y)).Perm (all.map (tgH x y))
  sort : hs.Pairwise (fun a b => hle a b = true)
  below : ∀ a ∈ hs, ∀ b ∈ (pend l).map (tgH x y), hle a b = true

theorem Seek.kept {w w' : World} {fan lo : Nat} {x y : Int} {F G : List Nat} {all : List Tg} {hs : List Ht} {l : List Wt} {n : Nat} (h : Seek w fan lo x y F all hs l n) (hm : Mod G w w') (hf : ∀ z ∈ F, z ∉ G) : Seek w' fan lo x y F all hs l n :=
  ⟨h.wait.mono (fun _ _ k => k.kept hm hf), h.ids, h.perm, h.sort, h.below⟩

theorem ids_rest {l l' : List Wt} {e : Wt} (h : NdIds l ∨ ∃ e, l = [e]) (hp : (e :: l').Perm l) : NdIds l' := by
  rcases h with h | ⟨e', rfl⟩
  · exact fun a ha => h a (hp.mem_iff.1 (by simp [ha]))
  · have : l' = [] := List.eq_nil_of_length_eq_zero (by have := hp.length_eq; simpa using this)
    subst this
    intro a ha
    cases ha

/-- a thing is the nearest of all that wait: it is told -/
theorem Seek.thing {w : World} {fan lo : Nat} {x y : Int} {F : List Nat} {all : List Tg} {hs : List Ht} {l l' : List Wt} {n : Nat} (h : Seek w fan lo x y F all hs l n) (hh : HeapW l l.length) (hp : (wat l 0 :: l').Perm l) (hn : (wat l 0).nd = none) :
    ∃ n', n' < n ∧ Seek w fan lo x y F all (hs ++ [⟨(wat l 0).id, (wat l 0).far⟩]) l' n' := by
  have hwt := h.wait.perm hp.symm
  have hl : ∀ e ∈ l, (wat l 0).le e := fun e he => by
    obtain ⟨k, hk, rfl⟩ := List.getElem_of_mem he
    have := hh.least k hk
    have e1 := wat_get hk
    rw [List.getElem?_eq_getElem hk] at e1
    rw [Option.some.inj e1]
    exact this
  have hids := ids_rest h.ids hp
  generalize wat l 0 = e0 at *
  cases hwt with
  | @cons _ _ m n' h1 h2 =>
    rcases h1 with ⟨t, rfl, ht0, rfl⟩ | ⟨h', c, k⟩
    · have hpp : (pend l).Perm (t :: pend l') := (pend_perm hp).symm
      have hm : ((pend l).map (tgH x y)).Perm (tgH x y t :: (pend l').map (tgH x y)) := hpp.map _
      refine ⟨n', by omega, h2, .inl hids, ?_, ?_, ?_⟩
      · refine List.Perm.trans ?_ h.perm
        rw [List.append_assoc]
        exact (hm.symm).append_left hs
      · refine List.pairwise_append.2 ⟨h.sort, by simp, fun a ha b hb => ?_⟩
        simp only [List.mem_singleton] at hb
        subst hb
        exact h.below a ha _ (hm.mem_iff.2 (by simp [tgH, tgW]))
      · intro a ha b hb
        rcases List.mem_append.1 ha with ha | ha
        · exact h.below a ha b (hm.mem_iff.2 (by simp [hb]))
        · simp only [List.mem_singleton] at ha
          subst ha
          obtain ⟨u, hu, rfl⟩ := List.mem_map.1 hb
          obtain ⟨e, he, hue⟩ := List.mem_flatMap.1 hu
          have hle := hl e (hp.mem_iff.1 (by simp [he]))
          obtain ⟨m, hm⟩ := h2.mem e he
          rcases hm with ⟨t', rfl, _, _⟩ | ⟨h', c, k⟩
          · simp only [tgW, List.mem_singleton] at hue
            subst hue
            rw [hle_iff]
            exact hle
          · obtain ⟨i1, _⟩ := hids e he (by rw [k.nd]; simp)
            rw [k.ts] at hue
            have hf := k.far u hue
            rw [hle_iff]
            unfold Wt.le at hle
            simp only [tgW, tgH] at hle ⊢
            omega
    · rw [k.nd] at hn
      cases hn

/-- what a node leaves when it is opened -/
structure Opens (w : World) (fan lo : Nat) (x y : Int) (F : List Nat) (c : Kd) (h : Nat) (es : List Wt) : Prop where
  wait : ∃ m, m < (h + 2) * c.ts.length + 1 ∧ Wait (WtOk w fan lo x y F) es m
  ids : NdIds es
  all : pend es = c.ts

theorem Seek.total {w : World} {fan lo : Nat} {x y : Int} {F : List Nat} {all : List Tg} {hs : List Ht} {l : List Wt} {n : Nat} (h : Seek w fan lo x y F all hs l n) : hs.length + (pend l).length = all.length := by
  have := h.perm.length_eq
  simpa using this
theorem pend_long {w : World} {fan lo : Nat} {x y : Int} {F : List Nat} {l : List Wt} {n : Nat} (hw : Wait (WtOk w fan lo x y F) l n) (hi : NdIds l) : l.length ≤ (pend l).length := by
  induction hw with
  | nil => simp
  | @cons e l m n h1 h2 ih =>
    have ih := ih (fun a ha => hi a (by simp [ha]))
    have : 1 ≤ e.ts.length := by
      rcases h1 with ⟨t, rfl, _⟩ | ⟨h, c, k⟩
      · simp [tgW]
      · have := (hi e (by simp) (by rw [k.nd]; simp)).2
        cases he : e.ts with
        | nil => exact absurd he this
        | cons _ _ => simp
    simp only [pend, List.flatMap_cons, List.length_append, List.length_cons] at ih ⊢
    omega
theorem Seek.node {w : World} {fan lo : Nat} {x y : Int} {F : List Nat} {all : List Tg} {hs : List Ht} {l l' : List Wt} {n p : Nat} (h : Seek w fan lo x y F all hs l n) (hp : (wat l 0 :: l').Perm l) (hn : (wat l 0).nd = some p) :
    ∃ h' c, NodeAt w fan lo h' c ∧ c.p = p ∧ (∀ z ∈ c.F, z ∈ F) ∧ (∀ t ∈ c.ts, 0 ≤ t.id) ∧ c.ts.length + l'.length ≤ all.length ∧ ∀ es l'', Opens w fan lo x y F c h' es → l''.Perm (es ++ l') → ∃ n', n' < n ∧ Seek w fan lo x y F all hs l'' n' := by
  have hwt := h.wait.perm hp.symm
  have hids := ids_rest h.ids hp
  generalize wat l 0 = e0 at *
  cases hwt with
  | @cons _ _ m n' h1 h2 =>
    rcases h1 with ⟨t, rfl, ht0, rfl⟩ | ⟨h', c, k⟩
    · cases hn
    · refine ⟨h', c, k.node, ?_, k.foot, k.ids, ?_, fun es l'' ho hl => ?_⟩
      · have := k.nd
        rw [hn] at this
        exact (Option.some.inj this).symm
      · have h3 := pend_long h2 hids
        have h4 := (pend_perm hp).length_eq
        have h5 := h.total
        simp only [pend, List.flatMap_cons, List.length_append, k.ts] at h3 h4 h5
        omega
      · obtain ⟨m', hm, hw⟩ := ho.wait
        have hpp : (pend l).Perm (pend l'') := by
          refine (pend_perm hp).symm.trans (List.Perm.trans ?_ (pend_perm hl).symm)
          rw [pend_append, ho.all, ← k.ts]
          exact List.Perm.refl _
        refine ⟨m' + n', ?_, (hw.append h2).perm hl.symm, .inl (fun e he => ?_), ((hpp.map _).symm.append_left hs).trans h.perm, h.sort, fun a ha b hb => h.below a ha b ((hpp.map _).mem_iff.2 hb)⟩
        · have := k.num
          omega
        · rcases List.mem_append.1 (hl.mem_iff.1 he) with he | he
          · exact ho.ids e he
          · exact hids e he

theorem opens_leaf {w : World} {fan lo : Nat} {x y : Int} {F : List Nat} {c : Kd} (hid : ∀ t ∈ c.ts, 0 ≤ t.id) : Opens w fan lo x y F c 0 (c.ts.map (tgW x y)) := by
  refine ⟨⟨c.ts.length, by omega, ?_⟩, fun e he => ?_, ?_⟩
  · generalize c.ts = ts at *
    induction ts with
    | nil => exact .nil
    | cons t ts ih =>
      have := ih (fun u hu => hid u (by simp [hu]))
      rw [List.map_cons, List.length_cons, Nat.add_comm]
      exact .cons (.inl ⟨t, rfl, hid t (by simp), rfl⟩) this
  · obtain ⟨t, _, rfl⟩ := List.mem_map.1 he
    intro h
    exact absurd rfl h
  · generalize c.ts = ts at *
    clear hid
    induction ts with
    | nil => rfl
    | cons t ts ih =>
      simp only [pend, List.map_cons, List.flatMap_cons] at ih ⊢
      rw [ih]
      rfl

theorem opens_inner {w : World} {fan lo h : Nat} {x y : Int} {F : List Nat} {c : Kd} {bv : Value} {ks : List Kd} (h0 : 0 < lo) (hi : InnerAt w c bv ks) (hK : ∀ d ∈ ks, KidOk w fan lo h d) (hF : ∀ z ∈ c.F, z ∈ F) (hid : ∀ t ∈ c.ts, 0 ≤ t.id) : Opens w fan lo x y F c (h + 1) (ks.map (kdW x y)) := by
  have hts := hi.things
  have hkF := fun d hd => hi.kid_F (c := d) hd
  have hid' : ∀ d ∈ ks, ∀ t ∈ d.ts, 0 ≤ t.id := fun d hd t ht => hid t (by rw [hts]; exact List.mem_flatMap.2 ⟨d, hd, ht⟩)
  have hF' : ∀ d ∈ ks, ∀ z ∈ d.F, z ∈ F := fun d hd z hz => hF z (hkF d hd z hz)
  clear hkF hi hF hid
  refine ⟨?_, fun e he => ?_, ?_⟩
  · have key : ∃ m, m ≤ (h + 3) * (kts ks).length ∧ Wait (WtOk w fan lo x y F) (ks.map (kdW x y)) m := by
      clear hts
      induction ks with
      | nil => exact ⟨0, by omega, .nil⟩
      | cons d ks ih =>
        obtain ⟨m, hm, hw⟩ := ih (fun e he => hK e (by simp [he])) (fun e he => hid' e (by simp [he])) (fun e he => hF' e (by simp [he]))
        have hd := hK d (by simp)
        have hne := hd.ts h0
        have hlen : 1 ≤ d.ts.length := by
          cases e : d.ts with
          | nil => exact absurd e hne
          | cons _ _ => simp
        refine ⟨((h + 2) * d.ts.length + 1) + m, ?_, .cons (.inr ⟨h, d, hd.1, hF' d (by simp), rfl, rfl, fun t ht => ?_, hid' d (by simp), rfl⟩) hw⟩
        · simp only [kts, List.flatMap_cons, List.length_append] at hm ⊢
          rw [Nat.mul_add]
          have : (h + 3) * d.ts.length = (h + 2) * d.ts.length + d.ts.length := by rw [show h + 3 = (h + 2) + 1 from rfl, Nat.add_mul, Nat.one_mul]
          omega
        · exact bxFar_le (NodeAt.thing hd.1 t ht).1.rect (hd.1.ok.cover t ht)
    obtain ⟨m, hm, hw⟩ := key
    exact ⟨m, by rw [show h + 1 + 2 = h + 3 from rfl, hts]; omega, hw⟩
  · obtain ⟨d, hd, rfl⟩ := List.mem_map.1 he
    exact fun _ => ⟨rfl, (hK d hd).ts h0⟩
  · rw [hts]
    clear hK hid' hF' hts
    induction ks with
    | nil => rfl
    | cons d ks ih =>
      simp only [pend, kts, List.map_cons, List.flatMap_cons] at ih ⊢
      rw [ih]
      rfl

end Go.Proofs.YthimaoipogocfaaGreat

