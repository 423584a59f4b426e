import Derived.Test.YthimaoipogocfaaGreatNear1
namespace Go.Proofs.YthimaoipogocfaaGreat
open Go.RowKit
attribute [local go_sem] run_store_f32 run_neg_inf

/-! ### open: what a node holds waits -/
def tgW (x y : Int) (t : Tg) : Wt := ⟨t.id, tgFar x y t, none, [t]⟩
def kdW (x y : Int) (c : Kd) : Wt := ⟨-1, bxFar x y c.bx, some c.p, c.ts⟩

structure Opened (qb : Nat) (es l : List Wt) (G : List Nat) (w0 wr : World) : Prop where
  out : ∃ l' v', QHeap wr qb l' v' ∧ l'.Perm (es ++ l) ∧ (∀ x ∈ v'.ownBlock.toList, x ∈ G ∨ w0.heap.size ≤ x) ∧ Mod G w0 wr
def OpenPost (qb : Nat) (es l : List Wt) (G : List Nat) (w : World) (e : Ending) (w' : World) : Prop := e = .returned (.tuple #[]) ∧ Opened qb es l G w w'

theorem Opened.refl {qb : Nat} {l : List Wt} {v : Value} {w : World} (h : QHeap w qb l v) : Opened qb [] l (qb :: v.ownBlock.toList) w w := ⟨l, v, h, List.Perm.refl _, fun x hx => .inl (by simp [hx]), Mod.refl _ _⟩
theorem Opened.mod {qb : Nat} {es l : List Wt} {G : List Nat} {w0 wr : World} (h : Opened qb es l G w0 wr) : Mod G w0 wr := by
  obtain ⟨_, _, _, _, _, h⟩ := h.out
  exact h
theorem Opened.keep {qb : Nat} {es l : List Wt} {G : List Nat} {w0 wr w' : World} (h : Opened qb es l G w0 wr) (hm : Mod [] wr w') : Opened qb es l G w0 w' := by
  obtain ⟨l', v', h1, h2, h3, h4⟩ := h.out
  exact ⟨l', v', h1.keep hm, h2, h3, h4.trans hm.nil⟩
/-- one more waits -/
theorem Opened.push {qb : Nat} {es l : List Wt} {G : List Nat} {w0 wr : World} (h : Opened qb es l G w0 wr) (hG : qb ∈ G) (e0 : Wt) (hl : es.length + l.length ≤ 90000) :
    Calls Tryz.prog 111 #[qI qb, wtI e0] wr (OpenPost qb (es ++ [e0]) l G w0) := by
  obtain ⟨l', v', h1, h2, h3, h4⟩ := h.out
  have hlen : l'.length ≤ 90000 := by rw [h2.length_eq, List.length_append]; omega
  refine (hpush_any h1 e0 hlen).mono ?_
  rintro e w1 ⟨rfl, l1, v1, k1, k2, k3, k4⟩
  have hs := h4.size
  refine ⟨rfl, l1, v1, k1, ?_, fun x hx => ?_, h4.then k4 (fun x hx => ?_)⟩
  · refine k2.trans ((h2.cons e0).trans ?_)
    rw [List.append_assoc]
    exact List.perm_middle.symm
  · rcases k3 x hx with h | h
    · exact h3 x h
    · exact .inr (by omega)
  · rcases List.mem_cons.1 hx with rfl | hx
    · exact .inl hG
    · exact h3 x hx

set_option maxRecDepth 100000 in
set_option maxHeartbeats 2000000 in
theorem open_leaf {w : World} {x y : Int} (hx : Near9 x) (hy : Near9 y) {k : Kd} {r cc : Nat} (hl : LeafAt w k (.slice (some ⟨r, 0, none⟩) k.n cc)) {qb : Nat} {l : List Wt} {v : Value} (hq : QHeap w qb l v) (hG : ∀ z ∈ k.F, z ∉ qb :: v.ownBlock.toList) (hn : k.n + l.length ≤ 90000) :
    Calls Tryz.prog 75 #[.pointer (some ⟨qb, 0, none⟩), .pointer (some ⟨k.p, 0, none⟩), .int .i64 x, .int .i64 y] w (OpenPost qb (k.ts.map (tgW x y)) l (qb :: v.ownBlock.toList) w) := by
  obtain ⟨c4, c5⟩ := cell_ndO hl.here
  have HS0 := hideIt (Opened.refl hq)
  have HQG := hideIt (show qb ∈ qb :: v.ownBlock.toList by simp)
  have HL := hideIt hl
  have hlen := hl.len
  generalize qb :: v.ownBlock.toList = G at *
  have HG := hideIt hG
  clear hl hq hG
  go_enter Tryz.func75, Tryz.ntmps75
  go_wp2_with fail
  go_loopw [17] (fun i wr => ∃ kk : Nat, kk ≤ k.n ∧ i = .int .i64 kk ∧ Hid (Opened qb ((k.ts.take kk).map (tgW x y)) l G w wr)) (fun i _ => k.n - (intOf i).toNat)
  case atStart => exact ⟨0, by omega, rfl, hideIt (by simpa using HS0.out)⟩
  case round =>
    clear c4 c5
    obtain ⟨kk, hkk, rfl, hR⟩ := hrel
    by_cases hlt : kk < k.n
    · have hlt' : (kk : Int) < (k.n : Int) := by omega
      have hkl : kk < k.ts.length := by omega
      have hmr := hR.out.mod
      have hl' := HL.out.kept hmr HG.out
      obtain ⟨rest, hro, _, _, _, _, _⟩ := owns_rowT hl'.row
      have htm : k.ts[kk] ∈ k.ts := List.getElem_mem hkl
      have hstep : k.ts.take (kk + 1) = k.ts.take kk ++ [k.ts[kk]] := List.take_succ_eq_append_getElem hkl
      have cI := rowO_get hro (j := kk) (p := k.ts[kk].blk) (by simp [tblks, hkl])
      have hT := HL.out.things _ htm
      have hbF : k.ts[kk].blk ∉ G := HG.out _ (by
        rw [HL.out.foot]
        exact List.mem_cons_of_mem _ (List.mem_append_right _ (List.mem_map.2 ⟨_, htm, rfl⟩)))
      have HST := hideIt hstep
      have hes : ((k.ts.take kk).map (tgW x y)).length ≤ kk := by simp; omega
      have HES := hideIt hes
      clear hmr hl' hro htm hstep hes
      generalize k.ts[kk] = t at *
      generalize hge : (k.ts.take kk).map (tgW x y) = es at *
      have HGE := hideIt hge
      obtain ⟨⟨r1, r2, r3⟩, r4, r5, r6⟩ := hT.rect
      have n0 : Near9 t.x0 := ⟨r1, by omega⟩
      have n1 : Near9 t.y0 := ⟨r4, by omega⟩
      have n2 : Near9 t.x1 := ⟨by omega, r3⟩
      have n3 : Near9 t.y1 := ⟨by omega, r6⟩
      have HKEEP := hideIt (show ∀ w', Mod G w w' → w'.cell? ⟨t.blk, 4, none⟩ = some (.int .i64 t.id) ∧ w'.cell? ⟨t.blk, 5, none⟩ = some (.int .i64 t.x0) ∧ w'.cell? ⟨t.blk, 6, none⟩ = some (.int .i64 t.y0) ∧ w'.cell? ⟨t.blk, 7, none⟩ = some (.int .i64 t.x1) ∧ w'.cell? ⟨t.blk, 8, none⟩ = some (.int .i64 t.y1) from fun w' hm => by
        have hh := (hT.kept hm hbF).here
        refine ⟨?_, ?_, ?_, ?_, ?_⟩ <;> rw [cell_of_block hh] <;> rfl)
      have HPU := hideIt (show ∀ W, Opened qb es l G w W → Calls Tryz.prog 111 #[qI qb, .iface 138 (.agg #[.int .i64 t.id, .int .i64 (farI x y t.x0 t.y0 t.x1 t.y1), .pointer none])] W (OpenPost qb (es ++ [tgW x y t]) l G w) from fun W h => Opened.push h HQG.out (tgW x y t) (by have := HES.out; omega))
      clear r1 r2 r3 r4 r5 r6 hT hbF hge
      go_wp2_with fail
      go_region_held (fun w' => w'.cell? ⟨t.blk, 4, none⟩ = some (.int .i64 t.id) ∧ w'.cell? ⟨t.blk, 5, none⟩ = some (.int .i64 t.x0) ∧ w'.cell? ⟨t.blk, 6, none⟩ = some (.int .i64 t.y0) ∧ w'.cell? ⟨t.blk, 7, none⟩ = some (.int .i64 t.x1) ∧ w'.cell? ⟨t.blk, 8, none⟩ = some (.int .i64 t.y1))
        ((first
          | exact HKEEP.out _ (hR.out.mod.trans (Mod.drew _))
          | exact HKEEP.out _ (hR.out.mod.trans ((Mod.drew _).trans hm2).nil)
          | exact HKEEP.out _ hop.mod))
        ((first
          | (go_at_call 112; refine (far_any (by assumption) (by assumption) (by assumption) (by assumption) (by assumption) (by assumption) _).mono ?_; rintro e w2 ⟨rfl, hm2⟩)
          | (go_at_call 111; refine (HPU.out _ (hR.out.keep ((Mod.drew _).trans hm2))).mono ?_; rintro e w3 ⟨rfl, hop⟩)))
      all_goals
        have HF := hideIt hop
        clear hop hm2 cI n0 n1 n2 n3
        go_wp2_with fail
        go_roundw
        case rel => exact ⟨kk + 1, by omega, by go_num, hideIt (by rw [HST.out, List.map_append, HGE.out]; exact HF.out)⟩
        case measure => simp [intOf]; omega
    · have hkn : kk = k.n := by omega
      subst hkn
      obtain ⟨c4, c5⟩ := cell_ndO (HL.out.kept hR.out.mod HG.out).here
      have hall : k.ts.take k.n = k.ts := by rw [← hlen]; exact List.take_length
      rw [hall] at hR
      clear hall hlt
      go_wp2_with fail
      go_loopw [44] (fun i w2 => i = .int .i64 0 ∧ w2 = wr) (fun _ _ => 0)
      case atStart => exact ⟨rfl, rfl⟩
      case round =>
        obtain ⟨rfl, rfl⟩ := hrel
        go_wp2
        go_end0
        exact ⟨rfl, hR.out⟩

set_option maxRecDepth 100000 in
set_option maxHeartbeats 2000000 in
theorem open_inner {w : World} {x y : Int} (hx : Near9 x) (hy : Near9 y) {fan lo h : Nat} {k : Kd} {ks : List Kd} {r cc : Nat} (h0 : 0 < lo) (hl : InnerAt w k (.slice (some ⟨r, 0, none⟩) k.n cc) ks) (hK : ∀ c ∈ ks, NodeAt w fan lo h c ∧ lo ≤ c.n ∧ c.n ≤ fan) {qb : Nat} {l : List Wt} {v : Value} (hq : QHeap w qb l v) (hG : ∀ z ∈ k.F, z ∉ qb :: v.ownBlock.toList) (hn : k.n + l.length ≤ 90000) :
    Calls Tryz.prog 75 #[.pointer (some ⟨qb, 0, none⟩), .pointer (some ⟨k.p, 0, none⟩), .int .i64 x, .int .i64 y] w (OpenPost qb (ks.map (kdW x y)) l (qb :: v.ownBlock.toList) w) := by
  obtain ⟨c4, c5⟩ := cell_ndO hl.here
  have HS0 := hideIt (Opened.refl hq)
  have HQG := hideIt (show qb ∈ qb :: v.ownBlock.toList by simp)
  have HL := hideIt hl
  have hlen := hl.len
  have HK := hideIt hK
  have HLO := hideIt h0
  generalize qb :: v.ownBlock.toList = G at *
  have HG := hideIt hG
  clear hl hq hG hK h0
  go_enter Tryz.func75, Tryz.ntmps75
  go_wp2_with fail
  go_loopw [17] (fun i w2 => i = .int .i64 0 ∧ w = w2) (fun _ _ => 0)
  case atStart => exact ⟨rfl, rfl⟩
  case round =>
    obtain ⟨rfl, rfl⟩ := hrel
    go_wp2_with fail
    go_loopw [44] (fun i wr => ∃ kk : Nat, kk ≤ k.n ∧ i = .int .i64 kk ∧ Hid (Opened qb ((ks.take kk).map (kdW x y)) l G w wr)) (fun i _ => k.n - (intOf i).toNat)
    case atStart => exact ⟨0, by omega, rfl, hideIt (by simpa using HS0.out)⟩
    case round =>
      clear c4 c5
      obtain ⟨kk, hkk, rfl, hR⟩ := hrel
      by_cases hlt : kk < k.n
      · have hlt' : (kk : Int) < (k.n : Int) := by omega
        have hkl : kk < ks.length := by omega
        have hmr := hR.out.mod
        have hl' := HL.out.kept hmr HG.out
        obtain ⟨rest, hro, hnc, _, _, _, hcm⟩ := owns_rowT hl'.row
        have hbig : k.n ≤ 9223372036854775807 := by unfold maxLen at hcm; omega
        clear hnc hcm
        have htm : ks[kk] ∈ ks := List.getElem_mem hkl
        have hstep : ks.take (kk + 1) = ks.take kk ++ [ks[kk]] := List.take_succ_eq_append_getElem hkl
        have cI := rowO_get hro (j := kk) (p := ks[kk].p) (by simp [kblks, hkl])
        have hFk := HL.out.kid_F htm
        have hT := (HK.out _ htm).1.kept hmr (fun x hx => HG.out x (hFk x hx))
        have hok : ks[kk].bx.Ok := KidOk.bxok (HK.out _ htm) HLO.out
        obtain ⟨t0, t1, t2, t3⟩ := (show Cells4 wr ks[kk].p ks[kk].bx from by
          obtain ⟨rs, hh⟩ := hT.hasBx
          exact cell_bxC hh)
        have HST := hideIt hstep
        have hes : ((ks.take kk).map (kdW x y)).length ≤ kk := by simp; omega
        have HES := hideIt hes
        have HBF := hideIt (fun W => bxFar_any (x := x) (y := y) hx hy hok W)
        clear hmr hl' hro htm hstep hes hT hFk hok
        generalize ks[kk] = t at *
        generalize hge : (ks.take kk).map (kdW x y) = es at *
        have HGE := hideIt hge
        have HPU := hideIt (show ∀ W, Opened qb es l G w W → Calls Tryz.prog 111 #[qI qb, .iface 138 (.agg #[.int .i64 (-1), .int .i64 (bxFar x y t.bx), .pointer (some ⟨t.p, 0, none⟩)])] W (OpenPost qb (es ++ [kdW x y t]) l G w) from fun W h => Opened.push h HQG.out (kdW x y t) (by have := HES.out; omega))
        clear hge
        go_wp2_with fail
        refine (HBF.out _).mono ?_
        rintro e w2 ⟨rfl, hm2⟩
        have HM2 := hideIt hm2
        clear hm2 t0 t1 t2 t3 cI
        go_wp2_with fail
        refine (HPU.out _ (hR.out.keep HM2.out)).mono ?_
        rintro e w3 ⟨rfl, hop⟩
        have HF := hideIt hop
        clear hop
        go_wp2_with fail
        go_roundw
        case rel => exact ⟨kk + 1, by omega, by go_num, hideIt (by rw [HST.out, List.map_append, HGE.out]; exact HF.out)⟩
        case measure => simp [intOf]; omega
      · have hkn : kk = k.n := by omega
        subst hkn
        have hall : ks.take k.n = ks := by rw [← hlen, List.take_length]
        rw [hall] at hR
        clear hall hlt
        go_wp2
        go_end0
        exact ⟨rfl, hR.out⟩

set_option maxRecDepth 100000 in
theorem open_none {w : World} {x y : Int} {k : Kd} (hh : w.heap[k.p]? = some (ndO k.bx (.slice none 0 0) (.slice none 0 0))) {qb : Nat} {l : List Wt} {v : Value} (hq : QHeap w qb l v) :
    Calls Tryz.prog 75 #[.pointer (some ⟨qb, 0, none⟩), .pointer (some ⟨k.p, 0, none⟩), .int .i64 x, .int .i64 y] w (OpenPost qb [] l (qb :: v.ownBlock.toList) w) := by
  obtain ⟨c4, c5⟩ := cell_ndO hh
  have HS0 := hideIt (Opened.refl hq)
  clear hh hq
  go_enter Tryz.func75, Tryz.ntmps75
  go_wp2_with fail
  go_loopw [17] (fun i w2 => i = .int .i64 0 ∧ w2 = w) (fun _ _ => 0)
  case atStart => exact ⟨rfl, rfl⟩
  case round =>
    obtain ⟨rfl, rfl⟩ := hrel
    go_wp2_with fail
    go_loopw [44] (fun i w2 => i = .int .i64 0 ∧ w2 = wr) (fun _ _ => 0)
    case atStart => exact ⟨rfl, rfl⟩
    case round =>
      obtain ⟨rfl, rfl⟩ := hrel
      go_wp2
      go_end0
      exact ⟨rfl, HS0.out⟩

end Go.Proofs.YthimaoipogocfaaGreat
