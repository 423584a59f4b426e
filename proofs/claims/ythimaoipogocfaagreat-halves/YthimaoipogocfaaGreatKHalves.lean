import Derived.Test.YthimaoipogocfaaGreatJ20
import Derived.Deep.DeepCutAuto
namespace Go.Proofs.YthimaoipogocfaaGreat
open Go.RowKit Go.Maps
attribute [local go_sem] run_store_f32 run_neg_inf

abbrev ktO (t : Kt) : Obj := .cells #[.int .i64 t.i, .int .i64 t.x, .int .i64 t.y, .int .i64 t.w, .int .i64 t.h] 29 (0, 0)
theorem cell_ktO {w : World} {p : Nat} {t : Kt} (h : w.heap[p]? = some (ktO t)) : w.cell? ⟨p, 0, none⟩ = some (.int .i64 t.i) ∧ w.cell? ⟨p, 1, none⟩ = some (.int .i64 t.x) ∧ w.cell? ⟨p, 2, none⟩ = some (.int .i64 t.y) ∧ w.cell? ⟨p, 3, none⟩ = some (.int .i64 t.w) ∧ w.cell? ⟨p, 4, none⟩ = some (.int .i64 t.h) := by
  refine ⟨?_, ?_, ?_, ?_, ?_⟩ <;> rw [cell_of_block h] <;> rfl

theorem Kt.bounds (t : Kt) : -1000 ≤ t.x0 0 ∧ t.x0 0 ≤ t.x1 0 ∧ t.x1 0 ≤ 1060 ∧ -1000 ≤ t.y0 0 ∧ t.y0 0 ≤ t.y1 0 ∧ t.y1 0 ≤ 1060 := by
  have h1 := pickF_lt t.x 2001 (by omega)
  have h2 := pickF_lt t.y 2001 (by omega)
  have h3 := pickF_lt t.w 60 (by omega)
  have h4 := pickF_lt t.h 60 (by omega)
  unfold Kt.x1 Kt.y1 Kt.x0 Kt.y0
  omega

/-- what may be of a window's two parts -/
def HalfBits (p q r s u v : Bool) : Prop :=
    (p = false ∧ q = false ∧ r = false ∧ s = false ∧ u = false ∧ v = false) ∨ (p = true ∧ q = true ∧ r = false ∧ s = false ∧ u = false ∧ v = false) ∨ (p = true ∧ q = true ∧ r = false ∧ s = true ∧ u = true ∧ v = false) ∨
    (p = true ∧ q = false ∧ r = true ∧ s = false ∧ u = false ∧ v = false) ∨ (p = true ∧ q = false ∧ r = true ∧ s = true ∧ u = false ∧ v = true) ∨ (p = true ∧ q = true ∧ r = true ∧ s = false ∧ u = false ∧ v = false) ∨ (p = true ∧ q = true ∧ r = true ∧ s = true ∧ u = false ∧ v = false)

/-- a window cut in two: which parts a thing meets, in which it lies -/
theorem halves_bits {X0 Y0 X Y1 x : Int} (h0 : X0 ≤ x) (h1 : x < X) {t : Th} (hr : RectOk t.x0 t.y0 t.x1 t.y1) {p q r s u v : Bool} (hp : meetT X0 Y0 X Y1 t = p) (hq : meetT X0 Y0 x Y1 t = q) (hrr : meetT (x + 1) Y0 X Y1 t = r) (hs : holdT X0 Y0 X Y1 t = s) (hu : holdT X0 Y0 x Y1 t = u) (hv : holdT (x + 1) Y0 X Y1 t = v) :
    HalfBits p q r s u v := by
  unfold HalfBits
  have ip := meetI_iff (a0 := X0) (a1 := Y0) (a2 := X) (a3 := Y1) (b0 := t.x0) (b1 := t.y0) (b2 := t.x1) (b3 := t.y1)
  rw [show meetI X0 Y0 X Y1 t.x0 t.y0 t.x1 t.y1 = p from hp] at ip
  have iq := meetI_iff (a0 := X0) (a1 := Y0) (a2 := x) (a3 := Y1) (b0 := t.x0) (b1 := t.y0) (b2 := t.x1) (b3 := t.y1)
  rw [show meetI X0 Y0 x Y1 t.x0 t.y0 t.x1 t.y1 = q from hq] at iq
  have ir := meetI_iff (a0 := x + 1) (a1 := Y0) (a2 := X) (a3 := Y1) (b0 := t.x0) (b1 := t.y0) (b2 := t.x1) (b3 := t.y1)
  rw [show meetI (x + 1) Y0 X Y1 t.x0 t.y0 t.x1 t.y1 = r from hrr] at ir
  have is := holdI_iff (a0 := X0) (a1 := Y0) (a2 := X) (a3 := Y1) (b0 := t.x0) (b1 := t.y0) (b2 := t.x1) (b3 := t.y1)
  rw [show holdI X0 Y0 X Y1 t.x0 t.y0 t.x1 t.y1 = s from hs] at is
  have iu := holdI_iff (a0 := X0) (a1 := Y0) (a2 := x) (a3 := Y1) (b0 := t.x0) (b1 := t.y0) (b2 := t.x1) (b3 := t.y1)
  rw [show holdI X0 Y0 x Y1 t.x0 t.y0 t.x1 t.y1 = u from hu] at iu
  have iv := holdI_iff (a0 := x + 1) (a1 := Y0) (a2 := X) (a3 := Y1) (b0 := t.x0) (b1 := t.y0) (b2 := t.x1) (b3 := t.y1)
  rw [show holdI (x + 1) Y0 X Y1 t.x0 t.y0 t.x1 t.y1 = v from hv] at iv
  clear hp hq hrr hs hu hv
  unfold RectOk at hr
  cases p <;> cases q <;> cases r <;> cases s <;> cases u <;> cases v <;> simp only [Bool.false_eq_true, false_iff, true_iff, reduceCtorEq, and_false, and_true, or_false, or_true] at ip iq ir is iu iv ⊢ <;> omega

/-- the three rectangles of Halves -/
abbrev halfW (w : World) (X0 Y0 X Y1 x : Int) : World := (((w.alloc (B4 X0 Y0 X Y1)).alloc (B4 X0 Y0 x Y1)).alloc (B4 (x + 1) Y0 X Y1)).drew

theorem halfW_at (w : World) (X0 Y0 X Y1 x : Int) : (halfW w X0 Y0 X Y1 x).heap[w.heap.size]? = some (B4 X0 Y0 X Y1) ∧ (halfW w X0 Y0 X Y1 x).heap[w.heap.size + 1]? = some (B4 X0 Y0 x Y1) ∧ (halfW w X0 Y0 X Y1 x).heap[w.heap.size + 1 + 1]? = some (B4 (x + 1) Y0 X Y1) ∧ Mod [] w (halfW w X0 Y0 X Y1 x) := by
  have m1 : Mod [] (w.alloc (B4 X0 Y0 X Y1)) (halfW w X0 Y0 X Y1 x) := ((Mod.alloc _ _).trans (Mod.alloc _ _)).trans (Mod.drew _)
  have m2 : Mod [] ((w.alloc (B4 X0 Y0 X Y1)).alloc (B4 X0 Y0 x Y1)) (halfW w X0 Y0 X Y1 x) := (Mod.alloc _ _).trans (Mod.drew _)
  have m3 : Mod [] (((w.alloc (B4 X0 Y0 X Y1)).alloc (B4 X0 Y0 x Y1)).alloc (B4 (x + 1) Y0 X Y1)) (halfW w X0 Y0 X Y1 x) := Mod.drew _
  have h1 := heap_alloc_new w (B4 X0 Y0 X Y1)
  have h2 := heap_alloc_new (w.alloc (B4 X0 Y0 X Y1)) (B4 X0 Y0 x Y1)
  have h3 := heap_alloc_new ((w.alloc (B4 X0 Y0 X Y1)).alloc (B4 X0 Y0 x Y1)) (B4 (x + 1) Y0 X Y1)
  have e1 : (w.alloc (B4 X0 Y0 X Y1)).heap.size = w.heap.size + 1 := by simp
  have e2 : ((w.alloc (B4 X0 Y0 X Y1)).alloc (B4 X0 Y0 x Y1)).heap.size = w.heap.size + 1 + 1 := by simp
  have e3 : (((w.alloc (B4 X0 Y0 X Y1)).alloc (B4 X0 Y0 x Y1)).alloc (B4 (x + 1) Y0 X Y1)).heap.size = w.heap.size + 1 + 1 + 1 := by simp
  rw [e1] at h2
  rw [e2] at h3
  exact ⟨(m1.block _ (by omega) (by simp)).trans h1, (m2.block _ (by omega) (by simp)).trans h2, (m3.block _ (by omega) (by simp)).trans h3, (Mod.alloc _ _).trans m1⟩

set_option maxRecDepth 100000 in
set_option maxHeartbeats 4000000 in
theorem halves_any {w : World} {f : Int} (hf : i64ok f) {a : Option Addr} {ks : List Kt} {c : Nat} (hK : KsAt w a ks) {t : Kt} (ht : t.ok) {cu : Int} (hcu : i64ok cu) :
    Calls Tryz.prog 7 #[.int .i64 f, .slice a ks.length c, ktV t, .int .i64 cu] w fun e w' => e = .returned (.bool true) ∧ Mod [] w w' := by
  have hm0 : Mod [] w (w.alloc (ktO t)) := Mod.alloc _ _
  have hth := heap_alloc_new w (ktO t)
  have HPL := hideIt (planted_any hf (dx := 0) (dy := 0) (by omega) (by omega) (hK.kept hm0) (c := c))
  generalize (4 + pickF f 13).toNat = fan at *
  have hLp : 1 ≤ (plantT ks 0 0).length := by simp [plantT, putT]
  generalize plantT ks 0 0 = L at *
  generalize plantGT fan ks 0 0 = lg at *
  have HR := hideIt (fun W => krect_any t ht 0 0 (by omega) (by omega) W)
  obtain ⟨b1, b2, b3, b4, b5, b6⟩ := t.bounds
  generalize t.x0 0 = X0 at *
  generalize t.y0 0 = Y0 at *
  generalize t.x1 0 = X1 at *
  generalize t.y1 0 = Y1 at *
  have HPICK := hideIt (fun W => pick_any cu (X1 - X0 + 1) W hcu (by omega) (by omega))
  obtain ⟨p1, p2⟩ := pickF_lt cu (X1 - X0 + 1) (by omega)
  generalize pickF cu (X1 - X0 + 1) = P at *
  have HTH := hideIt (show ∀ W, Mod [] (w.alloc (ktO t)) W → W.heap[w.heap.size]? = some (ktO t) from fun W hm => (hm.block _ (by simp) (by simp)).trans hth)
  have HM0 := hideIt hm0
  clear hf hK ht hcu hm0 hth
  go_enter Tryz.func7, Tryz.ntmps7
  go_wp2_with fail
  refine HPL.out.mono ?_
  intro e w1 hpl
  obtain ⟨q, rfl, hrep, hm1⟩ := hpl.rep
  obtain ⟨t0, t1, t2, t3, t4⟩ := cell_ktO (HTH.out w1 hm1)
  have HREP := hideIt hrep
  have HM1 := hideIt (HM0.out.trans hm1)
  clear hpl hrep hm1 HPL HTH HM0
  go_wp2_with fail
  refine (HR.out _).mono ?_
  rintro e w2 ⟨rfl, hm2⟩
  have HM2 := hideIt hm2
  clear hm2 t0 t1 t2 t3 t4 HR
  have v1 : IntKind.i64.wrap (X1 - X0) = X1 - X0 := by rw [IntKind.wrap_i64]; omega
  have v2 : IntKind.i64.wrap (X1 - X0 + 1) = X1 - X0 + 1 := by rw [IntKind.wrap_i64]; omega
  have v3 : IntKind.i64.wrap (X0 + P) = X0 + P := by rw [IntKind.wrap_i64]; omega
  go_upto_region 5 with fail
  go_cut [11] (fun v wx => ∃ x, v = .int .i64 x ∧ X0 ≤ x ∧ x ≤ X1 ∧ wx = (w2.alloc (B4 X0 Y0 X1 Y1)).drew)
  case first =>
    as_aux_lemma =>
      go_region_with (go_at_call 14; refine (HPICK.out _).mono ?_; rintro e w' ⟨rfl, hw⟩; obtain rfl := hw.symm; clear hw)
      all_goals
        go_wp2_with fail
        go_meet
        exact ⟨_, rfl, by omega, by omega, rfl⟩
  case rest =>
    obtain ⟨x, rfl, hx0, hx1, rfl⟩ := hcut
    clear v1 v2 v3 p1 p2 HPICK
    go_upto_if 62 with fail
    go_cut [] (fun wx => ∃ X, x < X ∧ X ≤ 1061 ∧ wx = (w2.alloc (B4 X0 Y0 X Y1)).drew)
    case first =>
      by_cases hx : x = X1
      · have hxb : (x == X1) = true := by simp [hx]
        go_wp2_with fail
        go_meet
        exact ⟨X1 + 1, by omega, by omega, rfl⟩
      · have hxb : (x == X1) = false := by simp [hx]
        go_wp2_with fail
        go_meet
        exact ⟨X1, by omega, by omega, rfl⟩
    case rest =>
      obtain ⟨X, hX0, hX1, rfl⟩ := hcut
      obtain ⟨hA, hB, hC, hmW⟩ := halfW_at w2 X0 Y0 X Y1 x
      have HA := hideIt (show ∀ W, Mod [] (halfW w2 X0 Y0 X Y1 x) W → W.heap[w2.heap.size]? = some (B4 X0 Y0 X Y1) from fun W hm => (hm.block _ (lt_of_block hA) (by simp)).trans hA)
      have HB := hideIt (show ∀ W, Mod [] (halfW w2 X0 Y0 X Y1 x) W → W.heap[w2.heap.size + 1]? = some (B4 X0 Y0 x Y1) from fun W hm => (hm.block _ (lt_of_block hB) (by simp)).trans hB)
      have HC := hideIt (show ∀ W, Mod [] (halfW w2 X0 Y0 X Y1 x) W → W.heap[w2.heap.size + 1 + 1]? = some (B4 (x + 1) Y0 X Y1) from fun W hm => (hm.block _ (lt_of_block hC) (by simp)).trans hC)
      have HRK := hideIt (show ∀ W, Mod [] (halfW w2 X0 Y0 X Y1 x) W → KRep (w.alloc (ktO t)).heap.size W q fan L lg from fun W hm => HREP.out.keep ((HM2.out.trans hmW).trans hm))
      have HMW := hideIt (show ∀ W, Mod [] (halfW w2 X0 Y0 X Y1 x) W → Mod [] w W from fun W hm => ((HM1.out.trans HM2.out).trans hmW).trans hm)
      have hrA : RectOk X0 Y0 X Y1 := by unfold RectOk; omega
      have hrB : RectOk X0 Y0 x Y1 := by unfold RectOk; omega
      have hrC : RectOk (x + 1) Y0 X Y1 := by unfold RectOk; omega
      have HRA := hideIt hrA
      have HRB := hideIt hrB
      have HRC := hideIt hrC
      have hids := HREP.out.ids
      have hlen := HREP.out.len
      have hrects := HREP.out.rects
      have hG1 : foundT (meetT (-1000000000) (-1000000000) 1000000000 1000000000) L = sortI (L.map (·.id)) := foundT_all (fun t ht => by have := hrects t ht; unfold RectOk at this; exact meetI_iff.2 (by omega))
      have hG2 : foundT (holdT (-1000000000) (-1000000000) 1000000000 1000000000) L = sortI (L.map (·.id)) := foundT_all (fun t ht => by have := hrects t ht; unfold RectOk at this; exact holdI_iff.2 (by omega))
      obtain ⟨gs, hgs⟩ : ∃ gs, gs = sortI (L.map (·.id)) := ⟨_, rfl⟩
      rw [← hgs] at hG1 hG2
      have hgl : gs.length = L.length := by rw [hgs, sortI_length, List.length_map]
      have HGL := hideIt hgl
      have hgb : ((gs.length : Int) == (L.length : Int)) = true := by simp [hgl]
      have hL1 : ¬ ((L.length : Int) < 1) := by omega
      have hgb2 : ((gs.length : Int) != (L.length : Int)) = false := by simp [hgl]
      have hL1b : decide ((L.length : Int) < 1) = false := by simp; omega
      have hgl1 : gs.length ≤ 1000 := by omega
      have hL1k : L.length ≤ 1000 := hlen
      have HGM := hideIt (show ∀ k ∈ gs, ∃ s ∈ L, s.id = k from fun k hk => by
        rw [hgs, sortI_mem, List.mem_map] at hk
        exact hk)
      have HRALL := hideIt (show RectOk (-1000000000) (-1000000000) 1000000000 1000000000 from by unfold RectOk; omega)
      have HG := hideIt (And.intro hG1 hG2)
      have HID := hideIt hrects
      have l1 := foundT_len (meetT X0 Y0 X Y1) L
      have l2 := foundT_len (meetT X0 Y0 x Y1) L
      have l3 := foundT_len (meetT (x + 1) Y0 X Y1) L
      have l4 := foundT_len (holdT X0 Y0 X Y1) L
      have l5 := foundT_len (holdT X0 Y0 x Y1) L
      have l6 := foundT_len (holdT (x + 1) Y0 X Y1) L
      have HL := hideIt (And.intro l4 (And.intro l5 l6))
      have HDEC := hideIt (show ∀ s ∈ L, decide (s.id ∈ foundT (meetT X0 Y0 X Y1) L) = meetT X0 Y0 X Y1 s ∧ decide (s.id ∈ foundT (meetT X0 Y0 x Y1) L) = meetT X0 Y0 x Y1 s ∧ decide (s.id ∈ foundT (meetT (x + 1) Y0 X Y1) L) = meetT (x + 1) Y0 X Y1 s ∧ decide (s.id ∈ foundT (holdT X0 Y0 X Y1) L) = holdT X0 Y0 X Y1 s ∧ decide (s.id ∈ foundT (holdT X0 Y0 x Y1) L) = holdT X0 Y0 x Y1 s ∧ decide (s.id ∈ foundT (holdT (x + 1) Y0 X Y1) L) = holdT (x + 1) Y0 X Y1 s from fun s hs =>
        ⟨dec_foundT hids hs, dec_foundT hids hs, dec_foundT hids hs, dec_foundT hids hs, dec_foundT hids hs, dec_foundT hids hs⟩)
      have HM0 := hideIt (Mod.refl [] (halfW w2 X0 Y0 X Y1 x))
      obtain ⟨xs1, hx1⟩ : ∃ xs, foundT (meetT X0 Y0 X Y1) L = xs := ⟨_, rfl⟩
      obtain ⟨xs2, hx2⟩ : ∃ xs, foundT (meetT X0 Y0 x Y1) L = xs := ⟨_, rfl⟩
      obtain ⟨xs3, hx3⟩ : ∃ xs, foundT (meetT (x + 1) Y0 X Y1) L = xs := ⟨_, rfl⟩
      obtain ⟨xs4, hx4⟩ : ∃ xs, foundT (holdT X0 Y0 X Y1) L = xs := ⟨_, rfl⟩
      obtain ⟨xs5, hx5⟩ : ∃ xs, foundT (holdT X0 Y0 x Y1) L = xs := ⟨_, rfl⟩
      obtain ⟨xs6, hx6⟩ : ∃ xs, foundT (holdT (x + 1) Y0 X Y1) L = xs := ⟨_, rfl⟩
      rw [hx1, hx2, hx3, hx4, hx5, hx6] at HDEC
      rw [hx1] at l1
      rw [hx2] at l2
      rw [hx3] at l3
      rw [hx4, hx5, hx6] at HL
      have HRND := hideIt (show ∀ kk, kk < gs.length → ∃ id p q' r s' u v, gs[kk]? = some id ∧ Hid (HalfBits p q' r s' u v) ∧ decide (id ∈ xs1) = p ∧ decide (id ∈ xs2) = q' ∧ decide (id ∈ xs3) = r ∧ decide (id ∈ xs4) = s' ∧ decide (id ∈ xs5) = u ∧ decide (id ∈ xs6) = v from fun kk hlt => by
        obtain ⟨s, hs, hse⟩ := HGM.out _ (List.getElem_mem hlt)
        obtain ⟨d1, d2, d3, d4, d5, d6⟩ := HDEC.out s hs
        rw [hse] at d1 d2 d3 d4 d5 d6
        exact ⟨_, _, _, _, _, _, _, List.getElem?_eq_getElem hlt, hideIt (halves_bits (Y0 := Y0) (Y1 := Y1) hx0 hX0 (HID.out s hs) rfl rfl rfl rfl rfl rfl), d1, d2, d3, d4, d5, d6⟩)
      clear HDEC HGM HID
      have HF1 := hideIt (show ∀ W, Mod [] (halfW w2 X0 Y0 X Y1 x) W → Calls Tryz.prog 19 #[.pointer (some ⟨q, 0, none⟩), R4 X0 Y0 X Y1] W (KFindPost xs1 W) from fun W hm => by rw [← hx1]; exact kmeets_any (HRK.out W hm) HRA.out)
      have HF2 := hideIt (show ∀ W, Mod [] (halfW w2 X0 Y0 X Y1 x) W → Calls Tryz.prog 19 #[.pointer (some ⟨q, 0, none⟩), R4 X0 Y0 x Y1] W (KFindPost xs2 W) from fun W hm => by rw [← hx2]; exact kmeets_any (HRK.out W hm) HRB.out)
      have HF3 := hideIt (show ∀ W, Mod [] (halfW w2 X0 Y0 X Y1 x) W → Calls Tryz.prog 19 #[.pointer (some ⟨q, 0, none⟩), R4 (x + 1) Y0 X Y1] W (KFindPost xs3 W) from fun W hm => by rw [← hx3]; exact kmeets_any (HRK.out W hm) HRC.out)
      have HF4 := hideIt (show ∀ W, Mod [] (halfW w2 X0 Y0 X Y1 x) W → Calls Tryz.prog 20 #[.pointer (some ⟨q, 0, none⟩), R4 X0 Y0 X Y1] W (KFindPost xs4 W) from fun W hm => by rw [← hx4]; exact kwithin_any (HRK.out W hm) HRA.out)
      have HF5 := hideIt (show ∀ W, Mod [] (halfW w2 X0 Y0 X Y1 x) W → Calls Tryz.prog 20 #[.pointer (some ⟨q, 0, none⟩), R4 X0 Y0 x Y1] W (KFindPost xs5 W) from fun W hm => by rw [← hx5]; exact kwithin_any (HRK.out W hm) HRB.out)
      have HF6 := hideIt (show ∀ W, Mod [] (halfW w2 X0 Y0 X Y1 x) W → Calls Tryz.prog 20 #[.pointer (some ⟨q, 0, none⟩), R4 (x + 1) Y0 X Y1] W (KFindPost xs6 W) from fun W hm => by rw [← hx6]; exact kwithin_any (HRK.out W hm) HRC.out)
      have HF7 := hideIt (show ∀ W, Mod [] (halfW w2 X0 Y0 X Y1 x) W → Calls Tryz.prog 19 #[.pointer (some ⟨q, 0, none⟩), R4 (-1000000000) (-1000000000) 1000000000 1000000000] W (KFindPost gs W) from fun W hm => by rw [← HG.out.1]; exact kmeets_any (HRK.out W hm) HRALL.out)
      have HF8 := hideIt (show ∀ W, Mod [] (halfW w2 X0 Y0 X Y1 x) W → Calls Tryz.prog 20 #[.pointer (some ⟨q, 0, none⟩), R4 (-1000000000) (-1000000000) 1000000000 1000000000] W (KFindPost gs W) from fun W hm => by rw [← HG.out.2]; exact kwithin_any (HRK.out W hm) HRALL.out)
      have hb0 : x + 1 ≤ 1061 := by omega
      clear hgl hA hB hC hmW hrA hrB hrC hids hlen hrects hG1 hG2 hgs hx1 hx2 hx3 hx4 hx5 hx6 l4 l5 l6 HREP
      go_wp2_with fail
      refine (HF1.out _ HM0.out).mono ?_
      rintro e w3 ⟨s1, rfl, hrow, hm⟩
      obtain ⟨a1, k1, rfl, hcc⟩ := hrow
      have HR1 := hideIt (show RowI w3 (.slice a1 xs1.length k1) xs1 from ⟨_, _, rfl, hcc⟩)
      have HM1 := hideIt (HM0.out.trans hm)
      have HN1 := hideIt hm
      obtain ⟨z0, z1, z2, z3⟩ := cellsB4 (HB.out _ HM1.out)
      clear hm hcc HF1
      go_wp2_with fail
      clear z0 z1 z2 z3
      refine (HF2.out _ HM1.out).mono ?_
      rintro e w4 ⟨s2, rfl, hrow, hm⟩
      obtain ⟨a2, k2, rfl, hcc⟩ := hrow
      have HR2 := hideIt (show RowI w4 (.slice a2 xs2.length k2) xs2 from ⟨_, _, rfl, hcc⟩)
      have HM2 := hideIt (HM1.out.trans hm)
      have HN2 := hideIt hm
      obtain ⟨z0, z1, z2, z3⟩ := cellsB4 (HC.out _ HM2.out)
      clear hm hcc HF2
      go_wp2_with fail
      clear z0 z1 z2 z3
      refine (HF3.out _ HM2.out).mono ?_
      rintro e w5 ⟨s3, rfl, hrow, hm⟩
      obtain ⟨a3, k3, rfl, hcc⟩ := hrow
      have HR3 := hideIt (show RowI w5 (.slice a3 xs3.length k3) xs3 from ⟨_, _, rfl, hcc⟩)
      have HM3 := hideIt (HM2.out.trans hm)
      have HN3 := hideIt hm
      obtain ⟨z0, z1, z2, z3⟩ := cellsB4 (HA.out _ HM3.out)
      clear hm hcc HF3
      go_wp2_with fail
      clear z0 z1 z2 z3
      refine (HF4.out _ HM3.out).mono ?_
      rintro e w6 ⟨s4, rfl, hrow, hm⟩
      obtain ⟨a4, k4, rfl, hcc⟩ := hrow
      have HR4 := hideIt (show RowI w6 (.slice a4 xs4.length k4) xs4 from ⟨_, _, rfl, hcc⟩)
      have HM4 := hideIt (HM3.out.trans hm)
      have HN4 := hideIt hm
      obtain ⟨z0, z1, z2, z3⟩ := cellsB4 (HB.out _ HM4.out)
      clear hm hcc HF4
      go_wp2_with fail
      clear z0 z1 z2 z3
      refine (HF5.out _ HM4.out).mono ?_
      rintro e w7 ⟨s5, rfl, hrow, hm⟩
      obtain ⟨a5, k5, rfl, hcc⟩ := hrow
      have HR5 := hideIt (show RowI w7 (.slice a5 xs5.length k5) xs5 from ⟨_, _, rfl, hcc⟩)
      have HM5 := hideIt (HM4.out.trans hm)
      have HN5 := hideIt hm
      obtain ⟨z0, z1, z2, z3⟩ := cellsB4 (HC.out _ HM5.out)
      clear hm hcc HF5
      go_wp2_with fail
      clear z0 z1 z2 z3
      refine (HF6.out _ HM5.out).mono ?_
      rintro e w8 ⟨s6, rfl, hrow, hm⟩
      obtain ⟨a6, k6, rfl, hcc⟩ := hrow
      have HR6 := hideIt (show RowI w8 (.slice a6 xs6.length k6) xs6 from ⟨_, _, rfl, hcc⟩)
      have HM6 := hideIt (HM5.out.trans hm)
      have HN6 := hideIt hm
      clear hm hcc HF6
      go_wp2_with fail
      have HM6a := hideIt (show Mod [] (halfW w2 X0 Y0 X Y1 x) (w8.alloc (B4 (-1000000000) (-1000000000) 1000000000 1000000000)) from HM6.out.trans (Mod.alloc _ _))
      refine (HF7.out _ HM6a.out).mono ?_
      rintro e w9 ⟨s7, rfl, hrow, hm⟩
      obtain ⟨a7, k7, rfl, hcc⟩ := hrow
      have HR7 := hideIt (show RowI w9 (.slice a7 gs.length k7) gs from ⟨_, _, rfl, hcc⟩)
      have HM7 := hideIt (HM6a.out.trans hm)
      have HN7 := hideIt ((Mod.alloc (F := []) w8 (B4 (-1000000000) (-1000000000) 1000000000 1000000000)).trans hm)
      obtain ⟨z0, z1, z2, z3⟩ := cellsB4 ((hm.block w8.heap.size (by simp) (by simp)).trans (heap_alloc_new w8 (B4 (-1000000000) (-1000000000) 1000000000 1000000000)))
      have HC7 := hideIt hcc
      clear hm hcc HF7 HM6a
      go_wp2_with fail
      clear z0 z1 z2 z3
      refine (HF8.out _ HM7.out).mono ?_
      rintro e w10 ⟨s8, rfl, hrow, hm⟩
      have HR8 := hideIt hrow
      have HM8 := hideIt (HM7.out.trans hm)
      have HN8 := hideIt hm
      clear hrow hm HF8
      go_wp2_with fail
      refine (kLen_any (HRK.out _ HM8.out)).mono ?_
      rintro e w' ⟨rfl, hw⟩
      obtain rfl := hw
      go_wp2_with fail
      have HSAME := hideIt (show Calls Tryz.prog 22 #[.slice a7 gs.length k7, s8] w10 (KBool true w10) from by
        have := same_any (HR7.out.keep HN8.out) HR8.out (by omega) (by omega)
        rw [decide_eq_true rfl] at this
        exact this)
      refine HSAME.out.mono ?_
      rintro e w11 ⟨rfl, hm⟩
      have HN9 := hideIt hm
      have HM9 := hideIt (HM8.out.trans hm)
      clear hm HSAME
      have HK6 := hideIt (HR6.out.keep ((HN7.out.trans HN8.out).trans HN9.out))
      have HK5 := hideIt (HR5.out.keep (HN6.out.trans ((HN7.out.trans HN8.out).trans HN9.out)))
      have HK4 := hideIt (HR4.out.keep (HN5.out.trans (HN6.out.trans ((HN7.out.trans HN8.out).trans HN9.out))))
      have HK3 := hideIt (HR3.out.keep (HN4.out.trans (HN5.out.trans (HN6.out.trans ((HN7.out.trans HN8.out).trans HN9.out)))))
      have HK2 := hideIt (HR2.out.keep (HN3.out.trans (HN4.out.trans (HN5.out.trans (HN6.out.trans ((HN7.out.trans HN8.out).trans HN9.out))))))
      have HK1 := hideIt (HR1.out.keep (HN2.out.trans (HN3.out.trans (HN4.out.trans (HN5.out.trans (HN6.out.trans ((HN7.out.trans HN8.out).trans HN9.out)))))))
      have HN89 := hideIt (HN8.out.trans HN9.out)
      have g1 : (xs1.length : Int) ≤ (L.length : Int) := by omega
      have g2 : (xs2.length : Int) ≤ (L.length : Int) := by omega
      have g3 : (xs3.length : Int) ≤ (L.length : Int) := by omega
      clear HR1 HR2 HR3 HR4 HR5 HR6 HR7 HR8 HN1 HN2 HN3 HN4 HN5 HN6 HN7 HN8 HN9 HM0 HM1 HM2 HM3 HM4 HM5 HM6 HM7 HM8 HA HB HC HRK HRA HRB HRC HRALL HG
      go_wp2_with fail
      go_loopw [33] (fun i wr => ∃ kk : Nat, kk ≤ gs.length ∧ i = .int .i64 kk ∧ Mod [] w11 wr) (fun i _ => gs.length - (intOf i).toNat)
      case atStart => exact ⟨0, by omega, rfl, Mod.refl _ _⟩
      case round =>
        as_aux_lemma =>
          obtain ⟨kk, hkk, rfl, hmr⟩ := hrel
          by_cases hlt : kk < gs.length
          · have hlt' : (kk : Int) < (gs.length : Int) := by omega
            obtain ⟨id, p, q', r, s', u, v, hget, hbits, d1, d2, d3, d4, d5, d6⟩ := HRND.out kk hlt
            obtain ⟨b, rfl, y0⟩ := HC7.out kk _ hget
            have y0 := cell_mod (HN89.out.trans hmr) y0
            have HI1 := hideIt (show ∀ W, Mod [] w11 W → Calls Tryz.prog 23 #[.slice a1 xs1.length k1, .int .i64 id] W (KBool p W) from fun W hW => by
              have := kin_any (HK1.out.keep hW) (by omega) id
              rw [d1] at this
              exact this)
            have HI2 := hideIt (show ∀ W, Mod [] w11 W → Calls Tryz.prog 23 #[.slice a2 xs2.length k2, .int .i64 id] W (KBool q' W) from fun W hW => by
              have := kin_any (HK2.out.keep hW) (by omega) id
              rw [d2] at this
              exact this)
            have HI3 := hideIt (show ∀ W, Mod [] w11 W → Calls Tryz.prog 23 #[.slice a3 xs3.length k3, .int .i64 id] W (KBool r W) from fun W hW => by
              have := kin_any (HK3.out.keep hW) (by omega) id
              rw [d3] at this
              exact this)
            have HI4 := hideIt (show ∀ W, Mod [] w11 W → Calls Tryz.prog 23 #[.slice a4 xs4.length k4, .int .i64 id] W (KBool s' W) from fun W hW => by
              have := kin_any (HK4.out.keep hW) (by have := HL.out; omega) id
              rw [d4] at this
              exact this)
            have HI5 := hideIt (show ∀ W, Mod [] w11 W → Calls Tryz.prog 23 #[.slice a5 xs5.length k5, .int .i64 id] W (KBool u W) from fun W hW => by
              have := kin_any (HK5.out.keep hW) (by have := HL.out; omega) id
              rw [d5] at this
              exact this)
            have HI6 := hideIt (show ∀ W, Mod [] w11 W → Calls Tryz.prog 23 #[.slice a6 xs6.length k6, .int .i64 id] W (KBool v W) from fun W hW => by
              have := kin_any (HK6.out.keep hW) (by have := HL.out; omega) id
              rw [d6] at this
              exact this)
            have HY0 := hideIt hmr
            clear d1 d2 d3 d4 d5 d6 hmr hget
            go_wp2_with fail
            clear y0
            refine (HI1.out _ HY0.out).mono ?_
            rintro e y1 ⟨rfl, hm⟩
            have HY1 := hideIt (HY0.out.trans hm)
            clear hm HI1 HY0
            go_wp2_with fail
            refine (HI2.out _ HY1.out).mono ?_
            rintro e y2 ⟨rfl, hm⟩
            have HY2 := hideIt (HY1.out.trans hm)
            clear hm HI2 HY1
            go_wp2_with fail
            refine (HI3.out _ HY2.out).mono ?_
            rintro e y3 ⟨rfl, hm⟩
            have HY3 := hideIt (HY2.out.trans hm)
            clear hm HI3 HY2
            go_wp2_with fail
            refine (HI4.out _ HY3.out).mono ?_
            rintro e y4 ⟨rfl, hm⟩
            have HY4 := hideIt (HY3.out.trans hm)
            clear hm HI4 HY3
            go_wp2_with fail
            refine (HI5.out _ HY4.out).mono ?_
            rintro e y5 ⟨rfl, hm⟩
            have HY5 := hideIt (HY4.out.trans hm)
            clear hm HI5 HY4
            go_wp2_with fail
            refine (HI6.out _ HY5.out).mono ?_
            rintro e y6 ⟨rfl, hm⟩
            have HY6 := hideIt (HY5.out.trans hm)
            clear hm HI6 HY5
            go_upto_region 33 with fail
            go_cut [251] (fun b wx => b = .bool false ∧ wx = y6)
            case first =>
              as_aux_lemma =>
                rcases hbits.out with ⟨rfl, rfl, rfl, rfl, rfl, rfl⟩ | ⟨rfl, rfl, rfl, rfl, rfl, rfl⟩ | ⟨rfl, rfl, rfl, rfl, rfl, rfl⟩ | ⟨rfl, rfl, rfl, rfl, rfl, rfl⟩ | ⟨rfl, rfl, rfl, rfl, rfl, rfl⟩ | ⟨rfl, rfl, rfl, rfl, rfl, rfl⟩ | ⟨rfl, rfl, rfl, rfl, rfl, rfl⟩
                all_goals
                  as_aux_lemma =>
                    go_wp2_with fail
                    go_meet
                    exact ⟨rfl, rfl⟩
            case rest =>
              obtain ⟨rfl, rfl⟩ := hcut
              go_wp2_with fail
              go_roundw
              case rel => exact ⟨kk + 1, by omega, by go_num, HY6.out⟩
              case measure => simp [intOf]; omega
          · have hge : ¬ ((kk : Int) < (gs.length : Int)) := by omega
            go_wp2
            go_ret
            exact ⟨rfl, HMW.out _ (HM9.out.trans hmr)⟩

end Go.Proofs.YthimaoipogocfaaGreat
