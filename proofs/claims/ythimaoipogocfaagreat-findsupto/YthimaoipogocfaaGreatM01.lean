import Derived.Test.YthimaoipogocfaaGreatJ20
import Derived.Deep.DeepCutAuto
import Derived.Test.YthimaoipogocfaaGreatJ19
import Derived.Maps.RangeWalk
namespace Go.Proofs.YthimaoipogocfaaGreat
open Go.RowKit Go.Maps
attribute [local go_sem] run_store_f32 run_neg_inf

theorem findG_mem {ts : List Tg} (hn : (ts.map (·.id)).Nodup) {s : Tg} (hs : s ∈ ts) : (findG ts s.id).isSome = true ∧ rectOfG ts s.id = R4 s.x0 s.y0 s.x1 s.y1 := by
  cases hf : findG ts s.id with
  | none => exact absurd rfl (findG_none hf s hs)
  | some n =>
    obtain ⟨r, hr, hid, hgd⟩ := findG_get hf
    have hrm := List.mem_of_getElem? hr
    have he : r.th = s.th := id_inj (L := ts.map Tg.th) (by rw [List.map_map]; exact hn) (List.mem_map.2 ⟨r, hrm, rfl⟩) (List.mem_map.2 ⟨s, hs, rfl⟩) hid
    refine ⟨rfl, ?_⟩
    unfold rectOfG
    rw [hf]
    simp only [hgd]
    have e1 := congrArg Th.x0 he
    have e2 := congrArg Th.y0 he
    have e3 := congrArg Th.x1 he
    have e4 := congrArg Th.y1 he
    simp only [Tg.th] at e1 e2 e3 e4
    rw [e1, e2, e3, e4]

theorem kGet_in {B : Nat} {w : World} {q fan : Nat} {L : List Th} {lg : List Int} (h : KRep B w q fan L lg) {t : Th} (ht : t ∈ L) : Calls Tryz.prog 27 #[.pointer (some ⟨q, 0, none⟩), .int .i64 t.id] w fun e w' => e = .returned (.tuple #[R4 t.x0 t.y0 t.x1 t.y1, .int .i64 0]) ∧ Mod [] w w' := by
  obtain ⟨ts, F, h1, rfl, h3, h4⟩ := h.out
  obtain ⟨s, hs, rfl⟩ := List.mem_map.1 ht
  obtain ⟨e1, e2⟩ := findG_mem h1.ids hs
  have := hGet_any h1 s.id
  unfold HGetPost at this
  rw [e1, e2] at this
  exact this

theorem kGet_out {B : Nat} {w : World} {q fan : Nat} {L : List Th} {lg : List Int} (h : KRep B w q fan L lg) {id : Int} (ht : ∀ t ∈ L, t.id ≠ id) : Calls Tryz.prog 27 #[.pointer (some ⟨q, 0, none⟩), .int .i64 id] w fun e w' => e = .returned (.tuple #[R4 0 0 0 0, .int .i64 3]) ∧ Mod [] w w' := by
  obtain ⟨ts, F, h1, rfl, h3, h4⟩ := h.out
  have hf : findG ts id = none := by
    cases hf : findG ts id with
    | none => rfl
    | some n =>
      obtain ⟨r, hr, hid, _⟩ := findG_get hf
      exact absurd hid (ht r.th (List.mem_map.2 ⟨r, List.mem_of_getElem? hr, rfl⟩))
  have := hGet_any h1 id
  unfold HGetPost rectOfG at this
  rw [hf] at this
  exact this

theorem rect_stood : Tryz.prog.stoodInHeld 36 = false := by kernel_rfl
theorem rect_guard : Tryz.prog.eqGuardType Tryz.prog.depth 36 = false := by kernel_rfl
theorem not_found {p : Th → Bool} {L : List Th} {id : Int} (h : ∀ t ∈ L, t.id ≠ id) : decide (id ∈ foundT p L) = false := decide_eq_false (fun hx => by
  obtain ⟨t, ht, e, _⟩ := of_mem_foundT hx
  exact h t ht e)

set_option maxRecDepth 100000 in
set_option maxHeartbeats 4000000 in
theorem seen_here {B : Nat} {w : World} {q fan : Nat} {L : List Th} {lg : List Int} (h : KRep B w q fan L lg) (id x0 y0 x1 y1 : Int) (hb : (-2000 ≤ x0 ∧ x0 ≤ x1 ∧ x1 ≤ 2000) ∧ (-2000 ≤ y0 ∧ y0 ≤ y1 ∧ y1 ≤ 2000)) (hin : (⟨id, x0, y0, x1, y1⟩ : Th) ∈ L) :
    Calls Tryz.prog 17 #[.pointer (some ⟨q, 0, none⟩), .int .i64 id, R4 x0 y0 x1 y1, .bool false] w (KBool true w) := by
  obtain ⟨⟨b1, b2, b3⟩, b4, b5, b6⟩ := hb
  have hids := h.ids
  have hlen := h.len
  have hm0 : Mod [] w (w.alloc (B4 x0 y0 x1 y1)) := Mod.alloc _ _
  have hz := heap_alloc_new w (B4 x0 y0 x1 y1)
  have HD1 := hideIt (show ∀ x y, (x = x0 ∨ x = x1) → (y = y0 ∨ y = y1) → decide (id ∈ foundT (meetT x y x y) L) = true from fun x y hx hy => (dec_foundT hids hin).trans (meetI_iff.2 (by simp only; omega)))
  have HD2 := hideIt (show ∀ o y, (o = x0 - 1 ∨ o = x1 + 1) → decide (id ∈ foundT (meetT o y o y) L) = false from fun o y ho => (dec_foundT hids hin).trans (by cases hm : meetT o y o y ⟨id, x0, y0, x1, y1⟩ with | false => rfl | true => (have := meetI_iff.1 hm; simp only at this; omega)))
  have HD3 := hideIt (show decide (id ∈ foundT (holdT x0 y0 x1 y1) L) = true from (dec_foundT hids hin).trans (holdI_iff.2 (by simp only; omega)))
  have HGET := hideIt (show Calls Tryz.prog 27 #[.pointer (some ⟨q, 0, none⟩), .int .i64 id] (w.alloc (B4 x0 y0 x1 y1)) (fun e w' => e = .returned (.tuple #[R4 x0 y0 x1 y1, .int .i64 0]) ∧ Mod [] (w.alloc (B4 x0 y0 x1 y1)) w') from kGet_in (h.keep hm0) hin)
  have HK := hideIt (show ∀ W, Mod [] (w.alloc (B4 x0 y0 x1 y1)) W → KRep B W q fan L lg from fun W hm => h.keep (hm0.trans hm))
  have HZ := hideIt (show ∀ W, Mod [] (w.alloc (B4 x0 y0 x1 y1)) W → W.heap[w.heap.size]? = some (B4 x0 y0 x1 y1) from fun W hm => (hm.block _ (by simp) (by simp)).trans hz)
  have HM0 := hideIt hm0
  have HL := hideIt (show ∀ p, (foundT p L).length ≤ 100000 from fun p => by have := foundT_len p L; omega)
  clear h hin hids hm0 hz hlen
  have hst := rect_stood
  have hqg := rect_guard
  go_enter Tryz.func17, Tryz.ntmps17
  go_wp2_with fail
  refine HGET.out.mono ?_
  rintro e w1 ⟨rfl, hm1⟩
  obtain ⟨z0, z1, z2, z3⟩ := cellsB4 (HZ.out _ hm1)
  have hsz := lt_of_block (HZ.out _ hm1)
  have HM1 := hideIt hm1
  clear hm1 HGET
  go_wp2_with fail
  clear z0 z1 z2 z3 hsz
  go_loopw [11] (fun i wr => ∃ k : Nat, k ≤ 4 ∧ i = .int .i64 k ∧ Mod [] (w.alloc (B4 x0 y0 x1 y1)) wr) (fun i _ => 4 - (intOf i).toNat)
  case atStart => exact ⟨0, by omega, rfl, HM1.out.trans (Mod.alloc _ _)⟩
  case round =>
    obtain ⟨k, hk, rfl, hmr⟩ := hrel
    obtain ⟨z0, z1, z2, z3⟩ := cellsB4 (HZ.out _ hmr)
    have HMR := hideIt hmr
    clear hmr
    by_cases hlt : k < 4
    · have hlt' : (k : Int) < 4 := by omega
      go_upto_region 7 with fail
      go_cut [12] (fun v wx => ∃ x, v = .int .i64 x ∧ (x = x0 ∨ x = x1) ∧ ((k % 2 = 0 ∧ x = x0) ∨ (k % 2 = 1 ∧ x = x1)) ∧ wr = wx)
      case first =>
        as_aux_lemma =>
          have hk4 : k = 0 ∨ k = 1 ∨ k = 2 ∨ k = 3 := by omega
          rcases hk4 with rfl | rfl | rfl | rfl
          all_goals
            go_wp2_with fail
            go_meet
            exact ⟨_, rfl, by omega, by first | omega | (simp; done) | (simp; omega), rfl⟩
      case rest =>
        obtain ⟨x, rfl, hx, hxk, rfl⟩ := hcut
        go_upto_region 8 with fail
        go_cut [13] (fun v wx => ∃ y, v = .int .i64 y ∧ (y = y0 ∨ y = y1) ∧ wr = wx)
        case first =>
          as_aux_lemma =>
            have hk4 : k = 0 ∨ k = 1 ∨ k = 2 ∨ k = 3 := by omega
            clear hx hxk
            rcases hk4 with rfl | rfl | rfl | rfl
            all_goals
              go_wp2_with fail
              go_meet
              exact ⟨_, rfl, by omega, rfl⟩
        case rest =>
          obtain ⟨y, rfl, hy, rfl⟩ := hcut
          have hr1 : RectOk x y x y := by unfold RectOk; omega
          have HF1 := hideIt (kmeets_any (HK.out _ HMR.out) hr1)
          have HX := hideIt (And.intro hx (And.intro hxk hy))
          have hxb : -2000 ≤ x ∧ x ≤ 2000 := by omega
          obtain ⟨hxb1, hxb2⟩ := hxb
          clear hr1 hx hxk hy z0 z1 z2 z3
          go_wp2_with fail
          refine HF1.out.mono ?_
          rintro e w2 ⟨s1, rfl, hrow1, hm2⟩
          have HR1 := hideIt hrow1
          have HM2 := hideIt hm2
          clear hrow1 hm2 HF1
          go_upto_region 10 with fail
          go_cut [16] (fun v wx => ∃ o, v = .int .i64 o ∧ (o = x0 - 1 ∨ o = x1 + 1) ∧ w2 = wx)
          case first =>
            as_aux_lemma =>
              have hk4 : k = 0 ∨ k = 1 ∨ k = 2 ∨ k = 3 := by omega
              obtain ⟨_, hxk, _⟩ := HX.out
              clear HX
              rcases hk4 with rfl | rfl | rfl | rfl
              all_goals
                go_wp2_with fail
                go_meet
                exact ⟨_, rfl, by omega, rfl⟩
          case rest =>
            obtain ⟨o, rfl, ho, rfl⟩ := hcut
            obtain ⟨hx, hxk, hy⟩ := HX.out
            have hr2 : RectOk o y o y := by unfold RectOk; omega
            have HF2 := hideIt (kmeets_any (HK.out _ (HMR.out.trans HM2.out)) hr2)
            have HD2' := hideIt (HD2.out o y ho)
            have HD1' := hideIt (HD1.out x y hx hy)
            clear hr2 ho hx hxk hy HX
            go_wp2_with fail
            refine HF2.out.mono ?_
            rintro e w3 ⟨s2, rfl, hrow2, hm3⟩
            have HR2 := hideIt hrow2
            have HM3 := hideIt hm3
            have HI1 := hideIt (show Calls Tryz.prog 23 #[s1, .int .i64 id] w3 (KBool true w3) from by
              have := kin_any (HR1.out.keep hm3) (HL.out _) id
              rw [HD1'.out] at this
              exact this)
            clear hrow2 hm3 HF2
            go_wp2_with fail
            refine HI1.out.mono ?_
            rintro e w4 ⟨rfl, hm4⟩
            have HI2 := hideIt (show Calls Tryz.prog 23 #[s2, .int .i64 id] w4 (KBool false w4) from by
              have := kin_any (HR2.out.keep hm4) (HL.out _) id
              rw [HD2'.out] at this
              exact this)
            have HM4 := hideIt hm4
            clear hm4 HI1
            go_wp2_with fail
            refine HI2.out.mono ?_
            rintro e w5 ⟨rfl, hm5⟩
            have HM5 := hideIt ((((HMR.out.trans HM2.out).trans HM3.out).trans HM4.out).trans hm5)
            clear hm5 HI2 HR1 HR2 HM2 HM3 HM4
            go_wp2_with fail
            go_roundw
            case rel => exact ⟨k + 1, by omega, by go_num, HM5.out⟩
            case measure => simp [intOf]; omega
    · have hge : ¬ ((k : Int) < 4) := by omega
      have hr1 : RectOk x0 y0 x1 y1 := by unfold RectOk; omega
      have HF1 := hideIt (kwithin_any (HK.out _ HMR.out) hr1)
      clear hr1
      go_wp2_with fail
      clear z0 z1 z2 z3
      refine HF1.out.mono ?_
      rintro e w2 ⟨s1, rfl, hrow1, hm2⟩
      have HI1 := hideIt (show Calls Tryz.prog 23 #[s1, .int .i64 id] w2 (KBool true w2) from by
        have := kin_any hrow1 (HL.out _) id
        rw [HD3.out] at this
        exact this)
      have HM2 := hideIt hm2
      clear hrow1 hm2 HF1
      go_wp2_with fail
      refine HI1.out.mono ?_
      rintro e w3 ⟨rfl, hm3⟩
      have HF := hideIt (((HM0.out.trans HMR.out).trans HM2.out).trans hm3)
      clear hm3
      go_wp2
      go_ret
      exact ⟨rfl, HF.out⟩

set_option maxRecDepth 100000 in
set_option maxHeartbeats 4000000 in
theorem seen_gone {B : Nat} {w : World} {q fan : Nat} {L : List Th} {lg : List Int} (h : KRep B w q fan L lg) (id x0 y0 x1 y1 : Int) (hb : (-2000 ≤ x0 ∧ x0 ≤ x1 ∧ x1 ≤ 2000) ∧ (-2000 ≤ y0 ∧ y0 ≤ y1 ∧ y1 ≤ 2000)) (hin : ∀ t ∈ L, t.id ≠ id) :
    Calls Tryz.prog 17 #[.pointer (some ⟨q, 0, none⟩), .int .i64 id, R4 x0 y0 x1 y1, .bool true] w (KBool true w) := by
  obtain ⟨⟨b1, b2, b3⟩, b4, b5, b6⟩ := hb
  have hids := h.ids
  have hlen := h.len
  have hm0 : Mod [] w (w.alloc (B4 x0 y0 x1 y1)) := Mod.alloc _ _
  have hz := heap_alloc_new w (B4 x0 y0 x1 y1)
  have HD1 := hideIt (show ∀ x y, (x = x0 ∨ x = x1) → (y = y0 ∨ y = y1) → decide (id ∈ foundT (meetT x y x y) L) = false from fun x y hx hy => not_found hin)
  have HD2 := hideIt (show ∀ o y, (o = x0 - 1 ∨ o = x1 + 1) → decide (id ∈ foundT (meetT o y o y) L) = false from fun o y ho => not_found hin)
  have HD3 := hideIt (show decide (id ∈ foundT (holdT x0 y0 x1 y1) L) = false from not_found hin)
  have HGET := hideIt (show Calls Tryz.prog 27 #[.pointer (some ⟨q, 0, none⟩), .int .i64 id] (w.alloc (B4 x0 y0 x1 y1)) (fun e w' => e = .returned (.tuple #[R4 0 0 0 0, .int .i64 3]) ∧ Mod [] (w.alloc (B4 x0 y0 x1 y1)) w') from kGet_out (h.keep hm0) hin)
  have HK := hideIt (show ∀ W, Mod [] (w.alloc (B4 x0 y0 x1 y1)) W → KRep B W q fan L lg from fun W hm => h.keep (hm0.trans hm))
  have HZ := hideIt (show ∀ W, Mod [] (w.alloc (B4 x0 y0 x1 y1)) W → W.heap[w.heap.size]? = some (B4 x0 y0 x1 y1) from fun W hm => (hm.block _ (by simp) (by simp)).trans hz)
  have HM0 := hideIt hm0
  have HL := hideIt (show ∀ p, (foundT p L).length ≤ 100000 from fun p => by have := foundT_len p L; omega)
  clear h hin hids hm0 hz hlen
  go_enter Tryz.func17, Tryz.ntmps17
  go_wp2_with fail
  refine HGET.out.mono ?_
  rintro e w1 ⟨rfl, hm1⟩
  obtain ⟨z0, z1, z2, z3⟩ := cellsB4 (HZ.out _ hm1)
  have hsz := lt_of_block (HZ.out _ hm1)
  have HM1 := hideIt hm1
  clear hm1 HGET
  go_wp2_with fail
  clear z0 z1 z2 z3 hsz
  go_loopw [11] (fun i wr => ∃ k : Nat, k ≤ 4 ∧ i = .int .i64 k ∧ Mod [] (w.alloc (B4 x0 y0 x1 y1)) wr) (fun i _ => 4 - (intOf i).toNat)
  case atStart => exact ⟨0, by omega, rfl, HM1.out.trans (Mod.alloc _ _)⟩
  case round =>
    obtain ⟨k, hk, rfl, hmr⟩ := hrel
    obtain ⟨z0, z1, z2, z3⟩ := cellsB4 (HZ.out _ hmr)
    have HMR := hideIt hmr
    clear hmr
    by_cases hlt : k < 4
    · have hlt' : (k : Int) < 4 := by omega
      go_upto_region 7 with fail
      go_cut [12] (fun v wx => ∃ x, v = .int .i64 x ∧ (x = x0 ∨ x = x1) ∧ ((k % 2 = 0 ∧ x = x0) ∨ (k % 2 = 1 ∧ x = x1)) ∧ wr = wx)
      case first =>
        as_aux_lemma =>
          have hk4 : k = 0 ∨ k = 1 ∨ k = 2 ∨ k = 3 := by omega
          rcases hk4 with rfl | rfl | rfl | rfl
          all_goals
            go_wp2_with fail
            go_meet
            exact ⟨_, rfl, by omega, by first | omega | (simp; done) | (simp; omega), rfl⟩
      case rest =>
        obtain ⟨x, rfl, hx, hxk, rfl⟩ := hcut
        go_upto_region 8 with fail
        go_cut [13] (fun v wx => ∃ y, v = .int .i64 y ∧ (y = y0 ∨ y = y1) ∧ wr = wx)
        case first =>
          as_aux_lemma =>
            have hk4 : k = 0 ∨ k = 1 ∨ k = 2 ∨ k = 3 := by omega
            clear hx hxk
            rcases hk4 with rfl | rfl | rfl | rfl
            all_goals
              go_wp2_with fail
              go_meet
              exact ⟨_, rfl, by omega, rfl⟩
        case rest =>
          obtain ⟨y, rfl, hy, rfl⟩ := hcut
          have hr1 : RectOk x y x y := by unfold RectOk; omega
          have HF1 := hideIt (kmeets_any (HK.out _ HMR.out) hr1)
          have HX := hideIt (And.intro hx (And.intro hxk hy))
          have hxb : -2000 ≤ x ∧ x ≤ 2000 := by omega
          obtain ⟨hxb1, hxb2⟩ := hxb
          clear hr1 hx hxk hy z0 z1 z2 z3
          go_wp2_with fail
          refine HF1.out.mono ?_
          rintro e w2 ⟨s1, rfl, hrow1, hm2⟩
          have HR1 := hideIt hrow1
          have HM2 := hideIt hm2
          clear hrow1 hm2 HF1
          go_upto_region 10 with fail
          go_cut [16] (fun v wx => ∃ o, v = .int .i64 o ∧ (o = x0 - 1 ∨ o = x1 + 1) ∧ w2 = wx)
          case first =>
            as_aux_lemma =>
              have hk4 : k = 0 ∨ k = 1 ∨ k = 2 ∨ k = 3 := by omega
              obtain ⟨_, hxk, _⟩ := HX.out
              clear HX
              rcases hk4 with rfl | rfl | rfl | rfl
              all_goals
                go_wp2_with fail
                go_meet
                exact ⟨_, rfl, by omega, rfl⟩
          case rest =>
            obtain ⟨o, rfl, ho, rfl⟩ := hcut
            obtain ⟨hx, hxk, hy⟩ := HX.out
            have hr2 : RectOk o y o y := by unfold RectOk; omega
            have HF2 := hideIt (kmeets_any (HK.out _ (HMR.out.trans HM2.out)) hr2)
            have HD2' := hideIt (HD2.out o y ho)
            have HD1' := hideIt (HD1.out x y hx hy)
            clear hr2 ho hx hxk hy HX
            go_wp2_with fail
            refine HF2.out.mono ?_
            rintro e w3 ⟨s2, rfl, hrow2, hm3⟩
            have HR2 := hideIt hrow2
            have HM3 := hideIt hm3
            have HI1 := hideIt (show Calls Tryz.prog 23 #[s1, .int .i64 id] w3 (KBool false w3) from by
              have := kin_any (HR1.out.keep hm3) (HL.out _) id
              rw [HD1'.out] at this
              exact this)
            clear hrow2 hm3 HF2
            go_wp2_with fail
            refine HI1.out.mono ?_
            rintro e w4 ⟨rfl, hm4⟩
            have HI2 := hideIt (show Calls Tryz.prog 23 #[s2, .int .i64 id] w4 (KBool false w4) from by
              have := kin_any (HR2.out.keep hm4) (HL.out _) id
              rw [HD2'.out] at this
              exact this)
            have HM4 := hideIt hm4
            clear hm4 HI1
            go_wp2_with fail
            refine HI2.out.mono ?_
            rintro e w5 ⟨rfl, hm5⟩
            have HM5 := hideIt ((((HMR.out.trans HM2.out).trans HM3.out).trans HM4.out).trans hm5)
            clear hm5 HI2 HR1 HR2 HM2 HM3 HM4
            go_wp2_with fail
            go_roundw
            case rel => exact ⟨k + 1, by omega, by go_num, HM5.out⟩
            case measure => simp [intOf]; omega
    · have hge : ¬ ((k : Int) < 4) := by omega
      have hr1 : RectOk x0 y0 x1 y1 := by unfold RectOk; omega
      have HF1 := hideIt (kwithin_any (HK.out _ HMR.out) hr1)
      clear hr1
      go_wp2_with fail
      clear z0 z1 z2 z3
      refine HF1.out.mono ?_
      rintro e w2 ⟨s1, rfl, hrow1, hm2⟩
      have HI1 := hideIt (show Calls Tryz.prog 23 #[s1, .int .i64 id] w2 (KBool false w2) from by
        have := kin_any hrow1 (HL.out _) id
        rw [HD3.out] at this
        exact this)
      have HM2 := hideIt hm2
      clear hrow1 hm2 HF1
      go_wp2_with fail
      refine HI1.out.mono ?_
      rintro e w3 ⟨rfl, hm3⟩
      have HF := hideIt (((HM0.out.trans HMR.out).trans HM2.out).trans hm3)
      clear hm3
      go_wp2
      go_ret
      exact ⟨rfl, HF.out⟩

end Go.Proofs.YthimaoipogocfaaGreat

namespace Go.Proofs.YthimaoipogocfaaGreat
open Go.RowKit Go.Maps
attribute [local go_sem] run_store_f32 run_neg_inf

/-! ### a range over the map of things -/
section
variable {P : Program} (w : World) {ops : Array Oper} {rest : List Oper} {o : Oper} {a : Act} {Q : Exit → Act → World → Prop}

theorem wpList_rangeT (hg : o.guard = none) (m : Operand) (t k e : TypeId) (hop : o.op = Op.range t m) (ht : P.underlying t = some (.map k e)) (bm : Nat) (es : Array MapEntry) (clock : Nat)
    (hm : a.eval m = .map (some bm)) (hb : w.heap[bm]? = some (.map es clock))
    (hK : wpList P ops Q rest (a.put o.dst (.pointer (some ⟨w.heap.size, 0, none⟩))) (w.alloc (.mapIter (some bm) clock #[] clock))) :
    wpList P ops Q (o :: rest) a w := by
  refine wpList_plain hg fun K' hK' => ?_
  unfold Oper.wp
  simp [execOp, hop, hm, run_range_map w t k e bm es clock ht hb, Result.andThen]
  exact hK' _ _ hK

theorem wpList_nextT (hg : o.guard = none) (it : Operand) (hop : o.op = Op.next it false) (r bm clock : Nat) (seen : Array Nat) (es : Array MapEntry)
    (hit : a.eval it = .pointer (some ⟨r, 0, none⟩)) (hr : w.heap[r]? = some (.mapIter (some bm) clock seen clock)) (hb : w.heap[bm]? = some (.map es clock)) (hB : Born es clock)
    (hDone : (leftOf es seen).size = 0 → wpList P ops Q rest (a.put o.dst (.tuple #[.bool false])) w)
    (hMore : ∀ e w', e ∈ (leftOf es seen).toList → Mod [r] w w' → w'.heap[r]? = some (.mapIter (some bm) clock (seen.push e.born) clock) → (Instr.entry (.pointer (some ⟨r, 0, none⟩))).run P w' = .ok (.tuple #[e.key, e.val]) w' →
      wpList P ops Q rest (a.put o.dst (.tuple #[.bool true, e.key, e.val])) w') :
    wpList P ops Q (o :: rest) a w := by
  refine wpList_plain hg fun K' hK' => ?_
  unfold Oper.wp
  rcases run_next_at (P := P) w o.type r bm clock clock seen es clock hr hb hB.1 (Nat.le_refl _) with ⟨h0, hrun⟩ | ⟨e, he, w1, hal, hrun⟩
  · simp [execOp, hop, hit, hrun, Result.andThen]
    exact hK' _ _ (hDone h0)
  · have hm1 : Mod [r] w w1 := by
      rcases hal with rfl | rfl
      · exact Mod.refl _ _
      · exact Mod.drew _
    have hr1 : w1.heap[r]? = some (.mapIter (some bm) clock seen clock) := by
      rcases hal with rfl | rfl
      · exact hr
      · exact hr
    have hb1 : w1.heap[bm]? = some (.map es clock) := by
      rcases hal with rfl | rfl
      · exact hb
      · exact hb
    obtain ⟨hm2, hr2⟩ := setBlock_modT (.mapIter (some bm) clock (seen.push e.born) clock) hr1
    have hne : bm ≠ r := fun h => by
      rw [h, hr1] at hb1
      cases hb1
    have hb2 := (hm2.block bm (lt_of_block hb1) (by simpa using hne)).trans hb1
    have hen := run_entry_at (P := P) _ r bm clock seen es clock e hr2 hb2 (mem_left he).1 hB.2
    simp [execOp, hop, hit, hrun, Result.andThen]
    exact hK' _ _ (hMore e _ he (hm1.trans hm2) hr2 hen)
end

/-! ### what was reckoned over the entries that came -/
def cntZ (c : Tg → Nat) (Z : List (MapEntry × Tg)) (seen : Array Nat) : Nat := (Z.map (fun p => if seen.contains p.1.born then c p.2 else 0)).sum
theorem cntZ_nil (c : Tg → Nat) (Z : List (MapEntry × Tg)) : cntZ c Z #[] = 0 := by
  induction Z with
  | nil => rfl
  | cons p Z ih => simp [cntZ] at ih ⊢; exact ih
theorem cntZ_same (c : Tg → Nat) {Z : List (MapEntry × Tg)} {seen : Array Nat} {b : Nat} (h : ∀ p ∈ Z, p.1.born ≠ b) : cntZ c Z (seen.push b) = cntZ c Z seen := by
  unfold cntZ
  congr 1
  refine List.map_congr_left (fun p hp => ?_)
  have := h p hp
  simp [this]
theorem cntZ_step (c : Tg → Nat) {Z : List (MapEntry × Tg)} {seen : Array Nat} {e : MapEntry} {t : Tg} (hn : (Z.map (·.1.born)).Nodup) (hm : (e, t) ∈ Z) (hs : seen.contains e.born = false) : cntZ c Z (seen.push e.born) = cntZ c Z seen + c t := by
  induction Z with
  | nil => cases hm
  | cons p Z ih =>
    rw [List.map_cons, List.nodup_cons] at hn
    have e1 : ∀ s, cntZ c (p :: Z) s = (if s.contains p.1.born then c p.2 else 0) + cntZ c Z s := fun s => by simp [cntZ]
    rw [e1, e1]
    rcases List.mem_cons.1 hm with hm | hm
    · subst hm
      have h2 : ∀ q ∈ Z, q.1.born ≠ e.born := fun q hq h => hn.1 (List.mem_map.2 ⟨q, hq, h⟩)
      rw [cntZ_same c h2, hs]
      simp
      omega
    · have hne : p.1.born ≠ e.born := fun h => hn.1 (List.mem_map.2 ⟨(e, t), hm, h.symm⟩)
      rw [ih hn.2 hm]
      have h3 : (seen.push e.born).contains p.1.born = seen.contains p.1.born := by simp [hne]
      rw [h3]
      omega
theorem cntZ_all (c : Tg → Nat) {Z : List (MapEntry × Tg)} {seen : Array Nat} (h : ∀ p ∈ Z, seen.contains p.1.born = true) : cntZ c Z seen = (Z.map (fun p => c p.2)).sum := by
  unfold cntZ
  congr 1
  refine List.map_congr_left (fun p hp => ?_)
  rw [h p hp]
  rfl
theorem cntZ_le (c : Tg → Nat) (Z : List (MapEntry × Tg)) (seen : Array Nat) : cntZ c Z seen ≤ (Z.map (fun p => c p.2)).sum := by
  induction Z with
  | nil => simp [cntZ]
  | cons p Z ih =>
    have e1 : cntZ c (p :: Z) seen = (if seen.contains p.1.born then c p.2 else 0) + cntZ c Z seen := by simp [cntZ]
    rw [e1, List.map_cons, List.sum_cons]
    split <;> omega

theorem EntP.zip {es : List MapEntry} {ts : List Tg} (h : EntP es ts) : (es.zip ts).map (·.1) = es ∧ (es.zip ts).map (·.2) = ts ∧ ∀ p ∈ es.zip ts, p.1.key = .int .i64 p.2.id ∧ p.1.val = .pointer (some ⟨p.2.blk, 0, none⟩) := by
  have hl := h.length
  refine ⟨List.map_fst_zip (by omega), List.map_snd_zip (by omega), ?_⟩
  induction es generalizing ts with
  | nil => simp
  | cons e es ih =>
    cases ts with
    | nil => simp
    | cons t ts =>
      obtain ⟨h1, h2, h3⟩ := h.cons
      intro p hp
      rw [List.zip_cons_cons] at hp
      rcases List.mem_cons.1 hp with rfl | hp
      · exact ⟨h1, h2⟩
      · exact ih h3 h3.length p hp

/-! ### pairs -/
def pairB (a b : Tg) : Bool := decide (a.id < b.id) && meetI a.x0 a.y0 a.x1 a.y1 b.x0 b.y0 b.x1 b.y1
def pairsOf (ts : List Tg) (a : Tg) : Nat := (ts.filter (pairB a)).length
def pairsG (ts : List Tg) : Nat := (ts.map (pairsOf ts)).sum

theorem sum_le (ts : List Tg) (c : Tg → Nat) {m : Nat} (h : ∀ t ∈ ts, c t ≤ m) : (ts.map c).sum ≤ ts.length * m := by
  induction ts with
  | nil => simp
  | cons t ts ih =>
    have h1 := h t (by simp)
    have h2 := ih (fun s hs => h s (by simp [hs]))
    rw [List.map_cons, List.sum_cons, List.length_cons, Nat.add_mul, Nat.one_mul]
    omega
theorem pairsG_le (ts : List Tg) : pairsG ts ≤ ts.length * ts.length := sum_le ts _ (fun _ _ => List.length_filter_le _ _)

end Go.Proofs.YthimaoipogocfaaGreat

namespace Go.Proofs.YthimaoipogocfaaGreat
open Go.RowKit Go.Maps Go.Sort
attribute [local go_sem] run_store_f32 run_neg_inf

/-! ### Pairs$1 looks at things -/
abbrev numO (n : Int) : Obj := .cells #[.int .i64 n] 3 (0, 0)
abbrev ptO (p : Nat) : Obj := .cells #[.pointer (some ⟨p, 0, none⟩)] 113 (0, 0)
theorem cell_numO {w : World} {p : Nat} {n : Int} (h : w.heap[p]? = some (numO n)) : w.cell? ⟨p, 0, none⟩ = some (.int .i64 n) := by rw [cell_of_block h]; rfl
theorem cell_ptO {w : World} {p q : Nat} (h : w.heap[p]? = some (ptO q)) : w.cell? ⟨p, 0, none⟩ = some (.pointer (some ⟨q, 0, none⟩)) := by rw [cell_of_block h]; rfl
theorem numO_set {w : World} {p : Nat} {n : Int} (h : w.heap[p]? = some (numO n)) (m : Int) : (w.setCell ⟨p, 0, none⟩ (.int .i64 m)).heap[p]? = some (numO m) := by rw [block_setCell h]; rfl

/-- what Pairs$1 has counted -/
def PairS (a : Tg) (ab pb n0 : Nat) (acc : List Tg) (G : List Nat) (w : World) : Prop :=
  G = [pb] ∧ w.heap[pb]? = some (numO ((n0 + (acc.filter (pairB a)).length : Nat) : Int)) ∧ w.heap[ab]? = some (ptO a.blk) ∧ TgAt w a ∧ ab ≠ pb ∧ a.blk ≠ pb ∧ n0 ≤ 1000000

theorem pairB_iff {a b : Tg} : pairB a b = true ↔ (a.id < b.id ∧ meetI a.x0 a.y0 a.x1 a.y1 b.x0 b.y0 b.x1 b.y1 = true) := by simp [pairB]

theorem pairSeen {a t : Tg} {ab pb n0 : Nat} {acc : List Tg} {w w' : World} (hS : PairS a ab pb n0 acc [pb] w) (hm : Mod [] w w') (hp : pairB a t = false) : VisPost (PairS a ab pb n0) (acc ++ [t]) [pb] w (.returned (.tuple #[])) w' := by
  obtain ⟨_, h1, h2, h3, h4, h5, h6⟩ := hS
  refine ⟨rfl, [pb], ⟨rfl, ?_, (hm.block ab (lt_of_block h2) (by simp)).trans h2, h3.kept hm (by simp), h4, h5, h6⟩, fun x hx => .inl hx, hm.nil⟩
  rw [List.filter_append, List.filter_cons_of_neg (by simp [hp]), List.filter_nil, List.append_nil]
  exact (hm.block pb (lt_of_block h1) (by simp)).trans h1

theorem pairMore {a t : Tg} {ab pb n0 : Nat} {acc : List Tg} {w w' : World} (hS : PairS a ab pb n0 acc [pb] w) (hm : Mod [] w w') (hp : pairB a t = true) : w'.heap[pb]? = some (numO ((n0 + (acc.filter (pairB a)).length : Nat) : Int)) ∧ VisPost (PairS a ab pb n0) (acc ++ [t]) [pb] w (.returned (.tuple #[])) (w'.setCell ⟨pb, 0, none⟩ (.int .i64 (((n0 + (acc.filter (pairB a)).length : Nat) : Int) + 1))) := by
  obtain ⟨_, h1, h2, h3, h4, h5, h6⟩ := hS
  have h1' := (hm.block pb (lt_of_block h1) (by simp)).trans h1
  have hms := Mod.setCell (F := [pb]) w' ⟨pb, 0, none⟩ (.int .i64 (((n0 + (acc.filter (pairB a)).length : Nat) : Int) + 1)) (by simp)
  have h2' := (hm.block ab (lt_of_block h2) (by simp)).trans h2
  refine ⟨h1', rfl, [pb], ⟨rfl, ?_, (hms.block ab (lt_of_block h2') (by simpa using h4)).trans h2', (h3.kept hm (by simp)).kept hms (by simpa using h5), h4, h5, h6⟩, fun x hx => .inl hx, hm.nil.trans hms⟩
  rw [List.filter_append, List.filter_cons_of_pos hp, List.filter_nil, List.length_append, numO_set h1']
  simp
  omega

set_option maxRecDepth 100000 in
set_option maxHeartbeats 400000 in
theorem pairs1_no {a t : Tg} {ab pb n0 : Nat} {acc : List Tg} {w : World} (hac : acc.length < 1000) (hS : PairS a ab pb n0 acc [pb] w) (ht : TgAt w t) (hid : ¬ a.id < t.id) :
    Calls Tryz.prog 70 #[.pointer (some ⟨t.blk, 0, none⟩), .pointer (some ⟨ab, 0, none⟩), .pointer (some ⟨pb, 0, none⟩)] w (VisPost (PairS a ab pb n0) (acc ++ [t]) [pb] w) := by
  obtain ⟨_, h1, h2, h3, h4, h5, h6⟩ := id hS
  obtain ⟨t4, t5, t6, t7, t8⟩ := ht.rest
  obtain ⟨a4, a5, a6, a7, a8⟩ := h3.rest
  have c1 := cell_numO h1
  have c2 := cell_ptO h2
  have hle := List.length_filter_le (pairB a) acc
  have HNO := hideIt (fun w' (hm : Mod [] w w') (hp : pairB a t = false) => pairSeen hS hm hp)
  have HPI := hideIt (pairB_iff (a := a) (b := t))
  generalize hN : n0 + (acc.filter (pairB a)).length = N at *
  have hNle : (N : Int) ≤ 2000000 := by omega
  clear h1 h2 h3 h4 h5 h6 hS ht hle hN
  have HP := hideIt (show pairB a t = false from by
    cases hpb : pairB a t with
    | false => rfl
    | true => exact absurd (HPI.out.1 hpb).1 hid)
  have hdec : decide (a.id < t.id) = false := decide_eq_false hid
  have d2 := cell_mod (Mod.drew w) c2
  have d4 := cell_mod (Mod.drew w) a4
  have e4 := cell_mod (Mod.drew w) t4
  clear HPI
  go_enter Tryz.func70, Tryz.ntmps70
  go_wp2_with fail
  go_region
  all_goals
    have HF := hideIt (HNO.out w.drew (Mod.drew _) HP.out)
    clear HNO
    go_wp2
    go_end0
    exact HF.out

set_option maxRecDepth 100000 in
set_option maxHeartbeats 1000000 in
theorem pairs1_any {a t : Tg} {ab pb n0 : Nat} {acc : List Tg} {w : World} (hac : acc.length < 1000) (hS : PairS a ab pb n0 acc [pb] w) (ht : TgAt w t) :
    Calls Tryz.prog 70 #[.pointer (some ⟨t.blk, 0, none⟩), .pointer (some ⟨ab, 0, none⟩), .pointer (some ⟨pb, 0, none⟩)] w (VisPost (PairS a ab pb n0) (acc ++ [t]) [pb] w) := by
  have HSS := hideIt hS
  have HTT := hideIt ht
  obtain ⟨_, h1, h2, h3, h4, h5, h6⟩ := id hS
  obtain ⟨t4, t5, t6, t7, t8⟩ := ht.rest
  obtain ⟨a4, a5, a6, a7, a8⟩ := h3.rest
  have c1 := cell_numO h1
  have c2 := cell_ptO h2
  have hle := List.length_filter_le (pairB a) acc
  have HNO := hideIt (fun w' (hm : Mod [] w w') (hp : pairB a t = false) => pairSeen hS hm hp)
  have HYES := hideIt (fun w' (hm : Mod [] w w') (hp : pairB a t = true) => pairMore hS hm hp)
  have HME := hideIt (fun W => meet_any a.x0 a.y0 a.x1 a.y1 t.x0 t.y0 t.x1 t.y1 W)
  have HPI := hideIt (pairB_iff (a := a) (b := t))
  generalize hN : n0 + (acc.filter (pairB a)).length = N at *
  have hNle : (N : Int) ≤ 2000000 := by omega
  clear h1 h2 h3 h4 h5 h6 hS ht hle hN
  by_cases hid : a.id < t.id
  · cases hm : meetI a.x0 a.y0 a.x1 a.y1 t.x0 t.y0 t.x1 t.y1 with
    | false =>
      have HP := hideIt (show pairB a t = false from by
        cases hpb : pairB a t with
        | false => rfl
        | true => have := (HPI.out.1 hpb).2; rw [hm] at this; cases this)
      rw [hm] at HME
      clear hm
      go_enter Tryz.func70, Tryz.ntmps70
      go_wp2_with fail
      go_region_with (go_at_call 71; refine (HME.out _).mono ?_; rintro e w4 ⟨rfl, hm2⟩)
      all_goals
        have HF := hideIt (HNO.out _ ((Mod.drew _).trans hm2) HP.out)
        clear hm2 t4 t5 t6 t7 t8 a4 a5 a6 a7 a8 c1 c2 HME HNO HYES
        go_wp2
        go_end0
        exact HF.out
    | true =>
      have HP := hideIt (HPI.out.2 ⟨hid, hm⟩)
      rw [hm] at HME
      clear hm
      go_enter Tryz.func70, Tryz.ntmps70
      go_wp2_with fail
      go_region_with (go_at_call 71; refine (HME.out _).mono ?_; rintro e w4 ⟨rfl, hm2⟩)
      all_goals
        obtain ⟨hp4, hfin⟩ := HYES.out _ ((Mod.drew _).trans hm2) HP.out
        have HF := hideIt hfin
        have cp := cell_numO hp4
        have fp := frozen_of_block hp4 0
        have hlt4 := lt_of_block hp4
        clear hm2 t4 t5 t6 t7 t8 a4 a5 a6 a7 a8 c1 c2 HME HNO HYES hfin hp4
        go_wp2
        go_end0
        exact HF.out
  · exact pairs1_no hac HSS.out HTT.out hid

end Go.Proofs.YthimaoipogocfaaGreat

