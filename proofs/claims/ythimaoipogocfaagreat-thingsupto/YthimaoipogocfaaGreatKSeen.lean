import Derived.Test.YthimaoipogocfaaGreatJ20
import Derived.Deep.DeepCutAuto
namespace Go.Proofs.YthimaoipogocfaaGreat
open Go.RowKit Go.Maps
attribute [local go_sem] run_store_f32 run_neg_inf

theorem findG_mem {ts : List Tg} (hn : (ts.map (·.id)).Nodup) {s : Tg} (hs : s ∈ ts) : (findG ts s.id).isSome = true ∧ rectOfG ts s.id = R4 s.x0 s.y0 s.x1 s.y1 := by
  cases hf : findG ts s.id with
  | none => exact absurd rfl (findG_none hf s hs)
  | some n =>
    obtain ⟨r, hr, hid, hgd⟩ := findG_get hf
    have hrm := List.mem_of_getElem? hr
    have he : r.th = s.th := id_inj (L := ts.map Tg.th) (by rw [List.map_map]; exact hn) (List.mem_map.2 ⟨r, hrm, rfl⟩) (List.mem_map.2 ⟨s, hs, rfl⟩) hid
    refine ⟨rfl, ?_⟩
    unfold rectOfG
    rw [hf]
    simp only [hgd]
    have e1 := congrArg Th.x0 he
    have e2 := congrArg Th.y0 he
    have e3 := congrArg Th.x1 he
    have e4 := congrArg Th.y1 he
    simp only [Tg.th] at e1 e2 e3 e4
    rw [e1, e2, e3, e4]

theorem kGet_in {B : Nat} {w : World} {q fan : Nat} {L : List Th} {lg : List Int} (h : KRep B w q fan L lg) {t : Th} (ht : t ∈ L) : Calls Tryz.prog 27 #[.pointer (some ⟨q, 0, none⟩), .int .i64 t.id] w fun e w' => e = .returned (.tuple #[R4 t.x0 t.y0 t.x1 t.y1, .int .i64 0]) ∧ Mod [] w w' := by
  obtain ⟨ts, F, h1, rfl, h3, h4⟩ := h.out
  obtain ⟨s, hs, rfl⟩ := List.mem_map.1 ht
  obtain ⟨e1, e2⟩ := findG_mem h1.ids hs
  have := hGet_any h1 s.id
  unfold HGetPost at this
  rw [e1, e2] at this
  exact this

theorem kGet_out {B : Nat} {w : World} {q fan : Nat} {L : List Th} {lg : List Int} (h : KRep B w q fan L lg) {id : Int} (ht : ∀ t ∈ L, t.id ≠ id) : Calls Tryz.prog 27 #[.pointer (some ⟨q, 0, none⟩), .int .i64 id] w fun e w' => e = .returned (.tuple #[R4 0 0 0 0, .int .i64 3]) ∧ Mod [] w w' := by
  obtain ⟨ts, F, h1, rfl, h3, h4⟩ := h.out
  have hf : findG ts id = none := by
    cases hf : findG ts id with
    | none => rfl
    | some n =>
      obtain ⟨r, hr, hid, _⟩ := findG_get hf
      exact absurd hid (ht r.th (List.mem_map.2 ⟨r, List.mem_of_getElem? hr, rfl⟩))
  have := hGet_any h1 id
  unfold HGetPost rectOfG at this
  rw [hf] at this
  exact this

theorem rect_stood : Tryz.prog.stoodInHeld 36 = false := by kernel_rfl
theorem rect_guard : Tryz.prog.eqGuardType Tryz.prog.depth 36 = false := by kernel_rfl
theorem not_found {p : Th → Bool} {L : List Th} {id : Int} (h : ∀ t ∈ L, t.id ≠ id) : decide (id ∈ foundT p L) = false := decide_eq_false (fun hx => by
  obtain ⟨t, ht, e, _⟩ := of_mem_foundT hx
  exact h t ht e)

set_option maxRecDepth 100000 in
set_option maxHeartbeats 4000000 in
theorem seen_here {B : Nat} {w : World} {q fan : Nat} {L : List Th} {lg : List Int} (h : KRep B w q fan L lg) (id x0 y0 x1 y1 : Int) (hb : (-2000 ≤ x0 ∧ x0 ≤ x1 ∧ x1 ≤ 2000) ∧ (-2000 ≤ y0 ∧ y0 ≤ y1 ∧ y1 ≤ 2000)) (hin : (⟨id, x0, y0, x1, y1⟩ : Th) ∈ L) :
    Calls Tryz.prog 17 #[.pointer (some ⟨q, 0, none⟩), .int .i64 id, R4 x0 y0 x1 y1, .bool false] w (KBool true w) := by
  obtain ⟨⟨b1, b2, b3⟩, b4, b5, b6⟩ := hb
  have hids := h.ids
  have hlen := h.len
  have hm0 : Mod [] w (w.alloc (B4 x0 y0 x1 y1)) := Mod.alloc _ _
  have hz := heap_alloc_new w (B4 x0 y0 x1 y1)
  have HD1 := hideIt (show ∀ x y, (x = x0 ∨ x = x1) → (y = y0 ∨ y = y1) → decide (id ∈ foundT (meetT x y x y) L) = true from fun x y hx hy => (dec_foundT hids hin).trans (meetI_iff.2 (by simp only; omega)))
  have HD2 := hideIt (show ∀ o y, (o = x0 - 1 ∨ o = x1 + 1) → decide (id ∈ foundT (meetT o y o y) L) = false from fun o y ho => (dec_foundT hids hin).trans (by cases hm : meetT o y o y ⟨id, x0, y0, x1, y1⟩ with | false => rfl | true => (have := meetI_iff.1 hm; simp only at this; omega)))
  have HD3 := hideIt (show decide (id ∈ foundT (holdT x0 y0 x1 y1) L) = true from (dec_foundT hids hin).trans (holdI_iff.2 (by simp only; omega)))
  have HGET := hideIt (show Calls Tryz.prog 27 #[.pointer (some ⟨q, 0, none⟩), .int .i64 id] (w.alloc (B4 x0 y0 x1 y1)) (fun e w' => e = .returned (.tuple #[R4 x0 y0 x1 y1, .int .i64 0]) ∧ Mod [] (w.alloc (B4 x0 y0 x1 y1)) w') from kGet_in (h.keep hm0) hin)
  have HK := hideIt (show ∀ W, Mod [] (w.alloc (B4 x0 y0 x1 y1)) W → KRep B W q fan L lg from fun W hm => h.keep (hm0.trans hm))
  have HZ := hideIt (show ∀ W, Mod [] (w.alloc (B4 x0 y0 x1 y1)) W → W.heap[w.heap.size]? = some (B4 x0 y0 x1 y1) from fun W hm => (hm.block _ (by simp) (by simp)).trans hz)
  have HM0 := hideIt hm0
  have HL := hideIt (show ∀ p, (foundT p L).length ≤ 100000 from fun p => by have := foundT_len p L; omega)
  clear h hin hids hm0 hz hlen
  have hst := rect_stood
  have hqg := rect_guard
  go_enter Tryz.func17, Tryz.ntmps17
  go_wp2_with fail
  refine HGET.out.mono ?_
  rintro e w1 ⟨rfl, hm1⟩
  obtain ⟨z0, z1, z2, z3⟩ := cellsB4 (HZ.out _ hm1)
  have hsz := lt_of_block (HZ.out _ hm1)
  have HM1 := hideIt hm1
  clear hm1 HGET
  go_wp2_with fail
  clear z0 z1 z2 z3 hsz
  go_loopw [11] (fun i wr => ∃ k : Nat, k ≤ 4 ∧ i = .int .i64 k ∧ Mod [] (w.alloc (B4 x0 y0 x1 y1)) wr) (fun i _ => 4 - (intOf i).toNat)
  case atStart => exact ⟨0, by omega, rfl, HM1.out.trans (Mod.alloc _ _)⟩
  case round =>
    obtain ⟨k, hk, rfl, hmr⟩ := hrel
    obtain ⟨z0, z1, z2, z3⟩ := cellsB4 (HZ.out _ hmr)
    have HMR := hideIt hmr
    clear hmr
    by_cases hlt : k < 4
    · have hlt' : (k : Int) < 4 := by omega
      go_upto_region 7 with fail
      go_cut [12] (fun v wx => ∃ x, v = .int .i64 x ∧ (x = x0 ∨ x = x1) ∧ ((k % 2 = 0 ∧ x = x0) ∨ (k % 2 = 1 ∧ x = x1)) ∧ wr = wx)
      case first =>
        as_aux_lemma =>
          have hk4 : k = 0 ∨ k = 1 ∨ k = 2 ∨ k = 3 := by omega
          rcases hk4 with rfl | rfl | rfl | rfl
          all_goals
            go_wp2_with fail
            go_meet
            exact ⟨_, rfl, by omega, by first | omega | (simp; done) | (simp; omega), rfl⟩
      case rest =>
        obtain ⟨x, rfl, hx, hxk, rfl⟩ := hcut
        go_upto_region 8 with fail
        go_cut [13] (fun v wx => ∃ y, v = .int .i64 y ∧ (y = y0 ∨ y = y1) ∧ wr = wx)
        case first =>
          as_aux_lemma =>
            have hk4 : k = 0 ∨ k = 1 ∨ k = 2 ∨ k = 3 := by omega
            clear hx hxk
            rcases hk4 with rfl | rfl | rfl | rfl
            all_goals
              go_wp2_with fail
              go_meet
              exact ⟨_, rfl, by omega, rfl⟩
        case rest =>
          obtain ⟨y, rfl, hy, rfl⟩ := hcut
          have hr1 : RectOk x y x y := by unfold RectOk; omega
          have HF1 := hideIt (kmeets_any (HK.out _ HMR.out) hr1)
          have HX := hideIt (And.intro hx (And.intro hxk hy))
          have hxb : -2000 ≤ x ∧ x ≤ 2000 := by omega
          obtain ⟨hxb1, hxb2⟩ := hxb
          clear hr1 hx hxk hy z0 z1 z2 z3
          go_wp2_with fail
          refine HF1.out.mono ?_
          rintro e w2 ⟨s1, rfl, hrow1, hm2⟩
          have HR1 := hideIt hrow1
          have HM2 := hideIt hm2
          clear hrow1 hm2 HF1
          go_upto_region 10 with fail
          go_cut [16] (fun v wx => ∃ o, v = .int .i64 o ∧ (o = x0 - 1 ∨ o = x1 + 1) ∧ w2 = wx)
          case first =>
            as_aux_lemma =>
              have hk4 : k = 0 ∨ k = 1 ∨ k = 2 ∨ k = 3 := by omega
              obtain ⟨_, hxk, _⟩ := HX.out
              clear HX
              rcases hk4 with rfl | rfl | rfl | rfl
              all_goals
                go_wp2_with fail
                go_meet
                exact ⟨_, rfl, by omega, rfl⟩
          case rest =>
            obtain ⟨o, rfl, ho, rfl⟩ := hcut
            obtain ⟨hx, hxk, hy⟩ := HX.out
            have hr2 : RectOk o y o y := by unfold RectOk; omega
            have HF2 := hideIt (kmeets_any (HK.out _ (HMR.out.trans HM2.out)) hr2)
            have HD2' := hideIt (HD2.out o y ho)
            have HD1' := hideIt (HD1.out x y hx hy)
            clear hr2 ho hx hxk hy HX
            go_wp2_with fail
            refine HF2.out.mono ?_
            rintro e w3 ⟨s2, rfl, hrow2, hm3⟩
            have HR2 := hideIt hrow2
            have HM3 := hideIt hm3
            have HI1 := hideIt (show Calls Tryz.prog 23 #[s1, .int .i64 id] w3 (KBool true w3) from by
              have := kin_any (HR1.out.keep hm3) (HL.out _) id
              rw [HD1'.out] at this
              exact this)
            clear hrow2 hm3 HF2
            go_wp2_with fail
            refine HI1.out.mono ?_
            rintro e w4 ⟨rfl, hm4⟩
            have HI2 := hideIt (show Calls Tryz.prog 23 #[s2, .int .i64 id] w4 (KBool false w4) from by
              have := kin_any (HR2.out.keep hm4) (HL.out _) id
              rw [HD2'.out] at this
              exact this)
            have HM4 := hideIt hm4
            clear hm4 HI1
            go_wp2_with fail
            refine HI2.out.mono ?_
            rintro e w5 ⟨rfl, hm5⟩
            have HM5 := hideIt ((((HMR.out.trans HM2.out).trans HM3.out).trans HM4.out).trans hm5)
            clear hm5 HI2 HR1 HR2 HM2 HM3 HM4
            go_wp2_with fail
            go_roundw
            case rel => exact ⟨k + 1, by omega, by go_num, HM5.out⟩
            case measure => simp [intOf]; omega
    · have hge : ¬ ((k : Int) < 4) := by omega
      have hr1 : RectOk x0 y0 x1 y1 := by unfold RectOk; omega
      have HF1 := hideIt (kwithin_any (HK.out _ HMR.out) hr1)
      clear hr1
      go_wp2_with fail
      clear z0 z1 z2 z3
      refine HF1.out.mono ?_
      rintro e w2 ⟨s1, rfl, hrow1, hm2⟩
      have HI1 := hideIt (show Calls Tryz.prog 23 #[s1, .int .i64 id] w2 (KBool true w2) from by
        have := kin_any hrow1 (HL.out _) id
        rw [HD3.out] at this
        exact this)
      have HM2 := hideIt hm2
      clear hrow1 hm2 HF1
      go_wp2_with fail
      refine HI1.out.mono ?_
      rintro e w3 ⟨rfl, hm3⟩
      have HF := hideIt (((HM0.out.trans HMR.out).trans HM2.out).trans hm3)
      clear hm3
      go_wp2
      go_ret
      exact ⟨rfl, HF.out⟩

set_option maxRecDepth 100000 in
set_option maxHeartbeats 4000000 in
theorem seen_gone {B : Nat} {w : World} {q fan : Nat} {L : List Th} {lg : List Int} (h : KRep B w q fan L lg) (id x0 y0 x1 y1 : Int) (hb : (-2000 ≤ x0 ∧ x0 ≤ x1 ∧ x1 ≤ 2000) ∧ (-2000 ≤ y0 ∧ y0 ≤ y1 ∧ y1 ≤ 2000)) (hin : ∀ t ∈ L, t.id ≠ id) :
    Calls Tryz.prog 17 #[.pointer (some ⟨q, 0, none⟩), .int .i64 id, R4 x0 y0 x1 y1, .bool true] w (KBool true w) := by
  obtain ⟨⟨b1, b2, b3⟩, b4, b5, b6⟩ := hb
  have hids := h.ids
  have hlen := h.len
  have hm0 : Mod [] w (w.alloc (B4 x0 y0 x1 y1)) := Mod.alloc _ _
  have hz := heap_alloc_new w (B4 x0 y0 x1 y1)
  have HD1 := hideIt (show ∀ x y, (x = x0 ∨ x = x1) → (y = y0 ∨ y = y1) → decide (id ∈ foundT (meetT x y x y) L) = false from fun x y hx hy => not_found hin)
  have HD2 := hideIt (show ∀ o y, (o = x0 - 1 ∨ o = x1 + 1) → decide (id ∈ foundT (meetT o y o y) L) = false from fun o y ho => not_found hin)
  have HD3 := hideIt (show decide (id ∈ foundT (holdT x0 y0 x1 y1) L) = false from not_found hin)
  have HGET := hideIt (show Calls Tryz.prog 27 #[.pointer (some ⟨q, 0, none⟩), .int .i64 id] (w.alloc (B4 x0 y0 x1 y1)) (fun e w' => e = .returned (.tuple #[R4 0 0 0 0, .int .i64 3]) ∧ Mod [] (w.alloc (B4 x0 y0 x1 y1)) w') from kGet_out (h.keep hm0) hin)
  have HK := hideIt (show ∀ W, Mod [] (w.alloc (B4 x0 y0 x1 y1)) W → KRep B W q fan L lg from fun W hm => h.keep (hm0.trans hm))
  have HZ := hideIt (show ∀ W, Mod [] (w.alloc (B4 x0 y0 x1 y1)) W → W.heap[w.heap.size]? = some (B4 x0 y0 x1 y1) from fun W hm => (hm.block _ (by simp) (by simp)).trans hz)
  have HM0 := hideIt hm0
  have HL := hideIt (show ∀ p, (foundT p L).length ≤ 100000 from fun p => by have := foundT_len p L; omega)
  clear h hin hids hm0 hz hlen
  go_enter Tryz.func17, Tryz.ntmps17
  go_wp2_with fail
  refine HGET.out.mono ?_
  rintro e w1 ⟨rfl, hm1⟩
  obtain ⟨z0, z1, z2, z3⟩ := cellsB4 (HZ.out _ hm1)
  have hsz := lt_of_block (HZ.out _ hm1)
  have HM1 := hideIt hm1
  clear hm1 HGET
  go_wp2_with fail
  clear z0 z1 z2 z3 hsz
  go_loopw [11] (fun i wr => ∃ k : Nat, k ≤ 4 ∧ i = .int .i64 k ∧ Mod [] (w.alloc (B4 x0 y0 x1 y1)) wr) (fun i _ => 4 - (intOf i).toNat)
  case atStart => exact ⟨0, by omega, rfl, HM1.out.trans (Mod.alloc _ _)⟩
  case round =>
    obtain ⟨k, hk, rfl, hmr⟩ := hrel
    obtain ⟨z0, z1, z2, z3⟩ := cellsB4 (HZ.out _ hmr)
    have HMR := hideIt hmr
    clear hmr
    by_cases hlt : k < 4
    · have hlt' : (k : Int) < 4 := by omega
      go_upto_region 7 with fail
      go_cut [12] (fun v wx => ∃ x, v = .int .i64 x ∧ (x = x0 ∨ x = x1) ∧ ((k % 2 = 0 ∧ x = x0) ∨ (k % 2 = 1 ∧ x = x1)) ∧ wr = wx)
      case first =>
        as_aux_lemma =>
          have hk4 : k = 0 ∨ k = 1 ∨ k = 2 ∨ k = 3 := by omega
          rcases hk4 with rfl | rfl | rfl | rfl
          all_goals
            go_wp2_with fail
            go_meet
            exact ⟨_, rfl, by omega, by first | omega | (simp; done) | (simp; omega), rfl⟩
      case rest =>
        obtain ⟨x, rfl, hx, hxk, rfl⟩ := hcut
        go_upto_region 8 with fail
        go_cut [13] (fun v wx => ∃ y, v = .int .i64 y ∧ (y = y0 ∨ y = y1) ∧ wr = wx)
        case first =>
          as_aux_lemma =>
            have hk4 : k = 0 ∨ k = 1 ∨ k = 2 ∨ k = 3 := by omega
            clear hx hxk
            rcases hk4 with rfl | rfl | rfl | rfl
            all_goals
              go_wp2_with fail
              go_meet
              exact ⟨_, rfl, by omega, rfl⟩
        case rest =>
          obtain ⟨y, rfl, hy, rfl⟩ := hcut
          have hr1 : RectOk x y x y := by unfold RectOk; omega
          have HF1 := hideIt (kmeets_any (HK.out _ HMR.out) hr1)
          have HX := hideIt (And.intro hx (And.intro hxk hy))
          have hxb : -2000 ≤ x ∧ x ≤ 2000 := by omega
          obtain ⟨hxb1, hxb2⟩ := hxb
          clear hr1 hx hxk hy z0 z1 z2 z3
          go_wp2_with fail
          refine HF1.out.mono ?_
          rintro e w2 ⟨s1, rfl, hrow1, hm2⟩
          have HR1 := hideIt hrow1
          have HM2 := hideIt hm2
          clear hrow1 hm2 HF1
          go_upto_region 10 with fail
          go_cut [16] (fun v wx => ∃ o, v = .int .i64 o ∧ (o = x0 - 1 ∨ o = x1 + 1) ∧ w2 = wx)
          case first =>
            as_aux_lemma =>
              have hk4 : k = 0 ∨ k = 1 ∨ k = 2 ∨ k = 3 := by omega
              obtain ⟨_, hxk, _⟩ := HX.out
              clear HX
              rcases hk4 with rfl | rfl | rfl | rfl
              all_goals
                go_wp2_with fail
                go_meet
                exact ⟨_, rfl, by omega, rfl⟩
          case rest =>
            obtain ⟨o, rfl, ho, rfl⟩ := hcut
            obtain ⟨hx, hxk, hy⟩ := HX.out
            have hr2 : RectOk o y o y := by unfold RectOk; omega
            have HF2 := hideIt (kmeets_any (HK.out _ (HMR.out.trans HM2.out)) hr2)
            have HD2' := hideIt (HD2.out o y ho)
            have HD1' := hideIt (HD1.out x y hx hy)
            clear hr2 ho hx hxk hy HX
            go_wp2_with fail
            refine HF2.out.mono ?_
            rintro e w3 ⟨s2, rfl, hrow2, hm3⟩
            have HR2 := hideIt hrow2
            have HM3 := hideIt hm3
            have HI1 := hideIt (show Calls Tryz.prog 23 #[s1, .int .i64 id] w3 (KBool false w3) from by
              have := kin_any (HR1.out.keep hm3) (HL.out _) id
              rw [HD1'.out] at this
              exact this)
            clear hrow2 hm3 HF2
            go_wp2_with fail
            refine HI1.out.mono ?_
            rintro e w4 ⟨rfl, hm4⟩
            have HI2 := hideIt (show Calls Tryz.prog 23 #[s2, .int .i64 id] w4 (KBool false w4) from by
              have := kin_any (HR2.out.keep hm4) (HL.out _) id
              rw [HD2'.out] at this
              exact this)
            have HM4 := hideIt hm4
            clear hm4 HI1
            go_wp2_with fail
            refine HI2.out.mono ?_
            rintro e w5 ⟨rfl, hm5⟩
            have HM5 := hideIt ((((HMR.out.trans HM2.out).trans HM3.out).trans HM4.out).trans hm5)
            clear hm5 HI2 HR1 HR2 HM2 HM3 HM4
            go_wp2_with fail
            go_roundw
            case rel => exact ⟨k + 1, by omega, by go_num, HM5.out⟩
            case measure => simp [intOf]; omega
    · have hge : ¬ ((k : Int) < 4) := by omega
      have hr1 : RectOk x0 y0 x1 y1 := by unfold RectOk; omega
      have HF1 := hideIt (kwithin_any (HK.out _ HMR.out) hr1)
      clear hr1
      go_wp2_with fail
      clear z0 z1 z2 z3
      refine HF1.out.mono ?_
      rintro e w2 ⟨s1, rfl, hrow1, hm2⟩
      have HI1 := hideIt (show Calls Tryz.prog 23 #[s1, .int .i64 id] w2 (KBool false w2) from by
        have := kin_any hrow1 (HL.out _) id
        rw [HD3.out] at this
        exact this)
      have HM2 := hideIt hm2
      clear hrow1 hm2 HF1
      go_wp2_with fail
      refine HI1.out.mono ?_
      rintro e w3 ⟨rfl, hm3⟩
      have HF := hideIt (((HM0.out.trans HMR.out).trans HM2.out).trans hm3)
      clear hm3
      go_wp2
      go_ret
      exact ⟨rfl, HF.out⟩

end Go.Proofs.YthimaoipogocfaaGreat
