import Derived.Test.YthimaoipogocfaaGreatGGiven
import Derived.Test.YthimaoipogocfaaGreatM09
namespace Go.Proofs.YthimaoipogocfaaGreat
open Go.RowKit Go.Maps
attribute [local go_sem] run_store_f32 run_neg_inf

theorem xor8 (a b : Int) : 0 ≤ bits .xor .u8 a b ∧ bits .xor .u8 a b < 256 := by
  show 0 ≤ (((BitVec.ofInt 8 a ^^^ BitVec.ofInt 8 b).toNat : Int) % 256) ∧ (((BitVec.ofInt 8 a ^^^ BitVec.ofInt 8 b).toNat : Int) % 256) < 256
  omega
theorem ByteL.set {l : List Int} (h : ByteL l) (k : Nat) {z : Int} (hz : 0 ≤ z ∧ z < 256) : ByteL (l.set k z) := fun b hb => by
  rcases List.mem_or_eq_of_mem_set hb with h1 | h1
  · exact h b h1
  · subst h1
    exact hz
theorem LogV.of_owns {w : World} {g n c : Nat} {l : List Int} (h : w.ownsRow 0 5 1 (.slice (some ⟨g, 0, none⟩) n c) n (u8s l)) (hB : ByteL l) (hl : l.length ≤ 1000000000) : LogV w (.slice (some ⟨g, 0, none⟩) n c) l := by
  have hn : l.length = n := by
    have := h.1
    rw [u8s_length] at this
    omega
  subst hn
  rcases h.2 with ⟨e, _⟩ | ⟨g', cap, cur, e, _, _, h3, h4, _⟩
  · cases e
  · cases e
    exact ⟨.inr (.inl ⟨g, 0, c, rfl, BytesAt.of_owns h, h3, h4⟩), hB, hl⟩

/-- pick, as a function -/
def lpkF (c n : Int) : Int := if c < 0 then -(c + 1).tmod n else c % n
theorem lpkF_bnd (c : Int) {n : Int} (hn : 0 < n) : 0 ≤ lpkF c n ∧ lpkF c n < n := by
  unfold lpkF
  split
  · rename_i h
    exact remL_neg c n h hn
  · exact remL_lt c n hn
theorem lpkF_any (c n : Int) (w : World) (h1 : -9223372036854775808 ≤ c) (h2 : c ≤ 9223372036854775807) (hn : 0 < n) (hn2 : n ≤ 9223372036854775807) :
    Calls Tryz.prog 53 #[.int .i64 c, .int .i64 n] w fun e w' => e = .returned (.int .i64 (lpkF c n)) ∧ w' = w := by
  by_cases hc : c < 0
  · have HE := hideIt (show lpkF c n = -(c + 1).tmod n by unfold lpkF; rw [if_pos hc])
    go_enter Tryz.func53, Tryz.ntmps53
    go_wp2
    go_ret
    exact ⟨by rw [HE.out]; rfl, rfl⟩
  · have HE := hideIt (show lpkF c n = c % n by unfold lpkF; rw [if_neg hc])
    go_enter Tryz.func53, Tryz.ntmps53
    go_wp2
    go_ret
    exact ⟨by rw [HE.out]; rfl, rfl⟩
theorem tdiv_bnd {a : Int} {k : Int} (h1 : -9223372036854775808 ≤ a) (h2 : a ≤ 9223372036854775807) (hk : 2 ≤ k.natAbs) : -9223372036854775808 ≤ a.tdiv k ∧ a.tdiv k ≤ 9223372036854775807 := by
  have e := Int.natAbs_tdiv a k
  have h3 : a.natAbs.div k.natAbs ≤ a.natAbs / 2 := Nat.div_le_div_left hk (by omega)
  rw [← e] at h3
  omega
def SpoiltPost (n : Nat) (w : World) (e : Ending) (w' : World) : Prop := ∃ u l', e = .returned u ∧ LogV w' u l' ∧ l'.length ≤ n ∧ Mod [] w w'

set_option maxRecDepth 100000 in
set_option maxHeartbeats 2000000 in
theorem spoilt_any {w : World} {gl nl cl : Nat} {lg : List Int} (ho : w.ownsRow 0 5 1 (.slice (some ⟨gl, 0, none⟩) nl cl) nl (u8s lg)) (hB : ByteL lg) (hl1 : nl ≤ 100000000) {v : Value} {l : List Int} (hv : LogV w v l) (hl2 : l.length ≤ 100000000) {a b : Int} (ha : i64ok a) (hb : i64ok b) :
    Calls Tryz.prog 57 #[.slice (some ⟨gl, 0, none⟩) nl cl, .int .i64 a, .int .i64 b, v] w (SpoiltPost (nl + l.length) w) := by
  obtain ⟨i0, hi, hz0, hz1, hz2⟩ := info_partsB infoB
  obtain ⟨va, vc, hve⟩ := hv.form
  subst hve
  unfold i64ok at ha hb
  obtain ⟨a1, a2⟩ := ha
  obtain ⟨b1, b2⟩ := hb
  have hcl : nl ≤ cl ∧ cl ≤ 9223372036854775807 := by
    rcases ho.2 with ⟨e, _⟩ | ⟨g', cap, cur, e, _, _, h3, h4, _⟩
    · cases e
    · cases e
      unfold maxLen at h4
      exact ⟨h3, by omega⟩
  obtain ⟨hcl1, hcl2⟩ := hcl
  have hlgl : lg.length = nl := by
    have := ho.1
    rw [u8s_length] at this
    omega
  have HSRC := hideIt (show ∀ k, k ≤ nl → srcRow w 1 (.slice (some ⟨gl, 0, none⟩) k cl) k (u8s (lg.take k)) from fun k hk => by
    refine ⟨by rw [u8s_length, List.length_take]; omega, u8s_one _, .inr ⟨_, _, rfl, fun j u hu => ?_⟩⟩
    have hj : j < (lg.take k).length := by
      have := (List.getElem?_eq_some_iff.1 hu).1
      rw [u8s_length] at this
      exact this
    have hj2 := u8s_get (List.getElem?_eq_getElem hj)
    rw [hu] at hj2
    cases hj2
    have hb := (BytesAt.of_owns ho) j ((lg.take k)[j]) (by rw [List.getElem_take]; exact List.getElem?_eq_getElem (by rw [List.length_take] at hj; omega))
    have e : (⟨gl, 0, none⟩ : Addr).add j = ⟨gl, 0 + j, none⟩ := by unfold Addr.add; split <;> simp_all
    rw [e]
    exact hb)
  have HV := hideIt hv
  have HB := hideIt hB
  have HLGL := hideIt hlgl
  have HNIL := hideIt (World.ownsRow_nil w 0 5 1)
  have HTAIL := hideIt (show ∀ W g1 n1 c1 (xs : List Int), ByteL xs → xs.length = n1 → n1 ≤ nl → Mod [] w W → W.ownsRow 0 5 1 (.slice (some ⟨g1, 0, none⟩) (n1 + l.length) c1) (n1 + l.length) (catL (u8s xs) (u8s l)) → SpoiltPost (nl + l.length) w (.returned (.slice (some ⟨g1, 0, none⟩) (n1 + l.length) c1)) W from fun W g1 n1 c1 xs hx hxn hn hm ho => ⟨_, xs ++ l, rfl, LogV.of_owns (by rw [u8s_append]; exact ho) (hx.append hv.byte) (by rw [List.length_append]; omega), by rw [List.length_append]; omega, hm⟩)
  clear ho hv hB hlgl
  go_enter Tryz.func57, Tryz.ntmps57
  go_wp2_with fail
  refine (lpick_any a 3 w a1 a2 (by omega) (by omega)).mono ?_
  rintro e w' ⟨K, rfl, hK0, hK1, hw⟩
  obtain rfl := hw.symm
  clear hw
  by_cases hK : 0 < K
  · go_wp2_with fail
    refine (lpick_any _ _ w (tdiv_bnd a1 a2 (by decide)).1 (tdiv_bnd a1 a2 (by decide)).2 (by omega) (by omega)).mono ?_
    rintro e w' ⟨N, rfl, hN0, hN1, hw⟩
    obtain rfl := hw.symm
    clear hw
    obtain ⟨n, rfl⟩ := Int.eq_ofNat_of_zero_le hN0
    have hn : n ≤ nl := by omega
    clear hN0 hN1
    by_cases h0 : n = 0
    · have h0' : ¬ (0 < (n : Int)) := by omega
      by_cases hl0 : l.length = 0
      · have HN := hideIt (show SpoiltPost (nl + l.length) w (.returned (.slice none 0 0)) w from ⟨_, [], rfl, ⟨.inl ⟨rfl, rfl⟩, ByteL.nil, Nat.zero_le _⟩, Nat.zero_le _, Mod.refl _ _⟩)
        clear HSRC HV HTAIL HNIL HB
        go_wp2_with (at_builtin; first | refine wpList_append_none _ rfl _ _ 56 rfl 5 i0 Tryz.underlying56 hi rfl (some ⟨gl, 0, none⟩) cl (by simp [h0]) ?_ | refine wpList_append_none _ rfl _ _ 56 rfl 5 i0 Tryz.underlying56 hi rfl va vc (by first | rfl | simp [hl0]) ?_)
        go_ret
        exact HN.out
      · have HS2 := hideIt HV.out.src
        clear HSRC
        go_wp2_with (at_builtin; first | refine wpList_append_none _ rfl _ _ 56 rfl 5 i0 Tryz.underlying56 hi rfl (some ⟨gl, 0, none⟩) cl (by simp [h0]) ?_ | refine wpList_append_rows _ rfl _ _ 56 rfl 0 5 i0 (.int .u8 0) 1 1 Tryz.underlying56 hi hz0 hz1 hz2 rfl (by decide) _ 0 [] rfl HNIL.out _ l.length (u8s l) rfl HS2.out (by omega) (by unfold maxLen; omega) (by omega) (Nat.zero_le _) ?_)
        intro g2 c2 w2 ho2 hm2 _
        have HN := hideIt (HTAIL.out w2 g2 0 c2 [] ByteL.nil rfl (by omega) hm2 (by rw [Nat.zero_add]; exact ho2))
        rw [Nat.zero_add] at HN
        clear ho2 hm2 HTAIL HS2
        go_wp2
        go_ret
        exact HN.out
    · have h0' : 0 < (n : Int) := by omega
      have HS1 := hideIt (HSRC.out n hn)
      go_wp2_with (at_builtin; go_must (refine wpList_append_rows _ rfl _ _ 56 rfl 0 5 i0 (.int .u8 0) 1 1 Tryz.underlying56 hi hz0 hz1 hz2 rfl (by decide) _ 0 [] rfl HNIL.out _ n (u8s (lg.take n)) rfl HS1.out (by omega) (by unfold maxLen; omega) (by omega) (Nat.zero_le _) ?_))
      intro g1 c1 w1 ho1 hm1 hat1
      have hn1 : g1 = w.heap.size := by
        rcases hat1 with h | h
        · simp [Value.ownBlock] at h
        · exact h
      have HM1 := hideIt (show Mod [] w w1 from hm1)
      have HO1 := hideIt (show w1.ownsRow 0 5 1 (.slice (some ⟨g1, 0, none⟩) n c1) n (u8s (lg.take n)) from ho1)
      have HX := hideIt (show ByteL (lg.take n) ∧ (lg.take n).length = n from ⟨HB.out.take _, by rw [List.length_take, HLGL.out]; omega⟩)
      have HN1 := hideIt hn1
      clear ho1 hm1 hat1 hn1 HS1 HSRC HB
      generalize lg.take n = xs at *
      go_wp2_with fail
      refine (lpick_any b 3 _ b1 b2 (by omega) (by omega)).mono ?_
      rintro e w' ⟨P, rfl, hP0, hP1, hw⟩
      obtain rfl := hw.symm
      clear hw
      by_cases hP : P = 0
      · have hPb : (P == 0) = true := by simp [hP]
        go_wp2_with fail
        refine (lpick_any _ _ _ (tdiv_bnd b1 b2 (by decide)).1 (tdiv_bnd b1 b2 (by decide)).2 (by omega) (by omega)).mono ?_
        rintro e w' ⟨Q, rfl, hQ0, hQ1, hw⟩
        obtain rfl := hw.symm
        clear hw
        obtain ⟨k, rfl⟩ := Int.eq_ofNat_of_zero_le hQ0
        have hkn : k < n := by omega
        have hkn' : (k : Int) < (n : Int) := by omega
        have hxk : xs[k]? = some (xs[k]'(by rw [HX.out.2]; exact hkn)) := List.getElem?_eq_getElem _
        have hcell := owns_cell HO1.out k _ (u8s_get hxk)
        obtain ⟨_, eg, hfz⟩ := owns_form HO1.out (by omega)
        cases eg
        have hfk := hfz k
        generalize xs[k]'(by rw [HX.out.2]; exact hkn) = z at *
        clear hfz hxk
        go_wp2_with fail
        obtain ⟨t1, t2⟩ := tdiv_bnd (k := 9) b1 b2 (by decide)
        have hwr1 : IntKind.i64.wrap (b.tdiv 9) = b.tdiv 9 := by rw [IntKind.wrap_i64]; omega
        have HPK := hideIt (fun W => lpkF_any (IntKind.i64.wrap (b.tdiv 9)) 255 W (by rw [hwr1]; exact t1) (by rw [hwr1]; exact t2) (by omega) (by omega))
        obtain ⟨hR0, hR1⟩ := lpkF_bnd (IntKind.i64.wrap (b.tdiv 9)) (n := 255) (by omega)
        generalize lpkF (IntKind.i64.wrap (b.tdiv 9)) 255 = R at *
        have hwr2 : IntKind.i64.wrap (1 + R) = 1 + R := by rw [IntKind.wrap_i64]; omega
        clear hwr1 t1 t2
        go_region_with (go_at_call 53; refine (HPK.out _).mono ?_; rintro e w' ⟨rfl, hw⟩; obtain rfl := hw.symm; clear hw)
        all_goals
          have hy := xor8 z (IntKind.u8.wrap (1 + R))
          generalize bits .xor .u8 z (IntKind.u8.wrap (1 + R)) = y at *
          have HO2 := hideIt (show ((w1.setCell ⟨g1, k, none⟩ (.int .u8 y)).drew).ownsRow 0 5 1 (.slice (some ⟨g1, 0, none⟩) n c1) n (u8s (xs.set k y)) by
            have := owns_setL HO1.out k (.int .u8 y)
            have e : u8s (xs.set k y) = (u8s xs).set k (.int .u8 y) := by unfold u8s; rw [List.map_set]
            rw [e]
            exact owns_kept this (Mod.drew (F := []) _) (by simp))
          have HM2 := hideIt (show Mod [] w ((w1.setCell ⟨g1, k, none⟩ (.int .u8 y)).drew) from (HM1.out.then (Mod.setCell (F := [g1]) _ _ _ (by simp)) (fun x hx => .inr (by simp at hx; have := HN1.out; omega))).trans (Mod.drew _))
          have HX2 := hideIt (show ByteL (xs.set k y) ∧ (xs.set k y).length = n from ⟨HX.out.1.set k hy, by rw [List.length_set]; exact HX.out.2⟩)
          clear hcell hfk HO1 HM1 HX hy HPK
          generalize (w1.setCell ⟨g1, k, none⟩ (.int .u8 y)).drew = w3 at *
          generalize xs.set k y = ys at *
          have HS2 := hideIt (HV.out.keep HM2.out).src
          go_wp2_with (at_builtin; go_must (refine wpList_append_rows _ rfl _ _ 56 rfl 0 5 i0 (.int .u8 0) 1 1 Tryz.underlying56 hi hz0 hz1 hz2 rfl (by decide) _ n (u8s ys) rfl HO2.out _ l.length (u8s l) rfl HS2.out (by omega) (by unfold maxLen; omega) (by omega) (Nat.zero_le _) ?_))
          intro g2 c2 w2 ho2 hm2 _
          have HN := hideIt (HTAIL.out w2 g2 n c2 ys HX2.out.1 HX2.out.2 hn (HM2.out.then hm2 (fun x hx => .inr (by simp [Value.ownBlock] at hx; have := HN1.out; omega))) ho2)
          clear ho2 hm2 HTAIL HS2
          go_wp2
          go_ret
          exact HN.out
      · have hPb : (P == 0) = false := by simp [hP]
        have HS2 := hideIt (HV.out.keep HM1.out).src
        go_wp2_with (at_builtin; go_must (refine wpList_append_rows _ rfl _ _ 56 rfl 0 5 i0 (.int .u8 0) 1 1 Tryz.underlying56 hi hz0 hz1 hz2 rfl (by decide) _ n (u8s xs) rfl HO1.out _ l.length (u8s l) rfl HS2.out (by omega) (by unfold maxLen; omega) (by omega) (Nat.zero_le _) ?_))
        intro g2 c2 w2 ho2 hm2 _
        have HN := hideIt (HTAIL.out w2 g2 n c2 xs HX.out.1 HX.out.2 hn (HM1.out.then hm2 (fun x hx => .inr (by simp [Value.ownBlock] at hx; have := HN1.out; omega))) ho2)
        clear ho2 hm2 HTAIL HS2
        go_wp2
        go_ret
        exact HN.out
  · have hn : nl ≤ nl := Nat.le_refl _
    by_cases h0 : nl = 0
    · have h0' : ¬ (0 < (nl : Int)) := by omega
      by_cases hl0 : l.length = 0
      · have HN := hideIt (show SpoiltPost (nl + l.length) w (.returned (.slice none 0 0)) w from ⟨_, [], rfl, ⟨.inl ⟨rfl, rfl⟩, ByteL.nil, Nat.zero_le _⟩, Nat.zero_le _, Mod.refl _ _⟩)
        clear HSRC HV HTAIL HNIL HB
        go_wp2_with (at_builtin; first | refine wpList_append_none _ rfl _ _ 56 rfl 5 i0 Tryz.underlying56 hi rfl (some ⟨gl, 0, none⟩) cl (by simp [h0]) ?_ | refine wpList_append_none _ rfl _ _ 56 rfl 5 i0 Tryz.underlying56 hi rfl va vc (by first | rfl | simp [hl0]) ?_)
        go_ret
        exact HN.out
      · have HS2 := hideIt HV.out.src
        clear HSRC
        go_wp2_with (at_builtin; first | refine wpList_append_none _ rfl _ _ 56 rfl 5 i0 Tryz.underlying56 hi rfl (some ⟨gl, 0, none⟩) cl (by simp [h0]) ?_ | refine wpList_append_rows _ rfl _ _ 56 rfl 0 5 i0 (.int .u8 0) 1 1 Tryz.underlying56 hi hz0 hz1 hz2 rfl (by decide) _ 0 [] rfl HNIL.out _ l.length (u8s l) rfl HS2.out (by omega) (by unfold maxLen; omega) (by omega) (Nat.zero_le _) ?_)
        intro g2 c2 w2 ho2 hm2 _
        have HN := hideIt (HTAIL.out w2 g2 0 c2 [] ByteL.nil rfl (by omega) hm2 (by rw [Nat.zero_add]; exact ho2))
        rw [Nat.zero_add] at HN
        clear ho2 hm2 HTAIL HS2
        go_wp2
        go_ret
        exact HN.out
    · have h0' : 0 < (nl : Int) := by omega
      have HS1 := hideIt (HSRC.out nl hn)
      go_wp2_with (at_builtin; go_must (refine wpList_append_rows _ rfl _ _ 56 rfl 0 5 i0 (.int .u8 0) 1 1 Tryz.underlying56 hi hz0 hz1 hz2 rfl (by decide) _ 0 [] rfl HNIL.out _ nl (u8s (lg.take nl)) rfl HS1.out (by omega) (by unfold maxLen; omega) (by omega) (Nat.zero_le _) ?_))
      intro g1 c1 w1 ho1 hm1 hat1
      have hn1 : g1 = w.heap.size := by
        rcases hat1 with h | h
        · simp [Value.ownBlock] at h
        · exact h
      have HM1 := hideIt (show Mod [] w w1 from hm1)
      have HO1 := hideIt (show w1.ownsRow 0 5 1 (.slice (some ⟨g1, 0, none⟩) nl c1) nl (u8s (lg.take nl)) from ho1)
      have HX := hideIt (show ByteL (lg.take nl) ∧ (lg.take nl).length = nl from ⟨HB.out.take _, by rw [List.length_take, HLGL.out]; omega⟩)
      have HN1 := hideIt hn1
      clear ho1 hm1 hat1 hn1 HS1 HSRC HB
      generalize lg.take nl = xs at *
      go_wp2_with fail
      refine (lpick_any b 3 _ b1 b2 (by omega) (by omega)).mono ?_
      rintro e w' ⟨P, rfl, hP0, hP1, hw⟩
      obtain rfl := hw.symm
      clear hw
      by_cases hP : P = 0
      · have hPb : (P == 0) = true := by simp [hP]
        go_wp2_with fail
        refine (lpick_any _ _ _ (tdiv_bnd b1 b2 (by decide)).1 (tdiv_bnd b1 b2 (by decide)).2 (by omega) (by omega)).mono ?_
        rintro e w' ⟨Q, rfl, hQ0, hQ1, hw⟩
        obtain rfl := hw.symm
        clear hw
        obtain ⟨k, rfl⟩ := Int.eq_ofNat_of_zero_le hQ0
        have hkn : k < nl := by omega
        have hkn' : (k : Int) < (nl : Int) := by omega
        have hxk : xs[k]? = some (xs[k]'(by rw [HX.out.2]; exact hkn)) := List.getElem?_eq_getElem _
        have hcell := owns_cell HO1.out k _ (u8s_get hxk)
        obtain ⟨_, eg, hfz⟩ := owns_form HO1.out (by omega)
        cases eg
        have hfk := hfz k
        generalize xs[k]'(by rw [HX.out.2]; exact hkn) = z at *
        clear hfz hxk
        go_wp2_with fail
        obtain ⟨t1, t2⟩ := tdiv_bnd (k := 9) b1 b2 (by decide)
        have hwr1 : IntKind.i64.wrap (b.tdiv 9) = b.tdiv 9 := by rw [IntKind.wrap_i64]; omega
        have HPK := hideIt (fun W => lpkF_any (IntKind.i64.wrap (b.tdiv 9)) 255 W (by rw [hwr1]; exact t1) (by rw [hwr1]; exact t2) (by omega) (by omega))
        obtain ⟨hR0, hR1⟩ := lpkF_bnd (IntKind.i64.wrap (b.tdiv 9)) (n := 255) (by omega)
        generalize lpkF (IntKind.i64.wrap (b.tdiv 9)) 255 = R at *
        have hwr2 : IntKind.i64.wrap (1 + R) = 1 + R := by rw [IntKind.wrap_i64]; omega
        clear hwr1 t1 t2
        go_region_with (go_at_call 53; refine (HPK.out _).mono ?_; rintro e w' ⟨rfl, hw⟩; obtain rfl := hw.symm; clear hw)
        all_goals
          have hy := xor8 z (IntKind.u8.wrap (1 + R))
          generalize bits .xor .u8 z (IntKind.u8.wrap (1 + R)) = y at *
          have HO2 := hideIt (show ((w1.setCell ⟨g1, k, none⟩ (.int .u8 y)).drew).ownsRow 0 5 1 (.slice (some ⟨g1, 0, none⟩) nl c1) nl (u8s (xs.set k y)) by
            have := owns_setL HO1.out k (.int .u8 y)
            have e : u8s (xs.set k y) = (u8s xs).set k (.int .u8 y) := by unfold u8s; rw [List.map_set]
            rw [e]
            exact owns_kept this (Mod.drew (F := []) _) (by simp))
          have HM2 := hideIt (show Mod [] w ((w1.setCell ⟨g1, k, none⟩ (.int .u8 y)).drew) from (HM1.out.then (Mod.setCell (F := [g1]) _ _ _ (by simp)) (fun x hx => .inr (by simp at hx; have := HN1.out; omega))).trans (Mod.drew _))
          have HX2 := hideIt (show ByteL (xs.set k y) ∧ (xs.set k y).length = nl from ⟨HX.out.1.set k hy, by rw [List.length_set]; exact HX.out.2⟩)
          clear hcell hfk HO1 HM1 HX hy HPK
          generalize (w1.setCell ⟨g1, k, none⟩ (.int .u8 y)).drew = w3 at *
          generalize xs.set k y = ys at *
          have HS2 := hideIt (HV.out.keep HM2.out).src
          go_wp2_with (at_builtin; go_must (refine wpList_append_rows _ rfl _ _ 56 rfl 0 5 i0 (.int .u8 0) 1 1 Tryz.underlying56 hi hz0 hz1 hz2 rfl (by decide) _ nl (u8s ys) rfl HO2.out _ l.length (u8s l) rfl HS2.out (by omega) (by unfold maxLen; omega) (by omega) (Nat.zero_le _) ?_))
          intro g2 c2 w2 ho2 hm2 _
          have HN := hideIt (HTAIL.out w2 g2 nl c2 ys HX2.out.1 HX2.out.2 hn (HM2.out.then hm2 (fun x hx => .inr (by simp [Value.ownBlock] at hx; have := HN1.out; omega))) ho2)
          clear ho2 hm2 HTAIL HS2
          go_wp2
          go_ret
          exact HN.out
      · have hPb : (P == 0) = false := by simp [hP]
        have HS2 := hideIt (HV.out.keep HM1.out).src
        go_wp2_with (at_builtin; go_must (refine wpList_append_rows _ rfl _ _ 56 rfl 0 5 i0 (.int .u8 0) 1 1 Tryz.underlying56 hi hz0 hz1 hz2 rfl (by decide) _ nl (u8s xs) rfl HO1.out _ l.length (u8s l) rfl HS2.out (by omega) (by unfold maxLen; omega) (by omega) (Nat.zero_le _) ?_))
        intro g2 c2 w2 ho2 hm2 _
        have HN := hideIt (HTAIL.out w2 g2 nl c2 xs HX.out.1 HX.out.2 hn (HM1.out.then hm2 (fun x hx => .inr (by simp [Value.ownBlock] at hx; have := HN1.out; omega))) ho2)
        clear ho2 hm2 HTAIL HS2
        go_wp2
        go_ret
        exact HN.out

end Go.Proofs.YthimaoipogocfaaGreat
