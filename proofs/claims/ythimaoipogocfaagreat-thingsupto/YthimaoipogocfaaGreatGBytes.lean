import Derived.Test.YthimaoipogocfaaGreatJ15
import Derived.Deep.QuietTactic
import Derived.BigQuiet
import Derived.Deep.DeepMust
namespace Go.Proofs.YthimaoipogocfaaGreat
open Go.RowKit Go.Maps
attribute [local go_sem] run_store_f32 run_neg_inf

theorem xor_nat (n m : Nat) (hn : n < 4294967296) (hm : m < 256) : bits .xor .i64 (n : Int) (m : Int) = ((n ^^^ m : Nat) : Int) ∧ bits .xor .u32 (n : Int) (m : Int) = ((n ^^^ m : Nat) : Int) ∧ n ^^^ m < 4294967296 := by
  have h3 : n ^^^ m < 2 ^ 32 := Nat.xor_lt_two_pow (by omega) (by omega)
  have h64 : (BitVec.ofInt 64 (n : Int) ^^^ BitVec.ofInt 64 (m : Int)).toNat = n ^^^ m := by
    rw [BitVec.toNat_xor, BitVec.ofInt_natCast, BitVec.ofInt_natCast, BitVec.toNat_ofNat, BitVec.toNat_ofNat, Nat.mod_eq_of_lt (by omega), Nat.mod_eq_of_lt (by omega)]
  have h32 : (BitVec.ofInt 32 (n : Int) ^^^ BitVec.ofInt 32 (m : Int)).toNat = n ^^^ m := by
    rw [BitVec.toNat_xor, BitVec.ofInt_natCast, BitVec.ofInt_natCast, BitVec.toNat_ofNat, BitVec.toNat_ofNat, Nat.mod_eq_of_lt (by omega), Nat.mod_eq_of_lt (by omega)]
  refine ⟨?_, ?_, by omega⟩
  · show IntKind.i64.wrap ((BitVec.ofInt 64 (n : Int) ^^^ BitVec.ofInt 64 (m : Int)).toNat : Int) = _
    rw [h64, IntKind.wrap_i64]
    omega
  · show IntKind.u32.wrap ((BitVec.ofInt 32 (n : Int) ^^^ BitVec.ofInt 32 (m : Int)).toNat : Int) = _
    rw [h32]
    show (((n ^^^ m : Nat) : Int) % 4294967296) = _
    omega
theorem xor64 {s b : Int} (hs : 0 ≤ s ∧ s < 4294967296) (hb : 0 ≤ b ∧ b < 256) : bits .xor .i64 s b = bits .xor .u32 s b ∧ 0 ≤ bits .xor .u32 s b ∧ bits .xor .u32 s b < 4294967296 := by
  obtain ⟨n, rfl⟩ := Int.eq_ofNat_of_zero_le hs.1
  obtain ⟨m, rfl⟩ := Int.eq_ofNat_of_zero_le hb.1
  obtain ⟨h1, h2, h3⟩ := xor_nat n m (by omega) (by omega)
  rw [h1, h2]
  omega

abbrev F2 (z0 z1 : Int) : Obj := .cells #[.int .u8 z0, .int .u8 z1] 5 (0, 0)
abbrev F4 (z0 z1 z2 z3 : Int) : Obj := .cells #[.int .u8 z0, .int .u8 z1, .int .u8 z2, .int .u8 z3] 5 (0, 0)

def TwoPost (n : Int) (w : World) (e : Ending) (w' : World) : Prop := ∃ z0 z1, e = .returned (.slice (some ⟨w.heap.size, 0, none⟩) 2 2) ∧ w' = w.alloc (F2 z0 z1) ∧ numB n 2 = [z0, z1]
theorem two_any (n : Int) (w : World) (h0 : 0 ≤ n) (h1 : n ≤ 4095) : Calls Tryz.prog 122 #[.int .i64 n] w (TwoPost n w) := by
  go_enter Tryz.func122, Tryz.ntmps122
  go_wp2
  go_ret
  refine ⟨_, _, rfl, rfl, ?_⟩
  simp only [numB, List.cons.injEq, and_true, true_and]
  omega

def FourPost (n : Int) (w : World) (e : Ending) (w' : World) : Prop := ∃ z0 z1 z2 z3, e = .returned (.slice (some ⟨w.heap.size, 0, none⟩) 4 4) ∧ w' = w.alloc (F4 z0 z1 z2 z3) ∧ numB n 4 = [z0, z1, z2, z3]
theorem four_any (n : Int) (w : World) (h : -2147483648 ≤ n ∧ n < 4294967296) : Calls Tryz.prog 151 #[.int .i64 n] w (FourPost n w) := by
  obtain ⟨h0, h1⟩ := h
  by_cases hn : n < 0
  · go_enter Tryz.func151, Tryz.ntmps151
    go_wp2
    go_ret
    refine ⟨_, _, _, _, rfl, rfl, ?_⟩
    simp only [numB, List.cons.injEq, and_true]
    omega
  · go_enter Tryz.func151, Tryz.ntmps151
    go_wp2
    go_ret
    refine ⟨_, _, _, _, rfl, rfl, ?_⟩
    simp only [numB, List.cons.injEq, and_true, true_and]
    omega

/-- four bytes as a number with a sign -/
def sgnF (v : Int) : Int := if 2147483648 ≤ v then v - 4294967296 else v
def ValPost (z : Int) (w : World) (e : Ending) (w' : World) : Prop := e = .returned (.int .i64 z) ∧ ∃ n, w' = w.drewN n
set_option maxHeartbeats 400000 in
theorem value_any (g off c : Nat) (x0 x1 x2 x3 : Int) (w : World) (hB : ByteL [x0, x1, x2, x3]) (h0 : w.cell? ⟨g, off, none⟩ = some (.int .u8 x0)) (h1 : w.cell? ⟨g, off + 1, none⟩ = some (.int .u8 x1)) (h2 : w.cell? ⟨g, off + 2, none⟩ = some (.int .u8 x2)) (h3 : w.cell? ⟨g, off + 3, none⟩ = some (.int .u8 x3)) :
    Calls Tryz.prog 117 #[.slice (some ⟨g, off, none⟩) 4 c, .bool false] w (ValPost (valB [x0, x1, x2, x3]) w) := by
  obtain ⟨a0, b0⟩ := hB x0 (by simp)
  obtain ⟨a1, b1⟩ := hB x1 (by simp)
  obtain ⟨a2, b2⟩ := hB x2 (by simp)
  obtain ⟨a3, b3⟩ := hB x3 (by simp)
  clear hB
  have HV := hideIt (show valB [x0, x1, x2, x3] = x0 + 256 * (x1 + 256 * (x2 + 256 * x3)) by simp only [valB]; omega)
  go_enter Tryz.func117, Tryz.ntmps117
  go_wp2
  go_quiet (fail)
  go_wp2
  go_ret
  exact ⟨by rw [HV.out]; rfl, _, rfl⟩

def LSumPost (z : Int) (w : World) (e : Ending) (w' : World) : Prop := e = .returned (.int .i64 z) ∧ w = w'
set_option maxHeartbeats 400000 in
theorem Sum_any (g n c : Nat) (l : List Int) (w : World) (hn : n ≤ maxLen) (hl : l.length = n) (hB : ByteL l) (hc : BytesAt w g 0 l) :
    Calls Tryz.prog 152 #[.slice (some ⟨g, 0, none⟩) n c] w (LSumPost (sumF 2166136261 l) w) := by
  unfold maxLen at hn
  have HB := hideIt hc
  have HBL := hideIt hB
  clear hc hB
  go_enter Tryz.func152, Tryz.ntmps152
  go_wp2
  go_loop [3, 4] (fun s i => ∃ k : Nat, k ≤ n ∧ i = .int .i64 k ∧ s = .int .i64 (sumF 2166136261 (l.take k))) (fun _ i => n - (intOf i).toNat)
  case atStart => exact ⟨0, Nat.zero_le _, rfl, rfl⟩
  case round =>
    obtain ⟨k, hk, rfl, rfl⟩ := hrel
    by_cases hlt : k < n
    · have hget : l[k]? = some l[k] := List.getElem?_eq_getElem (by omega)
      have hu := HB.out k _ hget
      rw [Nat.zero_add] at hu
      have hbr := HBL.out _ (List.mem_of_getElem? hget)
      have hst := sumF_snoc (s := 2166136261) hget
      have hsr := sumF_range (s := 2166136261) (by omega) (l.take k)
      generalize l[k] = b at *
      generalize sumF 2166136261 (l.take k) = z at *
      obtain ⟨x1, x2, x3⟩ := xor64 hsr hbr
      have HST := hideIt hst
      have HX := hideIt x1
      have y2 : 0 ≤ bits .xor .i64 z b := by omega
      have y3 : bits .xor .i64 z b < 4294967296 := by omega
      clear hst hget x1 x2 x3 hsr
      obtain ⟨X, hX⟩ : ∃ X, bits .xor .i64 z b = X := ⟨_, rfl⟩
      have HXX := hideIt hX
      rw [hX] at y2 y3
      go_wp2
      go_round
      case rel =>
        refine ⟨k + 1, by omega, by go_num, ?_⟩
        rw [HST.out]
        unfold sumStep
        rw [← HX.out, HXX.out]
        try rfl
      case measure => simp [intOf]; omega
    · have hkn : k = n := by omega
      subst hkn
      have e : l.take k = l := by rw [← hl]; exact List.take_length
      rw [e]
      go_wp2
      go_ret
      exact ⟨rfl, rfl⟩

theorem u8s_cat (a b : List Int) : catL (u8s a) (u8s b) = u8s (a ++ b) := (u8s_append a b).symm

/-- bytes just laid -/
theorem owns_two {w : World} {base : Nat} (hb : base ≤ w.heap.size) {n z0 z1 : Int} (e : numB n 2 = [z0, z1]) : (w.alloc (F2 z0 z1)).ownsRow base 5 1 (.slice (some ⟨w.heap.size, 0, none⟩) 2 2) 2 (u8s (numB n 2)) := by
  rw [e]
  exact owns_allocB (cur := #[.int .u8 z0, .int .u8 z1]) rfl (by decide) hb
theorem owns_four {w : World} {base : Nat} (hb : base ≤ w.heap.size) {n z0 z1 z2 z3 : Int} (e : numB n 4 = [z0, z1, z2, z3]) : (w.alloc (F4 z0 z1 z2 z3)).ownsRow base 5 1 (.slice (some ⟨w.heap.size, 0, none⟩) 4 4) 4 (u8s (numB n 4)) := by
  rw [e]
  exact owns_allocB (cur := #[.int .u8 z0, .int .u8 z1, .int .u8 z2, .int .u8 z3]) rfl (by decide) hb

def RecPost (r : List Int) (m : Nat) (w : World) (e : Ending) (w' : World) : Prop := ∃ g cap, e = .returned (.slice (some ⟨g, 0, none⟩) (m + 5) cap) ∧ w'.ownsRow w.heap.size 5 1 (.slice (some ⟨g, 0, none⟩) (m + 5) cap) (m + 5) (u8s r) ∧ Mod [] w w'
set_option maxHeartbeats 400000 in
theorem Record_any (last kind : Int) (lg : List Int) (bv : Value) (m : Nat) (bs : List Int) (w : World) (hl : 0 ≤ last ∧ last < 4294967296) (ha : numB last 4 = ahead lg) (hk : 0 ≤ kind ∧ kind < 256) (hm : m ≤ 100) (hb : srcRow w 1 bv m (u8s bs)) (hB : ByteL bs) :
    Calls Tryz.prog 116 #[.int .i64 last, .int .u8 kind, bv] w (RecPost (recF lg kind bs) m w) := by
  obtain ⟨i0, hi, hz0, hz1, hz2⟩ := info_partsB infoB
  have hb1 : Mod [] w (w.alloc (.cells #[.int .u8 kind] 5)) := Mod.alloc _ _
  have ho1 : (w.alloc (.cells #[.int .u8 kind] 5)).ownsRow w.heap.size 5 1 (.slice (some ⟨w.heap.size, 0, none⟩) 1 1) 1 (u8s [kind]) := owns_allocB (cur := #[.int .u8 kind]) rfl (by decide) (Nat.le_refl _)
  have hs1 := srcRow_mod hb hb1
  have hbs : bs.length = m := by have := hb.1; rw [u8s_length] at this; omega
  go_enter Tryz.func116, Tryz.ntmps116
  go_wp2_with (at_builtin; refine wpList_append_rows _ rfl _ _ 56 rfl w.heap.size 5 i0 (.int .u8 0) 1 1 Tryz.underlying56 hi hz0 hz1 hz2 rfl (by decide) _ 1 (u8s [kind]) rfl ho1 _ m (u8s bs) rfl hs1 (by omega) (by unfold maxLen; omega) (by omega) (by simp) ?_)
  intro g1 c1 w2 ho2 hm2 hat2
  have hb2 : Mod [] w w2 := hb1.then hm2 (by simp [Value.ownBlock])
  have hz2' : w.heap.size < w2.heap.size := by have := hm2.size; simp at this; omega
  rw [u8s_cat] at ho2
  have hg1 := ho2.lt g1 rfl
  clear hb1 ho1 hs1 hat2 hm2 hb
  have hBk : ByteL ([kind] ++ bs) := (ByteL.cons hk ByteL.nil).append hB
  obtain ⟨xs2, hxs2⟩ : ∃ xs2, [kind] ++ bs = xs2 := ⟨_, rfl⟩
  rw [hxs2] at ho2 hBk
  have HXS := hideIt hxs2
  have hl2 : xs2.length = 1 + m := by rw [← hxs2]; simp; omega
  clear hxs2
  go_wp2_with fail
  refine (four_any last _ (by omega)).mono ?_
  rintro e w' ⟨z0, z1, z2, z3, rfl, hw, h4⟩
  have ho3 := owns_four (w := w2) (base := w2.heap.size) (Nat.le_refl _) h4
  rw [← hw] at ho3
  have hma : Mod [] w2 w' := by rw [hw]; exact Mod.alloc _ _
  have hb3 : Mod [] w w' := hb2.trans hma
  have ho2' := owns_kept ho2 hma (by simp)
  have hs2 := srcRow_of_owns ho2' (u8s_one _)
  have hsz : w2.heap.size < w'.heap.size := by rw [hw]; simp
  rw [ha] at ho3
  have hla : (ahead lg).length = 4 := by rw [← ha]; exact numB_length 4 _
  have hBa : ByteL (ahead lg) := by rw [← ha]; exact numB_byte _ _
  clear hw h4 hma ho2 ha
  go_wp2_with (at_builtin; refine wpList_append_rows _ rfl _ _ 56 rfl w2.heap.size 5 i0 (.int .u8 0) 1 1 Tryz.underlying56 hi hz0 hz1 hz2 rfl (by decide) _ 4 (u8s (ahead lg)) rfl ho3 _ (1 + m) (u8s xs2) rfl hs2 (by omega) (by unfold maxLen; omega) (by omega) (by omega) ?_)
  intro g3 c3 w3 ho4 hm3 hat3
  rw [u8s_cat] at ho4
  have hb4 : Mod [] w w3 := hb3.then hm3 (by simp [Value.ownBlock]; omega)
  have hz3 : w2.heap.size < w3.heap.size := by have := hm3.size; omega
  have ho5 : w3.ownsRow w.heap.size 5 1 (.slice (some ⟨g1, 0, none⟩) (1 + m) c1) (1 + m) (u8s xs2) := owns_kept ho2' hm3 (by simp [Value.ownBlock]; omega)
  have hcs := BytesAt.of_owns ho4
  have HSE := hideIt (show sumF 2166136261 (ahead lg ++ xs2) = sealF lg (kind :: bs) by rw [← HXS.out]; rfl)
  have HSR := hideIt (sealF_range lg (kind :: bs))
  have HSU := hideIt (Sum_any g3 (4 + (1 + m)) c3 (ahead lg ++ xs2) w3 (by unfold maxLen; omega) (by rw [List.length_append, hla, hl2]) (hBa.append hBk) hcs)
  rw [HSE.out] at HSU
  clear ho2' hs2 ho3 hb3 hm3 hat3 hb2 hcs ho4
  obtain ⟨zs, hzs⟩ : ∃ zs, sealF lg (kind :: bs) = zs := ⟨_, rfl⟩
  rw [hzs] at HSU HSR
  have HZE := hideIt hzs
  clear hzs HSE
  go_wp2_with fail
  refine HSU.out.mono ?_
  rintro e w' ⟨rfl, rfl⟩
  go_wp2_with fail
  refine (four_any zs _ (by have := HSR.out; omega)).mono ?_
  rintro e w4 ⟨y0, y1, y2, y3, rfl, hw, h4⟩
  have hma : Mod [] w3 w4 := by rw [hw]; exact Mod.alloc _ _
  have hs6 : srcRow w4 1 (.slice (some ⟨w3.heap.size, 0, none⟩) 4 4) 4 (u8s (numB zs 4)) := by rw [hw]; exact srcRow_of_owns (owns_four (Nat.le_refl _) h4) (u8s_one _)
  have ho6 := owns_kept ho5 hma (by simp)
  have hb6 := hb4.trans hma
  have hsz4 := hb6.size
  clear hw h4 hma ho5 hb4
  go_wp2_with (at_builtin; refine wpList_append_rows _ rfl _ _ 56 rfl w.heap.size 5 i0 (.int .u8 0) 1 1 Tryz.underlying56 hi hz0 hz1 hz2 rfl (by decide) _ (1 + m) (u8s xs2) rfl ho6 _ 4 (u8s (numB zs 4)) rfl hs6 (by omega) (by unfold maxLen; omega) (by omega) hsz4 ?_)
  intro g7 c7 w7 ho7 hm7 hat7
  rw [u8s_cat] at ho7
  go_wp2
  go_ret
  rw [show 1 + m + 4 = m + 5 by omega] at ho7
  refine ⟨g7, c7, by rw [show 1 + m + 4 = m + 5 by omega]; rfl, ?_, hb6.then hm7 (by simp [Value.ownBlock]; omega)⟩
  rw [← HXS.out] at ho7
  unfold recF
  rw [HZE.out]
  exact ho7
end Go.Proofs.YthimaoipogocfaaGreat
