import Derived.Test.YthimaoipogocfaaGreatJ15
import Derived.Deep.QuietTactic
import Derived.BigQuiet
import Derived.Deep.DeepMust
namespace Go.Proofs.YthimaoipogocfaaGreat
open Go.RowKit Go.Maps
attribute [local go_sem] run_store_f32 run_neg_inf

theorem xor_nat (n m : Nat) (hn : n < 4294967296) (hm : m < 256) : bits .xor .i64 (n : Int) (m : Int) = ((n ^^^ m : Nat) : Int) ∧ bits .xor .u32 (n : Int) (m : Int) = ((n ^^^ m : Nat) : Int) ∧ n ^^^ m < 4294967296 := by
  have h3 : n ^^^ m < 2 ^ 32 := Nat.xor_lt_two_pow (by omega) (by omega)
  have h64 : (BitVec.ofInt 64 (n : Int) ^^^ BitVec.ofInt 64 (m : Int)).toNat = n ^^^ m := by
    rw [BitVec.toNat_xor, BitVec.ofInt_natCast, BitVec.ofInt_natCast, BitVec.toNat_ofNat, BitVec.toNat_ofNat, Nat.mod_eq_of_lt (by omega), Nat.mod_eq_of_lt (by omega)]
  have h32 : (BitVec.ofInt 32 (n : Int) ^^^ BitVec.ofInt 32 (m : Int)).toNat = n ^^^ m := by
    rw [BitVec.toNat_xor, BitVec.ofInt_natCast, BitVec.ofInt_natCast, BitVec.toNat_ofNat, BitVec.toNat_ofNat, Nat.mod_eq_of_lt (by omega), Nat.mod_eq_of_lt (by omega)]
  refine ⟨?_, ?_, by omega⟩
  · show IntKind.i64.wrap ((BitVec.ofInt 64 (n : Int) ^^^ BitVec.ofInt 64 (m : Int)).toNat : Int) = _
    rw [h64, IntKind.wrap_i64]
    omega
  · show IntKind.u32.wrap ((BitVec.ofInt 32 (n : Int) ^^^ BitVec.ofInt 32 (m : Int)).toNat : Int) = _
    rw [h32]
    show (((n ^^^ m : Nat) : Int) % 4294967296) = _
    omega
theorem xor64 {s b : Int} (hs : 0 ≤ s ∧ s < 4294967296) (hb : 0 ≤ b ∧ b < 256) : bits .xor .i64 s b = bits .xor .u32 s b ∧ 0 ≤ bits .xor .u32 s b ∧ bits .xor .u32 s b < 4294967296 := by
  obtain ⟨n, rfl⟩ := Int.eq_ofNat_of_zero_le hs.1
  obtain ⟨m, rfl⟩ := Int.eq_ofNat_of_zero_le hb.1
  obtain ⟨h1, h2, h3⟩ := xor_nat n m (by omega) (by omega)
  rw [h1, h2]
  omega

abbrev F2 (z0 z1 : Int) : Obj := .cells #[.int .u8 z0, .int .u8 z1] 5 (0, 0)
abbrev F4 (z0 z1 z2 z3 : Int) : Obj := .cells #[.int .u8 z0, .int .u8 z1, .int .u8 z2, .int .u8 z3] 5 (0, 0)

def TwoPost (n : Int) (w : World) (e : Ending) (w' : World) : Prop := ∃ z0 z1, e = .returned (.slice (some ⟨w.heap.size, 0, none⟩) 2 2) ∧ w' = w.alloc (F2 z0 z1) ∧ numB n 2 = [z0, z1]
theorem two_any (n : Int) (w : World) (h0 : 0 ≤ n) (h1 : n ≤ 4095) : Calls Tryz.prog 122 #[.int .i64 n] w (TwoPost n w) := by
  go_enter Tryz.func122, Tryz.ntmps122
  go_wp2
  go_ret
  refine ⟨_, _, rfl, rfl, ?_⟩
  simp only [numB, List.cons.injEq, and_true, true_and]
  omega

def FourPost (n : Int) (w : World) (e : Ending) (w' : World) : Prop := ∃ z0 z1 z2 z3, e = .returned (.slice (some ⟨w.heap.size, 0, none⟩) 4 4) ∧ w' = w.alloc (F4 z0 z1 z2 z3) ∧ numB n 4 = [z0, z1, z2, z3]
theorem four_any (n : Int) (w : World) (h : -2147483648 ≤ n ∧ n < 4294967296) : Calls Tryz.prog 151 #[.int .i64 n] w (FourPost n w) := by
  obtain ⟨h0, h1⟩ := h
  by_cases hn : n < 0
  · go_enter Tryz.func151, Tryz.ntmps151
    go_wp2
    go_ret
    refine ⟨_, _, _, _, rfl, rfl, ?_⟩
    simp only [numB, List.cons.injEq, and_true]
    omega
  · go_enter Tryz.func151, Tryz.ntmps151
    go_wp2
    go_ret
    refine ⟨_, _, _, _, rfl, rfl, ?_⟩
    simp only [numB, List.cons.injEq, and_true, true_and]
    omega

/-- four bytes as a number with a sign -/
def sgnF (v : Int) : Int := if 2147483648 ≤ v then v - 4294967296 else v
def ValPost (z : Int) (w : World) (e : Ending) (w' : World) : Prop := e = .returned (.int .i64 z) ∧ ∃ n, w' = w.drewN n
set_option maxHeartbeats 400000 in
theorem value_any (g off c : Nat) (x0 x1 x2 x3 : Int) (w : World) (hB : ByteL [x0, x1, x2, x3]) (h0 : w.cell? ⟨g, off, none⟩ = some (.int .u8 x0)) (h1 : w.cell? ⟨g, off + 1, none⟩ = some (.int .u8 x1)) (h2 : w.cell? ⟨g, off + 2, none⟩ = some (.int .u8 x2)) (h3 : w.cell? ⟨g, off + 3, none⟩ = some (.int .u8 x3)) :
    Calls Tryz.prog 117 #[.slice (some ⟨g, off, none⟩) 4 c, .bool false] w (ValPost (valB [x0, x1, x2, x3]) w) := by
  obtain ⟨a0, b0⟩ := hB x0 (by simp)
  obtain ⟨a1, b1⟩ := hB x1 (by simp)
  obtain ⟨a2, b2⟩ := hB x2 (by simp)
  obtain ⟨a3, b3⟩ := hB x3 (by simp)
  clear hB
  have HV := hideIt (show valB [x0, x1, x2, x3] = x0 + 256 * (x1 + 256 * (x2 + 256 * x3)) by simp only [valB]; omega)
  go_enter Tryz.func117, Tryz.ntmps117
  go_wp2
  go_quiet (fail)
  go_wp2
  go_ret
  exact ⟨by rw [HV.out]; rfl, _, rfl⟩

def LSumPost (z : Int) (w : World) (e : Ending) (w' : World) : Prop := e = .returned (.int .i64 z) ∧ w = w'
set_option maxHeartbeats 400000 in
theorem Sum_any (g n c : Nat) (l : List Int) (w : World) (hn : n ≤ maxLen) (hl : l.length = n) (hB : ByteL l) (hc : BytesAt w g 0 l) :
    Calls Tryz.prog 152 #[.slice (some ⟨g, 0, none⟩) n c] w (LSumPost (sumF 2166136261 l) w) := by
  unfold maxLen at hn
  have HB := hideIt hc
  have HBL := hideIt hB
  clear hc hB
  go_enter Tryz.func152, Tryz.ntmps152
  go_wp2
  go_loop [3, 4] (fun s i => ∃ k : Nat, k ≤ n ∧ i = .int .i64 k ∧ s = .int .i64 (sumF 2166136261 (l.take k))) (fun _ i => n - (intOf i).toNat)
  case atStart => exact ⟨0, Nat.zero_le _, rfl, rfl⟩
  case round =>
    obtain ⟨k, hk, rfl, rfl⟩ := hrel
    by_cases hlt : k < n
    · have hget : l[k]? = some l[k] := List.getElem?_eq_getElem (by omega)
      have hu := HB.out k _ hget
      rw [Nat.zero_add] at hu
      have hbr := HBL.out _ (List.mem_of_getElem? hget)
      have hst := sumF_snoc (s := 2166136261) hget
      have hsr := sumF_range (s := 2166136261) (by omega) (l.take k)
      generalize l[k] = b at *
      generalize sumF 2166136261 (l.take k) = z at *
      obtain ⟨x1, x2, x3⟩ := xor64 hsr hbr
      have HST := hideIt hst
      have HX := hideIt x1
      have y2 : 0 ≤ bits .xor .i64 z b := by omega
      have y3 : bits .xor .i64 z b < 4294967296 := by omega
      clear hst hget x1 x2 x3 hsr
      obtain ⟨X, hX⟩ : ∃ X, bits .xor .i64 z b = X := ⟨_, rfl⟩
      have HXX := hideIt hX
      rw [hX] at y2 y3
      go_wp2
      go_round
      case rel =>
        refine ⟨k + 1, by omega, by go_num, ?_⟩
        rw [HST.out]
        unfold sumStep
        rw [← HX.out, HXX.out]
        try rfl
      case measure => simp [intOf]; omega
    · have hkn : k = n := by omega
      subst hkn
      have e : l.take k = l := by rw [← hl]; exact List.take_length
      rw [e]
      go_wp2
      go_ret
      exact ⟨rfl, rfl⟩

theorem u8s_cat (a b : List Int) : catL (u8s a) (u8s b) = u8s (a ++ b) := (u8s_append a b).symm

/-- bytes just laid -/
theorem owns_two {w : World} {base : Nat} (hb : base ≤ w.heap.size) {n z0 z1 : Int} (e : numB n 2 = [z0, z1]) : (w.alloc (F2 z0 z1)).ownsRow base 5 1 (.slice (some ⟨w.heap.size, 0, none⟩) 2 2) 2 (u8s (numB n 2)) := by
  rw [e]
  exact owns_allocB (cur := #[.int .u8 z0, .int .u8 z1]) rfl (by decide) hb
theorem owns_four {w : World} {base : Nat} (hb : base ≤ w.heap.size) {n z0 z1 z2 z3 : Int} (e : numB n 4 = [z0, z1, z2, z3]) : (w.alloc (F4 z0 z1 z2 z3)).ownsRow base 5 1 (.slice (some ⟨w.heap.size, 0, none⟩) 4 4) 4 (u8s (numB n 4)) := by
  rw [e]
  exact owns_allocB (cur := #[.int .u8 z0, .int .u8 z1, .int .u8 z2, .int .u8 z3]) rfl (by decide) hb

def RecPost (r : List Int) (m : Nat) (w : World) (e : Ending) (w' : World) : Prop := ∃ g cap, e = .returned (.slice (some ⟨g, 0, none⟩) (m + 5) cap) ∧ w'.ownsRow w.heap.size 5 1 (.slice (some ⟨g, 0, none⟩) (m + 5) cap) (m + 5) (u8s r) ∧ Mod [] w w'
set_option maxHeartbeats 400000 in
theorem Record_any (last kind : Int) (lg : List Int) (bv : Value) (m : Nat) (bs : List Int) (w : World) (hl : 0 ≤ last ∧ last < 4294967296) (ha : numB last 4 = ahead lg) (hk : 0 ≤ kind ∧ kind < 256) (hm : m ≤ 100) (hb : srcRow w 1 bv m (u8s bs)) (hB : ByteL bs) :
    Calls Tryz.prog 116 #[.int .i64 last, .int .u8 kind, bv] w (RecPost (recF lg kind bs) m w) := by
  obtain ⟨i0, hi, hz0, hz1, hz2⟩ := info_partsB infoB
  have hb1 : Mod [] w (w.alloc (.cells #[.int .u8 kind] 5)) := Mod.alloc _ _
  have ho1 : (w.alloc (.cells #[.int .u8 kind] 5)).ownsRow w.heap.size 5 1 (.slice (some ⟨w.heap.size, 0, none⟩) 1 1) 1 (u8s [kind]) := owns_allocB (cur := #[.int .u8 kind]) rfl (by decide) (Nat.le_refl _)
  have hs1 := srcRow_mod hb hb1
  have hbs : bs.length = m := by have := hb.1; rw [u8s_length] at this; omega
  go_enter Tryz.func116, Tryz.ntmps116
  go_wp2_with (at_builtin; refine wpList_append_rows _ rfl _ _ 56 rfl w.heap.size 5 i0 (.int .u8 0) 1 1 Tryz.underlying56 hi hz0 hz1 hz2 rfl (by decide) _ 1 (u8s [kind]) rfl ho1 _ m (u8s bs) rfl hs1 (by omega) (by unfold maxLen; omega) (by omega) (by simp) ?_)
  intro g1 c1 w2 ho2 hm2 hat2
  have hb2 : Mod [] w w2 := hb1.then hm2 (by simp [Value.ownBlock])
  have hz2' : w.heap.size < w2.heap.size := by have := hm2.size; simp at this; omega
  rw [u8s_cat] at ho2
  have hg1 := ho2.lt g1 rfl
  clear hb1 ho1 hs1 hat2 hm2 hb
  have hBk : ByteL ([kind] ++ bs) := (ByteL.cons hk ByteL.nil).append hB
  obtain ⟨xs2, hxs2⟩ : ∃ xs2, [kind] ++ bs = xs2 := ⟨_, rfl⟩
  rw [hxs2] at ho2 hBk
  have HXS := hideIt hxs2
  have hl2 : xs2.length = 1 + m := by rw [← hxs2]; simp; omega
  clear hxs2
  go_wp2_with fail
  refine (four_any last _ (by omega)).mono ?_
  rintro e w' ⟨z0, z1, z2, z3, rfl, hw, h4⟩
  have ho3 := owns_four (w := w2) (base := w2.heap.size) (Nat.le_refl _) h4
  rw [← hw] at ho3
  have hma : Mod [] w2 w' := by rw [hw]; exact Mod.alloc _ _
  have hb3 : Mod [] w w' := hb2.trans hma
  have ho2' := owns_kept ho2 hma (by simp)
  have hs2 := srcRow_of_owns ho2' (u8s_one _)
  have hsz : w2.heap.size < w'.heap.size := by rw [hw]; simp
  rw [ha] at ho3
  have hla : (ahead lg).length = 4 := by rw [← ha]; exact numB_length 4 _
  have hBa : ByteL (ahead lg) := by rw [← ha]; exact numB_byte _ _
  clear hw h4 hma ho2 ha
  go_wp2_with (at_builtin; refine wpList_append_rows _ rfl _ _ 56 rfl w2.heap.size 5 i0 (.int .u8 0) 1 1 Tryz.underlying56 hi hz0 hz1 hz2 rfl (by decide) _ 4 (u8s (ahead lg)) rfl ho3 _ (1 + m) (u8s xs2) rfl hs2 (by omega) (by unfold maxLen; omega) (by omega) (by omega) ?_)
  intro g3 c3 w3 ho4 hm3 hat3
  rw [u8s_cat] at ho4
  have hb4 : Mod [] w w3 := hb3.then hm3 (by simp [Value.ownBlock]; omega)
  have hz3 : w2.heap.size < w3.heap.size := by have := hm3.size; omega
  have ho5 : w3.ownsRow w.heap.size 5 1 (.slice (some ⟨g1, 0, none⟩) (1 + m) c1) (1 + m) (u8s xs2) := owns_kept ho2' hm3 (by simp [Value.ownBlock]; omega)
  have hcs := BytesAt.of_owns ho4
  have HSE := hideIt (show sumF 2166136261 (ahead lg ++ xs2) = sealF lg (kind :: bs) by rw [← HXS.out]; rfl)
  have HSR := hideIt (sealF_range lg (kind :: bs))
  have HSU := hideIt (Sum_any g3 (4 + (1 + m)) c3 (ahead lg ++ xs2) w3 (by unfold maxLen; omega) (by rw [List.length_append, hla, hl2]) (hBa.append hBk) hcs)
  rw [HSE.out] at HSU
  clear ho2' hs2 ho3 hb3 hm3 hat3 hb2 hcs ho4
  obtain ⟨zs, hzs⟩ : ∃ zs, sealF lg (kind :: bs) = zs := ⟨_, rfl⟩
  rw [hzs] at HSU HSR
  have HZE := hideIt hzs
  clear hzs HSE
  go_wp2_with fail
  refine HSU.out.mono ?_
  rintro e w' ⟨rfl, rfl⟩
  go_wp2_with fail
  refine (four_any zs _ (by have := HSR.out; omega)).mono ?_
  rintro e w4 ⟨y0, y1, y2, y3, rfl, hw, h4⟩
  have hma : Mod [] w3 w4 := by rw [hw]; exact Mod.alloc _ _
  have hs6 : srcRow w4 1 (.slice (some ⟨w3.heap.size, 0, none⟩) 4 4) 4 (u8s (numB zs 4)) := by rw [hw]; exact srcRow_of_owns (owns_four (Nat.le_refl _) h4) (u8s_one _)
  have ho6 := owns_kept ho5 hma (by simp)
  have hb6 := hb4.trans hma
  have hsz4 := hb6.size
  clear hw h4 hma ho5 hb4
  go_wp2_with (at_builtin; refine wpList_append_rows _ rfl _ _ 56 rfl w.heap.size 5 i0 (.int .u8 0) 1 1 Tryz.underlying56 hi hz0 hz1 hz2 rfl (by decide) _ (1 + m) (u8s xs2) rfl ho6 _ 4 (u8s (numB zs 4)) rfl hs6 (by omega) (by unfold maxLen; omega) (by omega) hsz4 ?_)
  intro g7 c7 w7 ho7 hm7 hat7
  rw [u8s_cat] at ho7
  go_wp2
  go_ret
  rw [show 1 + m + 4 = m + 5 by omega] at ho7
  refine ⟨g7, c7, by rw [show 1 + m + 4 = m + 5 by omega]; rfl, ?_, hb6.then hm7 (by simp [Value.ownBlock]; omega)⟩
  rw [← HXS.out] at ho7
  unfold recF
  rw [HZE.out]
  exact ho7
end Go.Proofs.YthimaoipogocfaaGreat

namespace Go.Proofs.YthimaoipogocfaaGreat
open Go.RowKit Go.Maps
attribute [local go_sem] run_store_f32 run_neg_inf

theorem cell_B4L {w : World} {p : Nat} {a b c d : Int} (h : w.heap[p]? = some (B4 a b c d)) : w.cell? ⟨p, 0, none⟩ = some (.int .i64 a) ∧ w.cell? ⟨p, 1, none⟩ = some (.int .i64 b) ∧ w.cell? ⟨p, 2, none⟩ = some (.int .i64 c) ∧ w.cell? ⟨p, 3, none⟩ = some (.int .i64 d) := by
  refine ⟨?_, ?_, ?_, ?_⟩ <;> rw [cell_of_block h] <;> rfl

/-- four bytes, just laid, as what is appended -/
theorem src_four (w : World) {n z0 z1 z2 z3 : Int} (e : numB n 4 = [z0, z1, z2, z3]) : srcRow (w.alloc (F4 z0 z1 z2 z3)) 1 (.slice (some ⟨w.heap.size, 0, none⟩) 4 4) 4 (u8s (numB n 4)) :=
  srcRow_of_owns (owns_four (Nat.le_refl _) e) (u8s_one _)

def BodyPost (l : List Int) (w : World) (e : Ending) (w' : World) : Prop := ∃ g cap, e = .returned (.slice (some ⟨g, 0, none⟩) 18 cap) ∧ w'.ownsRow w.heap.size 5 1 (.slice (some ⟨g, 0, none⟩) 18 cap) 18 (u8s l) ∧ Mod [] w w'

/-- what goes from one append to the next: the boxed rectangle, and the bytes so far -/
structure BodyAt (w : World) (x0 y0 x1 y1 : Int) (n g c : Nat) (xs : List Int) (w1 : World) : Prop where
  box : w1.heap[w.heap.size]? = some (B4 x0 y0 x1 y1)
  own : w1.ownsRow (w.heap.size + 1) 5 1 (.slice (some ⟨g, 0, none⟩) n c) n (u8s xs)
  mod : Mod [] w w1

theorem BodyAt.next {w : World} {x0 y0 x1 y1 : Int} {n g c : Nat} {xs : List Int} {w1 wa : World} (h : BodyAt w x0 y0 x1 y1 n g c xs w1) {z : Int} {g2 c2 : Nat} {w2 : World} (ha : Mod [] w1 wa)
    (ho : w2.ownsRow (w.heap.size + 1) 5 1 (.slice (some ⟨g2, 0, none⟩) (n + 4) c2) (n + 4) (catL (u8s xs) (u8s (numB z 4))))
    (hm : Mod [g] wa w2) : BodyAt w x0 y0 x1 y1 (n + 4) g2 c2 (xs ++ numB z 4) w2 := by
  have hlt := lt_of_block h.box
  have hg := (h.own.lt g rfl).1
  have hsz := ha.size
  refine ⟨?_, by rw [← u8s_cat]; exact ho, ?_⟩
  · rw [hm.block _ (by omega) (by simp; omega), ha.block _ hlt (by simp)]
    exact h.box
  · exact (h.mod.trans ha).then hm (by simp; omega)

set_option maxHeartbeats 400000 in
theorem Body_any (id x0 y0 x1 y1 : Int) (w : World) (hid : 0 ≤ id ∧ id ≤ 4095) (hr : RectOk x0 y0 x1 y1) :
    Calls Tryz.prog 154 #[.int .i64 id, R4 x0 y0 x1 y1] w (BodyPost (putB id x0 y0 x1 y1) w) := by
  obtain ⟨i0, hi, hz0, hz1, hz2⟩ := info_partsB infoB
  obtain ⟨hid0, hid1⟩ := hid
  obtain ⟨⟨hx0, hx1, hx2⟩, hy0, hy1, hy2⟩ := hr
  go_enter Tryz.func154, Tryz.ntmps154
  go_wp2_with fail
  refine (two_any id _ hid0 hid1).mono ?_
  rintro e w' ⟨t0, t1, rfl, hw, h2⟩
  have hA : BodyAt w x0 y0 x1 y1 2 (w.heap.size + 1) 2 (numB id 2) w' := by
    subst hw
    refine ⟨?_, ?_, ?_⟩
    · rw [Below.heap_alloc _ _ _ (by simp)]
      exact heap_alloc_new w _
    · have := owns_two (w := w.alloc (B4 x0 y0 x1 y1)) (base := w.heap.size + 1) (by simp) h2
      simpa using this
    · exact (Mod.alloc _ _).trans (Mod.alloc _ _)
  clear hw h2
  have hsz : (w.alloc (B4 x0 y0 x1 y1)).heap.size = w.heap.size + 1 := by simp
  rw [hsz]
  clear hsz
  obtain ⟨xs1, hxs1⟩ : ∃ xs1, xs1 = numB id 2 := ⟨_, rfl⟩
  obtain ⟨g1, hg1⟩ : ∃ g1, g1 = w.heap.size + 1 := ⟨_, rfl⟩
  have hA1 : BodyAt w x0 y0 x1 y1 2 g1 2 xs1 w' := hxs1 ▸ hg1 ▸ hA
  have HX1 := hideIt hxs1
  rw [← hg1]
  clear hg1 hA hxs1
  have hc0 := (cell_B4L hA1.box).1
  have hlt0 := lt_of_block hA1.box
  go_wp2_with fail
  refine (four_any x0 _ (by omega)).mono ?_
  rintro e v0 ⟨z0, z1, z2, z3, rfl, hw, h4⟩
  have hma : Mod [] w' v0 := by rw [hw]; exact Mod.alloc _ _
  have ho0 := owns_kept hA1.own hma (by simp)
  have hs0 : srcRow v0 1 (.slice (some ⟨w'.heap.size, 0, none⟩) 4 4) 4 (u8s (numB x0 4)) := by rw [hw]; exact src_four w' h4
  have hbz0 : w.heap.size + 1 ≤ v0.heap.size := by have := hma.size; omega
  have HMA := hideIt hma
  clear hw h4 hma
  go_wp2_with (at_builtin; refine wpList_append_rows _ rfl _ _ 56 rfl (w.heap.size + 1) 5 i0 (.int .u8 0) 1 1 Tryz.underlying56 hi hz0 hz1 hz2 rfl (by decide) _ 2 (u8s xs1) rfl ho0 _ 4 (u8s (numB x0 4)) rfl hs0 (by omega) (by unfold maxLen; omega) (by omega) hbz0 ?_)
  intro g2 c2 w2 hn0 hm0 _
  have hA2' := hA1.next HMA.out hn0 hm0
  obtain ⟨xs2, hxs2⟩ : ∃ xs2, xs2 = xs1 ++ numB x0 4 := ⟨_, rfl⟩
  rw [← hxs2] at hA2'
  have hA2 := hA2'
  have HX2 := hideIt hxs2
  clear hc0 hlt0 ho0 hs0 hbz0 hn0 hm0 hA1 HMA hA2' hxs2
  have hc1 := (cell_B4L hA2.box).2.1
  have hlt1 := lt_of_block hA2.box
  go_wp2_with fail
  refine (four_any y0 _ (by omega)).mono ?_
  rintro e v1 ⟨z0, z1, z2, z3, rfl, hw, h4⟩
  have hma : Mod [] w2 v1 := by rw [hw]; exact Mod.alloc _ _
  have ho1 := owns_kept hA2.own hma (by simp)
  have hs1 : srcRow v1 1 (.slice (some ⟨w2.heap.size, 0, none⟩) 4 4) 4 (u8s (numB y0 4)) := by rw [hw]; exact src_four w2 h4
  have hbz1 : w.heap.size + 1 ≤ v1.heap.size := by have := hma.size; omega
  have HMA := hideIt hma
  clear hw h4 hma
  go_wp2_with (at_builtin; refine wpList_append_rows _ rfl _ _ 56 rfl (w.heap.size + 1) 5 i0 (.int .u8 0) 1 1 Tryz.underlying56 hi hz0 hz1 hz2 rfl (by decide) _ 6 (u8s xs2) rfl ho1 _ 4 (u8s (numB y0 4)) rfl hs1 (by omega) (by unfold maxLen; omega) (by omega) hbz1 ?_)
  intro g3 c3 w3 hn1 hm1 _
  have hA3' := hA2.next HMA.out hn1 hm1
  obtain ⟨xs3, hxs3⟩ : ∃ xs3, xs3 = xs2 ++ numB y0 4 := ⟨_, rfl⟩
  rw [← hxs3] at hA3'
  have hA3 := hA3'
  have HX3 := hideIt hxs3
  clear hc1 hlt1 ho1 hs1 hbz1 hn1 hm1 hA2 HMA hA3' hxs3
  have hc2 := (cell_B4L hA3.box).2.2.1
  have hlt2 := lt_of_block hA3.box
  go_wp2_with fail
  refine (four_any x1 _ (by omega)).mono ?_
  rintro e v2 ⟨z0, z1, z2, z3, rfl, hw, h4⟩
  have hma : Mod [] w3 v2 := by rw [hw]; exact Mod.alloc _ _
  have ho2 := owns_kept hA3.own hma (by simp)
  have hs2 : srcRow v2 1 (.slice (some ⟨w3.heap.size, 0, none⟩) 4 4) 4 (u8s (numB x1 4)) := by rw [hw]; exact src_four w3 h4
  have hbz2 : w.heap.size + 1 ≤ v2.heap.size := by have := hma.size; omega
  have HMA := hideIt hma
  clear hw h4 hma
  go_wp2_with (at_builtin; refine wpList_append_rows _ rfl _ _ 56 rfl (w.heap.size + 1) 5 i0 (.int .u8 0) 1 1 Tryz.underlying56 hi hz0 hz1 hz2 rfl (by decide) _ 10 (u8s xs3) rfl ho2 _ 4 (u8s (numB x1 4)) rfl hs2 (by omega) (by unfold maxLen; omega) (by omega) hbz2 ?_)
  intro g4 c4 w4 hn2 hm2 _
  have hA4' := hA3.next HMA.out hn2 hm2
  obtain ⟨xs4, hxs4⟩ : ∃ xs4, xs4 = xs3 ++ numB x1 4 := ⟨_, rfl⟩
  rw [← hxs4] at hA4'
  have hA4 := hA4'
  have HX4 := hideIt hxs4
  clear hc2 hlt2 ho2 hs2 hbz2 hn2 hm2 hA3 HMA hA4' hxs4
  have hc3 := (cell_B4L hA4.box).2.2.2
  have hlt3 := lt_of_block hA4.box
  go_wp2_with fail
  refine (four_any y1 _ (by omega)).mono ?_
  rintro e v3 ⟨z0, z1, z2, z3, rfl, hw, h4⟩
  have hma : Mod [] w4 v3 := by rw [hw]; exact Mod.alloc _ _
  have ho3 := owns_kept hA4.own hma (by simp)
  have hs3 : srcRow v3 1 (.slice (some ⟨w4.heap.size, 0, none⟩) 4 4) 4 (u8s (numB y1 4)) := by rw [hw]; exact src_four w4 h4
  have hbz3 : w.heap.size + 1 ≤ v3.heap.size := by have := hma.size; omega
  have HMA := hideIt hma
  clear hw h4 hma
  go_wp2_with (at_builtin; refine wpList_append_rows _ rfl _ _ 56 rfl (w.heap.size + 1) 5 i0 (.int .u8 0) 1 1 Tryz.underlying56 hi hz0 hz1 hz2 rfl (by decide) _ 14 (u8s xs4) rfl ho3 _ 4 (u8s (numB y1 4)) rfl hs3 (by omega) (by unfold maxLen; omega) (by omega) hbz3 ?_)
  intro g5 c5 w5 hn3 hm3 _
  have hA5' := hA4.next HMA.out hn3 hm3
  obtain ⟨xs5, hxs5⟩ : ∃ xs5, xs5 = xs4 ++ numB y1 4 := ⟨_, rfl⟩
  rw [← hxs5] at hA5'
  have hA5 := hA5'
  have HX5 := hideIt hxs5
  clear hc3 hlt3 ho3 hs3 hbz3 hn3 hm3 hA4 HMA hA5' hxs5
  have HE := hideIt (show putB id x0 y0 x1 y1 = xs5 by rw [HX5.out, HX4.out, HX3.out, HX2.out, HX1.out]; rfl)
  have HFIN := hideIt (show BodyPost (putB id x0 y0 x1 y1) w (.returned (.slice (some ⟨g5, 0, none⟩) 18 c5)) w5 from ⟨g5, c5, rfl, by rw [HE.out]; exact owns_base hA5.own (by omega), hA5.mod⟩)
  clear hA5
  go_wp2
  go_ret
  exact HFIN.out

end Go.Proofs.YthimaoipogocfaaGreat

namespace Go.Proofs.YthimaoipogocfaaGreat
open Go.RowKit Go.Maps
attribute [local go_sem] run_store_f32 run_neg_inf

/-- the reference's tree, as its block holds it -/
abbrev T58 (fan : Int) (tv lv : Value) (last : Int) : Obj := .cells #[.int .i64 fan, tv, lv, .int .i64 last] 106 (0, 0)

theorem cell_T58 {w : World} {b : Nat} {fan last : Int} {tv lv : Value} (h : w.heap[b]? = some (T58 fan tv lv last)) :
    w.cell? ⟨b, 0, none⟩ = some (.int .i64 fan) ∧ w.cell? ⟨b, 1, none⟩ = some tv ∧ w.cell? ⟨b, 2, none⟩ = some lv ∧ w.cell? ⟨b, 3, none⟩ = some (.int .i64 last) := by
  refine ⟨?_, ?_, ?_, ?_⟩ <;> rw [cell_of_block h] <;> rfl

/-- the last record's sum, as it goes into the next one's -/
def LastOk (last : Int) (lg : List Int) : Prop := (0 ≤ last ∧ last < 4294967296) ∧ numB last 4 = ahead lg
theorem LastOk.nil : LastOk 0 [] := ⟨by omega, by decide⟩
theorem LastOk.of {lg : List Int} (h4 : 4 ≤ lg.length) (hB : ByteL lg) : LastOk (valB (lg.drop (lg.length - 4))) lg := by
  have hl : (lg.drop (lg.length - 4)).length = 4 := by rw [List.length_drop]; omega
  have hr := valB_range (hB.drop (lg.length - 4))
  rw [hl] at hr
  refine ⟨by omega, ?_⟩
  have h1 := numB_valB (hB.drop (lg.length - 4))
  rw [hl] at h1
  rw [h1]
  unfold ahead
  rw [if_neg (by rintro rfl; simp at h4)]

/-- what note leaves -/
def NotePost (py : Nat) (fan : Int) (tv : Value) (lg : List Int) (w : World) (e : Ending) (w' : World) : Prop :=
  e = .returned (.tuple #[]) ∧ ∃ g c last' nl', w'.heap[py]? = some (T58 fan tv (.slice (some ⟨g, 0, none⟩) nl' c) last') ∧ LastOk last' lg ∧
    w'.ownsRow w.heap.size 5 1 (.slice (some ⟨g, 0, none⟩) nl' c) nl' (u8s lg) ∧ ByteL lg ∧ (4 ≤ nl' ∧ nl' = lg.length) ∧ Mod [py] w w'

theorem rec_last (lg : List Int) (kind : Int) (bs : List Int) : ∃ x0 x1 x2 x3, (recF lg kind bs).drop (bs.length + 1) = [x0, x1, x2, x3] := by
  have hl : ((recF lg kind bs).drop (bs.length + 1)).length = 4 := by rw [List.length_drop, recF_length]; omega
  match (recF lg kind bs).drop (bs.length + 1), hl with
  | [x0, x1, x2, x3], _ => exact ⟨x0, x1, x2, x3, rfl⟩
theorem recF_byte {kind : Int} (hk : 0 ≤ kind ∧ kind < 256) (lg : List Int) {bs : List Int} (hB : ByteL bs) : ByteL (recF lg kind bs) := (ByteL.cons hk hB).append (numB_byte _ _)
theorem note_last {lg r : List Int} {m : Nat} {x0 x1 x2 x3 : Int} (hr : r.length = m + 5) (h : r.drop (m + 1) = [x0, x1, x2, x3]) : (lg ++ r).drop ((lg ++ r).length - 4) = [x0, x1, x2, x3] := by
  rw [List.length_append, hr, List.drop_append, show lg.length + (m + 5) - 4 - lg.length = m + 1 by omega, h, List.drop_of_length_le (by omega)]
  rfl

theorem T58_set3 {w : World} {b : Nat} {fan last z : Int} {tv lv : Value} (h : w.heap[b]? = some (T58 fan tv lv last)) : (w.setCell ⟨b, 3, none⟩ (.int .i64 z)).heap[b]? = some (T58 fan tv lv z) := by
  rw [block_setCell h]; rfl
theorem T58_set2 {w : World} {b : Nat} {fan last : Int} {tv lv lv' : Value} (h : w.heap[b]? = some (T58 fan tv lv last)) : (w.setCell ⟨b, 2, none⟩ lv').heap[b]? = some (T58 fan tv lv' last) := by
  rw [block_setCell h]; rfl
theorem T58_set1 {w : World} {b : Nat} {fan last : Int} {tv lv tv' : Value} (h : w.heap[b]? = some (T58 fan tv lv last)) : (w.setCell ⟨b, 1, none⟩ tv').heap[b]? = some (T58 fan tv' lv last) := by
  rw [block_setCell h]; rfl

/-- a row of another element type lies in another block -/
theorem owns_ne {w : World} {base : Nat} {e e' : TypeId} {size g n c b : Nat} {xs : List Value} {cs : Array Value} {fr : Nat × Nat} (h : w.ownsRow base e size (.slice (some ⟨g, 0, none⟩) n c) n xs) (hb : w.heap[b]? = some (.cells cs e' fr)) (hne : e ≠ e') : g ≠ b := by
  rintro rfl
  rcases h.2 with ⟨h, _⟩ | ⟨g', c', cur, h1, _, h2, _⟩
  · cases h
  · cases h1
    rw [hb] at h2
    cases h2
    exact hne rfl

set_option maxRecDepth 100000 in
set_option maxHeartbeats 1000000 in
theorem note_more (py : Nat) (fan last kind : Int) (tv : Value) (gl nl cl : Nat) (lg : List Int) (bv : Value) (m : Nat) (bs : List Int) (w : World)
    (ht : w.heap[py]? = some (T58 fan tv (.slice (some ⟨gl, 0, none⟩) nl cl) last)) (hlast : LastOk last lg) (hlog : w.ownsRow 0 5 1 (.slice (some ⟨gl, 0, none⟩) nl cl) nl (u8s lg)) (hlu : ByteL lg) (hnl : 4 ≤ nl ∧ nl = lg.length) (hnl2 : nl ≤ 100000000) (hk : 0 ≤ kind ∧ kind < 256)
    (hm : m ≤ 100) (hb : srcRow w 1 bv m (u8s bs)) (hu : ByteL bs) :
    Calls Tryz.prog 80 #[.pointer (some ⟨py, 0, none⟩), .int .u8 kind, bv] w (NotePost py fan tv (lg ++ recF lg kind bs) w) := by
  obtain ⟨i0, hi, hz0, hz1, hz2⟩ := info_partsB infoB
  have hpy := lt_of_block ht
  have HNL := hideIt hnl.2
  replace hnl := hnl.1
  have ht3 := (cell_T58 ht).2.2.2
  go_enter Tryz.func80, Tryz.ntmps80
  go_wp2_with fail
  have hbs : bs.length = m := by have := hb.1; rw [u8s_length] at this; omega
  refine (Record_any last kind lg bv m bs _ hlast.1 hlast.2 hk hm hb hu).mono ?_
  rintro e w1 ⟨gr, cr, rfl, hor, hbel⟩
  obtain ⟨xs, hxs⟩ : ∃ xs, xs = recF lg kind bs := ⟨_, rfl⟩
  rw [← hxs] at hor
  have hxu : ByteL xs := by rw [hxs]; exact recF_byte hk _ hu
  have hxl : xs.length = m + 5 := by rw [hxs, recF_length, hbs]
  have hx4 := rec_last lg kind bs
  rw [← hxs, hbs] at hx4
  have HXS := hideIt hxs
  clear hxs
  have ht1 : w1.heap[py]? = some (T58 fan tv (.slice (some ⟨gl, 0, none⟩) nl cl) last) := (hbel.block py hpy (by simp)).trans ht
  have hgr := (hor.lt gr rfl)
  have hcr : m + 5 ≤ cr := by
    rcases hor.2 with ⟨h, _⟩ | ⟨g', c', cur, h1, _, _, h2, _⟩
    · cases h
    · cases h1; exact h2
  clear ht3
  have hcs := BytesAt.of_owns hor
  obtain ⟨x0, x1, x2, x3, hx4⟩ := hx4
  have hat : ∀ j y, [x0, x1, x2, x3][j]? = some y → w1.cell? ⟨gr, m + 1 + j, none⟩ = some (.int .u8 y) := fun j y hj => by
    rw [← hx4, List.getElem?_drop] at hj
    have := hcs _ y hj
    rw [Nat.zero_add] at this
    exact this
  have hx0 := hat 0 x0 rfl
  rw [Nat.add_zero] at hx0
  have hx1 := hat 1 x1 rfl
  have hx2 := hat 2 x2 rfl
  have hx3 := hat 3 x3 rfl
  have hBx : ByteL [x0, x1, x2, x3] := by rw [← hx4]; exact hxu.drop _
  have hval := value_any gr (m + 1) (cr - (m + 1)) x0 x1 x2 x3 w1 hBx hx0 hx1 hx2 hx3
  have HX4 := hideIt hx4
  clear hat hx4 hBx
  clear hcs hx0 hx1 hx2 hx3
  go_wp2_with fail
  obtain ⟨z, hz⟩ : ∃ z, z = valB [x0, x1, x2, x3] := ⟨_, rfl⟩
  rw [← hz] at hval
  have HZ := hideIt hz
  clear hz
  refine hval.mono ?_
  clear hval
  rintro e w2 ⟨rfl, nq, hw⟩
  have hm2 : Mod [] w1 w2 := by rw [hw]; exact Mod.drewN _ _
  clear hw
  have ht2 : w2.heap[py]? = some (T58 fan tv (.slice (some ⟨gl, 0, none⟩) nl cl) last) := (hm2.block py (lt_of_block ht1) (by simp)).trans ht1
  have hor2 := owns_kept hor hm2 (by simp)
  have hlog2 := owns_kept (owns_kept hlog (hbel) (by simp)) hm2 (by simp)
  have hgl : gl ≠ py := owns_ne hlog2 ht2 (by decide)
  have hc3 := (cell_T58 ht2).2.2.2
  have hf3 := frozen_of_block ht2 3
  have hM2 : Mod [py] w (w2.setCell ⟨py, 3, none⟩ (.int .i64 z)) := (((hbel).trans hm2).nil).trans (Mod.setCell _ _ _ (by simp))
  have ht3 := T58_set3 (z := z) ht2
  have hor3 := owns_kept hor2 (Mod.setCell (F := [py]) w2 ⟨py, 3, none⟩ (.int .i64 z) (by simp)) (by simp [Value.ownBlock]; omega)
  have hlog3 := owns_kept hlog2 (Mod.setCell (F := [py]) w2 ⟨py, 3, none⟩ (.int .i64 z) (by simp)) (by simp [Value.ownBlock]; exact hgl)
  have hc2 := (cell_T58 ht3).2.2.1
  have hsz3 : w.heap.size ≤ (w2.setCell ⟨py, 3, none⟩ (.int .i64 z)).heap.size := hM2.size
  have hs3 := srcRow_of_owns hlog3 (u8s_one _)
  clear hor2 hlog2 hm2 hor ht1 hlog hbel ht hb hgl
  generalize hW3 : w2.setCell ⟨py, 3, none⟩ (.int .i64 z) = w3 at *
  clear hlog3
  go_wp2_with (at_builtin; refine wpList_append_rows _ rfl _ _ 56 rfl w.heap.size 5 i0 (.int .u8 0) 1 1 Tryz.underlying56 hi hz0 hz1 hz2 rfl (by decide) _ 0 [] rfl (World.ownsRow_nil _ _ _ _) _ nl (u8s lg) rfl hs3 (by omega) (by unfold maxLen; omega) (by omega) hsz3 ?_)
  intro g4 c4 w4 ho4 hm4 hat4
  have hm4' : Mod [] w3 w4 := hm4
  have hg4 := (ho4.lt g4 rfl).1
  have ht4 : w4.heap[py]? = some (T58 fan tv (.slice (some ⟨gl, 0, none⟩) nl cl) z) := (hm4'.block py (lt_of_block ht3) (by simp)).trans ht3
  have hs4 := srcRow_mod (srcRow_of_owns hor3 (u8s_one _)) hm4'
  have hM4 : Mod [py] w w4 := hM2.trans hm4'.nil
  have ho4 : w4.ownsRow w.heap.size 5 1 (.slice (some ⟨g4, 0, none⟩) nl c4) nl (u8s lg) := ho4
  have hsz4 := hM4.size
  clear hc2 hs3 hsz3 hor3 ht3 hM2 hW3 hc3 hf3 ht2 hm4 hat4
  go_wp2_with (at_builtin; refine wpList_append_rows _ rfl _ _ 56 rfl w.heap.size 5 i0 (.int .u8 0) 1 1 Tryz.underlying56 hi hz0 hz1 hz2 rfl (by decide) _ nl (u8s lg) rfl ho4 _ (m + 5) (u8s xs) rfl hs4 (by omega) (by unfold maxLen; omega) (by omega) hsz4 ?_)
  intro g5 c5 w5 ho5 hm5 hat5
  have hm5' : Mod [g4] w4 w5 := hm5
  have ht5 : w5.heap[py]? = some (T58 fan tv (.slice (some ⟨gl, 0, none⟩) nl cl) z) := (hm5'.block py (lt_of_block ht4) (by simp; omega)).trans ht4
  have hM5 : Mod [py] w w5 := hM4.then hm5' (by simp; omega)
  have hg5 := (ho5.lt g5 rfl).1
  have hc5 := (cell_T58 ht5).2.2.1
  have hf5 := frozen_of_block ht5 2
  clear hs4 ho4 ht4 hM4 hm5 hat5
  rw [u8s_cat] at ho5
  go_wp2
  go_end0
  have hlu5 : ByteL (lg ++ xs) := hlu.append hxu
  have hl5 : nl + (m + 5) = (lg ++ xs).length := by rw [List.length_append, hxl, HNL.out]
  have hlz : LastOk z (lg ++ xs) := by
    have := LastOk.of (lg := lg ++ xs) (by omega) hlu5
    rw [note_last hxl HX4.out, ← HZ.out] at this
    exact this
  rw [← HXS.out]
  refine ⟨rfl, g5, c5, z, nl + (m + 5), T58_set2 ht5, hlz, ?_, hlu5, ⟨by omega, hl5⟩, hM5.trans (Mod.setCell _ _ _ (by simp))⟩
  exact owns_kept ho5 (Mod.setCell (F := [py]) w5 ⟨py, 2, none⟩ _ (by simp)) (by simp [Value.ownBlock]; omega)


set_option maxRecDepth 100000 in
set_option maxHeartbeats 1000000 in
theorem note_first (py : Nat) (fan last kind : Int) (tv : Value) (bv : Value) (m : Nat) (bs : List Int) (w : World)
    (ht : w.heap[py]? = some (T58 fan tv (.slice none 0 0) last)) (hlast : LastOk last []) (hk : 0 ≤ kind ∧ kind < 256)
    (hm : m ≤ 100) (hb : srcRow w 1 bv m (u8s bs)) (hu : ByteL bs) :
    Calls Tryz.prog 80 #[.pointer (some ⟨py, 0, none⟩), .int .u8 kind, bv] w (NotePost py fan tv ([] ++ recF [] kind bs) w) := by
  obtain ⟨i0, hi, hz0, hz1, hz2⟩ := info_partsB infoB
  have hpy := lt_of_block ht
  have ht3 := (cell_T58 ht).2.2.2
  go_enter Tryz.func80, Tryz.ntmps80
  go_wp2_with fail
  have hbs : bs.length = m := by have := hb.1; rw [u8s_length] at this; omega
  refine (Record_any last kind [] bv m bs _ hlast.1 hlast.2 hk hm hb hu).mono ?_
  rintro e w1 ⟨gr, cr, rfl, hor, hbel⟩
  obtain ⟨xs, hxs⟩ : ∃ xs, xs = recF [] kind bs := ⟨_, rfl⟩
  rw [← hxs] at hor
  have hxu : ByteL xs := by rw [hxs]; exact recF_byte hk _ hu
  have hxl : xs.length = m + 5 := by rw [hxs, recF_length, hbs]
  have hx4 := rec_last [] kind bs
  rw [← hxs, hbs] at hx4
  have HXS := hideIt hxs
  clear hxs
  have ht1 : w1.heap[py]? = some (T58 fan tv (.slice none 0 0) last) := (hbel.block py hpy (by simp)).trans ht
  have hgr := (hor.lt gr rfl)
  have hcr : m + 5 ≤ cr := by
    rcases hor.2 with ⟨h, _⟩ | ⟨g', c', cur, h1, _, _, h2, _⟩
    · cases h
    · cases h1; exact h2
  clear ht3
  have hcs := BytesAt.of_owns hor
  obtain ⟨x0, x1, x2, x3, hx4⟩ := hx4
  have hat : ∀ j y, [x0, x1, x2, x3][j]? = some y → w1.cell? ⟨gr, m + 1 + j, none⟩ = some (.int .u8 y) := fun j y hj => by
    rw [← hx4, List.getElem?_drop] at hj
    have := hcs _ y hj
    rw [Nat.zero_add] at this
    exact this
  have hx0 := hat 0 x0 rfl
  rw [Nat.add_zero] at hx0
  have hx1 := hat 1 x1 rfl
  have hx2 := hat 2 x2 rfl
  have hx3 := hat 3 x3 rfl
  have hBx : ByteL [x0, x1, x2, x3] := by rw [← hx4]; exact hxu.drop _
  have hval := value_any gr (m + 1) (cr - (m + 1)) x0 x1 x2 x3 w1 hBx hx0 hx1 hx2 hx3
  have HX4 := hideIt hx4
  clear hat hx4 hBx
  clear hcs hx0 hx1 hx2 hx3
  go_wp2_with fail
  obtain ⟨z, hz⟩ : ∃ z, z = valB [x0, x1, x2, x3] := ⟨_, rfl⟩
  rw [← hz] at hval
  have HZ := hideIt hz
  clear hz
  refine hval.mono ?_
  clear hval
  rintro e w2 ⟨rfl, nq, hw⟩
  have hm2 : Mod [] w1 w2 := by rw [hw]; exact Mod.drewN _ _
  clear hw
  have ht2 : w2.heap[py]? = some (T58 fan tv (.slice none 0 0) last) := (hm2.block py (lt_of_block ht1) (by simp)).trans ht1
  have hor2 := owns_kept hor hm2 (by simp)
  have hc3 := (cell_T58 ht2).2.2.2
  have hf3 := frozen_of_block ht2 3
  have hM2 : Mod [py] w (w2.setCell ⟨py, 3, none⟩ (.int .i64 z)) := (((hbel).trans hm2).nil).trans (Mod.setCell _ _ _ (by simp))
  have ht3 := T58_set3 (z := z) ht2
  have hor3 := owns_kept hor2 (Mod.setCell (F := [py]) w2 ⟨py, 3, none⟩ (.int .i64 z) (by simp)) (by simp [Value.ownBlock]; omega)
  have hc2 := (cell_T58 ht3).2.2.1
  have hsz3 : w.heap.size ≤ (w2.setCell ⟨py, 3, none⟩ (.int .i64 z)).heap.size := hM2.size
  clear hor2 hm2 hor ht1 hbel ht hb
  generalize hW3 : w2.setCell ⟨py, 3, none⟩ (.int .i64 z) = w3 at *
  have hs4 := srcRow_of_owns hor3 (u8s_one _)
  have hsz4 := hM2.size
  go_wp2_with (at_builtin; refine wpList_append_rows _ rfl _ _ 56 rfl w.heap.size 5 i0 (.int .u8 0) 1 1 Tryz.underlying56 hi hz0 hz1 hz2 rfl (by decide) _ 0 [] rfl (World.ownsRow_nil _ _ _ _) _ (m + 5) (u8s xs) rfl hs4 (by omega) (by unfold maxLen; omega) (by omega) hsz4 ?_)
  intro g5 c5 w5 ho5 hm5 hat5
  have hm5' : Mod [] w3 w5 := hm5
  have ht5 : w5.heap[py]? = some (T58 fan tv (.slice none 0 0) z) := (hm5'.block py (lt_of_block ht3) (by simp)).trans ht3
  have hM5 : Mod [py] w w5 := hM2.trans hm5'.nil
  have hg5 := (ho5.lt g5 rfl).1
  have hc5 := (cell_T58 ht5).2.2.1
  have hf5 := frozen_of_block ht5 2
  clear hs4 ht3 hM2 hm5 hat5 hc2 hW3 hc3 hf3 ht2 hor3
  have ho5 : w5.ownsRow w.heap.size 5 1 (.slice (some ⟨g5, 0, none⟩) (m + 5) c5) (m + 5) (u8s xs) := ho5
  go_wp2
  go_end0
  have hlu5 : ByteL ([] ++ xs) := hxu
  have hl5 : m + 5 = ([] ++ xs : List Int).length := by rw [List.length_append, hxl]; simp
  have hlz : LastOk z ([] ++ xs) := by
    have := LastOk.of (lg := [] ++ xs) (by omega) hlu5
    rw [note_last hxl HX4.out, ← HZ.out] at this
    exact this
  rw [← HXS.out]
  refine ⟨rfl, g5, c5, z, m + 5, T58_set2 ht5, hlz, ?_, hlu5, ⟨by omega, hl5⟩, hM5.trans (Mod.setCell _ _ _ (by simp))⟩
  exact owns_kept ho5 (Mod.setCell (F := [py]) w5 ⟨py, 2, none⟩ _ (by simp)) (by simp [Value.ownBlock]; omega)

end Go.Proofs.YthimaoipogocfaaGreat

