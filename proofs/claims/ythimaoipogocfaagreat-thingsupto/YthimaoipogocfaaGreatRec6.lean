import Derived.Test.YthimaoipogocfaaGreatJ16
import Derived.Laws.BitsAllLaws
import Derived.Shelf.Abstract
namespace Go.Proofs.YthimaoipogocfaaGreat
open Go.RowKit
attribute [local go_sem] run_store_f32 run_neg_inf

theorem valB_append (l m : List Int) : valB (l ++ m) = valB l + 256 ^ l.length * valB m := by
  induction l with
  | nil => simp [valB]
  | cons b l ih =>
    rw [List.cons_append, valB, valB, ih, List.length_cons, Int.pow_succ, Int.mul_add, Int.mul_comm (256 ^ l.length) 256, Int.mul_assoc, Int.add_assoc]
theorem valB_snoc {l : List Int} {k : Nat} {b : Int} (h : l[k]? = some b) : valB (l.take (k + 1)) = valB (l.take k) + 256 ^ k * b := by
  obtain ⟨hk, rfl⟩ := List.getElem?_eq_some_iff.1 h
  rw [List.take_succ_eq_append_getElem hk, valB_append, List.length_take, Nat.min_eq_left (by omega)]
  simp [valB]

/-- a byte is laid above what is there -/
theorem orStep {x b : Int} {i : Nat} (hi : i ≤ 24) (hx : 0 ≤ x ∧ x < 2 ^ i) (hb : 0 ≤ b ∧ b < 256) : bits .or .u32 x (b * 2 ^ i) = x + b * 2 ^ i := by
  obtain ⟨a, rfl⟩ := Int.eq_ofNat_of_zero_le hx.1
  obtain ⟨c, rfl⟩ := Int.eq_ofNat_of_zero_le hb.1
  have hp : (2 : Nat) ^ i ≤ 2 ^ 24 := Nat.pow_le_pow_right (by omega) hi
  have ha : a < 2 ^ i := by
    have := hx.2
    have e : ((2 : Int) ^ i) = ((2 ^ i : Nat) : Int) := by simp
    rw [e] at this
    omega
  have e : ((c : Int) * 2 ^ i) = ((c * 2 ^ i : Nat) : Int) := by simp
  have hcb : c * 2 ^ i ≤ 255 * 2 ^ 24 := Nat.mul_le_mul (by omega) hp
  have h24 : 255 * 2 ^ 24 < 4294967296 := by decide
  rw [e, u32_or_nat a (c * 2 ^ i) (by omega) (by omega), Nat.or_comm, nat_join i (c * 2 ^ i) a (by simp) ha]
  omega

def NumPost (z : Int) (w : World) (e : Ending) (w' : World) : Prop := e = .returned (.int .u32 z) ∧ w = w'

set_option maxRecDepth 100000 in
set_option maxHeartbeats 400000 in
theorem number_any {w : World} {g off n c : Nat} {l : List Int} (hb : BytesAt w g off l) (hl : l.length = n) (hn : n ≤ 4) (hB : ByteL l) :
    Calls Tryz.prog 78 #[.slice (some ⟨g, off, none⟩) n c] w (NumPost (valB l) w) := by
  have HB := hideIt hb
  have HBL := hideIt hB
  clear hb hB
  go_enter Tryz.func78, Tryz.ntmps78
  go_wp2_with fail
  go_loop [3, 8] (fun a i => ∃ k : Nat, k ≤ n ∧ i = .int .i64 k ∧ a = .int .u32 (valB (l.take k))) (fun _ i => n - (intOf i).toNat)
  case atStart => exact ⟨0, Nat.zero_le _, rfl, rfl⟩
  case round =>
    obtain ⟨k, hk, rfl, rfl⟩ := hrel
    by_cases hlt : k < n
    · have hget : l[k]? = some l[k] := List.getElem?_eq_getElem (by omega)
      have hc := HB.out k _ hget
      have hbr := HBL.out _ (List.mem_of_getElem? hget)
      have hst := valB_snoc hget
      have hr := valB_range (HBL.out.take k)
      have hlk : (l.take k).length = k := by rw [List.length_take]; omega
      rw [hlk] at hr
      generalize l[k] = b at *
      generalize valB (l.take k) = X at *
      have HST := hideIt hst
      have HR := hideIt hr
      clear hst hget hr hlk
      go_wp2
      go_round
      case rel =>
        refine ⟨k + 1, by omega, by go_num, ?_⟩
        have hr := HR.out
        have e1 : (256 : Int) ^ k = 2 ^ (8 * k) := by rw [Int.pow_mul]; rfl
        rw [HST.out, e1]
        rw [e1] at hr
        have hsm : b * 2 ^ (8 * k) % 4294967296 = b * 2 ^ (8 * k) := by
          rcases (show k = 0 ∨ k = 1 ∨ k = 2 ∨ k = 3 by omega) with rfl | rfl | rfl | rfl <;> simp <;> omega
        rw [hsm, orStep (by omega) hr hbr, Int.mul_comm]
      case measure => simp [intOf]; omega
    · have hkn : k = n := by omega
      subst hkn
      have e : l.take k = l := by rw [← hl]; exact List.take_length
      rw [e]
      go_wp2
      go_ret
      exact ⟨rfl, rfl⟩

/-! ### bodySize -/
def sizeF (kind : Int) : Option Nat := if kind = 72 then some 1 else if kind = 80 ∨ kind = 77 then some 18 else if kind = 68 then some 2 else none
def SizePost (kind : Int) (w : World) (e : Ending) (w' : World) : Prop := e = .returned (.tuple #[.int .i64 ((sizeF kind).getD 0 : Nat), .bool (sizeF kind).isSome]) ∧ w = w'

theorem bodySize_any (kind : Int) (w : World) : Calls Tryz.prog 76 #[.int .u8 kind] w (SizePost kind w) := by
  by_cases h1 : kind = 72
  · subst h1
    go_enter Tryz.func76, Tryz.ntmps76
    go_wp2
    go_ret2
    exact ⟨rfl, rfl⟩
  by_cases h2 : kind = 80
  · subst h2
    go_enter Tryz.func76, Tryz.ntmps76
    go_wp2
    go_ret2
    exact ⟨rfl, rfl⟩
  by_cases h3 : kind = 77
  · subst h3
    go_enter Tryz.func76, Tryz.ntmps76
    go_wp2
    go_ret2
    exact ⟨rfl, rfl⟩
  by_cases h4 : kind = 68
  · subst h4
    go_enter Tryz.func76, Tryz.ntmps76
    go_wp2
    go_ret2
    exact ⟨rfl, rfl⟩
  have e : sizeF kind = none := by simp [sizeF, h1, h2, h3, h4]
  have b1 : (kind == 72) = false := by simp [h1]
  have b2 : (kind == 80) = false := by simp [h2]
  have b3 : (kind == 77) = false := by simp [h3]
  have b4 : (kind == 68) = false := by simp [h4]
  have HP := hideIt (show SizePost kind w (.returned (.tuple #[.int .i64 0, .bool false])) w from ⟨by rw [e]; rfl, rfl⟩)
  clear e h1 h2 h3 h4
  go_enter Tryz.func76, Tryz.ntmps76
  go_wp2
  go_ret2
  exact HP.out

/-! ### rect -/
def sgn32 (z : Int) : Int := if 2147483648 ≤ z then z - 4294967296 else z
abbrev sliceO (v : Value) : Obj := .cells #[v] 56 (0, 0)
theorem cell_sliceO {w : World} {p : Nat} {v : Value} (h : w.heap[p]? = some (sliceO v)) : w.cell? ⟨p, 0, none⟩ = some v := by rw [cell_of_block h]; rfl

def CoordPost (z : Int) (w : World) (e : Ending) (w' : World) : Prop := e = .returned (.int .i64 z) ∧ w = w'

set_option maxRecDepth 100000 in
set_option maxHeartbeats 400000 in
theorem coord_any {w : World} {p g off c : Nat} {l : List Int} (hp : w.heap[p]? = some (sliceO (.slice (some ⟨g, off, none⟩) 16 c))) (hb : BytesAt w g off l) (hl : l.length = 16) (hB : ByteL l) (hc : 16 ≤ c) {i : Nat} (hi : i < 4) :
    Calls Tryz.prog 150 #[.int .i64 i, .pointer (some ⟨p, 0, none⟩)] w (CoordPost (sgn32 (valB ((l.drop (i * 4)).take 4))) w) := by
  have cp := cell_sliceO hp
  have hl4 : ((l.drop (i * 4)).take 4).length = 4 := by rw [List.length_take, List.length_drop]; omega
  have hbt : BytesAt w g (off + i * 4) ((l.drop (i * 4)).take 4) := fun j b hj => hb.drop (i * 4) j b (by
    rw [List.getElem?_take] at hj
    split at hj
    · exact hj
    · cases hj)
  have HN := hideIt (number_any (c := c - i * 4) hbt hl4 (by omega) ((hB.drop _).take _))
  obtain ⟨r1, r2⟩ := valB_range ((hB.drop (i * 4)).take 4)
  rw [hl4] at r2
  generalize valB ((l.drop (i * 4)).take 4) = Z at *
  clear hp hb hB hl4 hbt
  go_enter Tryz.func150, Tryz.ntmps150
  go_wp2_with fail
  refine HN.out.mono ?_
  rintro e w1 ⟨rfl, rfl⟩
  have e32 : wrap64 (wrap32 Z) = sgn32 Z := by
    unfold wrap64 wrap32 sgn32
    have r2' : Z < 4294967296 := r2
    split <;> omega
  have HE := hideIt e32
  clear e32
  go_wp2
  go_ret
  exact ⟨ret_int HE.out, rfl⟩

def coordV (l : List Int) (i : Nat) : Int := sgn32 (valB ((l.drop (i * 4)).take 4))
def RectPost (l : List Int) (w : World) (e : Ending) (w' : World) : Prop := e = .returned (R4 (coordV l 0) (coordV l 1) (coordV l 2) (coordV l 3)) ∧ Mod [] w w'

set_option maxRecDepth 100000 in
set_option maxHeartbeats 400000 in
theorem rect_any {w : World} {g off c : Nat} {l : List Int} (hb : BytesAt w g off l) (hl : l.length = 16) (hB : ByteL l) (hc : 16 ≤ c) :
    Calls Tryz.prog 115 #[.slice (some ⟨g, off, none⟩) 16 c] w (RectPost l w) := by
  have hp := heap_alloc_new w (sliceO (.slice (some ⟨g, off, none⟩) 16 c))
  have hm0 := Mod.alloc (F := []) w (sliceO (.slice (some ⟨g, off, none⟩) 16 c))
  have HC := hideIt (fun (W : World) (hm : Mod [] (w.alloc (sliceO (.slice (some ⟨g, off, none⟩) 16 c))) W) (i : Nat) (hi : i < 4) => coord_any (w := W) ((hm.block _ (lt_of_block hp) (by simp)).trans hp) ((hb.keep hm0).keep hm) hl hB hc hi)
  have heg : ∀ args w, (callFunc 150 args).run Tryz.prog w = .ok (.enter 150 args) w := enters_of Tryz.func150 (by kernel_rfl) rfl
  have HM := hideIt hm0
  have HE := hideIt (show ∀ W, Mod [] w W → RectPost l w (.returned (R4 (coordV l 0) (coordV l 1) (coordV l 2) (coordV l 3))) W from fun W hm => ⟨rfl, hm⟩)
  simp only [coordV] at HE
  obtain ⟨C0, e0⟩ : ∃ C0, C0 = sgn32 (valB ((l.drop (0 * 4)).take 4)) := ⟨_, rfl⟩
  obtain ⟨C1, e1⟩ : ∃ C1, C1 = sgn32 (valB ((l.drop (1 * 4)).take 4)) := ⟨_, rfl⟩
  obtain ⟨C2, e2⟩ : ∃ C2, C2 = sgn32 (valB ((l.drop (2 * 4)).take 4)) := ⟨_, rfl⟩
  obtain ⟨C3, e3⟩ : ∃ C3, C3 = sgn32 (valB ((l.drop (3 * 4)).take 4)) := ⟨_, rfl⟩
  rw [← e0, ← e1, ← e2, ← e3] at HE
  have HC0 := hideIt (fun W hm => e0 ▸ HC.out W hm 0 (by omega))
  have HC1 := hideIt (fun W hm => e1 ▸ HC.out W hm 1 (by omega))
  have HC2 := hideIt (fun W hm => e2 ▸ HC.out W hm 2 (by omega))
  have HC3 := hideIt (fun W hm => e3 ▸ HC.out W hm 3 (by omega))
  clear e0 e1 e2 e3 HC
  clear hb hB hp hm0
  go_enter Tryz.func115, Tryz.ntmps115
  go_wp2_with fail
  refine (HC0.out _ (Mod.alloc _ _)).mono ?_
  rintro e w1 ⟨rfl, hw⟩
  obtain rfl := hw
  go_wp2_with fail
  refine (HC1.out _ (Mod.alloc _ _)).mono ?_
  rintro e w1 ⟨rfl, hw⟩
  obtain rfl := hw
  go_wp2_with fail
  refine (HC2.out _ (Mod.alloc _ _)).mono ?_
  rintro e w1 ⟨rfl, hw⟩
  obtain rfl := hw
  go_wp2_with fail
  refine (HC3.out _ (Mod.alloc _ _)).mono ?_
  rintro e w1 ⟨rfl, hw⟩
  obtain rfl := hw
  go_wp2
  exact bodyPost_ret (v := R4 C0 C1 C2 C3) (by simp [results, Tryz.results115, go_sem]) rfl (HE.out _ (HM.out.trans (Mod.alloc _ _)))

end Go.Proofs.YthimaoipogocfaaGreat
