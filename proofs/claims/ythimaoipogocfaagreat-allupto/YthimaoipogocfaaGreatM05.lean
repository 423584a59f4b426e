import Derived.Test.YthimaoipogocfaaGreatJ16
import Derived.Laws.BitsAllLaws
import Derived.Shelf.Abstract
namespace Go.Proofs.YthimaoipogocfaaGreat
open Go.RowKit
attribute [local go_sem] run_store_f32 run_neg_inf

theorem valB_append (l m : List Int) : valB (l ++ m) = valB l + 256 ^ l.length * valB m := by
  induction l with
  | nil => simp [valB]
  | cons b l ih =>
    rw [List.cons_append, valB, valB, ih, List.length_cons, Int.pow_succ, Int.mul_add, Int.mul_comm (256 ^ l.length) 256, Int.mul_assoc, Int.add_assoc]
theorem valB_snoc {l : List Int} {k : Nat} {b : Int} (h : l[k]? = some b) : valB (l.take (k + 1)) = valB (l.take k) + 256 ^ k * b := by
  obtain ⟨hk, rfl⟩ := List.getElem?_eq_some_iff.1 h
  rw [List.take_succ_eq_append_getElem hk, valB_append, List.length_take, Nat.min_eq_left (by omega)]
  simp [valB]

/-- a byte is laid above what is there -/
theorem orStep {x b : Int} {i : Nat} (hi : i ≤ 24) (hx : 0 ≤ x ∧ x < 2 ^ i) (hb : 0 ≤ b ∧ b < 256) : bits .or .u32 x (b * 2 ^ i) = x + b * 2 ^ i := by
  obtain ⟨a, rfl⟩ := Int.eq_ofNat_of_zero_le hx.1
  obtain ⟨c, rfl⟩ := Int.eq_ofNat_of_zero_le hb.1
  have hp : (2 : Nat) ^ i ≤ 2 ^ 24 := Nat.pow_le_pow_right (by omega) hi
  have ha : a < 2 ^ i := by
    have := hx.2
    have e : ((2 : Int) ^ i) = ((2 ^ i : Nat) : Int) := by simp
    rw [e] at this
    omega
  have e : ((c : Int) * 2 ^ i) = ((c * 2 ^ i : Nat) : Int) := by simp
  have hcb : c * 2 ^ i ≤ 255 * 2 ^ 24 := Nat.mul_le_mul (by omega) hp
  have h24 : 255 * 2 ^ 24 < 4294967296 := by decide
  rw [e, u32_or_nat a (c * 2 ^ i) (by omega) (by omega), Nat.or_comm, nat_join i (c * 2 ^ i) a (by simp) ha]
  omega

def NumPost (z : Int) (w : World) (e : Ending) (w' : World) : Prop := e = .returned (.int .u32 z) ∧ w = w'

set_option maxRecDepth 100000 in
set_option maxHeartbeats 400000 in
theorem number_any {w : World} {g off n c : Nat} {l : List Int} (hb : BytesAt w g off l) (hl : l.length = n) (hn : n ≤ 4) (hB : ByteL l) :
    Calls Tryz.prog 78 #[.slice (some ⟨g, off, none⟩) n c] w (NumPost (valB l) w) := by
  have HB := hideIt hb
  have HBL := hideIt hB
  clear hb hB
  go_enter Tryz.func78, Tryz.ntmps78
  go_wp2_with fail
  go_loop [3, 8] (fun a i => ∃ k : Nat, k ≤ n ∧ i = .int .i64 k ∧ a = .int .u32 (valB (l.take k))) (fun _ i => n - (intOf i).toNat)
  case atStart => exact ⟨0, Nat.zero_le _, rfl, rfl⟩
  case round =>
    obtain ⟨k, hk, rfl, rfl⟩ := hrel
    by_cases hlt : k < n
    · have hget : l[k]? = some l[k] := List.getElem?_eq_getElem (by omega)
      have hc := HB.out k _ hget
      have hbr := HBL.out _ (List.mem_of_getElem? hget)
      have hst := valB_snoc hget
      have hr := valB_range (HBL.out.take k)
      have hlk : (l.take k).length = k := by rw [List.length_take]; omega
      rw [hlk] at hr
      generalize l[k] = b at *
      generalize valB (l.take k) = X at *
      have HST := hideIt hst
      have HR := hideIt hr
      clear hst hget hr hlk
      go_wp2
      go_round
      case rel =>
        refine ⟨k + 1, by omega, by go_num, ?_⟩
        have hr := HR.out
        have e1 : (256 : Int) ^ k = 2 ^ (8 * k) := by rw [Int.pow_mul]; rfl
        rw [HST.out, e1]
        rw [e1] at hr
        have hsm : b * 2 ^ (8 * k) % 4294967296 = b * 2 ^ (8 * k) := by
          rcases (show k = 0 ∨ k = 1 ∨ k = 2 ∨ k = 3 by omega) with rfl | rfl | rfl | rfl <;> simp <;> omega
        rw [hsm, orStep (by omega) hr hbr, Int.mul_comm]
      case measure => simp [intOf]; omega
    · have hkn : k = n := by omega
      subst hkn
      have e : l.take k = l := by rw [← hl]; exact List.take_length
      rw [e]
      go_wp2
      go_ret
      exact ⟨rfl, rfl⟩

/-! ### bodySize -/
def sizeF (kind : Int) : Option Nat := if kind = 72 then some 1 else if kind = 80 ∨ kind = 77 then some 18 else if kind = 68 then some 2 else none
def SizePost (kind : Int) (w : World) (e : Ending) (w' : World) : Prop := e = .returned (.tuple #[.int .i64 ((sizeF kind).getD 0 : Nat), .bool (sizeF kind).isSome]) ∧ w = w'

theorem bodySize_any (kind : Int) (w : World) : Calls Tryz.prog 76 #[.int .u8 kind] w (SizePost kind w) := by
  by_cases h1 : kind = 72
  · subst h1
    go_enter Tryz.func76, Tryz.ntmps76
    go_wp2
    go_ret2
    exact ⟨rfl, rfl⟩
  by_cases h2 : kind = 80
  · subst h2
    go_enter Tryz.func76, Tryz.ntmps76
    go_wp2
    go_ret2
    exact ⟨rfl, rfl⟩
  by_cases h3 : kind = 77
  · subst h3
    go_enter Tryz.func76, Tryz.ntmps76
    go_wp2
    go_ret2
    exact ⟨rfl, rfl⟩
  by_cases h4 : kind = 68
  · subst h4
    go_enter Tryz.func76, Tryz.ntmps76
    go_wp2
    go_ret2
    exact ⟨rfl, rfl⟩
  have e : sizeF kind = none := by simp [sizeF, h1, h2, h3, h4]
  have b1 : (kind == 72) = false := by simp [h1]
  have b2 : (kind == 80) = false := by simp [h2]
  have b3 : (kind == 77) = false := by simp [h3]
  have b4 : (kind == 68) = false := by simp [h4]
  have HP := hideIt (show SizePost kind w (.returned (.tuple #[.int .i64 0, .bool false])) w from ⟨by rw [e]; rfl, rfl⟩)
  clear e h1 h2 h3 h4
  go_enter Tryz.func76, Tryz.ntmps76
  go_wp2
  go_ret2
  exact HP.out

/-! ### rect -/
def sgn32 (z : Int) : Int := if 2147483648 ≤ z then z - 4294967296 else z
abbrev sliceO (v : Value) : Obj := .cells #[v] 56 (0, 0)
theorem cell_sliceO {w : World} {p : Nat} {v : Value} (h : w.heap[p]? = some (sliceO v)) : w.cell? ⟨p, 0, none⟩ = some v := by rw [cell_of_block h]; rfl

def CoordPost (z : Int) (w : World) (e : Ending) (w' : World) : Prop := e = .returned (.int .i64 z) ∧ w = w'

set_option maxRecDepth 100000 in
set_option maxHeartbeats 400000 in
theorem coord_any {w : World} {p g off c : Nat} {l : List Int} (hp : w.heap[p]? = some (sliceO (.slice (some ⟨g, off, none⟩) 16 c))) (hb : BytesAt w g off l) (hl : l.length = 16) (hB : ByteL l) (hc : 16 ≤ c) {i : Nat} (hi : i < 4) :
    Calls Tryz.prog 150 #[.int .i64 i, .pointer (some ⟨p, 0, none⟩)] w (CoordPost (sgn32 (valB ((l.drop (i * 4)).take 4))) w) := by
  have cp := cell_sliceO hp
  have hl4 : ((l.drop (i * 4)).take 4).length = 4 := by rw [List.length_take, List.length_drop]; omega
  have hbt : BytesAt w g (off + i * 4) ((l.drop (i * 4)).take 4) := fun j b hj => hb.drop (i * 4) j b (by
    rw [List.getElem?_take] at hj
    split at hj
    · exact hj
    · cases hj)
  have HN := hideIt (number_any (c := c - i * 4) hbt hl4 (by omega) ((hB.drop _).take _))
  obtain ⟨r1, r2⟩ := valB_range ((hB.drop (i * 4)).take 4)
  rw [hl4] at r2
  generalize valB ((l.drop (i * 4)).take 4) = Z at *
  clear hp hb hB hl4 hbt
  go_enter Tryz.func150, Tryz.ntmps150
  go_wp2_with fail
  refine HN.out.mono ?_
  rintro e w1 ⟨rfl, rfl⟩
  have e32 : wrap64 (wrap32 Z) = sgn32 Z := by
    unfold wrap64 wrap32 sgn32
    have r2' : Z < 4294967296 := r2
    split <;> omega
  have HE := hideIt e32
  clear e32
  go_wp2
  go_ret
  exact ⟨ret_int HE.out, rfl⟩

def coordV (l : List Int) (i : Nat) : Int := sgn32 (valB ((l.drop (i * 4)).take 4))
def RectPost (l : List Int) (w : World) (e : Ending) (w' : World) : Prop := e = .returned (R4 (coordV l 0) (coordV l 1) (coordV l 2) (coordV l 3)) ∧ Mod [] w w'

set_option maxRecDepth 100000 in
set_option maxHeartbeats 400000 in
theorem rect_any {w : World} {g off c : Nat} {l : List Int} (hb : BytesAt w g off l) (hl : l.length = 16) (hB : ByteL l) (hc : 16 ≤ c) :
    Calls Tryz.prog 115 #[.slice (some ⟨g, off, none⟩) 16 c] w (RectPost l w) := by
  have hp := heap_alloc_new w (sliceO (.slice (some ⟨g, off, none⟩) 16 c))
  have hm0 := Mod.alloc (F := []) w (sliceO (.slice (some ⟨g, off, none⟩) 16 c))
  have HC := hideIt (fun (W : World) (hm : Mod [] (w.alloc (sliceO (.slice (some ⟨g, off, none⟩) 16 c))) W) (i : Nat) (hi : i < 4) => coord_any (w := W) ((hm.block _ (lt_of_block hp) (by simp)).trans hp) ((hb.keep hm0).keep hm) hl hB hc hi)
  have heg : ∀ args w, (callFunc 150 args).run Tryz.prog w = .ok (.enter 150 args) w := enters_of Tryz.func150 (by kernel_rfl) rfl
  have HM := hideIt hm0
  have HE := hideIt (show ∀ W, Mod [] w W → RectPost l w (.returned (R4 (coordV l 0) (coordV l 1) (coordV l 2) (coordV l 3))) W from fun W hm => ⟨rfl, hm⟩)
  simp only [coordV] at HE
  obtain ⟨C0, e0⟩ : ∃ C0, C0 = sgn32 (valB ((l.drop (0 * 4)).take 4)) := ⟨_, rfl⟩
  obtain ⟨C1, e1⟩ : ∃ C1, C1 = sgn32 (valB ((l.drop (1 * 4)).take 4)) := ⟨_, rfl⟩
  obtain ⟨C2, e2⟩ : ∃ C2, C2 = sgn32 (valB ((l.drop (2 * 4)).take 4)) := ⟨_, rfl⟩
  obtain ⟨C3, e3⟩ : ∃ C3, C3 = sgn32 (valB ((l.drop (3 * 4)).take 4)) := ⟨_, rfl⟩
  rw [← e0, ← e1, ← e2, ← e3] at HE
  have HC0 := hideIt (fun W hm => e0 ▸ HC.out W hm 0 (by omega))
  have HC1 := hideIt (fun W hm => e1 ▸ HC.out W hm 1 (by omega))
  have HC2 := hideIt (fun W hm => e2 ▸ HC.out W hm 2 (by omega))
  have HC3 := hideIt (fun W hm => e3 ▸ HC.out W hm 3 (by omega))
  clear e0 e1 e2 e3 HC
  clear hb hB hp hm0
  go_enter Tryz.func115, Tryz.ntmps115
  go_wp2_with fail
  refine (HC0.out _ (Mod.alloc _ _)).mono ?_
  rintro e w1 ⟨rfl, hw⟩
  obtain rfl := hw
  go_wp2_with fail
  refine (HC1.out _ (Mod.alloc _ _)).mono ?_
  rintro e w1 ⟨rfl, hw⟩
  obtain rfl := hw
  go_wp2_with fail
  refine (HC2.out _ (Mod.alloc _ _)).mono ?_
  rintro e w1 ⟨rfl, hw⟩
  obtain rfl := hw
  go_wp2_with fail
  refine (HC3.out _ (Mod.alloc _ _)).mono ?_
  rintro e w1 ⟨rfl, hw⟩
  obtain rfl := hw
  go_wp2
  exact bodyPost_ret (v := R4 C0 C1 C2 C3) (by simp [results, Tryz.results115, go_sem]) rfl (HE.out _ (HM.out.trans (Mod.alloc _ _)))

end Go.Proofs.YthimaoipogocfaaGreat

namespace Go.Proofs.YthimaoipogocfaaGreat
open Go.RowKit
attribute [local go_sem] run_store_f32 run_neg_inf

/-- what the bytes of a record's body say -/
def parseF (kind : Int) (body : List Int) : Rc :=
  if kind = 72 then ⟨72, valB body, 0, 0, 0, 0, 0⟩
  else if kind = 68 then ⟨68, 0, valB body, 0, 0, 0, 0⟩
  else ⟨kind, 0, valB (body.take 2), coordV (body.drop 2) 0, coordV (body.drop 2) 1, coordV (body.drop 2) 2, coordV (body.drop 2) 3⟩

theorem BytesAt.take {w : World} {g off : Nat} {l : List Int} (h : BytesAt w g off l) (k : Nat) : BytesAt w g off (l.take k) := fun j b hj => h j b (by
  rw [List.getElem?_take] at hj
  split at hj
  · exact hj
  · cases hj)

def ParsePost (r : Rc) (w : World) (e : Ending) (w' : World) : Prop := e = .returned r.val ∧ Mod [] w w'

set_option maxRecDepth 100000 in
set_option maxHeartbeats 400000 in
theorem parse_head {w : World} {g off c : Nat} {l : List Int} (hb : BytesAt w g off l) (hl : l.length = 1) (hB : ByteL l) :
    Calls Tryz.prog 79 #[.int .u8 72, .slice (some ⟨g, off, none⟩) 1 c] w (ParsePost (parseF 72 l) w) := by
  have HN := hideIt (fun W (hm : Mod [] w W) => number_any (c := c) (hb.keep hm) hl (by omega) hB)
  obtain ⟨r1, r2⟩ := valB_range hB
  rw [hl] at r2
  have HE := hideIt (show ∀ W, Mod [] w W → ParsePost (parseF 72 l) w (.returned (⟨72, valB l, 0, 0, 0, 0, 0⟩ : Rc).val) W from fun W hm => ⟨rfl, hm⟩)
  simp only [Rc.val] at HE
  generalize valB l = Z at *
  clear hb hB hl
  go_enter Tryz.func79, Tryz.ntmps79
  go_wp2_with fail
  refine (HN.out _ ((Mod.alloc _ _).trans (Mod.alloc _ _))).mono ?_
  rintro e w1 ⟨rfl, hw⟩
  obtain rfl := hw
  go_wp2
  exact bodyPost_ret (v := .agg #[.int .u8 72, .int .i64 Z, .int .i64 0, .int .i64 0, .int .i64 0, .int .i64 0, .int .i64 0]) (by simp [results, Tryz.results79, go_sem]) rfl (HE.out _ ((Mod.alloc _ _).trans (Mod.alloc _ _)))

set_option maxRecDepth 100000 in
set_option maxHeartbeats 400000 in
theorem parse_drop {w : World} {g off c : Nat} {l : List Int} (hb : BytesAt w g off l) (hl : l.length = 2) (hB : ByteL l) :
    Calls Tryz.prog 79 #[.int .u8 68, .slice (some ⟨g, off, none⟩) 2 c] w (ParsePost (parseF 68 l) w) := by
  have HN := hideIt (fun W (hm : Mod [] w W) => number_any (c := c) (hb.keep hm) hl (by omega) hB)
  obtain ⟨r1, r2⟩ := valB_range hB
  rw [hl] at r2
  have HE := hideIt (show ∀ W, Mod [] w W → ParsePost (parseF 68 l) w (.returned (⟨68, 0, valB l, 0, 0, 0, 0⟩ : Rc).val) W from fun W hm => ⟨rfl, hm⟩)
  simp only [Rc.val] at HE
  generalize valB l = Z at *
  clear hb hB hl
  go_enter Tryz.func79, Tryz.ntmps79
  go_wp2_with fail
  refine (HN.out _ ((Mod.alloc _ _).trans (Mod.alloc _ _))).mono ?_
  rintro e w1 ⟨rfl, hw⟩
  obtain rfl := hw
  go_wp2
  exact bodyPost_ret (v := .agg #[.int .u8 68, .int .i64 0, .int .i64 Z, .int .i64 0, .int .i64 0, .int .i64 0, .int .i64 0]) (by simp [results, Tryz.results79, go_sem]) rfl (HE.out _ ((Mod.alloc _ _).trans (Mod.alloc _ _)))

theorem told7 {w w2 : World} (hm : Mod [] w w2) {p q : Nat} (hp : w.heap.size ≤ p) (hq : w.heap.size ≤ q) (hne : p ≠ q) {r0 r : Rc} (b0 : w2.heap[p]? = some (rcO r0)) (A B C D : Value) {W : World}
    (hW : W = (((((((((((w2.setCell ⟨q, 3, none⟩ A).setCell ⟨q, 4, none⟩ B).setCell ⟨q, 5, none⟩ C).setCell ⟨q, 6, none⟩ D).setCell ⟨p, 0, none⟩ (.int .u8 r.kind)).setCell ⟨p, 1, none⟩ (.int .i64 r.fan)).setCell ⟨p, 2, none⟩ (.int .i64 r.id)).setCell ⟨p, 3, none⟩ (.int .i64 r.x0)).setCell ⟨p, 4, none⟩ (.int .i64 r.y0)).setCell ⟨p, 5, none⟩ (.int .i64 r.x1)).setCell ⟨p, 6, none⟩ (.int .i64 r.y1))) :
    Mod [] w W ∧ W.heap[p]? = some (rcO r) := by
  subst hW
  constructor
  · refine hm.then (G := [p, q]) ?_ (fun x hx => .inr (by simp at hx; omega))
    exact ((((((((((Mod.setCell _ _ _ (by simp)).trans (Mod.setCell _ _ _ (by simp))).trans (Mod.setCell _ _ _ (by simp))).trans (Mod.setCell _ _ _ (by simp))).trans (Mod.setCell _ _ _ (by simp))).trans (Mod.setCell _ _ _ (by simp))).trans (Mod.setCell _ _ _ (by simp))).trans (Mod.setCell _ _ _ (by simp))).trans (Mod.setCell _ _ _ (by simp))).trans (Mod.setCell _ _ _ (by simp))).trans (Mod.setCell _ _ _ (by simp))
  · have h4 : ((((w2.setCell ⟨q, 3, none⟩ A).setCell ⟨q, 4, none⟩ B).setCell ⟨q, 5, none⟩ C).setCell ⟨q, 6, none⟩ D).heap[p]? = some (rcO r0) := by
      rw [block_setCell_other hne, block_setCell_other hne, block_setCell_other hne, block_setCell_other hne]
      exact b0
    rw [block_setCell (block_setCell (block_setCell (block_setCell (block_setCell (block_setCell (block_setCell h4 0 _) 1 _) 2 _) 3 _) 4 _) 5 _) 6 _]
    simp

set_option maxRecDepth 100000 in
set_option maxHeartbeats 1000000 in
theorem parse_put {w : World} {g off c : Nat} {l : List Int} {kind : Int} (hk : kind = 80 ∨ kind = 77) (hb : BytesAt w g off l) (hl : l.length = 18) (hB : ByteL l) (hc : 18 ≤ c) :
    Calls Tryz.prog 79 #[.int .u8 kind, .slice (some ⟨g, off, none⟩) 18 c] w (ParsePost (parseF kind l) w) := by
  have HN := hideIt (fun W (hm : Mod [] w W) => number_any (c := c) ((hb.keep hm).take 2) (show (l.take 2).length = 2 by simp; omega) (by omega) (hB.take 2))
  have HR := hideIt (show ∀ W, Mod [] w W → Calls Tryz.prog 115 #[.slice (some ⟨g, off + 2, none⟩) 16 (c - 2)] W (fun e w' => e = .returned (R4 (coordV (l.drop 2) 0) (coordV (l.drop 2) 1) (coordV (l.drop 2) 2) (coordV (l.drop 2) 3)) ∧ Mod [] W w') from fun W hm => rect_any (c := c - 2) ((hb.keep hm).drop 2) (show (l.drop 2).length = 16 by simp; omega) (hB.drop 2) (by omega))
  obtain ⟨r1, r2⟩ := valB_range (hB.take 2)
  rw [show (l.take 2).length = 2 by simp; omega] at r2
  have e : parseF kind l = ⟨kind, 0, valB (l.take 2), coordV (l.drop 2) 0, coordV (l.drop 2) 1, coordV (l.drop 2) 2, coordV (l.drop 2) 3⟩ := by
    unfold parseF
    rw [if_neg (by omega), if_neg (by omega)]
  rw [e]
  have HE := hideIt (show ∀ W, Mod [] w W → ParsePost (⟨kind, 0, valB (l.take 2), coordV (l.drop 2) 0, coordV (l.drop 2) 1, coordV (l.drop 2) 2, coordV (l.drop 2) 3⟩ : Rc) w (.returned (⟨kind, 0, valB (l.take 2), coordV (l.drop 2) 0, coordV (l.drop 2) 1, coordV (l.drop 2) 2, coordV (l.drop 2) 3⟩ : Rc).val) W from fun W hm => ⟨rfl, hm⟩)
  generalize coordV (l.drop 2) 0 = C0 at *
  generalize coordV (l.drop 2) 1 = C1 at *
  generalize coordV (l.drop 2) 2 = C2 at *
  generalize coordV (l.drop 2) 3 = C3 at *
  simp only [Rc.val] at HE
  generalize valB (l.take 2) = Z at *
  clear hb hB hl e
  rcases hk with rfl | rfl
  case inl =>
    go_enter Tryz.func79, Tryz.ntmps79
    go_wp2_with fail
    refine (HN.out _ ((Mod.alloc _ _).trans (Mod.alloc _ _))).mono ?_
    rintro e w1 ⟨rfl, hw⟩
    obtain rfl := hw
    go_wp2_with fail
    have hmA : Mod [] w ((w.alloc (rcO ⟨0, 0, 0, 0, 0, 0, 0⟩)).alloc (rcO ⟨80, 0, Z, 0, 0, 0, 0⟩)) := (Mod.alloc _ _).trans (Mod.alloc _ _)
    refine (HR.out _ hmA).mono ?_
    rintro e w2 ⟨rfl, hm2⟩
    have b0 := ((hm2.block w.heap.size (by simp; omega) (by simp)).trans ((Mod.alloc (F := []) (w.alloc (rcO ⟨0, 0, 0, 0, 0, 0, 0⟩)) _).block w.heap.size (by simp) (by simp))).trans (heap_alloc_new w _)
    have b1 : w2.heap[w.heap.size + 1]? = some (rcO ⟨80, 0, Z, 0, 0, 0, 0⟩) := by
      have h := heap_alloc_new (w.alloc (rcO ⟨0, 0, 0, 0, 0, 0, 0⟩)) (rcO ⟨80, 0, Z, 0, 0, 0, 0⟩)
      rw [show (w.alloc (rcO ⟨0, 0, 0, 0, 0, 0, 0⟩)).heap.size = w.heap.size + 1 by simp] at h
      exact (hm2.block _ (by simp) (by simp)).trans h
    have HM2 := hideIt (hmA.trans hm2)
    have HB0 := hideIt b0
    obtain ⟨z0, z1, z2, z3, z4, z5, z6⟩ := cell_rcO b0
    obtain ⟨y0, y1, y2, y3, y4, y5, y6⟩ := cell_rcO b1
    simp only at z0 z1 z2 z3 z4 z5 z6 y0 y1 y2 y3 y4 y5 y6
    have f0 := fun o => frozen_of_block b0 o
    have f1 := fun o => frozen_of_block b1 o
    have l0 := lt_of_block b0
    have l1 := lt_of_block b1
    clear b0 b1 hm2 hmA HN HR
    go_wp2
    obtain ⟨hW, hB⟩ := told7 (r := ⟨80, 0, Z, C0, C1, C2, C3⟩) HM2.out (p := w.heap.size) (q := w.heap.size + 1) (by omega) (by omega) (by omega) HB0.out (.int .i64 C0) (.int .i64 C1) (.int .i64 C2) (.int .i64 C3) rfl
    simp only at hW hB
    generalize ((((((((((w2.setCell _ _).setCell _ _).setCell _ _).setCell _ _).setCell _ _).setCell _ _).setCell _ _).setCell _ _).setCell _ _).setCell _ _).setCell _ _ = W at *
    obtain ⟨v0, v1, v2, v3, v4, v5, v6⟩ := cell_rcO hB
    simp only at v0 v1 v2 v3 v4 v5 v6
    have HW := hideIt hW
    clear hW z0 z1 z2 z3 z4 z5 z6 y0 y1 y2 y3 y4 y5 y6 f0 f1 l0 l1 hB
    exact bodyPost_ret (v := .agg #[.int .u8 80, .int .i64 0, .int .i64 Z, .int .i64 C0, .int .i64 C1, .int .i64 C2, .int .i64 C3]) (by simp [results, Tryz.results79, go_sem, v0, v1, v2, v3, v4, v5, v6]) rfl (HE.out _ HW.out)
  case inr =>
    go_enter Tryz.func79, Tryz.ntmps79
    go_wp2_with fail
    refine (HN.out _ ((Mod.alloc _ _).trans (Mod.alloc _ _))).mono ?_
    rintro e w1 ⟨rfl, hw⟩
    obtain rfl := hw
    go_wp2_with fail
    have hmA : Mod [] w ((w.alloc (rcO ⟨0, 0, 0, 0, 0, 0, 0⟩)).alloc (rcO ⟨77, 0, Z, 0, 0, 0, 0⟩)) := (Mod.alloc _ _).trans (Mod.alloc _ _)
    refine (HR.out _ hmA).mono ?_
    rintro e w2 ⟨rfl, hm2⟩
    have b0 := ((hm2.block w.heap.size (by simp; omega) (by simp)).trans ((Mod.alloc (F := []) (w.alloc (rcO ⟨0, 0, 0, 0, 0, 0, 0⟩)) _).block w.heap.size (by simp) (by simp))).trans (heap_alloc_new w _)
    have b1 : w2.heap[w.heap.size + 1]? = some (rcO ⟨77, 0, Z, 0, 0, 0, 0⟩) := by
      have h := heap_alloc_new (w.alloc (rcO ⟨0, 0, 0, 0, 0, 0, 0⟩)) (rcO ⟨77, 0, Z, 0, 0, 0, 0⟩)
      rw [show (w.alloc (rcO ⟨0, 0, 0, 0, 0, 0, 0⟩)).heap.size = w.heap.size + 1 by simp] at h
      exact (hm2.block _ (by simp) (by simp)).trans h
    have HM2 := hideIt (hmA.trans hm2)
    have HB0 := hideIt b0
    obtain ⟨z0, z1, z2, z3, z4, z5, z6⟩ := cell_rcO b0
    obtain ⟨y0, y1, y2, y3, y4, y5, y6⟩ := cell_rcO b1
    simp only at z0 z1 z2 z3 z4 z5 z6 y0 y1 y2 y3 y4 y5 y6
    have f0 := fun o => frozen_of_block b0 o
    have f1 := fun o => frozen_of_block b1 o
    have l0 := lt_of_block b0
    have l1 := lt_of_block b1
    clear b0 b1 hm2 hmA HN HR
    go_wp2
    obtain ⟨hW, hB⟩ := told7 (r := ⟨77, 0, Z, C0, C1, C2, C3⟩) HM2.out (p := w.heap.size) (q := w.heap.size + 1) (by omega) (by omega) (by omega) HB0.out (.int .i64 C0) (.int .i64 C1) (.int .i64 C2) (.int .i64 C3) rfl
    simp only at hW hB
    generalize ((((((((((w2.setCell _ _).setCell _ _).setCell _ _).setCell _ _).setCell _ _).setCell _ _).setCell _ _).setCell _ _).setCell _ _).setCell _ _).setCell _ _ = W at *
    obtain ⟨v0, v1, v2, v3, v4, v5, v6⟩ := cell_rcO hB
    simp only at v0 v1 v2 v3 v4 v5 v6
    have HW := hideIt hW
    clear hW z0 z1 z2 z3 z4 z5 z6 y0 y1 y2 y3 y4 y5 y6 f0 f1 l0 l1 hB
    exact bodyPost_ret (v := .agg #[.int .u8 77, .int .i64 0, .int .i64 Z, .int .i64 C0, .int .i64 C1, .int .i64 C2, .int .i64 C3]) (by simp [results, Tryz.results79, go_sem, v0, v1, v2, v3, v4, v5, v6]) rfl (HE.out _ HW.out)

end Go.Proofs.YthimaoipogocfaaGreat

namespace Go.Proofs.YthimaoipogocfaaGreat
open Go.RowKit
attribute [local go_sem] run_store_f32 run_neg_inf

/-- the record that stands at a place of a log, if it is whole and right -/
def readF (l : List Int) (k : Nat) : Option Rc :=
  match l[k]? with
  | none => none
  | some kind =>
    match sizeF kind with
    | none => none
    | some m => if k + 1 + m + 4 ≤ l.length ∧ sealF (l.take k) ((l.drop k).take (1 + m)) = valB ((l.drop (k + 1 + m)).take 4) then some (parseF kind ((l.drop (k + 1)).take m)) else none

theorem sizeF_cases {kind : Int} {m : Nat} (h : sizeF kind = some m) : (kind = 72 ∧ m = 1) ∨ ((kind = 80 ∨ kind = 77) ∧ m = 18) ∨ (kind = 68 ∧ m = 2) := by
  unfold sizeF at h
  split at h
  · cases h
    exact .inl ⟨by assumption, rfl⟩
  · split at h
    · cases h
      exact .inr (.inl ⟨by assumption, rfl⟩)
    · split at h
      · cases h
        exact .inr (.inr ⟨by assumption, rfl⟩)
      · cases h
def rc0 : Rc := ⟨0, 0, 0, 0, 0, 0, 0⟩
def ReadPost (r : Option Rc) (w : World) (e : Ending) (w' : World) : Prop := e = .returned (.tuple #[(r.getD rc0).val, .bool r.isSome]) ∧ Mod [] w w'

theorem readNone {r : Option Rc} (hr : r = none) {w W : World} (hm : Mod [] w W) : ReadPost r w (.returned (.tuple #[.agg #[.int .u8 0, .int .i64 0, .int .i64 0, .int .i64 0, .int .i64 0, .int .i64 0, .int .i64 0], .bool false])) W := by
  subst hr
  exact ⟨rfl, hm⟩

theorem told7a {w w2 : World} (hm : Mod [] w w2) {p : Nat} (hp : w.heap.size ≤ p) {r0 r : Rc} (b0 : w2.heap[p]? = some (rcO r0)) {W : World}
    (hW : W = (((((((w2.setCell ⟨p, 0, none⟩ (.int .u8 r.kind)).setCell ⟨p, 1, none⟩ (.int .i64 r.fan)).setCell ⟨p, 2, none⟩ (.int .i64 r.id)).setCell ⟨p, 3, none⟩ (.int .i64 r.x0)).setCell ⟨p, 4, none⟩ (.int .i64 r.y0)).setCell ⟨p, 5, none⟩ (.int .i64 r.x1)).setCell ⟨p, 6, none⟩ (.int .i64 r.y1))) :
    Mod [] w W ∧ W.heap[p]? = some (rcO r) := by
  subst hW
  constructor
  · refine hm.then (G := [p]) ?_ (fun x hx => .inr (by simp at hx; omega))
    exact ((((((Mod.setCell _ _ _ (by simp)).trans (Mod.setCell _ _ _ (by simp))).trans (Mod.setCell _ _ _ (by simp))).trans (Mod.setCell _ _ _ (by simp))).trans (Mod.setCell _ _ _ (by simp))).trans (Mod.setCell _ _ _ (by simp))).trans (Mod.setCell _ _ _ (by simp))
  · rw [block_setCell (block_setCell (block_setCell (block_setCell (block_setCell (block_setCell (block_setCell b0 0 _) 1 _) 2 _) 3 _) 4 _) 5 _) 6 _]
    simp

set_option maxRecDepth 100000 in
set_option maxHeartbeats 400000 in
theorem read_nil (w : World) {k : Nat} : Calls Tryz.prog 48 #[.slice none 0 0, .int .i64 k] w (ReadPost (readF [] k) w) := by
  have HF := hideIt (fun W (hm : Mod [] w W) => readNone (r := readF [] k) rfl hm)
  have hk : (0 : Int) ≤ (k : Int) := by omega
  go_enter Tryz.func48, Tryz.ntmps48
  go_wp2
  exact bodyPost_ret (v := .tuple #[.agg #[.int .u8 0, .int .i64 0, .int .i64 0, .int .i64 0, .int .i64 0, .int .i64 0, .int .i64 0], .bool false]) (by simp [results, Tryz.results48, go_sem]) rfl (HF.out _ (Mod.alloc _ _))

set_option maxRecDepth 100000 in
set_option maxHeartbeats 4000000 in
theorem read_any {w : World} {g off n c : Nat} {l : List Int} (hb : BytesAt w g off l) (hl : l.length = n) (hn : n ≤ 1000000000000) (hB : ByteL l) (hc : n ≤ c) (hc2 : c ≤ maxLen) {k : Nat} (hk : k = 0 ∨ 4 ≤ k) (hk2 : k ≤ 1000000000000) :
    Calls Tryz.prog 48 #[.slice (some ⟨g, off, none⟩) n c, .int .i64 k] w (ReadPost (readF l k) w) := by
  have hc2' : c ≤ 9223372036854775807 := by unfold maxLen at hc2; omega
  by_cases hlt : k < n
  · have hget : l[k]? = some l[k] := List.getElem?_eq_getElem (by omega)
    have hm0 := Mod.alloc (F := []) w (rcO ⟨0, 0, 0, 0, 0, 0, 0⟩)
    have cK := cell_mod hm0 (hb k _ hget)

    have HM0 := hideIt hm0
    clear hm0
    cases hs : sizeF l[k] with
    | none =>
      have hr : readF l k = none := by unfold readF; rw [hget]; simp only [hs]
      have HF := hideIt (fun W (hm : Mod [] w W) => readNone hr hm)
      have HS := hideIt (show ∀ W, Calls Tryz.prog 76 #[.int .u8 l[k]] W (fun e w' => e = .returned (.tuple #[.int .i64 0, .bool false]) ∧ W = w') from fun W => by have := bodySize_any l[k] W; unfold SizePost at this; rw [hs] at this; exact this)
      generalize l[k] = kind at *
      generalize readF l k = R at *
      clear hr hs hget hb
      go_enter Tryz.func48, Tryz.ntmps48
      go_wp2_with fail
      refine (HS.out _).mono ?_
      rintro e w1 ⟨rfl, hw⟩
      obtain rfl := hw
      go_wp2
      exact bodyPost_ret (v := .tuple #[.agg #[.int .u8 0, .int .i64 0, .int .i64 0, .int .i64 0, .int .i64 0, .int .i64 0, .int .i64 0], .bool false]) (by simp [results, Tryz.results48, go_sem]) rfl (HF.out _ HM0.out)
    | some m =>
      have hmm : m ≤ 18 := by
        have := sizeF_cases hs
        omega
      have HS := hideIt (show ∀ W, Calls Tryz.prog 76 #[.int .u8 l[k]] W (fun e w' => e = .returned (.tuple #[.int .i64 m, .bool true]) ∧ W = w') from fun W => by have := bodySize_any l[k] W; unfold SizePost at this; rw [hs] at this; exact this)
      by_cases hfit : k + 1 + m + 4 ≤ n
      · have hrd : readF l k = if sealF (l.take k) ((l.drop k).take (1 + m)) = valB ((l.drop (k + 1 + m)).take 4) then some (parseF l[k] ((l.drop (k + 1)).take m)) else none := by
          unfold readF
          rw [hget]
          simp only [hs]
          rw [← hl] at hfit
          simp only [hfit, true_and]
        have e1 : (l.take (k + 1 + m)).take k = l.take k := by rw [List.take_take, Nat.min_eq_left (by omega)]
        have e2 : (l.take (k + 1 + m)).drop k = (l.drop k).take (1 + m) := by rw [List.drop_take]; congr 1; omega
        have HSEAL := hideIt (show ∀ W, Mod [] w W → Calls Tryz.prog 77 #[.slice (some ⟨g, off, none⟩) (k + 1 + m) c, .int .i64 k] W (SealPost (sealF (l.take k) ((l.drop k).take (1 + m))) W) from fun W hm => by
          have := seal_any (c := c) ((hb.keep hm).take (k + 1 + m)) (show (l.take (k + 1 + m)).length = k + 1 + m by rw [List.length_take]; omega) (by unfold maxLen; omega) (hB.take _) hk (by omega) (by omega) hc2
          rw [e1, e2] at this
          exact this)
        have HNUM := hideIt (show ∀ W, Mod [] w W → Calls Tryz.prog 78 #[.slice (some ⟨g, off + (k + 1 + m), none⟩) 4 (c - (k + 1 + m))] W (SealPost (valB ((l.drop (k + 1 + m)).take 4)) W) from fun W hm => (number_any (((hb.keep hm).drop (k + 1 + m)).take 4) (by rw [List.length_take, List.length_drop]; omega) (by omega) ((hB.drop _).take _)).mono (fun e w' h => ⟨h.1, by rw [← h.2]; exact Mod.refl _ _⟩))
        by_cases heq : sealF (l.take k) ((l.drop k).take (1 + m)) = valB ((l.drop (k + 1 + m)).take 4)
        · rw [if_pos heq] at hrd
          obtain ⟨r, hrr⟩ : ∃ r, r = parseF l[k] ((l.drop (k + 1)).take m) := ⟨_, rfl⟩
          rw [← hrr] at hrd
          have HPA := hideIt (show ∀ W, Mod [] w W → Calls Tryz.prog 79 #[.int .u8 l[k], .slice (some ⟨g, off + (k + 1), none⟩) m (c - (k + 1))] W (fun e w' => e = .returned (.agg #[.int .u8 r.kind, .int .i64 r.fan, .int .i64 r.id, .int .i64 r.x0, .int .i64 r.y0, .int .i64 r.x1, .int .i64 r.y1]) ∧ Mod [] W w') from fun W hm => by
            show Calls Tryz.prog 79 _ W (ParsePost r W)
            rw [hrr]
            have hbt := ((hb.keep hm).drop (k + 1)).take m
            have hlt2 : ((l.drop (k + 1)).take m).length = m := by rw [List.length_take, List.length_drop]; omega
            have hBt := (hB.drop (k + 1)).take m
            rcases sizeF_cases hs with ⟨e, rfl⟩ | ⟨e, rfl⟩ | ⟨e, rfl⟩
            · rw [e]; exact parse_head hbt hlt2 hBt
            · exact parse_put e hbt hlt2 hBt (by omega)
            · rw [e]; exact parse_drop hbt hlt2 hBt)
          have HF := hideIt (show ∀ W, Mod [] w W → ReadPost (readF l k) w (.returned (.tuple #[r.val, .bool true])) W from fun W hm => ⟨by rw [hrd]; rfl, hm⟩)
          simp only [Rc.val] at HF
          have cK0 := hb k _ hget
          have hne : (sealF (l.take k) ((l.drop k).take (1 + m)) != valB ((l.drop (k + 1 + m)).take 4)) = false := by simpa using heq
          generalize sealF (l.take k) ((l.drop k).take (1 + m)) = S at *
          generalize valB ((l.drop (k + 1 + m)).take 4) = V at *
          generalize l[k] = kind at *
          generalize readF l k = R at *
          have hwr2 : IntKind.i64.wrap ((k : Int) + 1) = (k : Int) + 1 := by rw [IntKind.wrap_i64]; omega
          clear hrd hs hget hb hB e1 e2 heq hrr
          go_enter Tryz.func48, Tryz.ntmps48
          go_wp2_with fail
          refine (HS.out _).mono ?_
          rintro e w1 ⟨rfl, hw⟩
          obtain rfl := hw
          go_wp2_with fail
          have hwr : IntKind.i64.wrap ((k : Int) + 1 + (m : Int) + 4) = (k : Int) + 1 + (m : Int) + 4 := by rw [IntKind.wrap_i64]; omega
          go_region_held (fun w' => Mod [] (w.alloc (rcO ⟨0, 0, 0, 0, 0, 0, 0⟩)) w')
            ((first
              | exact Mod.drew _
              | (simp only [*]; done)
              | exact Mod.trans (by simp only [*]) hm2
              | exact Mod.trans (by simp only [*]) hm3))
            ((first
              | (go_at_call 77; refine (HSEAL.out _ (HM0.out.trans (by simp only [*]))).mono ?_; rintro e2 w2 ⟨rfl, hm2⟩)
              | (go_at_call 78; refine (HNUM.out _ (HM0.out.trans (by simp only [*]))).mono ?_; rintro e3 w3 ⟨rfl, hm3⟩)))
          all_goals
            have hmW : Mod [] (w.alloc (rcO ⟨0, 0, 0, 0, 0, 0, 0⟩)) w3 := ((Mod.drew _).trans hm2).trans hm3
            have b0 := (hmW.block w.heap.size (by simp) (by simp)).trans (heap_alloc_new w _)
            have HB0 := hideIt b0
            have HMW := hideIt (HM0.out.trans hmW)
            obtain ⟨z0, z1, z2, z3, z4, z5, z6⟩ := cell_rcO b0
            simp only at z0 z1 z2 z3 z4 z5 z6
            have f0 := fun o => frozen_of_block b0 o
            have l0 := lt_of_block b0
            have cK3 := cell_mod (HM0.out.trans hmW) cK0
            clear hmW b0 hm2 hm3 HSEAL HNUM HS
            have cK3d := cell_mod (Mod.drew w3) cK3
            have HBP := hideIt (show ∀ w4, Mod [] w3.drew w4 → w4.heap[w.heap.size]? = some (rcO ⟨0, 0, 0, 0, 0, 0, 0⟩) from fun w4 hm4 => (((Mod.drew (F := []) w3).trans hm4).block w.heap.size (lt_of_block HB0.out) (by simp)).trans HB0.out)
            clear z0 z1 z2 z3 z4 z5 z6 f0 l0
            go_wp2_with fail
            go_region_with (go_at_call 79; refine (HPA.out _ (HMW.out.trans (Mod.drew _))).mono ?_; rintro e4 w4 ⟨rfl, hm4⟩; obtain ⟨z0, z1, z2, z3, z4, z5, z6⟩ := cell_rcO (HBP.out w4 hm4); have f0 := fun o => frozen_of_block (HBP.out w4 hm4) o; have l0 := lt_of_block (HBP.out w4 hm4))
            all_goals
              have HB4 := hideIt (HBP.out w4 hm4)
              have HM4 := hideIt ((HMW.out.trans (Mod.drew _)).trans hm4)
              clear hm4 cK3 cK3d
              go_wp2
              obtain ⟨hW, hB⟩ := told7a (r := r) HM4.out (p := w.heap.size) (by omega) HB4.out rfl
              generalize ((((((w4.setCell _ _).setCell _ _).setCell _ _).setCell _ _).setCell _ _).setCell _ _).setCell _ _ = W at *
              obtain ⟨v0, v1, v2, v3, v4, v5, v6⟩ := cell_rcO hB
              have HW := hideIt hW
              clear hW z0 z1 z2 z3 z4 z5 z6 f0 l0 hB
              exact bodyPost_ret (v := .tuple #[.agg #[.int .u8 r.kind, .int .i64 r.fan, .int .i64 r.id, .int .i64 r.x0, .int .i64 r.y0, .int .i64 r.x1, .int .i64 r.y1], .bool true]) (by simp [results, Tryz.results48, go_sem, v0, v1, v2, v3, v4, v5, v6]) rfl (HF.out _ HW.out)
        · rw [if_neg heq] at hrd
          have HF := hideIt (fun W (hm : Mod [] w W) => readNone hrd hm)
          have hne : (sealF (l.take k) ((l.drop k).take (1 + m)) != valB ((l.drop (k + 1 + m)).take 4)) = true := by simpa using heq
          generalize sealF (l.take k) ((l.drop k).take (1 + m)) = S at *
          generalize valB ((l.drop (k + 1 + m)).take 4) = V at *
          generalize l[k] = kind at *
          generalize readF l k = R at *
          clear hrd hs hget hb hB e1 e2 heq
          go_enter Tryz.func48, Tryz.ntmps48
          go_wp2_with fail
          refine (HS.out _).mono ?_
          rintro e w1 ⟨rfl, hw⟩
          obtain rfl := hw
          go_wp2_with fail
          have hwr : IntKind.i64.wrap ((k : Int) + 1 + (m : Int) + 4) = (k : Int) + 1 + (m : Int) + 4 := by rw [IntKind.wrap_i64]; omega
          go_region_held (fun w' => Mod [] (w.alloc (rcO ⟨0, 0, 0, 0, 0, 0, 0⟩)) w')
            ((first
              | exact Mod.drew _
              | (simp only [*]; done)
              | exact Mod.trans (by simp only [*]) hm2
              | exact Mod.trans (by simp only [*]) hm3))
            ((first
              | (go_at_call 77; refine (HSEAL.out _ (HM0.out.trans (by simp only [*]))).mono ?_; rintro e2 w2 ⟨rfl, hm2⟩)
              | (go_at_call 78; refine (HNUM.out _ (HM0.out.trans (by simp only [*]))).mono ?_; rintro e3 w3 ⟨rfl, hm3⟩)))
          all_goals
            have hmW : Mod [] (w.alloc (rcO ⟨0, 0, 0, 0, 0, 0, 0⟩)) w3 := ((Mod.drew _).trans hm2).trans hm3
            have b0 := (hmW.block w.heap.size (by simp) (by simp)).trans (heap_alloc_new w _)
            have HB0 := hideIt b0
            have HMW := hideIt (HM0.out.trans hmW)
            obtain ⟨z0, z1, z2, z3, z4, z5, z6⟩ := cell_rcO b0
            simp only at z0 z1 z2 z3 z4 z5 z6
            have f0 := fun o => frozen_of_block b0 o
            have l0 := lt_of_block b0
            clear hmW b0 hm2 hm3 HSEAL HNUM HS
            go_wp2
            obtain ⟨hW, hB⟩ := told7a (r := ⟨0, 0, 0, 0, 0, 0, 0⟩) HMW.out (p := w.heap.size) (by omega) HB0.out rfl
            simp only at hW hB
            generalize ((((((w3.setCell _ _).setCell _ _).setCell _ _).setCell _ _).setCell _ _).setCell _ _).setCell _ _ = W at *
            obtain ⟨v0, v1, v2, v3, v4, v5, v6⟩ := cell_rcO hB
            simp only at v0 v1 v2 v3 v4 v5 v6
            have HW := hideIt hW
            clear hW z0 z1 z2 z3 z4 z5 z6 f0 l0 hB
            exact bodyPost_ret (v := .tuple #[.agg #[.int .u8 0, .int .i64 0, .int .i64 0, .int .i64 0, .int .i64 0, .int .i64 0, .int .i64 0], .bool false]) (by simp [results, Tryz.results48, go_sem, v0, v1, v2, v3, v4, v5, v6]) rfl (HF.out _ HW.out)
      · have hr : readF l k = none := by
          unfold readF
          rw [hget]
          simp only [hs]
          rw [if_neg (by omega)]
        have HF := hideIt (fun W (hm : Mod [] w W) => readNone hr hm)
        generalize l[k] = kind at *
        generalize readF l k = R at *
        clear hr hs hget hb hB
        go_enter Tryz.func48, Tryz.ntmps48
        go_wp2_with fail
        refine (HS.out _).mono ?_
        rintro e w1 ⟨rfl, hw⟩
        obtain rfl := hw
        go_wp2
        exact bodyPost_ret (v := .tuple #[.agg #[.int .u8 0, .int .i64 0, .int .i64 0, .int .i64 0, .int .i64 0, .int .i64 0, .int .i64 0], .bool false]) (by simp [results, Tryz.results48, go_sem]) rfl (HF.out _ HM0.out)
  · have hr : readF l k = none := by
      unfold readF
      rw [List.getElem?_eq_none (by omega)]
    have HF := hideIt (fun W (hm : Mod [] w W) => readNone hr hm)
    clear hr hb hB
    go_enter Tryz.func48, Tryz.ntmps48
    go_wp2
    exact bodyPost_ret (v := .tuple #[.agg #[.int .u8 0, .int .i64 0, .int .i64 0, .int .i64 0, .int .i64 0, .int .i64 0, .int .i64 0], .bool false]) (by simp [results, Tryz.results48, go_sem]) rfl (HF.out _ (Mod.alloc _ _))

end Go.Proofs.YthimaoipogocfaaGreat

