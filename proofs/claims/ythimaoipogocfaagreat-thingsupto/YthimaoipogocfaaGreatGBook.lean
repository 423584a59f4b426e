import Derived.Test.YthimaoipogocfaaGreatJ19
import Derived.Test.YthimaoipogocfaaGreatGBytes
import Derived.Deep.RegionHeld
namespace Go.Proofs.YthimaoipogocfaaGreat
open Go.RowKit Go.Maps
attribute [local go_sem] run_store_f32 run_neg_inf

/-! ### lists that came out, as their owner wrote them -/
def signF (k : Int) (i : Nat) : Int := (if i % 2 = 0 then k else k / 256) % 256

set_option maxRecDepth 100000 in
theorem sign_any {k : Int} (hk : 0 ≤ k ∧ k ≤ 1000000000000) {i : Nat} (hi : i ≤ 1000000000000) (w : World) : Calls Tryz.prog 58 #[.int .i64 k, .int .i64 i] w fun e w' => e = .returned (.int .u8 (signF k i)) ∧ w = w' := by
  obtain ⟨k0, k1⟩ := hk
  by_cases h : i % 2 = 0
  · have hq : (((i : Int) % 2) == 0) = true := by simp; omega
    have HE := hideIt (show signF k i = k % 256 by unfold signF; rw [if_pos h])
    clear h
    go_enter Tryz.func58, Tryz.ntmps58
    go_wp2
    go_ret
    exact ⟨by rw [HE.out]; rfl, rfl⟩
  · have hq : (((i : Int) % 2) == 0) = false := by simp; omega
    have HE := hideIt (show signF k i = k / 256 % 256 by unfold signF; rw [if_neg h])
    clear h
    go_enter Tryz.func58, Tryz.ntmps58
    go_wp2
    go_ret
    exact ⟨by rw [HE.out]; rfl, rfl⟩

/-- written full: bytes, numbers, hits -/
def FillB (w : World) (v : Value) (k : Int) : Prop := (0 ≤ k ∧ k ≤ 1000000000000) ∧ ∃ a n c, v = .slice a n c ∧ n ≤ 1000000000 ∧ ∀ j, j < n → ∃ b, a = some ⟨b, 0, none⟩ ∧ w.cell? ⟨b, j, none⟩ = some (.int .u8 (signF k j))
def FillN (w : World) (v : Value) (k : Int) : Prop := ∃ a n c, v = .slice a n c ∧ n ≤ 1000000000 ∧ ∀ j, j < n → ∃ b, a = some ⟨b, 0, none⟩ ∧ w.cell? ⟨b, j, none⟩ = some (.int .i64 k)
def FillH (w : World) (v : Value) (k : Int) : Prop := ∃ a n c, v = .slice a n c ∧ n ≤ 1000000000 ∧ ∀ j, j < n → ∃ b, a = some ⟨b, 0, none⟩ ∧ w.cell? ⟨b, j * 2, none⟩ = some (.int .i64 k) ∧ w.cell? ⟨b, j * 2 + 1, none⟩ = some (.int .i64 k)

/-- what says 'written full' stays as long as the list's block does -/
def Stays (P : World → Value → Int → Prop) : Prop := ∀ w w' v k G, P w v k → Mod G w w' → (∀ x ∈ v.ownBlock.toList, x ∉ G) → P w' v k
theorem own_of {a : Option Addr} {n c b : Nat} (h : a = some ⟨b, 0, none⟩) : b ∈ (Value.slice a n c).ownBlock.toList := by subst h; simp [Value.ownBlock]
theorem cell_stays {w w' : World} {G : List Nat} (hm : Mod G w w') {b o : Nat} {u : Value} (h : w.cell? ⟨b, o, none⟩ = some u) (hb : b ∉ G) : w'.cell? ⟨b, o, none⟩ = some u := (hm.cell (World.block_lt_of_cell? w _ h) hb o).trans h
theorem stays_B : Stays FillB := by
  rintro w w' v k G ⟨h0, a, n, c, rfl, hn, h⟩ hm hd
  refine ⟨h0, a, n, c, rfl, hn, fun j hj => ?_⟩
  obtain ⟨b, hb, hc⟩ := h j hj
  exact ⟨b, hb, cell_stays hm hc (hd b (own_of hb))⟩
theorem stays_N : Stays FillN := by
  rintro w w' v k G ⟨a, n, c, rfl, hn, h⟩ hm hd
  refine ⟨a, n, c, rfl, hn, fun j hj => ?_⟩
  obtain ⟨b, hb, hc⟩ := h j hj
  exact ⟨b, hb, cell_stays hm hc (hd b (own_of hb))⟩
theorem stays_H : Stays FillH := by
  rintro w w' v k G ⟨a, n, c, rfl, hn, h⟩ hm hd
  refine ⟨a, n, c, rfl, hn, fun j hj => ?_⟩
  obtain ⟨b, hb, hc, hc'⟩ := h j hj
  exact ⟨b, hb, cell_stays hm hc (hd b (own_of hb)), cell_stays hm hc' (hd b (own_of hb))⟩

/-- a list of lists (elements of the type e), beside it the marks; the lists' blocks: E; at most N of them -/
structure Shelf (B : Nat) (w : World) (e : TypeId) (P : World → Value → Int → Prop) (v u : Value) (N : Nat) (E : List Nat) (ls : List Value) (ks : List Int) : Prop where
  own : w.ownsRow B e 1 v ls.length ls
  marks : w.ownsRow B 3 1 u ls.length (ints ks)
  len : ks.length = ls.length
  few : ls.length ≤ N
  full : ∀ (i : Nat) (x : Value) (k : Int), ls[i]? = some x → ks[i]? = some k → P w x k ∧ (x.oneCell' = true) ∧ ∀ y ∈ x.ownBlock.toList, y ∈ E
  apart : ∀ y ∈ E, y ∉ v.ownBlock.toList ∧ y ∉ u.ownBlock.toList
  lie : ∀ y ∈ E, B ≤ y ∧ y < w.heap.size
def sF (v u : Value) (E : List Nat) : List Nat := v.ownBlock.toList ++ (u.ownBlock.toList ++ E)
theorem mem_sF {v u : Value} {E : List Nat} {x : Nat} : x ∈ sF v u E ↔ x ∈ v.ownBlock.toList ∨ x ∈ u.ownBlock.toList ∨ x ∈ E := by simp [sF]

theorem Shelf.kept {B : Nat} {w w' : World} {e : TypeId} {P : World → Value → Int → Prop} {v u : Value} {N : Nat} {E G : List Nat} {ls : List Value} {ks : List Int} (hP : Stays P) (h : Shelf B w e P v u N E ls ks) (hm : Mod G w w') (hd : ∀ x ∈ sF v u E, x ∉ G) : Shelf B w' e P v u N E ls ks := by
  refine ⟨owns_kept h.own hm (fun k hk => hd k (mem_sF.2 (.inl (by simp [hk])))), owns_kept h.marks hm (fun k hk => hd k (mem_sF.2 (.inr (.inl (by simp [hk]))))), h.len, h.few, fun i x k hx hk => ?_, h.apart, fun y hy => ⟨(h.lie y hy).1, Nat.lt_of_lt_of_le (h.lie y hy).2 hm.size⟩⟩
  obtain ⟨h1, h2, h3⟩ := h.full i x k hx hk
  exact ⟨hP w w' x k G h1 hm (fun y hy => hd y (mem_sF.2 (.inr (.inr (h3 y hy))))), h2, h3⟩

theorem Shelf.more {B : Nat} {w : World} {e : TypeId} {P : World → Value → Int → Prop} {v u : Value} {N M : Nat} {E : List Nat} {ls : List Value} {ks : List Int} (h : Shelf B w e P v u N E ls ks) (hN : N ≤ M) : Shelf B w e P v u M E ls ks :=
  ⟨h.own, h.marks, h.len, Nat.le_trans h.few hN, h.full, h.apart, h.lie⟩

theorem Shelf.empty (B : Nat) (w : World) (e : TypeId) (P : World → Value → Int → Prop) (N : Nat) : Shelf B w e P (.slice none 0 0) (.slice none 0 0) N [] [] [] :=
  ⟨World.ownsRow_nil _ _ _ _, World.ownsRow_nil _ _ _ _, rfl, Nat.zero_le _, fun i x k h => by simp at h, by simp, by simp⟩

theorem Shelf.bounds {B : Nat} {w : World} {e : TypeId} {P : World → Value → Int → Prop} {v u : Value} {N : Nat} {E : List Nat} {ls : List Value} {ks : List Int} (h : Shelf B w e P v u N E ls ks) : ∀ x ∈ sF v u E, B ≤ x ∧ x < w.heap.size := fun x hx => by
  rcases mem_sF.1 hx with hx | hx | hx
  · exact h.own.lt x (by simpa using hx)
  · exact h.marks.lt x (by simpa using hx)
  · exact h.lie x hx

/-- how it is read -/
theorem Shelf.read {B : Nat} {w : World} {e : TypeId} {P : World → Value → Int → Prop} {v u : Value} {N : Nat} {E : List Nat} {ls : List Value} {ks : List Int} (h : Shelf B w e P v u N E ls ks) :
    ∃ a c a' c', v = .slice a ls.length c ∧ u = .slice a' ls.length c' ∧ ∀ i, i < ls.length → ∃ b b' x k, a = some ⟨b, 0, none⟩ ∧ a' = some ⟨b', 0, none⟩ ∧ w.cell? ⟨b, i, none⟩ = some x ∧ w.cell? ⟨b', i, none⟩ = some (.int .i64 k) ∧ P w x k := by
  have hform : ∀ {e' : TypeId} {v' : Value} {xs : List Value}, w.ownsRow B e' 1 v' ls.length xs → ∃ a c, v' = .slice a ls.length c ∧ (∀ i x, i < ls.length → xs[i]? = some x → ∃ b, a = some ⟨b, 0, none⟩ ∧ w.cell? ⟨b, i, none⟩ = some x) := by
    intro e' v' xs ho
    have ho2 := ho
    rcases ho.2 with ⟨rfl, h0⟩ | ⟨g, c, cur, rfl, _⟩
    · exact ⟨Option.none, 0, by rw [h0], fun i x hi _ => by omega⟩
    · exact ⟨_, _, rfl, fun i x hi hx => ⟨g, rfl, owns_cell ho2 i x hx⟩⟩
  obtain ⟨a, c, hv, ha⟩ := hform h.own
  obtain ⟨a', c', hu, ha'⟩ := hform h.marks
  refine ⟨a, c, a', c', hv, hu, fun i hi => ?_⟩
  have hx : ls[i]? = some ls[i] := List.getElem?_eq_getElem hi
  have hk : ks[i]? = some (ks[i]'(by rw [h.len]; exact hi)) := List.getElem?_eq_getElem (by rw [h.len]; exact hi)
  obtain ⟨b, hb, hc⟩ := ha i _ hi hx
  obtain ⟨b', hb', hc'⟩ := ha' i (.int .i64 (ks[i]'(by rw [h.len]; exact hi))) hi (by simp [ints, hk])
  exact ⟨b, b', _, _, hb, hb', hc, hc', (h.full i _ _ hx hk).1⟩

/-- the book's six values -/
structure Bk where
  vb : Value
  ub : Value
  vn : Value
  un : Value
  vh : Value
  uh : Value

structure BookAt (B : Nat) (w : World) (k : Bk) (N : Nat) (Eb En Eh : List Nat) : Prop where
  b : ∃ ls ks, Shelf B w 56 FillB k.vb k.ub N Eb ls ks
  n : ∃ ls ks, Shelf B w 39 FillN k.vn k.un N En ls ks
  h : ∃ ls ks, Shelf B w 46 FillH k.vh k.uh N Eh ls ks
  bn : ∀ x ∈ sF k.vb k.ub Eb, x ∉ sF k.vn k.un En
  bh : ∀ x ∈ sF k.vb k.ub Eb, x ∉ sF k.vh k.uh Eh
  nh : ∀ x ∈ sF k.vn k.un En, x ∉ sF k.vh k.uh Eh
def bookF (k : Bk) (Eb En Eh : List Nat) : List Nat := sF k.vb k.ub Eb ++ (sF k.vn k.un En ++ sF k.vh k.uh Eh)
theorem mem_bookF {k : Bk} {Eb En Eh : List Nat} {x : Nat} : x ∈ bookF k Eb En Eh ↔ x ∈ sF k.vb k.ub Eb ∨ x ∈ sF k.vn k.un En ∨ x ∈ sF k.vh k.uh Eh := by simp [bookF]
def BookRep (B : Nat) (w : World) (k : Bk) (N : Nat) (F : List Nat) : Prop := ∃ Eb En Eh, BookAt B w k N Eb En Eh ∧ F = bookF k Eb En Eh

theorem BookAt.bounds {B : Nat} {w : World} {k : Bk} {N : Nat} {Eb En Eh : List Nat} (h : BookAt B w k N Eb En Eh) : ∀ x ∈ bookF k Eb En Eh, B ≤ x ∧ x < w.heap.size := fun x hx => by
  obtain ⟨l1, k1, h1⟩ := h.b
  obtain ⟨l2, k2, h2⟩ := h.n
  obtain ⟨l3, k3, h3⟩ := h.h
  rcases mem_bookF.1 hx with hx | hx | hx
  · exact h1.bounds x hx
  · exact h2.bounds x hx
  · exact h3.bounds x hx
theorem BookRep.bounds {B : Nat} {w : World} {k : Bk} {N : Nat} {F : List Nat} (h : BookRep B w k N F) : ∀ x ∈ F, B ≤ x ∧ x < w.heap.size := by
  obtain ⟨Eb, En, Eh, h1, rfl⟩ := h
  exact h1.bounds

theorem BookRep.kept {B : Nat} {w w' : World} {k : Bk} {N : Nat} {F G : List Nat} (h : BookRep B w k N F) (hm : Mod G w w') (hd : ∀ x ∈ F, x ∉ G) : BookRep B w' k N F := by
  obtain ⟨Eb, En, Eh, h, rfl⟩ := h
  obtain ⟨⟨l1, k1, h1⟩, ⟨l2, k2, h2⟩, ⟨l3, k3, h3⟩, b1, b2, b3⟩ := h
  exact ⟨Eb, En, Eh, ⟨⟨l1, k1, h1.kept stays_B hm (fun x hx => hd x (mem_bookF.2 (.inl hx)))⟩, ⟨l2, k2, h2.kept stays_N hm (fun x hx => hd x (mem_bookF.2 (.inr (.inl hx))))⟩, ⟨l3, k3, h3.kept stays_H hm (fun x hx => hd x (mem_bookF.2 (.inr (.inr hx))))⟩, b1, b2, b3⟩, rfl⟩

theorem BookRep.more {B : Nat} {w : World} {k : Bk} {N M : Nat} {F : List Nat} (h : BookRep B w k N F) (hN : N ≤ M) : BookRep B w k M F := by
  obtain ⟨Eb, En, Eh, h, rfl⟩ := h
  obtain ⟨⟨l1, k1, h1⟩, ⟨l2, k2, h2⟩, ⟨l3, k3, h3⟩, b1, b2, b3⟩ := h
  exact ⟨Eb, En, Eh, ⟨⟨l1, k1, h1.more hN⟩, ⟨l2, k2, h2.more hN⟩, ⟨l3, k3, h3.more hN⟩, b1, b2, b3⟩, rfl⟩

def bk0 : Bk := ⟨.slice none 0 0, .slice none 0 0, .slice none 0 0, .slice none 0 0, .slice none 0 0, .slice none 0 0⟩
theorem BookRep.empty (B : Nat) (w : World) (N : Nat) : BookRep B w bk0 N [] :=
  ⟨[], [], [], ⟨⟨[], [], Shelf.empty _ _ _ _ _⟩, ⟨[], [], Shelf.empty _ _ _ _ _⟩, ⟨[], [], Shelf.empty _ _ _ _ _⟩, by simp [sF, bk0, Value.ownBlock], by simp [sF, bk0, Value.ownBlock], by simp [sF, bk0, Value.ownBlock]⟩, rfl⟩

/-- the law's world, as its block holds it: the trees' list, and the book -/
abbrev T34 (lv : Value) (k : Bk) : Obj := .cells #[lv, k.vb, k.ub, k.vn, k.un, k.vh, k.uh] 68 (0, 0)
theorem cell_T34 {w : World} {b : Nat} {lv : Value} {k : Bk} (h : w.heap[b]? = some (T34 lv k)) : w.cell? ⟨b, 0, none⟩ = some lv := by rw [cell_of_block h]; rfl
theorem cell_T34s {w : World} {b : Nat} {lv : Value} {k : Bk} (h : w.heap[b]? = some (T34 lv k)) : w.cell? ⟨b, 1, none⟩ = some k.vb ∧ w.cell? ⟨b, 2, none⟩ = some k.ub ∧ w.cell? ⟨b, 3, none⟩ = some k.vn ∧ w.cell? ⟨b, 4, none⟩ = some k.un ∧ w.cell? ⟨b, 5, none⟩ = some k.vh ∧ w.cell? ⟨b, 6, none⟩ = some k.uh := by
  refine ⟨?_, ?_, ?_, ?_, ?_, ?_⟩ <;> rw [cell_of_block h] <;> rfl
theorem T34_set {w : World} {b : Nat} {lv lv' : Value} {k : Bk} (h : w.heap[b]? = some (T34 lv k)) : (w.setCell ⟨b, 0, none⟩ lv').heap[b]? = some (T34 lv' k) := by
  rw [block_setCell h]; rfl

end Go.Proofs.YthimaoipogocfaaGreat
