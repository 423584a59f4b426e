import Derived.Test.YthimaoipogocfaaGreatJ19
import Derived.Test.YthimaoipogocfaaGreatM07
import Derived.Deep.RegionHeld
import Derived.Test.YthimaoipogocfaaGreatM10
namespace Go.Proofs.YthimaoipogocfaaGreat
open Go.RowKit Go.Maps
attribute [local go_sem] run_store_f32 run_neg_inf

/-! ### lists that came out, as their owner wrote them -/
def signF (k : Int) (i : Nat) : Int := (if i % 2 = 0 then k else k / 256) % 256

set_option maxRecDepth 100000 in
theorem sign_any {k : Int} (hk : 0 ≤ k ∧ k ≤ 1000000000000) {i : Nat} (hi : i ≤ 1000000000000) (w : World) : Calls Tryz.prog 58 #[.int .i64 k, .int .i64 i] w fun e w' => e = .returned (.int .u8 (signF k i)) ∧ w = w' := by
  obtain ⟨k0, k1⟩ := hk
  by_cases h : i % 2 = 0
  · have hq : (((i : Int) % 2) == 0) = true := by simp; omega
    have HE := hideIt (show signF k i = k % 256 by unfold signF; rw [if_pos h])
    clear h
    go_enter Tryz.func58, Tryz.ntmps58
    go_wp2
    go_ret
    exact ⟨by rw [HE.out]; rfl, rfl⟩
  · have hq : (((i : Int) % 2) == 0) = false := by simp; omega
    have HE := hideIt (show signF k i = k / 256 % 256 by unfold signF; rw [if_neg h])
    clear h
    go_enter Tryz.func58, Tryz.ntmps58
    go_wp2
    go_ret
    exact ⟨by rw [HE.out]; rfl, rfl⟩

/-- written full: bytes, numbers, hits -/
def FillB (w : World) (v : Value) (k : Int) : Prop := (0 ≤ k ∧ k ≤ 1000000000000) ∧ ∃ a n c, v = .slice a n c ∧ n ≤ 1000000000 ∧ ∀ j, j < n → ∃ b, a = some ⟨b, 0, none⟩ ∧ w.cell? ⟨b, j, none⟩ = some (.int .u8 (signF k j))
def FillN (w : World) (v : Value) (k : Int) : Prop := ∃ a n c, v = .slice a n c ∧ n ≤ 1000000000 ∧ ∀ j, j < n → ∃ b, a = some ⟨b, 0, none⟩ ∧ w.cell? ⟨b, j, none⟩ = some (.int .i64 k)
def FillH (w : World) (v : Value) (k : Int) : Prop := ∃ a n c, v = .slice a n c ∧ n ≤ 1000000000 ∧ ∀ j, j < n → ∃ b, a = some ⟨b, 0, none⟩ ∧ w.cell? ⟨b, j * 2, none⟩ = some (.int .i64 k) ∧ w.cell? ⟨b, j * 2 + 1, none⟩ = some (.int .i64 k)

/-- what says 'written full' stays as long as the list's block does -/
def Stays (P : World → Value → Int → Prop) : Prop := ∀ w w' v k G, P w v k → Mod G w w' → (∀ x ∈ v.ownBlock.toList, x ∉ G) → P w' v k
theorem own_of {a : Option Addr} {n c b : Nat} (h : a = some ⟨b, 0, none⟩) : b ∈ (Value.slice a n c).ownBlock.toList := by subst h; simp [Value.ownBlock]
theorem cell_stays {w w' : World} {G : List Nat} (hm : Mod G w w') {b o : Nat} {u : Value} (h : w.cell? ⟨b, o, none⟩ = some u) (hb : b ∉ G) : w'.cell? ⟨b, o, none⟩ = some u := (hm.cell (World.block_lt_of_cell? w _ h) hb o).trans h
theorem stays_B : Stays FillB := by
  rintro w w' v k G ⟨h0, a, n, c, rfl, hn, h⟩ hm hd
  refine ⟨h0, a, n, c, rfl, hn, fun j hj => ?_⟩
  obtain ⟨b, hb, hc⟩ := h j hj
  exact ⟨b, hb, cell_stays hm hc (hd b (own_of hb))⟩
theorem stays_N : Stays FillN := by
  rintro w w' v k G ⟨a, n, c, rfl, hn, h⟩ hm hd
  refine ⟨a, n, c, rfl, hn, fun j hj => ?_⟩
  obtain ⟨b, hb, hc⟩ := h j hj
  exact ⟨b, hb, cell_stays hm hc (hd b (own_of hb))⟩
theorem stays_H : Stays FillH := by
  rintro w w' v k G ⟨a, n, c, rfl, hn, h⟩ hm hd
  refine ⟨a, n, c, rfl, hn, fun j hj => ?_⟩
  obtain ⟨b, hb, hc, hc'⟩ := h j hj
  exact ⟨b, hb, cell_stays hm hc (hd b (own_of hb)), cell_stays hm hc' (hd b (own_of hb))⟩

/-- a list of lists (elements of the type e), beside it the marks; the lists' blocks: E; at most N of them -/
structure Shelf (B : Nat) (w : World) (e : TypeId) (P : World → Value → Int → Prop) (v u : Value) (N : Nat) (E : List Nat) (ls : List Value) (ks : List Int) : Prop where
  own : w.ownsRow B e 1 v ls.length ls
  marks : w.ownsRow B 3 1 u ls.length (ints ks)
  len : ks.length = ls.length
  few : ls.length ≤ N
  full : ∀ (i : Nat) (x : Value) (k : Int), ls[i]? = some x → ks[i]? = some k → P w x k ∧ (x.oneCell' = true) ∧ ∀ y ∈ x.ownBlock.toList, y ∈ E
  apart : ∀ y ∈ E, y ∉ v.ownBlock.toList ∧ y ∉ u.ownBlock.toList
  lie : ∀ y ∈ E, B ≤ y ∧ y < w.heap.size
def sF (v u : Value) (E : List Nat) : List Nat := v.ownBlock.toList ++ (u.ownBlock.toList ++ E)
theorem mem_sF {v u : Value} {E : List Nat} {x : Nat} : x ∈ sF v u E ↔ x ∈ v.ownBlock.toList ∨ x ∈ u.ownBlock.toList ∨ x ∈ E := by simp [sF]

theorem Shelf.kept {B : Nat} {w w' : World} {e : TypeId} {P : World → Value → Int → Prop} {v u : Value} {N : Nat} {E G : List Nat} {ls : List Value} {ks : List Int} (hP : Stays P) (h : Shelf B w e P v u N E ls ks) (hm : Mod G w w') (hd : ∀ x ∈ sF v u E, x ∉ G) : Shelf B w' e P v u N E ls ks := by
  refine ⟨owns_kept h.own hm (fun k hk => hd k (mem_sF.2 (.inl (by simp [hk])))), owns_kept h.marks hm (fun k hk => hd k (mem_sF.2 (.inr (.inl (by simp [hk]))))), h.len, h.few, fun i x k hx hk => ?_, h.apart, fun y hy => ⟨(h.lie y hy).1, Nat.lt_of_lt_of_le (h.lie y hy).2 hm.size⟩⟩
  obtain ⟨h1, h2, h3⟩ := h.full i x k hx hk
  exact ⟨hP w w' x k G h1 hm (fun y hy => hd y (mem_sF.2 (.inr (.inr (h3 y hy))))), h2, h3⟩

theorem Shelf.more {B : Nat} {w : World} {e : TypeId} {P : World → Value → Int → Prop} {v u : Value} {N M : Nat} {E : List Nat} {ls : List Value} {ks : List Int} (h : Shelf B w e P v u N E ls ks) (hN : N ≤ M) : Shelf B w e P v u M E ls ks :=
  ⟨h.own, h.marks, h.len, Nat.le_trans h.few hN, h.full, h.apart, h.lie⟩

theorem Shelf.empty (B : Nat) (w : World) (e : TypeId) (P : World → Value → Int → Prop) (N : Nat) : Shelf B w e P (.slice none 0 0) (.slice none 0 0) N [] [] [] :=
  ⟨World.ownsRow_nil _ _ _ _, World.ownsRow_nil _ _ _ _, rfl, Nat.zero_le _, fun i x k h => by simp at h, by simp, by simp⟩

theorem Shelf.bounds {B : Nat} {w : World} {e : TypeId} {P : World → Value → Int → Prop} {v u : Value} {N : Nat} {E : List Nat} {ls : List Value} {ks : List Int} (h : Shelf B w e P v u N E ls ks) : ∀ x ∈ sF v u E, B ≤ x ∧ x < w.heap.size := fun x hx => by
  rcases mem_sF.1 hx with hx | hx | hx
  · exact h.own.lt x (by simpa using hx)
  · exact h.marks.lt x (by simpa using hx)
  · exact h.lie x hx

/-- how it is read -/
theorem Shelf.read {B : Nat} {w : World} {e : TypeId} {P : World → Value → Int → Prop} {v u : Value} {N : Nat} {E : List Nat} {ls : List Value} {ks : List Int} (h : Shelf B w e P v u N E ls ks) :
    ∃ a c a' c', v = .slice a ls.length c ∧ u = .slice a' ls.length c' ∧ ∀ i, i < ls.length → ∃ b b' x k, a = some ⟨b, 0, none⟩ ∧ a' = some ⟨b', 0, none⟩ ∧ w.cell? ⟨b, i, none⟩ = some x ∧ w.cell? ⟨b', i, none⟩ = some (.int .i64 k) ∧ P w x k := by
  have hform : ∀ {e' : TypeId} {v' : Value} {xs : List Value}, w.ownsRow B e' 1 v' ls.length xs → ∃ a c, v' = .slice a ls.length c ∧ (∀ i x, i < ls.length → xs[i]? = some x → ∃ b, a = some ⟨b, 0, none⟩ ∧ w.cell? ⟨b, i, none⟩ = some x) := by
    intro e' v' xs ho
    have ho2 := ho
    rcases ho.2 with ⟨rfl, h0⟩ | ⟨g, c, cur, rfl, _⟩
    · exact ⟨Option.none, 0, by rw [h0], fun i x hi _ => by omega⟩
    · exact ⟨_, _, rfl, fun i x hi hx => ⟨g, rfl, owns_cell ho2 i x hx⟩⟩
  obtain ⟨a, c, hv, ha⟩ := hform h.own
  obtain ⟨a', c', hu, ha'⟩ := hform h.marks
  refine ⟨a, c, a', c', hv, hu, fun i hi => ?_⟩
  have hx : ls[i]? = some ls[i] := List.getElem?_eq_getElem hi
  have hk : ks[i]? = some (ks[i]'(by rw [h.len]; exact hi)) := List.getElem?_eq_getElem (by rw [h.len]; exact hi)
  obtain ⟨b, hb, hc⟩ := ha i _ hi hx
  obtain ⟨b', hb', hc'⟩ := ha' i (.int .i64 (ks[i]'(by rw [h.len]; exact hi))) hi (by simp [ints, hk])
  exact ⟨b, b', _, _, hb, hb', hc, hc', (h.full i _ _ hx hk).1⟩

/-- the book's six values -/
structure Bk where
  vb : Value
  ub : Value
  vn : Value
  un : Value
  vh : Value
  uh : Value

structure BookAt (B : Nat) (w : World) (k : Bk) (N : Nat) (Eb En Eh : List Nat) : Prop where
  b : ∃ ls ks, Shelf B w 56 FillB k.vb k.ub N Eb ls ks
  n : ∃ ls ks, Shelf B w 39 FillN k.vn k.un N En ls ks
  h : ∃ ls ks, Shelf B w 46 FillH k.vh k.uh N Eh ls ks
  bn : ∀ x ∈ sF k.vb k.ub Eb, x ∉ sF k.vn k.un En
  bh : ∀ x ∈ sF k.vb k.ub Eb, x ∉ sF k.vh k.uh Eh
  nh : ∀ x ∈ sF k.vn k.un En, x ∉ sF k.vh k.uh Eh
def bookF (k : Bk) (Eb En Eh : List Nat) : List Nat := sF k.vb k.ub Eb ++ (sF k.vn k.un En ++ sF k.vh k.uh Eh)
theorem mem_bookF {k : Bk} {Eb En Eh : List Nat} {x : Nat} : x ∈ bookF k Eb En Eh ↔ x ∈ sF k.vb k.ub Eb ∨ x ∈ sF k.vn k.un En ∨ x ∈ sF k.vh k.uh Eh := by simp [bookF]
def BookRep (B : Nat) (w : World) (k : Bk) (N : Nat) (F : List Nat) : Prop := ∃ Eb En Eh, BookAt B w k N Eb En Eh ∧ F = bookF k Eb En Eh

theorem BookAt.bounds {B : Nat} {w : World} {k : Bk} {N : Nat} {Eb En Eh : List Nat} (h : BookAt B w k N Eb En Eh) : ∀ x ∈ bookF k Eb En Eh, B ≤ x ∧ x < w.heap.size := fun x hx => by
  obtain ⟨l1, k1, h1⟩ := h.b
  obtain ⟨l2, k2, h2⟩ := h.n
  obtain ⟨l3, k3, h3⟩ := h.h
  rcases mem_bookF.1 hx with hx | hx | hx
  · exact h1.bounds x hx
  · exact h2.bounds x hx
  · exact h3.bounds x hx
theorem BookRep.bounds {B : Nat} {w : World} {k : Bk} {N : Nat} {F : List Nat} (h : BookRep B w k N F) : ∀ x ∈ F, B ≤ x ∧ x < w.heap.size := by
  obtain ⟨Eb, En, Eh, h1, rfl⟩ := h
  exact h1.bounds

theorem BookRep.kept {B : Nat} {w w' : World} {k : Bk} {N : Nat} {F G : List Nat} (h : BookRep B w k N F) (hm : Mod G w w') (hd : ∀ x ∈ F, x ∉ G) : BookRep B w' k N F := by
  obtain ⟨Eb, En, Eh, h, rfl⟩ := h
  obtain ⟨⟨l1, k1, h1⟩, ⟨l2, k2, h2⟩, ⟨l3, k3, h3⟩, b1, b2, b3⟩ := h
  exact ⟨Eb, En, Eh, ⟨⟨l1, k1, h1.kept stays_B hm (fun x hx => hd x (mem_bookF.2 (.inl hx)))⟩, ⟨l2, k2, h2.kept stays_N hm (fun x hx => hd x (mem_bookF.2 (.inr (.inl hx))))⟩, ⟨l3, k3, h3.kept stays_H hm (fun x hx => hd x (mem_bookF.2 (.inr (.inr hx))))⟩, b1, b2, b3⟩, rfl⟩

theorem BookRep.more {B : Nat} {w : World} {k : Bk} {N M : Nat} {F : List Nat} (h : BookRep B w k N F) (hN : N ≤ M) : BookRep B w k M F := by
  obtain ⟨Eb, En, Eh, h, rfl⟩ := h
  obtain ⟨⟨l1, k1, h1⟩, ⟨l2, k2, h2⟩, ⟨l3, k3, h3⟩, b1, b2, b3⟩ := h
  exact ⟨Eb, En, Eh, ⟨⟨l1, k1, h1.more hN⟩, ⟨l2, k2, h2.more hN⟩, ⟨l3, k3, h3.more hN⟩, b1, b2, b3⟩, rfl⟩

def bk0 : Bk := ⟨.slice none 0 0, .slice none 0 0, .slice none 0 0, .slice none 0 0, .slice none 0 0, .slice none 0 0⟩
theorem BookRep.empty (B : Nat) (w : World) (N : Nat) : BookRep B w bk0 N [] :=
  ⟨[], [], [], ⟨⟨[], [], Shelf.empty _ _ _ _ _⟩, ⟨[], [], Shelf.empty _ _ _ _ _⟩, ⟨[], [], Shelf.empty _ _ _ _ _⟩, by simp [sF, bk0, Value.ownBlock], by simp [sF, bk0, Value.ownBlock], by simp [sF, bk0, Value.ownBlock]⟩, rfl⟩

/-- the law's world, as its block holds it: the trees' list, and the book -/
abbrev T34 (lv : Value) (k : Bk) : Obj := .cells #[lv, k.vb, k.ub, k.vn, k.un, k.vh, k.uh] 68 (0, 0)
theorem cell_T34 {w : World} {b : Nat} {lv : Value} {k : Bk} (h : w.heap[b]? = some (T34 lv k)) : w.cell? ⟨b, 0, none⟩ = some lv := by rw [cell_of_block h]; rfl
theorem cell_T34s {w : World} {b : Nat} {lv : Value} {k : Bk} (h : w.heap[b]? = some (T34 lv k)) : w.cell? ⟨b, 1, none⟩ = some k.vb ∧ w.cell? ⟨b, 2, none⟩ = some k.ub ∧ w.cell? ⟨b, 3, none⟩ = some k.vn ∧ w.cell? ⟨b, 4, none⟩ = some k.un ∧ w.cell? ⟨b, 5, none⟩ = some k.vh ∧ w.cell? ⟨b, 6, none⟩ = some k.uh := by
  refine ⟨?_, ?_, ?_, ?_, ?_, ?_⟩ <;> rw [cell_of_block h] <;> rfl
theorem T34_set {w : World} {b : Nat} {lv lv' : Value} {k : Bk} (h : w.heap[b]? = some (T34 lv k)) : (w.setCell ⟨b, 0, none⟩ lv').heap[b]? = some (T34 lv' k) := by
  rw [block_setCell h]; rfl

end Go.Proofs.YthimaoipogocfaaGreat

namespace Go.Proofs.YthimaoipogocfaaGreat
open Go.RowKit Go.Maps
attribute [local go_sem] run_store_f32 run_neg_inf

set_option maxRecDepth 100000 in
set_option maxHeartbeats 4000000 in
theorem kept_any {B : Nat} {w : World} {pw : Nat} {lv : Value} {bk : Bk} {N : Nat} {F : List Nat} (h : w.heap[pw]? = some (T34 lv bk)) (hb : BookRep B w bk N F) (hN : N ≤ 1000000000) :
    Calls Tryz.prog 31 #[.pointer (some ⟨pw, 1, none⟩)] w fun e w' => e = .returned (.bool true) ∧ Mod [] w w' := by
  obtain ⟨Eb, En, Eh, hb, _⟩ := hb
  obtain ⟨⟨l1, k1, h1⟩, ⟨l2, k2, h2⟩, ⟨l3, k3, h3⟩, h4, _, _⟩ := hb
  obtain ⟨c1, c2, c3, c4, c5, c6⟩ := cell_T34s h
  obtain ⟨a1, p1, b1, q1, e1, f1, r1⟩ := h1.read
  obtain ⟨a2, p2, b2, q2, e2, f2, r2⟩ := h2.read
  obtain ⟨a3, p3, b3, q3, e3, f3, r3⟩ := h3.read
  have hn1 : l1.length ≤ 1000000000 := Nat.le_trans h1.few hN
  have hn2 : l2.length ≤ 1000000000 := Nat.le_trans h2.few hN
  have hn3 : l3.length ≤ 1000000000 := Nat.le_trans h3.few hN
  rw [e1] at c1
  rw [f1] at c2
  rw [e2] at c3
  rw [f2] at c4
  rw [e3] at c5
  rw [f3] at c6
  have R1 := hideIt r1
  have R2 := hideIt r2
  have R3 := hideIt r3
  clear r1 r2 r3 h1 h2 h3 h4 h e1 f1 e2 f2 e3 f3 hN
  generalize l1.length = n1 at *
  generalize l2.length = n2 at *
  generalize l3.length = n3 at *
  have C1 := hideIt c1
  have C2 := hideIt c2
  have C3 := hideIt c3
  have C4 := hideIt c4
  have C5 := hideIt c5
  have C6 := hideIt c6
  clear c1 c2 c3 c4 c5 c6
  go_enter Tryz.func31, Tryz.ntmps31
  go_wp2_with fail
  go_loopw [3] (fun i wr => ∃ k : Nat, k ≤ n1 ∧ i = .int .i64 k ∧ Mod [] w wr) (fun i _ => n1 - (intOf i).toNat)
  case atStart => exact ⟨0, by omega, rfl, Mod.refl _ _⟩
  case round =>
    obtain ⟨i, hi, rfl, hm⟩ := hrel
    have HM := hideIt hm
    have c1 := cell_mod hm C1.out
    clear hm
    by_cases hlt : i < n1
    · have hlt' : (i : Int) < (n1 : Int) := by omega
      obtain ⟨g, g', x, k, rfl, rfl, d1, d2, ⟨hk0, a, n, cc, rfl, hn, hfill⟩⟩ := R1.out i hlt
      have D1 := hideIt d1
      have D2 := hideIt d2
      have HFI := hideIt hfill
      have HK := hideIt hk0
      clear d1 d2 hfill hk0
      go_wp2_with fail
      clear c1
      go_loopw [4] (fun j wr => ∃ k : Nat, k ≤ n ∧ j = .int .i64 k ∧ Mod [] w wr) (fun j _ => n - (intOf j).toNat)
      case atStart => exact ⟨0, by omega, rfl, HM.out⟩
      case round =>
        obtain ⟨j, hj, rfl, hm⟩ := hrel
        have HM2 := hideIt hm
        have c1 := cell_mod hm C1.out
        have c2 := cell_mod hm C2.out
        have d1 := cell_mod hm D1.out
        have d2 := cell_mod hm D2.out
        clear hm
        by_cases hltj : j < n
        · have hltj' : (j : Int) < (n : Int) := by omega
          obtain ⟨g2, rfl, d3⟩ := HFI.out j hltj
          have d3 := cell_mod HM2.out d3
          have HSG := hideIt (fun W => sign_any (k := k) HK.out (i := j) (by omega) W)
          generalize signF k j = sg at *
          go_wp2_with fail
          go_region_held (fun w' => w'.cell? ⟨pw, 1, none⟩ = some (.slice (some ⟨g, 0, none⟩) n1 p1) ∧ w'.cell? ⟨pw, 2, none⟩ = some (.slice (some ⟨g', 0, none⟩) n1 q1) ∧ w'.cell? ⟨g, i, none⟩ = some (.slice (some ⟨g2, 0, none⟩) n cc) ∧ w'.cell? ⟨g', i, none⟩ = some (.int .i64 k) ∧ w'.cell? ⟨g2, j, none⟩ = some (.int .u8 sg))
            ((go_keep))
            ((go_at_call 58; refine (HSG.out _).mono ?_; rintro e w' ⟨rfl, rfl⟩))
          all_goals
            have HMD := hideIt (HM2.out.trans (Mod.drew _))
            clear c1 c2 d1 d2 d3
            go_wp2_with fail
            go_roundw
            case rel => exact ⟨j + 1, by omega, by go_num, HMD.out⟩
            case measure => simp [intOf]; omega
        · have hge : ¬ ((j : Int) < (n : Int)) := by omega
          go_wp2_with fail
          go_roundw
          case rel => exact ⟨i + 1, by omega, by go_num, HM2.out⟩
          case measure => simp [intOf]; omega
    · have hge : ¬ ((i : Int) < (n1 : Int)) := by omega
      go_wp2_with fail
      clear c1 R1 C1 C2
      go_loopw [5] (fun i wr => ∃ k : Nat, k ≤ n2 ∧ i = .int .i64 k ∧ Mod [] w wr) (fun i _ => n2 - (intOf i).toNat)
      case atStart => exact ⟨0, by omega, rfl, HM.out⟩
      case round =>
        clear hge hlt hi
        obtain ⟨i, hi, rfl, hm⟩ := hrel
        have HM := hideIt hm
        have c1 := cell_mod hm C3.out
        clear hm
        by_cases hlt : i < n2
        · have hlt' : (i : Int) < (n2 : Int) := by omega
          obtain ⟨g, g', x, k, rfl, rfl, d1, d2, ⟨a, n, cc, rfl, hn, hfill⟩⟩ := R2.out i hlt
          have D1 := hideIt d1
          have D2 := hideIt d2
          have HFI := hideIt hfill
          clear d1 d2 hfill
          go_wp2_with fail
          clear c1
          go_loopw [6] (fun j wr => ∃ k : Nat, k ≤ n ∧ j = .int .i64 k ∧ Mod [] w wr) (fun j _ => n - (intOf j).toNat)
          case atStart => exact ⟨0, by omega, rfl, HM.out⟩
          case round =>
            obtain ⟨j, hj, rfl, hm⟩ := hrel
            have HM2 := hideIt hm
            have c1 := cell_mod hm C3.out
            have c2 := cell_mod hm C4.out
            have d1 := cell_mod hm D1.out
            have d2 := cell_mod hm D2.out
            clear hm
            by_cases hltj : j < n
            · have hltj' : (j : Int) < (n : Int) := by omega
              obtain ⟨g2, rfl, d3⟩ := HFI.out j hltj
              have d3 := cell_mod HM2.out d3
              go_wp2_with fail
              go_region_held (fun w' => w'.cell? ⟨pw, 3, none⟩ = some (.slice (some ⟨g, 0, none⟩) n2 p2) ∧ w'.cell? ⟨pw, 4, none⟩ = some (.slice (some ⟨g', 0, none⟩) n2 q2) ∧ w'.cell? ⟨g, i, none⟩ = some (.slice (some ⟨g2, 0, none⟩) n cc) ∧ w'.cell? ⟨g', i, none⟩ = some (.int .i64 k) ∧ w'.cell? ⟨g2, j, none⟩ = some (.int .i64 k))
                ((go_keep))
                ((fail))
              all_goals
                have HMD := hideIt (HM2.out.trans (Mod.drew _))
                clear c1 c2 d1 d2 d3
                go_wp2_with fail
                go_roundw
                case rel => exact ⟨j + 1, by omega, by go_num, HMD.out⟩
                case measure => simp [intOf]; omega
            · have hge : ¬ ((j : Int) < (n : Int)) := by omega
              go_wp2_with fail
              go_roundw
              case rel => exact ⟨i + 1, by omega, by go_num, HM2.out⟩
              case measure => simp [intOf]; omega
        · have hge : ¬ ((i : Int) < (n2 : Int)) := by omega
          go_wp2_with fail
          clear c1 R2 C3 C4
          go_loopw [7] (fun i wr => ∃ k : Nat, k ≤ n3 ∧ i = .int .i64 k ∧ Mod [] w wr) (fun i _ => n3 - (intOf i).toNat)
          case atStart => exact ⟨0, by omega, rfl, HM.out⟩
          case round =>
            clear hge hlt hi
            obtain ⟨i, hi, rfl, hm⟩ := hrel
            have HM := hideIt hm
            have c1 := cell_mod hm C5.out
            clear hm
            by_cases hlt : i < n3
            · have hlt' : (i : Int) < (n3 : Int) := by omega
              obtain ⟨g, g', x, k, rfl, rfl, d1, d2, ⟨a, n, cc, rfl, hn, hfill⟩⟩ := R3.out i hlt
              have D1 := hideIt d1
              have D2 := hideIt d2
              have HFI := hideIt hfill
              clear d1 d2 hfill
              go_wp2_with fail
              clear c1
              go_loopw [8] (fun j wr => ∃ k : Nat, k ≤ n ∧ j = .int .i64 k ∧ Mod [] w wr) (fun j _ => n - (intOf j).toNat)
              case atStart => exact ⟨0, by omega, rfl, HM.out⟩
              case round =>
                obtain ⟨j, hj, rfl, hm⟩ := hrel
                have HM2 := hideIt hm
                have c1 := cell_mod hm C5.out
                have c2 := cell_mod hm C6.out
                have d1 := cell_mod hm D1.out
                have d2 := cell_mod hm D2.out
                clear hm
                by_cases hltj : j < n
                · have hltj' : (j : Int) < (n : Int) := by omega
                  obtain ⟨g2, rfl, d3, d4⟩ := HFI.out j hltj
                  have d3 := cell_mod HM2.out d3
                  have d4 := cell_mod HM2.out d4
                  go_wp2_with fail
                  go_region_held (fun w' => w'.cell? ⟨pw, 5, none⟩ = some (.slice (some ⟨g, 0, none⟩) n3 p3) ∧ w'.cell? ⟨pw, 6, none⟩ = some (.slice (some ⟨g', 0, none⟩) n3 q3) ∧ w'.cell? ⟨g, i, none⟩ = some (.slice (some ⟨g2, 0, none⟩) n cc) ∧ w'.cell? ⟨g', i, none⟩ = some (.int .i64 k) ∧ w'.cell? ⟨g2, j * 2, none⟩ = some (.int .i64 k) ∧ w'.cell? ⟨g2, j * 2 + 1, none⟩ = some (.int .i64 k))
                    ((go_keep))
                    ((fail))
                  all_goals
                    have HMD := hideIt (HM2.out.trans (Mod.drew _))
                    clear c1 c2 d1 d2 d3 d4
                    go_wp2_with fail
                    go_roundw
                    case rel => exact ⟨j + 1, by omega, by go_num, HMD.out⟩
                    case measure => simp [intOf]; omega
                · have hge : ¬ ((j : Int) < (n : Int)) := by omega
                  go_wp2_with fail
                  go_roundw
                  case rel => exact ⟨i + 1, by omega, by go_num, HM2.out⟩
                  case measure => simp [intOf]; omega
            · have hge : ¬ ((i : Int) < (n3 : Int)) := by omega
              go_wp2
              go_ret
              exact ⟨rfl, HM.out⟩

end Go.Proofs.YthimaoipogocfaaGreat

namespace Go.Proofs.YthimaoipogocfaaGreat
open Go.RowKit Go.Maps
attribute [local go_sem] run_store_f32 run_neg_inf

def psCells (p : PS) : List Value := [.pointer (some ⟨p.px, 0, none⟩), .pointer (some ⟨p.py, 0, none⟩)]
def flatP (ps : List PS) : List Value := ps.flatMap psCells

theorem flatP_length (ps : List PS) : (flatP ps).length = ps.length * 2 := by
  induction ps with
  | nil => rfl
  | cons t L ih => simp only [flatP, List.flatMap_cons, List.length_append, List.length_cons] at ih ⊢; rw [ih]; simp [psCells]; omega

theorem flatP_get (L : List PS) (k : Nat) (t : PS) (h : L[k]? = some t) (j : Nat) (hj : j < 2) : (flatP L)[k * 2 + j]? = (psCells t)[j]? := by
  induction L generalizing k with
  | nil => simp at h
  | cons s L ih =>
    have e : flatP (s :: L) = psCells s ++ flatP L := rfl
    have hl : (psCells s).length = 2 := rfl
    rw [e]
    cases k with
    | zero =>
      simp at h
      subst h
      rw [List.getElem?_append_left (by omega)]
      congr 1
      omega
    | succ k =>
      simp at h
      rw [List.getElem?_append_right (by omega), hl, ← ih k h]
      congr 1
      omega

theorem psCells_one (p : PS) : ∀ u ∈ psCells p, u.oneCell' = true := by
  intro u hu
  simp [psCells] at hu
  rcases hu with rfl | rfl <;> rfl

/-- THE LAW's WORLD IN MEMORY, from block B on: pairs of trees that share nothing; the book, with at most N lists of a kind. -/
def WRep (B : Nat) (w : World) (pw : Nat) (ps : List PS) (N : Nat) : Prop :=
  ∃ lv bk Fb, w.heap[pw]? = some (T34 lv bk) ∧ B ≤ pw ∧ w.ownsRow B 102 2 lv ps.length (flatP ps) ∧ (∀ p ∈ ps, PairRep w p) ∧ (∀ p ∈ ps, ∀ x ∈ p.F, B ≤ x ∧ x ≠ pw ∧ x ∉ lv.ownBlock.toList ∧ x ∉ Fb) ∧
    (∀ (i j : Nat) (p q : PS), ps[i]? = some p → ps[j]? = some q → i ≠ j → ∀ x ∈ p.F, x ∉ q.F) ∧ BookRep B w bk N Fb ∧ ∀ x ∈ Fb, x ≠ pw ∧ x ∉ lv.ownBlock.toList

theorem WRep.kept {B : Nat} {w w' : World} {pw : Nat} {ps : List PS} {N : Nat} (h : WRep B w pw ps N) (hm : Mod [] w w') : WRep B w' pw ps N := by
  obtain ⟨lv, bk, Fb, h1, h2, h3, h4, h5, h6, h7, h8⟩ := h
  exact ⟨lv, bk, Fb, (hm.block pw (lt_of_block h1) (by simp)).trans h1, h2, owns_kept h3 hm (by simp), fun p hp => (h4 p hp).kept hm (by simp), h5, h6, h7.kept hm (by simp), h8⟩

theorem WRep.more {B : Nat} {w : World} {pw : Nat} {ps : List PS} {N M : Nat} (h : WRep B w pw ps N) (hN : N ≤ M) : WRep B w pw ps M := by
  obtain ⟨lv, bk, Fb, h1, h2, h3, h4, h5, h6, h7, h8⟩ := h
  exact ⟨lv, bk, Fb, h1, h2, h3, h4, h5, h6, h7.more hN, h8⟩

theorem lawKept {B : Nat} {w : World} {pw : Nat} {ps : List PS} {N : Nat} (h : WRep B w pw ps N) (hN : N ≤ 1000000000) : Calls Tryz.prog 31 #[.pointer (some ⟨pw, 1, none⟩)] w fun e w' => e = .returned (.bool true) ∧ Mod [] w w' := by
  obtain ⟨lv, bk, Fb, h1, h2, h3, h4, h5, h6, h7, h8⟩ := h
  exact kept_any h1 h7 hN

theorem info52 : (Tryz.prog.info? 102).map (fun i => (i.zero, i.size, i.bytes)) = some (some (.agg #[.pointer none, .pointer none]), 2, 16) := by kernel_rfl

def JoinPost (B pw : Nat) (ps : List PS) (N : Nat) (w : World) (e : Ending) (w' : World) : Prop := e = .returned (.bool true) ∧ WRep B w' pw ps N ∧ Below B w w'

set_option maxRecDepth 100000 in
set_option maxHeartbeats 1000000 in
theorem joined_none {B : Nat} {w : World} {pw : Nat} {ps : List PS} {N : Nat} (h : WRep B w pw ps N) (c : Int) :
    Calls Tryz.prog 51 #[.pointer (some ⟨pw, 0, none⟩), .pointer none, .int .i64 c, .pointer none, .int .i64 c] w (JoinPost B pw ps N w) := by
  go_enter Tryz.func51, Tryz.ntmps51
  go_wp2_with fail
  refine (num_any _ _).mono ?_
  rintro e w3 ⟨rfl, hw⟩
  obtain rfl := hw.symm
  go_wp2
  go_ret
  exact ⟨rfl, h, Below.refl _ _⟩

set_option maxRecDepth 100000 in
set_option maxHeartbeats 1000000 in
theorem joined_some {B : Nat} {w0 w : World} {pw : Nat} {ps : List PS} {N : Nat} (h : WRep B w0 pw ps N) (hm : Mod [] w0 w) (p : PS) (hp : PairRep w p) (hf : ∀ x ∈ p.F, w0.heap.size ≤ x) (hlen : ps.length ≤ 100000000) :
    Calls Tryz.prog 51 #[.pointer (some ⟨pw, 0, none⟩), .pointer (some ⟨p.px, 0, none⟩), .int .i64 0, .pointer (some ⟨p.py, 0, none⟩), .int .i64 0] w (JoinPost B pw (ps ++ [p]) N w) := by
  obtain ⟨i0, hi, hz0, hz1, hz2⟩ := info_partsB info52
  obtain ⟨lv, bk, Fb, h1', h2, h3', h4', h5, h6, h7', h8⟩ := h
  have hold : ∀ q ∈ ps, ∀ x ∈ q.F, x < w0.heap.size := fun q hq x hx => (h4' q hq).lt x hx
  have hlvlt : pw < w0.heap.size := lt_of_block h1'
  have hlv0 : ∀ k ∈ lv.ownBlock.toList, k < w0.heap.size := fun k hk => owns_lt h3' (by simpa using hk)
  have h1 := (hm.block pw hlvlt (by simp)).trans h1'
  have h3 := owns_kept h3' hm (by simp)
  have h4 : ∀ q ∈ ps, PairRep w q := fun q hq => (h4' q hq).kept hm (by simp)
  have h7 := h7'.kept hm (by simp)
  have hfb0 : ∀ x ∈ Fb, x < w0.heap.size := fun x hx => (h7'.bounds x hx).2
  clear h1' h3' h4' h7'
  have hz := hm.size
  have hc0 := cell_T34 h1
  have hm1 : Mod [] w (w.alloc (B52 p.px p.py)) := Mod.alloc _ _
  have h31 := owns_kept h3 hm1 (by simp)
  have hsrc : srcRow (w.alloc (B52 p.px p.py)) 2 (.slice (some ⟨w.heap.size, 0, none⟩) 1 1) 1 (psCells p) :=
    srcRow_of_owns (owns_allocB (w := w) (cur := #[.pointer (some ⟨p.px, 0, none⟩), .pointer (some ⟨p.py, 0, none⟩)]) (e := 102) (n := 1) (size := 2) rfl (by decide) (base := 0) (Nat.zero_le _)) (psCells_one p)
  have HSR := hideIt hsrc
  have HO := hideIt h31
  have hbB : B ≤ (w.alloc (B52 p.px p.py)).heap.size := by simp; omega
  clear hsrc h31
  go_enter Tryz.func51, Tryz.ntmps51
  go_wp2_with fail
  refine (num_any _ _).mono ?_
  rintro e w3 ⟨rfl, hw⟩
  obtain rfl := hw.symm
  go_wp2_with (at_builtin; go_must (refine wpList_append_rows _ rfl _ _ 61 rfl B 102 i0 (.agg #[.pointer none, .pointer none]) 2 16 Tryz.underlying61 hi hz0 hz1 hz2 rfl (by decide) _ ps.length (flatP ps) rfl HO.out _ 1 (psCells p) rfl HSR.out (by omega) (by unfold maxLen; omega) (by omega) hbB ?_))
  intro g c w2 ho2 hm2 hat2
  have hm2' : Mod lv.ownBlock.toList w w2 := (Mod.alloc _ _).trans hm2
  have hpwlv : pw ∉ lv.ownBlock.toList := owns_ne' h3 h1 (by decide)
  have h12 := (hm2'.block pw (lt_of_block h1) hpwlv).trans h1
  have hgpw : g ≠ pw := owns_ne ho2 h12 (by decide)
  have hms : Mod [pw] w2 (w2.setCell ⟨pw, 0, none⟩ (.slice (some ⟨g, 0, none⟩) (ps.length + 1) c)) := Mod.setCell _ _ _ (by simp)
  have hM : Mod (pw :: lv.ownBlock.toList) w (w2.setCell ⟨pw, 0, none⟩ (.slice (some ⟨g, 0, none⟩) (ps.length + 1) c)) :=
    (hm2'.mono (by intro x hx; simp [hx])).trans (hms.mono (by simp))
  have hg1 : g ∈ lv.ownBlock.toList ∨ g = w.heap.size + 1 := by
    rcases hat2 with h | h
    · exact .inl (by simp [h])
    · exact .inr h
  have hpnew : ∀ x ∈ p.F, x < w.heap.size := hp.lt
  have hfin : JoinPost B pw (ps ++ [p]) N w (.returned (.bool true)) (w2.setCell ⟨pw, 0, none⟩ (.slice (some ⟨g, 0, none⟩) (ps.length + 1) c)) := by
    have hnewout : ∀ x ∈ p.F, x ∉ pw :: lv.ownBlock.toList := fun x hx hx' => by
      have := hf x hx
      rcases List.mem_cons.1 hx' with e | e
      · omega
      · have := hlv0 x e; omega
    have holdout : ∀ q ∈ ps, ∀ x ∈ q.F, x ∉ pw :: lv.ownBlock.toList := fun q hq x hx hx' => by
      have := h5 q hq x hx
      rcases List.mem_cons.1 hx' with e | e
      · exact this.2.1 e
      · exact this.2.2.1 e
    refine ⟨rfl, ⟨_, bk, Fb, T34_set h12, h2, ?_, ?_, ?_, ?_, h7.kept hM (fun x hx hx' => ?_), fun x hx => ⟨(h8 x hx).1, ?_⟩⟩, ?_⟩
    · have := owns_kept ho2 hms (by simpa [Value.ownBlock] using hgpw)
      rw [show (ps ++ [p]).length = ps.length + 1 by simp, show flatP (ps ++ [p]) = catL (flatP ps) (psCells p) by simp [flatP, catL]]
      exact this
    · intro q hq
      rcases List.mem_append.1 hq with hq | hq
      · exact (h4 q hq).kept hM (holdout q hq)
      · simp only [List.mem_singleton] at hq
        subst hq
        exact hp.kept hM hnewout
    · intro q hq x hx
      rcases List.mem_append.1 hq with hq | hq
      · have h := h5 q hq x hx
        have h' := hold q hq x hx
        refine ⟨h.1, h.2.1, ?_, h.2.2.2⟩
        simp only [Value.ownBlock, Option.mem_toList, Option.some.injEq]
        rintro rfl
        rcases hg1 with e | e
        · exact h.2.2.1 e
        · omega
      · simp only [List.mem_singleton] at hq
        subst hq
        have h := hf x hx
        have h' := hpnew x hx
        refine ⟨by omega, by omega, ?_, fun hx' => by have := hfb0 x hx'; omega⟩
        simp only [Value.ownBlock, Option.mem_toList, Option.some.injEq]
        rintro rfl
        rcases hg1 with e | e
        · have := hlv0 _ e; omega
        · omega
    · intro i j a b hia hjb hij x hx hx'
      have hcase : ∀ (i : Nat) (a : PS), (ps ++ [p])[i]? = some a → (i < ps.length ∧ ps[i]? = some a) ∨ (i = ps.length ∧ a = p) := fun i a h => by
        by_cases hi : i < ps.length
        · rw [List.getElem?_append_left hi] at h
          exact .inl ⟨hi, h⟩
        · rw [List.getElem?_append_right (by omega)] at h
          have h0 : i - ps.length = 0 := by
            have := (List.getElem?_eq_some_iff.1 h).1
            simp at this
            omega
          rw [h0] at h
          simp at h
          exact .inr ⟨by omega, h.symm⟩
      rcases hcase i a hia with ⟨hi, ha⟩ | ⟨hi, rfl⟩
      · rcases hcase j b hjb with ⟨hj, hb⟩ | ⟨hj, rfl⟩
        · exact h6 i j a b ha hb hij x hx hx'
        · have h1 := hold a (List.mem_of_getElem? ha) x hx
          have h2 := hf x hx'
          omega
      · rcases hcase j b hjb with ⟨hj, hb⟩ | ⟨hj, rfl⟩
        · have h1 := hold b (List.mem_of_getElem? hb) x hx'
          have h2 := hf x hx
          omega
        · omega
    · have h := h8 x hx
      rcases List.mem_cons.1 hx' with e | e
      · exact h.1 e
      · exact h.2 e
    · have h := h8 x hx
      have h' := hfb0 x hx
      simp only [Value.ownBlock, Option.mem_toList, Option.some.injEq]
      rintro rfl
      rcases hg1 with e | e
      · exact h.2 e
      · omega
    · refine hM.below_of (by omega) (fun x hx => ?_)
      rcases List.mem_cons.1 hx with e | e
      · omega
      · exact (h3.lt x (by simpa using e)).1
  have HFIN := hideIt hfin
  have hc2 := cell_T34 h12
  have hf2 := frozen_of_block h12 0
  clear hfin hM hms hm2 hm2' ho2 HO HSR h1 h3 h4 h5 h6 h7 h8 hfb0 hc0 h12 hp hold hat2 hm hm1
  go_wp2
  go_ret
  exact HFIN.out

end Go.Proofs.YthimaoipogocfaaGreat

