import Derived.Test.YthimaoipogocfaaGreatJ06
namespace Go.Proofs.YthimaoipogocfaaGreat
open Go.RowKit

/-! ### things and nodes in memory -/
structure Tg where
  blk : Nat
  id : Int
  x0 : Int
  y0 : Int
  x1 : Int
  y1 : Int

def Tg.bx (t : Tg) : Bx := Bx.of t.x0 t.y0 t.x1 t.y1
def tgO (t : Tg) : Obj := bxC t.bx [.int .i64 t.id, .int .i64 t.x0, .int .i64 t.y0, .int .i64 t.x1, .int .i64 t.y1] 130
structure TgAt (w : World) (t : Tg) : Prop where
  here : w.heap[t.blk]? = some (tgO t)
  rect : RectOk t.x0 t.y0 t.x1 t.y1

/-- a node: where it is, its box, the things below it, the blocks that are its own, how many it holds -/
structure Kd where
  p : Nat
  bx : Bx
  ts : List Tg
  F : List Nat
  n : Nat

structure KdOk (k : Kd) : Prop where
  nodup : k.F.Nodup
  num : k.bx.Num
  cover : ∀ t ∈ k.ts, t.bx.In k.bx
  ok : k.ts ≠ [] → k.bx.Ok
  none : k.ts = [] → k.bx = Bx.none

def tblks (ts : List Tg) : List Nat := ts.map (·.blk)
def kblks (ks : List Kd) : List Nat := ks.map (·.p)
def kts (ks : List Kd) : List Tg := ks.flatMap (·.ts)
def kF (ks : List Kd) : List Nat := ks.flatMap (·.F)

abbrev ndO (b : Bx) (tv bv : Value) : Obj := bxC b [tv, bv] 126

structure LeafAt (w : World) (k : Kd) (tv : Value) : Prop where
  here : w.heap[k.p]? = some (ndO k.bx tv (.slice none 0 0))
  row : w.ownsRow 0 113 1 tv k.n (ptrs (tblks k.ts))
  len : k.ts.length = k.n
  things : ∀ t ∈ k.ts, TgAt w t
  foot : k.F = k.p :: (tv.ownBlock.toList ++ tblks k.ts)
  ok : KdOk k

structure InnerAt (w : World) (k : Kd) (bv : Value) (ks : List Kd) : Prop where
  here : w.heap[k.p]? = some (ndO k.bx (.slice none 0 0) bv)
  row : w.ownsRow 0 115 1 bv k.n (ptrs (kblks ks))
  len : ks.length = k.n
  things : k.ts = kts ks
  foot : k.F = k.p :: (bv.ownBlock.toList ++ kF ks)
  ok : KdOk k

def NodeAt (w : World) (fan lo : Nat) : Nat → Kd → Prop
  | 0, k => ∃ tv, LeafAt w k tv
  | h + 1, k => ∃ bv ks, InnerAt w k bv ks ∧ ∀ c ∈ ks, NodeAt w fan lo h c ∧ lo ≤ c.n ∧ c.n ≤ fan

theorem NodeAt.ok {w : World} {fan lo : Nat} : ∀ {h : Nat} {k : Kd}, NodeAt w fan lo h k → KdOk k
  | 0, _, ⟨_, hl⟩ => hl.ok
  | _ + 1, _, ⟨_, _, hi, _⟩ => hi.ok

theorem TgAt.kept {w w' : World} {t : Tg} {G : List Nat} (h : TgAt w t) (hm : Mod G w w') (hf : t.blk ∉ G) : TgAt w' t := ⟨(hm.block _ (lt_of_block h.here) hf).trans h.here, h.rect⟩

theorem ownBlock_mem {v : Value} {k : Nat} (h : v.ownBlock = some k) : k ∈ v.ownBlock.toList := by rw [h]; simp

theorem LeafAt.kept {w w' : World} {k : Kd} {tv : Value} {G : List Nat} (h : LeafAt w k tv) (hm : Mod G w w') (hf : ∀ x ∈ k.F, x ∉ G) : LeafAt w' k tv := by
  have hF := h.foot
  refine ⟨(hm.block _ (lt_of_block h.here) (hf _ (by rw [hF]; simp))).trans h.here, owns_kept h.row hm (fun x hx => hf x (by rw [hF]; simp [hx])), h.len, fun t ht => (h.things t ht).kept hm (hf _ ?_), h.foot, h.ok⟩
  rw [hF]
  exact List.mem_cons_of_mem _ (List.mem_append_right _ (List.mem_map.2 ⟨t, ht, rfl⟩))

theorem InnerAt.kept {w w' : World} {k : Kd} {bv : Value} {ks : List Kd} {G : List Nat} (h : InnerAt w k bv ks) (hm : Mod G w w') (hf : ∀ x ∈ k.F, x ∉ G) : InnerAt w' k bv ks := by
  have hF := h.foot
  exact ⟨(hm.block _ (lt_of_block h.here) (hf _ (by rw [hF]; simp))).trans h.here, owns_kept h.row hm (fun x hx => hf x (by rw [hF]; simp [hx])), h.len, h.things, h.foot, h.ok⟩

theorem InnerAt.kid_F {w : World} {k : Kd} {bv : Value} {ks : List Kd} (h : InnerAt w k bv ks) {c : Kd} (hc : c ∈ ks) : ∀ x ∈ c.F, x ∈ k.F := fun x hx => by
  rw [h.foot]
  exact List.mem_cons_of_mem _ (List.mem_append_right _ (List.mem_flatMap.2 ⟨c, hc, hx⟩))

theorem NodeAt.kept {w w' : World} {fan lo : Nat} {G : List Nat} (hm : Mod G w w') : ∀ {h : Nat} {k : Kd}, NodeAt w fan lo h k → (∀ x ∈ k.F, x ∉ G) → NodeAt w' fan lo h k
  | 0, _, ⟨tv, hl⟩, hf => ⟨tv, hl.kept hm hf⟩
  | _ + 1, _, ⟨bv, ks, hi, hk⟩, hf => ⟨bv, ks, hi.kept hm hf, fun c hc => ⟨NodeAt.kept hm (hk c hc).1 (fun x hx => hf x (hi.kid_F hc x hx)), (hk c hc).2⟩⟩

theorem NodeAt.lt {w : World} {fan lo : Nat} : ∀ {h : Nat} {k : Kd}, NodeAt w fan lo h k → ∀ x ∈ k.F, x < w.heap.size
  | 0, _, ⟨_, hl⟩, x, hx => by
    rw [hl.foot] at hx
    rcases List.mem_cons.1 hx with rfl | hx
    · exact lt_of_block hl.here
    rcases List.mem_append.1 hx with hx | hx
    · exact owns_lt hl.row (by simpa using hx)
    · obtain ⟨t, ht, rfl⟩ := List.mem_map.1 hx
      exact lt_of_block (hl.things t ht).here
  | _ + 1, _, ⟨_, _, hi, hk⟩, x, hx => by
    rw [hi.foot] at hx
    rcases List.mem_cons.1 hx with rfl | hx
    · exact lt_of_block hi.here
    rcases List.mem_append.1 hx with hx | hx
    · exact owns_lt hi.row (by simpa using hx)
    · obtain ⟨c, hc, hx⟩ := List.mem_flatMap.1 hx
      exact NodeAt.lt (hk c hc).1 x hx

theorem NodeAt.p_mem {w : World} {fan lo : Nat} : ∀ {h : Nat} {k : Kd}, NodeAt w fan lo h k → k.p ∈ k.F
  | 0, _, ⟨_, hl⟩ => by rw [hl.foot]; simp
  | _ + 1, _, ⟨_, _, hi, _⟩ => by rw [hi.foot]; simp

theorem NodeAt.hasBx {w : World} {fan lo : Nat} : ∀ {h : Nat} {k : Kd}, NodeAt w fan lo h k → HasBx w k.p 126 k.bx
  | 0, _, ⟨_, hl⟩ => ⟨_, hl.here⟩
  | _ + 1, _, ⟨_, _, hi, _⟩ => ⟨_, hi.here⟩

theorem NodeAt.thing {w : World} {fan lo : Nat} : ∀ {h : Nat} {k : Kd}, NodeAt w fan lo h k → ∀ t ∈ k.ts, TgAt w t ∧ t.blk ∈ k.F
  | 0, _, ⟨_, hl⟩, t, ht => ⟨hl.things t ht, by rw [hl.foot]; exact List.mem_cons_of_mem _ (List.mem_append_right _ (List.mem_map.2 ⟨t, ht, rfl⟩))⟩
  | _ + 1, _, ⟨_, _, hi, hk⟩, t, ht => by
    rw [hi.things] at ht
    obtain ⟨c, hc, ht⟩ := List.mem_flatMap.1 ht
    obtain ⟨h1, h2⟩ := NodeAt.thing (hk c hc).1 t ht
    exact ⟨h1, hi.kid_F hc _ h2⟩

/-! ### how many things there are, by the height -/
theorem NodeAt.size {w : World} {fan lo : Nat} : ∀ {h : Nat} {k : Kd}, NodeAt w fan lo h k → k.n * lo ^ h ≤ k.ts.length ∧ k.ts.length ≤ k.n * fan ^ h
  | 0, _, ⟨_, hl⟩ => by rw [hl.len]; simp
  | h + 1, k, ⟨_, ks, hi, hk⟩ => by
    rw [hi.things, ← hi.len]
    clear hi
    induction ks with
    | nil => simp [kts]
    | cons c ks ih =>
      have ih := ih (fun d hd => hk d (by simp [hd]))
      obtain ⟨h1, h2, h3⟩ := hk c (by simp)
      obtain ⟨s1, s2⟩ := NodeAt.size h1
      simp only [kts, List.flatMap_cons, List.length_append, List.length_cons] at ih ⊢
      rw [Nat.add_mul, Nat.add_mul, Nat.one_mul, Nat.one_mul]
      have a1 : lo ^ (h + 1) ≤ c.n * lo ^ h := by rw [Nat.pow_succ, Nat.mul_comm]; exact Nat.mul_le_mul_right _ h2
      have a2 : c.n * fan ^ h ≤ fan ^ (h + 1) := by rw [Nat.pow_succ, Nat.mul_comm (fan ^ h)]; exact Nat.mul_le_mul_right _ h3
      omega

end Go.Proofs.YthimaoipogocfaaGreat

namespace Go.Proofs.YthimaoipogocfaaGreat
open Go.RowKit
attribute [local go_sem] run_store_f32 run_neg_inf

def leastF (fan : Nat) : Nat := max 2 (2 * fan / 5)

theorem least_any (fan : Nat) (h : fan ≤ 16) (w : World) : Calls Tryz.prog 132 #[.int .i64 fan] w (IntEq (leastF fan) w) := by
  go_enter Tryz.func132, Tryz.ntmps132
  go_wp2
  all_goals
    go_ret
    refine ⟨ret_int ?_, rfl⟩
    simp only [leastF]
    omega

/-- a row that a node owns, as a value -/
def OwnV (v : Value) (n : Nat) : Prop := (v = .slice none 0 0 ∧ n = 0) ∨ ∃ g c, v = .slice (some ⟨g, 0, none⟩) n c
theorem ownV {w : World} {base : Nat} {T : TypeId} {v : Value} {n : Nat} {xs : List Value} (h : w.ownsRow base T 1 v n xs) : OwnV v n := by
  rcases h.2 with h | ⟨g, c, _, h, _⟩
  · exact .inl h
  · exact .inr ⟨g, c, h⟩

theorem cell_ndO {w : World} {p : Nat} {b : Bx} {tv bv : Value} (h : w.heap[p]? = some (ndO b tv bv)) : w.cell? ⟨p, 4, none⟩ = some tv ∧ w.cell? ⟨p, 5, none⟩ = some bv := by
  constructor <;> rw [cell_of_block h] <;> rfl

set_option maxRecDepth 100000 in
theorem isLeaf_nil {w : World} {p : Nat} {b : Bx} {tv : Value} (h : w.heap[p]? = some (ndO b tv (.slice none 0 0))) :
    Calls Tryz.prog 105 #[.pointer (some ⟨p, 0, none⟩)] w fun e w' => e = .returned (.bool true) ∧ w = w' := by
  obtain ⟨c4, c5⟩ := cell_ndO h
  clear h
  go_enter Tryz.func105, Tryz.ntmps105
  go_wp2
  go_ret
  exact ⟨rfl, rfl⟩

set_option maxRecDepth 100000 in
theorem isLeaf_some {w : World} {p : Nat} {b : Bx} {tv : Value} {g n c : Nat} (h : w.heap[p]? = some (ndO b tv (.slice (some ⟨g, 0, none⟩) n c))) (hn : 0 < n) :
    Calls Tryz.prog 105 #[.pointer (some ⟨p, 0, none⟩)] w fun e w' => e = .returned (.bool false) ∧ w = w' := by
  obtain ⟨c4, c5⟩ := cell_ndO h
  have hne : ((n : Int) == 0) = false := by simp; omega
  clear h
  go_enter Tryz.func105, Tryz.ntmps105
  go_wp2
  go_ret
  exact ⟨rfl, rfl⟩

def CountPost (n : Nat) (w : World) (e : Ending) (w' : World) : Prop := e = .returned (.int .i64 n) ∧ Mod [] w w'

set_option maxRecDepth 100000 in
theorem count_any {w : World} {p : Nat} {b : Bx} {tv bv : Value} {n m : Nat} (h : w.heap[p]? = some (ndO b tv bv)) (ht : OwnV tv n) (hb : OwnV bv m) (hn : n + m ≤ 1000) :
    Calls Tryz.prog 131 #[.pointer (some ⟨p, 0, none⟩)] w (CountPost (n + m) w) := by
  obtain ⟨c4, c5⟩ := cell_ndO h
  clear h
  rcases ht with ⟨rfl, rfl⟩ | ⟨g, c, rfl⟩ <;> rcases hb with ⟨rfl, rfl⟩ | ⟨g', c', rfl⟩
  all_goals
    go_enter Tryz.func131, Tryz.ntmps131
    go_wp2_with fail
    go_quiet (fail)
    go_wp2
    go_ret
    exact ⟨by first | rfl | (simp; done) | (refine ret_int ?_; omega), Mod.drewN _ _⟩

end Go.Proofs.YthimaoipogocfaaGreat

namespace Go.Proofs.YthimaoipogocfaaGreat
open Go.RowKit
attribute [local go_sem] run_store_f32 run_neg_inf

theorem Bx.grow_in {a b c : Bx} (h : a.In b) : a.In (b.grow c) := h.trans (Bx.in_grow b c)
theorem Bx.grow_in' {a b c : Bx} (h : a.In c) : a.In (b.grow c) := h.trans (Bx.in_grow' b c)

theorem none_none : Bx.none.grow Bx.none = Bx.none := by
  unfold Bx.grow Bx.none
  have h1 : minW infW infW = infW := by decide
  have h2 : maxW ninfW ninfW = ninfW := by decide
  simp only [h1, h2]

/-- the box of a node is new; all else is as it was -/
def FitPost (p : Nat) (tv bv : Value) (bs : List Bx) (w : World) (e : Ending) (w' : World) : Prop :=
  ∃ b, e = .returned (.tuple #[]) ∧ Mod [p] w w' ∧ w'.heap[p]? = some (ndO b tv bv) ∧ b.Num ∧ (∀ x ∈ bs, x.In b) ∧ (bs ≠ [] → b.Ok) ∧ (bs = [] → b = Bx.none)

theorem bxC_set4 {w : World} {p : Nat} {b : Bx} {rest : List Value} {T : TypeId} (h : w.heap[p]? = some (bxC b rest T)) (c : Bx) :
    ((((w.setCell ⟨p, 0, none⟩ (.float .f32 c.x0)).setCell ⟨p, 1, none⟩ (.float .f32 c.y0)).setCell ⟨p, 2, none⟩ (.float .f32 c.x1)).setCell ⟨p, 3, none⟩ (.float .f32 c.y1)).heap[p]? = some (bxC c rest T) := by
  have h0 := block_setCell h 0 (.float .f32 c.x0)
  have h1 := block_setCell h0 1 (.float .f32 c.y0)
  have h2 := block_setCell h1 2 (.float .f32 c.x1)
  have h3 := block_setCell h2 3 (.float .f32 c.y1)
  exact h3.trans (by simp)
theorem mod_set4 (w : World) (p : Nat) (u0 u1 u2 u3 : Value) : Mod [p] w ((((w.setCell ⟨p, 0, none⟩ u0).setCell ⟨p, 1, none⟩ u1).setCell ⟨p, 2, none⟩ u2).setCell ⟨p, 3, none⟩ u3) :=
  (((Mod.setCell _ _ _ (by simp)).trans (Mod.setCell _ _ _ (by simp))).trans (Mod.setCell _ _ _ (by simp))).trans (Mod.setCell _ _ _ (by simp))

def FitEq (p : Nat) (b : Bx) (tv bv : Value) (w : World) (e : Ending) (w' : World) : Prop := e = .returned (.tuple #[]) ∧ Mod [p] w w' ∧ w'.heap[p]? = some (ndO b tv bv)

set_option maxRecDepth 100000 in
set_option maxHeartbeats 1000000 in
theorem fit_any {w : World} {p : Nat} {b : Bx} {tv bv : Value} {b1 b2 : Bx} (h : w.heap[p]? = some (ndO b tv bv))
    (ht : ∀ W, Mod [] w W → Calls Tryz.prog 108 #[tv] W (BoxPost b1 W)) (hb : ∀ W, Mod [p] w W → Calls Tryz.prog 109 #[bv] W (BoxPost b2 W)) (n1 : b1.Num) (n2 : b2.Num) :
    Calls Tryz.prog 67 #[.pointer (some ⟨p, 0, none⟩)] w (FitEq p (b1.grow b2) tv bv w) := by
  obtain ⟨c4, c5⟩ := cell_ndO h
  have H := hideIt h
  have HT := hideIt ht
  have HB := hideIt hb
  clear h ht hb
  go_enter Tryz.func67, Tryz.ntmps67
  go_wp2_with fail
  refine (HT.out w (Mod.refl _ _)).mono ?_
  rintro e w1 ⟨rfl, hm1⟩
  have h1 := (hm1.block p (lt_of_block H.out) (by simp)).trans H.out
  obtain ⟨d0, d1, d2, d3⟩ := cell_bxC h1
  have f := frozen_of_block h1
  have f0 := f 0
  have f1 := f 1
  have f2 := f 2
  have f3 := f 3
  have h2 := bxC_set4 h1 b1
  have hm2 : Mod [p] w ((((w1.setCell ⟨p, 0, none⟩ (.float .f32 b1.x0)).setCell ⟨p, 1, none⟩ (.float .f32 b1.y0)).setCell ⟨p, 2, none⟩ (.float .f32 b1.x1)).setCell ⟨p, 3, none⟩ (.float .f32 b1.y1)) := hm1.nil.trans (mod_set4 _ _ _ _ _ _)
  have H2 := hideIt h2
  have HM2 := hideIt hm2
  clear f h1 h2 hm1 hm2 c4 c5 HT H
  go_wp2_with fail
  clear d0 d1 d2 d3 f0 f1 f2 f3
  generalize ((((w1.setCell ⟨p, 0, none⟩ (.float .f32 b1.x0)).setCell ⟨p, 1, none⟩ (.float .f32 b1.y0)).setCell ⟨p, 2, none⟩ (.float .f32 b1.x1)).setCell ⟨p, 3, none⟩ (.float .f32 b1.y1)) = w2 at *
  obtain ⟨c4, c5⟩ := cell_ndO H2.out
  go_region_held (fun w' => w'.cell? ⟨p, 5, none⟩ = some bv ∧ Mod [p] w w')
    ((first
      | exact ⟨(cell_ndO hg).2, Mod.trans (by simp only [*]) hmg⟩
      | exact ⟨cell_mod (Mod.drew _) (by simp only [*]), HM2.out.trans (Mod.drew _)⟩
      | exact ⟨cell_mod hm (by simp only [*]), Mod.trans (by simp only [*]) hm.nil⟩))
    ((first
      | (go_at_call 109; refine (HB.out _ (by simp only [*])).mono ?_; rintro e w' ⟨rfl, hm⟩)
      | (go_at_call 104; refine (grow_any (b := b1) (o := b2) (rest := [tv, bv]) (T := 126) ((hm.block p (lt_of_block H2.out) (by simp)).trans H2.out) n1 n2).mono ?_; rintro e w'' ⟨rfl, hmg, hg⟩)))
  rename_i hheld
  have hfin := hheld.2
  have HF := hideIt (And.intro hfin hg)
  clear hheld hfin hg hmg hm c4 c5
  go_wp2
  exact bodyPost_ret (v := .tuple #[]) (by simp [results, Tryz.results67, go_sem]) rfl ⟨rfl, HF.out.1, HF.out.2⟩

/-- of a leaf -/
theorem fit_leaf {w : World} {p : Nat} {b : Bx} {tv : Value} {ts : List Tg} (h : w.heap[p]? = some (ndO b tv (.slice none 0 0))) (hr : w.ownsRow 0 113 1 tv ts.length (ptrs (tblks ts))) (hT : ∀ t ∈ ts, TgAt w t) (hn : ts.length ≤ 1000) :
    Calls Tryz.prog 67 #[.pointer (some ⟨p, 0, none⟩)] w (FitPost p tv (.slice none 0 0) (ts.map Tg.bx) w) := by
  have hok : ∀ x ∈ ts.map Tg.bx, x.Ok := fun x hx => by
    obtain ⟨t, ht, rfl⟩ := List.mem_map.1 hx
    exact Bx.of_ok (hT t ht).rect
  have hnum : (around (ts.map Tg.bx)).Num := around_num fun x hx => (hok x hx).num
  refine (fit_any (b1 := around (ts.map Tg.bx)) (b2 := Bx.none) h (fun W hW => ?_) (fun W _ => aroundN_nil W) hnum Bx.none_num).mono ?_
  · rcases ownV hr with ⟨rfl, h0⟩ | ⟨g, c, rfl⟩
    · have : ts = [] := List.eq_nil_of_length_eq_zero h0
      subst this
      exact aroundT_nil W
    · obtain ⟨rest, hro, _, _, _, _, _⟩ := owns_rowT hr
      have := aroundT_some (w := W) (blk := g) (off := 0) (m := ts.length) (c := c) (l := ts.map fun t => (t.blk, t.bx)) ⟨fun j x hx => by
        simp only [List.getElem?_map, Option.map_eq_some_iff] at hx
        obtain ⟨t, ht, rfl⟩ := hx
        rw [Nat.zero_add]
        exact cell_mod hW (rowO_get hro (by simp [tblks, ht])), fun x hx => by
        obtain ⟨t, ht, rfl⟩ := List.mem_map.1 hx
        exact ⟨HasBx.kept ⟨_, (hT t ht).here⟩ hW (by simp), (Bx.of_ok (hT t ht).rect).num⟩⟩ (by simp) hn
      rw [List.map_map] at this
      exact this
  · rintro e w' ⟨rfl, hm, hh⟩
    refine ⟨_, rfl, hm, hh, Bx.grow_num hnum Bx.none_num, fun x hx => Bx.grow_in (around_in hx), fun hne => ?_, fun he => ?_⟩
    · have := around_ok hne hok
      rw [Bx.grow_none this]
      exact this
    · rw [he]
      exact none_none

/-- of a node that is none -/
theorem fit_inner {w : World} {p : Nat} {b : Bx} {bv : Value} {ks : List Kd} (h : w.heap[p]? = some (ndO b (.slice none 0 0) bv)) (hr : w.ownsRow 0 115 1 bv ks.length (ptrs (kblks ks))) (hK : ∀ c ∈ ks, HasBx w c.p 126 c.bx ∧ c.bx.Ok ∧ c.p ≠ p) (hg : ∀ g, bv.ownBlock = some g → g ≠ p) (hn : ks.length ≤ 1000) :
    Calls Tryz.prog 67 #[.pointer (some ⟨p, 0, none⟩)] w (FitPost p (.slice none 0 0) bv (ks.map Kd.bx) w) := by
  have hok : ∀ x ∈ ks.map Kd.bx, x.Ok := fun x hx => by
    obtain ⟨t, ht, rfl⟩ := List.mem_map.1 hx
    exact (hK t ht).2.1
  have hnum : (around (ks.map Kd.bx)).Num := around_num fun x hx => (hok x hx).num
  refine (fit_any (b1 := Bx.none) (b2 := around (ks.map Kd.bx)) h (fun W _ => aroundT_nil W) (fun W hW => ?_) Bx.none_num hnum).mono ?_
  · rcases ownV hr with ⟨rfl, h0⟩ | ⟨g, c, rfl⟩
    · have : ks = [] := List.eq_nil_of_length_eq_zero h0
      subst this
      exact aroundN_nil W
    · obtain ⟨rest, hro, _, _, _, _, _⟩ := owns_rowT hr
      have hro' := (hW.block g (lt_of_block hro) (by simpa using hg g rfl)).trans hro
      have := aroundN_some (w := W) (blk := g) (off := 0) (m := ks.length) (c := c) (l := ks.map fun t => (t.p, t.bx)) ⟨fun j x hx => by
        simp only [List.getElem?_map, Option.map_eq_some_iff] at hx
        obtain ⟨t, ht, rfl⟩ := hx
        rw [Nat.zero_add]
        exact rowO_get hro' (by simp [kblks, ht]), fun x hx => by
        obtain ⟨t, ht, rfl⟩ := List.mem_map.1 hx
        exact ⟨(hK t ht).1.kept hW (by simpa using (hK t ht).2.2), (hK t ht).2.1.num⟩⟩ (by simp) hn
      rw [List.map_map] at this
      exact this
  · rintro e w' ⟨rfl, hm, hh⟩
    refine ⟨_, rfl, hm, hh, Bx.grow_num Bx.none_num hnum, fun x hx => Bx.grow_in' (around_in hx), fun hne => ?_, fun he => ?_⟩
    · have := around_ok hne hok
      rw [Bx.none_grow this]
      exact this
    · rw [he]
      exact none_none

end Go.Proofs.YthimaoipogocfaaGreat

namespace Go.Proofs.YthimaoipogocfaaGreat
open Go.RowKit

/-- what the node can't hold has gone to a new one -/
def SplitPost (fan lo h : Nat) (k : Kd) (w : World) (e : Ending) (w' : World) : Prop :=
  ∃ k1 k2, e = .returned (.pointer (some ⟨k2.p, 0, none⟩)) ∧ NodeAt w' fan lo h k1 ∧ NodeAt w' fan lo h k2 ∧ k1.p = k.p ∧ (k1.ts ++ k2.ts).Perm k.ts ∧ lo ≤ k1.n ∧ lo ≤ k2.n ∧ k1.n + k2.n = k.n ∧ (k1.F ++ k2.F).Nodup ∧ (∀ x ∈ k1.F ++ k2.F, x ∈ k.F ∨ w.heap.size ≤ x) ∧ Mod [k.p] w w'
def CutPost2 (fan lo h : Nat) (k : Kd) (w : World) (e : Ending) (w' : World) : Prop :=
  (k.n ≤ fan ∧ e = .returned (.pointer none) ∧ Mod [] w w') ∨ (fan < k.n ∧ SplitPost fan lo h k w e w')

/-- pick the things back that stand at these blocks -/
theorem pick_things : ∀ (l : List Nat) (ts : List Tg), l.Perm (tblks ts) → ∃ us : List Tg, us.Perm ts ∧ tblks us = l := by
  intro l
  induction l with
  | nil =>
    intro ts h
    have : ts = [] := by simpa [tblks] using h.symm.eq_nil
    subst this
    exact ⟨[], .refl _, rfl⟩
  | cons b l ih =>
    intro ts h
    have hb : b ∈ tblks ts := h.mem_iff.1 (by simp)
    obtain ⟨t, ht, rfl⟩ := List.mem_map.1 hb
    obtain ⟨s, r, rfl⟩ := List.append_of_mem ht
    have hp : (s ++ t :: r).Perm (t :: (s ++ r)) := List.perm_middle
    have h2 : (t.blk :: l).Perm (t.blk :: tblks (s ++ r)) := h.trans (hp.map _)
    obtain ⟨us, hu, hul⟩ := ih (s ++ r) (List.Perm.cons_inv h2)
    exact ⟨t :: us, (hu.cons t).trans hp.symm, by simp [tblks] at hul ⊢; exact hul⟩

def bxAt (ts : List Tg) (b : Nat) : Bx := match ts.find? (fun t => t.blk == b) with | some t => t.bx | none => Bx.none
theorem bxAt_spec {ts : List Tg} {b : Nat} (h : b ∈ tblks ts) : ∃ t ∈ ts, t.blk = b ∧ bxAt ts b = t.bx := by
  obtain ⟨s, hs, rfl⟩ := List.mem_map.1 h
  unfold bxAt
  cases hf : ts.find? (fun t => t.blk == s.blk) with
  | none =>
    have := List.find?_eq_none.1 hf s hs
    simp at this
  | some t =>
    refine ⟨t, List.mem_of_find?_eq_some hf, ?_, rfl⟩
    simpa using List.find?_some hf

theorem bxAt_row {w : World} {ts : List Tg} (h : ∀ t ∈ ts, TgAt w t) : ∀ p ∈ tblks ts, HasBx w p 130 (bxAt ts p) ∧ (bxAt ts p).Ok := fun p hp => by
  obtain ⟨t, ht, rfl, e⟩ := bxAt_spec hp
  rw [e]
  exact ⟨⟨_, (h t ht).here⟩, Bx.of_ok (h t ht).rect⟩

theorem frozen_mod {w w' : World} (hm : Mod [] w w') {b o : Nat} {v : Value} (hc : w.cell? ⟨b, o, none⟩ = some v) (h : w.frozen? ⟨b, o, none⟩ = false) : w'.frozen? ⟨b, o, none⟩ = false :=
  (hm.frozen (World.block_lt_of_cell? w _ hc) (by simp) o).trans h

theorem ndO_set4 {w : World} {p : Nat} {b : Bx} {tv bv : Value} (h : w.heap[p]? = some (ndO b tv bv)) (v : Value) : (w.setCell ⟨p, 4, none⟩ v).heap[p]? = some (ndO b v bv) := (block_setCell h 4 v).trans (by simp)
theorem ndO_set5 {w : World} {p : Nat} {b : Bx} {tv bv : Value} (h : w.heap[p]? = some (ndO b tv bv)) (v : Value) : (w.setCell ⟨p, 5, none⟩ v).heap[p]? = some (ndO b tv v) := (block_setCell h 5 v).trans (by simp)

/-- where the halves of a leaf stand, ahead of their boxes -/
structure MidLeaf (w4 : World) (k : Kd) (q g1 c1 g2 c2 : Nat) (us1 us2 : List Tg) : Prop where
  p4 : w4.heap[k.p]? = some (ndO k.bx (.slice (some ⟨g1, 0, none⟩) us1.length c1) (.slice none 0 0))
  q4 : ∃ b, w4.heap[q]? = some (ndO b (.slice (some ⟨g2, 0, none⟩) us2.length c2) (.slice none 0 0))
  r1 : w4.ownsRow 0 113 1 (.slice (some ⟨g1, 0, none⟩) us1.length c1) us1.length (ptrs (tblks us1))
  r2 : w4.ownsRow 0 113 1 (.slice (some ⟨g2, 0, none⟩) us2.length c2) us2.length (ptrs (tblks us2))
  t : ∀ t ∈ us1 ++ us2, TgAt w4 t
  perm : (us1 ++ us2).Perm k.ts
  apart : (k.p :: q :: g1 :: g2 :: (tblks us1 ++ tblks us2)).Nodup

theorem MidLeaf.kept {w4 w5 : World} {k : Kd} {q g1 c1 g2 c2 : Nat} {us1 us2 : List Tg} (h : MidLeaf w4 k q g1 c1 g2 c2 us1 us2) {p : Nat} (hm : Mod [p] w4 w5) (hp : p = k.p ∨ p = q) :
    w5.ownsRow 0 113 1 (.slice (some ⟨g1, 0, none⟩) us1.length c1) us1.length (ptrs (tblks us1)) ∧ w5.ownsRow 0 113 1 (.slice (some ⟨g2, 0, none⟩) us2.length c2) us2.length (ptrs (tblks us2)) ∧ ∀ t ∈ us1 ++ us2, TgAt w5 t := by
  have hn := h.apart
  simp only [List.nodup_cons, List.mem_cons, not_or] at hn
  obtain ⟨⟨n1, n2, n3, n4⟩, ⟨n5, n6, n7⟩, ⟨n8, n9⟩, n10, n11⟩ := hn
  refine ⟨owns_kept h.r1 hm (fun x hx => ?_), owns_kept h.r2 hm (fun x hx => ?_), fun t ht => (h.t t ht).kept hm ?_⟩
  · simp [Value.ownBlock] at hx
    subst hx
    rcases hp with rfl | rfl <;> simp <;> first | exact fun e => n2 e.symm | exact fun e => n5 e.symm
  · simp [Value.ownBlock] at hx
    subst hx
    rcases hp with rfl | rfl <;> simp <;> first | exact fun e => n3 e.symm | exact fun e => n6 e.symm
  · have hmem : t.blk ∈ tblks us1 ++ tblks us2 := by
      rw [tblks, tblks, ← List.map_append]
      exact List.mem_map.2 ⟨t, ht, rfl⟩
    rcases hp with rfl | rfl <;> simp
    · exact fun e => n4 (e ▸ hmem)
    · exact fun e => n7 (e ▸ hmem)

theorem midLeaf {w2 w' : World} {k : Kd} {g c q : Nat} {b0 : Bx} (hl : LeafAt w2 k (.slice (some ⟨g, 0, none⟩) k.n c)) (hq : w2.heap[q]? = some (ndO b0 (.slice none 0 0) (.slice none 0 0))) (hqF : q ∉ k.F) {g1 c1 g2 c2 : Nat} {l1 l2 : List Nat} (hp : (l1 ++ l2).Perm (tblks k.ts)) (hm : Mod [] w2.drew w')
    (h1 : w'.ownsRow 0 113 1 (.slice (some ⟨g1, 0, none⟩) l1.length c1) l1.length (ptrs l1)) (h2 : w'.ownsRow w2.drew.heap.size 113 1 (.slice (some ⟨g2, 0, none⟩) l2.length c2) l2.length (ptrs l2)) (hne : g1 ≠ g2) (hg1 : w2.drew.heap.size ≤ g1) :
    ∃ us1 us2, l1 = tblks us1 ∧ l2 = tblks us2 ∧ MidLeaf ((w'.setCell ⟨k.p, 4, none⟩ (.slice (some ⟨g1, 0, none⟩) l1.length c1)).setCell ⟨q, 4, none⟩ (.slice (some ⟨g2, 0, none⟩) l2.length c2)) k q g1 c1 g2 c2 us1 us2 := by
  obtain ⟨us, hu, hul⟩ := pick_things _ _ hp
  have e1 : tblks (us.take l1.length) = l1 := by
    have := congrArg (List.take l1.length) hul
    rw [List.take_left] at this
    rw [← this]; simp [tblks, List.map_take]
  have e2 : tblks (us.drop l1.length) = l2 := by
    have := congrArg (List.drop l1.length) hul
    rw [List.drop_left] at this
    rw [← this]; simp [tblks, List.map_drop]
  have q1 : (us.take l1.length).length = l1.length := by rw [← congrArg List.length e1]; simp [tblks]
  have q2 : (us.drop l1.length).length = l2.length := by rw [← congrArg List.length e2]; simp [tblks]
  have hmd : Mod [] w2 w' := (Mod.drew w2).trans hm
  have hl' := hl.kept hmd (by simp)
  have hq' := (hmd.block q (lt_of_block hq) (by simp)).trans hq
  have hsz : w2.drew.heap.size = w2.heap.size := rfl
  have hg2 : w2.heap.size ≤ g2 := (h2.lt g2 rfl).1
  rw [hsz] at hg1
  have hplt := lt_of_block hl.here
  have hqlt := lt_of_block hq
  have hkp : k.p ∈ k.F := by rw [hl.foot]; simp
  have hpq : k.p ≠ q := fun e => hqF (e ▸ hkp)
  have hblk : ∀ t ∈ k.ts, t.blk ∈ k.F ∧ t.blk < w2.heap.size := fun t ht => ⟨by rw [hl.foot]; exact List.mem_cons_of_mem _ (List.mem_append_right _ (List.mem_map.2 ⟨t, ht, rfl⟩)), lt_of_block (hl.things t ht).here⟩
  have hnd := hl.ok.nodup
  rw [hl.foot] at hnd
  have hnt : (tblks k.ts).Nodup := (List.nodup_append.1 (List.nodup_cons.1 hnd).2).2.1
  have hpt : k.p ∉ tblks k.ts := fun hx => (List.nodup_cons.1 hnd).1 (List.mem_append_right _ hx)
  have hm4 : Mod [k.p, q] w' ((w'.setCell ⟨k.p, 4, none⟩ (.slice (some ⟨g1, 0, none⟩) l1.length c1)).setCell ⟨q, 4, none⟩ (.slice (some ⟨g2, 0, none⟩) l2.length c2)) := (Mod.setCell _ _ _ (by simp)).trans (Mod.setCell _ _ _ (by simp))
  have hmemts : ∀ t, t ∈ us.take l1.length ++ us.drop l1.length → t ∈ k.ts := fun t ht => by
    rw [List.take_append_drop] at ht
    exact hu.mem_iff.1 ht
  have hblks : tblks (us.take l1.length) ++ tblks (us.drop l1.length) = tblks us := by rw [tblks, tblks, ← List.map_append, List.take_append_drop]; rfl
  refine ⟨us.take l1.length, us.drop l1.length, e1.symm, e2.symm, ?_, ?_, ?_, ?_, ?_, ?_, ?_⟩
  · rw [q1, block_setCell_other hpq]
    exact ndO_set4 hl'.here _
  · refine ⟨b0, ?_⟩
    rw [q2]
    refine ndO_set4 (tv := .slice none 0 0) ?_ _
    rw [block_setCell_other (fun e => hpq e.symm)]
    exact hq'
  · rw [q1, e1]
    exact owns_kept h1 hm4 (fun x hx => by simp [Value.ownBlock] at hx; subst hx; simp; omega)
  · rw [q2, e2]
    exact owns_kept (owns_base h2 (Nat.zero_le _)) hm4 (fun x hx => by simp [Value.ownBlock] at hx; subst hx; simp; omega)
  · intro t ht
    have hk := hmemts t ht
    refine (hl'.things t hk).kept hm4 ?_
    simp
    exact ⟨fun e => hpt (e ▸ List.mem_map.2 ⟨t, hk, rfl⟩), fun e => hqF (e ▸ (hblk t hk).1)⟩
  · rw [List.take_append_drop]; exact hu
  · rw [hblks]
    have hin : ∀ b ∈ tblks us, ∃ t ∈ k.ts, t.blk = b := fun b hb => by
      obtain ⟨t, ht, e⟩ := List.mem_map.1 hb
      exact ⟨t, hu.mem_iff.1 ht, e⟩
    have hnu : (tblks us).Nodup := (hu.map Tg.blk).nodup_iff.2 hnt
    simp only [List.nodup_cons, List.mem_cons, not_or]
    refine ⟨⟨hpq, by omega, by omega, fun hb => ?_⟩, ⟨by omega, by omega, fun hb => ?_⟩, ⟨hne, fun hb => ?_⟩, fun hb => ?_, hnu⟩
    · obtain ⟨t, ht, e⟩ := hin _ hb
      exact hpt (e ▸ List.mem_map.2 ⟨t, ht, rfl⟩)
    · obtain ⟨t, ht, e⟩ := hin _ hb
      exact hqF (e ▸ (hblk t ht).1)
    · obtain ⟨t, ht, e⟩ := hin _ hb
      have := (hblk t ht).2; omega
    · obtain ⟨t, ht, e⟩ := hin _ hb
      have := (hblk t ht).2; omega

theorem splitLeaf {fan lo : Nat} {w w4 w5 w6 : World} {k : Kd} {q g1 c1 g2 c2 : Nat} {us1 us2 : List Tg} {e5 e6 : Ending} (hM : MidLeaf w4 k q g1 c1 g2 c2 us1 us2) (h5 : FitPost k.p (.slice (some ⟨g1, 0, none⟩) us1.length c1) (.slice none 0 0) (us1.map Tg.bx) w4 e5 w5) (h6 : FitPost q (.slice (some ⟨g2, 0, none⟩) us2.length c2) (.slice none 0 0) (us2.map Tg.bx) w5 e6 w6)
    (hm : Mod [k.p, q] w w4) (hq : w.heap.size ≤ q) (hg1 : w.heap.size ≤ g1) (hg2 : w.heap.size ≤ g2) (hF : k.p ∈ k.F ∧ ∀ t ∈ k.ts, t.blk ∈ k.F) (hl1 : lo ≤ us1.length) (hl2 : lo ≤ us2.length) (hkn : k.ts.length = k.n) (h0 : 0 < lo) :
    SplitPost fan lo 0 k w (.returned (.pointer (some ⟨q, 0, none⟩))) w6 := by
  obtain ⟨b1, _, hm5, hp5, n5, in5, ok5, _⟩ := h5
  obtain ⟨b2, _, hm6, hq6, n6, in6, ok6, _⟩ := h6
  obtain ⟨r15, r25, t5⟩ := hM.kept hm5 (.inl rfl)
  have hn := hM.apart
  have hn' := hn
  simp only [List.nodup_cons, List.mem_cons, not_or] at hn
  obtain ⟨⟨n1, n2, n3, n4⟩, ⟨n7, n8, n9⟩, ⟨n10, n11⟩, n12, n13⟩ := hn
  have nd := List.nodup_append.1 n13
  have hp6 := (hm6.block k.p (lt_of_block hp5) (by simpa using n1)).trans hp5
  have r16 := owns_kept r15 hm6 (fun x hx => by simp [Value.ownBlock] at hx; subst hx; simpa using fun e => n7 e.symm)
  have r26 := owns_kept r25 hm6 (fun x hx => by simp [Value.ownBlock] at hx; subst hx; simpa using fun e => n8 e.symm)
  have t6 : ∀ t ∈ us1 ++ us2, TgAt w6 t := fun t ht => (t5 t ht).kept hm6 (by
    have hmem : t.blk ∈ tblks us1 ++ tblks us2 := by
      rw [tblks, tblks, ← List.map_append]
      exact List.mem_map.2 ⟨t, ht, rfl⟩
    simp only [List.mem_singleton]
    exact fun e => n9 (e ▸ hmem))
  have hne1 : us1 ≠ [] := fun e => by subst e; simp at hl1; omega
  have hne2 : us2 ≠ [] := fun e => by subst e; simp at hl2; omega
  have hts : ∀ t ∈ us1 ++ us2, t.blk ∈ k.F := fun t ht => hF.2 t (hM.perm.mem_iff.1 ht)
  have hkk : ∀ x ∈ tblks us1 ++ tblks us2, x ∈ k.F := fun x hx => by
    rw [tblks, tblks, ← List.map_append] at hx
    obtain ⟨t, ht, rfl⟩ := List.mem_map.1 hx
    exact hts t ht
  refine ⟨⟨k.p, b1, us1, k.p :: (g1 :: tblks us1), us1.length⟩, ⟨q, b2, us2, q :: (g2 :: tblks us2), us2.length⟩, rfl,
    ⟨_, ⟨hp6, r16, rfl, fun t ht => t6 t (List.mem_append_left _ ht), rfl, ⟨?_, n5, fun t ht => in5 _ (List.mem_map.2 ⟨t, ht, rfl⟩), fun _ => ok5 (by simpa using hne1), fun e => absurd e hne1⟩⟩⟩,
    ⟨_, ⟨hq6, r26, rfl, fun t ht => t6 t (List.mem_append_right _ ht), rfl, ⟨?_, n6, fun t ht => in6 _ (List.mem_map.2 ⟨t, ht, rfl⟩), fun _ => ok6 (by simpa using hne2), fun e => absurd e hne2⟩⟩⟩,
    rfl, hM.perm, hl1, hl2, ?_, ?_, ?_, ?_⟩
  · simp only [List.nodup_cons, List.mem_cons, not_or]
    exact ⟨⟨n2, fun hx => n4 (List.mem_append_left _ hx)⟩, fun hx => n11 (List.mem_append_left _ hx), nd.1⟩
  · simp only [List.nodup_cons, List.mem_cons, not_or]
    exact ⟨⟨n8, fun hx => n9 (List.mem_append_right _ hx)⟩, fun hx => n12 (List.mem_append_right _ hx), nd.2.1⟩
  · have := hM.perm.length_eq
    rw [List.length_append] at this
    show us1.length + us2.length = k.n
    omega
  · have hp : (k.p :: (g1 :: tblks us1) ++ q :: (g2 :: tblks us2)).Perm (k.p :: q :: g1 :: g2 :: (tblks us1 ++ tblks us2)) := by
      simp only [List.cons_append]
      refine List.Perm.cons _ ?_
      have a1 : (g1 :: (tblks us1 ++ q :: g2 :: tblks us2)).Perm (q :: g1 :: (tblks us1 ++ g2 :: tblks us2)) := by
        have := List.perm_middle (a := q) (l₁ := g1 :: tblks us1) (l₂ := g2 :: tblks us2)
        simpa using this
      refine a1.trans (List.Perm.cons _ ?_)
      have a2 : (g1 :: (tblks us1 ++ g2 :: tblks us2)).Perm (g1 :: g2 :: (tblks us1 ++ tblks us2)) := List.Perm.cons _ List.perm_middle
      exact a2
    exact hp.nodup_iff.2 hn'
  · intro x hx
    simp only [List.cons_append, List.mem_cons, List.mem_append] at hx
    rcases hx with rfl | rfl | hx | rfl | rfl | hx
    · exact .inl hF.1
    · exact .inr hg1
    · exact .inl (hkk x (List.mem_append_left _ hx))
    · exact .inr hq
    · exact .inr hg2
    · exact .inl (hkk x (List.mem_append_right _ hx))
  · have a : Mod [k.p, q] w w6 := (hm.trans (hm5.mono (by simp))).trans (hm6.mono (by simp))
    exact ⟨a.os, a.tape, a.output, a.size, fun i hi hf => a.block i hi (by simp at hf ⊢; exact ⟨hf, by omega⟩)⟩

end Go.Proofs.YthimaoipogocfaaGreat

namespace Go.Proofs.YthimaoipogocfaaGreat
open Go.RowKit
attribute [local go_sem] run_store_f32 run_neg_inf

set_option maxRecDepth 100000 in
set_option maxHeartbeats 1000000 in
theorem cut_leaf {w : World} {fan : Nat} {k : Kd} {tv : Value} (hl : LeafAt w k tv) (hn : k.n ≤ 21) (hf4 : 4 ≤ fan) (hf : fan ≤ 16) :
    Calls Tryz.prog 107 #[.pointer (some ⟨k.p, 0, none⟩), .int .i64 fan] w (CutPost2 fan (leastF fan) 0 k w) := by
  have hv := ownV hl.row
  have HC := hideIt (count_any hl.here hv (.inl ⟨rfl, rfl⟩) (by omega))
  rw [Nat.add_zero] at HC
  by_cases hle : k.n ≤ fan
  · have hle' : (k.n : Int) ≤ (fan : Int) := by omega
    go_enter Tryz.func107, Tryz.ntmps107
    go_wp2_with fail
    refine HC.out.mono ?_
    rintro e w1 ⟨rfl, hm⟩
    go_wp2
    go_ret
    exact .inl ⟨hle, rfl, hm⟩
  · have hgt : ¬ ((k.n : Int) ≤ (fan : Int)) := by omega
    have hlo : leastF fan ≤ 6 ∧ 2 ≤ leastF fan ∧ 2 * leastF fan ≤ fan + 1 := by unfold leastF; omega
    have HL := hideIt hl
    rcases hv with ⟨_, h0⟩ | ⟨g, c, rfl⟩
    · omega
    clear hl
    go_enter Tryz.func107, Tryz.ntmps107
    go_wp2_with fail
    refine HC.out.mono ?_
    rintro e w1 ⟨rfl, hm1⟩
    have HL1 := hideIt (HL.out.kept hm1 (by simp))
    have HM1 := hideIt hm1
    clear hm1 HC
    go_wp2_with fail
    have hm2 : Mod [] w1 (w1.alloc (ndO ⟨0, 0, 0, 0⟩ (.slice none 0 0) (.slice none 0 0))) := Mod.alloc _ _
    have hq2 : (w1.alloc (ndO ⟨0, 0, 0, 0⟩ (.slice none 0 0) (.slice none 0 0))).heap[w1.heap.size]? = some (ndO ⟨0, 0, 0, 0⟩ (.slice none 0 0) (.slice none 0 0)) := heap_alloc_new w1 _
    generalize hw2 : w1.alloc (ndO ⟨0, 0, 0, 0⟩ (.slice none 0 0) (.slice none 0 0)) = w2 at *
    have HW2 := hideIt hw2
    clear hw2
    have hl2 := HL1.out.kept hm2 (by simp)
    refine (isLeaf_nil hl2.here).mono ?_
    rintro e w3 ⟨rfl, rfl⟩
    generalize hq : w1.heap.size = q at *
    obtain ⟨c4, _⟩ := cell_ndO hl2.here
    have fp := frozen_of_block hl2.here 4
    obtain ⟨d4, _⟩ := cell_ndO hq2
    have fq := frozen_of_block hq2 4
    have hpq : k.p ≠ q := by have := lt_of_block HL1.out.here; omega
    have HQF := hideIt (show q ∉ k.F from fun hx => by have := NodeAt.lt (fan := fan) (lo := leastF fan) (h := 0) ⟨_, HL1.out⟩ q hx; omega)
    have HKF := hideIt (show k.p ∈ k.F ∧ ∀ t ∈ k.ts, t.blk ∈ k.F from ⟨NodeAt.p_mem (fan := fan) (lo := leastF fan) (h := 0) ⟨_, HL1.out⟩, fun t ht => (NodeAt.thing (fan := fan) (lo := leastF fan) (h := 0) ⟨_, HL1.out⟩ t ht).2⟩)
    have HH := hideIt (fun W (hW : Mod [] w2 W) => halveT (w := W) (blk := g) (cap := c) (n := k.n) (least := leastF fan) (ps := tblks k.ts) (bx := bxAt k.ts) (hl2.kept hW (by simp)).row (bxAt_row (hl2.kept hW (by simp)).things) hn (by omega) (by omega))
    have HLL := hideIt hl2
    have HQ2 := hideIt hq2
    have HM2 := hideIt hm2
    clear hl2 hq2 hm2
    go_wp2_with fail
    go_region_with (first
      | (go_at_call 132; refine (least_any fan hf _).mono ?_; rintro e w' ⟨rfl, rfl⟩)
      | (go_at_call 144; refine (HH.out _ (Mod.drew _)).mono ?_; rintro e w' ⟨g1, c1, g2, c2, l1, l2, rfl, hrest⟩; have x1 := cell_mod hrest.2.2.2.1 c4; have x2 := cell_mod hrest.2.2.2.1 d4; have x3 := frozen_mod hrest.2.2.2.1 c4 fp; have x4 := frozen_mod hrest.2.2.2.1 d4 fq; have HRR := hideIt hrest; clear hrest))
    all_goals
      have hr := HRR.out
      obtain ⟨us1, us2, rfl, rfl, hM⟩ := midLeaf HLL.out HQ2.out HQF.out hr.1 hr.2.2.2.1 hr.2.2.2.2.1 hr.2.2.2.2.2.1 hr.2.2.2.2.2.2.1 (by
        rcases hr.2.2.2.2.2.2.2 with h | h
        · cases h
        · exact h)
      have l1 : (tblks us1).length = us1.length := by simp [tblks]
      have l2 : (tblks us2).length = us2.length := by simp [tblks]
      simp only [l1, l2] at hM hr ⊢
      have hm4 : Mod [k.p, q] w ((w'.setCell ⟨k.p, 4, none⟩ (.slice (some ⟨g1, 0, none⟩) us1.length c1)).setCell ⟨q, 4, none⟩ (.slice (some ⟨g2, 0, none⟩) us2.length c2)) :=
        ((((HM1.out.trans HM2.out).trans (Mod.drew _)).trans hr.2.2.2.1).nil.trans (Mod.setCell _ _ _ (by simp))).trans (Mod.setCell _ _ _ (by simp))
      have hz : w.heap.size ≤ w2.heap.size := (HM1.out.trans HM2.out).size
      have hg1 : w.heap.size ≤ g1 := by
        rcases hr.2.2.2.2.2.2.2 with h | h
        · cases h
        · exact Nat.le_trans hz h
      have hg2 : w.heap.size ≤ g2 := Nat.le_trans hz (hr.2.2.2.2.2.1.lt g2 rfl).1
      have hqz : w.heap.size ≤ q := by have := HM1.out.size; omega
      have HG := hideIt (And.intro hg1 (And.intro hg2 hqz))
      have HLO := hideIt (And.intro hr.2.1 hr.2.2.1)
      have HMM := hideIt hM
      have HM4 := hideIt hm4
      clear hr HRR hM hm4 hg1 hg2 hqz hz x1 x2 x3 x4 c4 d4 fp fq HH
      generalize ((w'.setCell ⟨k.p, 4, none⟩ (.slice (some ⟨g1, 0, none⟩) us1.length c1)).setCell ⟨q, 4, none⟩ (.slice (some ⟨g2, 0, none⟩) us2.length c2)) = w4 at *
      have hle : us1.length + us2.length = k.n := by
        have := HMM.out.perm.length_eq
        rw [List.length_append, HL.out.len] at this
        exact this
      go_wp2_with fail
      refine (fit_leaf HMM.out.p4 HMM.out.r1 (fun t ht => HMM.out.t t (List.mem_append_left _ ht)) (by omega)).mono ?_
      intro e5 w5 h5
      obtain ⟨b5, rfl, h5'⟩ := id h5
      obtain ⟨r15, r25, t5⟩ := HMM.out.kept h5'.1 (.inl rfl)
      obtain ⟨bq, hq4⟩ := HMM.out.q4
      have hq5 := (h5'.1.block q (lt_of_block hq4) (by simpa using fun e => hpq e.symm)).trans hq4
      have H5 := hideIt h5
      clear h5 h5' r15
      go_wp2_with fail
      refine (fit_leaf hq5 r25 (fun t ht => t5 t (List.mem_append_right _ ht)) (by omega)).mono ?_
      intro e6 w6 h6
      obtain ⟨b6, rfl, h6'⟩ := id h6
      have hfin := splitLeaf (fan := fan) HMM.out H5.out h6 HM4.out HG.out.2.2 HG.out.1 HG.out.2.1 HKF.out HLO.out.1 HLO.out.2 HL.out.len (by omega)
      have HF := hideIt hfin
      clear h6 h6' hq5 r25 t5 hq4 hfin H5 HMM HM4
      go_wp2
      go_ret
      exact .inr ⟨by omega, HF.out⟩

end Go.Proofs.YthimaoipogocfaaGreat

