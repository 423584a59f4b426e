import Derived.Test.YtmfdlacmlnginaaGreatJ06
import Derived.Test.YtmfdlacmlnginaaGreatJ07
namespace Go.Proofs.YtmfdlacmlnginaaGreat
open Go.RowKit
attribute [local go_sem] run_store_f32 run_neg_inf

theorem cmpOkNX {w : World} {g : Nat} {ps : List Nat} {bx : Nat → Bx} (hB : ∀ p ∈ ps, HasBx w p 116 (bx p) ∧ (bx p).Ok) (hg : ∀ p ∈ ps, p ≠ g) : CmpOk 162 ps [g] w :=
  ⟨fun p hp q hq _ hW => cmpNX_any ((hB p hp).1.kept hW (by simpa using hg p hp)) ((hB q hq).1.kept hW (by simpa using hg q hq))⟩
theorem cmpOkNY {w : World} {g : Nat} {ps : List Nat} {bx : Nat → Bx} (hB : ∀ p ∈ ps, HasBx w p 116 (bx p) ∧ (bx p).Ok) (hg : ∀ p ∈ ps, p ≠ g) : CmpOk 163 ps [g] w :=
  ⟨fun p hp q hq _ hW => cmpNY_any ((hB p hp).1.kept hW (by simpa using hg p hp)) ((hB q hq).1.kept hW (by simpa using hg q hq))⟩

set_option maxRecDepth 100000 in
set_option maxHeartbeats 1000000 in
theorem halveN {w : World} {blk n cap least : Nat} {ps : List Nat} {bx : Nat → Bx} (h : w.ownsRow 0 105 1 (.slice (some ⟨blk, 0, none⟩) n cap) n (ptrs ps)) (hB : ∀ p ∈ ps, HasBx w p 116 (bx p) ∧ (bx p).Ok) (hn2 : n ≤ 21) (hl0 : 0 < least) (hl2 : 2 * least ≤ n) :
    Calls Tryz.prog 131 #[.slice (some ⟨blk, 0, none⟩) n cap, .int .i64 least] w (PartsPost 105 ps least [] w) := by
  obtain ⟨rest, hr, hnc, _, hl, hsz, hcm⟩ := owns_rowT h
  have eX : ∀ args w, (callFunc 162 args).run Tryz.prog w = .ok (.enter 162 args) w := enters_of Tryz.func162 (by kernel_rfl) rfl
  have eY : ∀ args w, (callFunc 163 args).run Tryz.prog w = .ok (.enter 163 args) w := enters_of Tryz.func163 (by kernel_rfl) rfl
  have HEX := hideIt eX
  have HEY := hideIt eY
  have HCL := hideIt (fun W (hW : Mod [] w W) => cloneN (w := W) (blk := blk) (off := 0) (m := n) (c := cap) (ps := ps) (fun j p hp => by
    rw [Nat.zero_add]
    exact rowO_get ((hW.block blk (lt_of_block hr) (by simp)).trans hr) hp) hl (by omega) (by omega))
  have HB := hideIt hB
  have HBW : ∀ W, Mod [] w W → ∀ p ∈ ps, HasBx W p 116 (bx p) ∧ (bx p).Ok := fun W hW p hp => ⟨(hB p hp).1.kept hW (by simp), (hB p hp).2⟩
  have HBW' := hideIt HBW
  clear hB hr h hsz hcm eX eY HBW
  go_enter Tryz.func131, Tryz.ntmps131
  go_wp2_with fail
  refine (HCL.out w (Mod.refl _ _)).mono ?_
  rintro e w1 ⟨gX, cX, rfl, hm1, hoX⟩
  rw [hl] at hoX
  simp only [hl]
  go_wp2_with fail
  refine (HCL.out w1 hm1).mono ?_
  rintro e w2 ⟨gY, cY, rfl, hm2, hoY⟩
  rw [hl] at hoY
  simp only [hl]
  have hm12 := hm1.trans hm2
  have hoX2 := owns_kept hoX hm2 (by simp)
  have hgX := (hoX.lt gX rfl)
  have hgY := (hoY.lt gY rfl)
  have hXY : gX ≠ gY := by omega
  obtain ⟨restX, hrX, hncX, _, _, hszX, hcmX⟩ := owns_rowT hoX2
  obtain ⟨restY, hrY, hncY, _, _, hszY, hcmY⟩ := owns_rowT hoY
  have HSX := hideIt (sortStableN_any (cap := cX) HEX.out hrX hl hn2 (cmpOkNX (HBW'.out w2 hm12) (fun p hp => by have := (HB.out p hp).1.ltT; omega)))
  clear hm1 hm2 hoX hoX2 hoY HCL
  go_wp2_with fail
  refine HSX.out.mono ?_
  rintro e w3 ⟨rfl, hm3, psX, hpX, hrX3⟩
  have hm13 : Mod [] w w3 := hm12.then hm3 (fun x hx => .inr (by simp at hx; omega))
  have hrY3 := (hm3.block gY (lt_of_block hrY) (by simpa using fun e => hXY e.symm)).trans hrY
  have HSY := hideIt (sortStableN_any (cap := cY) HEY.out hrY3 hl hn2 (cmpOkNY (HBW'.out w3 hm13) (fun p hp => by have := (HB.out p hp).1.ltT; omega)))
  clear HSX hrX hrY hm3 hm12
  go_wp2_with fail
  refine HSY.out.mono ?_
  rintro e w4 ⟨rfl, hm4, psY, hpY, hrY4⟩
  have hm14 : Mod [] w w4 := hm13.then hm4 (fun x hx => .inr (by simp at hx; omega))
  have hrX4 := (hm4.block gX (lt_of_block hrX3) (by simpa using hXY)).trans hrX3
  have hlX : psX.length = n := hpX.length_eq.trans hl
  have hlY : psY.length = n := hpY.length_eq.trans hl
  have hBX : ∀ W, Mod [] w W → ∀ p ∈ psX, HasBx W p 116 (bx p) ∧ (bx p).Ok := fun W hW p hp => HBW'.out W hW p (hpX.mem_iff.1 hp)
  have hBY : ∀ W, Mod [] w W → ∀ p ∈ psY, HasBx W p 116 (bx p) ∧ (bx p).Ok := fun W hW p hp => HBW'.out W hW p (hpY.mem_iff.1 hp)
  have HCX := hideIt (bestCutN (cap := cX) (least := least) (rowBxT hrX4 (hBX w4 hm14)) (boxed_ok fun p hp => (hBX w4 hm14 p hp).2) (by simp [boxed, hlX]) (by omega) hncX hl0 hl2)
  clear HSY hrX3 hrY3 hm4 hm13
  go_wp2_with fail
  refine HCX.out.mono ?_
  rintro e w5 ⟨k1, z1, rfl, hk1, hk1', hm5⟩
  have hm15 := hm14.trans hm5
  have hrX5 := (hm5.block gX (lt_of_block hrX4) (by simp)).trans hrX4
  have hrY5 := (hm5.block gY (lt_of_block hrY4) (by simp)).trans hrY4
  have HCY := hideIt (bestCutN (cap := cY) (least := least) (rowBxT hrY5 (hBY w5 hm15)) (boxed_ok fun p hp => (hBY w5 hm15 p hp).2) (by simp [boxed, hlY]) (by omega) hncY hl0 hl2)
  clear HCX hrX4 hrY4 hm5 hm14
  go_wp2_with fail
  refine HCY.out.mono ?_
  rintro e w6 ⟨k2, z2, rfl, hk2, hk2', hm6⟩
  have hm16 := hm15.trans hm6
  have hrX6 := (hm6.block gX (lt_of_block hrX5) (by simp)).trans hrX5
  have hrY6 := (hm6.block gY (lt_of_block hrY5) (by simp)).trans hrY5
  have hqX : (ptrs psX ++ restX).length = cX := by rw [← hszX]; simp [ptrs, hlX, hl]
  have hqY : (ptrs psY ++ restY).length = cY := by rw [← hszY]; simp [ptrs, hlY, hl]
  have hoX6 := row_ownsT (base := 0) hrX6 (Nat.zero_le _) hqX hcmX
  have hoY6 := row_ownsT (base := 0) hrY6 (Nat.zero_le _) hqY hcmY
  rw [hlX] at hoX6
  rw [hlY] at hoY6
  have HPX := hideIt (partsN hoX6 (by omega) hl0 hk1 hk1' (by omega))
  have HPY := hideIt (partsN hoY6 (by omega) hl0 hk2 hk2' (by omega))
  have HM := hideIt hm16
  have HGX := hideIt (And.intro hpX hgX)
  have HGY := hideIt (And.intro hpY (Nat.le_trans (Mod.size (F := []) (w := w) (w' := w) (Mod.refl _ _)) hgX.1))
  have hgY' : w.heap.size ≤ gY := by omega
  clear HCY hrX5 hrY5 hrX6 hrY6 hm6 hm15 hm16 hoX6 hoY6 hqX hqY hBX hBY HBW' HB
  by_cases hz : z1 ≤ z2
  · go_wp2_with fail
    refine HPX.out.mono ?_
    intro e w7 hpp
    have hfin := hpp.newT hpX HM.out hgX.1
    obtain ⟨g1, c1, g2, c2, l1, l2, rfl, hrest⟩ := hfin
    clear hpp HPX HPY
    have HR := hideIt hrest
    clear hrest
    go_wp2
    go_ret2
    exact ⟨g1, c1, g2, c2, l1, l2, rfl, HR.out⟩
  · go_wp2_with fail
    refine HPY.out.mono ?_
    intro e w7 hpp
    have hfin := hpp.newT hpY HM.out hgY'
    obtain ⟨g1, c1, g2, c2, l1, l2, rfl, hrest⟩ := hfin
    clear hpp HPX HPY
    have HR := hideIt hrest
    clear hrest
    go_wp2
    go_ret2
    exact ⟨g1, c1, g2, c2, l1, l2, rfl, HR.out⟩

end Go.Proofs.YtmfdlacmlnginaaGreat

namespace Go.Proofs.YtmfdlacmlnginaaGreat
open Go.RowKit

/-! ### things and nodes in memory -/
structure Tg where
  blk : Nat
  id : Int
  x0 : Int
  y0 : Int
  x1 : Int
  y1 : Int

def Tg.bx (t : Tg) : Bx := Bx.of t.x0 t.y0 t.x1 t.y1
def tgO (t : Tg) : Obj := bxC t.bx [.int .i64 t.id, .int .i64 t.x0, .int .i64 t.y0, .int .i64 t.x1, .int .i64 t.y1] 120
structure TgAt (w : World) (t : Tg) : Prop where
  here : w.heap[t.blk]? = some (tgO t)
  rect : RectOk t.x0 t.y0 t.x1 t.y1

/-- a node: where it is, its box, the things below it, the blocks that are its own, how many it holds -/
structure Kd where
  p : Nat
  bx : Bx
  ts : List Tg
  F : List Nat
  n : Nat

structure KdOk (k : Kd) : Prop where
  nodup : k.F.Nodup
  num : k.bx.Num
  cover : ∀ t ∈ k.ts, t.bx.In k.bx
  ok : k.ts ≠ [] → k.bx.Ok
  none : k.ts = [] → k.bx = Bx.none

def tblks (ts : List Tg) : List Nat := ts.map (·.blk)
def kblks (ks : List Kd) : List Nat := ks.map (·.p)
def kts (ks : List Kd) : List Tg := ks.flatMap (·.ts)
def kF (ks : List Kd) : List Nat := ks.flatMap (·.F)

abbrev ndO (b : Bx) (tv bv : Value) : Obj := bxC b [tv, bv] 116

structure LeafAt (w : World) (k : Kd) (tv : Value) : Prop where
  here : w.heap[k.p]? = some (ndO k.bx tv (.slice none 0 0))
  row : w.ownsRow 0 103 1 tv k.n (ptrs (tblks k.ts))
  len : k.ts.length = k.n
  things : ∀ t ∈ k.ts, TgAt w t
  foot : k.F = k.p :: (tv.ownBlock.toList ++ tblks k.ts)
  ok : KdOk k

structure InnerAt (w : World) (k : Kd) (bv : Value) (ks : List Kd) : Prop where
  here : w.heap[k.p]? = some (ndO k.bx (.slice none 0 0) bv)
  row : w.ownsRow 0 105 1 bv k.n (ptrs (kblks ks))
  len : ks.length = k.n
  things : k.ts = kts ks
  foot : k.F = k.p :: (bv.ownBlock.toList ++ kF ks)
  ok : KdOk k

def NodeAt (w : World) (fan lo : Nat) : Nat → Kd → Prop
  | 0, k => ∃ tv, LeafAt w k tv
  | h + 1, k => ∃ bv ks, InnerAt w k bv ks ∧ ∀ c ∈ ks, NodeAt w fan lo h c ∧ lo ≤ c.n ∧ c.n ≤ fan

theorem NodeAt.ok {w : World} {fan lo : Nat} : ∀ {h : Nat} {k : Kd}, NodeAt w fan lo h k → KdOk k
  | 0, _, ⟨_, hl⟩ => hl.ok
  | _ + 1, _, ⟨_, _, hi, _⟩ => hi.ok

theorem TgAt.kept {w w' : World} {t : Tg} {G : List Nat} (h : TgAt w t) (hm : Mod G w w') (hf : t.blk ∉ G) : TgAt w' t := ⟨(hm.block _ (lt_of_block h.here) hf).trans h.here, h.rect⟩

theorem ownBlock_mem {v : Value} {k : Nat} (h : v.ownBlock = some k) : k ∈ v.ownBlock.toList := by rw [h]; simp

theorem LeafAt.kept {w w' : World} {k : Kd} {tv : Value} {G : List Nat} (h : LeafAt w k tv) (hm : Mod G w w') (hf : ∀ x ∈ k.F, x ∉ G) : LeafAt w' k tv := by
  have hF := h.foot
  refine ⟨(hm.block _ (lt_of_block h.here) (hf _ (by rw [hF]; simp))).trans h.here, owns_kept h.row hm (fun x hx => hf x (by rw [hF]; simp [hx])), h.len, fun t ht => (h.things t ht).kept hm (hf _ ?_), h.foot, h.ok⟩
  rw [hF]
  exact List.mem_cons_of_mem _ (List.mem_append_right _ (List.mem_map.2 ⟨t, ht, rfl⟩))

theorem InnerAt.kept {w w' : World} {k : Kd} {bv : Value} {ks : List Kd} {G : List Nat} (h : InnerAt w k bv ks) (hm : Mod G w w') (hf : ∀ x ∈ k.F, x ∉ G) : InnerAt w' k bv ks := by
  have hF := h.foot
  exact ⟨(hm.block _ (lt_of_block h.here) (hf _ (by rw [hF]; simp))).trans h.here, owns_kept h.row hm (fun x hx => hf x (by rw [hF]; simp [hx])), h.len, h.things, h.foot, h.ok⟩

theorem InnerAt.kid_F {w : World} {k : Kd} {bv : Value} {ks : List Kd} (h : InnerAt w k bv ks) {c : Kd} (hc : c ∈ ks) : ∀ x ∈ c.F, x ∈ k.F := fun x hx => by
  rw [h.foot]
  exact List.mem_cons_of_mem _ (List.mem_append_right _ (List.mem_flatMap.2 ⟨c, hc, hx⟩))

theorem NodeAt.kept {w w' : World} {fan lo : Nat} {G : List Nat} (hm : Mod G w w') : ∀ {h : Nat} {k : Kd}, NodeAt w fan lo h k → (∀ x ∈ k.F, x ∉ G) → NodeAt w' fan lo h k
  | 0, _, ⟨tv, hl⟩, hf => ⟨tv, hl.kept hm hf⟩
  | _ + 1, _, ⟨bv, ks, hi, hk⟩, hf => ⟨bv, ks, hi.kept hm hf, fun c hc => ⟨NodeAt.kept hm (hk c hc).1 (fun x hx => hf x (hi.kid_F hc x hx)), (hk c hc).2⟩⟩

theorem NodeAt.lt {w : World} {fan lo : Nat} : ∀ {h : Nat} {k : Kd}, NodeAt w fan lo h k → ∀ x ∈ k.F, x < w.heap.size
  | 0, _, ⟨_, hl⟩, x, hx => by
    rw [hl.foot] at hx
    rcases List.mem_cons.1 hx with rfl | hx
    · exact lt_of_block hl.here
    rcases List.mem_append.1 hx with hx | hx
    · exact owns_lt hl.row (by simpa using hx)
    · obtain ⟨t, ht, rfl⟩ := List.mem_map.1 hx
      exact lt_of_block (hl.things t ht).here
  | _ + 1, _, ⟨_, _, hi, hk⟩, x, hx => by
    rw [hi.foot] at hx
    rcases List.mem_cons.1 hx with rfl | hx
    · exact lt_of_block hi.here
    rcases List.mem_append.1 hx with hx | hx
    · exact owns_lt hi.row (by simpa using hx)
    · obtain ⟨c, hc, hx⟩ := List.mem_flatMap.1 hx
      exact NodeAt.lt (hk c hc).1 x hx

theorem NodeAt.p_mem {w : World} {fan lo : Nat} : ∀ {h : Nat} {k : Kd}, NodeAt w fan lo h k → k.p ∈ k.F
  | 0, _, ⟨_, hl⟩ => by rw [hl.foot]; simp
  | _ + 1, _, ⟨_, _, hi, _⟩ => by rw [hi.foot]; simp

theorem NodeAt.hasBx {w : World} {fan lo : Nat} : ∀ {h : Nat} {k : Kd}, NodeAt w fan lo h k → HasBx w k.p 116 k.bx
  | 0, _, ⟨_, hl⟩ => ⟨_, hl.here⟩
  | _ + 1, _, ⟨_, _, hi, _⟩ => ⟨_, hi.here⟩

theorem NodeAt.thing {w : World} {fan lo : Nat} : ∀ {h : Nat} {k : Kd}, NodeAt w fan lo h k → ∀ t ∈ k.ts, TgAt w t ∧ t.blk ∈ k.F
  | 0, _, ⟨_, hl⟩, t, ht => ⟨hl.things t ht, by rw [hl.foot]; exact List.mem_cons_of_mem _ (List.mem_append_right _ (List.mem_map.2 ⟨t, ht, rfl⟩))⟩
  | _ + 1, _, ⟨_, _, hi, hk⟩, t, ht => by
    rw [hi.things] at ht
    obtain ⟨c, hc, ht⟩ := List.mem_flatMap.1 ht
    obtain ⟨h1, h2⟩ := NodeAt.thing (hk c hc).1 t ht
    exact ⟨h1, hi.kid_F hc _ h2⟩

/-! ### how many things there are, by the height -/
theorem NodeAt.size {w : World} {fan lo : Nat} : ∀ {h : Nat} {k : Kd}, NodeAt w fan lo h k → k.n * lo ^ h ≤ k.ts.length ∧ k.ts.length ≤ k.n * fan ^ h
  | 0, _, ⟨_, hl⟩ => by rw [hl.len]; simp
  | h + 1, k, ⟨_, ks, hi, hk⟩ => by
    rw [hi.things, ← hi.len]
    clear hi
    induction ks with
    | nil => simp [kts]
    | cons c ks ih =>
      have ih := ih (fun d hd => hk d (by simp [hd]))
      obtain ⟨h1, h2, h3⟩ := hk c (by simp)
      obtain ⟨s1, s2⟩ := NodeAt.size h1
      simp only [kts, List.flatMap_cons, List.length_append, List.length_cons] at ih ⊢
      rw [Nat.add_mul, Nat.add_mul, Nat.one_mul, Nat.one_mul]
      have a1 : lo ^ (h + 1) ≤ c.n * lo ^ h := by rw [Nat.pow_succ, Nat.mul_comm]; exact Nat.mul_le_mul_right _ h2
      have a2 : c.n * fan ^ h ≤ fan ^ (h + 1) := by rw [Nat.pow_succ, Nat.mul_comm (fan ^ h)]; exact Nat.mul_le_mul_right _ h3
      omega

end Go.Proofs.YtmfdlacmlnginaaGreat

namespace Go.Proofs.YtmfdlacmlnginaaGreat
open Go.RowKit
attribute [local go_sem] run_store_f32 run_neg_inf

def leastF (fan : Nat) : Nat := max 2 (2 * fan / 5)

theorem least_any (fan : Nat) (h : fan ≤ 16) (w : World) : Calls Tryz.prog 118 #[.int .i64 fan] w (IntEq (leastF fan) w) := by
  go_enter Tryz.func118, Tryz.ntmps118
  go_wp2
  all_goals
    go_ret
    refine ⟨ret_int ?_, rfl⟩
    simp only [leastF]
    omega

/-- a row that a node owns, as a value -/
def OwnV (v : Value) (n : Nat) : Prop := (v = .slice none 0 0 ∧ n = 0) ∨ ∃ g c, v = .slice (some ⟨g, 0, none⟩) n c
theorem ownV {w : World} {base : Nat} {T : TypeId} {v : Value} {n : Nat} {xs : List Value} (h : w.ownsRow base T 1 v n xs) : OwnV v n := by
  rcases h.2 with h | ⟨g, c, _, h, _⟩
  · exact .inl h
  · exact .inr ⟨g, c, h⟩

theorem cell_ndO {w : World} {p : Nat} {b : Bx} {tv bv : Value} (h : w.heap[p]? = some (ndO b tv bv)) : w.cell? ⟨p, 4, none⟩ = some tv ∧ w.cell? ⟨p, 5, none⟩ = some bv := by
  constructor <;> rw [cell_of_block h] <;> rfl

set_option maxRecDepth 100000 in
theorem isLeaf_nil {w : World} {p : Nat} {b : Bx} {tv : Value} (h : w.heap[p]? = some (ndO b tv (.slice none 0 0))) :
    Calls Tryz.prog 93 #[.pointer (some ⟨p, 0, none⟩)] w fun e w' => e = .returned (.bool true) ∧ w = w' := by
  obtain ⟨c4, c5⟩ := cell_ndO h
  clear h
  go_enter Tryz.func93, Tryz.ntmps93
  go_wp2
  go_ret
  exact ⟨rfl, rfl⟩

set_option maxRecDepth 100000 in
theorem isLeaf_some {w : World} {p : Nat} {b : Bx} {tv : Value} {g n c : Nat} (h : w.heap[p]? = some (ndO b tv (.slice (some ⟨g, 0, none⟩) n c))) (hn : 0 < n) :
    Calls Tryz.prog 93 #[.pointer (some ⟨p, 0, none⟩)] w fun e w' => e = .returned (.bool false) ∧ w = w' := by
  obtain ⟨c4, c5⟩ := cell_ndO h
  have hne : ((n : Int) == 0) = false := by simp; omega
  clear h
  go_enter Tryz.func93, Tryz.ntmps93
  go_wp2
  go_ret
  exact ⟨rfl, rfl⟩

def CountPost (n : Nat) (w : World) (e : Ending) (w' : World) : Prop := e = .returned (.int .i64 n) ∧ Mod [] w w'

set_option maxRecDepth 100000 in
theorem count_any {w : World} {p : Nat} {b : Bx} {tv bv : Value} {n m : Nat} (h : w.heap[p]? = some (ndO b tv bv)) (ht : OwnV tv n) (hb : OwnV bv m) (hn : n + m ≤ 1000) :
    Calls Tryz.prog 117 #[.pointer (some ⟨p, 0, none⟩)] w (CountPost (n + m) w) := by
  obtain ⟨c4, c5⟩ := cell_ndO h
  clear h
  rcases ht with ⟨rfl, rfl⟩ | ⟨g, c, rfl⟩ <;> rcases hb with ⟨rfl, rfl⟩ | ⟨g', c', rfl⟩
  all_goals
    go_enter Tryz.func117, Tryz.ntmps117
    go_wp2_with fail
    go_quiet (fail)
    go_wp2
    go_ret
    exact ⟨by first | rfl | (simp; done) | (refine ret_int ?_; omega), Mod.drewN _ _⟩

end Go.Proofs.YtmfdlacmlnginaaGreat

namespace Go.Proofs.YtmfdlacmlnginaaGreat
open Go.RowKit
attribute [local go_sem] run_store_f32 run_neg_inf

theorem Bx.grow_in {a b c : Bx} (h : a.In b) : a.In (b.grow c) := h.trans (Bx.in_grow b c)
theorem Bx.grow_in' {a b c : Bx} (h : a.In c) : a.In (b.grow c) := h.trans (Bx.in_grow' b c)

theorem none_none : Bx.none.grow Bx.none = Bx.none := by
  unfold Bx.grow Bx.none
  have h1 : minW infW infW = infW := by decide
  have h2 : maxW ninfW ninfW = ninfW := by decide
  simp only [h1, h2]

/-- the box of a node is new; all else is as it was -/
def FitPost (p : Nat) (tv bv : Value) (bs : List Bx) (w : World) (e : Ending) (w' : World) : Prop :=
  ∃ b, e = .returned (.tuple #[]) ∧ Mod [p] w w' ∧ w'.heap[p]? = some (ndO b tv bv) ∧ b.Num ∧ (∀ x ∈ bs, x.In b) ∧ (bs ≠ [] → b.Ok) ∧ (bs = [] → b = Bx.none)

theorem bxC_set4 {w : World} {p : Nat} {b : Bx} {rest : List Value} {T : TypeId} (h : w.heap[p]? = some (bxC b rest T)) (c : Bx) :
    ((((w.setCell ⟨p, 0, none⟩ (.float .f32 c.x0)).setCell ⟨p, 1, none⟩ (.float .f32 c.y0)).setCell ⟨p, 2, none⟩ (.float .f32 c.x1)).setCell ⟨p, 3, none⟩ (.float .f32 c.y1)).heap[p]? = some (bxC c rest T) := by
  have h0 := block_setCell h 0 (.float .f32 c.x0)
  have h1 := block_setCell h0 1 (.float .f32 c.y0)
  have h2 := block_setCell h1 2 (.float .f32 c.x1)
  have h3 := block_setCell h2 3 (.float .f32 c.y1)
  exact h3.trans (by simp)
theorem mod_set4 (w : World) (p : Nat) (u0 u1 u2 u3 : Value) : Mod [p] w ((((w.setCell ⟨p, 0, none⟩ u0).setCell ⟨p, 1, none⟩ u1).setCell ⟨p, 2, none⟩ u2).setCell ⟨p, 3, none⟩ u3) :=
  (((Mod.setCell _ _ _ (by simp)).trans (Mod.setCell _ _ _ (by simp))).trans (Mod.setCell _ _ _ (by simp))).trans (Mod.setCell _ _ _ (by simp))

def FitEq (p : Nat) (b : Bx) (tv bv : Value) (w : World) (e : Ending) (w' : World) : Prop := e = .returned (.tuple #[]) ∧ Mod [p] w w' ∧ w'.heap[p]? = some (ndO b tv bv)

set_option maxRecDepth 100000 in
set_option maxHeartbeats 1000000 in
theorem fit_any {w : World} {p : Nat} {b : Bx} {tv bv : Value} {b1 b2 : Bx} (h : w.heap[p]? = some (ndO b tv bv))
    (ht : ∀ W, Mod [] w W → Calls Tryz.prog 96 #[tv] W (BoxPost b1 W)) (hb : ∀ W, Mod [p] w W → Calls Tryz.prog 97 #[bv] W (BoxPost b2 W)) (n1 : b1.Num) (n2 : b2.Num) :
    Calls Tryz.prog 59 #[.pointer (some ⟨p, 0, none⟩)] w (FitEq p (b1.grow b2) tv bv w) := by
  obtain ⟨c4, c5⟩ := cell_ndO h
  have H := hideIt h
  have HT := hideIt ht
  have HB := hideIt hb
  clear h ht hb
  go_enter Tryz.func59, Tryz.ntmps59
  go_wp2_with fail
  refine (HT.out w (Mod.refl _ _)).mono ?_
  rintro e w1 ⟨rfl, hm1⟩
  have h1 := (hm1.block p (lt_of_block H.out) (by simp)).trans H.out
  obtain ⟨d0, d1, d2, d3⟩ := cell_bxC h1
  have f := frozen_of_block h1
  have f0 := f 0
  have f1 := f 1
  have f2 := f 2
  have f3 := f 3
  have h2 := bxC_set4 h1 b1
  have hm2 : Mod [p] w ((((w1.setCell ⟨p, 0, none⟩ (.float .f32 b1.x0)).setCell ⟨p, 1, none⟩ (.float .f32 b1.y0)).setCell ⟨p, 2, none⟩ (.float .f32 b1.x1)).setCell ⟨p, 3, none⟩ (.float .f32 b1.y1)) := hm1.nil.trans (mod_set4 _ _ _ _ _ _)
  have H2 := hideIt h2
  have HM2 := hideIt hm2
  clear f h1 h2 hm1 hm2 c4 c5 HT H
  go_wp2_with fail
  clear d0 d1 d2 d3 f0 f1 f2 f3
  generalize ((((w1.setCell ⟨p, 0, none⟩ (.float .f32 b1.x0)).setCell ⟨p, 1, none⟩ (.float .f32 b1.y0)).setCell ⟨p, 2, none⟩ (.float .f32 b1.x1)).setCell ⟨p, 3, none⟩ (.float .f32 b1.y1)) = w2 at *
  obtain ⟨c4, c5⟩ := cell_ndO H2.out
  go_region_held (fun w' => w'.cell? ⟨p, 5, none⟩ = some bv ∧ Mod [p] w w')
    ((first
      | exact ⟨(cell_ndO hg).2, Mod.trans (by simp only [*]) hmg⟩
      | exact ⟨cell_mod (Mod.drew _) (by simp only [*]), HM2.out.trans (Mod.drew _)⟩
      | exact ⟨cell_mod hm (by simp only [*]), Mod.trans (by simp only [*]) hm.nil⟩))
    ((first
      | (go_at_call 97; refine (HB.out _ (by simp only [*])).mono ?_; rintro e w' ⟨rfl, hm⟩)
      | (go_at_call 92; refine (grow_any (b := b1) (o := b2) (rest := [tv, bv]) (T := 116) ((hm.block p (lt_of_block H2.out) (by simp)).trans H2.out) n1 n2).mono ?_; rintro e w'' ⟨rfl, hmg, hg⟩)))
  rename_i hheld
  have hfin := hheld.2
  have HF := hideIt (And.intro hfin hg)
  clear hheld hfin hg hmg hm c4 c5
  go_wp2
  exact bodyPost_ret (v := .tuple #[]) (by simp [results, Tryz.results59, go_sem]) rfl ⟨rfl, HF.out.1, HF.out.2⟩

/-- of a leaf -/
theorem fit_leaf {w : World} {p : Nat} {b : Bx} {tv : Value} {ts : List Tg} (h : w.heap[p]? = some (ndO b tv (.slice none 0 0))) (hr : w.ownsRow 0 103 1 tv ts.length (ptrs (tblks ts))) (hT : ∀ t ∈ ts, TgAt w t) (hn : ts.length ≤ 1000) :
    Calls Tryz.prog 59 #[.pointer (some ⟨p, 0, none⟩)] w (FitPost p tv (.slice none 0 0) (ts.map Tg.bx) w) := by
  have hok : ∀ x ∈ ts.map Tg.bx, x.Ok := fun x hx => by
    obtain ⟨t, ht, rfl⟩ := List.mem_map.1 hx
    exact Bx.of_ok (hT t ht).rect
  have hnum : (around (ts.map Tg.bx)).Num := around_num fun x hx => (hok x hx).num
  refine (fit_any (b1 := around (ts.map Tg.bx)) (b2 := Bx.none) h (fun W hW => ?_) (fun W _ => aroundN_nil W) hnum Bx.none_num).mono ?_
  · rcases ownV hr with ⟨rfl, h0⟩ | ⟨g, c, rfl⟩
    · have : ts = [] := List.eq_nil_of_length_eq_zero h0
      subst this
      exact aroundT_nil W
    · obtain ⟨rest, hro, _, _, _, _, _⟩ := owns_rowT hr
      have := aroundT_some (w := W) (blk := g) (off := 0) (m := ts.length) (c := c) (l := ts.map fun t => (t.blk, t.bx)) ⟨fun j x hx => by
        simp only [List.getElem?_map, Option.map_eq_some_iff] at hx
        obtain ⟨t, ht, rfl⟩ := hx
        rw [Nat.zero_add]
        exact cell_mod hW (rowO_get hro (by simp [tblks, ht])), fun x hx => by
        obtain ⟨t, ht, rfl⟩ := List.mem_map.1 hx
        exact ⟨HasBx.kept ⟨_, (hT t ht).here⟩ hW (by simp), (Bx.of_ok (hT t ht).rect).num⟩⟩ (by simp) hn
      rw [List.map_map] at this
      exact this
  · rintro e w' ⟨rfl, hm, hh⟩
    refine ⟨_, rfl, hm, hh, Bx.grow_num hnum Bx.none_num, fun x hx => Bx.grow_in (around_in hx), fun hne => ?_, fun he => ?_⟩
    · have := around_ok hne hok
      rw [Bx.grow_none this]
      exact this
    · rw [he]
      exact none_none

/-- of a node that is none -/
theorem fit_inner {w : World} {p : Nat} {b : Bx} {bv : Value} {ks : List Kd} (h : w.heap[p]? = some (ndO b (.slice none 0 0) bv)) (hr : w.ownsRow 0 105 1 bv ks.length (ptrs (kblks ks))) (hK : ∀ c ∈ ks, HasBx w c.p 116 c.bx ∧ c.bx.Ok ∧ c.p ≠ p) (hg : ∀ g, bv.ownBlock = some g → g ≠ p) (hn : ks.length ≤ 1000) :
    Calls Tryz.prog 59 #[.pointer (some ⟨p, 0, none⟩)] w (FitPost p (.slice none 0 0) bv (ks.map Kd.bx) w) := by
  have hok : ∀ x ∈ ks.map Kd.bx, x.Ok := fun x hx => by
    obtain ⟨t, ht, rfl⟩ := List.mem_map.1 hx
    exact (hK t ht).2.1
  have hnum : (around (ks.map Kd.bx)).Num := around_num fun x hx => (hok x hx).num
  refine (fit_any (b1 := Bx.none) (b2 := around (ks.map Kd.bx)) h (fun W _ => aroundT_nil W) (fun W hW => ?_) Bx.none_num hnum).mono ?_
  · rcases ownV hr with ⟨rfl, h0⟩ | ⟨g, c, rfl⟩
    · have : ks = [] := List.eq_nil_of_length_eq_zero h0
      subst this
      exact aroundN_nil W
    · obtain ⟨rest, hro, _, _, _, _, _⟩ := owns_rowT hr
      have hro' := (hW.block g (lt_of_block hro) (by simpa using hg g rfl)).trans hro
      have := aroundN_some (w := W) (blk := g) (off := 0) (m := ks.length) (c := c) (l := ks.map fun t => (t.p, t.bx)) ⟨fun j x hx => by
        simp only [List.getElem?_map, Option.map_eq_some_iff] at hx
        obtain ⟨t, ht, rfl⟩ := hx
        rw [Nat.zero_add]
        exact rowO_get hro' (by simp [kblks, ht]), fun x hx => by
        obtain ⟨t, ht, rfl⟩ := List.mem_map.1 hx
        exact ⟨(hK t ht).1.kept hW (by simpa using (hK t ht).2.2), (hK t ht).2.1.num⟩⟩ (by simp) hn
      rw [List.map_map] at this
      exact this
  · rintro e w' ⟨rfl, hm, hh⟩
    refine ⟨_, rfl, hm, hh, Bx.grow_num Bx.none_num hnum, fun x hx => Bx.grow_in' (around_in hx), fun hne => ?_, fun he => ?_⟩
    · have := around_ok hne hok
      rw [Bx.none_grow this]
      exact this
    · rw [he]
      exact none_none

end Go.Proofs.YtmfdlacmlnginaaGreat

