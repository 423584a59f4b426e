import Derived.Test.YthimaoipogocfaaGreatM03
import Derived.Test.YthimaoipogocfaaGreatJ13
import Derived.Deep.LoopGhost
import Derived.Test.YthimaoipogocfaaGreatJ20
namespace Go.Proofs.YthimaoipogocfaaGreat
open Go.RowKit

/-! ### what waits, and what was told: the search's own law -/
inductive Wait (P : Wt → Nat → Prop) : List Wt → Nat → Prop
  | nil : Wait P [] 0
  | cons {e l m n} : P e m → Wait P l n → Wait P (e :: l) (m + n)
theorem Wait.perm {P : Wt → Nat → Prop} {l l' : List Wt} (h : l.Perm l') : ∀ {n}, Wait P l n → Wait P l' n := by
  induction h with
  | nil => exact fun h => h
  | cons x _ ih => intro n h; cases h with | cons h1 h2 => exact .cons h1 (ih h2)
  | swap x y l =>
    intro n h
    cases h with
    | cons h1 h2 =>
      cases h2 with
      | cons h2 h3 => rw [Nat.add_left_comm]; exact .cons h2 (.cons h1 h3)
  | trans _ _ ih1 ih2 => exact fun h => ih2 (ih1 h)
theorem Wait.append {P : Wt → Nat → Prop} {l l' : List Wt} {n n' : Nat} (h : Wait P l n) (h' : Wait P l' n') : Wait P (l ++ l') (n + n') := by
  induction h with
  | nil => simpa using h'
  | cons h1 _ ih => rw [List.cons_append, Nat.add_assoc]; exact .cons h1 ih
theorem Wait.mem {P : Wt → Nat → Prop} {l : List Wt} {n : Nat} (h : Wait P l n) : ∀ e ∈ l, ∃ m, P e m := by
  induction h with
  | nil => intro e he; cases he
  | cons h1 _ ih =>
    intro e he
    rcases List.mem_cons.1 he with rfl | he
    · exact ⟨_, h1⟩
    · exact ih e he
theorem Wait.mono {P Q : Wt → Nat → Prop} {l : List Wt} {n : Nat} (h : Wait P l n) (hpq : ∀ e m, P e m → Q e m) : Wait Q l n := by
  induction h with
  | nil => exact .nil
  | cons h1 _ ih => exact .cons (hpq _ _ h1) ih

def tgH (x y : Int) (t : Tg) : Ht := ⟨t.id, tgFar x y t⟩
structure NdOk (w : World) (fan lo : Nat) (x y : Int) (F : List Nat) (e : Wt) (m h : Nat) (c : Kd) : Prop where
  node : NodeAt w fan lo h c
  foot : ∀ z ∈ c.F, z ∈ F
  nd : e.nd = some c.p
  ts : e.ts = c.ts
  far : ∀ t ∈ c.ts, e.far ≤ tgFar x y t
  ids : ∀ t ∈ c.ts, 0 ≤ t.id
  num : m = (h + 2) * c.ts.length + 1
def WtOk (w : World) (fan lo : Nat) (x y : Int) (F : List Nat) (e : Wt) (m : Nat) : Prop := (∃ t, e = tgW x y t ∧ 0 ≤ t.id ∧ m = 1) ∨ ∃ h c, NdOk w fan lo x y F e m h c
theorem WtOk.kept {w w' : World} {fan lo : Nat} {x y : Int} {F G : List Nat} {e : Wt} {m : Nat} (h : WtOk w fan lo x y F e m) (hm : Mod G w w') (hf : ∀ z ∈ F, z ∉ G) : WtOk w' fan lo x y F e m := by
  rcases h with h | ⟨h, c, k⟩
  · exact .inl h
  · exact .inr ⟨h, c, k.node.kept hm (fun z hz => hf z (k.foot z hz)), k.foot, k.nd, k.ts, k.far, k.ids, k.num⟩

def pend (l : List Wt) : List Tg := l.flatMap (·.ts)
theorem pend_perm {l l' : List Wt} (h : l.Perm l') : (pend l).Perm (pend l') := h.flatMap_right _
theorem pend_append (l l' : List Wt) : pend (l ++ l') = pend l ++ pend l' := by simp [pend]
def NdIds (l : List Wt) : Prop := ∀ e ∈ l, e.nd ≠ none → e.id = -1 ∧ e.ts ≠ []

/-- where a search stands -/
structure Seek (w : World) (fan lo : Nat) (x y : Int) (F : List Nat) (all : List Tg) (hs : List Ht) (l : List Wt) (n : Nat) : Prop where
  wait : Wait (WtOk w fan lo x y F) l n
  ids : NdIds l ∨ ∃ e, l = [e]
  perm : (hs ++ (pend l).map (tgH x y)).Perm (all.map (tgH x y))
  sort : hs.Pairwise (fun a b => hle a b = true)
  below : ∀ a ∈ hs, ∀ b ∈ (pend l).map (tgH x y), hle a b = true

theorem Seek.kept {w w' : World} {fan lo : Nat} {x y : Int} {F G : List Nat} {all : List Tg} {hs : List Ht} {l : List Wt} {n : Nat} (h : Seek w fan lo x y F all hs l n) (hm : Mod G w w') (hf : ∀ z ∈ F, z ∉ G) : Seek w' fan lo x y F all hs l n :=
  ⟨h.wait.mono (fun _ _ k => k.kept hm hf), h.ids, h.perm, h.sort, h.below⟩

theorem ids_rest {l l' : List Wt} {e : Wt} (h : NdIds l ∨ ∃ e, l = [e]) (hp : (e :: l').Perm l) : NdIds l' := by
  rcases h with h | ⟨e', rfl⟩
  · exact fun a ha => h a (hp.mem_iff.1 (by simp [ha]))
  · have : l' = [] := List.eq_nil_of_length_eq_zero (by have := hp.length_eq; simpa using this)
    subst this
    intro a ha
    cases ha

/-- a thing is the nearest of all that wait: it is told -/
theorem Seek.thing {w : World} {fan lo : Nat} {x y : Int} {F : List Nat} {all : List Tg} {hs : List Ht} {l l' : List Wt} {n : Nat} (h : Seek w fan lo x y F all hs l n) (hh : HeapW l l.length) (hp : (wat l 0 :: l').Perm l) (hn : (wat l 0).nd = none) :
    ∃ n', n' < n ∧ Seek w fan lo x y F all (hs ++ [⟨(wat l 0).id, (wat l 0).far⟩]) l' n' := by
  have hwt := h.wait.perm hp.symm
  have hl : ∀ e ∈ l, (wat l 0).le e := fun e he => by
    obtain ⟨k, hk, rfl⟩ := List.getElem_of_mem he
    have := hh.least k hk
    have e1 := wat_get hk
    rw [List.getElem?_eq_getElem hk] at e1
    rw [Option.some.inj e1]
    exact this
  have hids := ids_rest h.ids hp
  generalize wat l 0 = e0 at *
  cases hwt with
  | @cons _ _ m n' h1 h2 =>
    rcases h1 with ⟨t, rfl, ht0, rfl⟩ | ⟨h', c, k⟩
    · have hpp : (pend l).Perm (t :: pend l') := (pend_perm hp).symm
      have hm : ((pend l).map (tgH x y)).Perm (tgH x y t :: (pend l').map (tgH x y)) := hpp.map _
      refine ⟨n', by omega, h2, .inl hids, ?_, ?_, ?_⟩
      · refine List.Perm.trans ?_ h.perm
        rw [List.append_assoc]
        exact (hm.symm).append_left hs
      · refine List.pairwise_append.2 ⟨h.sort, by simp, fun a ha b hb => ?_⟩
        simp only [List.mem_singleton] at hb
        subst hb
        exact h.below a ha _ (hm.mem_iff.2 (by simp [tgH, tgW]))
      · intro a ha b hb
        rcases List.mem_append.1 ha with ha | ha
        · exact h.below a ha b (hm.mem_iff.2 (by simp [hb]))
        · simp only [List.mem_singleton] at ha
          subst ha
          obtain ⟨u, hu, rfl⟩ := List.mem_map.1 hb
          obtain ⟨e, he, hue⟩ := List.mem_flatMap.1 hu
          have hle := hl e (hp.mem_iff.1 (by simp [he]))
          obtain ⟨m, hm⟩ := h2.mem e he
          rcases hm with ⟨t', rfl, _, _⟩ | ⟨h', c, k⟩
          · simp only [tgW, List.mem_singleton] at hue
            subst hue
            rw [hle_iff]
            exact hle
          · obtain ⟨i1, _⟩ := hids e he (by rw [k.nd]; simp)
            rw [k.ts] at hue
            have hf := k.far u hue
            rw [hle_iff]
            unfold Wt.le at hle
            simp only [tgW, tgH] at hle ⊢
            omega
    · rw [k.nd] at hn
      cases hn

/-- what a node leaves when it is opened -/
structure Opens (w : World) (fan lo : Nat) (x y : Int) (F : List Nat) (c : Kd) (h : Nat) (es : List Wt) : Prop where
  wait : ∃ m, m < (h + 2) * c.ts.length + 1 ∧ Wait (WtOk w fan lo x y F) es m
  ids : NdIds es
  all : pend es = c.ts

theorem Seek.total {w : World} {fan lo : Nat} {x y : Int} {F : List Nat} {all : List Tg} {hs : List Ht} {l : List Wt} {n : Nat} (h : Seek w fan lo x y F all hs l n) : hs.length + (pend l).length = all.length := by
  have := h.perm.length_eq
  simpa using this
theorem pend_long {w : World} {fan lo : Nat} {x y : Int} {F : List Nat} {l : List Wt} {n : Nat} (hw : Wait (WtOk w fan lo x y F) l n) (hi : NdIds l) : l.length ≤ (pend l).length := by
  induction hw with
  | nil => simp
  | @cons e l m n h1 h2 ih =>
    have ih := ih (fun a ha => hi a (by simp [ha]))
    have : 1 ≤ e.ts.length := by
      rcases h1 with ⟨t, rfl, _⟩ | ⟨h, c, k⟩
      · simp [tgW]
      · have := (hi e (by simp) (by rw [k.nd]; simp)).2
        cases he : e.ts with
        | nil => exact absurd he this
        | cons _ _ => simp
    simp only [pend, List.flatMap_cons, List.length_append, List.length_cons] at ih ⊢
    omega
theorem Seek.node {w : World} {fan lo : Nat} {x y : Int} {F : List Nat} {all : List Tg} {hs : List Ht} {l l' : List Wt} {n p : Nat} (h : Seek w fan lo x y F all hs l n) (hp : (wat l 0 :: l').Perm l) (hn : (wat l 0).nd = some p) :
    ∃ h' c, NodeAt w fan lo h' c ∧ c.p = p ∧ (∀ z ∈ c.F, z ∈ F) ∧ (∀ t ∈ c.ts, 0 ≤ t.id) ∧ c.ts.length + l'.length ≤ all.length ∧ ∀ es l'', Opens w fan lo x y F c h' es → l''.Perm (es ++ l') → ∃ n', n' < n ∧ Seek w fan lo x y F all hs l'' n' := by
  have hwt := h.wait.perm hp.symm
  have hids := ids_rest h.ids hp
  generalize wat l 0 = e0 at *
  cases hwt with
  | @cons _ _ m n' h1 h2 =>
    rcases h1 with ⟨t, rfl, ht0, rfl⟩ | ⟨h', c, k⟩
    · cases hn
    · refine ⟨h', c, k.node, ?_, k.foot, k.ids, ?_, fun es l'' ho hl => ?_⟩
      · have := k.nd
        rw [hn] at this
        exact (Option.some.inj this).symm
      · have h3 := pend_long h2 hids
        have h4 := (pend_perm hp).length_eq
        have h5 := h.total
        simp only [pend, List.flatMap_cons, List.length_append, k.ts] at h3 h4 h5
        omega
      · obtain ⟨m', hm, hw⟩ := ho.wait
        have hpp : (pend l).Perm (pend l'') := by
          refine (pend_perm hp).symm.trans (List.Perm.trans ?_ (pend_perm hl).symm)
          rw [pend_append, ho.all, ← k.ts]
          exact List.Perm.refl _
        refine ⟨m' + n', ?_, (hw.append h2).perm hl.symm, .inl (fun e he => ?_), ((hpp.map _).symm.append_left hs).trans h.perm, h.sort, fun a ha b hb => h.below a ha b ((hpp.map _).mem_iff.2 hb)⟩
        · have := k.num
          omega
        · rcases List.mem_append.1 (hl.mem_iff.1 he) with he | he
          · exact ho.ids e he
          · exact hids e he

theorem opens_leaf {w : World} {fan lo : Nat} {x y : Int} {F : List Nat} {c : Kd} (hid : ∀ t ∈ c.ts, 0 ≤ t.id) : Opens w fan lo x y F c 0 (c.ts.map (tgW x y)) := by
  refine ⟨⟨c.ts.length, by omega, ?_⟩, fun e he => ?_, ?_⟩
  · generalize c.ts = ts at *
    induction ts with
    | nil => exact .nil
    | cons t ts ih =>
      have := ih (fun u hu => hid u (by simp [hu]))
      rw [List.map_cons, List.length_cons, Nat.add_comm]
      exact .cons (.inl ⟨t, rfl, hid t (by simp), rfl⟩) this
  · obtain ⟨t, _, rfl⟩ := List.mem_map.1 he
    intro h
    exact absurd rfl h
  · generalize c.ts = ts at *
    clear hid
    induction ts with
    | nil => rfl
    | cons t ts ih =>
      simp only [pend, List.map_cons, List.flatMap_cons] at ih ⊢
      rw [ih]
      rfl

theorem opens_inner {w : World} {fan lo h : Nat} {x y : Int} {F : List Nat} {c : Kd} {bv : Value} {ks : List Kd} (h0 : 0 < lo) (hi : InnerAt w c bv ks) (hK : ∀ d ∈ ks, KidOk w fan lo h d) (hF : ∀ z ∈ c.F, z ∈ F) (hid : ∀ t ∈ c.ts, 0 ≤ t.id) : Opens w fan lo x y F c (h + 1) (ks.map (kdW x y)) := by
  have hts := hi.things
  have hkF := fun d hd => hi.kid_F (c := d) hd
  have hid' : ∀ d ∈ ks, ∀ t ∈ d.ts, 0 ≤ t.id := fun d hd t ht => hid t (by rw [hts]; exact List.mem_flatMap.2 ⟨d, hd, ht⟩)
  have hF' : ∀ d ∈ ks, ∀ z ∈ d.F, z ∈ F := fun d hd z hz => hF z (hkF d hd z hz)
  clear hkF hi hF hid
  refine ⟨?_, fun e he => ?_, ?_⟩
  · have key : ∃ m, m ≤ (h + 3) * (kts ks).length ∧ Wait (WtOk w fan lo x y F) (ks.map (kdW x y)) m := by
      clear hts
      induction ks with
      | nil => exact ⟨0, by omega, .nil⟩
      | cons d ks ih =>
        obtain ⟨m, hm, hw⟩ := ih (fun e he => hK e (by simp [he])) (fun e he => hid' e (by simp [he])) (fun e he => hF' e (by simp [he]))
        have hd := hK d (by simp)
        have hne := hd.ts h0
        have hlen : 1 ≤ d.ts.length := by
          cases e : d.ts with
          | nil => exact absurd e hne
          | cons _ _ => simp
        refine ⟨((h + 2) * d.ts.length + 1) + m, ?_, .cons (.inr ⟨h, d, hd.1, hF' d (by simp), rfl, rfl, fun t ht => ?_, hid' d (by simp), rfl⟩) hw⟩
        · simp only [kts, List.flatMap_cons, List.length_append] at hm ⊢
          rw [Nat.mul_add]
          have : (h + 3) * d.ts.length = (h + 2) * d.ts.length + d.ts.length := by rw [show h + 3 = (h + 2) + 1 from rfl, Nat.add_mul, Nat.one_mul]
          omega
        · exact bxFar_le (NodeAt.thing hd.1 t ht).1.rect (hd.1.ok.cover t ht)
    obtain ⟨m, hm, hw⟩ := key
    exact ⟨m, by rw [show h + 1 + 2 = h + 3 from rfl, hts]; omega, hw⟩
  · obtain ⟨d, hd, rfl⟩ := List.mem_map.1 he
    exact fun _ => ⟨rfl, (hK d hd).ts h0⟩
  · rw [hts]
    clear hK hid' hF' hts
    induction ks with
    | nil => rfl
    | cons d ks ih =>
      simp only [pend, kts, List.map_cons, List.flatMap_cons] at ih ⊢
      rw [ih]
      rfl

end Go.Proofs.YthimaoipogocfaaGreat

namespace Go.Proofs.YthimaoipogocfaaGreat
open Go.RowKit
attribute [local go_sem] run_store_f32 run_neg_inf

theorem tgFar_pos (x y : Int) (t : Tg) : 0 ≤ tgFar x y t := Int.add_nonneg (Int.mul_nonneg (besI_pos _ _ _) (besI_pos _ _ _)) (Int.mul_nonneg (besI_pos _ _ _) (besI_pos _ _ _))

/-! ### open, at every height -/
def OpensPost (fan lo : Nat) (x y : Int) (F : List Nat) (c : Kd) (h qb : Nat) (l : List Wt) (G : List Nat) (w : World) (e : Ending) (w' : World) : Prop := e = .returned (.tuple #[]) ∧ ∃ es, Opens w fan lo x y F c h es ∧ Opened qb es l G w w'

theorem NodeAt.n_le {w : World} {fan lo h : Nat} {c : Kd} (h0 : 0 < lo) (hN : NodeAt w fan lo h c) : c.n ≤ c.ts.length := by
  have := (NodeAt.size hN).1
  have hp : 1 ≤ lo ^ h := Nat.pow_pos h0
  have := Nat.mul_le_mul_left c.n hp
  omega

theorem open_any {w : World} {x y : Int} (hx : Near9 x) (hy : Near9 y) {fan lo h : Nat} {c : Kd} {F : List Nat} (h0 : 0 < lo) (hN : NodeAt w fan lo h c) (hF : ∀ z ∈ c.F, z ∈ F) (hid : ∀ t ∈ c.ts, 0 ≤ t.id) {qb : Nat} {l : List Wt} {v : Value} (hq : QHeap w qb l v) (hG : ∀ z ∈ F, z ∉ qb :: v.ownBlock.toList) (hn : c.ts.length + l.length ≤ 90000) :
    Calls Tryz.prog 75 #[.pointer (some ⟨qb, 0, none⟩), .pointer (some ⟨c.p, 0, none⟩), .int .i64 x, .int .i64 y] w (OpensPost fan lo x y F c h qb l (qb :: v.ownBlock.toList) w) := by
  have hle := NodeAt.n_le h0 hN
  have hG' : ∀ z ∈ c.F, z ∉ qb :: v.ownBlock.toList := fun z hz => hG z (hF z hz)
  cases h with
  | zero =>
    obtain ⟨tv, hl⟩ := hN
    have ho := opens_leaf (w := w) (fan := fan) (lo := lo) (x := x) (y := y) (F := F) hid
    rcases ownV hl.row with ⟨rfl, h0⟩ | ⟨r, cc, rfl⟩
    · have hts : c.ts = [] := List.eq_nil_of_length_eq_zero (by rw [hl.len, h0])
      rw [hts] at ho
      exact (open_none hl.here hq).mono fun _ _ h => ⟨h.1, _, ho, h.2⟩
    · exact (open_leaf hx hy hl hq hG' (by omega)).mono fun _ _ h => ⟨h.1, _, ho, h.2⟩
  | succ h =>
    obtain ⟨bv, ks, hi, hK⟩ := hN
    have ho := opens_inner (x := x) (y := y) (F := F) h0 hi hK hF hid
    rcases ownV hi.row with ⟨rfl, h1⟩ | ⟨r, cc, rfl⟩
    · have hk0 : ks = [] := List.eq_nil_of_length_eq_zero (by rw [hi.len, h1])
      subst hk0
      exact (open_none hi.here hq).mono fun _ _ h => ⟨h.1, _, ho, h.2⟩
    · exact (open_inner hx hy h0 hi hK hq hG' (by omega)).mono fun _ _ h => ⟨h.1, _, ho, h.2⟩

/-! ### the hits in memory -/
def htCells (e : Ht) : List Value := [.int .i64 e.id, .int .i64 e.far]
def htsV (l : List Ht) : List Value := l.flatMap htCells
theorem htsV_length (l : List Ht) : (htsV l).length = l.length * 2 := by
  induction l with
  | nil => rfl
  | cons a l ih => simp only [htsV, List.flatMap_cons, List.length_append] at ih ⊢; rw [ih]; simp [htCells]; omega
theorem htsV_append (l m : List Ht) : htsV (l ++ m) = htsV l ++ htsV m := by simp [htsV]
theorem infoH : (Tryz.prog.info? 50).map (fun i => (i.zero, i.size, i.bytes)) = some (some (.agg #[.int .i64 0, .int .i64 0]), 2, 16) := by kernel_rfl
theorem htsV_one (l : List Ht) : ∀ u ∈ htsV l, u.oneCell' = true := by
  intro u hu
  obtain ⟨e, _, hu⟩ := List.mem_flatMap.1 hu
  simp [htCells] at hu
  rcases hu with rfl | rfl <;> rfl

/-- what is told: a row of its own -/
def NearPost (hs : List Ht) (w : World) (e : Ending) (w' : World) : Prop := ∃ v, e = .returned v ∧ w'.ownsRow 0 50 2 v hs.length (htsV hs) ∧ (∀ z ∈ v.ownBlock.toList, w.heap.size ≤ z) ∧ Mod [] w w'

theorem qlen_row {w : World} {T : TypeId} {v : Value} {n : Nat} {xs : List Value} (h : w.ownsRow 0 T 3 v n xs) : Calls Tryz.prog 73 #[v] w fun e w' => e = .returned (.int .i64 n) ∧ w = w' := by
  rcases h.2 with ⟨rfl, rfl⟩ | ⟨g, c, _, rfl, _⟩
  · exact qlen_nil
  · exact qlen_any
theorem owns_slice {w : World} {T : TypeId} {s : Nat} {v : Value} {n : Nat} {xs : List Value} (h : w.ownsRow 0 T s v n xs) : ∃ a c, v = .slice a n c := by
  rcases h.2 with ⟨rfl, rfl⟩ | ⟨g, c, _, rfl, _⟩
  · exact ⟨_, _, rfl⟩
  · exact ⟨_, _, rfl⟩
theorem owns_type {w : World} {T : TypeId} {s : Nat} {v : Value} {n : Nat} {xs : List Value} (h : w.ownsRow 0 T s v n xs) : ∀ z ∈ v.ownBlock.toList, ∃ cur, w.heap[z]? = some (.cells cur T (0, 0)) := by
  intro z hz
  rcases h.2 with ⟨rfl, _⟩ | ⟨g, c, cur, rfl, _, hh, _⟩
  · simp [Value.ownBlock] at hz
  · simp [Value.ownBlock] at hz
    subst hz
    exact ⟨cur, hh⟩

/-- where the search stands, in memory -/
structure Looked (w : World) (fan lo : Nat) (x y : Int) (F : List Nat) (ts : List Tg) (most gk : Nat) (hs : List Ht) (l : List Wt) (hv v : Value) (wr : World) : Prop where
  q : QHeap wr (w.heap.size + 1) l v
  vnew : ∀ z ∈ v.ownBlock.toList, w.heap.size ≤ z
  row : wr.ownsRow 0 50 2 hv hs.length (htsV hs)
  hnew : ∀ z ∈ hv.ownBlock.toList, w.heap.size ≤ z
  seek : Seek wr fan lo x y F ts hs l gk
  len : hs.length ≤ most
  m : Mod [] w wr
  low : ∀ z ∈ F, z < w.heap.size

theorem Seek.long {w : World} {fan lo : Nat} {x y : Int} {F : List Nat} {all : List Tg} {hs : List Ht} {l : List Wt} {n : Nat} (h : Seek w fan lo x y F all hs l n) : l.length ≤ all.length + 1 := by
  have ht := h.total
  rcases h.ids with hi | ⟨e, rfl⟩
  · have := pend_long h.wait hi
    omega
  · simp

theorem htsV_snoc (hs : List Ht) (id far : Int) : catL (htsV hs) [.int .i64 id, .int .i64 far] = htsV (hs ++ [⟨id, far⟩]) := by
  rw [htsV_append]
  simp [catL, htsV, htCells]

theorem qb_ne {w : World} {T U : TypeId} {s : Nat} {v : Value} {n : Nat} {xs : List Value} {cs : Array Value} {p : Nat} (h : w.ownsRow 0 T s v n xs) (hp : w.heap[p]? = some (.cells cs U (0, 0))) (hne : U ≠ T) : p ∉ v.ownBlock.toList := fun hx => by
  obtain ⟨cur, hc⟩ := owns_type h p hx
  rw [hp] at hc
  simp only [Option.some.injEq, Obj.cells.injEq] at hc
  exact hne hc.2.1

/-- the nearest was taken off the queue -/
structure Popped (w : World) (fan lo : Nat) (x y : Int) (F : List Nat) (ts : List Tg) (most gk : Nat) (hs : List Ht) (l l' : List Wt) (hv v : Value) (w3 : World) : Prop where
  q : QHeap w3 (w.heap.size + 1) l' v
  vnew : ∀ z ∈ v.ownBlock.toList, w.heap.size ≤ z
  row : w3.ownsRow 0 50 2 hv hs.length (htsV hs)
  hnew : ∀ z ∈ hv.ownBlock.toList, w.heap.size ≤ z
  seek : Seek w3 fan lo x y F ts hs l gk
  heap : HeapW l l.length
  perm : (wat l 0 :: l').Perm l
  len : hs.length < most
  m : Mod [] w w3
  low : ∀ z ∈ F, z < w.heap.size

theorem Looked.pop {w : World} {fan lo : Nat} {x y : Int} {F : List Nat} {ts : List Tg} {most gk g n c : Nat} {hs : List Ht} {l l' : List Wt} {hv : Value} {wr w2 w3 : World} (hL : Looked w fan lo x y F ts most gk hs l hv (.slice (some ⟨g, 0, none⟩) (n + 1) c) wr) (hmo : hs.length < most) (hq : QHeap w2 (w.heap.size + 1) l' (.slice (some ⟨g, 0, none⟩) n c)) (hp : (wat l 0 :: l').Perm l) (hm : Mod [w.heap.size + 1, g] wr w2) (hm3 : Mod [] w2 w3) :
    Popped w fan lo x y F ts most gk hs l l' hv (.slice (some ⟨g, 0, none⟩) n c) w3 := by
  have hg : w.heap.size ≤ g := hL.vnew g (by simp [Value.ownBlock])
  have hm4 : Mod [w.heap.size + 1, g] wr w3 := hm.trans hm3.nil
  refine ⟨hq.keep hm3, fun z hz => hL.vnew z (by simpa [Value.ownBlock] using hz), owns_kept hL.row hm4 (fun z hz => ?_), hL.hnew, hL.seek.kept hm4 (fun z hz => ?_), hL.q.heap, hp, hmo, hL.m.then hm4 (fun z hz => ?_), hL.low⟩
  · have hz' : z ∈ hv.ownBlock.toList := by rw [hz]; simp
    intro hzz
    rcases List.mem_cons.1 hzz with rfl | hzz
    · exact qb_ne hL.row hL.q.q.here (by decide) hz'
    · simp only [List.mem_singleton] at hzz
      subst hzz
      obtain ⟨cur, hc⟩ := owns_type hL.q.q.row z (by simp [Value.ownBlock])
      exact qb_ne hL.row hc (by decide) hz'
  · have := hL.low z hz
    simp
    omega
  · rcases List.mem_cons.1 hz with rfl | hz
    · exact .inr (by omega)
    · simp only [List.mem_singleton] at hz
      subst hz
      exact .inr hg

theorem Popped.thing {w : World} {fan lo : Nat} {x y : Int} {F : List Nat} {ts : List Tg} {most gk g5 c5 : Nat} {hs : List Ht} {l l' : List Wt} {hv v : Value} {w3 w4 w5 : World} (hP : Popped w fan lo x y F ts most gk hs l l' hv v w3) (hnd : (wat l 0).nd = none) (hm4 : Mod [] w3 w4) (ho : w5.ownsRow 0 50 2 (.slice (some ⟨g5, 0, none⟩) (hs.length + 1) c5) (hs.length + 1) (catL (htsV hs) [.int .i64 (wat l 0).id, .int .i64 (wat l 0).far])) (hm5 : Mod hv.ownBlock.toList w4 w5) (hat : hv.ownBlock = some g5 ∨ g5 = w4.heap.size) :
    ∃ gk', gk' < gk ∧ ∃ hs' l'' v', Hid (Looked w fan lo x y F ts most gk' hs' l'' (.slice (some ⟨g5, 0, none⟩) (hs.length + 1) c5) v' w5) := by
  have hm : Mod hv.ownBlock.toList w3 w5 := hm4.nil.trans hm5
  have hs3 := hP.m.size
  have hs4 := hm4.size
  have hF : ∀ z ∈ F, z ∉ hv.ownBlock.toList := fun z hz h => by
    have h1 := hP.low z hz
    have h2 := hP.hnew z h
    omega
  obtain ⟨gk', hlt, hse⟩ := (hP.seek.kept hm hF).thing hP.heap hP.perm hnd
  refine ⟨gk', hlt, hs ++ [⟨(wat l 0).id, (wat l 0).far⟩], l', v, hideIt ⟨⟨hP.q.q.kept hm ?_ (fun z hz => ?_), hP.q.heap⟩, hP.vnew, ?_, fun z hz => ?_, hse, ?_, hP.m.then hm (fun z hz => .inr (hP.hnew z hz)), hP.low⟩⟩
  · exact qb_ne hP.row hP.q.q.here (by decide)
  · obtain ⟨cur, hc⟩ := owns_type hP.q.q.row z hz
    exact qb_ne hP.row hc (by decide)
  · rw [htsV_snoc] at ho
    rw [List.length_append]
    exact ho
  · simp [Value.ownBlock] at hz
    subst hz
    rcases hat with h | h
    · exact hP.hnew z (by rw [h]; simp)
    · omega
  · have := hP.len
    rw [List.length_append]
    exact this

theorem Popped.node {w : World} {fan lo : Nat} {x y : Int} (hx : Near9 x) (hy : Near9 y) (h0 : 0 < lo) {F : List Nat} {ts : List Tg} {most gk p : Nat} {hs : List Ht} {l l' : List Wt} {hv v : Value} {w3 : World} (hP : Popped w fan lo x y F ts most gk hs l l' hv v w3) (hnd : (wat l 0).nd = some p) (hlen : ts.length ≤ 5000) :
    Calls Tryz.prog 75 #[.pointer (some ⟨w.heap.size + 1, 0, none⟩), .pointer (some ⟨p, 0, none⟩), .int .i64 x, .int .i64 y] w3 (fun e w5 => e = .returned (.tuple #[]) ∧ ∃ gk', gk' < gk ∧ ∃ hs' l'' v', Hid (Looked w fan lo x y F ts most gk' hs' l'' hv v' w5)) := by
  obtain ⟨h', c, hN, rfl, hcF, hid, hln, hgo⟩ := hP.seek.node hP.perm hnd
  have hlen' : c.ts.length + l'.length ≤ 90000 := by omega
  refine (open_any hx hy h0 hN hcF hid hP.q (fun z hz hzz => ?_) hlen').mono ?_
  · have h1 := hP.low z hz
    rcases List.mem_cons.1 hzz with rfl | hzz
    · omega
    · have := hP.vnew z hzz
      omega
  · rintro e w5 ⟨rfl, es, hO, hOp⟩
    obtain ⟨l'', v', k1, k2, k3, k4⟩ := hOp.out
    obtain ⟨gk', hlt, hse⟩ := hgo es l'' hO k2
    have hs3 := hP.m.size
    have hq1 := qb_ne hP.row hP.q.q.here (by decide)
    refine ⟨rfl, gk', hlt, hs, l'', v', hideIt ⟨k1, fun z hz => ?_, owns_kept hP.row k4 (fun z hz => ?_), hP.hnew, hse.kept k4 (fun z hz => ?_), Nat.le_of_lt hP.len, hP.m.then k4 (fun z hz => ?_), hP.low⟩⟩
    · rcases k3 z hz with h | h
      · rcases List.mem_cons.1 h with rfl | h
        · omega
        · exact hP.vnew z h
      · omega
    · have hz' : z ∈ hv.ownBlock.toList := by rw [hz]; simp
      intro hzz
      rcases List.mem_cons.1 hzz with rfl | hzz
      · exact hq1 hz'
      · obtain ⟨cur, hc⟩ := owns_type hP.q.q.row z hzz
        exact qb_ne hP.row hc (by decide) hz'
    · have h1 := hP.low z hz
      intro hzz
      rcases List.mem_cons.1 hzz with rfl | hzz
      · omega
      · have := hP.vnew z hzz
        omega
    · rcases List.mem_cons.1 hz with rfl | hz
      · exact .inr (by omega)
      · exact .inr (hP.vnew z hz)

set_option maxRecDepth 100000 in
set_option maxHeartbeats 2000000 in
theorem bNear_any {w : World} {p fan : Nat} {ts : List Tg} {F : List Nat} (ht : TreeRep w p fan ts F) {x y : Int} (hx : Near9 x) (hy : Near9 y) (hid : ∀ t ∈ ts, 0 ≤ t.id) (hlen : ts.length ≤ 5000) {most : Nat} (hmost : most ≤ 9223372036854775807) :
    Calls Tryz.prog 45 #[.pointer (some ⟨p, 0, none⟩), .int .i64 x, .int .i64 y, .int .i64 most] w (NearPost ((sortH (ts.map (tgH x y))).take most) w) := by
  obtain ⟨bm, es, clock, h, k, ht, rfl⟩ := ht
  obtain ⟨c0, c1, c2⟩ := cell_trO ht.here
  obtain ⟨i0, hi, hz0, hz1, hz2⟩ := info_partsB infoH
  have HSTART := hideIt (show Looked w fan (leastF fan) x y k.F ts most ((h + 2) * k.ts.length + 1) [] [⟨0, 0, some k.p, k.ts⟩] (.slice none 0 0) (.slice (some ⟨w.heap.size, 0, none⟩) 1 1) ((w.alloc (.cells #[.int .i64 0, .int .i64 0, .pointer (some ⟨k.p, 0, none⟩)] 138)).alloc (.cells #[.slice (some ⟨w.heap.size, 0, none⟩) 1 1] 140)) from by
    have hm : Mod [] w ((w.alloc (.cells #[.int .i64 0, .int .i64 0, .pointer (some ⟨k.p, 0, none⟩)] 138)).alloc (.cells #[.slice (some ⟨w.heap.size, 0, none⟩) 1 1] 140)) := (Mod.alloc _ _).trans (Mod.alloc _ _)
    have hrow := owns_allocB (w := w) (cur := #[.int .i64 0, .int .i64 0, .pointer (some ⟨k.p, 0, none⟩)]) (e := 138) (n := 1) (size := 3) rfl (by decide) (base := 0) (Nat.zero_le _)
    have hnew := heap_alloc_new (w.alloc (.cells #[.int .i64 0, .int .i64 0, .pointer (some ⟨k.p, 0, none⟩)] 138)) (.cells #[.slice (some ⟨w.heap.size, 0, none⟩) 1 1] 140)
    refine ⟨⟨⟨?_, owns_kept hrow (Mod.alloc (F := []) _ _) (by simp), by simp [Value.ownBlock]⟩, fun j hj h0 => ?_⟩, by simp [Value.ownBlock], ⟨rfl, .inl ⟨rfl, rfl⟩⟩, by simp [Value.ownBlock], ⟨?_, .inr ⟨_, rfl⟩, ?_, List.Pairwise.nil, by simp⟩, by simp, hm, fun z hz => ht.node.lt z hz⟩
    · simpa using hnew
    · simp at hj
      omega
    · exact Wait.cons (m := (h + 2) * k.ts.length + 1) (n := 0) (.inr ⟨h, k, ht.node.kept hm (by simp), fun z hz => hz, rfl, rfl, fun t _ => tgFar_pos x y t, fun t htt => hid t (ht.perm.mem_iff.1 htt), rfl⟩) .nil
    · simpa [pend] using ht.perm.map (tgH x y))
  have hlo : 0 < leastF fan := by have := ht.fan4; unfold leastF; omega
  generalize leastF fan = lo at *
  have HLO := hideIt hlo
  have HID := hideIt hid
  clear ht c0 c2 hid hlo
  go_enter Tryz.func45, Tryz.ntmps45
  go_wp2_with fail
  clear c1
  go_loopg [9] ((h + 2) * k.ts.length + 1) (fun gk hv wr => ∃ hs l v, Hid (Looked w fan lo x y k.F ts most gk hs l hv v wr))
  case atStart => exact ⟨_, _, _, HSTART⟩
  case round =>
    obtain ⟨hs, l, v, hR⟩ := hrel
    have cq := cell_qO hR.out.q.q.here
    have HLEN := hideIt (qlen_row hR.out.q.q.row)
    obtain ⟨ha, hc, rfl⟩ := owns_slice hR.out.row
    have hlong := hR.out.seek.long
    have hml := hR.out.len
    have hhs : hs.length ≤ 5000 := by have := hR.out.seek.total; omega
    by_cases hn0 : l.length = 0
    · have hfin : NearPost ((sortH (ts.map (tgH x y))).take most) w (.returned (.slice ha hs.length hc)) wr := by
        have hl0 : l = [] := List.eq_nil_of_length_eq_zero hn0
        subst hl0
        have e := near_done hR.out.seek.perm hR.out.seek.sort hR.out.seek.below (.inr ⟨rfl, hml⟩)
        rw [← e]
        exact ⟨_, rfl, hR.out.row, hR.out.hnew, hR.out.m⟩
      have HF := hideIt hfin
      clear hfin
      rw [hn0] at HLEN
      go_wp2_with fail
      refine HLEN.out.mono ?_
      rintro e w2 ⟨rfl, rfl⟩
      go_wp2
      go_ret
      exact HF.out
    · have hn1 : (0 : Int) < (l.length : Int) := by omega
      by_cases hmo : hs.length < most
      · have hmo' : (hs.length : Int) < (most : Int) := by omega
        obtain ⟨n, hn⟩ : ∃ n, l.length = n + 1 := ⟨l.length - 1, by omega⟩
        obtain ⟨g, c, rfl⟩ := ownV3 hR.out.q.q.row (by omega)
        rw [hn] at hR HLEN cq
        have HPOP0 := hideIt (hpop_any (n := n) ⟨hR.out.q.q, hn⟩ (by rw [← hn]; exact hR.out.q.heap) (by omega))
        clear hn0 hn1 hlong hml
        cases hnd : (wat l 0).nd with
        | none =>
          have HPOP := hideIt (show Calls Tryz.prog 74 #[qI (w.heap.size + 1)] wr (fun e w2 => e = .returned (.iface 138 (.agg #[.int .i64 (wat l 0).id, .int .i64 (wat l 0).far, .pointer none])) ∧ ∃ l', Hid (∀ w3, Mod [] w2 w3 → Popped w fan lo x y k.F ts most gk hs l l' (.slice ha hs.length hc) (.slice (some ⟨g, 0, none⟩) n c) w3)) from HPOP0.out.mono fun e w2 hq => by
            obtain ⟨rfl, l', hq2, hl2, hp2, hm2⟩ := hq
            refine ⟨?_, l', hideIt fun w3 hm3 => hR.out.pop hmo hq2 hp2 hm2 hm3⟩
            simp only [wtI, wtV, hnd]
            rfl)
          have hta := run_assertW (.agg #[.int .i64 (wat l 0).id, .int .i64 (wat l 0).far, .pointer none])
          have HND := hideIt hnd
          clear HPOP0 hnd hR
          go_wp2_with fail
          refine HLEN.out.mono ?_
          rintro e w2 ⟨rfl, rfl⟩
          go_wp2_with fail
          refine HPOP.out.mono ?_
          rintro e w2 ⟨rfl, l', HQ2⟩
          clear HPOP HLEN cq
          have HOWN := hideIt (show ((w2.alloc (.cells #[.int .i64 (wat l 0).id, .int .i64 (wat l 0).far, .pointer none] 138)).alloc (.cells #[.int .i64 (wat l 0).id, .int .i64 (wat l 0).far] 50)).ownsRow 0 50 2 (.slice ha hs.length hc) hs.length (htsV hs) from owns_kept (HQ2.out _ (Mod.alloc _ _)).row (Mod.alloc (F := []) _ _) (by simp))
          have HSRC := hideIt (show srcRow ((w2.alloc (.cells #[.int .i64 (wat l 0).id, .int .i64 (wat l 0).far, .pointer none] 138)).alloc (.cells #[.int .i64 (wat l 0).id, .int .i64 (wat l 0).far] 50)) 2 (.slice (some ⟨w2.heap.size + 1, 0, none⟩) 1 1) 1 [.int .i64 (wat l 0).id, .int .i64 (wat l 0).far] from by
            have h1 := owns_allocB (w := w2.alloc (.cells #[.int .i64 (wat l 0).id, .int .i64 (wat l 0).far, .pointer none] 138)) (cur := #[.int .i64 (wat l 0).id, .int .i64 (wat l 0).far]) (e := 50) (n := 1) (size := 2) rfl (by decide) (base := 0) (Nat.zero_le _)
            rw [show (w2.alloc (.cells #[.int .i64 (wat l 0).id, .int .i64 (wat l 0).far, .pointer none] 138)).heap.size = w2.heap.size + 1 by simp] at h1
            exact srcRow_of_owns h1 (fun u hu => htsV_one [⟨(wat l 0).id, (wat l 0).far⟩] u (by simpa [htsV, htCells] using hu)))
          have HTH := hideIt (fun (g5 c5 : Nat) (w5 : World) => (HQ2.out _ (Mod.alloc w2 (.cells #[.int .i64 (wat l 0).id, .int .i64 (wat l 0).far, .pointer none] 138))).thing (g5 := g5) (c5 := c5) (w5 := w5) HND.out (Mod.alloc _ (.cells #[.int .i64 (wat l 0).id, .int .i64 (wat l 0).far] 50)))
          clear HQ2 HND
          generalize (wat l 0).id = I at *
          generalize (wat l 0).far = FA at *
          go_wp2_with (at_builtin; refine wpList_append_rows _ rfl _ _ 46 rfl 0 50 i0 (.agg #[.int .i64 0, .int .i64 0]) 2 16 Tryz.underlying46 hi hz0 hz1 hz2 rfl (by decide) _ hs.length (htsV hs) rfl HOWN.out _ 1 [.int .i64 I, .int .i64 FA] rfl HSRC.out (by omega) (by unfold maxLen; omega) (by omega) (Nat.zero_le _) ?_)
          intro g5 c5 w5 ho5 hm5 hat5
          obtain ⟨gk', hlt, hnext⟩ := HTH.out g5 c5 w5 ho5 hm5 (hat5.imp id (fun h => by simpa using h))
          have HNX := hideIt hnext
          have HLT := hideIt hlt
          clear ho5 hm5 hat5 HTH HOWN HSRC hnext hlt
          go_wp2_with fail
          go_roundg gk'
          case measure => exact HLT.out
          case rel => exact HNX.out
        | some pn =>
          have HPOP := hideIt (show Calls Tryz.prog 74 #[qI (w.heap.size + 1)] wr (fun e w2 => e = .returned (.iface 138 (.agg #[.int .i64 (wat l 0).id, .int .i64 (wat l 0).far, .pointer (some ⟨pn, 0, none⟩)])) ∧ ∃ l', Hid (∀ w3, Mod [] w2 w3 → Popped w fan lo x y k.F ts most gk hs l l' (.slice ha hs.length hc) (.slice (some ⟨g, 0, none⟩) n c) w3)) from HPOP0.out.mono fun e w2 hq => by
            obtain ⟨rfl, l', hq2, hl2, hp2, hm2⟩ := hq
            refine ⟨?_, l', hideIt fun w3 hm3 => hR.out.pop hmo hq2 hp2 hm2 hm3⟩
            simp only [wtI, wtV, hnd]
            rfl)
          have hta := run_assertW (.agg #[.int .i64 (wat l 0).id, .int .i64 (wat l 0).far, .pointer (some ⟨pn, 0, none⟩)])
          have HND := hideIt hnd
          clear HPOP0 hnd hR
          go_wp2_with fail
          refine HLEN.out.mono ?_
          rintro e w2 ⟨rfl, rfl⟩
          go_wp2_with fail
          refine HPOP.out.mono ?_
          rintro e w2 ⟨rfl, l', HQ2⟩
          clear HPOP HLEN cq
          have HOP := hideIt ((HQ2.out _ (Mod.alloc w2 (.cells #[.int .i64 (wat l 0).id, .int .i64 (wat l 0).far, .pointer (some ⟨pn, 0, none⟩)] 138))).node hx hy HLO.out HND.out hlen)
          clear HQ2 HND
          go_wp2_with fail
          refine HOP.out.mono ?_
          rintro e w5 ⟨rfl, gk', hlt, hnext⟩
          have HNX := hideIt hnext
          have HLT := hideIt hlt
          clear HOP hnext hlt
          go_wp2_with fail
          go_roundg gk'
          case measure => exact HLT.out
          case rel => exact HNX.out
      · have hme : ¬ ((hs.length : Int) < (most : Int)) := by omega
        have hfin : NearPost ((sortH (ts.map (tgH x y))).take most) w (.returned (.slice ha hs.length hc)) wr := by
          have e := near_done (most := most) hR.out.seek.perm hR.out.seek.sort hR.out.seek.below (.inl (by omega))
          rw [← e]
          exact ⟨_, rfl, hR.out.row, hR.out.hnew, hR.out.m⟩
        have HF := hideIt hfin
        clear hfin
        go_wp2_with fail
        refine HLEN.out.mono ?_
        rintro e w2 ⟨rfl, rfl⟩
        go_wp2
        go_ret
        exact HF.out

end Go.Proofs.YthimaoipogocfaaGreat

namespace Go.Proofs.YthimaoipogocfaaGreat
open Go.RowKit Go.Maps
attribute [local go_sem] run_store_f32 run_neg_inf

/-- hits behind a slice -/
def RowH (w : World) (v : Value) (hs : List Ht) : Prop := ∃ a c, v = .slice a hs.length c ∧ ∀ j e, hs[j]? = some e → ∃ b, a = some ⟨b, 0, none⟩ ∧ w.cell? ⟨b, j * 2, none⟩ = some (.int .i64 e.id) ∧ w.cell? ⟨b, j * 2 + 1, none⟩ = some (.int .i64 e.far)

theorem htsV_get (l : List Ht) (k : Nat) (e : Ht) (h : l[k]? = some e) (j : Nat) (hj : j < 2) : (htsV l)[k * 2 + j]? = (htCells e)[j]? := by
  induction l generalizing k with
  | nil => simp at h
  | cons s L ih =>
    have e1 : htsV (s :: L) = htCells s ++ htsV L := rfl
    have hl : (htCells s).length = 2 := rfl
    rw [e1]
    cases k with
    | zero =>
      simp at h
      subst h
      rw [List.getElem?_append_left (by omega)]
      congr 1
      omega
    | succ k =>
      simp at h
      rw [List.getElem?_append_right (by omega), hl, ← ih k h]
      congr 1
      omega

theorem RowH.of_owns {w : World} {v : Value} {hs : List Ht} (h : w.ownsRow 0 50 2 v hs.length (htsV hs)) : RowH w v hs := by
  rcases h.2 with ⟨rfl, h0⟩ | ⟨g, cap, cur, rfl, hb, hg, hnc, hcm, hcs, htake⟩
  · have hx : hs = [] := List.eq_nil_of_length_eq_zero h0
    subst hx
    exact ⟨none, 0, rfl, fun j x hx => by simp at hx⟩
  · refine ⟨some ⟨g, 0, none⟩, cap, rfl, fun j e he => ⟨g, rfl, ?_⟩⟩
    have hj : j < hs.length := (List.getElem?_eq_some_iff.1 he).1
    have key : ∀ i, i < 2 → w.cell? ⟨g, j * 2 + i, none⟩ = (htCells e)[i]? := fun i hi => by
      have h1 : (cur.toList.take (hs.length * 2))[j * 2 + i]? = (htsV hs)[j * 2 + i]? := by rw [htake]
      rw [List.getElem?_take_of_lt (by omega), Array.getElem?_toList] at h1
      rw [cell_of_block hg, h1]
      exact htsV_get hs j e he i hi
    exact ⟨key 0 (by omega), key 1 (by omega)⟩

theorem RowH.keep {w w' : World} {v : Value} {hs : List Ht} (h : RowH w v hs) (hm : Mod [] w w') : RowH w' v hs := by
  obtain ⟨a, c, h1, h2⟩ := h
  refine ⟨a, c, h1, fun j x hx => ?_⟩
  obtain ⟨b, h3, h4, h5⟩ := h2 j x hx
  exact ⟨b, h3, cell_mod hm h4, cell_mod hm h5⟩

def HNearPost (hs : List Ht) (w : World) (e : Ending) (w' : World) : Prop := ∃ v, e = .returned (.tuple #[v, .int .i64 0]) ∧ RowH w' v hs ∧ Mod [] w w'

set_option maxRecDepth 100000 in
set_option maxHeartbeats 400000 in
theorem hNear_good {w : World} {q fan : Nat} {ts : List Tg} {lg : List Int} {F : List Nat} (h : HRep w q fan ts lg F) {x y : Int} (hx : Near9 x) (hy : Near9 y) (hn : ts.length ≤ 1000) {most : Nat} (hmost : most ≤ 9223372036854775807) :
    Calls Tryz.prog 26 #[.pointer (some ⟨q, 0, none⟩), .int .i64 x, .int .i64 y, .int .i64 most] w (HNearPost ((sortH (ts.map (tgH x y))).take most) w) := by
  obtain ⟨p, lv, F0, h1, h2, -, -, -, hi, rfl⟩ := h
  have c := cell_hO h1
  have cd := cell_mod (Mod.drew _) c
  have hpl : placeB x y = true := placeB_iff.2 ⟨hx, hy⟩
  have hid : ∀ t ∈ ts, 0 ≤ t.id := fun t ht => (hi.1 t ht).1
  have HF := hideIt (fun W (hW : Mod [] w W) => bNear_any (h2.kept hW (by simp)) hx hy hid (by omega) hmost)
  have hm0 : ¬ ((most : Int) < 0) := by omega
  generalize (sortH (ts.map (tgH x y))).take most = hs at *
  clear h1 h2 hi hx hy hid
  go_enter Tryz.func26, Tryz.ntmps26
  go_wp2_with fail
  refine (isPlace_any _ _ _).mono ?_
  rw [hpl]
  rintro e w1 ⟨rfl, hw⟩
  obtain rfl := hw.symm
  clear hw
  go_wp2_with fail
  refine (HF.out _ (Mod.refl _ _)).mono ?_
  rintro e w2 ⟨v, rfl, k1, k2, k3⟩
  have HP := hideIt (show HNearPost hs w (.returned (.tuple #[v, .int .i64 0])) w2 from ⟨v, rfl, RowH.of_owns k1, k3⟩)
  clear k1 k2 k3 c cd HF
  go_wp2
  go_ret2
  exact HP.out

set_option maxRecDepth 100000 in
set_option maxHeartbeats 400000 in
theorem hNear_place (q : Nat) (w : World) {x y most : Int} (hp : placeB x y = false) :
    Calls Tryz.prog 26 #[.pointer (some ⟨q, 0, none⟩), .int .i64 x, .int .i64 y, .int .i64 most] w fun e w' => e = .returned (.tuple #[.slice none 0 0, .int .i64 1]) ∧ Mod [] w w' := by
  go_enter Tryz.func26, Tryz.ntmps26
  go_wp2_with fail
  refine (isPlace_any _ _ _).mono ?_
  rw [hp]
  rintro e w1 ⟨rfl, hw⟩
  obtain rfl := hw.symm
  clear hw
  go_wp2
  go_ret2
  exact ⟨rfl, Mod.refl _ _⟩

set_option maxRecDepth 100000 in
set_option maxHeartbeats 400000 in
theorem hNear_most (q : Nat) (w : World) {x y most : Int} (hp : placeB x y = true) (hm : most < 0) :
    Calls Tryz.prog 26 #[.pointer (some ⟨q, 0, none⟩), .int .i64 x, .int .i64 y, .int .i64 most] w fun e w' => e = .returned (.tuple #[.slice none 0 0, .int .i64 1]) ∧ Mod [] w w' := by
  go_enter Tryz.func26, Tryz.ntmps26
  go_wp2_with fail
  refine (isPlace_any _ _ _).mono ?_
  rw [hp]
  rintro e w1 ⟨rfl, hw⟩
  obtain rfl := hw.symm
  clear hw
  go_wp2
  go_ret2
  exact ⟨rfl, Mod.refl _ _⟩

/-! ### of things, wherever they lie in memory -/
def thH (x y : Int) (t : Th) : Ht := ⟨t.id, farI x y t.x0 t.y0 t.x1 t.y1⟩
def nearT (x y : Int) (most : Nat) (L : List Th) : List Ht := (sortH (L.map (thH x y))).take most
theorem nearT_perm {x y : Int} {most : Nat} {L M : List Th} (h : L.Perm M) : nearT x y most L = nearT x y most M := by
  unfold nearT
  rw [sortH_congr (h.map _)]
theorem nearT_length (x y : Int) (most : Nat) (L : List Th) : (nearT x y most L).length = min most L.length := by
  unfold nearT
  rw [List.length_take, sortH_length, List.length_map]

theorem kNear_any {B : Nat} {w : World} {q fan : Nat} {L : List Th} {lg : List Int} (h : KRep B w q fan L lg) {x y : Int} (hx : Near9 x) (hy : Near9 y) {most : Nat} (hmost : most ≤ 9223372036854775807) :
    Calls Tryz.prog 26 #[.pointer (some ⟨q, 0, none⟩), .int .i64 x, .int .i64 y, .int .i64 most] w (HNearPost (nearT x y most L) w) := by
  obtain ⟨ts, F, h1, rfl, h3, h4⟩ := h.out
  have e : nearT x y most (ts.map Tg.th) = (sortH (ts.map (tgH x y))).take most := by
    unfold nearT
    rw [List.map_map]
    rfl
  rw [e]
  exact hNear_good h1 hx hy h3 hmost

end Go.Proofs.YthimaoipogocfaaGreat

