import Derived.Test.YthimaoipogocfaaGreatNear2
import Derived.Test.YthimaoipogocfaaGreatJ13
namespace Go.Proofs.YthimaoipogocfaaGreat
open Go.RowKit

/-! ### what waits, and what was told: the search's own law -/
inductive Wait (P : Wt → Nat → Prop) : List Wt → Nat → Prop
  | nil : Wait P [] 0
  | cons {e l m n} : P e m → Wait P l n → Wait P (e :: l) (m + n)
theorem Wait.perm {P : Wt → Nat → Prop} {l l' : List Wt} (h : l.Perm l') : ∀ {n}, Wait P l n → Wait P l' n := by
  induction h with
  | nil => exact fun h => h
  | cons x _ ih => intro n h; cases h with | cons h1 h2 => exact .cons h1 (ih h2)
  | swap x y l =>
    intro n h
    cases h with
    | cons h1 h2 =>
      cases h2 with
      | cons h2 h3 => rw [Nat.add_left_comm]; exact .cons h2 (.cons h1 h3)
  | trans _ _ ih1 ih2 => exact fun h => ih2 (ih1 h)
theorem Wait.append {P : Wt → Nat → Prop} {l l' : List Wt} {n n' : Nat} (h : Wait P l n) (h' : Wait P l' n') : Wait P (l ++ l') (n + n') := by
  induction h with
  | nil => simpa using h'
  | cons h1 _ ih => rw [List.cons_append, Nat.add_assoc]; exact .cons h1 ih
theorem Wait.mem {P : Wt → Nat → Prop} {l : List Wt} {n : Nat} (h : Wait P l n) : ∀ e ∈ l, ∃ m, P e m := by
  induction h with
  | nil => intro e he; cases he
  | cons h1 _ ih =>
    intro e he
    rcases List.mem_cons.1 he with rfl | he
    · exact ⟨_, h1⟩
    · exact ih e he
theorem Wait.mono {P Q : Wt → Nat → Prop} {l : List Wt} {n : Nat} (h : Wait P l n) (hpq : ∀ e m, P e m → Q e m) : Wait Q l n := by
  induction h with
  | nil => exact .nil
  | cons h1 _ ih => exact .cons (hpq _ _ h1) ih

def tgH (x y : Int) (t : Tg) : Ht := ⟨t.id, tgFar x y t⟩
structure NdOk (w : World) (fan lo : Nat) (x y : Int) (F : List Nat) (e : Wt) (m h : Nat) (c : Kd) : Prop where
  node : NodeAt w fan lo h c
  foot : ∀ z ∈ c.F, z ∈ F
  nd : e.nd = some c.p
  ts : e.ts = c.ts
  far : ∀ t ∈ c.ts, e.far ≤ tgFar x y t
  ids : ∀ t ∈ c.ts, 0 ≤ t.id
  num : m = (h + 2) * c.ts.length + 1
def WtOk (w : World) (fan lo : Nat) (x y : Int) (F : List Nat) (e : Wt) (m : Nat) : Prop := (∃ t, e = tgW x y t ∧ 0 ≤ t.id ∧ m = 1) ∨ ∃ h c, NdOk w fan lo x y F e m h c
theorem WtOk.kept {w w' : World} {fan lo : Nat} {x y : Int} {F G : List Nat} {e : Wt} {m : Nat} (h : WtOk w fan lo x y F e m) (hm : Mod G w w') (hf : ∀ z ∈ F, z ∉ G) : WtOk w' fan lo x y F e m := by
  rcases h with h | ⟨h, c, k⟩
  · exact .inl h
  · exact .inr ⟨h, c, k.node.kept hm (fun z hz => hf z (k.foot z hz)), k.foot, k.nd, k.ts, k.far, k.ids, k.num⟩

def pend (l : List Wt) : List Tg := l.flatMap (·.ts)
theorem pend_perm {l l' : List Wt} (h : l.Perm l') : (pend l).Perm (pend l') := h.flatMap_right _
theorem pend_append (l l' : List Wt) : pend (l ++ l') = pend l ++ pend l' := by simp [pend]
def NdIds (l : List Wt) : Prop := ∀ e ∈ l, e.nd ≠ none → e.id = -1 ∧ e.ts ≠ []

/-- where a search stands -/
structure Seek (w : World) (fan lo : Nat) (x y : Int) (F : List Nat) (all : List Tg) (hs : List Ht) (l : List Wt) (n : Nat) : Prop where
  wait : Wait (WtOk w fan lo x y F) l n
  ids : NdIds l ∨ ∃ e, l = [e]
  perm : (hs ++ (pend l).map (tgH x y)).Perm (all.map (tgH x y))
  sort : hs.Pairwise (fun a b => hle a b = true)
  below : ∀ a ∈ hs, ∀ b ∈ (pend l).map (tgH x y), hle a b = true

theorem Seek.kept {w w' : World} {fan lo : Nat} {x y : Int} {F G : List Nat} {all : List Tg} {hs : List Ht} {l : List Wt} {n : Nat} (h : Seek w fan lo x y F all hs l n) (hm : Mod G w w') (hf : ∀ z ∈ F, z ∉ G) : Seek w' fan lo x y F all hs l n :=
  ⟨h.wait.mono (fun _ _ k => k.kept hm hf), h.ids, h.perm, h.sort, h.below⟩

theorem ids_rest {l l' : List Wt} {e : Wt} (h : NdIds l ∨ ∃ e, l = [e]) (hp : (e :: l').Perm l) : NdIds l' := by
  rcases h with h | ⟨e', rfl⟩
  · exact fun a ha => h a (hp.mem_iff.1 (by simp [ha]))
  · have : l' = [] := List.eq_nil_of_length_eq_zero (by have := hp.length_eq; simpa using this)
    subst this
    intro a ha
    cases ha

/-- a thing is the nearest of all that wait: it is told -/
theorem Seek.thing {w : World} {fan lo : Nat} {x y : Int} {F : List Nat} {all : List Tg} {hs : List Ht} {l l' : List Wt} {n : Nat} (h : Seek w fan lo x y F all hs l n) (hh : HeapW l l.length) (hp : (wat l 0 :: l').Perm l) (hn : (wat l 0).nd = none) :
    ∃ n', n' < n ∧ Seek w fan lo x y F all (hs ++ [⟨(wat l 0).id, (wat l 0).far⟩]) l' n' := by
  have hwt := h.wait.perm hp.symm
  have hl : ∀ e ∈ l, (wat l 0).le e := fun e he => by
    obtain ⟨k, hk, rfl⟩ := List.getElem_of_mem he
    have := hh.least k hk
    have e1 := wat_get hk
    rw [List.getElem?_eq_getElem hk] at e1
    rw [Option.some.inj e1]
    exact this
  have hids := ids_rest h.ids hp
  generalize wat l 0 = e0 at *
  cases hwt with
  | @cons _ _ m n' h1 h2 =>
    rcases h1 with ⟨t, rfl, ht0, rfl⟩ | ⟨h', c, k⟩
    · have hpp : (pend l).Perm (t :: pend l') := (pend_perm hp).symm
      have hm : ((pend l).map (tgH x y)).Perm (tgH x y t :: (pend l').map (tgH x y)) := hpp.map _
      refine ⟨n', by omega, h2, .inl hids, ?_, ?_, ?_⟩
      · refine List.Perm.trans ?_ h.perm
        rw [List.append_assoc]
        exact (hm.symm).append_left hs
      · refine List.pairwise_append.2 ⟨h.sort, by simp, fun a ha b hb => ?_⟩
        simp only [List.mem_singleton] at hb
        subst hb
        exact h.below a ha _ (hm.mem_iff.2 (by simp [tgH, tgW]))
      · intro a ha b hb
        rcases List.mem_append.1 ha with ha | ha
        · exact h.below a ha b (hm.mem_iff.2 (by simp [hb]))
        · simp only [List.mem_singleton] at ha
          subst ha
          obtain ⟨u, hu, rfl⟩ := List.mem_map.1 hb
          obtain ⟨e, he, hue⟩ := List.mem_flatMap.1 hu
          have hle := hl e (hp.mem_iff.1 (by simp [he]))
          obtain ⟨m, hm⟩ := h2.mem e he
          rcases hm with ⟨t', rfl, _, _⟩ | ⟨h', c, k⟩
          · simp only [tgW, List.mem_singleton] at hue
            subst hue
            rw [hle_iff]
            exact hle
          · obtain ⟨i1, _⟩ := hids e he (by rw [k.nd]; simp)
            rw [k.ts] at hue
            have hf := k.far u hue
            rw [hle_iff]
            unfold Wt.le at hle
            simp only [tgW, tgH] at hle ⊢
            omega
    · rw [k.nd] at hn
      cases hn

/-- what a node leaves when it is opened -/
structure Opens (w : World) (fan lo : Nat) (x y : Int) (F : List Nat) (c : Kd) (h : Nat) (es : List Wt) : Prop where
  wait : ∃ m, m < (h + 2) * c.ts.length + 1 ∧ Wait (WtOk w fan lo x y F) es m
  ids : NdIds es
  all : pend es = c.ts

theorem Seek.total {w : World} {fan lo : Nat} {x y : Int} {F : List Nat} {all : List Tg} {hs : List Ht} {l : List Wt} {n : Nat} (h : Seek w fan lo x y F all hs l n) : hs.length + (pend l).length = all.length := by
  have := h.perm.length_eq
  simpa using this
theorem pend_long {w : World} {fan lo : Nat} {x y : Int} {F : List Nat} {l : List Wt} {n : Nat} (hw : Wait (WtOk w fan lo x y F) l n) (hi : NdIds l) : l.length ≤ (pend l).length := by
  induction hw with
  | nil => simp
  | @cons e l m n h1 h2 ih =>
    have ih := ih (fun a ha => hi a (by simp [ha]))
    have : 1 ≤ e.ts.length := by
      rcases h1 with ⟨t, rfl, _⟩ | ⟨h, c, k⟩
      · simp [tgW]
      · have := (hi e (by simp) (by rw [k.nd]; simp)).2
        cases he : e.ts with
        | nil => exact absurd he this
        | cons _ _ => simp
    simp only [pend, List.flatMap_cons, List.length_append, List.length_cons] at ih ⊢
    omega
theorem Seek.node {w : World} {fan lo : Nat} {x y : Int} {F : List Nat} {all : List Tg} {hs : List Ht} {l l' : List Wt} {n p : Nat} (h : Seek w fan lo x y F all hs l n) (hp : (wat l 0 :: l').Perm l) (hn : (wat l 0).nd = some p) :
    ∃ h' c, NodeAt w fan lo h' c ∧ c.p = p ∧ (∀ z ∈ c.F, z ∈ F) ∧ (∀ t ∈ c.ts, 0 ≤ t.id) ∧ c.ts.length + l'.length ≤ all.length ∧ ∀ es l'', Opens w fan lo x y F c h' es → l''.Perm (es ++ l') → ∃ n', n' < n ∧ Seek w fan lo x y F all hs l'' n' := by
  have hwt := h.wait.perm hp.symm
  have hids := ids_rest h.ids hp
  generalize wat l 0 = e0 at *
  cases hwt with
  | @cons _ _ m n' h1 h2 =>
    rcases h1 with ⟨t, rfl, ht0, rfl⟩ | ⟨h', c, k⟩
    · cases hn
    · refine ⟨h', c, k.node, ?_, k.foot, k.ids, ?_, fun es l'' ho hl => ?_⟩
      · have := k.nd
        rw [hn] at this
        exact (Option.some.inj this).symm
      · have h3 := pend_long h2 hids
        have h4 := (pend_perm hp).length_eq
        have h5 := h.total
        simp only [pend, List.flatMap_cons, List.length_append, k.ts] at h3 h4 h5
        omega
      · obtain ⟨m', hm, hw⟩ := ho.wait
        have hpp : (pend l).Perm (pend l'') := by
          refine (pend_perm hp).symm.trans (List.Perm.trans ?_ (pend_perm hl).symm)
          rw [pend_append, ho.all, ← k.ts]
          exact List.Perm.refl _
        refine ⟨m' + n', ?_, (hw.append h2).perm hl.symm, .inl (fun e he => ?_), ((hpp.map _).symm.append_left hs).trans h.perm, h.sort, fun a ha b hb => h.below a ha b ((hpp.map _).mem_iff.2 hb)⟩
        · have := k.num
          omega
        · rcases List.mem_append.1 (hl.mem_iff.1 he) with he | he
          · exact ho.ids e he
          · exact hids e he

theorem opens_leaf {w : World} {fan lo : Nat} {x y : Int} {F : List Nat} {c : Kd} (hid : ∀ t ∈ c.ts, 0 ≤ t.id) : Opens w fan lo x y F c 0 (c.ts.map (tgW x y)) := by
  refine ⟨⟨c.ts.length, by omega, ?_⟩, fun e he => ?_, ?_⟩
  · generalize c.ts = ts at *
    induction ts with
    | nil => exact .nil
    | cons t ts ih =>
      have := ih (fun u hu => hid u (by simp [hu]))
      rw [List.map_cons, List.length_cons, Nat.add_comm]
      exact .cons (.inl ⟨t, rfl, hid t (by simp), rfl⟩) this
  · obtain ⟨t, _, rfl⟩ := List.mem_map.1 he
    intro h
    exact absurd rfl h
  · generalize c.ts = ts at *
    clear hid
    induction ts with
    | nil => rfl
    | cons t ts ih =>
      simp only [pend, List.map_cons, List.flatMap_cons] at ih ⊢
      rw [ih]
      rfl

theorem opens_inner {w : World} {fan lo h : Nat} {x y : Int} {F : List Nat} {c : Kd} {bv : Value} {ks : List Kd} (h0 : 0 < lo) (hi : InnerAt w c bv ks) (hK : ∀ d ∈ ks, KidOk w fan lo h d) (hF : ∀ z ∈ c.F, z ∈ F) (hid : ∀ t ∈ c.ts, 0 ≤ t.id) : Opens w fan lo x y F c (h + 1) (ks.map (kdW x y)) := by
  have hts := hi.things
  have hkF := fun d hd => hi.kid_F (c := d) hd
  have hid' : ∀ d ∈ ks, ∀ t ∈ d.ts, 0 ≤ t.id := fun d hd t ht => hid t (by rw [hts]; exact List.mem_flatMap.2 ⟨d, hd, ht⟩)
  have hF' : ∀ d ∈ ks, ∀ z ∈ d.F, z ∈ F := fun d hd z hz => hF z (hkF d hd z hz)
  clear hkF hi hF hid
  refine ⟨?_, fun e he => ?_, ?_⟩
  · have key : ∃ m, m ≤ (h + 3) * (kts ks).length ∧ Wait (WtOk w fan lo x y F) (ks.map (kdW x y)) m := by
      clear hts
      induction ks with
      | nil => exact ⟨0, by omega, .nil⟩
      | cons d ks ih =>
        obtain ⟨m, hm, hw⟩ := ih (fun e he => hK e (by simp [he])) (fun e he => hid' e (by simp [he])) (fun e he => hF' e (by simp [he]))
        have hd := hK d (by simp)
        have hne := hd.ts h0
        have hlen : 1 ≤ d.ts.length := by
          cases e : d.ts with
          | nil => exact absurd e hne
          | cons _ _ => simp
        refine ⟨((h + 2) * d.ts.length + 1) + m, ?_, .cons (.inr ⟨h, d, hd.1, hF' d (by simp), rfl, rfl, fun t ht => ?_, hid' d (by simp), rfl⟩) hw⟩
        · simp only [kts, List.flatMap_cons, List.length_append] at hm ⊢
          rw [Nat.mul_add]
          have : (h + 3) * d.ts.length = (h + 2) * d.ts.length + d.ts.length := by rw [show h + 3 = (h + 2) + 1 from rfl, Nat.add_mul, Nat.one_mul]
          omega
        · exact bxFar_le (NodeAt.thing hd.1 t ht).1.rect (hd.1.ok.cover t ht)
    obtain ⟨m, hm, hw⟩ := key
    exact ⟨m, by rw [show h + 1 + 2 = h + 3 from rfl, hts]; omega, hw⟩
  · obtain ⟨d, hd, rfl⟩ := List.mem_map.1 he
    exact fun _ => ⟨rfl, (hK d hd).ts h0⟩
  · rw [hts]
    clear hK hid' hF' hts
    induction ks with
    | nil => rfl
    | cons d ks ih =>
      simp only [pend, kts, List.map_cons, List.flatMap_cons] at ih ⊢
      rw [ih]
      rfl

end Go.Proofs.YthimaoipogocfaaGreat
