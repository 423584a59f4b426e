import Derived.Test.YtmfdlacmlnginaaGreatJ12
namespace Go.Proofs.YtmfdlacmlnginaaGreat
open Go.RowKit

/-- a node whose kids are being changed: those that stand, and those that are new -/
structure MidX (w w2 : World) (fan lo h : Nat) (k : Kd) (bv : Value) (R N : List Kd) (TS : List Tg) : Prop where
  here : w2.heap[k.p]? = some (ndO k.bx (.slice none 0 0) bv)
  rest : ∀ c ∈ R, KidOk w2 fan lo h c
  news : ∀ c ∈ N, KidOk w2 fan lo h c
  ts : (kts R ++ kts N).Perm TS
  nodup : (k.p :: (bv.ownBlock.toList ++ (kF R ++ kF N))).Nodup
  foot : ∀ x ∈ kF R ++ kF N, x ∈ k.F ∨ w.heap.size ≤ x
  m : Mod k.F w w2

theorem MidX.lt {w w2 : World} {fan lo h : Nat} {k : Kd} {bv : Value} {R N : List Kd} {TS : List Tg} (hM : MidX w w2 fan lo h k bv R N TS) : ∀ x ∈ kF R ++ kF N, x < w2.heap.size := fun x hx => by
  rw [← kF_append] at hx
  obtain ⟨d, hd, hx⟩ := List.mem_flatMap.1 hx
  rcases List.mem_append.1 hd with hd | hd
  · exact NodeAt.lt (hM.rest d hd).1 x hx
  · exact NodeAt.lt (hM.news d hd).1 x hx

/-- the row of the kids has grown: it may stand elsewhere now -/
theorem MidX.grown {w w5 w6 : World} {fan lo h : Nat} {k : Kd} {R N : List Kd} {TS : List Tg} {g n cc g5 c5 m : Nat} (hM : MidX w w5 fan lo h k (.slice (some ⟨g, 0, none⟩) n cc) R N TS) (hgF : g ∈ k.F) (hkp : k.p ∈ k.F) (hm : Mod [g] w5 w6) (hg5 : g5 = g ∨ w5.heap.size ≤ g5) (hz : w.heap.size ≤ w5.heap.size) :
    MidX w (w6.setCell ⟨k.p, 5, none⟩ (.slice (some ⟨g5, 0, none⟩) m c5)) fan lo h k (.slice (some ⟨g5, 0, none⟩) m c5) R N TS ∧ (∀ x, g5 = x → x ∈ k.F ∨ w.heap.size ≤ x) := by
  have hlt := hM.lt
  have hnd := hM.nodup
  simp only [Value.ownBlock] at hnd
  have h1 := List.nodup_cons.1 hnd
  have hgp : k.p ≠ g := fun e => h1.1 (by rw [e]; simp)
  have h2 := List.nodup_append.1 h1.2
  have hgk : g ∉ kF R ++ kF N := fun hx => h2.2.2 g (by simp) g hx rfl
  have hpk : k.p ∉ kF R ++ kF N := fun hx => h1.1 (List.mem_append_right _ hx)
  have hm2 : Mod [k.p, g] w5 (w6.setCell ⟨k.p, 5, none⟩ (.slice (some ⟨g5, 0, none⟩) m c5)) := (hm.mono (by simp)).trans (Mod.setCell _ _ _ (by simp))
  have hout : ∀ x ∈ kF R ++ kF N, x ∉ [k.p, g] := fun x hx => by
    simp only [List.mem_cons, List.not_mem_nil, or_false, not_or]
    exact ⟨fun e => hpk (e ▸ hx), fun e => hgk (e ▸ hx)⟩
  have hplt := lt_of_block hM.here
  refine ⟨⟨?_, fun c hc => (hM.rest c hc).kept hm2 (fun x hx => hout x (List.mem_append_left _ (mem_kF hc hx))), fun c hc => (hM.news c hc).kept hm2 (fun x hx => hout x (List.mem_append_right _ (mem_kF hc hx))), hM.ts, ?_, hM.foot, ?_⟩, fun x e => ?_⟩
  · refine ndO_set5 (bv := .slice (some ⟨g, 0, none⟩) n cc) ?_ _
    exact (hm.block k.p hplt (by simpa using hgp)).trans hM.here
  · simp only [Value.ownBlock]
    refine List.nodup_cons.2 ⟨fun hx => ?_, List.nodup_append.2 ⟨by simp, h2.2.1, fun a ha b hb e => ?_⟩⟩
    · rcases List.mem_append.1 hx with hx | hx
      · simp at hx
        rcases hg5 with e | e
        · exact hgp (hx.trans e)
        · omega
      · exact hpk hx
    · simp at ha
      subst ha e
      rcases hg5 with e | e
      · exact hgk (e ▸ hb)
      · have := hlt _ hb; omega
  · refine hM.m.trans (hm2.mono (fun x hx => ?_))
    simp only [List.mem_cons, List.not_mem_nil, or_false] at hx
    rcases hx with rfl | rfl
    · exact hkp
    · exact hgF
  · rcases hg5 with e2 | e2
    · exact .inl (by rw [← e, e2]; exact hgF)
    · exact .inr (by omega)

/-- two kids (j, and the poor one c) are one now, or two others; the rest stands -/
theorem midX {w w2 w8 : World} {fan lo h : Nat} {k : Kd} {g cc m : Nat} {a b N : List Kd} {c j : Kd} {ks : List Kd} (hi : InnerAt w k (.slice (some ⟨g, 0, none⟩) k.n cc) ks) (hp : ks.Perm (c :: j :: (a ++ b))) (hK : ∀ d ∈ j :: (a ++ b), KidOk w fan lo h d) (hc : NodeAt w fan lo h c)
    (hp2 : w2.heap[k.p]? = some (ndO k.bx (.slice none 0 0) (.slice (some ⟨g, 0, none⟩) m cc))) (hm2 : Mod [k.p, g] w w2) (hm8 : Mod j.F w2 w8)
    (hN : ∀ d ∈ N, KidOk w8 fan lo h d) (hts : (kts N).Perm (j.ts ++ c.ts)) (hnd : (kF N).Nodup) (hft : ∀ x ∈ kF N, (x ∈ j.F ∨ x ∈ c.F) ∨ w2.heap.size ≤ x) : MidX w w8 fan lo h k (.slice (some ⟨g, 0, none⟩) m cc) (a ++ b) N k.ts := by
  have hF := hi.foot
  simp only [Value.ownBlock] at hF
  have hnodup := hi.ok.nodup
  rw [hF] at hnodup
  have hpF : (kF ks).Perm (kF (a ++ b) ++ (j.F ++ c.F)) := by
    refine (kF_perm hp).trans ?_
    have e : kF (c :: j :: (a ++ b)) = c.F ++ (j.F ++ kF (a ++ b)) := by simp [kF]
    rw [e]
    refine List.perm_append_comm.trans ?_
    rw [List.append_assoc]
    refine (List.perm_append_comm (l₁ := j.F) (l₂ := kF (a ++ b) ++ c.F)).trans ?_
    rw [List.append_assoc]
    exact List.Perm.append_left _ List.perm_append_comm
  have hpn : (k.p :: ([g] ++ kF ks)).Perm (k.p :: ([g] ++ (kF (a ++ b) ++ (j.F ++ c.F)))) := List.Perm.cons _ (List.Perm.append_left _ hpF)
  have hnd2 : (k.p :: ([g] ++ (kF (a ++ b) ++ (j.F ++ c.F)))).Nodup := hpn.nodup_iff.1 hnodup
  have hmemF : ∀ x ∈ k.p :: ([g] ++ (kF (a ++ b) ++ (j.F ++ c.F))), x ∈ k.F := fun x hx => by rw [hF]; exact hpn.mem_iff.2 hx
  have hKall : ∀ d ∈ ks, NodeAt w fan lo h d := fun d hd => by
    rcases List.mem_cons.1 (hp.mem_iff.1 hd) with rfl | hd
    · exact hc
    · exact (hK d hd).1
  have hlt : ∀ x ∈ k.F, x < w.heap.size := fun x hx => by
    rw [hF] at hx
    rcases List.mem_cons.1 hx with rfl | hx
    · exact lt_of_block hi.here
    rcases List.mem_append.1 hx with hx | hx
    · simp at hx
      subst hx
      exact owns_lt hi.row rfl
    · obtain ⟨d, hd, hx⟩ := List.mem_flatMap.1 hx
      exact NodeAt.lt (hKall d hd) x hx
  have h1 := List.nodup_cons.1 hnd2
  have h2 := List.nodup_append.1 h1.2
  have h3 := List.nodup_append.1 h2.2.1
  have hz := hm2.size
  have hkpj : k.p ∉ j.F := fun hx => h1.1 (by simp [hx])
  have hgj : g ∉ j.F := fun hx => h2.2.2 g (by simp) g (by simp [hx]) rfl
  have hm08 : Mod (k.p :: g :: j.F) w w8 := (hm2.mono (by simp)).trans (hm8.mono (by simp +contextual))
  refine ⟨(hm8.block k.p (lt_of_block hp2) hkpj).trans hp2, fun d hd => ?_, hN, ?_, ?_, fun x hx => ?_, hm08.mono (fun x hx => ?_)⟩
  · refine (hK d (List.mem_cons_of_mem _ hd)).kept hm08 (fun x hx hxc => ?_)
    have hxR := mem_kF hd hx
    rcases List.mem_cons.1 hxc with e | hxc
    · exact h1.1 (List.mem_append_right _ (List.mem_append_left _ (e ▸ hxR)))
    rcases List.mem_cons.1 hxc with e | hxc
    · exact h2.2.2 g (by simp) g (List.mem_append_left _ (e ▸ hxR)) rfl
    · exact h3.2.2 x hxR x (List.mem_append_left _ hxc) rfl
  · rw [hi.things]
    refine (List.Perm.append_left _ hts).trans ?_
    refine List.Perm.trans ?_ (kts_perm hp).symm
    have e : kts (c :: j :: (a ++ b)) = c.ts ++ (j.ts ++ kts (a ++ b)) := by simp [kts]
    rw [e]
    refine List.perm_append_comm.trans ?_
    rw [List.append_assoc]
    refine (List.perm_append_comm (l₁ := j.ts) (l₂ := c.ts ++ kts (a ++ b))).trans ?_
    rw [List.append_assoc]
    exact List.Perm.append_left _ List.perm_append_comm
  · simp only [Value.ownBlock]
    exact nodup_repl (C := j.F ++ c.F) (tb := w2.heap.size) (sz := w2.heap.size) hnd2 hnd (fun x hx => by
      rcases hft x hx with (h | h) | h
      · exact .inl (List.mem_append_left _ h)
      · exact .inl (List.mem_append_right _ h)
      · exact .inr (.inr h)) (fun hx => by have := hlt _ (hmemF _ hx); omega) (fun x hx => Nat.lt_of_lt_of_le (hlt x (hmemF x hx)) hz)
  · rcases List.mem_append.1 hx with hx | hx
    · exact .inl (hmemF x (by simp [hx]))
    · rcases hft x hx with (h | h) | h
      · exact .inl (hmemF x (by simp [h]))
      · exact .inl (hmemF x (by simp [h]))
      · exact .inr (Nat.le_trans hz h)
  · rcases List.mem_cons.1 hx with e | hx
    · exact hmemF x (by simp [e])
    rcases List.mem_cons.1 hx with e | hx
    · exact hmemF x (by simp [e])
    · exact hmemF x (by simp [hx])

/-- WHAT MEND GIVES: the kids hold enough again. -/
def MendPost (fan lo h : Nat) (k : Kd) (w : World) (e : Ending) (w' : World) : Prop :=
  ∃ bv ks', e = .returned (.tuple #[]) ∧ w'.heap[k.p]? = some (ndO k.bx (.slice none 0 0) bv) ∧ w'.ownsRow 0 105 1 bv ks'.length (ptrs (kblks ks')) ∧ (∀ c ∈ ks', KidOk w' fan lo h c) ∧ (kts ks').Perm k.ts ∧ k.n ≤ ks'.length + 1 ∧ ks'.length ≤ k.n ∧ (k.p :: (bv.ownBlock.toList ++ kF ks')).Nodup ∧ (∀ x ∈ bv.ownBlock.toList ++ kF ks', x ∈ k.F ∨ w.heap.size ≤ x) ∧ Mod k.F w w'

theorem MidX.mend {w w2 : World} {fan lo h : Nat} {k : Kd} {bv : Value} {R N ks' : List Kd} (hM : MidX w w2 fan lo h k bv R N k.ts) (hp : ks'.Perm (R ++ N)) (hrow : w2.ownsRow 0 105 1 bv ks'.length (ptrs (kblks ks'))) (h1 : k.n ≤ ks'.length + 1) (h2 : ks'.length ≤ k.n) (hbv : ∀ x ∈ bv.ownBlock.toList, x ∈ k.F ∨ w.heap.size ≤ x) :
    MendPost fan lo h k w (.returned (.tuple #[])) w2 := by
  have hpF : (kF ks').Perm (kF R ++ kF N) := by rw [← kF_append]; exact kF_perm hp
  have hpt : (kts ks').Perm k.ts := by
    refine (kts_perm hp).trans ?_
    rw [kts_append]
    exact hM.ts
  refine ⟨bv, ks', rfl, hM.here, hrow, fun c hc => ?_, hpt, h1, h2, (List.Perm.cons _ (List.Perm.append_left _ hpF)).nodup_iff.2 hM.nodup, fun x hx => ?_, hM.m⟩
  · rcases List.mem_append.1 (hp.mem_iff.1 hc) with hc | hc
    · exact hM.rest c hc
    · exact hM.news c hc
  · rcases List.mem_append.1 hx with hx | hx
    · exact hbv x hx
    · exact hM.foot x (hpF.mem_iff.1 hx)

end Go.Proofs.YtmfdlacmlnginaaGreat

namespace Go.Proofs.YtmfdlacmlnginaaGreat
open Go.RowKit

/-- two leaves in one, ahead of the box -/
theorem joinLeaf {w3 w4 w6 : World} {j c : Kd} {gj cj g5 c5 : Nat} {tvc : Value} (hj : LeafAt w3 j (.slice (some ⟨gj, 0, none⟩) j.n cj)) (hc : LeafAt w3 c tvc) (hnd : (j.F ++ c.F).Nodup) (hm4 : Mod [gj] w3 w4) (ho : w4.ownsRow 0 103 1 (.slice (some ⟨g5, 0, none⟩) (j.n + c.n) c5) (j.n + c.n) (catL (ptrs (tblks j.ts)) (ptrs (tblks c.ts))))
    (hg5 : g5 = gj ∨ w3.heap.size ≤ g5) (hm6 : Mod [j.p] w4 w6) (hp6 : w6.heap[j.p]? = some (ndO j.bx (.slice (some ⟨g5, 0, none⟩) (j.n + c.n) c5) (.slice none 0 0))) :
    (j.ts ++ c.ts).length = j.n + c.n ∧ w6.ownsRow 0 103 1 (.slice (some ⟨g5, 0, none⟩) (j.n + c.n) c5) (j.ts ++ c.ts).length (ptrs (tblks (j.ts ++ c.ts))) ∧ (∀ t ∈ j.ts ++ c.ts, TgAt w6 t) ∧
    ∀ e w7, 0 < j.n → FitPost j.p (.slice (some ⟨g5, 0, none⟩) (j.n + c.n) c5) (.slice none 0 0) ((j.ts ++ c.ts).map Tg.bx) w6 e w7 → ∃ b, LeafAt w7 ⟨j.p, b, j.ts ++ c.ts, j.p :: ([g5] ++ tblks (j.ts ++ c.ts)), j.n + c.n⟩ (.slice (some ⟨g5, 0, none⟩) (j.n + c.n) c5) ∧ (∀ x ∈ j.p :: ([g5] ++ tblks (j.ts ++ c.ts)), (x ∈ j.F ∨ x ∈ c.F) ∨ w3.heap.size ≤ x) ∧ Mod j.F w3 w7 := by
  have hjF := hj.foot
  simp only [Value.ownBlock] at hjF
  have hcF := hc.foot
  have hd := List.nodup_append.1 hnd
  have hd1 := hd.1
  rw [hjF] at hd1
  have a1 := List.nodup_cons.1 hd1
  have a2 := List.nodup_append.1 a1.2
  have hgp : gj ≠ j.p := fun e => a1.1 (by rw [e]; simp)
  have hjp : j.p ∈ j.F := by rw [hjF]; simp
  have hgjF : gj ∈ j.F := by rw [hjF]; simp
  have hct : ∀ x ∈ tblks c.ts, x ∈ c.F := fun x hx => by rw [hcF]; exact List.mem_cons_of_mem _ (List.mem_append_right _ hx)
  have hjt : ∀ x ∈ tblks j.ts, x ∈ j.F := fun x hx => by rw [hjF]; exact List.mem_cons_of_mem _ (List.mem_append_right _ hx)
  have hcn : (tblks c.ts).Nodup := by
    have := hc.ok.nodup
    rw [hcF] at this
    exact (List.nodup_append.1 (List.nodup_cons.1 this).2).2.1
  have hlen : (j.ts ++ c.ts).length = j.n + c.n := by rw [List.length_append, hj.len, hc.len]
  have hltj : ∀ x ∈ j.F, x < w3.heap.size := NodeAt.lt (fan := 0) (lo := 0) (h := 0) ⟨_, hj⟩
  have hltc : ∀ x ∈ c.F, x < w3.heap.size := NodeAt.lt (fan := 0) (lo := 0) (h := 0) ⟨_, hc⟩
  have hg5p : g5 ≠ j.p := by
    rcases hg5 with e | e
    · rw [e]; exact hgp
    · have := hltj _ hjp; omega
  have hall : ∀ x ∈ tblks (j.ts ++ c.ts), (x ∈ tblks j.ts ∨ x ∈ tblks c.ts) := fun x hx => by
    rw [tblks_append] at hx
    exact List.mem_append.1 hx
  have hm36 : Mod [j.p, gj] w3 w6 := (hm4.mono (by simp)).trans (hm6.mono (by simp))
  have hout : ∀ x ∈ tblks (j.ts ++ c.ts), x ∉ [j.p, gj] := fun x hx => by
    simp only [List.mem_cons, List.not_mem_nil, or_false, not_or]
    rcases hall x hx with h | h
    · exact ⟨fun e => a1.1 (List.mem_append_right _ (e ▸ h)), fun e => a2.2.2 gj (by simp) x h e.symm⟩
    · exact ⟨fun e => hd.2.2 j.p hjp x (hct x h) e.symm, fun e => hd.2.2 gj hgjF x (hct x h) e.symm⟩
  have hT : ∀ t ∈ j.ts ++ c.ts, TgAt w6 t := fun t ht => by
    have h3 : TgAt w3 t := by
      rcases List.mem_append.1 ht with h | h
      · exact hj.things t h
      · exact hc.things t h
    exact h3.kept hm36 (hout _ (List.mem_map.2 ⟨t, ht, rfl⟩))
  have hrow : w6.ownsRow 0 103 1 (.slice (some ⟨g5, 0, none⟩) (j.n + c.n) c5) (j.ts ++ c.ts).length (ptrs (tblks (j.ts ++ c.ts))) := by
    rw [hlen, tblks_append, ptrs_append]
    exact owns_kept ho hm6 (fun x hx => by simp [Value.ownBlock] at hx; subst hx; simpa using hg5p)
  refine ⟨hlen, hrow, hT, fun e w7 h0 hfit => ?_⟩
  obtain ⟨b, _, hm7, hp7, n7, in7, ok7, _⟩ := hfit
  have hne : j.ts ++ c.ts ≠ [] := fun e => by
    rw [e] at hlen
    simp at hlen
    omega
  refine ⟨b, ⟨hp7, ?_, hlen, fun t ht => (hT t ht).kept hm7 (fun hx => hout _ (List.mem_map.2 ⟨t, ht, rfl⟩) (by simp at hx; simp [hx])), rfl, ⟨?_, n7, fun t ht => in7 _ (List.mem_map.2 ⟨t, ht, rfl⟩), fun _ => ok7 (by simpa using hne), fun e => absurd e hne⟩⟩, fun x hx => ?_, ?_⟩
  · have := owns_kept hrow hm7 (fun x hx => by simp [Value.ownBlock] at hx; subst hx; simpa using hg5p)
    rw [hlen] at this
    exact this
  · show (j.p :: ([g5] ++ tblks (j.ts ++ c.ts))).Nodup
    refine List.nodup_cons.2 ⟨fun hx => ?_, List.nodup_append.2 ⟨by simp, ?_, fun a ha b' hb e => ?_⟩⟩
    · rcases List.mem_append.1 hx with hx | hx
      · simp at hx; exact hg5p hx.symm
      · exact hout _ hx (by simp)
    · rw [tblks_append]
      exact List.nodup_append.2 ⟨a2.2.1, hcn, fun x hx y hy e => hd.2.2 x (hjt x hx) y (hct y hy) e⟩
    · simp at ha
      subst ha e
      rcases hg5 with e | e
      · exact hout _ hb (by simp [e])
      · rcases hall _ hb with h | h
        · have := hltj _ (hjt _ h); omega
        · have := hltc _ (hct _ h); omega
  · rcases List.mem_cons.1 hx with rfl | hx
    · exact .inl (.inl hjp)
    rcases List.mem_append.1 hx with hx | hx
    · simp at hx
      subst hx
      rcases hg5 with e | e
      · exact .inl (.inl (e ▸ hgjF))
      · exact .inr e
    · rcases hall x hx with h | h
      · exact .inl (.inl (hjt x h))
      · exact .inl (.inr (hct x h))
  · refine (hm36.trans (hm7.mono (by simp))).mono (fun x hx => ?_)
    simp only [List.mem_cons, List.not_mem_nil, or_false] at hx
    rcases hx with rfl | rfl
    · exact hjp
    · exact hgjF

/-- behind the taking out of the poor one: the row, and where all stands -/
theorem outRow {w w1 : World} {k : Kd} {g cc : Nat} {l r : List Kd} {c : Kd} {rest : List Value} (hi : InnerAt w k (.slice (some ⟨g, 0, none⟩) k.n cc) (l ++ c :: r)) (hsz : (ptrs (kblks (l ++ c :: r)) ++ rest).length = cc) (hcm : cc ≤ maxLen) (hm1 : Mod [g] w w1)
    (hr1 : w1.heap[g]? = some (rowO ((kblks (l ++ c :: r)).take l.length ++ (kblks (l ++ c :: r)).drop (l.length + 1)) (List.replicate (l.length + 1 - l.length) (.pointer none) ++ rest) 105)) :
    (l ++ r).length = k.n - 1 ∧ (w1.setCell ⟨k.p, 5, none⟩ (.slice (some ⟨g, 0, none⟩) (k.n - 1) cc)).heap[k.p]? = some (ndO k.bx (.slice none 0 0) (.slice (some ⟨g, 0, none⟩) (k.n - 1) cc)) ∧
    (w1.setCell ⟨k.p, 5, none⟩ (.slice (some ⟨g, 0, none⟩) (k.n - 1) cc)).ownsRow 0 105 1 (.slice (some ⟨g, 0, none⟩) (k.n - 1) cc) (k.n - 1) (ptrs (kblks (l ++ r))) ∧ Mod [k.p, g] w (w1.setCell ⟨k.p, 5, none⟩ (.slice (some ⟨g, 0, none⟩) (k.n - 1) cc)) ∧
    w1.heap[k.p]? = some (ndO k.bx (.slice none 0 0) (.slice (some ⟨g, 0, none⟩) k.n cc)) ∧ g ≠ k.p := by
  have hF := hi.foot
  simp only [Value.ownBlock] at hF
  have hnd := hi.ok.nodup
  rw [hF] at hnd
  have hgp : g ≠ k.p := fun e => (List.nodup_cons.1 hnd).1 (by rw [e]; simp)
  have hlen : (l ++ r).length = k.n - 1 := by rw [← hi.len]; simp
  have hblk : (kblks (l ++ c :: r)).take l.length ++ (kblks (l ++ c :: r)).drop (l.length + 1) = kblks (l ++ r) := by
    have e : kblks (l ++ c :: r) = kblks l ++ c.p :: kblks r := by simp [kblks]
    have el : (kblks l).length = l.length := by simp [kblks]
    rw [e, ← el, List.take_left, ← List.drop_drop, List.drop_left]
    simp [kblks]
  rw [hblk] at hr1
  have hn1 : 0 < k.n := by rw [← hi.len]; simp; omega
  have hro := row_ownsT (base := 0) (c := cc) hr1 (Nat.zero_le _) (by
    have e1 : (kblks (l ++ r)).length = k.n - 1 := by simp only [kblks, List.length_map]; exact hlen
    have e2 : (kblks (l ++ c :: r)).length = k.n := by simp only [kblks, List.length_map]; exact hi.len
    simp only [List.length_append, ptrs_length, List.length_replicate] at hsz ⊢
    rw [e1]
    rw [e2] at hsz
    omega) hcm
  have e1 : (kblks (l ++ r)).length = k.n - 1 := by simp only [kblks, List.length_map]; exact hlen
  rw [e1] at hro
  have hp1 := (hm1.block k.p (lt_of_block hi.here) (by simpa using fun e => hgp e.symm)).trans hi.here
  exact ⟨hlen, ndO_set5 hp1 _, owns_kept hro (Mod.setCell (F := [k.p]) _ _ _ (by simp)) (fun x hx => by simp [Value.ownBlock] at hx; subst hx; simpa using hgp), (hm1.mono (by simp)).trans (Mod.setCell _ _ _ (by simp)), hp1, hgp⟩

end Go.Proofs.YtmfdlacmlnginaaGreat

