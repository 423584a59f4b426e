import Derived.Test.YthimaoipogocfaaGreatJ07
import Derived.Test.YthimaoipogocfaaGreatJ06
namespace Go.Proofs.YthimaoipogocfaaGreat
open Go.RowKit

theorem pick_kids : ∀ (l : List Nat) (ks : List Kd), l.Perm (kblks ks) → ∃ us : List Kd, us.Perm ks ∧ kblks us = l := by
  intro l
  induction l with
  | nil =>
    intro ts h
    have : ts = [] := by simpa [kblks] using h.symm.eq_nil
    subst this
    exact ⟨[], .refl _, rfl⟩
  | cons b l ih =>
    intro ts h
    have hb : b ∈ kblks ts := h.mem_iff.1 (by simp)
    obtain ⟨t, ht, rfl⟩ := List.mem_map.1 hb
    obtain ⟨s, r, rfl⟩ := List.append_of_mem ht
    have hp : (s ++ t :: r).Perm (t :: (s ++ r)) := List.perm_middle
    have h2 : (t.p :: l).Perm (t.p :: kblks (s ++ r)) := h.trans (hp.map _)
    obtain ⟨us, hu, hul⟩ := ih (s ++ r) (List.Perm.cons_inv h2)
    exact ⟨t :: us, (hu.cons t).trans hp.symm, by simp [kblks] at hul ⊢; exact hul⟩

theorem kF_perm {a b : List Kd} (h : a.Perm b) : (kF a).Perm (kF b) := h.flatMap_right _
theorem kts_perm {a b : List Kd} (h : a.Perm b) : (kts a).Perm (kts b) := h.flatMap_right _
theorem kF_append (a b : List Kd) : kF (a ++ b) = kF a ++ kF b := by simp [kF]
theorem kts_append (a b : List Kd) : kts (a ++ b) = kts a ++ kts b := by simp [kts]
theorem mem_kF {ks : List Kd} {c : Kd} {x : Nat} (hc : c ∈ ks) (hx : x ∈ c.F) : x ∈ kF ks := List.mem_flatMap.2 ⟨c, hc, hx⟩

/-- what a kid owes -/
def KidOk (w : World) (fan lo h : Nat) (c : Kd) : Prop := NodeAt w fan lo h c ∧ lo ≤ c.n ∧ c.n ≤ fan
theorem KidOk.ts {w : World} {fan lo h : Nat} {c : Kd} (hc : KidOk w fan lo h c) (h0 : 0 < lo) : c.ts ≠ [] := fun e => by
  have := (NodeAt.size hc.1).1
  rw [e] at this
  have hp : 0 < c.n * lo ^ h := Nat.mul_pos (by have := hc.2.1; omega) (Nat.pow_pos h0)
  simp at this
  omega
theorem KidOk.bxok {w : World} {fan lo h : Nat} {c : Kd} (hc : KidOk w fan lo h c) (h0 : 0 < lo) : c.bx.Ok := hc.1.ok.ok (hc.ts h0)
theorem KidOk.kept {w w' : World} {fan lo h : Nat} {c : Kd} {G : List Nat} (hc : KidOk w fan lo h c) (hm : Mod G w w') (hf : ∀ x ∈ c.F, x ∉ G) : KidOk w' fan lo h c := ⟨hc.1.kept hm hf, hc.2⟩

theorem kts_ne {w : World} {fan lo h : Nat} {us : List Kd} (hne : us ≠ []) (hk : ∀ c ∈ us, KidOk w fan lo h c) (h0 : 0 < lo) : kts us ≠ [] := fun e => by
  cases us with
  | nil => exact hne rfl
  | cons c us =>
    simp only [kts, List.flatMap_cons, List.append_eq_nil_iff] at e
    exact (hk c (by simp)).ts h0 e.1

structure MidInner (w4 : World) (fan lo h : Nat) (k : Kd) (ks : List Kd) (q g1 c1 g2 c2 : Nat) (us1 us2 : List Kd) : Prop where
  p4 : w4.heap[k.p]? = some (ndO k.bx (.slice none 0 0) (.slice (some ⟨g1, 0, none⟩) us1.length c1))
  q4 : ∃ b, w4.heap[q]? = some (ndO b (.slice none 0 0) (.slice (some ⟨g2, 0, none⟩) us2.length c2))
  r1 : w4.ownsRow 0 115 1 (.slice (some ⟨g1, 0, none⟩) us1.length c1) us1.length (ptrs (kblks us1))
  r2 : w4.ownsRow 0 115 1 (.slice (some ⟨g2, 0, none⟩) us2.length c2) us2.length (ptrs (kblks us2))
  t : ∀ c ∈ us1 ++ us2, KidOk w4 fan lo h c
  perm : (us1 ++ us2).Perm ks
  apart : (k.p :: q :: g1 :: g2 :: (kF us1 ++ kF us2)).Nodup

theorem MidInner.kept {w4 w5 : World} {fan lo h : Nat} {k : Kd} {ks : List Kd} {q g1 c1 g2 c2 : Nat} {us1 us2 : List Kd} (hM : MidInner w4 fan lo h k ks q g1 c1 g2 c2 us1 us2) {p : Nat} (hm : Mod [p] w4 w5) (hp : p = k.p ∨ p = q) :
    w5.ownsRow 0 115 1 (.slice (some ⟨g1, 0, none⟩) us1.length c1) us1.length (ptrs (kblks us1)) ∧ w5.ownsRow 0 115 1 (.slice (some ⟨g2, 0, none⟩) us2.length c2) us2.length (ptrs (kblks us2)) ∧ ∀ c ∈ us1 ++ us2, KidOk w5 fan lo h c := by
  have hn := hM.apart
  simp only [List.nodup_cons, List.mem_cons, not_or] at hn
  obtain ⟨⟨n1, n2, n3, n4⟩, ⟨n5, n6, n7⟩, ⟨n8, n9⟩, n10, n11⟩ := hn
  refine ⟨owns_kept hM.r1 hm (fun x hx => ?_), owns_kept hM.r2 hm (fun x hx => ?_), fun c hc => (hM.t c hc).kept hm (fun x hx => ?_)⟩
  · simp [Value.ownBlock] at hx
    subst hx
    rcases hp with rfl | rfl <;> simp <;> first | exact fun e => n2 e.symm | exact fun e => n5 e.symm
  · simp [Value.ownBlock] at hx
    subst hx
    rcases hp with rfl | rfl <;> simp <;> first | exact fun e => n3 e.symm | exact fun e => n6 e.symm
  · have hmem : x ∈ kF us1 ++ kF us2 := by
      rw [← kF_append]
      exact mem_kF hc hx
    rcases hp with rfl | rfl <;> simp only [List.mem_singleton]
    · exact fun e => n4 (e ▸ hmem)
    · exact fun e => n7 (e ▸ hmem)

theorem midInner {w2 w' : World} {fan lo h : Nat} {k : Kd} {ks : List Kd} {g c q : Nat} {b0 : Bx} (hl : InnerAt w2 k (.slice (some ⟨g, 0, none⟩) k.n c) ks) (hK : ∀ c ∈ ks, KidOk w2 fan lo h c) (hq : w2.heap[q]? = some (ndO b0 (.slice none 0 0) (.slice none 0 0))) (hqF : q ∉ k.F) {g1 c1 g2 c2 : Nat} {l1 l2 : List Nat} (hp : (l1 ++ l2).Perm (kblks ks)) (hm : Mod [] w2.drew w')
    (h1 : w'.ownsRow 0 115 1 (.slice (some ⟨g1, 0, none⟩) l1.length c1) l1.length (ptrs l1)) (h2 : w'.ownsRow w2.drew.heap.size 115 1 (.slice (some ⟨g2, 0, none⟩) l2.length c2) l2.length (ptrs l2)) (hne : g1 ≠ g2) (hg1 : w2.drew.heap.size ≤ g1) :
    ∃ us1 us2, l1 = kblks us1 ∧ l2 = kblks us2 ∧ MidInner ((w'.setCell ⟨k.p, 5, none⟩ (.slice (some ⟨g1, 0, none⟩) l1.length c1)).setCell ⟨q, 5, none⟩ (.slice (some ⟨g2, 0, none⟩) l2.length c2)) fan lo h k ks q g1 c1 g2 c2 us1 us2 := by
  obtain ⟨us, hu, hul⟩ := pick_kids _ _ hp
  have e1 : kblks (us.take l1.length) = l1 := by
    have := congrArg (List.take l1.length) hul
    rw [List.take_left] at this
    rw [← this]; simp [kblks, List.map_take]
  have e2 : kblks (us.drop l1.length) = l2 := by
    have := congrArg (List.drop l1.length) hul
    rw [List.drop_left] at this
    rw [← this]; simp [kblks, List.map_drop]
  have q1 : (us.take l1.length).length = l1.length := by rw [← congrArg List.length e1]; simp [kblks]
  have q2 : (us.drop l1.length).length = l2.length := by rw [← congrArg List.length e2]; simp [kblks]
  have hmd : Mod [] w2 w' := (Mod.drew w2).trans hm
  have hl' := hl.kept hmd (by simp)
  have hq' := (hmd.block q (lt_of_block hq) (by simp)).trans hq
  have hsz : w2.drew.heap.size = w2.heap.size := rfl
  have hg2 : w2.heap.size ≤ g2 := (h2.lt g2 rfl).1
  rw [hsz] at hg1
  have hplt := lt_of_block hl.here
  have hqlt := lt_of_block hq
  have hkp : k.p ∈ k.F := by rw [hl.foot]; simp
  have hpq : k.p ≠ q := fun e => hqF (e ▸ hkp)
  have hblk : ∀ x ∈ kF ks, x ∈ k.F ∧ x < w2.heap.size := fun x hx => by
    obtain ⟨d, hd, hx⟩ := List.mem_flatMap.1 hx
    exact ⟨hl.kid_F hd x hx, NodeAt.lt (hK d hd).1 x hx⟩
  have hnd := hl.ok.nodup
  rw [hl.foot] at hnd
  have hnt : (kF ks).Nodup := (List.nodup_append.1 (List.nodup_cons.1 hnd).2).2.1
  have hpt : k.p ∉ kF ks := fun hx => (List.nodup_cons.1 hnd).1 (List.mem_append_right _ hx)
  have hm4 : Mod [k.p, q] w' ((w'.setCell ⟨k.p, 5, none⟩ (.slice (some ⟨g1, 0, none⟩) l1.length c1)).setCell ⟨q, 5, none⟩ (.slice (some ⟨g2, 0, none⟩) l2.length c2)) := (Mod.setCell _ _ _ (by simp)).trans (Mod.setCell _ _ _ (by simp))
  have hblks : kF (us.take l1.length) ++ kF (us.drop l1.length) = kF us := by rw [← kF_append, List.take_append_drop]
  have hpF := kF_perm hu
  refine ⟨us.take l1.length, us.drop l1.length, e1.symm, e2.symm, ?_, ?_, ?_, ?_, ?_, ?_, ?_⟩
  · rw [q1, block_setCell_other hpq]
    exact ndO_set5 hl'.here _
  · refine ⟨b0, ?_⟩
    rw [q2]
    refine ndO_set5 (bv := .slice none 0 0) ?_ _
    rw [block_setCell_other (fun e => hpq e.symm)]
    exact hq'
  · rw [q1, e1]
    exact owns_kept h1 hm4 (fun x hx => by simp [Value.ownBlock] at hx; subst hx; simp; omega)
  · rw [q2, e2]
    exact owns_kept (owns_base h2 (Nat.zero_le _)) hm4 (fun x hx => by simp [Value.ownBlock] at hx; subst hx; simp; omega)
  · intro d hd
    rw [List.take_append_drop] at hd
    have hk := hu.mem_iff.1 hd
    refine ((hK d hk).kept hmd (by simp)).kept hm4 (fun x hx => ?_)
    have hxF := mem_kF hk hx
    simp only [List.mem_cons, List.not_mem_nil, or_false, not_or]
    exact ⟨fun e => hpt (e ▸ hxF), fun e => hqF (e ▸ (hblk x hxF).1)⟩
  · rw [List.take_append_drop]; exact hu
  · rw [hblks]
    have hnu : (kF us).Nodup := hpF.nodup_iff.2 hnt
    simp only [List.nodup_cons, List.mem_cons, not_or]
    refine ⟨⟨hpq, by omega, by omega, fun hb => ?_⟩, ⟨by omega, by omega, fun hb => ?_⟩, ⟨hne, fun hb => ?_⟩, fun hb => ?_, hnu⟩
    · exact hpt (hpF.mem_iff.1 hb)
    · exact hqF (hblk _ (hpF.mem_iff.1 hb)).1
    · have := (hblk _ (hpF.mem_iff.1 hb)).2; omega
    · have := (hblk _ (hpF.mem_iff.1 hb)).2; omega

theorem splitInner {fan lo h : Nat} {w w4 w5 w6 : World} {k : Kd} {ks : List Kd} {q g1 c1 g2 c2 : Nat} {us1 us2 : List Kd} {e5 e6 : Ending} (hM : MidInner w4 fan lo h k ks q g1 c1 g2 c2 us1 us2) (h5 : FitPost k.p (.slice none 0 0) (.slice (some ⟨g1, 0, none⟩) us1.length c1) (us1.map Kd.bx) w4 e5 w5) (h6 : FitPost q (.slice none 0 0) (.slice (some ⟨g2, 0, none⟩) us2.length c2) (us2.map Kd.bx) w5 e6 w6)
    (hm : Mod [k.p, q] w w4) (hq : w.heap.size ≤ q) (hg1 : w.heap.size ≤ g1) (hg2 : w.heap.size ≤ g2) (hF : k.p ∈ k.F ∧ ∀ x ∈ kF ks, x ∈ k.F) (hl1 : lo ≤ us1.length) (hl2 : lo ≤ us2.length) (hkn : ks.length = k.n) (hkt : k.ts = kts ks) (h0 : 0 < lo) :
    SplitPost fan lo (h + 1) k w (.returned (.pointer (some ⟨q, 0, none⟩))) w6 := by
  obtain ⟨b1, _, hm5, hp5, n5, in5, ok5, _⟩ := h5
  obtain ⟨b2, _, hm6, hq6, n6, in6, ok6, _⟩ := h6
  obtain ⟨r15, r25, t5⟩ := hM.kept hm5 (.inl rfl)
  have hn := hM.apart
  have hn' := hn
  simp only [List.nodup_cons, List.mem_cons, not_or] at hn
  obtain ⟨⟨n1, n2, n3, n4⟩, ⟨n7, n8, n9⟩, ⟨n10, n11⟩, n12, n13⟩ := hn
  have nd := List.nodup_append.1 n13
  have hp6 := (hm6.block k.p (lt_of_block hp5) (by simpa using n1)).trans hp5
  have r16 := owns_kept r15 hm6 (fun x hx => by simp [Value.ownBlock] at hx; subst hx; simpa using fun e => n7 e.symm)
  have r26 := owns_kept r25 hm6 (fun x hx => by simp [Value.ownBlock] at hx; subst hx; simpa using fun e => n8 e.symm)
  have t6 : ∀ d ∈ us1 ++ us2, KidOk w6 fan lo h d := fun d hd => (t5 d hd).kept hm6 (fun x hx => by
    have hmem : x ∈ kF us1 ++ kF us2 := by
      rw [← kF_append]
      exact mem_kF hd hx
    simp only [List.mem_singleton]
    exact fun e => n9 (e ▸ hmem))
  have hne1 : us1 ≠ [] := fun e => by subst e; simp at hl1; omega
  have hne2 : us2 ≠ [] := fun e => by subst e; simp at hl2; omega
  have hkk : ∀ x ∈ kF us1 ++ kF us2, x ∈ k.F := fun x hx => by
    rw [← kF_append] at hx
    exact hF.2 x ((kF_perm hM.perm).mem_iff.1 hx)
  have cov : ∀ (us : List Kd) (b : Bx), (∀ d ∈ us, KidOk w6 fan lo h d) → (∀ x ∈ us.map Kd.bx, x.In b) → ∀ t ∈ kts us, t.bx.In b := fun us b hu hb t ht => by
    obtain ⟨d, hd, htd⟩ := List.mem_flatMap.1 ht
    exact ((hu d hd).1.ok.cover t htd).trans (hb _ (List.mem_map.2 ⟨d, hd, rfl⟩))
  refine ⟨⟨k.p, b1, kts us1, k.p :: (g1 :: kF us1), us1.length⟩, ⟨q, b2, kts us2, q :: (g2 :: kF us2), us2.length⟩, rfl,
    ⟨_, us1, ⟨hp6, r16, rfl, rfl, rfl, ⟨?_, n5, cov us1 b1 (fun d hd => t6 d (List.mem_append_left _ hd)) in5, fun _ => ok5 (by simpa using hne1), fun e => absurd e (kts_ne hne1 (fun d hd => t6 d (List.mem_append_left _ hd)) h0)⟩⟩, fun d hd => t6 d (List.mem_append_left _ hd)⟩,
    ⟨_, us2, ⟨hq6, r26, rfl, rfl, rfl, ⟨?_, n6, cov us2 b2 (fun d hd => t6 d (List.mem_append_right _ hd)) in6, fun _ => ok6 (by simpa using hne2), fun e => absurd e (kts_ne hne2 (fun d hd => t6 d (List.mem_append_right _ hd)) h0)⟩⟩, fun d hd => t6 d (List.mem_append_right _ hd)⟩,
    rfl, ?_, hl1, hl2, ?_, ?_, ?_, ?_⟩
  · simp only [List.nodup_cons, List.mem_cons, not_or]
    exact ⟨⟨n2, fun hx => n4 (List.mem_append_left _ hx)⟩, fun hx => n11 (List.mem_append_left _ hx), nd.1⟩
  · simp only [List.nodup_cons, List.mem_cons, not_or]
    exact ⟨⟨n8, fun hx => n9 (List.mem_append_right _ hx)⟩, fun hx => n12 (List.mem_append_right _ hx), nd.2.1⟩
  · show (kts us1 ++ kts us2).Perm k.ts
    rw [← kts_append, hkt]
    exact kts_perm hM.perm
  · have := hM.perm.length_eq
    rw [List.length_append] at this
    show us1.length + us2.length = k.n
    omega
  · have hp : (k.p :: (g1 :: kF us1) ++ q :: (g2 :: kF us2)).Perm (k.p :: q :: g1 :: g2 :: (kF us1 ++ kF us2)) := by
      simp only [List.cons_append]
      refine List.Perm.cons _ ?_
      have a1 : (g1 :: (kF us1 ++ q :: g2 :: kF us2)).Perm (q :: g1 :: (kF us1 ++ g2 :: kF us2)) := by
        have := List.perm_middle (a := q) (l₁ := g1 :: kF us1) (l₂ := g2 :: kF us2)
        simpa using this
      refine a1.trans (List.Perm.cons _ ?_)
      exact List.Perm.cons _ List.perm_middle
    exact hp.nodup_iff.2 hn'
  · intro x hx
    simp only [List.cons_append, List.mem_cons, List.mem_append] at hx
    rcases hx with rfl | rfl | hx | rfl | rfl | hx
    · exact .inl hF.1
    · exact .inr hg1
    · exact .inl (hkk x (List.mem_append_left _ hx))
    · exact .inr hq
    · exact .inr hg2
    · exact .inl (hkk x (List.mem_append_right _ hx))
  · have a : Mod [k.p, q] w w6 := (hm.trans (hm5.mono (by simp))).trans (hm6.mono (by simp))
    exact ⟨a.os, a.tape, a.output, a.size, fun i hi hf => a.block i hi (by simp at hf ⊢; exact ⟨hf, by omega⟩)⟩

def kxAt (ks : List Kd) (b : Nat) : Bx := match ks.find? (fun t => t.p == b) with | some t => t.bx | none => Bx.none
theorem kxAt_row {w : World} {fan lo h : Nat} {ks : List Kd} (hk : ∀ c ∈ ks, KidOk w fan lo h c) (h0 : 0 < lo) : ∀ p ∈ kblks ks, HasBx w p 126 (kxAt ks p) ∧ (kxAt ks p).Ok := fun p hp => by
  obtain ⟨s, hs, rfl⟩ := List.mem_map.1 hp
  unfold kxAt
  cases hf : ks.find? (fun t => t.p == s.p) with
  | none =>
    have := List.find?_eq_none.1 hf s hs
    simp at this
  | some t =>
    have ht := List.mem_of_find?_eq_some hf
    have he : t.p = s.p := by simpa using List.find?_some hf
    have hb := (hk t ht).1.hasBx
    rw [he] at hb
    exact ⟨hb, (hk t ht).bxok h0⟩

end Go.Proofs.YthimaoipogocfaaGreat

namespace Go.Proofs.YthimaoipogocfaaGreat
open Go.RowKit
attribute [local go_sem] run_store_f32 run_neg_inf

set_option maxRecDepth 100000 in
set_option maxHeartbeats 1000000 in
theorem cut_inner {w : World} {fan h : Nat} {k : Kd} {bv : Value} {ks : List Kd} (hl : InnerAt w k bv ks) (hK : ∀ c ∈ ks, KidOk w fan (leastF fan) h c) (hn : k.n ≤ 21) (hf4 : 4 ≤ fan) (hf : fan ≤ 16) :
    Calls Tryz.prog 107 #[.pointer (some ⟨k.p, 0, none⟩), .int .i64 fan] w (CutPost2 fan (leastF fan) (h + 1) k w) := by
  have hv := ownV hl.row
  have HC := hideIt (count_any hl.here (.inl ⟨rfl, rfl⟩) hv (by omega))
  rw [Nat.zero_add] at HC
  by_cases hle : k.n ≤ fan
  · have hle' : (k.n : Int) ≤ (fan : Int) := by omega
    go_enter Tryz.func107, Tryz.ntmps107
    go_wp2_with fail
    refine HC.out.mono ?_
    rintro e w1 ⟨rfl, hm⟩
    go_wp2
    go_ret
    exact .inl ⟨hle, rfl, hm⟩
  · have hgt : ¬ ((k.n : Int) ≤ (fan : Int)) := by omega
    have hlo : leastF fan ≤ 6 ∧ 2 ≤ leastF fan ∧ 2 * leastF fan ≤ fan + 1 := by unfold leastF; omega
    have HL := hideIt hl
    have HK := hideIt hK
    have hl0 : 0 < leastF fan := by omega
    rcases hv with ⟨_, h0⟩ | ⟨g, c, rfl⟩
    · omega
    clear hl hK
    go_enter Tryz.func107, Tryz.ntmps107
    go_wp2_with fail
    refine HC.out.mono ?_
    rintro e w1 ⟨rfl, hm1⟩
    have HL1 := hideIt (HL.out.kept hm1 (by simp))
    have HK1 := hideIt (fun c hc => (HK.out c hc).kept hm1 (by simp))
    have HM1 := hideIt hm1
    clear hm1 HC
    go_wp2_with fail
    have hm2 : Mod [] w1 (w1.alloc (ndO ⟨0, 0, 0, 0⟩ (.slice none 0 0) (.slice none 0 0))) := Mod.alloc _ _
    have hq2 : (w1.alloc (ndO ⟨0, 0, 0, 0⟩ (.slice none 0 0) (.slice none 0 0))).heap[w1.heap.size]? = some (ndO ⟨0, 0, 0, 0⟩ (.slice none 0 0) (.slice none 0 0)) := heap_alloc_new w1 _
    generalize hw2 : w1.alloc (ndO ⟨0, 0, 0, 0⟩ (.slice none 0 0) (.slice none 0 0)) = w2 at *
    have HW2 := hideIt hw2
    clear hw2
    have hl2 := HL1.out.kept hm2 (by simp)
    have hk2 : ∀ c ∈ ks, KidOk w2 fan (leastF fan) h c := fun c hc => (HK1.out c hc).kept hm2 (by simp)
    refine (isLeaf_some hl2.here (by omega)).mono ?_
    rintro e w3 ⟨rfl, rfl⟩
    generalize hq : w1.heap.size = q at *
    obtain ⟨_, c4⟩ := cell_ndO hl2.here
    have fp := frozen_of_block hl2.here 5
    obtain ⟨_, d4⟩ := cell_ndO hq2
    have fq := frozen_of_block hq2 5
    have hpq : k.p ≠ q := by have := lt_of_block HL1.out.here; omega
    have HQF := hideIt (show q ∉ k.F from fun hx => by have := NodeAt.lt (fan := fan) (lo := leastF fan) (h := h + 1) ⟨_, ks, HL1.out, HK1.out⟩ q hx; omega)
    have HKF := hideIt (show k.p ∈ k.F ∧ ∀ x ∈ kF ks, x ∈ k.F from ⟨NodeAt.p_mem (fan := fan) (lo := leastF fan) (h := h + 1) ⟨_, ks, HL1.out, HK1.out⟩, fun x hx => by
      obtain ⟨d, hd, hx⟩ := List.mem_flatMap.1 hx
      exact HL1.out.kid_F hd x hx⟩)
    have HH := hideIt (fun W (hW : Mod [] w2 W) => halveN (w := W) (blk := g) (cap := c) (n := k.n) (least := leastF fan) (ps := kblks ks) (bx := kxAt ks) (hl2.kept hW (by simp)).row (kxAt_row (fun c hc => (hk2 c hc).kept hW (by simp)) hl0) hn (by omega) (by omega))
    have HKK := hideIt hk2
    clear hk2
    have HLL := hideIt hl2
    have HQ2 := hideIt hq2
    have HM2 := hideIt hm2
    clear hl2 hq2 hm2
    go_wp2_with fail
    go_region_with (first
      | (go_at_call 132; refine (least_any fan hf _).mono ?_; rintro e w' ⟨rfl, rfl⟩)
      | (go_at_call 145; refine (HH.out _ (Mod.drew _)).mono ?_; rintro e w' ⟨g1, c1, g2, c2, l1, l2, rfl, hrest⟩; have x1 := cell_mod hrest.2.2.2.1 c4; have x2 := cell_mod hrest.2.2.2.1 d4; have x3 := frozen_mod hrest.2.2.2.1 c4 fp; have x4 := frozen_mod hrest.2.2.2.1 d4 fq; have HRR := hideIt hrest; clear hrest))
    all_goals
      have hr := HRR.out
      obtain ⟨us1, us2, rfl, rfl, hM⟩ := midInner HLL.out HKK.out HQ2.out HQF.out hr.1 hr.2.2.2.1 hr.2.2.2.2.1 hr.2.2.2.2.2.1 hr.2.2.2.2.2.2.1 (by
        rcases hr.2.2.2.2.2.2.2 with h | h
        · cases h
        · exact h)
      have l1 : (kblks us1).length = us1.length := by simp [kblks]
      have l2 : (kblks us2).length = us2.length := by simp [kblks]
      simp only [l1, l2] at hM hr ⊢
      have hm4 : Mod [k.p, q] w ((w'.setCell ⟨k.p, 5, none⟩ (.slice (some ⟨g1, 0, none⟩) us1.length c1)).setCell ⟨q, 5, none⟩ (.slice (some ⟨g2, 0, none⟩) us2.length c2)) :=
        ((((HM1.out.trans HM2.out).trans (Mod.drew _)).trans hr.2.2.2.1).nil.trans (Mod.setCell _ _ _ (by simp))).trans (Mod.setCell _ _ _ (by simp))
      have hz : w.heap.size ≤ w2.heap.size := (HM1.out.trans HM2.out).size
      have hg1 : w.heap.size ≤ g1 := by
        rcases hr.2.2.2.2.2.2.2 with h | h
        · cases h
        · exact Nat.le_trans hz h
      have hg2 : w.heap.size ≤ g2 := Nat.le_trans hz (hr.2.2.2.2.2.1.lt g2 rfl).1
      have hqz : w.heap.size ≤ q := by have := HM1.out.size; omega
      have HG := hideIt (And.intro hg1 (And.intro hg2 hqz))
      have HLO := hideIt (And.intro hr.2.1 hr.2.2.1)
      have HMM := hideIt hM
      have HM4 := hideIt hm4
      clear hr HRR hM hm4 hg1 hg2 hqz hz x1 x2 x3 x4 c4 d4 fp fq HH
      generalize ((w'.setCell ⟨k.p, 5, none⟩ (.slice (some ⟨g1, 0, none⟩) us1.length c1)).setCell ⟨q, 5, none⟩ (.slice (some ⟨g2, 0, none⟩) us2.length c2)) = w4 at *
      have hle : us1.length + us2.length = k.n := by
        have := HMM.out.perm.length_eq
        rw [List.length_append, HL.out.len] at this
        exact this
      go_wp2_with fail
      have hsep := HMM.out.apart
      simp only [List.nodup_cons, List.mem_cons, not_or] at hsep
      have HSEP := hideIt hsep
      clear hsep
      refine (fit_inner HMM.out.p4 HMM.out.r1 (fun d hd => ⟨(HMM.out.t d (List.mem_append_left _ hd)).1.hasBx, (HMM.out.t d (List.mem_append_left _ hd)).bxok hl0, fun e => HSEP.out.1.2.2.2 (List.mem_append_left _ (mem_kF hd (e ▸ (HMM.out.t d (List.mem_append_left _ hd)).1.p_mem)))⟩) (fun x hx => by simp [Value.ownBlock] at hx; subst hx; exact fun e => HSEP.out.1.2.1 e.symm) (by omega)).mono ?_
      intro e5 w5 h5
      obtain ⟨b5, rfl, h5'⟩ := id h5
      obtain ⟨r15, r25, t5⟩ := HMM.out.kept h5'.1 (.inl rfl)
      obtain ⟨bq, hq4⟩ := HMM.out.q4
      have hq5 := (h5'.1.block q (lt_of_block hq4) (by simpa using fun e => hpq e.symm)).trans hq4
      have H5 := hideIt h5
      clear h5 h5' r15
      go_wp2_with fail
      refine (fit_inner hq5 r25 (fun d hd => ⟨(t5 d (List.mem_append_right _ hd)).1.hasBx, (t5 d (List.mem_append_right _ hd)).bxok hl0, fun e => HSEP.out.2.1.2.2 (List.mem_append_right _ (mem_kF hd (e ▸ (t5 d (List.mem_append_right _ hd)).1.p_mem)))⟩) (fun x hx => by simp [Value.ownBlock] at hx; subst hx; exact fun e => HSEP.out.2.1.2.1 e.symm) (by omega)).mono ?_
      intro e6 w6 h6
      obtain ⟨b6, rfl, h6'⟩ := id h6
      have hfin := splitInner (fan := fan) HMM.out H5.out h6 HM4.out HG.out.2.2 HG.out.1 HG.out.2.1 HKF.out HLO.out.1 HLO.out.2 HL.out.len HL.out.things (by omega)
      have HF := hideIt hfin
      clear h6 h6' hq5 r25 t5 hq4 hfin H5 HMM HM4
      go_wp2
      go_ret
      exact .inr ⟨by omega, HF.out⟩

end Go.Proofs.YthimaoipogocfaaGreat

namespace Go.Proofs.YthimaoipogocfaaGreat
open Go.RowKit
attribute [local go_sem] run_store_f32 run_neg_inf

def Cells4 (w : World) (p : Nat) (b : Bx) : Prop := w.cell? ⟨p, 0, none⟩ = some (.float .f32 b.x0) ∧ w.cell? ⟨p, 1, none⟩ = some (.float .f32 b.y0) ∧ w.cell? ⟨p, 2, none⟩ = some (.float .f32 b.x1) ∧ w.cell? ⟨p, 3, none⟩ = some (.float .f32 b.y1)
theorem Cells4.mod {w w' : World} {p : Nat} {b : Bx} (h : Cells4 w p b) (hm : Mod [] w w') : Cells4 w' p b := ⟨cell_mod hm h.1, cell_mod hm h.2.1, cell_mod hm h.2.2.1, cell_mod hm h.2.2.2⟩

set_option maxRecDepth 100000 in
set_option maxHeartbeats 2000000 in
theorem closest1_any {w : World} {p q r : Nat} {a b c : Bx} (hp : Cells4 w p a) (hq : Cells4 w q b) (hr : Cells4 w r c) (ka : a.Ok) (kb : b.Ok) (kc : c.Ok) :
    Calls Tryz.prog 139 #[.pointer (some ⟨p, 0, none⟩), .pointer (some ⟨q, 0, none⟩), .pointer (some ⟨r, 0, none⟩)] w (SomeInt w) := by
  obtain ⟨f, ha, hb, hf⟩ : ∃ f : Bool → Bx, f true = a ∧ f false = b ∧ ∀ t, (f t).Ok := ⟨fun t => if t then a else b, rfl, rfl, fun t => by cases t; exact kb; exact ka⟩
  subst ha hb
  have HK := hideIt hf
  have HC := hideIt kc
  obtain ⟨p0, p1, p2, p3⟩ := hp
  obtain ⟨q0, q1, q2, q3⟩ := hq
  obtain ⟨r0, r1, r2, r3⟩ := hr
  clear ka kb kc hf
  go_enter Tryz.func139, Tryz.ntmps139
  go_wp2_with fail
  go_region_held (fun w' => w'.cell? ⟨p, 0, none⟩ = some (.float .f32 (f true).x0) ∧ w'.cell? ⟨p, 1, none⟩ = some (.float .f32 (f true).y0) ∧ w'.cell? ⟨p, 2, none⟩ = some (.float .f32 (f true).x1) ∧ w'.cell? ⟨p, 3, none⟩ = some (.float .f32 (f true).y1) ∧
      w'.cell? ⟨q, 0, none⟩ = some (.float .f32 (f false).x0) ∧ w'.cell? ⟨q, 1, none⟩ = some (.float .f32 (f false).y0) ∧ w'.cell? ⟨q, 2, none⟩ = some (.float .f32 (f false).x1) ∧ w'.cell? ⟨q, 3, none⟩ = some (.float .f32 (f false).y1) ∧
      w'.cell? ⟨r, 0, none⟩ = some (.float .f32 c.x0) ∧ w'.cell? ⟨r, 1, none⟩ = some (.float .f32 c.y0) ∧ w'.cell? ⟨r, 2, none⟩ = some (.float .f32 c.x1) ∧ w'.cell? ⟨r, 3, none⟩ = some (.float .f32 c.y1) ∧ Mod [] w w')
    ((first
      | assumption
      | exact ⟨cell_mod hm (by simp only [*]), cell_mod hm (by simp only [*]), cell_mod hm (by simp only [*]), cell_mod hm (by simp only [*]), cell_mod hm (by simp only [*]), cell_mod hm (by simp only [*]), cell_mod hm (by simp only [*]), cell_mod hm (by simp only [*]), cell_mod hm (by simp only [*]), cell_mod hm (by simp only [*]), cell_mod hm (by simp only [*]), cell_mod hm (by simp only [*]), Mod.trans (by simp only [*]) hm⟩
      | exact ⟨cell_mod (Mod.drew _) (by simp only [*]), cell_mod (Mod.drew _) (by simp only [*]), cell_mod (Mod.drew _) (by simp only [*]), cell_mod (Mod.drew _) (by simp only [*]), cell_mod (Mod.drew _) (by simp only [*]), cell_mod (Mod.drew _) (by simp only [*]), cell_mod (Mod.drew _) (by simp only [*]), cell_mod (Mod.drew _) (by simp only [*]), cell_mod (Mod.drew _) (by simp only [*]), cell_mod (Mod.drew _) (by simp only [*]), cell_mod (Mod.drew _) (by simp only [*]), cell_mod (Mod.drew _) (by simp only [*]), Mod.drew _⟩
      | exact ⟨cell_mod (Mod.alloc _ _) (by simp only [*]), cell_mod (Mod.alloc _ _) (by simp only [*]), cell_mod (Mod.alloc _ _) (by simp only [*]), cell_mod (Mod.alloc _ _) (by simp only [*]), cell_mod (Mod.alloc _ _) (by simp only [*]), cell_mod (Mod.alloc _ _) (by simp only [*]), cell_mod (Mod.alloc _ _) (by simp only [*]), cell_mod (Mod.alloc _ _) (by simp only [*]), cell_mod (Mod.alloc _ _) (by simp only [*]), cell_mod (Mod.alloc _ _) (by simp only [*]), cell_mod (Mod.alloc _ _) (by simp only [*]), cell_mod (Mod.alloc _ _) (by simp only [*]), Mod.trans (by simp only [*]) (Mod.alloc _ _)⟩))
    ((first
      | (go_at_call 142; refine (growth_any (b := ⟨_, _, _, _⟩) (o := ⟨_, _, _, _⟩) (HK.out _) HC.out _).mono ?_; rintro e w' ⟨z, rfl, hm⟩)
      | (go_at_call 143; refine (span_some (b := ⟨_, _, _, _⟩) (HK.out _) _).mono ?_; rintro e w' ⟨z, rfl, hm⟩)
      | (go_at_call 141; refine (compareInt_any _ _ _).mono ?_; rintro e w' ⟨rfl, rfl⟩)
      | (go_at_call 140; refine (or_new _ _ _).mono ?_; rintro e w'' ⟨rfl, rfl⟩)))
  rename_i hheld
  have hmm := hheld.2.2.2.2.2.2.2.2.2.2.2.2
  clear hheld hm
  go_wp2
  go_ret
  exact ⟨_, rfl, hmm⟩

def ClosePost (ps : List Nat) (w : World) (e : Ending) (w' : World) : Prop := ∃ (i p : Nat), ps[i]? = some p ∧ e = .returned (.pointer (some ⟨p, 0, none⟩)) ∧ Mod [] w w'

set_option maxRecDepth 100000 in
set_option maxHeartbeats 1000000 in
theorem minFunc_any {w : World} {blk n cap r : Nat} {ps : List Nat} (eg : ∀ args w, (callFunc 139 args).run Tryz.prog w = .ok (.enter 139 args) w) (hc : ∀ j p, ps[j]? = some p → w.cell? ⟨blk, j, none⟩ = some (.pointer (some ⟨p, 0, none⟩))) (hn : ps.length = n) (h0 : 0 < n) (hn2 : n ≤ 1000)
    (hq : ∀ p ∈ ps, ∀ q ∈ ps, ∀ W, Mod [] w W → Calls Tryz.prog 139 #[.pointer (some ⟨p, 0, none⟩), .pointer (some ⟨q, 0, none⟩), .pointer (some ⟨r, 0, none⟩)] W (SomeInt W)) :
    Calls Tryz.prog 138 #[.slice (some ⟨blk, 0, none⟩) n cap, .func (.func 139) #[] #[.pointer (some ⟨r, 0, none⟩)]] w (ClosePost ps w) := by
  have HC := hideIt hc
  have HQ := hideIt hq
  have c0 := hc 0 ps[0] (List.getElem?_eq_getElem (by omega))
  have hm0 : ps[0]? = some ps[0] := List.getElem?_eq_getElem (by omega)
  have HM0 := hideIt hm0
  have hlt1 : ¬ ((n : Int) < 1) := by omega
  have hpos : (0 : Int) < (n : Int) := by omega
  clear hc hq hm0
  generalize ps[0] = u at *
  go_enter Tryz.func138, Tryz.ntmps138
  go_wp2_with fail
  go_loopw [5, 6] (fun m i wr => ∃ (k j q : Nat), 1 ≤ k ∧ k ≤ n ∧ i = .int .i64 k ∧ m = .pointer (some ⟨q, 0, none⟩) ∧ Hid (ps[j]? = some q) ∧ Mod [] w wr) (fun _ i _ => n - (intOf i).toNat)
  case atStart => exact ⟨1, 0, u, by omega, by omega, rfl, rfl, HM0, Mod.refl _ _⟩
  case round =>
    obtain ⟨k, j, q, hk1, hk2, rfl, rfl, hj, hm⟩ := hrel
    by_cases hlt : k < n
    · have hlt' : (k : Int) < (n : Int) := by omega
      have hkp : ps[k]? = some ps[k] := List.getElem?_eq_getElem (by omega)
      have ck := cell_mod hm (HC.out k _ hkp)
      have HQQ := hideIt (fun W (hW : Mod [] w W) => HQ.out ps[k] (List.getElem_mem (by omega)) q (List.mem_of_getElem? hj.out) W hW)
      have HKP := hideIt hkp
      have HM := hideIt hm
      clear hkp hm
      generalize ps[k] = v at *
      go_wp2_with fail
      refine (HQQ.out _ HM.out).mono ?_
      rintro e w' ⟨z, rfl, hmc⟩
      have ck3 := cell_mod hmc ck
      have hm3 := HM.out.trans hmc
      have HM3 := hideIt hm3
      clear hmc hm3 HM ck HQQ
      by_cases hz : z < 0
      · go_wp2_with fail
        go_roundw
        case rel => exact ⟨k + 1, k, v, by omega, by omega, by go_num, rfl, HKP, HM3.out⟩
        case measure => simp [intOf]; omega
      · clear ck3
        go_wp2_with fail
        go_roundw
        case rel => exact ⟨k + 1, j, q, by omega, by omega, by go_num, rfl, hj, HM3.out⟩
        case measure => simp [intOf]; omega
    · have hge : ¬ ((k : Int) < (n : Int)) := by omega
      go_wp2
      go_ret
      exact ⟨j, q, hj.out, rfl, hm⟩

set_option maxRecDepth 100000 in
set_option maxHeartbeats 400000 in
theorem closest_any {w : World} {blk n cap : Nat} {ps : List Nat} {bx : Nat → Bx} {c : Bx} (hc : ∀ j p, ps[j]? = some p → w.cell? ⟨blk, j, none⟩ = some (.pointer (some ⟨p, 0, none⟩))) (hn : ps.length = n) (h0 : 0 < n) (hn2 : n ≤ 1000)
    (hB : ∀ p ∈ ps, HasBx w p 126 (bx p) ∧ (bx p).Ok) (kc : c.Ok) :
    Calls Tryz.prog 106 #[.slice (some ⟨blk, 0, none⟩) n cap, bxV c] w (ClosePost ps w) := by
  have hm1 : Mod [] w (w.alloc (bxO c)) := Mod.alloc _ _
  have hbx : (w.alloc (bxO c)).heap[w.heap.size]? = some (bxO c) := heap_alloc_new w _
  have HMF := hideIt (minFunc_any (w := w.alloc (bxO c)) (cap := cap) (r := w.heap.size) (enters_of Tryz.func139 (by kernel_rfl) rfl) (fun j p hp => cell_mod hm1 (hc j p hp)) hn h0 hn2 (fun p hp q hq W hW => by
    obtain ⟨r1, h1⟩ := (hB p hp).1.kept (hm1.trans hW) (by simp)
    obtain ⟨r2, h2⟩ := (hB q hq).1.kept (hm1.trans hW) (by simp)
    have h3 := (hW.block _ (lt_of_block hbx) (by simp)).trans hbx
    exact closest1_any (cell_bxC h1) (cell_bxC h2) (cell_bxO h3) (hB p hp).2 (hB q hq).2 kc))
  clear hc hB hbx
  go_enter Tryz.func106, Tryz.ntmps106
  go_wp2_with fail
  refine HMF.out.mono ?_
  rintro e w2 ⟨i, p, hi, rfl, hm2⟩
  have hm := hm1.trans hm2
  have HI := hideIt hi
  clear hi hm1 hm2 HMF
  go_wp2
  go_ret
  exact ⟨i, p, HI.out, rfl, hm⟩

end Go.Proofs.YthimaoipogocfaaGreat

