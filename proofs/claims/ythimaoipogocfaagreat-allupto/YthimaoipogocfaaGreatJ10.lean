import Derived.Test.YthimaoipogocfaaGreatJ09
import Derived.LaidEqlPtr
namespace Go.Proofs.YthimaoipogocfaaGreat
open Go.RowKit
attribute [local go_sem] run_store_f32 run_neg_inf

theorem info70 : (Tryz.prog.info? 130).map (·.size) = some 9 := by kernel_rfl

theorem eqlT {w : World} {s t : Tg} (hs : TgAt w s) (ht : TgAt w t) : (binOp .eql 113 (.pointer (some ⟨t.blk, 0, none⟩)) (.pointer (some ⟨s.blk, 0, none⟩))).run Tryz.prog w = .ok (.bool (decide (t.blk = s.blk))) w := by
  obtain ⟨j, hj, hsz⟩ := Option.map_eq_some_iff.1 info70
  by_cases e : t.blk = s.blk
  · rw [e]
    have := run_eql_ptr_same (P := Tryz.prog) (w := w) ⟨s.blk, 0, none⟩ Tryz.underlying113 hj
    simpa using this
  · have := run_eql_ptr_other (P := Tryz.prog) (w := w) (a := ⟨t.blk, 0, none⟩) (b := ⟨s.blk, 0, none⟩) Tryz.underlying113 hj (by omega) (fun h => e (congrArg Addr.block h)) ht.here hs.here
    rw [decide_eq_false e]
    exact this

theorem TgAt.same {w : World} {s t : Tg} (hs : TgAt w s) (ht : TgAt w t) (e : s.blk = t.blk) : s = t := by
  have h1 := hs.here
  rw [e, ht.here] at h1
  have h2 := Option.some.inj h1
  unfold tgO bxC at h2
  simp only [Obj.cells.injEq, and_true] at h2
  have h3 := congrArg Array.toList h2
  simp only [List.cons.injEq, Value.int.injEq, true_and, and_true] at h3
  obtain ⟨_, _, _, _, i, a, b, c, d⟩ := h3
  cases s
  cases t
  simp_all

/-- where a thing stands in a leaf, or nowhere -/
def IdxRes (ts : List Tg) (t : Tg) (i : Int) : Prop := (i = -1 ∧ t ∉ ts) ∨ ∃ j : Nat, i = j ∧ ts[j]? = some t
def IdxPost (ts : List Tg) (t : Tg) (w : World) (e : Ending) (w' : World) : Prop := ∃ i, e = .returned (.int .i64 i) ∧ IdxRes ts t i ∧ w = w'

set_option maxRecDepth 100000 in
theorem index_nil (t : Tg) (w : World) : Calls Tryz.prog 96 #[.slice none 0 0, .pointer (some ⟨t.blk, 0, none⟩)] w (IdxPost [] t w) := by
  go_enter Tryz.func96, Tryz.ntmps96
  go_wp2_with fail
  go_loop [8] (fun i => i = .int .i64 0) (fun _ => 0)
  case atStart => rfl
  case round =>
    subst hrel
    go_wp2
    go_ret
    exact ⟨-1, rfl, .inl ⟨rfl, by simp⟩, rfl⟩

set_option maxRecDepth 100000 in
set_option maxHeartbeats 400000 in
theorem index_some {w : World} {g c : Nat} {ts : List Tg} {t : Tg} (hr : ∀ j p, (tblks ts)[j]? = some p → w.cell? ⟨g, j, none⟩ = some (.pointer (some ⟨p, 0, none⟩))) (hT : ∀ s ∈ ts, TgAt w s) (ht : TgAt w t) (hn : ts.length ≤ 1000) :
    Calls Tryz.prog 96 #[.slice (some ⟨g, 0, none⟩) ts.length c, .pointer (some ⟨t.blk, 0, none⟩)] w (IdxPost ts t w) := by
  have HR := hideIt hr
  have HT := hideIt hT
  have H := hideIt ht
  clear hr hT ht
  go_enter Tryz.func96, Tryz.ntmps96
  go_wp2_with fail
  go_loop [8] (fun i => ∃ k : Nat, k ≤ ts.length ∧ i = .int .i64 k ∧ Hid (∀ s ∈ ts.take k, s ≠ t)) (fun i => ts.length - (intOf i).toNat)
  case atStart => exact ⟨0, by omega, rfl, hideIt (fun s hs => by simp at hs)⟩
  case round =>
    obtain ⟨k, hk, rfl, hno⟩ := hrel
    by_cases hlt : k < ts.length
    · have hlt' : (k : Int) < (ts.length : Int) := by omega
      have hget : ts[k]? = some ts[k] := List.getElem?_eq_getElem hlt
      have c1 := HR.out k ts[k].blk (by simp [tblks, hget])
      have hq := eqlT (HT.out ts[k] (List.getElem_mem hlt)) H.out
      have hsame := hideIt (fun (e : ts[k].blk = t.blk) => (HT.out ts[k] (List.getElem_mem hlt)).same H.out e)
      have HG := hideIt hget
      have hstep : ts.take (k + 1) = ts.take k ++ [ts[k]] := List.take_succ_eq_append_getElem hlt
      have HST := hideIt hstep
      clear hget hstep
      generalize ts[k] = s at *
      by_cases e : t.blk = s.blk
      · rw [decide_eq_true e] at hq
        have he : s = t := hsame.out e.symm
        subst he
        clear e
        go_wp2
        go_ret
        exact ⟨k, rfl, .inr ⟨k, rfl, HG.out⟩, rfl⟩
      · rw [decide_eq_false e] at hq
        have HE := hideIt e
        clear e
        go_wp2_with fail
        go_round
        case rel =>
          refine ⟨k + 1, by omega, by go_num, hideIt (fun u hu => ?_)⟩
          rw [HST.out] at hu
          rcases List.mem_append.1 hu with hu | hu
          · exact hno.out u hu
          · simp at hu
            subst hu
            exact fun e => HE.out (by rw [e])
        case measure => simp [intOf]; omega
    · have hge : ¬ ((k : Int) < (ts.length : Int)) := by omega
      have hall : ts.take k = ts := List.take_of_length_le (by omega)
      have HN := hideIt (show t ∉ ts from fun hx => hno.out t (by rw [hall]; exact hx) rfl)
      clear hno hall
      go_wp2
      go_ret
      exact ⟨-1, rfl, .inl ⟨rfl, HN.out⟩, rfl⟩

end Go.Proofs.YthimaoipogocfaaGreat

namespace Go.Proofs.YthimaoipogocfaaGreat
open Go.RowKit
attribute [local go_sem] run_store_f32 run_neg_inf

/-- the thing is out, or it was not there -/
def DropRes (fan lo h : Nat) (k : Kd) (t : Tg) (w : World) (b : Bool) (w' : World) : Prop :=
  (b = true ∧ ∃ k1, NodeAt w' fan lo h k1 ∧ k1.p = k.p ∧ (t :: k1.ts).Perm k.ts ∧ k.n ≤ k1.n + 1 ∧ k1.n ≤ k.n ∧ (∀ x ∈ k1.F, x ∈ k.F ∨ w.heap.size ≤ x) ∧ Mod k.F w w' ∧ TgAt w' t ∧ t.blk ∉ k1.F) ∨
  (b = false ∧ t ∉ k.ts ∧ Mod [] w w')
def DropPost (fan lo h : Nat) (k : Kd) (t : Tg) (w : World) (e : Ending) (w' : World) : Prop := ∃ b, e = .returned (.bool b) ∧ DropRes fan lo h k t w b w'

theorem dropLeafFin {fan lo : Nat} {w w1 w2 : World} {k : Kd} {t : Tg} {g c j : Nat} {rest : List Value} (hl : LeafAt w k (.slice (some ⟨g, 0, none⟩) k.n c)) (hj : k.ts[j]? = some t) (hsz : (ptrs (tblks k.ts) ++ rest).length = c) (hcm : c ≤ maxLen)
    (hm1 : Mod [g] w w1) (hr1 : w1.heap[g]? = some (rowO ((tblks k.ts).take j ++ (tblks k.ts).drop (j + 1)) (List.replicate (j + 1 - j) (.pointer none) ++ rest) 113))
    (hw2 : w2 = w1.setCell ⟨k.p, 4, none⟩ (.slice (some ⟨g, 0, none⟩) (k.n - 1) c)) :
    ∃ ts', (t :: ts').Perm k.ts ∧ ts'.length = k.n - 1 ∧ w2.heap[k.p]? = some (ndO k.bx (.slice (some ⟨g, 0, none⟩) ts'.length c) (.slice none 0 0)) ∧ w2.ownsRow 0 113 1 (.slice (some ⟨g, 0, none⟩) ts'.length c) ts'.length (ptrs (tblks ts')) ∧ (∀ s ∈ ts', TgAt w2 s) ∧
      (∀ e w3, FitPost k.p (.slice (some ⟨g, 0, none⟩) ts'.length c) (.slice none 0 0) (ts'.map Tg.bx) w2 e w3 → DropRes fan lo 0 k t w true w3) := by
  have hF := hl.foot
  simp only [Value.ownBlock] at hF
  have hnd := hl.ok.nodup
  rw [hF] at hnd
  have h1 := List.nodup_cons.1 hnd
  have h2 := List.nodup_append.1 h1.2
  have hgp : g ≠ k.p := fun e => h1.1 (by rw [e]; simp)
  have hjl : j < k.ts.length := (List.getElem?_eq_some_iff.1 hj).1
  have hjt : k.ts[j] = t := (List.getElem?_eq_some_iff.1 hj).2
  have hsplit : k.ts = k.ts.take j ++ t :: k.ts.drop (j + 1) := by
    rw [← hjt, List.getElem_cons_drop, List.take_append_drop]
  have hperm : (t :: (k.ts.take j ++ k.ts.drop (j + 1))).Perm k.ts := by
    conv => rhs; rw [hsplit]
    exact List.perm_middle.symm
  have hlen : (k.ts.take j ++ k.ts.drop (j + 1)).length = k.n - 1 := by
    have := hperm.length_eq
    rw [List.length_cons, hl.len] at this
    omega
  have hblks : (tblks k.ts).take j ++ (tblks k.ts).drop (j + 1) = tblks (k.ts.take j ++ k.ts.drop (j + 1)) := by simp [tblks, List.map_take, List.map_drop]
  rw [hblks] at hr1
  have hmem : ∀ s ∈ k.ts.take j ++ k.ts.drop (j + 1), s ∈ k.ts := fun s hs => hperm.mem_iff.1 (List.mem_cons_of_mem _ hs)
  have hn0 : 0 < k.n := by rw [← hl.len]; omega
  have hm2 : Mod [k.p, g] w w2 := by
    rw [hw2]
    exact (hm1.mono (by simp)).trans (Mod.setCell _ _ _ (by simp))
  have hp1 := (hm1.block k.p (lt_of_block hl.here) (by simpa using fun e => hgp e.symm)).trans hl.here
  have hp2 : w2.heap[k.p]? = some (ndO k.bx (.slice (some ⟨g, 0, none⟩) (k.ts.take j ++ k.ts.drop (j + 1)).length c) (.slice none 0 0)) := by
    rw [hw2, hlen]
    exact ndO_set4 hp1 _
  have hro := row_ownsT (base := 0) (c := c) hr1 (Nat.zero_le _) (by
    have e1 : (tblks (k.ts.take j ++ k.ts.drop (j + 1))).length = k.n - 1 := by simp only [tblks, List.length_map]; exact hlen
    have e2 : (tblks k.ts).length = k.n := by simp only [tblks, List.length_map]; exact hl.len
    simp only [List.length_append, ptrs_length, List.length_replicate] at hsz ⊢
    rw [e1]
    rw [e2] at hsz
    omega) hcm
  have hro1 : (tblks (k.ts.take j ++ k.ts.drop (j + 1))).length = (k.ts.take j ++ k.ts.drop (j + 1)).length := by simp only [tblks, List.length_map]
  rw [hro1] at hro
  have hro2 : w2.ownsRow 0 113 1 (.slice (some ⟨g, 0, none⟩) (k.ts.take j ++ k.ts.drop (j + 1)).length c) (k.ts.take j ++ k.ts.drop (j + 1)).length (ptrs (tblks (k.ts.take j ++ k.ts.drop (j + 1)))) := by
    rw [hw2]
    exact owns_kept hro (Mod.setCell (F := [k.p]) _ _ _ (by simp)) (fun x hx => by simp [Value.ownBlock] at hx; subst hx; simpa using hgp)
  have hbF : ∀ s ∈ k.ts, s.blk ∉ [k.p, g] := fun s hs => by
    have hb : s.blk ∈ tblks k.ts := List.mem_map.2 ⟨s, hs, rfl⟩
    simp only [List.mem_cons, List.not_mem_nil, or_false, not_or]
    exact ⟨fun e => h1.1 (List.mem_append_right _ (e ▸ hb)), fun e => h2.2.2 g (by simp) _ hb e.symm⟩
  have hT2 : ∀ s ∈ k.ts.take j ++ k.ts.drop (j + 1), TgAt w2 s := fun s hs => (hl.things s (hmem s hs)).kept hm2 (hbF s (hmem s hs))
  refine ⟨k.ts.take j ++ k.ts.drop (j + 1), hperm, hlen, hp2, hro2, hT2, fun e w3 hfit => ?_⟩
  obtain ⟨b, _, hm3, hp3, n3, in3, ok3, no3⟩ := hfit
  have hro3 := owns_kept hro2 hm3 (fun x hx => by simp [Value.ownBlock] at hx; subst hx; simpa using hgp)
  have hnb : (tblks (k.ts.take j ++ k.ts.drop (j + 1))).Nodup := by
    have := (hperm.map Tg.blk).nodup_iff.2 h2.2.1
    exact (List.nodup_cons.1 this).2
  have hsub : ∀ x ∈ tblks (k.ts.take j ++ k.ts.drop (j + 1)), x ∈ tblks k.ts := fun x hx => by
    obtain ⟨s, hs, e⟩ := List.mem_map.1 hx
    exact List.mem_map.2 ⟨s, hmem s hs, e⟩
  refine .inl ⟨rfl, ⟨k.p, b, k.ts.take j ++ k.ts.drop (j + 1), k.p :: ([g] ++ tblks (k.ts.take j ++ k.ts.drop (j + 1))), (k.ts.take j ++ k.ts.drop (j + 1)).length⟩, ⟨_, ⟨hp3, hro3, rfl, fun s hs => (hT2 s hs).kept hm3 (fun hx => hbF s (hmem s hs) (by simp at hx; simp [hx])), rfl, ⟨?_, n3, fun s hs => in3 _ (List.mem_map.2 ⟨s, hs, rfl⟩), fun hne => ok3 (by simpa using hne), fun he => no3 (by
    have he' : k.ts.take j ++ k.ts.drop (j + 1) = [] := he
    rw [he']
    rfl)⟩⟩⟩, rfl, hperm, ?_, ?_, fun x hx => .inl ?_, ?_, ?_, ?_⟩
  · show (k.p :: ([g] ++ tblks (k.ts.take j ++ k.ts.drop (j + 1)))).Nodup
    refine List.nodup_cons.2 ⟨fun hx => ?_, List.nodup_append.2 ⟨by simp, hnb, fun a ha b' hb e => h2.2.2 a (by simpa using ha) b' (hsub _ hb) e⟩⟩
    rcases List.mem_append.1 hx with hx | hx
    · simp at hx; exact hgp hx.symm
    · exact h1.1 (List.mem_append_right _ (hsub _ hx))
  · show k.n ≤ (k.ts.take j ++ k.ts.drop (j + 1)).length + 1
    omega
  · show (k.ts.take j ++ k.ts.drop (j + 1)).length ≤ k.n
    omega
  · have hx' : x ∈ k.p :: ([g] ++ tblks (k.ts.take j ++ k.ts.drop (j + 1))) := hx
    rw [hF]
    rcases List.mem_cons.1 hx' with rfl | hx'
    · simp
    rcases List.mem_append.1 hx' with hx' | hx'
    · simp at hx'; simp [hx']
    · exact List.mem_cons_of_mem _ (List.mem_append_right _ (hsub _ hx'))
  · refine (hm2.trans (hm3.mono (by simp))).mono (fun x hx => ?_)
    rw [hF]
    simp only [List.mem_cons, List.not_mem_nil, or_false] at hx
    rcases hx with rfl | rfl <;> simp
  · have htm : t ∈ k.ts := hperm.mem_iff.1 (by simp)
    exact ((hl.things t htm).kept hm2 (hbF t htm)).kept hm3 (fun hx => hbF t htm (by simp at hx; simp [hx]))
  · have htm : t ∈ k.ts := hperm.mem_iff.1 (by simp)
    have hb := hbF t htm
    simp only [List.mem_cons, List.not_mem_nil, or_false, not_or] at hb
    have hnn := (hperm.map Tg.blk).nodup_iff.2 h2.2.1
    show t.blk ∉ k.p :: ([g] ++ tblks (k.ts.take j ++ k.ts.drop (j + 1)))
    intro hx
    rcases List.mem_cons.1 hx with e | hx
    · exact hb.1 e
    rcases List.mem_append.1 hx with hx | hx
    · simp at hx; exact hb.2 hx
    · exact (List.nodup_cons.1 hnn).1 hx

set_option maxRecDepth 100000 in
set_option maxHeartbeats 1000000 in
theorem drop_leaf {w : World} {fan lo : Nat} {k : Kd} {t : Tg} (hk : NodeAt w fan lo 0 k) (ht : TgAt w t) (hn : k.n ≤ 100) :
    Calls Tryz.prog 62 #[.pointer (some ⟨k.p, 0, none⟩), .pointer (some ⟨t.blk, 0, none⟩), .int .i64 fan] w (DropPost fan lo 0 k t w) := by
  obtain ⟨tv, hl⟩ := hk
  obtain ⟨c4, c5⟩ := cell_ndO hl.here
  have hidx : Calls Tryz.prog 96 #[tv, .pointer (some ⟨t.blk, 0, none⟩)] w (IdxPost k.ts t w) := by
    rcases ownV hl.row with ⟨rfl, h0⟩ | ⟨g, c, rfl⟩
    · have : k.ts = [] := List.eq_nil_of_length_eq_zero (by rw [hl.len]; exact h0)
      rw [this]
      exact index_nil t w
    · obtain ⟨rest, hro, _, _, _, _, _⟩ := owns_rowT hl.row
      have := index_some (w := w) (g := g) (c := c) (ts := k.ts) (t := t) (fun j p hp => rowO_get hro hp) hl.things ht (by rw [hl.len]; omega)
      rw [hl.len] at this
      exact this
  have HX := hideIt hidx
  have HL := hideIt hl
  clear hidx hl ht
  go_enter Tryz.func62, Tryz.ntmps62
  go_wp2_with fail
  refine HX.out.mono ?_
  rintro e w1 ⟨i, rfl, hi, rfl⟩
  rcases hi with ⟨rfl, hno⟩ | ⟨j, rfl, hj⟩
  · have HN := hideIt hno
    clear hno
    go_wp2_with fail
    go_loop [36] (fun i => i = .int .i64 0) (fun _ => 0)
    case atStart => rfl
    case round =>
      subst hrel
      go_wp2
      go_ret
      exact ⟨false, rfl, .inr ⟨rfl, HN.out, Mod.refl _ _⟩⟩
  · have hjl : j < k.n := by rw [← HL.out.len]; exact (List.getElem?_eq_some_iff.1 hj).1
    rcases ownV HL.out.row with ⟨_, h0⟩ | ⟨g, c, rfl⟩
    · omega
    obtain ⟨rest, hro, hnc, _, hlr, hsz, hcm⟩ := owns_rowT HL.out.row
    have hd := deleteT (w := w) (cap := c) (i := j) (j := j + 1) hro hlr (by omega) hnc (by omega) (by omega)
    rw [show ((j + 1 : Nat) : Int) = (j : Int) + 1 by omega] at hd
    have HD := hideIt hd
    have hge : (0 : Int) ≤ (j : Int) := by omega
    have hkn : k.n - (j + 1 - j) = k.n - 1 := by omega
    clear hro hd
    go_wp2_with fail
    refine HD.out.mono ?_
    rintro e w2 ⟨he, hm2, hr2⟩
    rw [hkn] at he
    subst he
    have hF := HL.out.foot
    have hnd := HL.out.ok.nodup
    rw [hF] at hnd
    have hgp : g ≠ k.p := fun e => (List.nodup_cons.1 hnd).1 (by rw [e]; simp [Value.ownBlock])
    have hp2 := (hm2.block k.p (lt_of_block HL.out.here) (by simpa using fun e => hgp e.symm)).trans HL.out.here
    obtain ⟨d4, _⟩ := cell_ndO hp2
    have f4 := frozen_of_block hp2 4
    obtain ⟨ts', q1, q2, q3, q4, q5, q6⟩ := dropLeafFin (fan := fan) (lo := lo) HL.out hj hsz hcm hm2 hr2 rfl
    have HQ := hideIt (And.intro q3 (And.intro q4 (And.intro q5 q6)))
    clear q1 q3 q4 q5 q6 hp2 hm2 hr2 hnd hF HD c4 c5
    go_wp2_with fail
    clear d4 f4
    generalize w2.setCell ⟨k.p, 4, none⟩ (.slice (some ⟨g, 0, none⟩) (k.n - 1) c) = w3 at *
    refine (fit_leaf HQ.out.1 HQ.out.2.1 HQ.out.2.2.1 (by omega)).mono ?_
    intro e w4 h4
    have hfin := HQ.out.2.2.2 e w4 h4
    obtain ⟨_, rfl, _⟩ := h4
    have HF := hideIt hfin
    clear hfin
    go_wp2
    go_ret
    exact ⟨true, rfl, HF.out⟩

end Go.Proofs.YthimaoipogocfaaGreat

namespace Go.Proofs.YthimaoipogocfaaGreat
open Go.RowKit

/-- a node whose kids are being changed: those that stand, and those that are new -/
structure MidX (w w2 : World) (fan lo h : Nat) (k : Kd) (bv : Value) (R N : List Kd) (TS : List Tg) : Prop where
  here : w2.heap[k.p]? = some (ndO k.bx (.slice none 0 0) bv)
  rest : ∀ c ∈ R, KidOk w2 fan lo h c
  news : ∀ c ∈ N, KidOk w2 fan lo h c
  ts : (kts R ++ kts N).Perm TS
  nodup : (k.p :: (bv.ownBlock.toList ++ (kF R ++ kF N))).Nodup
  foot : ∀ x ∈ kF R ++ kF N, x ∈ k.F ∨ w.heap.size ≤ x
  m : Mod k.F w w2

theorem MidX.lt {w w2 : World} {fan lo h : Nat} {k : Kd} {bv : Value} {R N : List Kd} {TS : List Tg} (hM : MidX w w2 fan lo h k bv R N TS) : ∀ x ∈ kF R ++ kF N, x < w2.heap.size := fun x hx => by
  rw [← kF_append] at hx
  obtain ⟨d, hd, hx⟩ := List.mem_flatMap.1 hx
  rcases List.mem_append.1 hd with hd | hd
  · exact NodeAt.lt (hM.rest d hd).1 x hx
  · exact NodeAt.lt (hM.news d hd).1 x hx

/-- the row of the kids has grown: it may stand elsewhere now -/
theorem MidX.grown {w w5 w6 : World} {fan lo h : Nat} {k : Kd} {R N : List Kd} {TS : List Tg} {g n cc g5 c5 m : Nat} (hM : MidX w w5 fan lo h k (.slice (some ⟨g, 0, none⟩) n cc) R N TS) (hgF : g ∈ k.F) (hkp : k.p ∈ k.F) (hm : Mod [g] w5 w6) (hg5 : g5 = g ∨ w5.heap.size ≤ g5) (hz : w.heap.size ≤ w5.heap.size) :
    MidX w (w6.setCell ⟨k.p, 5, none⟩ (.slice (some ⟨g5, 0, none⟩) m c5)) fan lo h k (.slice (some ⟨g5, 0, none⟩) m c5) R N TS ∧ (∀ x, g5 = x → x ∈ k.F ∨ w.heap.size ≤ x) := by
  have hlt := hM.lt
  have hnd := hM.nodup
  simp only [Value.ownBlock] at hnd
  have h1 := List.nodup_cons.1 hnd
  have hgp : k.p ≠ g := fun e => h1.1 (by rw [e]; simp)
  have h2 := List.nodup_append.1 h1.2
  have hgk : g ∉ kF R ++ kF N := fun hx => h2.2.2 g (by simp) g hx rfl
  have hpk : k.p ∉ kF R ++ kF N := fun hx => h1.1 (List.mem_append_right _ hx)
  have hm2 : Mod [k.p, g] w5 (w6.setCell ⟨k.p, 5, none⟩ (.slice (some ⟨g5, 0, none⟩) m c5)) := (hm.mono (by simp)).trans (Mod.setCell _ _ _ (by simp))
  have hout : ∀ x ∈ kF R ++ kF N, x ∉ [k.p, g] := fun x hx => by
    simp only [List.mem_cons, List.not_mem_nil, or_false, not_or]
    exact ⟨fun e => hpk (e ▸ hx), fun e => hgk (e ▸ hx)⟩
  have hplt := lt_of_block hM.here
  refine ⟨⟨?_, fun c hc => (hM.rest c hc).kept hm2 (fun x hx => hout x (List.mem_append_left _ (mem_kF hc hx))), fun c hc => (hM.news c hc).kept hm2 (fun x hx => hout x (List.mem_append_right _ (mem_kF hc hx))), hM.ts, ?_, hM.foot, ?_⟩, fun x e => ?_⟩
  · refine ndO_set5 (bv := .slice (some ⟨g, 0, none⟩) n cc) ?_ _
    exact (hm.block k.p hplt (by simpa using hgp)).trans hM.here
  · simp only [Value.ownBlock]
    refine List.nodup_cons.2 ⟨fun hx => ?_, List.nodup_append.2 ⟨by simp, h2.2.1, fun a ha b hb e => ?_⟩⟩
    · rcases List.mem_append.1 hx with hx | hx
      · simp at hx
        rcases hg5 with e | e
        · exact hgp (hx.trans e)
        · omega
      · exact hpk hx
    · simp at ha
      subst ha e
      rcases hg5 with e | e
      · exact hgk (e ▸ hb)
      · have := hlt _ hb; omega
  · refine hM.m.trans (hm2.mono (fun x hx => ?_))
    simp only [List.mem_cons, List.not_mem_nil, or_false] at hx
    rcases hx with rfl | rfl
    · exact hkp
    · exact hgF
  · rcases hg5 with e2 | e2
    · exact .inl (by rw [← e, e2]; exact hgF)
    · exact .inr (by omega)

/-- two kids (j, and the poor one c) are one now, or two others; the rest stands -/
theorem midX {w w2 w8 : World} {fan lo h : Nat} {k : Kd} {g cc m : Nat} {a b N : List Kd} {c j : Kd} {ks : List Kd} (hi : InnerAt w k (.slice (some ⟨g, 0, none⟩) k.n cc) ks) (hp : ks.Perm (c :: j :: (a ++ b))) (hK : ∀ d ∈ j :: (a ++ b), KidOk w fan lo h d) (hc : NodeAt w fan lo h c)
    (hp2 : w2.heap[k.p]? = some (ndO k.bx (.slice none 0 0) (.slice (some ⟨g, 0, none⟩) m cc))) (hm2 : Mod [k.p, g] w w2) (hm8 : Mod j.F w2 w8)
    (hN : ∀ d ∈ N, KidOk w8 fan lo h d) (hts : (kts N).Perm (j.ts ++ c.ts)) (hnd : (kF N).Nodup) (hft : ∀ x ∈ kF N, (x ∈ j.F ∨ x ∈ c.F) ∨ w2.heap.size ≤ x) : MidX w w8 fan lo h k (.slice (some ⟨g, 0, none⟩) m cc) (a ++ b) N k.ts := by
  have hF := hi.foot
  simp only [Value.ownBlock] at hF
  have hnodup := hi.ok.nodup
  rw [hF] at hnodup
  have hpF : (kF ks).Perm (kF (a ++ b) ++ (j.F ++ c.F)) := by
    refine (kF_perm hp).trans ?_
    have e : kF (c :: j :: (a ++ b)) = c.F ++ (j.F ++ kF (a ++ b)) := by simp [kF]
    rw [e]
    refine List.perm_append_comm.trans ?_
    rw [List.append_assoc]
    refine (List.perm_append_comm (l₁ := j.F) (l₂ := kF (a ++ b) ++ c.F)).trans ?_
    rw [List.append_assoc]
    exact List.Perm.append_left _ List.perm_append_comm
  have hpn : (k.p :: ([g] ++ kF ks)).Perm (k.p :: ([g] ++ (kF (a ++ b) ++ (j.F ++ c.F)))) := List.Perm.cons _ (List.Perm.append_left _ hpF)
  have hnd2 : (k.p :: ([g] ++ (kF (a ++ b) ++ (j.F ++ c.F)))).Nodup := hpn.nodup_iff.1 hnodup
  have hmemF : ∀ x ∈ k.p :: ([g] ++ (kF (a ++ b) ++ (j.F ++ c.F))), x ∈ k.F := fun x hx => by rw [hF]; exact hpn.mem_iff.2 hx
  have hKall : ∀ d ∈ ks, NodeAt w fan lo h d := fun d hd => by
    rcases List.mem_cons.1 (hp.mem_iff.1 hd) with rfl | hd
    · exact hc
    · exact (hK d hd).1
  have hlt : ∀ x ∈ k.F, x < w.heap.size := fun x hx => by
    rw [hF] at hx
    rcases List.mem_cons.1 hx with rfl | hx
    · exact lt_of_block hi.here
    rcases List.mem_append.1 hx with hx | hx
    · simp at hx
      subst hx
      exact owns_lt hi.row rfl
    · obtain ⟨d, hd, hx⟩ := List.mem_flatMap.1 hx
      exact NodeAt.lt (hKall d hd) x hx
  have h1 := List.nodup_cons.1 hnd2
  have h2 := List.nodup_append.1 h1.2
  have h3 := List.nodup_append.1 h2.2.1
  have hz := hm2.size
  have hkpj : k.p ∉ j.F := fun hx => h1.1 (by simp [hx])
  have hgj : g ∉ j.F := fun hx => h2.2.2 g (by simp) g (by simp [hx]) rfl
  have hm08 : Mod (k.p :: g :: j.F) w w8 := (hm2.mono (by simp)).trans (hm8.mono (by simp +contextual))
  refine ⟨(hm8.block k.p (lt_of_block hp2) hkpj).trans hp2, fun d hd => ?_, hN, ?_, ?_, fun x hx => ?_, hm08.mono (fun x hx => ?_)⟩
  · refine (hK d (List.mem_cons_of_mem _ hd)).kept hm08 (fun x hx hxc => ?_)
    have hxR := mem_kF hd hx
    rcases List.mem_cons.1 hxc with e | hxc
    · exact h1.1 (List.mem_append_right _ (List.mem_append_left _ (e ▸ hxR)))
    rcases List.mem_cons.1 hxc with e | hxc
    · exact h2.2.2 g (by simp) g (List.mem_append_left _ (e ▸ hxR)) rfl
    · exact h3.2.2 x hxR x (List.mem_append_left _ hxc) rfl
  · rw [hi.things]
    refine (List.Perm.append_left _ hts).trans ?_
    refine List.Perm.trans ?_ (kts_perm hp).symm
    have e : kts (c :: j :: (a ++ b)) = c.ts ++ (j.ts ++ kts (a ++ b)) := by simp [kts]
    rw [e]
    refine List.perm_append_comm.trans ?_
    rw [List.append_assoc]
    refine (List.perm_append_comm (l₁ := j.ts) (l₂ := c.ts ++ kts (a ++ b))).trans ?_
    rw [List.append_assoc]
    exact List.Perm.append_left _ List.perm_append_comm
  · simp only [Value.ownBlock]
    exact nodup_repl (C := j.F ++ c.F) (tb := w2.heap.size) (sz := w2.heap.size) hnd2 hnd (fun x hx => by
      rcases hft x hx with (h | h) | h
      · exact .inl (List.mem_append_left _ h)
      · exact .inl (List.mem_append_right _ h)
      · exact .inr (.inr h)) (fun hx => by have := hlt _ (hmemF _ hx); omega) (fun x hx => Nat.lt_of_lt_of_le (hlt x (hmemF x hx)) hz)
  · rcases List.mem_append.1 hx with hx | hx
    · exact .inl (hmemF x (by simp [hx]))
    · rcases hft x hx with (h | h) | h
      · exact .inl (hmemF x (by simp [h]))
      · exact .inl (hmemF x (by simp [h]))
      · exact .inr (Nat.le_trans hz h)
  · rcases List.mem_cons.1 hx with e | hx
    · exact hmemF x (by simp [e])
    rcases List.mem_cons.1 hx with e | hx
    · exact hmemF x (by simp [e])
    · exact hmemF x (by simp [hx])

/-- WHAT MEND GIVES: the kids hold enough again. -/
def MendPost (fan lo h : Nat) (k : Kd) (w : World) (e : Ending) (w' : World) : Prop :=
  ∃ bv ks', e = .returned (.tuple #[]) ∧ w'.heap[k.p]? = some (ndO k.bx (.slice none 0 0) bv) ∧ w'.ownsRow 0 115 1 bv ks'.length (ptrs (kblks ks')) ∧ (∀ c ∈ ks', KidOk w' fan lo h c) ∧ (kts ks').Perm k.ts ∧ k.n ≤ ks'.length + 1 ∧ ks'.length ≤ k.n ∧ (k.p :: (bv.ownBlock.toList ++ kF ks')).Nodup ∧ (∀ x ∈ bv.ownBlock.toList ++ kF ks', x ∈ k.F ∨ w.heap.size ≤ x) ∧ Mod k.F w w'

theorem MidX.mend {w w2 : World} {fan lo h : Nat} {k : Kd} {bv : Value} {R N ks' : List Kd} (hM : MidX w w2 fan lo h k bv R N k.ts) (hp : ks'.Perm (R ++ N)) (hrow : w2.ownsRow 0 115 1 bv ks'.length (ptrs (kblks ks'))) (h1 : k.n ≤ ks'.length + 1) (h2 : ks'.length ≤ k.n) (hbv : ∀ x ∈ bv.ownBlock.toList, x ∈ k.F ∨ w.heap.size ≤ x) :
    MendPost fan lo h k w (.returned (.tuple #[])) w2 := by
  have hpF : (kF ks').Perm (kF R ++ kF N) := by rw [← kF_append]; exact kF_perm hp
  have hpt : (kts ks').Perm k.ts := by
    refine (kts_perm hp).trans ?_
    rw [kts_append]
    exact hM.ts
  refine ⟨bv, ks', rfl, hM.here, hrow, fun c hc => ?_, hpt, h1, h2, (List.Perm.cons _ (List.Perm.append_left _ hpF)).nodup_iff.2 hM.nodup, fun x hx => ?_, hM.m⟩
  · rcases List.mem_append.1 (hp.mem_iff.1 hc) with hc | hc
    · exact hM.rest c hc
    · exact hM.news c hc
  · rcases List.mem_append.1 hx with hx | hx
    · exact hbv x hx
    · exact hM.foot x (hpF.mem_iff.1 hx)

end Go.Proofs.YthimaoipogocfaaGreat

namespace Go.Proofs.YthimaoipogocfaaGreat
open Go.RowKit

/-- two leaves in one, ahead of the box -/
theorem joinLeaf {w3 w4 w6 : World} {j c : Kd} {gj cj g5 c5 : Nat} {tvc : Value} (hj : LeafAt w3 j (.slice (some ⟨gj, 0, none⟩) j.n cj)) (hc : LeafAt w3 c tvc) (hnd : (j.F ++ c.F).Nodup) (hm4 : Mod [gj] w3 w4) (ho : w4.ownsRow 0 113 1 (.slice (some ⟨g5, 0, none⟩) (j.n + c.n) c5) (j.n + c.n) (catL (ptrs (tblks j.ts)) (ptrs (tblks c.ts))))
    (hg5 : g5 = gj ∨ w3.heap.size ≤ g5) (hm6 : Mod [j.p] w4 w6) (hp6 : w6.heap[j.p]? = some (ndO j.bx (.slice (some ⟨g5, 0, none⟩) (j.n + c.n) c5) (.slice none 0 0))) :
    (j.ts ++ c.ts).length = j.n + c.n ∧ w6.ownsRow 0 113 1 (.slice (some ⟨g5, 0, none⟩) (j.n + c.n) c5) (j.ts ++ c.ts).length (ptrs (tblks (j.ts ++ c.ts))) ∧ (∀ t ∈ j.ts ++ c.ts, TgAt w6 t) ∧
    ∀ e w7, 0 < j.n → FitPost j.p (.slice (some ⟨g5, 0, none⟩) (j.n + c.n) c5) (.slice none 0 0) ((j.ts ++ c.ts).map Tg.bx) w6 e w7 → ∃ b, LeafAt w7 ⟨j.p, b, j.ts ++ c.ts, j.p :: ([g5] ++ tblks (j.ts ++ c.ts)), j.n + c.n⟩ (.slice (some ⟨g5, 0, none⟩) (j.n + c.n) c5) ∧ (∀ x ∈ j.p :: ([g5] ++ tblks (j.ts ++ c.ts)), (x ∈ j.F ∨ x ∈ c.F) ∨ w3.heap.size ≤ x) ∧ Mod j.F w3 w7 := by
  have hjF := hj.foot
  simp only [Value.ownBlock] at hjF
  have hcF := hc.foot
  have hd := List.nodup_append.1 hnd
  have hd1 := hd.1
  rw [hjF] at hd1
  have a1 := List.nodup_cons.1 hd1
  have a2 := List.nodup_append.1 a1.2
  have hgp : gj ≠ j.p := fun e => a1.1 (by rw [e]; simp)
  have hjp : j.p ∈ j.F := by rw [hjF]; simp
  have hgjF : gj ∈ j.F := by rw [hjF]; simp
  have hct : ∀ x ∈ tblks c.ts, x ∈ c.F := fun x hx => by rw [hcF]; exact List.mem_cons_of_mem _ (List.mem_append_right _ hx)
  have hjt : ∀ x ∈ tblks j.ts, x ∈ j.F := fun x hx => by rw [hjF]; exact List.mem_cons_of_mem _ (List.mem_append_right _ hx)
  have hcn : (tblks c.ts).Nodup := by
    have := hc.ok.nodup
    rw [hcF] at this
    exact (List.nodup_append.1 (List.nodup_cons.1 this).2).2.1
  have hlen : (j.ts ++ c.ts).length = j.n + c.n := by rw [List.length_append, hj.len, hc.len]
  have hltj : ∀ x ∈ j.F, x < w3.heap.size := NodeAt.lt (fan := 0) (lo := 0) (h := 0) ⟨_, hj⟩
  have hltc : ∀ x ∈ c.F, x < w3.heap.size := NodeAt.lt (fan := 0) (lo := 0) (h := 0) ⟨_, hc⟩
  have hg5p : g5 ≠ j.p := by
    rcases hg5 with e | e
    · rw [e]; exact hgp
    · have := hltj _ hjp; omega
  have hall : ∀ x ∈ tblks (j.ts ++ c.ts), (x ∈ tblks j.ts ∨ x ∈ tblks c.ts) := fun x hx => by
    rw [tblks_append] at hx
    exact List.mem_append.1 hx
  have hm36 : Mod [j.p, gj] w3 w6 := (hm4.mono (by simp)).trans (hm6.mono (by simp))
  have hout : ∀ x ∈ tblks (j.ts ++ c.ts), x ∉ [j.p, gj] := fun x hx => by
    simp only [List.mem_cons, List.not_mem_nil, or_false, not_or]
    rcases hall x hx with h | h
    · exact ⟨fun e => a1.1 (List.mem_append_right _ (e ▸ h)), fun e => a2.2.2 gj (by simp) x h e.symm⟩
    · exact ⟨fun e => hd.2.2 j.p hjp x (hct x h) e.symm, fun e => hd.2.2 gj hgjF x (hct x h) e.symm⟩
  have hT : ∀ t ∈ j.ts ++ c.ts, TgAt w6 t := fun t ht => by
    have h3 : TgAt w3 t := by
      rcases List.mem_append.1 ht with h | h
      · exact hj.things t h
      · exact hc.things t h
    exact h3.kept hm36 (hout _ (List.mem_map.2 ⟨t, ht, rfl⟩))
  have hrow : w6.ownsRow 0 113 1 (.slice (some ⟨g5, 0, none⟩) (j.n + c.n) c5) (j.ts ++ c.ts).length (ptrs (tblks (j.ts ++ c.ts))) := by
    rw [hlen, tblks_append, ptrs_append]
    exact owns_kept ho hm6 (fun x hx => by simp [Value.ownBlock] at hx; subst hx; simpa using hg5p)
  refine ⟨hlen, hrow, hT, fun e w7 h0 hfit => ?_⟩
  obtain ⟨b, _, hm7, hp7, n7, in7, ok7, _⟩ := hfit
  have hne : j.ts ++ c.ts ≠ [] := fun e => by
    rw [e] at hlen
    simp at hlen
    omega
  refine ⟨b, ⟨hp7, ?_, hlen, fun t ht => (hT t ht).kept hm7 (fun hx => hout _ (List.mem_map.2 ⟨t, ht, rfl⟩) (by simp at hx; simp [hx])), rfl, ⟨?_, n7, fun t ht => in7 _ (List.mem_map.2 ⟨t, ht, rfl⟩), fun _ => ok7 (by simpa using hne), fun e => absurd e hne⟩⟩, fun x hx => ?_, ?_⟩
  · have := owns_kept hrow hm7 (fun x hx => by simp [Value.ownBlock] at hx; subst hx; simpa using hg5p)
    rw [hlen] at this
    exact this
  · show (j.p :: ([g5] ++ tblks (j.ts ++ c.ts))).Nodup
    refine List.nodup_cons.2 ⟨fun hx => ?_, List.nodup_append.2 ⟨by simp, ?_, fun a ha b' hb e => ?_⟩⟩
    · rcases List.mem_append.1 hx with hx | hx
      · simp at hx; exact hg5p hx.symm
      · exact hout _ hx (by simp)
    · rw [tblks_append]
      exact List.nodup_append.2 ⟨a2.2.1, hcn, fun x hx y hy e => hd.2.2 x (hjt x hx) y (hct y hy) e⟩
    · simp at ha
      subst ha e
      rcases hg5 with e | e
      · exact hout _ hb (by simp [e])
      · rcases hall _ hb with h | h
        · have := hltj _ (hjt _ h); omega
        · have := hltc _ (hct _ h); omega
  · rcases List.mem_cons.1 hx with rfl | hx
    · exact .inl (.inl hjp)
    rcases List.mem_append.1 hx with hx | hx
    · simp at hx
      subst hx
      rcases hg5 with e | e
      · exact .inl (.inl (e ▸ hgjF))
      · exact .inr e
    · rcases hall x hx with h | h
      · exact .inl (.inl (hjt x h))
      · exact .inl (.inr (hct x h))
  · refine (hm36.trans (hm7.mono (by simp))).mono (fun x hx => ?_)
    simp only [List.mem_cons, List.not_mem_nil, or_false] at hx
    rcases hx with rfl | rfl
    · exact hjp
    · exact hgjF

/-- behind the taking out of the poor one: the row, and where all stands -/
theorem outRow {w w1 : World} {k : Kd} {g cc : Nat} {l r : List Kd} {c : Kd} {rest : List Value} (hi : InnerAt w k (.slice (some ⟨g, 0, none⟩) k.n cc) (l ++ c :: r)) (hsz : (ptrs (kblks (l ++ c :: r)) ++ rest).length = cc) (hcm : cc ≤ maxLen) (hm1 : Mod [g] w w1)
    (hr1 : w1.heap[g]? = some (rowO ((kblks (l ++ c :: r)).take l.length ++ (kblks (l ++ c :: r)).drop (l.length + 1)) (List.replicate (l.length + 1 - l.length) (.pointer none) ++ rest) 115)) :
    (l ++ r).length = k.n - 1 ∧ (w1.setCell ⟨k.p, 5, none⟩ (.slice (some ⟨g, 0, none⟩) (k.n - 1) cc)).heap[k.p]? = some (ndO k.bx (.slice none 0 0) (.slice (some ⟨g, 0, none⟩) (k.n - 1) cc)) ∧
    (w1.setCell ⟨k.p, 5, none⟩ (.slice (some ⟨g, 0, none⟩) (k.n - 1) cc)).ownsRow 0 115 1 (.slice (some ⟨g, 0, none⟩) (k.n - 1) cc) (k.n - 1) (ptrs (kblks (l ++ r))) ∧ Mod [k.p, g] w (w1.setCell ⟨k.p, 5, none⟩ (.slice (some ⟨g, 0, none⟩) (k.n - 1) cc)) ∧
    w1.heap[k.p]? = some (ndO k.bx (.slice none 0 0) (.slice (some ⟨g, 0, none⟩) k.n cc)) ∧ g ≠ k.p := by
  have hF := hi.foot
  simp only [Value.ownBlock] at hF
  have hnd := hi.ok.nodup
  rw [hF] at hnd
  have hgp : g ≠ k.p := fun e => (List.nodup_cons.1 hnd).1 (by rw [e]; simp)
  have hlen : (l ++ r).length = k.n - 1 := by rw [← hi.len]; simp
  have hblk : (kblks (l ++ c :: r)).take l.length ++ (kblks (l ++ c :: r)).drop (l.length + 1) = kblks (l ++ r) := by
    have e : kblks (l ++ c :: r) = kblks l ++ c.p :: kblks r := by simp [kblks]
    have el : (kblks l).length = l.length := by simp [kblks]
    rw [e, ← el, List.take_left, ← List.drop_drop, List.drop_left]
    simp [kblks]
  rw [hblk] at hr1
  have hn1 : 0 < k.n := by rw [← hi.len]; simp; omega
  have hro := row_ownsT (base := 0) (c := cc) hr1 (Nat.zero_le _) (by
    have e1 : (kblks (l ++ r)).length = k.n - 1 := by simp only [kblks, List.length_map]; exact hlen
    have e2 : (kblks (l ++ c :: r)).length = k.n := by simp only [kblks, List.length_map]; exact hi.len
    simp only [List.length_append, ptrs_length, List.length_replicate] at hsz ⊢
    rw [e1]
    rw [e2] at hsz
    omega) hcm
  have e1 : (kblks (l ++ r)).length = k.n - 1 := by simp only [kblks, List.length_map]; exact hlen
  rw [e1] at hro
  have hp1 := (hm1.block k.p (lt_of_block hi.here) (by simpa using fun e => hgp e.symm)).trans hi.here
  exact ⟨hlen, ndO_set5 hp1 _, owns_kept hro (Mod.setCell (F := [k.p]) _ _ _ (by simp)) (fun x hx => by simp [Value.ownBlock] at hx; subst hx; simpa using hgp), (hm1.mono (by simp)).trans (Mod.setCell _ _ _ (by simp)), hp1, hgp⟩

end Go.Proofs.YthimaoipogocfaaGreat

