import Derived.Test.YthimaoipogocfaaGreatRepS
import Derived.Test.YthimaoipogocfaaGreatLog1
namespace Go.Proofs.YthimaoipogocfaaGreat
open Go.RowKit Go.Maps
attribute [local go_sem] run_store_f32 run_neg_inf

/-! ### redo -/
/-- the program's tree, as what it holds and its log -/
def HAt (w : World) (q fan : Nat) (s : St) (F : List Nat) : Prop := ∃ ts, HRep w q fan ts s.lg F ∧ ts.map Tg.th = s.L

def RedoPost (q fan : Nat) (s : St) (r : Rc) (F : List Nat) (w : World) (e : Ending) (w' : World) : Prop :=
  ∃ b s' F', e = .returned (.bool b) ∧ HAt w' q fan s' F' ∧ ((b = true ∧ Done s r s') ∨ (b = false ∧ s' = s ∧ ∀ s'', ¬ Done s r s'')) ∧ (∀ x ∈ F', x ∈ F ∨ w.heap.size ≤ x) ∧ Mod F w w'

theorem redoNo {w w' : World} {q fan : Nat} {s : St} {r : Rc} {F : List Nat} (h : HAt w q fan s F) (hn : ∀ s'', ¬ Done s r s'') (hm : Mod [] w w') : RedoPost q fan s r F w (.returned (.bool false)) w' := by
  obtain ⟨ts, h1, h2⟩ := h
  exact ⟨false, s, F, rfl, ⟨ts, h1.kept hm (by simp), h2⟩, .inr ⟨rfl, rfl, hn⟩, fun x hx => .inl hx, hm.nil⟩

/-- Put, seen from its things and its log -/
theorem hPutS {w : World} {q fan : Nat} {s : St} {F : List Nat} (h : HAt w q fan s F) (hl : s.lg.length ≤ 10000000000) (hk : s.L.length ≤ 1000) (id x0 y0 x1 y1 : Int) :
    Calls Tryz.prog 24 #[.pointer (some ⟨q, 0, none⟩), .int .i64 id, R4 x0 y0 x1 y1] w fun e w' => ∃ c s' F', e = .returned (.int .i64 c) ∧ HAt w' q fan s' F' ∧ ((c = 0 ∧ okT s.L ⟨id, x0, y0, x1, y1⟩ ∧ s' = stPut s ⟨id, x0, y0, x1, y1⟩) ∨ (c ≠ 0 ∧ ¬ okT s.L ⟨id, x0, y0, x1, y1⟩ ∧ s' = s)) ∧ (∀ x ∈ F', x ∈ F ∨ w.heap.size ≤ x) ∧ Mod F w w' := by
  obtain ⟨ts, h1, h2⟩ := h
  have hlen : ts.length = s.L.length := by rw [← h2, List.length_map]
  refine (hPut_any h1 hl id x0 y0 x1 y1 (by omega)).mono ?_
  rintro e w' ⟨blk, rfl, F', a1, a2, a3⟩
  have hhas : (findG ts id).isSome = hasT s.L id := by rw [findG_hasT, h2]
  by_cases hc : putC ts id x0 y0 x1 y1 = 0
  · refine ⟨_, stPut s ⟨id, x0, y0, x1, y1⟩, F', rfl, ⟨putG ts id x0 y0 x1 y1 blk, ?_, ?_⟩, .inl ⟨hc, ?_, rfl⟩, a2, a3⟩
    · have := putLg_LT (lg := s.lg) hc
      rw [this, h2] at a1
      exact a1
    · rw [putG_th h1.ids hc, h2]
      rfl
    · unfold putC at hc
      split at hc
      · omega
      · rename_i hi
        split at hc
        · omega
        · rename_i hr
          split at hc
          · omega
          · rename_i hf
            refine ⟨idB_iff.1 (by simpa using hi), rectB_ok (by simpa using hr), ?_⟩
            by_cases hl4 : s.L.length < 400
            · exact .inr hl4
            · left
              rw [← hhas]
              cases hg : findG ts id with
              | none => exact absurd ⟨hg, by omega⟩ hf
              | some n => rfl
  · refine ⟨_, s, F', rfl, ⟨ts, ?_, h2⟩, .inr ⟨hc, ?_, rfl⟩, a2, a3⟩
    · have e1 : putG ts id x0 y0 x1 y1 blk = ts := by unfold putG; rw [if_neg hc]
      have e2 : putLg ts s.lg id x0 y0 x1 y1 = s.lg := by unfold putLg; rw [if_neg hc]
      rw [e1, e2] at a1
      exact a1
    · rintro ⟨k1, k2, k3⟩
      apply hc
      unfold putC
      rw [idB_iff.2 k1, rectOk_B k2, if_neg (by simp), if_neg (by simp), if_neg]
      rintro ⟨f1, f2⟩
      rcases k3 with k3 | k3
      · rw [← hhas, f1] at k3
        cases k3
      · omega

theorem hDropS {w : World} {q fan : Nat} {s : St} {F : List Nat} (h : HAt w q fan s F) (hl : s.lg.length ≤ 10000000000) (id : Int) :
    Calls Tryz.prog 16 #[.pointer (some ⟨q, 0, none⟩), .int .i64 id] w fun e w' => ∃ c F', e = .returned (.int .i64 c) ∧ HAt w' q fan (stDrop s id) F' ∧ ((c = 0 ∧ hasT s.L id = true) ∨ (c = 3 ∧ hasT s.L id = false)) ∧ (∀ x ∈ F', x ∈ F ∨ w.heap.size ≤ x) ∧ Mod F w w' := by
  obtain ⟨ts, h1, h2⟩ := h
  have hhas : (findG ts id).isSome = hasT s.L id := by rw [findG_hasT, h2]
  refine (hDrop_any h1 hl id).mono ?_
  rintro e w' ⟨rfl, F', a1, a2, a3⟩
  refine ⟨_, F', rfl, ⟨dropG ts id, ?_, ?_⟩, ?_, a2, a3⟩
  · rw [dropLg_LT, h2] at a1
    exact a1
  · rw [dropG_th h1.ids, h2]
    rfl
  · rw [hhas]
    cases hasT s.L id with
    | true => exact .inl ⟨rfl, rfl⟩
    | false => exact .inr ⟨rfl, rfl⟩

theorem dropT_none {L : List Th} {id : Int} (h : hasT L id = false) : dropT L id = L := by
  refine List.filter_eq_self.2 (fun t ht => ?_)
  simp only [bne_iff_ne, ne_eq]
  intro e
  have := hasT_iff.2 ⟨t, ht, e⟩
  rw [h] at this
  cases this
theorem stDrop_none {s : St} {id : Int} (h : hasT s.L id = false) : stDrop s id = s := by
  unfold stDrop dropLT
  rw [dropT_none h, h]
  rfl

theorem hasS {w : World} {q fan : Nat} {s : St} {F : List Nat} (h : HAt w q fan s F) (id : Int) : ∀ W, Mod [] w W → Calls Tryz.prog 33 #[.pointer (some ⟨q, 0, none⟩), .int .i64 id] W (HasPost (hasT s.L id) W) := fun W hm => by
  obtain ⟨ts, h1, h2⟩ := h
  rw [← h2, ← findG_hasT]
  exact hAsk h1 id _ rfl W hm

theorem HAt.kept {w w' : World} {q fan : Nat} {s : St} {F G : List Nat} (h : HAt w q fan s F) (hm : Mod G w w') (hf : ∀ x ∈ F, x ∉ G) : HAt w' q fan s F := by
  obtain ⟨ts, h1, h2⟩ := h
  exact ⟨ts, h1.kept hm hf, h2⟩
theorem HAt.lt {w : World} {q fan : Nat} {s : St} {F : List Nat} (h : HAt w q fan s F) : ∀ x ∈ F, x < w.heap.size := by
  obtain ⟨ts, h1, h2⟩ := h
  exact h1.lt

theorem eq0 (c : Int) : (c == 0) = decide (c = 0) := by
  by_cases h : c = 0 <;> simp [h]

set_option maxRecDepth 100000 in
set_option maxHeartbeats 1000000 in
theorem redo_drop {w : World} {q fan : Nat} {s : St} {F : List Nat} (h : HAt w q fan s F) (hl : s.lg.length ≤ 10000000000) {r : Rc} (hk : r.kind = 68) :
    Calls Tryz.prog 49 #[.pointer (some ⟨q, 0, none⟩), r.val] w (RedoPost q fan s r F w) := by
  obtain ⟨kind, fn, id, x0, y0, x1, y1⟩ := r
  simp only at hk
  subst hk
  have hm0 := Mod.alloc (F := []) w (rcO ⟨68, fn, id, x0, y0, x1, y1⟩)
  have HH := hideIt (hasS h id)
  have HZ := hideIt (show ∀ W, Mod [] (w.alloc (rcO ⟨68, fn, id, x0, y0, x1, y1⟩)) W → W.heap[w.heap.size]? = some (rcO ⟨68, fn, id, x0, y0, x1, y1⟩) from fun W hm => (hm.block _ (by simp) (by simp)).trans (heap_alloc_new w _))
  have HD := hideIt (fun W (hm : Mod [] w W) => hDropS (h.kept hm (by simp)) hl id)
  have HFIN := hideIt (show ∀ W w2 (c : Int) F', Mod [] w W → HAt w2 q fan (stDrop s id) F' → ((c = 0 ∧ hasT s.L id = true) ∨ (c = 3 ∧ hasT s.L id = false)) → (∀ x ∈ F', x ∈ F ∨ W.heap.size ≤ x) → Mod F W w2 → RedoPost q fan s ⟨68, fn, id, x0, y0, x1, y1⟩ F w (.returned (.bool (c == 0))) w2 from fun W w2 c F' hm k1 k2 k3 k4 => by
    have hs := hm.size
    rcases k2 with ⟨rfl, hh⟩ | ⟨rfl, hh⟩
    · exact ⟨true, _, F', rfl, k1, .inl ⟨rfl, .drop s ⟨68, fn, id, x0, y0, x1, y1⟩ rfl hh⟩, fun x hx => (k3 x hx).imp (fun h => h) (fun h => by omega), hm.nil.trans k4⟩
    · rw [stDrop_none hh] at k1
      refine ⟨false, s, F', rfl, k1, .inr ⟨rfl, rfl, fun s'' hd => ?_⟩, fun x hx => (k3 x hx).imp (fun h => h) (fun h => by omega), hm.nil.trans k4⟩
      cases hd with
      | put hk2 _ => simp at hk2
      | drop _ hh2 => simp only at hh2; rw [hh] at hh2; cases hh2)
  have HM0 := hideIt hm0
  obtain ⟨r0, r1, r2, r3, r4, r5, r6⟩ := cell_rcO (heap_alloc_new w (rcO ⟨68, fn, id, x0, y0, x1, y1⟩))
  generalize hasT s.L id = there at *
  clear h hm0
  simp only [Rc.val]
  simp only at r0 r1 r2 r3 r4 r5 r6
  go_enter Tryz.func49, Tryz.ntmps49
  go_wp2_with fail
  refine (HH.out _ HM0.out).mono ?_
  rintro e w1 ⟨rfl, hm1⟩
  clear r0 r1 r2 r3 r4 r5 r6
  obtain ⟨r0, r1, r2, r3, r4, r5, r6⟩ := cell_rcO (HZ.out w1 hm1)
  have HM1 := hideIt (HM0.out.trans hm1)
  clear hm1
  go_wp2_with fail
  refine (HD.out _ HM1.out).mono ?_
  rintro e w2 ⟨c, F', rfl, k1, k2, k3, k4⟩
  have HF := hideIt (HFIN.out _ _ _ _ HM1.out k1 k2 k3 k4)
  clear k1 k2 k3 k4 HFIN HD HH HZ
  go_wp2
  go_ret
  exact HF.out

/-- Put, where the record says so -/
theorem redoPut {w W w2 : World} {q fan : Nat} {s s' : St} {r : Rc} {F F' : List Nat} {c : Int} (hk : (r.kind = 77 ∧ hasT s.L r.id = true) ∨ (r.kind = 80 ∧ hasT s.L r.id = false)) (hm : Mod [] w W) (k1 : HAt w2 q fan s' F') (k2 : (c = 0 ∧ okT s.L r.th ∧ s' = stPut s r.th) ∨ (c ≠ 0 ∧ ¬ okT s.L r.th ∧ s' = s)) (k3 : ∀ x ∈ F', x ∈ F ∨ W.heap.size ≤ x) (k4 : Mod F W w2) : RedoPost q fan s r F w (.returned (.bool (c == 0))) w2 := by
  have hs := hm.size
  rcases k2 with ⟨rfl, ho, rfl⟩ | ⟨hc, ho, rfl⟩
  · exact ⟨true, _, F', rfl, k1, .inl ⟨rfl, .put s r hk ho⟩, fun x hx => (k3 x hx).imp (fun h => h) (fun h => by omega), hm.nil.trans k4⟩
  · refine ⟨false, s', F', by simp [hc], k1, .inr ⟨rfl, rfl, fun s'' hd => ?_⟩, fun x hx => (k3 x hx).imp (fun h => h) (fun h => by omega), hm.nil.trans k4⟩
    cases hd with
    | put _ ho2 => exact ho ho2
    | drop hk2 _ => omega

end Go.Proofs.YthimaoipogocfaaGreat
