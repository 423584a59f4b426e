import Derived.Test.YthimaoipogocfaaGreatM09
import Derived.Test.YthimaoipogocfaaGreatM06
import Derived.Test.YthimaoipogocfaaGreatM01
namespace Go.Proofs.YthimaoipogocfaaGreat
open Go.RowKit Go.Maps
attribute [local go_sem] run_store_f32 run_neg_inf

/-! ### the program's things, the reference's: the same in another order -/
theorem hasT_perm {L M : List Th} (h : L.Perm M) (id : Int) : hasT L id = hasT M id := by
  unfold hasT
  rw [Bool.eq_iff_iff, List.any_eq_true, List.any_eq_true]
  exact ⟨fun ⟨x, hx, e⟩ => ⟨x, h.mem_iff.1 hx, e⟩, fun ⟨x, hx, e⟩ => ⟨x, h.mem_iff.2 hx, e⟩⟩
theorem dropT_perm {L M : List Th} (h : L.Perm M) (id : Int) : (dropT L id).Perm (dropT M id) := h.filter _
theorem findT_none {L : List Th} {id : Int} (h : findT L id = none) : hasT L id = false := by rw [findT_has, h]; rfl
theorem findT_some {L : List Th} {id : Int} {n : Nat} (h : findT L id = some n) : hasT L id = true := by rw [findT_has, h]; rfl
theorem erase_drop {L : List Th} (hn : (L.map (·.id)).Nodup) {id : Int} {n : Nat} (h : findT L id = some n) : L.eraseIdx n = dropT L id := by
  obtain ⟨s, hs, hid⟩ := find_get h
  rw [filter_eraseIdx hn hs, hid]
  rfl
theorem set_perm {L : List Th} {n : Nat} (h : n < L.length) (t : Th) : (L.set n t).Perm (L.eraseIdx n ++ [t]) := by
  rw [List.set_eq_take_append_cons_drop, if_pos h, List.eraseIdx_eq_take_drop_succ]
  refine List.perm_middle.trans ?_
  exact (List.perm_append_singleton t _).symm
theorem putF_code (L : List Th) (t : Th) : (putF L t).1 = if idB t.id = false then 1 else if rectB t.x0 t.y0 t.x1 t.y1 = false then 2 else if hasT L t.id = false ∧ 400 ≤ L.length then 4 else 0 := by
  unfold putF
  split
  · rfl
  · split
    · rfl
    · cases hf : findT L t.id with
      | none =>
        rw [findT_none hf]
        simp only [true_and]
        split <;> rfl
      | some n =>
        rw [findT_some hf]
        simp
theorem putF_bad {L : List Th} {t : Th} (h : (putF L t).1 ≠ 0) : (putF L t).2 = L := by
  unfold putF at *
  split
  · rfl
  · rename_i h1
    rw [if_neg h1] at h
    split
    · rfl
    · rename_i h2
      rw [if_neg h2] at h
      split
      · rename_i h3
        rw [h3] at h
        simp only at h
        split
        · rfl
        · rename_i h4
          rw [if_neg h4] at h
          exact absurd rfl h
      · rename_i n h3
        rw [h3] at h
        exact absurd rfl h
theorem putF_perm {L : List Th} (hn : (L.map (·.id)).Nodup) {t : Th} (h : (putF L t).1 = 0) : (putF L t).2.Perm (putT L t) := by
  unfold putF at *
  split
  · rename_i h1
    rw [if_pos h1] at h
    exact absurd h (by simp)
  · rename_i h1
    rw [if_neg h1] at h
    split
    · rename_i h2
      rw [if_pos h2] at h
      exact absurd h (by simp)
    · rename_i h2
      rw [if_neg h2] at h
      split
      · rename_i h3
        rw [h3] at h
        simp only at h
        split
        · rename_i h4
          rw [if_pos h4] at h
          exact absurd h (by simp)
        · unfold putT
          rw [dropT_none (findT_none h3)]
      · rename_i n h3
        obtain ⟨s, hs, hid⟩ := find_get h3
        have hlt := (List.getElem?_eq_some_iff.1 hs).1
        unfold putT
        rw [← erase_drop hn h3]
        exact set_perm hlt t

/-- the program's things and log s, the reference's things L -/
structure Match (s : St) (L : List Th) : Prop where
  perm : L.Perm s.L
  len : L.length ≤ 400
theorem HAt.nodup {w : World} {q fan : Nat} {s : St} {F : List Nat} (h : HAt w q fan s F) : (s.L.map (·.id)).Nodup := by
  obtain ⟨ts, h1, h2⟩ := h
  rw [← h2, List.map_map]
  exact h1.ids
theorem HAt.idsOk {w : World} {q fan : Nat} {s : St} {F : List Nat} (h : HAt w q fan s F) : ∀ t ∈ s.L, 0 ≤ t.id ∧ t.id ≤ 4095 := by
  obtain ⟨ts, h1, h2⟩ := h
  intro t ht
  rw [← h2] at ht
  obtain ⟨g, hg, rfl⟩ := List.mem_map.1 ht
  exact h1.idsOk g hg
theorem Match.nodup {w : World} {q fan : Nat} {s : St} {L : List Th} {F : List Nat} (m : Match s L) (h : HAt w q fan s F) : (L.map (·.id)).Nodup := (m.perm.map _).nodup_iff.2 h.nodup
theorem Match.ids {w : World} {q fan : Nat} {s : St} {L : List Th} {F : List Nat} (m : Match s L) (h : HAt w q fan s F) : ∀ t ∈ L, 0 ≤ t.id ∧ t.id ≤ 4095 := fun t ht => h.idsOk t (m.perm.mem_iff.1 ht)
theorem Match.slen {s : St} {L : List Th} (m : Match s L) : s.L.length ≤ 400 := by rw [← m.perm.length_eq]; exact m.len

theorem putT_perm {L M : List Th} (h : L.Perm M) (t : Th) : (putT L t).Perm (putT M t) := (dropT_perm h t.id).append_right [t]

def CodePutPost (q fan : Nat) (c : Int) (L' : List Th) (lg' : List Int) (F : List Nat) (w : World) (e : Ending) (w' : World) : Prop := ∃ s' F', e = .returned (.int .i64 c) ∧ HAt w' q fan s' F' ∧ Match s' L' ∧ s'.lg = lg' ∧ (∀ x ∈ F', x ∈ F ∨ w.heap.size ≤ x) ∧ Mod F w w'

theorem codePut {w : World} {q fan : Nat} {s : St} {L : List Th} {F : List Nat} (h : HAt w q fan s F) (m : Match s L) (hl : s.lg.length ≤ 10000000000) (t : Th) :
    Calls Tryz.prog 24 #[.pointer (some ⟨q, 0, none⟩), .int .i64 t.id, R4 t.x0 t.y0 t.x1 t.y1] w (CodePutPost q fan (putF L t).1 (putF L t).2 (putFL L s.lg t) F w) := by
  have hnd := m.nodup h
  obtain ⟨ts, h1, h2⟩ := h
  have hlen : ts.length = L.length := by rw [m.perm.length_eq, ← h2, List.length_map]
  have hmap : (ts.map Tg.th).Perm L := h2 ▸ m.perm.symm
  have hhas : (findG ts t.id).isSome = hasT L t.id := by rw [findG_hasT, hasT_perm hmap]
  have hcode : putC ts t.id t.x0 t.y0 t.x1 t.y1 = (putF L t).1 := by
    rw [putF_code]
    unfold putC
    have hiff : (findG ts t.id = none ∧ 400 ≤ ts.length) ↔ (hasT L t.id = false ∧ 400 ≤ L.length) := by
      rw [hlen, ← hhas]
      cases findG ts t.id <;> simp
    simp only [hiff]
  refine (hPut_any h1 hl t.id t.x0 t.y0 t.x1 t.y1 (by have := m.len; omega)).mono ?_
  rintro e w' ⟨blk, rfl, F', a1, a2, a3⟩
  rw [hcode]
  by_cases hc : (putF L t).1 = 0
  · have hc' : putC ts t.id t.x0 t.y0 t.x1 t.y1 = 0 := hcode.trans hc
    have hp : (putF L t).2.Perm (putT s.L t) := (putF_perm hnd hc).trans (putT_perm m.perm t)
    refine ⟨stPut s t, F', rfl, ⟨putG ts t.id t.x0 t.y0 t.x1 t.y1 blk, ?_, ?_⟩, ⟨hp, ?_⟩, ?_, a2, a3⟩
    · have := putLg_LT (lg := s.lg) hc'
      rw [this, h2] at a1
      exact a1
    · rw [putG_th h1.ids hc', h2]
      rfl
    · have hle : (putT s.L t).length ≤ 400 := by
        have h0 := hc
        rw [putF_code] at h0
        by_cases hh : hasT L t.id = true
        · have hm : hasT s.L t.id = true := by rw [← hasT_perm m.perm]; exact hh
          obtain ⟨x, hx, he⟩ := hasT_iff.1 hm
          unfold putT dropT
          rw [List.length_append]
          have h3 : (s.L.filter (fun y => y.id != t.id)).length < s.L.length := by
            refine Nat.lt_of_le_of_ne (List.length_filter_le _ _) (fun e => ?_)
            have := List.filter_eq_self.1 (List.Sublist.eq_of_length List.filter_sublist e) x hx
            simp [he] at this
          have := m.slen
          simp only [List.length_cons, List.length_nil]
          omega
        · have hh' : hasT L t.id = false := by simpa using hh
          have h4 := putT_length s.L t
          have h5 : ¬ 400 ≤ L.length := by
            intro h6
            rw [hh'] at h0
            simp only [true_and, h6, if_true] at h0
            split at h0
            · omega
            · split at h0 <;> omega
          have h7 := m.perm.length_eq
          omega
      rw [hp.length_eq]
      exact hle
    · unfold putFL
      rw [if_pos hc]
      show putLT s.L s.lg t = putLT L s.lg t
      unfold putLT
      rw [hasT_perm m.perm]
  · have hc' : ¬ putC ts t.id t.x0 t.y0 t.x1 t.y1 = 0 := fun e => hc (hcode.symm.trans e)
    refine ⟨s, F', rfl, ⟨ts, ?_, h2⟩, ?_, ?_, a2, a3⟩
    · have e1 : putG ts t.id t.x0 t.y0 t.x1 t.y1 blk = ts := by unfold putG; rw [if_neg hc']
      have e2 : putLg ts s.lg t.id t.x0 t.y0 t.x1 t.y1 = s.lg := by unfold putLg; rw [if_neg hc']
      rw [e1, e2] at a1
      exact a1
    · rw [putF_bad hc]
      exact m
    · unfold putFL
      rw [if_neg hc]

theorem codeDrop {w : World} {q fan : Nat} {s : St} {L : List Th} {F : List Nat} (h : HAt w q fan s F) (m : Match s L) (hl : s.lg.length ≤ 10000000000) (id : Int) :
    Calls Tryz.prog 16 #[.pointer (some ⟨q, 0, none⟩), .int .i64 id] w (CodePutPost q fan (dropF L id).1 (dropF L id).2 (dropLT L s.lg id) F w) := by
  have hnd := m.nodup h
  refine (hDropS h hl id).mono ?_
  rintro e w' ⟨c, F', rfl, k1, k2, k3, k4⟩
  have hlg : (stDrop s id).lg = dropLT L s.lg id := by
    show dropLT s.L s.lg id = dropLT L s.lg id
    unfold dropLT
    rw [hasT_perm m.perm]
  cases hf : findT L id with
  | none =>
    have e1 : dropF L id = (3, L) := by simp [dropF, hf]
    have hh : hasT s.L id = false := by rw [← hasT_perm m.perm]; exact findT_none hf
    have hc : c = 3 := by
      rcases k2 with ⟨_, h⟩ | ⟨h, _⟩
      · rw [hh] at h; cases h
      · exact h
    rw [e1, hc]
    refine ⟨_, F', rfl, k1, ⟨?_, m.len⟩, hlg, k3, k4⟩
    rw [stDrop_none hh]
    exact m.perm
  | some n =>
    have e1 : dropF L id = (0, L.eraseIdx n) := by simp [dropF, hf]
    have hh : hasT s.L id = true := by rw [← hasT_perm m.perm]; exact findT_some hf
    have hc : c = 0 := by
      rcases k2 with ⟨h, _⟩ | ⟨_, h⟩
      · exact h
      · rw [hh] at h; cases h
    rw [e1, hc]
    refine ⟨_, F', rfl, k1, ⟨?_, ?_⟩, hlg, k3, k4⟩
    · show (L.eraseIdx n).Perm (dropT s.L id)
      rw [erase_drop hnd hf]
      exact dropT_perm m.perm id
    · have := List.length_eraseIdx_le L n
      have := m.len
      show (L.eraseIdx n).length ≤ 400
      omega

theorem codeGet {w : World} {q fan : Nat} {s : St} {L : List Th} {F : List Nat} (h : HAt w q fan s F) (m : Match s L) (id : Int) :
    Calls Tryz.prog 27 #[.pointer (some ⟨q, 0, none⟩), .int .i64 id] w (GetPost (getF L id) w) := by
  have hnd := m.nodup h
  obtain ⟨ts, h1, h2⟩ := h
  have hmap : (ts.map Tg.th).Perm L := h2 ▸ m.perm.symm
  have hg := hGet_any h1 id
  unfold HGetPost at hg
  unfold GetPost getF
  cases hf : findT L id with
  | none =>
    have hn : findG ts id = none := by
      have := findG_hasT ts id
      rw [hasT_perm hmap, findT_none hf] at this
      cases hx : findG ts id with
      | none => rfl
      | some n => rw [hx] at this; cases this
    have e : rectOfG ts id = R4 0 0 0 0 := by unfold rectOfG; rw [hn]
    rw [e, hn] at hg
    exact hg
  | some n =>
    obtain ⟨t, ht, hid⟩ := find_get hf
    have htm : t ∈ ts.map Tg.th := hmap.mem_iff.2 (List.mem_of_getElem? ht)
    obtain ⟨g, hg1, hg2⟩ := List.mem_map.1 htm
    have hgid : g.id = id := by rw [← hid, ← hg2]; rfl
    obtain ⟨e1, e2⟩ := findG_mem h1.ids hg1
    rw [hgid] at e1 e2
    rw [e1, e2] at hg
    have hget : L.getD n ⟨0, 0, 0, 0, 0⟩ = t := by simp [List.getD, ht]
    simp only [hget]
    rw [← hg2]
    exact hg

theorem codeLen {w : World} {q fan : Nat} {s : St} {L : List Th} {F : List Nat} (h : HAt w q fan s F) (m : Match s L) :
    Calls Tryz.prog 21 #[.pointer (some ⟨q, 0, none⟩)] w fun e w' => e = .returned (.int .i64 L.length) ∧ w = w' := by
  obtain ⟨ts, h1, h2⟩ := h
  have hlen : ts.length = L.length := by rw [m.perm.length_eq, ← h2, List.length_map]
  rw [← hlen]
  exact hLen_any h1

/-- a pair of trees: where they lie, what they hold -/
structure PS where
  px : Nat
  py : Nat
  fan : Nat
  s : St
  L : List Th
  F : List Nat
abbrev PS.nl (p : PS) : Nat := p.s.lg.length

def PairRep (w : World) (p : PS) : Prop :=
  ∃ F1 F2, HAt w p.px p.fan p.s F1 ∧ RefRep w p.py p.fan p.L p.s.lg F2 ∧ (∀ x ∈ F1, x ∉ F2) ∧ p.F = F1 ++ F2 ∧ Match p.s p.L

theorem PairRep.kept {w w' : World} {p : PS} {G : List Nat} (h : PairRep w p) (hm : Mod G w w') (hd : ∀ x ∈ p.F, x ∉ G) : PairRep w' p := by
  obtain ⟨F1, F2, h1, h2, h3, h4, h5⟩ := h
  rw [h4] at hd
  exact ⟨F1, F2, h1.kept hm (fun x hx => hd x (by simp [hx])), h2.kept hm (fun x hx => hd x (by simp [hx])), h3, h4, h5⟩

theorem PairRep.lt {w : World} {p : PS} (h : PairRep w p) : ∀ x ∈ p.F, x < w.heap.size := by
  obtain ⟨F1, F2, h1, h2, h3, h4, h5⟩ := h
  rw [h4]
  intro x hx
  rcases List.mem_append.1 hx with hx | hx
  · exact h1.lt x hx
  · exact h2.lt x hx

/-- the same trees, behind something that was done to them -/
structure Next (w : World) (p q : PS) (w' : World) : Prop where
  rep : PairRep w' q
  px : q.px = p.px
  py : q.py = p.py
  mod : Mod p.F w w'
  foot : ∀ x ∈ q.F, x ∈ p.F ∨ w.heap.size ≤ x

theorem Next.refl {w : World} {p : PS} (h : PairRep w p) : Next w p p w := ⟨h, rfl, rfl, Mod.refl _ _, fun _ hx => .inl hx⟩

theorem Next.trans {w w1 w2 : World} {p q r : PS} (h : Next w p q w1) (k : Next w1 q r w2) : Next w p r w2 := by
  refine ⟨k.rep, k.px.trans h.px, k.py.trans h.py, h.mod.then k.mod h.foot, fun x hx => ?_⟩
  rcases k.foot x hx with hx | hx
  · exact h.foot x hx
  · exact .inr (Nat.le_trans h.mod.size hx)

/-- nothing of the trees has turned -/
theorem Next.still {w w1 : World} {p : PS} (h : PairRep w p) (hm : Mod [] w w1) : Next w p p w1 := ⟨h.kept hm (by simp), rfl, rfl, hm.nil, fun _ hx => .inl hx⟩

/-- a step of the program's tree, then the same of the reference's -/
theorem Next.both {w w1 w2 : World} {p : PS} {F1 F2 : List Nat} {s' : St} {L' : List Th} {F1' F' : List Nat} (h3 : ∀ x ∈ F1, x ∉ F2) (h4 : p.F = F1 ++ F2)
    (c : HAt w1 p.px p.fan s' F1') (m1 : Mod F1 w w1) (f1 : ∀ x ∈ F1', x ∈ F1 ∨ w.heap.size ≤ x) (hlt2 : ∀ x ∈ F2, x < w.heap.size)
    (r : RefRep w2 p.py p.fan L' s'.lg F') (m2 : Mod F2 w1 w2) (f2 : ∀ x ∈ F', x ∈ F2 ∨ w1.heap.size ≤ x) (hg : Match s' L') :
    Next w p ⟨p.px, p.py, p.fan, s', L', F1' ++ F'⟩ w2 := by
  have hz := m1.size
  have hc := c.lt
  have d1 : ∀ x ∈ F1', x ∉ F2 := fun x hx hx' => by
    rcases f1 x hx with h | h
    · exact h3 x h hx'
    · have := hlt2 x hx'; omega
  refine ⟨⟨F1', F', c.kept m2 d1, r, fun x hx hx' => ?_, rfl, hg⟩, rfl, rfl, ?_, fun x hx => ?_⟩
  · rcases f2 x hx' with h | h
    · exact d1 x hx h
    · have := hc x hx
      omega
  · rw [h4]
    exact (m1.mono (by intro x hx; simp [hx])).trans (m2.mono (by intro x hx; simp [hx]))
  · rw [h4]
    rcases List.mem_append.1 hx with hx | hx
    · rcases f1 x hx with h | h
      · exact .inl (by simp [h])
      · exact .inr h
    · rcases f2 x hx with h | h
      · exact .inl (by simp [h])
      · exact .inr (by omega)

abbrev G2 (px py : Nat) : Value := .agg #[.pointer (some ⟨px, 0, none⟩), .pointer (some ⟨py, 0, none⟩)]
abbrev B52 (px py : Nat) : Obj := .cells #[.pointer (some ⟨px, 0, none⟩), .pointer (some ⟨py, 0, none⟩)] 102

theorem cell_B52 {w : World} {b px py : Nat} (h : w.heap[b]? = some (B52 px py)) :
    w.cell? ⟨b, 0, none⟩ = some (.pointer (some ⟨px, 0, none⟩)) ∧ w.cell? ⟨b, 1, none⟩ = some (.pointer (some ⟨py, 0, none⟩)) := by
  refine ⟨?_, ?_⟩ <;> rw [cell_of_block h] <;> rfl

theorem putFL_length (L : List Th) (lg : List Int) (t : Th) : (putFL L lg t).length ≤ lg.length + 23 := by
  unfold putFL
  split
  · exact putLT_length L lg t
  · omega

def PutsPost (p : PS) (w : World) (e : Ending) (w' : World) : Prop := e = .returned (.bool true) ∧ ∃ q, Next w p q w' ∧ q.nl ≤ p.nl + 23

set_option maxRecDepth 100000 in
set_option maxHeartbeats 400000 in
theorem puts_any {w : World} {p : PS} (h : PairRep w p) (hnl : p.nl ≤ 99999900) (t : Th) :
    Calls Tryz.prog 85 #[G2 p.px p.py, .int .i64 t.id, R4 t.x0 t.y0 t.x1 t.y1] w (PutsPost p w) := by
  have hm0 : Mod [] w ((w.alloc (B52 p.px p.py)).alloc (B4 t.x0 t.y0 t.x1 t.y1)) := (Mod.alloc _ _).trans (Mod.alloc _ _)
  have hb1 : ((w.alloc (B52 p.px p.py)).alloc (B4 t.x0 t.y0 t.x1 t.y1)).heap[w.heap.size]? = some (B52 p.px p.py) := by
    rw [Below.heap_alloc _ _ _ (by simp)]
    exact heap_alloc_new w _
  have hb2 : ((w.alloc (B52 p.px p.py)).alloc (B4 t.x0 t.y0 t.x1 t.y1)).heap[w.heap.size + 1]? = some (B4 t.x0 t.y0 t.x1 t.y1) := by
    have := heap_alloc_new (w.alloc (B52 p.px p.py)) (B4 t.x0 t.y0 t.x1 t.y1)
    simpa using this
  have hlt := h.lt
  have HPR := hideIt h
  obtain ⟨F1, F2, h1, h2, h3, h4, h5⟩ := h.kept hm0 (by simp)
  have HP := hideIt (codePut h1 h5 (by have : p.s.lg.length ≤ 99999900 := hnl; omega) t)
  have hl1 : ∀ x ∈ F1, x < w.heap.size := fun x hx => hlt x (by rw [h4]; simp [hx])
  have hl2 : ∀ x ∈ F2, x < w.heap.size := fun x hx => hlt x (by rw [h4]; simp [hx])
  have HR := hideIt (show ∀ W, Mod F1 ((w.alloc (B52 p.px p.py)).alloc (B4 t.x0 t.y0 t.x1 t.y1)) W → Calls Tryz.prog 120 #[.pointer (some ⟨p.py, 0, none⟩), .int .i64 t.id, R4 t.x0 t.y0 t.x1 t.y1] W (RefPutPost p.py p.fan (putF p.L t) (putFL p.L p.s.lg t) F2 W) from fun W hm => refPut_any (h2.kept hm (fun x hx hx' => h3 x hx' hx)) h5.len hnl t)
  have HBX := hideIt (show ∀ W, Mod F1 ((w.alloc (B52 p.px p.py)).alloc (B4 t.x0 t.y0 t.x1 t.y1)) W → W.heap[w.heap.size]? = some (B52 p.px p.py) ∧ W.heap[w.heap.size + 1]? = some (B4 t.x0 t.y0 t.x1 t.y1) from fun W hm => ⟨(hm.block _ (lt_of_block hb1) (fun hx => by have := hl1 _ hx; omega)).trans hb1, (hm.block _ (lt_of_block hb2) (fun hx => by have := hl1 _ hx; omega)).trans hb2⟩)
  have HFIN := hideIt (show ∀ w1 w2 s' F1' F', HAt w1 p.px p.fan s' F1' → Match s' (putF p.L t).2 → s'.lg = putFL p.L p.s.lg t → (∀ x ∈ F1', x ∈ F1 ∨ ((w.alloc (B52 p.px p.py)).alloc (B4 t.x0 t.y0 t.x1 t.y1)).heap.size ≤ x) → Mod F1 ((w.alloc (B52 p.px p.py)).alloc (B4 t.x0 t.y0 t.x1 t.y1)) w1 → RefRep w2 p.py p.fan (putF p.L t).2 (putFL p.L p.s.lg t) F' → Mod F2 w1 w2 → (∀ x ∈ F', x ∈ F2 ∨ w1.heap.size ≤ x) → PutsPost p w (.returned (.bool true)) w2 from fun w1 w2 s' F1' F' a1 a2 a3 a4 a5 b1 b2 b3 => by
    have hz0 := hm0.size
    refine ⟨rfl, _, (Next.still HPR.out hm0).trans (Next.both h3 h4 a1 a5 a4 (fun x hx => by have := hl2 x hx; omega) (a3 ▸ b1) b2 b3 a2), ?_⟩
    show s'.lg.length ≤ _
    rw [a3]
    exact putFL_length _ _ _)
  clear hb1 hb2 h1 h2 h3 h4 h5 h hm0 hl1 hl2 hlt
  go_enter Tryz.func85, Tryz.ntmps85
  go_wp2_with fail
  refine HP.out.mono ?_
  clear HP
  rintro e w1 ⟨s', F1', rfl, a1, a2, a3, a4, a5⟩
  obtain ⟨hb1', hb2'⟩ := HBX.out w1 a5
  obtain ⟨c0, c1⟩ := cell_B52 hb1'
  obtain ⟨d0, d1, d2, d3⟩ := cell_B4 hb2'
  have HP := hideIt (HR.out w1 a5)
  have HA := hideIt (fun w2 F' => HFIN.out w1 w2 s' F1' F' a1 a2 a3 a4 a5)
  clear hb1' hb2' a1 a2 a3 a4 a5 HR HBX HFIN
  go_wp2_with fail
  refine HP.out.mono ?_
  clear HP
  rintro e w2 ⟨rfl, F', hr2, hm2, hf2⟩
  have HFIN := hideIt (HA.out w2 F' hr2 hm2 hf2)
  clear HA hr2 hm2 hf2 c0 c1 d0 d1 d2 d3
  generalize (putF p.L t).1 = er
  go_wp2_with fail
  refine (num_any _ _).mono ?_
  rintro e w3 ⟨rfl, hw⟩
  obtain rfl := hw.symm
  clear hw
  go_wp2
  go_ret
  exact HFIN.out

end Go.Proofs.YthimaoipogocfaaGreat

namespace Go.Proofs.YthimaoipogocfaaGreat
open Go.RowKit Go.Maps
attribute [local go_sem] run_store_f32 run_neg_inf

/-- a step of a script -/
structure Stp where
  k : Int
  e : Int
  a : Int
  b : Int
  c : Int
  x0 : Int
  y0 : Int
  x1 : Int
  y1 : Int
  j : Value

abbrev S10 (s : Stp) : Value := .agg #[.int .i64 s.k, .int .i64 s.e, .int .i64 s.a, .int .i64 s.b, .int .i64 s.c, .int .i64 s.x0, .int .i64 s.y0, .int .i64 s.x1, .int .i64 s.y1, s.j]
abbrev B40 (s : Stp) : Obj := .cells #[.int .i64 s.k, .int .i64 s.e, .int .i64 s.a, .int .i64 s.b, .int .i64 s.c, .int .i64 s.x0, .int .i64 s.y0, .int .i64 s.x1, .int .i64 s.y1, s.j] 71

theorem cell_B40 {w : World} {b : Nat} {s : Stp} (h : w.heap[b]? = some (B40 s)) (o : Nat) (v : Value) (hv : #[Value.int .i64 s.k, .int .i64 s.e, .int .i64 s.a, .int .i64 s.b, .int .i64 s.c, .int .i64 s.x0, .int .i64 s.y0, .int .i64 s.x1, .int .i64 s.y1, s.j][o]? = some v) : w.cell? ⟨b, o, none⟩ = some v := by
  rw [cell_of_block h]; exact hv

structure Stp.ok (s : Stp) : Prop where
  e : i64ok s.e
  a : i64ok s.a
  b : i64ok s.b
  c : i64ok s.c
  x0 : i64ok s.x0
  y0 : i64ok s.y0
  x1 : i64ok s.x1
  y1 : i64ok s.y1

def RowPost (p : PS) (ad : Nat) (w : World) (e : Ending) (w' : World) : Prop := e = .returned (.bool true) ∧ ∃ q, Next w p q w' ∧ q.nl ≤ p.nl + ad

set_option maxRecDepth 100000 in
set_option maxHeartbeats 1000000 in
theorem row_any {w : World} {p : PS} (h : PairRep w p) (hnl : p.nl ≤ 99999000) (s : Stp) (hs : s.ok) :
    Calls Tryz.prog 88 #[G2 p.px p.py, S10 s] w (RowPost p 897 w) := by
  have hm0 : Mod [] w ((w.alloc (B52 p.px p.py)).alloc (B40 s)) := (Mod.alloc _ _).trans (Mod.alloc _ _)
  have hb1 : ((w.alloc (B52 p.px p.py)).alloc (B40 s)).heap[w.heap.size]? = some (B52 p.px p.py) := by
    rw [Below.heap_alloc _ _ _ (by simp)]
    exact heap_alloc_new w _
  have hb2 : ((w.alloc (B52 p.px p.py)).alloc (B40 s)).heap[w.heap.size + 1]? = some (B40 s) := by
    have := heap_alloc_new (w.alloc (B52 p.px p.py)) (B40 s)
    simpa using this
  have hlt := h.lt
  have hN0 := Next.still h hm0
  have hst := hs.b
  have hsa := hs.a
  have hsc := hs.c
  unfold i64ok at hst hsa hsc
  go_enter Tryz.func88, Tryz.ntmps88
  go_wp2_with fail
  generalize hW0 : (w.alloc (B52 p.px p.py)).alloc (B40 s) = w0 at *
  refine (lpick_any s.b 40 _ hst.1 hst.2 (by decide) (by decide)).mono ?_
  rintro e w1 ⟨n, rfl, hn0, hn1, rfl⟩
  clear hW0
  have ca := cell_B40 hb2 2 _ rfl
  go_wp2_with fail
  refine (lpick_any s.a 4000 _ hsa.1 hsa.2 (by decide) (by decide)).mono ?_
  rintro e w2 ⟨f, rfl, hf0, hf1, rfl⟩
  clear ca hst hsa
  obtain ⟨m, rfl⟩ := Int.eq_ofNat_of_zero_le hn0
  go_wp2_with fail
  go_loopw [7] (fun i wr => ∃ k : Nat, k ≤ m ∧ i = .int .i64 k ∧ ∃ q, Next w2 p q wr ∧ q.nl ≤ p.nl + 23 * k) (fun i _ => m - (intOf i).toNat)
  case atStart => exact ⟨0, Nat.zero_le _, rfl, p, Next.refl hN0.rep, by omega⟩
  case round =>
    obtain ⟨k, hk, rfl, q, hN, hq⟩ := hrel
    by_cases hlt' : k < m
    · have hb1' := (hN.mod.block _ (lt_of_block hb1) (fun hx => by have := hlt _ hx; omega)).trans hb1
      have hb2' := (hN.mod.block _ (lt_of_block hb2) (fun hx => by have := hlt _ hx; omega)).trans hb2
      have cc := cell_B40 hb2' 4 _ rfl
      go_wp2_with fail
      refine (lpick_any s.c 1000 _ hsc.1 hsc.2 (by decide) (by decide)).mono ?_
      rintro e w3 ⟨d, rfl, hd0, hd1, rfl⟩
      obtain ⟨c0, c1⟩ := cell_B52 hb1'
      have hdk : 0 ≤ d * (k : Int) ∧ d * (k : Int) ≤ 1000 * 40 := ⟨Int.mul_nonneg hd0 (by omega), Int.mul_le_mul (by omega) (by omega) (by omega) (by omega)⟩
      obtain ⟨hdk0, hdk1⟩ := hdk
      rw [← hN.px] at c0
      rw [← hN.py] at c1
      go_wp2_with fail
      have hput := puts_any hN.rep (by omega) ⟨f + k, d * k, (k : Int) % 3, d * k + 5, (k : Int) % 3 + 2⟩
      refine hput.mono ?_
      clear hput cc c0 c1
      rintro e w4 ⟨rfl, q', hN', hq'⟩
      have hN2 := hN.trans hN'
      clear hN hN' hb1' hb2'
      go_wp2_with fail
      go_roundw
      case rel => exact ⟨k + 1, by omega, by go_num, q', hN2, by omega⟩
      case measure => simp [intOf]; omega
    · go_wp2
      go_ret
      exact ⟨rfl, q, hN0.trans hN, by omega⟩

end Go.Proofs.YthimaoipogocfaaGreat

namespace Go.Proofs.YthimaoipogocfaaGreat
open Go.RowKit Go.Maps
attribute [local go_sem] run_store_f32 run_neg_inf

/-- what holds' two boxes are, and what they leave as it was -/
theorem holds_boxes (w : World) (px py : Nat) (s : Stp) : Mod [] w ((w.alloc (B52 px py)).alloc (B40 s)) ∧
    ((w.alloc (B52 px py)).alloc (B40 s)).heap[w.heap.size]? = some (B52 px py) ∧ ((w.alloc (B52 px py)).alloc (B40 s)).heap[w.heap.size + 1]? = some (B40 s) := by
  refine ⟨(Mod.alloc _ _).trans (Mod.alloc _ _), ?_, ?_⟩
  · rw [Below.heap_alloc _ _ _ (by simp)]
    exact heap_alloc_new w _
  · have := heap_alloc_new (w.alloc (B52 px py)) (B40 s)
    simpa using this

set_option maxRecDepth 100000 in
set_option maxHeartbeats 1000000 in
theorem holds_put {w : World} {p : PS} (h : PairRep w p) (hnl : p.nl ≤ 99999000) (s : Stp) (wv : Value) (hk2 : (s.k == 2) = true) :
    Calls Tryz.prog 54 #[wv, G2 p.px p.py, S10 s] w (RowPost p 897 w) := by
  obtain ⟨hm0, hb1, hb2⟩ := holds_boxes w p.px p.py s
  have hN0 := Next.still h hm0
  have hput := puts_any hN0.rep (by omega) ⟨s.a, s.x0, s.y0, s.x1, s.y1⟩
  have HP := hideIt hput
  clear hput hb1 hb2
  go_enter Tryz.func54, Tryz.ntmps54
  go_wp2_with fail
  refine HP.out.mono ?_
  clear HP
  rintro e w1 ⟨rfl, q, hN, hq⟩
  have hN2 := hN0.trans hN
  clear hN hN0 hm0
  go_wp2
  go_ret
  exact ⟨rfl, q, hN2, by omega⟩

set_option maxRecDepth 100000 in
set_option maxHeartbeats 1000000 in
theorem holds_row {w : World} {p : PS} (h : PairRep w p) (hnl : p.nl ≤ 99999000) (s : Stp) (hs : s.ok) (wv : Value) (hk2 : (s.k == 2) = false) (hk3 : (s.k == 3) = false) (hk4 : (s.k == 4) = false) (hk5 : (s.k == 5) = false) :
    Calls Tryz.prog 54 #[wv, G2 p.px p.py, S10 s] w (RowPost p 897 w) := by
  obtain ⟨hm0, hb1, hb2⟩ := holds_boxes w p.px p.py s
  have hN0 := Next.still h hm0
  have hput := row_any hN0.rep (by omega) s hs
  have HP := hideIt hput
  clear hput hb1 hb2
  go_enter Tryz.func54, Tryz.ntmps54
  go_wp2_with fail
  refine HP.out.mono ?_
  clear HP
  rintro e w1 ⟨rfl, q, hN, hq⟩
  have hN2 := hN0.trans hN
  clear hN hN0 hm0
  go_wp2
  go_ret
  exact ⟨rfl, q, hN2, by omega⟩

set_option maxRecDepth 100000 in
set_option maxHeartbeats 1000000 in
theorem holds_drop {w : World} {p : PS} (h : PairRep w p) (hnl : p.nl ≤ 99999000) (s : Stp) (wv : Value) (hk2 : (s.k == 2) = false) (hk3 : (s.k == 3) = true) :
    Calls Tryz.prog 54 #[wv, G2 p.px p.py, S10 s] w (RowPost p 897 w) := by
  obtain ⟨hm0, hb1, hb2⟩ := holds_boxes w p.px p.py s
  have hlt := h.lt
  have HPR := hideIt h
  obtain ⟨F1, F2, h1, h2, h3, h4, h5⟩ := h.kept hm0 (by simp)
  have hl1 : ∀ x ∈ F1, x < w.heap.size := fun x hx => hlt x (by rw [h4]; simp [hx])
  have hl2 : ∀ x ∈ F2, x < w.heap.size := fun x hx => hlt x (by rw [h4]; simp [hx])
  have hids := h5.ids h1
  have HP := hideIt (codeDrop h1 h5 (by have : p.s.lg.length ≤ 99999000 := hnl; omega) s.a)
  have HR := hideIt (show ∀ W, Mod F1 ((w.alloc (B52 p.px p.py)).alloc (B40 s)) W → Calls Tryz.prog 86 #[.pointer (some ⟨p.py, 0, none⟩), .int .i64 s.a] W (RefPutPost p.py p.fan (dropF p.L s.a) (dropLT p.L p.s.lg s.a) F2 W) from fun W hm => refDrop_any (h2.kept hm (fun x hx hx' => h3 x hx' hx)) h5.len (by have : p.s.lg.length ≤ 99999000 := hnl; omega) hids s.a)
  have HBX := hideIt (show ∀ W, Mod F1 ((w.alloc (B52 p.px p.py)).alloc (B40 s)) W → W.heap[w.heap.size]? = some (B52 p.px p.py) ∧ W.heap[w.heap.size + 1]? = some (B40 s) from fun W hm => ⟨(hm.block _ (lt_of_block hb1) (fun hx => by have := hl1 _ hx; omega)).trans hb1, (hm.block _ (lt_of_block hb2) (fun hx => by have := hl1 _ hx; omega)).trans hb2⟩)
  have HFIN := hideIt (show ∀ w1 w2 s' F1' F', HAt w1 p.px p.fan s' F1' → Match s' (dropF p.L s.a).2 → s'.lg = dropLT p.L p.s.lg s.a → (∀ x ∈ F1', x ∈ F1 ∨ ((w.alloc (B52 p.px p.py)).alloc (B40 s)).heap.size ≤ x) → Mod F1 ((w.alloc (B52 p.px p.py)).alloc (B40 s)) w1 → RefRep w2 p.py p.fan (dropF p.L s.a).2 (dropLT p.L p.s.lg s.a) F' → Mod F2 w1 w2 → (∀ x ∈ F', x ∈ F2 ∨ w1.heap.size ≤ x) → RowPost p 897 w (.returned (.bool true)) w2 from fun w1 w2 s' F1' F' a1 a2 a3 a4 a5 b1 b2 b3 => by
    have hz0 := hm0.size
    refine ⟨rfl, _, (Next.still HPR.out hm0).trans (Next.both h3 h4 a1 a5 a4 (fun x hx => by have := hl2 x hx; omega) (a3 ▸ b1) b2 b3 a2), ?_⟩
    show s'.lg.length ≤ _
    rw [a3]
    have := dropLT_length p.L p.s.lg s.a
    show (dropLT p.L p.s.lg s.a).length ≤ p.s.lg.length + 897
    omega)
  clear hb1 hb2 h1 h2 h3 h4 h5 h hm0 hl1 hl2 hlt hids
  go_enter Tryz.func54, Tryz.ntmps54
  go_wp2_with fail
  refine HP.out.mono ?_
  clear HP
  rintro e w1 ⟨s', F1', rfl, a1, a2, a3, a4, a5⟩
  obtain ⟨hb1', hb2'⟩ := HBX.out w1 a5
  obtain ⟨c0, c1⟩ := cell_B52 hb1'
  have d2 : w1.cell? ⟨w.heap.size + 1, 2, none⟩ = some (.int .i64 s.a) := cell_B40 hb2' 2 _ rfl
  have HP := hideIt (HR.out w1 a5)
  have HA := hideIt (fun w2 F' => HFIN.out w1 w2 s' F1' F' a1 a2 a3 a4 a5)
  clear hb1' hb2' a1 a2 a3 a4 a5 HR HBX HFIN
  go_wp2_with fail
  refine HP.out.mono ?_
  clear HP
  rintro e w2 ⟨rfl, F', hr2, hm2, hf2⟩
  have HFIN := hideIt (HA.out w2 F' hr2 hm2 hf2)
  clear HA hr2 hm2 hf2 c0 c1 d2
  generalize (dropF p.L s.a).1 = er
  go_wp2_with fail
  refine (num_any _ _).mono ?_
  rintro e w3 ⟨rfl, hw⟩
  obtain rfl := hw.symm
  clear hw
  go_wp2
  go_ret
  exact HFIN.out

set_option maxRecDepth 100000 in
set_option maxHeartbeats 1000000 in
theorem holds_get {w : World} {p : PS} (h : PairRep w p) (s : Stp) (wv : Value) (hk2 : (s.k == 2) = false) (hk3 : (s.k == 3) = false) (hk4 : (s.k == 4) = true) :
    Calls Tryz.prog 54 #[wv, G2 p.px p.py, S10 s] w (RowPost p 0 w) := by
  obtain ⟨hm0, hb1, hb2⟩ := holds_boxes w p.px p.py s
  obtain ⟨F1, F2, h1, h2, h3, h4, h5⟩ := h.kept hm0 (by simp)
  have HP := hideIt (codeGet h1 h5 s.a)
  have HR := hideIt (fun (W : World) (hm : Mod [] ((w.alloc (B52 p.px p.py)).alloc (B40 s)) W) => refGet_any (h2.kept hm (by simp)) h5.len s.a)
  generalize getF p.L s.a = r at HP HR
  obtain ⟨⟨i, x0, y0, x1, y1⟩, er⟩ := r
  have hz0 := hm0.size
  have HB1 := hideIt hb1
  have HB2 := hideIt hb2
  clear hb1 hb2
  go_enter Tryz.func54, Tryz.ntmps54
  go_wp2_with fail
  refine HP.out.mono ?_
  clear HP
  rintro e w1 ⟨rfl, hm1⟩
  have hma : ∀ o, Mod [] ((w.alloc (B52 p.px p.py)).alloc (B40 s)) (w1.alloc o) := fun o => hm1.trans (Mod.alloc _ _)
  have hb1' := fun o => ((hma o).block _ (lt_of_block HB1.out) (by simp)).trans HB1.out
  have hb2' := fun o => ((hma o).block _ (lt_of_block HB2.out) (by simp)).trans HB2.out
  have c1 := fun o => (cell_B52 (hb1' o)).2
  have d2 : ∀ o, (w1.alloc o).cell? ⟨w.heap.size + 1, 2, none⟩ = some (.int .i64 s.a) := fun o => cell_B40 (hb2' o) 2 _ rfl
  have HP := hideIt (HR.out (w1.alloc (B4 x0 y0 x1 y1)) (hma _))
  clear hb1' hb2' h1 h2 HB1 HB2 HR
  go_wp2_with fail
  refine HP.out.mono ?_
  clear HP
  rintro e w2 ⟨rfl, hm2⟩
  have hbr := (hm2.block w1.heap.size (by simp) (by simp)).trans (heap_alloc_new w1 _)
  have hbr' := fun o => ((Mod.alloc (F := []) w2 o).block w1.heap.size (lt_of_block hbr) (by simp)).trans hbr
  have q0 := fun o => (cell_B4 (hbr' o)).1
  have q1 := fun o => (cell_B4 (hbr' o)).2.1
  have q2 := fun o => (cell_B4 (hbr' o)).2.2.1
  have q3 := fun o => (cell_B4 (hbr' o)).2.2.2
  have hN : Next w p p (w2.alloc (B4 x0 y0 x1 y1)) := Next.still h (hm0.trans (((hma _).trans hm2).trans (Mod.alloc _ _)))
  clear hbr hbr' c1 d2 hma hm1 hm2 hm0
  go_wp2_with fail
  refine (num_any _ _).mono ?_
  rintro e w3 ⟨rfl, hw⟩
  obtain rfl := hw.symm
  clear q0 q1 q2 q3
  go_wp2
  go_ret
  exact ⟨rfl, p, hN, by omega⟩

set_option maxRecDepth 100000 in
set_option maxHeartbeats 1000000 in
theorem holds_len {w : World} {p : PS} (h : PairRep w p) (s : Stp) (wv : Value) (hk2 : (s.k == 2) = false) (hk3 : (s.k == 3) = false) (hk4 : (s.k == 4) = false) (hk5 : (s.k == 5) = true) :
    Calls Tryz.prog 54 #[wv, G2 p.px p.py, S10 s] w (RowPost p 0 w) := by
  obtain ⟨hm0, hb1, hb2⟩ := holds_boxes w p.px p.py s
  obtain ⟨F1, F2, h1, h2, h3, h4, h5⟩ := h.kept hm0 (by simp)
  have HP := hideIt (codeLen h1 h5)
  obtain ⟨tv, gl, cl, last, nl, t1, t2, t3, t4, t5, t6, hF⟩ := h2
  have hlen : ∃ a c, tv = .slice a p.L.length c := by
    rcases t3.2 with ⟨rfl, hz⟩ | ⟨g, c, cur, rfl, hrest⟩
    · exact ⟨none, 0, by rw [hz]⟩
    · exact ⟨_, _, rfl⟩
  obtain ⟨ta, tc, rfl⟩ := hlen
  have ct := (cell_T58 t1).2.1
  obtain ⟨c0, c1⟩ := cell_B52 hb1
  clear hF t1 t2 t3 t4 t5 t6 hb1 hb2 h1
  go_enter Tryz.func54, Tryz.ntmps54
  go_wp2_with fail
  refine HP.out.mono ?_
  clear HP
  rintro e w1 ⟨rfl, rfl⟩
  go_wp2
  go_ret
  exact ⟨rfl, p, Next.still h hm0, by omega⟩

/-- how much a step may add to a log -/
def adds (k : Int) : Nat := if k = 4 ∨ k = 5 then 0 else 897

theorem adds_le (k : Int) : adds k ≤ 897 := by unfold adds; split <;> omega

theorem lholds_any {w : World} {p : PS} (h : PairRep w p) (hnl : p.nl ≤ 99999000) (s : Stp) (hs : s.ok) (wv : Value) : Calls Tryz.prog 54 #[wv, G2 p.px p.py, S10 s] w (RowPost p (adds s.k) w) := by
  cases hk2 : (s.k == 2) with
  | true =>
    rw [show adds s.k = 897 by unfold adds; rw [if_neg (by simp at hk2; omega)]]
    exact holds_put h hnl s wv hk2
  | false =>
    cases hk3 : (s.k == 3) with
    | true =>
      rw [show adds s.k = 897 by unfold adds; rw [if_neg (by simp at hk3; omega)]]
      exact holds_drop h hnl s wv hk2 hk3
    | false =>
      cases hk4 : (s.k == 4) with
      | true =>
        rw [show adds s.k = 0 by unfold adds; rw [if_pos (by simp at hk4; omega)]]
        exact holds_get h s wv hk2 hk3 hk4
      | false =>
        cases hk5 : (s.k == 5) with
        | true =>
          rw [show adds s.k = 0 by unfold adds; rw [if_pos (by simp at hk5; omega)]]
          exact holds_len h s wv hk2 hk3 hk4 hk5
        | false =>
          rw [show adds s.k = 897 by unfold adds; rw [if_neg (by simp at hk4 hk5; omega)]]
          exact holds_row h hnl s hs wv hk2 hk3 hk4 hk5

end Go.Proofs.YthimaoipogocfaaGreat

