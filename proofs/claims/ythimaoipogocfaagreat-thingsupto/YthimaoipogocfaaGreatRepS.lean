import Derived.Test.YthimaoipogocfaaGreatRepP
import Derived.Test.YthimaoipogocfaaGreatJ17
namespace Go.Proofs.YthimaoipogocfaaGreat
open Go.RowKit

/-! ### what Replay does, by the records -/
def okT (L : List Th) (t : Th) : Prop := (0 ≤ t.id ∧ t.id ≤ 4095) ∧ RectOk t.x0 t.y0 t.x1 t.y1 ∧ (hasT L t.id = true ∨ L.length < 400)
def Rc.th (r : Rc) : Th := ⟨r.id, r.x0, r.y0, r.x1, r.y1⟩

/-- one record is done -/
inductive Done : St → Rc → St → Prop
  | put (s : St) (r : Rc) (hk : (r.kind = 77 ∧ hasT s.L r.id = true) ∨ (r.kind = 80 ∧ hasT s.L r.id = false)) (ho : okT s.L r.th) : Done s r (stPut s r.th)
  | drop (s : St) (r : Rc) (hk : r.kind = 68) (hh : hasT s.L r.id = true) : Done s r (stDrop s r.id)

inductive Steps (l : List Int) : St → St → Prop
  | refl (s : St) : Steps l s s
  | step {s s' s'' : St} {r : Rc} (hr : readF l s.lg.length = some r) (hd : Done s r s') (hs : Steps l s' s'') : Steps l s s''
def Stuck (l : List Int) (s : St) : Prop := ∀ r, readF l s.lg.length = some r → ∀ s', ¬ Done s r s'

theorem Done.det {s s1 s2 : St} {r : Rc} (h : Done s r s1) (k : Done s r s2) : s1 = s2 := by
  cases h with
  | put hk ho =>
    cases k with
    | put _ _ => rfl
    | drop hk2 _ => omega
  | drop hk hh =>
    cases k with
    | put hk2 _ => omega
    | drop _ _ => rfl

theorem Steps.trans {l : List Int} {a b c : St} (h : Steps l a b) (k : Steps l b c) : Steps l a c := by
  induction h with
  | refl _ => exact k
  | step hr hd _ ih => exact .step hr hd (ih k)

theorem Steps.det {l : List Int} {s a b : St} (h : Steps l s a) (ha : Stuck l a) (k : Steps l s b) (hb : Stuck l b) : a = b := by
  induction h with
  | refl s =>
    cases k with
    | refl _ => rfl
    | step hr hd _ => exact absurd hd (ha _ hr _)
  | step hr hd _ ih =>
    cases k with
    | refl _ => exact absurd hd (hb _ hr _)
    | step hr2 hd2 k2 =>
      rw [hr] at hr2
      cases hr2
      obtain rfl := hd.det hd2
      exact ih ha k2

/-- a record that is done is written just so -/
theorem Done.log {s s' : St} {r : Rc} (h : Done s r s') (hr : RcOk r) : s'.lg = s.lg ++ r.bytes s.lg := by
  cases h with
  | put hk ho =>
    show putLT s.L s.lg r.th = _
    unfold putLT
    have e : rcPut (hasT s.L r.th.id) r.th.id r.th.x0 r.th.y0 r.th.x1 r.th.y1 = r := by
      have hf : r.fan = 0 := by
        rcases hr.kind with ⟨e, _⟩ | ⟨e, _⟩ | ⟨_, e⟩
        · omega
        · omega
        · exact e
      obtain ⟨kind, fan, id, x0, y0, x1, y1⟩ := r
      simp only at hf
      subst hf
      simp only at hk
      show rcPut (hasT s.L id) id x0 y0 x1 y1 = _
      rcases hk with ⟨rfl, e⟩ | ⟨rfl, e⟩ <;> rw [e] <;> rfl
    rw [e]
  | drop hk hh =>
    show dropLT s.L s.lg r.id = _
    unfold dropLT
    rw [if_pos hh]
    have e : rcDrop r.id = r := by
      rcases hr.kind with ⟨e, _⟩ | ⟨e, e1, e2, e3, e4, e5⟩ | ⟨e, _⟩
      · omega
      · obtain ⟨kind, fan, id, x0, y0, x1, y1⟩ := r
        simp only at e e1 e2 e3 e4 e5
        subst e e1 e2 e3 e4 e5
        rfl
      · omega
    rw [e]

/-- the state of a tree: few things, numbers once -/
structure StOk (s : St) : Prop where
  len : s.L.length ≤ 400
  ids : (s.L.map (·.id)).Nodup

theorem hasT_iff {L : List Th} {id : Int} : hasT L id = true ↔ ∃ t ∈ L, t.id = id := by simp [hasT]
theorem dropT_len {L : List Th} (hn : (L.map (·.id)).Nodup) {id : Int} (h : hasT L id = true) : (dropT L id).length + 1 = L.length := by
  induction L with
  | nil => simp [hasT] at h
  | cons a L ih =>
    rw [List.map_cons, List.nodup_cons] at hn
    by_cases e : a.id = id
    · have h2 : dropT (a :: L) id = L := by
        unfold dropT
        rw [List.filter_cons_of_neg (by simp [e])]
        refine List.filter_eq_self.2 (fun t ht => ?_)
        simp only [bne_iff_ne, ne_eq]
        exact fun e2 => hn.1 (List.mem_map.2 ⟨t, ht, by rw [e2, e]⟩)
      rw [h2]
      rfl
    · have h2 : dropT (a :: L) id = a :: dropT L id := by
        unfold dropT
        rw [List.filter_cons_of_pos (by simp [e])]
      have h3 : hasT L id = true := by
        obtain ⟨t, ht, e2⟩ := hasT_iff.1 h
        rcases List.mem_cons.1 ht with rfl | ht
        · exact absurd e2 e
        · exact hasT_iff.2 ⟨t, ht, e2⟩
      rw [h2, List.length_cons, ih hn.2 h3, List.length_cons]
theorem dropT_ids {L : List Th} (hn : (L.map (·.id)).Nodup) (id : Int) : ((dropT L id).map (·.id)).Nodup := hn.sublist (List.filter_sublist.map _)
theorem putT_ids {L : List Th} (hn : (L.map (·.id)).Nodup) (t : Th) : ((putT L t).map (·.id)).Nodup := by
  unfold putT
  rw [List.map_append]
  refine List.nodup_append.2 ⟨dropT_ids hn t.id, by simp, fun a ha b hb e => ?_⟩
  obtain ⟨s, hs, rfl⟩ := List.mem_map.1 ha
  simp only [List.map_cons, List.map_nil, List.mem_singleton] at hb
  have := (List.mem_filter.1 hs).2
  rw [e, hb] at this
  simp at this
theorem dropT_le (L : List Th) (id : Int) : (dropT L id).length ≤ L.length := List.length_filter_le _ _

theorem StOk.put {s : St} (h : StOk s) {t : Th} (ho : okT s.L t) : StOk (stPut s t) := by
  refine ⟨?_, putT_ids h.ids t⟩
  have hl : (stPut s t).L.length = (dropT s.L t.id).length + 1 := by simp [stPut, putT]
  rw [hl]
  rcases ho.2.2 with e | e
  · rw [dropT_len h.ids e]
    exact h.len
  · have := dropT_le s.L t.id
    omega
theorem StOk.drop {s : St} (h : StOk s) (id : Int) : StOk (stDrop s id) := ⟨Nat.le_trans (dropT_le _ _) h.len, dropT_ids h.ids id⟩
theorem StOk.done {s s' : St} {r : Rc} (h : StOk s) (hd : Done s r s') : StOk s' := by
  cases hd with
  | put _ ho => exact h.put ho
  | drop _ _ => exact h.drop _

/-- what was done stands at the log's beginning -/
theorem Done.pre {l : List Int} (hB : ByteL l) {s s' : St} {r : Rc} (hp : s.lg = l.take s.lg.length) (hr : readF l s.lg.length = some r) (hd : Done s r s') : s'.lg = l.take s'.lg.length ∧ s.lg.length < s'.lg.length ∧ s'.lg.length ≤ l.length := by
  obtain ⟨h1, h2, h3⟩ := readF_bytes hB hr
  have e := hd.log h1
  rw [← hp] at h2 h3
  have hlen : s'.lg.length = s.lg.length + (r.bytes s.lg).length := by rw [e, List.length_append]
  have hpos : 0 < (r.bytes s.lg).length := by
    unfold Rc.bytes
    rw [recF_length]
    omega
  rw [hlen]
  exact ⟨by rw [h2, ← e], by omega, h3⟩

end Go.Proofs.YthimaoipogocfaaGreat
