import Derived.Test.YthimaoipogocfaaGreatGRbody
import Derived.Test.YthimaoipogocfaaGreatM10
namespace Go.Proofs.YthimaoipogocfaaGreat
open Go.RowKit Go.Maps
attribute [local go_sem] run_store_f32 run_neg_inf

/-! ### what a record does to the reference -/
theorem put_done {s : St} {L : List Th} (m : Match s L) (ok : StOk s) {r : Rc} (hk : (r.kind = 77 ∧ hasT s.L r.id = true) ∨ (r.kind = 80 ∧ hasT s.L r.id = false)) :
    ((putF L r.th).1 = 0 ∧ Done s r (stPut s r.th) ∧ Match (stPut s r.th) (putF L r.th).2 ∧ putFL L s.lg r.th = (stPut s r.th).lg) ∨ ((putF L r.th).1 ≠ 0 ∧ (putF L r.th).2 = L ∧ putFL L s.lg r.th = s.lg ∧ ∀ s'', ¬ Done s r s'') := by
  have hnd : (L.map (·.id)).Nodup := (m.perm.map _).nodup_iff.2 ok.ids
  have hh := hasT_perm m.perm r.th.id
  have hlen := m.perm.length_eq
  have hcode := putF_code L r.th
  by_cases hc : (putF L r.th).1 = 0
  · have ho : okT s.L r.th := by
      rw [hc] at hcode
      unfold okT
      rw [← hh, ← hlen]
      split at hcode
      · cases hcode
      · rename_i h1
        split at hcode
        · cases hcode
        · rename_i h2
          split at hcode
          · cases hcode
          · rename_i h3
            refine ⟨idB_iff.1 (by simpa using h1), rectB_ok (by simpa using h2), ?_⟩
            cases hx : hasT L r.th.id with
            | true => exact .inl rfl
            | false => exact .inr (by rw [hx] at h3; simp at h3; omega)
    have hp : (putF L r.th).2.Perm (putT s.L r.th) := (putF_perm hnd hc).trans (putT_perm m.perm r.th)
    refine .inl ⟨hc, .put s r hk ho, ⟨hp, by rw [hp.length_eq]; exact (ok.put ho).len⟩, ?_⟩
    unfold putFL
    rw [if_pos hc]
    show putLT L s.lg r.th = putLT s.L s.lg r.th
    unfold putLT
    rw [hh]
  · refine .inr ⟨hc, putF_bad hc, by unfold putFL; rw [if_neg hc], fun s'' hd => ?_⟩
    cases hd with
    | put hk2 ho =>
      obtain ⟨h1, h2, h3⟩ := ho
      rw [← hh, ← hlen] at h3
      refine hc (hcode.trans ?_)
      rw [if_neg (by rw [idB_iff.2 h1]; simp), if_neg (by rw [rectOk_B h2]; simp), if_neg]
      rintro ⟨h4, h5⟩
      rcases h3 with h3 | h3
      · rw [h3] at h4; cases h4
      · omega
    | drop hk2 _ => omega

theorem drop_done {s : St} {L : List Th} (m : Match s L) (ok : StOk s) {r : Rc} (hk : r.kind = 68) :
    ((dropF L r.id).1 = 0 ∧ Done s r (stDrop s r.id) ∧ Match (stDrop s r.id) (dropF L r.id).2 ∧ dropLT L s.lg r.id = (stDrop s r.id).lg) ∨ ((dropF L r.id).1 ≠ 0 ∧ (dropF L r.id).2 = L ∧ dropLT L s.lg r.id = s.lg ∧ ∀ s'', ¬ Done s r s'') := by
  have hnd : (L.map (·.id)).Nodup := (m.perm.map _).nodup_iff.2 ok.ids
  have hh := hasT_perm m.perm r.id
  cases hf : findT L r.id with
  | none =>
    have e1 : dropF L r.id = (3, L) := by simp [dropF, hf]
    have h1 := findT_none hf
    rw [e1]
    refine .inr ⟨by simp, rfl, by unfold dropLT; rw [h1]; simp, fun s'' hd => ?_⟩
    cases hd with
    | put hk2 _ => omega
    | drop _ h2 => rw [← hh, h1] at h2; cases h2
  | some n =>
    have e1 : dropF L r.id = (0, L.eraseIdx n) := by simp [dropF, hf]
    have h1 := findT_some hf
    rw [e1]
    refine .inl ⟨rfl, .drop s r hk (by rw [← hh]; exact h1), ⟨?_, ?_⟩, ?_⟩
    · show (L.eraseIdx n).Perm (dropT s.L r.id)
      rw [erase_drop hnd hf]
      exact dropT_perm m.perm r.id
    · have := List.length_eraseIdx_le L n
      have := m.len
      show (L.eraseIdx n).length ≤ 400
      omega
    · show dropLT L s.lg r.id = dropLT s.L s.lg r.id
      unfold dropLT
      rw [hh]

def DonePost (py : Nat) (fan : Int) (s : St) (r : Rc) (F : List Nat) (w : World) (e : Ending) (w' : World) : Prop :=
  ∃ b s' L' F', e = .returned (.bool b) ∧ RefRep w' py fan L' s'.lg F' ∧ Match s' L' ∧ ((b = true ∧ Done s r s') ∨ (b = false ∧ s' = s ∧ ∀ s'', ¬ Done s r s'')) ∧ (∀ x ∈ F', x ∈ F ∨ w.heap.size ≤ x) ∧ Mod F w w'

theorem donePut {py : Nat} {fan : Int} {s : St} {L : List Th} {r : Rc} {F : List Nat} {w w1 w' : World} {c : Int} (hw : Mod [] w w1) (m : Match s L) (ok : StOk s) (hk : (r.kind = 77 ∧ hasT s.L r.id = true) ∨ (r.kind = 80 ∧ hasT s.L r.id = false)) (h : RefPutPost py fan (putF L r.th) (putFL L s.lg r.th) F w1 (.returned (.int .i64 c)) w') :
    c = (putF L r.th).1 ∧ DonePost py fan s r F w (.returned (.bool (c == 0))) w' := by
  obtain ⟨e, F', k1, k2, k3⟩ := h
  cases e
  have hz := hw.size
  refine ⟨rfl, ?_⟩
  rcases put_done m ok hk with ⟨d1, d2, d3, d4⟩ | ⟨d1, d2, d3, d4⟩
  · rw [d4] at k1
    exact ⟨_, stPut s r.th, _, F', rfl, k1, d3, .inl ⟨by rw [d1]; rfl, d2⟩, fun x hx => (k3 x hx).imp id (fun h => by omega), hw.nil.trans k2⟩
  · rw [d2, d3] at k1
    exact ⟨_, s, L, F', rfl, k1, m, .inr ⟨by simpa using d1, rfl, d4⟩, fun x hx => (k3 x hx).imp id (fun h => by omega), hw.nil.trans k2⟩
theorem doneDrop {py : Nat} {fan : Int} {s : St} {L : List Th} {r : Rc} {F : List Nat} {w w1 w' : World} {c : Int} (hw : Mod [] w w1) (m : Match s L) (ok : StOk s) (hk : r.kind = 68) (h : RefPutPost py fan (dropF L r.id) (dropLT L s.lg r.id) F w1 (.returned (.int .i64 c)) w') :
    c = (dropF L r.id).1 ∧ DonePost py fan s r F w (.returned (.bool (c == 0))) w' := by
  obtain ⟨e, F', k1, k2, k3⟩ := h
  cases e
  have hz := hw.size
  refine ⟨rfl, ?_⟩
  rcases drop_done m ok hk with ⟨d1, d2, d3, d4⟩ | ⟨d1, d2, d3, d4⟩
  · rw [d4] at k1
    exact ⟨_, stDrop s r.id, _, F', rfl, k1, d3, .inl ⟨by rw [d1]; rfl, d2⟩, fun x hx => (k3 x hx).imp id (fun h => by omega), hw.nil.trans k2⟩
  · rw [d2, d3] at k1
    exact ⟨_, s, L, F', rfl, k1, m, .inr ⟨by simpa using d1, rfl, d4⟩, fun x hx => (k3 x hx).imp id (fun h => by omega), hw.nil.trans k2⟩
theorem doneNo {py : Nat} {fan : Int} {s : St} {L : List Th} {r : Rc} {F : List Nat} {w w' : World} (hw : Mod [] w w') (h : RefRep w py fan L s.lg F) (m : Match s L) (hn : ∀ s'', ¬ Done s r s'') : DonePost py fan s r F w (.returned (.bool false)) w' :=
  ⟨false, s, L, F, rfl, h.kept hw (by simp), m, .inr ⟨rfl, rfl, hn⟩, fun _ hx => .inl hx, hw.nil⟩

/-- the number that two bytes tell -/
theorem valB_two {a b : Int} : valB [a, b] = a + 256 * b := by
  simp [valB]
theorem two_bytes {body : List Int} (h : 2 ≤ body.length) : ∃ a b, body[0]? = some a ∧ body[1]? = some b ∧ body.take 2 = [a, b] := by
  match body, h with
  | a :: b :: t, _ => exact ⟨a, b, rfl, rfl, rfl⟩
theorem four_bytes {body : List Int} {i : Nat} (h : i + 4 ≤ body.length) : ∃ a b c d, body[i]? = some a ∧ body[i + 1]? = some b ∧ body[i + 2]? = some c ∧ body[i + 3]? = some d ∧ (body.drop i).take 4 = [a, b, c, d] := by
  have hl : 4 ≤ (body.drop i).length := by rw [List.length_drop]; omega
  have hg : ∀ j, (body.drop i)[j]? = body[i + j]? := fun j => List.getElem?_drop
  match hd : body.drop i, hl with
  | a :: b :: c :: d :: t, _ =>
    refine ⟨a, b, c, d, ?_, ?_, ?_, ?_, rfl⟩
    · have := hg 0; rw [hd] at this; exact this.symm
    · have := hg 1; rw [hd] at this; exact this.symm
    · have := hg 2; rw [hd] at this; exact this.symm
    · have := hg 3; rw [hd] at this; exact this.symm

end Go.Proofs.YthimaoipogocfaaGreat
