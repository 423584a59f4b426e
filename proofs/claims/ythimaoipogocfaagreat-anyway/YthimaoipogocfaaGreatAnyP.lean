import Derived.Test.YthimaoipogocfaaGreatJ20
namespace Go.Proofs.YthimaoipogocfaaGreat
open Go.RowKit Go.Maps

/-! ### the last of each number, the last ones first -/
def lastT : List Kt → List Th
  | [] => []
  | k :: ks => if (lastT ks).any (fun t => t.id == k.id) then lastT ks else lastT ks ++ [k.th 0 0]
theorem any_id {L : List Th} {id : Int} : L.any (fun t => t.id == id) = true ↔ id ∈ L.map (·.id) := by
  rw [List.any_eq_true, List.mem_map]
  constructor
  · rintro ⟨t, h1, h2⟩
    exact ⟨t, h1, by simpa using h2⟩
  · rintro ⟨t, h1, h2⟩
    exact ⟨t, h1, by simpa using h2⟩
theorem lastT_ids (ks : List Kt) (id : Int) : id ∈ (lastT ks).map (·.id) ↔ id ∈ ks.map Kt.id := by
  induction ks with
  | nil => simp [lastT]
  | cons k ks ih =>
    unfold lastT
    split
    · rename_i h
      have h := any_id.1 h
      rw [ih, List.map_cons, List.mem_cons]
      constructor
      · exact .inr
      · rintro (rfl | h')
        · exact (ih.trans Iff.rfl).1 (by rw [any_id] at *; assumption)
        · exact h'
    · have e : (lastT ks ++ [k.th 0 0]).map (·.id) = (lastT ks).map (·.id) ++ [k.id] := by rw [List.map_append]; rfl
      rw [e, List.mem_append, ih, List.mem_singleton, List.map_cons, List.mem_cons]
      constructor
      · rintro (h | h)
        · exact .inr h
        · exact .inl h
      · rintro (h | h)
        · exact .inr h
        · exact .inl h
theorem lastT_length (ks : List Kt) : (lastT ks).length ≤ ks.length := by
  induction ks with
  | nil => simp [lastT]
  | cons k ks ih =>
    unfold lastT
    split
    · simp; omega
    · simp; omega

theorem fold_last (ks : List Kt) : ∀ L : List Th, (ks.foldl (fun L k => putT L (k.th 0 0)) L).Perm (L.filter (fun t => !(ks.any (fun k => k.id == t.id))) ++ lastT ks) := by
  induction ks with
  | nil =>
    intro L
    have : L.filter (fun t => !(([] : List Kt).any (fun k => k.id == t.id))) = L := List.filter_eq_self.2 (fun _ _ => rfl)
    rw [this, lastT, List.append_nil]
    exact List.Perm.refl _
  | cons k ks ih =>
    intro L
    rw [List.foldl_cons]
    refine (ih _).trans ?_
    have e1 : (dropT L k.id).filter (fun t => !(ks.any (fun k => k.id == t.id))) = L.filter (fun t => !((k :: ks).any (fun k => k.id == t.id))) := by
      unfold dropT
      rw [List.filter_filter]
      refine List.filter_congr (fun t _ => ?_)
      rw [List.any_cons, Bool.not_or]
      have : (t.id != k.id) = !(k.id == t.id) := by
        rw [Bool.eq_iff_iff]
        simp only [bne_iff_ne, ne_eq, Bool.not_eq_true', beq_eq_false_iff_ne]
        exact ⟨fun h e => h e.symm, fun h e => h e.symm⟩
      rw [this, Bool.and_comm]
    unfold putT
    rw [List.filter_append, show (k.th 0 0).id = k.id from rfl, e1, List.append_assoc]
    refine List.Perm.append_left _ ?_
    have hany : ks.any (fun j => j.id == k.id) = (lastT ks).any (fun t => t.id == k.id) := by
      rw [Bool.eq_iff_iff, any_id, lastT_ids, List.any_eq_true, List.mem_map]
      simp only [beq_iff_eq]
    rw [show lastT (k :: ks) = if (lastT ks).any (fun t => t.id == k.id) then lastT ks else lastT ks ++ [k.th 0 0] from rfl]
    cases hb : (lastT ks).any (fun t => t.id == k.id) with
    | true =>
      rw [hb] at hany
      rw [if_pos rfl, List.filter_cons_of_neg (by rw [show (k.th 0 0).id = k.id from rfl, hany]; simp)]
      simp
    | false =>
      rw [hb] at hany
      rw [if_neg (by simp), List.filter_cons_of_pos (by rw [show (k.th 0 0).id = k.id from rfl, hany]; simp)]
      exact List.perm_append_comm

def midT : Th := ⟨4000, 0, 0, 0, 0⟩
theorem Kt.id_lt (k : Kt) : k.id < 300 := by
  have := pickF_lt k.i 300 (by omega)
  unfold Kt.id
  omega
theorem putT_new {L : List Th} {t : Th} (h : t.id ∉ L.map (·.id)) : putT L t = L ++ [t] := by
  unfold putT dropT
  rw [List.filter_eq_self.2 (fun s hs => ?_)]
  simp only [bne_iff_ne, ne_eq]
  exact fun e => h (List.mem_map.2 ⟨s, hs, e⟩)
theorem plantT_nil : plantT [] 0 0 = [midT] := rfl
/-- both trees hold the same -/
theorem plantT_last (ks : List Kt) : (plantT ks 0 0).Perm (midT :: lastT (ks.take 300)) := by
  have h := fold_last (ks.take 300) []
  simp only [List.filter_nil, List.nil_append] at h
  have hn : (4000 : Int) ∉ (plantL (ks.take 300) 0 0).map (·.id) := fun hm => by
    have h1 := (h.map (·.id)).mem_iff.1 hm
    rw [lastT_ids] at h1
    obtain ⟨k, _, hk⟩ := List.mem_map.1 h1
    have := k.id_lt
    omega
  unfold plantT
  rw [putT_new (t := ⟨4000, 0, 0, 0, 0⟩) hn]
  exact List.perm_append_comm.trans (List.Perm.cons _ h)

theorem foundT_perm {p : Th → Bool} {L M : List Th} (h : L.Perm M) : foundT p L = foundT p M := by
  unfold foundT
  exact sortI_congr ((h.filter p).map _)

end Go.Proofs.YthimaoipogocfaaGreat
