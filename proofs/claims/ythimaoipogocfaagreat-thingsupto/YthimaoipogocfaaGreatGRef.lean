import Derived.Test.YthimaoipogocfaaGreatGNote
import Derived.Test.YthimaoipogocfaaGreatGLeaf
namespace Go.Proofs.YthimaoipogocfaaGreat
open Go.RowKit Go.Maps
attribute [local go_sem] run_store_f32 run_neg_inf

def thCells (t : Th) : List Value := [.int .i64 t.id, .int .i64 t.x0, .int .i64 t.y0, .int .i64 t.x1, .int .i64 t.y1]
def flat (L : List Th) : List Value := L.flatMap thCells

theorem flat_length (L : List Th) : (flat L).length = L.length * 5 := by
  induction L with
  | nil => rfl
  | cons t L ih => simp only [flat, List.flatMap_cons, List.length_append, List.length_cons] at ih ⊢; rw [ih]; simp [thCells]; omega

theorem flat_append (L M : List Th) : flat (L ++ M) = flat L ++ flat M := by simp [flat]

theorem flat_get (L : List Th) (k : Nat) (t : Th) (h : L[k]? = some t) (j : Nat) (hj : j < 5) : (flat L)[k * 5 + j]? = (thCells t)[j]? := by
  induction L generalizing k with
  | nil => simp at h
  | cons s L ih =>
    have e : flat (s :: L) = thCells s ++ flat L := rfl
    have hl : (thCells s).length = 5 := rfl
    rw [e]
    cases k with
    | zero =>
      simp at h
      subst h
      rw [List.getElem?_append_left (by omega)]
      congr 1
      omega
    | succ k =>
      simp at h
      rw [List.getElem?_append_right (by omega), hl, ← ih k h]
      congr 1
      omega

theorem flat_one (L : List Th) : ∀ u ∈ flat L, u.oneCell' = true := by
  intro u hu
  simp only [flat, List.mem_flatMap] at hu
  obtain ⟨t, _, hu⟩ := hu
  simp [thCells] at hu
  rcases hu with rfl | rfl | rfl | rfl | rfl <;> rfl

theorem thCells_one (t : Th) : ∀ u ∈ thCells t, u.oneCell' = true := by
  intro u hu
  simp [thCells] at hu
  rcases hu with rfl | rfl | rfl | rfl | rfl <;> rfl

/-- cells of the things' row -/
theorem thing_cells {w : World} {g n c : Nat} {L : List Th} (h : w.ownsRow 0 193 5 (.slice (some ⟨g, 0, none⟩) n c) n (flat L)) {k : Nat} {t : Th} (ht : L[k]? = some t) :
    w.cell? ⟨g, k * 5, none⟩ = some (.int .i64 t.id) ∧ w.cell? ⟨g, k * 5 + 1, none⟩ = some (.int .i64 t.x0) ∧ w.cell? ⟨g, k * 5 + 2, none⟩ = some (.int .i64 t.y0) ∧ w.cell? ⟨g, k * 5 + 3, none⟩ = some (.int .i64 t.x1) ∧ w.cell? ⟨g, k * 5 + 4, none⟩ = some (.int .i64 t.y1) := by
  refine ⟨?_, ?_, ?_, ?_, ?_⟩
  · exact owns_cell h _ _ (flat_get L k t ht 0 (by omega))
  · exact owns_cell h _ _ (flat_get L k t ht 1 (by omega))
  · exact owns_cell h _ _ (flat_get L k t ht 2 (by omega))
  · exact owns_cell h _ _ (flat_get L k t ht 3 (by omega))
  · exact owns_cell h _ _ (flat_get L k t ht 4 (by omega))

/-- where the first thing of a number stands -/
def AtIs (L : List Th) (id k : Int) : Prop := (k = -1 ∧ ∀ t ∈ L, t.id ≠ id) ∨ ∃ (n : Nat) (t : Th), k = n ∧ L[n]? = some t ∧ t.id = id ∧ ∀ s ∈ L.take n, s.id ≠ id

def AtPost (L : List Th) (id : Int) (w : World) (e : Ending) (w' : World) : Prop := ∃ k, e = .returned (.int .i64 k) ∧ AtIs L id k ∧ w = w'

theorem at_nil (py : Nat) (id fan last : Int) (lv : Value) (w : World) (ht : w.heap[py]? = some (T58 fan (.slice none 0 0) lv last)) :
    Calls Tryz.prog 121 #[.pointer (some ⟨py, 0, none⟩), .int .i64 id] w (AtPost [] id w) := by
  have h1 := (cell_T58 ht).2.1
  go_enter Tryz.func121, Tryz.ntmps121
  go_wp2
  go_loop [5] (fun i => i = .int .i64 0) (fun _ => 0)
  case atStart => rfl
  case round =>
    subst hrel
    go_wp2
    go_ret
    exact ⟨_, rfl, .inl ⟨rfl, by simp⟩, rfl⟩

set_option maxHeartbeats 400000 in
theorem at_some (py g c : Nat) (id fan last : Int) (lv : Value) (L : List Th) (w : World) (ht : w.heap[py]? = some (T58 fan (.slice (some ⟨g, 0, none⟩) L.length c) lv last))
    (ho : w.ownsRow 0 193 5 (.slice (some ⟨g, 0, none⟩) L.length c) L.length (flat L)) (hL : L.length ≤ 400) :
    Calls Tryz.prog 121 #[.pointer (some ⟨py, 0, none⟩), .int .i64 id] w (AtPost L id w) := by
  have h1 := (cell_T58 ht).2.1
  have HO : Hid (w.ownsRow 0 193 5 (.slice (some ⟨g, 0, none⟩) L.length c) L.length (flat L)) := ho
  clear ho ht
  go_enter Tryz.func121, Tryz.ntmps121
  go_wp2
  go_loop [5] (fun i => ∃ k : Nat, k ≤ L.length ∧ i = .int .i64 k ∧ Hid (∀ s ∈ L.take k, s.id ≠ id)) (fun i => L.length - (intOf i).toNat)
  case atStart => exact ⟨0, Nat.zero_le _, rfl, fun s hs => by simp at hs⟩
  case round =>
    obtain ⟨k, hk, rfl, hno⟩ := hrel
    by_cases hlt : k < L.length
    · have hcs := thing_cells HO.out (List.getElem?_eq_getElem hlt)
      have hc0 := hcs.1
      clear hcs
      by_cases hid : L[k].id = id
      · have hbe : (L[k].id == id) = true := by simp [hid]
        have HI : Hid (L[k].id = id) := hid
        clear hid
        go_wp2
        go_ret
        exact ⟨k, rfl, .inr ⟨k, L[k], rfl, List.getElem?_eq_getElem hlt, HI.out, hno.out⟩, rfl⟩
      · have hbe : (L[k].id == id) = false := by simp [hid]
        go_wp2
        go_round
        case rel =>
          refine ⟨k + 1, by omega, by go_num, fun s hs => ?_⟩
          rw [List.take_succ_eq_append_getElem hlt] at hs
          rcases List.mem_append.1 hs with hs | hs
          · exact hno.out s hs
          · simp at hs
            rw [hs]
            exact hid
        case measure => simp [intOf]; omega
    · go_wp2
      go_ret
      exact ⟨-1, rfl, .inl ⟨rfl, fun t ht => hno.out t (by rwa [List.take_of_length_le (by omega)])⟩, rfl⟩

/-- THE REFERENCE's TREE IN MEMORY: its block, its things' row, its log's row; F: the blocks. -/
def RefRep (w : World) (py : Nat) (fan : Int) (L : List Th) (lg : List Int) (F : List Nat) : Prop :=
  ∃ tv gl cl last nl, w.heap[py]? = some (T58 fan tv (.slice (some ⟨gl, 0, none⟩) nl cl) last) ∧ LastOk last lg ∧ w.ownsRow 0 193 5 tv L.length (flat L) ∧
    w.ownsRow 0 5 1 (.slice (some ⟨gl, 0, none⟩) nl cl) nl (u8s lg) ∧ ByteL lg ∧ (4 ≤ nl ∧ nl = lg.length) ∧ F = py :: gl :: tv.ownBlock.toList

theorem RefRep.kept {w w' : World} {py : Nat} {fan : Int} {L : List Th} {lg : List Int} {F G : List Nat} (h : RefRep w py fan L lg F) (hm : Mod G w w') (hd : ∀ x ∈ F, x ∉ G) : RefRep w' py fan L lg F := by
  obtain ⟨tv, gl, cl, last, nl, h1, h2, h3, h4, h5, h6, rfl⟩ := h
  refine ⟨tv, gl, cl, last, nl, (hm.block py (lt_of_block h1) (hd _ (by simp))).trans h1, h2, owns_kept h3 hm (fun k hk => hd k (by simp [hk])), owns_kept h4 hm (fun k hk => hd k ?_), h5, h6, rfl⟩
  have : k = gl := by simpa [Value.ownBlock] using hk.symm
  simp [this]

theorem RefRep.lt {w : World} {py : Nat} {fan : Int} {L : List Th} {lg : List Int} {F : List Nat} (h : RefRep w py fan L lg F) : ∀ x ∈ F, x < w.heap.size := by
  obtain ⟨tv, gl, cl, last, nl, h1, h2, h3, h4, h5, h6, rfl⟩ := h
  intro x hx
  simp only [List.mem_cons, Option.mem_toList] at hx
  rcases hx with rfl | rfl | hx
  · exact lt_of_block h1
  · exact owns_lt h4 rfl
  · exact owns_lt h3 hx

theorem at_any {w : World} {py : Nat} {fan : Int} {L : List Th} {lg : List Int} {F : List Nat} (h : RefRep w py fan L lg F) (hL : L.length ≤ 400) (id : Int) :
    Calls Tryz.prog 121 #[.pointer (some ⟨py, 0, none⟩), .int .i64 id] w (AtPost L id w) := by
  obtain ⟨tv, gl, cl, last, nl, h1, h2, h3, h4, h5, h6, rfl⟩ := h
  have h3' := h3
  rcases h3.2 with ⟨rfl, h0⟩ | ⟨g, c, cur, rfl, _⟩
  · obtain rfl : L = [] := List.eq_nil_of_length_eq_zero h0
    exact at_nil py id fan last _ w h1
  · exact at_some py g c id fan last _ L w h1 h3' hL

end Go.Proofs.YthimaoipogocfaaGreat
