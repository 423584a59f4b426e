import Derived.Test.YtideopmkmobicaaRefDrop
namespace Go.Proofs.Ytideopmkmobicaa
open Go.RowKit

/-- what a Get tells: the rectangle, the error -/
def getF (L : List Th) (id : Int) : Th × Int :=
  match findT L id with
  | none => (⟨0, 0, 0, 0, 0⟩, 3)
  | some n => (L.getD n ⟨0, 0, 0, 0, 0⟩, 0)

def GetPost (r : Th × Int) (w : World) (e : Ending) (w' : World) : Prop := e = .returned (.tuple #[R4 r.1.x0 r.1.y0 r.1.x1 r.1.y1, .int .i64 r.2]) ∧ Mod [] w w'

set_option maxRecDepth 100000 in
set_option maxHeartbeats 400000 in
theorem refGet_none {w : World} {py : Nat} {fan : Int} {L : List Th} {nl : Nat} {F : List Nat} (h : RefRep w py fan L nl F) (hL : L.length ≤ 400) (id : Int) (hf : findT L id = none) :
    Calls Try.prog 29 #[.pointer (some ⟨py, 0, none⟩), .int .i64 id] w (GetPost (getF L id) w) := by
  have e : getF L id = (⟨0, 0, 0, 0, 0⟩, 3) := by simp [getF, hf]
  rw [e]
  have HF : Hid (findT L id = none) := hf
  clear e hf
  have hat := at_any (h.kept (Mod.alloc (F := []) w (B4 0 0 0 0)) (by simp)) hL id
  go_enter Try.func29, Try.ntmps29
  go_wp2_with fail
  refine hat.mono ?_
  clear hat
  rintro e w' ⟨k, rfl, hat, rfl⟩
  have hk : k = -1 := by
    rcases hat.find with ⟨h, _⟩ | ⟨n, _, hn, _⟩
    · exact h
    · rw [HF.out] at hn; cases hn
  subst hk
  clear hat
  go_wp2
  exact bodyPost_ret (v := .tuple #[R4 0 0 0 0, .int .i64 3]) (by simp [results, Try.results29, go_sem]) rfl ⟨rfl, Mod.alloc _ _⟩

set_option maxRecDepth 100000 in
set_option maxHeartbeats 400000 in
theorem refGet_some {w : World} {py : Nat} {fan : Int} {L : List Th} {nl : Nat} {F : List Nat} (h : RefRep w py fan L nl F) (hL : L.length ≤ 400) (id : Int) (n : Nat) (hf : findT L id = some n) :
    Calls Try.prog 29 #[.pointer (some ⟨py, 0, none⟩), .int .i64 id] w (GetPost (getF L id) w) := by
  obtain ⟨s, hs, hsid⟩ := find_get hf
  have hnlt : n < L.length := (List.getElem?_eq_some_iff.1 hs).1
  have e : getF L id = (s, 0) := by simp [getF, hf, hs]
  rw [e]
  have HF : Hid (findT L id = some n) := hf
  have h' := h.kept (Mod.alloc (F := []) w (B4 0 0 0 0)) (by simp)
  have hat := at_any h' hL id
  obtain ⟨tv, gl, cl, last, ls, ht1, h2, h3, h4, h5, h6, hF⟩ := h'
  have hlen : ∃ g c, tv = .slice (some ⟨g, 0, none⟩) L.length c := by
    rcases h3.2 with ⟨rfl, hz⟩ | ⟨g, c, cur, rfl, hrest⟩
    · omega
    · exact ⟨_, _, rfl⟩
  obtain ⟨g, c, rfl⟩ := hlen
  have hc1 := (cell_T58 ht1).2.1
  obtain ⟨d0, d1, d2, d3, d4⟩ := thing_cells h3 hs
  clear e hf hF h hs hsid h4 h5 h3 ht1
  go_enter Try.func29, Try.ntmps29
  go_wp2_with fail
  refine hat.mono ?_
  clear hat
  rintro e w' ⟨k, rfl, hat, rfl⟩
  have hk : k = n := by
    rcases hat.find with ⟨_, h⟩ | ⟨m, hm, hn, _⟩
    · rw [HF.out] at h; cases h
    · rw [HF.out] at hn; cases hn; exact hm
  subst hk
  clear hat
  go_wp2
  exact bodyPost_ret (v := .tuple #[R4 s.x0 s.y0 s.x1 s.y1, .int .i64 0]) (by simp [results, Try.results29, go_sem]) rfl ⟨rfl, Mod.alloc _ _⟩

theorem refGet_any {w : World} {py : Nat} {fan : Int} {L : List Th} {nl : Nat} {F : List Nat} (h : RefRep w py fan L nl F) (hL : L.length ≤ 400) (id : Int) :
    Calls Try.prog 29 #[.pointer (some ⟨py, 0, none⟩), .int .i64 id] w (GetPost (getF L id) w) := by
  cases hf : findT L id with
  | none => exact refGet_none h hL id hf
  | some n => exact refGet_some h hL id n hf

def RefNewPost (fan : Int) (w : World) (e : Ending) (w' : World) : Prop :=
  e = .returned (.tuple #[.pointer (some ⟨w.heap.size, 0, none⟩), .int .i64 0]) ∧ ∃ F, RefRep w' w.heap.size fan [] 6 F ∧ Mod [] w w' ∧ ∀ x ∈ F, w.heap.size ≤ x

theorem refNew_bad (fan : Int) (w : World) (hf : fanB fan = false) : Calls Try.prog 8 #[.int .i64 fan] w fun e w' => e = .returned (.tuple #[.pointer none, .int .i64 1]) ∧ w = w' := by
  have hn : ¬ (4 ≤ fan ∧ fan ≤ 16) := fun hh => by rw [fanB_iff.2 hh] at hf; cases hf
  by_cases h0 : fan < 4
  · go_enter Try.func8, Try.ntmps8
    go_wp2
    go_ret2
    exact ⟨rfl, rfl⟩
  · have h1 : 16 < fan := by omega
    go_enter Try.func8, Try.ntmps8
    go_wp2
    go_ret2
    exact ⟨rfl, rfl⟩

set_option maxRecDepth 100000 in
set_option maxHeartbeats 400000 in
theorem refNew_good (fan : Int) (w : World) (hf : fanB fan = true) : Calls Try.prog 8 #[.int .i64 fan] w (RefNewPost fan w) := by
  obtain ⟨h0, h1⟩ := fanB_iff.1 hf
  have hm0 : Mod [] w ((w.alloc (T58 fan (.slice none 0 0) (.slice none 0 0) 0)).alloc (.cells #[.int .u8 fan] 5)) := (Mod.alloc _ _).trans (Mod.alloc _ _)
  have ht0 : ((w.alloc (T58 fan (.slice none 0 0) (.slice none 0 0) 0)).alloc (.cells #[.int .u8 fan] 5)).heap[w.heap.size]? = some (T58 fan (.slice none 0 0) (.slice none 0 0) 0) := by
    rw [Below.heap_alloc _ _ _ (by simp)]
    exact heap_alloc_new w _
  have hs0 : srcRow ((w.alloc (T58 fan (.slice none 0 0) (.slice none 0 0) 0)).alloc (.cells #[.int .u8 fan] 5)) 1 (.slice (some ⟨w.heap.size + 1, 0, none⟩) 1 1) 1 [.int .u8 fan] := by
    have := srcRow_of_owns (owns_alloc (w := w.alloc (T58 fan (.slice none 0 0) (.slice none 0 0) 0)) (cur := #[.int .u8 fan]) (e := 5) (n := 1) (size := 1) rfl (by decide) (base := 0) (Nat.zero_le _)) (fun u h => by
      simp at h
      rw [h]
      rfl)
    simpa using this
  have hnote := note_first w.heap.size fan 0 72 (.slice none 0 0) _ 1 _ _ ht0 ⟨by decide, by decide⟩ (by decide) hs0 (fun u h => by simp at h; exact ⟨_, h⟩)
  clear ht0 hs0
  have HN := hideIt hnote
  clear hnote
  go_enter Try.func8, Try.ntmps8
  go_wp2_with fail
  refine HN.out.mono ?_
  clear HN
  rintro e w1 ⟨rfl, g, c, last', ls', ht1, hl1, ho1, hu1, hm1⟩
  have hz := hm0.size
  have hgn := (ho1.lt g rfl).1
  have hfin : RefNewPost fan w (.returned (.tuple #[.pointer (some ⟨w.heap.size, 0, none⟩), .int .i64 0])) w1 := by
    refine ⟨rfl, [w.heap.size, g], ⟨.slice none 0 0, g, c, last', ls', ht1, hl1, World.ownsRow_nil _ _ _ _, owns_base ho1 (Nat.zero_le _), hu1, by omega, rfl⟩, hm0.then hm1 (by simp), ?_⟩
    intro x hx
    simp at hx
    rcases hx with rfl | rfl
    · exact Nat.le_refl _
    · omega
  have HFIN := hideIt hfin
  clear hfin ht1 ho1 hm1
  go_wp2
  go_ret2
  exact HFIN.out

end Go.Proofs.Ytideopmkmobicaa
