import Derived.Test.YthimaoipogocfaaGreatGDrop
namespace Go.Proofs.YthimaoipogocfaaGreat
open Go.RowKit Go.Maps
attribute [local go_sem] run_store_f32 run_neg_inf

/-- what a Get tells: the rectangle, the error -/
def getF (L : List Th) (id : Int) : Th × Int :=
  match findT L id with
  | none => (⟨0, 0, 0, 0, 0⟩, 3)
  | some n => (L.getD n ⟨0, 0, 0, 0, 0⟩, 0)

def GetPost (r : Th × Int) (w : World) (e : Ending) (w' : World) : Prop := e = .returned (.tuple #[R4 r.1.x0 r.1.y0 r.1.x1 r.1.y1, .int .i64 r.2]) ∧ Mod [] w w'

set_option maxRecDepth 100000 in
set_option maxHeartbeats 400000 in
theorem refGet_none {w : World} {py : Nat} {fan : Int} {L : List Th} {lg : List Int} {F : List Nat} (h : RefRep w py fan L lg F) (hL : L.length ≤ 400) (id : Int) (hf : findT L id = none) :
    Calls Tryz.prog 87 #[.pointer (some ⟨py, 0, none⟩), .int .i64 id] w (GetPost (getF L id) w) := by
  have e : getF L id = (⟨0, 0, 0, 0, 0⟩, 3) := by simp [getF, hf]
  rw [e]
  have HF : Hid (findT L id = none) := hf
  clear e hf
  have hat := at_any (h.kept (Mod.alloc (F := []) w (B4 0 0 0 0)) (by simp)) hL id
  go_enter Tryz.func87, Tryz.ntmps87
  go_wp2_with fail
  refine hat.mono ?_
  clear hat
  rintro e w' ⟨k, rfl, hat, rfl⟩
  have hk : k = -1 := by
    rcases hat.find with ⟨h, _⟩ | ⟨n, _, hn, _⟩
    · exact h
    · rw [HF.out] at hn; cases hn
  subst hk
  clear hat
  go_wp2
  exact bodyPost_ret (v := .tuple #[R4 0 0 0 0, .int .i64 3]) (by simp [results, Tryz.results87, go_sem]) rfl ⟨rfl, Mod.alloc _ _⟩

set_option maxRecDepth 100000 in
set_option maxHeartbeats 400000 in
theorem refGet_some {w : World} {py : Nat} {fan : Int} {L : List Th} {lg : List Int} {F : List Nat} (h : RefRep w py fan L lg F) (hL : L.length ≤ 400) (id : Int) (n : Nat) (hf : findT L id = some n) :
    Calls Tryz.prog 87 #[.pointer (some ⟨py, 0, none⟩), .int .i64 id] w (GetPost (getF L id) w) := by
  obtain ⟨s, hs, hsid⟩ := find_get hf
  have hnlt : n < L.length := (List.getElem?_eq_some_iff.1 hs).1
  have e : getF L id = (s, 0) := by simp [getF, hf, hs]
  rw [e]
  have HF : Hid (findT L id = some n) := hf
  have h' := h.kept (Mod.alloc (F := []) w (B4 0 0 0 0)) (by simp)
  have hat := at_any h' hL id
  obtain ⟨tv, gl, cl, last, nl, ht1, h2, h3, h4, h5, h6, hF⟩ := h'
  have hlen : ∃ g c, tv = .slice (some ⟨g, 0, none⟩) L.length c := by
    rcases h3.2 with ⟨rfl, hz⟩ | ⟨g, c, cur, rfl, hrest⟩
    · omega
    · exact ⟨_, _, rfl⟩
  obtain ⟨g, c, rfl⟩ := hlen
  have hc1 := (cell_T58 ht1).2.1
  obtain ⟨d0, d1, d2, d3, d4⟩ := thing_cells h3 hs
  clear e hf hF h hs hsid h4 h5 h3 ht1
  go_enter Tryz.func87, Tryz.ntmps87
  go_wp2_with fail
  refine hat.mono ?_
  clear hat
  rintro e w' ⟨k, rfl, hat, rfl⟩
  have hk : k = n := by
    rcases hat.find with ⟨_, h⟩ | ⟨m, hm, hn, _⟩
    · rw [HF.out] at h; cases h
    · rw [HF.out] at hn; cases hn; exact hm
  subst hk
  clear hat
  go_wp2
  exact bodyPost_ret (v := .tuple #[R4 s.x0 s.y0 s.x1 s.y1, .int .i64 0]) (by simp [results, Tryz.results87, go_sem]) rfl ⟨rfl, Mod.alloc _ _⟩

theorem refGet_any {w : World} {py : Nat} {fan : Int} {L : List Th} {lg : List Int} {F : List Nat} (h : RefRep w py fan L lg F) (hL : L.length ≤ 400) (id : Int) :
    Calls Tryz.prog 87 #[.pointer (some ⟨py, 0, none⟩), .int .i64 id] w (GetPost (getF L id) w) := by
  cases hf : findT L id with
  | none => exact refGet_none h hL id hf
  | some n => exact refGet_some h hL id n hf

theorem head_bytes (fan : Int) : (rcHead fan).bytes [] = [] ++ recF [] 72 (headB fan) := by
  have hb : (rcHead fan).body = headB fan := by unfold Rc.body; rw [if_pos (show (rcHead fan).kind = 72 from rfl)]; rfl
  unfold Rc.bytes
  rw [hb, List.nil_append]
  rfl

def RefNewPost (fan : Int) (w : World) (e : Ending) (w' : World) : Prop :=
  e = .returned (.tuple #[.pointer (some ⟨w.heap.size, 0, none⟩), .int .i64 0]) ∧ ∃ F, RefRep w' w.heap.size fan [] ((rcHead fan).bytes []) F ∧ Mod [] w w' ∧ ∀ x ∈ F, w.heap.size ≤ x

theorem refNew_bad (fan : Int) (w : World) (hf : fanB fan = false) : Calls Tryz.prog 50 #[.int .i64 fan] w fun e w' => e = .returned (.tuple #[.pointer none, .int .i64 1]) ∧ w = w' := by
  have hn : ¬ (4 ≤ fan ∧ fan ≤ 16) := fun hh => by rw [fanB_iff.2 hh] at hf; cases hf
  by_cases h0 : fan < 4
  · go_enter Tryz.func50, Tryz.ntmps50
    go_wp2
    go_ret2
    exact ⟨rfl, rfl⟩
  · have h1 : 16 < fan := by omega
    go_enter Tryz.func50, Tryz.ntmps50
    go_wp2
    go_ret2
    exact ⟨rfl, rfl⟩

set_option maxRecDepth 100000 in
set_option maxHeartbeats 400000 in
theorem refNew_good (fan : Int) (w : World) (hf : fanB fan = true) : Calls Tryz.prog 50 #[.int .i64 fan] w (RefNewPost fan w) := by
  obtain ⟨h0, h1⟩ := fanB_iff.1 hf
  have hm0 : Mod [] w ((w.alloc (T58 fan (.slice none 0 0) (.slice none 0 0) 0)).alloc (.cells #[.int .u8 fan] 5)) := (Mod.alloc _ _).trans (Mod.alloc _ _)
  have ht0 : ((w.alloc (T58 fan (.slice none 0 0) (.slice none 0 0) 0)).alloc (.cells #[.int .u8 fan] 5)).heap[w.heap.size]? = some (T58 fan (.slice none 0 0) (.slice none 0 0) 0) := by
    rw [Below.heap_alloc _ _ _ (by simp)]
    exact heap_alloc_new w _
  have hfb : [fan] = headB fan := by
    show [fan] = [fan % 256]
    rw [Int.emod_eq_of_lt (by omega) (by omega)]
  have hs0 : srcRow ((w.alloc (T58 fan (.slice none 0 0) (.slice none 0 0) 0)).alloc (.cells #[.int .u8 fan] 5)) 1 (.slice (some ⟨w.heap.size + 1, 0, none⟩) 1 1) 1 (u8s (headB fan)) := by
    have := srcRow_of_owns (owns_allocB (w := w.alloc (T58 fan (.slice none 0 0) (.slice none 0 0) 0)) (cur := #[.int .u8 fan]) (e := 5) (n := 1) (size := 1) rfl (by decide) (base := 0) (Nat.zero_le _)) (fun u h => by
      simp at h
      rw [h]
      rfl)
    rw [← hfb]
    simpa [u8s] using this
  obtain ⟨lgn, hlg⟩ : ∃ l, l = (rcHead fan).bytes [] := ⟨_, rfl⟩
  unfold RefNewPost
  rw [← hlg]
  have hnote := note_first w.heap.size fan 0 72 (.slice none 0 0) _ 1 (headB fan) _ ht0 LastOk.nil (by omega) (by decide) hs0 (numB_byte _ _)
  rw [← head_bytes, ← hlg] at hnote
  clear hlg
  clear ht0 hs0
  have HN := hideIt hnote
  clear hnote
  go_enter Tryz.func50, Tryz.ntmps50
  go_wp2_with fail
  refine HN.out.mono ?_
  clear HN
  rintro e w1 ⟨rfl, g, c, last', nl', ht1, hl1, ho1, hu1, hn1, hm1⟩
  have hz := hm0.size
  have hgn := (ho1.lt g rfl).1
  have hfin : (Ending.returned (.tuple #[.pointer (some ⟨w.heap.size, 0, none⟩), .int .i64 0]) = .returned (.tuple #[.pointer (some ⟨w.heap.size, 0, none⟩), .int .i64 0])) ∧ ∃ F, RefRep w1 w.heap.size fan [] lgn F ∧ Mod [] w w1 ∧ ∀ x ∈ F, w.heap.size ≤ x := by
    refine ⟨rfl, [w.heap.size, g], ⟨.slice none 0 0, g, c, last', nl', ht1, hl1, World.ownsRow_nil _ _ _ _, owns_base ho1 (Nat.zero_le _), hu1, hn1, rfl⟩, hm0.then hm1 (by simp), ?_⟩
    intro x hx
    simp at hx
    rcases hx with rfl | rfl
    · exact Nat.le_refl _
    · omega
  have HFIN := hideIt hfin
  clear hfin ht1 ho1 hm1
  go_wp2
  go_ret2
  exact ⟨rfl, HFIN.out.2⟩

end Go.Proofs.YthimaoipogocfaaGreat
