import Derived.Test.YtideopmkmobicaaPut
namespace Go.Proofs.Ytideopmkmobicaa
open Go.RowKit Go.Maps

def goodL (L : List Th) : Prop := L.length ≤ 400 ∧ ∀ s ∈ L, 0 ≤ s.id ∧ s.id ≤ 4095

theorem putF_good {L : List Th} (h : goodL L) (t : Th) : goodL (putF L t).2 := by
  unfold putF
  split
  · exact h
  · rename_i hid
    split
    · exact h
    · have hid' : 0 ≤ t.id ∧ t.id ≤ 4095 := idB_iff.1 (by simpa using hid)
      split
      · split
        · exact h
        · refine ⟨by simp; omega, fun s hs => ?_⟩
          simp at hs
          rcases hs with hs | rfl
          · exact h.2 s hs
          · exact hid'
      · refine ⟨by simpa using h.1, fun s hs => ?_⟩
        rcases List.mem_or_eq_of_mem_set hs with hs | rfl
        · exact h.2 s hs
        · exact hid'

theorem dropF_good {L : List Th} (h : goodL L) (id : Int) : goodL (dropF L id).2 := by
  unfold dropF
  split
  · exact h
  · refine ⟨?_, fun s hs => h.2 s (List.mem_of_mem_eraseIdx hs)⟩
    have := List.length_eraseIdx_le L ‹Nat›
    have := h.1
    simp only
    omega

/-- a pair of trees: where they lie, what they hold -/
structure PS where
  px : Nat
  py : Nat
  fan : Int
  L : List Th
  nl : Nat
  F : List Nat

def PairRep (w : World) (p : PS) : Prop :=
  ∃ F1 F2, CodeRep w p.px p.L F1 ∧ RefRep w p.py p.fan p.L p.nl F2 ∧ (∀ x ∈ F1, x ∉ F2) ∧ p.F = F1 ++ F2 ∧ goodL p.L

theorem PairRep.kept {w w' : World} {p : PS} {G : List Nat} (h : PairRep w p) (hm : Mod G w w') (hd : ∀ x ∈ p.F, x ∉ G) : PairRep w' p := by
  obtain ⟨F1, F2, h1, h2, h3, h4, h5⟩ := h
  rw [h4] at hd
  exact ⟨F1, F2, h1.kept hm (fun x hx => hd x (by simp [hx])), h2.kept hm (fun x hx => hd x (by simp [hx])), h3, h4, h5⟩

theorem PairRep.lt {w : World} {p : PS} (h : PairRep w p) : ∀ x ∈ p.F, x < w.heap.size := by
  obtain ⟨F1, F2, h1, h2, h3, h4, h5⟩ := h
  rw [h4]
  intro x hx
  rcases List.mem_append.1 hx with hx | hx
  · exact h1.lt x hx
  · exact h2.lt x hx

/-- the same trees, behind something that was done to them -/
structure Next (w : World) (p q : PS) (w' : World) : Prop where
  rep : PairRep w' q
  px : q.px = p.px
  py : q.py = p.py
  mod : Mod p.F w w'
  foot : ∀ x ∈ q.F, x ∈ p.F ∨ w.heap.size ≤ x

theorem Next.refl {w : World} {p : PS} (h : PairRep w p) : Next w p p w := ⟨h, rfl, rfl, Mod.refl _ _, fun _ hx => .inl hx⟩

theorem Next.trans {w w1 w2 : World} {p q r : PS} (h : Next w p q w1) (k : Next w1 q r w2) : Next w p r w2 := by
  refine ⟨k.rep, k.px.trans h.px, k.py.trans h.py, h.mod.then k.mod h.foot, fun x hx => ?_⟩
  rcases k.foot x hx with hx | hx
  · exact h.foot x hx
  · exact .inr (Nat.le_trans h.mod.size hx)

/-- nothing of the trees has turned -/
theorem Next.still {w w1 : World} {p : PS} (h : PairRep w p) (hm : Mod [] w w1) : Next w p p w1 := ⟨h.kept hm (by simp), rfl, rfl, hm.nil, fun _ hx => .inl hx⟩

/-- a step of the program's tree, then the same of the reference's -/
theorem Next.both {w w1 w2 : World} {p : PS} {F1 F2 : List Nat} {L' : List Th} {nl' : Nat} {F' : List Nat} (h3 : ∀ x ∈ F1, x ∉ F2) (h4 : p.F = F1 ++ F2)
    (c : CodeRep w1 p.px L' F1) (m1 : Mod F1 w w1) (hlt : ∀ x ∈ F1, x < w.heap.size) (r : RefRep w2 p.py p.fan L' nl' F') (m2 : Mod F2 w1 w2) (f2 : ∀ x ∈ F', x ∈ F2 ∨ w1.heap.size ≤ x) (hg : goodL L') :
    Next w p ⟨p.px, p.py, p.fan, L', nl', F1 ++ F'⟩ w2 := by
  have hz := m1.size
  refine ⟨⟨F1, F', c.kept m2 h3, r, fun x hx hx' => ?_, rfl, hg⟩, rfl, rfl, ?_, fun x hx => ?_⟩
  · rcases f2 x hx' with h | h
    · exact h3 x hx h
    · have := hlt x hx
      omega
  · rw [h4]
    exact (m1.mono (by intro x hx; simp [hx])).trans (m2.mono (by intro x hx; simp [hx]))
  · rw [h4]
    rcases List.mem_append.1 hx with hx | hx
    · exact .inl (by simp [hx])
    · rcases f2 x hx with h | h
      · exact .inl (by simp [h])
      · exact .inr (by omega)

abbrev G2 (px py : Nat) : Value := .agg #[.pointer (some ⟨px, 0, none⟩), .pointer (some ⟨py, 0, none⟩)]
abbrev B52 (px py : Nat) : Obj := .cells #[.pointer (some ⟨px, 0, none⟩), .pointer (some ⟨py, 0, none⟩)] 52

theorem cell_B52 {w : World} {b px py : Nat} (h : w.heap[b]? = some (B52 px py)) :
    w.cell? ⟨b, 0, none⟩ = some (.pointer (some ⟨px, 0, none⟩)) ∧ w.cell? ⟨b, 1, none⟩ = some (.pointer (some ⟨py, 0, none⟩)) := by
  refine ⟨?_, ?_⟩ <;> rw [cell_of_block h] <;> rfl

def PutsPost (p : PS) (w : World) (e : Ending) (w' : World) : Prop := e = .returned (.bool true) ∧ ∃ q, Next w p q w' ∧ q.nl ≤ p.nl + 23

set_option maxRecDepth 100000 in
set_option maxHeartbeats 400000 in
theorem puts_any {w : World} {p : PS} (h : PairRep w p) (hnl : p.nl ≤ 99999900) (t : Th) (hx0 : i64ok t.x0) (hy0 : i64ok t.y0) (hx1 : i64ok t.x1) (hy1 : i64ok t.y1) :
    Calls Try.prog 25 #[G2 p.px p.py, .int .i64 t.id, R4 t.x0 t.y0 t.x1 t.y1] w (PutsPost p w) := by
  have hm0 : Mod [] w ((w.alloc (B52 p.px p.py)).alloc (B4 t.x0 t.y0 t.x1 t.y1)) := (Mod.alloc _ _).trans (Mod.alloc _ _)
  have hb1 : ((w.alloc (B52 p.px p.py)).alloc (B4 t.x0 t.y0 t.x1 t.y1)).heap[w.heap.size]? = some (B52 p.px p.py) := by
    rw [Below.heap_alloc _ _ _ (by simp)]
    exact heap_alloc_new w _
  have hb2 : ((w.alloc (B52 p.px p.py)).alloc (B4 t.x0 t.y0 t.x1 t.y1)).heap[w.heap.size + 1]? = some (B4 t.x0 t.y0 t.x1 t.y1) := by
    have := heap_alloc_new (w.alloc (B52 p.px p.py)) (B4 t.x0 t.y0 t.x1 t.y1)
    simpa using this
  have hlt := h.lt
  obtain ⟨F1, F2, h1, h2, h3, h4, h5⟩ := h.kept hm0 (by simp)
  have hput := Put_any h1 t
  have HP := hideIt hput
  have hl1 : ∀ x ∈ F1, x < w.heap.size := fun x hx => hlt x (by rw [h4]; simp [hx])
  clear hput
  go_enter Try.func25, Try.ntmps25
  go_wp2_with fail
  refine HP.out.mono ?_
  clear HP
  rintro e w1 ⟨rfl, hc1, hm1⟩
  have hz0 := hm0.size
  have hb1' := (hm1.block _ (lt_of_block hb1) (fun hx => by have := hl1 _ hx; omega)).trans hb1
  have hb2' := (hm1.block _ (lt_of_block hb2) (fun hx => by have := hl1 _ hx; omega)).trans hb2
  have h2' := h2.kept hm1 (fun x hx hx' => h3 x hx' hx)
  obtain ⟨c0, c1⟩ := cell_B52 hb1'
  obtain ⟨d0, d1, d2, d3⟩ := cell_B4 hb2'
  have hrp := refPut_any h2' h5.1 hnl t hx0 hy0 hx1 hy1
  have HP := hideIt hrp
  clear hrp hb1 hb2 hb1' hb2' h2' h1 h2
  go_wp2_with fail
  refine HP.out.mono ?_
  clear HP
  rintro e w2 ⟨rfl, nl', F', hr2, hnl', hm2, hf2⟩
  have hN : Next ((w.alloc (B52 p.px p.py)).alloc (B4 t.x0 t.y0 t.x1 t.y1)) p ⟨p.px, p.py, p.fan, (putF p.L t).2, nl', F1 ++ F'⟩ w2 :=
    Next.both h3 h4 hc1 hm1 (fun x hx => by have := hl1 x hx; omega) hr2 hm2 hf2 (putF_good h5 t)
  have hfin : PutsPost p w (.returned (.bool true)) w2 := ⟨rfl, _, (Next.still h hm0).trans hN, hnl'⟩
  have HFIN := hideIt hfin
  clear hfin hN hr2 hm2 hf2 hc1 hm1 hm0 c0 c1 d0 d1 d2 d3
  generalize (putF p.L t).1 = er
  go_wp2_with fail
  refine (num_any _ _).mono ?_
  rintro e w3 ⟨rfl, hw⟩
  obtain rfl := hw.symm
  go_wp2
  go_ret
  exact HFIN.out

end Go.Proofs.Ytideopmkmobicaa
