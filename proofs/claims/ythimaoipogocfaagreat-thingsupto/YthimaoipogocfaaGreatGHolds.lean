import Derived.Test.YthimaoipogocfaaGreatGRow
namespace Go.Proofs.YthimaoipogocfaaGreat
open Go.RowKit Go.Maps
attribute [local go_sem] run_store_f32 run_neg_inf

/-- what holds' two boxes are, and what they leave as it was -/
theorem holds_boxes (w : World) (px py : Nat) (s : Stp) : Mod [] w ((w.alloc (B52 px py)).alloc (B40 s)) ∧
    ((w.alloc (B52 px py)).alloc (B40 s)).heap[w.heap.size]? = some (B52 px py) ∧ ((w.alloc (B52 px py)).alloc (B40 s)).heap[w.heap.size + 1]? = some (B40 s) := by
  refine ⟨(Mod.alloc _ _).trans (Mod.alloc _ _), ?_, ?_⟩
  · rw [Below.heap_alloc _ _ _ (by simp)]
    exact heap_alloc_new w _
  · have := heap_alloc_new (w.alloc (B52 px py)) (B40 s)
    simpa using this

set_option maxRecDepth 100000 in
set_option maxHeartbeats 1000000 in
theorem holds_put {w : World} {p : PS} (h : PairRep w p) (hnl : p.nl ≤ 99999000) (s : Stp) (wv : Value) (hk2 : (s.k == 2) = true) :
    Calls Tryz.prog 54 #[wv, G2 p.px p.py, S10 s] w (RowPost p 897 w) := by
  obtain ⟨hm0, hb1, hb2⟩ := holds_boxes w p.px p.py s
  have hN0 := Next.still h hm0
  have hput := puts_any hN0.rep (by omega) ⟨s.a, s.x0, s.y0, s.x1, s.y1⟩
  have HP := hideIt hput
  clear hput hb1 hb2
  go_enter Tryz.func54, Tryz.ntmps54
  go_wp2_with fail
  refine HP.out.mono ?_
  clear HP
  rintro e w1 ⟨rfl, q, hN, hq⟩
  have hN2 := hN0.trans hN
  clear hN hN0 hm0
  go_wp2
  go_ret
  exact ⟨rfl, q, hN2, by omega⟩

set_option maxRecDepth 100000 in
set_option maxHeartbeats 1000000 in
theorem holds_row {w : World} {p : PS} (h : PairRep w p) (hnl : p.nl ≤ 99999000) (s : Stp) (hs : s.ok) (wv : Value) (hk2 : (s.k == 2) = false) (hk3 : (s.k == 3) = false) (hk4 : (s.k == 4) = false) (hk5 : (s.k == 5) = false) :
    Calls Tryz.prog 54 #[wv, G2 p.px p.py, S10 s] w (RowPost p 897 w) := by
  obtain ⟨hm0, hb1, hb2⟩ := holds_boxes w p.px p.py s
  have hN0 := Next.still h hm0
  have hput := row_any hN0.rep (by omega) s hs
  have HP := hideIt hput
  clear hput hb1 hb2
  go_enter Tryz.func54, Tryz.ntmps54
  go_wp2_with fail
  refine HP.out.mono ?_
  clear HP
  rintro e w1 ⟨rfl, q, hN, hq⟩
  have hN2 := hN0.trans hN
  clear hN hN0 hm0
  go_wp2
  go_ret
  exact ⟨rfl, q, hN2, by omega⟩

set_option maxRecDepth 100000 in
set_option maxHeartbeats 1000000 in
theorem holds_drop {w : World} {p : PS} (h : PairRep w p) (hnl : p.nl ≤ 99999000) (s : Stp) (wv : Value) (hk2 : (s.k == 2) = false) (hk3 : (s.k == 3) = true) :
    Calls Tryz.prog 54 #[wv, G2 p.px p.py, S10 s] w (RowPost p 897 w) := by
  obtain ⟨hm0, hb1, hb2⟩ := holds_boxes w p.px p.py s
  have hlt := h.lt
  have HPR := hideIt h
  obtain ⟨F1, F2, h1, h2, h3, h4, h5⟩ := h.kept hm0 (by simp)
  have hl1 : ∀ x ∈ F1, x < w.heap.size := fun x hx => hlt x (by rw [h4]; simp [hx])
  have hl2 : ∀ x ∈ F2, x < w.heap.size := fun x hx => hlt x (by rw [h4]; simp [hx])
  have hids := h5.ids h1
  have HP := hideIt (codeDrop h1 h5 (by have : p.s.lg.length ≤ 99999000 := hnl; omega) s.a)
  have HR := hideIt (show ∀ W, Mod F1 ((w.alloc (B52 p.px p.py)).alloc (B40 s)) W → Calls Tryz.prog 86 #[.pointer (some ⟨p.py, 0, none⟩), .int .i64 s.a] W (RefPutPost p.py p.fan (dropF p.L s.a) (dropLT p.L p.s.lg s.a) F2 W) from fun W hm => refDrop_any (h2.kept hm (fun x hx hx' => h3 x hx' hx)) h5.len (by have : p.s.lg.length ≤ 99999000 := hnl; omega) hids s.a)
  have HBX := hideIt (show ∀ W, Mod F1 ((w.alloc (B52 p.px p.py)).alloc (B40 s)) W → W.heap[w.heap.size]? = some (B52 p.px p.py) ∧ W.heap[w.heap.size + 1]? = some (B40 s) from fun W hm => ⟨(hm.block _ (lt_of_block hb1) (fun hx => by have := hl1 _ hx; omega)).trans hb1, (hm.block _ (lt_of_block hb2) (fun hx => by have := hl1 _ hx; omega)).trans hb2⟩)
  have HFIN := hideIt (show ∀ w1 w2 s' F1' F', HAt w1 p.px p.fan s' F1' → Match s' (dropF p.L s.a).2 → s'.lg = dropLT p.L p.s.lg s.a → (∀ x ∈ F1', x ∈ F1 ∨ ((w.alloc (B52 p.px p.py)).alloc (B40 s)).heap.size ≤ x) → Mod F1 ((w.alloc (B52 p.px p.py)).alloc (B40 s)) w1 → RefRep w2 p.py p.fan (dropF p.L s.a).2 (dropLT p.L p.s.lg s.a) F' → Mod F2 w1 w2 → (∀ x ∈ F', x ∈ F2 ∨ w1.heap.size ≤ x) → RowPost p 897 w (.returned (.bool true)) w2 from fun w1 w2 s' F1' F' a1 a2 a3 a4 a5 b1 b2 b3 => by
    have hz0 := hm0.size
    refine ⟨rfl, _, (Next.still HPR.out hm0).trans (Next.both h3 h4 a1 a5 a4 (fun x hx => by have := hl2 x hx; omega) (a3 ▸ b1) b2 b3 a2), ?_⟩
    show s'.lg.length ≤ _
    rw [a3]
    have := dropLT_length p.L p.s.lg s.a
    show (dropLT p.L p.s.lg s.a).length ≤ p.s.lg.length + 897
    omega)
  clear hb1 hb2 h1 h2 h3 h4 h5 h hm0 hl1 hl2 hlt hids
  go_enter Tryz.func54, Tryz.ntmps54
  go_wp2_with fail
  refine HP.out.mono ?_
  clear HP
  rintro e w1 ⟨s', F1', rfl, a1, a2, a3, a4, a5⟩
  obtain ⟨hb1', hb2'⟩ := HBX.out w1 a5
  obtain ⟨c0, c1⟩ := cell_B52 hb1'
  have d2 : w1.cell? ⟨w.heap.size + 1, 2, none⟩ = some (.int .i64 s.a) := cell_B40 hb2' 2 _ rfl
  have HP := hideIt (HR.out w1 a5)
  have HA := hideIt (fun w2 F' => HFIN.out w1 w2 s' F1' F' a1 a2 a3 a4 a5)
  clear hb1' hb2' a1 a2 a3 a4 a5 HR HBX HFIN
  go_wp2_with fail
  refine HP.out.mono ?_
  clear HP
  rintro e w2 ⟨rfl, F', hr2, hm2, hf2⟩
  have HFIN := hideIt (HA.out w2 F' hr2 hm2 hf2)
  clear HA hr2 hm2 hf2 c0 c1 d2
  generalize (dropF p.L s.a).1 = er
  go_wp2_with fail
  refine (num_any _ _).mono ?_
  rintro e w3 ⟨rfl, hw⟩
  obtain rfl := hw.symm
  clear hw
  go_wp2
  go_ret
  exact HFIN.out

set_option maxRecDepth 100000 in
set_option maxHeartbeats 1000000 in
theorem holds_get {w : World} {p : PS} (h : PairRep w p) (s : Stp) (wv : Value) (hk2 : (s.k == 2) = false) (hk3 : (s.k == 3) = false) (hk4 : (s.k == 4) = true) :
    Calls Tryz.prog 54 #[wv, G2 p.px p.py, S10 s] w (RowPost p 0 w) := by
  obtain ⟨hm0, hb1, hb2⟩ := holds_boxes w p.px p.py s
  obtain ⟨F1, F2, h1, h2, h3, h4, h5⟩ := h.kept hm0 (by simp)
  have HP := hideIt (codeGet h1 h5 s.a)
  have HR := hideIt (fun (W : World) (hm : Mod [] ((w.alloc (B52 p.px p.py)).alloc (B40 s)) W) => refGet_any (h2.kept hm (by simp)) h5.len s.a)
  generalize getF p.L s.a = r at HP HR
  obtain ⟨⟨i, x0, y0, x1, y1⟩, er⟩ := r
  have hz0 := hm0.size
  have HB1 := hideIt hb1
  have HB2 := hideIt hb2
  clear hb1 hb2
  go_enter Tryz.func54, Tryz.ntmps54
  go_wp2_with fail
  refine HP.out.mono ?_
  clear HP
  rintro e w1 ⟨rfl, hm1⟩
  have hma : ∀ o, Mod [] ((w.alloc (B52 p.px p.py)).alloc (B40 s)) (w1.alloc o) := fun o => hm1.trans (Mod.alloc _ _)
  have hb1' := fun o => ((hma o).block _ (lt_of_block HB1.out) (by simp)).trans HB1.out
  have hb2' := fun o => ((hma o).block _ (lt_of_block HB2.out) (by simp)).trans HB2.out
  have c1 := fun o => (cell_B52 (hb1' o)).2
  have d2 : ∀ o, (w1.alloc o).cell? ⟨w.heap.size + 1, 2, none⟩ = some (.int .i64 s.a) := fun o => cell_B40 (hb2' o) 2 _ rfl
  have HP := hideIt (HR.out (w1.alloc (B4 x0 y0 x1 y1)) (hma _))
  clear hb1' hb2' h1 h2 HB1 HB2 HR
  go_wp2_with fail
  refine HP.out.mono ?_
  clear HP
  rintro e w2 ⟨rfl, hm2⟩
  have hbr := (hm2.block w1.heap.size (by simp) (by simp)).trans (heap_alloc_new w1 _)
  have hbr' := fun o => ((Mod.alloc (F := []) w2 o).block w1.heap.size (lt_of_block hbr) (by simp)).trans hbr
  have q0 := fun o => (cell_B4 (hbr' o)).1
  have q1 := fun o => (cell_B4 (hbr' o)).2.1
  have q2 := fun o => (cell_B4 (hbr' o)).2.2.1
  have q3 := fun o => (cell_B4 (hbr' o)).2.2.2
  have hN : Next w p p (w2.alloc (B4 x0 y0 x1 y1)) := Next.still h (hm0.trans (((hma _).trans hm2).trans (Mod.alloc _ _)))
  clear hbr hbr' c1 d2 hma hm1 hm2 hm0
  go_wp2_with fail
  refine (num_any _ _).mono ?_
  rintro e w3 ⟨rfl, hw⟩
  obtain rfl := hw.symm
  clear q0 q1 q2 q3
  go_wp2
  go_ret
  exact ⟨rfl, p, hN, by omega⟩

set_option maxRecDepth 100000 in
set_option maxHeartbeats 1000000 in
theorem holds_len {w : World} {p : PS} (h : PairRep w p) (s : Stp) (wv : Value) (hk2 : (s.k == 2) = false) (hk3 : (s.k == 3) = false) (hk4 : (s.k == 4) = false) (hk5 : (s.k == 5) = true) :
    Calls Tryz.prog 54 #[wv, G2 p.px p.py, S10 s] w (RowPost p 0 w) := by
  obtain ⟨hm0, hb1, hb2⟩ := holds_boxes w p.px p.py s
  obtain ⟨F1, F2, h1, h2, h3, h4, h5⟩ := h.kept hm0 (by simp)
  have HP := hideIt (codeLen h1 h5)
  obtain ⟨tv, gl, cl, last, nl, t1, t2, t3, t4, t5, t6, hF⟩ := h2
  have hlen : ∃ a c, tv = .slice a p.L.length c := by
    rcases t3.2 with ⟨rfl, hz⟩ | ⟨g, c, cur, rfl, hrest⟩
    · exact ⟨none, 0, by rw [hz]⟩
    · exact ⟨_, _, rfl⟩
  obtain ⟨ta, tc, rfl⟩ := hlen
  have ct := (cell_T58 t1).2.1
  obtain ⟨c0, c1⟩ := cell_B52 hb1
  clear hF t1 t2 t3 t4 t5 t6 hb1 hb2 h1
  go_enter Tryz.func54, Tryz.ntmps54
  go_wp2_with fail
  refine HP.out.mono ?_
  clear HP
  rintro e w1 ⟨rfl, rfl⟩
  go_wp2
  go_ret
  exact ⟨rfl, p, Next.still h hm0, by omega⟩

/-- how much a step may add to a log -/
def adds (k : Int) : Nat := if k = 4 ∨ k = 5 then 0 else 897

theorem adds_le (k : Int) : adds k ≤ 897 := by unfold adds; split <;> omega

theorem lholds_any {w : World} {p : PS} (h : PairRep w p) (hnl : p.nl ≤ 99999000) (s : Stp) (hs : s.ok) (wv : Value) : Calls Tryz.prog 54 #[wv, G2 p.px p.py, S10 s] w (RowPost p (adds s.k) w) := by
  cases hk2 : (s.k == 2) with
  | true =>
    rw [show adds s.k = 897 by unfold adds; rw [if_neg (by simp at hk2; omega)]]
    exact holds_put h hnl s wv hk2
  | false =>
    cases hk3 : (s.k == 3) with
    | true =>
      rw [show adds s.k = 897 by unfold adds; rw [if_neg (by simp at hk3; omega)]]
      exact holds_drop h hnl s wv hk2 hk3
    | false =>
      cases hk4 : (s.k == 4) with
      | true =>
        rw [show adds s.k = 0 by unfold adds; rw [if_pos (by simp at hk4; omega)]]
        exact holds_get h s wv hk2 hk3 hk4
      | false =>
        cases hk5 : (s.k == 5) with
        | true =>
          rw [show adds s.k = 0 by unfold adds; rw [if_pos (by simp at hk5; omega)]]
          exact holds_len h s wv hk2 hk3 hk4 hk5
        | false =>
          rw [show adds s.k = 897 by unfold adds; rw [if_neg (by simp at hk4 hk5; omega)]]
          exact holds_row h hnl s hs wv hk2 hk3 hk4 hk5

end Go.Proofs.YthimaoipogocfaaGreat
