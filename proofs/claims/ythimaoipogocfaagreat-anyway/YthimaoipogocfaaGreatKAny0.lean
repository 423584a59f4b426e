import Derived.Test.YthimaoipogocfaaGreatAnyP
namespace Go.Proofs.YthimaoipogocfaaGreat
open Go.RowKit Go.Maps
attribute [local go_sem] run_store_f32 run_neg_inf

theorem run_min2 {P : Program} (ts : Array TypeId) (t : TypeId) (a b : Int) (w : World) : (Builtin.min_ ts t #[.int .i64 a, .int .i64 b]).run P w = .ok (.int .i64 (min a b)) w := by
  have h2 : (Builtin.min2 (.int .i64 a) (.int .i64 b)).run P w = .ok (.int .i64 (min a b)) w := by
    unfold Builtin.min2
    by_cases h : b < a
    · simp [h, Int.min_eq_right (Int.le_of_lt h)]
    · simp [h, Int.min_eq_left (by omega : a ≤ b)]
  simp [Builtin.min_, h2]

/-- the second tree, while the things come from the last on -/
structure AnyAt (w1 : World) (u fan : Nat) (M : List Kt) (dv : Value) (wr : World) : Prop where
  out : ∃ ts F lg, HRep wr u fan ts lg F ∧ ts.map Tg.th = midT :: lastT M ∧ lg.length ≤ 7000 + 23 * M.length ∧ wr.ownsRow 0 3 1 dv (lastT M).length (ints ((lastT M).map (·.id))) ∧ (∀ x ∈ F, w1.heap.size ≤ x) ∧ (∀ x ∈ dv.ownBlock.toList, w1.heap.size ≤ x ∧ x ∉ F) ∧ Mod [] w1 wr

theorem AnyAt.keep {w1 : World} {u fan : Nat} {M : List Kt} {dv : Value} {wr w' : World} (h : AnyAt w1 u fan M dv wr) (hm : Mod [] wr w') : AnyAt w1 u fan M dv w' := by
  obtain ⟨ts, F, lg, h1, h2, h3, h4, h5, h6, h7⟩ := h.out
  exact ⟨ts, F, lg, h1.kept hm (by simp), h2, h3, owns_kept h4 hm (by simp), h5, h6, h7.trans hm⟩
theorem AnyAt.mod {w1 : World} {u fan : Nat} {M : List Kt} {dv : Value} {wr : World} (h : AnyAt w1 u fan M dv wr) : Mod [] w1 wr := by
  obtain ⟨_, _, _, _, _, _, _, _, _, h⟩ := h.out
  exact h
theorem AnyAt.row {w1 : World} {u fan : Nat} {M : List Kt} {dv : Value} {wr : World} (h : AnyAt w1 u fan M dv wr) : RowI wr dv ((lastT M).map (·.id)) := by
  obtain ⟨ts, F, lg, h1, h2, h3, h4, h5, h6, h7⟩ := h.out
  refine RowI.of_owns ?_
  rw [List.length_map]
  exact h4
theorem AnyAt.slice {w1 : World} {u fan : Nat} {M : List Kt} {dv : Value} {wr : World} (h : AnyAt w1 u fan M dv wr) : ∃ a c, dv = .slice a (lastT M).length c := by
  obtain ⟨ts, F, lg, h1, h2, h3, h4, h5, h6, h7⟩ := h.out
  rcases h4.2 with ⟨rfl, h0⟩ | ⟨g, c, _, rfl, _⟩
  · exact ⟨none, 0, by rw [h0]⟩
  · exact ⟨_, _, rfl⟩
/-- it was put already -/
theorem AnyAt.skip {w1 : World} {u fan : Nat} {M : List Kt} {dv : Value} {wr : World} (h : AnyAt w1 u fan M dv wr) {k : Kt} (hb : decide (k.id ∈ (lastT M).map (·.id)) = true) : AnyAt w1 u fan (k :: M) dv wr := by
  have e : lastT (k :: M) = lastT M := by
    rw [show lastT (k :: M) = if (lastT M).any (fun t => t.id == k.id) then lastT M else lastT M ++ [k.th 0 0] from rfl, if_pos (any_id.2 (of_decide_eq_true hb))]
  obtain ⟨ts, F, lg, h1, h2, h3, h4, h5, h6, h7⟩ := h.out
  refine ⟨ts, F, lg, h1, by rw [e]; exact h2, by simp only [List.length_cons]; omega, by rw [e]; exact h4, h5, h6, h7⟩
theorem lastT_new {M : List Kt} {k : Kt} (hb : decide (k.id ∈ (lastT M).map (·.id)) = false) : lastT (k :: M) = lastT M ++ [k.th 0 0] := by
  rw [show lastT (k :: M) = if (lastT M).any (fun t => t.id == k.id) then lastT M else lastT M ++ [k.th 0 0] from rfl, if_neg]
  exact fun h => of_decide_eq_false hb (any_id.1 h)

/-- .. it is new: its number stands behind the others -/
structure AnyMid (w1 : World) (u fan : Nat) (M : List Kt) (k : Kt) (dv : Value) (wr : World) : Prop where
  out : ∃ ts F lg, HRep wr u fan ts lg F ∧ ts.map Tg.th = midT :: lastT M ∧ lg.length ≤ 7000 + 23 * M.length ∧ wr.ownsRow 0 3 1 dv ((lastT M).length + 1) (ints ((lastT M).map (·.id) ++ [k.id])) ∧ (∀ x ∈ F, w1.heap.size ≤ x) ∧ (∀ x ∈ dv.ownBlock.toList, w1.heap.size ≤ x ∧ x ∉ F) ∧ Mod [] w1 wr

theorem AnyAt.add {w1 : World} {u fan g5 c5 : Nat} {M : List Kt} {k : Kt} {dv : Value} {wr w4 w5 : World} (h : AnyAt w1 u fan M dv wr) (hm4 : Mod [] wr w4) (ho : w5.ownsRow 0 3 1 (.slice (some ⟨g5, 0, none⟩) ((lastT M).length + 1) c5) ((lastT M).length + 1) (catL (ints ((lastT M).map (·.id))) (ints [k.id]))) (hm5 : Mod dv.ownBlock.toList w4 w5) (hat : dv.ownBlock = some g5 ∨ g5 = w4.heap.size) : AnyMid w1 u fan M k (.slice (some ⟨g5, 0, none⟩) ((lastT M).length + 1) c5) w5 := by
  obtain ⟨ts, F, lg, h1, h2, h3, h4, h5, h6, h7⟩ := (h.keep hm4).out
  have hlt := h1.lt
  have hF : ∀ x ∈ F, x ∉ dv.ownBlock.toList := fun x hx hd => (h6 x hd).2 hx
  have hs := h7.size
  refine ⟨ts, F, lg, h1.kept hm5 hF, h2, h3, ?_, h5, fun x hx => ?_, h7.then hm5 (fun x hx => .inr (h6 x hx).1)⟩
  · have e : catL (ints ((lastT M).map (·.id))) (ints [k.id]) = ints ((lastT M).map (·.id) ++ [k.id]) := by simp [catL, ints]
    rw [e] at ho
    exact ho
  · simp [Value.ownBlock] at hx
    subst hx
    rcases hat with h | h
    · exact h6 x (by rw [h]; simp)
    · exact ⟨by omega, fun hx => by have := hlt x hx; omega⟩

theorem AnyMid.keep {w1 : World} {u fan : Nat} {M : List Kt} {k : Kt} {dv : Value} {wr w' : World} (h : AnyMid w1 u fan M k dv wr) (hm : Mod [] wr w') : AnyMid w1 u fan M k dv w' := by
  obtain ⟨ts, F, lg, h1, h2, h3, h4, h5, h6, h7⟩ := h.out
  exact ⟨ts, F, lg, h1.kept hm (by simp), h2, h3, owns_kept h4 hm (by simp), h5, h6, h7.trans hm⟩
theorem AnyMid.mod {w1 : World} {u fan : Nat} {M : List Kt} {k : Kt} {dv : Value} {wr : World} (h : AnyMid w1 u fan M k dv wr) : Mod [] w1 wr := by
  obtain ⟨_, _, _, _, _, _, _, _, _, h⟩ := h.out
  exact h

/-- .. and it is put -/
theorem AnyMid.put {w1 : World} {u fan : Nat} {M : List Kt} {k : Kt} {dv : Value} {wr : World} (h : AnyMid w1 u fan M k dv wr) (hb : decide (k.id ∈ (lastT M).map (·.id)) = false) (hl : M.length ≤ 300) :
    Calls Tryz.prog 24 #[.pointer (some ⟨u, 0, none⟩), .int .i64 k.id, R4 (k.x0 0) (k.y0 0) (k.x1 0) (k.y1 0)] wr (fun e w' => e = .returned (.int .i64 0) ∧ AnyAt w1 u fan (k :: M) dv w') := by
  obtain ⟨ts, F, lg, h1, h2, h3, h4, h5, h6, h7⟩ := h.out
  have hlen : ts.length = (lastT M).length + 1 := by
    have := congrArg List.length h2
    simpa using this
  have hll := lastT_length M
  have hsz := h7.size
  have hlt := h1.lt
  refine (hPut0 h1 (by omega) k.id_ok (k.rect_ok (dx := 0) (dy := 0) (by omega) (by omega)) (by omega)).mono ?_
  rintro e w' ⟨rfl, ts', F', a1, a2, a3, a4, a5⟩
  have hown : ∀ x, dv.ownBlock = some x → x < wr.heap.size := fun x hx => owns_lt h4 hx
  have hnew : (k.th 0 0).id ∉ (midT :: lastT M).map (·.id) := fun hx => by
    rw [List.map_cons, List.mem_cons] at hx
    rcases hx with hx | hx
    · have := k.id_lt
      simp only [Kt.th, midT] at hx
      omega
    · exact of_decide_eq_false hb hx
  refine ⟨rfl, ts', F', _, a1, ?_, ?_, ?_, fun x hx => ?_, fun x hx => ⟨(h6 x hx).1, fun hx' => ?_⟩, h7.then a5 (fun x hx => .inr (h5 x hx))⟩
  · rw [a2, h2, show (⟨k.id, k.x0 0, k.y0 0, k.x1 0, k.y1 0⟩ : Th) = k.th 0 0 from rfl, putT_new hnew, lastT_new hb]
    rfl
  · have := putLT_length (ts.map Tg.th) lg ⟨k.id, k.x0 0, k.y0 0, k.x1 0, k.y1 0⟩
    simp only [List.length_cons]
    omega
  · rw [lastT_new hb, List.map_append, List.length_append]
    exact owns_kept h4 a5 (fun x hx => (h6 x (by rw [hx]; simp)).2)
  · rcases a4 x hx with h | h
    · exact h5 x h
    · omega
  · rcases a4 x hx' with h | h
    · exact (h6 x hx).2 h
    · have := hown x (by simpa using hx)
      omega

end Go.Proofs.YthimaoipogocfaaGreat
