import Derived.Test.YtmfdlacmlnginaaGreatJ17
namespace Go.Proofs.YtmfdlacmlnginaaGreat
open Go.RowKit
attribute [local go_sem] run_store_f32 run_neg_inf

theorem dec_true {p : Prop} [Decidable p] (h : p) : true = decide p := (decide_eq_true h).symm
theorem dec_false {p : Prop} [Decidable p] (h : ¬ p) : false = decide p := (decide_eq_false h).symm

def fanB (n : Int) : Bool := decide (4 ≤ n ∧ n ≤ 16)
theorem fanB_true {n : Int} (h : 4 ≤ n ∧ n ≤ 16) : true = fanB n := dec_true h
theorem fanB_false {n : Int} (h : ¬ (4 ≤ n ∧ n ≤ 16)) : false = fanB n := dec_false h
theorem fanB_iff {n : Int} : fanB n = true ↔ (4 ≤ n ∧ n ≤ 16) := by simp [fanB]

theorem isFan_any (n : Int) (w : World) : Calls Tryz.prog 52 #[.int .i64 n] w fun e w' => e = .returned (.bool (fanB n)) ∧ w' = w := by
  by_cases h1 : 4 ≤ n
  · by_cases h2 : n ≤ 16
    · go_enter Tryz.func52, Tryz.ntmps52
      go_wp2
      go_ret
      exact ⟨ret_bool (fanB_true (by omega)), rfl⟩
    · go_enter Tryz.func52, Tryz.ntmps52
      go_wp2
      go_ret
      exact ⟨ret_bool (fanB_false (by omega)), rfl⟩
  · go_enter Tryz.func52, Tryz.ntmps52
    go_wp2
    go_ret
    exact ⟨ret_bool (fanB_false (by omega)), rfl⟩

def idB (n : Int) : Bool := decide (0 ≤ n ∧ n ≤ 4095)
theorem idB_true {n : Int} (h : 0 ≤ n ∧ n ≤ 4095) : true = idB n := dec_true h
theorem idB_false {n : Int} (h : ¬ (0 ≤ n ∧ n ≤ 4095)) : false = idB n := dec_false h
theorem idB_iff {n : Int} : idB n = true ↔ (0 ≤ n ∧ n ≤ 4095) := by simp [idB]

theorem isID_any (n : Int) (w : World) : Calls Tryz.prog 35 #[.int .i64 n] w fun e w' => e = .returned (.bool (idB n)) ∧ w' = w := by
  by_cases h1 : 0 ≤ n
  · by_cases h2 : n ≤ 4095
    · go_enter Tryz.func35, Tryz.ntmps35
      go_wp2
      go_ret
      exact ⟨ret_bool (idB_true (by omega)), rfl⟩
    · go_enter Tryz.func35, Tryz.ntmps35
      go_wp2
      go_ret
      exact ⟨ret_bool (idB_false (by omega)), rfl⟩
  · go_enter Tryz.func35, Tryz.ntmps35
    go_wp2
    go_ret
    exact ⟨ret_bool (idB_false (by omega)), rfl⟩

def coordB (n : Int) : Bool := decide (-1000000000 ≤ n ∧ n ≤ 1000000000)
theorem coordB_true {n : Int} (h : -1000000000 ≤ n ∧ n ≤ 1000000000) : true = coordB n := dec_true h
theorem coordB_false {n : Int} (h : ¬ (-1000000000 ≤ n ∧ n ≤ 1000000000)) : false = coordB n := dec_false h
theorem coordB_iff {n : Int} : coordB n = true ↔ (-1000000000 ≤ n ∧ n ≤ 1000000000) := by simp [coordB]

theorem isCoord_any (n : Int) (w : World) : Calls Tryz.prog 64 #[.int .i64 n] w fun e w' => e = .returned (.bool (coordB n)) ∧ w' = w := by
  by_cases h1 : -1000000000 ≤ n
  · by_cases h2 : n ≤ 1000000000
    · go_enter Tryz.func64, Tryz.ntmps64
      go_wp2
      go_ret
      exact ⟨ret_bool (coordB_true (by omega)), rfl⟩
    · go_enter Tryz.func64, Tryz.ntmps64
      go_wp2
      go_ret
      exact ⟨ret_bool (coordB_false (by omega)), rfl⟩
  · go_enter Tryz.func64, Tryz.ntmps64
    go_wp2
    go_ret
    exact ⟨ret_bool (coordB_false (by omega)), rfl⟩

/-- A place. -/
def placeB (x y : Int) : Bool := decide ((-1000000000 ≤ x ∧ x ≤ 1000000000) ∧ (-1000000000 ≤ y ∧ y ≤ 1000000000))
theorem placeB_true {x y : Int} (h : (-1000000000 ≤ x ∧ x ≤ 1000000000) ∧ (-1000000000 ≤ y ∧ y ≤ 1000000000)) : true = placeB x y := dec_true h
theorem placeB_false {x y : Int} (h : ¬ ((-1000000000 ≤ x ∧ x ≤ 1000000000) ∧ (-1000000000 ≤ y ∧ y ≤ 1000000000))) : false = placeB x y := dec_false h
theorem placeB_iff {x y : Int} : placeB x y = true ↔ ((-1000000000 ≤ x ∧ x ≤ 1000000000) ∧ (-1000000000 ≤ y ∧ y ≤ 1000000000)) := by simp [placeB]

theorem isPlace_any (x y : Int) (w : World) : Calls Tryz.prog 39 #[.int .i64 x, .int .i64 y] w fun e w' => e = .returned (.bool (placeB x y)) ∧ w' = w := by
  have hpl : placeB x y = (coordB x && coordB y) := by simp [placeB, coordB]
  have H : Hid (placeB x y = (coordB x && coordB y)) := hpl
  clear hpl
  cases hx : coordB x with
  | true =>
    go_enter Tryz.func39, Tryz.ntmps39
    go_wp2_with fail
    refine (isCoord_any x _).mono ?_
    rw [hx]
    rintro e w' ⟨rfl, rfl⟩
    go_wp2_with fail
    refine (isCoord_any y _).mono ?_
    rintro e w' ⟨rfl, rfl⟩
    go_wp2
    go_ret
    exact ⟨ret_bool (by rw [H.out, hx]; rfl), rfl⟩
  | false =>
    go_enter Tryz.func39, Tryz.ntmps39
    go_wp2_with fail
    refine (isCoord_any x _).mono ?_
    rw [hx]
    rintro e w' ⟨rfl, rfl⟩
    go_wp2
    go_ret
    exact ⟨ret_bool (by rw [H.out, hx]; rfl), rfl⟩

/-- A rectangle. -/
def rectB (x0 y0 x1 y1 : Int) : Bool := placeB x0 y0 && placeB x1 y1 && decide (x0 ≤ x1) && decide (y0 ≤ y1)


theorem isRect_any (x0 y0 x1 y1 : Int) (w : World) : Calls Tryz.prog 36 #[R4 x0 y0 x1 y1] w fun e w' => e = .returned (.bool (rectB x0 y0 x1 y1)) ∧ w' = w.alloc (B4 x0 y0 x1 y1) := by
  cases hp : placeB x0 y0 with
  | false =>
    go_enter Tryz.func36, Tryz.ntmps36
    go_wp2_with fail
    refine (isPlace_any x0 y0 _).mono ?_
    rw [hp]
    rintro e w' ⟨rfl, rfl⟩
    go_wp2
    go_ret
    exact ⟨ret_bool (by simp [rectB, hp]), rfl⟩
  | true =>
    cases hq : placeB x1 y1 with
    | false =>
      go_enter Tryz.func36, Tryz.ntmps36
      go_wp2_with fail
      refine (isPlace_any x0 y0 _).mono ?_
      rw [hp]
      rintro e w' ⟨rfl, rfl⟩
      go_wp2_with fail
      refine (isPlace_any x1 y1 _).mono ?_
      rw [hq]
      rintro e w' ⟨rfl, rfl⟩
      go_wp2
      go_ret
      exact ⟨ret_bool (by simp [rectB, hp, hq]), rfl⟩
    | true =>
      by_cases h1 : x0 ≤ x1 <;> by_cases h2 : y0 ≤ y1
      all_goals
        go_enter Tryz.func36, Tryz.ntmps36
        go_wp2_with fail
        refine (isPlace_any x0 y0 _).mono ?_
        rw [hp]
        rintro e w' ⟨rfl, rfl⟩
        go_wp2_with fail
        refine (isPlace_any x1 y1 _).mono ?_
        rw [hq]
        rintro e w' ⟨rfl, rfl⟩
        go_wp2
        go_ret
        refine ⟨ret_bool ?_, rfl⟩
        simp [rectB, hp, hq]
        try omega

theorem rectB_ok {x0 y0 x1 y1 : Int} (h : rectB x0 y0 x1 y1 = true) : RectOk x0 y0 x1 y1 := by
  simp only [rectB, Bool.and_eq_true, decide_eq_true_eq, placeB] at h
  unfold RectOk
  omega

theorem rectOk_B {x0 y0 x1 y1 : Int} (h : RectOk x0 y0 x1 y1) : rectB x0 y0 x1 y1 = true := by
  unfold RectOk at h
  simp only [rectB, Bool.and_eq_true, decide_eq_true_eq, placeB]
  omega

end Go.Proofs.YtmfdlacmlnginaaGreat

namespace Go.Proofs.YtmfdlacmlnginaaGreat
open Go.RowKit Go.Maps
attribute [local go_sem] run_store_f32 run_neg_inf

abbrev hO (p : Nat) : Obj := .cells #[.pointer (some ⟨p, 0, none⟩)] 75 (0, 0)

/-- THE PROGRAM'S TREE IN MEMORY. -/
def HRep (w : World) (q fan : Nat) (ts : List Tg) (F : List Nat) : Prop := ∃ p F0, w.heap[q]? = some (hO p) ∧ TreeRep w p fan ts F0 ∧ q ∉ F0 ∧ F = q :: F0

theorem cell_hO {w : World} {q p : Nat} (h : w.heap[q]? = some (hO p)) : w.cell? ⟨q, 0, none⟩ = some (.pointer (some ⟨p, 0, none⟩)) := by rw [cell_of_block h]; rfl

theorem cell_B4 {w : World} {p : Nat} {a b c d : Int} (h : w.heap[p]? = some (B4 a b c d)) : w.cell? ⟨p, 0, none⟩ = some (.int .i64 a) ∧ w.cell? ⟨p, 1, none⟩ = some (.int .i64 b) ∧ w.cell? ⟨p, 2, none⟩ = some (.int .i64 c) ∧ w.cell? ⟨p, 3, none⟩ = some (.int .i64 d) := by
  refine ⟨?_, ?_, ?_, ?_⟩ <;> rw [cell_of_block h] <;> rfl

theorem B4_set4 {w : World} {p : Nat} {a b c d : Int} (h : w.heap[p]? = some (B4 a b c d)) (x0 y0 x1 y1 : Int) :
    ((((w.setCell ⟨p, 0, none⟩ (.int .i64 x0)).setCell ⟨p, 1, none⟩ (.int .i64 y0)).setCell ⟨p, 2, none⟩ (.int .i64 x1)).setCell ⟨p, 3, none⟩ (.int .i64 y1)).heap[p]? = some (B4 x0 y0 x1 y1) := by
  rw [block_setCell (block_setCell (block_setCell (block_setCell h 0 _) 1 _) 2 _) 3 _]
  simp

/-- a result of four cells, told -/
theorem told4 {w w1 : World} (hm : Mod [] (w.alloc (B4 0 0 0 0)) w1) (x0 y0 x1 y1 : Int) (o : Obj) {W : World} (hW : W = ((((w1.setCell ⟨w.heap.size, 0, none⟩ (.int .i64 x0)).setCell ⟨w.heap.size, 1, none⟩ (.int .i64 y0)).setCell ⟨w.heap.size, 2, none⟩ (.int .i64 x1)).setCell ⟨w.heap.size, 3, none⟩ (.int .i64 y1)).alloc o) :
    Mod [] w W ∧ W.cell? ⟨w.heap.size, 0, none⟩ = some (.int .i64 x0) ∧ W.cell? ⟨w.heap.size, 1, none⟩ = some (.int .i64 y0) ∧ W.cell? ⟨w.heap.size, 2, none⟩ = some (.int .i64 x1) ∧ W.cell? ⟨w.heap.size, 3, none⟩ = some (.int .i64 y1) := by
  have hz1 := (hm.block w.heap.size (by simp) (by simp)).trans (heap_alloc_new w (B4 0 0 0 0))
  have h4 := B4_set4 hz1 x0 y0 x1 y1
  have hm4 := mod_set4 w1 w.heap.size (.int .i64 x0) (.int .i64 y0) (.int .i64 x1) (.int .i64 y1)
  generalize (((w1.setCell ⟨w.heap.size, 0, none⟩ (.int .i64 x0)).setCell ⟨w.heap.size, 1, none⟩ (.int .i64 y0)).setCell ⟨w.heap.size, 2, none⟩ (.int .i64 x1)).setCell ⟨w.heap.size, 3, none⟩ (.int .i64 y1) = w4 at *
  subst hW
  exact ⟨(((Mod.alloc w _).trans hm).then hm4 (fun x hx => .inr (by simp at hx; omega))).trans (Mod.alloc _ _), cell_B4 (((Mod.alloc (F := []) w4 o).block _ (lt_of_block h4) (by simp)).trans h4)⟩

theorem HRep.kept {w w' : World} {q fan : Nat} {ts : List Tg} {F G : List Nat} (h : HRep w q fan ts F) (hm : Mod G w w') (hf : ∀ x ∈ F, x ∉ G) : HRep w' q fan ts F := by
  obtain ⟨p, F0, h1, h2, h3, rfl⟩ := h
  exact ⟨p, F0, (hm.block q (lt_of_block h1) (hf q (by simp))).trans h1, h2.kept hm (fun x hx => hf x (by simp [hx])), h3, rfl⟩

theorem HRep.lt {w : World} {q fan : Nat} {ts : List Tg} {F : List Nat} (h : HRep w q fan ts F) : ∀ x ∈ F, x < w.heap.size := by
  obtain ⟨p, F0, h1, h2, h3, rfl⟩ := h
  intro x hx
  rcases List.mem_cons.1 hx with rfl | hx
  · exact lt_of_block h1
  · exact h2.lt x hx

theorem HRep.ids {w : World} {q fan : Nat} {ts : List Tg} {F : List Nat} (h : HRep w q fan ts F) : (ts.map (·.id)).Nodup := by
  obtain ⟨_, _, _, ⟨_, _, _, _, _, ht, _⟩, _⟩ := h
  exact ht.ids

/-! ### Len, has, Get, Height -/
set_option maxRecDepth 100000 in
theorem hLen_any {w : World} {q fan : Nat} {ts : List Tg} {F : List Nat} (h : HRep w q fan ts F) :
    Calls Tryz.prog 19 #[.pointer (some ⟨q, 0, none⟩)] w fun e w' => e = .returned (.int .i64 ts.length) ∧ w = w' := by
  obtain ⟨p, F0, h1, h2, h3, rfl⟩ := h
  have c := cell_hO h1
  have H2 := hideIt h2
  clear h1 h2 h3
  go_enter Tryz.func19, Tryz.ntmps19
  go_wp2_with fail
  refine (bLen_any H2.out).mono ?_
  rintro e w1 ⟨rfl, rfl⟩
  go_wp2
  go_ret
  exact ⟨rfl, rfl⟩

theorem rectOfG_R4 (ts : List Tg) (id : Int) : ∃ x0 y0 x1 y1, rectOfG ts id = R4 x0 y0 x1 y1 ∧ (findG ts id = none → x0 = 0 ∧ y0 = 0 ∧ x1 = 0 ∧ y1 = 0) := by
  unfold rectOfG
  cases findG ts id with
  | none => exact ⟨0, 0, 0, 0, rfl, fun _ => ⟨rfl, rfl, rfl, rfl⟩⟩
  | some n => exact ⟨_, _, _, _, rfl, fun h => by cases h⟩

def HasPost (b : Bool) (w : World) (e : Ending) (w' : World) : Prop := e = .returned (.bool b) ∧ Mod [] w w'

set_option maxRecDepth 100000 in
theorem has_any {w : World} {q fan : Nat} {ts : List Tg} {F : List Nat} (h : HRep w q fan ts F) (id : Int) :
    Calls Tryz.prog 29 #[.pointer (some ⟨q, 0, none⟩), .int .i64 id] w (HasPost (findG ts id).isSome w) := by
  obtain ⟨p, F0, h1, h2, h3, rfl⟩ := h
  have c := cell_hO h1
  have hcall := bGet_any h2 id
  obtain ⟨x0, y0, x1, y1, er, _⟩ := rectOfG_R4 ts id
  unfold BGetPost at hcall
  rw [er] at hcall
  clear er h1 h2 h3
  generalize (findG ts id).isSome = b at *
  have H2 := hideIt hcall
  clear hcall
  go_enter Tryz.func29, Tryz.ntmps29
  go_wp2_with fail
  refine H2.out.mono ?_
  rintro e w1 ⟨rfl, hm⟩
  go_wp2
  go_ret
  exact ⟨rfl, hm.trans (Mod.alloc _ _)⟩

def HGetPost (ts : List Tg) (id : Int) (w : World) (e : Ending) (w' : World) : Prop := e = .returned (.tuple #[rectOfG ts id, .int .i64 (if (findG ts id).isSome then 0 else 3)]) ∧ Mod [] w w'

set_option maxRecDepth 100000 in
set_option maxHeartbeats 400000 in
theorem hGet_any {w : World} {q fan : Nat} {ts : List Tg} {F : List Nat} (h : HRep w q fan ts F) (id : Int) :
    Calls Tryz.prog 25 #[.pointer (some ⟨q, 0, none⟩), .int .i64 id] w (HGetPost ts id w) := by
  have hm0 : Mod [] w (w.alloc (B4 0 0 0 0)) := Mod.alloc _ _
  obtain ⟨p, F0, h1, h2, h3, rfl⟩ := h.kept hm0 (by simp)
  have c := cell_hO h1
  have hcall := bGet_any h2 id
  obtain ⟨x0, y0, x1, y1, er, ez⟩ := rectOfG_R4 ts id
  unfold HGetPost
  unfold BGetPost at hcall
  rw [er] at hcall ⊢
  have hlt : w.heap.size < (w.alloc (B4 0 0 0 0)).heap.size := by simp
  have hz := heap_alloc_new w (B4 0 0 0 0)
  cases hf : findG ts id with
  | none =>
    obtain ⟨rfl, rfl, rfl, rfl⟩ := ez hf
    rw [hf] at hcall
    have H := hideIt hcall
    have HM0 := hideIt hm0
    have HZ := hideIt hz
    clear hcall er ez hf h1 h2 h3 h hz hlt hm0
    go_enter Tryz.func25, Tryz.ntmps25
    go_wp2_with fail
    refine H.out.mono ?_
    rintro e w1 ⟨rfl, hm⟩
    have hz1 := (hm.block _ (by simp) (by simp)).trans HZ.out
    have hlt1 := lt_of_block hz1
    obtain ⟨z0, z1, z2, z3⟩ := cell_B4 hz1
    have f0 := frozen_of_block hz1 0
    have f1 := frozen_of_block hz1 1
    have f2 := frozen_of_block hz1 2
    have f3 := frozen_of_block hz1 3
    have HM := hideIt hm
    clear hm H HM0 hz1
    go_wp2
    obtain ⟨hW, v0, v1, v2, v3⟩ := told4 HM.out 0 0 0 0 (B4 0 0 0 0) rfl
    generalize (((((w1.setCell _ _).setCell _ _).setCell _ _).setCell _ _).alloc _) = W at *
    have HW := hideIt hW
    clear hW z0 z1 z2 z3 f0 f1 f2 f3 hlt1
    exact bodyPost_ret (v := .tuple #[R4 0 0 0 0, .int .i64 3]) (by simp [results, Tryz.results25, go_sem, v0, v1, v2, v3]) rfl ⟨rfl, HW.out⟩
  | some n =>
    rw [hf] at hcall
    have H := hideIt hcall
    have HM0 := hideIt hm0
    have HZ := hideIt hz
    clear hcall er ez hf h1 h2 h3 h hz hlt hm0
    go_enter Tryz.func25, Tryz.ntmps25
    go_wp2_with fail
    refine H.out.mono ?_
    rintro e w1 ⟨rfl, hm⟩
    have hz1 := (hm.block _ (by simp) (by simp)).trans HZ.out
    have hlt1 := lt_of_block hz1
    obtain ⟨z0, z1, z2, z3⟩ := cell_B4 hz1
    have f0 := frozen_of_block hz1 0
    have f1 := frozen_of_block hz1 1
    have f2 := frozen_of_block hz1 2
    have f3 := frozen_of_block hz1 3
    have HM := hideIt hm
    clear hm H HM0 hz1
    go_wp2
    obtain ⟨hW, v0, v1, v2, v3⟩ := told4 HM.out x0 y0 x1 y1 (B4 x0 y0 x1 y1) rfl
    generalize (((((w1.setCell _ _).setCell _ _).setCell _ _).setCell _ _).alloc _) = W at *
    have HW := hideIt hW
    clear hW z0 z1 z2 z3 f0 f1 f2 f3 hlt1
    exact bodyPost_ret (v := .tuple #[R4 x0 y0 x1 y1, .int .i64 0]) (by simp [results, Tryz.results25, go_sem, v0, v1, v2, v3]) rfl ⟨rfl, HW.out⟩

set_option maxRecDepth 100000 in
theorem hHeight_any {w : World} {q fan : Nat} {ts : List Tg} {F : List Nat} (h : HRep w q fan ts F) (hn : ts.length ≤ 1000) :
    Calls Tryz.prog 82 #[.pointer (some ⟨q, 0, none⟩)] w fun e w' => (∃ m : Nat, e = .returned (.int .i64 (m : Int)) ∧ 1 ≤ m ∧ ts.length ≤ fan ^ m ∧ (m = 1 ∨ 2 * leastF fan ^ (m - 1) ≤ ts.length) ∧ m ≤ 11) ∧ w = w' := by
  obtain ⟨p, F0, h1, ⟨bm, es, clock, hh, k, ht, rfl⟩, h3, rfl⟩ := h
  have c := cell_hO h1
  have hlo : 2 ≤ leastF fan := by unfold leastF; omega
  obtain ⟨s1, s2⟩ := ht.node.size
  have hlen := ht.perm.length_eq
  rw [hlen] at s1 s2
  have hmost := ht.most
  have hb : ts.length ≤ fan ^ (hh + 1) := by
    have : k.n * fan ^ hh ≤ fan * fan ^ hh := Nat.mul_le_mul_right _ hmost
    rw [Nat.pow_succ, Nat.mul_comm]
    omega
  have ha : hh + 1 = 1 ∨ 2 * leastF fan ^ (hh + 1 - 1) ≤ ts.length := by
    rcases ht.least with e | e
    · exact .inl (by omega)
    · refine .inr (Nat.le_trans ?_ s1)
      exact Nat.mul_le_mul_right _ e
  have hhh : hh + 1 ≤ 11 := by
    rcases ha with e | e
    · omega
    · by_cases h9 : hh + 1 ≤ 11
      · exact h9
      · have h4 : 2 ^ (hh + 1 - 1) ≤ leastF fan ^ (hh + 1 - 1) := Nat.pow_le_pow_left hlo _
        have : 2 ^ 10 ≤ 2 ^ (hh + 1 - 1) := Nat.pow_le_pow_right (by omega) (by omega)
        omega
  have hcall := bHeight_any ht (by omega)
  have H2 := hideIt hcall
  have HF := hideIt (And.intro hb (And.intro ha hhh))
  clear h1 ht h3 hcall s1 s2 hlen hmost ha hb hhh
  go_enter Tryz.func82, Tryz.ntmps82
  go_wp2_with fail
  refine H2.out.mono ?_
  rintro e w1 ⟨rfl, rfl⟩
  go_wp2
  go_ret
  exact ⟨⟨hh + 1, by simp, by omega, HF.out.1, HF.out.2.1, HF.out.2.2⟩, rfl⟩

end Go.Proofs.YtmfdlacmlnginaaGreat

namespace Go.Proofs.YtmfdlacmlnginaaGreat
open Go.RowKit Go.Maps
attribute [local go_sem] run_store_f32 run_neg_inf

def HSetPost (q fan : Nat) (c : Int) (ts' : List Tg) (F : List Nat) (w : World) (e : Ending) (w' : World) : Prop := e = .returned (.int .i64 c) ∧ ∃ F', HRep w' q fan ts' F' ∧ (∀ x ∈ F', x ∈ F ∨ w.heap.size ≤ x) ∧ Mod F w w'

theorem hSame {w w' : World} {q fan : Nat} {ts : List Tg} {F : List Nat} (h : HRep w q fan ts F) (hm : Mod [] w w') (c : Int) : HSetPost q fan c ts F w (.returned (.int .i64 c)) w' := ⟨rfl, F, h.kept hm (by simp), fun x hx => .inl hx, hm.nil⟩

/-- what a call on the tree of boxes leaves of the program's tree -/
theorem hSet {w w1 w2 : World} {q fan : Nat} {ts' : List Tg} {p : Nat} {F0 : List Nat} {e : Ending} (hm : Mod [] w w1) (hlt : ∀ x ∈ q :: F0, x < w.heap.size) (h1 : w1.heap[q]? = some (hO p)) (h3 : q ∉ F0) (hs : BSetPost p fan ts' F0 w1 e w2) (c : Int) : HSetPost q fan c ts' (q :: F0) w (.returned (.int .i64 c)) w2 := by
  obtain ⟨_, F', a1, a2, a3⟩ := hs
  have hsz := hm.size
  have hql := hlt q (by simp)
  refine ⟨rfl, q :: F', ⟨p, F', (a3.block q (by omega) h3).trans h1, a1, fun hx => ?_, rfl⟩, fun x hx => ?_, hm.nil.trans (a3.mono (fun x hx => by simp [hx]))⟩
  · rcases a2 q hx with h | h
    · exact h3 h
    · omega
  · rcases List.mem_cons.1 hx with rfl | hx
    · exact .inl (by simp)
    · rcases a2 x hx with h | h
      · exact .inl (by simp [h])
      · exact .inr (by omega)

set_option maxRecDepth 100000 in
set_option maxHeartbeats 400000 in
theorem hDrop_any {w : World} {q fan : Nat} {ts : List Tg} {F : List Nat} (h : HRep w q fan ts F) (id : Int) :
    Calls Tryz.prog 14 #[.pointer (some ⟨q, 0, none⟩), .int .i64 id] w (HSetPost q fan (if (findG ts id).isSome then 0 else 3) (dropG ts id) F w) := by
  have hhas := has_any h id
  cases hf : findG ts id with
  | none =>
    have e2 : dropG ts id = ts := by unfold dropG; rw [hf]
    rw [hf] at hhas
    rw [e2]
    have HH := hideIt hhas
    have H := hideIt h
    clear hhas h hf e2
    go_enter Tryz.func14, Tryz.ntmps14
    go_wp2_with fail
    refine HH.out.mono ?_
    rintro e w1 ⟨rfl, hm⟩
    go_wp2
    go_ret
    exact hSame H.out hm 3
  | some n =>
    rw [hf] at hhas
    have h' := h
    obtain ⟨p, F0, h1, h2, h3, rfl⟩ := h'
    have HH := hideIt hhas
    have H := hideIt h
    have hlt := h.lt
    have HL := hideIt hlt
    have H1 := hideIt h1
    have H2 := hideIt h2
    clear hhas h hf hlt h1 h2
    go_enter Tryz.func14, Tryz.ntmps14
    go_wp2_with fail
    refine HH.out.mono ?_
    rintro e w1 ⟨rfl, hm⟩
    have g1 := (hm.block q (lt_of_block H1.out) (by simp)).trans H1.out
    have c := cell_hO g1
    have HG := hideIt g1
    have HM := hideIt hm
    clear g1 hm
    go_wp2_with fail
    refine (bDrop_any (H2.out.kept HM.out (by simp)) id).mono ?_
    intro e w2 hs
    have hfin := hSet HM.out HL.out HG.out h3 hs 0
    obtain ⟨rfl, _⟩ := hs
    have HF := hideIt hfin
    clear hfin
    go_wp2
    go_ret
    exact HF.out

/-- what Put tells -/
def putC (ts : List Tg) (id x0 y0 x1 y1 : Int) : Int := if idB id = false then 1 else if rectB x0 y0 x1 y1 = false then 2 else if findG ts id = none ∧ 400 ≤ ts.length then 4 else 0
def putG (ts : List Tg) (id x0 y0 x1 y1 : Int) (blk : Nat) : List Tg := if putC ts id x0 y0 x1 y1 = 0 then dropG ts id ++ [⟨blk, id, x0, y0, x1, y1⟩] else ts
def HPutPost (q fan : Nat) (ts : List Tg) (id x0 y0 x1 y1 : Int) (F : List Nat) (w : World) (e : Ending) (w' : World) : Prop := ∃ blk, HSetPost q fan (putC ts id x0 y0 x1 y1) (putG ts id x0 y0 x1 y1 blk) F w e w'

theorem hPutSame {w w' : World} {q fan : Nat} {ts : List Tg} {F : List Nat} {id x0 y0 x1 y1 c : Int} (h : HRep w q fan ts F) (hm : Mod [] w w') (hc : putC ts id x0 y0 x1 y1 = c) (h0 : c ≠ 0) : HPutPost q fan ts id x0 y0 x1 y1 F w (.returned (.int .i64 c)) w' := by
  refine ⟨0, ?_⟩
  unfold putG
  rw [hc, if_neg h0]
  exact hSame h hm c

set_option maxRecDepth 100000 in
set_option maxHeartbeats 1000000 in
theorem hPut_go {w : World} {q fan : Nat} {ts : List Tg} {F : List Nat} (h : HRep w q fan ts F) (id x0 y0 x1 y1 : Int) (hid : idB id = true) (hr : rectB x0 y0 x1 y1 = true) (b : Bool) (hb : (findG ts id).isSome = b) (hlen : b = true ∨ ts.length < 400) (hl2 : ts.length ≤ 100000) :
    Calls Tryz.prog 22 #[.pointer (some ⟨q, 0, none⟩), .int .i64 id, R4 x0 y0 x1 y1] w (HPutPost q fan ts id x0 y0 x1 y1 F w) := by
  have hc : putC ts id x0 y0 x1 y1 = 0 := by
    unfold putC
    rw [hid, hr, if_neg (by simp), if_neg (by simp), if_neg]
    rintro ⟨e, h4⟩
    rw [e] at hb
    simp at hb
    subst hb
    simp at hlen
    omega
  have hm0 : Mod [] w ((w.alloc (B4 x0 y0 x1 y1)).alloc (B4 x0 y0 x1 y1)) := (Mod.alloc _ _).trans (Mod.alloc _ _)
  have hz0 : ((w.alloc (B4 x0 y0 x1 y1)).alloc (B4 x0 y0 x1 y1)).heap[w.heap.size]? = some (B4 x0 y0 x1 y1) := by
    rw [Below.heap_alloc _ _ _ (by simp)]
    exact heap_alloc_new w _
  have hrect := isRect_any x0 y0 x1 y1 (w.alloc (B4 x0 y0 x1 y1))
  have hidc := isID_any id (w.alloc (B4 x0 y0 x1 y1))
  rw [hr] at hrect
  rw [hid] at hidc
  have hok := rectB_ok hr
  have hh0 := h.kept hm0 (by simp)
  have hhas := has_any hh0 id
  rw [hb] at hhas
  obtain ⟨p, F0, h1, h2, h3, rfl⟩ := hh0
  have hlt := h.lt
  have HFIN := hideIt (show ∀ (w1 w2 : World) e, Mod [] ((w.alloc (B4 x0 y0 x1 y1)).alloc (B4 x0 y0 x1 y1)) w1 → BPutPost p fan ts id x0 y0 x1 y1 F0 w1 e w2 → HPutPost q fan ts id x0 y0 x1 y1 (q :: F0) w (.returned (.int .i64 0)) w2 from fun w1 w2 e hm hs => by
    obtain ⟨blk, hs⟩ := hs
    refine ⟨blk, ?_⟩
    unfold putG
    rw [hc, if_pos rfl]
    exact hSet (hm0.trans hm) hlt ((hm.block q (lt_of_block h1) (by simp)).trans h1) h3 hs 0)
  have HB := hideIt (show ∀ w1, Mod [] ((w.alloc (B4 x0 y0 x1 y1)).alloc (B4 x0 y0 x1 y1)) w1 → Calls Tryz.prog 37 #[.pointer (some ⟨p, 0, none⟩), .int .i64 id, R4 x0 y0 x1 y1] w1 (BPutPost p fan ts id x0 y0 x1 y1 F0 w1) from fun w1 hm => bPut_any (h2.kept hm (by simp)) id hok)
  have HLEN := hideIt (show ∀ w1, Mod [] ((w.alloc (B4 x0 y0 x1 y1)).alloc (B4 x0 y0 x1 y1)) w1 → Calls Tryz.prog 19 #[.pointer (some ⟨q, 0, none⟩)] w1 (fun e w' => e = .returned (.int .i64 ts.length) ∧ w1 = w') from fun w1 hm => hLen_any (HRep.kept ⟨p, F0, h1, h2, h3, rfl⟩ hm (by simp)))
  have HCELL := hideIt (show ∀ w1, Mod [] ((w.alloc (B4 x0 y0 x1 y1)).alloc (B4 x0 y0 x1 y1)) w1 → w1.cell? ⟨q, 0, none⟩ = some (.pointer (some ⟨p, 0, none⟩)) from fun w1 hm => cell_hO ((hm.block q (lt_of_block h1) (by simp)).trans h1))
  have HZ := hideIt (show ∀ w1, Mod [] ((w.alloc (B4 x0 y0 x1 y1)).alloc (B4 x0 y0 x1 y1)) w1 → w1.heap[w.heap.size]? = some (B4 x0 y0 x1 y1) from fun w1 hm => (hm.block _ (lt_of_block hz0) (by simp)).trans hz0)
  have HID := hideIt hidc
  have HR := hideIt hrect
  have HH := hideIt hhas
  clear hc hm0 hz0 hrect hidc hid hr hok hhas h1 h2 h3 hlt h hb
  go_enter Tryz.func22, Tryz.ntmps22
  go_wp2_with fail
  refine HID.out.mono ?_
  rintro e w1 ⟨rfl, hw⟩
  obtain rfl := hw.symm
  clear hw
  go_wp2_with fail
  refine HR.out.mono ?_
  rintro e w1 ⟨rfl, hw⟩
  obtain rfl := hw.symm
  clear hw
  go_wp2_with fail
  refine HH.out.mono ?_
  rintro e w2 ⟨rfl, hm2⟩
  have c := HCELL.out w2.drew (hm2.trans (Mod.drew _))
  obtain ⟨z0, z1, z2, z3⟩ := cell_B4 (HZ.out w2.drew (hm2.trans (Mod.drew _)))
  have HM2 := hideIt hm2
  clear hm2
  cases b with
  | true =>
    clear hlen
    go_wp2_with fail
    go_region_with (go_at_call 37; refine (HB.out _ (HM2.out.trans (Mod.drew _))).mono ?_; rintro e w3 ⟨blk, rfl, hs⟩)
    all_goals
      have hfin := HFIN.out _ _ _ (HM2.out.trans (Mod.drew _)) ⟨blk, rfl, hs⟩
      have HF := hideIt hfin
      clear hfin
      go_wp2
      go_ret
      exact HF.out
  | false =>
    have hl4 : ts.length < 400 := by simpa using hlen
    have hl4' : ¬ ((400 : Int) ≤ (ts.length : Int)) := by omega
    clear hlen
    go_wp2_with fail
    refine (HLEN.out _ HM2.out).mono ?_
    rintro e w3 ⟨rfl, rfl⟩
    go_wp2_with fail
    go_region_with (go_at_call 37; refine (HB.out _ (HM2.out.trans (Mod.drew _))).mono ?_; rintro e w3 ⟨blk, rfl, hs⟩)
    all_goals
      have hfin := HFIN.out _ _ _ (HM2.out.trans (Mod.drew _)) ⟨blk, rfl, hs⟩
      have HF := hideIt hfin
      clear hfin
      go_wp2
      go_ret
      exact HF.out

end Go.Proofs.YtmfdlacmlnginaaGreat

namespace Go.Proofs.YtmfdlacmlnginaaGreat
open Go.RowKit Go.Maps
attribute [local go_sem] run_store_f32 run_neg_inf

set_option maxRecDepth 100000 in
theorem hPut_id {w : World} {q fan : Nat} {ts : List Tg} {F : List Nat} (h : HRep w q fan ts F) (id x0 y0 x1 y1 : Int) (hid : idB id = false) :
    Calls Tryz.prog 22 #[.pointer (some ⟨q, 0, none⟩), .int .i64 id, R4 x0 y0 x1 y1] w (HPutPost q fan ts id x0 y0 x1 y1 F w) := by
  have hc : putC ts id x0 y0 x1 y1 = 1 := by simp [putC, hid]
  have HF := hideIt (fun w' (hm : Mod [] w w') => hPutSame h hm hc (by omega))
  clear hc h
  go_enter Tryz.func22, Tryz.ntmps22
  go_wp2_with fail
  refine (isID_any _ _).mono ?_
  rw [hid]
  rintro e w1 ⟨rfl, hw⟩
  obtain rfl := hw.symm
  go_wp2
  go_ret
  exact HF.out _ (Mod.alloc _ _)

set_option maxRecDepth 100000 in
theorem hPut_rect {w : World} {q fan : Nat} {ts : List Tg} {F : List Nat} (h : HRep w q fan ts F) (id x0 y0 x1 y1 : Int) (hid : idB id = true) (hr : rectB x0 y0 x1 y1 = false) :
    Calls Tryz.prog 22 #[.pointer (some ⟨q, 0, none⟩), .int .i64 id, R4 x0 y0 x1 y1] w (HPutPost q fan ts id x0 y0 x1 y1 F w) := by
  have hc : putC ts id x0 y0 x1 y1 = 2 := by simp [putC, hid, hr]
  have HF := hideIt (fun w' (hm : Mod [] w w') => hPutSame h hm hc (by omega))
  clear hc h
  go_enter Tryz.func22, Tryz.ntmps22
  go_wp2_with fail
  refine (isID_any _ _).mono ?_
  rw [hid]
  rintro e w1 ⟨rfl, hw⟩
  obtain rfl := hw.symm
  go_wp2_with fail
  refine (isRect_any _ _ _ _ _).mono ?_
  rw [hr]
  rintro e w1 ⟨rfl, hw⟩
  obtain rfl := hw.symm
  go_wp2
  go_ret
  exact HF.out _ ((Mod.alloc _ _).trans (Mod.alloc _ _))

set_option maxRecDepth 100000 in
set_option maxHeartbeats 400000 in
theorem hPut_full {w : World} {q fan : Nat} {ts : List Tg} {F : List Nat} (h : HRep w q fan ts F) (id x0 y0 x1 y1 : Int) (hid : idB id = true) (hr : rectB x0 y0 x1 y1 = true) (hf : findG ts id = none) (hl : 400 ≤ ts.length) (hl2 : ts.length ≤ 100000) :
    Calls Tryz.prog 22 #[.pointer (some ⟨q, 0, none⟩), .int .i64 id, R4 x0 y0 x1 y1] w (HPutPost q fan ts id x0 y0 x1 y1 F w) := by
  have hc : putC ts id x0 y0 x1 y1 = 4 := by simp [putC, hid, hr, hf, hl]
  have HF := hideIt (fun w' (hm : Mod [] w w') => hPutSame h hm hc (by omega))
  have HH := hideIt (show ∀ w1, Mod [] w w1 → Calls Tryz.prog 29 #[.pointer (some ⟨q, 0, none⟩), .int .i64 id] w1 (HasPost false w1) from fun w1 hm => by
    have := has_any (h.kept hm (by simp)) id
    rw [hf] at this
    exact this)
  have HL := hideIt (fun w1 (hm : Mod [] w w1) => hLen_any (h.kept hm (by simp)))
  have hl' : (400 : Int) ≤ (ts.length : Int) := by omega
  clear hc h hf
  go_enter Tryz.func22, Tryz.ntmps22
  go_wp2_with fail
  refine (isID_any _ _).mono ?_
  rw [hid]
  rintro e w1 ⟨rfl, hw⟩
  obtain rfl := hw.symm
  go_wp2_with fail
  refine (isRect_any _ _ _ _ _).mono ?_
  rw [hr]
  rintro e w1 ⟨rfl, hw⟩
  have hm1 : Mod [] w w1 := by rw [hw]; exact (Mod.alloc _ _).trans (Mod.alloc _ _)
  clear hw
  go_wp2_with fail
  refine (HH.out _ hm1).mono ?_
  rintro e w2 ⟨rfl, hm2⟩
  have hm := hm1.trans hm2
  clear hm1 hm2
  go_wp2_with fail
  refine (HL.out _ hm).mono ?_
  rintro e w3 ⟨rfl, rfl⟩
  go_wp2
  go_ret
  exact HF.out _ hm

theorem hPut_any {w : World} {q fan : Nat} {ts : List Tg} {F : List Nat} (h : HRep w q fan ts F) (id x0 y0 x1 y1 : Int) (hl2 : ts.length ≤ 100000) :
    Calls Tryz.prog 22 #[.pointer (some ⟨q, 0, none⟩), .int .i64 id, R4 x0 y0 x1 y1] w (HPutPost q fan ts id x0 y0 x1 y1 F w) := by
  cases hid : idB id with
  | false => exact hPut_id h id x0 y0 x1 y1 hid
  | true =>
    cases hr : rectB x0 y0 x1 y1 with
    | false => exact hPut_rect h id x0 y0 x1 y1 hid hr
    | true =>
      cases hf : findG ts id with
      | some n => exact hPut_go h id x0 y0 x1 y1 hid hr true (by rw [hf]; rfl) (.inl rfl) hl2
      | none =>
        by_cases hl : ts.length < 400
        · exact hPut_go h id x0 y0 x1 y1 hid hr false (by rw [hf]; rfl) (.inr hl) hl2
        · exact hPut_full h id x0 y0 x1 y1 hid hr hf (by omega) hl2

/-! ### New -/
theorem hNew_bad (fan : Int) (w : World) (hf : fanB fan = false) : Calls Tryz.prog 28 #[.int .i64 fan] w fun e w' => e = .returned (.tuple #[.pointer none, .int .i64 1]) ∧ w = w' := by
  go_enter Tryz.func28, Tryz.ntmps28
  go_wp2_with fail
  refine (isFan_any _ _).mono ?_
  rw [hf]
  rintro e w' ⟨rfl, rfl⟩
  go_wp2
  go_ret2
  exact ⟨rfl, rfl⟩

def HNewPost (fan : Nat) (w : World) (e : Ending) (w' : World) : Prop := ∃ q F, e = .returned (.tuple #[.pointer (some ⟨q, 0, none⟩), .int .i64 0]) ∧ HRep w' q fan [] F ∧ (∀ x ∈ F, w.heap.size ≤ x) ∧ Mod [] w w'

set_option maxRecDepth 100000 in
theorem hNew_good (fan : Nat) (w : World) (h4 : 4 ≤ fan) (h16 : fan ≤ 16) : Calls Tryz.prog 28 #[.int .i64 fan] w (HNewPost fan w) := by
  have hf : fanB fan = true := fanB_iff.2 (by omega)
  go_enter Tryz.func28, Tryz.ntmps28
  go_wp2_with fail
  refine (isFan_any _ _).mono ?_
  rw [hf]
  rintro e w' ⟨rfl, hw⟩
  obtain rfl := hw.symm
  go_wp2_with fail
  refine (bNew_any h4 h16 w).mono ?_
  rintro e w1 ⟨p, F, rfl, a1, a2, a3⟩
  have hfin : HNewPost fan w (.returned (.tuple #[.pointer (some ⟨w1.heap.size, 0, none⟩), .int .i64 0])) (w1.alloc (hO p)) := by
    have hlt := a1.lt
    have hsz := a3.size
    refine ⟨_, w1.heap.size :: F, rfl, ⟨p, F, heap_alloc_new w1 _, a1.kept (Mod.alloc (F := []) _ _) (fun x _ h => by cases h), fun hx => absurd (hlt _ hx) (Nat.lt_irrefl _), rfl⟩, fun x hx => ?_, a3.trans (Mod.alloc _ _)⟩
    rcases List.mem_cons.1 hx with rfl | hx
    · exact hsz
    · exact a2 x hx
  have HF := hideIt hfin
  clear hfin a1 a2 a3
  go_wp2
  go_ret2
  exact HF.out

end Go.Proofs.YtmfdlacmlnginaaGreat

