import Derived.Test.YthimaoipogocfaaGreatPairP
namespace Go.Proofs.YthimaoipogocfaaGreat
open Go.RowKit Go.Maps Go.Sort
attribute [local go_sem] run_store_f32 run_neg_inf

/-! ### Pairs$1 looks at things -/
abbrev numO (n : Int) : Obj := .cells #[.int .i64 n] 3 (0, 0)
abbrev ptO (p : Nat) : Obj := .cells #[.pointer (some ⟨p, 0, none⟩)] 113 (0, 0)
theorem cell_numO {w : World} {p : Nat} {n : Int} (h : w.heap[p]? = some (numO n)) : w.cell? ⟨p, 0, none⟩ = some (.int .i64 n) := by rw [cell_of_block h]; rfl
theorem cell_ptO {w : World} {p q : Nat} (h : w.heap[p]? = some (ptO q)) : w.cell? ⟨p, 0, none⟩ = some (.pointer (some ⟨q, 0, none⟩)) := by rw [cell_of_block h]; rfl
theorem numO_set {w : World} {p : Nat} {n : Int} (h : w.heap[p]? = some (numO n)) (m : Int) : (w.setCell ⟨p, 0, none⟩ (.int .i64 m)).heap[p]? = some (numO m) := by rw [block_setCell h]; rfl

/-- what Pairs$1 has counted -/
def PairS (a : Tg) (ab pb n0 : Nat) (acc : List Tg) (G : List Nat) (w : World) : Prop :=
  G = [pb] ∧ w.heap[pb]? = some (numO ((n0 + (acc.filter (pairB a)).length : Nat) : Int)) ∧ w.heap[ab]? = some (ptO a.blk) ∧ TgAt w a ∧ ab ≠ pb ∧ a.blk ≠ pb ∧ n0 ≤ 1000000

theorem pairB_iff {a b : Tg} : pairB a b = true ↔ (a.id < b.id ∧ meetI a.x0 a.y0 a.x1 a.y1 b.x0 b.y0 b.x1 b.y1 = true) := by simp [pairB]

theorem pairSeen {a t : Tg} {ab pb n0 : Nat} {acc : List Tg} {w w' : World} (hS : PairS a ab pb n0 acc [pb] w) (hm : Mod [] w w') (hp : pairB a t = false) : VisPost (PairS a ab pb n0) (acc ++ [t]) [pb] w (.returned (.tuple #[])) w' := by
  obtain ⟨_, h1, h2, h3, h4, h5, h6⟩ := hS
  refine ⟨rfl, [pb], ⟨rfl, ?_, (hm.block ab (lt_of_block h2) (by simp)).trans h2, h3.kept hm (by simp), h4, h5, h6⟩, fun x hx => .inl hx, hm.nil⟩
  rw [List.filter_append, List.filter_cons_of_neg (by simp [hp]), List.filter_nil, List.append_nil]
  exact (hm.block pb (lt_of_block h1) (by simp)).trans h1

theorem pairMore {a t : Tg} {ab pb n0 : Nat} {acc : List Tg} {w w' : World} (hS : PairS a ab pb n0 acc [pb] w) (hm : Mod [] w w') (hp : pairB a t = true) : w'.heap[pb]? = some (numO ((n0 + (acc.filter (pairB a)).length : Nat) : Int)) ∧ VisPost (PairS a ab pb n0) (acc ++ [t]) [pb] w (.returned (.tuple #[])) (w'.setCell ⟨pb, 0, none⟩ (.int .i64 (((n0 + (acc.filter (pairB a)).length : Nat) : Int) + 1))) := by
  obtain ⟨_, h1, h2, h3, h4, h5, h6⟩ := hS
  have h1' := (hm.block pb (lt_of_block h1) (by simp)).trans h1
  have hms := Mod.setCell (F := [pb]) w' ⟨pb, 0, none⟩ (.int .i64 (((n0 + (acc.filter (pairB a)).length : Nat) : Int) + 1)) (by simp)
  have h2' := (hm.block ab (lt_of_block h2) (by simp)).trans h2
  refine ⟨h1', rfl, [pb], ⟨rfl, ?_, (hms.block ab (lt_of_block h2') (by simpa using h4)).trans h2', (h3.kept hm (by simp)).kept hms (by simpa using h5), h4, h5, h6⟩, fun x hx => .inl hx, hm.nil.trans hms⟩
  rw [List.filter_append, List.filter_cons_of_pos hp, List.filter_nil, List.length_append, numO_set h1']
  simp
  omega

set_option maxRecDepth 100000 in
set_option maxHeartbeats 400000 in
theorem pairs1_no {a t : Tg} {ab pb n0 : Nat} {acc : List Tg} {w : World} (hac : acc.length < 1000) (hS : PairS a ab pb n0 acc [pb] w) (ht : TgAt w t) (hid : ¬ a.id < t.id) :
    Calls Tryz.prog 70 #[.pointer (some ⟨t.blk, 0, none⟩), .pointer (some ⟨ab, 0, none⟩), .pointer (some ⟨pb, 0, none⟩)] w (VisPost (PairS a ab pb n0) (acc ++ [t]) [pb] w) := by
  obtain ⟨_, h1, h2, h3, h4, h5, h6⟩ := id hS
  obtain ⟨t4, t5, t6, t7, t8⟩ := ht.rest
  obtain ⟨a4, a5, a6, a7, a8⟩ := h3.rest
  have c1 := cell_numO h1
  have c2 := cell_ptO h2
  have hle := List.length_filter_le (pairB a) acc
  have HNO := hideIt (fun w' (hm : Mod [] w w') (hp : pairB a t = false) => pairSeen hS hm hp)
  have HPI := hideIt (pairB_iff (a := a) (b := t))
  generalize hN : n0 + (acc.filter (pairB a)).length = N at *
  have hNle : (N : Int) ≤ 2000000 := by omega
  clear h1 h2 h3 h4 h5 h6 hS ht hle hN
  have HP := hideIt (show pairB a t = false from by
    cases hpb : pairB a t with
    | false => rfl
    | true => exact absurd (HPI.out.1 hpb).1 hid)
  have hdec : decide (a.id < t.id) = false := decide_eq_false hid
  have d2 := cell_mod (Mod.drew w) c2
  have d4 := cell_mod (Mod.drew w) a4
  have e4 := cell_mod (Mod.drew w) t4
  clear HPI
  go_enter Tryz.func70, Tryz.ntmps70
  go_wp2_with fail
  go_region
  all_goals
    have HF := hideIt (HNO.out w.drew (Mod.drew _) HP.out)
    clear HNO
    go_wp2
    go_end0
    exact HF.out

set_option maxRecDepth 100000 in
set_option maxHeartbeats 1000000 in
theorem pairs1_any {a t : Tg} {ab pb n0 : Nat} {acc : List Tg} {w : World} (hac : acc.length < 1000) (hS : PairS a ab pb n0 acc [pb] w) (ht : TgAt w t) :
    Calls Tryz.prog 70 #[.pointer (some ⟨t.blk, 0, none⟩), .pointer (some ⟨ab, 0, none⟩), .pointer (some ⟨pb, 0, none⟩)] w (VisPost (PairS a ab pb n0) (acc ++ [t]) [pb] w) := by
  have HSS := hideIt hS
  have HTT := hideIt ht
  obtain ⟨_, h1, h2, h3, h4, h5, h6⟩ := id hS
  obtain ⟨t4, t5, t6, t7, t8⟩ := ht.rest
  obtain ⟨a4, a5, a6, a7, a8⟩ := h3.rest
  have c1 := cell_numO h1
  have c2 := cell_ptO h2
  have hle := List.length_filter_le (pairB a) acc
  have HNO := hideIt (fun w' (hm : Mod [] w w') (hp : pairB a t = false) => pairSeen hS hm hp)
  have HYES := hideIt (fun w' (hm : Mod [] w w') (hp : pairB a t = true) => pairMore hS hm hp)
  have HME := hideIt (fun W => meet_any a.x0 a.y0 a.x1 a.y1 t.x0 t.y0 t.x1 t.y1 W)
  have HPI := hideIt (pairB_iff (a := a) (b := t))
  generalize hN : n0 + (acc.filter (pairB a)).length = N at *
  have hNle : (N : Int) ≤ 2000000 := by omega
  clear h1 h2 h3 h4 h5 h6 hS ht hle hN
  by_cases hid : a.id < t.id
  · cases hm : meetI a.x0 a.y0 a.x1 a.y1 t.x0 t.y0 t.x1 t.y1 with
    | false =>
      have HP := hideIt (show pairB a t = false from by
        cases hpb : pairB a t with
        | false => rfl
        | true => have := (HPI.out.1 hpb).2; rw [hm] at this; cases this)
      rw [hm] at HME
      clear hm
      go_enter Tryz.func70, Tryz.ntmps70
      go_wp2_with fail
      go_region_with (go_at_call 71; refine (HME.out _).mono ?_; rintro e w4 ⟨rfl, hm2⟩)
      all_goals
        have HF := hideIt (HNO.out _ ((Mod.drew _).trans hm2) HP.out)
        clear hm2 t4 t5 t6 t7 t8 a4 a5 a6 a7 a8 c1 c2 HME HNO HYES
        go_wp2
        go_end0
        exact HF.out
    | true =>
      have HP := hideIt (HPI.out.2 ⟨hid, hm⟩)
      rw [hm] at HME
      clear hm
      go_enter Tryz.func70, Tryz.ntmps70
      go_wp2_with fail
      go_region_with (go_at_call 71; refine (HME.out _).mono ?_; rintro e w4 ⟨rfl, hm2⟩)
      all_goals
        obtain ⟨hp4, hfin⟩ := HYES.out _ ((Mod.drew _).trans hm2) HP.out
        have HF := hideIt hfin
        have cp := cell_numO hp4
        have fp := frozen_of_block hp4 0
        have hlt4 := lt_of_block hp4
        clear hm2 t4 t5 t6 t7 t8 a4 a5 a6 a7 a8 c1 c2 HME HNO HYES hfin hp4
        go_wp2
        go_end0
        exact HF.out
  · exact pairs1_no hac HSS.out HTT.out hid

end Go.Proofs.YthimaoipogocfaaGreat
