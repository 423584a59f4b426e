import Derived.Test.YthimaoipogocfaaGreatJ20
import Derived.Test.YthimaoipogocfaaGreatJ19
import Derived.Maps.RangeWalk
import Derived.Test.YthimaoipogocfaaGreatJ07
namespace Go.Proofs.YthimaoipogocfaaGreat
open Go.RowKit Go.Maps

theorem findG_mem {ts : List Tg} (hn : (ts.map (·.id)).Nodup) {s : Tg} (hs : s ∈ ts) : (findG ts s.id).isSome = true ∧ rectOfG ts s.id = R4 s.x0 s.y0 s.x1 s.y1 := by
  cases hf : findG ts s.id with
  | none => exact absurd rfl (findG_none hf s hs)
  | some n =>
    obtain ⟨r, hr, hid, hgd⟩ := findG_get hf
    have hrm := List.mem_of_getElem? hr
    have he : r.th = s.th := id_inj (L := ts.map Tg.th) (by rw [List.map_map]; exact hn) (List.mem_map.2 ⟨r, hrm, rfl⟩) (List.mem_map.2 ⟨s, hs, rfl⟩) hid
    refine ⟨rfl, ?_⟩
    unfold rectOfG
    rw [hf]
    simp only [hgd]
    have e1 := congrArg Th.x0 he
    have e2 := congrArg Th.y0 he
    have e3 := congrArg Th.x1 he
    have e4 := congrArg Th.y1 he
    simp only [Tg.th] at e1 e2 e3 e4
    rw [e1, e2, e3, e4]

end Go.Proofs.YthimaoipogocfaaGreat

namespace Go.Proofs.YthimaoipogocfaaGreat
open Go.RowKit Go.Maps
attribute [local go_sem] run_store_f32 run_neg_inf

/-! ### a range over the map of things -/
section
variable {P : Program} (w : World) {ops : Array Oper} {rest : List Oper} {o : Oper} {a : Act} {Q : Exit → Act → World → Prop}

theorem wpList_rangeT (hg : o.guard = none) (m : Operand) (t k e : TypeId) (hop : o.op = Op.range t m) (ht : P.underlying t = some (.map k e)) (bm : Nat) (es : Array MapEntry) (clock : Nat)
    (hm : a.eval m = .map (some bm)) (hb : w.heap[bm]? = some (.map es clock))
    (hK : wpList P ops Q rest (a.put o.dst (.pointer (some ⟨w.heap.size, 0, none⟩))) (w.alloc (.mapIter (some bm) clock #[] clock))) :
    wpList P ops Q (o :: rest) a w := by
  refine wpList_plain hg fun K' hK' => ?_
  unfold Oper.wp
  simp [execOp, hop, hm, run_range_map w t k e bm es clock ht hb, Result.andThen]
  exact hK' _ _ hK

theorem wpList_nextT (hg : o.guard = none) (it : Operand) (hop : o.op = Op.next it false) (r bm clock : Nat) (seen : Array Nat) (es : Array MapEntry)
    (hit : a.eval it = .pointer (some ⟨r, 0, none⟩)) (hr : w.heap[r]? = some (.mapIter (some bm) clock seen clock)) (hb : w.heap[bm]? = some (.map es clock)) (hB : Born es clock)
    (hDone : (leftOf es seen).size = 0 → wpList P ops Q rest (a.put o.dst (.tuple #[.bool false])) w)
    (hMore : ∀ e w', e ∈ (leftOf es seen).toList → Mod [r] w w' → w'.heap[r]? = some (.mapIter (some bm) clock (seen.push e.born) clock) → (Instr.entry (.pointer (some ⟨r, 0, none⟩))).run P w' = .ok (.tuple #[e.key, e.val]) w' →
      wpList P ops Q rest (a.put o.dst (.tuple #[.bool true, e.key, e.val])) w') :
    wpList P ops Q (o :: rest) a w := by
  refine wpList_plain hg fun K' hK' => ?_
  unfold Oper.wp
  rcases run_next_at (P := P) w o.type r bm clock clock seen es clock hr hb hB.1 (Nat.le_refl _) with ⟨h0, hrun⟩ | ⟨e, he, w1, hal, hrun⟩
  · simp [execOp, hop, hit, hrun, Result.andThen]
    exact hK' _ _ (hDone h0)
  · have hm1 : Mod [r] w w1 := by
      rcases hal with rfl | rfl
      · exact Mod.refl _ _
      · exact Mod.drew _
    have hr1 : w1.heap[r]? = some (.mapIter (some bm) clock seen clock) := by
      rcases hal with rfl | rfl
      · exact hr
      · exact hr
    have hb1 : w1.heap[bm]? = some (.map es clock) := by
      rcases hal with rfl | rfl
      · exact hb
      · exact hb
    obtain ⟨hm2, hr2⟩ := setBlock_modT (.mapIter (some bm) clock (seen.push e.born) clock) hr1
    have hne : bm ≠ r := fun h => by
      rw [h, hr1] at hb1
      cases hb1
    have hb2 := (hm2.block bm (lt_of_block hb1) (by simpa using hne)).trans hb1
    have hen := run_entry_at (P := P) _ r bm clock seen es clock e hr2 hb2 (mem_left he).1 hB.2
    simp [execOp, hop, hit, hrun, Result.andThen]
    exact hK' _ _ (hMore e _ he (hm1.trans hm2) hr2 hen)
end

/-! ### what was reckoned over the entries that came -/
def cntZ (c : Tg → Nat) (Z : List (MapEntry × Tg)) (seen : Array Nat) : Nat := (Z.map (fun p => if seen.contains p.1.born then c p.2 else 0)).sum
theorem cntZ_nil (c : Tg → Nat) (Z : List (MapEntry × Tg)) : cntZ c Z #[] = 0 := by
  induction Z with
  | nil => rfl
  | cons p Z ih => simp [cntZ] at ih ⊢; exact ih
theorem cntZ_same (c : Tg → Nat) {Z : List (MapEntry × Tg)} {seen : Array Nat} {b : Nat} (h : ∀ p ∈ Z, p.1.born ≠ b) : cntZ c Z (seen.push b) = cntZ c Z seen := by
  unfold cntZ
  congr 1
  refine List.map_congr_left (fun p hp => ?_)
  have := h p hp
  simp [this]
theorem cntZ_step (c : Tg → Nat) {Z : List (MapEntry × Tg)} {seen : Array Nat} {e : MapEntry} {t : Tg} (hn : (Z.map (·.1.born)).Nodup) (hm : (e, t) ∈ Z) (hs : seen.contains e.born = false) : cntZ c Z (seen.push e.born) = cntZ c Z seen + c t := by
  induction Z with
  | nil => cases hm
  | cons p Z ih =>
    rw [List.map_cons, List.nodup_cons] at hn
    have e1 : ∀ s, cntZ c (p :: Z) s = (if s.contains p.1.born then c p.2 else 0) + cntZ c Z s := fun s => by simp [cntZ]
    rw [e1, e1]
    rcases List.mem_cons.1 hm with hm | hm
    · subst hm
      have h2 : ∀ q ∈ Z, q.1.born ≠ e.born := fun q hq h => hn.1 (List.mem_map.2 ⟨q, hq, h⟩)
      rw [cntZ_same c h2, hs]
      simp
      omega
    · have hne : p.1.born ≠ e.born := fun h => hn.1 (List.mem_map.2 ⟨(e, t), hm, h.symm⟩)
      rw [ih hn.2 hm]
      have h3 : (seen.push e.born).contains p.1.born = seen.contains p.1.born := by simp [hne]
      rw [h3]
      omega
theorem cntZ_all (c : Tg → Nat) {Z : List (MapEntry × Tg)} {seen : Array Nat} (h : ∀ p ∈ Z, seen.contains p.1.born = true) : cntZ c Z seen = (Z.map (fun p => c p.2)).sum := by
  unfold cntZ
  congr 1
  refine List.map_congr_left (fun p hp => ?_)
  rw [h p hp]
  rfl
theorem cntZ_le (c : Tg → Nat) (Z : List (MapEntry × Tg)) (seen : Array Nat) : cntZ c Z seen ≤ (Z.map (fun p => c p.2)).sum := by
  induction Z with
  | nil => simp [cntZ]
  | cons p Z ih =>
    have e1 : cntZ c (p :: Z) seen = (if seen.contains p.1.born then c p.2 else 0) + cntZ c Z seen := by simp [cntZ]
    rw [e1, List.map_cons, List.sum_cons]
    split <;> omega

theorem EntP.zip {es : List MapEntry} {ts : List Tg} (h : EntP es ts) : (es.zip ts).map (·.1) = es ∧ (es.zip ts).map (·.2) = ts ∧ ∀ p ∈ es.zip ts, p.1.key = .int .i64 p.2.id ∧ p.1.val = .pointer (some ⟨p.2.blk, 0, none⟩) := by
  have hl := h.length
  refine ⟨List.map_fst_zip (by omega), List.map_snd_zip (by omega), ?_⟩
  induction es generalizing ts with
  | nil => simp
  | cons e es ih =>
    cases ts with
    | nil => simp
    | cons t ts =>
      obtain ⟨h1, h2, h3⟩ := h.cons
      intro p hp
      rw [List.zip_cons_cons] at hp
      rcases List.mem_cons.1 hp with rfl | hp
      · exact ⟨h1, h2⟩
      · exact ih h3 h3.length p hp

/-! ### pairs -/
def pairB (a b : Tg) : Bool := decide (a.id < b.id) && meetI a.x0 a.y0 a.x1 a.y1 b.x0 b.y0 b.x1 b.y1
def pairsOf (ts : List Tg) (a : Tg) : Nat := (ts.filter (pairB a)).length
def pairsG (ts : List Tg) : Nat := (ts.map (pairsOf ts)).sum

theorem sum_le (ts : List Tg) (c : Tg → Nat) {m : Nat} (h : ∀ t ∈ ts, c t ≤ m) : (ts.map c).sum ≤ ts.length * m := by
  induction ts with
  | nil => simp
  | cons t ts ih =>
    have h1 := h t (by simp)
    have h2 := ih (fun s hs => h s (by simp [hs]))
    rw [List.map_cons, List.sum_cons, List.length_cons, Nat.add_mul, Nat.one_mul]
    omega
theorem pairsG_le (ts : List Tg) : pairsG ts ≤ ts.length * ts.length := sum_le ts _ (fun _ _ => List.length_filter_le _ _)

end Go.Proofs.YthimaoipogocfaaGreat

namespace Go.Proofs.YthimaoipogocfaaGreat
open Go.RowKit Go.Maps Go.Sort
attribute [local go_sem] run_store_f32 run_neg_inf

/-! ### Pairs$1 looks at things -/
abbrev numO (n : Int) : Obj := .cells #[.int .i64 n] 3 (0, 0)
abbrev ptO (p : Nat) : Obj := .cells #[.pointer (some ⟨p, 0, none⟩)] 113 (0, 0)
theorem cell_numO {w : World} {p : Nat} {n : Int} (h : w.heap[p]? = some (numO n)) : w.cell? ⟨p, 0, none⟩ = some (.int .i64 n) := by rw [cell_of_block h]; rfl
theorem cell_ptO {w : World} {p q : Nat} (h : w.heap[p]? = some (ptO q)) : w.cell? ⟨p, 0, none⟩ = some (.pointer (some ⟨q, 0, none⟩)) := by rw [cell_of_block h]; rfl
theorem numO_set {w : World} {p : Nat} {n : Int} (h : w.heap[p]? = some (numO n)) (m : Int) : (w.setCell ⟨p, 0, none⟩ (.int .i64 m)).heap[p]? = some (numO m) := by rw [block_setCell h]; rfl

/-- what Pairs$1 has counted -/
def PairS (a : Tg) (ab pb n0 : Nat) (acc : List Tg) (G : List Nat) (w : World) : Prop :=
  G = [pb] ∧ w.heap[pb]? = some (numO ((n0 + (acc.filter (pairB a)).length : Nat) : Int)) ∧ w.heap[ab]? = some (ptO a.blk) ∧ TgAt w a ∧ ab ≠ pb ∧ a.blk ≠ pb ∧ n0 ≤ 1000000

theorem pairB_iff {a b : Tg} : pairB a b = true ↔ (a.id < b.id ∧ meetI a.x0 a.y0 a.x1 a.y1 b.x0 b.y0 b.x1 b.y1 = true) := by simp [pairB]

theorem pairSeen {a t : Tg} {ab pb n0 : Nat} {acc : List Tg} {w w' : World} (hS : PairS a ab pb n0 acc [pb] w) (hm : Mod [] w w') (hp : pairB a t = false) : VisPost (PairS a ab pb n0) (acc ++ [t]) [pb] w (.returned (.tuple #[])) w' := by
  obtain ⟨_, h1, h2, h3, h4, h5, h6⟩ := hS
  refine ⟨rfl, [pb], ⟨rfl, ?_, (hm.block ab (lt_of_block h2) (by simp)).trans h2, h3.kept hm (by simp), h4, h5, h6⟩, fun x hx => .inl hx, hm.nil⟩
  rw [List.filter_append, List.filter_cons_of_neg (by simp [hp]), List.filter_nil, List.append_nil]
  exact (hm.block pb (lt_of_block h1) (by simp)).trans h1

theorem pairMore {a t : Tg} {ab pb n0 : Nat} {acc : List Tg} {w w' : World} (hS : PairS a ab pb n0 acc [pb] w) (hm : Mod [] w w') (hp : pairB a t = true) : w'.heap[pb]? = some (numO ((n0 + (acc.filter (pairB a)).length : Nat) : Int)) ∧ VisPost (PairS a ab pb n0) (acc ++ [t]) [pb] w (.returned (.tuple #[])) (w'.setCell ⟨pb, 0, none⟩ (.int .i64 (((n0 + (acc.filter (pairB a)).length : Nat) : Int) + 1))) := by
  obtain ⟨_, h1, h2, h3, h4, h5, h6⟩ := hS
  have h1' := (hm.block pb (lt_of_block h1) (by simp)).trans h1
  have hms := Mod.setCell (F := [pb]) w' ⟨pb, 0, none⟩ (.int .i64 (((n0 + (acc.filter (pairB a)).length : Nat) : Int) + 1)) (by simp)
  have h2' := (hm.block ab (lt_of_block h2) (by simp)).trans h2
  refine ⟨h1', rfl, [pb], ⟨rfl, ?_, (hms.block ab (lt_of_block h2') (by simpa using h4)).trans h2', (h3.kept hm (by simp)).kept hms (by simpa using h5), h4, h5, h6⟩, fun x hx => .inl hx, hm.nil.trans hms⟩
  rw [List.filter_append, List.filter_cons_of_pos hp, List.filter_nil, List.length_append, numO_set h1']
  simp
  omega

set_option maxRecDepth 100000 in
set_option maxHeartbeats 400000 in
theorem pairs1_no {a t : Tg} {ab pb n0 : Nat} {acc : List Tg} {w : World} (hac : acc.length < 1000) (hS : PairS a ab pb n0 acc [pb] w) (ht : TgAt w t) (hid : ¬ a.id < t.id) :
    Calls Tryz.prog 70 #[.pointer (some ⟨t.blk, 0, none⟩), .pointer (some ⟨ab, 0, none⟩), .pointer (some ⟨pb, 0, none⟩)] w (VisPost (PairS a ab pb n0) (acc ++ [t]) [pb] w) := by
  obtain ⟨_, h1, h2, h3, h4, h5, h6⟩ := id hS
  obtain ⟨t4, t5, t6, t7, t8⟩ := ht.rest
  obtain ⟨a4, a5, a6, a7, a8⟩ := h3.rest
  have c1 := cell_numO h1
  have c2 := cell_ptO h2
  have hle := List.length_filter_le (pairB a) acc
  have HNO := hideIt (fun w' (hm : Mod [] w w') (hp : pairB a t = false) => pairSeen hS hm hp)
  have HPI := hideIt (pairB_iff (a := a) (b := t))
  generalize hN : n0 + (acc.filter (pairB a)).length = N at *
  have hNle : (N : Int) ≤ 2000000 := by omega
  clear h1 h2 h3 h4 h5 h6 hS ht hle hN
  have HP := hideIt (show pairB a t = false from by
    cases hpb : pairB a t with
    | false => rfl
    | true => exact absurd (HPI.out.1 hpb).1 hid)
  have hdec : decide (a.id < t.id) = false := decide_eq_false hid
  have d2 := cell_mod (Mod.drew w) c2
  have d4 := cell_mod (Mod.drew w) a4
  have e4 := cell_mod (Mod.drew w) t4
  clear HPI
  go_enter Tryz.func70, Tryz.ntmps70
  go_wp2_with fail
  go_region
  all_goals
    have HF := hideIt (HNO.out w.drew (Mod.drew _) HP.out)
    clear HNO
    go_wp2
    go_end0
    exact HF.out

set_option maxRecDepth 100000 in
set_option maxHeartbeats 1000000 in
theorem pairs1_any {a t : Tg} {ab pb n0 : Nat} {acc : List Tg} {w : World} (hac : acc.length < 1000) (hS : PairS a ab pb n0 acc [pb] w) (ht : TgAt w t) :
    Calls Tryz.prog 70 #[.pointer (some ⟨t.blk, 0, none⟩), .pointer (some ⟨ab, 0, none⟩), .pointer (some ⟨pb, 0, none⟩)] w (VisPost (PairS a ab pb n0) (acc ++ [t]) [pb] w) := by
  have HSS := hideIt hS
  have HTT := hideIt ht
  obtain ⟨_, h1, h2, h3, h4, h5, h6⟩ := id hS
  obtain ⟨t4, t5, t6, t7, t8⟩ := ht.rest
  obtain ⟨a4, a5, a6, a7, a8⟩ := h3.rest
  have c1 := cell_numO h1
  have c2 := cell_ptO h2
  have hle := List.length_filter_le (pairB a) acc
  have HNO := hideIt (fun w' (hm : Mod [] w w') (hp : pairB a t = false) => pairSeen hS hm hp)
  have HYES := hideIt (fun w' (hm : Mod [] w w') (hp : pairB a t = true) => pairMore hS hm hp)
  have HME := hideIt (fun W => meet_any a.x0 a.y0 a.x1 a.y1 t.x0 t.y0 t.x1 t.y1 W)
  have HPI := hideIt (pairB_iff (a := a) (b := t))
  generalize hN : n0 + (acc.filter (pairB a)).length = N at *
  have hNle : (N : Int) ≤ 2000000 := by omega
  clear h1 h2 h3 h4 h5 h6 hS ht hle hN
  by_cases hid : a.id < t.id
  · cases hm : meetI a.x0 a.y0 a.x1 a.y1 t.x0 t.y0 t.x1 t.y1 with
    | false =>
      have HP := hideIt (show pairB a t = false from by
        cases hpb : pairB a t with
        | false => rfl
        | true => have := (HPI.out.1 hpb).2; rw [hm] at this; cases this)
      rw [hm] at HME
      clear hm
      go_enter Tryz.func70, Tryz.ntmps70
      go_wp2_with fail
      go_region_with (go_at_call 71; refine (HME.out _).mono ?_; rintro e w4 ⟨rfl, hm2⟩)
      all_goals
        have HF := hideIt (HNO.out _ ((Mod.drew _).trans hm2) HP.out)
        clear hm2 t4 t5 t6 t7 t8 a4 a5 a6 a7 a8 c1 c2 HME HNO HYES
        go_wp2
        go_end0
        exact HF.out
    | true =>
      have HP := hideIt (HPI.out.2 ⟨hid, hm⟩)
      rw [hm] at HME
      clear hm
      go_enter Tryz.func70, Tryz.ntmps70
      go_wp2_with fail
      go_region_with (go_at_call 71; refine (HME.out _).mono ?_; rintro e w4 ⟨rfl, hm2⟩)
      all_goals
        obtain ⟨hp4, hfin⟩ := HYES.out _ ((Mod.drew _).trans hm2) HP.out
        have HF := hideIt hfin
        have cp := cell_numO hp4
        have fp := frozen_of_block hp4 0
        have hlt4 := lt_of_block hp4
        clear hm2 t4 t5 t6 t7 t8 a4 a5 a6 a7 a8 c1 c2 HME HNO HYES hfin hp4
        go_wp2
        go_end0
        exact HF.out
  · exact pairs1_no hac HSS.out HTT.out hid

end Go.Proofs.YthimaoipogocfaaGreat

namespace Go.Proofs.YthimaoipogocfaaGreat
open Go.RowKit Go.Maps
attribute [local go_sem] run_store_f32 run_neg_inf

theorem viewer_pair (a : Tg) (ab pb n0 : Nat) : Viewer 70 #[.pointer (some ⟨ab, 0, none⟩), .pointer (some ⟨pb, 0, none⟩)] (PairS a ab pb n0) where
  enters := enters_of Tryz.func70 (by kernel_rfl) rfl
  sees := fun acc G t w hac hS ht _ => by
    obtain rfl := hS.1
    exact pairs1_any hac hS ht
  keep := fun acc G w w' hS hm => by
    obtain ⟨h0, h1, h2, h3, h4, h5, h6⟩ := hS
    exact ⟨h0, (hm.block pb (lt_of_block h1) (by simp)).trans h1, (hm.block ab (lt_of_block h2) (by simp)).trans h2, h3.kept hm (by simp), h4, h5, h6⟩
  lt := fun acc G w hS x hx => by
    obtain ⟨rfl, h1, _⟩ := hS
    simp only [List.mem_singleton] at hx
    subst hx
    exact lt_of_block h1

/-- what is shown of a thing's own box holds every thing that meets it -/
theorem pairs_shown {w : World} {fan lo h : Nat} {k : Kd} {ts : List Tg} (hn : NodeAt w fan lo h k) (hp : k.ts.Perm ts) {a : Tg} (ha : RectOk a.x0 a.y0 a.x1 a.y1) : ((shown a.bx k.ts).filter (pairB a)).length = pairsOf ts a := by
  have e : (shown a.bx k.ts).filter (pairB a) = k.ts.filter (pairB a) := by
    unfold shown
    rw [List.filter_filter]
    refine List.filter_congr (fun t ht => ?_)
    cases hft : pairB a t with
    | false => rfl
    | true =>
      have hrt := (hn.thing t ht).1.rect
      obtain ⟨m1, m2, m3, m4⟩ := meetI_iff.1 (pairB_iff.1 hft).2
      have : t.bx.meets a.bx = true := Bx.of_meets hrt ha m2 m1 m4 m3
      rw [this]
      rfl
  rw [e]
  exact (hp.filter _).length_eq

def PairsPost (n : Nat) (w : World) (e : Ending) (w' : World) : Prop := e = .returned (.int .i64 (n : Int)) ∧ Mod [] w w'

/-- the loop over the things -/
structure PairsAt (w : World) (ts : List Tg) (es : Array MapEntry) (clock bm : Nat) (seen : Array Nat) (wr : World) : Prop where
  num : wr.heap[w.heap.size]? = some (numO ((cntZ (pairsOf ts) (es.toList.zip ts) seen : Nat) : Int))
  iter : wr.heap[w.heap.size + 1]? = some (.mapIter (some bm) clock seen clock)
  mod : Mod [] w wr

theorem PairsAt.left {w : World} {ts : List Tg} {es : Array MapEntry} {clock bm : Nat} {seen : Array Nat} {wr : World} (h : PairsAt w ts es clock bm seen wr) (hb : wr.heap[bm]? = some (.map es clock)) : wr.rangeLeft bm (w.heap.size + 1) = (leftOf es seen).size := by
  simp only [World.rangeLeft, hb, h.iter]

/-- one thing was looked at -/
theorem pairsStep {w : World} {p fan : Nat} {ts : List Tg} {bm : Nat} {es : Array MapEntry} {clock hh : Nat} {k : Kd} (ht : TreeAt w p fan ts bm es clock hh k) (hn : ts.length ≤ 1000) {seen : Array Nat} {e : MapEntry} (he : e ∈ (leftOf es seen).toList) :
    ∃ t ∈ ts, e.key = .int .i64 t.id ∧ e.val = .pointer (some ⟨t.blk, 0, none⟩) ∧ cntZ (pairsOf ts) (es.toList.zip ts) (seen.push e.born) = cntZ (pairsOf ts) (es.toList.zip ts) seen + pairsOf ts t ∧ cntZ (pairsOf ts) (es.toList.zip ts) seen ≤ 1000000 := by
  obtain ⟨hm, hs⟩ := mem_left he
  obtain ⟨z1, z2, z3⟩ := ht.ents.1.zip
  have hm2 : e ∈ (es.toList.zip ts).map (·.1) := by rw [z1]; exact hm
  obtain ⟨⟨e', t⟩, hp, rfl⟩ := List.mem_map.1 hm2
  obtain ⟨k1, k2⟩ := z3 _ hp
  have htm : t ∈ ts := by rw [← z2]; exact List.mem_map.2 ⟨_, hp, rfl⟩
  have hnd : ((es.toList.zip ts).map (·.1.born)).Nodup := by
    have : (es.toList.zip ts).map (·.1.born) = es.toList.map (·.born) := by
      conv => rhs; rw [← z1]
      rw [List.map_map]
      rfl
    rw [this]
    exact ht.ents.2.2
  refine ⟨t, htm, k1, k2, cntZ_step _ hnd hp hs, ?_⟩
  have h1 := cntZ_le (pairsOf ts) (es.toList.zip ts) seen
  have h2 : (es.toList.zip ts).map (fun p => pairsOf ts p.2) = ts.map (pairsOf ts) := by
    have e := congrArg (List.map (pairsOf ts)) z2
    rw [List.map_map] at e
    exact e
  rw [h2] at h1
  have h3 := pairsG_le ts
  unfold pairsG at h3
  have h4 : ts.length * ts.length ≤ 1000 * 1000 := Nat.mul_le_mul hn hn
  omega

theorem pairsEnd {w : World} {p fan : Nat} {ts : List Tg} {bm : Nat} {es : Array MapEntry} {clock hh : Nat} {k : Kd} (ht : TreeAt w p fan ts bm es clock hh k) {seen : Array Nat} (h0 : (leftOf es seen).size = 0) : cntZ (pairsOf ts) (es.toList.zip ts) seen = pairsG ts := by
  obtain ⟨z1, z2, z3⟩ := ht.ents.1.zip
  rw [cntZ_all _ (fun p hp => all_seen es seen h0 p.1 (by rw [← z1]; exact List.mem_map.2 ⟨p, hp, rfl⟩))]
  have e := congrArg (List.map (pairsOf ts)) z2
  rw [List.map_map] at e
  unfold pairsG
  rw [← e]
  rfl

set_option maxRecDepth 100000 in
set_option maxHeartbeats 1000000 in
theorem bPairs_any {w : World} {p fan : Nat} {ts : List Tg} {F : List Nat} (h : TreeRep w p fan ts F) (hn : ts.length ≤ 1000) :
    Calls Tryz.prog 43 #[.pointer (some ⟨p, 0, none⟩)] w (PairsPost (pairsG ts) w) := by
  obtain ⟨bm, es, clock, hh, k, ht, rfl⟩ := h
  have HT := hideIt ht
  have hm0 := Mod.alloc (F := []) w (numO 0)
  have hmI := Mod.alloc (F := []) (w.alloc (numO 0)) (.mapIter (some bm) clock #[] clock)
  have ht0 := ht.kept hm0 (by simp)
  obtain ⟨c0, c1, c2⟩ := cell_trO ht0.here
  have hmap := ht0.map
  have HMAP := hideIt hmap
  have HS := hideIt (show PairsAt w ts es clock bm #[] ((w.alloc (numO 0)).alloc (.mapIter (some bm) clock #[] clock)) from ⟨by
    rw [cntZ_nil]
    exact (hmI.block w.heap.size (by simp) (by simp)).trans (heap_alloc_new w _), by
    have := heap_alloc_new (w.alloc (numO 0)) (.mapIter (some bm) clock #[] clock)
    simpa using this, hm0.trans hmI⟩)
  clear ht hmap hm0 hmI ht0
  go_enter Tryz.func43, Tryz.ntmps43
  go_wp2_with (first | (at_range; refine wpList_rangeT _ rfl _ 116 _ _ rfl Tryz.underlying116 bm es clock rfl HMAP.out ?_) | go_in)
  go_frame
  have hsz : (w.alloc (numO 0)).heap.size = w.heap.size + 1 := by simp
  rw [hsz]
  clear hsz c0 c1 c2 HMAP
  go_loopw [] (fun wr => ∃ seen, Hid (PairsAt w ts es clock bm seen wr)) (fun wr => wr.rangeLeft bm (w.heap.size + 1))
  case atStart => exact ⟨#[], HS⟩
  case round =>
    obtain ⟨seen, hR⟩ := hrel
    have htr := HT.out.kept hR.out.mod (by simp)
    have hmapr := htr.map
    have hit := hR.out.iter
    have hB := HT.out.ents.2
    have HTR := hideIt htr
    have HIT := hideIt (And.intro hit (And.intro hmapr hB))
    clear htr hmapr hit hB
    go_wp2_with (first | (at_next; refine wpList_nextT _ rfl _ rfl (w.heap.size + 1) bm clock seen es rfl HIT.out.1 HIT.out.2.1 HIT.out.2.2 ?_ ?_) | go_in)
    · intro h0
      have hnum := hR.out.num
      rw [pairsEnd HT.out (by rw [h0]; rfl)] at hnum
      have cn := cell_numO hnum
      have HM := hideIt hR.out.mod
      clear hnum HIT HTR hR h0
      go_wp2
      go_ret
      exact ⟨rfl, HM.out⟩
    · intro e w1 he hm1 hr1 hen
      have he' : e ∈ (leftOf es seen).toList := by simpa using he
      obtain ⟨t, htm, hk, hv, hcnt, hle⟩ := pairsStep HT.out hn he'
      rw [hk, hv] at hen
      rw [hk, hv]
      have htk : t ∈ k.ts := HT.out.perm.mem_iff.2 htm
      have hmw1 : Mod [] w w1 := hR.out.mod.then hm1 (fun x hx => .inr (by simp at hx; omega))
      have hnum1 := (hm1.block w.heap.size (lt_of_block hR.out.num) (by simp)).trans hR.out.num
      have HLEFT := hideIt (And.intro (left_shrinks es seen e he') (hR.out.left HIT.out.2.1))
      have hlast := HT.out.node.thing t htk
      have hbl : t.blk < w.heap.size := lt_of_block hlast.1.here
      have hw1s : w.heap.size + 1 < w1.heap.size := lt_of_block hr1
      -- the block of a, with the thing in it
      obtain ⟨W0, hW0⟩ : ∃ W0, W0 = (w1.alloc (.cells #[.pointer none] 113)).setCell ⟨w1.heap.size, 0, none⟩ (.pointer (some ⟨t.blk, 0, none⟩)) := ⟨_, rfl⟩
      have hmW0 : Mod [] w1 W0 := by
        rw [hW0]
        exact (Mod.alloc w1 _).then (Mod.setCell (F := [w1.heap.size]) _ _ _ (by simp)) (fun x hx => .inr (by simp at hx; omega))
      have hab : W0.heap[w1.heap.size]? = some (ptO t.blk) := by
        rw [hW0, block_setCell (heap_alloc_new w1 _)]
        rfl
      have hnumW := (hmW0.block w.heap.size (lt_of_block hnum1) (by simp)).trans hnum1
      have hitW := (hmW0.block (w.heap.size + 1) (by omega) (by simp)).trans hr1
      have hmwW := hmw1.trans hmW0
      have htW := HT.out.kept hmwW (by simp)
      have hTgW := hlast.1.kept hmwW (by simp)
      have hshown := pairs_shown HT.out.node HT.out.perm hlast.1.rect
      have hnumS := (Bx.of_ok hlast.1.rect).num
      have HVIS := hideIt (show ∀ W, Mod [] W0 W → Calls Tryz.prog 68 #[.pointer (some ⟨k.p, 0, none⟩), bxV t.bx, .func (.func 70) #[] #[.pointer (some ⟨w1.heap.size, 0, none⟩), .pointer (some ⟨w.heap.size, 0, none⟩)]] W (VisPost (PairS t w1.heap.size w.heap.size (cntZ (pairsOf ts) (es.toList.zip ts) seen)) (shown t.bx k.ts) [w.heap.size] W) from fun W hm => by
        have := visit_any (viewer_pair t w1.heap.size w.heap.size (cntZ (pairsOf ts) (es.toList.zip ts) seen)) (b := t.bx) hnumS hh W k [] [w.heap.size] (htW.node.kept hm (by simp)) ⟨rfl, by simpa using (hm.block _ (lt_of_block hnumW) (by simp)).trans hnumW, (hm.block _ (lt_of_block hab) (by simp)).trans hab, hTgW.kept hm (by simp), by omega, by omega, hle⟩ (fun x hx => by
          have := HT.out.node.lt x hx
          simp
          omega) (by
          have := HT.out.perm.length_eq
          simp only [List.length_nil]
          omega)
        simpa using this)
      have HFIN := hideIt (show ∀ W w3 G', Mod [] W0 W → PairS t w1.heap.size w.heap.size (cntZ (pairsOf ts) (es.toList.zip ts) seen) (shown t.bx k.ts) G' w3 → Mod [w.heap.size] W w3 → PairsAt w ts es clock bm (seen.push e.born) w3 ∧ w3.heap[bm]? = some (.map es clock) from fun W w3 G' hm hs hm3 => by
        obtain ⟨_, p1, _⟩ := hs
        have hmod3 : Mod [] w w3 := (hmwW.trans hm).then hm3 (fun x hx => .inr (by simp at hx; omega))
        refine ⟨⟨?_, ?_, hmod3⟩, (HT.out.kept hmod3 (by simp)).map⟩
        · rw [hcnt, ← hshown]
          exact p1
        · exact ((hm3.block _ (Nat.lt_of_lt_of_le (lt_of_block hitW) hm.size) (by simp)).trans (hm.block _ (lt_of_block hitW) (by simp))).trans hitW)
      obtain ⟨_, ct, _⟩ := cell_trO htW.here
      obtain ⟨t0, t1, t2, t3⟩ := hTgW.cells
      have ca := cell_ptO hab
      have HKEEP := hideIt (show ∀ w', Mod [w.heap.size] W0 w' → Mod [w.heap.size] W0 w' ∧ w'.cell? ⟨p, 1, none⟩ = some (.pointer (some ⟨k.p, 0, none⟩)) ∧ w'.cell? ⟨w1.heap.size, 0, none⟩ = some (.pointer (some ⟨t.blk, 0, none⟩)) ∧ w'.cell? ⟨t.blk, 0, none⟩ = some (.float .f32 t.bx.x0) ∧ w'.cell? ⟨t.blk, 1, none⟩ = some (.float .f32 t.bx.y0) ∧ w'.cell? ⟨t.blk, 2, none⟩ = some (.float .f32 t.bx.x1) ∧ w'.cell? ⟨t.blk, 3, none⟩ = some (.float .f32 t.bx.y1) from fun w' hm => by
        have hp : p ∉ [w.heap.size] := by
          have := lt_of_block HT.out.here
          simp
          omega
        have hb : t.blk ∉ [w.heap.size] := by simp; omega
        have hwn : w1.heap.size ∉ [w.heap.size] := by simp; omega
        exact ⟨hm, cell_modG hm hp ct, cell_modG hm hwn ca, cell_modG hm hb t0, cell_modG hm hb t1, cell_modG hm hb t2, cell_modG hm hb t3⟩)
      have eg : ∀ args w, (callFunc 70 args).run Tryz.prog w = .ok (.enter 70 args) w := (viewer_pair t 0 0 0).enters
      clear hk hv hcnt he he' htm htk hmw1 hnum1 hr1 hm1 hR HIT HTR hle hlast hmW0 hab hnumW hitW hmwW htW hTgW hshown hnumS
      have hz0 : (w1.alloc (.cells #[.pointer none] 113)).cell? ⟨w1.heap.size, 0, none⟩ = some (.pointer none) := by rw [cell_of_block (heap_alloc_new w1 _)]; rfl
      have hfz := frozen_of_block (heap_alloc_new w1 (.cells #[.pointer none] 113)) 0
      have hW0' := hW0.symm
      clear hW0
      go_wp2_with fail
      clear hz0 hfz hW0' hen ct t0 t1 t2 t3 ca
      go_region_held (fun w' => Mod [w.heap.size] W0 w' ∧ w'.cell? ⟨p, 1, none⟩ = some (.pointer (some ⟨k.p, 0, none⟩)) ∧ w'.cell? ⟨w1.heap.size, 0, none⟩ = some (.pointer (some ⟨t.blk, 0, none⟩)) ∧ w'.cell? ⟨t.blk, 0, none⟩ = some (.float .f32 t.bx.x0) ∧ w'.cell? ⟨t.blk, 1, none⟩ = some (.float .f32 t.bx.y0) ∧ w'.cell? ⟨t.blk, 2, none⟩ = some (.float .f32 t.bx.x1) ∧ w'.cell? ⟨t.blk, 3, none⟩ = some (.float .f32 t.bx.y1))
        ((first
          | exact HKEEP.out _ (Mod.drew _)
          | exact HKEEP.out _ (by simp only [*])
          | exact HKEEP.out _ (Mod.trans (by simp only [*]) hm2.nil)
          | exact HKEEP.out _ (Mod.trans (by simp only [*]) s3)))
        ((first
          | (go_at_call 69; refine (edges_any t.bx _).mono ?_; rintro e2 w2 ⟨rfl, hm2⟩)
          | (go_at_call 68; refine (HVIS.out _ ((Mod.drew _).trans hm2)).mono ?_; rintro e2 w3 ⟨rfl, G', s1, s2, s3⟩)))
      all_goals
        obtain ⟨hP, hM⟩ := HFIN.out _ _ _ ((Mod.drew _).trans hm2) s1 s3
        have HP := hideIt hP
        have HL := hideIt (show w3.rangeLeft bm (w.heap.size + 1) < wr.rangeLeft bm (w.heap.size + 1) from by
          rw [hP.left hM, HLEFT.out.2]
          exact HLEFT.out.1)
        clear hP hM s1 s2 s3 hm2 HFIN HVIS HKEEP HLEFT
        go_wp2_with fail
        go_roundw
        case rel => exact ⟨_, HP⟩
        case measure => exact HL.out

end Go.Proofs.YthimaoipogocfaaGreat

namespace Go.Proofs.YthimaoipogocfaaGreat
open Go.RowKit Go.Maps
attribute [local go_sem] run_store_f32 run_neg_inf

set_option maxRecDepth 100000 in
theorem hPairs_any {w : World} {q fan : Nat} {ts : List Tg} {lg : List Int} {F : List Nat} (h : HRep w q fan ts lg F) (hn : ts.length ≤ 1000) :
    Calls Tryz.prog 25 #[.pointer (some ⟨q, 0, none⟩)] w (PairsPost (pairsG ts) w) := by
  obtain ⟨p, lv, F0, h1, h2, -, -, -, -, rfl⟩ := h
  have c := cell_hO h1
  have H2 := hideIt (bPairs_any h2 hn)
  clear h1 h2
  go_enter Tryz.func25, Tryz.ntmps25
  go_wp2_with fail
  refine H2.out.mono ?_
  rintro e w1 ⟨rfl, hm⟩
  go_wp2
  go_ret
  exact ⟨rfl, hm⟩

def pairT (a b : Th) : Bool := decide (a.id < b.id) && meetI a.x0 a.y0 a.x1 a.y1 b.x0 b.y0 b.x1 b.y1
def pairsT (L : List Th) : Nat := (L.map (fun a => (L.filter (pairT a)).length)).sum
theorem pairsG_T (ts : List Tg) : pairsG ts = pairsT (ts.map Tg.th) := by
  unfold pairsG pairsT
  rw [List.map_map]
  congr 1
  refine List.map_congr_left (fun a _ => ?_)
  show (ts.filter (pairB a)).length = ((ts.map Tg.th).filter (pairT a.th)).length
  rw [List.filter_map, List.length_map]
  rfl
theorem pairsT_perm {L M : List Th} (h : L.Perm M) : pairsT L = pairsT M := by
  unfold pairsT
  have e : ∀ a : Th, (L.filter (pairT a)).length = (M.filter (pairT a)).length := fun a => (h.filter _).length_eq
  have e2 : L.map (fun a => (L.filter (pairT a)).length) = L.map (fun a => (M.filter (pairT a)).length) := List.map_congr_left (fun a _ => e a)
  rw [e2]
  exact (h.map _).sum_nat

theorem kPairs_any {B : Nat} {w : World} {q fan : Nat} {L : List Th} {lg : List Int} (h : KRep B w q fan L lg) : Calls Tryz.prog 25 #[.pointer (some ⟨q, 0, none⟩)] w (PairsPost (pairsT L) w) := by
  obtain ⟨ts, F, h1, rfl, h3, h4⟩ := h.out
  rw [← pairsG_T]
  exact hPairs_any h1 h3

end Go.Proofs.YthimaoipogocfaaGreat

namespace Go.Proofs.YthimaoipogocfaaGreat
open Go.RowKit

/-- what waits: its number, how far it is, its node, the things that are meant -/
structure Wt where
  id : Int
  far : Int
  nd : Option Nat
  ts : List Tg

def Wt.le (a b : Wt) : Prop := a.far < b.far ∨ (a.far = b.far ∧ a.id ≤ b.id)
theorem Wt.le_refl (a : Wt) : a.le a := .inr ⟨rfl, Int.le_refl _⟩
theorem Wt.le_trans {a b c : Wt} (h : a.le b) (k : b.le c) : a.le c := by unfold Wt.le at *; omega
theorem Wt.le_total (a b : Wt) : a.le b ∨ b.le a := by unfold Wt.le; omega
def wt0 : Wt := ⟨0, 0, none, []⟩
def wat (l : List Wt) (k : Nat) : Wt := l.getD k wt0
theorem wat_get {l : List Wt} {k : Nat} (h : k < l.length) : l[k]? = some (wat l k) := by
  unfold wat
  rw [List.getD_eq_getElem?_getD, List.getElem?_eq_getElem h]
  rfl
theorem wat_mem {l : List Wt} {k : Nat} (h : k < l.length) : wat l k ∈ l := List.mem_of_getElem? (wat_get h)
def swapW (l : List Wt) (i j : Nat) : List Wt := (l.set i (wat l j)).set j (wat l i)
theorem swapW_length (l : List Wt) (i j : Nat) : (swapW l i j).length = l.length := by simp [swapW]
theorem wat_swap {l : List Wt} {i j : Nat} (hi : i < l.length) (hj : j < l.length) (k : Nat) : wat (swapW l i j) k = if k = j then wat l i else if k = i then wat l j else wat l k := by
  have e : ∀ (m : List Wt) n, wat m n = (m[n]?).getD wt0 := fun m n => List.getD_eq_getElem?_getD
  rw [e (swapW l i j) k, swapW, List.getElem?_set, List.getElem?_set]
  by_cases h1 : k = j
  · subst h1; simp [hj]
  · have h1' : ¬ j = k := fun h => h1 h.symm
    rw [if_neg h1', if_neg h1]
    by_cases h2 : k = i
    · subst h2; simp [hi]
    · have h2' : ¬ i = k := fun h => h2 h.symm
      rw [if_neg h2', if_neg h2, e l k]

theorem swapW_perm {l : List Wt} {i j : Nat} (hi : i < l.length) (hj : j < l.length) : (swapW l i j).Perm l := by
  have h := Array.swap_perm (xs := l.toArray) (i := i) (j := j) (by simpa using hi) (by simpa using hj)
  have h2 := h.toList
  have e1 : (l.toArray.swap i j (by simpa using hi) (by simpa using hj)).toList = swapW l i j := by
    have a1 : wat l i = l[i] := by have := wat_get hi; rw [List.getElem?_eq_getElem hi] at this; exact (Option.some.inj this).symm
    have a2 : wat l j = l[j] := by have := wat_get hj; rw [List.getElem?_eq_getElem hj] at this; exact (Option.some.inj this).symm
    simp [Array.swap, swapW, a1, a2]
  rw [e1] at h2
  simpa using h2

/-- a heap, of the first n -/
def HeapW (l : List Wt) (n : Nat) : Prop := ∀ k, k < n → 0 < k → (wat l ((k - 1) / 2)).le (wat l k)
/-- .. but what stands at j may be too small -/
def UpW (l : List Wt) (n j : Nat) : Prop := (∀ k, k < n → 0 < k → k ≠ j → (wat l ((k - 1) / 2)).le (wat l k)) ∧ ∀ k, k < n → 0 < k → (k - 1) / 2 = j → 0 < j → (wat l ((j - 1) / 2)).le (wat l k)
/-- .. but what stands at i may be too great -/
def DownW (l : List Wt) (n i : Nat) : Prop := (∀ k, k < n → 0 < k → (k - 1) / 2 ≠ i → (wat l ((k - 1) / 2)).le (wat l k)) ∧ ∀ k, k < n → 0 < k → (k - 1) / 2 = i → 0 < i → (wat l ((i - 1) / 2)).le (wat l k)

theorem HeapW.least {l : List Wt} {n : Nat} (h : HeapW l n) : ∀ k, k < n → (wat l 0).le (wat l k) := by
  intro k
  induction k using Nat.strongRecOn with
  | ind k ih =>
    intro hk
    by_cases h0 : k = 0
    · subst h0; exact Wt.le_refl _
    · exact Wt.le_trans (ih ((k - 1) / 2) (by omega) (by omega)) (h k hk (by omega))

theorem UpW.done {l : List Wt} {n j : Nat} (h : UpW l n j) (hj : j = 0 ∨ (wat l ((j - 1) / 2)).le (wat l j)) : HeapW l n := by
  intro k hk h0
  by_cases e : k = j
  · subst e
    rcases hj with hj | hj
    · omega
    · exact hj
  · exact h.1 k hk h0 e

theorem UpW.step {l : List Wt} {n j : Nat} (h : UpW l n j) (hn : n ≤ l.length) (hj : j < n) (h0 : 0 < j) (hle : (wat l j).le (wat l ((j - 1) / 2))) : UpW (swapW l ((j - 1) / 2) j) n ((j - 1) / 2) := by
  have hi : (j - 1) / 2 < l.length := by omega
  have hj' : j < l.length := by omega
  have hne : (j - 1) / 2 ≠ j := by omega
  constructor
  · intro k hk k0 kne
    rw [wat_swap hi hj', wat_swap hi hj']
    by_cases e1 : k = j
    · subst e1
      rw [if_neg hne, if_pos rfl, if_pos rfl]
      exact hle
    · rw [if_neg e1, if_neg kne]
      by_cases e2 : (k - 1) / 2 = j
      · rw [if_pos e2]
        exact h.2 k hk k0 e2 h0
      · rw [if_neg e2]
        by_cases e3 : (k - 1) / 2 = (j - 1) / 2
        · rw [if_pos e3]
          have := h.1 k hk k0 e1
          rw [e3] at this
          exact Wt.le_trans hle this
        · rw [if_neg e3]
          exact h.1 k hk k0 e1
  · intro k hk k0 kp ip
    rw [wat_swap hi hj', wat_swap hi hj']
    have g1 : ((j - 1) / 2 - 1) / 2 ≠ j := by omega
    have g2 : ((j - 1) / 2 - 1) / 2 ≠ (j - 1) / 2 := by omega
    rw [if_neg g1, if_neg g2]
    have hpar := h.1 ((j - 1) / 2) (by omega) ip hne
    by_cases e1 : k = j
    · subst e1
      rw [if_pos rfl]
      exact hpar
    · have e2 : k ≠ (j - 1) / 2 := by omega
      rw [if_neg e1, if_neg e2]
      have := h.1 k hk k0 e1
      rw [kp] at this
      exact Wt.le_trans hpar this

theorem DownW.done {l : List Wt} {n i : Nat} (h : DownW l n i) (hc : ∀ k, k < n → 0 < k → (k - 1) / 2 = i → (wat l i).le (wat l k)) : HeapW l n := by
  intro k hk h0
  by_cases e : (k - 1) / 2 = i
  · rw [e]; exact hc k hk h0 e
  · exact h.1 k hk h0 e

theorem DownW.step {l : List Wt} {n i j : Nat} (h : DownW l n i) (hn : n ≤ l.length) (hj : j < n) (hji : (j - 1) / 2 = i) (h0 : 0 < j) (hle : (wat l j).le (wat l i)) (hmin : ∀ k, k < n → 0 < k → (k - 1) / 2 = i → (wat l j).le (wat l k)) : DownW (swapW l i j) n j := by
  have hi : i < l.length := by omega
  have hj' : j < l.length := by omega
  have hne : i ≠ j := by omega
  constructor
  · intro k hk k0 kne
    rw [wat_swap hi hj', wat_swap hi hj']
    rw [if_neg kne]
    by_cases e3 : (k - 1) / 2 = i
    · rw [if_pos e3]
      by_cases e1 : k = j
      · subst e1
        rw [if_pos rfl]
        exact hle
      · have e2 : k ≠ i := by omega
        rw [if_neg e1, if_neg e2]
        exact hmin k hk k0 e3
    · rw [if_neg e3]
      by_cases e1 : k = j
      · subst e1; exact absurd hji e3
      · rw [if_neg e1]
        by_cases e2 : k = i
        · subst e2
          rw [if_pos rfl]
          exact h.2 j hj h0 hji k0
        · rw [if_neg e2]
          exact h.1 k hk k0 e3
  · intro k hk k0 kp jp
    rw [wat_swap hi hj', wat_swap hi hj']
    have e1 : k ≠ j := by omega
    have e2 : k ≠ i := by omega
    rw [hji, if_neg hne, if_pos rfl, if_neg e1, if_neg e2]
    have := h.1 k hk k0 (by omega)
    rw [kp] at this
    exact this

/-- a heap's beginning, when what stood at n comes to its front -/
theorem HeapW.pop {l : List Wt} {n : Nat} (h : HeapW l (n + 1)) (hn : n < l.length) : DownW (swapW l 0 n) n 0 := by
  constructor
  · intro k hk k0 kne
    rw [wat_swap (by omega) hn, wat_swap (by omega) hn]
    rw [if_neg (by omega), if_neg kne, if_neg (by omega), if_neg (by omega)]
    exact h k (by omega) k0
  · intro k hk k0 kp ip
    omega

theorem HeapW.push {l : List Wt} (h : HeapW l l.length) (x : Wt) : UpW (l ++ [x]) (l.length + 1) l.length := by
  have e : ∀ k, k < l.length → wat (l ++ [x]) k = wat l k := fun k hk => by
    unfold wat
    rw [List.getD_eq_getElem?_getD, List.getD_eq_getElem?_getD, List.getElem?_append_left hk]
  constructor
  · intro k hk k0 kne
    rw [e _ (by omega), e _ (by omega)]
    exact h k (by omega) k0
  · intro k hk k0 kp jp
    omega

end Go.Proofs.YthimaoipogocfaaGreat

namespace Go.Proofs.YthimaoipogocfaaGreat
open Go.RowKit

/-- what is told of one thing: its number, how far it is -/
structure Ht where
  id : Int
  far : Int
theorem Ht.ext' {a b : Ht} (h1 : a.id = b.id) (h2 : a.far = b.far) : a = b := by
  cases a; cases b; simp at *; exact ⟨h1, h2⟩
def hle (a b : Ht) : Bool := decide (a.far < b.far ∨ (a.far = b.far ∧ a.id ≤ b.id))
theorem hle_iff {a b : Ht} : hle a b = true ↔ (a.far < b.far ∨ (a.far = b.far ∧ a.id ≤ b.id)) := by simp [hle]
def sortH (l : List Ht) : List Ht := l.mergeSort hle
theorem sortH_perm (l : List Ht) : (sortH l).Perm l := List.mergeSort_perm l hle
theorem sortH_pairwise (l : List Ht) : (sortH l).Pairwise (fun a b => hle a b = true) :=
  List.pairwise_mergeSort (le := hle) (fun a b c h1 h2 => by rw [hle_iff] at *; omega) (fun a b => by simp only [Bool.or_eq_true]; rw [hle_iff, hle_iff]; omega) l
theorem sortH_unique {l m : List Ht} (hp : m.Perm l) (hs : m.Pairwise (fun a b => hle a b = true)) : m = sortH l :=
  List.Perm.eq_of_pairwise (le := fun a b => hle a b = true) (fun a b _ _ h1 h2 => by
    rw [hle_iff] at h1 h2
    exact Ht.ext' (by omega) (by omega)) hs (sortH_pairwise l) (hp.trans (sortH_perm l).symm)
theorem sortH_congr {l m : List Ht} (h : l.Perm m) : sortH l = sortH m := sortH_unique ((sortH_perm l).trans h) (sortH_pairwise l)
theorem sortH_length (l : List Ht) : (sortH l).length = l.length := (sortH_perm l).length_eq

/-- the nearest were taken, one behind the other -/
theorem near_done {hits pend all : List Ht} {most : Nat} (hp : (hits ++ pend).Perm all) (hs : hits.Pairwise (fun a b => hle a b = true)) (hb : ∀ a ∈ hits, ∀ b ∈ pend, hle a b = true) (he : hits.length = most ∨ (pend = [] ∧ hits.length ≤ most)) : hits = (sortH all).take most := by
  have e : hits ++ sortH pend = sortH all := by
    refine sortH_unique (((sortH_perm pend).append_left hits).trans hp) ?_
    refine List.pairwise_append.2 ⟨hs, sortH_pairwise pend, fun a ha b hb' => hb a ha b ((sortH_perm pend).mem_iff.1 hb')⟩
  rw [← e]
  rcases he with he | ⟨he, hl⟩
  · rw [← he, List.take_left']
    rfl
  · subst he
    have : sortH [] = [] := List.eq_nil_of_length_eq_zero (by rw [sortH_length]; rfl)
    rw [this, List.append_nil, List.take_of_length_le hl]

end Go.Proofs.YthimaoipogocfaaGreat

