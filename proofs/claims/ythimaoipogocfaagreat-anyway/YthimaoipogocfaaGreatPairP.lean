import Derived.Test.YthimaoipogocfaaGreatJ19
import Derived.Maps.RangeWalk
namespace Go.Proofs.YthimaoipogocfaaGreat
open Go.RowKit Go.Maps
attribute [local go_sem] run_store_f32 run_neg_inf

/-! ### a range over the map of things -/
section
variable {P : Program} (w : World) {ops : Array Oper} {rest : List Oper} {o : Oper} {a : Act} {Q : Exit → Act → World → Prop}

theorem wpList_rangeT (hg : o.guard = none) (m : Operand) (t k e : TypeId) (hop : o.op = Op.range t m) (ht : P.underlying t = some (.map k e)) (bm : Nat) (es : Array MapEntry) (clock : Nat)
    (hm : a.eval m = .map (some bm)) (hb : w.heap[bm]? = some (.map es clock))
    (hK : wpList P ops Q rest (a.put o.dst (.pointer (some ⟨w.heap.size, 0, none⟩))) (w.alloc (.mapIter (some bm) clock #[] clock))) :
    wpList P ops Q (o :: rest) a w := by
  refine wpList_plain hg fun K' hK' => ?_
  unfold Oper.wp
  simp [execOp, hop, hm, run_range_map w t k e bm es clock ht hb, Result.andThen]
  exact hK' _ _ hK

theorem wpList_nextT (hg : o.guard = none) (it : Operand) (hop : o.op = Op.next it false) (r bm clock : Nat) (seen : Array Nat) (es : Array MapEntry)
    (hit : a.eval it = .pointer (some ⟨r, 0, none⟩)) (hr : w.heap[r]? = some (.mapIter (some bm) clock seen clock)) (hb : w.heap[bm]? = some (.map es clock)) (hB : Born es clock)
    (hDone : (leftOf es seen).size = 0 → wpList P ops Q rest (a.put o.dst (.tuple #[.bool false])) w)
    (hMore : ∀ e w', e ∈ (leftOf es seen).toList → Mod [r] w w' → w'.heap[r]? = some (.mapIter (some bm) clock (seen.push e.born) clock) → (Instr.entry (.pointer (some ⟨r, 0, none⟩))).run P w' = .ok (.tuple #[e.key, e.val]) w' →
      wpList P ops Q rest (a.put o.dst (.tuple #[.bool true, e.key, e.val])) w') :
    wpList P ops Q (o :: rest) a w := by
  refine wpList_plain hg fun K' hK' => ?_
  unfold Oper.wp
  rcases run_next_at (P := P) w o.type r bm clock clock seen es clock hr hb hB.1 (Nat.le_refl _) with ⟨h0, hrun⟩ | ⟨e, he, w1, hal, hrun⟩
  · simp [execOp, hop, hit, hrun, Result.andThen]
    exact hK' _ _ (hDone h0)
  · have hm1 : Mod [r] w w1 := by
      rcases hal with rfl | rfl
      · exact Mod.refl _ _
      · exact Mod.drew _
    have hr1 : w1.heap[r]? = some (.mapIter (some bm) clock seen clock) := by
      rcases hal with rfl | rfl
      · exact hr
      · exact hr
    have hb1 : w1.heap[bm]? = some (.map es clock) := by
      rcases hal with rfl | rfl
      · exact hb
      · exact hb
    obtain ⟨hm2, hr2⟩ := setBlock_modT (.mapIter (some bm) clock (seen.push e.born) clock) hr1
    have hne : bm ≠ r := fun h => by
      rw [h, hr1] at hb1
      cases hb1
    have hb2 := (hm2.block bm (lt_of_block hb1) (by simpa using hne)).trans hb1
    have hen := run_entry_at (P := P) _ r bm clock seen es clock e hr2 hb2 (mem_left he).1 hB.2
    simp [execOp, hop, hit, hrun, Result.andThen]
    exact hK' _ _ (hMore e _ he (hm1.trans hm2) hr2 hen)
end

/-! ### what was reckoned over the entries that came -/
def cntZ (c : Tg → Nat) (Z : List (MapEntry × Tg)) (seen : Array Nat) : Nat := (Z.map (fun p => if seen.contains p.1.born then c p.2 else 0)).sum
theorem cntZ_nil (c : Tg → Nat) (Z : List (MapEntry × Tg)) : cntZ c Z #[] = 0 := by
  induction Z with
  | nil => rfl
  | cons p Z ih => simp [cntZ] at ih ⊢; exact ih
theorem cntZ_same (c : Tg → Nat) {Z : List (MapEntry × Tg)} {seen : Array Nat} {b : Nat} (h : ∀ p ∈ Z, p.1.born ≠ b) : cntZ c Z (seen.push b) = cntZ c Z seen := by
  unfold cntZ
  congr 1
  refine List.map_congr_left (fun p hp => ?_)
  have := h p hp
  simp [this]
theorem cntZ_step (c : Tg → Nat) {Z : List (MapEntry × Tg)} {seen : Array Nat} {e : MapEntry} {t : Tg} (hn : (Z.map (·.1.born)).Nodup) (hm : (e, t) ∈ Z) (hs : seen.contains e.born = false) : cntZ c Z (seen.push e.born) = cntZ c Z seen + c t := by
  induction Z with
  | nil => cases hm
  | cons p Z ih =>
    rw [List.map_cons, List.nodup_cons] at hn
    have e1 : ∀ s, cntZ c (p :: Z) s = (if s.contains p.1.born then c p.2 else 0) + cntZ c Z s := fun s => by simp [cntZ]
    rw [e1, e1]
    rcases List.mem_cons.1 hm with hm | hm
    · subst hm
      have h2 : ∀ q ∈ Z, q.1.born ≠ e.born := fun q hq h => hn.1 (List.mem_map.2 ⟨q, hq, h⟩)
      rw [cntZ_same c h2, hs]
      simp
      omega
    · have hne : p.1.born ≠ e.born := fun h => hn.1 (List.mem_map.2 ⟨(e, t), hm, h.symm⟩)
      rw [ih hn.2 hm]
      have h3 : (seen.push e.born).contains p.1.born = seen.contains p.1.born := by simp [hne]
      rw [h3]
      omega
theorem cntZ_all (c : Tg → Nat) {Z : List (MapEntry × Tg)} {seen : Array Nat} (h : ∀ p ∈ Z, seen.contains p.1.born = true) : cntZ c Z seen = (Z.map (fun p => c p.2)).sum := by
  unfold cntZ
  congr 1
  refine List.map_congr_left (fun p hp => ?_)
  rw [h p hp]
  rfl
theorem cntZ_le (c : Tg → Nat) (Z : List (MapEntry × Tg)) (seen : Array Nat) : cntZ c Z seen ≤ (Z.map (fun p => c p.2)).sum := by
  induction Z with
  | nil => simp [cntZ]
  | cons p Z ih =>
    have e1 : cntZ c (p :: Z) seen = (if seen.contains p.1.born then c p.2 else 0) + cntZ c Z seen := by simp [cntZ]
    rw [e1, List.map_cons, List.sum_cons]
    split <;> omega

theorem EntP.zip {es : List MapEntry} {ts : List Tg} (h : EntP es ts) : (es.zip ts).map (·.1) = es ∧ (es.zip ts).map (·.2) = ts ∧ ∀ p ∈ es.zip ts, p.1.key = .int .i64 p.2.id ∧ p.1.val = .pointer (some ⟨p.2.blk, 0, none⟩) := by
  have hl := h.length
  refine ⟨List.map_fst_zip (by omega), List.map_snd_zip (by omega), ?_⟩
  induction es generalizing ts with
  | nil => simp
  | cons e es ih =>
    cases ts with
    | nil => simp
    | cons t ts =>
      obtain ⟨h1, h2, h3⟩ := h.cons
      intro p hp
      rw [List.zip_cons_cons] at hp
      rcases List.mem_cons.1 hp with rfl | hp
      · exact ⟨h1, h2⟩
      · exact ih h3 h3.length p hp

/-! ### pairs -/
def pairB (a b : Tg) : Bool := decide (a.id < b.id) && meetI a.x0 a.y0 a.x1 a.y1 b.x0 b.y0 b.x1 b.y1
def pairsOf (ts : List Tg) (a : Tg) : Nat := (ts.filter (pairB a)).length
def pairsG (ts : List Tg) : Nat := (ts.map (pairsOf ts)).sum

theorem sum_le (ts : List Tg) (c : Tg → Nat) {m : Nat} (h : ∀ t ∈ ts, c t ≤ m) : (ts.map c).sum ≤ ts.length * m := by
  induction ts with
  | nil => simp
  | cons t ts ih =>
    have h1 := h t (by simp)
    have h2 := ih (fun s hs => h s (by simp [hs]))
    rw [List.map_cons, List.sum_cons, List.length_cons, Nat.add_mul, Nat.one_mul]
    omega
theorem pairsG_le (ts : List Tg) : pairsG ts ≤ ts.length * ts.length := sum_le ts _ (fun _ _ => List.length_filter_le _ _)

end Go.Proofs.YthimaoipogocfaaGreat
