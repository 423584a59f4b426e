import Derived.Test.YthimaoipogocfaaGreatRepS
import Derived.Test.YthimaoipogocfaaGreatJ18
namespace Go.Proofs.YthimaoipogocfaaGreat
open Go.RowKit

/-! ### logs that the calls have written, cut off anywhere -/
inductive Hist (fan : Int) : St → Prop
  | new : Hist fan (stNew fan)
  | put {s : St} (t : Th) (h : Hist fan s) (ho : okT s.L t) : Hist fan (stPut s t)
  | drop {s : St} (id : Int) (h : Hist fan s) (hi : 0 ≤ id ∧ id ≤ 4095) (hh : hasT s.L id = true) : Hist fan (stDrop s id)

theorem rcPut_ok {s : St} {t : Th} (ho : okT s.L t) : RcOk (rcPut (hasT s.L t.id) t.id t.x0 t.y0 t.x1 t.y1) := by
  obtain ⟨h1, h2, _⟩ := ho
  unfold RectOk at h2
  refine ⟨.inr (.inr ⟨?_, rfl⟩), by simp [rcPut], ?_, ?_, ?_, ?_, ?_⟩
  · unfold rcPut
    cases hasT s.L t.id <;> simp
  all_goals
    simp only [rcPut]
    omega
theorem rcDrop_ok {id : Int} (hi : 0 ≤ id ∧ id ≤ 4095) : RcOk (rcDrop id) := by
  refine ⟨.inr (.inl ⟨rfl, rfl, rfl, rfl, rfl, rfl⟩), by simp [rcDrop], ?_, by simp [rcDrop], by simp [rcDrop], by simp [rcDrop], by simp [rcDrop]⟩
  simp only [rcDrop]
  omega
theorem rcHead_ok {fan : Int} (h : 4 ≤ fan ∧ fan ≤ 16) : RcOk (rcHead fan) := by
  refine ⟨.inl ⟨rfl, rfl, rfl, rfl, rfl, rfl⟩, ?_, by simp [rcHead], by simp [rcHead], by simp [rcHead], by simp [rcHead], by simp [rcHead]⟩
  simp only [rcHead]
  omega

/-- what was read of a log is read of a longer one -/
theorem readF_mono {l m : List Int} {k : Nat} {r : Rc} (h : readF l k = some r) : readF (l ++ m) k = some r := by
  unfold readF at h ⊢
  split at h
  · cases h
  · rename_i kind hg
    have hk : k < l.length := (List.getElem?_eq_some_iff.1 hg).1
    rw [List.getElem?_append_left hk, hg]
    simp only
    split at h
    · cases h
    · rename_i n hs
      split at h
      · rename_i hc
        obtain ⟨h1, h2⟩ := hc
        have e1 : (l ++ m).take k = l.take k := List.take_append_of_le_length (by omega)
        have e2 : (l ++ m).drop k = l.drop k ++ m := List.drop_append_of_le_length (by omega)
        have e3 : (l ++ m).drop (k + 1 + n) = l.drop (k + 1 + n) ++ m := List.drop_append_of_le_length (by omega)
        have e4 : (l ++ m).drop (k + 1) = l.drop (k + 1) ++ m := List.drop_append_of_le_length (by omega)
        rw [e1, e2, e3, e4, List.take_append_of_le_length (by rw [List.length_drop]; omega), List.take_append_of_le_length (by rw [List.length_drop]; omega), List.take_append_of_le_length (by rw [List.length_drop]; omega), if_pos ⟨by rw [List.length_append]; omega, h2⟩]
        exact h
      · cases h

theorem Steps.mono {l m : List Int} {a b : St} (h : Steps l a b) : Steps (l ++ m) a b := by
  induction h with
  | refl _ => exact .refl _
  | step hr hd _ ih => exact .step (readF_mono hr) hd ih

/-- the records that a call has written are done again -/
theorem hist_next {s s' : St} {r : Rc} (hr : RcOk r) (hd : Done s r s') (rest : List Int) : Steps (s'.lg ++ rest) s s' := by
  have e := hd.log hr
  refine .step (r := r) ?_ hd (.refl _)
  rw [e, List.append_assoc]
  exact readF_here hr s.lg rest

theorem stuck_end (s : St) : Stuck s.lg s := fun r hr => by
  unfold readF at hr
  rw [List.getElem?_eq_none (Nat.le_refl _)] at hr
  cases hr

theorem okT_done {s : St} {t : Th} (ho : okT s.L t) : Done s (rcPut (hasT s.L t.id) t.id t.x0 t.y0 t.x1 t.y1) (stPut s t) := by
  refine .put s (rcPut (hasT s.L t.id) t.id t.x0 t.y0 t.x1 t.y1) ?_ ho
  unfold rcPut
  simp only
  cases h : hasT s.L t.id with
  | true => exact .inl ⟨rfl, rfl⟩
  | false => exact .inr ⟨rfl, rfl⟩

theorem bytes_len (r : Rc) (lg : List Int) : 0 < (r.bytes lg).length ∧ (r.bytes lg).length ≤ 23 := ⟨by unfold Rc.bytes; rw [recF_length]; omega, Rc.bytes_length r lg⟩

/-- where Replay stops in a log that was cut off -/
structure CutAt (fan : Int) (l : List Int) (k : Nat) (whole : St) (p : St) : Prop where
  steps : Steps (l.take k) (stNew fan) p
  stuck : Stuck (l.take k) p
  pre : p.lg = l.take p.lg.length
  le : p.lg.length ≤ k
  near : k < p.lg.length + 23
  six : 6 ≤ p.lg.length
  all : k = l.length → p = whole

theorem head_len (fan : Int) : ((rcHead fan).bytes []).length = 6 := by
  unfold Rc.bytes
  rw [recF_length]
  simp [Rc.body, rcHead, headB, numB_length]

theorem cut_next {fan : Int} {s s' : St} {r : Rc} (hr : RcOk r) (hd : Done s r s') (ih : ∀ k, 6 ≤ k → k ≤ s.lg.length → ∃ p, CutAt fan s.lg k s p) (hs : 6 ≤ s.lg.length) : ∀ k, 6 ≤ k → k ≤ s'.lg.length → ∃ p, CutAt fan s'.lg k s' p := by
  intro k h6 hk
  have e := hd.log hr
  obtain ⟨b1, b2⟩ := bytes_len r s.lg
  have hlen : s'.lg.length = s.lg.length + (r.bytes s.lg).length := by rw [e, List.length_append]
  by_cases h1 : k ≤ s.lg.length
  · obtain ⟨p, c⟩ := ih k h6 h1
    have et : s'.lg.take k = s.lg.take k := by rw [e, List.take_append_of_le_length h1]
    refine ⟨p, ⟨et ▸ c.steps, et ▸ c.stuck, ?_, c.le, c.near, c.six, fun h => by omega⟩⟩
    have := c.pre
    rw [e, List.take_append_of_le_length (by have := c.le; omega)]
    exact this
  · obtain ⟨p, c⟩ := ih s.lg.length hs (Nat.le_refl _)
    have hp : p = s := c.all rfl
    subst hp
    have hst : Steps p.lg (stNew fan) p := by
      have := c.steps
      rwa [List.take_length] at this
    by_cases h2 : k = s'.lg.length
    · subst h2
      refine ⟨s', ⟨?_, ?_, by rw [List.take_length], Nat.le_refl _, by omega, by omega, fun _ => rfl⟩⟩
      · rw [List.take_length]
        have h3 : Steps s'.lg (stNew fan) p := by rw [e]; exact hst.mono
        have h4 := hist_next hr hd []
        rw [List.append_nil] at h4
        exact h3.trans h4
      · rw [List.take_length]
        exact stuck_end s'
    · have et : s'.lg.take k = p.lg ++ (r.bytes p.lg).take (k - p.lg.length) := by
        rw [e, List.take_append]
        congr 1
        exact List.take_of_length_le (by omega)
      refine ⟨p, ⟨?_, ?_, ?_, by omega, by omega, hs, fun h => absurd h h2⟩⟩
      · rw [et]
        exact hst.mono
      · intro r' hr'
        have := readF_cut (rest := []) (k := k) hr (lg := p.lg) (l := s'.lg.take k) (by rw [e, List.append_nil]) (by omega) (by omega)
        rw [this] at hr'
        cases hr'
      · rw [e, List.take_left']
        rfl

theorem hist_cut {fan : Int} {s : St} (h : Hist fan s) : 6 ≤ s.lg.length ∧ ∀ k, 6 ≤ k → k ≤ s.lg.length → ∃ p, CutAt fan s.lg k s p := by
  induction h with
  | new =>
    have hl : (stNew fan).lg.length = 6 := head_len fan
    refine ⟨by omega, fun k h6 hk => ⟨stNew fan, ?_⟩⟩
    have hk6 : k = (stNew fan).lg.length := by omega
    subst hk6
    exact ⟨.refl _, by rw [List.take_length]; exact stuck_end _, by rw [List.take_length], Nat.le_refl _, by omega, by omega, fun _ => rfl⟩
  | put t h ho ih =>
    obtain ⟨i1, i2⟩ := ih
    have hr := rcPut_ok ho
    have hd := okT_done ho
    refine ⟨?_, cut_next hr hd i2 i1⟩
    rw [hd.log hr, List.length_append]
    omega
  | drop id h hi hh ih =>
    obtain ⟨i1, i2⟩ := ih
    have hr := rcDrop_ok hi
    have hd : Done _ (rcDrop id) (stDrop _ id) := Done.drop _ (rcDrop id) rfl hh
    refine ⟨?_, cut_next hr hd i2 i1⟩
    rw [hd.log hr, List.length_append]
    omega

/-- the first record stands first -/
theorem hist_head {fan : Int} {s : St} (h : Hist fan s) : ∃ rest, s.lg = (rcHead fan).bytes [] ++ rest := by
  induction h with
  | new => exact ⟨[], by rw [List.append_nil]; rfl⟩
  | put t h ho ih =>
    obtain ⟨rest, e⟩ := ih
    exact ⟨rest ++ _, by rw [(okT_done ho).log (rcPut_ok ho), ← List.append_assoc, ← e]⟩
  | drop id h hi hh ih =>
    obtain ⟨rest, e⟩ := ih
    have hd : Done _ (rcDrop id) (stDrop _ id) := Done.drop _ (rcDrop id) rfl hh
    exact ⟨rest ++ _, by rw [hd.log (rcDrop_ok hi), ← List.append_assoc, ← e]⟩

theorem cut_head {fan : Int} (hf : 4 ≤ fan ∧ fan ≤ 16) {s : St} (h : Hist fan s) {k : Nat} (hk : 6 ≤ k) : readF (s.lg.take k) 0 = some (rcHead fan) := by
  obtain ⟨rest, e⟩ := hist_head h
  have h1 := readF_here (rcHead_ok hf) [] (rest.take (k - 6))
  have e2 : s.lg.take k = (rcHead fan).bytes [] ++ rest.take (k - 6) := by
    rw [e, List.take_append, head_len]
    congr 1
    exact List.take_of_length_le (by rw [head_len]; omega)
  rw [e2]
  exact h1
theorem cut_none {fan : Int} (hf : 4 ≤ fan ∧ fan ≤ 16) {s : St} (h : Hist fan s) {k : Nat} (hk : k < 6) : readF (s.lg.take k) 0 = none := by
  obtain ⟨rest, e⟩ := hist_head h
  exact readF_cut (lg := []) (rest := rest) (k := k) (rcHead_ok hf) (by rw [e]; rfl) (Nat.zero_le _) (by rw [head_len]; simpa using hk)

theorem Hist.ok {fan : Int} {s : St} (h : Hist fan s) : StOk s := by
  induction h with
  | new => exact ⟨by simp [stNew], by simp [stNew]⟩
  | put t h ho ih => exact ih.put ho
  | drop id h hi hh ih => exact ih.drop id

/-! ### what planted has written -/
theorem plant_hist (fan : Int) {dx dy : Int} (hx : -999995000 ≤ dx ∧ dx ≤ 999995000) (hy : -999995000 ≤ dy ∧ dy ≤ 999995000) (ks : List Kt) (hl : ks.length ≤ 300) : Hist fan (plantS fan ks dx dy) ∧ (plantS fan ks dx dy).L.length ≤ ks.length := by
  have key : ∀ n, n ≤ ks.length → Hist fan (plantS fan (ks.take n) dx dy) ∧ (plantS fan (ks.take n) dx dy).L.length ≤ n := by
    intro n
    induction n with
    | zero => intro _; exact ⟨.new, by simp [plantS, stNew]⟩
    | succ n ih =>
      intro hn
      obtain ⟨i1, i2⟩ := ih (by omega)
      have e : plantS fan (ks.take (n + 1)) dx dy = stPut (plantS fan (ks.take n) dx dy) ((ks[n]).th dx dy) := by
        unfold plantS
        rw [List.take_succ_eq_append_getElem (by omega), List.foldl_append]
        rfl
      rw [e]
      refine ⟨i1.put _ ⟨(ks[n]).id_ok, (ks[n]).rect_ok hx hy, .inr (by omega)⟩, ?_⟩
      have := putT_length (plantS fan (ks.take n) dx dy).L ((ks[n]).th dx dy)
      show (putT (plantS fan (ks.take n) dx dy).L ((ks[n]).th dx dy)).length ≤ _
      omega
  have := key ks.length (Nat.le_refl _)
  rwa [List.take_length] at this

def plantSt (fan : Int) (ks : List Kt) (dx dy : Int) : St := stPut (plantS fan (ks.take 300) dx dy) ⟨4000, dx, dy, dx, dy⟩
theorem plantSt_L (fan : Int) (ks : List Kt) (dx dy : Int) : (plantSt fan ks dx dy).L = plantT ks dx dy := by
  unfold plantSt stPut plantT
  simp only [plantS_L]
theorem plantSt_lg (fan : Int) (ks : List Kt) (dx dy : Int) : (plantSt fan ks dx dy).lg = plantGT fan ks dx dy := by
  unfold plantSt stPut plantGT plantG
  simp only [plantS_L]
theorem plantSt_hist (fan : Int) {dx dy : Int} (hx : -999995000 ≤ dx ∧ dx ≤ 999995000) (hy : -999995000 ≤ dy ∧ dy ≤ 999995000) (ks : List Kt) : Hist fan (plantSt fan ks dx dy) := by
  have hl : (ks.take 300).length ≤ 300 := List.length_take_le _ _
  obtain ⟨h1, h2⟩ := plant_hist fan hx hy (ks.take 300) hl
  refine h1.put _ ⟨by simp, ?_, .inr (by omega)⟩
  unfold RectOk
  simp only
  omega
theorem plantSt_len (fan : Int) {dx dy : Int} (hx : -999995000 ≤ dx ∧ dx ≤ 999995000) (hy : -999995000 ≤ dy ∧ dy ≤ 999995000) (ks : List Kt) : 29 ≤ (plantSt fan ks dx dy).lg.length := by
  have hl : (ks.take 300).length ≤ 300 := List.length_take_le _ _
  obtain ⟨h1, h2⟩ := plant_hist fan hx hy (ks.take 300) hl
  have h6 := (hist_cut h1).1
  show 29 ≤ (putLT _ _ _).length
  unfold putLT
  rw [List.length_append]
  have : ((rcPut (hasT (plantS fan (ks.take 300) dx dy).L 4000) 4000 dx dy dx dy).bytes (plantS fan (ks.take 300) dx dy).lg).length = 23 := by
    unfold Rc.bytes
    rw [recF_length]
    unfold Rc.body rcPut
    simp only
    rw [if_neg (by split <;> omega), if_neg (by split <;> omega), putB_length]
  show 29 ≤ (plantS fan (ks.take 300) dx dy).lg.length + ((rcPut (hasT (plantS fan (ks.take 300) dx dy).L 4000) 4000 dx dy dx dy).bytes (plantS fan (ks.take 300) dx dy).lg).length
  omega

end Go.Proofs.YthimaoipogocfaaGreat
