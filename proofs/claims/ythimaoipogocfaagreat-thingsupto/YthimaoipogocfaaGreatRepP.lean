import Derived.Test.YthimaoipogocfaaGreatRec8
namespace Go.Proofs.YthimaoipogocfaaGreat
open Go.RowKit

/-! ### what is written is read -/
theorem numB_mod {n m : Int} (k : Nat) (h : n % 256 ^ k = m % 256 ^ k) : numB n k = numB m k := by
  have h1 := numB_valB (numB_byte k n)
  have h2 := numB_valB (numB_byte k m)
  rw [numB_length, valB_numB] at h1 h2
  rw [← h1, ← h2, h]

theorem numB_sgn {l : List Int} (hB : ByteL l) (hl : l.length = 4) : numB (sgn32 (valB l)) 4 = l := by
  have h := numB_valB hB
  rw [hl] at h
  rw [← h]
  have hr := valB_range hB
  rw [hl] at hr
  have e : valB (numB (valB l) 4) = valB l := by rw [h]
  rw [e]
  refine numB_mod 4 ?_
  unfold sgn32
  split
  · show (valB l - 4294967296) % 4294967296 = valB l % 4294967296
    omega
  · rfl

theorem sgn_num {x : Int} (h : -2147483648 ≤ x ∧ x < 2147483648) : sgn32 (valB (numB x 4)) = x := by
  rw [valB_numB]
  unfold sgn32
  show (if 2147483648 ≤ x % 4294967296 then x % 4294967296 - 4294967296 else x % 4294967296) = x
  split <;> omega

/-- a record that the calls write -/
structure RcOk (r : Rc) : Prop where
  kind : (r.kind = 72 ∧ r.id = 0 ∧ r.x0 = 0 ∧ r.y0 = 0 ∧ r.x1 = 0 ∧ r.y1 = 0) ∨ (r.kind = 68 ∧ r.fan = 0 ∧ r.x0 = 0 ∧ r.y0 = 0 ∧ r.x1 = 0 ∧ r.y1 = 0) ∨ ((r.kind = 80 ∨ r.kind = 77) ∧ r.fan = 0)
  fan : 0 ≤ r.fan ∧ r.fan < 256
  id : 0 ≤ r.id ∧ r.id < 65536
  x0 : -2147483648 ≤ r.x0 ∧ r.x0 < 2147483648
  y0 : -2147483648 ≤ r.y0 ∧ r.y0 < 2147483648
  x1 : -2147483648 ≤ r.x1 ∧ r.x1 < 2147483648
  y1 : -2147483648 ≤ r.y1 ∧ r.y1 < 2147483648

theorem RcOk.size {r : Rc} (h : RcOk r) : sizeF r.kind = some r.body.length := by
  rcases h.kind with ⟨e, _⟩ | ⟨e, _⟩ | ⟨e, _⟩
  · unfold sizeF Rc.body; rw [e]; simp [headB, numB_length]
  · unfold sizeF Rc.body; rw [e]; simp [dropB, numB_length]
  · unfold sizeF Rc.body
    rw [if_neg (by omega), if_pos e, if_neg (by omega), if_neg (by omega), putB_length]

theorem drop_len {α : Type} {a b : List α} {n : Nat} (h : a.length = n) : (a ++ b).drop n = b := by rw [← h, List.drop_left']; rfl
theorem take_len {α : Type} {a b : List α} {n : Nat} (h : a.length = n) : (a ++ b).take n = a := by rw [← h, List.take_left']; rfl

theorem RcOk.parse {r : Rc} (h : RcOk r) : parseF r.kind r.body = r := by
  obtain ⟨kind, fan, id, x0, y0, x1, y1⟩ := r
  rcases h.kind with ⟨e, e1, e2, e3, e4, e5⟩ | ⟨e, e1, e2, e3, e4, e5⟩ | ⟨e, e1⟩
  · simp only at e e1 e2 e3 e4 e5
    subst e e1 e2 e3 e4 e5
    have hf := h.fan
    have : valB (headB fan) = fan := by
      unfold headB
      rw [valB_numB]
      show fan % 256 = fan
      simp only at hf
      omega
    simp [parseF, Rc.body, this]
  · simp only at e e1 e2 e3 e4 e5
    subst e e1 e2 e3 e4 e5
    have hf := h.id
    have : valB (dropB id) = id := by
      unfold dropB
      rw [valB_numB]
      show id % 65536 = id
      simp only at hf
      omega
    simp [parseF, Rc.body, this]
  · simp only at e e1
    subst e1
    have hf := h.id
    simp only at hf
    have hn : ∀ (z : Int) (k : Nat), (numB z k).length = k := fun z k => numB_length k z
    have b : (⟨kind, 0, id, x0, y0, x1, y1⟩ : Rc).body = putB id x0 y0 x1 y1 := by
      unfold Rc.body
      simp only
      rw [if_neg (by omega), if_neg (by omega)]
    rw [b]
    have d : putB id x0 y0 x1 y1 = numB id 2 ++ (numB x0 4 ++ (numB y0 4 ++ (numB x1 4 ++ numB y1 4))) := by simp [putB]
    have t1 : (putB id x0 y0 x1 y1).take 2 = numB id 2 := by rw [d]; exact take_len (hn _ _)
    have t2 : (putB id x0 y0 x1 y1).drop 2 = numB x0 4 ++ (numB y0 4 ++ (numB x1 4 ++ numB y1 4)) := by rw [d]; exact drop_len (hn _ _)
    have c0 : coordV ((putB id x0 y0 x1 y1).drop 2) 0 = x0 := by
      rw [t2]
      unfold coordV
      rw [Nat.zero_mul, List.drop_zero, take_len (hn _ _)]
      exact sgn_num h.x0
    have c1 : coordV ((putB id x0 y0 x1 y1).drop 2) 1 = y0 := by
      rw [t2]
      unfold coordV
      rw [drop_len (hn _ _), take_len (hn _ _)]
      exact sgn_num h.y0
    have c2 : coordV ((putB id x0 y0 x1 y1).drop 2) 2 = x1 := by
      rw [t2]
      unfold coordV
      rw [← List.append_assoc, drop_len (by simp [hn]), take_len (hn _ _)]
      exact sgn_num h.x1
    have c3 : coordV ((putB id x0 y0 x1 y1).drop 2) 3 = y1 := by
      rw [t2]
      unfold coordV
      rw [← List.append_assoc, ← List.append_assoc, drop_len (by simp [hn]), List.take_of_length_le (by rw [hn]; omega)]
      exact sgn_num h.y1
    show parseF kind (putB id x0 y0 x1 y1) = _
    unfold parseF
    rw [if_neg (by omega), if_neg (by omega), t1, c0, c1, c2, c3, valB_numB]
    have : id % 256 ^ 2 = id := by
      show id % 65536 = id
      omega
    rw [this]

/-- THE RECORD THAT STANDS THERE is read -/
theorem readF_here {r : Rc} (h : RcOk r) (lg rest : List Int) : readF (lg ++ (r.bytes lg ++ rest)) lg.length = some r := by
  have hb : r.bytes lg = (r.kind :: r.body) ++ numB (sealF lg (r.kind :: r.body)) 4 := rfl
  have hg : (lg ++ (r.bytes lg ++ rest))[lg.length]? = some r.kind := by
    rw [List.getElem?_append_right (Nat.le_refl _), Nat.sub_self, hb]
    rfl
  unfold readF
  rw [hg]
  simp only [h.size]
  have hl : (r.kind :: r.body).length = 1 + r.body.length := by simp; omega
  have e1 : (lg ++ (r.bytes lg ++ rest)).take lg.length = lg := take_len rfl
  have e2 : (lg ++ (r.bytes lg ++ rest)).drop lg.length = r.bytes lg ++ rest := drop_len rfl
  have e3 : (r.bytes lg ++ rest).take (1 + r.body.length) = r.kind :: r.body := by
    rw [hb, List.append_assoc]
    exact take_len hl
  have e4 : (lg ++ (r.bytes lg ++ rest)).drop (lg.length + 1 + r.body.length) = numB (sealF lg (r.kind :: r.body)) 4 ++ rest := by
    rw [Nat.add_assoc, ← List.drop_drop, e2, hb, List.append_assoc]
    exact drop_len hl
  have e5 : (lg ++ (r.bytes lg ++ rest)).drop (lg.length + 1) = r.body ++ (numB (sealF lg (r.kind :: r.body)) 4 ++ rest) := by
    rw [← List.drop_drop, e2, hb]
    simp
  rw [e1, e2, e3, e4, e5, take_len (numB_length _ _), take_len rfl, h.parse, valB_numB]
  have hs := sealF_range lg (r.kind :: r.body)
  have hm : sealF lg (r.kind :: r.body) % 256 ^ 4 = sealF lg (r.kind :: r.body) := by
    show sealF lg (r.kind :: r.body) % 4294967296 = _
    omega
  rw [hm, if_pos]
  refine ⟨?_, rfl⟩
  rw [hb]
  simp [numB_length]
  omega

/-- a record that is not whole is not read -/
theorem readF_cut {r : Rc} (h : RcOk r) {lg rest l : List Int} {k : Nat} (hl : l = (lg ++ (r.bytes lg ++ rest)).take k) (h1 : lg.length ≤ k) (h2 : k < lg.length + (r.bytes lg).length) : readF l lg.length = none := by
  subst hl
  have hb : r.bytes lg = (r.kind :: r.body) ++ numB (sealF lg (r.kind :: r.body)) 4 := rfl
  have hbl : (r.bytes lg).length = r.body.length + 5 := recF_length _ _ _
  unfold readF
  by_cases hk : k = lg.length
  · rw [List.getElem?_eq_none (by rw [List.length_take]; omega)]
  · have hg : ((lg ++ (r.bytes lg ++ rest)).take k)[lg.length]? = some r.kind := by
      rw [List.getElem?_take, if_pos (by omega), List.getElem?_append_right (Nat.le_refl _), Nat.sub_self, hb]
      rfl
    rw [hg]
    simp only [h.size]
    rw [if_neg]
    rintro ⟨h3, _⟩
    rw [List.length_take] at h3
    omega

/-- WHAT IS READ would be written just so -/
theorem readF_bytes {l : List Int} {k : Nat} {r : Rc} (hB : ByteL l) (h : readF l k = some r) : RcOk r ∧ l.take (k + (r.bytes (l.take k)).length) = l.take k ++ r.bytes (l.take k) ∧ k + (r.bytes (l.take k)).length ≤ l.length := by
  unfold readF at h
  split at h
  · cases h
  · rename_i kind hg
    split at h
    · cases h
    · rename_i m hs
      split at h
      · rename_i hc
        obtain ⟨h1, h2⟩ := hc
        have hr := (Option.some.inj h).symm
        subst hr
        obtain ⟨hk, hkk⟩ := List.getElem?_eq_some_iff.1 hg
        obtain ⟨body, hbody⟩ : ∃ body, body = (l.drop (k + 1)).take m := ⟨_, rfl⟩
        have hbB : ByteL body := by rw [hbody]; exact (hB.drop _).take _
        have hbl : body.length = m := by rw [hbody, List.length_take, List.length_drop]; omega
        have hkB := hB kind (by rw [← hkk]; exact List.getElem_mem hk)
        rw [← hbody]
        have key : RcOk (parseF kind body) ∧ (parseF kind body).kind = kind ∧ (parseF kind body).body = body := by
          rcases sizeF_cases hs with ⟨rfl, rfl⟩ | ⟨e, rfl⟩ | ⟨rfl, rfl⟩
          · have hv := valB_range hbB
            rw [hbl] at hv
            have hv' : valB body < 256 := hv.2
            refine ⟨⟨.inl ⟨rfl, rfl, rfl, rfl, rfl, rfl⟩, ⟨hv.1, hv'⟩, by simp [parseF], by simp [parseF], by simp [parseF], by simp [parseF], by simp [parseF]⟩, rfl, ?_⟩
            have := numB_valB hbB
            rw [hbl] at this
            exact this
          · have hu : parseF kind body = ⟨kind, 0, valB (body.take 2), coordV (body.drop 2) 0, coordV (body.drop 2) 1, coordV (body.drop 2) 2, coordV (body.drop 2) 3⟩ := by
              unfold parseF
              rw [if_neg (by omega), if_neg (by omega)]
            have hv := valB_range (hbB.take 2)
            rw [List.length_take, Nat.min_eq_left (by omega)] at hv
            have hv' : valB (body.take 2) < 65536 := hv.2
            have hcr : ∀ i, i < 4 → -2147483648 ≤ coordV (body.drop 2) i ∧ coordV (body.drop 2) i < 2147483648 ∧ numB (coordV (body.drop 2) i) 4 = ((body.drop 2).drop (i * 4)).take 4 := fun i hi => by
              have hb4 : ByteL (((body.drop 2).drop (i * 4)).take 4) := ((hbB.drop 2).drop _).take _
              have hl4 : (((body.drop 2).drop (i * 4)).take 4).length = 4 := by
                rw [List.length_take, List.length_drop, List.length_drop]
                omega
              have hv := valB_range hb4
              rw [hl4] at hv
              have hv' : valB (((body.drop 2).drop (i * 4)).take 4) < 4294967296 := hv.2
              refine ⟨?_, ?_, numB_sgn hb4 hl4⟩
              · unfold coordV sgn32
                split <;> omega
              · unfold coordV sgn32
                split <;> omega
            rw [hu]
            refine ⟨⟨.inr (.inr ⟨e, rfl⟩), by simp, ⟨hv.1, hv'⟩, ⟨(hcr 0 (by omega)).1, (hcr 0 (by omega)).2.1⟩, ⟨(hcr 1 (by omega)).1, (hcr 1 (by omega)).2.1⟩, ⟨(hcr 2 (by omega)).1, (hcr 2 (by omega)).2.1⟩, ⟨(hcr 3 (by omega)).1, (hcr 3 (by omega)).2.1⟩⟩, rfl, ?_⟩
            unfold Rc.body
            simp only
            rw [if_neg (by omega), if_neg (by omega)]
            unfold putB
            have hn2 := numB_valB (hbB.take 2)
            rw [List.length_take, Nat.min_eq_left (by omega)] at hn2
            rw [hn2, (hcr 0 (by omega)).2.2, (hcr 1 (by omega)).2.2, (hcr 2 (by omega)).2.2, (hcr 3 (by omega)).2.2]
            have t : ∀ (d : List Int) (n : Nat), d.take 4 ++ (d.drop 4).take n = d.take (4 + n) := fun d n => (List.take_add ..).symm
            generalize hd : body.drop 2 = d
            have hd16 : d.length = 16 := by rw [← hd, List.length_drop]; omega
            have e1 : d.drop (0 * 4) = d := by simp
            rw [e1, List.append_assoc, List.append_assoc, List.append_assoc]
            have e2 : (d.drop (2 * 4)).take 4 ++ (d.drop (3 * 4)).take 4 = (d.drop (2 * 4)).take 8 := by
              have := t (d.drop 8) 4
              rw [List.drop_drop] at this
              exact this
            have e3 : (d.drop (1 * 4)).take 4 ++ (d.drop (2 * 4)).take 8 = (d.drop (1 * 4)).take 12 := by
              have := t (d.drop 4) 8
              rw [List.drop_drop] at this
              exact this
            have e4 : d.take 4 ++ (d.drop (1 * 4)).take 12 = d := by
              have h12 := t d 12
              have h16 : d.take (4 + 12) = d := List.take_of_length_le (by omega)
              rw [h16] at h12
              exact h12
            rw [e2, e3, e4, ← hd]
            exact List.take_append_drop 2 body
          · have hv := valB_range hbB
            rw [hbl] at hv
            have hv' : valB body < 65536 := hv.2
            refine ⟨⟨.inr (.inl ⟨rfl, rfl, rfl, rfl, rfl, rfl⟩), by simp [parseF], ⟨hv.1, hv'⟩, by simp [parseF], by simp [parseF], by simp [parseF], by simp [parseF]⟩, rfl, ?_⟩
            have := numB_valB hbB
            rw [hbl] at this
            exact this
        obtain ⟨k1, k2, k3⟩ := key
        have hdk : l.drop k = kind :: l.drop (k + 1) := by rw [List.drop_eq_getElem_cons hk, hkk]
        have hrec : (l.drop k).take (1 + m) = kind :: body := by
          rw [hdk, Nat.add_comm, List.take_succ_cons, hbody]
        have hl4 : ((l.drop (k + 1 + m)).take 4).length = 4 := by rw [List.length_take, List.length_drop]; omega
        have hsum : numB (sealF (l.take k) (kind :: body)) 4 = (l.drop (k + 1 + m)).take 4 := by
          have := numB_valB ((hB.drop (k + 1 + m)).take 4)
          rw [hl4] at this
          rw [← hrec, h2]
          exact this
        have hbytes : (parseF kind body).bytes (l.take k) = (l.drop k).take (m + 5) := by
          unfold Rc.bytes recF
          rw [k2, k3, hsum, ← hrec]
          have : (l.drop k).take (1 + m) ++ ((l.drop k).drop (1 + m)).take 4 = (l.drop k).take (1 + m + 4) := (List.take_add ..).symm
          rw [List.drop_drop] at this
          rw [show k + 1 + m = k + (1 + m) by omega, this]
          congr 1
          omega
        have hbl2 : ((parseF kind body).bytes (l.take k)).length = m + 5 := by rw [hbytes, List.length_take, List.length_drop]; omega
        refine ⟨k1, ?_, by rw [hbl2]; omega⟩
        rw [hbl2, hbytes]
        exact List.take_add ..
      · cases h

end Go.Proofs.YthimaoipogocfaaGreat
