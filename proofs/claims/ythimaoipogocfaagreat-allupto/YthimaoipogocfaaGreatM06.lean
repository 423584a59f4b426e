import Derived.Test.YthimaoipogocfaaGreatM05
import Derived.Test.YthimaoipogocfaaGreatJ17
namespace Go.Proofs.YthimaoipogocfaaGreat
open Go.RowKit

/-! ### what is written is read -/
theorem numB_mod {n m : Int} (k : Nat) (h : n % 256 ^ k = m % 256 ^ k) : numB n k = numB m k := by
  have h1 := numB_valB (numB_byte k n)
  have h2 := numB_valB (numB_byte k m)
  rw [numB_length, valB_numB] at h1 h2
  rw [← h1, ← h2, h]

theorem numB_sgn {l : List Int} (hB : ByteL l) (hl : l.length = 4) : numB (sgn32 (valB l)) 4 = l := by
  have h := numB_valB hB
  rw [hl] at h
  rw [← h]
  have hr := valB_range hB
  rw [hl] at hr
  have e : valB (numB (valB l) 4) = valB l := by rw [h]
  rw [e]
  refine numB_mod 4 ?_
  unfold sgn32
  split
  · show (valB l - 4294967296) % 4294967296 = valB l % 4294967296
    omega
  · rfl

theorem sgn_num {x : Int} (h : -2147483648 ≤ x ∧ x < 2147483648) : sgn32 (valB (numB x 4)) = x := by
  rw [valB_numB]
  unfold sgn32
  show (if 2147483648 ≤ x % 4294967296 then x % 4294967296 - 4294967296 else x % 4294967296) = x
  split <;> omega

/-- a record that the calls write -/
structure RcOk (r : Rc) : Prop where
  kind : (r.kind = 72 ∧ r.id = 0 ∧ r.x0 = 0 ∧ r.y0 = 0 ∧ r.x1 = 0 ∧ r.y1 = 0) ∨ (r.kind = 68 ∧ r.fan = 0 ∧ r.x0 = 0 ∧ r.y0 = 0 ∧ r.x1 = 0 ∧ r.y1 = 0) ∨ ((r.kind = 80 ∨ r.kind = 77) ∧ r.fan = 0)
  fan : 0 ≤ r.fan ∧ r.fan < 256
  id : 0 ≤ r.id ∧ r.id < 65536
  x0 : -2147483648 ≤ r.x0 ∧ r.x0 < 2147483648
  y0 : -2147483648 ≤ r.y0 ∧ r.y0 < 2147483648
  x1 : -2147483648 ≤ r.x1 ∧ r.x1 < 2147483648
  y1 : -2147483648 ≤ r.y1 ∧ r.y1 < 2147483648

theorem RcOk.size {r : Rc} (h : RcOk r) : sizeF r.kind = some r.body.length := by
  rcases h.kind with ⟨e, _⟩ | ⟨e, _⟩ | ⟨e, _⟩
  · unfold sizeF Rc.body; rw [e]; simp [headB, numB_length]
  · unfold sizeF Rc.body; rw [e]; simp [dropB, numB_length]
  · unfold sizeF Rc.body
    rw [if_neg (by omega), if_pos e, if_neg (by omega), if_neg (by omega), putB_length]

theorem drop_len {α : Type} {a b : List α} {n : Nat} (h : a.length = n) : (a ++ b).drop n = b := by rw [← h, List.drop_left']; rfl
theorem take_len {α : Type} {a b : List α} {n : Nat} (h : a.length = n) : (a ++ b).take n = a := by rw [← h, List.take_left']; rfl

theorem RcOk.parse {r : Rc} (h : RcOk r) : parseF r.kind r.body = r := by
  obtain ⟨kind, fan, id, x0, y0, x1, y1⟩ := r
  rcases h.kind with ⟨e, e1, e2, e3, e4, e5⟩ | ⟨e, e1, e2, e3, e4, e5⟩ | ⟨e, e1⟩
  · simp only at e e1 e2 e3 e4 e5
    subst e e1 e2 e3 e4 e5
    have hf := h.fan
    have : valB (headB fan) = fan := by
      unfold headB
      rw [valB_numB]
      show fan % 256 = fan
      simp only at hf
      omega
    simp [parseF, Rc.body, this]
  · simp only at e e1 e2 e3 e4 e5
    subst e e1 e2 e3 e4 e5
    have hf := h.id
    have : valB (dropB id) = id := by
      unfold dropB
      rw [valB_numB]
      show id % 65536 = id
      simp only at hf
      omega
    simp [parseF, Rc.body, this]
  · simp only at e e1
    subst e1
    have hf := h.id
    simp only at hf
    have hn : ∀ (z : Int) (k : Nat), (numB z k).length = k := fun z k => numB_length k z
    have b : (⟨kind, 0, id, x0, y0, x1, y1⟩ : Rc).body = putB id x0 y0 x1 y1 := by
      unfold Rc.body
      simp only
      rw [if_neg (by omega), if_neg (by omega)]
    rw [b]
    have d : putB id x0 y0 x1 y1 = numB id 2 ++ (numB x0 4 ++ (numB y0 4 ++ (numB x1 4 ++ numB y1 4))) := by simp [putB]
    have t1 : (putB id x0 y0 x1 y1).take 2 = numB id 2 := by rw [d]; exact take_len (hn _ _)
    have t2 : (putB id x0 y0 x1 y1).drop 2 = numB x0 4 ++ (numB y0 4 ++ (numB x1 4 ++ numB y1 4)) := by rw [d]; exact drop_len (hn _ _)
    have c0 : coordV ((putB id x0 y0 x1 y1).drop 2) 0 = x0 := by
      rw [t2]
      unfold coordV
      rw [Nat.zero_mul, List.drop_zero, take_len (hn _ _)]
      exact sgn_num h.x0
    have c1 : coordV ((putB id x0 y0 x1 y1).drop 2) 1 = y0 := by
      rw [t2]
      unfold coordV
      rw [drop_len (hn _ _), take_len (hn _ _)]
      exact sgn_num h.y0
    have c2 : coordV ((putB id x0 y0 x1 y1).drop 2) 2 = x1 := by
      rw [t2]
      unfold coordV
      rw [← List.append_assoc, drop_len (by simp [hn]), take_len (hn _ _)]
      exact sgn_num h.x1
    have c3 : coordV ((putB id x0 y0 x1 y1).drop 2) 3 = y1 := by
      rw [t2]
      unfold coordV
      rw [← List.append_assoc, ← List.append_assoc, drop_len (by simp [hn]), List.take_of_length_le (by rw [hn]; omega)]
      exact sgn_num h.y1
    show parseF kind (putB id x0 y0 x1 y1) = _
    unfold parseF
    rw [if_neg (by omega), if_neg (by omega), t1, c0, c1, c2, c3, valB_numB]
    have : id % 256 ^ 2 = id := by
      show id % 65536 = id
      omega
    rw [this]

/-- THE RECORD THAT STANDS THERE is read -/
theorem readF_here {r : Rc} (h : RcOk r) (lg rest : List Int) : readF (lg ++ (r.bytes lg ++ rest)) lg.length = some r := by
  have hb : r.bytes lg = (r.kind :: r.body) ++ numB (sealF lg (r.kind :: r.body)) 4 := rfl
  have hg : (lg ++ (r.bytes lg ++ rest))[lg.length]? = some r.kind := by
    rw [List.getElem?_append_right (Nat.le_refl _), Nat.sub_self, hb]
    rfl
  unfold readF
  rw [hg]
  simp only [h.size]
  have hl : (r.kind :: r.body).length = 1 + r.body.length := by simp; omega
  have e1 : (lg ++ (r.bytes lg ++ rest)).take lg.length = lg := take_len rfl
  have e2 : (lg ++ (r.bytes lg ++ rest)).drop lg.length = r.bytes lg ++ rest := drop_len rfl
  have e3 : (r.bytes lg ++ rest).take (1 + r.body.length) = r.kind :: r.body := by
    rw [hb, List.append_assoc]
    exact take_len hl
  have e4 : (lg ++ (r.bytes lg ++ rest)).drop (lg.length + 1 + r.body.length) = numB (sealF lg (r.kind :: r.body)) 4 ++ rest := by
    rw [Nat.add_assoc, ← List.drop_drop, e2, hb, List.append_assoc]
    exact drop_len hl
  have e5 : (lg ++ (r.bytes lg ++ rest)).drop (lg.length + 1) = r.body ++ (numB (sealF lg (r.kind :: r.body)) 4 ++ rest) := by
    rw [← List.drop_drop, e2, hb]
    simp
  rw [e1, e2, e3, e4, e5, take_len (numB_length _ _), take_len rfl, h.parse, valB_numB]
  have hs := sealF_range lg (r.kind :: r.body)
  have hm : sealF lg (r.kind :: r.body) % 256 ^ 4 = sealF lg (r.kind :: r.body) := by
    show sealF lg (r.kind :: r.body) % 4294967296 = _
    omega
  rw [hm, if_pos]
  refine ⟨?_, rfl⟩
  rw [hb]
  simp [numB_length]
  omega

/-- a record that is not whole is not read -/
theorem readF_cut {r : Rc} (h : RcOk r) {lg rest l : List Int} {k : Nat} (hl : l = (lg ++ (r.bytes lg ++ rest)).take k) (h1 : lg.length ≤ k) (h2 : k < lg.length + (r.bytes lg).length) : readF l lg.length = none := by
  subst hl
  have hb : r.bytes lg = (r.kind :: r.body) ++ numB (sealF lg (r.kind :: r.body)) 4 := rfl
  have hbl : (r.bytes lg).length = r.body.length + 5 := recF_length _ _ _
  unfold readF
  by_cases hk : k = lg.length
  · rw [List.getElem?_eq_none (by rw [List.length_take]; omega)]
  · have hg : ((lg ++ (r.bytes lg ++ rest)).take k)[lg.length]? = some r.kind := by
      rw [List.getElem?_take, if_pos (by omega), List.getElem?_append_right (Nat.le_refl _), Nat.sub_self, hb]
      rfl
    rw [hg]
    simp only [h.size]
    rw [if_neg]
    rintro ⟨h3, _⟩
    rw [List.length_take] at h3
    omega

/-- WHAT IS READ would be written just so -/
theorem readF_bytes {l : List Int} {k : Nat} {r : Rc} (hB : ByteL l) (h : readF l k = some r) : RcOk r ∧ l.take (k + (r.bytes (l.take k)).length) = l.take k ++ r.bytes (l.take k) ∧ k + (r.bytes (l.take k)).length ≤ l.length := by
  unfold readF at h
  split at h
  · cases h
  · rename_i kind hg
    split at h
    · cases h
    · rename_i m hs
      split at h
      · rename_i hc
        obtain ⟨h1, h2⟩ := hc
        have hr := (Option.some.inj h).symm
        subst hr
        obtain ⟨hk, hkk⟩ := List.getElem?_eq_some_iff.1 hg
        obtain ⟨body, hbody⟩ : ∃ body, body = (l.drop (k + 1)).take m := ⟨_, rfl⟩
        have hbB : ByteL body := by rw [hbody]; exact (hB.drop _).take _
        have hbl : body.length = m := by rw [hbody, List.length_take, List.length_drop]; omega
        have hkB := hB kind (by rw [← hkk]; exact List.getElem_mem hk)
        rw [← hbody]
        have key : RcOk (parseF kind body) ∧ (parseF kind body).kind = kind ∧ (parseF kind body).body = body := by
          rcases sizeF_cases hs with ⟨rfl, rfl⟩ | ⟨e, rfl⟩ | ⟨rfl, rfl⟩
          · have hv := valB_range hbB
            rw [hbl] at hv
            have hv' : valB body < 256 := hv.2
            refine ⟨⟨.inl ⟨rfl, rfl, rfl, rfl, rfl, rfl⟩, ⟨hv.1, hv'⟩, by simp [parseF], by simp [parseF], by simp [parseF], by simp [parseF], by simp [parseF]⟩, rfl, ?_⟩
            have := numB_valB hbB
            rw [hbl] at this
            exact this
          · have hu : parseF kind body = ⟨kind, 0, valB (body.take 2), coordV (body.drop 2) 0, coordV (body.drop 2) 1, coordV (body.drop 2) 2, coordV (body.drop 2) 3⟩ := by
              unfold parseF
              rw [if_neg (by omega), if_neg (by omega)]
            have hv := valB_range (hbB.take 2)
            rw [List.length_take, Nat.min_eq_left (by omega)] at hv
            have hv' : valB (body.take 2) < 65536 := hv.2
            have hcr : ∀ i, i < 4 → -2147483648 ≤ coordV (body.drop 2) i ∧ coordV (body.drop 2) i < 2147483648 ∧ numB (coordV (body.drop 2) i) 4 = ((body.drop 2).drop (i * 4)).take 4 := fun i hi => by
              have hb4 : ByteL (((body.drop 2).drop (i * 4)).take 4) := ((hbB.drop 2).drop _).take _
              have hl4 : (((body.drop 2).drop (i * 4)).take 4).length = 4 := by
                rw [List.length_take, List.length_drop, List.length_drop]
                omega
              have hv := valB_range hb4
              rw [hl4] at hv
              have hv' : valB (((body.drop 2).drop (i * 4)).take 4) < 4294967296 := hv.2
              refine ⟨?_, ?_, numB_sgn hb4 hl4⟩
              · unfold coordV sgn32
                split <;> omega
              · unfold coordV sgn32
                split <;> omega
            rw [hu]
            refine ⟨⟨.inr (.inr ⟨e, rfl⟩), by simp, ⟨hv.1, hv'⟩, ⟨(hcr 0 (by omega)).1, (hcr 0 (by omega)).2.1⟩, ⟨(hcr 1 (by omega)).1, (hcr 1 (by omega)).2.1⟩, ⟨(hcr 2 (by omega)).1, (hcr 2 (by omega)).2.1⟩, ⟨(hcr 3 (by omega)).1, (hcr 3 (by omega)).2.1⟩⟩, rfl, ?_⟩
            unfold Rc.body
            simp only
            rw [if_neg (by omega), if_neg (by omega)]
            unfold putB
            have hn2 := numB_valB (hbB.take 2)
            rw [List.length_take, Nat.min_eq_left (by omega)] at hn2
            rw [hn2, (hcr 0 (by omega)).2.2, (hcr 1 (by omega)).2.2, (hcr 2 (by omega)).2.2, (hcr 3 (by omega)).2.2]
            have t : ∀ (d : List Int) (n : Nat), d.take 4 ++ (d.drop 4).take n = d.take (4 + n) := fun d n => (List.take_add ..).symm
            generalize hd : body.drop 2 = d
            have hd16 : d.length = 16 := by rw [← hd, List.length_drop]; omega
            have e1 : d.drop (0 * 4) = d := by simp
            rw [e1, List.append_assoc, List.append_assoc, List.append_assoc]
            have e2 : (d.drop (2 * 4)).take 4 ++ (d.drop (3 * 4)).take 4 = (d.drop (2 * 4)).take 8 := by
              have := t (d.drop 8) 4
              rw [List.drop_drop] at this
              exact this
            have e3 : (d.drop (1 * 4)).take 4 ++ (d.drop (2 * 4)).take 8 = (d.drop (1 * 4)).take 12 := by
              have := t (d.drop 4) 8
              rw [List.drop_drop] at this
              exact this
            have e4 : d.take 4 ++ (d.drop (1 * 4)).take 12 = d := by
              have h12 := t d 12
              have h16 : d.take (4 + 12) = d := List.take_of_length_le (by omega)
              rw [h16] at h12
              exact h12
            rw [e2, e3, e4, ← hd]
            exact List.take_append_drop 2 body
          · have hv := valB_range hbB
            rw [hbl] at hv
            have hv' : valB body < 65536 := hv.2
            refine ⟨⟨.inr (.inl ⟨rfl, rfl, rfl, rfl, rfl, rfl⟩), by simp [parseF], ⟨hv.1, hv'⟩, by simp [parseF], by simp [parseF], by simp [parseF], by simp [parseF]⟩, rfl, ?_⟩
            have := numB_valB hbB
            rw [hbl] at this
            exact this
        obtain ⟨k1, k2, k3⟩ := key
        have hdk : l.drop k = kind :: l.drop (k + 1) := by rw [List.drop_eq_getElem_cons hk, hkk]
        have hrec : (l.drop k).take (1 + m) = kind :: body := by
          rw [hdk, Nat.add_comm, List.take_succ_cons, hbody]
        have hl4 : ((l.drop (k + 1 + m)).take 4).length = 4 := by rw [List.length_take, List.length_drop]; omega
        have hsum : numB (sealF (l.take k) (kind :: body)) 4 = (l.drop (k + 1 + m)).take 4 := by
          have := numB_valB ((hB.drop (k + 1 + m)).take 4)
          rw [hl4] at this
          rw [← hrec, h2]
          exact this
        have hbytes : (parseF kind body).bytes (l.take k) = (l.drop k).take (m + 5) := by
          unfold Rc.bytes recF
          rw [k2, k3, hsum, ← hrec]
          have : (l.drop k).take (1 + m) ++ ((l.drop k).drop (1 + m)).take 4 = (l.drop k).take (1 + m + 4) := (List.take_add ..).symm
          rw [List.drop_drop] at this
          rw [show k + 1 + m = k + (1 + m) by omega, this]
          congr 1
          omega
        have hbl2 : ((parseF kind body).bytes (l.take k)).length = m + 5 := by rw [hbytes, List.length_take, List.length_drop]; omega
        refine ⟨k1, ?_, by rw [hbl2]; omega⟩
        rw [hbl2, hbytes]
        exact List.take_add ..
      · cases h

end Go.Proofs.YthimaoipogocfaaGreat

namespace Go.Proofs.YthimaoipogocfaaGreat
open Go.RowKit

/-! ### what Replay does, by the records -/
def okT (L : List Th) (t : Th) : Prop := (0 ≤ t.id ∧ t.id ≤ 4095) ∧ RectOk t.x0 t.y0 t.x1 t.y1 ∧ (hasT L t.id = true ∨ L.length < 400)
def Rc.th (r : Rc) : Th := ⟨r.id, r.x0, r.y0, r.x1, r.y1⟩

/-- one record is done -/
inductive Done : St → Rc → St → Prop
  | put (s : St) (r : Rc) (hk : (r.kind = 77 ∧ hasT s.L r.id = true) ∨ (r.kind = 80 ∧ hasT s.L r.id = false)) (ho : okT s.L r.th) : Done s r (stPut s r.th)
  | drop (s : St) (r : Rc) (hk : r.kind = 68) (hh : hasT s.L r.id = true) : Done s r (stDrop s r.id)

inductive Steps (l : List Int) : St → St → Prop
  | refl (s : St) : Steps l s s
  | step {s s' s'' : St} {r : Rc} (hr : readF l s.lg.length = some r) (hd : Done s r s') (hs : Steps l s' s'') : Steps l s s''
def Stuck (l : List Int) (s : St) : Prop := ∀ r, readF l s.lg.length = some r → ∀ s', ¬ Done s r s'

theorem Done.det {s s1 s2 : St} {r : Rc} (h : Done s r s1) (k : Done s r s2) : s1 = s2 := by
  cases h with
  | put hk ho =>
    cases k with
    | put _ _ => rfl
    | drop hk2 _ => omega
  | drop hk hh =>
    cases k with
    | put hk2 _ => omega
    | drop _ _ => rfl

theorem Steps.trans {l : List Int} {a b c : St} (h : Steps l a b) (k : Steps l b c) : Steps l a c := by
  induction h with
  | refl _ => exact k
  | step hr hd _ ih => exact .step hr hd (ih k)

theorem Steps.det {l : List Int} {s a b : St} (h : Steps l s a) (ha : Stuck l a) (k : Steps l s b) (hb : Stuck l b) : a = b := by
  induction h with
  | refl s =>
    cases k with
    | refl _ => rfl
    | step hr hd _ => exact absurd hd (ha _ hr _)
  | step hr hd _ ih =>
    cases k with
    | refl _ => exact absurd hd (hb _ hr _)
    | step hr2 hd2 k2 =>
      rw [hr] at hr2
      cases hr2
      obtain rfl := hd.det hd2
      exact ih ha k2

/-- a record that is done is written just so -/
theorem Done.log {s s' : St} {r : Rc} (h : Done s r s') (hr : RcOk r) : s'.lg = s.lg ++ r.bytes s.lg := by
  cases h with
  | put hk ho =>
    show putLT s.L s.lg r.th = _
    unfold putLT
    have e : rcPut (hasT s.L r.th.id) r.th.id r.th.x0 r.th.y0 r.th.x1 r.th.y1 = r := by
      have hf : r.fan = 0 := by
        rcases hr.kind with ⟨e, _⟩ | ⟨e, _⟩ | ⟨_, e⟩
        · omega
        · omega
        · exact e
      obtain ⟨kind, fan, id, x0, y0, x1, y1⟩ := r
      simp only at hf
      subst hf
      simp only at hk
      show rcPut (hasT s.L id) id x0 y0 x1 y1 = _
      rcases hk with ⟨rfl, e⟩ | ⟨rfl, e⟩ <;> rw [e] <;> rfl
    rw [e]
  | drop hk hh =>
    show dropLT s.L s.lg r.id = _
    unfold dropLT
    rw [if_pos hh]
    have e : rcDrop r.id = r := by
      rcases hr.kind with ⟨e, _⟩ | ⟨e, e1, e2, e3, e4, e5⟩ | ⟨e, _⟩
      · omega
      · obtain ⟨kind, fan, id, x0, y0, x1, y1⟩ := r
        simp only at e e1 e2 e3 e4 e5
        subst e e1 e2 e3 e4 e5
        rfl
      · omega
    rw [e]

/-- the state of a tree: few things, numbers once -/
structure StOk (s : St) : Prop where
  len : s.L.length ≤ 400
  ids : (s.L.map (·.id)).Nodup

theorem hasT_iff {L : List Th} {id : Int} : hasT L id = true ↔ ∃ t ∈ L, t.id = id := by simp [hasT]
theorem dropT_len {L : List Th} (hn : (L.map (·.id)).Nodup) {id : Int} (h : hasT L id = true) : (dropT L id).length + 1 = L.length := by
  induction L with
  | nil => simp [hasT] at h
  | cons a L ih =>
    rw [List.map_cons, List.nodup_cons] at hn
    by_cases e : a.id = id
    · have h2 : dropT (a :: L) id = L := by
        unfold dropT
        rw [List.filter_cons_of_neg (by simp [e])]
        refine List.filter_eq_self.2 (fun t ht => ?_)
        simp only [bne_iff_ne, ne_eq]
        exact fun e2 => hn.1 (List.mem_map.2 ⟨t, ht, by rw [e2, e]⟩)
      rw [h2]
      rfl
    · have h2 : dropT (a :: L) id = a :: dropT L id := by
        unfold dropT
        rw [List.filter_cons_of_pos (by simp [e])]
      have h3 : hasT L id = true := by
        obtain ⟨t, ht, e2⟩ := hasT_iff.1 h
        rcases List.mem_cons.1 ht with rfl | ht
        · exact absurd e2 e
        · exact hasT_iff.2 ⟨t, ht, e2⟩
      rw [h2, List.length_cons, ih hn.2 h3, List.length_cons]
theorem dropT_ids {L : List Th} (hn : (L.map (·.id)).Nodup) (id : Int) : ((dropT L id).map (·.id)).Nodup := hn.sublist (List.filter_sublist.map _)
theorem putT_ids {L : List Th} (hn : (L.map (·.id)).Nodup) (t : Th) : ((putT L t).map (·.id)).Nodup := by
  unfold putT
  rw [List.map_append]
  refine List.nodup_append.2 ⟨dropT_ids hn t.id, by simp, fun a ha b hb e => ?_⟩
  obtain ⟨s, hs, rfl⟩ := List.mem_map.1 ha
  simp only [List.map_cons, List.map_nil, List.mem_singleton] at hb
  have := (List.mem_filter.1 hs).2
  rw [e, hb] at this
  simp at this
theorem dropT_le (L : List Th) (id : Int) : (dropT L id).length ≤ L.length := List.length_filter_le _ _

theorem StOk.put {s : St} (h : StOk s) {t : Th} (ho : okT s.L t) : StOk (stPut s t) := by
  refine ⟨?_, putT_ids h.ids t⟩
  have hl : (stPut s t).L.length = (dropT s.L t.id).length + 1 := by simp [stPut, putT]
  rw [hl]
  rcases ho.2.2 with e | e
  · rw [dropT_len h.ids e]
    exact h.len
  · have := dropT_le s.L t.id
    omega
theorem StOk.drop {s : St} (h : StOk s) (id : Int) : StOk (stDrop s id) := ⟨Nat.le_trans (dropT_le _ _) h.len, dropT_ids h.ids id⟩
theorem StOk.done {s s' : St} {r : Rc} (h : StOk s) (hd : Done s r s') : StOk s' := by
  cases hd with
  | put _ ho => exact h.put ho
  | drop _ _ => exact h.drop _

/-- what was done stands at the log's beginning -/
theorem Done.pre {l : List Int} (hB : ByteL l) {s s' : St} {r : Rc} (hp : s.lg = l.take s.lg.length) (hr : readF l s.lg.length = some r) (hd : Done s r s') : s'.lg = l.take s'.lg.length ∧ s.lg.length < s'.lg.length ∧ s'.lg.length ≤ l.length := by
  obtain ⟨h1, h2, h3⟩ := readF_bytes hB hr
  have e := hd.log h1
  rw [← hp] at h2 h3
  have hlen : s'.lg.length = s.lg.length + (r.bytes s.lg).length := by rw [e, List.length_append]
  have hpos : 0 < (r.bytes s.lg).length := by
    unfold Rc.bytes
    rw [recF_length]
    omega
  rw [hlen]
  exact ⟨by rw [h2, ← e], by omega, h3⟩

end Go.Proofs.YthimaoipogocfaaGreat

namespace Go.Proofs.YthimaoipogocfaaGreat
open Go.RowKit Go.Maps
attribute [local go_sem] run_store_f32 run_neg_inf

/-! ### Log -/
def LogTold (lg : List Int) (w : World) (e : Ending) (w' : World) : Prop := ∃ g c, e = .returned (.slice (some ⟨g, 0, none⟩) lg.length c) ∧ w'.ownsRow 0 5 1 (.slice (some ⟨g, 0, none⟩) lg.length c) lg.length (u8s lg) ∧ w.heap.size ≤ g ∧ Mod [] w w'

set_option maxRecDepth 100000 in
set_option maxHeartbeats 400000 in
theorem clone_any {w : World} {g n c : Nat} {lg : List Int} (hown : w.ownsRow 0 5 1 (.slice (some ⟨g, 0, none⟩) n c) n (u8s lg)) (h0 : 0 < n) (hn : n ≤ 1000000000000) :
    Calls Tryz.prog 47 #[.slice (some ⟨g, 0, none⟩) n c] w (LogTold lg w) := by
  obtain ⟨i0, hi, hz0, hz1, hz2⟩ := info_partsB infoB
  have hlen : lg.length = n := by
    have := hown.1
    rw [u8s_length] at this
    omega
  subst hlen
  have hm0 := Mod.alloc (F := []) w (.cells #[] 5)
  have HO := hideIt (show (w.alloc (.cells #[] 5)).ownsRow 0 5 1 (.slice (some ⟨w.heap.size, 0, none⟩) 0 0) 0 (u8s []) from owns_allocB (w := w) (cur := #[]) (e := 5) (n := 0) (size := 1) rfl (by decide) (base := 0) (Nat.zero_le _))
  have HSRC := hideIt (srcRow_of_owns (owns_kept hown hm0 (by simp)) (u8s_one lg))
  have HM := hideIt hm0
  have hnil := fun W => Lib.run_eql_slice_nil (P := Tryz.prog) W 56 5 (some ⟨g, 0, none⟩) lg.length c 0 0 Tryz.underlying56
  clear hown hm0
  go_enter Tryz.func47, Tryz.ntmps47
  go_wp2_with (at_builtin; refine wpList_append_rows _ rfl _ _ 56 rfl 0 5 i0 (.int .u8 0) 1 1 Tryz.underlying56 hi hz0 hz1 hz2 rfl (by decide) _ 0 (u8s []) rfl HO.out _ lg.length (u8s lg) rfl HSRC.out (by omega) (by unfold maxLen; omega) (by omega) (Nat.zero_le _) ?_)
  intro g2 c2 w2 ho2 hm2 hat2
  have e : catL (u8s []) (u8s lg) = u8s lg := rfl
  rw [e] at ho2
  have HP := hideIt (show LogTold lg w (.returned (.slice (some ⟨g2, 0, none⟩) lg.length c2)) w2 from ⟨g2, c2, rfl, ho2, by
    rcases hat2 with h | h
    · simp [Value.ownBlock] at h
      omega
    · omega, HM.out.then hm2 (fun x hx => .inr (by simp [Value.ownBlock] at hx; omega))⟩)
  clear ho2 hm2 hat2 e
  go_wp2
  go_ret
  exact HP.out

set_option maxRecDepth 100000 in
set_option maxHeartbeats 400000 in
theorem hLog_any {w : World} {q fan : Nat} {ts : List Tg} {lg : List Int} {F : List Nat} (h : HRep w q fan ts lg F) (hl : lg.length ≤ 1000000000000) :
    Calls Tryz.prog 28 #[.pointer (some ⟨q, 0, none⟩)] w (LogTold lg w) := by
  obtain ⟨p, lv, F0, h1, -, h3, -, -, ⟨-, -, h8⟩, rfl⟩ := h
  rcases ownV h3 with ⟨rfl, h0⟩ | ⟨g, c, rfl⟩
  · omega
  have cl := cell_hL h1
  have HC := hideIt (clone_any h3 (by omega) hl)
  clear h1 h3
  go_enter Tryz.func28, Tryz.ntmps28
  go_wp2_with fail
  refine HC.out.mono ?_
  intro e w1 hs
  have HS := hideIt hs
  obtain ⟨g2, c2, rfl, _⟩ := hs
  go_wp2
  go_ret
  exact HS.out

end Go.Proofs.YthimaoipogocfaaGreat

namespace Go.Proofs.YthimaoipogocfaaGreat
open Go.RowKit Go.Maps
attribute [local go_sem] run_store_f32 run_neg_inf

/-! ### redo -/
/-- the program's tree, as what it holds and its log -/
def HAt (w : World) (q fan : Nat) (s : St) (F : List Nat) : Prop := ∃ ts, HRep w q fan ts s.lg F ∧ ts.map Tg.th = s.L

def RedoPost (q fan : Nat) (s : St) (r : Rc) (F : List Nat) (w : World) (e : Ending) (w' : World) : Prop :=
  ∃ b s' F', e = .returned (.bool b) ∧ HAt w' q fan s' F' ∧ ((b = true ∧ Done s r s') ∨ (b = false ∧ s' = s ∧ ∀ s'', ¬ Done s r s'')) ∧ (∀ x ∈ F', x ∈ F ∨ w.heap.size ≤ x) ∧ Mod F w w'

theorem redoNo {w w' : World} {q fan : Nat} {s : St} {r : Rc} {F : List Nat} (h : HAt w q fan s F) (hn : ∀ s'', ¬ Done s r s'') (hm : Mod [] w w') : RedoPost q fan s r F w (.returned (.bool false)) w' := by
  obtain ⟨ts, h1, h2⟩ := h
  exact ⟨false, s, F, rfl, ⟨ts, h1.kept hm (by simp), h2⟩, .inr ⟨rfl, rfl, hn⟩, fun x hx => .inl hx, hm.nil⟩

/-- Put, seen from its things and its log -/
theorem hPutS {w : World} {q fan : Nat} {s : St} {F : List Nat} (h : HAt w q fan s F) (hl : s.lg.length ≤ 10000000000) (hk : s.L.length ≤ 1000) (id x0 y0 x1 y1 : Int) :
    Calls Tryz.prog 24 #[.pointer (some ⟨q, 0, none⟩), .int .i64 id, R4 x0 y0 x1 y1] w fun e w' => ∃ c s' F', e = .returned (.int .i64 c) ∧ HAt w' q fan s' F' ∧ ((c = 0 ∧ okT s.L ⟨id, x0, y0, x1, y1⟩ ∧ s' = stPut s ⟨id, x0, y0, x1, y1⟩) ∨ (c ≠ 0 ∧ ¬ okT s.L ⟨id, x0, y0, x1, y1⟩ ∧ s' = s)) ∧ (∀ x ∈ F', x ∈ F ∨ w.heap.size ≤ x) ∧ Mod F w w' := by
  obtain ⟨ts, h1, h2⟩ := h
  have hlen : ts.length = s.L.length := by rw [← h2, List.length_map]
  refine (hPut_any h1 hl id x0 y0 x1 y1 (by omega)).mono ?_
  rintro e w' ⟨blk, rfl, F', a1, a2, a3⟩
  have hhas : (findG ts id).isSome = hasT s.L id := by rw [findG_hasT, h2]
  by_cases hc : putC ts id x0 y0 x1 y1 = 0
  · refine ⟨_, stPut s ⟨id, x0, y0, x1, y1⟩, F', rfl, ⟨putG ts id x0 y0 x1 y1 blk, ?_, ?_⟩, .inl ⟨hc, ?_, rfl⟩, a2, a3⟩
    · have := putLg_LT (lg := s.lg) hc
      rw [this, h2] at a1
      exact a1
    · rw [putG_th h1.ids hc, h2]
      rfl
    · unfold putC at hc
      split at hc
      · omega
      · rename_i hi
        split at hc
        · omega
        · rename_i hr
          split at hc
          · omega
          · rename_i hf
            refine ⟨idB_iff.1 (by simpa using hi), rectB_ok (by simpa using hr), ?_⟩
            by_cases hl4 : s.L.length < 400
            · exact .inr hl4
            · left
              rw [← hhas]
              cases hg : findG ts id with
              | none => exact absurd ⟨hg, by omega⟩ hf
              | some n => rfl
  · refine ⟨_, s, F', rfl, ⟨ts, ?_, h2⟩, .inr ⟨hc, ?_, rfl⟩, a2, a3⟩
    · have e1 : putG ts id x0 y0 x1 y1 blk = ts := by unfold putG; rw [if_neg hc]
      have e2 : putLg ts s.lg id x0 y0 x1 y1 = s.lg := by unfold putLg; rw [if_neg hc]
      rw [e1, e2] at a1
      exact a1
    · rintro ⟨k1, k2, k3⟩
      apply hc
      unfold putC
      rw [idB_iff.2 k1, rectOk_B k2, if_neg (by simp), if_neg (by simp), if_neg]
      rintro ⟨f1, f2⟩
      rcases k3 with k3 | k3
      · rw [← hhas, f1] at k3
        cases k3
      · omega

theorem hDropS {w : World} {q fan : Nat} {s : St} {F : List Nat} (h : HAt w q fan s F) (hl : s.lg.length ≤ 10000000000) (id : Int) :
    Calls Tryz.prog 16 #[.pointer (some ⟨q, 0, none⟩), .int .i64 id] w fun e w' => ∃ c F', e = .returned (.int .i64 c) ∧ HAt w' q fan (stDrop s id) F' ∧ ((c = 0 ∧ hasT s.L id = true) ∨ (c = 3 ∧ hasT s.L id = false)) ∧ (∀ x ∈ F', x ∈ F ∨ w.heap.size ≤ x) ∧ Mod F w w' := by
  obtain ⟨ts, h1, h2⟩ := h
  have hhas : (findG ts id).isSome = hasT s.L id := by rw [findG_hasT, h2]
  refine (hDrop_any h1 hl id).mono ?_
  rintro e w' ⟨rfl, F', a1, a2, a3⟩
  refine ⟨_, F', rfl, ⟨dropG ts id, ?_, ?_⟩, ?_, a2, a3⟩
  · rw [dropLg_LT, h2] at a1
    exact a1
  · rw [dropG_th h1.ids, h2]
    rfl
  · rw [hhas]
    cases hasT s.L id with
    | true => exact .inl ⟨rfl, rfl⟩
    | false => exact .inr ⟨rfl, rfl⟩

theorem dropT_none {L : List Th} {id : Int} (h : hasT L id = false) : dropT L id = L := by
  refine List.filter_eq_self.2 (fun t ht => ?_)
  simp only [bne_iff_ne, ne_eq]
  intro e
  have := hasT_iff.2 ⟨t, ht, e⟩
  rw [h] at this
  cases this
theorem stDrop_none {s : St} {id : Int} (h : hasT s.L id = false) : stDrop s id = s := by
  unfold stDrop dropLT
  rw [dropT_none h, h]
  rfl

theorem hasS {w : World} {q fan : Nat} {s : St} {F : List Nat} (h : HAt w q fan s F) (id : Int) : ∀ W, Mod [] w W → Calls Tryz.prog 33 #[.pointer (some ⟨q, 0, none⟩), .int .i64 id] W (HasPost (hasT s.L id) W) := fun W hm => by
  obtain ⟨ts, h1, h2⟩ := h
  rw [← h2, ← findG_hasT]
  exact hAsk h1 id _ rfl W hm

theorem HAt.kept {w w' : World} {q fan : Nat} {s : St} {F G : List Nat} (h : HAt w q fan s F) (hm : Mod G w w') (hf : ∀ x ∈ F, x ∉ G) : HAt w' q fan s F := by
  obtain ⟨ts, h1, h2⟩ := h
  exact ⟨ts, h1.kept hm hf, h2⟩
theorem HAt.lt {w : World} {q fan : Nat} {s : St} {F : List Nat} (h : HAt w q fan s F) : ∀ x ∈ F, x < w.heap.size := by
  obtain ⟨ts, h1, h2⟩ := h
  exact h1.lt

theorem eq0 (c : Int) : (c == 0) = decide (c = 0) := by
  by_cases h : c = 0 <;> simp [h]

set_option maxRecDepth 100000 in
set_option maxHeartbeats 1000000 in
theorem redo_drop {w : World} {q fan : Nat} {s : St} {F : List Nat} (h : HAt w q fan s F) (hl : s.lg.length ≤ 10000000000) {r : Rc} (hk : r.kind = 68) :
    Calls Tryz.prog 49 #[.pointer (some ⟨q, 0, none⟩), r.val] w (RedoPost q fan s r F w) := by
  obtain ⟨kind, fn, id, x0, y0, x1, y1⟩ := r
  simp only at hk
  subst hk
  have hm0 := Mod.alloc (F := []) w (rcO ⟨68, fn, id, x0, y0, x1, y1⟩)
  have HH := hideIt (hasS h id)
  have HZ := hideIt (show ∀ W, Mod [] (w.alloc (rcO ⟨68, fn, id, x0, y0, x1, y1⟩)) W → W.heap[w.heap.size]? = some (rcO ⟨68, fn, id, x0, y0, x1, y1⟩) from fun W hm => (hm.block _ (by simp) (by simp)).trans (heap_alloc_new w _))
  have HD := hideIt (fun W (hm : Mod [] w W) => hDropS (h.kept hm (by simp)) hl id)
  have HFIN := hideIt (show ∀ W w2 (c : Int) F', Mod [] w W → HAt w2 q fan (stDrop s id) F' → ((c = 0 ∧ hasT s.L id = true) ∨ (c = 3 ∧ hasT s.L id = false)) → (∀ x ∈ F', x ∈ F ∨ W.heap.size ≤ x) → Mod F W w2 → RedoPost q fan s ⟨68, fn, id, x0, y0, x1, y1⟩ F w (.returned (.bool (c == 0))) w2 from fun W w2 c F' hm k1 k2 k3 k4 => by
    have hs := hm.size
    rcases k2 with ⟨rfl, hh⟩ | ⟨rfl, hh⟩
    · exact ⟨true, _, F', rfl, k1, .inl ⟨rfl, .drop s ⟨68, fn, id, x0, y0, x1, y1⟩ rfl hh⟩, fun x hx => (k3 x hx).imp (fun h => h) (fun h => by omega), hm.nil.trans k4⟩
    · rw [stDrop_none hh] at k1
      refine ⟨false, s, F', rfl, k1, .inr ⟨rfl, rfl, fun s'' hd => ?_⟩, fun x hx => (k3 x hx).imp (fun h => h) (fun h => by omega), hm.nil.trans k4⟩
      cases hd with
      | put hk2 _ => simp at hk2
      | drop _ hh2 => simp only at hh2; rw [hh] at hh2; cases hh2)
  have HM0 := hideIt hm0
  obtain ⟨r0, r1, r2, r3, r4, r5, r6⟩ := cell_rcO (heap_alloc_new w (rcO ⟨68, fn, id, x0, y0, x1, y1⟩))
  generalize hasT s.L id = there at *
  clear h hm0
  simp only [Rc.val]
  simp only at r0 r1 r2 r3 r4 r5 r6
  go_enter Tryz.func49, Tryz.ntmps49
  go_wp2_with fail
  refine (HH.out _ HM0.out).mono ?_
  rintro e w1 ⟨rfl, hm1⟩
  clear r0 r1 r2 r3 r4 r5 r6
  obtain ⟨r0, r1, r2, r3, r4, r5, r6⟩ := cell_rcO (HZ.out w1 hm1)
  have HM1 := hideIt (HM0.out.trans hm1)
  clear hm1
  go_wp2_with fail
  refine (HD.out _ HM1.out).mono ?_
  rintro e w2 ⟨c, F', rfl, k1, k2, k3, k4⟩
  have HF := hideIt (HFIN.out _ _ _ _ HM1.out k1 k2 k3 k4)
  clear k1 k2 k3 k4 HFIN HD HH HZ
  go_wp2
  go_ret
  exact HF.out

/-- Put, where the record says so -/
theorem redoPut {w W w2 : World} {q fan : Nat} {s s' : St} {r : Rc} {F F' : List Nat} {c : Int} (hk : (r.kind = 77 ∧ hasT s.L r.id = true) ∨ (r.kind = 80 ∧ hasT s.L r.id = false)) (hm : Mod [] w W) (k1 : HAt w2 q fan s' F') (k2 : (c = 0 ∧ okT s.L r.th ∧ s' = stPut s r.th) ∨ (c ≠ 0 ∧ ¬ okT s.L r.th ∧ s' = s)) (k3 : ∀ x ∈ F', x ∈ F ∨ W.heap.size ≤ x) (k4 : Mod F W w2) : RedoPost q fan s r F w (.returned (.bool (c == 0))) w2 := by
  have hs := hm.size
  rcases k2 with ⟨rfl, ho, rfl⟩ | ⟨hc, ho, rfl⟩
  · exact ⟨true, _, F', rfl, k1, .inl ⟨rfl, .put s r hk ho⟩, fun x hx => (k3 x hx).imp (fun h => h) (fun h => by omega), hm.nil.trans k4⟩
  · refine ⟨false, s', F', by simp [hc], k1, .inr ⟨rfl, rfl, fun s'' hd => ?_⟩, fun x hx => (k3 x hx).imp (fun h => h) (fun h => by omega), hm.nil.trans k4⟩
    cases hd with
    | put _ ho2 => exact ho ho2
    | drop hk2 _ => omega

end Go.Proofs.YthimaoipogocfaaGreat

namespace Go.Proofs.YthimaoipogocfaaGreat
open Go.RowKit Go.Maps
attribute [local go_sem] run_store_f32 run_neg_inf

theorem remL_lt (c n : Int) (hn : 0 < n) : 0 ≤ c % n ∧ c % n < n := ⟨Int.emod_nonneg _ (by omega), Int.emod_lt_of_pos _ hn⟩

theorem remL_neg (c n : Int) (hc : c < 0) (hn : 0 < n) : 0 ≤ -(c + 1).tmod n ∧ -(c + 1).tmod n < n := by
  have e : -(c + 1).tmod n = (-(c + 1)).tmod n := by rw [Int.neg_tmod]
  rw [e, Int.tmod_eq_emod_of_nonneg (by omega)]
  exact remL_lt _ n hn

/-- pick: a number below n. -/
theorem lpick_any (c n : Int) (w : World) (h1 : -9223372036854775808 ≤ c) (h2 : c ≤ 9223372036854775807) (hn : 0 < n) (hn2 : n ≤ 9223372036854775807) :
    Calls Tryz.prog 53 #[.int .i64 c, .int .i64 n] w fun e w' => ∃ k : Int, e = .returned (.int .i64 k) ∧ 0 ≤ k ∧ k < n ∧ w' = w := by
  by_cases hc : c < 0
  · go_enter Tryz.func53, Tryz.ntmps53
    go_wp2
    go_ret
    exact ⟨_, rfl, (remL_neg c n hc hn).1, (remL_neg c n hc hn).2, rfl⟩
  · go_enter Tryz.func53, Tryz.ntmps53
    go_wp2
    go_ret
    exact ⟨_, rfl, (remL_lt _ n hn).1, (remL_lt _ n hn).2, rfl⟩

theorem num_any (c : Int) (w : World) : Calls Tryz.prog 81 #[.int .i64 c] w fun e w' => e = .returned (.int .i64 c) ∧ w' = w := by
  go_enter Tryz.func81, Tryz.ntmps81
  go_wp2
  go_ret
  exact ⟨rfl, rfl⟩

theorem Place_any (x y : Int) (w : World) : Calls Tryz.prog 155 #[.int .i64 x, .int .i64 y] w fun e w' => e = .returned (.bool (placeB x y)) ∧ w' = w := by
  by_cases h1 : -1000000000 ≤ x <;> by_cases h2 : x ≤ 1000000000 <;> by_cases h3 : -1000000000 ≤ y <;> by_cases h4 : y ≤ 1000000000
  all_goals
    go_enter Tryz.func155, Tryz.ntmps155
    go_wp2
    go_ret
    first
      | exact ⟨ret_bool (placeB_true (by omega)), rfl⟩
      | exact ⟨ret_bool (placeB_false (by omega)), rfl⟩

theorem Rect_any (x0 y0 x1 y1 : Int) (w : World) : Calls Tryz.prog 123 #[R4 x0 y0 x1 y1] w fun e w' => e = .returned (.bool (rectB x0 y0 x1 y1)) ∧ w' = w.alloc (B4 x0 y0 x1 y1) := by
  cases hp : placeB x0 y0 <;> cases hq : placeB x1 y1 <;> by_cases h1 : x0 ≤ x1 <;> by_cases h2 : y0 ≤ y1
  all_goals
    go_enter Tryz.func123, Tryz.ntmps123
    go_wp2_with fail
    refine (Place_any x0 y0 _).mono ?_
    rw [hp]
    rintro e w' ⟨rfl, rfl⟩
    go_wp2_with fail
    refine (Place_any x1 y1 _).mono ?_
    rw [hq]
    rintro e w' ⟨rfl, rfl⟩
    go_wp2
    go_ret
    refine ⟨ret_bool ?_, rfl⟩
    simp [rectB, hp, hq]
    try omega
end Go.Proofs.YthimaoipogocfaaGreat

