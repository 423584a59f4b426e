import Derived.Test.YthimaoipogocfaaGreatM11
import Derived.Test.YthimaoipogocfaaGreatM08
namespace Go.Proofs.YthimaoipogocfaaGreat
open Go.RowKit Go.Maps
attribute [local go_sem] run_store_f32 run_neg_inf

theorem Mod.trans_any {F G : List Nat} {a b c : World} (h : Mod F a b) (k : Mod G b c) : Mod (F ++ G) a c :=
  (h.mono (fun _ hx => List.mem_append.2 (.inl hx))).trans (k.mono (fun _ hx => List.mem_append.2 (.inr hx)))

/-- four lists more, each written full -/
theorem Shelf.add {B : Nat} {w w' : World} {e : TypeId} {P : World → Value → Int → Prop} {v u : Value} {N : Nat} {E G E' : List Nat} {ls : List Value} {ks : List Int} (hP : Stays P) (h : Shelf B w e P v u N E ls ks) (hm : Mod G w w') (hG : ∀ x ∈ E, x ∉ G) {v' u' : Value} {xs : List Value} {m : Int} (hx4 : xs.length = 4)
    (ho : w'.ownsRow B e 1 v' (ls.length + 4) (ls ++ xs)) (hu : w'.ownsRow B 3 1 u' (ls.length + 4) (ints (ks ++ [m, m, m, m])))
    (hf : ∀ x ∈ xs, P w' x m ∧ (x.oneCell' = true) ∧ ∀ y ∈ x.ownBlock.toList, y ∈ E') (hap : ∀ y, y ∈ E ∨ y ∈ E' → y ∉ v'.ownBlock.toList ∧ y ∉ u'.ownBlock.toList) (hlie : ∀ y ∈ E', B ≤ y ∧ y < w'.heap.size) :
    Shelf B w' e P v' u' (N + 4) (E ++ E') (ls ++ xs) (ks ++ [m, m, m, m]) := by
  have hl : (ls ++ xs).length = ls.length + 4 := by simp [hx4]
  refine ⟨by rw [hl]; exact ho, by rw [hl]; exact hu, by simp [h.len, hx4], by have := h.few; omega, fun i x k hx hk => ?_, fun y hy => hap y (List.mem_append.1 hy), fun y hy => ?_⟩
  · by_cases hi : i < ls.length
    · rw [List.getElem?_append_left hi] at hx
      rw [List.getElem?_append_left (by rw [h.len]; exact hi)] at hk
      obtain ⟨h1, h2, h3⟩ := h.full i x k hx hk
      exact ⟨hP w w' x k G h1 hm (fun y hy => hG y (h3 y hy)), h2, fun y hy => List.mem_append.2 (.inl (h3 y hy))⟩
    · rw [List.getElem?_append_right (by omega)] at hx
      rw [List.getElem?_append_right (by rw [h.len]; omega)] at hk
      have hkm : k = m := by
        have := List.mem_of_getElem? hk
        simp at this
        exact this
      subst hkm
      obtain ⟨h1, h2, h3⟩ := hf x (List.mem_of_getElem? hx)
      exact ⟨h1, h2, fun y hy => List.mem_append.2 (.inr (h3 y hy))⟩
  · rcases List.mem_append.1 hy with hy | hy
    · exact ⟨(h.lie y hy).1, Nat.lt_of_lt_of_le (h.lie y hy).2 hm.size⟩
    · exact hlie y hy

/-- .. as the book's functions leave it: x0 the list that came, w3 when all four stand, w8 at the end -/
theorem Shelf.fin {B : Nat} {w w3 w8 : World} {e : TypeId} {P : World → Value → Int → Prop} {v u : Value} {N : Nat} {E : List Nat} {ls : List Value} {ks : List Int} (hP : Stays P) (h : Shelf B w e P v u N E ls ks) {x0 : Value} {xs : List Value} {m : Int} {pw : Nat} (hx4 : xs.length = 4)
    (hx0 : ∀ y ∈ x0.ownBlock.toList, y ∉ sF v u E ∧ y < w.heap.size ∧ B ≤ y) (hB : B ≤ w.heap.size) (hm3 : Mod x0.ownBlock.toList w w3)
    (hxs : ∀ x ∈ xs, (∀ y ∈ x.ownBlock.toList, y ∈ x0.ownBlock.toList ∨ (w.heap.size ≤ y ∧ y < w3.heap.size)) ∧ (x.oneCell' = true) ∧ P w3 x m)
    (hpw : pw ∉ sF v u E ∧ pw ∉ x0.ownBlock.toList ∧ pw < w.heap.size) {v' u' : Value} (hv' : ∀ y ∈ v'.ownBlock.toList, y ∈ v.ownBlock.toList ∨ w3.heap.size ≤ y) (hu' : ∀ y ∈ u'.ownBlock.toList, y ∈ u.ownBlock.toList ∨ w3.heap.size ≤ y)
    (hm8 : Mod (pw :: (v.ownBlock.toList ++ u.ownBlock.toList)) w3 w8)
    (ho : w8.ownsRow B e 1 v' (ls.length + 4) (ls ++ xs)) (hu : w8.ownsRow B 3 1 u' (ls.length + 4) (ints (ks ++ [m, m, m, m]))) :
    ∃ E', Shelf B w8 e P v' u' (N + 4) E' (ls ++ xs) (ks ++ [m, m, m, m]) ∧ ∀ y ∈ sF v' u' E', y ∈ sF v u E ∨ y ∈ x0.ownBlock.toList ∨ w.heap.size ≤ y := by
  have hz3 := hm3.size
  have hz8 := hm8.size
  have hold := h.bounds
  have hvm : ∀ y ∈ v.ownBlock.toList, y ∈ sF v u E := fun y hy => mem_sF.2 (.inl hy)
  have hum : ∀ y ∈ u.ownBlock.toList, y ∈ sF v u E := fun y hy => mem_sF.2 (.inr (.inl hy))
  have hem : ∀ y ∈ E, y ∈ sF v u E := fun y hy => mem_sF.2 (.inr (.inr hy))
  let E1 := xs.flatMap (fun x => x.ownBlock.toList)
  have hE1 : ∀ y ∈ E1, y ∈ x0.ownBlock.toList ∨ (w.heap.size ≤ y ∧ y < w3.heap.size) := fun y hy => by
    obtain ⟨x, hx, hy⟩ := List.mem_flatMap.1 hy
    exact (hxs x hx).1 y hy
  have hxn : ∀ y ∈ E1, y ∉ sF v u E ∧ y < w3.heap.size ∧ B ≤ y ∧ y ≠ pw := fun y hy => by
    rcases hE1 y hy with h1 | ⟨h1, h2⟩
    · refine ⟨(hx0 y h1).1, by have := (hx0 y h1).2.1; omega, (hx0 y h1).2.2, ?_⟩
      rintro rfl
      exact hpw.2.1 h1
    · refine ⟨fun h3 => ?_, h2, by omega, by have := hpw.2.2; omega⟩
      have := (hold y h3).2
      omega
  refine ⟨E ++ E1, Shelf.add hP h (hm3.trans_any hm8) (fun y hy hy' => ?_) hx4 ho hu (fun x hx => ⟨?_, (hxs x hx).2.1, fun y hy => List.mem_flatMap.2 ⟨x, hx, hy⟩⟩) (fun y hy => ?_) (fun y hy => ?_), fun y hy => ?_⟩
  · rcases List.mem_append.1 hy' with h1 | h1
    · exact (hx0 y h1).1 (hem y hy)
    · rcases List.mem_cons.1 h1 with h1 | h1
      · exact hpw.1 (h1 ▸ hem y hy)
      · rcases List.mem_append.1 h1 with h1 | h1
        · exact (h.apart y hy).1 h1
        · exact (h.apart y hy).2 h1
  · refine hP w3 w8 x m _ (hxs x hx).2.2 hm8 (fun y hy hy' => ?_)
    have h2 := hxn y (List.mem_flatMap.2 ⟨x, hx, hy⟩)
    rcases List.mem_cons.1 hy' with h1 | h1
    · exact h2.2.2.2 h1
    · rcases List.mem_append.1 h1 with h1 | h1
      · exact h2.1 (hvm y h1)
      · exact h2.1 (hum y h1)
  · rcases hy with hy | hy
    · have h1 := h.apart y hy
      have h2 := (h.lie y hy).2
      refine ⟨fun h3 => ?_, fun h3 => ?_⟩
      · rcases hv' y h3 with h4 | h4
        · exact h1.1 h4
        · omega
      · rcases hu' y h3 with h4 | h4
        · exact h1.2 h4
        · omega
    · have h1 := hxn y hy
      refine ⟨fun h3 => ?_, fun h3 => ?_⟩
      · rcases hv' y h3 with h4 | h4
        · exact h1.1 (hvm y h4)
        · omega
      · rcases hu' y h3 with h4 | h4
        · exact h1.1 (hum y h4)
        · omega
  · have h1 := hxn y hy
    exact ⟨h1.2.2.1, by omega⟩
  · rcases mem_sF.1 hy with hy | hy | hy
    · rcases hv' y hy with h1 | h1
      · exact .inl (hvm y h1)
      · exact .inr (.inr (by omega))
    · rcases hu' y hy with h1 | h1
      · exact .inl (hum y h1)
      · exact .inr (.inr (by omega))
    · rcases List.mem_append.1 hy with hy | hy
      · exact .inl (hem y hy)
      · rcases hE1 y hy with h1 | ⟨h1, h2⟩
        · exact .inr (.inl h1)
        · exact .inr (.inr h1)

theorem owns_apartB {w : World} {base base' : Nat} {e e' : TypeId} {size size' n n' : Nat} {v v' : Value} {xs xs' : List Value} (h : w.ownsRow base e size v n xs) (h' : w.ownsRow base' e' size' v' n' xs') (hne : e ≠ e') : ∀ k ∈ v.ownBlock.toList, k ∉ v'.ownBlock.toList := fun k hk hk' => by
  rcases h.2 with ⟨rfl, _⟩ | ⟨g, c, cur, rfl, _, h2, _⟩
  · simp [Value.ownBlock] at hk
  · rcases h'.2 with ⟨rfl, _⟩ | ⟨g', c', cur', rfl, _, h2', _⟩
    · simp [Value.ownBlock] at hk'
    · have e1 : k = g := by simpa [Value.ownBlock] using hk
      have e2 : k = g' := by simpa [Value.ownBlock] using hk'
      subst e1
      subst e2
      rw [h2] at h2'
      cases h2'
      exact hne rfl

/-- the rows behind the two stores -/
theorem rows_done {B : Nat} {w3 w5 w7 : World} {e : TypeId} {pw o o' : Nat} {v u x y : Value} {n m : Nat} {xs ys : List Value} (hne : e ≠ 3) (hu3 : w3.ownsRow B 3 1 u m ys) (hpu : pw ∉ u.ownBlock.toList) (hpx : pw ∉ x.ownBlock.toList) (hpy : pw ∉ y.ownBlock.toList)
    (hox : w5.ownsRow B e 1 x n xs) (hm5 : Mod v.ownBlock.toList w3 w5) {ns : List Value} {n' : Nat} (hoy : w7.ownsRow B 3 1 y n' ns) (huv : ∀ k ∈ u.ownBlock.toList, k ∉ v.ownBlock.toList) (hm7 : Mod u.ownBlock.toList (w5.setCell ⟨pw, o, none⟩ x) w7) :
    (w7.setCell ⟨pw, o', none⟩ y).ownsRow B e 1 x n xs ∧ (w7.setCell ⟨pw, o', none⟩ y).ownsRow B 3 1 y n' ns ∧ Mod (pw :: (v.ownBlock.toList ++ u.ownBlock.toList)) w3 (w7.setCell ⟨pw, o', none⟩ y) := by
  have hs5 : Mod [pw] w5 (w5.setCell ⟨pw, o, none⟩ x) := Mod.setCell _ _ _ (by simp)
  have hs7 : Mod [pw] w7 (w7.setCell ⟨pw, o', none⟩ y) := Mod.setCell _ _ _ (by simp)
  have hx6 := owns_kept hox hs5 (fun k hk hk' => by simp at hk'; subst hk'; exact hpx (by simp [hk]))
  have hu6 := owns_kept (owns_kept hu3 hm5 (fun k hk => huv k (by simp [hk]))) hs5 (fun k hk hk' => by simp at hk'; subst hk'; exact hpu (by simp [hk]))
  have hx7 := owns_kept hx6 hm7 (fun k hk => owns_apartB hx6 hu6 hne k (by simp [hk]))
  refine ⟨owns_kept hx7 hs7 (fun k hk hk' => by simp at hk'; subst hk'; exact hpx (by simp [hk])), owns_kept hoy hs7 (fun k hk hk' => by simp at hk'; subst hk'; exact hpy (by simp [hk])), ?_⟩
  exact (((hm5.mono (fun z hz => by simp at hz ⊢; exact .inr (.inl hz))).trans (hs5.mono (fun z hz => by simp at hz ⊢; exact .inl hz))).trans (hm7.mono (fun z hz => by simp at hz ⊢; exact .inr (.inr hz)))).trans (hs7.mono (fun z hz => by simp at hz ⊢; exact .inl hz))

theorem Fl.fillN {w : World} {u : Value} {n : Nat} {m : Int} (h : Fl w u n n (fun _ => .int .i64 m)) (hn : n ≤ 1000000000) : FillN w u m := by
  obtain ⟨a, c, rfl, hc⟩ := h
  exact ⟨a, n, c, rfl, hn, hc⟩

def BookPost (B pw : Nat) (lv : Value) (K : Nat) (Fb : List Nat) (v : Value) (w : World) (e : Ending) (w' : World) : Prop :=
  e = .returned (.tuple #[]) ∧ ∃ bk' Fb', w'.heap[pw]? = some (T34 lv bk') ∧ BookRep B w' bk' (K + 4) Fb' ∧ (∀ x ∈ Fb', x ∈ Fb ∨ x ∈ v.ownBlock.toList ∨ w.heap.size ≤ x) ∧ Mod (pw :: (Fb ++ v.ownBlock.toList)) w w'

theorem infoIN : (Tryz.prog.info? 3).map (fun i => (i.zero, i.size, i.bytes)) = some (some (.int .i64 0), 1, 8) := by kernel_rfl
theorem owns_form {w : World} {base : Nat} {e : TypeId} {size : Nat} {a : Option Addr} {n c : Nat} {xs : List Value} (h : w.ownsRow base e size (.slice a n c) n xs) (hn : 0 < n) : ∃ g, a = some ⟨g, 0, none⟩ ∧ ∀ o, w.frozen? ⟨g, o, none⟩ = false := by
  rcases h.2 with ⟨h0, h1⟩ | ⟨g, c', cur, h1, _, h2, _⟩
  · omega
  · cases h1
    exact ⟨g, rfl, fun o => frozen_of_block h2 o⟩
theorem infoLN : (Tryz.prog.info? 39).map (fun i => (i.zero, i.size, i.bytes)) = some (some (.slice none 0 0), 1, 24) := by kernel_rfl

/-- the numbers' shelf is another; the others stay -/
theorem BookAt.num {B : Nat} {w w' : World} {bk : Bk} {K : Nat} {Eb En Eh : List Nat} (hb : BookAt B w bk K Eb En Eh) {x0 : Value} {pw : Nat} (hm : Mod (pw :: (bookF ⟨.slice none 0 0, .slice none 0 0, bk.vn, bk.un, .slice none 0 0, .slice none 0 0⟩ [] [] [] ++ x0.ownBlock.toList)) w w') (hpw : pw ∉ bookF bk Eb En Eh) (hvF : ∀ x ∈ x0.ownBlock.toList, x ∉ bookF bk Eb En Eh)
    {v' u' : Value} {E' : List Nat} {ls : List Value} {ks : List Int} (hsh : Shelf B w' 39 FillN v' u' (K + 4) E' ls ks) (hf : ∀ y ∈ sF v' u' E', y ∈ sF bk.vn bk.un En ∨ y ∈ x0.ownBlock.toList ∨ w.heap.size ≤ y) :
    BookAt B w' { bk with vn := v', un := u' } (K + 4) Eb E' Eh := by
  obtain ⟨⟨l1, k1, h1⟩, h2, ⟨l3, k3, h3⟩, d1, d2, d3⟩ := hb
  have b1 := h1.bounds
  have b3 := h3.bounds
  have hin : ∀ y, y ∈ bookF ⟨.slice none 0 0, .slice none 0 0, bk.vn, bk.un, .slice none 0 0, .slice none 0 0⟩ [] [] [] → y ∈ sF bk.vn bk.un En := fun y hy => by
    simp [bookF, sF, Value.ownBlock] at hy ⊢
    rcases hy with h | h
    · exact .inl h
    · exact .inr (.inl h)
  refine ⟨⟨l1, k1, (h1.kept stays_B hm (fun x hx hx' => ?_)).more (by omega)⟩, ⟨ls, ks, hsh⟩, ⟨l3, k3, (h3.kept stays_H hm (fun x hx hx' => ?_)).more (by omega)⟩, fun x hx hx' => ?_, d2, fun x hx hx' => ?_⟩
  · rcases List.mem_cons.1 hx' with h | h
    · exact hpw (mem_bookF.2 (.inl (h ▸ hx)))
    · rcases List.mem_append.1 h with h | h
      · exact d1 x hx (hin x h)
      · exact hvF x h (mem_bookF.2 (.inl hx))
  · rcases List.mem_cons.1 hx' with h | h
    · exact hpw (mem_bookF.2 (.inr (.inr (h ▸ hx))))
    · rcases List.mem_append.1 h with h | h
      · exact d3 x (hin x h) hx
      · exact hvF x h (mem_bookF.2 (.inr (.inr hx)))
  · rcases hf x hx' with h | h | h
    · exact d1 x hx h
    · exact hvF x h (mem_bookF.2 (.inl hx))
    · have := (b1 x hx).2
      omega
  · rcases hf x hx with h | h | h
    · exact d3 x h hx'
    · exact hvF x h (mem_bookF.2 (.inr (.inr hx')))
    · have := (b3 x hx').2
      omega

set_option maxRecDepth 100000 in
set_option maxHeartbeats 2000000 in
theorem bookN_any {B : Nat} {w : World} {pw : Nat} {lv : Value} {bk : Bk} {K : Nat} {Fb : List Nat} (hT : w.heap[pw]? = some (T34 lv bk)) (hb : BookRep B w bk K Fb) (hK : K ≤ 100000000) (hB : B ≤ w.heap.size) (hpw : pw ∉ Fb) {v : Value} {xs : List Int} (hv : w.ownsRow B 3 1 v xs.length (ints xs)) (hn : xs.length ≤ 1000) (hvF : ∀ x ∈ v.ownBlock.toList, x ∉ Fb ∧ x ≠ pw) :
    Calls Tryz.prog 127 #[.pointer (some ⟨pw, 1, none⟩), v] w (BookPost B pw lv K Fb v w) := by
  obtain ⟨Eb, En, Eh, hb, rfl⟩ := hb
  obtain ⟨ls, ks, hsh⟩ := hb.n
  obtain ⟨a3, p3, a4, p4, e3, e4, hrd⟩ := hsh.read
  clear hrd
  obtain ⟨i0, hi, hz0, hz1, hz2⟩ := info_partsB infoIN
  obtain ⟨i1, hj, hy0, hy1, hy2⟩ := info_partsB infoLN
  obtain ⟨c1, c2, c3, c4, c5, c6⟩ := cell_T34s hT
  obtain ⟨va, vc, hve⟩ : ∃ va vc, v = .slice va xs.length vc := by
    rcases hv.2 with ⟨rfl, h0⟩ | ⟨g, c, cur, rfl, _⟩
    · exact ⟨none, 0, by rw [h0]⟩
    · exact ⟨_, _, rfl⟩
  have hfew : ls.length ≤ 100000000 := Nat.le_trans hsh.few hK
  rw [e3] at c3
  have HT := hideIt hT
  have HBK := hideIt hb
  have HSH := hideIt hsh
  have HV := hideIt hv
  have HVF := hideIt hvF
  have HPW := hideIt hpw
  have HVE := hideIt hve
  have E3 := hideIt e3
  have E4 := hideIt e4
  clear hT hb hsh hv hvF hpw c1 c2 c4 c5 c6 e3 e4
  subst hve
  go_enter Tryz.func127, Tryz.ntmps127
  go_wp2_with fail
  generalize (-1 - (ls.length : Int) / 4) = M
  obtain ⟨f, hf⟩ : ∃ f : Nat → Value, f = fun _ => .int .i64 M := ⟨_, rfl⟩
  have HFV := hideIt (show ∀ j, f j = .int .i64 M from fun j => by rw [hf])
  have HF := hideIt hf
  clear hf
  go_loopw [5] (fun i wr => ∃ k : Nat, k ≤ xs.length ∧ i = .int .i64 k ∧ Hid (Mod (Value.slice va xs.length vc).ownBlock.toList w wr ∧ wr.ownsRow B 3 1 (.slice va xs.length vc) xs.length (rowF f k ++ (ints xs).drop k))) (fun i _ => xs.length - (intOf i).toNat)
  case atStart => exact ⟨0, by omega, rfl, hideIt ⟨Mod.refl _ _, HV.out⟩⟩
  case round =>
    obtain ⟨k, hk, rfl, hr⟩ := hrel
    by_cases hlt : k < xs.length
    · have hlt' : (k : Int) < (xs.length : Int) := by omega
      have hil : (ints xs).length = xs.length := by simp [ints]
      obtain ⟨g, rfl, hfz⟩ := owns_form hr.out.2 (by omega)
      have hfk := hfz k
      have hget : (rowF f k ++ (ints xs).drop k)[k]? = some (.int .i64 xs[k]) := by
        rw [List.getElem?_append_right (by rw [rowF_length]; exact Nat.le_refl _), rowF_length, Nat.sub_self, List.getElem?_drop]
        simp [ints, hlt]
      have hcell := owns_cell hr.out.2 k _ hget
      have HN := hideIt (show (wr.setCell ⟨g, k, none⟩ (.int .i64 M)).ownsRow B 3 1 (.slice (some ⟨g, 0, none⟩) xs.length vc) xs.length (rowF f (k + 1) ++ (ints xs).drop (k + 1)) by
        have := owns_setL hr.out.2 k (f k)
        rw [rowF_set (by omega), HFV.out k] at this
        exact this)
      have HMN := hideIt (show Mod (Value.slice (some ⟨g, 0, none⟩) xs.length vc).ownBlock.toList w (wr.setCell ⟨g, k, none⟩ (.int .i64 M)) from hr.out.1.trans (Mod.setCell _ _ _ (by simp [Value.ownBlock])))
      generalize xs[k] = y at *
      clear hr hget hfz c3
      go_wp2_with fail
      go_roundw
      case rel => exact ⟨k + 1, by omega, by go_num, hideIt ⟨HMN.out, HN.out⟩⟩
      case measure => simp [intOf]; omega
    · have hkn : k = xs.length := by omega
      subst hkn
      have hge : ¬ ((xs.length : Int) < (xs.length : Int)) := by omega
      have HO := hideIt (show wr.ownsRow B 3 1 (.slice va xs.length vc) xs.length (rowF f xs.length) by
        have := hr.out.2
        rw [List.drop_of_length_le (by simp [ints]), List.append_nil] at this
        exact this)
      have HM0 := hideIt hr.out.1
      have hszr : B ≤ wr.heap.size := Nat.le_trans hB hr.out.1.size
      clear hr hk hlt
      generalize hnl : xs.length = n at *
      clear hnl c3
      have HO1 := hideIt (show (wr.alloc (.cells #[.int .i64 M] 3)).ownsRow B 3 1 (.slice va n vc) n (rowF f n) from owns_kept HO.out (Mod.alloc (F := []) _ _) (by simp))
      have hsz1 : B ≤ (wr.alloc (.cells #[.int .i64 M] 3)).heap.size := by simp; omega
      go_wp2_with (at_builtin; refine wpList_append_keep _ rfl _ _ 39 rfl B 3 i0 (.int .i64 0) 1 8 Tryz.underlying39 hi hz0 hz1 hz2 rfl (by decide) _ n (rowF f n) rfl HO1.out ⟨wr.heap.size, 0, none⟩ 1 1 [.int .i64 M] rfl rfl (news_alloc wr #[.int .i64 M] 3) (fun u hu => by simp at hu; rw [hu]; rfl) (by unfold maxLen; omega) (by omega) hsz1 ?_)
      intro v1 w1 hkp
      obtain ⟨o1, ov1, m1, b1, q1⟩ := hkp.out
      clear hkp
      have HM1 := hideIt (show Mod (Value.slice va n vc).ownBlock.toList w w1 from (HM0.out.trans (Mod.alloc _ _)).trans m1)
      have HR1 := hideIt (show w1.ownsRow B 3 1 v1 (n + 1) (rowF f (n + 1)) by rw [rowF_succ, HFV.out]; exact o1)
      have HB1 := hideIt (show ∀ y ∈ v1.ownBlock.toList, y ∈ (Value.slice va n vc).ownBlock.toList ∨ (w.heap.size ≤ y ∧ y < w1.heap.size) from fun y hy => (b1 y hy).imp (fun h => h) (fun h => ⟨by have := HM0.out.size; simp at h; omega, (HR1.out.lt y (by simpa using hy)).2⟩))
      have HL1 := hideIt (Fl.of_owns HR1.out)
      clear o1 m1 b1 q1 HO1 hsz1 HO HM0
      have HOA := hideIt (show (w1.alloc (.cells #[.int .i64 M, .int .i64 M] 3)).ownsRow B 3 1 (.slice va n vc) n (rowF f n) from owns_kept ov1 (Mod.alloc (F := []) _ _) (by simp))
      have hsz2 : B ≤ (w1.alloc (.cells #[.int .i64 M, .int .i64 M] 3)).heap.size := by have := HM1.out.size; simp; omega
      clear ov1
      go_wp2_with (at_builtin; refine wpList_append_keep _ rfl _ _ 39 rfl B 3 i0 (.int .i64 0) 1 8 Tryz.underlying39 hi hz0 hz1 hz2 rfl (by decide) _ n (rowF f n) rfl HOA.out ⟨w1.heap.size, 0, none⟩ 2 2 [.int .i64 M, .int .i64 M] rfl rfl (news_alloc w1 #[.int .i64 M, .int .i64 M] 3) (fun u hu => by simp at hu; rw [hu]; rfl) (by unfold maxLen; omega) (by omega) hsz2 ?_)
      intro v2 w2 hkp
      obtain ⟨o2, ov2, m2, b2, q2⟩ := hkp.out
      clear hkp
      have HM2 := hideIt (show Mod (Value.slice va n vc).ownBlock.toList w w2 from (HM1.out.trans (Mod.alloc _ _)).trans m2)
      have HR2 := hideIt (show w2.ownsRow B 3 1 v2 (n + 2) (rowF f (n + 2)) by rw [rowF_succ, rowF_succ, HFV.out, HFV.out, List.append_assoc]; exact o2)
      have HB1 := hideIt (show ∀ y ∈ v1.ownBlock.toList, y ∈ (Value.slice va n vc).ownBlock.toList ∨ (w.heap.size ≤ y ∧ y < w2.heap.size) from fun y hy => (HB1.out y hy).imp (fun h => h) (fun h => ⟨h.1, by have := m2.size; simp at this; omega⟩))
      have HB2 := hideIt (show ∀ y ∈ v2.ownBlock.toList, y ∈ (Value.slice va n vc).ownBlock.toList ∨ (w.heap.size ≤ y ∧ y < w2.heap.size) from fun y hy => (b2 y hy).imp (fun h => h) (fun h => ⟨by have := HM1.out.size; simp at h; omega, (HR2.out.lt y (by simpa using hy)).2⟩))
      have HL1 := hideIt ((HL1.out.kept (Mod.alloc (F := []) _ _) (by simp)).next (by omega) HR2.out m2 q2)
      have HL2 := hideIt (Fl.of_owns HR2.out)
      clear o2 m2 b2 q2 HOA hsz2 HM1 HR1
      have HOA := hideIt (show (w2.alloc (.cells #[.int .i64 M, .int .i64 M, .int .i64 M] 3)).ownsRow B 3 1 (.slice va n vc) n (rowF f n) from owns_kept ov2 (Mod.alloc (F := []) _ _) (by simp))
      have hsz3 : B ≤ (w2.alloc (.cells #[.int .i64 M, .int .i64 M, .int .i64 M] 3)).heap.size := by have := HM2.out.size; simp; omega
      clear ov2
      go_wp2_with (at_builtin; refine wpList_append_keep _ rfl _ _ 39 rfl B 3 i0 (.int .i64 0) 1 8 Tryz.underlying39 hi hz0 hz1 hz2 rfl (by decide) _ n (rowF f n) rfl HOA.out ⟨w2.heap.size, 0, none⟩ 3 3 [.int .i64 M, .int .i64 M, .int .i64 M] rfl rfl (news_alloc w2 #[.int .i64 M, .int .i64 M, .int .i64 M] 3) (fun u hu => by simp at hu; rw [hu]; rfl) (by unfold maxLen; omega) (by omega) hsz3 ?_)
      intro v3 w3 hkp
      obtain ⟨o3, ov3, m3, b3, q3⟩ := hkp.out
      clear hkp
      have HM3 := hideIt (show Mod (Value.slice va n vc).ownBlock.toList w w3 from (HM2.out.trans (Mod.alloc _ _)).trans m3)
      have HR3 := hideIt (show w3.ownsRow B 3 1 v3 (n + 3) (rowF f (n + 3)) by rw [rowF_succ, rowF_succ, rowF_succ, HFV.out, HFV.out, HFV.out, List.append_assoc, List.append_assoc]; exact o3)
      have HB1 := hideIt (show ∀ y ∈ v1.ownBlock.toList, y ∈ (Value.slice va n vc).ownBlock.toList ∨ (w.heap.size ≤ y ∧ y < w3.heap.size) from fun y hy => (HB1.out y hy).imp (fun h => h) (fun h => ⟨h.1, by have := m3.size; simp at this; omega⟩))
      have HB2 := hideIt (show ∀ y ∈ v2.ownBlock.toList, y ∈ (Value.slice va n vc).ownBlock.toList ∨ (w.heap.size ≤ y ∧ y < w3.heap.size) from fun y hy => (HB2.out y hy).imp (fun h => h) (fun h => ⟨h.1, by have := m3.size; simp at this; omega⟩))
      have HB3 := hideIt (show ∀ y ∈ v3.ownBlock.toList, y ∈ (Value.slice va n vc).ownBlock.toList ∨ (w.heap.size ≤ y ∧ y < w3.heap.size) from fun y hy => (b3 y hy).imp (fun h => h) (fun h => ⟨by have := HM2.out.size; simp at h; omega, (HR3.out.lt y (by simpa using hy)).2⟩))
      have HL1 := hideIt ((HL1.out.kept (Mod.alloc (F := []) _ _) (by simp)).next (by omega) HR3.out m3 q3)
      have HL2 := hideIt ((HL2.out.kept (Mod.alloc (F := []) _ _) (by simp)).next (by omega) HR3.out m3 q3)
      have HL3 := hideIt (Fl.of_owns HR3.out)
      have HL0 := hideIt (Fl.of_owns ov3)
      clear o3 m3 b3 q3 ov3 HOA hsz3 HM2 HR2
      obtain ⟨r1, s1, rfl⟩ : ∃ a c, v1 = .slice a (n + 1) c := by obtain ⟨a, c, h, _⟩ := HL1.out; exact ⟨a, c, h⟩
      obtain ⟨r2, s2, rfl⟩ : ∃ a c, v2 = .slice a (n + 2) c := by obtain ⟨a, c, h, _⟩ := HL2.out; exact ⟨a, c, h⟩
      obtain ⟨r3, s3, rfl⟩ : ∃ a c, v3 = .slice a (n + 3) c := by obtain ⟨a, c, h, _⟩ := HL3.out; exact ⟨a, c, h⟩
      have hT3 : w3.heap[pw]? = some (T34 lv bk) := (HM3.out.block pw (lt_of_block HT.out) (fun hx => (HVF.out pw hx).2 rfl)).trans HT.out
      have c3 : w3.cell? ⟨pw, 3, none⟩ = some (.slice a3 ls.length p3) := by rw [← E3.out]; exact (cell_T34s hT3).2.2.1
      have HON := hideIt (show (w3.alloc (.cells #[.slice va n vc, .slice r1 (n + 1) s1, .slice r2 (n + 2) s2, .slice r3 (n + 3) s3] 39)).ownsRow B 39 1 (.slice a3 ls.length p3) ls.length ls by
        rw [← E3.out]
        exact owns_kept (owns_kept HSH.out.own HM3.out (fun k hk hk' => (HVF.out k hk').1 (mem_bookF.2 (.inr (.inl (mem_sF.2 (.inl (by simp [hk])))))))) (Mod.alloc (F := []) _ _) (by simp))
      have HSRC := hideIt (show srcRow (w3.alloc (.cells #[.slice va n vc, .slice r1 (n + 1) s1, .slice r2 (n + 2) s2, .slice r3 (n + 3) s3] 39)) 1 (.slice (some ⟨w3.heap.size, 0, none⟩) 4 4) 4 [.slice va n vc, .slice r1 (n + 1) s1, .slice r2 (n + 2) s2, .slice r3 (n + 3) s3] from srcRow_of_owns (owns_allocB (w := w3) (cur := #[.slice va n vc, .slice r1 (n + 1) s1, .slice r2 (n + 2) s2, .slice r3 (n + 3) s3]) (e := 39) (n := 4) (size := 1) rfl (by decide) (base := 0) (Nat.zero_le _)) (fun u hu => by simp at hu; rcases hu with rfl | rfl | rfl | rfl <;> rfl))
      have hsz4 : B ≤ (w3.alloc (.cells #[.slice va n vc, .slice r1 (n + 1) s1, .slice r2 (n + 2) s2, .slice r3 (n + 3) s3] 39)).heap.size := by have := HM3.out.size; simp; omega
      have HT3 := hideIt hT3
      clear hT3
      go_wp2_with (at_builtin; refine wpList_append_rows _ rfl _ _ 63 rfl B 39 i1 (.slice none 0 0) 1 24 Tryz.underlying63 hj hy0 hy1 hy2 rfl (by decide) _ ls.length ls rfl HON.out _ 4 [.slice va n vc, .slice r1 (n + 1) s1, .slice r2 (n + 2) s2, .slice r3 (n + 3) s3] rfl HSRC.out (by omega) (by unfold maxLen; omega) (by omega) hsz4 ?_)
      intro g5 c5 w5 ho5 hm5 hat5
      have HVNB := hideIt (show ∀ y ∈ bk.vn.ownBlock.toList, y ∈ bookF bk Eb En Eh from fun y hy => mem_bookF.2 (.inr (.inl (mem_sF.2 (.inl hy)))))
      have HUNB := hideIt (show ∀ y ∈ bk.un.ownBlock.toList, y ∈ bookF bk Eb En Eh from fun y hy => mem_bookF.2 (.inr (.inl (mem_sF.2 (.inr (.inl hy))))))
      have HM5 := hideIt (show Mod bk.vn.ownBlock.toList w3 w5 by rw [E3.out]; exact (Mod.alloc _ _).trans hm5)
      have HG5 := hideIt (show g5 ∈ bk.vn.ownBlock.toList ∨ w3.heap.size ≤ g5 by
        rw [E3.out]
        rcases hat5 with h | h
        · exact .inl (by simp [h])
        · exact .inr (by first | omega | (simp at h; omega)))
      have HO5 := hideIt (show w5.ownsRow B 39 1 (.slice (some ⟨g5, 0, none⟩) (ls.length + 4) c5) (ls.length + 4) (ls ++ [.slice va n vc, .slice r1 (n + 1) s1, .slice r2 (n + 2) s2, .slice r3 (n + 3) s3]) from ho5)
      have hT5 : w5.heap[pw]? = some (T34 lv bk) := (HM5.out.block pw (lt_of_block HT3.out) (fun hx => HPW.out (HVNB.out pw hx))).trans HT3.out
      have hf5 := frozen_of_block hT5 3
      have hc5 := (cell_T34s hT5).2.2.1
      have hg5 : g5 ≠ pw := by
        rintro rfl
        rcases HG5.out with h | h
        · exact HPW.out (HVNB.out _ h)
        · have := lt_of_block HT3.out
          omega
      have hT6 : (w5.setCell ⟨pw, 3, none⟩ (.slice (some ⟨g5, 0, none⟩) (ls.length + 4) c5)).heap[pw]? = some (T34 lv { bk with vn := .slice (some ⟨g5, 0, none⟩) (ls.length + 4) c5 }) := by rw [block_setCell hT5]; rfl
      have c4 : (w5.setCell ⟨pw, 3, none⟩ (.slice (some ⟨g5, 0, none⟩) (ls.length + 4) c5)).cell? ⟨pw, 4, none⟩ = some (.slice a4 ls.length p4) := by rw [← E4.out]; exact (cell_T34s hT6).2.2.2.1
      have HUV := hideIt (show ∀ k ∈ bk.un.ownBlock.toList, k ∉ bk.vn.ownBlock.toList from owns_apartB HSH.out.marks HSH.out.own (by decide))
      have HU3 := hideIt (show w3.ownsRow B 3 1 bk.un ls.length (ints ks) from owns_kept HSH.out.marks HM3.out (fun k hk hk' => (HVF.out k hk').1 (HUNB.out k (by simp [hk]))))
      have HOU := hideIt (show ((w5.setCell ⟨pw, 3, none⟩ (.slice (some ⟨g5, 0, none⟩) (ls.length + 4) c5)).alloc (.cells #[.int .i64 M, .int .i64 M, .int .i64 M, .int .i64 M] 3)).ownsRow B 3 1 (.slice a4 ls.length p4) ls.length (ints ks) by
        rw [← E4.out]
        refine owns_kept (owns_kept (owns_kept HU3.out HM5.out (fun k hk => HUV.out k (by simp [hk]))) (Mod.setCell (F := [pw]) _ _ _ (by simp)) (fun k hk hk' => ?_)) (Mod.alloc (F := []) _ _) (by simp)
        simp at hk'
        subst hk'
        exact HPW.out (HUNB.out _ (by simp [hk])))
      have HSR2 := hideIt (show srcRow ((w5.setCell ⟨pw, 3, none⟩ (.slice (some ⟨g5, 0, none⟩) (ls.length + 4) c5)).alloc (.cells #[.int .i64 M, .int .i64 M, .int .i64 M, .int .i64 M] 3)) 1 (.slice (some ⟨(w5.setCell ⟨pw, 3, none⟩ (.slice (some ⟨g5, 0, none⟩) (ls.length + 4) c5)).heap.size, 0, none⟩) 4 4) 4 [.int .i64 M, .int .i64 M, .int .i64 M, .int .i64 M] from srcRow_of_owns (owns_allocB (cur := #[.int .i64 M, .int .i64 M, .int .i64 M, .int .i64 M]) (e := 3) (n := 4) (size := 1) rfl (by decide) (base := 0) (Nat.zero_le _)) (fun u hu => by simp at hu; rw [hu]; rfl))
      have HT6 := hideIt hT6
      have hsz6 : B ≤ ((w5.setCell ⟨pw, 3, none⟩ (.slice (some ⟨g5, 0, none⟩) (ls.length + 4) c5)).alloc (.cells #[.int .i64 M, .int .i64 M, .int .i64 M, .int .i64 M] 3)).heap.size := Nat.le_trans hB (Nat.le_trans (HM3.out.size) (Nat.le_trans HM5.out.size (((Mod.setCell (F := [pw]) w5 ⟨pw, 3, none⟩ _ (by simp)).trans (Mod.alloc (F := [pw]) _ _)).size)))
      clear hT5 hT6 ho5 hm5 hat5 c3 HON HSRC hsz4
      generalize hW6 : w5.setCell ⟨pw, 3, none⟩ (.slice (some ⟨g5, 0, none⟩) (ls.length + 4) c5) = w6 at *
      go_wp2_with (at_builtin; refine wpList_append_rows _ rfl _ _ 39 rfl B 3 i0 (.int .i64 0) 1 8 Tryz.underlying39 hi hz0 hz1 hz2 rfl (by decide) _ ls.length (ints ks) rfl HOU.out _ 4 [.int .i64 M, .int .i64 M, .int .i64 M, .int .i64 M] rfl HSR2.out (by omega) (by unfold maxLen; omega) (by omega) hsz6 ?_)
      intro g7 c7 w7 ho7 hm7 hat7
      have HM7 := hideIt (show Mod bk.un.ownBlock.toList w6 w7 by rw [E4.out]; exact (Mod.alloc _ _).trans hm7)
      have HG7 := hideIt (show g7 ∈ bk.un.ownBlock.toList ∨ w3.heap.size ≤ g7 by
        rw [E4.out]
        rcases hat7 with h | h
        · exact .inl (by simp [h])
        · refine .inr ?_
          have h1 := HM5.out.size
          have h2 : w5.heap.size ≤ w6.heap.size := by rw [← hW6]; exact (Mod.setCell (F := [pw]) _ _ _ (by simp)).size
          first | omega | (simp at h; omega))
      have HO7 := hideIt (show w7.ownsRow B 3 1 (.slice (some ⟨g7, 0, none⟩) (ls.length + 4) c7) (ls.length + 4) (ints (ks ++ [M, M, M, M])) by
        rw [show ints (ks ++ [M, M, M, M]) = catL (ints ks) [.int .i64 M, .int .i64 M, .int .i64 M, .int .i64 M] by simp [ints, catL]]
        exact ho7)
      have hT7 : w7.heap[pw]? = some (T34 lv { bk with vn := .slice (some ⟨g5, 0, none⟩) (ls.length + 4) c5 }) := (HM7.out.block pw (lt_of_block HT6.out) (fun hx => HPW.out (HUNB.out pw hx))).trans HT6.out
      have hg7 : g7 ≠ pw := by
        rintro rfl
        rcases HG7.out with h | h
        · exact HPW.out (HUNB.out _ h)
        · have := lt_of_block HT3.out
          omega
      have hf7 := frozen_of_block hT7 4
      have hc7 : w7.cell? ⟨pw, 4, none⟩ = some bk.un := (cell_T34s hT7).2.2.2.1
      have hT8 : (w7.setCell ⟨pw, 4, none⟩ (.slice (some ⟨g7, 0, none⟩) (ls.length + 4) c7)).heap[pw]? = some (T34 lv { bk with vn := .slice (some ⟨g5, 0, none⟩) (ls.length + 4) c5, un := .slice (some ⟨g7, 0, none⟩) (ls.length + 4) c7 }) := by rw [block_setCell hT7]; rfl
      have HFIN := hideIt (show BookPost B pw lv K (bookF bk Eb En Eh) (.slice va n vc) w (.returned (.tuple #[])) (w7.setCell ⟨pw, 4, none⟩ (.slice (some ⟨g7, 0, none⟩) (ls.length + 4) c7)) from by
        rw [← hW6] at HM7
        obtain ⟨d1, d2, d3⟩ := rows_done (o' := 4) (by decide) HU3.out (fun hx => HPW.out (HUNB.out _ hx)) (by simpa [Value.ownBlock] using fun h => hg5 h.symm) (by simpa [Value.ownBlock] using fun h => hg7 h.symm) HO5.out HM5.out HO7.out HUV.out HM7.out
        have hx0 : ∀ y ∈ (Value.slice va n vc).ownBlock.toList, y ∉ sF bk.vn bk.un En ∧ y < w.heap.size ∧ B ≤ y := fun y hy => ⟨fun h => (HVF.out y hy).1 (mem_bookF.2 (.inr (.inl h))), (HV.out.lt y (by simpa using hy)).2, (HV.out.lt y (by simpa using hy)).1⟩
        have hfill : ∀ {u : Value} {l : Nat}, Fl w3 u l l f → l ≤ 1000000000 → FillN w3 u M := fun h hl => Fl.fillN (by rw [← HF.out]; exact h) hl
        obtain ⟨E', hsh', hE'⟩ := Shelf.fin stays_N HSH.out (x0 := .slice va n vc) (xs := [.slice va n vc, .slice r1 (n + 1) s1, .slice r2 (n + 2) s2, .slice r3 (n + 3) s3]) (m := M) (pw := pw) rfl hx0 hB HM3.out (fun x hx => by
          simp only [List.mem_cons, List.not_mem_nil, or_false] at hx
          rcases hx with rfl | rfl | rfl | rfl
          · exact ⟨fun y hy => .inl hy, rfl, hfill HL0.out (by omega)⟩
          · exact ⟨HB1.out, rfl, hfill HL1.out (by omega)⟩
          · exact ⟨HB2.out, rfl, hfill HL2.out (by omega)⟩
          · exact ⟨HB3.out, rfl, hfill HL3.out (by omega)⟩)
          ⟨fun h => HPW.out (mem_bookF.2 (.inr (.inl h))), fun h => (HVF.out _ h).2 rfl, lt_of_block HT.out⟩
          (v' := .slice (some ⟨g5, 0, none⟩) (ls.length + 4) c5) (u' := .slice (some ⟨g7, 0, none⟩) (ls.length + 4) c7)
          (fun y hy => by have e : y = g5 := by simpa [Value.ownBlock] using hy
                          subst e; exact HG5.out)
          (fun y hy => by have e : y = g7 := by simpa [Value.ownBlock] using hy
                          subst e; exact HG7.out) d3 d1 d2
        have hM : Mod (pw :: (bookF ⟨.slice none 0 0, .slice none 0 0, bk.vn, bk.un, .slice none 0 0, .slice none 0 0⟩ [] [] [] ++ (Value.slice va n vc).ownBlock.toList)) w (w7.setCell ⟨pw, 4, none⟩ (.slice (some ⟨g7, 0, none⟩) (ls.length + 4) c7)) := by
          refine (HM3.out.mono (fun y hy => ?_)).trans (d3.mono (fun y hy => ?_))
          · exact List.mem_cons.2 (.inr (List.mem_append.2 (.inr hy)))
          · rcases List.mem_cons.1 hy with h | h
            · exact List.mem_cons.2 (.inl h)
            · refine List.mem_cons.2 (.inr (List.mem_append.2 (.inl ?_)))
              rcases List.mem_append.1 h with h | h
              · exact mem_bookF.2 (.inr (.inl (mem_sF.2 (.inl h))))
              · exact mem_bookF.2 (.inr (.inl (mem_sF.2 (.inr (.inl h)))))
        refine ⟨rfl, _, _, hT8, ⟨Eb, E', Eh, HBK.out.num hM HPW.out (fun x hx => (HVF.out x hx).1) hsh' hE', rfl⟩, fun x hx => ?_, hM.mono (fun y hy => ?_)⟩
        · rcases mem_bookF.1 hx with h | h | h
          · exact .inl (mem_bookF.2 (.inl h))
          · rcases hE' x h with h | h | h
            · exact .inl (mem_bookF.2 (.inr (.inl h)))
            · exact .inr (.inl h)
            · exact .inr (.inr h)
          · exact .inl (mem_bookF.2 (.inr (.inr h)))
        · rcases List.mem_cons.1 hy with h | h
          · exact List.mem_cons.2 (.inl h)
          · refine List.mem_cons.2 (.inr ?_)
            rcases List.mem_append.1 h with h | h
            · refine List.mem_append.2 (.inl ?_)
              rcases mem_bookF.1 h with h | h | h
              · simp [sF, Value.ownBlock] at h
              · rcases mem_sF.1 h with h | h | h
                · exact HVNB.out y h
                · exact HUNB.out y h
                · simp at h
              · simp [sF, Value.ownBlock] at h
            · exact List.mem_append.2 (.inr h))
      clear hT7 hT8 ho7 hm7 hat7 c4 HOU HSR2 hsz6 hc5 hf5 HL0 HL1 HL2 HL3 HB1 HB2 HB3 HO5 HO7 HU3
      go_wp2
      go_end0
      exact HFIN.out

end Go.Proofs.YthimaoipogocfaaGreat

