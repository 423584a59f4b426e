import Derived.Test.YthimaoipogocfaaGreatM14
namespace Go.Proofs.YthimaoipogocfaaGreat.Rf
open Go.RowKit Go.Maps
attribute [local go_sem] run_store_f32 run_neg_inf

/-! ### rows of elements of one size -/
section
variable {A : Type}

def flatE (f : A → List Value) (xs : List A) : List Value := xs.flatMap f
theorem flatE_append (f : A → List Value) (a b : List A) : flatE f (a ++ b) = flatE f a ++ flatE f b := by simp [flatE]
theorem flatE_length {f : A → List Value} {s : Nat} (hf : ∀ a, (f a).length = s) (xs : List A) : (flatE f xs).length = xs.length * s := by
  induction xs with
  | nil => simp [flatE]
  | cons t L ih => simp only [flatE, List.flatMap_cons, List.length_append, List.length_cons] at ih ⊢; rw [ih, hf, Nat.succ_mul]; omega
theorem flatE_get {f : A → List Value} {s : Nat} (hf : ∀ a, (f a).length = s) (L : List A) (k : Nat) (t : A) (h : L[k]? = some t) (j : Nat) (hj : j < s) : (flatE f L)[k * s + j]? = (f t)[j]? := by
  induction L generalizing k with
  | nil => simp at h
  | cons a L ih =>
    have e : flatE f (a :: L) = f a ++ flatE f L := rfl
    have hl := hf a
    rw [e]
    cases k with
    | zero =>
      simp at h
      subst h
      rw [List.getElem?_append_left (by omega)]
      congr 1
      omega
    | succ k =>
      simp at h
      rw [List.getElem?_append_right (by rw [hl, Nat.succ_mul]; omega), hl, ← ih k h]
      congr 1
      rw [Nat.succ_mul]
      omega
theorem flatE_one {f : A → List Value} (h1 : ∀ a, ∀ u ∈ f a, u.oneCell' = true) (xs : List A) : ∀ u ∈ flatE f xs, u.oneCell' = true := by
  intro u hu
  simp only [flatE, List.mem_flatMap] at hu
  obtain ⟨a, _, hu⟩ := hu
  exact h1 a u hu

theorem srcE_head {f : A → List Value} {s : Nat} (hf : ∀ a, (f a).length = s) (h1 : ∀ a, ∀ u ∈ f a, u.oneCell' = true) {w : World} {b g n c : Nat} {e : TypeId} {xs : List A} (h : w.ownsRow b e s (.slice (some ⟨g, 0, none⟩) n c) n (flatE f xs)) (hn : xs.length = n) (j : Nat) (hj : j ≤ n) :
    srcRow w s (.slice (some ⟨g, 0, none⟩) j c) j (flatE f (xs.take j)) := by
  refine ⟨by rw [flatE_length hf]; congr 1; simp; omega, flatE_one h1 _, .inr ⟨_, _, rfl, fun k u hu => ?_⟩⟩
  refine h.cells rfl k u ?_
  have e := flatE_append f (xs.take j) (xs.drop j)
  rw [List.take_append_drop] at e
  rw [e, List.getElem?_append_left (List.getElem?_eq_some_iff.1 hu).1]
  exact hu

theorem srcE_rest {f : A → List Value} {s : Nat} (hf : ∀ a, (f a).length = s) (h1 : ∀ a, ∀ u ∈ f a, u.oneCell' = true) {w : World} {b g n c : Nat} {e : TypeId} {xs : List A} (h : w.ownsRow b e s (.slice (some ⟨g, 0, none⟩) n c) n (flatE f xs)) (hn : xs.length = n) (hc : n ≤ c) (j : Nat) (hj : j ≤ n) :
    srcRow w s (.slice (if c = j then some ⟨g, 0, none⟩ else some ⟨g, j * s, none⟩) (n - j) (c - j)) (n - j) (flatE f (xs.drop j)) := by
  refine ⟨by rw [flatE_length hf]; congr 1; simp; omega, flatE_one h1 _, .inr ?_⟩
  by_cases hcn : c = j
  · refine ⟨⟨g, 0, none⟩, c - j, by rw [if_pos hcn], fun k u hu => ?_⟩
    rw [List.drop_of_length_le (by omega)] at hu
    simp [flatE] at hu
  · refine ⟨⟨g, j * s, none⟩, c - j, by rw [if_neg hcn], fun k u hu => ?_⟩
    rw [show (⟨g, j * s, none⟩ : Addr).add k = ⟨g, j * s + k, none⟩ from by unfold Addr.add; split <;> simp_all]
    refine owns_cell h _ u ?_
    have e := flatE_append f (xs.take j) (xs.drop j)
    rw [List.take_append_drop] at e
    have hlen : (flatE f (xs.take j)).length = j * s := by rw [flatE_length hf]; congr 1; simp; omega
    rw [e, List.getElem?_append_right (by omega), ← hu]
    congr 1
    omega
end

/-! ### hits -/
/-- a hit: its number, how far -/
abbrev Ht := Int × Int
def htCells (p : Ht) : List Value := [.int .i64 p.1, .int .i64 p.2]
theorem htCells_len (p : Ht) : (htCells p).length = 2 := rfl
theorem htCells_one (p : Ht) : ∀ u ∈ htCells p, u.oneCell' = true := by
  intro u hu
  simp [htCells] at hu
  rcases hu with rfl | rfl <;> rfl
def hts (l : List Ht) : List Value := flatE htCells l

theorem info65 : (Tryz.prog.info? 50).map (fun i => (i.zero, i.size, i.bytes)) = some (some (.agg #[.int .i64 0, .int .i64 0]), 2, 16) := by kernel_rfl

theorem ht_cells {w : World} {b g n c : Nat} {l : List Ht} (h : w.ownsRow b 50 2 (.slice (some ⟨g, 0, none⟩) n c) n (hts l)) {k : Nat} {p : Ht} (hp : l[k]? = some p) :
    w.cell? ⟨g, k * 2, none⟩ = some (.int .i64 p.1) ∧ w.cell? ⟨g, k * 2 + 1, none⟩ = some (.int .i64 p.2) :=
  ⟨owns_cell h _ _ (flatE_get htCells_len l k p hp 0 (by omega)), owns_cell h _ _ (flatE_get htCells_len l k p hp 1 (by omega))⟩

/-- nearer, or as near with the lower number -/
def htLt (a b : Ht) : Prop := a.2 < b.2 ∨ (a.2 = b.2 ∧ a.1 < b.1)

theorem htLt_trans {a b c : Ht} (h : htLt a b) (k : htLt b c) : htLt a c := by unfold htLt at *; omega
theorem htLt_irrefl (a : Ht) : ¬ htLt a a := by unfold htLt; omega
theorem htLt_tri {a b : Ht} (h : a.1 ≠ b.1) : htLt a b ∨ htLt b a := by unfold htLt; omega

/-- THE NEAREST: R is the beginning, of at most k, of what H is when sorted. -/
def NearIs (H : List Ht) (k : Int) (R : List Ht) : Prop :=
  ∃ rest, (R ++ rest).Perm H ∧ R.Pairwise htLt ∧ (∀ a ∈ R, ∀ b ∈ rest, htLt a b) ∧ (R.length : Int) ≤ k ∧ ((R.length : Int) = k ∨ rest = [])

/-- there is but one such beginning -/
theorem NearIs.unique {H H' : List Ht} {k : Int} {R R' : List Ht} (hp : H.Perm H') (h : NearIs H k R) (h' : NearIs H' k R') : R = R' := by
  induction R generalizing H H' k R' with
  | nil =>
    obtain ⟨rest, p, _, _, l1, l2⟩ := h
    obtain ⟨rest', p', _, _, l1', l2'⟩ := h'
    cases R' with
    | nil => rfl
    | cons b R' =>
      rcases l2 with e | e
      · simp at e l1'; omega
      · subst e
        have hl := (p.trans hp).trans p'.symm
        simp at hl
  | cons a R ih =>
    obtain ⟨rest, p, s, ar, l1, l2⟩ := h
    obtain ⟨rest', p', s', ar', l1', l2'⟩ := h'
    have hperm : (a :: R ++ rest).Perm (R' ++ rest') := (p.trans hp).trans p'.symm
    cases R' with
    | nil =>
      rcases l2' with e | e
      · simp at e l1; omega
      · subst e
        simp at hperm
    | cons b R' =>
      -- both heads are least
      have least : ∀ x ∈ a :: R ++ rest, x = a ∨ htLt a x := fun x hx => by
        rcases List.mem_append.1 hx with hx | hx
        · rcases List.mem_cons.1 hx with hx | hx
          · exact .inl hx
          · exact .inr ((List.pairwise_cons.1 s).1 x hx)
        · exact .inr (ar a (by simp) x hx)
      have least' : ∀ x ∈ b :: R' ++ rest', x = b ∨ htLt b x := fun x hx => by
        rcases List.mem_append.1 hx with hx | hx
        · rcases List.mem_cons.1 hx with hx | hx
          · exact .inl hx
          · exact .inr ((List.pairwise_cons.1 s').1 x hx)
        · exact .inr (ar' b (by simp) x hx)
      have hab : a = b := by
        have h1 := least' a (hperm.mem_iff.1 (by simp))
        have h2 := least b (hperm.mem_iff.2 (by simp))
        rcases h1 with h1 | h1
        · exact h1
        · rcases h2 with h2 | h2
          · exact h2.symm
          · exact absurd (htLt_trans h1 h2) (htLt_irrefl _)
      subst hab
      congr 1
      have hperm2 : (R ++ rest).Perm (R' ++ rest') := (List.perm_cons a).1 (by simpa using hperm)
      refine ih (k := k - 1) hperm2 ⟨rest, .refl _, (List.pairwise_cons.1 s).2, fun x hx y hy => ar x (by simp [hx]) y hy, by simp at l1; omega, ?_⟩ ⟨rest', .refl _, (List.pairwise_cons.1 s').2, fun x hx y hy => ar' x (by simp [hx]) y hy, by simp at l1'; omega, ?_⟩
      · rcases l2 with e | e
        · exact .inl (by simp at e; omega)
        · exact .inr e
      · rcases l2' with e | e
        · exact .inl (by simp at e; omega)
        · exact .inr e

end Go.Proofs.YthimaoipogocfaaGreat.Rf

namespace Go.Proofs.YthimaoipogocfaaGreat.Rf
open Go.RowKit Go.Maps
attribute [local go_sem] run_store_f32 run_neg_inf

def hitOf (x y : Int) (t : Th) : Ht := (t.id, farF t.x0 t.y0 t.x1 t.y1 x y)
def hitsOf (x y : Int) (L : List Th) : List Ht := L.map (hitOf x y)

theorem cons_erase_perm {A : Type} : ∀ (l : List A) (i : Nat) (h : i < l.length), (l[i] :: l.eraseIdx i).Perm l
  | a :: l, 0, _ => by simp
  | a :: l, i + 1, h => by
    have ih := cons_erase_perm l i (by simpa using h)
    simp only [List.getElem_cons_succ, List.eraseIdx_cons_succ]
    exact (List.Perm.swap a _ _).trans (ih.cons a)

theorem NearIs.step {H R M : List Ht} (hp : (R ++ M).Perm H) (hs : R.Pairwise htLt) (ha : ∀ a ∈ R, ∀ b ∈ M, htLt a b) {b : Nat} (hb : b < M.length) (hmin : ∀ j (h : j < M.length), j ≠ b → htLt M[b] M[j]) :
    ((R ++ [M[b]]) ++ M.eraseIdx b).Perm H ∧ (R ++ [M[b]]).Pairwise htLt ∧ ∀ a ∈ R ++ [M[b]], ∀ c ∈ M.eraseIdx b, htLt a c := by
  have hpm : (M[b] :: M.eraseIdx b).Perm M := cons_erase_perm M b hb
  have hmem : ∀ c ∈ M.eraseIdx b, ∃ j, ∃ h : j < M.length, j ≠ b ∧ M[j] = c := fun c hc => by
    rw [List.mem_eraseIdx_iff_getElem] at hc
    obtain ⟨j, h, hj, he⟩ := hc
    exact ⟨j, h, hj, he⟩
  refine ⟨?_, ?_, ?_⟩
  · rw [List.append_assoc]
    refine List.Perm.trans ?_ hp
    exact List.Perm.append_left R (by simpa using hpm)
  · rw [List.pairwise_append]
    refine ⟨hs, List.pairwise_singleton _ _, fun a haR c hc => ?_⟩
    simp at hc
    rw [hc]
    exact ha a haR _ (List.getElem_mem hb)
  · intro a haR c hc
    rcases List.mem_append.1 haR with h | h
    · exact ha a h c (List.mem_of_mem_eraseIdx hc)
    · simp at h
      obtain ⟨j, hj, hjb, rfl⟩ := hmem c hc
      rw [h]
      exact hmin j hj hjb

def vlen : Value → Nat
  | .slice _ n _ => n
  | _ => 0

def NearPost (H : List Ht) (K : Int) (w : World) (e : Ending) (w' : World) : Prop := ∃ v R, e = .returned (.tuple #[v, .int .i64 0]) ∧ NearIs H K R ∧ w'.ownsRow w.heap.size 50 2 v R.length (hts R) ∧ Below w.heap.size w w'

theorem refNear_bad (pv : Value) (x y k : Int) (w : World) (hr : placeB x y = false ∨ k < 0) :
    Calls Tryz.prog 128 #[pv, .int .i64 x, .int .i64 y, .int .i64 k] w fun e w' => e = .returned (.tuple #[.slice none 0 0, .int .i64 1]) ∧ w = w' := by
  cases hp : placeB x y with
  | false =>
    go_enter Tryz.func128, Tryz.ntmps128
    go_wp2_with fail
    refine (Place_any _ _ _).mono ?_
    rw [hp]
    rintro e w' ⟨rfl, hw⟩
    obtain rfl := hw.symm
    go_wp2
    go_ret2
    exact ⟨rfl, rfl⟩
  | true =>
    have hk : k < 0 := by
      rcases hr with h | h
      · rw [h] at hp; cases hp
      · exact h
    go_enter Tryz.func128, Tryz.ntmps128
    go_wp2_with fail
    refine (Place_any _ _ _).mono ?_
    rw [hp]
    rintro e w' ⟨rfl, hw⟩
    obtain rfl := hw.symm
    go_wp2
    go_ret2
    exact ⟨rfl, rfl⟩

set_option maxRecDepth 100000 in
set_option maxHeartbeats 2000000 in
theorem refNear_some (py g c : Nat) (fan last : Int) (lv : Value) (L : List Th) (x y K : Int) (w : World) (ht : w.heap[py]? = some (T58 fan (.slice (some ⟨g, 0, none⟩) L.length c) lv last))
    (ho : w.ownsRow 0 193 5 (.slice (some ⟨g, 0, none⟩) L.length c) L.length (flat L)) (hL : L.length ≤ 400) (hp : placeB x y = true) (hK : 0 ≤ K) (hid : (L.map (·.id)).Nodup) (hco : ∀ t ∈ L, coordsOk t.x0 t.y0 t.x1 t.y1) :
    Calls Tryz.prog 128 #[.pointer (some ⟨py, 0, none⟩), .int .i64 x, .int .i64 y, .int .i64 K] w (NearPost (hitsOf x y L) K w) := by
  obtain ⟨i0, hi, hz0, hz1, hz2⟩ := info_partsB info65
  obtain ⟨hpx, hpy'⟩ := placeB_iff.1 hp
  have HT := hideIt ht
  have HO := hideIt ho
  have HCO := hideIt hco
  have HID := hideIt hid
  clear ht ho hco hid
  go_enter Tryz.func128, Tryz.ntmps128
  go_wp2_with fail
  refine (Place_any _ _ _).mono ?_
  rw [hp]
  rintro e w' ⟨rfl, hw⟩
  obtain rfl := hw.symm
  go_wp2_with fail
  go_loopw [11, 12] (fun l i wr => ∃ k : Nat, k ≤ L.length ∧ i = .int .i64 k ∧ Below w.heap.size w wr ∧ ((k = 0 ∧ l = .slice none 0 0) ∨ ∃ g2 c2, 0 < k ∧ l = .slice (some ⟨g2, 0, none⟩) k c2 ∧ wr.ownsRow w.heap.size 50 2 (.slice (some ⟨g2, 0, none⟩) k c2) k (hts (hitsOf x y (L.take k))))) (fun _ i _ => L.length - (intOf i).toNat)
  case atStart => exact ⟨0, Nat.zero_le _, rfl, Below.refl _ _, .inl ⟨rfl, rfl⟩⟩
  case round =>
    obtain ⟨k, hk, rfl, hB, hl⟩ := hrel
    have hm := Mod.of_below hB
    have hT := (hm.block py (lt_of_block HT.out) (by simp)).trans HT.out
    have ct := (cell_T58 hT).2.1
    have hz := hB.size
    by_cases hlt : k < L.length
    · have hO := owns_kept HO.out hm (by simp)
      obtain ⟨d0, d1, d2, d3, d4⟩ := thing_cells hO (List.getElem?_eq_getElem hlt)
      have hct := HCO.out L[k] (List.getElem_mem hlt)
      have hki : (k : Int) < (L.length : Int) := by omega
      have hsn : hitsOf x y (L.take (k + 1)) = hitsOf x y (L.take k) ++ [hitOf x y L[k]] := by
        rw [List.take_succ_eq_append_getElem hlt, hitsOf, hitsOf, List.map_append]
        rfl
      have HSN := hideIt hsn
      clear hsn hO
      generalize L[k] = t at *
      have hfar := Far_any t.x0 t.y0 t.x1 t.y1 x y wr hct hpx hpy'
      have HFAR := hideIt hfar
      have hmw : Mod [] wr (wr.alloc (B4 t.x0 t.y0 t.x1 t.y1)) := Mod.alloc _ _
      have ct2 := cell_mod hmw ct
      have d02 := cell_mod hmw d0
      clear hfar hct
      go_wp2_with fail
      refine HFAR.out.mono ?_
      rintro e w2 ⟨rfl, hw2⟩
      rw [hw2] at hmw ct2 d02
      clear hw2 HFAR
      have hho : hitOf x y t = (t.id, farF t.x0 t.y0 t.x1 t.y1 x y) := rfl
      rw [hho] at HSN
      clear hho
      generalize farF t.x0 t.y0 t.x1 t.y1 x y = far at *
      generalize t.id = tid at *
      have hB2 : Below w.heap.size w w2 := hB.trans (hmw.below_of hz (by simp))
      have hz2' := hB2.size
      have hsrc : srcRow (w2.alloc (.cells #[.int .i64 tid, .int .i64 far] 50)) 2 (.slice (some ⟨w2.heap.size, 0, none⟩) 1 1) 1 (hts [(tid, far)]) :=
        srcRow_of_owns (owns_allocB (w := w2) (cur := #[.int .i64 tid, .int .i64 far]) (e := 50) (n := 1) (size := 2) rfl (by decide) (base := 0) (Nat.zero_le _)) (flatE_one htCells_one [(tid, far)])
      have hbz : w.heap.size ≤ (w2.alloc (.cells #[.int .i64 tid, .int .i64 far] 50)).heap.size := by simp; omega
      clear ct d0 d1 d2 d3 d4 hT hm
      have hfin : ∀ (vo : Value) (g5 c5 : Nat) (w5 : World), (∀ z, vo.ownBlock = some z → w.heap.size ≤ z) → w5.ownsRow w.heap.size 50 2 (.slice (some ⟨g5, 0, none⟩) (k + 1) c5) (k + 1) (catL (hts (hitsOf x y (L.take k))) (hts [(tid, far)])) → Mod vo.ownBlock.toList (w2.alloc (.cells #[.int .i64 tid, .int .i64 far] 50)) w5 →
          Below w.heap.size w w5 ∧ w5.ownsRow w.heap.size 50 2 (.slice (some ⟨g5, 0, none⟩) (k + 1) c5) (k + 1) (hts (hitsOf x y (L.take (k + 1)))) := fun vo g5 c5 w5 hlo ho5 hm5 => by
        refine ⟨hB2.trans (((Mod.alloc _ _).trans hm5).below_of hz2' (fun z hz => hlo z (by simpa using hz))), ?_⟩
        rw [HSN.out, hts, flatE_append]
        exact ho5
      have HFIN := hideIt hfin
      clear hfin
      rcases hl with ⟨rfl, rfl⟩ | ⟨g2, c2, hk0, rfl, how⟩
      · go_wp2_with (at_builtin; refine wpList_append_rows _ rfl _ _ 46 rfl w.heap.size 50 i0 (.agg #[.int .i64 0, .int .i64 0]) 2 16 Tryz.underlying46 hi hz0 hz1 hz2 rfl (by decide) _ 0 [] rfl (World.ownsRow_nil _ _ _ _) _ 1 (hts [(tid, far)]) rfl hsrc (by omega) (by unfold maxLen; omega) (by omega) hbz ?_)
        intro g5 c5 w5 ho5 hm5 hat5
        have hfn := hideIt (HFIN.out (.slice none 0 0) g5 c5 w5 (by simp [Value.ownBlock]) ho5 hm5)
        clear HFIN ho5 hm5 hat5 hsrc ct2 d02 hB hB2
        go_wp2_with fail
        go_roundw
        case rel => exact ⟨1, by omega, rfl, hfn.out.1, .inr ⟨g5, c5, by omega, rfl, hfn.out.2⟩⟩
        case measure => simp [intOf]; omega
      · have how2 := (owns_kept how hmw (by simp)).alloc (.cells #[.int .i64 tid, .int .i64 far] 50)
        have hg2 := (how.lt g2 rfl).1
        go_wp2_with (at_builtin; refine wpList_append_rows _ rfl _ _ 46 rfl w.heap.size 50 i0 (.agg #[.int .i64 0, .int .i64 0]) 2 16 Tryz.underlying46 hi hz0 hz1 hz2 rfl (by decide) _ k (hts (hitsOf x y (L.take k))) rfl how2 _ 1 (hts [(tid, far)]) rfl hsrc (by omega) (by unfold maxLen; omega) (by omega) hbz ?_)
        intro g5 c5 w5 ho5 hm5 hat5
        have hfn := hideIt (HFIN.out (.slice (some ⟨g2, 0, none⟩) k c2) g5 c5 w5 (by simp [Value.ownBlock]; omega) ho5 hm5)
        clear HFIN ho5 hm5 hat5 hsrc ct2 d02 hB hB2 how how2
        go_wp2_with fail
        go_roundw
        case rel => exact ⟨k + 1, by omega, by go_num, hfn.out.1, .inr ⟨g5, c5, by omega, rfl, hfn.out.2⟩⟩
        case measure => simp [intOf]; omega
    · have hkl : k = L.length := by omega
      subst hkl
      rw [List.take_length] at hl
      have hidh : ((hitsOf x y L).map (·.1)).Nodup := by
        have e : (hitsOf x y L).map (·.1) = L.map (·.id) := by simp [hitsOf, hitOf]
        rw [e]
        exact HID.out
      have hlenH : (hitsOf x y L).length = L.length := by simp [hitsOf]
      have HIDH := hideIt hidh
      clear hidh HID HCO HT HO hT hm
      generalize hitsOf x y L = H at *
      go_wp2_with fail
      clear hlt ct hpx hpy' hp
      go_loopw [11, 14] (fun l o wr => ∃ M R, Hid ((R ++ M).Perm H ∧ R.Pairwise htLt ∧ (∀ a ∈ R, ∀ b ∈ M, htLt a b)) ∧ (R.length : Int) ≤ K ∧ R.length + M.length = L.length ∧ Below w.heap.size w wr ∧ wr.ownsRow w.heap.size 50 2 o R.length (hts R) ∧ vlen o = R.length ∧
        ((M = [] ∧ l = .slice none 0 0) ∨ ∃ g2 c2, 0 < M.length ∧ l = .slice (some ⟨g2, 0, none⟩) M.length c2 ∧ M.length ≤ c2 ∧ wr.ownsRow w.heap.size 50 2 (.slice (some ⟨g2, 0, none⟩) M.length c2) M.length (hts M) ∧ g2 ∉ o.ownBlock.toList)) (fun l _ _ => vlen l)
      case atStart =>
        refine ⟨H, [], ⟨by simp, .nil, by simp⟩, by simpa using hK, by simp [hlenH], hB, World.ownsRow_nil _ _ _ _, rfl, ?_⟩
        rcases hl with ⟨h0, e⟩ | ⟨g2, c2, h0, e, how⟩
        · exact .inl ⟨List.eq_nil_of_length_eq_zero (by omega), e⟩
        · refine .inr ⟨g2, c2, by omega, by rw [hlenH]; exact e, ?_, by rw [hlenH]; exact how, by simp [Value.ownBlock]⟩
          rcases how.2 with ⟨h, _⟩ | ⟨_, _, _, h, _, _, h2, _⟩
          · cases h
          · cases h; omega
      case round =>
        clear hl hB hz
        obtain ⟨M, R, hpr, hRK, hlenRM, hB, hoo, hvo, hl⟩ := hrel
        have hz := hB.size
        have hof : ∃ a c, u14 = .slice a R.length c := by
          rcases hoo.2 with ⟨rfl, h0⟩ | ⟨g, c, cur, rfl, _⟩
          · exact ⟨none, 0, by rw [h0]⟩
          · exact ⟨_, _, rfl⟩
        obtain ⟨oa, oc, rfl⟩ := hof
        clear hvo
        rcases hl with ⟨rfl, rfl⟩ | ⟨g2, c2, hM0, rfl, hMc, how, hgo⟩
        · have hfin : NearIs H K R := ⟨[], hpr.out.1, hpr.out.2.1, hpr.out.2.2, hRK, .inr rfl⟩
          have HF := hideIt hfin
          clear hfin
          by_cases hRK2 : (R.length : Int) < K
          · go_wp2_with fail
            go_ret2
            exact ⟨_, R, rfl, HF.out, hoo, hB⟩
          · go_wp2_with fail
            go_ret2
            exact ⟨_, R, rfl, HF.out, hoo, hB⟩
        · by_cases hRK2 : (R.length : Int) < K
          · have hM0i : (0 : Int) < (M.length : Int) := by omega
            go_wp2_with fail
            obtain ⟨wo, rfl⟩ : ∃ wo : World, wo = wr := ⟨_, rfl⟩
            go_loopw [15, 16] (fun bb ii wx => ∃ b j : Nat, b < j ∧ j ≤ M.length ∧ bb = .int .i64 b ∧ ii = .int .i64 j ∧ Hid (∀ a (h : a < M.length) (h' : b < M.length), a < j → ¬ htLt M[a] M[b]) ∧ Mod [] wo wx) (fun _ ii _ => M.length - (intOf ii).toNat)
            case atStart =>
              refine ⟨0, 1, by omega, by omega, rfl, rfl, fun a h h' ha => ?_, Mod.refl _ _⟩
              have : a = 0 := by omega
              subst this
              exact htLt_irrefl _
            case round =>
              obtain ⟨b, j, hbj, hjM, rfl, rfl, hmin, hmx⟩ := hrel
              have how2 := owns_kept how hmx (by simp)
              by_cases hjlt : j < M.length
              · have hbM : b < M.length := by omega
                obtain ⟨p0, p1⟩ := ht_cells how2 (List.getElem?_eq_getElem hjlt)
                obtain ⟨q0, q1⟩ := ht_cells how2 (List.getElem?_eq_getElem hbM)
                have hji : (j : Int) < (M.length : Int) := by omega
                have hbi : (b : Int) < (M.length : Int) := by omega
                have hnewb : htLt M[j] M[b] → ∀ a (h : a < M.length) (h' : j < M.length), a < j + 1 → ¬ htLt M[a] M[j] := fun hlt a h h' ha hc => by
                  by_cases haj : a = j
                  · subst haj; exact htLt_irrefl _ hc
                  · exact hmin.out a h hbM (by omega) (htLt_trans hc hlt)
                have holdb : ¬ htLt M[j] M[b] → ∀ a (h : a < M.length) (h' : b < M.length), a < j + 1 → ¬ htLt M[a] M[b] := fun hlt a h h' ha hc => by
                  by_cases haj : a = j
                  · subst haj; exact hlt hc
                  · exact hmin.out a h hbM (by omega) hc
                have hltd : htLt M[j] M[b] ↔ (M[j].2 < M[b].2 ∨ (M[j].2 = M[b].2 ∧ M[j].1 < M[b].1)) := Iff.rfl
                have HNB := hideIt hnewb
                have HOB := hideIt holdb
                have HLD := hideIt hltd
                clear hnewb holdb hltd hmin
                rw [HLD.out] at HNB HOB
                clear HLD
                generalize hj1 : M[j].1 = jid at *
                generalize hj2 : M[j].2 = jfar at *
                generalize hb1 : M[b].1 = bid at *
                generalize hb2 : M[b].2 = bfar at *
                clear hj1 hj2 hb1 hb2
                by_cases t1 : jfar < bfar
                · have e1 : decide (jfar < bfar) = true := by simpa using t1
                  go_wp2_with fail
                  go_quiet (fail)
                  go_wp2_with fail
                  go_roundw
                  case rel => exact ⟨j, j + 1, by omega, by omega, rfl, by go_num, HNB.out (.inl t1), hmx.trans (Mod.drewN _ _)⟩
                  case measure => simp [intOf]; omega
                · have e1 : decide (jfar < bfar) = false := by simpa using t1
                  by_cases t2 : jfar = bfar
                  · have e2 : (jfar == bfar) = true := by simpa using t2
                    by_cases t3 : jid < bid
                    · have T2 := hideIt t2
                      clear t2
                      go_wp2_with fail
                      go_quiet (fail)
                      go_wp2_with fail
                      go_roundw
                      case rel => exact ⟨j, j + 1, by omega, by omega, rfl, by go_num, HNB.out (.inr ⟨T2.out, t3⟩), hmx.trans (Mod.drewN _ _)⟩
                      case measure => simp [intOf]; omega
                    · have T2 := hideIt t2
                      clear t2
                      go_wp2_with fail
                      go_quiet (fail)
                      go_wp2_with fail
                      go_roundw
                      case rel => exact ⟨b, j + 1, by omega, by omega, rfl, by go_num, HOB.out (by omega), hmx.trans (Mod.drewN _ _)⟩
                      case measure => simp [intOf]; omega
                  · have e2 : (jfar == bfar) = false := by simpa using t2
                    go_wp2_with fail
                    go_quiet (fail)
                    go_wp2_with fail
                    go_roundw
                    case rel => exact ⟨b, j + 1, by omega, by omega, rfl, by go_num, HOB.out (by omega), hmx.trans (Mod.drewN _ _)⟩
                    case measure => simp [intOf]; omega
              · have hjM' : j = M.length := by omega
                subst hjM'
                have hbM : b < M.length := hbj
                have hB2 : Below w.heap.size w wr := hB.trans (hmx.below_of hz (by simp))
                have hz2' := hB2.size
                have hoo2 := owns_kept hoo hmx (by simp)
                have hnd : ∀ a (h : a < M.length), a ≠ b → M[a].1 ≠ M[b].1 := fun a h hab e => by
                  have hn : ((R ++ M).map (·.1)).Nodup := (hpr.out.1.map (·.1)).nodup_iff.2 HIDH.out
                  rw [List.map_append] at hn
                  have hn2 := (List.nodup_append.1 hn).2.1
                  have h1 : (M.map (·.1))[a]'(by simpa using h) = (M.map (·.1))[b]'(by simpa using hbM) := by simpa using e
                  exact hab ((List.getElem_inj hn2).1 h1)
                have hmin2 : ∀ a (h : a < M.length), a ≠ b → htLt M[b] M[a] := fun a h hab => by
                  rcases htLt_tri (hnd a h hab) with h1 | h1
                  · exact absurd h1 (hmin.out a h hbM h)
                  · exact h1
                have hstep := NearIs.step hpr.out.1 hpr.out.2.1 hpr.out.2.2 hbM hmin2
                have HST := hideIt hstep
                obtain ⟨p0, p1⟩ := ht_cells how2 (List.getElem?_eq_getElem hbM)
                have hbi : (b : Int) < (M.length : Int) := by omega
                clear hstep hmin2 hnd hmin hmx how hoo hB hz
                have hlen' : (M.eraseIdx b).length = M.length - 1 := by rw [List.length_eraseIdx, if_pos hbM]
                have HLE := hideIt hlen'
                clear hlen'
                generalize hpp : M[b] = p at HST p0 p1
                obtain ⟨pid, pfar⟩ := p
                simp only at p0 p1
                have hsrc : srcRow (wr.alloc (.cells #[.int .i64 pid, .int .i64 pfar] 50)) 2 (.slice (some ⟨wr.heap.size, 0, none⟩) 1 1) 1 (hts [(pid, pfar)]) :=
                  srcRow_of_owns (owns_allocB (w := wr) (cur := #[.int .i64 pid, .int .i64 pfar]) (e := 50) (n := 1) (size := 2) rfl (by decide) (base := 0) (Nat.zero_le _)) (flatE_one htCells_one [(pid, pfar)])
                have hbz : w.heap.size ≤ (wr.alloc (.cells #[.int .i64 pid, .int .i64 pfar] 50)).heap.size := by simp; omega
                have hoo3 := hoo2.alloc (.cells #[.int .i64 pid, .int .i64 pfar] 50)
                clear hpp
                go_wp2_with (at_builtin; refine wpList_append_rows _ rfl _ _ 46 rfl w.heap.size 50 i0 (.agg #[.int .i64 0, .int .i64 0]) 2 16 Tryz.underlying46 hi hz0 hz1 hz2 rfl (by decide) _ R.length (hts R) rfl hoo3 _ 1 (hts [(pid, pfar)]) rfl hsrc (by omega) (by unfold maxLen; omega) (by omega) hbz ?_)
                intro g5 c5 w3 ho5 hm5 hat5
                have hm5' : Mod (Value.slice oa R.length oc).ownBlock.toList wr w3 := (Mod.alloc _ _).trans hm5
                have hlo : ∀ z ∈ (Value.slice oa R.length oc).ownBlock.toList, w.heap.size ≤ z := fun z hz => (hoo2.lt z (by simpa using hz)).1
                have hB3 : Below w.heap.size w w3 := hB2.trans (hm5'.below_of hz2' hlo)
                have hz3 := hB3.size
                have how3 := owns_kept how2 hm5' (fun z hz hz' => hgo (by have e : g2 = z := (by simpa [Value.ownBlock] using hz); rw [e]; exact hz'))
                have hg2lt := owns_lt how2 (k := g2) rfl
                have hg5 : g5 ≠ g2 := by
                  rcases hat5 with h | h
                  · rintro rfl
                    exact hgo (by simp [h])
                  · have : g5 = wr.heap.size + 1 := by simpa using h
                    omega
                have hg5lt := owns_lt ho5 (k := g5) rfl
                have ho5' : w3.ownsRow w.heap.size 50 2 (.slice (some ⟨g5, 0, none⟩) (R.length + 1) c5) (R.length + 1) (catL (hts R) (hts [(pid, pfar)])) := ho5
                have hcat : catL (hts R) (hts [(pid, pfar)]) = hts (R ++ [(pid, pfar)]) := by simp [catL, hts, flatE_append]
                rw [hcat] at ho5'
                clear ho5 hm5 hat5 hm5' hsrc hbz hoo3 hoo2 hcat p0 p1 hlo hB2 how2
                have hfin : ∀ (l' : Value) (w6 : World), Below w.heap.size w w6 → Mod [] w3 w6 ∨ (∃ z, Mod [z] w3 w6 ∧ w3.heap.size ≤ z) → w6.ownsRow w.heap.size 50 2 (.slice (some ⟨g5, 0, none⟩) (R.length + 1) c5) (R.length + 1) (hts (R ++ [(pid, pfar)])) := fun l' w6 _ hmm => by
                  rcases hmm with h | ⟨z, h, hz⟩
                  · exact owns_kept ho5' h (by simp)
                  · exact owns_kept ho5' h (by simp [Value.ownBlock]; omega)
                have HFIN := hideIt hfin
                clear hfin
                by_cases hb0 : b = 0
                · by_cases hM1 : M.length = 1
                  · subst hb0
                    obtain ⟨A, hA⟩ : ∃ A, (if c2 = 1 then some (⟨g2, 0, none⟩ : Addr) else some ⟨g2, 2, none⟩) = some A := by split <;> exact ⟨_, rfl⟩
                    have hM1 : M.length = 1 := by omega
                    have hnil : M.eraseIdx 0 = [] := List.eq_nil_of_length_eq_zero (by rw [HLE.out]; omega)
                    have HNIL := hideIt hnil
                    have hoo5 := HFIN.out (.slice none 0 0) w3 hB3 (.inl (Mod.refl _ _))
                    clear hnil
                    go_wp2_with (at_builtin; refine wpList_append_none _ rfl _ _ 63 rfl 65 i0 Tryz.underlying46 hi rfl _ _ rfl ?_)
                    go_roundw
                    case rel => exact ⟨M.eraseIdx 0, R ++ [(pid, pfar)], HST.out, by simp; omega, by rw [HLE.out]; simp; omega, hB3, by simpa using hoo5, by simp [vlen], .inl ⟨HNIL.out, rfl⟩⟩
                    case measure => simp [vlen]; omega
                  · subst hb0
                    have hsrc2 := srcE_rest htCells_len htCells_one how3 rfl hMc 1 (by omega)
                    simp only [Nat.one_mul] at hsrc2
                    obtain ⟨A, hA⟩ : ∃ A, (if c2 = 1 then some (⟨g2, 0, none⟩ : Addr) else some ⟨g2, 2, none⟩) = some A := by split <;> exact ⟨_, rfl⟩
                    rw [hA] at hsrc2
                    go_wp2_with (first | (at_builtin; refine wpList_append_none _ rfl _ _ 63 rfl 65 i0 Tryz.underlying46 hi rfl _ _ rfl ?_) | (at_builtin; refine wpList_append_rows _ rfl _ _ 46 rfl w.heap.size 50 i0 (.agg #[.int .i64 0, .int .i64 0]) 2 16 Tryz.underlying46 hi hz0 hz1 hz2 rfl (by decide) _ 0 [] rfl (World.ownsRow_nil _ _ _ _) _ (M.length - 1) (flatE htCells (M.drop 1)) rfl hsrc2 (by omega) (by unfold maxLen; omega) (by omega) hz3 ?_))
                    intro g7 c7 w5 ho7 hm7 hat7
                    have hm7' : Mod [] w3 w5 := hm7
                    have hB5 : Below w.heap.size w w5 := hB3.trans (hm7'.below_of hz3 (by simp))
                    have hoo5 := HFIN.out (.slice none 0 0) w5 hB5 (.inl hm7')
                    have hg7 : g7 ≠ g5 := by
                      rcases hat7 with h | h
                      · cases h
                      · omega
                    have ho7' : w5.ownsRow w.heap.size 50 2 (.slice (some ⟨g7, 0, none⟩) (M.length - 1) c7) (M.length - 1) (catL [] (flatE htCells M.tail)) := ho7
                    have hc7 : M.length - 1 ≤ c7 := by
                      rcases ho7'.2 with ⟨h, _⟩ | ⟨_, _, _, h, _, _, h2, _⟩
                      · cases h
                      · cases h; exact h2
                    have hrow : w5.ownsRow w.heap.size 50 2 (.slice (some ⟨g7, 0, none⟩) (M.length - 1) c7) (M.length - 1) (hts (M.eraseIdx 0)) := by
                      rw [show hts (M.eraseIdx 0) = catL [] (flatE htCells M.tail) by simp [hts, catL]]
                      exact ho7'
                    clear ho7 hm7 hm7' hat7 hsrc2 ho7' hA how3
                    go_wp2_with fail
                    go_roundw
                    case rel => exact ⟨M.eraseIdx 0, R ++ [(pid, pfar)], HST.out, by simp; omega, by rw [HLE.out]; simp; omega, hB5, by simpa using hoo5, by simp [vlen], .inr ⟨g7, c7, by rw [HLE.out]; omega, by rw [HLE.out], by rw [HLE.out]; exact hc7, by rw [HLE.out]; exact hrow, by simp [Value.ownBlock]; omega⟩⟩
                    case measure => simp [vlen]; omega
                · have hsrc1 := srcE_head htCells_len htCells_one how3 rfl b (by omega)
                  go_wp2_with (at_builtin; refine wpList_append_rows _ rfl _ _ 46 rfl w.heap.size 50 i0 (.agg #[.int .i64 0, .int .i64 0]) 2 16 Tryz.underlying46 hi hz0 hz1 hz2 rfl (by decide) _ 0 [] rfl (World.ownsRow_nil _ _ _ _) _ b (flatE htCells (M.take b)) rfl hsrc1 (by omega) (by unfold maxLen; omega) (by omega) hz3 ?_)
                  intro g6 c6 w4 ho6 hm6 hat6
                  have hm6' : Mod [] w3 w4 := hm6
                  have hg6 : w3.heap.size ≤ g6 := by
                    rcases hat6 with h | h
                    · cases h
                    · omega
                  have hB4 : Below w.heap.size w w4 := hB3.trans (hm6'.below_of hz3 (by simp))
                  have hz4 := hB4.size
                  have how4 := owns_kept how3 hm6' (by simp)
                  have ho6' : w4.ownsRow w.heap.size 50 2 (.slice (some ⟨g6, 0, none⟩) b c6) b (catL [] (flatE htCells (M.take b))) := ho6
                  have hg6lt := owns_lt ho6' (k := g6) rfl
                  generalize hq6 : catL [] (flatE htCells (M.take b)) = q6 at ho6 ho6'
                  have HQ6 := hideIt hq6
                  have hsrc2 := srcE_rest htCells_len htCells_one how4 rfl hMc (b + 1) (by omega)
                  obtain ⟨A, hA⟩ : ∃ A, (if c2 = b + 1 then some (⟨g2, 0, none⟩ : Addr) else some ⟨g2, (b + 1) * 2, none⟩) = some A := by split <;> exact ⟨_, rfl⟩
                  rw [hA] at hsrc2
                  have hble : (b : Int) + 1 ≤ (M.length : Int) := by omega
                  clear hq6 hm6 hat6 hsrc1 how3
                  go_wp2_with (at_builtin; refine wpList_append_rows _ rfl _ _ 46 rfl w.heap.size 50 i0 (.agg #[.int .i64 0, .int .i64 0]) 2 16 Tryz.underlying46 hi hz0 hz1 hz2 rfl (by decide) _ b q6 rfl ho6' _ (M.length - (b + 1)) (flatE htCells (M.drop (b + 1))) rfl hsrc2 (by omega) (by unfold maxLen; omega) (by omega) hz4 ?_)
                  intro g7 c7 w5 ho7 hm7 hat7
                  have hm7' : Mod [g6] w4 w5 := hm7
                  have hg6b := (ho6'.lt g6 rfl).1
                  have hB5 : Below w.heap.size w w5 := hB4.trans (hm7'.below_of hz4 (by simp; omega))
                  have hM35 : Mod [g6] w3 w5 := hm6'.nil.trans hm7'
                  have hoo5 := HFIN.out (.slice none 0 0) w5 hB5 (.inr ⟨g6, hM35, hg6⟩)
                  have hg7 : g7 ≠ g5 := by
                    rcases hat7 with h | h
                    · have : g6 = g7 := by simpa [Value.ownBlock] using h
                      omega
                    · have := hm6'.size; omega
                  have ho7' : w5.ownsRow w.heap.size 50 2 (.slice (some ⟨g7, 0, none⟩) (b + (M.length - (b + 1))) c7) (b + (M.length - (b + 1))) (catL q6 (flatE htCells (M.drop (b + 1)))) := ho7
                  have hbl : b + (M.length - (b + 1)) = M.length - 1 := by omega
                  rw [hbl] at ho7'
                  have hc7 : M.length - 1 ≤ c7 := by
                    rcases ho7'.2 with ⟨h, _⟩ | ⟨_, _, _, h, _, _, h2, _⟩
                    · cases h
                    · cases h; exact h2
                  have hrow : w5.ownsRow w.heap.size 50 2 (.slice (some ⟨g7, 0, none⟩) (M.length - 1) c7) (M.length - 1) (hts (M.eraseIdx b)) := by
                    rw [show hts (M.eraseIdx b) = catL q6 (flatE htCells (M.drop (b + 1))) by rw [← HQ6.out, List.eraseIdx_eq_take_drop_succ, hts, flatE_append]; rfl]
                    exact ho7'
                  clear ho7 hm7 hm7' hat7 ho6 ho6' how4 hsrc2 ho7' hM35 hA
                  go_wp2_with fail
                  go_roundw
                  case rel => exact ⟨M.eraseIdx b, R ++ [(pid, pfar)], HST.out, by simp; omega, by rw [HLE.out]; simp; omega, hB5, by simpa using hoo5, by simp [vlen], .inr ⟨g7, c7, by rw [HLE.out]; omega, by rw [HLE.out, hbl], by rw [HLE.out]; exact hc7, by rw [HLE.out]; exact hrow, by simp [Value.ownBlock]; omega⟩⟩
                  case measure => simp [vlen]; omega
          · have hfin : NearIs H K R := ⟨M, hpr.out.1, hpr.out.2.1, hpr.out.2.2, hRK, .inl (by omega)⟩
            have HF := hideIt hfin
            clear hfin
            go_wp2_with fail
            go_ret2
            exact ⟨_, R, rfl, HF.out, hoo, hB⟩

set_option maxRecDepth 100000 in
set_option maxHeartbeats 1000000 in
theorem refNear_nil (py : Nat) (fan last : Int) (lv : Value) (x y K : Int) (w : World) (ht : w.heap[py]? = some (T58 fan (.slice none 0 0) lv last)) (hp : placeB x y = true) (hK : 0 ≤ K) :
    Calls Tryz.prog 128 #[.pointer (some ⟨py, 0, none⟩), .int .i64 x, .int .i64 y, .int .i64 K] w (NearPost [] K w) := by
  have ct := (cell_T58 ht).2.1
  clear ht
  go_enter Tryz.func128, Tryz.ntmps128
  go_wp2_with fail
  refine (Place_any _ _ _).mono ?_
  rw [hp]
  rintro e w' ⟨rfl, hw⟩
  obtain rfl := hw.symm
  go_wp2_with fail
  go_loop [11, 12] (fun l i => l = .slice none 0 0 ∧ i = .int .i64 0) (fun _ _ => 0)
  case atStart => exact ⟨rfl, rfl⟩
  case round =>
    obtain ⟨rfl, rfl⟩ := hrel
    go_wp2_with fail
    go_loop [11, 14] (fun l o => l = .slice none 0 0 ∧ o = .slice none 0 0) (fun _ _ => 0)
    case atStart => exact ⟨rfl, rfl⟩
    case round =>
      obtain ⟨rfl, rfl⟩ := hrel
      have hfin : NearIs [] K [] := ⟨[], .refl _, .nil, by simp, by simpa using hK, .inr rfl⟩
      have HF := hideIt hfin
      clear hfin
      by_cases hK2 : 0 < K
      · go_wp2_with fail
        go_ret2
        exact ⟨_, [], rfl, HF.out, World.ownsRow_nil _ _ _ _, Below.refl _ _⟩
      · go_wp2_with fail
        go_ret2
        exact ⟨_, [], rfl, HF.out, World.ownsRow_nil _ _ _ _, Below.refl _ _⟩

theorem refNear_any {w : World} {py : Nat} {fan : Int} {L : List Th} {lg : List Int} {F : List Nat} (h : RefRep w py fan L lg F) (hL : L.length ≤ 400) (x y K : Int) (hp : placeB x y = true) (hK : 0 ≤ K) (hid : (L.map (·.id)).Nodup) (hco : ∀ t ∈ L, coordsOk t.x0 t.y0 t.x1 t.y1) :
    Calls Tryz.prog 128 #[.pointer (some ⟨py, 0, none⟩), .int .i64 x, .int .i64 y, .int .i64 K] w (NearPost (hitsOf x y L) K w) := by
  obtain ⟨tv, gl, cl, last, nl, h1, h2, h3, h4, h5, h6, rfl⟩ := h
  have h3' := h3
  rcases h3.2 with ⟨rfl, h0⟩ | ⟨g, c, cur, rfl, _⟩
  · obtain rfl : L = [] := List.eq_nil_of_length_eq_zero h0
    exact refNear_nil py fan last _ x y K w h1 hp hK
  · exact refNear_some py g c fan last _ L x y K w h1 h3' hL hp hK hid hco

end Go.Proofs.YthimaoipogocfaaGreat.Rf

