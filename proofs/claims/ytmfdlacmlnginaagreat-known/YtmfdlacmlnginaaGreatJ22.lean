import Derived.Test.YtmfdlacmlnginaaGreatJ21
import Derived.Test.YtmfdlacmlnginaaGreatJ18
import Derived.Test.YtmfdlacmlnginaaGreatJ19
namespace Go.Proofs.YtmfdlacmlnginaaGreat
open Go.RowKit Go.Maps
attribute [local go_sem] run_store_f32 run_neg_inf

theorem sortI_pairwise (l : List Int) : (sortI l).Pairwise (· ≤ ·) := by
  have := List.pairwise_mergeSort (le := fun x y : Int => decide (x ≤ y)) (fun a b c h1 h2 => by simp at *; omega) (fun a b => by simp; omega) l
  simpa [sortI] using this
theorem sortI_congr {l m : List Int} (h : l.Perm m) : sortI l = sortI m :=
  List.Perm.eq_of_pairwise (le := (· ≤ ·)) (fun a b _ _ h1 h2 => by omega) (sortI_pairwise l) (sortI_pairwise m) (((sortI_perm l).trans h).trans (sortI_perm m).symm)
theorem sortI_mem {l : List Int} {x : Int} : x ∈ sortI l ↔ x ∈ l := (sortI_perm l).mem_iff

/-- what is told of things -/
def foundG (fits : Tg → Bool) (ts : List Tg) : List Int := sortI ((ts.filter fits).map (·.id))
def meetG (c0 c1 c2 c3 : Int) (t : Tg) : Bool := meetI c0 c1 c2 c3 t.x0 t.y0 t.x1 t.y1
def holdG (c0 c1 c2 c3 : Int) (t : Tg) : Bool := holdI c0 c1 c2 c3 t.x0 t.y0 t.x1 t.y1
theorem foundG_len (fits : Tg → Bool) (ts : List Tg) : (foundG fits ts).length ≤ ts.length := by
  unfold foundG
  rw [sortI_length, List.length_map]
  exact List.length_filter_le _ _

theorem found_eq {w : World} {fan lo h : Nat} {k : Kd} {ts : List Tg} {c0 c1 c2 c3 : Int} (hn : NodeAt w fan lo h k) (hp : k.ts.Perm ts) (hr : RectOk c0 c1 c2 c3) {fits : Tg → Bool} (hf : ∀ t : Tg, RectOk t.x0 t.y0 t.x1 t.y1 → fits t = true → meetI c0 c1 c2 c3 t.x0 t.y0 t.x1 t.y1 = true) :
    sortI (((shown (Bx.of c0 c1 c2 c3) k.ts).filter fits).map (·.id)) = foundG fits ts := by
  have e : (shown (Bx.of c0 c1 c2 c3) k.ts).filter fits = k.ts.filter fits := by
    unfold shown
    rw [List.filter_filter]
    refine List.filter_congr (fun t ht => ?_)
    cases hft : fits t with
    | false => rfl
    | true =>
      have hrt := (hn.thing t ht).1.rect
      obtain ⟨m1, m2, m3, m4⟩ := meetI_iff.1 (hf t hrt hft)
      have : t.bx.meets (Bx.of c0 c1 c2 c3) = true := Bx.of_meets hrt hr m2 m1 m4 m3
      rw [this]
      rfl
  rw [e]
  exact sortI_congr ((hp.filter fits).map _)

theorem hold_meet {c0 c1 c2 c3 : Int} {t : Tg} (hr : RectOk t.x0 t.y0 t.x1 t.y1) (h : holdG c0 c1 c2 c3 t = true) : meetI c0 c1 c2 c3 t.x0 t.y0 t.x1 t.y1 = true := by
  obtain ⟨h1, h2, h3, h4⟩ := holdI_iff.1 h
  unfold RectOk at hr
  exact meetI_iff.2 (by omega)

theorem FindPost.from {xs : List Int} {w w1 w' : World} {e : Ending} (h : FindPost xs w1 e w') (hm : Mod [] w w1) : FindPost xs w e w' := by
  obtain ⟨v, h1, h2, h3, h4⟩ := h
  have := hm.size
  exact ⟨v, h1, h2, fun x hx => Nat.le_trans this (h3 x hx), hm.trans h4⟩

set_option maxRecDepth 100000 in
theorem bMeeting_any {w : World} {p fan : Nat} {ts : List Tg} {F : List Nat} (ht : TreeRep w p fan ts F) {c0 c1 c2 c3 : Int} (hr : RectOk c0 c1 c2 c3) (hn : ts.length ≤ 1000) :
    Calls Tryz.prog 55 #[.pointer (some ⟨p, 0, none⟩), R4 c0 c1 c2 c3] w (FindPost (foundG (meetG c0 c1 c2 c3) ts) w) := by
  have hm0 : Mod [] w (w.alloc (B4 c0 c1 c2 c3)) := Mod.alloc _ _
  obtain ⟨bm, es, clock, h, k, ht0, rfl⟩ := ht.kept hm0 (by simp)
  have hcall := find_any (viewer_meet c0 c1 c2 c3) hr ht0 hn
  have e := found_eq ht0.node ht0.perm hr (fits := meetG c0 c1 c2 c3) (fun _ _ hft => hft)
  have HF := hideIt (show Calls Tryz.prog 88 #[.pointer (some ⟨p, 0, none⟩), R4 c0 c1 c2 c3, .func (.func 63) #[] #[]] (w.alloc (B4 c0 c1 c2 c3)) (FindPost (foundG (meetG c0 c1 c2 c3) ts) (w.alloc (B4 c0 c1 c2 c3))) from by rw [← e]; exact hcall)
  have HM := hideIt hm0
  clear hm0 ht0 hcall e ht hr hn
  go_enter Tryz.func55, Tryz.ntmps55
  go_wp2_with fail
  refine HF.out.mono ?_
  intro e w1 h1
  have h2 := h1.from HM.out
  obtain ⟨v, rfl, _⟩ := h1
  have HP := hideIt h2
  clear h2
  go_wp2
  go_ret
  exact HP.out

set_option maxRecDepth 100000 in
theorem bWithin_any {w : World} {p fan : Nat} {ts : List Tg} {F : List Nat} (ht : TreeRep w p fan ts F) {c0 c1 c2 c3 : Int} (hr : RectOk c0 c1 c2 c3) (hn : ts.length ≤ 1000) :
    Calls Tryz.prog 56 #[.pointer (some ⟨p, 0, none⟩), R4 c0 c1 c2 c3] w (FindPost (foundG (holdG c0 c1 c2 c3) ts) w) := by
  have hm0 : Mod [] w (w.alloc (B4 c0 c1 c2 c3)) := Mod.alloc _ _
  obtain ⟨bm, es, clock, h, k, ht0, rfl⟩ := ht.kept hm0 (by simp)
  have hcall := find_any (viewer_holds c0 c1 c2 c3) hr ht0 hn
  have e := found_eq ht0.node ht0.perm hr (fits := holdG c0 c1 c2 c3) (fun _ hrt hft => hold_meet hrt hft)
  have HF := hideIt (show Calls Tryz.prog 88 #[.pointer (some ⟨p, 0, none⟩), R4 c0 c1 c2 c3, .func (.func 89) #[] #[]] (w.alloc (B4 c0 c1 c2 c3)) (FindPost (foundG (holdG c0 c1 c2 c3) ts) (w.alloc (B4 c0 c1 c2 c3))) from by rw [← e]; exact hcall)
  have HM := hideIt hm0
  clear hm0 ht0 hcall e ht hr hn
  go_enter Tryz.func56, Tryz.ntmps56
  go_wp2_with fail
  refine HF.out.mono ?_
  intro e w1 h1
  have h2 := h1.from HM.out
  obtain ⟨v, rfl, _⟩ := h1
  have HP := hideIt h2
  clear h2
  go_wp2
  go_ret
  exact HP.out

/-! ### package hedgerow -/
def HFindPost (xs : List Int) (w : World) (e : Ending) (w' : World) : Prop := ∃ v, e = .returned (.tuple #[v, .int .i64 0]) ∧ w'.ownsRow 0 3 1 v xs.length (ints xs) ∧ (∀ x ∈ v.ownBlock.toList, w.heap.size ≤ x) ∧ Mod [] w w'

set_option maxRecDepth 100000 in
theorem hMeets_bad (q : Nat) (w : World) {c0 c1 c2 c3 : Int} (hr : rectB c0 c1 c2 c3 = false) :
    Calls Tryz.prog 31 #[.pointer (some ⟨q, 0, none⟩), R4 c0 c1 c2 c3] w fun e w' => e = .returned (.tuple #[.slice none 0 0, .int .i64 2]) ∧ Mod [] w w' := by
  go_enter Tryz.func31, Tryz.ntmps31
  go_wp2_with fail
  refine (isRect_any _ _ _ _ _).mono ?_
  rw [hr]
  rintro e w1 ⟨rfl, hw⟩
  obtain rfl := hw.symm
  go_wp2
  go_ret2
  exact ⟨rfl, (Mod.alloc _ _).trans (Mod.alloc _ _)⟩

set_option maxRecDepth 100000 in
set_option maxHeartbeats 400000 in
theorem hMeets_good {w : World} {q fan : Nat} {ts : List Tg} {F : List Nat} (h : HRep w q fan ts F) {c0 c1 c2 c3 : Int} (hr : RectOk c0 c1 c2 c3) (hn : ts.length ≤ 1000) :
    Calls Tryz.prog 31 #[.pointer (some ⟨q, 0, none⟩), R4 c0 c1 c2 c3] w (HFindPost (foundG (meetG c0 c1 c2 c3) ts) w) := by
  have hm0 : Mod [] w ((w.alloc (B4 c0 c1 c2 c3)).alloc (B4 c0 c1 c2 c3)) := (Mod.alloc _ _).trans (Mod.alloc _ _)
  obtain ⟨p, F0, h1, h2, h3, rfl⟩ := h.kept hm0 (by simp)
  have c := cell_hO h1
  have cd := cell_mod (Mod.drew _) c
  have hz0 : ((w.alloc (B4 c0 c1 c2 c3)).alloc (B4 c0 c1 c2 c3)).heap[w.heap.size]? = some (B4 c0 c1 c2 c3) := by
    rw [Below.heap_alloc _ _ _ (by simp)]
    exact heap_alloc_new w _
  obtain ⟨z0, z1, z2, z3⟩ := cellsB4 hz0
  have hrb := rectOk_B hr
  have HF := hideIt (fun W (hW : Mod [] ((w.alloc (B4 c0 c1 c2 c3)).alloc (B4 c0 c1 c2 c3)) W) => bMeeting_any (h2.kept hW (by simp)) hr hn)
  have HM := hideIt hm0
  clear hm0 h1 h2 h3 hr hn hz0 h
  go_enter Tryz.func31, Tryz.ntmps31
  go_wp2_with fail
  refine (isRect_any _ _ _ _ _).mono ?_
  rw [hrb]
  rintro e w1 ⟨rfl, hw⟩
  obtain rfl := hw.symm
  clear hw
  go_wp2_with fail
  go_region_with (go_at_call 55; refine (HF.out _ (Mod.drew _)).mono ?_; rintro e w3 ⟨v, rfl, k1, k2, k3⟩)
  all_goals
    have hfin : HFindPost (foundG (meetG c0 c1 c2 c3) ts) w (.returned (.tuple #[v, .int .i64 0])) w3 := by
      have hs := HM.out.size
      exact ⟨v, rfl, k1, fun x hx => Nat.le_trans hs (k2 x hx), HM.out.trans ((Mod.drew _).trans k3)⟩
    have HP := hideIt hfin
    clear hfin k1 k2 k3 z0 z1 z2 z3 c cd
    go_wp2
    go_ret2
    exact HP.out

set_option maxRecDepth 100000 in
theorem hWithin_bad (q : Nat) (w : World) {c0 c1 c2 c3 : Int} (hr : rectB c0 c1 c2 c3 = false) :
    Calls Tryz.prog 33 #[.pointer (some ⟨q, 0, none⟩), R4 c0 c1 c2 c3] w fun e w' => e = .returned (.tuple #[.slice none 0 0, .int .i64 2]) ∧ Mod [] w w' := by
  go_enter Tryz.func33, Tryz.ntmps33
  go_wp2_with fail
  refine (isRect_any _ _ _ _ _).mono ?_
  rw [hr]
  rintro e w1 ⟨rfl, hw⟩
  obtain rfl := hw.symm
  go_wp2
  go_ret2
  exact ⟨rfl, (Mod.alloc _ _).trans (Mod.alloc _ _)⟩

set_option maxRecDepth 100000 in
set_option maxHeartbeats 400000 in
theorem hWithin_good {w : World} {q fan : Nat} {ts : List Tg} {F : List Nat} (h : HRep w q fan ts F) {c0 c1 c2 c3 : Int} (hr : RectOk c0 c1 c2 c3) (hn : ts.length ≤ 1000) :
    Calls Tryz.prog 33 #[.pointer (some ⟨q, 0, none⟩), R4 c0 c1 c2 c3] w (HFindPost (foundG (holdG c0 c1 c2 c3) ts) w) := by
  have hm0 : Mod [] w ((w.alloc (B4 c0 c1 c2 c3)).alloc (B4 c0 c1 c2 c3)) := (Mod.alloc _ _).trans (Mod.alloc _ _)
  obtain ⟨p, F0, h1, h2, h3, rfl⟩ := h.kept hm0 (by simp)
  have c := cell_hO h1
  have cd := cell_mod (Mod.drew _) c
  have hz0 : ((w.alloc (B4 c0 c1 c2 c3)).alloc (B4 c0 c1 c2 c3)).heap[w.heap.size]? = some (B4 c0 c1 c2 c3) := by
    rw [Below.heap_alloc _ _ _ (by simp)]
    exact heap_alloc_new w _
  obtain ⟨z0, z1, z2, z3⟩ := cellsB4 hz0
  have hrb := rectOk_B hr
  have HF := hideIt (fun W (hW : Mod [] ((w.alloc (B4 c0 c1 c2 c3)).alloc (B4 c0 c1 c2 c3)) W) => bWithin_any (h2.kept hW (by simp)) hr hn)
  have HM := hideIt hm0
  clear hm0 h1 h2 h3 hr hn hz0 h
  go_enter Tryz.func33, Tryz.ntmps33
  go_wp2_with fail
  refine (isRect_any _ _ _ _ _).mono ?_
  rw [hrb]
  rintro e w1 ⟨rfl, hw⟩
  obtain rfl := hw.symm
  clear hw
  go_wp2_with fail
  go_region_with (go_at_call 56; refine (HF.out _ (Mod.drew _)).mono ?_; rintro e w3 ⟨v, rfl, k1, k2, k3⟩)
  all_goals
    have hfin : HFindPost (foundG (holdG c0 c1 c2 c3) ts) w (.returned (.tuple #[v, .int .i64 0])) w3 := by
      have hs := HM.out.size
      exact ⟨v, rfl, k1, fun x hx => Nat.le_trans hs (k2 x hx), HM.out.trans ((Mod.drew _).trans k3)⟩
    have HP := hideIt hfin
    clear hfin k1 k2 k3 z0 z1 z2 z3 c cd
    go_wp2
    go_ret2
    exact HP.out

end Go.Proofs.YtmfdlacmlnginaaGreat

namespace Go.Proofs.YtmfdlacmlnginaaGreat
open Go.RowKit Go.Maps
attribute [local go_sem] run_store_f32 run_neg_inf

/-- numbers behind a slice -/
def RowI (w : World) (v : Value) (xs : List Int) : Prop := ∃ a c, v = .slice a xs.length c ∧ ∀ j x, xs[j]? = some x → ∃ b, a = some ⟨b, 0, none⟩ ∧ w.cell? ⟨b, j, none⟩ = some (.int .i64 x)

theorem RowI.of_owns {w : World} {v : Value} {xs : List Int} (h : w.ownsRow 0 3 1 v xs.length (ints xs)) : RowI w v xs := by
  rcases h.2 with ⟨rfl, h0⟩ | ⟨g, cap, cur, rfl, hb, hg, hnc, hcm, hcs, htake⟩
  · have hx : xs = [] := List.eq_nil_of_length_eq_zero h0
    subst hx
    exact ⟨none, 0, rfl, fun j x hx => by simp at hx⟩
  · refine ⟨some ⟨g, 0, none⟩, cap, rfl, fun j x hx => ⟨g, rfl, ?_⟩⟩
    have hj : j < xs.length := (List.getElem?_eq_some_iff.1 hx).1
    have h1 : (cur.toList.take (xs.length * 1))[j]? = (ints xs)[j]? := by rw [htake]
    rw [Nat.mul_one, List.getElem?_take_of_lt hj, Array.getElem?_toList] at h1
    rw [cell_of_block hg, h1]
    simp [ints, hx]

theorem RowI.keep {w w' : World} {v : Value} {xs : List Int} (h : RowI w v xs) (hm : Mod [] w w') : RowI w' v xs := by
  obtain ⟨a, c, h1, h2⟩ := h
  refine ⟨a, c, h1, fun j x hx => ?_⟩
  obtain ⟨b, h3, h4⟩ := h2 j x hx
  exact ⟨b, h3, cell_mod hm h4⟩

def KBool (b : Bool) (w : World) (e : Ending) (w' : World) : Prop := e = .returned (.bool b) ∧ Mod [] w w'

set_option maxRecDepth 100000 in
set_option maxHeartbeats 400000 in
theorem kin_any {w : World} {v : Value} {xs : List Int} (h : RowI w v xs) (hn : xs.length ≤ 100000) (id : Int) :
    Calls Tryz.prog 21 #[v, .int .i64 id] w (KBool (decide (id ∈ xs)) w) := by
  obtain ⟨a, c, rfl, hc⟩ := h
  have HC := hideIt hc
  clear hc
  go_enter Tryz.func21, Tryz.ntmps21
  go_wp2_with fail
  go_loop [5] (fun i => ∃ k : Nat, k ≤ xs.length ∧ i = .int .i64 k ∧ Hid (id ∉ xs.take k)) (fun i => xs.length - (intOf i).toNat)
  case atStart => exact ⟨0, by omega, rfl, hideIt (by simp)⟩
  case round =>
    obtain ⟨k, hk, rfl, hno⟩ := hrel
    by_cases hlt : k < xs.length
    · have hlt' : (k : Int) < (xs.length : Int) := by omega
      have hget : xs[k]? = some xs[k] := List.getElem?_eq_getElem hlt
      obtain ⟨b, rfl, c1⟩ := HC.out k _ hget
      have hstep : xs.take (k + 1) = xs.take k ++ [xs[k]] := List.take_succ_eq_append_getElem hlt
      have HST := hideIt hstep
      have HMEM := hideIt (show xs[k] ∈ xs from List.getElem_mem hlt)
      clear hget hstep
      generalize xs[k] = x at *
      by_cases e : x = id
      · have hq : (x == id) = true := by simp [e]
        have HE := hideIt (show true = decide (id ∈ xs) from (decide_eq_true (e ▸ HMEM.out)).symm)
        clear e
        go_wp2
        go_ret
        exact ⟨ret_bool HE.out, Mod.refl _ _⟩
      · have hq : (x == id) = false := by simp [e]
        have HE := hideIt e
        clear e
        go_wp2_with fail
        go_round
        case rel => exact ⟨k + 1, by omega, by go_num, hideIt (by rw [HST.out]; intro hx; rcases List.mem_append.1 hx with hx | hx; exact hno.out hx; simp at hx; exact HE.out hx.symm)⟩
        case measure => simp [intOf]; omega
    · have hkn : k = xs.length := by omega
      subst hkn
      have HE := hideIt (show false = decide (id ∈ xs) from (decide_eq_false (by have := hno.out; rwa [List.take_length] at this)).symm)
      clear hno
      go_wp2
      go_ret
      exact ⟨ret_bool HE.out, Mod.refl _ _⟩

set_option maxRecDepth 100000 in
set_option maxHeartbeats 400000 in
theorem rising_any {w : World} {v : Value} {xs : List Int} (h : RowI w v xs) (hn : xs.length ≤ 100000) (hs : xs.Pairwise (· < ·)) :
    Calls Tryz.prog 32 #[v] w (KBool true w) := by
  obtain ⟨a, c, rfl, hc⟩ := h
  have HC := hideIt hc
  have HS := hideIt hs
  clear hc hs
  go_enter Tryz.func32, Tryz.ntmps32
  go_wp2_with fail
  go_loopw [3] (fun i wr => ∃ k : Nat, k ≤ xs.length ∧ i = .int .i64 (k + 1 : Nat) ∧ Mod [] w wr) (fun i _ => xs.length + 1 - (intOf i).toNat)
  case atStart => exact ⟨0, by omega, rfl, Mod.refl _ _⟩
  case round =>
    obtain ⟨k, hk, rfl, hmr⟩ := hrel
    by_cases hlt : k + 1 < xs.length
    · have hlt' : ((k + 1 : Nat) : Int) < (xs.length : Int) := by omega
      have hlt0 : (k : Int) < (xs.length : Int) := by omega
      have hget : xs[k + 1]? = some xs[k + 1] := List.getElem?_eq_getElem hlt
      have hget0 : xs[k]? = some xs[k] := List.getElem?_eq_getElem (by omega)
      have hxy : xs[k] < xs[k + 1] := List.pairwise_iff_getElem.1 HS.out k (k + 1) (by omega) hlt (by omega)
      obtain ⟨b, rfl, c1⟩ := HC.out (k + 1) _ hget
      obtain ⟨b', e, c0⟩ := HC.out k _ hget0
      cases e
      have c1 := cell_mod hmr c1
      have c0 := cell_mod hmr c0
      have hsub : ((k + 1 : Nat) : Int) - 1 = (k : Int) := by omega
      have HM := hideIt hmr
      clear hget hget0 hmr
      generalize xs[k + 1] = y at *
      generalize xs[k] = x at *
      have hle : ¬ (y ≤ x) := by omega
      go_wp2_with fail
      go_region
      all_goals
        go_wp2_with fail
        go_roundw
        case rel => exact ⟨k + 1, by omega, by go_num, HM.out.trans (Mod.drew _)⟩
        case measure => simp [intOf]; omega
    · have hge : ¬ (((k + 1 : Nat) : Int) < (xs.length : Int)) := by omega
      go_wp2
      go_ret
      exact ⟨rfl, hmr⟩

set_option maxRecDepth 100000 in
set_option maxHeartbeats 400000 in
theorem same_any {w : World} {v u : Value} {xs ys : List Int} (h : RowI w v xs) (h' : RowI w u ys) (hn : xs.length ≤ 100000) (hn' : ys.length ≤ 100000) :
    Calls Tryz.prog 20 #[v, u] w (KBool (decide (xs = ys)) w) := by
  obtain ⟨a, c, rfl, hc⟩ := h
  obtain ⟨a', c', rfl, hc'⟩ := h'
  by_cases hl : xs.length = ys.length
  · have hlb : ((xs.length : Int) == (ys.length : Int)) = true := by simp [hl]
    have HC := hideIt hc
    have HC' := hideIt hc'
    have HL := hideIt hl
    clear hc hc' hl
    go_enter Tryz.func20, Tryz.ntmps20
    go_wp2_with fail
    go_loopw [5] (fun i wr => ∃ k : Nat, k ≤ xs.length ∧ i = .int .i64 k ∧ Mod [] w wr ∧ Hid (xs.take k = ys.take k)) (fun i _ => xs.length - (intOf i).toNat)
    case atStart => exact ⟨0, by omega, rfl, Mod.refl _ _, hideIt (by simp)⟩
    case round =>
      obtain ⟨k, hk, rfl, hmr, hsm⟩ := hrel
      by_cases hlt : k < xs.length
      · have hlt' : (k : Int) < (xs.length : Int) := by omega
        have hltu : k < ys.length := by have := HL.out; omega
        have hltu' : (k : Int) < (ys.length : Int) := by omega
        have hget : xs[k]? = some xs[k] := List.getElem?_eq_getElem hlt
        have hget' : ys[k]? = some ys[k] := List.getElem?_eq_getElem hltu
        obtain ⟨b, rfl, c1⟩ := HC.out k _ hget
        obtain ⟨b', rfl, c2⟩ := HC'.out k _ hget'
        have c1 := cell_mod hmr c1
        have c2 := cell_mod hmr c2
        have HST := hideIt (show xs.take (k + 1) = xs.take k ++ [xs[k]] from List.take_succ_eq_append_getElem hlt)
        have HSU := hideIt (show ys.take (k + 1) = ys.take k ++ [ys[k]] from List.take_succ_eq_append_getElem hltu)
        have HM := hideIt hmr
        have HNE := hideIt (show xs = ys → xs[k] = ys[k] from fun e => by subst e; rfl)
        clear hmr hget hget'
        generalize xs[k] = x at *
        generalize ys[k] = y at *
        by_cases e : x = y
        · have hq : (x == y) = true := by simp [e]
          have HE := hideIt e
          clear e
          go_wp2_with fail
          go_region
          all_goals
            go_wp2_with fail
            go_roundw
            case rel => exact ⟨k + 1, by omega, by go_num, HM.out.trans (Mod.drew _), hideIt (by rw [HST.out, HSU.out, hsm.out, HE.out])⟩
            case measure => simp [intOf]; omega
        · have hq : (x == y) = false := by simp [e]
          have HE := hideIt (show false = decide (xs = ys) from (decide_eq_false (fun h => e (HNE.out h))).symm)
          clear e
          go_wp2_with fail
          go_region
          all_goals
            go_wp2
            go_ret
            exact ⟨ret_bool HE.out, HM.out.trans (Mod.drew _)⟩
      · have hge : ¬ ((k : Int) < (xs.length : Int)) := by omega
        have HE := hideIt (show true = decide (xs = ys) from (decide_eq_true (by
          have h1 := hsm.out
          rw [List.take_of_length_le (by omega), List.take_of_length_le (by have := HL.out; omega)] at h1
          exact h1)).symm)
        go_wp2
        go_ret
        exact ⟨ret_bool HE.out, hmr⟩
  · have hlb : ((xs.length : Int) == (ys.length : Int)) = false := by simp; omega
    have HE := hideIt (show false = decide (xs = ys) from (decide_eq_false (fun h => hl (by rw [h]))).symm)
    clear hc hc' hl
    go_enter Tryz.func20, Tryz.ntmps20
    go_wp2
    go_ret
    exact ⟨ret_bool HE.out, Mod.refl _ _⟩

end Go.Proofs.YtmfdlacmlnginaaGreat

namespace Go.Proofs.YtmfdlacmlnginaaGreat
open Go.RowKit Go.Maps
attribute [local go_sem] run_store_f32 run_neg_inf

def meetT (c0 c1 c2 c3 : Int) (t : Th) : Bool := meetI c0 c1 c2 c3 t.x0 t.y0 t.x1 t.y1
def holdT (c0 c1 c2 c3 : Int) (t : Th) : Bool := holdI c0 c1 c2 c3 t.x0 t.y0 t.x1 t.y1
def foundT (p : Th → Bool) (L : List Th) : List Int := sortI ((L.filter p).map (·.id))

theorem foundG_eq (p : Th → Bool) (ts : List Tg) : foundG (fun t => p t.th) ts = foundT p (ts.map Tg.th) := by
  unfold foundG foundT
  rw [List.filter_map, List.map_map]
  rfl

theorem foundT_len (p : Th → Bool) (L : List Th) : (foundT p L).length ≤ L.length := by
  unfold foundT
  rw [sortI_length, List.length_map]
  exact List.length_filter_le _ _

theorem foundT_nodup {p : Th → Bool} {L : List Th} (hn : (L.map (·.id)).Nodup) : (foundT p L).Nodup := by
  refine (sortI_perm _).nodup_iff.2 ?_
  exact hn.sublist (List.filter_sublist.map _)

theorem foundT_rising {p : Th → Bool} {L : List Th} (hn : (L.map (·.id)).Nodup) : (foundT p L).Pairwise (· < ·) := by
  have h1 := sortI_pairwise ((L.filter p).map (·.id))
  have h2 := foundT_nodup (p := p) hn
  exact (h1.and h2).imp (fun ⟨a, b⟩ => by omega)

theorem id_inj {L : List Th} (hn : (L.map (·.id)).Nodup) {s t : Th} (hs : s ∈ L) (ht : t ∈ L) (h : s.id = t.id) : s = t := by
  induction L with
  | nil => cases hs
  | cons a L ih =>
    rw [List.map_cons, List.nodup_cons] at hn
    rcases List.mem_cons.1 hs with rfl | hs' <;> rcases List.mem_cons.1 ht with rfl | ht'
    · rfl
    · exact absurd (List.mem_map.2 ⟨t, ht', h.symm⟩) hn.1
    · exact absurd (List.mem_map.2 ⟨s, hs', h⟩) hn.1
    · exact ih hn.2 hs' ht'

theorem mem_foundT {p : Th → Bool} {L : List Th} (hn : (L.map (·.id)).Nodup) {t : Th} (ht : t ∈ L) : t.id ∈ foundT p L ↔ p t = true := by
  unfold foundT
  rw [sortI_mem, List.mem_map]
  constructor
  · rintro ⟨s, hs, e⟩
    obtain ⟨h1, h2⟩ := List.mem_filter.1 hs
    rw [← id_inj hn h1 ht e]
    exact h2
  · exact fun h => ⟨t, List.mem_filter.2 ⟨ht, h⟩, rfl⟩

theorem of_mem_foundT {p : Th → Bool} {L : List Th} {k : Int} (h : k ∈ foundT p L) : ∃ t ∈ L, t.id = k ∧ p t = true := by
  unfold foundT at h
  rw [sortI_mem, List.mem_map] at h
  obtain ⟨t, ht, e⟩ := h
  exact ⟨t, (List.mem_filter.1 ht).1, e, (List.mem_filter.1 ht).2⟩

theorem dec_foundT {p : Th → Bool} {L : List Th} (hn : (L.map (·.id)).Nodup) {t : Th} (ht : t ∈ L) : decide (t.id ∈ foundT p L) = p t := by
  cases hp : p t with
  | true => exact decide_eq_true ((mem_foundT hn ht).2 hp)
  | false => exact decide_eq_false (fun h => by have := (mem_foundT hn ht).1 h; rw [hp] at this; cases this)

theorem foundT_all {p : Th → Bool} {L : List Th} (h : ∀ t ∈ L, p t = true) : foundT p L = sortI (L.map (·.id)) := by
  unfold foundT
  rw [List.filter_eq_self.2 h]

/-! ### a tree with what it holds -/
structure KRep (B : Nat) (w : World) (q fan : Nat) (L : List Th) : Prop where
  out : ∃ ts F, HRep w q fan ts F ∧ ts.map Tg.th = L ∧ ts.length ≤ 1000 ∧ ∀ x ∈ F, B ≤ x

theorem KRep.keep {B : Nat} {w w' : World} {q fan : Nat} {L : List Th} (h : KRep B w q fan L) (hm : Mod [] w w') : KRep B w' q fan L := by
  obtain ⟨ts, F, h1, h2, h3, h4⟩ := h.out
  exact ⟨ts, F, h1.kept hm (by simp), h2, h3, h4⟩

theorem KRep.ids {B : Nat} {w : World} {q fan : Nat} {L : List Th} (h : KRep B w q fan L) : (L.map (·.id)).Nodup := by
  obtain ⟨ts, F, h1, rfl, h3, h4⟩ := h.out
  have := h1.ids
  rw [List.map_map]
  exact this

theorem KRep.len {B : Nat} {w : World} {q fan : Nat} {L : List Th} (h : KRep B w q fan L) : L.length ≤ 1000 := by
  obtain ⟨ts, F, h1, rfl, h3, h4⟩ := h.out
  simpa using h3

theorem KRep.rects {B : Nat} {w : World} {q fan : Nat} {L : List Th} (h : KRep B w q fan L) : ∀ t ∈ L, RectOk t.x0 t.y0 t.x1 t.y1 := by
  obtain ⟨ts, F, ⟨p, F0, _, ⟨bm, es, clock, hh, k, ht, _⟩, _⟩, rfl, h3, h4⟩ := h.out
  intro t htm
  obtain ⟨s, hs, rfl⟩ := List.mem_map.1 htm
  exact (ht.node.thing s (ht.perm.mem_iff.2 hs)).1.rect

theorem PlantPost.rep {fan : Nat} {L : List Th} {w : World} {e : Ending} {w' : World} (h : PlantPost fan L w e w') : ∃ q, e = .returned (.pointer (some ⟨q, 0, none⟩)) ∧ KRep w.heap.size w' q fan L ∧ Mod [] w w' := by
  obtain ⟨q, F, ts, h1, h2, h3, h4, h5, h6⟩ := h
  exact ⟨q, h1, ⟨ts, F, h2, h3, by omega, h5⟩, h6⟩

theorem kLen_any {B : Nat} {w : World} {q fan : Nat} {L : List Th} (h : KRep B w q fan L) : Calls Tryz.prog 19 #[.pointer (some ⟨q, 0, none⟩)] w fun e w' => e = .returned (.int .i64 L.length) ∧ w = w' := by
  obtain ⟨ts, F, h1, rfl, h3, h4⟩ := h.out
  rw [List.length_map]
  exact hLen_any h1

def KFindPost (xs : List Int) (w : World) (e : Ending) (w' : World) : Prop := ∃ v, e = .returned (.tuple #[v, .bool true]) ∧ RowI w' v xs ∧ Mod [] w w'

set_option maxRecDepth 100000 in
set_option maxHeartbeats 400000 in
theorem kmeets_any {B : Nat} {w : World} {q fan : Nat} {L : List Th} (h : KRep B w q fan L) {c0 c1 c2 c3 : Int} (hr : RectOk c0 c1 c2 c3) :
    Calls Tryz.prog 17 #[.pointer (some ⟨q, 0, none⟩), R4 c0 c1 c2 c3] w (KFindPost (foundT (meetT c0 c1 c2 c3) L) w) := by
  have hm0 : Mod [] w (w.alloc (B4 c0 c1 c2 c3)) := Mod.alloc _ _
  have hrise := foundT_rising (p := meetT c0 c1 c2 c3) h.ids
  have hlen := foundT_len (meetT c0 c1 c2 c3) L
  have hl := h.len
  obtain ⟨ts, F, h1, h2, h3, h4⟩ := (h.keep hm0).out
  have hcall := hMeets_good h1 hr h3
  have e : foundG (meetG c0 c1 c2 c3) ts = foundT (meetT c0 c1 c2 c3) L := by
    rw [← h2]
    exact foundG_eq (meetT c0 c1 c2 c3) ts
  rw [e] at hcall
  generalize foundT (meetT c0 c1 c2 c3) L = xs at *
  have HF := hideIt hcall
  have HM := hideIt hm0
  have HRI := hideIt hrise
  clear hcall hm0 h1 h2 h3 h4 e h hr hrise
  go_enter Tryz.func17, Tryz.ntmps17
  go_wp2_with fail
  refine HF.out.mono ?_
  rintro e w1 ⟨v, rfl, k1, k2, k3⟩
  have hrow := RowI.of_owns k1
  have HR := hideIt hrow
  have HM1 := hideIt (HM.out.trans k3)
  clear hrow k1 k2 k3 HF
  go_wp2_with fail
  refine (rising_any HR.out (by omega) HRI.out).mono ?_
  rintro e w2 ⟨rfl, hm2⟩
  have HP := hideIt (show KFindPost xs w (.returned (.tuple #[v, .bool true])) w2 from ⟨v, rfl, HR.out.keep hm2, HM1.out.trans hm2⟩)
  clear hm2
  go_wp2
  go_ret2
  exact HP.out

set_option maxRecDepth 100000 in
set_option maxHeartbeats 400000 in
theorem kwithin_any {B : Nat} {w : World} {q fan : Nat} {L : List Th} (h : KRep B w q fan L) {c0 c1 c2 c3 : Int} (hr : RectOk c0 c1 c2 c3) :
    Calls Tryz.prog 18 #[.pointer (some ⟨q, 0, none⟩), R4 c0 c1 c2 c3] w (KFindPost (foundT (holdT c0 c1 c2 c3) L) w) := by
  have hm0 : Mod [] w (w.alloc (B4 c0 c1 c2 c3)) := Mod.alloc _ _
  have hrise := foundT_rising (p := holdT c0 c1 c2 c3) h.ids
  have hlen := foundT_len (holdT c0 c1 c2 c3) L
  have hl := h.len
  obtain ⟨ts, F, h1, h2, h3, h4⟩ := (h.keep hm0).out
  have hcall := hWithin_good h1 hr h3
  have e : foundG (holdG c0 c1 c2 c3) ts = foundT (holdT c0 c1 c2 c3) L := by
    rw [← h2]
    exact foundG_eq (holdT c0 c1 c2 c3) ts
  rw [e] at hcall
  generalize foundT (holdT c0 c1 c2 c3) L = xs at *
  have HF := hideIt hcall
  have HM := hideIt hm0
  have HRI := hideIt hrise
  clear hcall hm0 h1 h2 h3 h4 e h hr hrise
  go_enter Tryz.func18, Tryz.ntmps18
  go_wp2_with fail
  refine HF.out.mono ?_
  rintro e w1 ⟨v, rfl, k1, k2, k3⟩
  have hrow := RowI.of_owns k1
  have HR := hideIt hrow
  have HM1 := hideIt (HM.out.trans k3)
  clear hrow k1 k2 k3 HF
  go_wp2_with fail
  refine (rising_any HR.out (by omega) HRI.out).mono ?_
  rintro e w2 ⟨rfl, hm2⟩
  have HP := hideIt (show KFindPost xs w (.returned (.tuple #[v, .bool true])) w2 from ⟨v, rfl, HR.out.keep hm2, HM1.out.trans hm2⟩)
  clear hm2
  go_wp2
  go_ret2
  exact HP.out

end Go.Proofs.YtmfdlacmlnginaaGreat

