import Derived.Test.YthimaoipogocfaaGreatJ19
import Derived.Test.YthimaoipogocfaaGreatJ18
import Derived.Test.YthimaoipogocfaaGreatRows
import Derived.ProofKit
import Derived.OpenShut
import Derived.ChangeOld
import Derived.JoinedOf
import Derived.Deep.Slices
namespace Go.Proofs.YthimaoipogocfaaGreat
open Go.RowKit Go.Maps
attribute [local go_sem] run_store_f32 run_neg_inf

/-- numbers behind a slice -/
def RowI (w : World) (v : Value) (xs : List Int) : Prop := ∃ a c, v = .slice a xs.length c ∧ ∀ j x, xs[j]? = some x → ∃ b, a = some ⟨b, 0, none⟩ ∧ w.cell? ⟨b, j, none⟩ = some (.int .i64 x)

theorem RowI.of_owns {w : World} {v : Value} {xs : List Int} (h : w.ownsRow 0 3 1 v xs.length (ints xs)) : RowI w v xs := by
  rcases h.2 with ⟨rfl, h0⟩ | ⟨g, cap, cur, rfl, hb, hg, hnc, hcm, hcs, htake⟩
  · have hx : xs = [] := List.eq_nil_of_length_eq_zero h0
    subst hx
    exact ⟨none, 0, rfl, fun j x hx => by simp at hx⟩
  · refine ⟨some ⟨g, 0, none⟩, cap, rfl, fun j x hx => ⟨g, rfl, ?_⟩⟩
    have hj : j < xs.length := (List.getElem?_eq_some_iff.1 hx).1
    have h1 : (cur.toList.take (xs.length * 1))[j]? = (ints xs)[j]? := by rw [htake]
    rw [Nat.mul_one, List.getElem?_take_of_lt hj, Array.getElem?_toList] at h1
    rw [cell_of_block hg, h1]
    simp [ints, hx]

theorem RowI.keep {w w' : World} {v : Value} {xs : List Int} (h : RowI w v xs) (hm : Mod [] w w') : RowI w' v xs := by
  obtain ⟨a, c, h1, h2⟩ := h
  refine ⟨a, c, h1, fun j x hx => ?_⟩
  obtain ⟨b, h3, h4⟩ := h2 j x hx
  exact ⟨b, h3, cell_mod hm h4⟩

def KBool (b : Bool) (w : World) (e : Ending) (w' : World) : Prop := e = .returned (.bool b) ∧ Mod [] w w'

set_option maxRecDepth 100000 in
set_option maxHeartbeats 400000 in
theorem kin_any {w : World} {v : Value} {xs : List Int} (h : RowI w v xs) (hn : xs.length ≤ 100000) (id : Int) :
    Calls Tryz.prog 23 #[v, .int .i64 id] w (KBool (decide (id ∈ xs)) w) := by
  obtain ⟨a, c, rfl, hc⟩ := h
  have HC := hideIt hc
  clear hc
  go_enter Tryz.func23, Tryz.ntmps23
  go_wp2_with fail
  go_loop [5] (fun i => ∃ k : Nat, k ≤ xs.length ∧ i = .int .i64 k ∧ Hid (id ∉ xs.take k)) (fun i => xs.length - (intOf i).toNat)
  case atStart => exact ⟨0, by omega, rfl, hideIt (by simp)⟩
  case round =>
    obtain ⟨k, hk, rfl, hno⟩ := hrel
    by_cases hlt : k < xs.length
    · have hlt' : (k : Int) < (xs.length : Int) := by omega
      have hget : xs[k]? = some xs[k] := List.getElem?_eq_getElem hlt
      obtain ⟨b, rfl, c1⟩ := HC.out k _ hget
      have hstep : xs.take (k + 1) = xs.take k ++ [xs[k]] := List.take_succ_eq_append_getElem hlt
      have HST := hideIt hstep
      have HMEM := hideIt (show xs[k] ∈ xs from List.getElem_mem hlt)
      clear hget hstep
      generalize xs[k] = x at *
      by_cases e : x = id
      · have hq : (x == id) = true := by simp [e]
        have HE := hideIt (show true = decide (id ∈ xs) from (decide_eq_true (e ▸ HMEM.out)).symm)
        clear e
        go_wp2
        go_ret
        exact ⟨ret_bool HE.out, Mod.refl _ _⟩
      · have hq : (x == id) = false := by simp [e]
        have HE := hideIt e
        clear e
        go_wp2_with fail
        go_round
        case rel => exact ⟨k + 1, by omega, by go_num, hideIt (by rw [HST.out]; intro hx; rcases List.mem_append.1 hx with hx | hx; exact hno.out hx; simp at hx; exact HE.out hx.symm)⟩
        case measure => simp [intOf]; omega
    · have hkn : k = xs.length := by omega
      subst hkn
      have HE := hideIt (show false = decide (id ∈ xs) from (decide_eq_false (by have := hno.out; rwa [List.take_length] at this)).symm)
      clear hno
      go_wp2
      go_ret
      exact ⟨ret_bool HE.out, Mod.refl _ _⟩

set_option maxRecDepth 100000 in
set_option maxHeartbeats 400000 in
theorem rising_any {w : World} {v : Value} {xs : List Int} (h : RowI w v xs) (hn : xs.length ≤ 100000) (hs : xs.Pairwise (· < ·)) :
    Calls Tryz.prog 37 #[v] w (KBool true w) := by
  obtain ⟨a, c, rfl, hc⟩ := h
  have HC := hideIt hc
  have HS := hideIt hs
  clear hc hs
  go_enter Tryz.func37, Tryz.ntmps37
  go_wp2_with fail
  go_loopw [3] (fun i wr => ∃ k : Nat, k ≤ xs.length ∧ i = .int .i64 (k + 1 : Nat) ∧ Mod [] w wr) (fun i _ => xs.length + 1 - (intOf i).toNat)
  case atStart => exact ⟨0, by omega, rfl, Mod.refl _ _⟩
  case round =>
    obtain ⟨k, hk, rfl, hmr⟩ := hrel
    by_cases hlt : k + 1 < xs.length
    · have hlt' : ((k + 1 : Nat) : Int) < (xs.length : Int) := by omega
      have hlt0 : (k : Int) < (xs.length : Int) := by omega
      have hget : xs[k + 1]? = some xs[k + 1] := List.getElem?_eq_getElem hlt
      have hget0 : xs[k]? = some xs[k] := List.getElem?_eq_getElem (by omega)
      have hxy : xs[k] < xs[k + 1] := List.pairwise_iff_getElem.1 HS.out k (k + 1) (by omega) hlt (by omega)
      obtain ⟨b, rfl, c1⟩ := HC.out (k + 1) _ hget
      obtain ⟨b', e, c0⟩ := HC.out k _ hget0
      cases e
      have c1 := cell_mod hmr c1
      have c0 := cell_mod hmr c0
      have hsub : ((k + 1 : Nat) : Int) - 1 = (k : Int) := by omega
      have HM := hideIt hmr
      clear hget hget0 hmr
      generalize xs[k + 1] = y at *
      generalize xs[k] = x at *
      have hle : ¬ (y ≤ x) := by omega
      go_wp2_with fail
      go_region
      all_goals
        go_wp2_with fail
        go_roundw
        case rel => exact ⟨k + 1, by omega, by go_num, HM.out.trans (Mod.drew _)⟩
        case measure => simp [intOf]; omega
    · have hge : ¬ (((k + 1 : Nat) : Int) < (xs.length : Int)) := by omega
      go_wp2
      go_ret
      exact ⟨rfl, hmr⟩

set_option maxRecDepth 100000 in
set_option maxHeartbeats 400000 in
theorem same_any {w : World} {v u : Value} {xs ys : List Int} (h : RowI w v xs) (h' : RowI w u ys) (hn : xs.length ≤ 100000) (hn' : ys.length ≤ 100000) :
    Calls Tryz.prog 22 #[v, u] w (KBool (decide (xs = ys)) w) := by
  obtain ⟨a, c, rfl, hc⟩ := h
  obtain ⟨a', c', rfl, hc'⟩ := h'
  by_cases hl : xs.length = ys.length
  · have hlb : ((xs.length : Int) == (ys.length : Int)) = true := by simp [hl]
    have HC := hideIt hc
    have HC' := hideIt hc'
    have HL := hideIt hl
    clear hc hc' hl
    go_enter Tryz.func22, Tryz.ntmps22
    go_wp2_with fail
    go_loopw [5] (fun i wr => ∃ k : Nat, k ≤ xs.length ∧ i = .int .i64 k ∧ Mod [] w wr ∧ Hid (xs.take k = ys.take k)) (fun i _ => xs.length - (intOf i).toNat)
    case atStart => exact ⟨0, by omega, rfl, Mod.refl _ _, hideIt (by simp)⟩
    case round =>
      obtain ⟨k, hk, rfl, hmr, hsm⟩ := hrel
      by_cases hlt : k < xs.length
      · have hlt' : (k : Int) < (xs.length : Int) := by omega
        have hltu : k < ys.length := by have := HL.out; omega
        have hltu' : (k : Int) < (ys.length : Int) := by omega
        have hget : xs[k]? = some xs[k] := List.getElem?_eq_getElem hlt
        have hget' : ys[k]? = some ys[k] := List.getElem?_eq_getElem hltu
        obtain ⟨b, rfl, c1⟩ := HC.out k _ hget
        obtain ⟨b', rfl, c2⟩ := HC'.out k _ hget'
        have c1 := cell_mod hmr c1
        have c2 := cell_mod hmr c2
        have HST := hideIt (show xs.take (k + 1) = xs.take k ++ [xs[k]] from List.take_succ_eq_append_getElem hlt)
        have HSU := hideIt (show ys.take (k + 1) = ys.take k ++ [ys[k]] from List.take_succ_eq_append_getElem hltu)
        have HM := hideIt hmr
        have HNE := hideIt (show xs = ys → xs[k] = ys[k] from fun e => by subst e; rfl)
        clear hmr hget hget'
        generalize xs[k] = x at *
        generalize ys[k] = y at *
        by_cases e : x = y
        · have hq : (x == y) = true := by simp [e]
          have HE := hideIt e
          clear e
          go_wp2_with fail
          go_region
          all_goals
            go_wp2_with fail
            go_roundw
            case rel => exact ⟨k + 1, by omega, by go_num, HM.out.trans (Mod.drew _), hideIt (by rw [HST.out, HSU.out, hsm.out, HE.out])⟩
            case measure => simp [intOf]; omega
        · have hq : (x == y) = false := by simp [e]
          have HE := hideIt (show false = decide (xs = ys) from (decide_eq_false (fun h => e (HNE.out h))).symm)
          clear e
          go_wp2_with fail
          go_region
          all_goals
            go_wp2
            go_ret
            exact ⟨ret_bool HE.out, HM.out.trans (Mod.drew _)⟩
      · have hge : ¬ ((k : Int) < (xs.length : Int)) := by omega
        have HE := hideIt (show true = decide (xs = ys) from (decide_eq_true (by
          have h1 := hsm.out
          rw [List.take_of_length_le (by omega), List.take_of_length_le (by have := HL.out; omega)] at h1
          exact h1)).symm)
        go_wp2
        go_ret
        exact ⟨ret_bool HE.out, hmr⟩
  · have hlb : ((xs.length : Int) == (ys.length : Int)) = false := by simp; omega
    have HE := hideIt (show false = decide (xs = ys) from (decide_eq_false (fun h => hl (by rw [h]))).symm)
    clear hc hc' hl
    go_enter Tryz.func22, Tryz.ntmps22
    go_wp2
    go_ret
    exact ⟨ret_bool HE.out, Mod.refl _ _⟩

end Go.Proofs.YthimaoipogocfaaGreat

namespace Go.Proofs.YthimaoipogocfaaGreat
open Go.RowKit Go.Maps
attribute [local go_sem] run_store_f32 run_neg_inf

def meetT (c0 c1 c2 c3 : Int) (t : Th) : Bool := meetI c0 c1 c2 c3 t.x0 t.y0 t.x1 t.y1
def holdT (c0 c1 c2 c3 : Int) (t : Th) : Bool := holdI c0 c1 c2 c3 t.x0 t.y0 t.x1 t.y1
def foundT (p : Th → Bool) (L : List Th) : List Int := sortI ((L.filter p).map (·.id))

theorem foundG_eq (p : Th → Bool) (ts : List Tg) : foundG (fun t => p t.th) ts = foundT p (ts.map Tg.th) := by
  unfold foundG foundT
  rw [List.filter_map, List.map_map]
  rfl

theorem foundT_len (p : Th → Bool) (L : List Th) : (foundT p L).length ≤ L.length := by
  unfold foundT
  rw [sortI_length, List.length_map]
  exact List.length_filter_le _ _

theorem foundT_nodup {p : Th → Bool} {L : List Th} (hn : (L.map (·.id)).Nodup) : (foundT p L).Nodup := by
  refine (sortI_perm _).nodup_iff.2 ?_
  exact hn.sublist (List.filter_sublist.map _)

theorem foundT_rising {p : Th → Bool} {L : List Th} (hn : (L.map (·.id)).Nodup) : (foundT p L).Pairwise (· < ·) := by
  have h1 := sortI_pairwise ((L.filter p).map (·.id))
  have h2 := foundT_nodup (p := p) hn
  exact (h1.and h2).imp (fun ⟨a, b⟩ => by omega)

theorem id_inj {L : List Th} (hn : (L.map (·.id)).Nodup) {s t : Th} (hs : s ∈ L) (ht : t ∈ L) (h : s.id = t.id) : s = t := by
  induction L with
  | nil => cases hs
  | cons a L ih =>
    rw [List.map_cons, List.nodup_cons] at hn
    rcases List.mem_cons.1 hs with rfl | hs' <;> rcases List.mem_cons.1 ht with rfl | ht'
    · rfl
    · exact absurd (List.mem_map.2 ⟨t, ht', h.symm⟩) hn.1
    · exact absurd (List.mem_map.2 ⟨s, hs', h⟩) hn.1
    · exact ih hn.2 hs' ht'

theorem mem_foundT {p : Th → Bool} {L : List Th} (hn : (L.map (·.id)).Nodup) {t : Th} (ht : t ∈ L) : t.id ∈ foundT p L ↔ p t = true := by
  unfold foundT
  rw [sortI_mem, List.mem_map]
  constructor
  · rintro ⟨s, hs, e⟩
    obtain ⟨h1, h2⟩ := List.mem_filter.1 hs
    rw [← id_inj hn h1 ht e]
    exact h2
  · exact fun h => ⟨t, List.mem_filter.2 ⟨ht, h⟩, rfl⟩

theorem of_mem_foundT {p : Th → Bool} {L : List Th} {k : Int} (h : k ∈ foundT p L) : ∃ t ∈ L, t.id = k ∧ p t = true := by
  unfold foundT at h
  rw [sortI_mem, List.mem_map] at h
  obtain ⟨t, ht, e⟩ := h
  exact ⟨t, (List.mem_filter.1 ht).1, e, (List.mem_filter.1 ht).2⟩

theorem dec_foundT {p : Th → Bool} {L : List Th} (hn : (L.map (·.id)).Nodup) {t : Th} (ht : t ∈ L) : decide (t.id ∈ foundT p L) = p t := by
  cases hp : p t with
  | true => exact decide_eq_true ((mem_foundT hn ht).2 hp)
  | false => exact decide_eq_false (fun h => by have := (mem_foundT hn ht).1 h; rw [hp] at this; cases this)

theorem foundT_all {p : Th → Bool} {L : List Th} (h : ∀ t ∈ L, p t = true) : foundT p L = sortI (L.map (·.id)) := by
  unfold foundT
  rw [List.filter_eq_self.2 h]

/-! ### a tree with what it holds -/
structure KRep (B : Nat) (w : World) (q fan : Nat) (L : List Th) (lg : List Int) : Prop where
  out : ∃ ts F, HRep w q fan ts lg F ∧ ts.map Tg.th = L ∧ ts.length ≤ 1000 ∧ ∀ x ∈ F, B ≤ x

theorem KRep.keep {B : Nat} {w w' : World} {q fan : Nat} {L : List Th} {lg : List Int} (h : KRep B w q fan L lg) (hm : Mod [] w w') : KRep B w' q fan L lg := by
  obtain ⟨ts, F, h1, h2, h3, h4⟩ := h.out
  exact ⟨ts, F, h1.kept hm (by simp), h2, h3, h4⟩

theorem KRep.ids {B : Nat} {w : World} {q fan : Nat} {L : List Th} {lg : List Int} (h : KRep B w q fan L lg) : (L.map (·.id)).Nodup := by
  obtain ⟨ts, F, h1, rfl, h3, h4⟩ := h.out
  have := h1.ids
  rw [List.map_map]
  exact this

theorem KRep.len {B : Nat} {w : World} {q fan : Nat} {L : List Th} {lg : List Int} (h : KRep B w q fan L lg) : L.length ≤ 1000 := by
  obtain ⟨ts, F, h1, rfl, h3, h4⟩ := h.out
  simpa using h3

theorem KRep.rects {B : Nat} {w : World} {q fan : Nat} {L : List Th} {lg : List Int} (h : KRep B w q fan L lg) : ∀ t ∈ L, RectOk t.x0 t.y0 t.x1 t.y1 := by
  obtain ⟨ts, F, h1, rfl, h3, h4⟩ := h.out
  intro t htm
  obtain ⟨s, hs, rfl⟩ := List.mem_map.1 htm
  exact h1.rects s hs

theorem PlantPost.rep {fan : Nat} {L : List Th} {lg : List Int} {w : World} {e : Ending} {w' : World} (h : PlantPost fan L lg w e w') : ∃ q, e = .returned (.pointer (some ⟨q, 0, none⟩)) ∧ KRep w.heap.size w' q fan L lg ∧ Mod [] w w' := by
  obtain ⟨q, F, ts, h1, h2, h3, h4, h5, h6⟩ := h
  exact ⟨q, h1, ⟨ts, F, h2, h3, by omega, h5⟩, h6⟩

theorem kLen_any {B : Nat} {w : World} {q fan : Nat} {L : List Th} {lg : List Int} (h : KRep B w q fan L lg) : Calls Tryz.prog 21 #[.pointer (some ⟨q, 0, none⟩)] w fun e w' => e = .returned (.int .i64 L.length) ∧ w = w' := by
  obtain ⟨ts, F, h1, rfl, h3, h4⟩ := h.out
  rw [List.length_map]
  exact hLen_any h1

def KFindPost (xs : List Int) (w : World) (e : Ending) (w' : World) : Prop := ∃ v, e = .returned (.tuple #[v, .bool true]) ∧ RowI w' v xs ∧ Mod [] w w'

set_option maxRecDepth 100000 in
set_option maxHeartbeats 400000 in
theorem kmeets_any {B : Nat} {w : World} {q fan : Nat} {L : List Th} {lg : List Int} (h : KRep B w q fan L lg) {c0 c1 c2 c3 : Int} (hr : RectOk c0 c1 c2 c3) :
    Calls Tryz.prog 19 #[.pointer (some ⟨q, 0, none⟩), R4 c0 c1 c2 c3] w (KFindPost (foundT (meetT c0 c1 c2 c3) L) w) := by
  have hm0 : Mod [] w (w.alloc (B4 c0 c1 c2 c3)) := Mod.alloc _ _
  have hrise := foundT_rising (p := meetT c0 c1 c2 c3) h.ids
  have hlen := foundT_len (meetT c0 c1 c2 c3) L
  have hl := h.len
  obtain ⟨ts, F, h1, h2, h3, h4⟩ := (h.keep hm0).out
  have hcall := hMeets_good h1 hr h3
  have e : foundG (meetG c0 c1 c2 c3) ts = foundT (meetT c0 c1 c2 c3) L := by
    rw [← h2]
    exact foundG_eq (meetT c0 c1 c2 c3) ts
  rw [e] at hcall
  generalize foundT (meetT c0 c1 c2 c3) L = xs at *
  have HF := hideIt hcall
  have HM := hideIt hm0
  have HRI := hideIt hrise
  clear hcall hm0 h1 h2 h3 h4 e h hr hrise
  go_enter Tryz.func19, Tryz.ntmps19
  go_wp2_with fail
  refine HF.out.mono ?_
  rintro e w1 ⟨v, rfl, k1, k2, k3⟩
  have hrow := RowI.of_owns k1
  have HR := hideIt hrow
  have HM1 := hideIt (HM.out.trans k3)
  clear hrow k1 k2 k3 HF
  go_wp2_with fail
  refine (rising_any HR.out (by omega) HRI.out).mono ?_
  rintro e w2 ⟨rfl, hm2⟩
  have HP := hideIt (show KFindPost xs w (.returned (.tuple #[v, .bool true])) w2 from ⟨v, rfl, HR.out.keep hm2, HM1.out.trans hm2⟩)
  clear hm2
  go_wp2
  go_ret2
  exact HP.out

set_option maxRecDepth 100000 in
set_option maxHeartbeats 400000 in
theorem kwithin_any {B : Nat} {w : World} {q fan : Nat} {L : List Th} {lg : List Int} (h : KRep B w q fan L lg) {c0 c1 c2 c3 : Int} (hr : RectOk c0 c1 c2 c3) :
    Calls Tryz.prog 20 #[.pointer (some ⟨q, 0, none⟩), R4 c0 c1 c2 c3] w (KFindPost (foundT (holdT c0 c1 c2 c3) L) w) := by
  have hm0 : Mod [] w (w.alloc (B4 c0 c1 c2 c3)) := Mod.alloc _ _
  have hrise := foundT_rising (p := holdT c0 c1 c2 c3) h.ids
  have hlen := foundT_len (holdT c0 c1 c2 c3) L
  have hl := h.len
  obtain ⟨ts, F, h1, h2, h3, h4⟩ := (h.keep hm0).out
  have hcall := hWithin_good h1 hr h3
  have e : foundG (holdG c0 c1 c2 c3) ts = foundT (holdT c0 c1 c2 c3) L := by
    rw [← h2]
    exact foundG_eq (holdT c0 c1 c2 c3) ts
  rw [e] at hcall
  generalize foundT (holdT c0 c1 c2 c3) L = xs at *
  have HF := hideIt hcall
  have HM := hideIt hm0
  have HRI := hideIt hrise
  clear hcall hm0 h1 h2 h3 h4 e h hr hrise
  go_enter Tryz.func20, Tryz.ntmps20
  go_wp2_with fail
  refine HF.out.mono ?_
  rintro e w1 ⟨v, rfl, k1, k2, k3⟩
  have hrow := RowI.of_owns k1
  have HR := hideIt hrow
  have HM1 := hideIt (HM.out.trans k3)
  clear hrow k1 k2 k3 HF
  go_wp2_with fail
  refine (rising_any HR.out (by omega) HRI.out).mono ?_
  rintro e w2 ⟨rfl, hm2⟩
  have HP := hideIt (show KFindPost xs w (.returned (.tuple #[v, .bool true])) w2 from ⟨v, rfl, HR.out.keep hm2, HM1.out.trans hm2⟩)
  clear hm2
  go_wp2
  go_ret2
  exact HP.out

end Go.Proofs.YthimaoipogocfaaGreat

namespace Go.Proofs.YthimaoipogocfaaGreat.rowk
open Go.ChangeShapes Go.WideShapes Go.ChangeAt Go.RowKit

theorem own : ownKnob Tryz.prog.godebug = none := by kernel_rfl
theorem laidOut : laidOutB Tryz.prog = true := by kernel_rfl
theorem cellsT : Tryz.prog.cellsOf 29 = 5 := by kernel_rfl
theorem cellsI : Tryz.prog.cellsOf 3 = 1 := by kernel_rfl

theorem five {A : Type} (l : List A) (h : l.length = 5) : ∃ a b c d e, l = [a, b, c, d, e] := by
  match l, h with
  | [a, b, c, d, e], _ => exact ⟨a, b, c, d, e, rfl⟩

theorem wf_ok {n : Int} (h : (Lit.int .i64 n).wf = true) : i64ok n := by
  simpa [Lit.wf, IntKind.min, IntKind.max, IntKind.signed, IntKind.bits, i64ok] using h

section
variable {H : Type} {enc : TypeId × Value → H} {w : World} {base : Nat} {spare : Nat → Bool} {held : Bool}

theorem int_cell {n : Nat} {v : Value} {y : DataW H × List MemPlace} (h : DataW.trod enc Tryz.prog w base spare held n 3 [v] = some y) : ∃ a, v = .int .i64 a ∧ i64ok a := by
  obtain ⟨a, ha, _, hw⟩ := DataW.trod_int Tryz.underlying3 h
  simp at ha
  exact ⟨a, ha, wf_ok hw⟩

theorem thing_cells {n : Nat} {cs : List Value} {y : DataW H × List MemPlace} (h : DataW.trod enc Tryz.prog w base spare held n 29 cs = some y) :
    ∃ t : Kt, t.ok ∧ cs = [.int .i64 t.i, .int .i64 t.x, .int .i64 t.y, .int .i64 t.w, .int .i64 t.h] := by
  obtain ⟨xs, m, _, rfl, hl, hlen, hf⟩ := DataW.trod_struct Tryz.underlying29 h
  rw [cellsT] at hl
  obtain ⟨v0, v1, v2, v3, v4, rfl⟩ := five cs hl
  obtain ⟨y0, y1, y2, y3, y4, rfl⟩ := five xs (by simpa using hlen)
  have f0 := hf 0 _ rfl
  have f1 := hf 1 _ rfl
  have f2 := hf 2 _ rfl
  have f3 := hf 3 _ rfl
  have f4 := hf 4 _ rfl
  simp [cellsI] at f0 f1 f2 f3 f4
  obtain ⟨a, ha, oa⟩ := int_cell f0
  obtain ⟨b, hb, ob⟩ := int_cell f1
  obtain ⟨c, hc, oc⟩ := int_cell f2
  obtain ⟨d, hd, od⟩ := int_cell f3
  obtain ⟨e, he, oe⟩ := int_cell f4
  subst ha hb hc hd he
  exact ⟨⟨a, b, c, d, e⟩, ⟨oa, ob, oc, od, oe⟩, rfl⟩
end

theorem spot_none {w : World} {b o : Nat} {sp : Option _} {v : Value} (h : w.cell? ⟨b, o, sp⟩ = some v) : sp = none := by
  have := World.cell?_spot h
  exact this

/-- a list of what is there for each place -/
theorem listOf {A : Type} (n : Nat) (P : Nat → A → Prop) (h : ∀ i, i < n → ∃ a, P i a) : ∃ l : List A, l.length = n ∧ ∀ i a, l[i]? = some a → P i a := by
  induction n with
  | zero => exact ⟨[], rfl, fun i a h => by simp at h⟩
  | succ n ih =>
    obtain ⟨l, hl, hp⟩ := ih (fun i hi => h i (by omega))
    obtain ⟨a, ha⟩ := h n (by omega)
    refine ⟨l ++ [a], by simp [hl], fun i b hb => ?_⟩
    by_cases hi : i < l.length
    · rw [List.getElem?_append_left hi] at hb
      exact hp i b hb
    · rw [List.getElem?_append_right (by omega)] at hb
      by_cases h0 : i = l.length
      · subst h0
        simp at hb
        subst hb
        rw [hl]
        exact ha
      · rw [List.getElem?_eq_none (by simp; omega)] at hb
        cases hb

theorem things_of {H : Type} {enc : TypeId × Value → H} {W : World} {a0 : Option Addr} {len cap : Nat} {d0 : DataW H} {p0 : List MemPlace} (h : DataW.Trod enc Tryz.prog W 0 (fun _ => true) true 25 (.slice a0 len cap) d0 p0) :
    ∃ ks : List Kt, ks.length = len ∧ KsAt W a0 ks := by
  obtain ⟨fuel, hf⟩ := h
  rcases Deep.open_slice Tryz.underlying25 hf with ⟨hcs, _⟩ | ⟨a, l, c, m, n, D, Pl, hcs, _, hl, _, hm, hx, hel⟩
  · simp [Value.cells] at hcs
    obtain ⟨rfl, rfl, rfl⟩ := hcs
    exact ⟨[], rfl, fun j t h => by simp at h⟩
  · simp [Value.cells] at hcs
    obtain ⟨rfl, rfl, rfl⟩ := hcs
    simp at hm
    subst hm
    refine listOf len (fun j t => t.ok ∧ ∃ b off, some a = some ⟨b, off, none⟩ ∧ KtAt W b (off + j * 5) t) (fun i hi => ?_)
    obtain ⟨cs, h1, h2⟩ := hel i (by omega)
    rw [cellsT] at h1
    obtain ⟨t, ht, rfl⟩ := thing_cells h2
    obtain ⟨b, off, sp⟩ := a
    have hcc := (World.cells?_some h1).2.2
    have hsp : sp = none := by
      obtain ⟨z, hz⟩ : ∃ z, z = 0 := ⟨_, rfl⟩
      obtain ⟨cs, g1, g2⟩ := hel z (by omega)
      rw [cellsT] at g1
      subst hz
      obtain ⟨t, ht, rfl⟩ := thing_cells g2
      have := (World.cells?_some g1).2.2 0 (by omega)
      simp [Addr.add] at this
      exact spot_none this
    subst hsp
    have hadd : ∀ j, ((⟨b, off, none⟩ : Addr).add (i * 5)).add j = ⟨b, off + i * 5 + j, none⟩ := fun j => by
      rw [Deep.add_add]
      unfold Addr.add
      split <;> simp_all <;> omega
    have hcell : ∀ j, j < 5 → W.cell? ⟨b, off + i * 5 + j, none⟩ = [Value.int .i64 t.i, .int .i64 t.x, .int .i64 t.y, .int .i64 t.w, .int .i64 t.h][j]? := fun j hj => by
      rw [← hcc j hj, hadd j]
    exact ⟨t, ht, b, off, rfl, ⟨hcell 0 (by omega), hcell 1 (by omega), hcell 2 (by omega), hcell 3 (by omega), hcell 4 (by omega)⟩⟩

set_option maxRecDepth 100000 in
/-- a thing handed in by value -/
theorem thing_of {H : Type} {enc : TypeId × Value → H} {W : World} {base : Nat} {v : Value} {d0 : DataW H} {p0 : List MemPlace} (hok : Value.okWide Tryz.prog W .any base 29 v) (h : DataW.Trod enc Tryz.prog W 0 (fun _ => true) true 29 v d0 p0) : ∃ t : Kt, t.ok ∧ v = ktV t := by
  obtain ⟨cs, rfl, hl⟩ := okWide_struct Tryz.underlying29 hok
  obtain ⟨m, hm⟩ := h
  obtain ⟨t, ht, e⟩ := thing_cells hm
  refine ⟨t, ht, ?_⟩
  have e2 : cs.toList = [.int .i64 t.i, .int .i64 t.x, .int .i64 t.y, .int .i64 t.w, .int .i64 t.h] := e
  have e3 : cs = #[.int .i64 t.i, .int .i64 t.x, .int .i64 t.y, .int .i64 t.w, .int .i64 t.h] := by
    apply Array.toList_inj.1
    exact e2
  rw [e3]

set_option maxRecDepth 100000 in
theorem int_of {H : Type} {enc : TypeId × Value → H} {W : World} {base : Nat} {v : Value} {d0 : DataW H} {p0 : List MemPlace} (hok : Value.okWide Tryz.prog W .any base 3 v) (h : DataW.Trod enc Tryz.prog W 0 (fun _ => true) true 3 v d0 p0) : ∃ n, i64ok n ∧ v = .int .i64 n := by
  obtain ⟨n, rfl⟩ := okWide_int Tryz.underlying3 hok
  obtain ⟨m, hm⟩ := h
  obtain ⟨a, ha, _, hw⟩ := DataW.trod_int Tryz.underlying3 hm
  simp [Value.cells] at ha
  subst ha
  exact ⟨n, wf_ok hw, rfl⟩

end Go.Proofs.YthimaoipogocfaaGreat.rowk

