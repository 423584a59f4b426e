import Derived.Test.YthimaoipogocfaaGreatM13
import Derived.Deep.RegionHeld
namespace Go.Proofs.YthimaoipogocfaaGreat.Rf
open Go.RowKit Go.Maps
attribute [local go_sem] run_store_f32 run_neg_inf

/-- does a thing belong to what is asked for? -/
def hitB (x0 y0 x1 y1 : Int) (within : Bool) (t : Th) : Bool := if within then inB x0 y0 x1 y1 t.x0 t.y0 t.x1 t.y1 else commonB x0 y0 x1 y1 t.x0 t.y0 t.x1 t.y1
def idsF (x0 y0 x1 y1 : Int) (within : Bool) (L : List Th) : List Int := (L.filter (hitB x0 y0 x1 y1 within)).map (·.id)

theorem idsF_snoc (x0 y0 x1 y1 : Int) (within : Bool) (L : List Th) (t : Th) : idsF x0 y0 x1 y1 within (L ++ [t]) = idsF x0 y0 x1 y1 within L ++ if hitB x0 y0 x1 y1 within t then [t.id] else [] := by
  unfold idsF
  rw [List.filter_append, List.map_append]
  congr 1
  by_cases h : hitB x0 y0 x1 y1 within t <;> simp [h]

theorem idsF_le (x0 y0 x1 y1 : Int) (within : Bool) (L : List Th) : (idsF x0 y0 x1 y1 within L).length ≤ L.length := by
  unfold idsF
  rw [List.length_map]
  exact List.length_filter_le _ _

def FoundPost (l : List Int) (w : World) (e : Ending) (w' : World) : Prop := ∃ v, e = .returned (.tuple #[v, .int .i64 0]) ∧ w'.ownsRow w.heap.size 3 1 v l.length (ints (sortI l)) ∧ Below w.heap.size w w'

theorem Found_bad (pv : Value) (x0 y0 x1 y1 : Int) (within : Bool) (w : World) (hr : rectB x0 y0 x1 y1 = false) :
    Calls Tryz.prog 89 #[pv, R4 x0 y0 x1 y1, .bool within] w fun e w' => e = .returned (.tuple #[.slice none 0 0, .int .i64 2]) ∧ Below w.heap.size w w' := by
  go_enter Tryz.func89, Tryz.ntmps89
  go_wp2_with fail
  refine (Rect_any _ _ _ _ _).mono ?_
  rw [hr]
  rintro e w' ⟨rfl, rfl⟩
  go_wp2
  go_ret2
  exact ⟨rfl, ((Below.refl _ _).alloc (Nat.le_refl _) _).alloc (by simp) _⟩

/-- what the loop's body reads -/
structure FoundAt (py b g k n c : Nat) (x0 y0 x1 y1 : Int) (t : Th) (w : World) : Prop where
  ct : w.cell? ⟨py, 1, none⟩ = some (.slice (some ⟨g, 0, none⟩) n c)
  b0 : w.cell? ⟨b, 0, none⟩ = some (.int .i64 x0)
  b1 : w.cell? ⟨b, 1, none⟩ = some (.int .i64 y0)
  b2 : w.cell? ⟨b, 2, none⟩ = some (.int .i64 x1)
  b3 : w.cell? ⟨b, 3, none⟩ = some (.int .i64 y1)
  d0 : w.cell? ⟨g, k * 5, none⟩ = some (.int .i64 t.id)
  d1 : w.cell? ⟨g, k * 5 + 1, none⟩ = some (.int .i64 t.x0)
  d2 : w.cell? ⟨g, k * 5 + 2, none⟩ = some (.int .i64 t.y0)
  d3 : w.cell? ⟨g, k * 5 + 3, none⟩ = some (.int .i64 t.x1)
  d4 : w.cell? ⟨g, k * 5 + 4, none⟩ = some (.int .i64 t.y1)

theorem FoundAt.kept {py b g k n c : Nat} {x0 y0 x1 y1 : Int} {t : Th} {w w' : World} (h : FoundAt py b g k n c x0 y0 x1 y1 t w) (hm : Mod [] w w') : FoundAt py b g k n c x0 y0 x1 y1 t w' :=
  ⟨cell_mod hm h.ct, cell_mod hm h.b0, cell_mod hm h.b1, cell_mod hm h.b2, cell_mod hm h.b3, cell_mod hm h.d0, cell_mod hm h.d1, cell_mod hm h.d2, cell_mod hm h.d3, cell_mod hm h.d4⟩

theorem FoundAt.nine {py b g k n c : Nat} {x0 y0 x1 y1 : Int} {t : Th} {w : World} (h : FoundAt py b g k n c x0 y0 x1 y1 t w) :
    w.cell? ⟨py, 1, none⟩ = some (.slice (some ⟨g, 0, none⟩) n c) ∧ w.cell? ⟨b, 0, none⟩ = some (.int .i64 x0) ∧ w.cell? ⟨b, 1, none⟩ = some (.int .i64 y0) ∧ w.cell? ⟨b, 2, none⟩ = some (.int .i64 x1) ∧ w.cell? ⟨b, 3, none⟩ = some (.int .i64 y1) ∧
      w.cell? ⟨g, k * 5 + 1, none⟩ = some (.int .i64 t.x0) ∧ w.cell? ⟨g, k * 5 + 2, none⟩ = some (.int .i64 t.y0) ∧ w.cell? ⟨g, k * 5 + 3, none⟩ = some (.int .i64 t.x1) ∧ w.cell? ⟨g, k * 5 + 4, none⟩ = some (.int .i64 t.y1) :=
  ⟨h.ct, h.b0, h.b1, h.b2, h.b3, h.d1, h.d2, h.d3, h.d4⟩

set_option maxRecDepth 100000 in
set_option maxHeartbeats 1000000 in
theorem Found_some (py g c : Nat) (fan last : Int) (lv : Value) (L : List Th) (x0 y0 x1 y1 : Int) (within : Bool) (w : World) (ht : w.heap[py]? = some (T58 fan (.slice (some ⟨g, 0, none⟩) L.length c) lv last))
    (ho : w.ownsRow 0 193 5 (.slice (some ⟨g, 0, none⟩) L.length c) L.length (flat L)) (hL : L.length ≤ 400) (hr : rectB x0 y0 x1 y1 = true) :
    Calls Tryz.prog 89 #[.pointer (some ⟨py, 0, none⟩), R4 x0 y0 x1 y1, .bool within] w (FoundPost (idsF x0 y0 x1 y1 within L) w) := by
  obtain ⟨i0, hi, hz0, hz1, hz2⟩ := info_partsB info3
  have HT := hideIt ht
  have HO := hideIt ho
  clear ht ho
  go_enter Tryz.func89, Tryz.ntmps89
  go_wp2_with fail
  refine (Rect_any _ _ _ _ _).mono ?_
  rw [hr]
  rintro e w1 ⟨rfl, hw1⟩
  have hB1 : Below w.heap.size w w1 := by rw [hw1]; exact ((Below.refl _ _).alloc (Nat.le_refl _) _).alloc (by simp) _
  have hbx1 : w1.heap[w.heap.size]? = some (B4 x0 y0 x1 y1) := by
    rw [hw1, Below.heap_alloc _ _ _ (by simp)]
    exact heap_alloc_new w _
  clear hw1
  go_wp2_with fail
  go_loopw [9, 10] (fun l i wr => ∃ k : Nat, k ≤ L.length ∧ i = .int .i64 k ∧ Below w.heap.size w wr ∧ wr.heap[w.heap.size]? = some (B4 x0 y0 x1 y1) ∧ wr.ownsRow (w.heap.size + 1) 3 1 l (idsF x0 y0 x1 y1 within (L.take k)).length (ints (idsF x0 y0 x1 y1 within (L.take k)))) (fun _ i _ => L.length - (intOf i).toNat)
  case atStart => exact ⟨0, Nat.zero_le _, rfl, hB1, hbx1, World.ownsRow_nil _ _ _ _⟩
  case round =>
    clear hB1 hbx1
    obtain ⟨k, hk, rfl, hB, hbx, how⟩ := hrel
    have hm := Mod.of_below hB
    have hT := (hm.block py (lt_of_block HT.out) (by simp)).trans HT.out
    have hO := owns_kept HO.out hm (by simp)
    have ct := (cell_T58 hT).2.1
    have hz := hB.size
    by_cases hlt : k < L.length
    · obtain ⟨d0, d1, d2, d3, d4⟩ := thing_cells hO (List.getElem?_eq_getElem hlt)
      obtain ⟨b0, b1, b2, b3⟩ := cell_B4 hbx
      have hki : (k : Int) < (L.length : Int) := by omega
      have hsn := idsF_snoc x0 y0 x1 y1 within (L.take k) L[k]
      rw [← List.take_succ_eq_append_getElem hlt] at hsn
      have HSN := hideIt hsn
      clear hsn
      generalize L[k] = t at *
      have hF : FoundAt py w.heap.size g k L.length c x0 y0 x1 y1 t wr := ⟨ct, b0, b1, b2, b3, d0, d1, d2, d3, d4⟩
      clear b0 b1 b2 b3 d0 d1 d2 d3 d4
      have HF := hideIt hF
      clear hF
      go_wp2_with fail
      go_region_held (fun w' => w'.cell? ⟨py, 1, none⟩ = some (.slice (some ⟨g, 0, none⟩) L.length c) ∧ w'.cell? ⟨w.heap.size, 0, none⟩ = some (.int .i64 x0) ∧ w'.cell? ⟨w.heap.size, 1, none⟩ = some (.int .i64 y0) ∧ w'.cell? ⟨w.heap.size, 2, none⟩ = some (.int .i64 x1) ∧ w'.cell? ⟨w.heap.size, 3, none⟩ = some (.int .i64 y1) ∧
          w'.cell? ⟨g, k * 5 + 1, none⟩ = some (.int .i64 t.x0) ∧ w'.cell? ⟨g, k * 5 + 2, none⟩ = some (.int .i64 t.y0) ∧ w'.cell? ⟨g, k * 5 + 3, none⟩ = some (.int .i64 t.x1) ∧ w'.cell? ⟨g, k * 5 + 4, none⟩ = some (.int .i64 t.y1))
        ((first | exact HF.out.nine | exact (HF.out.kept (((Mod.alloc _ _).trans (Mod.alloc _ _)).trans (Mod.drew _))).nine))
        ((go_at_call 124; refine (Common_any _ _ _ _ _ _ _ _ _).mono ?_; rintro e w' ⟨rfl, rfl⟩))
      rename_i hheld
      clear hheld
      have hmw : Mod [] wr (((wr.alloc (B4 x0 y0 x1 y1)).alloc (B4 t.x0 t.y0 t.x1 t.y1)).drew) := ((Mod.alloc _ _).trans (Mod.alloc _ _)).trans (Mod.drew _)
      have HF2 := hideIt (HF.out.kept hmw)
      generalize hcm : commonB x0 y0 x1 y1 t.x0 t.y0 t.x1 t.y1 = cm at *
      have HCM := hideIt hcm
      clear hcm HF
      generalize ((wr.alloc (B4 x0 y0 x1 y1)).alloc (B4 t.x0 t.y0 t.x1 t.y1)).drew = w2 at *
      go_wp2_with fail
      go_region_held (fun w' => w'.cell? ⟨py, 1, none⟩ = some (.slice (some ⟨g, 0, none⟩) L.length c) ∧ w'.cell? ⟨w.heap.size, 0, none⟩ = some (.int .i64 x0) ∧ w'.cell? ⟨w.heap.size, 1, none⟩ = some (.int .i64 y0) ∧ w'.cell? ⟨w.heap.size, 2, none⟩ = some (.int .i64 x1) ∧ w'.cell? ⟨w.heap.size, 3, none⟩ = some (.int .i64 y1) ∧
          w'.cell? ⟨g, k * 5 + 1, none⟩ = some (.int .i64 t.x0) ∧ w'.cell? ⟨g, k * 5 + 2, none⟩ = some (.int .i64 t.y0) ∧ w'.cell? ⟨g, k * 5 + 3, none⟩ = some (.int .i64 t.x1) ∧ w'.cell? ⟨g, k * 5 + 4, none⟩ = some (.int .i64 t.y1))
        ((first | exact HF2.out.nine | exact (HF2.out.kept (((Mod.alloc _ _).trans (Mod.alloc _ _)).trans (Mod.drew _))).nine))
        ((go_at_call 125; refine (In_any _ _ _ _ _ _ _ _ _).mono ?_; rintro e w' ⟨rfl, rfl⟩))
      rename_i hheld
      clear hheld
      have hmw2 : Mod [] w2 (((w2.alloc (B4 x0 y0 x1 y1)).alloc (B4 t.x0 t.y0 t.x1 t.y1)).drew) := ((Mod.alloc _ _).trans (Mod.alloc _ _)).trans (Mod.drew _)
      have HF3 := hideIt (HF2.out.kept hmw2)
      generalize hin : inB x0 y0 x1 y1 t.x0 t.y0 t.x1 t.y1 = inn at *
      have HIN := hideIt hin
      clear hin HF2
      generalize ((w2.alloc (B4 x0 y0 x1 y1)).alloc (B4 t.x0 t.y0 t.x1 t.y1)).drew = w3 at *
      have hm3 := hmw.trans hmw2
      have hB3 : Below w.heap.size w w3 := hB.trans (hm3.below_of hz (by simp))
      have how3 := owns_kept how hm3 (by simp)
      have hbx3 := (hm3.block _ (lt_of_block hbx) (by simp)).trans hbx
      have hz3 : w.heap.size < w3.heap.size := lt_of_block hbx3
      have hh : hitB x0 y0 x1 y1 within t = if within then inn else cm := by unfold hitB; rw [HIN.out, HCM.out]
      rw [hh] at HSN
      have hle := idsF_le x0 y0 x1 y1 within (L.take k)
      have hle2 : (L.take k).length = k := by simp; omega
      rw [hle2] at hle
      clear hh hmw hmw2 hm3 how hbx hB hle2
      generalize idsF x0 y0 x1 y1 within (L.take k) = ids at *
      clear ct hT hO
      have ct3 := HF3.out.ct
      have d03 := HF3.out.d0
      have hsrc : srcRow (w3.alloc (.cells #[.int .i64 t.id] 3)) 1 (.slice (some ⟨w3.heap.size, 0, none⟩) 1 1) 1 (ints [t.id]) :=
        srcRow_of_owns (owns_allocB (w := w3) (cur := #[.int .i64 t.id]) (e := 3) (n := 1) (size := 1) rfl (by decide) (base := 0) (Nat.zero_le _)) (ints_one [t.id])
      have how3a := how3.alloc (.cells #[.int .i64 t.id] 3)
      have hbz : w.heap.size + 1 ≤ (w3.alloc (.cells #[.int .i64 t.id] 3)).heap.size := by simp; omega
      have hfin : ∀ (g5 c5 : Nat) (w5 : World), w5.ownsRow (w.heap.size + 1) 3 1 (.slice (some ⟨g5, 0, none⟩) (ids.length + 1) c5) (ids.length + 1) (catL (ints ids) (ints [t.id])) → Mod u9.ownBlock.toList (w3.alloc (.cells #[.int .i64 t.id] 3)) w5 →
          Below w.heap.size w w5 ∧ w5.heap[w.heap.size]? = some (B4 x0 y0 x1 y1) ∧ w5.ownsRow (w.heap.size + 1) 3 1 (.slice (some ⟨g5, 0, none⟩) (ids.length + 1) c5) (ids ++ [t.id]).length (ints (ids ++ [t.id])) := fun g5 c5 w5 ho5 hm5 => by
        have hm35 : Mod u9.ownBlock.toList w3 w5 := (Mod.alloc _ _).trans hm5
        have hlo : ∀ x ∈ u9.ownBlock.toList, w.heap.size + 1 ≤ x := fun x hx => (how3.lt x (by simpa using hx)).1
        refine ⟨hB3.trans (hm35.below_of (by omega) (fun x hx => by have := hlo x hx; omega)), (hm35.block _ hz3 (fun hx => by have := hlo _ hx; omega)).trans hbx3, ?_⟩
        rw [show (ids ++ [t.id]).length = ids.length + 1 by simp, ints_append]
        exact ho5
      have HFIN := hideIt hfin
      clear hfin
      cases within with
      | true =>
        cases inn with
        | true =>
          go_wp2_with (at_builtin; refine wpList_append_rows _ rfl _ _ 39 rfl (w.heap.size + 1) 3 i0 (.int .i64 0) 1 8 Tryz.underlying39 hi hz0 hz1 hz2 rfl (by decide) _ ids.length (ints ids) rfl how3a _ 1 (ints [t.id]) rfl hsrc (by omega) (by unfold maxLen; omega) (by omega) hbz ?_)
          intro g5 c5 w5 ho5 hm5 hat5
          have hfn := hideIt (HFIN.out g5 c5 w5 ho5 hm5)
          clear HFIN ho5 hm5 hat5 hsrc how3a how3 HF3 ct3 d03
          go_wp2_with fail
          go_roundw
          case rel =>
            refine ⟨k + 1, by omega, by go_num, hfn.out.1, hfn.out.2.1, ?_⟩
            rw [HSN.out]
            exact hfn.out.2.2
          case measure => simp [intOf]; omega
        | false =>
          clear HFIN hsrc how3a ct3 d03
          go_wp2_with fail
          go_roundw
          case rel =>
            refine ⟨k + 1, by omega, by go_num, hB3, hbx3, ?_⟩
            rw [HSN.out]
            simpa using how3
          case measure => simp [intOf]; omega
      | false =>
        cases cm with
        | true =>
          go_wp2_with (at_builtin; refine wpList_append_rows _ rfl _ _ 39 rfl (w.heap.size + 1) 3 i0 (.int .i64 0) 1 8 Tryz.underlying39 hi hz0 hz1 hz2 rfl (by decide) _ ids.length (ints ids) rfl how3a _ 1 (ints [t.id]) rfl hsrc (by omega) (by unfold maxLen; omega) (by omega) hbz ?_)
          intro g5 c5 w5 ho5 hm5 hat5
          have hfn := hideIt (HFIN.out g5 c5 w5 ho5 hm5)
          clear HFIN ho5 hm5 hat5 hsrc how3a how3 HF3 ct3 d03
          go_wp2_with fail
          go_roundw
          case rel =>
            refine ⟨k + 1, by omega, by go_num, hfn.out.1, hfn.out.2.1, ?_⟩
            rw [HSN.out]
            exact hfn.out.2.2
          case measure => simp [intOf]; omega
        | false =>
          clear HFIN hsrc how3a ct3 d03
          go_wp2_with fail
          go_roundw
          case rel =>
            refine ⟨k + 1, by omega, by go_num, hB3, hbx3, ?_⟩
            rw [HSN.out]
            simpa using how3
          case measure => simp [intOf]; omega
    · have hkl : k = L.length := by omega
      subst hkl
      rw [List.take_length] at how
      go_wp2_with fail
      refine (sorted_any how (by have := idsF_le x0 y0 x1 y1 within L; omega)).mono ?_
      rintro e w5 ⟨v, rfl, ho5, hb5⟩
      have hB5 : Below w.heap.size w w5 := hB.trans (hb5.mono hz)
      have ho5' := owns_base ho5 hz
      clear how hB hT hO ct
      go_wp2
      go_ret2
      exact ⟨v, rfl, ho5', hB5⟩

set_option maxRecDepth 100000 in
set_option maxHeartbeats 1000000 in
theorem Found_nil (py : Nat) (fan last : Int) (lv : Value) (x0 y0 x1 y1 : Int) (within : Bool) (w : World) (ht : w.heap[py]? = some (T58 fan (.slice none 0 0) lv last)) (hr : rectB x0 y0 x1 y1 = true) :
    Calls Tryz.prog 89 #[.pointer (some ⟨py, 0, none⟩), R4 x0 y0 x1 y1, .bool within] w (FoundPost [] w) := by
  have HT := hideIt ht
  clear ht
  go_enter Tryz.func89, Tryz.ntmps89
  go_wp2_with fail
  refine (Rect_any _ _ _ _ _).mono ?_
  rw [hr]
  rintro e w1 ⟨rfl, hw1⟩
  have hB1 : Below w.heap.size w w1 := by rw [hw1]; exact ((Below.refl _ _).alloc (Nat.le_refl _) _).alloc (by simp) _
  clear hw1
  have ct := (cell_T58 (((Mod.of_below hB1).block py (lt_of_block HT.out) (by simp)).trans HT.out)).2.1
  go_wp2_with fail
  go_loop [9, 10] (fun l i => l = .slice none 0 0 ∧ i = .int .i64 0) (fun _ _ => 0)
  case atStart => exact ⟨rfl, rfl⟩
  case round =>
    obtain ⟨rfl, rfl⟩ := hrel
    go_wp2_with fail
    refine (sorted_nil _).mono ?_
    rintro e w5 ⟨v, rfl, ho5, hb5⟩
    have hz := hB1.size
    have hB5 : Below w.heap.size w w5 := hB1.trans (hb5.mono hz)
    have ho5' := owns_base ho5 hz
    clear ct hB1
    go_wp2
    go_ret2
    exact ⟨v, rfl, ho5', hB5⟩

theorem Found_any {w : World} {py : Nat} {fan : Int} {L : List Th} {lg : List Int} {F : List Nat} (h : RefRep w py fan L lg F) (hL : L.length ≤ 400) (x0 y0 x1 y1 : Int) (within : Bool) (hr : rectB x0 y0 x1 y1 = true) :
    Calls Tryz.prog 89 #[.pointer (some ⟨py, 0, none⟩), R4 x0 y0 x1 y1, .bool within] w (FoundPost (idsF x0 y0 x1 y1 within L) w) := by
  obtain ⟨tv, gl, cl, last, nl, h1, h2, h3, h4, h5, h6, rfl⟩ := h
  have h3' := h3
  rcases h3.2 with ⟨rfl, h0⟩ | ⟨g, c, cur, rfl, _⟩
  · obtain rfl : L = [] := List.eq_nil_of_length_eq_zero h0
    exact Found_nil py fan last _ x0 y0 x1 y1 within w h1 hr
  · exact Found_some py g c fan last _ L x0 y0 x1 y1 within w h1 h3' hL hr

/-! ### Pairs -/
def commonT (s t : Th) : Bool := commonB s.x0 s.y0 s.x1 s.y1 t.x0 t.y0 t.x1 t.y1
/-- how many of the first k things have a place in common with a thing -/
def meetN (L : List Th) (t : Th) : Nat := (L.filter (commonT t)).length
def thZ : Th := ⟨0, 0, 0, 0, 0⟩
/-- pairs among the first i things -/
def pairsTo (L : List Th) : Nat → Nat
  | 0 => 0
  | i + 1 => pairsTo L i + meetN (L.take i) (L.getD i thZ)
def pairsF (L : List Th) : Nat := pairsTo L L.length

theorem meetN_le (L : List Th) (t : Th) : meetN L t ≤ L.length := List.length_filter_le _ _
theorem meetN_snoc (L : List Th) (s t : Th) : meetN (L ++ [s]) t = meetN L t + if commonT t s then 1 else 0 := by
  unfold meetN
  rw [List.filter_append, List.length_append]
  by_cases h : commonT t s <;> simp [h]
theorem pairsTo_le (L : List Th) (i : Nat) (hi : i ≤ 400) : pairsTo L i ≤ i * 400 := by
  induction i with
  | zero => simp [pairsTo]
  | succ i ih =>
    have h1 := ih (by omega)
    have h2 := meetN_le (L.take i) (L.getD i thZ)
    have h3 : (L.take i).length ≤ i := List.length_take_le _ _
    simp only [pairsTo]
    omega

end Go.Proofs.YthimaoipogocfaaGreat.Rf

namespace Go.Proofs.YthimaoipogocfaaGreat.Rf
open Go.RowKit Go.Maps
attribute [local go_sem] run_store_f32 run_neg_inf

/-- what the inner loop's body reads -/
structure PairsAt (py g i k n c : Nat) (s t : Th) (w : World) : Prop where
  ct : w.cell? ⟨py, 1, none⟩ = some (.slice (some ⟨g, 0, none⟩) n c)
  a1 : w.cell? ⟨g, i * 5 + 1, none⟩ = some (.int .i64 s.x0)
  a2 : w.cell? ⟨g, i * 5 + 2, none⟩ = some (.int .i64 s.y0)
  a3 : w.cell? ⟨g, i * 5 + 3, none⟩ = some (.int .i64 s.x1)
  a4 : w.cell? ⟨g, i * 5 + 4, none⟩ = some (.int .i64 s.y1)
  d1 : w.cell? ⟨g, k * 5 + 1, none⟩ = some (.int .i64 t.x0)
  d2 : w.cell? ⟨g, k * 5 + 2, none⟩ = some (.int .i64 t.y0)
  d3 : w.cell? ⟨g, k * 5 + 3, none⟩ = some (.int .i64 t.x1)
  d4 : w.cell? ⟨g, k * 5 + 4, none⟩ = some (.int .i64 t.y1)

theorem PairsAt.kept {py g i k n c : Nat} {s t : Th} {w w' : World} (h : PairsAt py g i k n c s t w) (hm : Mod [] w w') : PairsAt py g i k n c s t w' :=
  ⟨cell_mod hm h.ct, cell_mod hm h.a1, cell_mod hm h.a2, cell_mod hm h.a3, cell_mod hm h.a4, cell_mod hm h.d1, cell_mod hm h.d2, cell_mod hm h.d3, cell_mod hm h.d4⟩

theorem PairsAt.nine {py g i k n c : Nat} {s t : Th} {w : World} (h : PairsAt py g i k n c s t w) :
    w.cell? ⟨py, 1, none⟩ = some (.slice (some ⟨g, 0, none⟩) n c) ∧ w.cell? ⟨g, i * 5 + 1, none⟩ = some (.int .i64 s.x0) ∧ w.cell? ⟨g, i * 5 + 2, none⟩ = some (.int .i64 s.y0) ∧ w.cell? ⟨g, i * 5 + 3, none⟩ = some (.int .i64 s.x1) ∧ w.cell? ⟨g, i * 5 + 4, none⟩ = some (.int .i64 s.y1) ∧
      w.cell? ⟨g, k * 5 + 1, none⟩ = some (.int .i64 t.x0) ∧ w.cell? ⟨g, k * 5 + 2, none⟩ = some (.int .i64 t.y0) ∧ w.cell? ⟨g, k * 5 + 3, none⟩ = some (.int .i64 t.x1) ∧ w.cell? ⟨g, k * 5 + 4, none⟩ = some (.int .i64 t.y1) :=
  ⟨h.ct, h.a1, h.a2, h.a3, h.a4, h.d1, h.d2, h.d3, h.d4⟩

def PairsPost (n : Nat) (w : World) (e : Ending) (w' : World) : Prop := e = .returned (.int .i64 n) ∧ Below w.heap.size w w'

theorem refPairs_nil (py : Nat) (fan last : Int) (lv : Value) (w : World) (ht : w.heap[py]? = some (T58 fan (.slice none 0 0) lv last)) :
    Calls Tryz.prog 91 #[.pointer (some ⟨py, 0, none⟩)] w (PairsPost 0 w) := by
  have h1 := (cell_T58 ht).2.1
  clear ht
  go_enter Tryz.func91, Tryz.ntmps91
  go_wp2
  go_loop [3, 4] (fun n i => n = .int .i64 0 ∧ i = .int .i64 0) (fun _ _ => 0)
  case atStart => exact ⟨rfl, rfl⟩
  case round =>
    obtain ⟨rfl, rfl⟩ := hrel
    go_wp2
    go_ret
    exact ⟨rfl, Below.refl _ _⟩

set_option maxRecDepth 100000 in
set_option maxHeartbeats 1000000 in
theorem refPairs_some (py g c : Nat) (fan last : Int) (lv : Value) (L : List Th) (w : World) (ht : w.heap[py]? = some (T58 fan (.slice (some ⟨g, 0, none⟩) L.length c) lv last))
    (ho : w.ownsRow 0 193 5 (.slice (some ⟨g, 0, none⟩) L.length c) L.length (flat L)) (hL : L.length ≤ 400) :
    Calls Tryz.prog 91 #[.pointer (some ⟨py, 0, none⟩)] w (PairsPost (pairsF L) w) := by
  have HT := hideIt ht
  have HO := hideIt ho
  clear ht ho
  go_enter Tryz.func91, Tryz.ntmps91
  go_wp2_with fail
  go_loopw [3, 4] (fun n i wr => ∃ k : Nat, k ≤ L.length ∧ i = .int .i64 k ∧ n = .int .i64 (pairsTo L k) ∧ Below w.heap.size w wr) (fun _ i _ => L.length - (intOf i).toNat)
  case atStart => exact ⟨0, Nat.zero_le _, rfl, rfl, Below.refl _ _⟩
  case round =>
    obtain ⟨a, ha, rfl, rfl, hB⟩ := hrel
    have hT := ((Mod.of_below hB).block py (lt_of_block HT.out) (by simp)).trans HT.out
    have ct := (cell_T58 hT).2.1
    have hpl := pairsTo_le L a (by omega)
    by_cases hlt : a < L.length
    · have hnx : pairsTo L (a + 1) = pairsTo L a + meetN (L.take a) L[a] := by simp [pairsTo, hlt]
      have HNX := hideIt hnx
      have hga : L[a]? = some L[a] := List.getElem?_eq_getElem hlt
      have HGA := hideIt hga
      clear hnx hga
      generalize L[a] = s at *
      generalize pairsTo L a = P at *
      have hia : (a : Int) < (L.length : Int) := by omega
      go_wp2_with fail
      clear ct hT
      go_loopw [3, 5] (fun n k wr => ∃ j : Nat, j ≤ a ∧ k = .int .i64 j ∧ n = .int .i64 ((P + meetN (L.take j) s : Nat) : Int) ∧ Below w.heap.size w wr) (fun _ k _ => a - (intOf k).toNat)
      case atStart => exact ⟨0, Nat.zero_le _, rfl, by simp [meetN], hB⟩
      case round =>
        clear hB
        obtain ⟨j, hj, rfl, rfl, hB⟩ := hrel
        have hml := meetN_le (L.take j) s
        have hml2 : (L.take j).length ≤ j := List.length_take_le _ _
        by_cases hlt2 : j < a
        · have hjl : j < L.length := by omega
          have hm := Mod.of_below hB
          have hT := (hm.block py (lt_of_block HT.out) (by simp)).trans HT.out
          have hO := owns_kept HO.out hm (by simp)
          obtain ⟨_, a1, a2, a3, a4⟩ := thing_cells hO HGA.out
          obtain ⟨_, d1, d2, d3, d4⟩ := thing_cells hO (List.getElem?_eq_getElem hjl)
          have hsn := meetN_snoc (L.take j) L[j] s
          rw [← List.take_succ_eq_append_getElem hjl] at hsn
          generalize L[j] = t at *
          have HF := hideIt (⟨(cell_T58 hT).2.1, a1, a2, a3, a4, d1, d2, d3, d4⟩ : PairsAt py g a j L.length c s t wr)
          have HSN := hideIt hsn
          clear a1 a2 a3 a4 d1 d2 d3 d4 hsn hT hO hm
          generalize meetN (L.take j) s = M at *
          have hji : (j : Int) < (L.length : Int) := by omega
          go_wp2_with fail
          go_region_held (fun w' => w'.cell? ⟨py, 1, none⟩ = some (.slice (some ⟨g, 0, none⟩) L.length c) ∧ w'.cell? ⟨g, a * 5 + 1, none⟩ = some (.int .i64 s.x0) ∧ w'.cell? ⟨g, a * 5 + 2, none⟩ = some (.int .i64 s.y0) ∧ w'.cell? ⟨g, a * 5 + 3, none⟩ = some (.int .i64 s.x1) ∧ w'.cell? ⟨g, a * 5 + 4, none⟩ = some (.int .i64 s.y1) ∧
              w'.cell? ⟨g, j * 5 + 1, none⟩ = some (.int .i64 t.x0) ∧ w'.cell? ⟨g, j * 5 + 2, none⟩ = some (.int .i64 t.y0) ∧ w'.cell? ⟨g, j * 5 + 3, none⟩ = some (.int .i64 t.x1) ∧ w'.cell? ⟨g, j * 5 + 4, none⟩ = some (.int .i64 t.y1))
            ((first | exact HF.out.nine | exact (HF.out.kept (((Mod.alloc _ _).trans (Mod.alloc _ _)).trans (Mod.drew _))).nine))
            ((go_at_call 124; refine (Common_any _ _ _ _ _ _ _ _ _).mono ?_; rintro e w' ⟨rfl, rfl⟩))
          rename_i hheld
          clear hheld
          have hmw : Mod [] wr (((wr.alloc (B4 s.x0 s.y0 s.x1 s.y1)).alloc (B4 t.x0 t.y0 t.x1 t.y1)).drew) := ((Mod.alloc _ _).trans (Mod.alloc _ _)).trans (Mod.drew _)
          have hB2 := hB.trans (hmw.below_of hB.size (by simp))
          generalize hcm : commonB s.x0 s.y0 s.x1 s.y1 t.x0 t.y0 t.x1 t.y1 = cm at *
          have hcm' : commonT s t = cm := hcm
          rw [hcm'] at HSN
          clear hcm hcm' HF hmw hB
          generalize ((wr.alloc (B4 s.x0 s.y0 s.x1 s.y1)).alloc (B4 t.x0 t.y0 t.x1 t.y1)).drew = w2 at *
          cases cm with
          | true =>
            go_wp2_with fail
            go_roundw
            case rel => exact ⟨j + 1, by omega, by go_num, by rw [HSN.out]; simp; go_num, hB2⟩
            case measure => simp [intOf]; omega
          | false =>
            go_wp2_with fail
            go_roundw
            case rel => exact ⟨j + 1, by omega, by go_num, by rw [HSN.out]; simp, hB2⟩
            case measure => simp [intOf]; omega
        · have hja : j = a := by omega
          subst hja
          go_wp2_with fail
          go_roundw
          case rel => exact ⟨j + 1, by omega, by go_num, by rw [HNX.out], hB⟩
          case measure => simp [intOf]; omega
    · have hkl : a = L.length := by omega
      subst hkl
      go_wp2_with fail
      go_ret
      exact ⟨rfl, hB⟩

theorem refPairs_any {w : World} {py : Nat} {fan : Int} {L : List Th} {lg : List Int} {F : List Nat} (h : RefRep w py fan L lg F) (hL : L.length ≤ 400) : Calls Tryz.prog 91 #[.pointer (some ⟨py, 0, none⟩)] w (PairsPost (pairsF L) w) := by
  obtain ⟨tv, gl, cl, last, nl, h1, h2, h3, h4, h5, h6, rfl⟩ := h
  have h3' := h3
  rcases h3.2 with ⟨rfl, h0⟩ | ⟨g, c, cur, rfl, _⟩
  · obtain rfl : L = [] := List.eq_nil_of_length_eq_zero h0
    exact refPairs_nil py fan last _ w h1
  · exact refPairs_some py g c fan last _ L w h1 h3' hL

end Go.Proofs.YthimaoipogocfaaGreat.Rf

namespace Go.Proofs.YthimaoipogocfaaGreat.Rf
open Go.RowKit Go.Maps
attribute [local go_sem] run_store_f32 run_neg_inf

/-- Least: the greater one of 2 and 2 * fan / 5 -/
def leastOf (fan : Nat) : Nat := if 2 * fan / 5 < 2 then 2 else 2 * fan / 5

/-- a height that the document allows -/
def heightOk (fan n h : Nat) : Prop := 1 ≤ h ∧ n ≤ fan ^ h ∧ (h = 1 ∨ 2 * leastOf fan ^ (h - 1) ≤ n)

theorem least_ge (fan : Nat) : 2 ≤ leastOf fan := by unfold leastOf; split <;> omega
theorem least_le (fan : Nat) (h : fan ≤ 16) : leastOf fan ≤ 6 := by unfold leastOf; split <;> omega

theorem low_mono (m : Nat) (hm : 2 ≤ m) {a b : Nat} (h : a ≤ b) : 2 * m ^ a ≤ 2 * m ^ b := Nat.mul_le_mul_left 2 (Nat.pow_le_pow_right (by omega) h)

theorem height_le {fan n h : Nat} (hn : n ≤ 400) (hh : heightOk fan n h) : h ≤ 8 := by
  obtain ⟨h1, _, h3⟩ := hh
  rcases h3 with h3 | h3
  · omega
  · have h4 : 2 ^ (h - 1) ≤ leastOf fan ^ (h - 1) := Nat.pow_le_pow_left (least_ge fan) _
    by_cases h9 : h ≤ 8
    · exact h9
    · have : 2 ^ 8 ≤ 2 ^ (h - 1) := Nat.pow_le_pow_right (by omega) (by omega)
      omega

set_option maxRecDepth 100000 in
set_option maxHeartbeats 1000000 in
theorem Allows_any (py : Nat) (fan n h : Nat) (ta : Option Addr) (tc : Nat) (last : Int) (lv : Value) (w : World) (ht : w.heap[py]? = some (T58 fan (.slice ta n tc) lv last)) (hf : 4 ≤ fan ∧ fan ≤ 16) (hn : n ≤ 400) (hh : heightOk fan n h) :
    Calls Tryz.prog 94 #[.pointer (some ⟨py, 0, none⟩), .int .i64 h] w fun e w' => e = .returned (.bool true) ∧ w = w' := by
  have c0 := (cell_T58 ht).1
  have c1 := (cell_T58 ht).2.1
  have h8 := height_le hn hh
  obtain ⟨h1, h2, h3⟩ := hh
  obtain ⟨f4, f16⟩ := hf
  have l2 := least_ge fan
  have l6 := least_le fan f16
  have hld : leastOf fan = if 2 * fan / 5 < 2 then 2 else 2 * fan / 5 := rfl
  have hup : ∀ k, k ≤ 8 → fan ^ k ≤ 4294967296 := fun k hk => by
    have e1 : fan ^ k ≤ 16 ^ k := Nat.pow_le_pow_left f16 k
    have e2 : 16 ^ k ≤ 16 ^ 8 := Nat.pow_le_pow_right (by omega) hk
    omega
  have HUP := hideIt hup
  have H3 := hideIt h3
  have H2 := hideIt h2
  have HLD := hideIt hld
  clear hup h3 h2 hld ht
  have hdech : decide ((h : Int) < 1) = false := by simp; omega
  by_cases hsm : 2 * fan / 5 < 2
  · have hl : leastOf fan = 2 := by rw [HLD.out, if_pos hsm]
    have hdec : decide (2 * (fan : Int) / 5 < 2) = true := by simp; omega
    obtain ⟨m, hm⟩ : ∃ m : Nat, m = 2 := ⟨2, rfl⟩
    have hmi : (2 : Int) = (m : Int) := by omega
    have hm2 : 2 ≤ m := by omega
    have hm6 : m ≤ 6 := by omega
    have hlm : leastOf fan = m := by omega
    rw [hlm] at H3
    have HMI := hideIt hmi
    clear hl hm hmi hlm HLD l2 l6
    go_enter Tryz.func94, Tryz.ntmps94
    go_wp2_with fail
    go_loop [7, 8, 9] (fun lo hi i => ∃ k : Nat, 1 ≤ k ∧ k ≤ h ∧ i = .int .i64 k ∧ lo = .int .i64 ((2 * m ^ (k - 1) : Nat) : Int) ∧ hi = .int .i64 ((fan ^ k : Nat) : Int)) (fun _ _ i => h - (intOf i).toNat)
    case atStart => exact ⟨1, by omega, h1, rfl, by simp, by simp⟩
    case round =>
      obtain ⟨k, hk1, hk2, rfl, rfl, rfl⟩ := hrel
      have hY := HUP.out k (by omega)
      by_cases hlt : k < h
      · have hX : 2 * m ^ (k - 1) ≤ n := by
          rcases H3.out with e | e
          · omega
          · exact Nat.le_trans (low_mono m hm2 (by omega)) e
        have hX1 : 2 * m ^ (k + 1 - 1) = 2 * m ^ (k - 1) * m := by
          rw [show k + 1 - 1 = (k - 1) + 1 by omega, Nat.pow_succ, Nat.mul_assoc]
        have hY1 : fan ^ (k + 1) = fan ^ k * fan := Nat.pow_succ _ _
        have HX1 := hideIt hX1
        have HY1 := hideIt hY1
        clear hX1 hY1
        generalize 2 * m ^ (k - 1) = X at *
        generalize fan ^ k = Y at *
        have e1 : 0 ≤ (X : Int) * (2 : Int) ∧ (X : Int) * (2 : Int) ≤ 4000 := by
          rw [HMI.out]
          have := Nat.mul_le_mul (show X ≤ 400 by omega) hm6
          refine ⟨Int.mul_nonneg (by omega) (by omega), ?_⟩
          have h' : ((X * m : Nat) : Int) ≤ 2400 := by omega
          rw [Int.natCast_mul] at h'
          omega
        have e2 : 0 ≤ (Y : Int) * (fan : Int) ∧ (Y : Int) * (fan : Int) ≤ 68719476736 := by
          have := Nat.mul_le_mul hY f16
          refine ⟨Int.mul_nonneg (by omega) (by omega), ?_⟩
          have h' : ((Y * fan : Nat) : Int) ≤ 68719476736 := by omega
          rw [Int.natCast_mul] at h'
          omega
        obtain ⟨e10, e11⟩ := e1
        obtain ⟨e20, e21⟩ := e2
        have hXi : (X : Int) ≤ (n : Int) := by omega
        go_wp2
        go_round
        case rel => exact ⟨k + 1, by omega, by omega, by go_num, by rw [HX1.out, Int.natCast_mul, ← HMI.out], by rw [HY1.out, Int.natCast_mul]⟩
        case measure => simp [intOf]; omega
      · have hkh : k = h := by omega
        subst hkh
        have hY2 := H2.out
        by_cases h11 : k = 1
        · subst h11
          have hb1 : (((1 : Nat) : Int) == 1) = true := rfl
          generalize fan ^ 1 = Y at *
          have hYi : (n : Int) ≤ (Y : Int) := by omega
          go_wp2
          go_ret
          exact ⟨rfl, rfl⟩
        · have hX : 2 * m ^ (k - 1) ≤ n := by
            rcases H3.out with e | e
            · omega
            · exact e
          have hb1 : ((k : Int) == 1) = false := beq_eq_false_iff_ne.2 (by omega)
          generalize 2 * m ^ (k - 1) = X at *
          generalize fan ^ k = Y at *
          have hYi : (n : Int) ≤ (Y : Int) := by omega
          have hXi : (X : Int) ≤ (n : Int) := by omega
          go_wp2
          go_ret
          exact ⟨rfl, rfl⟩
  · have hl : leastOf fan = 2 * fan / 5 := by rw [HLD.out, if_neg hsm]
    have hdec : decide (2 * (fan : Int) / 5 < 2) = false := by simp; omega
    obtain ⟨m, hm⟩ : ∃ m : Nat, m = 2 * fan / 5 := ⟨_, rfl⟩
    have hmi : 2 * (fan : Int) / 5 = (m : Int) := by omega
    have hm2 : 2 ≤ m := by omega
    have hm6 : m ≤ 6 := by omega
    have hlm : leastOf fan = m := by omega
    rw [hlm] at H3
    have HMI := hideIt hmi
    clear hl hm hmi hlm HLD l2 l6
    go_enter Tryz.func94, Tryz.ntmps94
    go_wp2_with fail
    go_loop [7, 8, 9] (fun lo hi i => ∃ k : Nat, 1 ≤ k ∧ k ≤ h ∧ i = .int .i64 k ∧ lo = .int .i64 ((2 * m ^ (k - 1) : Nat) : Int) ∧ hi = .int .i64 ((fan ^ k : Nat) : Int)) (fun _ _ i => h - (intOf i).toNat)
    case atStart => exact ⟨1, by omega, h1, rfl, by simp, by simp⟩
    case round =>
      obtain ⟨k, hk1, hk2, rfl, rfl, rfl⟩ := hrel
      have hY := HUP.out k (by omega)
      by_cases hlt : k < h
      · have hX : 2 * m ^ (k - 1) ≤ n := by
          rcases H3.out with e | e
          · omega
          · exact Nat.le_trans (low_mono m hm2 (by omega)) e
        have hX1 : 2 * m ^ (k + 1 - 1) = 2 * m ^ (k - 1) * m := by
          rw [show k + 1 - 1 = (k - 1) + 1 by omega, Nat.pow_succ, Nat.mul_assoc]
        have hY1 : fan ^ (k + 1) = fan ^ k * fan := Nat.pow_succ _ _
        have HX1 := hideIt hX1
        have HY1 := hideIt hY1
        clear hX1 hY1
        generalize 2 * m ^ (k - 1) = X at *
        generalize fan ^ k = Y at *
        have e1 : 0 ≤ (X : Int) * (2 * (fan : Int) / 5) ∧ (X : Int) * (2 * (fan : Int) / 5) ≤ 4000 := by
          rw [HMI.out]
          have := Nat.mul_le_mul (show X ≤ 400 by omega) hm6
          refine ⟨Int.mul_nonneg (by omega) (by omega), ?_⟩
          have h' : ((X * m : Nat) : Int) ≤ 2400 := by omega
          rw [Int.natCast_mul] at h'
          omega
        have e2 : 0 ≤ (Y : Int) * (fan : Int) ∧ (Y : Int) * (fan : Int) ≤ 68719476736 := by
          have := Nat.mul_le_mul hY f16
          refine ⟨Int.mul_nonneg (by omega) (by omega), ?_⟩
          have h' : ((Y * fan : Nat) : Int) ≤ 68719476736 := by omega
          rw [Int.natCast_mul] at h'
          omega
        obtain ⟨e10, e11⟩ := e1
        obtain ⟨e20, e21⟩ := e2
        have hXi : (X : Int) ≤ (n : Int) := by omega
        go_wp2
        go_round
        case rel => exact ⟨k + 1, by omega, by omega, by go_num, by rw [HX1.out, Int.natCast_mul, ← HMI.out], by rw [HY1.out, Int.natCast_mul]⟩
        case measure => simp [intOf]; omega
      · have hkh : k = h := by omega
        subst hkh
        have hY2 := H2.out
        by_cases h11 : k = 1
        · subst h11
          have hb1 : (((1 : Nat) : Int) == 1) = true := rfl
          generalize fan ^ 1 = Y at *
          have hYi : (n : Int) ≤ (Y : Int) := by omega
          go_wp2
          go_ret
          exact ⟨rfl, rfl⟩
        · have hX : 2 * m ^ (k - 1) ≤ n := by
            rcases H3.out with e | e
            · omega
            · exact e
          have hb1 : ((k : Int) == 1) = false := beq_eq_false_iff_ne.2 (by omega)
          generalize 2 * m ^ (k - 1) = X at *
          generalize fan ^ k = Y at *
          have hYi : (n : Int) ≤ (Y : Int) := by omega
          have hXi : (X : Int) ≤ (n : Int) := by omega
          go_wp2
          go_ret
          exact ⟨rfl, rfl⟩

end Go.Proofs.YthimaoipogocfaaGreat.Rf

