import Derived.Test.YthimaoipogocfaaGreatM01
import Derived.Test.YthimaoipogocfaaGreatJ20
import Derived.Test.YthimaoipogocfaaGreatJ07
import Derived.Test.YthimaoipogocfaaGreatJ03
namespace Go.Proofs.YthimaoipogocfaaGreat
open Go.RowKit Go.Maps
attribute [local go_sem] run_store_f32 run_neg_inf

theorem viewer_pair (a : Tg) (ab pb n0 : Nat) : Viewer 70 #[.pointer (some ⟨ab, 0, none⟩), .pointer (some ⟨pb, 0, none⟩)] (PairS a ab pb n0) where
  enters := enters_of Tryz.func70 (by kernel_rfl) rfl
  sees := fun acc G t w hac hS ht _ => by
    obtain rfl := hS.1
    exact pairs1_any hac hS ht
  keep := fun acc G w w' hS hm => by
    obtain ⟨h0, h1, h2, h3, h4, h5, h6⟩ := hS
    exact ⟨h0, (hm.block pb (lt_of_block h1) (by simp)).trans h1, (hm.block ab (lt_of_block h2) (by simp)).trans h2, h3.kept hm (by simp), h4, h5, h6⟩
  lt := fun acc G w hS x hx => by
    obtain ⟨rfl, h1, _⟩ := hS
    simp only [List.mem_singleton] at hx
    subst hx
    exact lt_of_block h1

/-- what is shown of a thing's own box holds every thing that meets it -/
theorem pairs_shown {w : World} {fan lo h : Nat} {k : Kd} {ts : List Tg} (hn : NodeAt w fan lo h k) (hp : k.ts.Perm ts) {a : Tg} (ha : RectOk a.x0 a.y0 a.x1 a.y1) : ((shown a.bx k.ts).filter (pairB a)).length = pairsOf ts a := by
  have e : (shown a.bx k.ts).filter (pairB a) = k.ts.filter (pairB a) := by
    unfold shown
    rw [List.filter_filter]
    refine List.filter_congr (fun t ht => ?_)
    cases hft : pairB a t with
    | false => rfl
    | true =>
      have hrt := (hn.thing t ht).1.rect
      obtain ⟨m1, m2, m3, m4⟩ := meetI_iff.1 (pairB_iff.1 hft).2
      have : t.bx.meets a.bx = true := Bx.of_meets hrt ha m2 m1 m4 m3
      rw [this]
      rfl
  rw [e]
  exact (hp.filter _).length_eq

def PairsPost (n : Nat) (w : World) (e : Ending) (w' : World) : Prop := e = .returned (.int .i64 (n : Int)) ∧ Mod [] w w'

/-- the loop over the things -/
structure PairsAt (w : World) (ts : List Tg) (es : Array MapEntry) (clock bm : Nat) (seen : Array Nat) (wr : World) : Prop where
  num : wr.heap[w.heap.size]? = some (numO ((cntZ (pairsOf ts) (es.toList.zip ts) seen : Nat) : Int))
  iter : wr.heap[w.heap.size + 1]? = some (.mapIter (some bm) clock seen clock)
  mod : Mod [] w wr

theorem PairsAt.left {w : World} {ts : List Tg} {es : Array MapEntry} {clock bm : Nat} {seen : Array Nat} {wr : World} (h : PairsAt w ts es clock bm seen wr) (hb : wr.heap[bm]? = some (.map es clock)) : wr.rangeLeft bm (w.heap.size + 1) = (leftOf es seen).size := by
  simp only [World.rangeLeft, hb, h.iter]

/-- one thing was looked at -/
theorem pairsStep {w : World} {p fan : Nat} {ts : List Tg} {bm : Nat} {es : Array MapEntry} {clock hh : Nat} {k : Kd} (ht : TreeAt w p fan ts bm es clock hh k) (hn : ts.length ≤ 1000) {seen : Array Nat} {e : MapEntry} (he : e ∈ (leftOf es seen).toList) :
    ∃ t ∈ ts, e.key = .int .i64 t.id ∧ e.val = .pointer (some ⟨t.blk, 0, none⟩) ∧ cntZ (pairsOf ts) (es.toList.zip ts) (seen.push e.born) = cntZ (pairsOf ts) (es.toList.zip ts) seen + pairsOf ts t ∧ cntZ (pairsOf ts) (es.toList.zip ts) seen ≤ 1000000 := by
  obtain ⟨hm, hs⟩ := mem_left he
  obtain ⟨z1, z2, z3⟩ := ht.ents.1.zip
  have hm2 : e ∈ (es.toList.zip ts).map (·.1) := by rw [z1]; exact hm
  obtain ⟨⟨e', t⟩, hp, rfl⟩ := List.mem_map.1 hm2
  obtain ⟨k1, k2⟩ := z3 _ hp
  have htm : t ∈ ts := by rw [← z2]; exact List.mem_map.2 ⟨_, hp, rfl⟩
  have hnd : ((es.toList.zip ts).map (·.1.born)).Nodup := by
    have : (es.toList.zip ts).map (·.1.born) = es.toList.map (·.born) := by
      conv => rhs; rw [← z1]
      rw [List.map_map]
      rfl
    rw [this]
    exact ht.ents.2.2
  refine ⟨t, htm, k1, k2, cntZ_step _ hnd hp hs, ?_⟩
  have h1 := cntZ_le (pairsOf ts) (es.toList.zip ts) seen
  have h2 : (es.toList.zip ts).map (fun p => pairsOf ts p.2) = ts.map (pairsOf ts) := by
    have e := congrArg (List.map (pairsOf ts)) z2
    rw [List.map_map] at e
    exact e
  rw [h2] at h1
  have h3 := pairsG_le ts
  unfold pairsG at h3
  have h4 : ts.length * ts.length ≤ 1000 * 1000 := Nat.mul_le_mul hn hn
  omega

theorem pairsEnd {w : World} {p fan : Nat} {ts : List Tg} {bm : Nat} {es : Array MapEntry} {clock hh : Nat} {k : Kd} (ht : TreeAt w p fan ts bm es clock hh k) {seen : Array Nat} (h0 : (leftOf es seen).size = 0) : cntZ (pairsOf ts) (es.toList.zip ts) seen = pairsG ts := by
  obtain ⟨z1, z2, z3⟩ := ht.ents.1.zip
  rw [cntZ_all _ (fun p hp => all_seen es seen h0 p.1 (by rw [← z1]; exact List.mem_map.2 ⟨p, hp, rfl⟩))]
  have e := congrArg (List.map (pairsOf ts)) z2
  rw [List.map_map] at e
  unfold pairsG
  rw [← e]
  rfl

set_option maxRecDepth 100000 in
set_option maxHeartbeats 1000000 in
theorem bPairs_any {w : World} {p fan : Nat} {ts : List Tg} {F : List Nat} (h : TreeRep w p fan ts F) (hn : ts.length ≤ 1000) :
    Calls Tryz.prog 43 #[.pointer (some ⟨p, 0, none⟩)] w (PairsPost (pairsG ts) w) := by
  obtain ⟨bm, es, clock, hh, k, ht, rfl⟩ := h
  have HT := hideIt ht
  have hm0 := Mod.alloc (F := []) w (numO 0)
  have hmI := Mod.alloc (F := []) (w.alloc (numO 0)) (.mapIter (some bm) clock #[] clock)
  have ht0 := ht.kept hm0 (by simp)
  obtain ⟨c0, c1, c2⟩ := cell_trO ht0.here
  have hmap := ht0.map
  have HMAP := hideIt hmap
  have HS := hideIt (show PairsAt w ts es clock bm #[] ((w.alloc (numO 0)).alloc (.mapIter (some bm) clock #[] clock)) from ⟨by
    rw [cntZ_nil]
    exact (hmI.block w.heap.size (by simp) (by simp)).trans (heap_alloc_new w _), by
    have := heap_alloc_new (w.alloc (numO 0)) (.mapIter (some bm) clock #[] clock)
    simpa using this, hm0.trans hmI⟩)
  clear ht hmap hm0 hmI ht0
  go_enter Tryz.func43, Tryz.ntmps43
  go_wp2_with (first | (at_range; refine wpList_rangeT _ rfl _ 116 _ _ rfl Tryz.underlying116 bm es clock rfl HMAP.out ?_) | go_in)
  go_frame
  have hsz : (w.alloc (numO 0)).heap.size = w.heap.size + 1 := by simp
  rw [hsz]
  clear hsz c0 c1 c2 HMAP
  go_loopw [] (fun wr => ∃ seen, Hid (PairsAt w ts es clock bm seen wr)) (fun wr => wr.rangeLeft bm (w.heap.size + 1))
  case atStart => exact ⟨#[], HS⟩
  case round =>
    obtain ⟨seen, hR⟩ := hrel
    have htr := HT.out.kept hR.out.mod (by simp)
    have hmapr := htr.map
    have hit := hR.out.iter
    have hB := HT.out.ents.2
    have HTR := hideIt htr
    have HIT := hideIt (And.intro hit (And.intro hmapr hB))
    clear htr hmapr hit hB
    go_wp2_with (first | (at_next; refine wpList_nextT _ rfl _ rfl (w.heap.size + 1) bm clock seen es rfl HIT.out.1 HIT.out.2.1 HIT.out.2.2 ?_ ?_) | go_in)
    · intro h0
      have hnum := hR.out.num
      rw [pairsEnd HT.out (by rw [h0]; rfl)] at hnum
      have cn := cell_numO hnum
      have HM := hideIt hR.out.mod
      clear hnum HIT HTR hR h0
      go_wp2
      go_ret
      exact ⟨rfl, HM.out⟩
    · intro e w1 he hm1 hr1 hen
      have he' : e ∈ (leftOf es seen).toList := by simpa using he
      obtain ⟨t, htm, hk, hv, hcnt, hle⟩ := pairsStep HT.out hn he'
      rw [hk, hv] at hen
      rw [hk, hv]
      have htk : t ∈ k.ts := HT.out.perm.mem_iff.2 htm
      have hmw1 : Mod [] w w1 := hR.out.mod.then hm1 (fun x hx => .inr (by simp at hx; omega))
      have hnum1 := (hm1.block w.heap.size (lt_of_block hR.out.num) (by simp)).trans hR.out.num
      have HLEFT := hideIt (And.intro (left_shrinks es seen e he') (hR.out.left HIT.out.2.1))
      have hlast := HT.out.node.thing t htk
      have hbl : t.blk < w.heap.size := lt_of_block hlast.1.here
      have hw1s : w.heap.size + 1 < w1.heap.size := lt_of_block hr1
      -- the block of a, with the thing in it
      obtain ⟨W0, hW0⟩ : ∃ W0, W0 = (w1.alloc (.cells #[.pointer none] 113)).setCell ⟨w1.heap.size, 0, none⟩ (.pointer (some ⟨t.blk, 0, none⟩)) := ⟨_, rfl⟩
      have hmW0 : Mod [] w1 W0 := by
        rw [hW0]
        exact (Mod.alloc w1 _).then (Mod.setCell (F := [w1.heap.size]) _ _ _ (by simp)) (fun x hx => .inr (by simp at hx; omega))
      have hab : W0.heap[w1.heap.size]? = some (ptO t.blk) := by
        rw [hW0, block_setCell (heap_alloc_new w1 _)]
        rfl
      have hnumW := (hmW0.block w.heap.size (lt_of_block hnum1) (by simp)).trans hnum1
      have hitW := (hmW0.block (w.heap.size + 1) (by omega) (by simp)).trans hr1
      have hmwW := hmw1.trans hmW0
      have htW := HT.out.kept hmwW (by simp)
      have hTgW := hlast.1.kept hmwW (by simp)
      have hshown := pairs_shown HT.out.node HT.out.perm hlast.1.rect
      have hnumS := (Bx.of_ok hlast.1.rect).num
      have HVIS := hideIt (show ∀ W, Mod [] W0 W → Calls Tryz.prog 68 #[.pointer (some ⟨k.p, 0, none⟩), bxV t.bx, .func (.func 70) #[] #[.pointer (some ⟨w1.heap.size, 0, none⟩), .pointer (some ⟨w.heap.size, 0, none⟩)]] W (VisPost (PairS t w1.heap.size w.heap.size (cntZ (pairsOf ts) (es.toList.zip ts) seen)) (shown t.bx k.ts) [w.heap.size] W) from fun W hm => by
        have := visit_any (viewer_pair t w1.heap.size w.heap.size (cntZ (pairsOf ts) (es.toList.zip ts) seen)) (b := t.bx) hnumS hh W k [] [w.heap.size] (htW.node.kept hm (by simp)) ⟨rfl, by simpa using (hm.block _ (lt_of_block hnumW) (by simp)).trans hnumW, (hm.block _ (lt_of_block hab) (by simp)).trans hab, hTgW.kept hm (by simp), by omega, by omega, hle⟩ (fun x hx => by
          have := HT.out.node.lt x hx
          simp
          omega) (by
          have := HT.out.perm.length_eq
          simp only [List.length_nil]
          omega)
        simpa using this)
      have HFIN := hideIt (show ∀ W w3 G', Mod [] W0 W → PairS t w1.heap.size w.heap.size (cntZ (pairsOf ts) (es.toList.zip ts) seen) (shown t.bx k.ts) G' w3 → Mod [w.heap.size] W w3 → PairsAt w ts es clock bm (seen.push e.born) w3 ∧ w3.heap[bm]? = some (.map es clock) from fun W w3 G' hm hs hm3 => by
        obtain ⟨_, p1, _⟩ := hs
        have hmod3 : Mod [] w w3 := (hmwW.trans hm).then hm3 (fun x hx => .inr (by simp at hx; omega))
        refine ⟨⟨?_, ?_, hmod3⟩, (HT.out.kept hmod3 (by simp)).map⟩
        · rw [hcnt, ← hshown]
          exact p1
        · exact ((hm3.block _ (Nat.lt_of_lt_of_le (lt_of_block hitW) hm.size) (by simp)).trans (hm.block _ (lt_of_block hitW) (by simp))).trans hitW)
      obtain ⟨_, ct, _⟩ := cell_trO htW.here
      obtain ⟨t0, t1, t2, t3⟩ := hTgW.cells
      have ca := cell_ptO hab
      have HKEEP := hideIt (show ∀ w', Mod [w.heap.size] W0 w' → Mod [w.heap.size] W0 w' ∧ w'.cell? ⟨p, 1, none⟩ = some (.pointer (some ⟨k.p, 0, none⟩)) ∧ w'.cell? ⟨w1.heap.size, 0, none⟩ = some (.pointer (some ⟨t.blk, 0, none⟩)) ∧ w'.cell? ⟨t.blk, 0, none⟩ = some (.float .f32 t.bx.x0) ∧ w'.cell? ⟨t.blk, 1, none⟩ = some (.float .f32 t.bx.y0) ∧ w'.cell? ⟨t.blk, 2, none⟩ = some (.float .f32 t.bx.x1) ∧ w'.cell? ⟨t.blk, 3, none⟩ = some (.float .f32 t.bx.y1) from fun w' hm => by
        have hp : p ∉ [w.heap.size] := by
          have := lt_of_block HT.out.here
          simp
          omega
        have hb : t.blk ∉ [w.heap.size] := by simp; omega
        have hwn : w1.heap.size ∉ [w.heap.size] := by simp; omega
        exact ⟨hm, cell_modG hm hp ct, cell_modG hm hwn ca, cell_modG hm hb t0, cell_modG hm hb t1, cell_modG hm hb t2, cell_modG hm hb t3⟩)
      have eg : ∀ args w, (callFunc 70 args).run Tryz.prog w = .ok (.enter 70 args) w := (viewer_pair t 0 0 0).enters
      clear hk hv hcnt he he' htm htk hmw1 hnum1 hr1 hm1 hR HIT HTR hle hlast hmW0 hab hnumW hitW hmwW htW hTgW hshown hnumS
      have hz0 : (w1.alloc (.cells #[.pointer none] 113)).cell? ⟨w1.heap.size, 0, none⟩ = some (.pointer none) := by rw [cell_of_block (heap_alloc_new w1 _)]; rfl
      have hfz := frozen_of_block (heap_alloc_new w1 (.cells #[.pointer none] 113)) 0
      have hW0' := hW0.symm
      clear hW0
      go_wp2_with fail
      clear hz0 hfz hW0' hen ct t0 t1 t2 t3 ca
      go_region_held (fun w' => Mod [w.heap.size] W0 w' ∧ w'.cell? ⟨p, 1, none⟩ = some (.pointer (some ⟨k.p, 0, none⟩)) ∧ w'.cell? ⟨w1.heap.size, 0, none⟩ = some (.pointer (some ⟨t.blk, 0, none⟩)) ∧ w'.cell? ⟨t.blk, 0, none⟩ = some (.float .f32 t.bx.x0) ∧ w'.cell? ⟨t.blk, 1, none⟩ = some (.float .f32 t.bx.y0) ∧ w'.cell? ⟨t.blk, 2, none⟩ = some (.float .f32 t.bx.x1) ∧ w'.cell? ⟨t.blk, 3, none⟩ = some (.float .f32 t.bx.y1))
        ((first
          | exact HKEEP.out _ (Mod.drew _)
          | exact HKEEP.out _ (by simp only [*])
          | exact HKEEP.out _ (Mod.trans (by simp only [*]) hm2.nil)
          | exact HKEEP.out _ (Mod.trans (by simp only [*]) s3)))
        ((first
          | (go_at_call 69; refine (edges_any t.bx _).mono ?_; rintro e2 w2 ⟨rfl, hm2⟩)
          | (go_at_call 68; refine (HVIS.out _ ((Mod.drew _).trans hm2)).mono ?_; rintro e2 w3 ⟨rfl, G', s1, s2, s3⟩)))
      all_goals
        obtain ⟨hP, hM⟩ := HFIN.out _ _ _ ((Mod.drew _).trans hm2) s1 s3
        have HP := hideIt hP
        have HL := hideIt (show w3.rangeLeft bm (w.heap.size + 1) < wr.rangeLeft bm (w.heap.size + 1) from by
          rw [hP.left hM, HLEFT.out.2]
          exact HLEFT.out.1)
        clear hP hM s1 s2 s3 hm2 HFIN HVIS HKEEP HLEFT
        go_wp2_with fail
        go_roundw
        case rel => exact ⟨_, HP⟩
        case measure => exact HL.out

end Go.Proofs.YthimaoipogocfaaGreat

namespace Go.Proofs.YthimaoipogocfaaGreat
open Go.RowKit Go.Maps
attribute [local go_sem] run_store_f32 run_neg_inf

set_option maxRecDepth 100000 in
theorem hPairs_any {w : World} {q fan : Nat} {ts : List Tg} {lg : List Int} {F : List Nat} (h : HRep w q fan ts lg F) (hn : ts.length ≤ 1000) :
    Calls Tryz.prog 25 #[.pointer (some ⟨q, 0, none⟩)] w (PairsPost (pairsG ts) w) := by
  obtain ⟨p, lv, F0, h1, h2, -, -, -, -, rfl⟩ := h
  have c := cell_hO h1
  have H2 := hideIt (bPairs_any h2 hn)
  clear h1 h2
  go_enter Tryz.func25, Tryz.ntmps25
  go_wp2_with fail
  refine H2.out.mono ?_
  rintro e w1 ⟨rfl, hm⟩
  go_wp2
  go_ret
  exact ⟨rfl, hm⟩

def pairT (a b : Th) : Bool := decide (a.id < b.id) && meetI a.x0 a.y0 a.x1 a.y1 b.x0 b.y0 b.x1 b.y1
def pairsT (L : List Th) : Nat := (L.map (fun a => (L.filter (pairT a)).length)).sum
theorem pairsG_T (ts : List Tg) : pairsG ts = pairsT (ts.map Tg.th) := by
  unfold pairsG pairsT
  rw [List.map_map]
  congr 1
  refine List.map_congr_left (fun a _ => ?_)
  show (ts.filter (pairB a)).length = ((ts.map Tg.th).filter (pairT a.th)).length
  rw [List.filter_map, List.length_map]
  rfl
theorem pairsT_perm {L M : List Th} (h : L.Perm M) : pairsT L = pairsT M := by
  unfold pairsT
  have e : ∀ a : Th, (L.filter (pairT a)).length = (M.filter (pairT a)).length := fun a => (h.filter _).length_eq
  have e2 : L.map (fun a => (L.filter (pairT a)).length) = L.map (fun a => (M.filter (pairT a)).length) := List.map_congr_left (fun a _ => e a)
  rw [e2]
  exact (h.map _).sum_nat

theorem kPairs_any {B : Nat} {w : World} {q fan : Nat} {L : List Th} {lg : List Int} (h : KRep B w q fan L lg) : Calls Tryz.prog 25 #[.pointer (some ⟨q, 0, none⟩)] w (PairsPost (pairsT L) w) := by
  obtain ⟨ts, F, h1, rfl, h3, h4⟩ := h.out
  rw [← pairsG_T]
  exact hPairs_any h1 h3

end Go.Proofs.YthimaoipogocfaaGreat

namespace Go.Proofs.YthimaoipogocfaaGreat
open Go.RowKit

/-- what waits: its number, how far it is, its node, the things that are meant -/
structure Wt where
  id : Int
  far : Int
  nd : Option Nat
  ts : List Tg

def Wt.le (a b : Wt) : Prop := a.far < b.far ∨ (a.far = b.far ∧ a.id ≤ b.id)
theorem Wt.le_refl (a : Wt) : a.le a := .inr ⟨rfl, Int.le_refl _⟩
theorem Wt.le_trans {a b c : Wt} (h : a.le b) (k : b.le c) : a.le c := by unfold Wt.le at *; omega
theorem Wt.le_total (a b : Wt) : a.le b ∨ b.le a := by unfold Wt.le; omega
def wt0 : Wt := ⟨0, 0, none, []⟩
def wat (l : List Wt) (k : Nat) : Wt := l.getD k wt0
theorem wat_get {l : List Wt} {k : Nat} (h : k < l.length) : l[k]? = some (wat l k) := by
  unfold wat
  rw [List.getD_eq_getElem?_getD, List.getElem?_eq_getElem h]
  rfl
theorem wat_mem {l : List Wt} {k : Nat} (h : k < l.length) : wat l k ∈ l := List.mem_of_getElem? (wat_get h)
def swapW (l : List Wt) (i j : Nat) : List Wt := (l.set i (wat l j)).set j (wat l i)
theorem swapW_length (l : List Wt) (i j : Nat) : (swapW l i j).length = l.length := by simp [swapW]
theorem wat_swap {l : List Wt} {i j : Nat} (hi : i < l.length) (hj : j < l.length) (k : Nat) : wat (swapW l i j) k = if k = j then wat l i else if k = i then wat l j else wat l k := by
  have e : ∀ (m : List Wt) n, wat m n = (m[n]?).getD wt0 := fun m n => List.getD_eq_getElem?_getD
  rw [e (swapW l i j) k, swapW, List.getElem?_set, List.getElem?_set]
  by_cases h1 : k = j
  · subst h1; simp [hj]
  · have h1' : ¬ j = k := fun h => h1 h.symm
    rw [if_neg h1', if_neg h1]
    by_cases h2 : k = i
    · subst h2; simp [hi]
    · have h2' : ¬ i = k := fun h => h2 h.symm
      rw [if_neg h2', if_neg h2, e l k]

theorem swapW_perm {l : List Wt} {i j : Nat} (hi : i < l.length) (hj : j < l.length) : (swapW l i j).Perm l := by
  have h := Array.swap_perm (xs := l.toArray) (i := i) (j := j) (by simpa using hi) (by simpa using hj)
  have h2 := h.toList
  have e1 : (l.toArray.swap i j (by simpa using hi) (by simpa using hj)).toList = swapW l i j := by
    have a1 : wat l i = l[i] := by have := wat_get hi; rw [List.getElem?_eq_getElem hi] at this; exact (Option.some.inj this).symm
    have a2 : wat l j = l[j] := by have := wat_get hj; rw [List.getElem?_eq_getElem hj] at this; exact (Option.some.inj this).symm
    simp [Array.swap, swapW, a1, a2]
  rw [e1] at h2
  simpa using h2

/-- a heap, of the first n -/
def HeapW (l : List Wt) (n : Nat) : Prop := ∀ k, k < n → 0 < k → (wat l ((k - 1) / 2)).le (wat l k)
/-- .. but what stands at j may be too small -/
def UpW (l : List Wt) (n j : Nat) : Prop := (∀ k, k < n → 0 < k → k ≠ j → (wat l ((k - 1) / 2)).le (wat l k)) ∧ ∀ k, k < n → 0 < k → (k - 1) / 2 = j → 0 < j → (wat l ((j - 1) / 2)).le (wat l k)
/-- .. but what stands at i may be too great -/
def DownW (l : List Wt) (n i : Nat) : Prop := (∀ k, k < n → 0 < k → (k - 1) / 2 ≠ i → (wat l ((k - 1) / 2)).le (wat l k)) ∧ ∀ k, k < n → 0 < k → (k - 1) / 2 = i → 0 < i → (wat l ((i - 1) / 2)).le (wat l k)

theorem HeapW.least {l : List Wt} {n : Nat} (h : HeapW l n) : ∀ k, k < n → (wat l 0).le (wat l k) := by
  intro k
  induction k using Nat.strongRecOn with
  | ind k ih =>
    intro hk
    by_cases h0 : k = 0
    · subst h0; exact Wt.le_refl _
    · exact Wt.le_trans (ih ((k - 1) / 2) (by omega) (by omega)) (h k hk (by omega))

theorem UpW.done {l : List Wt} {n j : Nat} (h : UpW l n j) (hj : j = 0 ∨ (wat l ((j - 1) / 2)).le (wat l j)) : HeapW l n := by
  intro k hk h0
  by_cases e : k = j
  · subst e
    rcases hj with hj | hj
    · omega
    · exact hj
  · exact h.1 k hk h0 e

theorem UpW.step {l : List Wt} {n j : Nat} (h : UpW l n j) (hn : n ≤ l.length) (hj : j < n) (h0 : 0 < j) (hle : (wat l j).le (wat l ((j - 1) / 2))) : UpW (swapW l ((j - 1) / 2) j) n ((j - 1) / 2) := by
  have hi : (j - 1) / 2 < l.length := by omega
  have hj' : j < l.length := by omega
  have hne : (j - 1) / 2 ≠ j := by omega
  constructor
  · intro k hk k0 kne
    rw [wat_swap hi hj', wat_swap hi hj']
    by_cases e1 : k = j
    · subst e1
      rw [if_neg hne, if_pos rfl, if_pos rfl]
      exact hle
    · rw [if_neg e1, if_neg kne]
      by_cases e2 : (k - 1) / 2 = j
      · rw [if_pos e2]
        exact h.2 k hk k0 e2 h0
      · rw [if_neg e2]
        by_cases e3 : (k - 1) / 2 = (j - 1) / 2
        · rw [if_pos e3]
          have := h.1 k hk k0 e1
          rw [e3] at this
          exact Wt.le_trans hle this
        · rw [if_neg e3]
          exact h.1 k hk k0 e1
  · intro k hk k0 kp ip
    rw [wat_swap hi hj', wat_swap hi hj']
    have g1 : ((j - 1) / 2 - 1) / 2 ≠ j := by omega
    have g2 : ((j - 1) / 2 - 1) / 2 ≠ (j - 1) / 2 := by omega
    rw [if_neg g1, if_neg g2]
    have hpar := h.1 ((j - 1) / 2) (by omega) ip hne
    by_cases e1 : k = j
    · subst e1
      rw [if_pos rfl]
      exact hpar
    · have e2 : k ≠ (j - 1) / 2 := by omega
      rw [if_neg e1, if_neg e2]
      have := h.1 k hk k0 e1
      rw [kp] at this
      exact Wt.le_trans hpar this

theorem DownW.done {l : List Wt} {n i : Nat} (h : DownW l n i) (hc : ∀ k, k < n → 0 < k → (k - 1) / 2 = i → (wat l i).le (wat l k)) : HeapW l n := by
  intro k hk h0
  by_cases e : (k - 1) / 2 = i
  · rw [e]; exact hc k hk h0 e
  · exact h.1 k hk h0 e

theorem DownW.step {l : List Wt} {n i j : Nat} (h : DownW l n i) (hn : n ≤ l.length) (hj : j < n) (hji : (j - 1) / 2 = i) (h0 : 0 < j) (hle : (wat l j).le (wat l i)) (hmin : ∀ k, k < n → 0 < k → (k - 1) / 2 = i → (wat l j).le (wat l k)) : DownW (swapW l i j) n j := by
  have hi : i < l.length := by omega
  have hj' : j < l.length := by omega
  have hne : i ≠ j := by omega
  constructor
  · intro k hk k0 kne
    rw [wat_swap hi hj', wat_swap hi hj']
    rw [if_neg kne]
    by_cases e3 : (k - 1) / 2 = i
    · rw [if_pos e3]
      by_cases e1 : k = j
      · subst e1
        rw [if_pos rfl]
        exact hle
      · have e2 : k ≠ i := by omega
        rw [if_neg e1, if_neg e2]
        exact hmin k hk k0 e3
    · rw [if_neg e3]
      by_cases e1 : k = j
      · subst e1; exact absurd hji e3
      · rw [if_neg e1]
        by_cases e2 : k = i
        · subst e2
          rw [if_pos rfl]
          exact h.2 j hj h0 hji k0
        · rw [if_neg e2]
          exact h.1 k hk k0 e3
  · intro k hk k0 kp jp
    rw [wat_swap hi hj', wat_swap hi hj']
    have e1 : k ≠ j := by omega
    have e2 : k ≠ i := by omega
    rw [hji, if_neg hne, if_pos rfl, if_neg e1, if_neg e2]
    have := h.1 k hk k0 (by omega)
    rw [kp] at this
    exact this

/-- a heap's beginning, when what stood at n comes to its front -/
theorem HeapW.pop {l : List Wt} {n : Nat} (h : HeapW l (n + 1)) (hn : n < l.length) : DownW (swapW l 0 n) n 0 := by
  constructor
  · intro k hk k0 kne
    rw [wat_swap (by omega) hn, wat_swap (by omega) hn]
    rw [if_neg (by omega), if_neg kne, if_neg (by omega), if_neg (by omega)]
    exact h k (by omega) k0
  · intro k hk k0 kp ip
    omega

theorem HeapW.push {l : List Wt} (h : HeapW l l.length) (x : Wt) : UpW (l ++ [x]) (l.length + 1) l.length := by
  have e : ∀ k, k < l.length → wat (l ++ [x]) k = wat l k := fun k hk => by
    unfold wat
    rw [List.getD_eq_getElem?_getD, List.getD_eq_getElem?_getD, List.getElem?_append_left hk]
  constructor
  · intro k hk k0 kne
    rw [e _ (by omega), e _ (by omega)]
    exact h k (by omega) k0
  · intro k hk k0 kp jp
    omega

end Go.Proofs.YthimaoipogocfaaGreat

namespace Go.Proofs.YthimaoipogocfaaGreat
open Go.RowKit

/-- what is told of one thing: its number, how far it is -/
structure Ht where
  id : Int
  far : Int
theorem Ht.ext' {a b : Ht} (h1 : a.id = b.id) (h2 : a.far = b.far) : a = b := by
  cases a; cases b; simp at *; exact ⟨h1, h2⟩
def hle (a b : Ht) : Bool := decide (a.far < b.far ∨ (a.far = b.far ∧ a.id ≤ b.id))
theorem hle_iff {a b : Ht} : hle a b = true ↔ (a.far < b.far ∨ (a.far = b.far ∧ a.id ≤ b.id)) := by simp [hle]
def sortH (l : List Ht) : List Ht := l.mergeSort hle
theorem sortH_perm (l : List Ht) : (sortH l).Perm l := List.mergeSort_perm l hle
theorem sortH_pairwise (l : List Ht) : (sortH l).Pairwise (fun a b => hle a b = true) :=
  List.pairwise_mergeSort (le := hle) (fun a b c h1 h2 => by rw [hle_iff] at *; omega) (fun a b => by simp only [Bool.or_eq_true]; rw [hle_iff, hle_iff]; omega) l
theorem sortH_unique {l m : List Ht} (hp : m.Perm l) (hs : m.Pairwise (fun a b => hle a b = true)) : m = sortH l :=
  List.Perm.eq_of_pairwise (le := fun a b => hle a b = true) (fun a b _ _ h1 h2 => by
    rw [hle_iff] at h1 h2
    exact Ht.ext' (by omega) (by omega)) hs (sortH_pairwise l) (hp.trans (sortH_perm l).symm)
theorem sortH_congr {l m : List Ht} (h : l.Perm m) : sortH l = sortH m := sortH_unique ((sortH_perm l).trans h) (sortH_pairwise l)
theorem sortH_length (l : List Ht) : (sortH l).length = l.length := (sortH_perm l).length_eq

/-- the nearest were taken, one behind the other -/
theorem near_done {hits pend all : List Ht} {most : Nat} (hp : (hits ++ pend).Perm all) (hs : hits.Pairwise (fun a b => hle a b = true)) (hb : ∀ a ∈ hits, ∀ b ∈ pend, hle a b = true) (he : hits.length = most ∨ (pend = [] ∧ hits.length ≤ most)) : hits = (sortH all).take most := by
  have e : hits ++ sortH pend = sortH all := by
    refine sortH_unique (((sortH_perm pend).append_left hits).trans hp) ?_
    refine List.pairwise_append.2 ⟨hs, sortH_pairwise pend, fun a ha b hb' => hb a ha b ((sortH_perm pend).mem_iff.1 hb')⟩
  rw [← e]
  rcases he with he | ⟨he, hl⟩
  · rw [← he, List.take_left']
    rfl
  · subst he
    have : sortH [] = [] := List.eq_nil_of_length_eq_zero (by rw [sortH_length]; rfl)
    rw [this, List.append_nil, List.take_of_length_le hl]

end Go.Proofs.YthimaoipogocfaaGreat

namespace Go.Proofs.YthimaoipogocfaaGreat
open Go.RowKit
attribute [local go_sem] run_store_f32 run_neg_inf

/-! ### the queue in memory -/
def adN (o : Option Nat) : Option Addr := o.map fun p => ⟨p, 0, none⟩
abbrev ptrN (o : Option Nat) : Value := .pointer (adN o)
def wtCells (e : Wt) : List Value := [.int .i64 e.id, .int .i64 e.far, ptrN e.nd]
def wtsV (l : List Wt) : List Value := l.flatMap wtCells
theorem wtsV_length (l : List Wt) : (wtsV l).length = l.length * 3 := by
  induction l with
  | nil => rfl
  | cons a l ih => simp only [wtsV, List.flatMap_cons, List.length_append] at ih ⊢; rw [ih]; simp [wtCells]; omega
theorem wtsV_append (l m : List Wt) : wtsV (l ++ m) = wtsV l ++ wtsV m := by simp [wtsV]
theorem wtsV_get (l : List Wt) (k : Nat) (e : Wt) (h : l[k]? = some e) (j : Nat) (hj : j < 3) : (wtsV l)[k * 3 + j]? = (wtCells e)[j]? := by
  induction l generalizing k with
  | nil => simp at h
  | cons s L ih =>
    have e1 : wtsV (s :: L) = wtCells s ++ wtsV L := rfl
    have hl : (wtCells s).length = 3 := rfl
    rw [e1]
    cases k with
    | zero =>
      simp at h
      subst h
      rw [List.getElem?_append_left (by omega)]
      congr 1
      omega
    | succ k =>
      simp at h
      rw [List.getElem?_append_right (by omega), hl, ← ih k h]
      congr 1
      omega
theorem ptrN_one (o : Option Nat) : (ptrN o).oneCell' = true := rfl
theorem wtsV_one (l : List Wt) : ∀ u ∈ wtsV l, u.oneCell' = true := by
  intro u hu
  obtain ⟨e, _, hu⟩ := List.mem_flatMap.1 hu
  simp [wtCells] at hu
  rcases hu with rfl | rfl | rfl
  · rfl
  · rfl
  · exact ptrN_one _
abbrev qO (v : Value) : Obj := .cells #[v] 140 (0, 0)
theorem cell_qO {w : World} {p : Nat} {v : Value} (h : w.heap[p]? = some (qO v)) : w.cell? ⟨p, 0, none⟩ = some v := by rw [cell_of_block h]; rfl
theorem qO_set {w : World} {p : Nat} {v : Value} (h : w.heap[p]? = some (qO v)) (v' : Value) : (w.setCell ⟨p, 0, none⟩ v').heap[p]? = some (qO v') := by rw [block_setCell h]; rfl

/-! ### methods, found by their names -/
theorem run_nilchk (a : Addr) (x y : String) (w : World) : (Builtin.ssaWrapNilChk_ #[136] 136 #[.pointer (some a), strVal x, strVal y]).run Tryz.prog w = .ok (.pointer (some a)) w := rfl
theorem run_mV {w : World} {qb : Nat} {v : Value} (h : w.heap[qb]? = some (qO v)) {nm : String} {f : FuncId} (hs : selOf Tryz.prog 136 nm = some ([], some (f, false))) (n : Nat) :
    (method (n + 1) 136 (.pointer (some ⟨qb, 0, none⟩)) nm).run Tryz.prog w = .ok (f, v) w := by
  have c0 := cell_qO h
  unfold selOf at hs
  obtain ⟨i, hi, hs⟩ := Option.bind_eq_some_iff.1 hs
  obtain ⟨m, hm, hs⟩ := Option.map_eq_some_iff.1 hs
  obtain ⟨nmm, sig, path, func⟩ := m
  simp only [Prod.mk.injEq] at hs
  obtain ⟨h1, rfl⟩ := hs
  have hpath : path.toList = [] := List.map_eq_nil_iff.1 h1
  have hp : path = #[] := by cases path; simp at hpath; simp [hpath]
  unfold method
  simp [typeInfo, hi, hm, hpath, follow, run_underlying Tryz.underlying136, receiverAt, Place.get, asAddr, loadVar]
  simp [hp, run_nilchk, isAgg, run_underlying Tryz.underlying140, go_sem, c0]
theorem run_mP {w : World} {qb : Nat} {nm : String} {f : FuncId} (hs : selOf Tryz.prog 136 nm = some ([], some (f, true))) (n : Nat) :
    (method (n + 1) 136 (.pointer (some ⟨qb, 0, none⟩)) nm).run Tryz.prog w = .ok (f, .pointer (some ⟨qb, 0, none⟩)) w := by
  unfold selOf at hs
  obtain ⟨i, hi, hs⟩ := Option.bind_eq_some_iff.1 hs
  obtain ⟨m, hm, hs⟩ := Option.map_eq_some_iff.1 hs
  obtain ⟨nmm, sig, path, func⟩ := m
  simp only [Prod.mk.injEq] at hs
  obtain ⟨h1, rfl⟩ := hs
  have hpath : path.toList = [] := List.map_eq_nil_iff.1 h1
  unfold method
  simp [typeInfo, hi, hm, hpath, follow, run_underlying Tryz.underlying136, receiverAt, Place.get, asAddr, loadVar]
theorem sel_Len : selOf Tryz.prog 136 "Len" = some ([], some (73, false)) := by kernel_rfl
theorem sel_Less : selOf Tryz.prog 136 "Less" = some ([], some (230, false)) := by kernel_rfl
theorem sel_Swap : selOf Tryz.prog 136 "Swap" = some ([], some (233, false)) := by kernel_rfl
theorem sel_Push : selOf Tryz.prog 136 "Push" = some ([], some (232, true)) := by kernel_rfl
theorem sel_Pop : selOf Tryz.prog 136 "Pop" = some ([], some (231, true)) := by kernel_rfl

end Go.Proofs.YthimaoipogocfaaGreat

namespace Go.Proofs.YthimaoipogocfaaGreat
open Go.RowKit
attribute [local go_sem] run_store_f32 run_neg_inf

theorem owns_set {w : World} {base : Nat} {e : TypeId} {size g n c : Nat} {xs : List Value} (h : w.ownsRow base e size (.slice (some ⟨g, 0, none⟩) n c) n xs) (j : Nat) (u : Value) : (w.setCell ⟨g, j, none⟩ u).ownsRow base e size (.slice (some ⟨g, 0, none⟩) n c) n (xs.set j u) := by
  refine ⟨by rw [List.length_set]; exact h.1, ?_⟩
  rcases h.2 with ⟨h0, _⟩ | ⟨g', cap, cur, hv, hb, hg, hnc, hcm, hcs, htake⟩
  · cases h0
  · simp only [Value.slice.injEq, Option.some.injEq, Addr.mk.injEq, and_true, true_and] at hv
    obtain ⟨rfl, rfl⟩ := hv
    refine .inr ⟨g, c, cur.setIfInBounds j u, rfl, hb, ?_, hnc, hcm, by simpa using hcs, ?_⟩
    · rw [block_setCell hg]
    · rw [← htake, Array.toList_setIfInBounds, List.take_set]

theorem wtsV_set (l : List Wt) (i : Nat) (e : Wt) (hi : i < l.length) : wtsV (l.set i e) = (((wtsV l).set (i * 3) (.int .i64 e.id)).set (i * 3 + 1) (.int .i64 e.far)).set (i * 3 + 2) (ptrN e.nd) := by
  induction l generalizing i with
  | nil => simp at hi
  | cons a l ih =>
    have e1 : ∀ (b : Wt) m, wtsV (b :: m) = wtCells b ++ wtsV m := fun _ _ => rfl
    cases i with
    | zero =>
      rw [List.set_cons_zero, e1, e1]
      simp [wtCells]
    | succ i =>
      rw [List.set_cons_succ, e1, e1, ih i (by simpa using hi)]
      have hl : (wtCells a).length = 3 := rfl
      rw [List.set_append_right _ _ (by omega), List.set_append_right _ _ (by omega), List.set_append_right _ _ (by omega), hl]
      congr 2
      · congr 1
        · congr 1
          omega
        · omega
      · omega

def lessW (a b : Wt) : Bool := decide (a.far < b.far ∨ (a.far = b.far ∧ a.id < b.id))
theorem lessW_iff {a b : Wt} : lessW a b = true ↔ (a.far < b.far ∨ (a.far = b.far ∧ a.id < b.id)) := by simp [lessW]
theorem lessW_le {a b : Wt} (h : lessW a b = true) : a.le b := by have := lessW_iff.1 h; unfold Wt.le; omega
theorem not_lessW_le {a b : Wt} (h : lessW a b = false) : b.le a := by
  have : ¬ (a.far < b.far ∨ (a.far = b.far ∧ a.id < b.id)) := fun hn => by rw [lessW_iff.2 hn] at h; cases h
  unfold Wt.le
  omega
theorem less_or (a b : Wt) : decide (orF (cmpF a.far b.far) (cmpF a.id b.id) < 0) = lessW a b := by
  unfold orF cmpF lessW
  rw [decide_eq_decide]
  by_cases h1 : a.far < b.far
  · simp [h1]
  · by_cases h2 : b.far < a.far
    · simp [h1, h2]
      omega
    · by_cases h3 : a.id < b.id
      · simp [h1, h2, h3]
        omega
      · by_cases h4 : b.id < a.id
        · simp [h1, h2, h3, h4]
        · simp [h1, h2, h3, h4]

theorem or_drew (a b : Int) (w : World) : Calls Tryz.prog 140 #[.slice (some ⟨w.heap.size, 0, none⟩) 2 2] ((w.alloc (.cells #[.int .i64 a, .int .i64 b] 3)).drew) (IntEq (orF a b) ((w.alloc (.cells #[.int .i64 a, .int .i64 b] 3)).drew)) := by
  have h := heap_alloc_new w (.cells #[.int .i64 a, .int .i64 b] 3)
  have hd : ((w.alloc (.cells #[.int .i64 a, .int .i64 b] 3)).drew).heap[w.heap.size]? = some (.cells #[.int .i64 a, .int .i64 b] 3) := h
  refine or_any ?_ ?_ <;> rw [cell_of_block hd] <;> rfl

/-- cells of what waits -/
theorem wt_cells {w : World} {g n c : Nat} {l : List Wt} (h : w.ownsRow 0 138 3 (.slice (some ⟨g, 0, none⟩) n c) n (wtsV l)) {k : Nat} (hk : k < l.length) :
    w.cell? ⟨g, k * 3, none⟩ = some (.int .i64 (wat l k).id) ∧ w.cell? ⟨g, k * 3 + 1, none⟩ = some (.int .i64 (wat l k).far) ∧ w.cell? ⟨g, k * 3 + 2, none⟩ = some (ptrN (wat l k).nd) := by
  have hg := wat_get hk
  exact ⟨owns_cell h _ _ (wtsV_get l k _ hg 0 (by omega)), owns_cell h _ _ (wtsV_get l k _ hg 1 (by omega)), owns_cell h _ _ (wtsV_get l k _ hg 2 (by omega))⟩

set_option maxRecDepth 100000 in
set_option maxHeartbeats 1000000 in
theorem less_any {w : World} {g n c : Nat} {l : List Wt} (h : w.ownsRow 0 138 3 (.slice (some ⟨g, 0, none⟩) n c) n (wtsV l)) (hl : l.length = n) {i j : Nat} (hi : i < n) (hj : j < n) :
    Calls Tryz.prog 230 #[.slice (some ⟨g, 0, none⟩) n c, .int .i64 i, .int .i64 j] w (BoolPost (lessW (wat l i) (wat l j)) w) := by
  obtain ⟨i0, i1, -⟩ := wt_cells h (k := i) (by omega)
  obtain ⟨j0, j1, -⟩ := wt_cells h (k := j) (by omega)
  have hlo := less_or (wat l i) (wat l j)
  have HLO := hideIt hlo
  generalize lessW (wat l i) (wat l j) = B at *
  generalize (wat l i).id = I at *
  generalize (wat l i).far = IF at *
  generalize (wat l j).id = J at *
  generalize (wat l j).far = JF at *
  have HKEEP := hideIt (show ∀ w', Mod [] w w' → Mod [] w w' ∧ w'.cell? ⟨g, i * 3, none⟩ = some (.int .i64 I) ∧ w'.cell? ⟨g, i * 3 + 1, none⟩ = some (.int .i64 IF) ∧ w'.cell? ⟨g, j * 3, none⟩ = some (.int .i64 J) ∧ w'.cell? ⟨g, j * 3 + 1, none⟩ = some (.int .i64 JF) from fun w' hm => ⟨hm, cell_mod hm i0, cell_mod hm i1, cell_mod hm j0, cell_mod hm j1⟩)
  have hi' : (0 : Int) ≤ (i : Int) ∧ (i : Int) < (n : Int) := by omega
  have hj' : (0 : Int) ≤ (j : Int) ∧ (j : Int) < (n : Int) := by omega
  clear h hlo i0 i1 j0 j1
  go_enter Tryz.func230, Tryz.ntmps230
  go_wp2_with fail
  go_region_held (fun w' => Mod [] w w' ∧ w'.cell? ⟨g, i * 3, none⟩ = some (.int .i64 I) ∧ w'.cell? ⟨g, i * 3 + 1, none⟩ = some (.int .i64 IF) ∧ w'.cell? ⟨g, j * 3, none⟩ = some (.int .i64 J) ∧ w'.cell? ⟨g, j * 3 + 1, none⟩ = some (.int .i64 JF))
    ((first
      | exact HKEEP.out _ (Mod.drew _)
      | exact HKEEP.out _ ((Mod.alloc _ _).trans (Mod.drew _))
      | exact HKEEP.out _ (by simp only [*])
      | exact HKEEP.out _ (Mod.trans (by simp only [*]) (Mod.alloc _ _))))
    ((first
      | (go_at_call 141; refine (compareInt_any _ _ _).mono ?_; rintro e w' ⟨rfl, rfl⟩)
      | (go_at_call 140; refine (or_drew _ _ _).mono ?_; rintro e w'' ⟨rfl, rfl⟩)
      | (go_at_call 140; refine (or_new _ _ _).mono ?_; rintro e w'' ⟨rfl, rfl⟩)))
  all_goals
    rename_i hheld
    have hmm := hheld.1
    clear hheld
    go_wp2
    go_ret
    exact ⟨ret_bool HLO.out, hmm⟩

end Go.Proofs.YthimaoipogocfaaGreat

