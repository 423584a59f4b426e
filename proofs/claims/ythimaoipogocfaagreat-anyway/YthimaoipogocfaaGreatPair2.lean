import Derived.Test.YthimaoipogocfaaGreatPair1
namespace Go.Proofs.YthimaoipogocfaaGreat
open Go.RowKit Go.Maps
attribute [local go_sem] run_store_f32 run_neg_inf

theorem viewer_pair (a : Tg) (ab pb n0 : Nat) : Viewer 70 #[.pointer (some ⟨ab, 0, none⟩), .pointer (some ⟨pb, 0, none⟩)] (PairS a ab pb n0) where
  enters := enters_of Tryz.func70 (by kernel_rfl) rfl
  sees := fun acc G t w hac hS ht _ => by
    obtain rfl := hS.1
    exact pairs1_any hac hS ht
  keep := fun acc G w w' hS hm => by
    obtain ⟨h0, h1, h2, h3, h4, h5, h6⟩ := hS
    exact ⟨h0, (hm.block pb (lt_of_block h1) (by simp)).trans h1, (hm.block ab (lt_of_block h2) (by simp)).trans h2, h3.kept hm (by simp), h4, h5, h6⟩
  lt := fun acc G w hS x hx => by
    obtain ⟨rfl, h1, _⟩ := hS
    simp only [List.mem_singleton] at hx
    subst hx
    exact lt_of_block h1

/-- what is shown of a thing's own box holds every thing that meets it -/
theorem pairs_shown {w : World} {fan lo h : Nat} {k : Kd} {ts : List Tg} (hn : NodeAt w fan lo h k) (hp : k.ts.Perm ts) {a : Tg} (ha : RectOk a.x0 a.y0 a.x1 a.y1) : ((shown a.bx k.ts).filter (pairB a)).length = pairsOf ts a := by
  have e : (shown a.bx k.ts).filter (pairB a) = k.ts.filter (pairB a) := by
    unfold shown
    rw [List.filter_filter]
    refine List.filter_congr (fun t ht => ?_)
    cases hft : pairB a t with
    | false => rfl
    | true =>
      have hrt := (hn.thing t ht).1.rect
      obtain ⟨m1, m2, m3, m4⟩ := meetI_iff.1 (pairB_iff.1 hft).2
      have : t.bx.meets a.bx = true := Bx.of_meets hrt ha m2 m1 m4 m3
      rw [this]
      rfl
  rw [e]
  exact (hp.filter _).length_eq

def PairsPost (n : Nat) (w : World) (e : Ending) (w' : World) : Prop := e = .returned (.int .i64 (n : Int)) ∧ Mod [] w w'

/-- the loop over the things -/
structure PairsAt (w : World) (ts : List Tg) (es : Array MapEntry) (clock bm : Nat) (seen : Array Nat) (wr : World) : Prop where
  num : wr.heap[w.heap.size]? = some (numO ((cntZ (pairsOf ts) (es.toList.zip ts) seen : Nat) : Int))
  iter : wr.heap[w.heap.size + 1]? = some (.mapIter (some bm) clock seen clock)
  mod : Mod [] w wr

theorem PairsAt.left {w : World} {ts : List Tg} {es : Array MapEntry} {clock bm : Nat} {seen : Array Nat} {wr : World} (h : PairsAt w ts es clock bm seen wr) (hb : wr.heap[bm]? = some (.map es clock)) : wr.rangeLeft bm (w.heap.size + 1) = (leftOf es seen).size := by
  simp only [World.rangeLeft, hb, h.iter]

/-- one thing was looked at -/
theorem pairsStep {w : World} {p fan : Nat} {ts : List Tg} {bm : Nat} {es : Array MapEntry} {clock hh : Nat} {k : Kd} (ht : TreeAt w p fan ts bm es clock hh k) (hn : ts.length ≤ 1000) {seen : Array Nat} {e : MapEntry} (he : e ∈ (leftOf es seen).toList) :
    ∃ t ∈ ts, e.key = .int .i64 t.id ∧ e.val = .pointer (some ⟨t.blk, 0, none⟩) ∧ cntZ (pairsOf ts) (es.toList.zip ts) (seen.push e.born) = cntZ (pairsOf ts) (es.toList.zip ts) seen + pairsOf ts t ∧ cntZ (pairsOf ts) (es.toList.zip ts) seen ≤ 1000000 := by
  obtain ⟨hm, hs⟩ := mem_left he
  obtain ⟨z1, z2, z3⟩ := ht.ents.1.zip
  have hm2 : e ∈ (es.toList.zip ts).map (·.1) := by rw [z1]; exact hm
  obtain ⟨⟨e', t⟩, hp, rfl⟩ := List.mem_map.1 hm2
  obtain ⟨k1, k2⟩ := z3 _ hp
  have htm : t ∈ ts := by rw [← z2]; exact List.mem_map.2 ⟨_, hp, rfl⟩
  have hnd : ((es.toList.zip ts).map (·.1.born)).Nodup := by
    have : (es.toList.zip ts).map (·.1.born) = es.toList.map (·.born) := by
      conv => rhs; rw [← z1]
      rw [List.map_map]
      rfl
    rw [this]
    exact ht.ents.2.2
  refine ⟨t, htm, k1, k2, cntZ_step _ hnd hp hs, ?_⟩
  have h1 := cntZ_le (pairsOf ts) (es.toList.zip ts) seen
  have h2 : (es.toList.zip ts).map (fun p => pairsOf ts p.2) = ts.map (pairsOf ts) := by
    have e := congrArg (List.map (pairsOf ts)) z2
    rw [List.map_map] at e
    exact e
  rw [h2] at h1
  have h3 := pairsG_le ts
  unfold pairsG at h3
  have h4 : ts.length * ts.length ≤ 1000 * 1000 := Nat.mul_le_mul hn hn
  omega

theorem pairsEnd {w : World} {p fan : Nat} {ts : List Tg} {bm : Nat} {es : Array MapEntry} {clock hh : Nat} {k : Kd} (ht : TreeAt w p fan ts bm es clock hh k) {seen : Array Nat} (h0 : (leftOf es seen).size = 0) : cntZ (pairsOf ts) (es.toList.zip ts) seen = pairsG ts := by
  obtain ⟨z1, z2, z3⟩ := ht.ents.1.zip
  rw [cntZ_all _ (fun p hp => all_seen es seen h0 p.1 (by rw [← z1]; exact List.mem_map.2 ⟨p, hp, rfl⟩))]
  have e := congrArg (List.map (pairsOf ts)) z2
  rw [List.map_map] at e
  unfold pairsG
  rw [← e]
  rfl

set_option maxRecDepth 100000 in
set_option maxHeartbeats 1000000 in
theorem bPairs_any {w : World} {p fan : Nat} {ts : List Tg} {F : List Nat} (h : TreeRep w p fan ts F) (hn : ts.length ≤ 1000) :
    Calls Tryz.prog 43 #[.pointer (some ⟨p, 0, none⟩)] w (PairsPost (pairsG ts) w) := by
  obtain ⟨bm, es, clock, hh, k, ht, rfl⟩ := h
  have HT := hideIt ht
  have hm0 := Mod.alloc (F := []) w (numO 0)
  have hmI := Mod.alloc (F := []) (w.alloc (numO 0)) (.mapIter (some bm) clock #[] clock)
  have ht0 := ht.kept hm0 (by simp)
  obtain ⟨c0, c1, c2⟩ := cell_trO ht0.here
  have hmap := ht0.map
  have HMAP := hideIt hmap
  have HS := hideIt (show PairsAt w ts es clock bm #[] ((w.alloc (numO 0)).alloc (.mapIter (some bm) clock #[] clock)) from ⟨by
    rw [cntZ_nil]
    exact (hmI.block w.heap.size (by simp) (by simp)).trans (heap_alloc_new w _), by
    have := heap_alloc_new (w.alloc (numO 0)) (.mapIter (some bm) clock #[] clock)
    simpa using this, hm0.trans hmI⟩)
  clear ht hmap hm0 hmI ht0
  go_enter Tryz.func43, Tryz.ntmps43
  go_wp2_with (first | (at_range; refine wpList_rangeT _ rfl _ 116 _ _ rfl Tryz.underlying116 bm es clock rfl HMAP.out ?_) | go_in)
  go_frame
  have hsz : (w.alloc (numO 0)).heap.size = w.heap.size + 1 := by simp
  rw [hsz]
  clear hsz c0 c1 c2 HMAP
  go_loopw [] (fun wr => ∃ seen, Hid (PairsAt w ts es clock bm seen wr)) (fun wr => wr.rangeLeft bm (w.heap.size + 1))
  case atStart => exact ⟨#[], HS⟩
  case round =>
    obtain ⟨seen, hR⟩ := hrel
    have htr := HT.out.kept hR.out.mod (by simp)
    have hmapr := htr.map
    have hit := hR.out.iter
    have hB := HT.out.ents.2
    have HTR := hideIt htr
    have HIT := hideIt (And.intro hit (And.intro hmapr hB))
    clear htr hmapr hit hB
    go_wp2_with (first | (at_next; refine wpList_nextT _ rfl _ rfl (w.heap.size + 1) bm clock seen es rfl HIT.out.1 HIT.out.2.1 HIT.out.2.2 ?_ ?_) | go_in)
    · intro h0
      have hnum := hR.out.num
      rw [pairsEnd HT.out (by rw [h0]; rfl)] at hnum
      have cn := cell_numO hnum
      have HM := hideIt hR.out.mod
      clear hnum HIT HTR hR h0
      go_wp2
      go_ret
      exact ⟨rfl, HM.out⟩
    · intro e w1 he hm1 hr1 hen
      have he' : e ∈ (leftOf es seen).toList := by simpa using he
      obtain ⟨t, htm, hk, hv, hcnt, hle⟩ := pairsStep HT.out hn he'
      rw [hk, hv] at hen
      rw [hk, hv]
      have htk : t ∈ k.ts := HT.out.perm.mem_iff.2 htm
      have hmw1 : Mod [] w w1 := hR.out.mod.then hm1 (fun x hx => .inr (by simp at hx; omega))
      have hnum1 := (hm1.block w.heap.size (lt_of_block hR.out.num) (by simp)).trans hR.out.num
      have HLEFT := hideIt (And.intro (left_shrinks es seen e he') (hR.out.left HIT.out.2.1))
      have hlast := HT.out.node.thing t htk
      have hbl : t.blk < w.heap.size := lt_of_block hlast.1.here
      have hw1s : w.heap.size + 1 < w1.heap.size := lt_of_block hr1
      -- the block of a, with the thing in it
      obtain ⟨W0, hW0⟩ : ∃ W0, W0 = (w1.alloc (.cells #[.pointer none] 113)).setCell ⟨w1.heap.size, 0, none⟩ (.pointer (some ⟨t.blk, 0, none⟩)) := ⟨_, rfl⟩
      have hmW0 : Mod [] w1 W0 := by
        rw [hW0]
        exact (Mod.alloc w1 _).then (Mod.setCell (F := [w1.heap.size]) _ _ _ (by simp)) (fun x hx => .inr (by simp at hx; omega))
      have hab : W0.heap[w1.heap.size]? = some (ptO t.blk) := by
        rw [hW0, block_setCell (heap_alloc_new w1 _)]
        rfl
      have hnumW := (hmW0.block w.heap.size (lt_of_block hnum1) (by simp)).trans hnum1
      have hitW := (hmW0.block (w.heap.size + 1) (by omega) (by simp)).trans hr1
      have hmwW := hmw1.trans hmW0
      have htW := HT.out.kept hmwW (by simp)
      have hTgW := hlast.1.kept hmwW (by simp)
      have hshown := pairs_shown HT.out.node HT.out.perm hlast.1.rect
      have hnumS := (Bx.of_ok hlast.1.rect).num
      have HVIS := hideIt (show ∀ W, Mod [] W0 W → Calls Tryz.prog 68 #[.pointer (some ⟨k.p, 0, none⟩), bxV t.bx, .func (.func 70) #[] #[.pointer (some ⟨w1.heap.size, 0, none⟩), .pointer (some ⟨w.heap.size, 0, none⟩)]] W (VisPost (PairS t w1.heap.size w.heap.size (cntZ (pairsOf ts) (es.toList.zip ts) seen)) (shown t.bx k.ts) [w.heap.size] W) from fun W hm => by
        have := visit_any (viewer_pair t w1.heap.size w.heap.size (cntZ (pairsOf ts) (es.toList.zip ts) seen)) (b := t.bx) hnumS hh W k [] [w.heap.size] (htW.node.kept hm (by simp)) ⟨rfl, by simpa using (hm.block _ (lt_of_block hnumW) (by simp)).trans hnumW, (hm.block _ (lt_of_block hab) (by simp)).trans hab, hTgW.kept hm (by simp), by omega, by omega, hle⟩ (fun x hx => by
          have := HT.out.node.lt x hx
          simp
          omega) (by
          have := HT.out.perm.length_eq
          simp only [List.length_nil]
          omega)
        simpa using this)
      have HFIN := hideIt (show ∀ W w3 G', Mod [] W0 W → PairS t w1.heap.size w.heap.size (cntZ (pairsOf ts) (es.toList.zip ts) seen) (shown t.bx k.ts) G' w3 → Mod [w.heap.size] W w3 → PairsAt w ts es clock bm (seen.push e.born) w3 ∧ w3.heap[bm]? = some (.map es clock) from fun W w3 G' hm hs hm3 => by
        obtain ⟨_, p1, _⟩ := hs
        have hmod3 : Mod [] w w3 := (hmwW.trans hm).then hm3 (fun x hx => .inr (by simp at hx; omega))
        refine ⟨⟨?_, ?_, hmod3⟩, (HT.out.kept hmod3 (by simp)).map⟩
        · rw [hcnt, ← hshown]
          exact p1
        · exact ((hm3.block _ (Nat.lt_of_lt_of_le (lt_of_block hitW) hm.size) (by simp)).trans (hm.block _ (lt_of_block hitW) (by simp))).trans hitW)
      obtain ⟨_, ct, _⟩ := cell_trO htW.here
      obtain ⟨t0, t1, t2, t3⟩ := hTgW.cells
      have ca := cell_ptO hab
      have HKEEP := hideIt (show ∀ w', Mod [w.heap.size] W0 w' → Mod [w.heap.size] W0 w' ∧ w'.cell? ⟨p, 1, none⟩ = some (.pointer (some ⟨k.p, 0, none⟩)) ∧ w'.cell? ⟨w1.heap.size, 0, none⟩ = some (.pointer (some ⟨t.blk, 0, none⟩)) ∧ w'.cell? ⟨t.blk, 0, none⟩ = some (.float .f32 t.bx.x0) ∧ w'.cell? ⟨t.blk, 1, none⟩ = some (.float .f32 t.bx.y0) ∧ w'.cell? ⟨t.blk, 2, none⟩ = some (.float .f32 t.bx.x1) ∧ w'.cell? ⟨t.blk, 3, none⟩ = some (.float .f32 t.bx.y1) from fun w' hm => by
        have hp : p ∉ [w.heap.size] := by
          have := lt_of_block HT.out.here
          simp
          omega
        have hb : t.blk ∉ [w.heap.size] := by simp; omega
        have hwn : w1.heap.size ∉ [w.heap.size] := by simp; omega
        exact ⟨hm, cell_modG hm hp ct, cell_modG hm hwn ca, cell_modG hm hb t0, cell_modG hm hb t1, cell_modG hm hb t2, cell_modG hm hb t3⟩)
      have eg : ∀ args w, (callFunc 70 args).run Tryz.prog w = .ok (.enter 70 args) w := (viewer_pair t 0 0 0).enters
      clear hk hv hcnt he he' htm htk hmw1 hnum1 hr1 hm1 hR HIT HTR hle hlast hmW0 hab hnumW hitW hmwW htW hTgW hshown hnumS
      have hz0 : (w1.alloc (.cells #[.pointer none] 113)).cell? ⟨w1.heap.size, 0, none⟩ = some (.pointer none) := by rw [cell_of_block (heap_alloc_new w1 _)]; rfl
      have hfz := frozen_of_block (heap_alloc_new w1 (.cells #[.pointer none] 113)) 0
      have hW0' := hW0.symm
      clear hW0
      go_wp2_with fail
      clear hz0 hfz hW0' hen ct t0 t1 t2 t3 ca
      go_region_held (fun w' => Mod [w.heap.size] W0 w' ∧ w'.cell? ⟨p, 1, none⟩ = some (.pointer (some ⟨k.p, 0, none⟩)) ∧ w'.cell? ⟨w1.heap.size, 0, none⟩ = some (.pointer (some ⟨t.blk, 0, none⟩)) ∧ w'.cell? ⟨t.blk, 0, none⟩ = some (.float .f32 t.bx.x0) ∧ w'.cell? ⟨t.blk, 1, none⟩ = some (.float .f32 t.bx.y0) ∧ w'.cell? ⟨t.blk, 2, none⟩ = some (.float .f32 t.bx.x1) ∧ w'.cell? ⟨t.blk, 3, none⟩ = some (.float .f32 t.bx.y1))
        ((first
          | exact HKEEP.out _ (Mod.drew _)
          | exact HKEEP.out _ (by simp only [*])
          | exact HKEEP.out _ (Mod.trans (by simp only [*]) hm2.nil)
          | exact HKEEP.out _ (Mod.trans (by simp only [*]) s3)))
        ((first
          | (go_at_call 69; refine (edges_any t.bx _).mono ?_; rintro e2 w2 ⟨rfl, hm2⟩)
          | (go_at_call 68; refine (HVIS.out _ ((Mod.drew _).trans hm2)).mono ?_; rintro e2 w3 ⟨rfl, G', s1, s2, s3⟩)))
      all_goals
        obtain ⟨hP, hM⟩ := HFIN.out _ _ _ ((Mod.drew _).trans hm2) s1 s3
        have HP := hideIt hP
        have HL := hideIt (show w3.rangeLeft bm (w.heap.size + 1) < wr.rangeLeft bm (w.heap.size + 1) from by
          rw [hP.left hM, HLEFT.out.2]
          exact HLEFT.out.1)
        clear hP hM s1 s2 s3 hm2 HFIN HVIS HKEEP HLEFT
        go_wp2_with fail
        go_roundw
        case rel => exact ⟨_, HP⟩
        case measure => exact HL.out

end Go.Proofs.YthimaoipogocfaaGreat
