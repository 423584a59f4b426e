import Derived.Test.YthimaoipogocfaaGreatJ13
namespace Go.Proofs.YthimaoipogocfaaGreat
open Go.RowKit Go.Maps
attribute [local go_sem] run_store_f32 run_neg_inf

def dropG (ts : List Tg) (id : Int) : List Tg := match findG ts id with | some n => ts.eraseIdx n | none => ts

/-- what Put and Drop leave of a tree -/
def BSetPost (p fan : Nat) (ts' : List Tg) (F : List Nat) (w : World) (e : Ending) (w' : World) : Prop := e = .returned (.tuple #[]) ∧ ∃ F', TreeRep w' p fan ts' F' ∧ (∀ x ∈ F', x ∈ F ∨ w.heap.size ≤ x) ∧ Mod F w w'

theorem erase_perm {ts : List Tg} {n : Nat} {t : Tg} (h : ts[n]? = some t) : ts.Perm (t :: ts.eraseIdx n) := by
  obtain ⟨hlt, rfl⟩ := List.getElem?_eq_some_iff.1 h
  rw [List.eraseIdx_eq_take_drop_succ]
  conv => lhs; rw [← List.take_append_drop n ts, List.drop_eq_getElem_cons hlt]
  exact List.perm_middle

section
variable {w : World} {p fan : Nat} {ts : List Tg} {bm : Nat} {es : Array MapEntry} {clock h : Nat} {k : Kd}

theorem TreeAt.bm_F (ht : TreeAt w p fan ts bm es clock h k) : bm ∉ k.F := (List.nodup_cons.1 (List.nodup_cons.1 ht.nodup).2).1
theorem TreeAt.p_F (ht : TreeAt w p fan ts bm es clock h k) : p ∉ k.F := fun hx => (List.nodup_cons.1 ht.nodup).1 (by simp [hx])
theorem TreeAt.p_bm (ht : TreeAt w p fan ts bm es clock h k) : p ≠ bm := fun e => (List.nodup_cons.1 ht.nodup).1 (by simp [e])

/-- what drop of the root leaves, before the root is looked at -/
theorem treeDropped {t : Tg} {n : Nat} {b : Bool} {w1 w2 : World} (ht : TreeAt w p fan ts bm es clock h k) (hn : ts[n]? = some t) (hwd : Mod [] (ChangeMaps.setBlock w bm (.map (es.eraseIdxIfInBounds n) clock)) w1)
    (hd : DropRes fan (leastF fan) h k t w1 b w2) :
    ∃ k1, w2.heap[p]? = some (trO fan k1.p bm) ∧ w2.heap[bm]? = some (.map (es.eraseIdxIfInBounds n) clock) ∧ EntB (es.eraseIdxIfInBounds n) clock (ts.eraseIdx n) ∧ NodeAt w2 fan (leastF fan) h k1 ∧ k1.p = k.p ∧ k1.ts.Perm (ts.eraseIdx n) ∧ k1.n ≤ fan ∧ k.n ≤ k1.n + 1 ∧ (p :: bm :: k1.F).Nodup ∧
      (∀ x ∈ p :: bm :: k1.F, x ∈ p :: bm :: k.F ∨ w.heap.size ≤ x) ∧ Mod (p :: bm :: k.F) w w2 := by
  obtain ⟨hm0, hb0⟩ := setBlock_modT (.map (es.eraseIdxIfInBounds n) clock) ht.map
  have hm1 := hm0.trans hwd.nil
  have hb1 := (hwd.block bm (lt_of_block hb0) (by simp)).trans hb0
  have htm : t ∈ k.ts := ht.perm.mem_iff.2 (List.mem_of_getElem? hn)
  rcases hd with ⟨_, k1, a1, a2, a3, a4, a5, a6, a7, a8, a9⟩ | ⟨_, hno, _⟩
  · have hpl := lt_of_block ht.here
    have hbl := lt_of_block ht.map
    have hsz := hm1.size
    have hp1 := (hm1.block p hpl (by simpa using ht.p_bm)).trans ht.here
    have hout : ∀ y, y < w.heap.size → y ∉ k.F → y ∉ k1.F := fun y hy hyF hyk => by
      rcases a6 y hyk with h' | h'
      · exact hyF h'
      · omega
    refine ⟨k1, ?_, (a7.block bm (by omega) ht.bm_F).trans hb1, ht.ents.erase n, a1, a2, ?_, by have := ht.most; omega, a4, ?_, ?_, ?_⟩
    · rw [a2]
      exact (a7.block p (by omega) ht.p_F).trans hp1
    · exact (List.perm_cons t).1 ((a3.trans ht.perm).trans (erase_perm hn))
    · refine List.nodup_cons.2 ⟨fun hx => ?_, List.nodup_cons.2 ⟨hout bm hbl ht.bm_F, a1.ok.nodup⟩⟩
      rcases List.mem_cons.1 hx with e | hx
      · exact ht.p_bm e
      · exact hout p hpl ht.p_F hx
    · intro x hx
      rcases List.mem_cons.1 hx with rfl | hx
      · exact .inl (by simp)
      rcases List.mem_cons.1 hx with rfl | hx
      · exact .inl (by simp)
      rcases a6 x hx with h' | h'
      · exact .inl (by simp [h'])
      · exact .inr (by omega)
    · exact (hm1.mono (by simp)).trans (a7.mono (fun x hx => by simp [hx]))
  · exact absurd htm hno

theorem ids_erase {n : Nat} (ht : TreeAt w p fan ts bm es clock h k) : ((ts.eraseIdx n).map (·.id)).Nodup := ht.ids.sublist (List.Sublist.map _ (List.eraseIdx_sublist ..))

/-- the only kid is the root now -/
theorem treeOnly {w2 : World} {k1 d : Kd} {bv : Value} {ks : List Kd} {ts' : List Tg} {es' : Array MapEntry} {clock' h' : Nat} (hl : 2 ≤ leastF fan) (h1 : w2.heap[p]? = some (trO fan k1.p bm)) (h2 : w2.heap[bm]? = some (.map es' clock')) (h3 : EntB es' clock' ts') (hi : InnerAt w2 k1 bv ks) (hK : ∀ c ∈ ks, KidOk w2 fan (leastF fan) h' c) (hks : ks = [d])
    (hp : k1.ts.Perm ts') (hids : (ts'.map (·.id)).Nodup) (hnd : (p :: bm :: k1.F).Nodup) (hf4 : 4 ≤ fan) (hf : fan ≤ 16) :
    TreeAt (w2.setCell ⟨p, 1, none⟩ (.pointer (some ⟨d.p, 0, none⟩))) p fan ts' bm es' clock' h' d ∧ ∀ x ∈ d.F, x ∈ k1.F := by
  subst hks
  have hd := hK d (by simp)
  have hin : ∀ x ∈ d.F, x ∈ k1.F := hi.kid_F (by simp)
  have hn1 := List.nodup_cons.1 hnd
  have hn2 := List.nodup_cons.1 hn1.2
  have hm : Mod [p] w2 (w2.setCell ⟨p, 1, none⟩ (.pointer (some ⟨d.p, 0, none⟩))) := Mod.setCell _ _ _ (by simp)
  have hts : k1.ts = d.ts := by rw [hi.things]; simp [kts]
  refine ⟨⟨?_, (hm.block bm (lt_of_block h2) (by simp; exact fun e => hn1.1 (by simp [e]))).trans h2, h3, hd.1.kept hm (fun x hx => by simp; exact fun e => hn1.1 (by rw [← e]; simp [hin x hx])), hts ▸ hp, hd.2.2, .inr (by have := hd.2.1; omega), hids, ?_, hf4, hf⟩, hin⟩
  · rw [block_setCell h1]
    rfl
  · refine List.nodup_cons.2 ⟨fun hx => ?_, List.nodup_cons.2 ⟨fun hx => hn2.1 (hin _ hx), hd.1.ok.nodup⟩⟩
    rcases List.mem_cons.1 hx with e | hx
    · exact hn1.1 (by simp [e])
    · exact hn1.1 (by simp [hin _ hx])
end

set_option maxRecDepth 100000 in
set_option maxHeartbeats 1000000 in
theorem bDrop_any {w : World} {p fan : Nat} {ts : List Tg} {F : List Nat} (h : TreeRep w p fan ts F) (id : Int) :
    Calls Tryz.prog 35 #[.pointer (some ⟨p, 0, none⟩), .int .i64 id] w (BSetPost p fan (dropG ts id) F w) := by
  obtain ⟨bm, es, clock, hh, k, ht, rfl⟩ := h
  obtain ⟨c0, c1, c2⟩ := cell_trO ht.here
  have hrun := runT_look ht.map ht.ents.1 id
  cases hf : findG ts id with
  | none =>
    have e1 : lookV ts id = .pointer none := by unfold lookV; rw [hf]
    have e2 : dropG ts id = ts := by unfold dropG; rw [hf]
    rw [hf, e1] at hrun
    rw [e2]
    have HP := hideIt ht
    clear ht e1 e2 hf
    go_enter Tryz.func35, Tryz.ntmps35
    go_wp2
    exact bodyPost_ret (v := .tuple #[]) (by simp [results, Tryz.results35, go_sem]) rfl (⟨rfl, _, ⟨bm, es, clock, hh, k, HP.out, rfl⟩, fun x hx => .inl hx, Mod.refl _ _⟩)
  | some n =>
    obtain ⟨t, hget, hid, hgd⟩ := findG_get hf
    have e1 : lookV ts id = .pointer (some ⟨t.blk, 0, none⟩) := by unfold lookV; rw [hf]; simp only [hgd]
    have e2 : dropG ts id = ts.eraseIdx n := by unfold dropG; rw [hf]
    have hdel := fun ty => runT_drop ht.map ht.ents.1 id n hf ty
    rw [hf, e1] at hrun
    rw [e2]
    have hl : 2 ≤ leastF fan := by unfold leastF; omega
    have htm : t ∈ k.ts := ht.perm.mem_iff.2 (List.mem_of_getElem? hget)
    obtain ⟨hm1, hb1⟩ := setBlock_modT (.map (es.eraseIdxIfInBounds n) clock) ht.map
    have hcall := fun W (hW : Mod [] (ChangeMaps.setBlock w bm (.map (es.eraseIdxIfInBounds n) clock)) W) => drop_any ht.fan4 ht.fan16 hh W k t (ht.node.kept (hm1.trans hW.nil) (fun x hx => by simp; exact fun e => ht.bm_F (e ▸ hx))) ((ht.node.thing t htm).1.kept (hm1.trans hW.nil) (by simp; exact fun e => ht.bm_F (e ▸ (ht.node.thing t htm).2))) ht.most ht.least
    have b0 := cell_mod (Mod.drew _) ((hm1.cell (lt_of_block ht.here) (by simpa using ht.p_bm) 0).trans c0)
    have b1 := cell_mod (Mod.drew _) ((hm1.cell (lt_of_block ht.here) (by simpa using ht.p_bm) 1).trans c1)
    have hfan4 := ht.fan4
    have hfan := ht.fan16
    have HC := hideIt hcall
    have HT := hideIt ht
    have HG := hideIt hget
    clear ht e1 e2 hf hget hid hgd htm hm1 hb1 hcall
    go_enter Tryz.func35, Tryz.ntmps35
    go_wp2_with fail
    go_region_with (go_at_call 62; refine (HC.out _ (Mod.drew _)).mono ?_; rintro e w2 ⟨bb, rfl, hres⟩)
    all_goals
      obtain ⟨k1, d1, d2, d3, d4, d5, d6, d7, d8, d9, d10, d11⟩ := treeDropped HT.out HG.out (Mod.drew _) hres
      obtain ⟨f0, f1, f2⟩ := cell_trO d1
      have f3 := frozen_of_block d1 1
      have hor := HT.out.least
      cases hh with
      | zero =>
        obtain ⟨tv, hlf⟩ := d4
        obtain ⟨_, g5⟩ := cell_ndO hlf.here
        rw [d5] at g5 f1
        have HF := hideIt (show BSetPost p fan (ts.eraseIdx n) (p :: bm :: k.F) w (.returned (.tuple #[])) w2 from ⟨rfl, _, ⟨bm, _, _, 0, k1, ⟨d1, d2, d3, ⟨tv, hlf⟩, d6, d7, .inl rfl, ids_erase HT.out, d9, hfan4, hfan⟩, rfl⟩, d10, d11⟩)
        clear d5 d1 d2 d3 d6 d9 d10 d11 hlf hres HC
        go_wp2
        go_end0
        exact HF.out
      | succ h' =>
        obtain ⟨bv, ks, hi, hK⟩ := d4
        have hk2 : 1 ≤ k1.n := by rcases hor with e | e; (cases e); omega
        rcases ownV hi.row with ⟨_, h0⟩ | ⟨g, c, rfl⟩
        · omega
        obtain ⟨_, g5⟩ := cell_ndO hi.here
        rw [d5] at g5 f1
        have hnn : k1.n ≤ 16 := by omega
        by_cases hone : k1.n = 1
        · obtain ⟨d, rfl⟩ : ∃ d, ks = [d] := List.length_eq_one_iff.1 (hi.len.trans hone)
          obtain ⟨hfin, hin⟩ := treeOnly (ts' := ts.eraseIdx n) hl d1 d2 d3 hi hK rfl d6 (ids_erase HT.out) d9 hfan4 hfan
          have hkc : w2.cell? ⟨g, 0, none⟩ = some (.pointer (some ⟨d.p, 0, none⟩)) := owns_cell hi.row 0 _ (by simp [kblks, ptrs, ptr])
          have HF := hideIt (show BSetPost p fan (ts.eraseIdx n) (p :: bm :: k.F) w (.returned (.tuple #[])) (w2.setCell ⟨p, 1, none⟩ (.pointer (some ⟨d.p, 0, none⟩))) from ⟨rfl, _, ⟨bm, _, _, h', d, hfin, rfl⟩, fun x hx => d10 x (by
            rcases List.mem_cons.1 hx with rfl | hx
            · simp
            rcases List.mem_cons.1 hx with rfl | hx
            · simp
            · simp [hin x hx]), d11.trans (Mod.setCell _ _ _ (by simp))⟩)
          rw [hone] at g5
          clear d5 d1 d2 d3 d6 d9 d10 d11 hi hK hres HC hfin hin
          go_wp2
          go_end0
          exact HF.out
        · have hone' : ¬ ((k1.n : Int) = 1) := by omega
          have HF := hideIt (show BSetPost p fan (ts.eraseIdx n) (p :: bm :: k.F) w (.returned (.tuple #[])) w2 from ⟨rfl, _, ⟨bm, _, _, h' + 1, k1, ⟨d1, d2, d3, ⟨_, ks, hi, hK⟩, d6, d7, .inr (by omega), ids_erase HT.out, d9, hfan4, hfan⟩, rfl⟩, d10, d11⟩)
          clear d5 d1 d2 d3 d6 d9 d10 d11 hi hK hres HC
          go_wp2
          go_end0
          exact HF.out

end Go.Proofs.YthimaoipogocfaaGreat

namespace Go.Proofs.YthimaoipogocfaaGreat
open Go.RowKit Go.Maps

/-- the tree with a thing in its map that is not yet below its root -/
structure NewAt (w : World) (p fan : Nat) (ts : List Tg) (bm : Nat) (es : Array MapEntry) (clock h : Nat) (k : Kd) (t : Tg) : Prop where
  here : w.heap[p]? = some (trO fan k.p bm)
  map : w.heap[bm]? = some (.map es clock)
  ents : EntB es clock (ts ++ [t])
  node : NodeAt w fan (leastF fan) h k
  tg : TgAt w t
  tF : t.blk ∉ p :: bm :: k.F
  perm : k.ts.Perm ts
  most : k.n ≤ fan
  least : h = 0 ∨ 2 ≤ k.n
  ids : ((ts ++ [t]).map (·.id)).Nodup
  nodup : (p :: bm :: k.F).Nodup
  fan4 : 4 ≤ fan
  fan16 : fan ≤ 16

theorem findG_none {ts : List Tg} {id : Int} (h : findG ts id = none) : ∀ t ∈ ts, t.id ≠ id := fun t ht e => by
  unfold findG at h
  rw [List.findIdx?_eq_none_iff] at h
  have := h t ht
  simp [e] at this

theorem ids_snoc {ts : List Tg} {t : Tg} (h : (ts.map (·.id)).Nodup) (hn : findG ts t.id = none) : ((ts ++ [t]).map (·.id)).Nodup := by
  rw [List.map_append]
  refine List.nodup_append.2 ⟨h, by simp, fun a ha b hb e => ?_⟩
  simp only [List.map_cons, List.map_nil, List.mem_singleton] at hb
  obtain ⟨s, hs, rfl⟩ := List.mem_map.1 ha
  exact findG_none hn s hs (e.trans hb)

theorem findG_dropG {ts : List Tg} (h : (ts.map (·.id)).Nodup) (id : Int) : findG (dropG ts id) id = none := by
  unfold dropG
  cases hf : findG ts id with
  | none => simpa using hf
  | some n =>
    obtain ⟨t, hget, rfl, _⟩ := findG_get hf
    have hp := (erase_perm hget).map (·.id)
    have hn := hp.nodup_iff.1 h
    rw [List.map_cons, List.nodup_cons] at hn
    unfold findG
    rw [List.findIdx?_eq_none_iff]
    intro s hs
    simp only [beq_eq_false_iff_ne, ne_eq]
    exact fun e => hn.1 (List.mem_map.2 ⟨s, hs, e⟩)

theorem TreeAt.put {wd wb w : World} {p fan : Nat} {ts : List Tg} {bm : Nat} {es : Array MapEntry} {clock h : Nat} {k : Kd} {t : Tg} (ht : TreeAt wd p fan ts bm es clock h k) (hno : findG ts t.id = none) (hmb : Mod [] wd wb) (htg : TgAt wb t) (hnew : wd.heap.size ≤ t.blk)
    (hw : Mod [] (ChangeMaps.setBlock wb bm (.map (es.push ⟨.int .i64 t.id, .pointer (some ⟨t.blk, 0, none⟩), clock⟩) (clock + 1))) w) :
    NewAt w p fan ts bm (es.push ⟨.int .i64 t.id, .pointer (some ⟨t.blk, 0, none⟩), clock⟩) (clock + 1) h k t ∧ Mod [bm] wd w := by
  have htb := ht.kept hmb (by simp)
  obtain ⟨hm0, hb0⟩ := setBlock_modT (.map (es.push ⟨.int .i64 t.id, .pointer (some ⟨t.blk, 0, none⟩), clock⟩) (clock + 1)) htb.map
  have hm1 := hm0.trans hw.nil
  have hb1 := (hw.block bm (lt_of_block hb0) (by simp)).trans hb0
  have hlt : ∀ x ∈ p :: bm :: k.F, x < wd.heap.size := TreeRep.lt ⟨bm, es, clock, h, k, ht, rfl⟩
  refine ⟨⟨(hm1.block p (lt_of_block htb.here) (by simpa using ht.p_bm)).trans htb.here, hb1, ht.ents.push t, htb.node.kept hm1 (fun x hx => by simp; exact fun e => ht.bm_F (e ▸ hx)), htg.kept hm1 ?_, fun hx => ?_, ht.perm, ht.most, ht.least, ids_snoc ht.ids hno, ht.nodup, ht.fan4, ht.fan16⟩, hmb.nil.trans hm1⟩
  · have := hlt bm (by simp)
    simp
    omega
  · have := hlt _ hx
    omega

section
variable {w w4 : World} {p fan : Nat} {ts : List Tg} {bm : Nat} {es : Array MapEntry} {clock h : Nat} {k : Kd} {t : Tg}

theorem NewAt.p_bm (ht : NewAt w p fan ts bm es clock h k t) : p ≠ bm := fun e => (List.nodup_cons.1 ht.nodup).1 (by simp [e])
theorem NewAt.p_F (ht : NewAt w p fan ts bm es clock h k t) : p ∉ k.F := fun hx => (List.nodup_cons.1 ht.nodup).1 (by simp [hx])
theorem NewAt.bm_F (ht : NewAt w p fan ts bm es clock h k t) : bm ∉ k.F := (List.nodup_cons.1 (List.nodup_cons.1 ht.nodup).2).1

/-- two blocks of the tree that are no node's stay so -/
theorem NewAt.out (ht : NewAt w p fan ts bm es clock h k t) {G : List Nat} (hG : ∀ x ∈ G, x ∈ k.F ∨ x = t.blk ∨ w.heap.size ≤ x) : p ∉ G ∧ bm ∉ G := by
  have h1 := lt_of_block ht.here
  have h2 := lt_of_block ht.map
  have h3 := ht.tF
  simp only [List.mem_cons, not_or] at h3
  refine ⟨fun hx => ?_, fun hx => ?_⟩
  · rcases hG _ hx with h | h | h
    · exact ht.p_F h
    · exact h3.1 h.symm
    · omega
  · rcases hG _ hx with h | h | h
    · exact ht.bm_F h
    · exact h3.2.1 h.symm
    · omega

/-- no second node: the thing is in -/
theorem NewAt.one {k1 : Kd} (ht : NewAt w p fan ts bm es clock h k t) (hm : Mod k.F w w4) (a1 : NodeAt w4 fan (leastF fan) h k1) (a2 : k1.p = k.p) (a3 : k1.ts.Perm (t :: k.ts)) (a4 : k.n ≤ k1.n) (a5 : k1.n ≤ fan) (a6 : ∀ x ∈ k1.F, x ∈ k.F ∨ x = t.blk ∨ w.heap.size ≤ x) :
    TreeAt w4 p fan (ts ++ [t]) bm es clock h k1 := by
  obtain ⟨o1, o2⟩ := ht.out a6
  refine ⟨?_, (hm.block bm (lt_of_block ht.map) ht.bm_F).trans ht.map, ht.ents, a1, a3.trans ((ht.perm.cons t).trans (List.perm_append_singleton t ts).symm), a5, by have := ht.least; omega, ht.ids, ?_, ht.fan4, ht.fan16⟩
  · rw [a2]
    exact (hm.block p (lt_of_block ht.here) ht.p_F).trans ht.here
  · refine List.nodup_cons.2 ⟨fun hx => ?_, List.nodup_cons.2 ⟨o2, a1.ok.nodup⟩⟩
    rcases List.mem_cons.1 hx with e | hx
    · exact ht.p_bm e
    · exact o1 hx

/-- a new root of two, before it is fitted -/
structure RootMid (w6 : World) (p fan bm : Nat) (es : Array MapEntry) (clock h q g : Nat) (b0 : Bx) (k1 k2 : Kd) : Prop where
  here : w6.heap[p]? = some (trO fan q bm)
  map : w6.heap[bm]? = some (.map es clock)
  root : w6.heap[q]? = some (ndO b0 (.slice none 0 0) (.slice (some ⟨g, 0, none⟩) 2 2))
  row : w6.ownsRow 0 115 1 (.slice (some ⟨g, 0, none⟩) 2 2) 2 (ptrs (kblks [k1, k2]))
  kids : ∀ c ∈ [k1, k2], KidOk w6 fan (leastF fan) h c
  nodup : (p :: bm :: q :: g :: kF [k1, k2]).Nodup

theorem NewAt.two {k1 k2 : Kd} {w6 : World} {b0 : Bx} (ht : NewAt w p fan ts bm es clock h k t) (hm : Mod k.F w w4) (a1 : KidOk w4 fan (leastF fan) h k1) (a2 : KidOk w4 fan (leastF fan) h k2) (a3 : (k1.F ++ k2.F).Nodup) (a4 : ∀ x ∈ k1.F ++ k2.F, x ∈ k.F ∨ x = t.blk ∨ w.heap.size ≤ x)
    (hw6 : w6 = ((w4.setCell ⟨p, 1, none⟩ (.pointer (some ⟨w4.heap.size + 1, 0, none⟩))).alloc (.cells #[.pointer (some ⟨k1.p, 0, none⟩), .pointer (some ⟨k2.p, 0, none⟩)] 115)).alloc (ndO b0 (.slice none 0 0) (.slice (some ⟨w4.heap.size, 0, none⟩) 2 2))) :
    RootMid w6 p fan bm es clock h (w4.heap.size + 1) w4.heap.size b0 k1 k2 ∧ Mod (p :: k.F) w w6 := by
  obtain ⟨o1, o2⟩ := ht.out a4
  have hpl := lt_of_block ht.here
  have hbl := lt_of_block ht.map
  have hsz := hm.size
  have hp4 := (hm.block p hpl ht.p_F).trans ht.here
  have hb4 := (hm.block bm hbl ht.bm_F).trans ht.map
  have hp5 : (w4.setCell ⟨p, 1, none⟩ (.pointer (some ⟨w4.heap.size + 1, 0, none⟩))).heap[p]? = some (trO fan (w4.heap.size + 1) bm) := by
    rw [block_setCell hp4]
    rfl
  have hs5 : (w4.setCell ⟨p, 1, none⟩ (.pointer (some ⟨w4.heap.size + 1, 0, none⟩))).heap.size = w4.heap.size := by simp
  have hm5 : Mod [p] w4 (w4.setCell ⟨p, 1, none⟩ (.pointer (some ⟨w4.heap.size + 1, 0, none⟩))) := Mod.setCell _ _ _ (by simp)
  generalize w4.setCell ⟨p, 1, none⟩ (.pointer (some ⟨w4.heap.size + 1, 0, none⟩)) = w5 at *
  have hmA : Mod [] w5 w6 := by
    rw [hw6]
    exact (Mod.alloc _ _).trans (Mod.alloc _ _)
  have hm6 : Mod [p] w4 w6 := hm5.trans hmA.nil
  have hqr : w6.heap[w4.heap.size + 1]? = some (ndO b0 (.slice none 0 0) (.slice (some ⟨w4.heap.size, 0, none⟩) 2 2)) := by
    rw [hw6]
    have := heap_alloc_new (w5.alloc (.cells #[.pointer (some ⟨k1.p, 0, none⟩), .pointer (some ⟨k2.p, 0, none⟩)] 115)) (ndO b0 (.slice none 0 0) (.slice (some ⟨w4.heap.size, 0, none⟩) 2 2))
    rwa [show (w5.alloc (.cells #[.pointer (some ⟨k1.p, 0, none⟩), .pointer (some ⟨k2.p, 0, none⟩)] 115)).heap.size = w4.heap.size + 1 by simp [hs5]] at this
  have hrw : w6.heap[w4.heap.size]? = some (.cells #[.pointer (some ⟨k1.p, 0, none⟩), .pointer (some ⟨k2.p, 0, none⟩)] 115 (0, 0)) := by
    rw [hw6, Below.heap_alloc _ _ _ (by simp [hs5])]
    have := heap_alloc_new w5 (.cells #[.pointer (some ⟨k1.p, 0, none⟩), .pointer (some ⟨k2.p, 0, none⟩)] 115)
    rw [hs5] at this
    exact this
  have hl1 := NodeAt.lt a1.1
  have hl2 := NodeAt.lt a2.1
  have hltA : ∀ x ∈ k1.F ++ k2.F, x < w4.heap.size := fun x hx => (List.mem_append.1 hx).elim (hl1 x) (hl2 x)
  have hF : kF [k1, k2] = k1.F ++ k2.F := by simp [kF]
  refine ⟨⟨?_, (hm6.block bm (by omega) (by simp; exact fun e => ht.p_bm e.symm)).trans hb4, hqr, ?_, fun c hc => ?_, ?_⟩, ?_⟩
  · exact (hmA.block p (by omega) (by simp)).trans hp5
  · exact owns_new hrw rfl (by unfold maxLen; omega) (Nat.zero_le _)
  · have hout : ∀ x ∈ c.F, x ∉ [p] := fun x hx => by
      simp only [List.mem_singleton]
      rintro rfl
      refine o1 ?_
      simp only [List.mem_cons, List.not_mem_nil, or_false] at hc
      rcases hc with rfl | rfl
      · exact List.mem_append_left _ hx
      · exact List.mem_append_right _ hx
    simp only [List.mem_cons, List.not_mem_nil, or_false] at hc
    rcases hc with rfl | rfl
    · exact a1.kept hm6 hout
    · exact a2.kept hm6 hout
  · rw [hF]
    refine List.nodup_cons.2 ⟨fun hx => ?_, List.nodup_cons.2 ⟨fun hx => ?_, List.nodup_cons.2 ⟨fun hx => ?_, List.nodup_cons.2 ⟨fun hx => ?_, a3⟩⟩⟩⟩
    · simp only [List.mem_cons] at hx
      rcases hx with e | e | e | hx
      · exact ht.p_bm e
      · omega
      · omega
      · exact o1 hx
    · simp only [List.mem_cons] at hx
      rcases hx with e | e | hx
      · omega
      · omega
      · exact o2 hx
    · rcases List.mem_cons.1 hx with e | hx
      · omega
      · have := hltA _ hx
        omega
    · have := hltA _ hx
      omega
  · exact (hm.mono (fun x hx => by simp [hx])).trans (hm6.mono (by simp))

theorem RootMid.fitted {w6 w7 : World} {q g : Nat} {b0 : Bx} {k1 k2 : Kd} {e : Ending} (hR : RootMid w6 p fan bm es clock h q g b0 k1 k2) (hfit : FitPost q (.slice none 0 0) (.slice (some ⟨g, 0, none⟩) 2 2) ([k1, k2].map Kd.bx) w6 e w7) {ts' : List Tg} (he : EntB es clock ts') (hp : (k1.ts ++ k2.ts).Perm ts') (hids : (ts'.map (·.id)).Nodup) (hf4 : 4 ≤ fan) (hf : fan ≤ 16) :
    ∃ k', TreeAt w7 p fan ts' bm es clock (h + 1) k' ∧ k'.F = q :: g :: (k1.F ++ k2.F) := by
  obtain ⟨b1, _, hm, hq, n1, c1, ok1, _⟩ := hfit
  have hn := hR.nodup
  simp only [List.nodup_cons, List.mem_cons, not_or] at hn
  obtain ⟨⟨p1, p2, p3, p4⟩, ⟨b2, b3, b4⟩, ⟨q1, q2⟩, g1, nF⟩ := hn
  have hF : kF [k1, k2] = k1.F ++ k2.F := by simp [kF]
  have hts : kts [k1, k2] = k1.ts ++ k2.ts := by simp [kts]
  have h0 : 0 < leastF fan := by unfold leastF; omega
  have hK : ∀ c ∈ [k1, k2], KidOk w7 fan (leastF fan) h c := fun c hc => (hR.kids c hc).kept hm (fun x hx => by
    simp only [List.mem_singleton]
    rintro rfl
    exact q2 (mem_kF hc hx))
  refine ⟨⟨q, b1, kts [k1, k2], q :: g :: kF [k1, k2], 2⟩, ⟨(hm.block p (lt_of_block hR.here) (by simpa using p2)).trans hR.here, (hm.block bm (lt_of_block hR.map) (by simpa using b2)).trans hR.map, he, ⟨_, [k1, k2], ⟨hq, owns_kept hR.row hm (fun x hx => by simp [Value.ownBlock] at hx; subst hx; simpa using fun e => q1 e.symm), rfl, rfl, rfl, ⟨?_, n1, ?_, fun _ => ok1 (by simp), fun e => absurd e (kts_ne (by simp) hK h0)⟩⟩, hK⟩, ?_, by simp; omega, .inr (Nat.le_refl _), hids, ?_, hf4, hf⟩, ?_⟩
  · simp only [List.nodup_cons, List.mem_cons, not_or]
    exact ⟨⟨q1, q2⟩, g1, nF⟩
  · intro t ht
    obtain ⟨d, hd, htd⟩ := List.mem_flatMap.1 ht
    exact ((hK d hd).1.ok.cover t htd).trans (c1 _ (List.mem_map.2 ⟨d, hd, rfl⟩))
  · show (kts [k1, k2]).Perm ts'
    rw [hts]
    exact hp
  · exact hR.nodup
  · show q :: g :: kF [k1, k2] = _
    rw [hF]
end

end Go.Proofs.YthimaoipogocfaaGreat

namespace Go.Proofs.YthimaoipogocfaaGreat
open Go.RowKit Go.Maps
attribute [local go_sem] run_store_f32 run_neg_inf

def BPutPost (p fan : Nat) (ts : List Tg) (id x0 y0 x1 y1 : Int) (F : List Nat) (w : World) (e : Ending) (w' : World) : Prop := ∃ blk, BSetPost p fan (dropG ts id ++ [⟨blk, id, x0, y0, x1, y1⟩]) F w e w'

theorem putFoot {w wd W w4 : World} {F : List Nat} {p bm tb : Nat} {kF' G : List Nat} (hF : ∀ x ∈ p :: bm :: kF', x ∈ F ∨ w.heap.size ≤ x) (hMd : Mod F w wd) (hMW : Mod [bm] wd W) (ht : wd.heap.size ≤ tb) (h4 : Mod (p :: kF') W w4) (hG : ∀ x ∈ G, x ∈ p :: bm :: kF' ∨ x = tb ∨ W.heap.size ≤ x) :
    (∀ x ∈ G, x ∈ F ∨ w.heap.size ≤ x) ∧ Mod F w w4 := by
  have s1 := hMd.size
  have s2 := hMW.size
  refine ⟨fun x hx => ?_, (hMd.then hMW (fun x hx => hF x (by simp at hx; simp [hx]))).then h4 (fun x hx => hF x (by simp at hx; rcases hx with h | h <;> simp [h]))⟩
  rcases hG x hx with h | h | h
  · exact hF x h
  · exact .inr (by omega)
  · exact .inr (by omega)

set_option maxRecDepth 100000 in
set_option maxHeartbeats 2000000 in
theorem bPut_any {w : World} {p fan : Nat} {ts : List Tg} {F : List Nat} (h : TreeRep w p fan ts F) (id : Int) {x0 y0 x1 y1 : Int} (hr : RectOk x0 y0 x1 y1) :
    Calls Tryz.prog 42 #[.pointer (some ⟨p, 0, none⟩), .int .i64 id, R4 x0 y0 x1 y1] w (BPutPost p fan ts id x0 y0 x1 y1 F w) := by
  have hm0 : Mod [] w (w.alloc (B4 x0 y0 x1 y1)) := Mod.alloc _ _
  have h1 := h.kept hm0 (by simp)
  have hids : (ts.map (·.id)).Nodup := by obtain ⟨_, _, _, _, _, ht, _⟩ := h; exact ht.ids
  have hpb : w.heap.size ∉ F := fun hx => absurd (h.lt _ hx) (Nat.lt_irrefl _)
  have hcall := bDrop_any h1 id
  have HC := hideIt hcall
  have HM0 := hideIt hm0
  have hb0 := heap_alloc_new w (B4 x0 y0 x1 y1)
  have HB0 := hideIt hb0
  clear h h1 hcall hm0 hb0
  go_enter Tryz.func42, Tryz.ntmps42
  go_wp2_with fail
  refine HC.out.mono ?_
  rintro e wd ⟨rfl, F1, ⟨bm, es, clock, hh, k, ht, rfl⟩, hF1, hmd⟩
  have hF1' : ∀ x ∈ p :: bm :: k.F, x ∈ F ∨ w.heap.size ≤ x := fun x hx => by
    rcases hF1 x hx with h | h
    · exact .inl h
    · exact .inr (by simp at h; omega)
  have hmd' : Mod F w wd := HM0.out.nil.trans hmd
  have hbd := (hmd.block w.heap.size (by simp) hpb).trans HB0.out
  have cy : ∀ o, wd.drew.cell? ⟨w.heap.size, o, none⟩ = (#[Value.int .i64 x0, .int .i64 y0, .int .i64 x1, .int .i64 y1] : Array Value)[o]? := fun o => cell_of_block (((Mod.drew (F := []) wd).block _ (lt_of_block hbd) (by simp)).trans hbd) o
  have y0' := cy 0
  have y1' := cy 1
  have y2' := cy 2
  have y3' := cy 3
  simp only [List.getElem?_toArray, List.getElem?_cons_zero, List.getElem?_cons_succ] at y0' y1' y2' y3'
  have HF1 := hideIt hF1'
  have HMD := hideIt hmd'
  have HT := hideIt ht
  have HNO := hideIt (findG_dropG hids id)
  clear hF1 hF1' hmd hmd' hbd cy ht HC HM0 HB0 hids
  obtain ⟨ts1, he1⟩ : ∃ l, dropG ts id = l := ⟨_, rfl⟩
  rw [he1] at HT HNO
  have HE := hideIt he1
  clear he1
  go_wp2_with fail
  go_region_with (go_at_call 65; refine (boxOf_any hr _).mono ?_; rintro e w' ⟨rfl, hm⟩; have x0' := cell_mod hm y0'; have x1' := cell_mod hm y1'; have x2' := cell_mod hm y2'; have x3' := cell_mod hm y3')
  all_goals
    have hmw : Mod [] wd w' := (Mod.drew wd).trans hm
    obtain ⟨t, et⟩ : ∃ t : Tg, t = ⟨w'.heap.size, id, x0, y0, x1, y1⟩ := ⟨_, rfl⟩
    have htg : TgAt (w'.alloc (tgO t)) t := ⟨by rw [et]; exact heap_alloc_new w' _, by rw [et]; exact hr⟩
    have hmb : Mod [] wd (w'.alloc (tgO t)) := hmw.trans (Mod.alloc _ _)
    have hnew : wd.heap.size ≤ t.blk := by rw [et]; exact hmw.size
    have htid : t.id = id := by rw [et]
    have eO : tgO t = .cells #[.float .f32 (Bx.of x0 y0 x1 y1).x0, .float .f32 (Bx.of x0 y0 x1 y1).y0, .float .f32 (Bx.of x0 y0 x1 y1).x1, .float .f32 (Bx.of x0 y0 x1 y1).y1, .int .i64 id, .int .i64 x0, .int .i64 y0, .int .i64 x1, .int .i64 y1] 130 := by rw [et]; rfl
    have eb : t.blk = w'.heap.size := by rw [et]
    rw [eO] at htg hmb
    clear eO
    generalize w'.alloc (.cells #[.float .f32 (Bx.of x0 y0 x1 y1).x0, .float .f32 (Bx.of x0 y0 x1 y1).y0, .float .f32 (Bx.of x0 y0 x1 y1).x1, .float .f32 (Bx.of x0 y0 x1 y1).y1, .int .i64 id, .int .i64 x0, .int .i64 y0, .int .i64 x1, .int .i64 y1] 130) = wb at *
    rw [← eb]
    clear eb
    have hno : findG ts1 t.id = none := htid ▸ HNO.out
    have htb := HT.out.kept hmb (by simp)
    have hput := runT_put htb.map htb.ents.1 t hno
    rw [htid] at hput
    obtain ⟨c0, c1, c2⟩ := cell_trO htb.here
    obtain ⟨hms, _⟩ := setBlock_modT (.map (es.push ⟨.int .i64 t.id, .pointer (some ⟨t.blk, 0, none⟩), clock⟩) (clock + 1)) htb.map
    rw [htid] at hms
    have b0 := cell_mod (Mod.drew _) ((hms.cell (lt_of_block htb.here) (by simpa using HT.out.p_bm) 0).trans c0)
    have b1 := cell_mod (Mod.drew _) ((hms.cell (lt_of_block htb.here) (by simpa using HT.out.p_bm) 1).trans c1)
    have hNA := fun W => HT.out.put (w := W) hno hmb htg hnew
    rw [htid] at hNA
    have HNA := hideIt hNA
    have HTID := hideIt et
    clear hNA hms htb htg hmb hno HNO HT hm x0' x1' x2' x3' y0' y1' y2' y3' et htid hmw
    go_wp2_with fail
    obtain ⟨hna, hmW⟩ := HNA.out _ (Mod.drew _)
    have hfin4 := hna.fan4
    have hfin16 := hna.fan16
    have hcall := put_any hfin4 hfin16 hh _ k t hna.node hna.tg (fun hx => hna.tF (by simp [hx])) hna.most (by have := hna.least; omega)
    have HC := hideIt hcall
    have HN := hideIt hna
    have HMW := hideIt hmW
    clear hna hmW hcall
    go_region_with (go_at_call 66; refine HC.out.mono ?_; rintro e w4 ⟨v, rfl, hres, hm4⟩)
    all_goals
      rcases hres with ⟨rfl, k1, a1, a2, a3, a4, a5, a6⟩ | ⟨k1, k2, rfl, a1, a2, a3, a4, a5, a6, a7, a8, a9, a10⟩
      · have hone := HN.out.one hm4 a1 a2 a3 a4 a5 a6
        obtain ⟨f1, f2⟩ := putFoot (G := p :: bm :: k1.F) HF1.out HMD.out HMW.out hnew (hm4.mono (fun x hx => by simp [hx])) (fun x hx => by
          rcases List.mem_cons.1 hx with rfl | hx
          · simp
          rcases List.mem_cons.1 hx with rfl | hx
          · simp
          · rcases a6 x hx with h | h | h
            · simp [h]
            · simp [h]
            · exact .inr (.inr h))
        have HFin := hideIt (show BPutPost p fan ts id x0 y0 x1 y1 F w (.returned (.tuple #[])) w4 from ⟨w'.heap.size, rfl, _, ⟨bm, _, _, hh, k1, by rw [HE.out, ← HTID.out]; exact hone, rfl⟩, f1, f2⟩)
        clear hone f1 f2 a1 a2 a3 a4 a5 a6 hm4 HC HN b0 b1 c0 c1 c2 hput
        go_wp2
        go_end0
        exact HFin.out
      · have hp4 := (hm4.block p (lt_of_block HN.out.here) HN.out.p_F).trans HN.out.here
        rw [← a3] at hp4
        obtain ⟨hR, hM6⟩ := HN.out.two (b0 := ⟨0, 0, 0, 0⟩) hm4 ⟨a1, a5, a7⟩ ⟨a2, a6, a8⟩ a9 a10 rfl
        obtain ⟨g0, g1, g2⟩ := cell_trO hp4
        have hplt := lt_of_block hp4
        have hmA : Mod [] w4 ((w4.alloc (.cells #[.pointer (some ⟨k1.p, 0, none⟩), .pointer (some ⟨k2.p, 0, none⟩)] 115)).alloc (ndO ⟨0, 0, 0, 0⟩ (.slice none 0 0) (.slice (some ⟨w4.heap.size, 0, none⟩) 2 2))) := (Mod.alloc _ _).trans (Mod.alloc _ _)
        have g3 := frozen_of_block ((hmA.block p hplt (by simp)).trans hp4) 1
        have g4 := frozen_of_block hp4 1
        obtain ⟨_, r1, _⟩ := cell_trO hR.here
        have hfc := fit_inner hR.root hR.row (fun c hc => ⟨(hR.kids c hc).1.hasBx, (hR.kids c hc).bxok (by unfold leastF; omega), fun e => by
          have hn := hR.nodup
          simp only [List.nodup_cons] at hn
          exact hn.2.2.1 (by rw [← e]; exact List.mem_cons_of_mem _ (mem_kF hc (hR.kids c hc).1.p_mem))⟩) (fun g hg => by simp [Value.ownBlock] at hg; omega) (by simp)
        have HFC := hideIt hfc
        have HR := hideIt hR
        have HM6 := hideIt hM6
        have HPP := hideIt (show (k1.ts ++ k2.ts).Perm (ts1 ++ [t]) from a4.trans ((HN.out.perm.cons t).trans (List.perm_append_singleton t ts1).symm))
        have HA := hideIt (show ∀ x ∈ k1.F ++ k2.F, x ∈ p :: bm :: k.F ∨ x = t.blk ∨ _ ≤ x from fun x hx => by
          rcases a10 x hx with h | h | h
          · exact .inl (by simp [h])
          · exact .inr (.inl h)
          · exact .inr (.inr h))
        unfold ndO bxC at g3 r1 HFC HR HM6 hmA
        clear a1 a2 a3 a4 a5 a6 a7 a8 a9 a10 hR hM6 hfc hp4 hmA b0 b1 c0 c1 c2 hput HC
        go_wp2_with fail
        refine HFC.out.mono ?_
        intro e w7 hfit
        obtain ⟨k', hT', hF'⟩ := HR.out.fitted hfit HN.out.ents HPP.out HN.out.ids hfin4 hfin16
        have hs4 := hm4.size
        obtain ⟨b', rfl, hm7, _⟩ := hfit
        obtain ⟨f1, f2⟩ := putFoot (G := p :: bm :: k'.F) HF1.out HMD.out HMW.out hnew (HM6.out.then hm7 (fun x hx => .inr (by simp at hx; omega))) (fun x hx => by
          rcases List.mem_cons.1 hx with rfl | hx
          · simp
          rcases List.mem_cons.1 hx with rfl | hx
          · simp
          rw [hF'] at hx
          rcases List.mem_cons.1 hx with rfl | hx
          · exact .inr (.inr (by omega))
          rcases List.mem_cons.1 hx with rfl | hx
          · exact .inr (.inr hs4)
          · exact HA.out x hx)
        have HFin := hideIt (show BPutPost p fan ts id x0 y0 x1 y1 F w (.returned (.tuple #[])) w7 from ⟨w'.heap.size, rfl, _, ⟨bm, _, _, _, k', by rw [HE.out, ← HTID.out]; exact hT', rfl⟩, f1, f2⟩)
        clear hT' hF' f1 f2 hm7 hm4 HFC HR HM6 HPP HA HN g0 g1 g2 g3 g4 r1
        go_wp2
        go_end0
        exact HFin.out

end Go.Proofs.YthimaoipogocfaaGreat

namespace Go.Proofs.YthimaoipogocfaaGreat
open Go.RowKit
attribute [local go_sem] run_store_f32 run_neg_inf

theorem dec_true {p : Prop} [Decidable p] (h : p) : true = decide p := (decide_eq_true h).symm
theorem dec_false {p : Prop} [Decidable p] (h : ¬ p) : false = decide p := (decide_eq_false h).symm

def fanB (n : Int) : Bool := decide (4 ≤ n ∧ n ≤ 16)
theorem fanB_true {n : Int} (h : 4 ≤ n ∧ n ≤ 16) : true = fanB n := dec_true h
theorem fanB_false {n : Int} (h : ¬ (4 ≤ n ∧ n ≤ 16)) : false = fanB n := dec_false h
theorem fanB_iff {n : Int} : fanB n = true ↔ (4 ≤ n ∧ n ≤ 16) := by simp [fanB]

theorem isFan_any (n : Int) (w : World) : Calls Tryz.prog 59 #[.int .i64 n] w fun e w' => e = .returned (.bool (fanB n)) ∧ w' = w := by
  by_cases h1 : 4 ≤ n
  · by_cases h2 : n ≤ 16
    · go_enter Tryz.func59, Tryz.ntmps59
      go_wp2
      go_ret
      exact ⟨ret_bool (fanB_true (by omega)), rfl⟩
    · go_enter Tryz.func59, Tryz.ntmps59
      go_wp2
      go_ret
      exact ⟨ret_bool (fanB_false (by omega)), rfl⟩
  · go_enter Tryz.func59, Tryz.ntmps59
    go_wp2
    go_ret
    exact ⟨ret_bool (fanB_false (by omega)), rfl⟩

def idB (n : Int) : Bool := decide (0 ≤ n ∧ n ≤ 4095)
theorem idB_true {n : Int} (h : 0 ≤ n ∧ n ≤ 4095) : true = idB n := dec_true h
theorem idB_false {n : Int} (h : ¬ (0 ≤ n ∧ n ≤ 4095)) : false = idB n := dec_false h
theorem idB_iff {n : Int} : idB n = true ↔ (0 ≤ n ∧ n ≤ 4095) := by simp [idB]

theorem isID_any (n : Int) (w : World) : Calls Tryz.prog 40 #[.int .i64 n] w fun e w' => e = .returned (.bool (idB n)) ∧ w' = w := by
  by_cases h1 : 0 ≤ n
  · by_cases h2 : n ≤ 4095
    · go_enter Tryz.func40, Tryz.ntmps40
      go_wp2
      go_ret
      exact ⟨ret_bool (idB_true (by omega)), rfl⟩
    · go_enter Tryz.func40, Tryz.ntmps40
      go_wp2
      go_ret
      exact ⟨ret_bool (idB_false (by omega)), rfl⟩
  · go_enter Tryz.func40, Tryz.ntmps40
    go_wp2
    go_ret
    exact ⟨ret_bool (idB_false (by omega)), rfl⟩

def coordB (n : Int) : Bool := decide (-1000000000 ≤ n ∧ n ≤ 1000000000)
theorem coordB_true {n : Int} (h : -1000000000 ≤ n ∧ n ≤ 1000000000) : true = coordB n := dec_true h
theorem coordB_false {n : Int} (h : ¬ (-1000000000 ≤ n ∧ n ≤ 1000000000)) : false = coordB n := dec_false h
theorem coordB_iff {n : Int} : coordB n = true ↔ (-1000000000 ≤ n ∧ n ≤ 1000000000) := by simp [coordB]

theorem isCoord_any (n : Int) (w : World) : Calls Tryz.prog 72 #[.int .i64 n] w fun e w' => e = .returned (.bool (coordB n)) ∧ w' = w := by
  by_cases h1 : -1000000000 ≤ n
  · by_cases h2 : n ≤ 1000000000
    · go_enter Tryz.func72, Tryz.ntmps72
      go_wp2
      go_ret
      exact ⟨ret_bool (coordB_true (by omega)), rfl⟩
    · go_enter Tryz.func72, Tryz.ntmps72
      go_wp2
      go_ret
      exact ⟨ret_bool (coordB_false (by omega)), rfl⟩
  · go_enter Tryz.func72, Tryz.ntmps72
    go_wp2
    go_ret
    exact ⟨ret_bool (coordB_false (by omega)), rfl⟩

/-- A place. -/
def placeB (x y : Int) : Bool := decide ((-1000000000 ≤ x ∧ x ≤ 1000000000) ∧ (-1000000000 ≤ y ∧ y ≤ 1000000000))
theorem placeB_true {x y : Int} (h : (-1000000000 ≤ x ∧ x ≤ 1000000000) ∧ (-1000000000 ≤ y ∧ y ≤ 1000000000)) : true = placeB x y := dec_true h
theorem placeB_false {x y : Int} (h : ¬ ((-1000000000 ≤ x ∧ x ≤ 1000000000) ∧ (-1000000000 ≤ y ∧ y ≤ 1000000000))) : false = placeB x y := dec_false h
theorem placeB_iff {x y : Int} : placeB x y = true ↔ ((-1000000000 ≤ x ∧ x ≤ 1000000000) ∧ (-1000000000 ≤ y ∧ y ≤ 1000000000)) := by simp [placeB]

theorem isPlace_any (x y : Int) (w : World) : Calls Tryz.prog 44 #[.int .i64 x, .int .i64 y] w fun e w' => e = .returned (.bool (placeB x y)) ∧ w' = w := by
  have hpl : placeB x y = (coordB x && coordB y) := by simp [placeB, coordB]
  have H : Hid (placeB x y = (coordB x && coordB y)) := hpl
  clear hpl
  cases hx : coordB x with
  | true =>
    go_enter Tryz.func44, Tryz.ntmps44
    go_wp2_with fail
    refine (isCoord_any x _).mono ?_
    rw [hx]
    rintro e w' ⟨rfl, rfl⟩
    go_wp2_with fail
    refine (isCoord_any y _).mono ?_
    rintro e w' ⟨rfl, rfl⟩
    go_wp2
    go_ret
    exact ⟨ret_bool (by rw [H.out, hx]; rfl), rfl⟩
  | false =>
    go_enter Tryz.func44, Tryz.ntmps44
    go_wp2_with fail
    refine (isCoord_any x _).mono ?_
    rw [hx]
    rintro e w' ⟨rfl, rfl⟩
    go_wp2
    go_ret
    exact ⟨ret_bool (by rw [H.out, hx]; rfl), rfl⟩

/-- A rectangle. -/
def rectB (x0 y0 x1 y1 : Int) : Bool := placeB x0 y0 && placeB x1 y1 && decide (x0 ≤ x1) && decide (y0 ≤ y1)


theorem isRect_any (x0 y0 x1 y1 : Int) (w : World) : Calls Tryz.prog 41 #[R4 x0 y0 x1 y1] w fun e w' => e = .returned (.bool (rectB x0 y0 x1 y1)) ∧ w' = w.alloc (B4 x0 y0 x1 y1) := by
  cases hp : placeB x0 y0 with
  | false =>
    go_enter Tryz.func41, Tryz.ntmps41
    go_wp2_with fail
    refine (isPlace_any x0 y0 _).mono ?_
    rw [hp]
    rintro e w' ⟨rfl, rfl⟩
    go_wp2
    go_ret
    exact ⟨ret_bool (by simp [rectB, hp]), rfl⟩
  | true =>
    cases hq : placeB x1 y1 with
    | false =>
      go_enter Tryz.func41, Tryz.ntmps41
      go_wp2_with fail
      refine (isPlace_any x0 y0 _).mono ?_
      rw [hp]
      rintro e w' ⟨rfl, rfl⟩
      go_wp2_with fail
      refine (isPlace_any x1 y1 _).mono ?_
      rw [hq]
      rintro e w' ⟨rfl, rfl⟩
      go_wp2
      go_ret
      exact ⟨ret_bool (by simp [rectB, hp, hq]), rfl⟩
    | true =>
      by_cases h1 : x0 ≤ x1 <;> by_cases h2 : y0 ≤ y1
      all_goals
        go_enter Tryz.func41, Tryz.ntmps41
        go_wp2_with fail
        refine (isPlace_any x0 y0 _).mono ?_
        rw [hp]
        rintro e w' ⟨rfl, rfl⟩
        go_wp2_with fail
        refine (isPlace_any x1 y1 _).mono ?_
        rw [hq]
        rintro e w' ⟨rfl, rfl⟩
        go_wp2
        go_ret
        refine ⟨ret_bool ?_, rfl⟩
        simp [rectB, hp, hq]
        try omega

theorem rectB_ok {x0 y0 x1 y1 : Int} (h : rectB x0 y0 x1 y1 = true) : RectOk x0 y0 x1 y1 := by
  simp only [rectB, Bool.and_eq_true, decide_eq_true_eq, placeB] at h
  unfold RectOk
  omega

theorem rectOk_B {x0 y0 x1 y1 : Int} (h : RectOk x0 y0 x1 y1) : rectB x0 y0 x1 y1 = true := by
  unfold RectOk at h
  simp only [rectB, Bool.and_eq_true, decide_eq_true_eq, placeB]
  omega

end Go.Proofs.YthimaoipogocfaaGreat

