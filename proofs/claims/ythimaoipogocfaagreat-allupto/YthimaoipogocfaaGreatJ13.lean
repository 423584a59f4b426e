import Derived.Test.YthimaoipogocfaaGreatJ12
import Derived.Maps.OwnSet
namespace Go.Proofs.YthimaoipogocfaaGreat
open Go.RowKit Go.Sort
attribute [local go_sem] run_store_f32 run_neg_inf

/-- what the taking out from below a kid owes, from here -/
def DropIH (fan lo h : Nat) : Prop := ∀ (w : World) (c : Kd) (t : Tg), NodeAt w fan lo h c → TgAt w t → c.n ≤ fan → 2 ≤ c.n → Calls Tryz.prog 62 #[.pointer (some ⟨c.p, 0, none⟩), .pointer (some ⟨t.blk, 0, none⟩), .int .i64 fan] w (DropPost fan lo h c t w)

theorem DropRes.thing {fan lo h : Nat} {k : Kd} {t : Tg} {w : World} {b : Bool} {w' : World} (hr : DropRes fan lo h k t w b w') (ht : TgAt w t) : TgAt w' t := by
  rcases hr with ⟨_, _, _, _, _, _, _, _, _, h, _⟩ | ⟨_, _, hm⟩
  · exact h
  · exact ht.kept hm (by simp)

theorem meets_thing {k : Kd} {t : Tg} (hk : KdOk k) (ht : t ∈ k.ts) (hr : RectOk t.x0 t.y0 t.x1 t.y1) : k.bx.meets t.bx = true := by
  have hw := Bx.of_wide hr
  exact Bx.meets_self_of_in (hk.cover t ht) hw.1 hw.2

theorem at_split {α : Type} {l : List α} {i : Nat} (h : i < l.length) : l = l.take i ++ l[i] :: l.drop (i + 1) ∧ (l.take i).length = i := by
  constructor
  · rw [List.getElem_cons_drop, List.take_append_drop]
  · simp; omega

set_option maxRecDepth 100000 in
set_option maxHeartbeats 2000000 in
theorem drop_inner {w : World} {fan h : Nat} {k : Kd} {t : Tg} (IH : DropIH fan (leastF fan) h) (hk : NodeAt w fan (leastF fan) (h + 1) k) (ht : TgAt w t) (hn : k.n ≤ fan) (hk2 : 2 ≤ k.n) (hf4 : 4 ≤ fan) (hf : fan ≤ 16) :
    Calls Tryz.prog 62 #[.pointer (some ⟨k.p, 0, none⟩), .pointer (some ⟨t.blk, 0, none⟩), .int .i64 fan] w (DropPost fan (leastF fan) (h + 1) k t w) := by
  have hlo : leastF fan ≤ 6 ∧ 2 ≤ leastF fan := by unfold leastF; omega
  have hl0 : 0 < leastF fan := by omega
  obtain ⟨bv0, ks, hi, hK0⟩ := hk
  have hK : ∀ c ∈ ks, KidOk w fan (leastF fan) h c := hK0
  rcases ownV hi.row with ⟨_, h0⟩ | ⟨g, cc, rfl⟩
  · omega
  obtain ⟨c4, c5⟩ := cell_ndO hi.here
  obtain ⟨rest, hro, _, _, hlr, _, _⟩ := owns_rowT hi.row
  have hlen := hi.len
  have HI := hideIt hi
  have HK := hideIt hK
  have HT := hideIt ht
  have HIH := hideIt IH
  have HRO := hideIt hro
  clear hi hK hK0 ht IH hro
  go_enter Tryz.func62, Tryz.ntmps62
  go_wp2_with fail
  refine (index_nil t w).mono ?_
  rintro e w1 ⟨i, rfl, hi0, rfl⟩
  have hi1 : i = -1 := by
    rcases hi0 with ⟨e, _⟩ | ⟨j, _, hj⟩
    · exact e
    · simp at hj
  subst hi1
  clear hi0
  go_wp2_with fail
  go_loopw [36] (fun i wr => ∃ kk : Nat, kk ≤ k.n ∧ i = .int .i64 kk ∧ Mod [] w wr ∧ Hid (∀ d ∈ ks.take kk, t ∉ d.ts)) (fun i _ => k.n - (intOf i).toNat)
  case atStart => exact ⟨0, by omega, rfl, Mod.refl _ _, hideIt (fun d hd => by simp at hd)⟩
  case round =>
    clear c4 c5
    obtain ⟨kk, hkk, rfl, hmr, hno⟩ := hrel
    by_cases hlt : kk < k.n
    · have hlt' : (kk : Int) < (k.n : Int) := by omega
      have hkl : kk < ks.length := by omega
      obtain ⟨hsp, hspl⟩ := at_split hkl
      have hdm : ks[kk] ∈ ks := List.getElem_mem hkl
      have hstep : ks.take (kk + 1) = ks.take kk ++ [ks[kk]] := List.take_succ_eq_append_getElem hkl
      have cI := cell_mod hmr (rowO_get HRO.out (j := kk) (p := ks[kk].p) (by simp [kblks, hkl]))
      have hd := (HK.out ks[kk] hdm).kept hmr (by simp)
      obtain ⟨d0, d1, d2, d3⟩ := (show Cells4 wr ks[kk].p ks[kk].bx from by
        obtain ⟨rs, hh⟩ := hd.1.hasBx
        exact cell_bxC hh)
      obtain ⟨t0, t1, t2, t3⟩ := (HT.out.kept hmr (by simp)).cells
      have hnum := hd.1.ok.num
      have HD := hideIt hd
      have HSP := hideIt (And.intro hsp hspl)
      have HST := hideIt hstep
      have HDM := hideIt hdm
      have HMR := hideIt hmr
      have HNUM := hideIt hnum
      clear hsp hspl hstep hdm hmr hd hnum
      generalize ks[kk] = d at *
      cases hmt : d.bx.meets t.bx with
      | false =>
        have HME := hideIt (show ∀ W, Calls Tryz.prog 98 #[bxV d.bx, bxV (Bx.of t.x0 t.y0 t.x1 t.y1)] W (GrownPost (.bool false) W) from fun W => by
          have := meets_grown HNUM.out (Bx.of_ok HT.out.rect).num W
          rw [show d.bx.meets (Bx.of t.x0 t.y0 t.x1 t.y1) = false from hmt] at this
          exact this)
        have HNT := hideIt (show t ∉ d.ts from fun hx => by
          have := meets_thing HD.out.1.ok hx HT.out.rect
          rw [hmt] at this
          cases this)
        clear hmt
        go_wp2_with fail
        have mixed := mixedP
        have ld := fun (o : Nat) (v : Value) (hv : wr.cell? ⟨d.p, o, none⟩ = some v) => cell_grown (a := ⟨d.p, o, none⟩) (World.block_lt_of_cell? wr _ hv) hv
        have lt := fun (o : Nat) (v : Value) (hv : wr.cell? ⟨t.blk, o, none⟩ = some v) => cell_grown (a := ⟨t.blk, o, none⟩) (World.block_lt_of_cell? wr _ hv) hv
        have y0 := ld 0 _ d0
        have y1 := ld 1 _ d1
        have y2 := ld 2 _ d2
        have y3 := ld 3 _ d3
        have z0 := lt 0 _ t0
        have z1 := lt 1 _ t1
        have z2 := lt 2 _ t2
        have z3 := lt 3 _ t3
        clear ld lt
        go_quiet_grown (first
          | (go_at_call 69; refine Calls.grown_of (edges_grown ⟨_, _, _, _⟩ _))
          | (go_at_call 98; refine Calls.grown_of (HME.out _)))
        · have hmm : Mod [] w (grow (wr.drewN nq) osq) := HMR.out.trans (mod_grow _ _ _)
          generalize grow (wr.drewN nq) osq = w'' at *
          clear y0 y1 y2 y3 z0 z1 z2 z3
          go_wp2_with fail
          go_roundw
          case rel =>
            refine ⟨kk + 1, by omega, by go_num, hmm, hideIt (fun u hu => ?_)⟩
            rw [HST.out] at hu
            rcases List.mem_append.1 hu with hu | hu
            · exact hno.out u hu
            · simp at hu
              subst hu
              exact HNT.out
          case measure => simp [intOf]; omega
      | true =>
        have HME := hideIt (show ∀ W, Calls Tryz.prog 98 #[bxV d.bx, bxV (Bx.of t.x0 t.y0 t.x1 t.y1)] W (BoolPost true W) from fun W => by
          have := meets_any HNUM.out (Bx.of_ok HT.out.rect).num W
          rw [show d.bx.meets (Bx.of t.x0 t.y0 t.x1 t.y1) = true from hmt] at this
          exact this)
        clear hmt
        have HDR := hideIt (fun W (hW : Mod [] wr W) => HIH.out W d t (HD.out.kept hW (by simp)).1 ((HT.out.kept HMR.out (by simp)).kept hW (by simp)) HD.out.2.2 (by have := HD.out.2.1; omega))
        have y0 := cell_mod (Mod.drew wr) d0
        have y1 := cell_mod (Mod.drew wr) d1
        have y2 := cell_mod (Mod.drew wr) d2
        have y3 := cell_mod (Mod.drew wr) d3
        go_wp2_with fail
        go_region_with (first
          | (go_at_call 69; refine (edges_any ⟨_, _, _, _⟩ _).mono ?_; rintro e w' ⟨rfl, hm⟩; have x0 := cell_mod hm y0; have x1 := cell_mod hm y1; have x2 := cell_mod hm y2; have x3 := cell_mod hm y3)
          | (go_at_call 98; refine (HME.out _).mono ?_; rintro e w4 ⟨rfl, hm2⟩)
          | (go_at_call 62; refine (HDR.out _ (((Mod.drew wr).trans hm).trans hm2)).mono ?_; rintro e w5 ⟨bb, rfl, hres⟩))
        all_goals
          have hm04 : Mod [] w w4 := ((HMR.out.trans (Mod.drew _)).trans hm).trans hm2
          have HM04 := hideIt hm04
          clear hm hm2 x0 x1 x2 x3 y0 y1 y2 y3 d0 d1 d2 d3 t0 t1 t2 t3 hm04 HME HDR cI
          rcases hres with ⟨rfl, q, a1, a2, a3, a4, a5, a6, a7, a8, a9⟩ | ⟨rfl, hnt, hm5⟩
          · have hiS : InnerAt w k (.slice (some ⟨g, 0, none⟩) k.n cc) (ks.take kk ++ d :: ks.drop (kk + 1)) := by rw [← HSP.out.1]; exact HI.out
            have hKS : ∀ c ∈ ks.take kk ++ d :: ks.drop (kk + 1), KidOk w fan (leastF fan) h c := by rw [← HSP.out.1]; exact HK.out
            obtain ⟨k', e1, e2, e3, b1, b2, b3, b4, b5, b6⟩ := afterDrop hiS hKS HM04.out hl0 hk2 a1 a2 a3 a6 a7 a9
            have hdn := HD.out.2.1
            have hdf := HD.out.2.2
            have hme := mend_any hf4 hf b1 b2 a1 (by omega) (by omega) (by omega) (by omega)
            rw [HSP.out.2, e1] at hme
            have hkp : k.p ∈ k.F := by rw [HI.out.foot]; simp
            have hkp' : k'.p ∈ k'.F := by rw [b1.foot]; simp
            have HMEND := hideIt hme
            have HB := hideIt (And.intro e1 (And.intro e3 (And.intro b3 (And.intro b4 (And.intro b5 (And.intro b6 (And.intro a8 (And.intro hkp hkp'))))))))
            clear hiS hKS b1 b2 b3 b4 b5 b6 a1 a3 a6 a7 a8 a9 hme hkp hkp' hno
            go_wp2_with fail
            refine HMEND.out.mono ?_
            intro e w6 h6
            obtain ⟨bv, ks', rfl, m1, m2, m3, m4, m5, m6, m7, m8, m9⟩ := h6
            have hsep := List.nodup_cons.1 m7
            rw [e1] at m1
            have hks : ks'.length ≤ 1000 := by omega
            have HMM := hideIt (And.intro m2 (And.intro m3 (And.intro m4 (And.intro m5 (And.intro m6 (And.intro m7 (And.intro m8 m9)))))))
            clear m2 m3 m4 m7 m8 m9 HMEND
            go_wp2_with fail
            refine (fit_inner m1 HMM.out.1 (fun c hc => ⟨(HMM.out.2.1 c hc).1.hasBx, (HMM.out.2.1 c hc).bxok hl0, fun e => hsep.1 (by rw [e1, ← e]; exact List.mem_append_right _ (mem_kF hc (HMM.out.2.1 c hc).1.p_mem))⟩) (fun x hx e => hsep.1 (by rw [e1, ← e, hx]; simp)) hks).mono ?_
            intro e w7 h7
            have hfin : DropRes fan (leastF fan) (h + 1) k t w true w7 := by
              rw [← HB.out.1] at h7 m1
              exact dropFin HB.out.1 HB.out.2.1 HB.out.2.2.1 HB.out.2.2.2.1 HB.out.2.2.2.2.1 HB.out.2.2.2.2.2.2.2.1 hl0 hk2 HB.out.2.2.2.2.2.1 HB.out.2.2.2.2.2.2.1 HB.out.2.2.2.2.2.2.2.2 ⟨rfl, m1, HMM.out⟩ h7
            obtain ⟨_, rfl, _⟩ := h7
            have HF := hideIt hfin
            clear hfin m1 hsep
            go_wp2
            go_ret
            exact ⟨true, rfl, HF.out⟩
          · have hmm : Mod [] w w5 := HM04.out.trans hm5
            have HNT := hideIt hnt
            clear hm5 hnt HM04
            go_wp2_with fail
            go_roundw
            case rel =>
              refine ⟨kk + 1, by omega, by go_num, hmm, hideIt (fun u hu => ?_)⟩
              rw [HST.out] at hu
              rcases List.mem_append.1 hu with hu | hu
              · exact hno.out u hu
              · simp at hu
                subst hu
                exact HNT.out
            case measure => simp [intOf]; omega
    · have hge : ¬ ((kk : Int) < (k.n : Int)) := by omega
      have hall : ks.take kk = ks := List.take_of_length_le (by omega)
      rw [hall] at hno
      have HN := hideIt (show t ∉ k.ts from fun hx => by
        rw [HI.out.things] at hx
        obtain ⟨d, hd, htd⟩ := List.mem_flatMap.1 hx
        exact hno.out d hd htd)
      clear hno hall
      go_wp2
      go_ret
      exact ⟨false, rfl, .inr ⟨rfl, HN.out, hmr⟩⟩

/-- DROP, of every height. -/
theorem drop_any {fan : Nat} (hf4 : 4 ≤ fan) (hf : fan ≤ 16) : ∀ (h : Nat) (w : World) (k : Kd) (t : Tg), NodeAt w fan (leastF fan) h k → TgAt w t → k.n ≤ fan → (h = 0 ∨ 2 ≤ k.n) → Calls Tryz.prog 62 #[.pointer (some ⟨k.p, 0, none⟩), .pointer (some ⟨t.blk, 0, none⟩), .int .i64 fan] w (DropPost fan (leastF fan) h k t w)
  | 0, _, _, _, hk, ht, hn, _ => drop_leaf hk ht (by omega)
  | h + 1, _, _, _, hk, ht, hn, hor => drop_inner (fun w c t hc ht hcn hc2 => drop_any hf4 hf h w c t hc ht hcn (.inr hc2)) hk ht hn (by rcases hor with e | e; (cases e); exact e) hf4 hf

end Go.Proofs.YthimaoipogocfaaGreat

namespace Go.Proofs.YthimaoipogocfaaGreat
open Go.RowKit Go.Maps
attribute [local go_sem] run_store_f32 run_neg_inf

def tgKV (t : Tg) : Value × Value := (.int .i64 t.id, .pointer (some ⟨t.blk, 0, none⟩))
def entryKV (e : MapEntry) : Value × Value := (e.key, e.val)

/-- the map's entries are the things, in their order -/
def EntP (es : List MapEntry) (ts : List Tg) : Prop := es.map entryKV = ts.map tgKV
def findG (ts : List Tg) (id : Int) : Option Nat := ts.findIdx? (fun t => t.id == id)
def tg0 : Tg := ⟨0, 0, 0, 0, 0, 0⟩

theorem EntP.length {es : List MapEntry} {ts : List Tg} (h : EntP es ts) : es.length = ts.length := by
  have := congrArg List.length h
  simpa using this

theorem EntP.cons {e : MapEntry} {es : List MapEntry} {t : Tg} {ts : List Tg} (h : EntP (e :: es) (t :: ts)) : e.key = .int .i64 t.id ∧ e.val = .pointer (some ⟨t.blk, 0, none⟩) ∧ EntP es ts := by
  simp only [EntP, List.map_cons, List.cons.injEq] at h
  exact ⟨congrArg Prod.fst h.1, congrArg Prod.snd h.1, h.2⟩

theorem EntP.find : ∀ (es : List MapEntry) (ts : List Tg) (id : Int) (i : Nat), EntP es ts → Instr.findNow (.int .i64) (.int .i64 id) es i = some ((findG ts id).map fun n => (i + n, .pointer (some ⟨(ts.getD n tg0).blk, 0, none⟩)))
  | [], [], _, _, _ => rfl
  | [], t :: ts, id, i, h => by have := h.length; simp at this
  | e :: es, [], id, i, h => by have := h.length; simp at this
  | e :: es, t :: ts, id, i, h => by
    obtain ⟨h1, h2, h3⟩ := h.cons
    have ih := EntP.find es ts id (i + 1) h3
    have hc : findG (t :: ts) id = if t.id = id then some 0 else (findG ts id).map (· + 1) := by
      simp [findG, List.findIdx?_cons]
    have hs : Instr.sameNow (.int .i64) (.int .i64 id) e.key = some (id == t.id) := by
      rw [h1]
      simp [Instr.sameNow]
    rw [hc]
    unfold Instr.findNow
    rw [hs]
    by_cases hid : t.id = id
    · subst hid
      simp [h2]
    · have hne : (id == t.id) = false := by simp; exact fun e => hid e.symm
      rw [hne]
      simp only [ih, if_neg hid]
      cases findG ts id with
      | none => rfl
      | some n =>
        simp
        omega

theorem EntP.push {es : Array MapEntry} {ts : List Tg} (h : EntP es.toList ts) (t : Tg) (b : Nat) : EntP (es.push ⟨.int .i64 t.id, .pointer (some ⟨t.blk, 0, none⟩), b⟩).toList (ts ++ [t]) := by
  simp only [EntP, Array.toList_push, List.map_append] at h ⊢
  rw [h]
  rfl

theorem EntP.erase {es : Array MapEntry} {ts : List Tg} (h : EntP es.toList ts) (n : Nat) : EntP (es.eraseIdxIfInBounds n).toList (ts.eraseIdx n) := by
  simp only [EntP] at h ⊢
  have e : ∀ {A : Type} (f : A → Value × Value) (l : List A), (l.eraseIdx n).map f = (l.map f).eraseIdx n := fun f l => by
    rw [List.eraseIdx_eq_take_drop_succ, List.eraseIdx_eq_take_drop_succ, List.map_append, List.map_take, List.map_drop]
  rw [Array.toList_eraseIdxIfInBounds, e, e, h]

/-- no two entries came at one time, and none later than now -/
def Born (es : Array MapEntry) (clock : Nat) : Prop := (∀ x ∈ es.toList, x.born < clock) ∧ (es.toList.map (·.born)).Nodup
def EntB (es : Array MapEntry) (clock : Nat) (ts : List Tg) : Prop := EntP es.toList ts ∧ Born es clock
theorem EntB.nil : EntB #[] 0 [] := ⟨rfl, fun x hx => by simp at hx, by simp⟩
theorem EntB.push {es : Array MapEntry} {clock : Nat} {ts : List Tg} (h : EntB es clock ts) (t : Tg) : EntB (es.push ⟨.int .i64 t.id, .pointer (some ⟨t.blk, 0, none⟩), clock⟩) (clock + 1) (ts ++ [t]) := by
  refine ⟨h.1.push t clock, fun x hx => ?_, ?_⟩
  · rw [Array.toList_push] at hx
    rcases List.mem_append.1 hx with hx | hx
    · have := h.2.1 x hx
      omega
    · simp only [List.mem_singleton] at hx
      subst hx
      exact Nat.lt_succ_self _
  · rw [Array.toList_push, List.map_append]
    refine List.nodup_append.2 ⟨h.2.2, by simp, fun a ha b hb e => ?_⟩
    obtain ⟨x, hx, rfl⟩ := List.mem_map.1 ha
    simp only [List.map_cons, List.map_nil, List.mem_singleton] at hb
    have := h.2.1 x hx
    omega
theorem EntB.erase {es : Array MapEntry} {clock : Nat} {ts : List Tg} (h : EntB es clock ts) (n : Nat) : EntB (es.eraseIdxIfInBounds n) clock (ts.eraseIdx n) := by
  have e := Array.toList_eraseIdxIfInBounds (xs := es) (i := n)
  refine ⟨h.1.erase n, fun x hx => h.2.1 x ?_, ?_⟩
  · rw [e] at hx
    exact List.mem_of_mem_eraseIdx hx
  · rw [e]
    exact h.2.2.sublist ((List.eraseIdx_sublist _ _).map _)

section
variable {w : World} {bm : Nat} {es : Array MapEntry} {clock : Nat} {ts : List Tg}

theorem runT_check (w : World) (em : Bool) (id : Int) : (Instr.checkKey em 10000 3 (.int .i64 id)).run Tryz.prog w = .ok () w :=
  MapKept.run_checkKey Tryz.underlying3 (by simp [MapKept.IsKey]) em 9999

theorem runT_find (he : EntP es.toList ts) (w : World) (id : Int) : (Instr.findKey 3 (.int .i64 id) es.toList).run Tryz.prog w = .ok ((findG ts id).map fun n => (n, .pointer (some ⟨(ts.getD n tg0).blk, 0, none⟩))) w := by
  have h := EntP.find es.toList ts id 0 he
  simp only [Nat.zero_add] at h
  simp [Instr.findKey, run_underlying Tryz.underlying3, h]

/-- what a look-up gives -/
def lookV (ts : List Tg) (id : Int) : Value := match findG ts id with | some n => .pointer (some ⟨(ts.getD n tg0).blk, 0, none⟩) | none => .pointer none

theorem runT_look (hb : w.heap[bm]? = some (.map es clock)) (he : EntP es.toList ts) (id : Int) :
    (Instr.lookup 116 (.map (some bm)) (.int .i64 id) true).run Tryz.prog w = .ok (.tuple #[lookV ts id, .bool (findG ts id).isSome]) w := by
  unfold lookV
  cases hf : findG ts id with
  | none => simp [Instr.lookup, run_underlying Tryz.underlying116, MapKept.run_getObj_map hb, runT_check, runT_find he, hf, Result.andThen]
  | some n => simp [Instr.lookup, run_underlying Tryz.underlying116, MapKept.run_getObj_map hb, runT_check, runT_find he, hf, Result.andThen]

theorem runT_len (hb : w.heap[bm]? = some (.map es clock)) (he : EntP es.toList ts) (ty : TypeId) : (Builtin.len_ #[116] ty #[.map (some bm)]).run Tryz.prog w = .ok (.int .i64 ts.length) w := by
  have := he.length
  simp [Builtin.len_, run_underlying Tryz.underlying116, MapKept.run_getObj_map hb, goInt, Result.andThen]
  have h : es.size = ts.length := by simpa using this
  omega

theorem runT_put (hb : w.heap[bm]? = some (.map es clock)) (he : EntP es.toList ts) (t : Tg) (hf : findG ts t.id = none) :
    (Instr.mapUpdate 116 (.map (some bm)) (.int .i64 t.id) (.pointer (some ⟨t.blk, 0, none⟩))).run Tryz.prog w = .ok () (ChangeMaps.setBlock w bm (.map (es.push ⟨.int .i64 t.id, .pointer (some ⟨t.blk, 0, none⟩), clock⟩) (clock + 1))) := by
  simp [Instr.mapUpdate, run_underlying Tryz.underlying116, MapKept.run_getObj_map hb, runT_check, runT_find he, hf, MapKept.run_setObj_map _ hb, Result.andThen, ChangeMaps.setBlock]

theorem runT_drop (hb : w.heap[bm]? = some (.map es clock)) (he : EntP es.toList ts) (id : Int) (n : Nat) (hf : findG ts id = some n) (ty : TypeId) :
    (Builtin.delete_ #[116, 3] ty #[.map (some bm), .int .i64 id]).run Tryz.prog w = .ok (.tuple #[]) (ChangeMaps.setBlock w bm (.map (es.eraseIdxIfInBounds n) clock)) := by
  simp [Builtin.delete_, run_underlying Tryz.underlying116, MapKept.run_getObj_map hb, runT_check, runT_find he, hf, MapKept.run_setObj_map _ hb, Result.andThen, ChangeMaps.setBlock]
end

theorem setBlock_modT {w : World} {b : Nat} {o : Obj} (o' : Obj) (hb : w.heap[b]? = some o) : Mod [b] w (ChangeMaps.setBlock w b o') ∧ (ChangeMaps.setBlock w b o').heap[b]? = some o' := by
  refine ⟨⟨rfl, rfl, rfl, by simp [ChangeMaps.setBlock], fun k _ hk => ?_⟩, ?_⟩
  · simp only [List.mem_singleton] at hk
    simp only [ChangeMaps.setBlock]
    rw [Array.getElem?_setIfInBounds_ne (fun e => hk e.symm)]
  · simp only [ChangeMaps.setBlock]
    rw [Array.getElem?_setIfInBounds_self_of_lt (lt_of_block hb)]

abbrev trO (fan rp bm : Nat) : Obj := .cells #[.int .i64 fan, .pointer (some ⟨rp, 0, none⟩), .map (some bm)] 118 (0, 0)

/-- THE TREE OF BOXES IN MEMORY. -/
structure TreeAt (w : World) (p fan : Nat) (ts : List Tg) (bm : Nat) (es : Array MapEntry) (clock h : Nat) (k : Kd) : Prop where
  here : w.heap[p]? = some (trO fan k.p bm)
  map : w.heap[bm]? = some (.map es clock)
  ents : EntB es clock ts
  node : NodeAt w fan (leastF fan) h k
  perm : k.ts.Perm ts
  most : k.n ≤ fan
  least : h = 0 ∨ 2 ≤ k.n
  ids : (ts.map (·.id)).Nodup
  nodup : (p :: bm :: k.F).Nodup
  fan4 : 4 ≤ fan
  fan16 : fan ≤ 16

def TreeRep (w : World) (p fan : Nat) (ts : List Tg) (F : List Nat) : Prop := ∃ bm es clock h k, TreeAt w p fan ts bm es clock h k ∧ F = p :: bm :: k.F

theorem cell_trO {w : World} {p fan rp bm : Nat} (h : w.heap[p]? = some (trO fan rp bm)) : w.cell? ⟨p, 0, none⟩ = some (.int .i64 fan) ∧ w.cell? ⟨p, 1, none⟩ = some (.pointer (some ⟨rp, 0, none⟩)) ∧ w.cell? ⟨p, 2, none⟩ = some (.map (some bm)) := by
  refine ⟨?_, ?_, ?_⟩ <;> rw [cell_of_block h] <;> rfl

theorem TreeAt.kept {w w' : World} {p fan : Nat} {ts : List Tg} {bm : Nat} {es : Array MapEntry} {clock h : Nat} {k : Kd} {G : List Nat} (ht : TreeAt w p fan ts bm es clock h k) (hm : Mod G w w') (hf : ∀ x ∈ p :: bm :: k.F, x ∉ G) : TreeAt w' p fan ts bm es clock h k :=
  ⟨(hm.block p (lt_of_block ht.here) (hf p (by simp))).trans ht.here, (hm.block bm (lt_of_block ht.map) (hf bm (by simp))).trans ht.map, ht.ents, ht.node.kept hm (fun x hx => hf x (by simp [hx])), ht.perm, ht.most, ht.least, ht.ids, ht.nodup, ht.fan4, ht.fan16⟩

theorem TreeRep.kept {w w' : World} {p fan : Nat} {ts : List Tg} {F G : List Nat} (ht : TreeRep w p fan ts F) (hm : Mod G w w') (hf : ∀ x ∈ F, x ∉ G) : TreeRep w' p fan ts F := by
  obtain ⟨bm, es, clock, h, k, ht, rfl⟩ := ht
  exact ⟨bm, es, clock, h, k, ht.kept hm hf, rfl⟩

theorem TreeRep.lt {w : World} {p fan : Nat} {ts : List Tg} {F : List Nat} (ht : TreeRep w p fan ts F) : ∀ x ∈ F, x < w.heap.size := by
  obtain ⟨bm, es, clock, h, k, ht, rfl⟩ := ht
  intro x hx
  rcases List.mem_cons.1 hx with rfl | hx
  · exact lt_of_block ht.here
  rcases List.mem_cons.1 hx with rfl | hx
  · exact lt_of_block ht.map
  · exact NodeAt.lt ht.node x hx

/-! ### Len, Height -/
set_option maxRecDepth 100000 in
theorem bLen_any {w : World} {p fan : Nat} {ts : List Tg} {F : List Nat} (h : TreeRep w p fan ts F) :
    Calls Tryz.prog 39 #[.pointer (some ⟨p, 0, none⟩)] w fun e w' => e = .returned (.int .i64 ts.length) ∧ w = w' := by
  obtain ⟨bm, es, clock, hh, k, ht, rfl⟩ := h
  obtain ⟨c0, c1, c2⟩ := cell_trO ht.here
  have hrun := runT_len ht.map ht.ents.1
  clear ht
  go_enter Tryz.func39, Tryz.ntmps39
  go_wp2
  go_ret
  exact ⟨rfl, rfl⟩

/-- a way down from a node to a leaf -/
theorem NodeAt.down {w : World} {fan lo h : Nat} {k : Kd} (hk : NodeAt w fan lo (h + 1) k) (hn : 0 < k.n) : ∃ g c d, w.heap[k.p]? = some (ndO k.bx (.slice none 0 0) (.slice (some ⟨g, 0, none⟩) k.n c)) ∧ w.cell? ⟨g, 0, none⟩ = some (.pointer (some ⟨d.p, 0, none⟩)) ∧ KidOk w fan lo h d := by
  obtain ⟨bv, ks, hi, hK⟩ := hk
  rcases ownV hi.row with ⟨_, h0⟩ | ⟨g, c, rfl⟩
  · omega
  obtain ⟨rest, hro, _, _, hlr, _, _⟩ := owns_rowT hi.row
  cases ks with
  | nil => have := hi.len; simp at this; omega
  | cons d ks => exact ⟨g, c, d, hi.here, rowO_get hro (by simp [kblks]), hK d (by simp)⟩

set_option maxRecDepth 100000 in
set_option maxHeartbeats 400000 in
theorem bHeight_any {w : World} {p fan : Nat} {ts : List Tg} {bm : Nat} {es : Array MapEntry} {clock h : Nat} {k : Kd} (ht : TreeAt w p fan ts bm es clock h k) (hh : h ≤ 1000) :
    Calls Tryz.prog 130 #[.pointer (some ⟨p, 0, none⟩)] w fun e w' => e = .returned (.int .i64 ((h : Int) + 1)) ∧ w = w' := by
  obtain ⟨c0, c1, c2⟩ := cell_trO ht.here
  have HT := hideIt ht
  have hlo : 2 ≤ leastF fan := by unfold leastF; omega
  clear ht
  go_enter Tryz.func130, Tryz.ntmps130
  go_wp2_with fail
  go_loop [3, 4] (fun lv n => ∃ (j : Nat) (d : Kd), j ≤ h ∧ lv = .int .i64 ((j : Int) + 1) ∧ n = .pointer (some ⟨d.p, 0, none⟩) ∧ Hid (NodeAt w fan (leastF fan) (h - j) d ∧ (h - j = 0 ∨ 0 < d.n))) (fun lv _ => h + 1 - (intOf lv).toNat)
  case atStart => exact ⟨0, k, by omega, rfl, rfl, hideIt ⟨HT.out.node, by have := HT.out.least; omega⟩⟩
  case round =>
    obtain ⟨j, d, hj, rfl, rfl, hd⟩ := hrel
    by_cases hlt : j < h
    · obtain ⟨m, hm⟩ : ∃ m, h - j = m + 1 := ⟨h - j - 1, by omega⟩
      have hdn : 0 < d.n := by have := hd.out.2; omega
      have hnode : NodeAt w fan (leastF fan) (m + 1) d := hm ▸ hd.out.1
      obtain ⟨g, c, q, hp, hc, hq⟩ := hnode.down hdn
      obtain ⟨_, c5⟩ := cell_ndO hp
      have hpos : (0 : Int) < (d.n : Int) := by omega
      have HQ := hideIt hq
      have HP := hideIt hp
      clear hd hnode hp hq c0 c1 c2
      go_wp2_with fail
      refine (isLeaf_some HP.out hdn).mono ?_
      rintro e w1 ⟨rfl, rfl⟩
      go_wp2_with fail
      go_round
      case rel => exact ⟨j + 1, q, by omega, by go_num, rfl, hideIt ⟨by rw [show h - (j + 1) = m by omega]; exact HQ.out.1, .inr (by have := HQ.out.2.1; omega)⟩⟩
      case measure => simp [intOf]; omega
    · have hjh : j = h := by omega
      subst hjh
      have hnode : NodeAt w fan (leastF fan) 0 d := by have := hd.out.1; rwa [Nat.sub_self] at this
      obtain ⟨tv, hl⟩ := hnode
      have HL := hideIt hl
      clear hd hl c0 c1 c2
      go_wp2_with fail
      refine (isLeaf_nil HL.out.here).mono ?_
      rintro e w1 ⟨rfl, rfl⟩
      go_wp2
      go_ret
      exact ⟨rfl, rfl⟩

end Go.Proofs.YthimaoipogocfaaGreat

namespace Go.Proofs.YthimaoipogocfaaGreat
open Go.RowKit Go.Maps
attribute [local go_sem] run_store_f32 run_neg_inf

def BNewPost (fan : Nat) (w : World) (e : Ending) (w' : World) : Prop := ∃ p F, e = .returned (.pointer (some ⟨p, 0, none⟩)) ∧ TreeRep w' p fan [] F ∧ (∀ x ∈ F, w.heap.size ≤ x) ∧ Mod [] w w'

theorem newTree {fan : Nat} {w w1 : World} {b : Bx} {e : Ending} (hf4 : 4 ≤ fan) (hf : fan ≤ 16) (hfit : FitPost w.heap.size (.slice none 0 0) (.slice none 0 0) ([].map Tg.bx) (w.alloc (ndO b (.slice none 0 0) (.slice none 0 0))) e w1) :
    BNewPost fan w (.returned (.pointer (some ⟨w1.heap.size + 1, 0, none⟩))) ((w1.alloc (.map #[] 0)).alloc (trO fan w.heap.size w1.heap.size)) := by
  obtain ⟨b1, _, hm1, hp1, n1, _, _, no1⟩ := hfit
  have hz : w.heap.size < w1.heap.size := lt_of_block hp1
  have hmA : Mod [] w1 ((w1.alloc (.map #[] 0)).alloc (trO fan w.heap.size w1.heap.size)) := (Mod.alloc _ _).trans (Mod.alloc _ _)
  have hmW : Mod [] w w1 := (Mod.alloc w _).then hm1 (fun x hx => .inr (by simp at hx; omega))
  have hT : ((w1.alloc (.map #[] 0)).alloc (trO fan w.heap.size w1.heap.size)).heap[w1.heap.size + 1]? = some (trO fan w.heap.size w1.heap.size) := by
    have := heap_alloc_new (w1.alloc (.map #[] 0)) (trO fan w.heap.size w1.heap.size)
    simpa using this
  have hM : ((w1.alloc (.map #[] 0)).alloc (trO fan w.heap.size w1.heap.size)).heap[w1.heap.size]? = some (.map #[] 0) := by
    rw [Below.heap_alloc _ _ _ (by simp)]
    exact heap_alloc_new w1 _
  have hR := (hmA.block w.heap.size hz (by simp)).trans hp1
  refine ⟨w1.heap.size + 1, [w1.heap.size + 1, w1.heap.size, w.heap.size], rfl, ⟨w1.heap.size, #[], 0, 0, ⟨w.heap.size, b1, [], [w.heap.size], 0⟩, ⟨hT, hM, EntB.nil, ⟨.slice none 0 0, ⟨hR, World.ownsRow_nil _ _ _ _, rfl, (fun t ht => by cases ht), (by simp [Value.ownBlock, tblks]), ⟨by simp, n1, (fun t ht => by cases ht), fun h => absurd rfl h, fun _ => no1 rfl⟩⟩⟩, .refl _, by simp, .inl rfl, by simp, ?_, hf4, hf⟩, rfl⟩, fun x hx => ?_, hmW.trans hmA⟩
  · simp
    omega
  · simp at hx
    omega

set_option maxRecDepth 100000 in
set_option maxHeartbeats 400000 in
theorem bNew_any {fan : Nat} (hf4 : 4 ≤ fan) (hf : fan ≤ 16) (w : World) : Calls Tryz.prog 60 #[.int .i64 fan] w (BNewPost fan w) := by
  have hmm := @run_makeMap Tryz.prog
  go_enter Tryz.func60, Tryz.ntmps60
  go_wp2_with fail
  refine (fit_leaf (ts := []) (b := ⟨0, 0, 0, 0⟩) (tv := .slice none 0 0) (heap_alloc_new w _) (World.ownsRow_nil _ _ _ _) (fun t ht => by cases ht) (by simp)).mono ?_
  intro e w1 h1
  have hfin := newTree hf4 hf h1
  obtain ⟨_, rfl, _⟩ := h1
  have HF := hideIt hfin
  clear hfin
  go_wp2
  go_ret
  exact HF.out

/-! ### Get -/
def rectOfG (ts : List Tg) (id : Int) : Value := match findG ts id with | some n => R4 (ts.getD n tg0).x0 (ts.getD n tg0).y0 (ts.getD n tg0).x1 (ts.getD n tg0).y1 | none => R4 0 0 0 0
def BGetPost (ts : List Tg) (id : Int) (w : World) (e : Ending) (w' : World) : Prop := e = .returned (.tuple #[rectOfG ts id, .bool (findG ts id).isSome]) ∧ Mod [] w w'

theorem findG_get {ts : List Tg} {id : Int} {n : Nat} (h : findG ts id = some n) : ∃ t, ts[n]? = some t ∧ t.id = id ∧ ts.getD n tg0 = t := by
  unfold findG at h
  obtain ⟨hlt, hp, _⟩ := List.findIdx?_eq_some_iff_getElem.1 h
  refine ⟨ts[n], List.getElem?_eq_getElem hlt, by simpa using hp, by simp [List.getD, hlt]⟩

theorem cell_tgO {w : World} {t : Tg} (h : TgAt w t) : w.cell? ⟨t.blk, 5, none⟩ = some (.int .i64 t.x0) ∧ w.cell? ⟨t.blk, 6, none⟩ = some (.int .i64 t.y0) ∧ w.cell? ⟨t.blk, 7, none⟩ = some (.int .i64 t.x1) ∧ w.cell? ⟨t.blk, 8, none⟩ = some (.int .i64 t.y1) := by
  have hh := h.here
  unfold tgO bxC at hh
  refine ⟨?_, ?_, ?_, ?_⟩ <;> rw [cell_of_block hh] <;> rfl

set_option maxRecDepth 100000 in
set_option maxHeartbeats 400000 in
theorem bGet_any {w : World} {p fan : Nat} {ts : List Tg} {F : List Nat} (h : TreeRep w p fan ts F) (id : Int) :
    Calls Tryz.prog 46 #[.pointer (some ⟨p, 0, none⟩), .int .i64 id] w (BGetPost ts id w) := by
  obtain ⟨bm, es, clock, hh, k, ht, rfl⟩ := h
  have hm1 : Mod [] w (w.alloc (B4 0 0 0 0)) := Mod.alloc _ _
  have ht1 := ht.kept hm1 (by simp)
  obtain ⟨c0, c1, c2⟩ := cell_trO ht1.here
  have hrun := runT_look ht1.map ht1.ents.1 id
  cases hf : findG ts id with
  | none =>
    have e1 : lookV ts id = .pointer none := by unfold lookV; rw [hf]
    have e2 : rectOfG ts id = R4 0 0 0 0 := by unfold rectOfG; rw [hf]
    rw [hf, e1] at hrun
    have HP := hideIt (show ∀ w', Mod [] w w' → BGetPost ts id w (.returned (.tuple #[R4 0 0 0 0, .bool false])) w' from fun w' hm => ⟨by rw [e2, hf]; rfl, hm⟩)
    clear ht ht1 e1 e2 hf
    go_enter Tryz.func46, Tryz.ntmps46
    go_wp2
    exact bodyPost_ret (v := .tuple #[R4 0 0 0 0, .bool false]) (by simp [results, Tryz.results46, go_sem]) rfl (HP.out _ (Mod.alloc _ _))
  | some n =>
    obtain ⟨t, hget, hid, hgd⟩ := findG_get hf
    have e1 : lookV ts id = .pointer (some ⟨t.blk, 0, none⟩) := by unfold lookV; rw [hf]; simp only [hgd]
    have e2 : rectOfG ts id = R4 t.x0 t.y0 t.x1 t.y1 := by unfold rectOfG; rw [hf]; simp only [hgd]
    rw [hf, e1] at hrun
    have htm : t ∈ k.ts := ht1.perm.mem_iff.2 (List.mem_of_getElem? hget)
    obtain ⟨t5, t6, t7, t8⟩ := cell_tgO (ht1.node.thing t htm).1
    have HP := hideIt (show ∀ w', Mod [] w w' → BGetPost ts id w (.returned (.tuple #[R4 t.x0 t.y0 t.x1 t.y1, .bool true])) w' from fun w' hm => ⟨by rw [e2, hf]; rfl, hm⟩)
    clear ht ht1 e1 e2 hf hget hid hgd htm
    go_enter Tryz.func46, Tryz.ntmps46
    go_wp2
    exact bodyPost_ret (v := .tuple #[R4 t.x0 t.y0 t.x1 t.y1, .bool true]) (by simp [results, Tryz.results46, go_sem]) rfl (HP.out _ (Mod.alloc _ _))

end Go.Proofs.YthimaoipogocfaaGreat

