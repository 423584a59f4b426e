import Derived.Test.YthimaoipogocfaaGreatGRdone3
import Derived.Test.YthimaoipogocfaaGreatGGiven
namespace Go.Proofs.YthimaoipogocfaaGreat
open Go.RowKit Go.Maps
attribute [local go_sem] run_store_f32 run_neg_inf

/-! ### body, by what is read -/
theorem rbody_none {w : World} {v : Value} {l : List Int} (h : LogV w v l) {k : Nat} {last : Int} (hla : LastOk last (l.take k)) (hr : readF l k = none) : Calls Tryz.prog 118 #[v, .int .i64 k, .int .i64 last] w (RBNo w) := by
  have hlen := h.len
  by_cases hk : l.length ≤ k
  · exact rbody_end v l w h hk last
  · have hg : l[k]? = some (l[k]'(by omega)) := List.getElem?_eq_getElem (by omega)
    generalize l[k]'(by omega) = kind at hg
    rcases h.out with ⟨_, e⟩ | ⟨g, off, c, rfl, h2, h3, h4⟩ | ⟨_, _, _, e⟩
    · rw [e] at hk
      simp at hk
    rotate_left
    · rw [e] at hk
      simp at hk
    · cases hs : sizeF kind with
      | none => exact rbody_kind h2 hg hs last
      | some m =>
        by_cases hm : k + m + 5 ≤ l.length
        · have hrec := readF_rec h.byte hg hs hm
          rw [hr] at hrec
          refine (rbody_whole h2 h.byte (by omega) h3 h4 hg hs hm hla).mono ?_
          rintro e w' ⟨he, hmw⟩
          split at hrec
          · cases hrec
          · rename_i hne
            rw [decide_eq_false hne] at he
            exact ⟨_, he, hmw⟩
        · exact rbody_short h2 (by omega) hg hs (by omega) last
theorem rbody_some {w : World} {v : Value} {l : List Int} (h : LogV w v l) {k : Nat} {r : Rc} (hr : readF l k = some r) :
    ∃ g off c kind m, v = .slice (some ⟨g, off, none⟩) l.length c ∧ BytesAt w g off l ∧ l[k]? = some kind ∧ sizeF kind = some m ∧ r = parseF kind ((l.drop (k + 1)).take m) ∧ k + m + 5 ≤ l.length ∧ l.length ≤ c ∧ c ≤ 9223372036854775807 ∧
      ∀ last, LastOk last (l.take k) → ∀ W, Mod [] w W → Calls Tryz.prog 118 #[v, .int .i64 k, .int .i64 last] W (RBYes g (off + (k + 1)) m (c - (k + 1)) W) := by
  have hlen := h.len
  have hr0 := hr
  unfold readF at hr
  split at hr
  · cases hr
  · rename_i kind hg
    split at hr
    · cases hr
    · rename_i m hs
      split at hr
      · rename_i hc
        rcases h.out with ⟨_, e⟩ | ⟨g, off, c, rfl, h2, h3, h4⟩ | ⟨_, _, _, e⟩
        · rw [e] at hg
          simp at hg
        rotate_left
        · rw [e] at hg
          simp at hg
        · refine ⟨g, off, c, kind, m, rfl, h2, hg, hs, (Option.some.inj hr).symm, by omega, h3, by unfold maxLen at h4; omega, fun last hla W hW => ?_⟩
          have hrec := readF_rec h.byte hg hs (by omega)
          rw [hr0] at hrec
          refine (rbody_whole (h2.keep hW) h.byte (by omega) h3 h4 hg hs (by omega) hla).mono ?_
          rintro e w' ⟨rfl, hmw⟩
          refine ⟨?_, hmw⟩
          split at hrec
          · rename_i he
            rw [decide_eq_true he]
          · cases hrec
      · cases hr

theorem done_any {w : World} {py : Nat} {fan : Int} {s : St} {L : List Th} {F : List Nat} (h : RefRep w py fan L s.lg F) (m : Match s L) (ok : StOk s) (hnl : s.lg.length ≤ 99999900) (hids : ∀ t ∈ L, 0 ≤ t.id ∧ t.id ≤ 4095) {g off c mm : Nat} {body : List Int} (hb : BytesAt w g off body) (hB : ByteL body) {kind : Int} (hs : sizeF kind = some mm) (hl : body.length = mm) (h72 : kind ≠ 72) (hc : mm ≤ c) (hc2 : c ≤ 9223372036854775807) :
    Calls Tryz.prog 119 #[.pointer (some ⟨py, 0, none⟩), .int .u8 kind, .slice (some ⟨g, off, none⟩) mm c] w (DonePost py fan s (parseF kind body) F w) := by
  rcases sizeF_cases hs with ⟨e, _⟩ | ⟨e, rfl⟩ | ⟨rfl, rfl⟩
  · exact absurd e h72
  · exact done_put h m ok hnl hc hc2 hb hB hl e
  · exact done_drop h m ok hnl hids hb hB hl

/-! ### Replay -/
set_option maxRecDepth 100000 in
set_option maxHeartbeats 400000 in
theorem rreplay_none {w : World} {v : Value} {l : List Int} (h : LogV w v l) (hr : readF l 0 = none) : Calls Tryz.prog 83 #[v] w (BadPost w) := by
  have HB := hideIt (show Calls Tryz.prog 118 #[v, .int .i64 0, .int .i64 0] w (RBNo w) from rbody_none h (k := 0) LastOk.nil hr)
  obtain ⟨a, c, rfl⟩ := h.form
  clear h hr
  go_enter Tryz.func83, Tryz.ntmps83
  go_wp2_with fail
  refine HB.out.mono ?_
  rintro e w1 ⟨bv, rfl, hm1⟩
  have HM := hideIt hm1
  clear HB hm1
  go_wp2
  go_ret3
  exact ⟨rfl, HM.out⟩

set_option maxRecDepth 100000 in
set_option maxHeartbeats 400000 in
theorem rreplay_kind {w : World} {v : Value} {l : List Int} (h : LogV w v l) {r : Rc} (hr : readF l 0 = some r) (hk : r.kind ≠ 72) : Calls Tryz.prog 83 #[v] w (BadPost w) := by
  obtain ⟨g, off, c, kind, m, rfl, h2, h3, h4, h5, h6, h7, h8, h9⟩ := rbody_some h hr
  have HB := hideIt (h9 0 LastOk.nil w (Mod.refl _ _))
  have hkk : kind ≠ 72 := fun e => hk (by rw [h5, e]; rfl)
  have hne : (kind != 72) = true := by simpa using hkk
  have HC := hideIt (show ∀ W, Mod [] w W → W.cell? ⟨g, off, none⟩ = some (.int .u8 kind) from fun W hm => cell_mod hm (h2 0 _ h3))
  have hl0 : (0 : Int) < (l.length : Int) := by omega
  clear h hr h9 h2 h3 h4 h5 hk
  go_enter Tryz.func83, Tryz.ntmps83
  go_wp2_with fail
  refine HB.out.mono ?_
  rintro e w1 ⟨rfl, hm1⟩
  have c1 := HC.out _ hm1
  have HM := hideIt hm1
  clear HB hm1
  go_wp2
  go_ret3
  exact ⟨rfl, HM.out⟩

theorem head_byte {l : List Int} {r : Rc} {kind : Int} {m : Nat} (h3 : l[0]? = some kind) (h4 : sizeF kind = some m) (h5 : r = parseF kind ((l.drop (0 + 1)).take m)) (h6 : 0 + m + 5 ≤ l.length) (hk : r.kind = 72) : kind = 72 ∧ m = 1 ∧ l[1]? = some r.fan := by
  have hkk : kind = 72 := by
    rcases sizeF_cases h4 with ⟨e, _⟩ | ⟨e, _⟩ | ⟨e, _⟩
    · exact e
    · rw [h5] at hk
      unfold parseF at hk
      rw [if_neg (by omega), if_neg (by omega)] at hk
      exact hk
    · rw [h5, e] at hk
      exact absurd hk (by simp [parseF])
  subst hkk
  have hm1 : m = 1 := by
    rcases sizeF_cases h4 with ⟨_, e⟩ | ⟨e, _⟩ | ⟨e, _⟩ <;> omega
  subst hm1
  refine ⟨rfl, rfl, ?_⟩
  have hg : l[1]? = some (l[1]'(by omega)) := List.getElem?_eq_getElem (by omega)
  rw [hg, h5]
  have e : (l.drop (0 + 1)).take 1 = [l[1]'(by omega)] := by
    rw [List.drop_eq_getElem_cons (by omega)]
    rfl
  rw [e]
  show some _ = some (valB [l[1]'(by omega)])
  simp [valB]

set_option maxRecDepth 100000 in
set_option maxHeartbeats 400000 in
theorem rreplay_fan {w : World} {v : Value} {l : List Int} (h : LogV w v l) {r : Rc} (hr : readF l 0 = some r) (hk : r.kind = 72) (hf : fanB r.fan = false) : Calls Tryz.prog 83 #[v] w (BadPost w) := by
  obtain ⟨g, off, c, kind, m, rfl, h2, h3, h4, h5, h6, h7, h8, h9⟩ := rbody_some h hr
  obtain ⟨rfl, rfl, hfan⟩ := head_byte h3 h4 h5 h6 hk
  have HB := hideIt (h9 0 LastOk.nil w (Mod.refl _ _))
  have HC := hideIt (show ∀ W, Mod [] w W → W.cell? ⟨g, off, none⟩ = some (.int .u8 72) ∧ W.cell? ⟨g, off + 1, none⟩ = some (.int .u8 r.fan) from fun W hm => ⟨cell_mod hm (h2 0 _ h3), cell_mod hm (h2 1 _ hfan)⟩)
  have hfb := h.byte r.fan (List.mem_of_getElem? hfan)
  have HN := hideIt (fun W => refNew_bad r.fan W hf)
  have hl0 : (0 : Int) < (l.length : Int) := by omega
  obtain ⟨fb0, fb1⟩ := hfb
  clear h hr h9 h2 h3 h4 h5 hk hf hfan
  generalize r.fan = fn at *
  go_enter Tryz.func83, Tryz.ntmps83
  go_wp2_with fail
  refine HB.out.mono ?_
  rintro e w1 ⟨rfl, hm1⟩
  obtain ⟨c1, c2⟩ := HC.out _ hm1
  have HM := hideIt hm1
  clear HB hm1
  go_wp2_with fail
  refine (HN.out _).mono ?_
  rintro e w2 ⟨rfl, rfl⟩
  go_wp2
  go_ret3
  exact ⟨rfl, HM.out⟩

def RReplayPost (l : List Int) (fan : Nat) (w : World) (e : Ending) (w' : World) : Prop :=
  ∃ py s L F, e = .returned (.tuple #[.pointer (some ⟨py, 0, none⟩), .int .i64 s.lg.length, .int .i64 0]) ∧ RefRep w' py fan L s.lg F ∧ Match s L ∧ Steps l (stNew fan) s ∧ Stuck l s ∧ s.lg.length ≤ l.length ∧ (∀ x ∈ F, w.heap.size ≤ x) ∧ Mod [] w w'

/-- where the loop stands -/
structure RReplayAt (l : List Int) (fan py : Nat) (s : St) (L : List Th) (F : List Nat) (w wr : World) : Prop where
  tree : RefRep wr py fan L s.lg F
  mat : Match s L
  steps : Steps l (stNew fan) s
  ok : StOk s
  ids : ∀ t ∈ s.L, 0 ≤ t.id ∧ t.id ≤ 4095
  pre : s.lg = l.take s.lg.length
  le : s.lg.length ≤ l.length
  six : 6 ≤ s.lg.length
  new : ∀ x ∈ F, w.heap.size ≤ x
  mod : Mod [] w wr

def refLen (w : World) (py : Nat) : Nat := match w.cell? ⟨py, 2, none⟩ with
  | some (.slice _ n _) => n
  | _ => 0
theorem RefRep.log {w : World} {py : Nat} {fan : Int} {L : List Th} {lg : List Int} {F : List Nat} (h : RefRep w py fan L lg F) : ∃ g c last, w.cell? ⟨py, 2, none⟩ = some (.slice (some ⟨g, 0, none⟩) lg.length c) ∧ w.cell? ⟨py, 3, none⟩ = some (.int .i64 last) ∧ LastOk last lg ∧ refLen w py = lg.length := by
  obtain ⟨tv, gl, cl, last, nl, h1, h2, h3, h4, h5, ⟨h6, rfl⟩, rfl⟩ := h
  have hc := (cell_T58 h1).2.2.1
  exact ⟨gl, cl, last, hc, (cell_T58 h1).2.2.2, h2, by unfold refLen; rw [hc]⟩
theorem Done.ids {s s' : St} {r : Rc} (hd : Done s r s') (h : ∀ t ∈ s.L, 0 ≤ t.id ∧ t.id ≤ 4095) : ∀ t ∈ s'.L, 0 ≤ t.id ∧ t.id ≤ 4095 := by
  cases hd with
  | put hk ho =>
    intro t ht
    rcases List.mem_append.1 (show t ∈ dropT s.L r.th.id ++ [r.th] from ht) with ht | ht
    · exact h t (List.mem_filter.1 ht).1
    · simp only [List.mem_singleton] at ht
      rw [ht]
      exact ho.1
  | drop hk hh =>
    intro t ht
    exact h t (List.mem_filter.1 (show t ∈ dropT s.L r.id from ht)).1

set_option maxRecDepth 100000 in
set_option maxHeartbeats 1000000 in
theorem rreplay_good {w : World} {v : Value} {l : List Int} (h : LogV w v l) (hl : l.length ≤ 99999900) {r : Rc} (hr : readF l 0 = some r) (hk : r.kind = 72) (hf : fanB r.fan = true) : Calls Tryz.prog 83 #[v] w (RReplayPost l r.fan.toNat w) := by
  have HV := hideIt h
  obtain ⟨g, off, c, kind, m, rfl, h2, h3, h4, h5, h6, h7, h8, h9⟩ := rbody_some h hr
  obtain ⟨rfl, rfl, hfan⟩ := head_byte h3 h4 h5 h6 hk
  have HB := hideIt (h9 0 LastOk.nil w (Mod.refl _ _))
  have HC := hideIt (show ∀ W, Mod [] w W → W.cell? ⟨g, off, none⟩ = some (.int .u8 72) ∧ W.cell? ⟨g, off + 1, none⟩ = some (.int .u8 r.fan) from fun W hm => ⟨cell_mod hm (h2 0 _ h3), cell_mod hm (h2 1 _ hfan)⟩)
  obtain ⟨fb0, fb1⟩ := h.byte r.fan (List.mem_of_getElem? hfan)
  have HN := hideIt (fun W => refNew_good r.fan W hf)
  have hl0 : (0 : Int) < (l.length : Int) := by omega
  obtain ⟨f4, f16⟩ := fanB_iff.1 hf
  have hfe : ((r.fan.toNat : Nat) : Int) = r.fan := by omega
  have hb := readF_bytes h.byte hr
  have hrh : r = rcHead r.fan := by
    rcases hb.1.kind with ⟨e, e1, e2, e3, e4, e5⟩ | ⟨e, _⟩ | ⟨e, _⟩
    · obtain ⟨kind, fan, id, x0, y0, x1, y1⟩ := r
      simp only at e e1 e2 e3 e4 e5
      subst e e1 e2 e3 e4 e5
      rfl
    · omega
    · omega
  have h6' : (stNew (r.fan.toNat : Nat)).lg = r.bytes [] := by rw [hfe]; show (rcHead r.fan).bytes [] = _; rw [← hrh]
  have hpre : (stNew (r.fan.toNat : Nat)).lg = l.take (stNew (r.fan.toNat : Nat)).lg.length ∧ (stNew (r.fan.toNat : Nat)).lg.length ≤ l.length ∧ 6 ≤ (stNew (r.fan.toNat : Nat)).lg.length := by
    rw [h6']
    obtain ⟨_, b2, b3⟩ := hb
    simp only [List.take_zero, Nat.zero_add, List.nil_append] at b2 b3
    refine ⟨b2.symm, b3, ?_⟩
    unfold Rc.bytes
    rw [recF_length]
    unfold Rc.body
    rw [if_pos hk]
    simp [headB, numB_length]
  have HS := hideIt (show ∀ py F w1 W, Mod [] w w1 → RefRep W py r.fan [] ((rcHead r.fan).bytes []) F → (∀ x ∈ F, w1.heap.size ≤ x) → Mod [] w1 W → RReplayAt l r.fan.toNat py (stNew (r.fan.toNat : Nat)) [] F w W from fun py F w1 W hm1 k1 k2 k3 => by
    have := hm1.size
    refine ⟨?_, ⟨List.Perm.refl _, by simp⟩, .refl _, ⟨by simp [stNew], by simp [stNew]⟩, by simp [stNew], hpre.1, hpre.2.1, hpre.2.2, fun x hx => by have := k2 x hx; omega, hm1.trans k3⟩
    have e : (stNew ((r.fan.toNat : Nat) : Int)).lg = (rcHead r.fan).bytes [] := by rw [hfe]; rfl
    rw [e, hfe]
    exact k1)
  have HBY := hideIt h2
  clear h hr h9 h2 h3 h4 h5 hk hf hfan hb hrh h6' hpre hfe f4 f16
  generalize r.fan.toNat = fan at *
  generalize r.fan = fn at *
  go_enter Tryz.func83, Tryz.ntmps83
  go_wp2_with fail
  refine HB.out.mono ?_
  rintro e w1 ⟨rfl, hm1⟩
  obtain ⟨c1, c2⟩ := HC.out _ hm1
  have HM := hideIt hm1
  clear HB hm1 HC
  go_wp2_with fail
  refine (HN.out _).mono ?_
  rintro e w2 ⟨rfl, F2, k1, k2, k3⟩
  have HS2 := hideIt (HS.out _ F2 _ w2 HM.out k1 k3 k2)
  clear k1 k2 k3 HS HN HM c1 c2
  generalize w1.heap.size = py at *
  go_wp2_with fail
  go_loopw [] (fun wr => ∃ s L F, Hid (RReplayAt l fan py s L F w wr)) (fun wr => l.length + 1 - refLen wr py)
  case atStart => exact ⟨_, _, _, HS2⟩
  case round =>
    obtain ⟨s, L, F, hR⟩ := hrel
    obtain ⟨gl, cl, last, hcl, hcs, hlast, hll⟩ := hR.out.tree.log
    have hle := hR.out.le
    have hsix := hR.out.six
    have HLL := hideIt hll
    have hla : LastOk last (l.take s.lg.length) := by rw [← hR.out.pre]; exact hlast
    clear hll hlast
    cases hrd : readF l s.lg.length with
    | none =>
      have HREAD := hideIt (rbody_none (HV.out.keep hR.out.mod) hla hrd)
      have HFIN := hideIt (show ∀ W, Mod [] wr W → RReplayPost l fan w (.returned (.tuple #[.pointer (some ⟨py, 0, none⟩), .int .i64 s.lg.length, .int .i64 0])) W from fun W hm => ⟨py, s, L, F, rfl, hR.out.tree.kept hm (by simp), hR.out.mat, hR.out.steps, fun r hr => (by rw [hrd] at hr; cases hr), hR.out.le, hR.out.new, hR.out.mod.trans hm⟩)
      clear hrd hla
      go_wp2_with fail
      refine HREAD.out.mono ?_
      rintro e w3 ⟨bv, rfl, hm3⟩
      have HFW := hideIt (HFIN.out _ hm3)
      clear hm3 HREAD HFIN hcl hcs
      go_wp2
      go_ret3
      exact HFW.out
    | some r2 =>
      have hvb := HV.out.byte
      obtain ⟨g', off', c', kind, m, e, b2, b3, b4, b5, b6, b7, b8, b9⟩ := rbody_some (HV.out.keep hR.out.mod) hrd
      cases e
      have HREAD := hideIt (b9 last hla wr (Mod.refl _ _))
      have hcK := b2 s.lg.length _ b3
      have hkl : (s.lg.length : Int) < (l.length : Int) := by omega
      by_cases h72 : kind = 72
      · subst h72
        have HFIN := hideIt (show ∀ W, Mod [] wr W → RReplayPost l fan w (.returned (.tuple #[.pointer (some ⟨py, 0, none⟩), .int .i64 s.lg.length, .int .i64 0])) W from fun W hm => ⟨py, s, L, F, rfl, hR.out.tree.kept hm (by simp), hR.out.mat, hR.out.steps, fun r hr s' hd => (by
          rw [hrd] at hr
          cases hr
          have hk : r2.kind = 72 := by rw [b5]; rfl
          cases hd with
          | put hk2 _ => omega
          | drop hk2 _ => omega), hR.out.le, hR.out.new, hR.out.mod.trans hm⟩)
        clear hrd hla b9 b2 b3 b4 b5
        go_wp2_with fail
        refine HREAD.out.mono ?_
        rintro e w3 ⟨rfl, hm3⟩
        have c3 := cell_mod hm3 hcK
        have HFW := hideIt (HFIN.out _ hm3)
        clear hm3 HREAD HFIN hcl hcs hcK
        go_wp2
        go_ret3
        exact HFW.out
      · have hne72 : (kind == 72) = false := beq_eq_false_iff_ne.2 h72
        have hm18 : m ≤ 18 := by
          have := sizeF_cases b4
          omega
        have hbl : ((l.drop (s.lg.length + 1)).take m).length = m := by rw [List.length_take, List.length_drop]; omega
        have HDONE := hideIt (show ∀ W, Mod [] wr W → Calls Tryz.prog 119 #[.pointer (some ⟨py, 0, none⟩), .int .u8 kind, .slice (some ⟨g, off + (s.lg.length + 1), none⟩) m (c - (s.lg.length + 1))] W (DonePost py fan s r2 F W) from fun W hm => by
          rw [b5]
          exact done_any (hR.out.tree.kept hm (by simp)) hR.out.mat hR.out.ok (by omega) (fun t ht => hR.out.ids t (hR.out.mat.perm.mem_iff.1 ht)) (((b2.keep hm).drop (s.lg.length + 1)).take m) ((hvb.drop _).take _) b4 hbl h72 (by omega) (by omega))
        have hpre := fun s' (hd : Done s r2 s') => Done.pre hvb hR.out.pre hrd hd
        have HNEXT := hideIt (show ∀ W w4 s' L' F', Mod [] wr W → RefRep w4 py fan L' s'.lg F' → Match s' L' → Done s r2 s' → (∀ x ∈ F', x ∈ F ∨ W.heap.size ≤ x) → Mod F W w4 → RReplayAt l fan py s' L' F' w w4 ∧ s.lg.length < s'.lg.length from fun W w4 s' L' F' hm k1 km k2 k3 k4 => by
          obtain ⟨p1, p2, p3⟩ := hpre s' k2
          have hmW := hR.out.mod.trans hm
          have hs := hmW.size
          refine ⟨⟨k1, km, hR.out.steps.snoc hrd k2, hR.out.ok.done k2, k2.ids hR.out.ids, p1, p3, by omega, fun x hx => ?_, hmW.then k4 (fun x hx => .inr (hR.out.new x hx))⟩, p2⟩
          rcases k3 x hx with h | h
          · exact hR.out.new x h
          · omega)
        have HEND := hideIt (show ∀ W w4 s' L' F', Mod [] wr W → RefRep w4 py fan L' s'.lg F' → Match s' L' → s' = s → (∀ s'', ¬ Done s r2 s'') → (∀ x ∈ F', x ∈ F ∨ W.heap.size ≤ x) → Mod F W w4 → RReplayPost l fan w (.returned (.tuple #[.pointer (some ⟨py, 0, none⟩), .int .i64 s.lg.length, .int .i64 0])) w4 from fun W w4 s' L' F' hm k1 km k2 kn k3 k4 => by
          subst k2
          have hmW := hR.out.mod.trans hm
          have hs := hmW.size
          refine ⟨py, s', L', F', rfl, k1, km, hR.out.steps, fun r hr => ?_, hR.out.le, fun x hx => ?_, hmW.then k4 (fun x hx => .inr (hR.out.new x hx))⟩
          · rw [hrd] at hr
            cases hr
            exact kn
          · rcases k3 x hx with h | h
            · exact hR.out.new x h
            · omega)
        clear hrd hla b9 b2 b3 b4 b5 hpre hvb hbl
        go_wp2_with fail
        refine HREAD.out.mono ?_
        rintro e w3 ⟨rfl, hm3⟩
        have c3 := cell_mod hm3 hcK
        have HM3 := hideIt hm3
        clear hm3 HREAD hcl hcs hcK
        go_wp2_with fail
        refine (HDONE.out _ HM3.out).mono ?_
        rintro e w4 ⟨b, s', L', F', rfl, k1, km, k2, k3, k4⟩
        cases b with
        | true =>
          have k2' : Done s r2 s' := by
            rcases k2 with ⟨_, h⟩ | ⟨h, _⟩
            · exact h
            · cases h
          obtain ⟨hN, hlt⟩ := HNEXT.out _ _ _ _ _ HM3.out k1 km k2' k3 k4
          have HN := hideIt hN
          have HLT := hideIt (show l.length + 1 - refLen w4 py < l.length + 1 - refLen wr py from by
            obtain ⟨_, _, _, _, _, _, hll4⟩ := hN.tree.log
            rw [hll4, HLL.out]
            have := hN.le
            omega)
          clear k1 km k2 k2' k3 k4 hN hlt HNEXT HEND HDONE c3
          go_wp2_with fail
          go_roundw
          case rel => exact ⟨s', L', F', HN⟩
          case measure => exact HLT.out
        | false =>
          obtain ⟨ks, kn⟩ : s' = s ∧ ∀ s'', ¬ Done s r2 s'' := by
            rcases k2 with ⟨h, _⟩ | ⟨_, h⟩
            · cases h
            · exact h
          have HFW := hideIt (HEND.out _ _ _ _ _ HM3.out k1 km ks kn k3 k4)
          clear k1 km k2 k3 k4 ks kn HNEXT HEND HDONE c3
          go_wp2
          go_ret3
          exact HFW.out

end Go.Proofs.YthimaoipogocfaaGreat
