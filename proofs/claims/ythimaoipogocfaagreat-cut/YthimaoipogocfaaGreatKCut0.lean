import Derived.Test.YthimaoipogocfaaGreatRep3
import Derived.Test.YthimaoipogocfaaGreatHist
import Derived.Test.YthimaoipogocfaaGreatPair3
import Derived.Laws.BytesArg
import Derived.Deep.DeepCutAuto
namespace Go.Proofs.YthimaoipogocfaaGreat
open Go.RowKit Go.Maps
attribute [local go_sem] run_store_f32 run_neg_inf

abbrev ktB (t : Kt) : Obj := .cells #[.int .i64 t.i, .int .i64 t.x, .int .i64 t.y, .int .i64 t.w, .int .i64 t.h] 29 (0, 0)
theorem cell_ktB {w : World} {p : Nat} {t : Kt} (h : w.heap[p]? = some (ktB t)) : w.cell? ⟨p, 0, none⟩ = some (.int .i64 t.i) ∧ w.cell? ⟨p, 1, none⟩ = some (.int .i64 t.x) ∧ w.cell? ⟨p, 2, none⟩ = some (.int .i64 t.y) ∧ w.cell? ⟨p, 3, none⟩ = some (.int .i64 t.w) ∧ w.cell? ⟨p, 4, none⟩ = some (.int .i64 t.h) := by
  refine ⟨?_, ?_, ?_, ?_, ?_⟩ <;> rw [cell_of_block h] <;> rfl

theorem HAt.krep {w : World} {q fan : Nat} {s : St} {F : List Nat} (h : HAt w q fan s F) (hs : s.L.length ≤ 1000) : KRep 0 w q fan s.L s.lg := by
  obtain ⟨ts, h1, h2⟩ := h
  exact ⟨ts, F, h1, h2, by rw [← h2] at hs; simpa using hs, fun _ _ => Nat.zero_le _⟩
theorem PlantPost.hat {fan : Nat} {ks : List Kt} {w : World} {e : Ending} {w' : World} (h : PlantPost fan (plantT ks 0 0) (plantGT fan ks 0 0) w e w') : ∃ q F, e = .returned (.pointer (some ⟨q, 0, none⟩)) ∧ HAt w' q fan (plantSt fan ks 0 0) F ∧ (∀ x ∈ F, w.heap.size ≤ x) ∧ Mod [] w w' := by
  obtain ⟨q, F, ts, h1, h2, h3, h4, h5, h6⟩ := h
  exact ⟨q, F, h1, ⟨ts, by rw [plantSt_lg]; exact h2, by rw [plantSt_L]; exact h3⟩, h5, h6⟩
theorem hLogS {w : World} {q fan : Nat} {s : St} {F : List Nat} (h : HAt w q fan s F) (hl : s.lg.length ≤ 1000000000000) : Calls Tryz.prog 28 #[.pointer (some ⟨q, 0, none⟩)] w (LogTold s.lg w) := by
  obtain ⟨ts, h1, h2⟩ := h
  exact hLog_any h1 hl
theorem HAt.byte {w : World} {q fan : Nat} {s : St} {F : List Nat} (h : HAt w q fan s F) : ByteL s.lg := by
  obtain ⟨ts, h1, h2⟩ := h
  exact h1.bytes

/-- the log that a caller has: bytes behind an address -/
structure RowB (w : World) (g c : Nat) (lg : List Int) : Prop where
  at_ : BytesAt w g 0 lg
  lt : g < w.heap.size
  cap : lg.length ≤ c ∧ c ≤ maxLen
theorem RowB.of_told {w : World} {g c : Nat} {lg : List Int} (h : w.ownsRow 0 5 1 (.slice (some ⟨g, 0, none⟩) lg.length c) lg.length (u8s lg)) : RowB w g c lg :=
  ⟨BytesAt.of_owns h, owns_lt h rfl, (LogGrow.here h).cap⟩
theorem RowB.kept {F : List Nat} {w w' : World} {g c : Nat} {lg : List Int} (h : RowB w g c lg) (hm : Mod F w w') (hg : g ∉ F) : RowB w' g c lg :=
  ⟨fun j b hj => cell_modF hm hg (h.at_ j b hj), Nat.lt_of_lt_of_le h.lt hm.size, h.cap⟩
theorem RowB.cut {w : World} {g c : Nat} {lg : List Int} (h : RowB w g c lg) (hB : ByteL lg) (hl : lg.length ≤ 1000000000) {k : Nat} (hk : k ≤ lg.length) : LogV w (.slice (some ⟨g, 0, none⟩) k c) (lg.take k) := by
  have hlt : (lg.take k).length = k := by rw [List.length_take]; omega
  refine ⟨.inr ⟨g, 0, c, by rw [hlt], h.at_.take k, by rw [hlt]; have := h.cap.1; omega, h.cap.2⟩, hB.take k, by rw [hlt]; omega⟩
/-- bytes as a string -/
theorem RowB.str {w : World} {g c : Nat} {lg : List Int} (h : RowB w g c lg) {k : Nat} (hk : k ≤ lg.length) : (convert 56 9 (.slice (some ⟨g, 0, none⟩) k c)).run Tryz.prog w = .ok (.string (strOfNums (lg.take k))) w := by
  have hlt : (lg.take k).length = k := by rw [List.length_take]; omega
  refine run_convert_bytes_arg w 56 5 Tryz.underlying56 Tryz.underlying5 g 0 k c (lg.take k) hlt (fun i hi => ?_) 9 Tryz.underlying9
  have hi2 : (lg.take k)[i]? = some ((lg.take k).getD i 0) := by
    rw [List.getD_eq_getElem?_getD, List.getElem?_eq_getElem (by omega)]
    rfl
  exact h.at_.take k i _ hi2

/-- the tree of Cut, once a thing was dropped -/
structure CutS (fan : Int) (s : St) : Prop where
  hist : Hist fan s
  low : 29 ≤ s.lg.length
  high : s.lg.length ≤ 7100
  put : okT s.L ⟨4000, 0, 0, 0, 0⟩
theorem cutS (fan : Int) (ks : List Kt) {id : Int} (h0 : 0 ≤ id) (h1 : id < 300) : CutS fan (stDrop (plantSt fan ks 0 0) id) := by
  have hH0 := plantSt_hist fan (dx := 0) (dy := 0) (by omega) (by omega) ks
  have hL0 := plantSt_len fan (dx := 0) (dy := 0) (by omega) (by omega) ks
  have hG0 := plantGT_length fan ks 0 0
  rw [← plantSt_lg] at hG0
  have h4 : hasT (stDrop (plantSt fan ks 0 0) id).L 4000 = true := by
    refine hasT_iff.2 ⟨⟨4000, 0, 0, 0, 0⟩, ?_, rfl⟩
    show _ ∈ dropT (plantSt fan ks 0 0).L id
    rw [plantSt_L]
    refine List.mem_filter.2 ⟨by simp [plantT, putT], ?_⟩
    simp only [bne_iff_ne, ne_eq]
    omega
  have hlg : (stDrop (plantSt fan ks 0 0) id).lg = dropLT (plantSt fan ks 0 0).L (plantSt fan ks 0 0).lg id := rfl
  have hu := dropLT_length (plantSt fan ks 0 0).L (plantSt fan ks 0 0).lg id
  refine ⟨?_, ?_, by rw [hlg]; omega, by simp, by unfold RectOk; simp, .inl h4⟩
  · cases hh : hasT (plantSt fan ks 0 0).L id with
    | true => exact hH0.drop id (by omega) hh
    | false => rw [stDrop_none hh]; exact hH0
  · rw [hlg]
    unfold dropLT
    split
    · rw [List.length_append]; omega
    · exact hL0

theorem fan_head (fan : Nat) (h4 : 4 ≤ fan) (h16 : fan ≤ 16) : fanB (rcHead (fan : Int)).fan = true ∧ (rcHead (fan : Int)).fan.toNat = fan := by
  refine ⟨fanB_iff.2 ?_, ?_⟩
  · simp only [rcHead]
    omega
  · simp only [rcHead]
    omega

/-- what Replay makes of a log that was cut off -/
def FirstRes (fan kk : Nat) (lg : List Int) (ps : Option Addr) (used ec : Int) (w w' : World) : Prop :=
  (kk < 6 ∧ ps = none ∧ used = 0 ∧ ec = 5) ∨ (6 ≤ kk ∧ ∃ qs p Fs, ps = some ⟨qs, 0, none⟩ ∧ used = p.lg.length ∧ ec = 0 ∧ HAt w' qs fan p Fs ∧ p.lg = lg.take p.lg.length ∧ p.lg.length ≤ kk ∧ kk < p.lg.length + 23 ∧ 6 ≤ p.lg.length ∧ ∀ x ∈ Fs, w.heap.size ≤ x)
def FirstPost (fan kk : Nat) (lg : List Int) (w : World) (e : Ending) (w' : World) : Prop := ∃ ps used ec, e = .returned (.tuple #[.pointer ps, .int .i64 used, .int .i64 ec]) ∧ FirstRes fan kk lg ps used ec w w' ∧ Mod [] w w'

theorem replay_cut {fan : Nat} (h4 : 4 ≤ fan) (h16 : fan ≤ 16) {s : St} (hS : CutS (fan : Int) s) {w : World} {g c : Nat} (hrow : RowB w g c s.lg) (hB : ByteL s.lg) {kk : Nat} (hk : kk ≤ s.lg.length) :
    Calls Tryz.prog 29 #[.slice (some ⟨g, 0, none⟩) kk c] w (FirstPost fan kk s.lg w) := by
  have hV := hrow.cut hB (by have := hS.high; omega) hk
  obtain ⟨f1, f2⟩ := fan_head fan h4 h16
  by_cases h6 : kk < 6
  · refine (replay_none hV (cut_none (by omega) hS.hist h6)).mono ?_
    rintro e w' ⟨rfl, hm⟩
    exact ⟨none, 0, 5, rfl, .inl ⟨h6, rfl, rfl, rfl⟩, hm⟩
  · have h := replay_good hV (cut_head (by omega) hS.hist (by omega)) rfl f1
    rw [f2] at h
    refine h.mono ?_
    rintro e w' ⟨q, p, F, rfl, k1, k2, k3, k4, k5, k6⟩
    obtain ⟨p', cA⟩ := (hist_cut hS.hist).2 kk (by omega) hk
    obtain rfl : p = p' := k2.det k3 cA.steps cA.stuck
    exact ⟨_, _, _, rfl, .inr ⟨by omega, q, p, F, rfl, rfl, rfl, k1, cA.pre, cA.le, cA.near, cA.six, k5⟩, k6⟩

def AllPost (fan : Nat) (s : St) (w : World) (e : Ending) (w' : World) : Prop := ∃ q F, e = .returned (.tuple #[.pointer (some ⟨q, 0, none⟩), .int .i64 s.lg.length, .int .i64 0]) ∧ HAt w' q fan s F ∧ (∀ x ∈ F, w.heap.size ≤ x) ∧ Mod [] w w'

theorem replay_whole {fan : Nat} (h4 : 4 ≤ fan) (h16 : fan ≤ 16) {s : St} (hS : CutS (fan : Int) s) {w : World} {g c : Nat} (hrow : RowB w g c s.lg) (hB : ByteL s.lg) :
    Calls Tryz.prog 29 #[.slice (some ⟨g, 0, none⟩) s.lg.length c] w (AllPost fan s w) := by
  have hlow := hS.low
  have hV := hrow.cut hB (by have := hS.high; omega) (Nat.le_refl _)
  obtain ⟨f1, f2⟩ := fan_head fan h4 h16
  have h := replay_good hV (cut_head (by omega) hS.hist (by omega)) rfl f1
  rw [f2] at h
  refine h.mono ?_
  rintro e w' ⟨q, p, F, rfl, k1, k2, k3, k4, k5, k6⟩
  obtain ⟨p', cA⟩ := (hist_cut hS.hist).2 s.lg.length (by omega) (Nat.le_refl _)
  obtain rfl : p = p' := k2.det k3 cA.steps cA.stuck
  obtain rfl : p = s := cA.all rfl
  exact ⟨q, F, rfl, k1, k5, k6⟩

/-- where Cut stands, behind both Replays -/
structure CutW (B fan kk : Nat) (s : St) (q qr g cj : Nat) (F Fr : List Nat) (ps : Option Addr) (used ec : Int) (w : World) : Prop where
  t : HAt w q fan s F
  r : HAt w qr fan s Fr
  apart : ∀ x ∈ F, x ∉ Fr
  row : RowB w g cj s.lg
  gF : g ∉ F
  gR : g ∉ Fr
  newF : ∀ x ∈ F, B ≤ x
  newR : ∀ x ∈ Fr, B ≤ x
  first : (kk < 6 ∧ ps = none ∧ used = 0 ∧ ec = 5) ∨ (6 ≤ kk ∧ ∃ qs p Fs, ps = some ⟨qs, 0, none⟩ ∧ used = p.lg.length ∧ ec = 0 ∧ HAt w qs fan p Fs ∧ p.lg = s.lg.take p.lg.length ∧ p.lg.length ≤ kk ∧ kk < p.lg.length + 23 ∧ 6 ≤ p.lg.length ∧ (∀ x ∈ Fs, x ∉ F ∧ x ∉ Fr))

theorem cutW {B fan kk : Nat} {s : St} {q qr g cj : Nat} {F Fr : List Nat} {ps : Option Addr} {used ec : Int} {w3 w4 w5 : World} (ht : HAt w3 q fan s F) (hrow : RowB w3 g cj s.lg) (hg : g ∉ F) (hf : FirstRes fan kk s.lg ps used ec w3 w4) (hm4 : Mod [] w3 w4) (hr : HAt w5 qr fan s Fr) (hFr : ∀ x ∈ Fr, w4.heap.size ≤ x) (hm5 : Mod [] w4 w5) (hnF : ∀ x ∈ F, B ≤ x) (hB : B ≤ w4.heap.size) : CutW B fan kk s q qr g cj F Fr ps used ec w5 := by
  have h45 := hm4.trans hm5
  have hs4 := hm4.size
  have hlt := ht.lt
  refine ⟨ht.kept h45 (by simp), hr, fun x hx hxr => ?_, hrow.kept h45 (by simp), hg, fun hx => ?_, hnF, fun x hx => Nat.le_trans hB (hFr x hx), ?_⟩
  · have := hlt x hx
    have := hFr x hxr
    omega
  · have := hFr g hx
    have := hrow.lt
    omega
  · rcases hf with h | ⟨h6, qs, p, Fs, e1, e2, e3, e4, e5, e6, e7, e8, e9⟩
    · exact .inl h
    · refine .inr ⟨h6, qs, p, Fs, e1, e2, e3, e4.kept hm5 (by simp), e5, e6, e7, e8, fun x hx => ⟨fun hF => ?_, fun hR => ?_⟩⟩
      · have := hlt x hF
        have := e9 x hx
        omega
      · have := e4.lt x hx
        have := hFr x hR
        omega

theorem CutW.keep {B fan kk : Nat} {s : St} {q qr g cj : Nat} {F Fr : List Nat} {ps : Option Addr} {used ec : Int} {w w' : World} (h : CutW B fan kk s q qr g cj F Fr ps used ec w) (hm : Mod [] w w') : CutW B fan kk s q qr g cj F Fr ps used ec w' := by
  refine ⟨h.t.kept hm (by simp), h.r.kept hm (by simp), h.apart, h.row.kept hm (by simp), h.gF, h.gR, h.newF, h.newR, ?_⟩
  rcases h.first with h1 | ⟨h6, qs, p, Fs, e1, e2, e3, e4, e5⟩
  · exact .inl h1
  · exact .inr ⟨h6, qs, p, Fs, e1, e2, e3, e4.kept hm (by simp), e5⟩

/-- .. and behind both Puts -/
structure CutX (fan kk : Nat) (s s2 : St) (q qr g cj : Nat) (ps : Option Addr) (used ec : Int) (w : World) : Prop where
  t : ∃ F, HAt w q fan s2 F
  r : ∃ F, HAt w qr fan s2 F
  row : RowB w g cj s.lg
  first : (kk < 6 ∧ ps = none ∧ used = 0 ∧ ec = 5) ∨ (6 ≤ kk ∧ ∃ qs p Fs, ps = some ⟨qs, 0, none⟩ ∧ used = p.lg.length ∧ ec = 0 ∧ HAt w qs fan p Fs ∧ p.lg = s.lg.take p.lg.length ∧ p.lg.length ≤ kk ∧ kk < p.lg.length + 23 ∧ 6 ≤ p.lg.length)

theorem cutX {B fan kk : Nat} {s s2 : St} {q qr g cj : Nat} {F Fr F' Fr' : List Nat} {ps : Option Addr} {used ec : Int} {w w6 w7 : World} (h : CutW B fan kk s q qr g cj F Fr ps used ec w) (h6 : HAt w6 q fan s2 F') (hF6 : ∀ x ∈ F', x ∈ F ∨ w.heap.size ≤ x) (hm6 : Mod F w w6) (h7 : HAt w7 qr fan s2 Fr') (hm7 : Mod Fr w6 w7) : CutX fan kk s s2 q qr g cj ps used ec w7 := by
  have hrl := h.r.lt
  have hgl := h.row.lt
  refine ⟨⟨F', h6.kept hm7 (fun x hx hr => ?_)⟩, ⟨Fr', h7⟩, (h.row.kept hm6 h.gF).kept hm7 h.gR, ?_⟩
  · rcases hF6 x hx with h1 | h1
    · exact h.apart x h1 hr
    · have := hrl x hr
      omega
  · rcases h.first with h1 | ⟨h6', qs, p, Fs, e1, e2, e3, e4, e5, e6, e7, e8, e9⟩
    · exact .inl h1
    · exact .inr ⟨h6', qs, p, Fs, e1, e2, e3, (e4.kept hm6 (fun x hx => (e9 x hx).1)).kept hm7 (fun x hx => (e9 x hx).2), e5, e6, e7, e8⟩
theorem CutX.keep {fan kk : Nat} {s s2 : St} {q qr g cj : Nat} {ps : Option Addr} {used ec : Int} {w w' : World} (h : CutX fan kk s s2 q qr g cj ps used ec w) (hm : Mod [] w w') : CutX fan kk s s2 q qr g cj ps used ec w' := by
  obtain ⟨F1, h1⟩ := h.t
  obtain ⟨F2, h2⟩ := h.r
  refine ⟨⟨F1, h1.kept hm (by simp)⟩, ⟨F2, h2.kept hm (by simp)⟩, h.row.kept hm (by simp), ?_⟩
  rcases h.first with h1 | ⟨h6, qs, p, Fs, e1, e2, e3, e4, e5⟩
  · exact .inl h1
  · exact .inr ⟨h6, qs, p, Fs, e1, e2, e3, e4.kept hm (by simp), e5⟩

/-- Put of the thing that each tree has -/
theorem hPut4 {w : World} {q fan : Nat} {s : St} {F : List Nat} (h : HAt w q fan s F) (hl : s.lg.length ≤ 10000000000) (hk : s.L.length ≤ 1000) (ho : okT s.L ⟨4000, 0, 0, 0, 0⟩) :
    Calls Tryz.prog 24 #[.pointer (some ⟨q, 0, none⟩), .int .i64 4000, R4 0 0 0 0] w fun e w' => e = .returned (.int .i64 0) ∧ ∃ F', HAt w' q fan (stPut s ⟨4000, 0, 0, 0, 0⟩) F' ∧ (∀ x ∈ F', x ∈ F ∨ w.heap.size ≤ x) ∧ Mod F w w' := by
  refine (hPutS h hl hk 4000 0 0 0 0).mono ?_
  rintro e w' ⟨c, s', F', rfl, k1, k2, k3, k4⟩
  rcases k2 with ⟨rfl, _, rfl⟩ | ⟨_, hn, _⟩
  · exact ⟨rfl, F', k1, k3, k4⟩
  · exact absurd ho hn

end Go.Proofs.YthimaoipogocfaaGreat
