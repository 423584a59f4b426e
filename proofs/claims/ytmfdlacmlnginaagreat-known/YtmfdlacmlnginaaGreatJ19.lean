import Derived.Test.YtmfdlacmlnginaaGreatJ18
import Derived.Deep.RegionHeld
namespace Go.Proofs.YtmfdlacmlnginaaGreat
open Go.RowKit Go.Maps
attribute [local go_sem] run_store_f32 run_neg_inf

def i64ok (n : Int) : Prop := -9223372036854775808 ≤ n ∧ n ≤ 9223372036854775807

/-- which of n numbers a raw number speaks of -/
def pickF (c n : Int) : Int := (if c < 0 then -(c + 1) else c) % n

theorem pickF_lt (c n : Int) (hn : 0 < n) : 0 ≤ pickF c n ∧ pickF c n < n := ⟨Int.emod_nonneg _ (by omega), Int.emod_lt_of_pos _ hn⟩
theorem pickF_neg (c n : Int) (hc : c < 0) : -(c + 1).tmod n = pickF c n := by
  have e : -(c + 1).tmod n = (-(c + 1)).tmod n := by rw [Int.neg_tmod]
  rw [e, Int.tmod_eq_emod_of_nonneg (by omega)]
  unfold pickF
  rw [if_pos hc]
theorem pickF_pos (c n : Int) (hc : ¬ c < 0) : c % n = pickF c n := by unfold pickF; rw [if_neg hc]

theorem pick_any (c n : Int) (w : World) (hc : i64ok c) (hn : 0 < n) (hn2 : n ≤ 9223372036854775807) :
    Calls Tryz.prog 12 #[.int .i64 c, .int .i64 n] w fun e w' => e = .returned (.int .i64 (pickF c n)) ∧ w' = w := by
  obtain ⟨h1, h2⟩ := hc
  by_cases hc : c < 0
  · have HP := hideIt (pickF_neg c n hc)
    go_enter Tryz.func12, Tryz.ntmps12
    go_wp2
    go_ret
    exact ⟨ret_int HP.out, rfl⟩
  · have HP := hideIt (pickF_pos c n hc)
    go_enter Tryz.func12, Tryz.ntmps12
    go_wp2
    go_ret
    exact ⟨ret_int HP.out, rfl⟩

/-- a raw thing -/
structure Kt where
  i : Int
  x : Int
  y : Int
  w : Int
  h : Int

structure Kt.ok (t : Kt) : Prop where
  i : i64ok t.i
  x : i64ok t.x
  y : i64ok t.y
  w : i64ok t.w
  h : i64ok t.h

abbrev ktV (t : Kt) : Value := .agg #[.int .i64 t.i, .int .i64 t.x, .int .i64 t.y, .int .i64 t.w, .int .i64 t.h]
def Kt.id (t : Kt) : Int := pickF t.i 300
def Kt.x0 (t : Kt) (dx : Int) : Int := pickF t.x 2001 - 1000 + dx
def Kt.y0 (t : Kt) (dy : Int) : Int := pickF t.y 2001 - 1000 + dy
def Kt.x1 (t : Kt) (dx : Int) : Int := t.x0 dx + pickF t.w 60
def Kt.y1 (t : Kt) (dy : Int) : Int := t.y0 dy + pickF t.h 60

theorem kid_any (t : Kt) (ht : t.ok) (w : World) : Calls Tryz.prog 13 #[ktV t] w fun e w' => e = .returned (.int .i64 t.id) ∧ Mod [] w w' := by
  obtain ⟨i, x, y, z, h⟩ := t
  have HT := hideIt ht.i
  clear ht
  go_enter Tryz.func13, Tryz.ntmps13
  go_wp2_with fail
  refine (pick_any _ _ _ HT.out (by omega) (by omega)).mono ?_
  rintro e w' ⟨rfl, rfl⟩
  go_wp2
  go_ret
  exact ⟨rfl, Mod.alloc _ _⟩

set_option maxRecDepth 100000 in
set_option maxHeartbeats 400000 in
theorem krect_any (t : Kt) (ht : t.ok) (dx dy : Int) (hx : -1000000000 ≤ dx ∧ dx ≤ 1000000000) (hy : -1000000000 ≤ dy ∧ dy ≤ 1000000000) (w : World) :
    Calls Tryz.prog 16 #[ktV t, .int .i64 dx, .int .i64 dy] w fun e w' => e = .returned (R4 (t.x0 dx) (t.y0 dy) (t.x1 dx) (t.y1 dy)) ∧ Mod [] w w' := by
  obtain ⟨i, x, y, z, h⟩ := t
  obtain ⟨x1, x2⟩ := hx
  obtain ⟨y1, y2⟩ := hy
  have hX := fun W => pick_any x 2001 W ht.x (by omega) (by omega)
  have hY := fun W => pick_any y 2001 W ht.y (by omega) (by omega)
  obtain ⟨px1, px2⟩ := pickF_lt x 2001 (by omega)
  obtain ⟨py1, py2⟩ := pickF_lt y 2001 (by omega)
  obtain ⟨pz1, pz2⟩ := pickF_lt z 60 (by omega)
  obtain ⟨ph1, ph2⟩ := pickF_lt h 60 (by omega)
  have e1 : (⟨i, x, y, z, h⟩ : Kt).x0 dx = pickF x 2001 - 1000 + dx := rfl
  have e2 : (⟨i, x, y, z, h⟩ : Kt).y0 dy = pickF y 2001 - 1000 + dy := rfl
  have e3 : (⟨i, x, y, z, h⟩ : Kt).x1 dx = pickF x 2001 - 1000 + dx + pickF z 60 := rfl
  have e4 : (⟨i, x, y, z, h⟩ : Kt).y1 dy = pickF y 2001 - 1000 + dy + pickF h 60 := rfl
  rw [e1, e2, e3, e4]
  generalize pickF x 2001 = ax at *
  generalize pickF y 2001 = ay at *
  have HX := hideIt hX
  have HY := hideIt hY
  have HZ := hideIt ht.w
  have HH := hideIt ht.h
  clear hX hY e1 e2 e3 e4 ht
  go_enter Tryz.func16, Tryz.ntmps16
  go_wp2_with fail
  refine (HX.out _).mono ?_
  rintro e w' ⟨rfl, hw⟩
  obtain rfl := hw.symm
  clear hw
  go_wp2_with fail
  refine (HY.out _).mono ?_
  rintro e w' ⟨rfl, hw⟩
  obtain rfl := hw.symm
  clear hw
  go_wp2_with fail
  have b1 : -9223372036854775808 ≤ ax - 1000 + dx ∧ ax - 1000 + dx ≤ 9223372036854775000 := by omega
  have b2 : -9223372036854775808 ≤ ay - 1000 + dy ∧ ay - 1000 + dy ≤ 9223372036854775000 := by omega
  obtain ⟨b10, b11⟩ := b1
  obtain ⟨b20, b21⟩ := b2
  obtain ⟨X, hXE⟩ : ∃ X, X = ax - 1000 + dx := ⟨_, rfl⟩
  obtain ⟨Y, hYE⟩ : ∃ Y, Y = ay - 1000 + dy := ⟨_, rfl⟩
  rw [← hXE] at b10 b11 ⊢
  rw [← hYE] at b20 b21 ⊢
  have HXE := hideIt hXE
  have HYE := hideIt hYE
  have wz : IntKind.i64.wrap (X + pickF z 60) = X + pickF z 60 := by rw [IntKind.wrap_i64]; omega
  have wh : IntKind.i64.wrap (Y + pickF h 60) = Y + pickF h 60 := by rw [IntKind.wrap_i64]; omega
  clear hXE hYE
  clear px1 px2 py1 py2 x1 x2 y1 y2 HX HY
  go_region_held (fun w' => w'.cell? ⟨w.heap.size, 3, none⟩ = some (.int .i64 z) ∧ w'.cell? ⟨w.heap.size, 4, none⟩ = some (.int .i64 h))
    ((go_keep))
    ((go_at_call 12; refine (pick_any _ 60 _ ?_ (by omega) (by omega)).mono ?_; (first | exact HZ.out | exact HH.out); rintro e w' ⟨rfl, rfl⟩))
  all_goals
    go_wp2
    exact bodyPost_ret (v := R4 X Y (X + pickF z 60) (Y + pickF h 60)) (by simp [results, Tryz.results16, go_sem]) rfl ⟨by rw [HXE.out, HYE.out], ((Mod.alloc _ _).trans (Mod.alloc _ _)).trans (Mod.drew _)⟩

end Go.Proofs.YtmfdlacmlnginaaGreat

namespace Go.Proofs.YtmfdlacmlnginaaGreat
open Go.RowKit Go.Maps

/-- a thing as it is told: its number and its rectangle -/
structure Th where
  id : Int
  x0 : Int
  y0 : Int
  x1 : Int
  y1 : Int

def Tg.th (t : Tg) : Th := ⟨t.id, t.x0, t.y0, t.x1, t.y1⟩
def dropT (L : List Th) (id : Int) : List Th := L.filter (fun t => t.id != id)
def putT (L : List Th) (t : Th) : List Th := dropT L t.id ++ [t]
def Kt.th (t : Kt) (dx dy : Int) : Th := ⟨t.id, t.x0 dx, t.y0 dy, t.x1 dx, t.y1 dy⟩
def plantL (ks : List Kt) (dx dy : Int) : List Th := ks.foldl (fun L k => putT L (k.th dx dy)) []
/-- the one thing that each tree has -/
def plantT (ks : List Kt) (dx dy : Int) : List Th := putT (plantL (ks.take 300) dx dy) ⟨4000, dx, dy, dx, dy⟩

theorem plantL_snoc (ks : List Kt) (k : Kt) (dx dy : Int) : plantL (ks ++ [k]) dx dy = putT (plantL ks dx dy) (k.th dx dy) := by simp [plantL]
theorem putT_length (L : List Th) (t : Th) : (putT L t).length ≤ L.length + 1 := by
  simp only [putT, dropT, List.length_append, List.length_cons, List.length_nil]
  have := List.length_filter_le (fun s : Th => s.id != t.id) L
  omega
theorem plantL_length (dx dy : Int) (ks : List Kt) : (plantL ks dx dy).length ≤ ks.length := by
  have key : ∀ (ks : List Kt) (L : List Th), (ks.foldl (fun L k => putT L (k.th dx dy)) L).length ≤ L.length + ks.length := by
    intro ks
    induction ks with
    | nil => intro L; simp
    | cons k ks ih =>
      intro L
      have h1 := ih (putT L (k.th dx dy))
      have h2 := putT_length L (k.th dx dy)
      simp only [List.foldl_cons, List.length_cons]
      omega
  have := key ks []
  simpa [plantL] using this

theorem filter_eraseIdx {L : List Th} : ∀ {n : Nat} {t : Th}, (L.map (·.id)).Nodup → L[n]? = some t → L.eraseIdx n = L.filter (fun s => s.id != t.id) := by
  induction L with
  | nil => intro n t _ h; simp at h
  | cons a L ih =>
    intro n t hn h
    rw [List.map_cons, List.nodup_cons] at hn
    cases n with
    | zero =>
      simp only [List.getElem?_cons_zero, Option.some.injEq] at h
      subst h
      have hall : L.filter (fun s => s.id != a.id) = L := List.filter_eq_self.2 (fun s hs => by
        simp only [bne_iff_ne, ne_eq]
        exact fun e => hn.1 (List.mem_map.2 ⟨s, hs, e⟩))
      simp [hall]
    | succ n =>
      simp only [List.getElem?_cons_succ] at h
      have hne : a.id ≠ t.id := fun e => hn.1 (List.mem_map.2 ⟨t, List.mem_of_getElem? h, e.symm⟩)
      have := ih hn.2 h
      simp only [List.eraseIdx_cons_succ, this]
      rw [List.filter_cons_of_pos (by simpa using hne)]

theorem dropG_th {ts : List Tg} (hn : (ts.map (·.id)).Nodup) (id : Int) : (dropG ts id).map Tg.th = dropT (ts.map Tg.th) id := by
  have hmap : (ts.map Tg.th).map (·.id) = ts.map (·.id) := by simp [Tg.th, Function.comp_def]
  unfold dropG
  cases hf : findG ts id with
  | none =>
    have h0 := findG_none hf
    simp only []
    symm
    unfold dropT
    refine List.filter_eq_self.2 (fun s hs => ?_)
    obtain ⟨t, ht, rfl⟩ := List.mem_map.1 hs
    simp only [Tg.th, bne_iff_ne, ne_eq]
    exact h0 t ht
  | some n =>
    obtain ⟨t, hget, rfl, _⟩ := findG_get hf
    have h1 : (ts.map Tg.th)[n]? = some t.th := by simp [hget]
    have h2 := filter_eraseIdx (by rw [hmap]; exact hn) h1
    have h3 : (ts.eraseIdx n).map Tg.th = (ts.map Tg.th).eraseIdx n := by
      rw [List.eraseIdx_eq_take_drop_succ, List.eraseIdx_eq_take_drop_succ, List.map_append, List.map_take, List.map_drop]
    simp only []
    rw [h3, h2]
    rfl

theorem putG_th {ts : List Tg} (hn : (ts.map (·.id)).Nodup) {id x0 y0 x1 y1 : Int} (hc : putC ts id x0 y0 x1 y1 = 0) (blk : Nat) : (putG ts id x0 y0 x1 y1 blk).map Tg.th = putT (ts.map Tg.th) ⟨id, x0, y0, x1, y1⟩ := by
  unfold putG
  rw [if_pos hc, List.map_append, dropG_th hn]
  rfl

theorem putC_ok {ts : List Tg} {id x0 y0 x1 y1 : Int} (hi : 0 ≤ id ∧ id ≤ 4095) (hr : RectOk x0 y0 x1 y1) (hl : ts.length < 400) : putC ts id x0 y0 x1 y1 = 0 := by
  unfold putC
  rw [idB_iff.2 hi, rectOk_B hr, if_neg (by simp), if_neg (by simp), if_neg (by omega)]

theorem Kt.id_ok (t : Kt) : 0 ≤ t.id ∧ t.id ≤ 4095 := by
  have := pickF_lt t.i 300 (by omega)
  unfold Kt.id
  omega

theorem Kt.rect_ok (t : Kt) {dx dy : Int} (hx : -999995000 ≤ dx ∧ dx ≤ 999995000) (hy : -999995000 ≤ dy ∧ dy ≤ 999995000) : RectOk (t.x0 dx) (t.y0 dy) (t.x1 dx) (t.y1 dy) := by
  have h1 := pickF_lt t.x 2001 (by omega)
  have h2 := pickF_lt t.y 2001 (by omega)
  have h3 := pickF_lt t.w 60 (by omega)
  have h4 := pickF_lt t.h 60 (by omega)
  unfold RectOk Kt.x1 Kt.y1 Kt.x0 Kt.y0
  omega

/-- Put of a thing that is let in -/
def HPut0 (q fan : Nat) (L : List Th) (n : Nat) (F : List Nat) (w : World) (e : Ending) (w' : World) : Prop := e = .returned (.int .i64 0) ∧ ∃ ts F', HRep w' q fan ts F' ∧ ts.map Tg.th = L ∧ ts.length ≤ n ∧ (∀ x ∈ F', x ∈ F ∨ w.heap.size ≤ x) ∧ Mod F w w'

theorem hPut0 {w : World} {q fan : Nat} {ts : List Tg} {F : List Nat} (h : HRep w q fan ts F) {id x0 y0 x1 y1 : Int} (hi : 0 ≤ id ∧ id ≤ 4095) (hr : RectOk x0 y0 x1 y1) (hl : ts.length < 400) :
    Calls Tryz.prog 22 #[.pointer (some ⟨q, 0, none⟩), .int .i64 id, R4 x0 y0 x1 y1] w (HPut0 q fan (putT (ts.map Tg.th) ⟨id, x0, y0, x1, y1⟩) (ts.length + 1) F w) := by
  refine (hPut_any h id x0 y0 x1 y1 (by omega)).mono ?_
  rintro e w' ⟨blk, rfl, F', a1, a2, a3⟩
  have hc := putC_ok hi hr hl
  have hth := putG_th h.ids hc blk
  refine ⟨by rw [hc], _, F', a1, hth, ?_, a2, a3⟩
  have h1 := congrArg List.length hth
  have h2 := putT_length (ts.map Tg.th) ⟨id, x0, y0, x1, y1⟩
  rw [← hth] at h2
  simpa using h2

end Go.Proofs.YtmfdlacmlnginaaGreat

namespace Go.Proofs.YtmfdlacmlnginaaGreat
open Go.RowKit Go.Maps
attribute [local go_sem] run_store_f32 run_neg_inf

/-- a raw thing in memory -/
structure KtAt (w : World) (b o : Nat) (t : Kt) : Prop where
  c0 : w.cell? ⟨b, o, none⟩ = some (.int .i64 t.i)
  c1 : w.cell? ⟨b, o + 1, none⟩ = some (.int .i64 t.x)
  c2 : w.cell? ⟨b, o + 2, none⟩ = some (.int .i64 t.y)
  c3 : w.cell? ⟨b, o + 3, none⟩ = some (.int .i64 t.w)
  c4 : w.cell? ⟨b, o + 4, none⟩ = some (.int .i64 t.h)

/-- the raw things that a slice holds -/
def KsAt (w : World) (a : Option Addr) (ks : List Kt) : Prop := ∀ j t, ks[j]? = some t → t.ok ∧ ∃ b off, a = some ⟨b, off, none⟩ ∧ KtAt w b (off + j * 5) t

theorem cell_modF {F : List Nat} {w w' : World} (hm : Mod F w w') {b o : Nat} (hb : b ∉ F) {v : Value} (h : w.cell? ⟨b, o, none⟩ = some v) : w'.cell? ⟨b, o, none⟩ = some v := (hm.cell (World.block_lt_of_cell? w _ h) hb o).trans h

theorem KtAt.kept {F : List Nat} {w w' : World} (hm : Mod F w w') {b o : Nat} {t : Kt} (h : KtAt w b o t) (hb : b ∉ F) : KtAt w' b o t :=
  ⟨cell_modF hm hb h.c0, cell_modF hm hb h.c1, cell_modF hm hb h.c2, cell_modF hm hb h.c3, cell_modF hm hb h.c4⟩

theorem KtAt.lt {w : World} {b o : Nat} {t : Kt} (h : KtAt w b o t) : b < w.heap.size := World.block_lt_of_cell? w _ h.c0

theorem KsAt.kept {w w' : World} (hm : Mod [] w w') {a : Option Addr} {ks : List Kt} (h : KsAt w a ks) : KsAt w' a ks := fun j t hj => by
  obtain ⟨h1, b, off, h2, h3⟩ := h j t hj
  exact ⟨h1, b, off, h2, h3.kept hm (by simp)⟩

/-- what was put last is told -/
theorem getT {ts : List Tg} {L : List Th} {t : Th} (h : ts.map Tg.th = putT L t) : (findG ts t.id).isSome = true ∧ rectOfG ts t.id = R4 t.x0 t.y0 t.x1 t.y1 := by
  have hmem : t ∈ ts.map Tg.th := by rw [h]; simp [putT]
  obtain ⟨s, hs, rfl⟩ := List.mem_map.1 hmem
  cases hf : findG ts s.th.id with
  | none => exact absurd rfl (findG_none hf s hs)
  | some n =>
    obtain ⟨r, hr, hid, hgd⟩ := findG_get hf
    have hm : r.th ∈ putT L s.th := by rw [← h]; exact List.mem_map.2 ⟨r, List.mem_of_getElem? hr, rfl⟩
    have he : r.th = s.th := by
      rcases List.mem_append.1 hm with h1 | h1
      · have := (List.mem_filter.1 h1).2
        have hh : r.th.id = s.th.id := hid
        simp [hh] at this
      · simpa using h1
    refine ⟨rfl, ?_⟩
    unfold rectOfG
    rw [hf]
    simp only [hgd]
    rw [← he]
    rfl

def PlantPost (fan : Nat) (L : List Th) (w : World) (e : Ending) (w' : World) : Prop := ∃ q F ts, e = .returned (.pointer (some ⟨q, 0, none⟩)) ∧ HRep w' q fan ts F ∧ ts.map Tg.th = L ∧ ts.length ≤ 301 ∧ (∀ x ∈ F, w.heap.size ≤ x) ∧ Mod [] w w'

theorem fanF_lt (f : Int) : 4 ≤ (4 + pickF f 13).toNat ∧ (4 + pickF f 13).toNat ≤ 16 ∧ ((4 + pickF f 13).toNat : Int) = 4 + pickF f 13 := by
  have := pickF_lt f 13 (by omega)
  omega

set_option maxRecDepth 100000 in
set_option maxHeartbeats 2000000 in
theorem planted_any {w : World} {f dx dy : Int} (hf : i64ok f) (hx : -999995000 ≤ dx ∧ dx ≤ 999995000) (hy : -999995000 ≤ dy ∧ dy ≤ 999995000) {a : Option Addr} {ks : List Kt} {c : Nat} (hK : KsAt w a ks) :
    Calls Tryz.prog 11 #[.int .i64 f, .slice a ks.length c, .int .i64 dx, .int .i64 dy] w (PlantPost (4 + pickF f 13).toNat (plantT ks dx dy) w) := by
  obtain ⟨f4, f16, fe⟩ := fanF_lt f
  have hp := pickF_lt f 13 (by omega)
  obtain ⟨p1, p2⟩ := hp
  have HNEW := hideIt (hNew_good (4 + pickF f 13).toNat w f4 f16)
  rw [fe] at HNEW
  generalize (4 + pickF f 13).toNat = fan at *
  have HF := hideIt hf
  have HK := hideIt hK
  have HX := hideIt hx
  have HY := hideIt hy
  clear hf hK hx hy f4 f16 fe
  go_enter Tryz.func11, Tryz.ntmps11
  go_wp2_with fail
  refine (pick_any _ _ _ HF.out (by omega) (by omega)).mono ?_
  rintro e w' ⟨rfl, hw⟩
  obtain rfl := hw.symm
  clear hw
  go_wp2_with fail
  refine HNEW.out.mono ?_
  rintro e w1 ⟨q, F1, rfl, h1, hF1, hm1⟩
  have H1 := hideIt (And.intro h1 (And.intro hF1 hm1))
  clear h1 hF1 hm1 HNEW
  go_wp2_with fail
  go_loopw [10, 11] (fun ev i wr => ∃ kk : Nat, kk ≤ 300 ∧ kk ≤ ks.length ∧ ev = .int .i64 0 ∧ i = .int .i64 kk ∧ Hid (∃ ts F, HRep wr q fan ts F ∧ ts.map Tg.th = plantL (ks.take kk) dx dy ∧ ts.length ≤ kk ∧ (∀ x ∈ F, w.heap.size ≤ x) ∧ Mod [] w wr)) (fun _ i _ => 301 - (intOf i).toNat)
  case atStart => exact ⟨0, by omega, by omega, rfl, rfl, hideIt ⟨[], F1, H1.out.1, rfl, Nat.le_refl _, H1.out.2.1, H1.out.2.2⟩⟩
  case round =>
    obtain ⟨kk, hk1, hk2, rfl, rfl, hR⟩ := hrel
    by_cases hgo : kk < ks.length ∧ kk < 300
    · obtain ⟨hlt, h300⟩ := hgo
      · obtain ⟨ts, F, hrep, hts, hlen, hFF, hmr⟩ := hR.out
        have hget : ks[kk]? = some ks[kk] := List.getElem?_eq_getElem hlt
        obtain ⟨hok, b, off, rfl, hAt⟩ := HK.out kk _ hget
        have hstep : ks.take (kk + 1) = ks.take kk ++ [ks[kk]] := List.take_succ_eq_append_getElem hlt
        generalize ks[kk] = t at *
        have hbF : b ∉ F := fun hx => by
          have := hFF b hx
          have := hAt.lt
          omega
        have hAt' := hAt.kept hmr (by simp)
        have HPUT := hideIt (fun W (hW : Mod [] wr W) => hPut0 (hrep.kept hW (by simp)) t.id_ok (t.rect_ok HX.out HY.out) (by omega))
        have HKEEP := hideIt (show ∀ w', Mod F wr w' → Mod F wr w' ∧ w'.cell? ⟨b, off + kk * 5, none⟩ = some (.int .i64 t.i) ∧ w'.cell? ⟨b, off + kk * 5 + 1, none⟩ = some (.int .i64 t.x) ∧ w'.cell? ⟨b, off + kk * 5 + 2, none⟩ = some (.int .i64 t.y) ∧ w'.cell? ⟨b, off + kk * 5 + 3, none⟩ = some (.int .i64 t.w) ∧ w'.cell? ⟨b, off + kk * 5 + 4, none⟩ = some (.int .i64 t.h) from fun w' hm => by
          have := hAt'.kept hm hbF
          exact ⟨hm, this.c0, this.c1, this.c2, this.c3, this.c4⟩)
        have HOK := hideIt hok
        have HS := hideIt hstep
        have HR := hideIt (And.intro hrep (And.intro hts (And.intro hlen (And.intro hFF hmr))))
        have hkz : (kk : Int) < (ks.length : Int) := by omega
        have hk3 : (kk : Int) < 300 := by omega
        clear hR hrep hts hlen hFF hmr hget hok hAt hAt' hstep hbF
        go_wp2_with fail
        go_region_held (fun w' => Mod F wr w' ∧ w'.cell? ⟨b, off + kk * 5, none⟩ = some (.int .i64 t.i) ∧ w'.cell? ⟨b, off + kk * 5 + 1, none⟩ = some (.int .i64 t.x) ∧ w'.cell? ⟨b, off + kk * 5 + 2, none⟩ = some (.int .i64 t.y) ∧ w'.cell? ⟨b, off + kk * 5 + 3, none⟩ = some (.int .i64 t.w) ∧ w'.cell? ⟨b, off + kk * 5 + 4, none⟩ = some (.int .i64 t.h))
          ((first
            | exact HKEEP.out _ (Mod.drew _)
            | exact HKEEP.out _ (Mod.trans (by simp only [*]) hm2.nil)
            | exact HKEEP.out _ (Mod.trans (by simp only [*]) hm3.nil)
            | exact HKEEP.out _ (Mod.trans (by simp only [*]) a5)))
          ((first
            | (go_at_call 13; refine (kid_any t HOK.out _).mono ?_; rintro e w2 ⟨rfl, hm2⟩)
            | (go_at_call 16; refine (krect_any t HOK.out dx dy (by have := HX.out; omega) (by have := HY.out; omega) _).mono ?_; rintro e w3 ⟨rfl, hm3⟩)
            | (go_at_call 22; refine (HPUT.out _ (((Mod.drew _).trans hm2).trans hm3)).mono ?_; rintro e w4 ⟨rfl, ts', F', a1, a2, a3, a4, a5⟩)))
        all_goals
          have HFIN := hideIt (show ∃ ts F, HRep w4 q fan ts F ∧ ts.map Tg.th = plantL (ks.take (kk + 1)) dx dy ∧ ts.length ≤ kk + 1 ∧ (∀ x ∈ F, w.heap.size ≤ x) ∧ Mod [] w w4 from by
            obtain ⟨hrep, hts, hlen, hFF, hmr⟩ := HR.out
            have hmA := hmr.trans (((Mod.drew _).trans hm2).trans hm3)
            refine ⟨ts', F', a1, ?_, by omega, fun x hx => ?_, hmA.then a5 (fun x hx => .inr (hFF x hx))⟩
            · rw [a2, HS.out, plantL_snoc, hts]
              rfl
            · rcases a4 x hx with h | h
              · exact hFF x h
              · have := hmA.size
                omega)
          clear a1 a2 a3 a4 a5 hm2 hm3 HPUT HKEEP
          go_wp2_with fail
          go_roundw
          case rel => exact ⟨kk + 1, by omega, by omega, rfl, by go_num, HFIN⟩
          case measure => simp [intOf]; omega
    · obtain ⟨ts, F, hrep, hts, hlen, hFF, hmr⟩ := hR.out
      have htk : ks.take kk = ks.take 300 := by
        by_cases h3 : kk = 300
        · rw [h3]
        · have : ks.length ≤ kk := by omega
          rw [List.take_of_length_le this, List.take_of_length_le (by omega)]
      rw [htk] at hts
      have HPUT := hideIt (hPut0 hrep (id := 4000) (x0 := dx) (y0 := dy) (x1 := dx) (y1 := dy) (by omega) (by have := HX.out; have := HY.out; unfold RectOk; omega) (by omega))
      have HFIN := hideIt (show ∀ w4 w5 ts' F', HRep w4 q fan ts' F' → ts'.map Tg.th = putT (ts.map Tg.th) ⟨4000, dx, dy, dx, dy⟩ → ts'.length ≤ ts.length + 1 → (∀ x ∈ F', x ∈ F ∨ wr.heap.size ≤ x) → Mod F wr w4 → Mod [] w4 w5 → PlantPost fan (plantT ks dx dy) w (.returned (.pointer (some ⟨q, 0, none⟩))) w5 from fun w4 w5 ts' F' a1 a2 a3 a4 a5 a6 => by
        refine ⟨q, F', ts', rfl, a1.kept a6 (by simp), ?_, by omega, fun x hx => ?_, (hmr.then a5 (fun x hx => .inr (hFF x hx))).trans a6⟩
        · rw [a2, hts]
          rfl
        · rcases a4 x hx with h | h
          · exact hFF x h
          · have := hmr.size
            omega)
      have hk : ¬ ((kk : Int) < (ks.length : Int)) ∨ ((kk : Int) < (ks.length : Int) ∧ ¬ ((kk : Int) < 300)) := by omega
      clear hR hrep hts hlen hFF hmr htk hgo
      rcases hk with hk | ⟨hk, hk'⟩
      all_goals
        go_wp2_with fail
        refine HPUT.out.mono ?_
        rintro e w4 ⟨rfl, ts', F', a1, a2, a3, a4, a5⟩
        obtain ⟨g1, g2⟩ := getT a2
        have hget := hGet_any a1 4000
        unfold HGetPost at hget
        simp only at g1 g2
        rw [g1, g2] at hget
        have HGET := hideIt hget
        have HFIN2 := hideIt (fun w5 h => HFIN.out w4 w5 ts' F' a1 a2 a3 a4 a5 h)
        clear a1 a2 a3 a4 a5 g1 g2 hget HFIN HPUT
        go_wp2_with fail
        refine HGET.out.mono ?_
        rintro e w5 ⟨rfl, hm5⟩
        go_wp2
        go_ret
        exact HFIN2.out _ (hm5.trans (Mod.alloc _ _))

end Go.Proofs.YtmfdlacmlnginaaGreat

