import Derived.Test.YthimaoipogocfaaGreatJ17
import Derived.Deep.RegionHeld
import Derived.Test.YthimaoipogocfaaGreatJ09
import Derived.Shelf.Sort.Plain
import Derived.Shelf.Slices.In.SortNone
import Derived.Ground.NamesProg
import Derived.Test.YthimaoipogocfaaGreatProg
namespace Go.Proofs.YthimaoipogocfaaGreat
open Go.RowKit Go.Maps
attribute [local go_sem] run_store_f32 run_neg_inf

/-- a raw thing in memory -/
structure KtAt (w : World) (b o : Nat) (t : Kt) : Prop where
  c0 : w.cell? ⟨b, o, none⟩ = some (.int .i64 t.i)
  c1 : w.cell? ⟨b, o + 1, none⟩ = some (.int .i64 t.x)
  c2 : w.cell? ⟨b, o + 2, none⟩ = some (.int .i64 t.y)
  c3 : w.cell? ⟨b, o + 3, none⟩ = some (.int .i64 t.w)
  c4 : w.cell? ⟨b, o + 4, none⟩ = some (.int .i64 t.h)

/-- the raw things that a slice holds -/
def KsAt (w : World) (a : Option Addr) (ks : List Kt) : Prop := ∀ j t, ks[j]? = some t → t.ok ∧ ∃ b off, a = some ⟨b, off, none⟩ ∧ KtAt w b (off + j * 5) t

theorem cell_modF {F : List Nat} {w w' : World} (hm : Mod F w w') {b o : Nat} (hb : b ∉ F) {v : Value} (h : w.cell? ⟨b, o, none⟩ = some v) : w'.cell? ⟨b, o, none⟩ = some v := (hm.cell (World.block_lt_of_cell? w _ h) hb o).trans h

theorem KtAt.kept {F : List Nat} {w w' : World} (hm : Mod F w w') {b o : Nat} {t : Kt} (h : KtAt w b o t) (hb : b ∉ F) : KtAt w' b o t :=
  ⟨cell_modF hm hb h.c0, cell_modF hm hb h.c1, cell_modF hm hb h.c2, cell_modF hm hb h.c3, cell_modF hm hb h.c4⟩

theorem KtAt.lt {w : World} {b o : Nat} {t : Kt} (h : KtAt w b o t) : b < w.heap.size := World.block_lt_of_cell? w _ h.c0

theorem KsAt.kept {w w' : World} (hm : Mod [] w w') {a : Option Addr} {ks : List Kt} (h : KsAt w a ks) : KsAt w' a ks := fun j t hj => by
  obtain ⟨h1, b, off, h2, h3⟩ := h j t hj
  exact ⟨h1, b, off, h2, h3.kept hm (by simp)⟩

/-- what was put last is told -/
theorem getT {ts : List Tg} {L : List Th} {t : Th} (h : ts.map Tg.th = putT L t) : (findG ts t.id).isSome = true ∧ rectOfG ts t.id = R4 t.x0 t.y0 t.x1 t.y1 := by
  have hmem : t ∈ ts.map Tg.th := by rw [h]; simp [putT]
  obtain ⟨s, hs, rfl⟩ := List.mem_map.1 hmem
  cases hf : findG ts s.th.id with
  | none => exact absurd rfl (findG_none hf s hs)
  | some n =>
    obtain ⟨r, hr, hid, hgd⟩ := findG_get hf
    have hm : r.th ∈ putT L s.th := by rw [← h]; exact List.mem_map.2 ⟨r, List.mem_of_getElem? hr, rfl⟩
    have he : r.th = s.th := by
      rcases List.mem_append.1 hm with h1 | h1
      · have := (List.mem_filter.1 h1).2
        have hh : r.th.id = s.th.id := hid
        simp [hh] at this
      · simpa using h1
    refine ⟨rfl, ?_⟩
    unfold rectOfG
    rw [hf]
    simp only [hgd]
    rw [← he]
    rfl

theorem plantG_length (fan : Int) (ks : List Kt) (dx dy : Int) : (plantG fan ks dx dy).length ≤ 23 * ks.length + 23 := by
  have key : ∀ (ks : List Kt) (s : St), (ks.foldl (fun s k => stPut s (k.th dx dy)) s).lg.length ≤ s.lg.length + 23 * ks.length := by
    intro ks
    induction ks with
    | nil => intro s; simp
    | cons k ks ih =>
      intro s
      have h1 := ih (stPut s (k.th dx dy))
      have h2 := putLT_length s.L s.lg (k.th dx dy)
      simp only [List.foldl_cons, List.length_cons]
      simp only [stPut] at h1 ⊢
      omega
  have h1 := key ks (stNew fan)
  have h2 := Rc.bytes_length (rcHead fan) []
  unfold plantG plantS
  simp only [stNew] at h1 ⊢
  omega
theorem plantGT_length (fan : Int) (ks : List Kt) (dx dy : Int) : (plantGT fan ks dx dy).length ≤ 7000 := by
  have h1 := putLT_length (plantL (ks.take 300) dx dy) (plantG fan (ks.take 300) dx dy) ⟨4000, dx, dy, dx, dy⟩
  have h2 := plantG_length fan (ks.take 300) dx dy
  have h3 := List.length_take_le 300 ks
  unfold plantGT
  omega

def PlantPost (fan : Nat) (L : List Th) (lg : List Int) (w : World) (e : Ending) (w' : World) : Prop := ∃ q F ts, e = .returned (.pointer (some ⟨q, 0, none⟩)) ∧ HRep w' q fan ts lg F ∧ ts.map Tg.th = L ∧ ts.length ≤ 301 ∧ (∀ x ∈ F, w.heap.size ≤ x) ∧ Mod [] w w'

theorem fanF_lt (f : Int) : 4 ≤ (4 + pickF f 13).toNat ∧ (4 + pickF f 13).toNat ≤ 16 ∧ ((4 + pickF f 13).toNat : Int) = 4 + pickF f 13 := by
  have := pickF_lt f 13 (by omega)
  omega

set_option maxRecDepth 100000 in
set_option maxHeartbeats 2000000 in
theorem planted_any {w : World} {f dx dy : Int} (hf : i64ok f) (hx : -999995000 ≤ dx ∧ dx ≤ 999995000) (hy : -999995000 ≤ dy ∧ dy ≤ 999995000) {a : Option Addr} {ks : List Kt} {c : Nat} (hK : KsAt w a ks) :
    Calls Tryz.prog 13 #[.int .i64 f, .slice a ks.length c, .int .i64 dx, .int .i64 dy] w (PlantPost (4 + pickF f 13).toNat (plantT ks dx dy) (plantGT (4 + pickF f 13).toNat ks dx dy) w) := by
  obtain ⟨f4, f16, fe⟩ := fanF_lt f
  have hp := pickF_lt f 13 (by omega)
  obtain ⟨p1, p2⟩ := hp
  have HNEW := hideIt (hNew_good (4 + pickF f 13).toNat w f4 f16)
  rw [fe] at HNEW
  generalize (4 + pickF f 13).toNat = fan at *
  have HF := hideIt hf
  have HK := hideIt hK
  have HX := hideIt hx
  have HY := hideIt hy
  clear hf hK hx hy f4 f16 fe
  go_enter Tryz.func13, Tryz.ntmps13
  go_wp2_with fail
  refine (pick_any _ _ _ HF.out (by omega) (by omega)).mono ?_
  rintro e w' ⟨rfl, hw⟩
  obtain rfl := hw.symm
  clear hw
  go_wp2_with fail
  refine HNEW.out.mono ?_
  rintro e w1 ⟨q, F1, rfl, h1, hF1, hm1⟩
  have H1 := hideIt (And.intro h1 (And.intro hF1 hm1))
  clear h1 hF1 hm1 HNEW
  go_wp2_with fail
  go_loopw [10, 11] (fun ev i wr => ∃ kk : Nat, kk ≤ 300 ∧ kk ≤ ks.length ∧ ev = .int .i64 0 ∧ i = .int .i64 kk ∧ Hid (∃ ts F, HRep wr q fan ts (plantG fan (ks.take kk) dx dy) F ∧ ts.map Tg.th = plantL (ks.take kk) dx dy ∧ ts.length ≤ kk ∧ (∀ x ∈ F, w.heap.size ≤ x) ∧ Mod [] w wr)) (fun _ i _ => 301 - (intOf i).toNat)
  case atStart => exact ⟨0, by omega, by omega, rfl, rfl, hideIt ⟨[], F1, H1.out.1, rfl, Nat.le_refl _, H1.out.2.1, H1.out.2.2⟩⟩
  case round =>
    obtain ⟨kk, hk1, hk2, rfl, rfl, hR⟩ := hrel
    by_cases hgo : kk < ks.length ∧ kk < 300
    · obtain ⟨hlt, h300⟩ := hgo
      · obtain ⟨ts, F, hrep, hts, hlen, hFF, hmr⟩ := hR.out
        have hget : ks[kk]? = some ks[kk] := List.getElem?_eq_getElem hlt
        obtain ⟨hok, b, off, rfl, hAt⟩ := HK.out kk _ hget
        have hstep : ks.take (kk + 1) = ks.take kk ++ [ks[kk]] := List.take_succ_eq_append_getElem hlt
        generalize ks[kk] = t at *
        have hbF : b ∉ F := fun hx => by
          have := hFF b hx
          have := hAt.lt
          omega
        have hAt' := hAt.kept hmr (by simp)
        have HPUT := hideIt (fun W (hW : Mod [] wr W) => hPut0 (hrep.kept hW (by simp)) (by have := plantG_length fan (ks.take kk) dx dy; have := List.length_take_le kk ks; omega) t.id_ok (t.rect_ok HX.out HY.out) (by omega))
        have HKEEP := hideIt (show ∀ w', Mod F wr w' → Mod F wr w' ∧ w'.cell? ⟨b, off + kk * 5, none⟩ = some (.int .i64 t.i) ∧ w'.cell? ⟨b, off + kk * 5 + 1, none⟩ = some (.int .i64 t.x) ∧ w'.cell? ⟨b, off + kk * 5 + 2, none⟩ = some (.int .i64 t.y) ∧ w'.cell? ⟨b, off + kk * 5 + 3, none⟩ = some (.int .i64 t.w) ∧ w'.cell? ⟨b, off + kk * 5 + 4, none⟩ = some (.int .i64 t.h) from fun w' hm => by
          have := hAt'.kept hm hbF
          exact ⟨hm, this.c0, this.c1, this.c2, this.c3, this.c4⟩)
        have HOK := hideIt hok
        have HS := hideIt hstep
        have HR := hideIt (And.intro hrep (And.intro hts (And.intro hlen (And.intro hFF hmr))))
        have hkz : (kk : Int) < (ks.length : Int) := by omega
        have hk3 : (kk : Int) < 300 := by omega
        clear hR hrep hts hlen hFF hmr hget hok hAt hAt' hstep hbF
        go_wp2_with fail
        go_region_held (fun w' => Mod F wr w' ∧ w'.cell? ⟨b, off + kk * 5, none⟩ = some (.int .i64 t.i) ∧ w'.cell? ⟨b, off + kk * 5 + 1, none⟩ = some (.int .i64 t.x) ∧ w'.cell? ⟨b, off + kk * 5 + 2, none⟩ = some (.int .i64 t.y) ∧ w'.cell? ⟨b, off + kk * 5 + 3, none⟩ = some (.int .i64 t.w) ∧ w'.cell? ⟨b, off + kk * 5 + 4, none⟩ = some (.int .i64 t.h))
          ((first
            | exact HKEEP.out _ (Mod.drew _)
            | exact HKEEP.out _ (Mod.trans (by simp only [*]) hm2.nil)
            | exact HKEEP.out _ (Mod.trans (by simp only [*]) hm3.nil)
            | exact HKEEP.out _ (Mod.trans (by simp only [*]) a5)))
          ((first
            | (go_at_call 15; refine (kid_any t HOK.out _).mono ?_; rintro e w2 ⟨rfl, hm2⟩)
            | (go_at_call 18; refine (krect_any t HOK.out dx dy (by have := HX.out; omega) (by have := HY.out; omega) _).mono ?_; rintro e w3 ⟨rfl, hm3⟩)
            | (go_at_call 24; refine (HPUT.out _ (((Mod.drew _).trans hm2).trans hm3)).mono ?_; rintro e w4 ⟨rfl, ts', F', a1, a2, a3, a4, a5⟩)))
        all_goals
          have HFIN := hideIt (show ∃ ts F, HRep w4 q fan ts (plantG fan (ks.take (kk + 1)) dx dy) F ∧ ts.map Tg.th = plantL (ks.take (kk + 1)) dx dy ∧ ts.length ≤ kk + 1 ∧ (∀ x ∈ F, w.heap.size ≤ x) ∧ Mod [] w w4 from by
            obtain ⟨hrep, hts, hlen, hFF, hmr⟩ := HR.out
            have hmA := hmr.trans (((Mod.drew _).trans hm2).trans hm3)
            refine ⟨ts', F', by rw [HS.out, plantG_snoc, ← hts]; exact a1, ?_, by omega, fun x hx => ?_, hmA.then a5 (fun x hx => .inr (hFF x hx))⟩
            · rw [a2, HS.out, plantL_snoc, hts]
              rfl
            · rcases a4 x hx with h | h
              · exact hFF x h
              · have := hmA.size
                omega)
          clear a1 a2 a3 a4 a5 hm2 hm3 HPUT HKEEP
          go_wp2_with fail
          go_roundw
          case rel => exact ⟨kk + 1, by omega, by omega, rfl, by go_num, HFIN⟩
          case measure => simp [intOf]; omega
    · obtain ⟨ts, F, hrep, hts, hlen, hFF, hmr⟩ := hR.out
      have htk : ks.take kk = ks.take 300 := by
        by_cases h3 : kk = 300
        · rw [h3]
        · have : ks.length ≤ kk := by omega
          rw [List.take_of_length_le this, List.take_of_length_le (by omega)]
      rw [htk] at hts hrep
      have HPUT := hideIt (hPut0 hrep (by have := plantG_length fan (ks.take 300) dx dy; have := List.length_take_le 300 ks; omega) (id := 4000) (x0 := dx) (y0 := dy) (x1 := dx) (y1 := dy) (by omega) (by have := HX.out; have := HY.out; unfold RectOk; omega) (by omega))
      have HFIN := hideIt (show ∀ w4 w5 ts' F', HRep w4 q fan ts' (putLT (ts.map Tg.th) (plantG fan (ks.take 300) dx dy) ⟨4000, dx, dy, dx, dy⟩) F' → ts'.map Tg.th = putT (ts.map Tg.th) ⟨4000, dx, dy, dx, dy⟩ → ts'.length ≤ ts.length + 1 → (∀ x ∈ F', x ∈ F ∨ wr.heap.size ≤ x) → Mod F wr w4 → Mod [] w4 w5 → PlantPost fan (plantT ks dx dy) (plantGT fan ks dx dy) w (.returned (.pointer (some ⟨q, 0, none⟩))) w5 from fun w4 w5 ts' F' a1 a2 a3 a4 a5 a6 => by
        refine ⟨q, F', ts', rfl, by rw [hts] at a1; exact a1.kept a6 (by simp), ?_, by omega, fun x hx => ?_, (hmr.then a5 (fun x hx => .inr (hFF x hx))).trans a6⟩
        · rw [a2, hts]
          rfl
        · rcases a4 x hx with h | h
          · exact hFF x h
          · have := hmr.size
            omega)
      have hk : ¬ ((kk : Int) < (ks.length : Int)) ∨ ((kk : Int) < (ks.length : Int) ∧ ¬ ((kk : Int) < 300)) := by omega
      clear hR hrep hts hlen hFF hmr htk hgo
      rcases hk with hk | ⟨hk, hk'⟩
      all_goals
        go_wp2_with fail
        refine HPUT.out.mono ?_
        rintro e w4 ⟨rfl, ts', F', a1, a2, a3, a4, a5⟩
        obtain ⟨g1, g2⟩ := getT a2
        have hget := hGet_any a1 4000
        unfold HGetPost at hget
        simp only at g1 g2
        rw [g1, g2] at hget
        have HGET := hideIt hget
        have HFIN2 := hideIt (fun w5 h => HFIN.out w4 w5 ts' F' a1 a2 a3 a4 a5 h)
        clear a1 a2 a3 a4 a5 g1 g2 hget HFIN HPUT
        go_wp2_with fail
        refine HGET.out.mono ?_
        rintro e w5 ⟨rfl, hm5⟩
        go_wp2
        go_ret
        exact HFIN2.out _ (hm5.trans (Mod.alloc _ _))

end Go.Proofs.YthimaoipogocfaaGreat

namespace Go.Proofs.YthimaoipogocfaaGreat
open Go.RowKit
attribute [local go_sem] run_store_f32 run_neg_inf

/-! ### visit: whoever looks (S: what was seen, his blocks, the world) is shown the things whose boxes meet -/
def VisPost (S : List Tg → List Nat → World → Prop) (acc : List Tg) (G : List Nat) (w : World) (e : Ending) (w' : World) : Prop :=
  e = .returned (.tuple #[]) ∧ ∃ G', S acc G' w' ∧ (∀ x ∈ G', x ∈ G ∨ w.heap.size ≤ x) ∧ Mod G w w'

structure Viewer (g : FuncId) (caps : Array Value) (S : List Tg → List Nat → World → Prop) : Prop where
  enters : ∀ args w, (callFunc g args).run Tryz.prog w = .ok (.enter g args) w
  sees : ∀ acc G t w, acc.length < 1000 → S acc G w → TgAt w t → t.blk ∉ G → Calls Tryz.prog g (#[.pointer (some ⟨t.blk, 0, none⟩)] ++ caps) w (VisPost S (acc ++ [t]) G w)
  keep : ∀ acc G w w', S acc G w → Mod [] w w' → S acc G w'
  lt : ∀ acc G w, S acc G w → ∀ x ∈ G, x < w.heap.size

/-- what was seen since w0, with the box in a block of its own -/
structure SeenAt (S : List Tg → List Nat → World → Prop) (acc : List Tg) (G : List Nat) (w0 wr : World) : Prop where
  out : ∃ G', S acc G' wr ∧ (∀ x ∈ G', x ∈ G ∨ w0.heap.size ≤ x) ∧ Mod G w0 wr

theorem SeenAt.refl {S : List Tg → List Nat → World → Prop} {acc : List Tg} {G : List Nat} {w : World} (h : S acc G w) : SeenAt S acc G w w := ⟨G, h, fun _ hx => .inl hx, Mod.refl _ _⟩
theorem SeenAt.mod {S : List Tg → List Nat → World → Prop} {acc : List Tg} {G : List Nat} {w0 wr : World} (h : SeenAt S acc G w0 wr) : Mod G w0 wr := by
  obtain ⟨_, _, _, h⟩ := h.out
  exact h
theorem SeenAt.keep {g : FuncId} {caps : Array Value} {S : List Tg → List Nat → World → Prop} (V : Viewer g caps S) {acc : List Tg} {G : List Nat} {w0 wr w' : World} (h : SeenAt S acc G w0 wr) (hm : Mod [] wr w') : SeenAt S acc G w0 w' := by
  obtain ⟨G', h1, h2, h3⟩ := h.out
  exact ⟨G', V.keep _ _ _ _ h1 hm, h2, h3.trans hm.nil⟩
theorem SeenAt.more {S : List Tg → List Nat → World → Prop} {acc acc' : List Tg} {G : List Nat} {w0 wr w' : World} (h : SeenAt S acc G w0 wr) (hn : ∀ G', S acc G' wr → (∀ x ∈ G', x ∈ G ∨ w0.heap.size ≤ x) → ∃ G'', S acc' G'' w' ∧ (∀ x ∈ G'', x ∈ G' ∨ wr.heap.size ≤ x) ∧ Mod G' wr w') : SeenAt S acc' G w0 w' := by
  obtain ⟨G', h1, h2, h3⟩ := h.out
  obtain ⟨G'', k1, k2, k3⟩ := hn G' h1 h2
  have hs := h3.size
  refine ⟨G'', k1, fun x hx => ?_, h3.then k3 h2⟩
  rcases k2 x hx with hx | hx
  · exact h2 x hx
  · exact .inr (by omega)

theorem cell_modG {F : List Nat} {w w' : World} (hm : Mod F w w') {b o : Nat} (hb : b ∉ F) {v : Value} (h : w.cell? ⟨b, o, none⟩ = some v) : w'.cell? ⟨b, o, none⟩ = some v := (hm.cell (World.block_lt_of_cell? w _ h) hb o).trans h

def shown (b : Bx) (ts : List Tg) : List Tg := ts.filter (fun t => t.bx.meets b)
theorem shown_nil (b : Bx) : shown b [] = [] := rfl
theorem shown_append (b : Bx) (l m : List Tg) : shown b (l ++ m) = shown b l ++ shown b m := by simp [shown]
theorem shown_one {b : Bx} {t : Tg} (h : t.bx.meets b = true) : shown b [t] = [t] := by simp [shown, h]
theorem shown_none {b : Bx} {t : Tg} (h : t.bx.meets b = false) : shown b [t] = [] := by simp [shown, h]
/-- a node whose box does not meet holds nothing that does -/
theorem shown_pruned {b : Bx} {k : Kd} (hk : KdOk k) (h : k.bx.meets b = false) : shown b k.ts = [] := by
  refine List.filter_eq_nil_iff.2 (fun t ht hm => ?_)
  have := Bx.meets_of_in (hk.cover t ht) hm
  rw [h] at this
  cases this

set_option maxRecDepth 100000 in
set_option maxHeartbeats 2000000 in
theorem visit_leaf {w : World} {k : Kd} {r cc : Nat} {b : Bx} {g : FuncId} {caps : Array Value} {S : List Tg → List Nat → World → Prop} (V : Viewer g caps S) (hl : LeafAt w k (.slice (some ⟨r, 0, none⟩) k.n cc)) (hb : b.Num) {acc : List Tg} {G : List Nat} (hS : S acc G w) (hG : ∀ x ∈ k.F, x ∉ G) (hac : acc.length + k.ts.length ≤ 1000) :
    Calls Tryz.prog 68 #[.pointer (some ⟨k.p, 0, none⟩), bxV b, .func (.func g) #[] caps] w (VisPost S (acc ++ shown b k.ts) G w) := by
  have hma := Mod.alloc (F := []) w (bxO b)
  have hl0 := hl.kept hma (by simp)
  have hb0 := heap_alloc_new w (bxO b)
  have hS0 := V.keep _ _ _ _ hS hma
  have hszb : w.heap.size ∉ G := fun hx => Nat.lt_irrefl _ (V.lt _ _ _ hS _ hx)
  have hsz : w.heap.size < (w.alloc (bxO b)).heap.size := by simp
  have hlt := NodeAt.lt (w := w) (fan := 0) (lo := 0) (h := 0) (k := k) ⟨_, hl⟩
  have hpF : k.p ∈ k.F := by rw [hl.foot]; simp
  obtain ⟨c4, c5⟩ := cell_ndO hl0.here
  have eg := V.enters
  have HV := hideIt V
  have HB := hideIt hb
  have HG := hideIt hG
  have HL := hideIt hl0
  have HLT := hideIt hlt
  have HPF := hideIt hpF
  have HZ := hideIt (And.intro hszb (And.intro hsz hb0))
  have HS0 := hideIt (SeenAt.refl hS0)
  have HFIN := hideIt (show ∀ w' acc', SeenAt S acc' G (w.alloc (bxO b)) w' → VisPost S acc' G w (.returned (.tuple #[])) w' from fun w' acc' h => by
    obtain ⟨G', h1, h2, h3⟩ := h.out
    refine ⟨rfl, G', h1, fun x hx => ?_, hma.nil.trans h3⟩
    rcases h2 x hx with hx | hx
    · exact .inl hx
    · exact .inr (by omega))
  have hlen := hl.len
  clear V hl hb hS hG hma hl0 hb0 hS0 hszb hsz hlt hpF
  go_enter Tryz.func68, Tryz.ntmps68
  go_wp2_with fail
  go_loopw [15] (fun i wr => ∃ kk : Nat, kk ≤ k.n ∧ i = .int .i64 kk ∧ Hid (SeenAt S (acc ++ shown b (k.ts.take kk)) G (w.alloc (bxO b)) wr)) (fun i _ => k.n - (intOf i).toNat)
  case atStart => exact ⟨0, by omega, rfl, hideIt (by simpa [shown] using HS0.out)⟩
  case round =>
    clear c4 c5
    obtain ⟨kk, hkk, rfl, hR⟩ := hrel
    by_cases hlt : kk < k.n
    · have hlt' : (kk : Int) < (k.n : Int) := by omega
      have hkl : kk < k.ts.length := by omega
      have hmr := hR.out.mod
      have hl' := HL.out.kept hmr HG.out
      obtain ⟨rest, hro, _, _, _, _, _⟩ := owns_rowT hl'.row
      have htm : k.ts[kk] ∈ k.ts := List.getElem_mem hkl
      have hstep : k.ts.take (kk + 1) = k.ts.take kk ++ [k.ts[kk]] := List.take_succ_eq_append_getElem hkl
      have cI := rowO_get hro (j := kk) (p := k.ts[kk].blk) (by simp [tblks, hkl])
      have hT := hl'.things _ htm
      obtain ⟨t0, t1, t2, t3⟩ := hT.cells
      have hbF : k.ts[kk].blk ∈ k.F := by
        rw [hl'.foot]
        exact List.mem_cons_of_mem _ (List.mem_append_right _ (List.mem_map.2 ⟨_, htm, rfl⟩))
      obtain ⟨z0, z1, z2, z3⟩ := cell_bxO ((hmr.block w.heap.size HZ.out.2.1 HZ.out.1).trans HZ.out.2.2)
      have hnum := (Bx.of_ok hT.rect).num
      have HT := hideIt hT
      have HBF := hideIt (And.intro (HG.out _ hbF) (HLT.out _ hbF))
      have HST := hideIt hstep
      have HNUM := hideIt (show k.ts[kk].bx.Num from hnum)
      have HAC := hideIt (show (acc ++ shown b (k.ts.take kk)).length < 1000 from by
        have h1 := List.length_filter_le (fun t : Tg => t.bx.meets b) (k.ts.take kk)
        have h2 : (k.ts.take kk).length ≤ kk := by simp; omega
        rw [List.length_append]
        unfold shown
        omega)
      clear hmr hl' hro htm hstep hT hbF hnum
      generalize k.ts[kk] = t at *
      cases hmt : t.bx.meets b with
      | false =>
        have HME := hideIt (show ∀ W, Calls Tryz.prog 98 #[bxV t.bx, bxV b] W (BoolPost false W) from fun W => by
          have := meets_any HNUM.out HB.out W
          rw [hmt] at this
          exact this)
        have HMT := hideIt hmt
        clear hmt
        go_wp2_with fail
        go_region_with (go_at_call 98; refine (HME.out _).mono ?_; rintro e w4 ⟨rfl, hm2⟩)
        all_goals
          have hfin := hR.out.keep HV.out ((Mod.drew _).trans hm2)
          have HF := hideIt hfin
          clear hfin hm2 t0 t1 t2 t3 z0 z1 z2 z3
          go_wp2_with fail
          go_roundw
          case rel => exact ⟨kk + 1, by omega, by go_num, hideIt (by rw [HST.out, shown_append, shown_none HMT.out, List.append_nil]; exact HF.out)⟩
          case measure => simp [intOf]; omega
      | true =>
        have HME := hideIt (show ∀ W, Calls Tryz.prog 98 #[bxV t.bx, bxV b] W (BoolPost true W) from fun W => by
          have := meets_any HNUM.out HB.out W
          rw [hmt] at this
          exact this)
        have HMT := hideIt hmt
        clear hmt
        go_wp2_with fail
        go_region_with (go_at_call 98; refine (HME.out _).mono ?_; rintro e w4 ⟨rfl, hm2⟩)
        all_goals
          have hm3 := (Mod.drew wr).trans hm2
          have HM3 := hideIt hm3
          clear hm3 hm2 t0 t1 t2 t3 z0 z1 z2 z3
          obtain ⟨G', hs1, hs2, hs3⟩ := (hR.out.keep HV.out HM3.out).out
          have hsee := HV.out.sees _ G' t w4 HAC.out hs1 (HT.out.kept HM3.out (by simp)) (fun hx => by
            rcases hs2 _ hx with hx | hx
            · exact HBF.out.1 hx
            · have := HBF.out.2
              have := HZ.out.2.1
              omega)
          have HSEE := hideIt hsee
          have HSS := hideIt (And.intro hs1 (And.intro hs2 hs3))
          clear hsee hs1 hs2 hs3
          go_wp2_with fail
          refine HSEE.out.mono ?_
          rintro e w5 ⟨rfl, hs5⟩
          have hfin : SeenAt S (acc ++ shown b (k.ts.take kk) ++ [t]) G (w.alloc (bxO b)) w5 := by
            obtain ⟨G'', k1, k2, k3⟩ := hs5
            obtain ⟨_, h2, h3⟩ := HSS.out
            have hs := h3.size
            refine ⟨G'', k1, fun x hx => ?_, h3.then k3 h2⟩
            rcases k2 x hx with hx | hx
            · exact h2 x hx
            · exact .inr (by omega)
          have HF := hideIt hfin
          clear hfin hs5
          go_wp2_with fail
          go_roundw
          case rel => exact ⟨kk + 1, by omega, by go_num, hideIt (by rw [HST.out, shown_append, shown_one HMT.out, ← List.append_assoc]; exact HF.out)⟩
          case measure => simp [intOf]; omega
    · have hkn : kk = k.n := by omega
      subst hkn
      have hmr := hR.out.mod
      obtain ⟨c4, c5⟩ := cell_ndO (HL.out.kept hmr HG.out).here
      have hall : k.ts.take k.n = k.ts := by rw [← hlen]; exact List.take_length
      rw [hall] at hR
      have HF := hideIt (HFIN.out _ _ hR.out)
      clear hmr hall hR hlt
      go_wp2_with fail
      go_loopw [34] (fun i w2 => i = .int .i64 0 ∧ w2 = wr) (fun _ _ => 0)
      case atStart => exact ⟨rfl, rfl⟩
      case round =>
        obtain ⟨rfl, rfl⟩ := hrel
        go_wp2
        go_end0
        exact HF.out

end Go.Proofs.YthimaoipogocfaaGreat

namespace Go.Proofs.YthimaoipogocfaaGreat
open Go.RowKit
attribute [local go_sem] run_store_f32 run_neg_inf

/-- what a kid's visit owes -/
def VisIH (fan lo h : Nat) (g : FuncId) (caps : Array Value) (S : List Tg → List Nat → World → Prop) (b : Bx) : Prop := ∀ (w : World) (c : Kd) (acc : List Tg) (G : List Nat), NodeAt w fan lo h c → S acc G w → (∀ x ∈ c.F, x ∉ G) → acc.length + c.ts.length ≤ 1000 →
  Calls Tryz.prog 68 #[.pointer (some ⟨c.p, 0, none⟩), bxV b, .func (.func g) #[] caps] w (VisPost S (acc ++ shown b c.ts) G w)

set_option maxRecDepth 100000 in
set_option maxHeartbeats 2000000 in
theorem visit_inner {w : World} {fan lo h : Nat} {k : Kd} {ks : List Kd} {r cc : Nat} {b : Bx} {g : FuncId} {caps : Array Value} {S : List Tg → List Nat → World → Prop} (V : Viewer g caps S) (IH : VisIH fan lo h g caps S b) (hl : InnerAt w k (.slice (some ⟨r, 0, none⟩) k.n cc) ks) (hK : ∀ c ∈ ks, NodeAt w fan lo h c ∧ lo ≤ c.n ∧ c.n ≤ fan) (hb : b.Num) {acc : List Tg} {G : List Nat} (hS : S acc G w) (hG : ∀ x ∈ k.F, x ∉ G) (hac : acc.length + k.ts.length ≤ 1000) :
    Calls Tryz.prog 68 #[.pointer (some ⟨k.p, 0, none⟩), bxV b, .func (.func g) #[] caps] w (VisPost S (acc ++ shown b k.ts) G w) := by
  have hma := Mod.alloc (F := []) w (bxO b)
  have hl0 := hl.kept hma (by simp)
  have hb0 := heap_alloc_new w (bxO b)
  have hS0 := V.keep _ _ _ _ hS hma
  have hszb : w.heap.size ∉ G := fun hx => Nat.lt_irrefl _ (V.lt _ _ _ hS _ hx)
  have hsz : w.heap.size < (w.alloc (bxO b)).heap.size := by simp
  have hlt := NodeAt.lt (w := w) (fan := fan) (lo := lo) (h := h + 1) (k := k) ⟨_, ks, hl, hK⟩
  have hpF : k.p ∈ k.F := by rw [hl.foot]; simp
  obtain ⟨c4, c5⟩ := cell_ndO hl0.here
  have eg := V.enters
  have HV := hideIt V
  have HB := hideIt hb
  have HG := hideIt hG
  have HL := hideIt hl0
  have HK := hideIt (show ∀ c ∈ ks, NodeAt (w.alloc (bxO b)) fan lo h c from fun c hc => (hK c hc).1.kept hma (by simp))
  have HIH := hideIt IH
  have HLT := hideIt hlt
  have HPF := hideIt hpF
  have HZ := hideIt (And.intro hszb (And.intro hsz hb0))
  have HS0 := hideIt (SeenAt.refl hS0)
  have HFIN := hideIt (show ∀ w' acc', SeenAt S acc' G (w.alloc (bxO b)) w' → VisPost S acc' G w (.returned (.tuple #[])) w' from fun w' acc' h => by
    obtain ⟨G', h1, h2, h3⟩ := h.out
    refine ⟨rfl, G', h1, fun x hx => ?_, hma.nil.trans h3⟩
    rcases h2 x hx with hx | hx
    · exact .inl hx
    · exact .inr (by omega))
  have hlen := hl.len
  have hth := hl.things
  clear V hl hK IH hb hS hG hma hl0 hb0 hS0 hszb hsz hlt hpF
  go_enter Tryz.func68, Tryz.ntmps68
  go_wp2_with fail
  go_loopw [15] (fun i w2 => i = .int .i64 0 ∧ w2 = w.alloc (bxO b)) (fun _ _ => 0)
  case atStart => exact ⟨rfl, rfl⟩
  case round =>
    obtain ⟨rfl, rfl⟩ := hrel
    go_wp2_with fail
    go_loopw [34] (fun i wr => ∃ kk : Nat, kk ≤ k.n ∧ i = .int .i64 kk ∧ Hid (SeenAt S (acc ++ shown b (kts (ks.take kk))) G (w.alloc (bxO b)) wr)) (fun i _ => k.n - (intOf i).toNat)
    case atStart => exact ⟨0, by omega, rfl, hideIt (by simpa [shown, kts] using HS0.out)⟩
    case round =>
      clear c4 c5
      obtain ⟨kk, hkk, rfl, hR⟩ := hrel
      by_cases hlt : kk < k.n
      · have hlt' : (kk : Int) < (k.n : Int) := by omega
        have hkl : kk < ks.length := by omega
        have hmr := hR.out.mod
        have hl' := HL.out.kept hmr HG.out
        obtain ⟨rest, hro, hnc, _, _, _, hcm⟩ := owns_rowT hl'.row
        have hbig : k.n ≤ 9223372036854775807 := by unfold maxLen at hcm; omega
        clear hnc hcm
        have htm : ks[kk] ∈ ks := List.getElem_mem hkl
        have hstep : kts (ks.take (kk + 1)) = kts (ks.take kk) ++ ks[kk].ts := by
          unfold kts
          rw [List.take_succ_eq_append_getElem hkl, List.flatMap_append, List.flatMap_cons, List.flatMap_nil, List.append_nil]
        have cI := rowO_get hro (j := kk) (p := ks[kk].p) (by simp [kblks, hkl])
        have hFk := hl'.kid_F htm
        have hT := (HK.out _ htm).kept hmr (fun x hx => HG.out x (hFk x hx))
        obtain ⟨t0, t1, t2, t3⟩ := (show Cells4 wr ks[kk].p ks[kk].bx from by
          obtain ⟨rs, hh⟩ := hT.hasBx
          exact cell_bxC hh)
        obtain ⟨z0, z1, z2, z3⟩ := cell_bxO ((hmr.block w.heap.size HZ.out.2.1 HZ.out.1).trans HZ.out.2.2)
        have HT := hideIt hT
        have HBF := hideIt (show ∀ x ∈ ks[kk].F, x ∉ G ∧ x < w.heap.size from fun x hx => ⟨HG.out _ (hFk x hx), HLT.out _ (hFk x hx)⟩)
        have HST := hideIt hstep
        have HNUM := hideIt hT.ok.num
        have HAC := hideIt (show (acc ++ shown b (kts (ks.take kk))).length + ks[kk].ts.length ≤ 1000 from by
          have h1 := List.length_filter_le (fun t : Tg => t.bx.meets b) (kts (ks.take kk))
          have h2 : (kts (ks.take kk)).length + ks[kk].ts.length ≤ k.ts.length := by
            have e1 : kts ks = kts (ks.take (kk + 1)) ++ kts (ks.drop (kk + 1)) := by unfold kts; rw [← List.flatMap_append, List.take_append_drop]
            have e2 := congrArg List.length e1
            rw [hstep] at e2
            simp only [List.length_append] at e2
            rw [hth]
            omega
          rw [List.length_append]
          unfold shown
          omega)
        clear hmr hl' hro htm hstep hT hFk
        generalize ks[kk] = t at *
        cases hmt : t.bx.meets b with
        | false =>
          have HME := hideIt (show ∀ W, Calls Tryz.prog 98 #[bxV t.bx, bxV b] W (BoolPost false W) from fun W => by
            have := meets_any HNUM.out HB.out W
            rw [hmt] at this
            exact this)
          have HMT := hideIt hmt
          clear hmt
          go_wp2_with fail
          go_region_with (go_at_call 98; refine (HME.out _).mono ?_; rintro e w4 ⟨rfl, hm2⟩)
          all_goals
            have hfin := hR.out.keep HV.out ((Mod.drew _).trans hm2)
            have HF := hideIt hfin
            clear hfin hm2 t0 t1 t2 t3 z0 z1 z2 z3
            go_wp2_with fail
            go_roundw
            case rel => exact ⟨kk + 1, by omega, by go_num, hideIt (by rw [HST.out, shown_append, shown_pruned HT.out.ok HMT.out, List.append_nil]; exact HF.out)⟩
            case measure => simp [intOf]; omega
        | true =>
          have HME := hideIt (show ∀ W, Calls Tryz.prog 98 #[bxV t.bx, bxV b] W (BoolPost true W) from fun W => by
            have := meets_any HNUM.out HB.out W
            rw [hmt] at this
            exact this)
          clear hmt
          go_wp2_with fail
          go_region_with (go_at_call 98; refine (HME.out _).mono ?_; rintro e w4 ⟨rfl, hm2⟩)
          all_goals
            have hm3 := (Mod.drew wr).trans hm2
            have HM3 := hideIt hm3
            have x0 := cell_mod hm3 z0
            have x1 := cell_mod hm3 z1
            have x2 := cell_mod hm3 z2
            have x3 := cell_mod hm3 z3
            clear hm3 hm2 t0 t1 t2 t3 z0 z1 z2 z3
            obtain ⟨G', hs1, hs2, hs3⟩ := (hR.out.keep HV.out HM3.out).out
            have hsee := HIH.out w4 t _ G' (HT.out.kept HM3.out (by simp)) hs1 (fun x hx hg => by
              obtain ⟨g1, g2⟩ := HBF.out x hx
              rcases hs2 _ hg with hg | hg
              · exact g1 hg
              · have := HZ.out.2.1
                omega) HAC.out
            have HSEE := hideIt hsee
            have HSS := hideIt (And.intro hs1 (And.intro hs2 hs3))
            clear hsee hs1 hs2 hs3
            go_wp2_with fail
            refine HSEE.out.mono ?_
            rintro e w5 ⟨rfl, hs5⟩
            have hfin : SeenAt S (acc ++ shown b (kts (ks.take kk)) ++ shown b t.ts) G (w.alloc (bxO b)) w5 := by
              obtain ⟨G'', k1, k2, k3⟩ := hs5
              obtain ⟨_, h2, h3⟩ := HSS.out
              have hs := h3.size
              refine ⟨G'', k1, fun x hx => ?_, h3.then k3 h2⟩
              rcases k2 x hx with hx | hx
              · exact h2 x hx
              · exact .inr (by omega)
            have HF := hideIt hfin
            clear hfin hs5 x0 x1 x2 x3
            go_wp2_with fail
            go_roundw
            case rel => exact ⟨kk + 1, by omega, by go_num, hideIt (by rw [HST.out, shown_append, ← List.append_assoc]; exact HF.out)⟩
            case measure => simp [intOf]; omega
      · have hkn : kk = k.n := by omega
        subst hkn
        have hall : kts (ks.take k.n) = k.ts := by rw [← hlen, List.take_length, hth]
        rw [hall] at hR
        have HF := hideIt (HFIN.out _ _ hR.out)
        clear hall hR hlt
        go_wp2
        go_end0
        exact HF.out

set_option maxRecDepth 100000 in
theorem visit_none {w : World} {k : Kd} {b : Bx} {g : FuncId} {caps : Array Value} {S : List Tg → List Nat → World → Prop} (V : Viewer g caps S) (hh : w.heap[k.p]? = some (ndO k.bx (.slice none 0 0) (.slice none 0 0))) (hts : k.ts = []) {acc : List Tg} {G : List Nat} (hS : S acc G w) :
    Calls Tryz.prog 68 #[.pointer (some ⟨k.p, 0, none⟩), bxV b, .func (.func g) #[] caps] w (VisPost S (acc ++ shown b k.ts) G w) := by
  have hma := Mod.alloc (F := []) w (bxO b)
  have hS0 := V.keep _ _ _ _ hS hma
  obtain ⟨c4, c5⟩ := cell_ndO ((hma.block _ (lt_of_block hh) (by simp)).trans hh)
  have HF := hideIt (show VisPost S acc G w (.returned (.tuple #[])) (w.alloc (bxO b)) from ⟨rfl, G, hS0, fun x hx => .inl hx, hma.nil⟩)
  rw [hts, shown_nil, List.append_nil]
  clear V hh hS hma hS0 hts
  go_enter Tryz.func68, Tryz.ntmps68
  go_wp2_with fail
  go_loopw [15] (fun i w2 => i = .int .i64 0 ∧ w2 = w.alloc (bxO b)) (fun _ _ => 0)
  case atStart => exact ⟨rfl, rfl⟩
  case round =>
    obtain ⟨rfl, rfl⟩ := hrel
    go_wp2_with fail
    go_loopw [34] (fun i w2 => i = .int .i64 0 ∧ w2 = w.alloc (bxO b)) (fun _ _ => 0)
    case atStart => exact ⟨rfl, rfl⟩
    case round =>
      obtain ⟨rfl, rfl⟩ := hrel
      go_wp2
      go_end0
      exact HF.out

theorem visit_any {fan lo : Nat} {g : FuncId} {caps : Array Value} {S : List Tg → List Nat → World → Prop} (V : Viewer g caps S) {b : Bx} (hb : b.Num) : ∀ h, VisIH fan lo h g caps S b
  | 0, w, k, acc, G, ⟨tv, hl⟩, hS, hG, hac => by
    rcases ownV hl.row with ⟨rfl, h0⟩ | ⟨r, cc, rfl⟩
    · exact visit_none V hl.here (List.eq_nil_of_length_eq_zero (by rw [hl.len, h0])) hS
    · exact visit_leaf V hl hb hS hG hac
  | h + 1, w, k, acc, G, ⟨bv, ks, hi, hK⟩, hS, hG, hac => by
    rcases ownV hi.row with ⟨rfl, h0⟩ | ⟨r, cc, rfl⟩
    · have hk0 : ks = [] := List.eq_nil_of_length_eq_zero (by rw [hi.len, h0])
      subst hk0
      exact visit_none V hi.here hi.things hS
    · exact visit_inner V (visit_any V hb h) hi hK hb hS hG hac

end Go.Proofs.YthimaoipogocfaaGreat

namespace Go.Proofs.YthimaoipogocfaaGreat
open Go.RowKit
attribute [local go_sem] run_store_f32 run_neg_inf

/-! ### meet, holds -/
def meetI (a0 a1 a2 a3 b0 b1 b2 b3 : Int) : Bool := decide (a0 ≤ b2) && (decide (b0 ≤ a2) && (decide (a1 ≤ b3) && decide (b1 ≤ a3)))
def holdI (a0 a1 a2 a3 b0 b1 b2 b3 : Int) : Bool := decide (a0 ≤ b0) && (decide (b2 ≤ a2) && (decide (a1 ≤ b1) && decide (b3 ≤ a3)))
theorem meetI_iff {a0 a1 a2 a3 b0 b1 b2 b3 : Int} : meetI a0 a1 a2 a3 b0 b1 b2 b3 = true ↔ (a0 ≤ b2 ∧ b0 ≤ a2 ∧ a1 ≤ b3 ∧ b1 ≤ a3) := by simp [meetI]
theorem holdI_iff {a0 a1 a2 a3 b0 b1 b2 b3 : Int} : holdI a0 a1 a2 a3 b0 b1 b2 b3 = true ↔ (a0 ≤ b0 ∧ b2 ≤ a2 ∧ a1 ≤ b1 ∧ b3 ≤ a3) := by simp [holdI]
theorem bool_true {b : Bool} {p : Prop} (h : b = true ↔ p) (hp : p) : true = b := (h.2 hp).symm
theorem bool_false {b : Bool} {p : Prop} (h : b = true ↔ p) (hp : ¬ p) : false = b := by
  cases b with
  | false => rfl
  | true => exact absurd (h.1 rfl) hp

set_option maxRecDepth 100000 in
theorem meet_any (a0 a1 a2 a3 b0 b1 b2 b3 : Int) (w : World) : Calls Tryz.prog 71 #[R4 a0 a1 a2 a3, R4 b0 b1 b2 b3] w (BoolPost (meetI a0 a1 a2 a3 b0 b1 b2 b3) w) := by
  by_cases h1 : a0 ≤ b2 <;> by_cases h2 : b0 ≤ a2 <;> by_cases h3 : a1 ≤ b3 <;> by_cases h4 : b1 ≤ a3
  all_goals
    go_enter Tryz.func71, Tryz.ntmps71
    go_wp2
    go_ret
    exact ⟨ret_bool (by first | exact bool_true meetI_iff (by omega) | exact bool_false meetI_iff (by omega)), (Mod.alloc _ _).trans (Mod.alloc _ _)⟩

set_option maxRecDepth 100000 in
theorem holds_any (a0 a1 a2 a3 b0 b1 b2 b3 : Int) (w : World) : Calls Tryz.prog 101 #[R4 a0 a1 a2 a3, R4 b0 b1 b2 b3] w (BoolPost (holdI a0 a1 a2 a3 b0 b1 b2 b3) w) := by
  by_cases h1 : a0 ≤ b0 <;> by_cases h2 : b2 ≤ a2 <;> by_cases h3 : a1 ≤ b1 <;> by_cases h4 : b3 ≤ a3
  all_goals
    go_enter Tryz.func101, Tryz.ntmps101
    go_wp2
    go_ret
    exact ⟨ret_bool (by first | exact bool_true holdI_iff (by omega) | exact bool_false holdI_iff (by omega)), (Mod.alloc _ _).trans (Mod.alloc _ _)⟩

end Go.Proofs.YthimaoipogocfaaGreat

namespace Go.Proofs
open Go.Shelf
def Tryz.laysSort_ren : Go.Shelf.Ren := ⟨fun | 189 => 135 | 125 => 159 | 257 => 158 | 128 => 191 | 129 => 192 | 294 => 182 | 295 => 183 | 296 => 184 | 297 => 185 | 298 => 186 | 299 => 187 | 216 => 188 | 300 => 189 | 301 => 190 | 328 => 199 | 329 => 200 | 330 => 201 | 331 => 202 | 332 => 203 | 215 => 166 | 343 => 209 | n => n, fun | 28 => 39 | 3 => 3 | 46 => 199 | 0 => 0 | 51 => 145 | 53 => 228 | 4 => 4 | 183 => 240 | 182 => 239 | 131 => 143 | 5 => 5 | 9 => 9 | 218 => 253 | 222 => 257 | 228 => 264 | 229 => 233 | n => n, fun | n => n⟩
theorem Tryz.laysSort : Go.Proofs.Lays.n189 Tryz.prog Tryz.laysSort_ren := {
  mixed := by kernel_rfl
  f125 := Tryz.func159.trans (congrArg some (by kernel_rfl))
  f128 := Tryz.func191.trans (congrArg some (by kernel_rfl))
  f129 := Tryz.func192.trans (congrArg some (by kernel_rfl))
  f189 := Tryz.func135.trans (congrArg some (by kernel_rfl))
  f215 := Tryz.func166.trans (congrArg some (by kernel_rfl))
  f216 := Tryz.func188.trans (congrArg some (by kernel_rfl))
  f257 := Tryz.func158.trans (congrArg some (by kernel_rfl))
  f294 := Tryz.func182.trans (congrArg some (by kernel_rfl))
  f295 := Tryz.func183.trans (congrArg some (by kernel_rfl))
  f296 := Tryz.func184.trans (congrArg some (by kernel_rfl))
  f297 := Tryz.func185.trans (congrArg some (by kernel_rfl))
  f298 := Tryz.func186.trans (congrArg some (by kernel_rfl))
  f299 := Tryz.func187.trans (congrArg some (by kernel_rfl))
  f300 := Tryz.func189.trans (congrArg some (by kernel_rfl))
  f301 := Tryz.func190.trans (congrArg some (by kernel_rfl))
  f328 := Tryz.func199.trans (congrArg some (by kernel_rfl))
  f329 := Tryz.func200.trans (congrArg some (by kernel_rfl))
  f330 := Tryz.func201.trans (congrArg some (by kernel_rfl))
  f331 := Tryz.func202.trans (congrArg some (by kernel_rfl))
  f332 := Tryz.func203.trans (congrArg some (by kernel_rfl))
  f343 := Tryz.func209.trans (congrArg some (by kernel_rfl))
  t0 := Tryz.underlying0
  a0 := Tryz.isAgg0
  z0 := Tryz.sizeOf0
  v0 := Tryz.zeroValue0
  t3 := Tryz.underlying3
  a3 := Tryz.isAgg3
  z3 := Tryz.sizeOf3
  v3 := Tryz.zeroValue3
  t4 := Tryz.underlying4
  a4 := Tryz.isAgg4
  z4 := Tryz.sizeOf4
  v4 := Tryz.zeroValue4
  t5 := Tryz.underlying5
  a5 := Tryz.isAgg5
  z5 := Tryz.sizeOf5
  v5 := Tryz.zeroValue5
  t9 := Tryz.underlying9
  a9 := Tryz.isAgg9
  z9 := Tryz.sizeOf9
  v9 := Tryz.zeroValue9
  t28 := Tryz.underlying39
  a28 := Tryz.isAgg39
  z28 := Tryz.sizeOf39
  v28 := Tryz.zeroValue39
  t46 := Tryz.underlying199
  a46 := Tryz.isAgg199
  z46 := Tryz.sizeOf199
  v46 := Tryz.zeroValue199
  t51 := Tryz.underlying145
  a51 := Tryz.isAgg145
  z51 := Tryz.sizeOf145
  v51 := Tryz.zeroValue145
  t53 := Tryz.underlying228
  a53 := Tryz.isAgg228
  z53 := Tryz.sizeOf228
  v53 := Tryz.zeroValue228
  t131 := Tryz.underlying143
  a131 := Tryz.isAgg143
  z131 := Tryz.sizeOf143
  v131 := Tryz.zeroValue143
  t182 := Tryz.underlying239
  a182 := Tryz.isAgg239
  z182 := Tryz.sizeOf239
  v182 := Tryz.zeroValue239
  t183 := Tryz.underlying240
  a183 := Tryz.isAgg240
  z183 := Tryz.sizeOf240
  v183 := Tryz.zeroValue240
  t218 := Tryz.underlying253
  a218 := Tryz.isAgg253
  z218 := Tryz.sizeOf253
  v218 := Tryz.zeroValue253
  t222 := Tryz.underlying257
  a222 := Tryz.isAgg257
  z222 := Tryz.sizeOf257
  v222 := Tryz.zeroValue257
  t228 := Tryz.underlying264
  a228 := Tryz.isAgg264
  z228 := Tryz.sizeOf264
  v228 := Tryz.zeroValue264
  t229 := Tryz.underlying233
  a229 := Tryz.isAgg233
  z229 := Tryz.sizeOf233
  v229 := Tryz.zeroValue233 }
end Go.Proofs

