import Derived.Test.YthimaoipogocfaaJ17
import Derived.Deep.RegionHeld
namespace Go.Proofs.Ythimaoipogocfaa
open Go.RowKit Go.Maps
attribute [local go_sem] run_store_f32 run_neg_inf

/-- a raw thing in memory -/
structure KtAt (w : World) (b o : Nat) (t : Kt) : Prop where
  c0 : w.cell? ⟨b, o, none⟩ = some (.int .i64 t.i)
  c1 : w.cell? ⟨b, o + 1, none⟩ = some (.int .i64 t.x)
  c2 : w.cell? ⟨b, o + 2, none⟩ = some (.int .i64 t.y)
  c3 : w.cell? ⟨b, o + 3, none⟩ = some (.int .i64 t.w)
  c4 : w.cell? ⟨b, o + 4, none⟩ = some (.int .i64 t.h)

/-- the raw things that a slice holds -/
def KsAt (w : World) (a : Option Addr) (ks : List Kt) : Prop := ∀ j t, ks[j]? = some t → t.ok ∧ ∃ b off, a = some ⟨b, off, none⟩ ∧ KtAt w b (off + j * 5) t

theorem cell_modF {F : List Nat} {w w' : World} (hm : Mod F w w') {b o : Nat} (hb : b ∉ F) {v : Value} (h : w.cell? ⟨b, o, none⟩ = some v) : w'.cell? ⟨b, o, none⟩ = some v := (hm.cell (World.block_lt_of_cell? w _ h) hb o).trans h

theorem KtAt.kept {F : List Nat} {w w' : World} (hm : Mod F w w') {b o : Nat} {t : Kt} (h : KtAt w b o t) (hb : b ∉ F) : KtAt w' b o t :=
  ⟨cell_modF hm hb h.c0, cell_modF hm hb h.c1, cell_modF hm hb h.c2, cell_modF hm hb h.c3, cell_modF hm hb h.c4⟩

theorem KtAt.lt {w : World} {b o : Nat} {t : Kt} (h : KtAt w b o t) : b < w.heap.size := World.block_lt_of_cell? w _ h.c0

theorem KsAt.kept {w w' : World} (hm : Mod [] w w') {a : Option Addr} {ks : List Kt} (h : KsAt w a ks) : KsAt w' a ks := fun j t hj => by
  obtain ⟨h1, b, off, h2, h3⟩ := h j t hj
  exact ⟨h1, b, off, h2, h3.kept hm (by simp)⟩

/-- what was put last is told -/
theorem getT {ts : List Tg} {L : List Th} {t : Th} (h : ts.map Tg.th = putT L t) : (findG ts t.id).isSome = true ∧ rectOfG ts t.id = R4 t.x0 t.y0 t.x1 t.y1 := by
  have hmem : t ∈ ts.map Tg.th := by rw [h]; simp [putT]
  obtain ⟨s, hs, rfl⟩ := List.mem_map.1 hmem
  cases hf : findG ts s.th.id with
  | none => exact absurd rfl (findG_none hf s hs)
  | some n =>
    obtain ⟨r, hr, hid, hgd⟩ := findG_get hf
    have hm : r.th ∈ putT L s.th := by rw [← h]; exact List.mem_map.2 ⟨r, List.mem_of_getElem? hr, rfl⟩
    have he : r.th = s.th := by
      rcases List.mem_append.1 hm with h1 | h1
      · have := (List.mem_filter.1 h1).2
        have hh : r.th.id = s.th.id := hid
        simp [hh] at this
      · simpa using h1
    refine ⟨rfl, ?_⟩
    unfold rectOfG
    rw [hf]
    simp only [hgd]
    rw [← he]
    rfl

theorem plantG_length (fan : Int) (ks : List Kt) (dx dy : Int) : (plantG fan ks dx dy).length ≤ 23 * ks.length + 23 := by
  have key : ∀ (ks : List Kt) (s : St), (ks.foldl (fun s k => stPut s (k.th dx dy)) s).lg.length ≤ s.lg.length + 23 * ks.length := by
    intro ks
    induction ks with
    | nil => intro s; simp
    | cons k ks ih =>
      intro s
      have h1 := ih (stPut s (k.th dx dy))
      have h2 := putLT_length s.L s.lg (k.th dx dy)
      simp only [List.foldl_cons, List.length_cons]
      simp only [stPut] at h1 ⊢
      omega
  have h1 := key ks (stNew fan)
  have h2 := Rc.bytes_length (rcHead fan) []
  unfold plantG plantS
  simp only [stNew] at h1 ⊢
  omega
theorem plantGT_length (fan : Int) (ks : List Kt) (dx dy : Int) : (plantGT fan ks dx dy).length ≤ 7000 := by
  have h1 := putLT_length (plantL (ks.take 300) dx dy) (plantG fan (ks.take 300) dx dy) ⟨4000, dx, dy, dx, dy⟩
  have h2 := plantG_length fan (ks.take 300) dx dy
  have h3 := List.length_take_le 300 ks
  unfold plantGT
  omega

def PlantPost (fan : Nat) (L : List Th) (lg : List Int) (w : World) (e : Ending) (w' : World) : Prop := ∃ q F ts, e = .returned (.pointer (some ⟨q, 0, none⟩)) ∧ HRep w' q fan ts lg F ∧ ts.map Tg.th = L ∧ ts.length ≤ 301 ∧ (∀ x ∈ F, w.heap.size ≤ x) ∧ Mod [] w w'

theorem fanF_lt (f : Int) : 4 ≤ (4 + pickF f 13).toNat ∧ (4 + pickF f 13).toNat ≤ 16 ∧ ((4 + pickF f 13).toNat : Int) = 4 + pickF f 13 := by
  have := pickF_lt f 13 (by omega)
  omega

set_option maxRecDepth 100000 in
set_option maxHeartbeats 2000000 in
theorem planted_any {w : World} {f dx dy : Int} (hf : i64ok f) (hx : -999995000 ≤ dx ∧ dx ≤ 999995000) (hy : -999995000 ≤ dy ∧ dy ≤ 999995000) {a : Option Addr} {ks : List Kt} {c : Nat} (hK : KsAt w a ks) :
    Calls Try.prog 4 #[.int .i64 f, .slice a ks.length c, .int .i64 dx, .int .i64 dy] w (PlantPost (4 + pickF f 13).toNat (plantT ks dx dy) (plantGT (4 + pickF f 13).toNat ks dx dy) w) := by
  obtain ⟨f4, f16, fe⟩ := fanF_lt f
  have hp := pickF_lt f 13 (by omega)
  obtain ⟨p1, p2⟩ := hp
  have HNEW := hideIt (hNew_good (4 + pickF f 13).toNat w f4 f16)
  rw [fe] at HNEW
  generalize (4 + pickF f 13).toNat = fan at *
  have HF := hideIt hf
  have HK := hideIt hK
  have HX := hideIt hx
  have HY := hideIt hy
  clear hf hK hx hy f4 f16 fe
  go_enter Try.func4, Try.ntmps4
  go_wp2_with fail
  refine (pick_any _ _ _ HF.out (by omega) (by omega)).mono ?_
  rintro e w' ⟨rfl, hw⟩
  obtain rfl := hw.symm
  clear hw
  go_wp2_with fail
  refine HNEW.out.mono ?_
  rintro e w1 ⟨q, F1, rfl, h1, hF1, hm1⟩
  have H1 := hideIt (And.intro h1 (And.intro hF1 hm1))
  clear h1 hF1 hm1 HNEW
  go_wp2_with fail
  go_loopw [10, 11] (fun ev i wr => ∃ kk : Nat, kk ≤ 300 ∧ kk ≤ ks.length ∧ ev = .int .i64 0 ∧ i = .int .i64 kk ∧ Hid (∃ ts F, HRep wr q fan ts (plantG fan (ks.take kk) dx dy) F ∧ ts.map Tg.th = plantL (ks.take kk) dx dy ∧ ts.length ≤ kk ∧ (∀ x ∈ F, w.heap.size ≤ x) ∧ Mod [] w wr)) (fun _ i _ => 301 - (intOf i).toNat)
  case atStart => exact ⟨0, by omega, by omega, rfl, rfl, hideIt ⟨[], F1, H1.out.1, rfl, Nat.le_refl _, H1.out.2.1, H1.out.2.2⟩⟩
  case round =>
    obtain ⟨kk, hk1, hk2, rfl, rfl, hR⟩ := hrel
    by_cases hgo : kk < ks.length ∧ kk < 300
    · obtain ⟨hlt, h300⟩ := hgo
      · obtain ⟨ts, F, hrep, hts, hlen, hFF, hmr⟩ := hR.out
        have hget : ks[kk]? = some ks[kk] := List.getElem?_eq_getElem hlt
        obtain ⟨hok, b, off, rfl, hAt⟩ := HK.out kk _ hget
        have hstep : ks.take (kk + 1) = ks.take kk ++ [ks[kk]] := List.take_succ_eq_append_getElem hlt
        generalize ks[kk] = t at *
        have hbF : b ∉ F := fun hx => by
          have := hFF b hx
          have := hAt.lt
          omega
        have hAt' := hAt.kept hmr (by simp)
        have HPUT := hideIt (fun W (hW : Mod [] wr W) => hPut0 (hrep.kept hW (by simp)) (by have := plantG_length fan (ks.take kk) dx dy; have := List.length_take_le kk ks; omega) t.id_ok (t.rect_ok HX.out HY.out) (by omega))
        have HKEEP := hideIt (show ∀ w', Mod F wr w' → Mod F wr w' ∧ w'.cell? ⟨b, off + kk * 5, none⟩ = some (.int .i64 t.i) ∧ w'.cell? ⟨b, off + kk * 5 + 1, none⟩ = some (.int .i64 t.x) ∧ w'.cell? ⟨b, off + kk * 5 + 2, none⟩ = some (.int .i64 t.y) ∧ w'.cell? ⟨b, off + kk * 5 + 3, none⟩ = some (.int .i64 t.w) ∧ w'.cell? ⟨b, off + kk * 5 + 4, none⟩ = some (.int .i64 t.h) from fun w' hm => by
          have := hAt'.kept hm hbF
          exact ⟨hm, this.c0, this.c1, this.c2, this.c3, this.c4⟩)
        have HOK := hideIt hok
        have HS := hideIt hstep
        have HR := hideIt (And.intro hrep (And.intro hts (And.intro hlen (And.intro hFF hmr))))
        have hkz : (kk : Int) < (ks.length : Int) := by omega
        have hk3 : (kk : Int) < 300 := by omega
        clear hR hrep hts hlen hFF hmr hget hok hAt hAt' hstep hbF
        go_wp2_with fail
        go_region_held (fun w' => Mod F wr w' ∧ w'.cell? ⟨b, off + kk * 5, none⟩ = some (.int .i64 t.i) ∧ w'.cell? ⟨b, off + kk * 5 + 1, none⟩ = some (.int .i64 t.x) ∧ w'.cell? ⟨b, off + kk * 5 + 2, none⟩ = some (.int .i64 t.y) ∧ w'.cell? ⟨b, off + kk * 5 + 3, none⟩ = some (.int .i64 t.w) ∧ w'.cell? ⟨b, off + kk * 5 + 4, none⟩ = some (.int .i64 t.h))
          ((first
            | exact HKEEP.out _ (Mod.drew _)
            | exact HKEEP.out _ (Mod.trans (by simp only [*]) hm2.nil)
            | exact HKEEP.out _ (Mod.trans (by simp only [*]) hm3.nil)
            | exact HKEEP.out _ (Mod.trans (by simp only [*]) a5)))
          ((first
            | (go_at_call 12; refine (kid_any t HOK.out _).mono ?_; rintro e w2 ⟨rfl, hm2⟩)
            | (go_at_call 13; refine (krect_any t HOK.out dx dy (by have := HX.out; omega) (by have := HY.out; omega) _).mono ?_; rintro e w3 ⟨rfl, hm3⟩)
            | (go_at_call 11; refine (HPUT.out _ (((Mod.drew _).trans hm2).trans hm3)).mono ?_; rintro e w4 ⟨rfl, ts', F', a1, a2, a3, a4, a5⟩)))
        all_goals
          have HFIN := hideIt (show ∃ ts F, HRep w4 q fan ts (plantG fan (ks.take (kk + 1)) dx dy) F ∧ ts.map Tg.th = plantL (ks.take (kk + 1)) dx dy ∧ ts.length ≤ kk + 1 ∧ (∀ x ∈ F, w.heap.size ≤ x) ∧ Mod [] w w4 from by
            obtain ⟨hrep, hts, hlen, hFF, hmr⟩ := HR.out
            have hmA := hmr.trans (((Mod.drew _).trans hm2).trans hm3)
            refine ⟨ts', F', by rw [HS.out, plantG_snoc, ← hts]; exact a1, ?_, by omega, fun x hx => ?_, hmA.then a5 (fun x hx => .inr (hFF x hx))⟩
            · rw [a2, HS.out, plantL_snoc, hts]
              rfl
            · rcases a4 x hx with h | h
              · exact hFF x h
              · have := hmA.size
                omega)
          clear a1 a2 a3 a4 a5 hm2 hm3 HPUT HKEEP
          go_wp2_with fail
          go_roundw
          case rel => exact ⟨kk + 1, by omega, by omega, rfl, by go_num, HFIN⟩
          case measure => simp [intOf]; omega
    · obtain ⟨ts, F, hrep, hts, hlen, hFF, hmr⟩ := hR.out
      have htk : ks.take kk = ks.take 300 := by
        by_cases h3 : kk = 300
        · rw [h3]
        · have : ks.length ≤ kk := by omega
          rw [List.take_of_length_le this, List.take_of_length_le (by omega)]
      rw [htk] at hts hrep
      have HPUT := hideIt (hPut0 hrep (by have := plantG_length fan (ks.take 300) dx dy; have := List.length_take_le 300 ks; omega) (id := 4000) (x0 := dx) (y0 := dy) (x1 := dx) (y1 := dy) (by omega) (by have := HX.out; have := HY.out; unfold RectOk; omega) (by omega))
      have HFIN := hideIt (show ∀ w4 w5 ts' F', HRep w4 q fan ts' (putLT (ts.map Tg.th) (plantG fan (ks.take 300) dx dy) ⟨4000, dx, dy, dx, dy⟩) F' → ts'.map Tg.th = putT (ts.map Tg.th) ⟨4000, dx, dy, dx, dy⟩ → ts'.length ≤ ts.length + 1 → (∀ x ∈ F', x ∈ F ∨ wr.heap.size ≤ x) → Mod F wr w4 → Mod [] w4 w5 → PlantPost fan (plantT ks dx dy) (plantGT fan ks dx dy) w (.returned (.pointer (some ⟨q, 0, none⟩))) w5 from fun w4 w5 ts' F' a1 a2 a3 a4 a5 a6 => by
        refine ⟨q, F', ts', rfl, by rw [hts] at a1; exact a1.kept a6 (by simp), ?_, by omega, fun x hx => ?_, (hmr.then a5 (fun x hx => .inr (hFF x hx))).trans a6⟩
        · rw [a2, hts]
          rfl
        · rcases a4 x hx with h | h
          · exact hFF x h
          · have := hmr.size
            omega)
      have hk : ¬ ((kk : Int) < (ks.length : Int)) ∨ ((kk : Int) < (ks.length : Int) ∧ ¬ ((kk : Int) < 300)) := by omega
      clear hR hrep hts hlen hFF hmr htk hgo
      rcases hk with hk | ⟨hk, hk'⟩
      all_goals
        go_wp2_with fail
        refine HPUT.out.mono ?_
        rintro e w4 ⟨rfl, ts', F', a1, a2, a3, a4, a5⟩
        obtain ⟨g1, g2⟩ := getT a2
        have hget := hGet_any a1 4000
        unfold HGetPost at hget
        simp only at g1 g2
        rw [g1, g2] at hget
        have HGET := hideIt hget
        have HFIN2 := hideIt (fun w5 h => HFIN.out w4 w5 ts' F' a1 a2 a3 a4 a5 h)
        clear a1 a2 a3 a4 a5 g1 g2 hget HFIN HPUT
        go_wp2_with fail
        refine HGET.out.mono ?_
        rintro e w5 ⟨rfl, hm5⟩
        go_wp2
        go_ret
        exact HFIN2.out _ (hm5.trans (Mod.alloc _ _))

end Go.Proofs.Ythimaoipogocfaa

