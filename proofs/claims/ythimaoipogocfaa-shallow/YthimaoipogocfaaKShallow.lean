import Derived.Test.YthimaoipogocfaaJ18
import Derived.Test.YthimaoipogocfaaKAllow
namespace Go.Proofs.Ythimaoipogocfaa
open Go.RowKit Go.Maps
attribute [local go_sem] run_store_f32 run_neg_inf

/-- the raw numbers that a slice holds -/
def NsAt (w : World) (a : Option Addr) (ds : List Int) : Prop := ∀ j d, ds[j]? = some d → i64ok d ∧ ∃ b off, a = some ⟨b, off, none⟩ ∧ w.cell? ⟨b, off + j, none⟩ = some (.int .i64 d)

/-- the tree has the thing that each tree has -/
def Has4 (ts : List Tg) : Prop := ∃ t ∈ ts.map Tg.th, t.id = 4000

theorem Has4.len {ts : List Tg} (h : Has4 ts) : 1 ≤ ts.length := by
  obtain ⟨t, ht, _⟩ := h
  have := List.length_pos_of_mem ht
  simp only [List.length_map] at this
  omega

theorem Has4.drop {ts : List Tg} (h : Has4 ts) (hn : (ts.map (·.id)).Nodup) {id : Int} (hi : id < 300) : Has4 (dropG ts id) := by
  obtain ⟨t, ht, h4⟩ := h
  unfold Has4
  rw [dropG_th hn]
  refine ⟨t, List.mem_filter.2 ⟨ht, ?_⟩, h4⟩
  simp only [bne_iff_ne, ne_eq]
  omega

theorem dropG_len {ts : List Tg} (hn : (ts.map (·.id)).Nodup) (id : Int) : (dropG ts id).length ≤ ts.length := by
  have h := congrArg List.length (dropG_th hn id)
  have h2 := List.length_filter_le (fun t : Th => t.id != id) (ts.map Tg.th)
  simp only [List.length_map] at h h2
  unfold dropT at h
  omega

theorem plantT_has {ts : List Tg} {ks : List Kt} {dx dy : Int} (h : ts.map Tg.th = plantT ks dx dy) : Has4 ts := by
  unfold Has4
  rw [h]
  exact ⟨⟨4000, dx, dy, dx, dy⟩, by simp [plantT, putT], rfl⟩

set_option maxRecDepth 100000 in
set_option maxHeartbeats 2000000 in
theorem shallow_any {w : World} {f : Int} (hf : i64ok f) {a : Option Addr} {ks : List Kt} {c : Nat} (hK : KsAt w a ks) {a2 : Option Addr} {ds : List Int} {c2 : Nat} (hD : NsAt w a2 ds) :
    Calls Try.prog 3 #[.int .i64 f, .slice a ks.length c, .slice a2 ds.length c2] w fun e w' => e = .returned (.bool true) ∧ Mod [] w w' := by
  obtain ⟨f4, f16, fe⟩ := fanF_lt f
  obtain ⟨p1, p2⟩ := pickF_lt f 13 (by omega)
  have HPL := hideIt (planted_any hf (dx := 0) (dy := 0) (by omega) (by omega) hK (c := c))
  have HAL := hideIt (fun n h W => allowed_any (4 + pickF f 13).toNat n h W ⟨f4, f16⟩)
  simp only [fe] at HAL
  generalize (4 + pickF f 13).toNat = fan at *
  have HF := hideIt hf
  have HD := hideIt hD
  obtain ⟨M, hM⟩ : ∃ M, IntKind.i64.wrap ((ds.length : Int) + 1) = M := ⟨_, rfl⟩
  clear hf hK hD f4 f16 fe
  go_enter Try.func3, Try.ntmps3
  go_wp2_with fail
  refine HPL.out.mono ?_
  rintro e w1 ⟨q, F1, ts1, rfl, h1, h2, h3, h4, h5⟩
  have H1 := hideIt (And.intro (show ∃ lg, HRep w1 q fan ts1 lg F1 ∧ lg.length ≤ 7000 + 23 * 0 from ⟨plantGT fan ks 0 0, h1, plantGT_length fan ks 0 0⟩) (And.intro (plantT_has h2) (And.intro h3 (And.intro h4 h5))))
  clear h1 h2 h3 h4 h5 HPL
  go_wp2_with fail
  refine (pick_any _ _ _ HF.out (by omega) (by omega)).mono ?_
  rintro e w' ⟨rfl, hw⟩
  obtain rfl := hw.symm
  clear hw
  go_wp2_with fail
  go_loopw [9] (fun i wr => ∃ kk : Nat, kk ≤ 400 ∧ i = .int .i64 kk ∧ Hid (∃ ts F, (∃ lg, HRep wr q fan ts lg F ∧ lg.length ≤ 7000 + 23 * kk) ∧ Has4 ts ∧ ts.length ≤ 301 ∧ (∀ x ∈ F, w.heap.size ≤ x) ∧ Mod [] w wr)) (fun i _ => 401 - (intOf i).toNat)
  case atStart => exact ⟨0, by omega, rfl, hideIt ⟨ts1, F1, H1.out⟩⟩
  case round =>
    obtain ⟨kk, hk1, rfl, hR⟩ := hrel
    by_cases hgo : (kk : Int) < M ∧ kk < 400
    · obtain ⟨hlt, h400⟩ := hgo
      have hk4 : (kk : Int) < 400 := by omega
      obtain ⟨ts, F, ⟨lg, hrep, hlg⟩, hhas, hlen, hFF, hmr⟩ := hR.out
      have hone := hhas.len
      have HLEN := hideIt (hLen_any hrep)
      have HHE := hideIt (hHeight_any hrep (by omega))
      have HR := hideIt (And.intro (And.intro hrep hlg) (And.intro hhas (And.intro hlen (And.intro hFF hmr))))
      have hn1 : ¬ ((ts.length : Int) < 1) := by omega
      clear hR hrep hlg hhas hFF hmr
      go_wp2_with fail
      refine HLEN.out.mono ?_
      rintro e w2 ⟨rfl, hw⟩
      obtain rfl := hw.symm
      clear hw
      go_wp2_with fail
      refine HHE.out.mono ?_
      rintro e w2 ⟨⟨m, rfl, m1, m2, m3, m4⟩, hw⟩
      obtain rfl := hw.symm
      clear hw
      have HH := hideIt (HeightOk.mk m1 m2 m3)
      clear m1 m2 m3
      go_wp2_with fail
      refine (HAL.out _ _ _ (by omega) HH.out).mono ?_
      rintro e w2 ⟨rfl, hw⟩
      obtain rfl := hw.symm
      clear hw
      by_cases hin : kk < ds.length ∧ kk < 399
      · obtain ⟨hi1, hi2⟩ := hin
        have hi1' : (kk : Int) < (ds.length : Int) := by omega
        have hi2' : (kk : Int) < 399 := by omega
        have hget : ds[kk]? = some ds[kk] := List.getElem?_eq_getElem hi1
        obtain ⟨hok, b, off, rfl, hcell⟩ := HD.out kk _ hget
        generalize ds[kk] = d at *
        obtain ⟨d1, d2⟩ := pickF_lt d 300 (by omega)
        have hcell' := cell_modF HR.out.2.2.2.2 (by simp) hcell
        have HOK := hideIt hok
        clear hget hok hcell
        go_wp2_with fail
        refine (pick_any _ _ _ HOK.out (by omega) (by omega)).mono ?_
        rintro e w2 ⟨rfl, hw⟩
        obtain rfl := hw.symm
        clear hw
        go_wp2_with fail
        refine (hDrop_any HR.out.1.1 (by have := HR.out.1.2; omega) _).mono ?_
        rintro e w3 ⟨rfl, F', b1, b2, b3⟩
        have HFIN := hideIt (show ∃ ts F, (∃ lg, HRep w3 q fan ts lg F ∧ lg.length ≤ 7000 + 23 * (kk + 1)) ∧ Has4 ts ∧ ts.length ≤ 301 ∧ (∀ x ∈ F, w.heap.size ≤ x) ∧ Mod [] w w3 from by
          obtain ⟨⟨hrep, hlg⟩, hhas, hlen, hFF, hmr⟩ := HR.out
          have hdg := dropLg_length ts lg (pickF d 300)
          have hdl := dropG_len hrep.ids (pickF d 300)
          refine ⟨_, F', ⟨_, b1, by omega⟩, hhas.drop hrep.ids d2, by omega, fun x hx => ?_, hmr.then b3 (fun x hx => .inr (hFF x hx))⟩
          rcases b2 x hx with h | h
          · exact hFF x h
          · have := hmr.size
            omega)
        clear b1 b2 b3
        go_wp2_with fail
        go_roundw
        case rel => exact ⟨kk + 1, by omega, by go_num, HFIN⟩
        case measure => simp [intOf]; omega
      · have hin' : ¬ ((kk : Int) < (ds.length : Int)) ∨ ((kk : Int) < (ds.length : Int) ∧ ¬ ((kk : Int) < 399)) := by omega
        clear hin
        rcases hin' with hi | ⟨hi, hi'⟩
        all_goals
          go_wp2_with fail
          go_roundw
          case rel => exact ⟨kk + 1, by omega, by go_num, hideIt ⟨ts, F, ⟨lg, HR.out.1.1, by have := HR.out.1.2; omega⟩, HR.out.2⟩⟩
          case measure => simp [intOf]; omega
    · have hgo' : ¬ ((kk : Int) < M) ∨ ((kk : Int) < M ∧ ¬ ((kk : Int) < 400)) := by omega
      clear hgo
      rcases hgo' with hi | ⟨hi, hi'⟩
      all_goals
        go_wp2
        go_ret
        exact ⟨rfl, by obtain ⟨_, _, _, _, _, _, h⟩ := hR.out; exact h⟩

end Go.Proofs.Ythimaoipogocfaa
