import Derived.Test.YthimaoipogocfaaGreatGBook
namespace Go.Proofs.YthimaoipogocfaaGreat
open Go.RowKit Go.Maps
attribute [local go_sem] run_store_f32 run_neg_inf

set_option maxRecDepth 100000 in
set_option maxHeartbeats 4000000 in
theorem kept_any {B : Nat} {w : World} {pw : Nat} {lv : Value} {bk : Bk} {N : Nat} {F : List Nat} (h : w.heap[pw]? = some (T34 lv bk)) (hb : BookRep B w bk N F) (hN : N ≤ 1000000000) :
    Calls Tryz.prog 31 #[.pointer (some ⟨pw, 1, none⟩)] w fun e w' => e = .returned (.bool true) ∧ Mod [] w w' := by
  obtain ⟨Eb, En, Eh, hb, _⟩ := hb
  obtain ⟨⟨l1, k1, h1⟩, ⟨l2, k2, h2⟩, ⟨l3, k3, h3⟩, h4, _, _⟩ := hb
  obtain ⟨c1, c2, c3, c4, c5, c6⟩ := cell_T34s h
  obtain ⟨a1, p1, b1, q1, e1, f1, r1⟩ := h1.read
  obtain ⟨a2, p2, b2, q2, e2, f2, r2⟩ := h2.read
  obtain ⟨a3, p3, b3, q3, e3, f3, r3⟩ := h3.read
  have hn1 : l1.length ≤ 1000000000 := Nat.le_trans h1.few hN
  have hn2 : l2.length ≤ 1000000000 := Nat.le_trans h2.few hN
  have hn3 : l3.length ≤ 1000000000 := Nat.le_trans h3.few hN
  rw [e1] at c1
  rw [f1] at c2
  rw [e2] at c3
  rw [f2] at c4
  rw [e3] at c5
  rw [f3] at c6
  have R1 := hideIt r1
  have R2 := hideIt r2
  have R3 := hideIt r3
  clear r1 r2 r3 h1 h2 h3 h4 h e1 f1 e2 f2 e3 f3 hN
  generalize l1.length = n1 at *
  generalize l2.length = n2 at *
  generalize l3.length = n3 at *
  have C1 := hideIt c1
  have C2 := hideIt c2
  have C3 := hideIt c3
  have C4 := hideIt c4
  have C5 := hideIt c5
  have C6 := hideIt c6
  clear c1 c2 c3 c4 c5 c6
  go_enter Tryz.func31, Tryz.ntmps31
  go_wp2_with fail
  go_loopw [3] (fun i wr => ∃ k : Nat, k ≤ n1 ∧ i = .int .i64 k ∧ Mod [] w wr) (fun i _ => n1 - (intOf i).toNat)
  case atStart => exact ⟨0, by omega, rfl, Mod.refl _ _⟩
  case round =>
    obtain ⟨i, hi, rfl, hm⟩ := hrel
    have HM := hideIt hm
    have c1 := cell_mod hm C1.out
    clear hm
    by_cases hlt : i < n1
    · have hlt' : (i : Int) < (n1 : Int) := by omega
      obtain ⟨g, g', x, k, rfl, rfl, d1, d2, ⟨hk0, a, n, cc, rfl, hn, hfill⟩⟩ := R1.out i hlt
      have D1 := hideIt d1
      have D2 := hideIt d2
      have HFI := hideIt hfill
      have HK := hideIt hk0
      clear d1 d2 hfill hk0
      go_wp2_with fail
      clear c1
      go_loopw [4] (fun j wr => ∃ k : Nat, k ≤ n ∧ j = .int .i64 k ∧ Mod [] w wr) (fun j _ => n - (intOf j).toNat)
      case atStart => exact ⟨0, by omega, rfl, HM.out⟩
      case round =>
        obtain ⟨j, hj, rfl, hm⟩ := hrel
        have HM2 := hideIt hm
        have c1 := cell_mod hm C1.out
        have c2 := cell_mod hm C2.out
        have d1 := cell_mod hm D1.out
        have d2 := cell_mod hm D2.out
        clear hm
        by_cases hltj : j < n
        · have hltj' : (j : Int) < (n : Int) := by omega
          obtain ⟨g2, rfl, d3⟩ := HFI.out j hltj
          have d3 := cell_mod HM2.out d3
          have HSG := hideIt (fun W => sign_any (k := k) HK.out (i := j) (by omega) W)
          generalize signF k j = sg at *
          go_wp2_with fail
          go_region_held (fun w' => w'.cell? ⟨pw, 1, none⟩ = some (.slice (some ⟨g, 0, none⟩) n1 p1) ∧ w'.cell? ⟨pw, 2, none⟩ = some (.slice (some ⟨g', 0, none⟩) n1 q1) ∧ w'.cell? ⟨g, i, none⟩ = some (.slice (some ⟨g2, 0, none⟩) n cc) ∧ w'.cell? ⟨g', i, none⟩ = some (.int .i64 k) ∧ w'.cell? ⟨g2, j, none⟩ = some (.int .u8 sg))
            ((go_keep))
            ((go_at_call 58; refine (HSG.out _).mono ?_; rintro e w' ⟨rfl, rfl⟩))
          all_goals
            have HMD := hideIt (HM2.out.trans (Mod.drew _))
            clear c1 c2 d1 d2 d3
            go_wp2_with fail
            go_roundw
            case rel => exact ⟨j + 1, by omega, by go_num, HMD.out⟩
            case measure => simp [intOf]; omega
        · have hge : ¬ ((j : Int) < (n : Int)) := by omega
          go_wp2_with fail
          go_roundw
          case rel => exact ⟨i + 1, by omega, by go_num, HM2.out⟩
          case measure => simp [intOf]; omega
    · have hge : ¬ ((i : Int) < (n1 : Int)) := by omega
      go_wp2_with fail
      clear c1 R1 C1 C2
      go_loopw [5] (fun i wr => ∃ k : Nat, k ≤ n2 ∧ i = .int .i64 k ∧ Mod [] w wr) (fun i _ => n2 - (intOf i).toNat)
      case atStart => exact ⟨0, by omega, rfl, HM.out⟩
      case round =>
        clear hge hlt hi
        obtain ⟨i, hi, rfl, hm⟩ := hrel
        have HM := hideIt hm
        have c1 := cell_mod hm C3.out
        clear hm
        by_cases hlt : i < n2
        · have hlt' : (i : Int) < (n2 : Int) := by omega
          obtain ⟨g, g', x, k, rfl, rfl, d1, d2, ⟨a, n, cc, rfl, hn, hfill⟩⟩ := R2.out i hlt
          have D1 := hideIt d1
          have D2 := hideIt d2
          have HFI := hideIt hfill
          clear d1 d2 hfill
          go_wp2_with fail
          clear c1
          go_loopw [6] (fun j wr => ∃ k : Nat, k ≤ n ∧ j = .int .i64 k ∧ Mod [] w wr) (fun j _ => n - (intOf j).toNat)
          case atStart => exact ⟨0, by omega, rfl, HM.out⟩
          case round =>
            obtain ⟨j, hj, rfl, hm⟩ := hrel
            have HM2 := hideIt hm
            have c1 := cell_mod hm C3.out
            have c2 := cell_mod hm C4.out
            have d1 := cell_mod hm D1.out
            have d2 := cell_mod hm D2.out
            clear hm
            by_cases hltj : j < n
            · have hltj' : (j : Int) < (n : Int) := by omega
              obtain ⟨g2, rfl, d3⟩ := HFI.out j hltj
              have d3 := cell_mod HM2.out d3
              go_wp2_with fail
              go_region_held (fun w' => w'.cell? ⟨pw, 3, none⟩ = some (.slice (some ⟨g, 0, none⟩) n2 p2) ∧ w'.cell? ⟨pw, 4, none⟩ = some (.slice (some ⟨g', 0, none⟩) n2 q2) ∧ w'.cell? ⟨g, i, none⟩ = some (.slice (some ⟨g2, 0, none⟩) n cc) ∧ w'.cell? ⟨g', i, none⟩ = some (.int .i64 k) ∧ w'.cell? ⟨g2, j, none⟩ = some (.int .i64 k))
                ((go_keep))
                ((fail))
              all_goals
                have HMD := hideIt (HM2.out.trans (Mod.drew _))
                clear c1 c2 d1 d2 d3
                go_wp2_with fail
                go_roundw
                case rel => exact ⟨j + 1, by omega, by go_num, HMD.out⟩
                case measure => simp [intOf]; omega
            · have hge : ¬ ((j : Int) < (n : Int)) := by omega
              go_wp2_with fail
              go_roundw
              case rel => exact ⟨i + 1, by omega, by go_num, HM2.out⟩
              case measure => simp [intOf]; omega
        · have hge : ¬ ((i : Int) < (n2 : Int)) := by omega
          go_wp2_with fail
          clear c1 R2 C3 C4
          go_loopw [7] (fun i wr => ∃ k : Nat, k ≤ n3 ∧ i = .int .i64 k ∧ Mod [] w wr) (fun i _ => n3 - (intOf i).toNat)
          case atStart => exact ⟨0, by omega, rfl, HM.out⟩
          case round =>
            clear hge hlt hi
            obtain ⟨i, hi, rfl, hm⟩ := hrel
            have HM := hideIt hm
            have c1 := cell_mod hm C5.out
            clear hm
            by_cases hlt : i < n3
            · have hlt' : (i : Int) < (n3 : Int) := by omega
              obtain ⟨g, g', x, k, rfl, rfl, d1, d2, ⟨a, n, cc, rfl, hn, hfill⟩⟩ := R3.out i hlt
              have D1 := hideIt d1
              have D2 := hideIt d2
              have HFI := hideIt hfill
              clear d1 d2 hfill
              go_wp2_with fail
              clear c1
              go_loopw [8] (fun j wr => ∃ k : Nat, k ≤ n ∧ j = .int .i64 k ∧ Mod [] w wr) (fun j _ => n - (intOf j).toNat)
              case atStart => exact ⟨0, by omega, rfl, HM.out⟩
              case round =>
                obtain ⟨j, hj, rfl, hm⟩ := hrel
                have HM2 := hideIt hm
                have c1 := cell_mod hm C5.out
                have c2 := cell_mod hm C6.out
                have d1 := cell_mod hm D1.out
                have d2 := cell_mod hm D2.out
                clear hm
                by_cases hltj : j < n
                · have hltj' : (j : Int) < (n : Int) := by omega
                  obtain ⟨g2, rfl, d3, d4⟩ := HFI.out j hltj
                  have d3 := cell_mod HM2.out d3
                  have d4 := cell_mod HM2.out d4
                  go_wp2_with fail
                  go_region_held (fun w' => w'.cell? ⟨pw, 5, none⟩ = some (.slice (some ⟨g, 0, none⟩) n3 p3) ∧ w'.cell? ⟨pw, 6, none⟩ = some (.slice (some ⟨g', 0, none⟩) n3 q3) ∧ w'.cell? ⟨g, i, none⟩ = some (.slice (some ⟨g2, 0, none⟩) n cc) ∧ w'.cell? ⟨g', i, none⟩ = some (.int .i64 k) ∧ w'.cell? ⟨g2, j * 2, none⟩ = some (.int .i64 k) ∧ w'.cell? ⟨g2, j * 2 + 1, none⟩ = some (.int .i64 k))
                    ((go_keep))
                    ((fail))
                  all_goals
                    have HMD := hideIt (HM2.out.trans (Mod.drew _))
                    clear c1 c2 d1 d2 d3 d4
                    go_wp2_with fail
                    go_roundw
                    case rel => exact ⟨j + 1, by omega, by go_num, HMD.out⟩
                    case measure => simp [intOf]; omega
                · have hge : ¬ ((j : Int) < (n : Int)) := by omega
                  go_wp2_with fail
                  go_roundw
                  case rel => exact ⟨i + 1, by omega, by go_num, HM2.out⟩
                  case measure => simp [intOf]; omega
            · have hge : ¬ ((i : Int) < (n3 : Int)) := by omega
              go_wp2
              go_ret
              exact ⟨rfl, HM.out⟩

end Go.Proofs.YthimaoipogocfaaGreat
