import Derived.Test.YtideopmkmobicaaKept
namespace Go.Proofs.Ytideopmkmobicaa
open Go.RowKit Go.Maps

def PlaysPost (w : World) (e : Ending) (w' : World) : Prop := e = .returned (.bool true) ∧ Below w.heap.size w w'

theorem WRep.start (w : World) : WRep w.heap.size (w.alloc (T34 (.slice none 0 0))) w.heap.size [] := by
  refine ⟨.slice none 0 0, heap_alloc_new w _, Nat.le_refl _, World.ownsRow_nil _ _ _ _, ?_, ?_, ?_⟩
  · intro p hp; cases hp
  · intro p hp; cases hp
  · intro i j p q h; simp at h

theorem WRep.block {B : Nat} {w : World} {pw : Nat} {ps : List PS} (h : WRep B w pw ps) : ∃ g c, w.heap[pw]? = some (T34 (.slice g ps.length c)) := by
  obtain ⟨lv, h1, h2, h3, _⟩ := h
  rcases h3.2 with ⟨rfl, hz⟩ | ⟨g, c, cur, rfl, _⟩
  · exact ⟨none, 0, by rw [hz]; exact h1⟩
  · exact ⟨_, _, h1⟩

def stNil : Value := .slice none 0 0
abbrev stNew : Stp := ⟨1, 0, 4, 0, 0, 0, 0, 0, 0, .slice none 0 0⟩
abbrev stPut1 : Stp := ⟨2, 0, 1, 0, 0, 0, 0, 10, 10, .slice none 0 0⟩
abbrev stPut2 : Stp := ⟨2, 0, 2, 0, 0, 10, 10, 20, 20, .slice none 0 0⟩
abbrev stPut3 : Stp := ⟨2, 0, 3, 0, 0, 11, 0, 11, 9, .slice none 0 0⟩

theorem ok_new : stNew.ok := by constructor <;> exact ⟨by decide, by decide⟩
theorem ok_put1 : stPut1.ok := by constructor <;> exact ⟨by decide, by decide⟩
theorem ok_put2 : stPut2.ok := by constructor <;> exact ⟨by decide, by decide⟩
theorem ok_put3 : stPut3.ok := by constructor <;> exact ⟨by decide, by decide⟩

/-- the ten cells of a step, at an offset of a block -/
structure StpAt (w : World) (b o : Nat) (s : Stp) : Prop where
  c0 : w.cell? ⟨b, o, none⟩ = some (.int .i64 s.k)
  c1 : w.cell? ⟨b, o + 1, none⟩ = some (.int .i64 s.e)
  c2 : w.cell? ⟨b, o + 2, none⟩ = some (.int .i64 s.a)
  c3 : w.cell? ⟨b, o + 3, none⟩ = some (.int .i64 s.b)
  c4 : w.cell? ⟨b, o + 4, none⟩ = some (.int .i64 s.c)
  c5 : w.cell? ⟨b, o + 5, none⟩ = some (.int .i64 s.x0)
  c6 : w.cell? ⟨b, o + 6, none⟩ = some (.int .i64 s.y0)
  c7 : w.cell? ⟨b, o + 7, none⟩ = some (.int .i64 s.x1)
  c8 : w.cell? ⟨b, o + 8, none⟩ = some (.int .i64 s.y1)
  c9 : w.cell? ⟨b, o + 9, none⟩ = some s.j

theorem StpAt.kept {w w' : World} {b o : Nat} {s : Stp} (h : StpAt w b o s) (hb : Below w.heap.size w w') : StpAt w' b o s := by
  have hm := Mod.of_below hb
  exact ⟨cell_mod hm h.c0, cell_mod hm h.c1, cell_mod hm h.c2, cell_mod hm h.c3, cell_mod hm h.c4, cell_mod hm h.c5, cell_mod hm h.c6, cell_mod hm h.c7, cell_mod hm h.c8, cell_mod hm h.c9⟩

set_option maxRecDepth 100000 in
set_option maxHeartbeats 2000000 in
theorem plays_some (b off n c : Nat) (w : World) (hn : n ≤ 87381) (hsc : ∀ i, i < n → ∃ s : Stp, s.ok ∧ StpAt w b (off + i * 10) s) :
    Calls Try.prog 4 #[.slice (some ⟨b, off, none⟩) n c, .int .i64 6] w (PlaysPost w) := by
  have HSC := hideIt hsc
  clear hsc
  have hW0 := WRep.start w
  have hb0 : Below w.heap.size w (w.alloc (T34 (.slice none 0 0))) := (Below.refl _ _).alloc (Nat.le_refl _) _
  have hz0 : w.heap.size ≤ (w.alloc (T34 (.slice none 0 0))).heap.size := by simp
  go_enter Try.func4, Try.ntmps4
  go_wp2_with fail
  generalize w.alloc (T34 (.slice none 0 0)) = w0 at *
  have h1 := step_good hW0 hz0 (by simp) 0 (by simp) stNew rfl rfl
  refine h1.mono ?_
  clear h1
  rintro e w1 ⟨rfl, ps1, hw1, hb1, hl1, hn1⟩
  obtain ⟨g1, d1, hT1⟩ := hw1.block
  have cT := cell_T34 hT1
  simp only [List.length_nil, Nat.zero_add] at hl1
  have hz1 : w.heap.size ≤ w1.heap.size := Nat.le_trans hz0 hb1.size
  have hB1 := hb0.trans hb1
  rw [hl1] at cT
  go_wp2_with fail
  have h2 := step_other hw1 hz1 (by omega) (by omega) 897 (fun q hq => by have := hn1 q hq; omega) (by omega) stPut1 ok_put1 (by decide) rfl
  refine h2.mono ?_
  clear h2 cT hT1
  rintro e w2 ⟨rfl, ps2, hw2, hb2, hl2, hn2⟩
  have hz2 : w.heap.size ≤ w2.heap.size := Nat.le_trans hz1 hb2.size
  have hB2 := hB1.trans hb2
  go_wp2_with fail
  have h3 := step_other hw2 hz2 (by omega) (by omega) 1794 (fun q hq => by have := hn2 q hq; have := adds_le 2; omega) (by omega) stPut2 ok_put2 (by decide) rfl
  refine h3.mono ?_
  clear h3
  rintro e w3 ⟨rfl, ps3, hw3, hb3, hl3, hn3⟩
  have hz3 : w.heap.size ≤ w3.heap.size := Nat.le_trans hz2 hb3.size
  have hB3 := hB2.trans hb3
  go_wp2_with fail
  have h4 := step_other hw3 hz3 (by omega) (by omega) 2691 (fun q hq => by have := hn3 q hq; have := adds_le 2; omega) (by omega) stPut3 ok_put3 (by decide) rfl
  refine h4.mono ?_
  clear h4
  rintro e w4 ⟨rfl, ps4, hw4, hb4, hl4, hn4⟩
  have hz4 : w.heap.size ≤ w4.heap.size := Nat.le_trans hz3 hb4.size
  have hB4 := hB3.trans hb4
  go_wp2_with fail
  have hL4 : ps4.length = 1 := by omega
  have hN4 : ∀ q ∈ ps4, q.nl ≤ 3588 := fun q hq => by have := hn4 q hq; have := adds_le 2; omega
  clear hw1 hw2 hw3 hb1 hb2 hb3 hb4 hB1 hB2 hB3 hb0 hW0 hn1 hn2 hn3 hn4 hz0 hz1 hz2 hz3 hl1 hl2 hl3 hl4
  go_loopw [6, 10] (fun ok i wr => ok = .bool true ∧ ∃ k : Nat, k ≤ n ∧ i = .int .i64 k ∧ ∃ ps, WRep w.heap.size wr w.heap.size ps ∧ Below w.heap.size w wr ∧ 0 < ps.length ∧ ps.length ≤ 1 + k ∧ ∀ q ∈ ps, q.nl ≤ 3588 + 897 * k) (fun _ i _ => n - (intOf i).toNat)
  case atStart => exact ⟨rfl, 0, Nat.zero_le _, rfl, ps4, hw4, hB4, by omega, by omega, fun q hq => by have := hN4 q hq; omega⟩
  case round =>
    clear hw4 hB4 hL4 hN4 hz4
    obtain ⟨rfl, k, hk, rfl, ps, hw, hB, hp0, hp1, hpn⟩ := hrel
    by_cases hlt : k < n
    · obtain ⟨s, hs, hat⟩ := HSC.out k hlt
      obtain ⟨a0, a1, a2, a3, a4, a5, a6, a7, a8, a9⟩ := hat.kept hB
      clear hat
      have hki : (k : Int) < (n : Int) := by omega
      by_cases hk6 : s.k ≤ 6
      · go_wp2_with fail
        have hst := step_any hw hB.size (by omega) (3588 + 897 * k) hpn (by omega) s hs hk6 hp0
        refine hst.mono ?_
        clear hst a0 a1 a2 a3 a4 a5 a6 a7 a8 a9
        rintro e w5 ⟨rfl, ps5, hw5, hb5, hl5, hl5', hn5⟩
        obtain ⟨g5, d5, hT5⟩ := hw5.block
        have hB5 := hB.trans hb5
        clear hw hB hpn
        go_wp2_with fail
        refine (kept_any hT5).mono ?_
        rintro e w6 ⟨rfl, rfl⟩
        clear hT5
        go_wp2_with fail
        go_roundw
        case rel => exact ⟨rfl, k + 1, by omega, by go_num, ps5, hw5, hB5, by omega, by omega, fun q hq => by have := hn5 q hq; omega⟩
        case measure => simp [intOf]; omega
      · clear a1 a2 a3 a4 a5 a6 a7 a8 a9
        go_wp2_with fail
        go_roundw
        case rel => exact ⟨rfl, k + 1, by omega, by go_num, ps, hw, hB, by omega, by omega, fun q hq => by have := hpn q hq; omega⟩
        case measure => simp [intOf]; omega
    · go_wp2_with fail
      clear HSC
      have hpm : ps.length ≤ 87382 := by omega
      have hpN : ∀ q ∈ ps, q.nl ≤ 99999000 := fun q hq => by have := hpn q hq; omega
      clear hpn hp1 hlt hk
      obtain ⟨m, hm⟩ : ∃ m, m = ps.length := ⟨_, rfl⟩
      go_loopw [6, 12] (fun ok i wr => ok = .bool true ∧ ∃ k : Nat, k ≤ m ∧ i = .int .i64 k ∧ ∃ ps, WRep w.heap.size wr w.heap.size ps ∧ Below w.heap.size w wr ∧ ps.length = m ∧ ∀ q ∈ ps, q.nl ≤ 99999000) (fun _ i _ => m - (intOf i).toNat)
      case atStart => exact ⟨rfl, 0, Nat.zero_le _, rfl, ps, hw, hB, hm.symm, hpN⟩
      case round =>
        have hmm : m ≤ 87382 := by omega
        clear hw hB hp0 hpN hm hpm
        obtain ⟨rfl, k2, hk2, rfl, qs, hw, hB, hl, hN⟩ := hrel
        obtain ⟨g7, d7, hT⟩ := hw.block
        rw [hl] at hT
        have cT := cell_T34 hT
        have hz := hB.size
        by_cases hlt2 : k2 < m
        · have hki2 : (k2 : Int) < (m : Int) := by omega
          have hst := step_other hw hz (by omega) (by omega) 99999000 hN (by omega) ⟨5, k2, 0, 0, 0, 0, 0, 0, 0, .slice none 0 0⟩ (by constructor <;> (unfold i64ok; simp only; omega)) (by show (5 : Int) ≤ 6; decide) rfl
          have HS := hideIt hst
          clear hst hT
          go_wp2_with fail
          refine HS.out.mono ?_
          clear HS cT hw hN
          rintro e w7 ⟨rfl, qs7, hw7, hb7, hl7, hn7⟩
          have hB7 := hB.trans hb7
          have hn7' : ∀ q ∈ qs7, q.nl ≤ 99999000 := fun q hq => by have := hn7 q hq; rw [show adds (5 : Int) = 0 by decide] at this; omega
          clear hB hb7 hn7
          obtain ⟨wo, hwo⟩ : ∃ wo : World, wo = wr := ⟨_, rfl⟩
          clear hwo
          go_wp2_with fail
          go_loopw [6, 13] (fun ok i wr => ok = .bool true ∧ ∃ k : Nat, k ≤ 8 ∧ i = .int .i64 k ∧ ∃ ps, WRep w.heap.size wr w.heap.size ps ∧ Below w.heap.size w wr ∧ ps.length = m ∧ ∀ q ∈ ps, q.nl ≤ 99999000) (fun _ i _ => 8 - (intOf i).toNat)
          case atStart => exact ⟨rfl, 0, by omega, rfl, qs7, hw7, hB7, by omega, hn7'⟩
          case round =>
            clear hw7 hB7 hn7' hl7
            obtain ⟨rfl, j, hj, rfl, rs, hw, hB, hl', hN⟩ := hrel
            have hz' := hB.size
            by_cases hj8 : j < 8
            · have hst := step_other hw hz' (by omega) (by omega) 99999000 hN (by omega) ⟨4, k2, j, 0, 0, 0, 0, 0, 0, .slice none 0 0⟩ (by constructor <;> (unfold i64ok; simp only; omega)) (by show (4 : Int) ≤ 6; decide) rfl
              have HS := hideIt hst
              clear hst
              go_wp2_with fail
              refine HS.out.mono ?_
              clear HS hw hN
              rintro e w8 ⟨rfl, qs8, hw8, hb8, hl8, hn8⟩
              have hB8 := hB.trans hb8
              have hn8' : ∀ q ∈ qs8, q.nl ≤ 99999000 := fun q hq => by have := hn8 q hq; rw [show adds (4 : Int) = 0 by decide] at this; omega
              clear hB hb8 hn8
              go_wp2_with fail
              go_roundw
              case rel => exact ⟨rfl, j + 1, by omega, by go_num, qs8, hw8, hB8, by omega, hn8'⟩
              case measure => simp [intOf]; omega
            · go_wp2_with fail
              go_roundw
              case rel => exact ⟨rfl, k2 + 1, by omega, by go_num, rs, hw, hB, hl', hN⟩
              case measure => simp [intOf]; omega
        · go_wp2_with fail
          refine (kept_any hT).mono ?_
          rintro e w6 ⟨rfl, rfl⟩
          clear hT cT hw hN
          go_wp2
          go_ret
          exact ⟨rfl, hB⟩

set_option maxRecDepth 100000 in
set_option maxHeartbeats 2000000 in
theorem plays_none (q : Option Addr) (c : Nat) (w : World) :
    Calls Try.prog 4 #[.slice q 0 c, .int .i64 6] w (PlaysPost w) := by
  have hW0 := WRep.start w
  have hb0 : Below w.heap.size w (w.alloc (T34 (.slice none 0 0))) := (Below.refl _ _).alloc (Nat.le_refl _) _
  have hz0 : w.heap.size ≤ (w.alloc (T34 (.slice none 0 0))).heap.size := by simp
  go_enter Try.func4, Try.ntmps4
  go_wp2_with fail
  generalize w.alloc (T34 (.slice none 0 0)) = w0 at *
  have h1 := step_good hW0 hz0 (by simp) 0 (by simp) stNew rfl rfl
  refine h1.mono ?_
  clear h1
  rintro e w1 ⟨rfl, ps1, hw1, hb1, hl1, hn1⟩
  obtain ⟨g1, d1, hT1⟩ := hw1.block
  have cT := cell_T34 hT1
  simp only [List.length_nil, Nat.zero_add] at hl1
  have hz1 : w.heap.size ≤ w1.heap.size := Nat.le_trans hz0 hb1.size
  have hB1 := hb0.trans hb1
  rw [hl1] at cT
  go_wp2_with fail
  have h2 := step_other hw1 hz1 (by omega) (by omega) 897 (fun q hq => by have := hn1 q hq; omega) (by omega) stPut1 ok_put1 (by decide) rfl
  refine h2.mono ?_
  clear h2 cT hT1
  rintro e w2 ⟨rfl, ps2, hw2, hb2, hl2, hn2⟩
  have hz2 : w.heap.size ≤ w2.heap.size := Nat.le_trans hz1 hb2.size
  have hB2 := hB1.trans hb2
  go_wp2_with fail
  have h3 := step_other hw2 hz2 (by omega) (by omega) 1794 (fun q hq => by have := hn2 q hq; have := adds_le 2; omega) (by omega) stPut2 ok_put2 (by decide) rfl
  refine h3.mono ?_
  clear h3
  rintro e w3 ⟨rfl, ps3, hw3, hb3, hl3, hn3⟩
  have hz3 : w.heap.size ≤ w3.heap.size := Nat.le_trans hz2 hb3.size
  have hB3 := hB2.trans hb3
  go_wp2_with fail
  have h4 := step_other hw3 hz3 (by omega) (by omega) 2691 (fun q hq => by have := hn3 q hq; have := adds_le 2; omega) (by omega) stPut3 ok_put3 (by decide) rfl
  refine h4.mono ?_
  clear h4
  rintro e w4 ⟨rfl, ps4, hw4, hb4, hl4, hn4⟩
  have hz4 : w.heap.size ≤ w4.heap.size := Nat.le_trans hz3 hb4.size
  have hB4 := hB3.trans hb4
  go_wp2_with fail
  have hL4 : ps4.length = 1 := by omega
  have hN4 : ∀ q ∈ ps4, q.nl ≤ 3588 := fun q hq => by have := hn4 q hq; have := adds_le 2; omega
  clear hw1 hw2 hw3 hb1 hb2 hb3 hb4 hB1 hB2 hB3 hb0 hW0 hn1 hn2 hn3 hn4 hz0 hz1 hz2 hz3 hl1 hl2 hl3 hl4
  go_loopw [6, 10] (fun ok i wr => ok = .bool true ∧ i = .int .i64 0 ∧ ∃ ps, WRep w.heap.size wr w.heap.size ps ∧ Below w.heap.size w wr ∧ ps.length = 1 ∧ ∀ q ∈ ps, q.nl ≤ 3588) (fun _ _ _ => 0)
  case atStart => exact ⟨rfl, rfl, ps4, hw4, hB4, hL4, hN4⟩
  case round =>
    clear hw4 hB4 hL4 hN4 hz4
    obtain ⟨rfl, rfl, ps, hw, hB, hp0, hpn⟩ := hrel
    go_wp2_with fail
    have hpm : ps.length ≤ 87382 := by omega
    have hpN : ∀ q ∈ ps, q.nl ≤ 99999000 := fun q hq => by have := hpn q hq; omega
    clear hpn
    obtain ⟨m, hm⟩ : ∃ m, m = ps.length := ⟨_, rfl⟩
    go_loopw [6, 12] (fun ok i wr => ok = .bool true ∧ ∃ k : Nat, k ≤ m ∧ i = .int .i64 k ∧ ∃ ps, WRep w.heap.size wr w.heap.size ps ∧ Below w.heap.size w wr ∧ ps.length = m ∧ ∀ q ∈ ps, q.nl ≤ 99999000) (fun _ i _ => m - (intOf i).toNat)
    case atStart => exact ⟨rfl, 0, Nat.zero_le _, rfl, ps, hw, hB, hm.symm, hpN⟩
    case round =>
      have hmm : m ≤ 87382 := by omega
      clear hw hB hp0 hpN hm hpm
      obtain ⟨rfl, k2, hk2, rfl, qs, hw, hB, hl, hN⟩ := hrel
      obtain ⟨g7, d7, hT⟩ := hw.block
      rw [hl] at hT
      have cT := cell_T34 hT
      have hz := hB.size
      by_cases hlt2 : k2 < m
      · have hki2 : (k2 : Int) < (m : Int) := by omega
        have hst := step_other hw hz (by omega) (by omega) 99999000 hN (by omega) ⟨5, k2, 0, 0, 0, 0, 0, 0, 0, .slice none 0 0⟩ (by constructor <;> (unfold i64ok; simp only; omega)) (by show (5 : Int) ≤ 6; decide) rfl
        have HS := hideIt hst
        clear hst hT
        go_wp2_with fail
        refine HS.out.mono ?_
        clear HS cT hw hN
        rintro e w7 ⟨rfl, qs7, hw7, hb7, hl7, hn7⟩
        have hB7 := hB.trans hb7
        have hn7' : ∀ q ∈ qs7, q.nl ≤ 99999000 := fun q hq => by have := hn7 q hq; rw [show adds (5 : Int) = 0 by decide] at this; omega
        clear hB hb7 hn7
        obtain ⟨wo, hwo⟩ : ∃ wo : World, wo = wr := ⟨_, rfl⟩
        clear hwo
        go_wp2_with fail
        go_loopw [6, 13] (fun ok i wr => ok = .bool true ∧ ∃ k : Nat, k ≤ 8 ∧ i = .int .i64 k ∧ ∃ ps, WRep w.heap.size wr w.heap.size ps ∧ Below w.heap.size w wr ∧ ps.length = m ∧ ∀ q ∈ ps, q.nl ≤ 99999000) (fun _ i _ => 8 - (intOf i).toNat)
        case atStart => exact ⟨rfl, 0, by omega, rfl, qs7, hw7, hB7, by omega, hn7'⟩
        case round =>
          clear hw7 hB7 hn7' hl7
          obtain ⟨rfl, j, hj, rfl, rs, hw, hB, hl', hN⟩ := hrel
          have hz' := hB.size
          by_cases hj8 : j < 8
          · have hst := step_other hw hz' (by omega) (by omega) 99999000 hN (by omega) ⟨4, k2, j, 0, 0, 0, 0, 0, 0, .slice none 0 0⟩ (by constructor <;> (unfold i64ok; simp only; omega)) (by show (4 : Int) ≤ 6; decide) rfl
            have HS := hideIt hst
            clear hst
            go_wp2_with fail
            refine HS.out.mono ?_
            clear HS hw hN
            rintro e w8 ⟨rfl, qs8, hw8, hb8, hl8, hn8⟩
            have hB8 := hB.trans hb8
            have hn8' : ∀ q ∈ qs8, q.nl ≤ 99999000 := fun q hq => by have := hn8 q hq; rw [show adds (4 : Int) = 0 by decide] at this; omega
            clear hB hb8 hn8
            go_wp2_with fail
            go_roundw
            case rel => exact ⟨rfl, j + 1, by omega, by go_num, qs8, hw8, hB8, by omega, hn8'⟩
            case measure => simp [intOf]; omega
          · go_wp2_with fail
            go_roundw
            case rel => exact ⟨rfl, k2 + 1, by omega, by go_num, rs, hw, hB, hl', hN⟩
            case measure => simp [intOf]; omega
      · go_wp2_with fail
        refine (kept_any hT).mono ?_
        rintro e w6 ⟨rfl, rfl⟩
        clear hT cT hw hN
        go_wp2
        go_ret
        exact ⟨rfl, hB⟩

end Go.Proofs.Ytideopmkmobicaa
