import Derived.Test.YthimaoipogocfaaGreatGStep
namespace Go.Proofs.YthimaoipogocfaaGreat
open Go.RowKit Go.Maps
attribute [local go_sem] run_store_f32 run_neg_inf

def PlaysPost (w : World) (e : Ending) (w' : World) : Prop := e = .returned (.bool true) ∧ Below w.heap.size w w'

abbrev T34n : Obj := .cells #[.slice none 0 0, .slice none 0 0, .slice none 0 0, .slice none 0 0, .slice none 0 0, .slice none 0 0, .slice none 0 0] 68 (0, 0)
theorem WRep.start (w : World) : WRep w.heap.size (w.alloc (T34n)) w.heap.size [] 0 := by
  refine ⟨.slice none 0 0, bk0, [], heap_alloc_new w _, Nat.le_refl _, World.ownsRow_nil _ _ _ _, ?_, ?_, ?_, BookRep.empty _ _ _, by simp⟩
  · intro p hp; cases hp
  · intro p hp; cases hp
  · intro i j p q h; simp at h

theorem WRep.block {B : Nat} {w : World} {pw : Nat} {ps : List PS} {K : Nat} (h : WRep B w pw ps K) : ∃ g c bk, w.heap[pw]? = some (T34 (.slice g ps.length c) bk) := by
  obtain ⟨lv, bk, Fb, h1, h2, h3, _⟩ := h
  rcases h3.2 with ⟨rfl, hz⟩ | ⟨g, c, cur, rfl, _⟩
  · exact ⟨none, 0, bk, by rw [hz]; exact h1⟩
  · exact ⟨_, _, bk, h1⟩

/-- what steps up to the first k may add -/
def tot (cost : Nat → Nat) : Nat → Nat
  | 0 => 0
  | k + 1 => tot cost k + cost k
theorem tot_mono (cost : Nat → Nat) {k n : Nat} (h : k ≤ n) : tot cost k ≤ tot cost n := by
  induction n with
  | zero => have : k = 0 := by omega
            subst this; exact Nat.le_refl _
  | succ n ih =>
    by_cases e : k = n + 1
    · subst e; exact Nat.le_refl _
    · exact Nat.le_trans (ih (by omega)) (Nat.le_add_right _ _)

/-- a step of the kinds up to last is as the document says -/
def StepsTo (last : Int) (C : World → Stp → Nat → Prop) : Prop :=
  ∀ (B : Nat) (w : World) (pw : Nat) (ps : List PS) (K : Nat), WRep B w pw ps K → B ≤ w.heap.size → ps.length ≤ 100000000 → ∀ N, (∀ p ∈ ps, p.nl ≤ N) → N ≤ 99998000 → K ≤ 100000000 → ∀ s : Stp, s.ok → ∀ j, C w s j → j ≤ 1048576 → s.k ≤ last → 0 < ps.length →
    Calls Tryz.prog 30 #[.pointer (some ⟨pw, 0, none⟩), S10 s] w (StepAny B pw ps.length (N + (897 + j)) (K + 4) w)

def lawNil : Value := .slice none 0 0
abbrev lawNew : Stp := ⟨1, 0, 4, 0, 0, 0, 0, 0, 0, .slice none 0 0⟩
abbrev lawPut1 : Stp := ⟨2, 0, 1, 0, 0, 0, 0, 10, 10, .slice none 0 0⟩
abbrev lawPut2 : Stp := ⟨2, 0, 2, 0, 0, 10, 10, 20, 20, .slice none 0 0⟩
abbrev lawPut3 : Stp := ⟨2, 0, 3, 0, 0, 11, 0, 11, 9, .slice none 0 0⟩

theorem ok_new : lawNew.ok := by constructor <;> exact ⟨by decide, by decide⟩
theorem ok_put1 : lawPut1.ok := by constructor <;> exact ⟨by decide, by decide⟩
theorem ok_put2 : lawPut2.ok := by constructor <;> exact ⟨by decide, by decide⟩
theorem ok_put3 : lawPut3.ok := by constructor <;> exact ⟨by decide, by decide⟩

/-- the ten cells of a step, at an offset of a block -/
structure StpAt (w : World) (b o : Nat) (s : Stp) : Prop where
  c0 : w.cell? ⟨b, o, none⟩ = some (.int .i64 s.k)
  c1 : w.cell? ⟨b, o + 1, none⟩ = some (.int .i64 s.e)
  c2 : w.cell? ⟨b, o + 2, none⟩ = some (.int .i64 s.a)
  c3 : w.cell? ⟨b, o + 3, none⟩ = some (.int .i64 s.b)
  c4 : w.cell? ⟨b, o + 4, none⟩ = some (.int .i64 s.c)
  c5 : w.cell? ⟨b, o + 5, none⟩ = some (.int .i64 s.x0)
  c6 : w.cell? ⟨b, o + 6, none⟩ = some (.int .i64 s.y0)
  c7 : w.cell? ⟨b, o + 7, none⟩ = some (.int .i64 s.x1)
  c8 : w.cell? ⟨b, o + 8, none⟩ = some (.int .i64 s.y1)
  c9 : w.cell? ⟨b, o + 9, none⟩ = some s.j

theorem StpAt.kept {w w' : World} {b o : Nat} {s : Stp} (h : StpAt w b o s) (hb : Below w.heap.size w w') : StpAt w' b o s := by
  have hm := Mod.of_below hb
  exact ⟨cell_mod hm h.c0, cell_mod hm h.c1, cell_mod hm h.c2, cell_mod hm h.c3, cell_mod hm h.c4, cell_mod hm h.c5, cell_mod hm h.c6, cell_mod hm h.c7, cell_mod hm h.c8, cell_mod hm h.c9⟩

set_option maxRecDepth 100000 in
set_option maxHeartbeats 2000000 in
theorem plays_any (last : Int) {C : World → Stp → Nat → Prop} (hC : ∀ w w' s j, C w s j → Mod [] w w' → C w' s j) (hstep : StepsTo last C) (a : Option Addr) (n c : Nat) (cost : Nat → Nat) (w : World) (hn : n ≤ 87381) (hcost : tot cost n ≤ 1048576)
    (hsc : ∀ i, i < n → ∃ b off, a = some ⟨b, off, none⟩ ∧ ∃ s : Stp, s.ok ∧ StpAt w b (off + i * 10) s ∧ C w s (cost i)) :
    Calls Tryz.prog 12 #[.slice a n c, .int .i64 last] w (PlaysPost w) := by
  have HSC := hideIt hsc
  have HC := hideIt hC
  have HSTEP := hideIt hstep
  have HCOST := hideIt hcost
  clear hsc hC hstep hcost
  have hW0 := WRep.start w
  have hb0 : Below w.heap.size w (w.alloc (T34n)) := (Below.refl _ _).alloc (Nat.le_refl _) _
  have hz0 : w.heap.size ≤ (w.alloc (T34n)).heap.size := by simp
  go_enter Tryz.func12, Tryz.ntmps12
  go_wp2_with fail
  generalize w.alloc (T34n) = w0 at *
  have h1 := step_good hW0 hz0 (by simp) 0 (by simp) lawNew rfl rfl
  refine h1.mono ?_
  clear h1
  rintro e w1 ⟨rfl, ps1, hw1, hb1, hl1, hn1⟩
  obtain ⟨g1, d1, bk1, hT1⟩ := hw1.block
  have cT := cell_T34 hT1
  simp only [List.length_nil, Nat.zero_add] at hl1
  have hz1 : w.heap.size ≤ w1.heap.size := Nat.le_trans hz0 hb1.size
  have hB1 := hb0.trans hb1
  rw [hl1] at cT
  go_wp2_with fail
  have h2 := step_other hw1 hz1 (by omega) (by omega) 897 (fun q hq => by have := hn1 q hq; omega) (by omega) lawPut1 ok_put1 (by decide) rfl
  refine h2.mono ?_
  clear h2 cT hT1
  rintro e w2 ⟨rfl, ps2, hw2, hb2, hl2, hn2⟩
  have hz2 : w.heap.size ≤ w2.heap.size := Nat.le_trans hz1 hb2.size
  have hB2 := hB1.trans hb2
  go_wp2_with fail
  have h3 := step_other hw2 hz2 (by omega) (by omega) 1794 (fun q hq => by have := hn2 q hq; have := adds_le 2; omega) (by omega) lawPut2 ok_put2 (by decide) rfl
  refine h3.mono ?_
  clear h3
  rintro e w3 ⟨rfl, ps3, hw3, hb3, hl3, hn3⟩
  have hz3 : w.heap.size ≤ w3.heap.size := Nat.le_trans hz2 hb3.size
  have hB3 := hB2.trans hb3
  go_wp2_with fail
  have h4 := step_other hw3 hz3 (by omega) (by omega) 2691 (fun q hq => by have := hn3 q hq; have := adds_le 2; omega) (by omega) lawPut3 ok_put3 (by decide) rfl
  refine h4.mono ?_
  clear h4
  rintro e w4 ⟨rfl, ps4, hw4, hb4, hl4, hn4⟩
  have hz4 : w.heap.size ≤ w4.heap.size := Nat.le_trans hz3 hb4.size
  have hB4 := hB3.trans hb4
  go_wp2_with fail
  have hL4 : ps4.length = 1 := by omega
  have hN4 : ∀ q ∈ ps4, q.nl ≤ 3588 := fun q hq => by have := hn4 q hq; have := adds_le 2; omega
  clear hw1 hw2 hw3 hb1 hb2 hb3 hb4 hB1 hB2 hB3 hb0 hW0 hn1 hn2 hn3 hn4 hz0 hz1 hz2 hz3 hl1 hl2 hl3 hl4
  go_loopw [6, 10] (fun ok i wr => ok = .bool true ∧ ∃ k : Nat, k ≤ n ∧ i = .int .i64 k ∧ ∃ ps, WRep w.heap.size wr w.heap.size ps (4 * k) ∧ Below w.heap.size w wr ∧ 0 < ps.length ∧ ps.length ≤ 1 + k ∧ ∀ q ∈ ps, q.nl ≤ 3588 + 897 * k + tot cost k) (fun _ i _ => n - (intOf i).toNat)
  case atStart => exact ⟨rfl, 0, Nat.zero_le _, rfl, ps4, hw4, hB4, by omega, by omega, fun q hq => by have := hN4 q hq; omega⟩
  case round =>
    clear hw4 hB4 hL4 hN4 hz4
    obtain ⟨rfl, k, hk, rfl, ps, hw, hB, hp0, hp1, hpn⟩ := hrel
    by_cases hlt : k < n
    · obtain ⟨b, off, rfl, s, hs, hat, hCs⟩ := HSC.out k hlt
      have hCs := HC.out _ _ _ _ hCs (Mod.of_below hB)
      obtain ⟨a0, a1, a2, a3, a4, a5, a6, a7, a8, a9⟩ := hat.kept hB
      clear hat
      have hki : (k : Int) < (n : Int) := by omega
      have ht1 := tot_mono cost (show k + 1 ≤ n by omega)
      have ht2 : tot cost (k + 1) = tot cost k + cost k := rfl
      have ht3 := HCOST.out
      have hck : cost k ≤ 1048576 := by omega
      have hnk : 3588 + 897 * k + tot cost k ≤ 99998000 := by omega
      have HST := hideIt (fun hk6 => HSTEP.out _ _ _ _ _ hw hB.size (by omega) (3588 + 897 * k + tot cost k) hpn hnk (by omega) s hs (cost k) hCs hck hk6 hp0)
      have HT2 := hideIt ht2
      have HW := hideIt hw
      have HB := hideIt hB
      have HPN := hideIt hpn
      clear ht1 ht2 ht3 hck hnk hCs hw hB hpn
      by_cases hk6 : s.k ≤ last
      · have hk6' : ¬ (last < s.k) := by omega
        go_wp2_with fail
        refine (HST.out hk6).mono ?_
        clear HST a0 a1 a2 a3 a4 a5 a6 a7 a8 a9 HPN
        rintro e w5 ⟨rfl, ps5, hw5, hb5, hl5, hl5', hn5⟩
        have hB5 := HB.out.trans hb5
        have HK := hideIt (lawKept hw5 (by omega))
        have HW5 := hideIt hw5
        have HB5 := hideIt hB5
        have HN5 := hideIt hn5
        clear HW HB hw5 hb5 hB5 hn5
        go_wp2_with fail
        refine HK.out.mono ?_
        rintro e w6 ⟨rfl, hm6⟩
        have HW6 := hideIt (HW5.out.kept hm6)
        have HB6 := hideIt (HB5.out.trans (hm6.below_of HB5.out.size (by simp)))
        clear HK hm6 HW5 HB5
        go_wp2_with fail
        go_roundw
        case rel => exact ⟨rfl, k + 1, by omega, by go_num, ps5, HW6.out, HB6.out, by omega, by omega, fun q hq => by have := HN5.out q hq; have := HT2.out; omega⟩
        case measure => simp [intOf]; omega
      · have hk6' : last < s.k := by omega
        clear a1 a2 a3 a4 a5 a6 a7 a8 a9 HST
        go_wp2_with fail
        go_roundw
        case rel => exact ⟨rfl, k + 1, by omega, by go_num, ps, HW.out.more (by omega), HB.out, by omega, by omega, fun q hq => by have := HPN.out q hq; have := HT2.out; omega⟩
        case measure => simp [intOf]; omega
    · go_wp2_with fail
      have hcst := HCOST.out
      have htk : tot cost k ≤ tot cost n := tot_mono cost hk
      clear HSC HC HSTEP HCOST
      have hpm : ps.length ≤ 87382 := by omega
      have hpN : ∀ q ∈ ps, q.nl ≤ 99999000 := fun q hq => by have := hpn q hq; omega
      have h4k : 4 * k ≤ 1000000000 := by omega
      clear hpn hp1 hlt hk hcst htk
      generalize 4 * k = K at *
      obtain ⟨m, hm⟩ : ∃ m, m = ps.length := ⟨_, rfl⟩
      go_loopw [6, 12] (fun ok i wr => ok = .bool true ∧ ∃ k : Nat, k ≤ m ∧ i = .int .i64 k ∧ ∃ ps, WRep w.heap.size wr w.heap.size ps K ∧ Below w.heap.size w wr ∧ ps.length = m ∧ ∀ q ∈ ps, q.nl ≤ 99999000) (fun _ i _ => m - (intOf i).toNat)
      case atStart => exact ⟨rfl, 0, Nat.zero_le _, rfl, ps, hw, hB, hm.symm, hpN⟩
      case round =>
        have hmm : m ≤ 87382 := by omega
        clear hw hB hp0 hpN hm hpm
        obtain ⟨rfl, k2, hk2, rfl, qs, hw, hB, hl, hN⟩ := hrel
        obtain ⟨g7, d7, bk7, hT⟩ := hw.block
        rw [hl] at hT
        have cT := cell_T34 hT
        have hz := hB.size
        by_cases hlt2 : k2 < m
        · have hki2 : (k2 : Int) < (m : Int) := by omega
          have hst := step_other hw hz (by omega) (by omega) 99999000 hN (by omega) ⟨5, k2, 0, 0, 0, 0, 0, 0, 0, .slice none 0 0⟩ (by constructor <;> (unfold i64ok; simp only; omega)) (by show (5 : Int) ≤ 6; decide) rfl
          have HS := hideIt hst
          clear hst hT
          go_wp2_with fail
          refine HS.out.mono ?_
          clear HS cT hw hN
          rintro e w7 ⟨rfl, qs7, hw7, hb7, hl7, hn7⟩
          have hB7 := hB.trans hb7
          have hn7' : ∀ q ∈ qs7, q.nl ≤ 99999000 := fun q hq => by have := hn7 q hq; rw [show adds (5 : Int) = 0 by decide] at this; omega
          clear hB hb7 hn7
          obtain ⟨wo, hwo⟩ : ∃ wo : World, wo = wr := ⟨_, rfl⟩
          clear hwo
          go_wp2_with fail
          go_loopw [6, 13] (fun ok i wr => ok = .bool true ∧ ∃ k : Nat, k ≤ 8 ∧ i = .int .i64 k ∧ ∃ ps, WRep w.heap.size wr w.heap.size ps K ∧ Below w.heap.size w wr ∧ ps.length = m ∧ ∀ q ∈ ps, q.nl ≤ 99999000) (fun _ i _ => 8 - (intOf i).toNat)
          case atStart => exact ⟨rfl, 0, by omega, rfl, qs7, hw7, hB7, by omega, hn7'⟩
          case round =>
            clear hw7 hB7 hn7' hl7
            obtain ⟨rfl, j, hj, rfl, rs, hw, hB, hl', hN⟩ := hrel
            have hz' := hB.size
            by_cases hj8 : j < 8
            · have hst := step_other hw hz' (by omega) (by omega) 99999000 hN (by omega) ⟨4, k2, j, 0, 0, 0, 0, 0, 0, .slice none 0 0⟩ (by constructor <;> (unfold i64ok; simp only; omega)) (by show (4 : Int) ≤ 6; decide) rfl
              have HS := hideIt hst
              clear hst
              go_wp2_with fail
              refine HS.out.mono ?_
              clear HS hw hN
              rintro e w8 ⟨rfl, qs8, hw8, hb8, hl8, hn8⟩
              have hB8 := hB.trans hb8
              have hn8' : ∀ q ∈ qs8, q.nl ≤ 99999000 := fun q hq => by have := hn8 q hq; rw [show adds (4 : Int) = 0 by decide] at this; omega
              clear hB hb8 hn8
              go_wp2_with fail
              go_roundw
              case rel => exact ⟨rfl, j + 1, by omega, by go_num, qs8, hw8, hB8, by omega, hn8'⟩
              case measure => simp [intOf]; omega
            · go_wp2_with fail
              go_roundw
              case rel => exact ⟨rfl, k2 + 1, by omega, by go_num, rs, hw, hB, hl', hN⟩
              case measure => simp [intOf]; omega
        · go_wp2_with fail
          have HK := hideIt (lawKept hw h4k)
          refine HK.out.mono ?_
          rintro e w6 ⟨rfl, hm6⟩
          have HB6 := hideIt (hB.trans (hm6.below_of hz (by simp)))
          clear hT cT hw hN HK hm6 hB
          go_wp2
          go_ret
          exact ⟨rfl, HB6.out⟩

end Go.Proofs.YthimaoipogocfaaGreat
