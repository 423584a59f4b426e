import Derived.Test.YthimaoipogocfaaGreatGPair
namespace Go.Proofs.YthimaoipogocfaaGreat
open Go.RowKit Go.Maps
attribute [local go_sem] run_store_f32 run_neg_inf

/-- a step of a script -/
structure Stp where
  k : Int
  e : Int
  a : Int
  b : Int
  c : Int
  x0 : Int
  y0 : Int
  x1 : Int
  y1 : Int
  j : Value

abbrev S10 (s : Stp) : Value := .agg #[.int .i64 s.k, .int .i64 s.e, .int .i64 s.a, .int .i64 s.b, .int .i64 s.c, .int .i64 s.x0, .int .i64 s.y0, .int .i64 s.x1, .int .i64 s.y1, s.j]
abbrev B40 (s : Stp) : Obj := .cells #[.int .i64 s.k, .int .i64 s.e, .int .i64 s.a, .int .i64 s.b, .int .i64 s.c, .int .i64 s.x0, .int .i64 s.y0, .int .i64 s.x1, .int .i64 s.y1, s.j] 71

theorem cell_B40 {w : World} {b : Nat} {s : Stp} (h : w.heap[b]? = some (B40 s)) (o : Nat) (v : Value) (hv : #[Value.int .i64 s.k, .int .i64 s.e, .int .i64 s.a, .int .i64 s.b, .int .i64 s.c, .int .i64 s.x0, .int .i64 s.y0, .int .i64 s.x1, .int .i64 s.y1, s.j][o]? = some v) : w.cell? ⟨b, o, none⟩ = some v := by
  rw [cell_of_block h]; exact hv

structure Stp.ok (s : Stp) : Prop where
  e : i64ok s.e
  a : i64ok s.a
  b : i64ok s.b
  c : i64ok s.c
  x0 : i64ok s.x0
  y0 : i64ok s.y0
  x1 : i64ok s.x1
  y1 : i64ok s.y1

def RowPost (p : PS) (ad : Nat) (w : World) (e : Ending) (w' : World) : Prop := e = .returned (.bool true) ∧ ∃ q, Next w p q w' ∧ q.nl ≤ p.nl + ad

set_option maxRecDepth 100000 in
set_option maxHeartbeats 1000000 in
theorem row_any {w : World} {p : PS} (h : PairRep w p) (hnl : p.nl ≤ 99999000) (s : Stp) (hs : s.ok) :
    Calls Tryz.prog 88 #[G2 p.px p.py, S10 s] w (RowPost p 897 w) := by
  have hm0 : Mod [] w ((w.alloc (B52 p.px p.py)).alloc (B40 s)) := (Mod.alloc _ _).trans (Mod.alloc _ _)
  have hb1 : ((w.alloc (B52 p.px p.py)).alloc (B40 s)).heap[w.heap.size]? = some (B52 p.px p.py) := by
    rw [Below.heap_alloc _ _ _ (by simp)]
    exact heap_alloc_new w _
  have hb2 : ((w.alloc (B52 p.px p.py)).alloc (B40 s)).heap[w.heap.size + 1]? = some (B40 s) := by
    have := heap_alloc_new (w.alloc (B52 p.px p.py)) (B40 s)
    simpa using this
  have hlt := h.lt
  have hN0 := Next.still h hm0
  have hst := hs.b
  have hsa := hs.a
  have hsc := hs.c
  unfold i64ok at hst hsa hsc
  go_enter Tryz.func88, Tryz.ntmps88
  go_wp2_with fail
  generalize hW0 : (w.alloc (B52 p.px p.py)).alloc (B40 s) = w0 at *
  refine (lpick_any s.b 40 _ hst.1 hst.2 (by decide) (by decide)).mono ?_
  rintro e w1 ⟨n, rfl, hn0, hn1, rfl⟩
  clear hW0
  have ca := cell_B40 hb2 2 _ rfl
  go_wp2_with fail
  refine (lpick_any s.a 4000 _ hsa.1 hsa.2 (by decide) (by decide)).mono ?_
  rintro e w2 ⟨f, rfl, hf0, hf1, rfl⟩
  clear ca hst hsa
  obtain ⟨m, rfl⟩ := Int.eq_ofNat_of_zero_le hn0
  go_wp2_with fail
  go_loopw [7] (fun i wr => ∃ k : Nat, k ≤ m ∧ i = .int .i64 k ∧ ∃ q, Next w2 p q wr ∧ q.nl ≤ p.nl + 23 * k) (fun i _ => m - (intOf i).toNat)
  case atStart => exact ⟨0, Nat.zero_le _, rfl, p, Next.refl hN0.rep, by omega⟩
  case round =>
    obtain ⟨k, hk, rfl, q, hN, hq⟩ := hrel
    by_cases hlt' : k < m
    · have hb1' := (hN.mod.block _ (lt_of_block hb1) (fun hx => by have := hlt _ hx; omega)).trans hb1
      have hb2' := (hN.mod.block _ (lt_of_block hb2) (fun hx => by have := hlt _ hx; omega)).trans hb2
      have cc := cell_B40 hb2' 4 _ rfl
      go_wp2_with fail
      refine (lpick_any s.c 1000 _ hsc.1 hsc.2 (by decide) (by decide)).mono ?_
      rintro e w3 ⟨d, rfl, hd0, hd1, rfl⟩
      obtain ⟨c0, c1⟩ := cell_B52 hb1'
      have hdk : 0 ≤ d * (k : Int) ∧ d * (k : Int) ≤ 1000 * 40 := ⟨Int.mul_nonneg hd0 (by omega), Int.mul_le_mul (by omega) (by omega) (by omega) (by omega)⟩
      obtain ⟨hdk0, hdk1⟩ := hdk
      rw [← hN.px] at c0
      rw [← hN.py] at c1
      go_wp2_with fail
      have hput := puts_any hN.rep (by omega) ⟨f + k, d * k, (k : Int) % 3, d * k + 5, (k : Int) % 3 + 2⟩
      refine hput.mono ?_
      clear hput cc c0 c1
      rintro e w4 ⟨rfl, q', hN', hq'⟩
      have hN2 := hN.trans hN'
      clear hN hN' hb1' hb2'
      go_wp2_with fail
      go_roundw
      case rel => exact ⟨k + 1, by omega, by go_num, q', hN2, by omega⟩
      case measure => simp [intOf]; omega
    · go_wp2
      go_ret
      exact ⟨rfl, q, hN0.trans hN, by omega⟩

end Go.Proofs.YthimaoipogocfaaGreat
