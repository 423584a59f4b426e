import Derived.Test.YthimaoipogocfaaGreatGPlays
import Derived.Test.YthimaoipogocfaaGreatRows
import Derived.ProofKit
import Derived.OpenShut
import Derived.ShutString
import Derived.ChangeOld
import Derived.JoinedCond
import Derived.Deep.Slices
namespace Go.Proofs.YthimaoipogocfaaGreat.readk
open Go.ChangeShapes Go.WideShapes Go.ChangeAt Go.RowKit

theorem own : ownKnob Tryz.prog.godebug = none := by kernel_rfl
theorem laidOut : laidOutB Tryz.prog = true := by kernel_rfl
theorem cells40 : Tryz.prog.cellsOf 71 = 10 := by kernel_rfl
theorem cells37 : Tryz.prog.cellsOf 36 = 4 := by kernel_rfl
theorem cells38 : Tryz.prog.cellsOf 56 = 1 := by kernel_rfl
theorem cells3 : Tryz.prog.cellsOf 3 = 1 := by kernel_rfl

/-! ### what the bound gives -/
theorem one_le {H : Type} (d : DataW H) : 1 ≤ Rows.uptoBulk d := by
  cases d with
  | lit l => cases l <;> simp [Rows.uptoBulk]
  | nil => simp [Rows.uptoBulk]
  | ptr d => simp [Rows.uptoBulk]
  | slice elems spare => simp [Rows.uptoBulk]
  | agg parts => simp [Rows.uptoBulk]
  | iface t d => simp [Rows.uptoBulk]
  | map entries => simp [Rows.uptoBulk]
  | held h => simp [Rows.uptoBulk]

theorem len_le {H : Type} (m : Nat) (D : Nat → DataW H) (h : ∀ i, i < m → 12 ≤ Rows.uptoBulk (D i)) : 12 * m ≤ Rows.uptoBulkAll ((List.range m).map D) := by
  have key : ∀ l : List (DataW H), (∀ d ∈ l, 12 ≤ Rows.uptoBulk d) → 12 * l.length ≤ Rows.uptoBulkAll l := by
    intro l
    induction l with
    | nil => intro _; simp [Rows.uptoBulkAll]
    | cons d l ih =>
      intro hl
      have h1 := hl d (by simp)
      have h2 := ih (fun x hx => hl x (by simp [hx]))
      simp only [Rows.uptoBulkAll, List.length_cons]
      omega
  have := key ((List.range m).map D) (fun d hd => by
    obtain ⟨i, hi, rfl⟩ := List.mem_map.1 hd
    exact h i (List.mem_range.1 hi))
  simpa using this

/-! ### a step, read -/
theorem ten (l : List Value) (h : l.length = 10) : ∃ a b c d e f g i j k, l = [a, b, c, d, e, f, g, i, j, k] := by
  match l, h with
  | [a, b, c, d, e, f, g, i, j, k], _ => exact ⟨a, b, c, d, e, f, g, i, j, k, rfl⟩

theorem seven {A : Type} (l : List A) (h : l.length = 7) : ∃ a b c d e f g, l = [a, b, c, d, e, f, g] := by
  match l, h with
  | [a, b, c, d, e, f, g], _ => exact ⟨a, b, c, d, e, f, g, rfl⟩

theorem four {A : Type} (l : List A) (h : l.length = 4) : ∃ a b c d, l = [a, b, c, d] := by
  match l, h with
  | [a, b, c, d], _ => exact ⟨a, b, c, d, rfl⟩

theorem wf_ok {n : Int} (h : (Lit.int .i64 n).wf = true) : i64ok n := by
  simpa [Lit.wf, IntKind.min, IntKind.max, IntKind.signed, IntKind.bits, i64ok] using h

section
variable {H : Type} {enc : TypeId × Value → H} {w : World} {base : Nat} {spare : Nat → Bool} {held : Bool}

theorem int_cell {n : Nat} {v : Value} {y : DataW H × List MemPlace} (h : DataW.trod enc Tryz.prog w base spare held n 3 [v] = some y) : ∃ a, v = .int .i64 a ∧ i64ok a := by
  obtain ⟨a, ha, _, hw⟩ := DataW.trod_int Tryz.underlying3 h
  simp at ha
  exact ⟨a, ha, wf_ok hw⟩

theorem rect_cells {n : Nat} {v0 v1 v2 v3 : Value} {y : DataW H × List MemPlace} (h : DataW.trod enc Tryz.prog w base spare held n 36 [v0, v1, v2, v3] = some y) :
    ∃ a b c d, v0 = .int .i64 a ∧ v1 = .int .i64 b ∧ v2 = .int .i64 c ∧ v3 = .int .i64 d ∧ i64ok a ∧ i64ok b ∧ i64ok c ∧ i64ok d ∧ 5 ≤ Rows.uptoBulk y.1 := by
  obtain ⟨xs, m, _, rfl, hl, hlen, hf⟩ := DataW.trod_struct Tryz.underlying36 h
  obtain ⟨y0, y1, y2, y3, rfl⟩ := four xs (by simpa using hlen)
  have f0 := hf 0 _ rfl
  have f1 := hf 1 _ rfl
  have f2 := hf 2 _ rfl
  have f3 := hf 3 _ rfl
  simp [cells3] at f0 f1 f2 f3
  obtain ⟨a, ha, oa⟩ := int_cell f0
  obtain ⟨b, hb, ob⟩ := int_cell f1
  obtain ⟨c, hc, oc⟩ := int_cell f2
  obtain ⟨d, hd, od⟩ := int_cell f3
  refine ⟨a, b, c, d, ha, hb, hc, hd, oa, ob, oc, od, ?_⟩
  have := one_le y0.1
  have := one_le y1.1
  have := one_le y2.1
  have := one_le y3.1
  simp [Rows.uptoBulk, Rows.uptoBulkAll]
  omega

theorem step_cells {n : Nat} {cs : List Value} {y : DataW H × List MemPlace} (h : DataW.trod enc Tryz.prog w base spare held n 71 cs = some y) :
    ∃ s : Stp, s.ok ∧ cs = [.int .i64 s.k, .int .i64 s.e, .int .i64 s.a, .int .i64 s.b, .int .i64 s.c, .int .i64 s.x0, .int .i64 s.y0, .int .i64 s.x1, .int .i64 s.y1, s.j] ∧ 12 ≤ Rows.uptoBulk y.1 := by
  obtain ⟨xs, m, _, rfl, hl, hlen, hf⟩ := DataW.trod_struct Tryz.underlying71 h
  rw [cells40] at hl
  obtain ⟨v0, v1, v2, v3, v4, v5, v6, v7, v8, v9, rfl⟩ := ten cs hl
  obtain ⟨y0, y1, y2, y3, y4, y5, y6, rfl⟩ := seven xs (by simpa using hlen)
  have f0 := hf 0 _ rfl
  have f1 := hf 1 _ rfl
  have f2 := hf 2 _ rfl
  have f3 := hf 3 _ rfl
  have f4 := hf 4 _ rfl
  have f5 := hf 5 _ rfl
  simp [cells3] at f0 f1 f2 f3 f4
  simp [cells37] at f5
  obtain ⟨k, hk, ok⟩ := int_cell f0
  obtain ⟨e, he, oe⟩ := int_cell f1
  obtain ⟨a, ha, oa⟩ := int_cell f2
  obtain ⟨b, hb, ob⟩ := int_cell f3
  obtain ⟨c, hc, oc⟩ := int_cell f4
  obtain ⟨x0, x1, x2, x3, e0, e1, e2, e3, o0, o1, o2, o3, h5⟩ := rect_cells f5
  subst hk he ha hb hc e0 e1 e2 e3
  refine ⟨⟨k, e, a, b, c, x0, x1, x2, x3, v9⟩, ⟨oe, oa, ob, oc, o0, o1, o2, o3⟩, rfl, ?_⟩
  have := one_le y0.1
  have := one_le y1.1
  have := one_le y2.1
  have := one_le y3.1
  have := one_le y4.1
  have := one_le y6.1
  simp [Rows.uptoBulk, Rows.uptoBulkAll]
  omega
end

theorem spot_none {w : World} {b o : Nat} {sp : Option _} {v : Value} (h : w.cell? ⟨b, o, sp⟩ = some v) : sp = none := by
  have := World.cell?_spot h
  exact this

theorem walk {H : Type} {enc : TypeId × Value → H} {W : World} {a0 : Option Addr} {len cap : Nat} {d0 : DataW H} {p0 : List MemPlace} (h : DataW.Trod enc Tryz.prog W 0 (fun _ => true) true 22 (.slice a0 len cap) d0 p0) (hk : Rows.uptoBulk d0 ≤ 1048576) :
    len ≤ 87381 ∧ ∀ i, i < len → ∃ b off, a0 = some ⟨b, off, none⟩ ∧ ∃ s : Stp, s.ok ∧ StpAt W b (off + i * 10) s := by
  obtain ⟨fuel, hf⟩ := h
  rcases Deep.open_slice Tryz.underlying22 hf with ⟨hcs, _⟩ | ⟨a, l, c, m, n, D, Pl, hcs, _, hl, _, hm, hx, hel⟩
  · simp [Value.cells] at hcs
    obtain ⟨rfl, rfl, rfl⟩ := hcs
    exact ⟨by omega, fun i hi => by omega⟩
  · simp [Value.cells] at hcs
    obtain ⟨rfl, rfl, rfl⟩ := hcs
    simp at hm
    subst hm
    have hall : ∀ i, i < len → ∃ s : Stp, s.ok ∧ W.cells? 0 (a.add (i * 10)) 10 = some [.int .i64 s.k, .int .i64 s.e, .int .i64 s.a, .int .i64 s.b, .int .i64 s.c, .int .i64 s.x0, .int .i64 s.y0, .int .i64 s.x1, .int .i64 s.y1, s.j] ∧ 12 ≤ Rows.uptoBulk (D i) := fun i hi => by
      obtain ⟨cs, h1, h2⟩ := hel i (by omega)
      rw [cells40] at h1
      obtain ⟨s, hs, rfl, hb⟩ := step_cells h2
      exact ⟨s, hs, h1, hb⟩
    have hlen : len ≤ 87381 := by
      have hd : d0 = .slice ((List.range len).map D) ((List.range (m - len)).map fun j => D (len + j)) := (Prod.mk.inj hx).1
      rw [hd] at hk
      have := len_le len D (fun i hi => (hall i hi).choose_spec.2.2)
      simp only [Rows.uptoBulk] at hk
      omega
    refine ⟨hlen, fun i hi => ?_⟩
    obtain ⟨b, off, sp⟩ := a
    have hsp : sp = none := by
      obtain ⟨s, _, hc, _⟩ := hall 0 (by omega)
      have := (World.cells?_some hc).2.2 0 (by omega)
      simp [Addr.add] at this
      exact spot_none this
    subst hsp
    refine ⟨b, off, rfl, ?_⟩
    obtain ⟨s, hs, hc, _⟩ := hall i hi
    have hcc := (World.cells?_some hc).2.2
    have hadd : ∀ j, ((⟨b, off, none⟩ : Addr).add (i * 10)).add j = ⟨b, off + i * 10 + j, none⟩ := fun j => by
      rw [Deep.add_add]
      unfold Addr.add
      split <;> simp_all <;> omega
    have hcell : ∀ j, j < 10 → W.cell? ⟨b, off + i * 10 + j, none⟩ = [Value.int .i64 s.k, .int .i64 s.e, .int .i64 s.a, .int .i64 s.b, .int .i64 s.c, .int .i64 s.x0, .int .i64 s.y0, .int .i64 s.x1, .int .i64 s.y1, s.j][j]? := fun j hj => by
      rw [← hcc j hj, hadd j]
    exact ⟨s, hs, ⟨hcell 0 (by omega), hcell 1 (by omega), hcell 2 (by omega), hcell 3 (by omega), hcell 4 (by omega), hcell 5 (by omega), hcell 6 (by omega), hcell 7 (by omega), hcell 8 (by omega), hcell 9 (by omega)⟩⟩

theorem tot_zero (n : Nat) : tot (fun _ => 0) n = 0 := by
  induction n with
  | zero => rfl
  | succ n ih => show tot (fun _ => 0) n + 0 = 0; omega

end Go.Proofs.YthimaoipogocfaaGreat.readk
