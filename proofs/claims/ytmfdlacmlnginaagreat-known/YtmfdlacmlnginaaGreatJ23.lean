import Derived.Test.YtmfdlacmlnginaaGreatRows
import Derived.Test.YtmfdlacmlnginaaGreatJ22
import Derived.ProofKit
import Derived.OpenShut
import Derived.ChangeOld
import Derived.JoinedOf
import Derived.Deep.Slices
namespace Go.Proofs.YtmfdlacmlnginaaGreat.rowk
open Go.ChangeShapes Go.WideShapes Go.ChangeAt Go.RowKit

theorem own : ownKnob Tryz.prog.godebug = none := by kernel_rfl
theorem laidOut : laidOutB Tryz.prog = true := by kernel_rfl
theorem cellsT : Tryz.prog.cellsOf 29 = 5 := by kernel_rfl
theorem cellsI : Tryz.prog.cellsOf 3 = 1 := by kernel_rfl

theorem five {A : Type} (l : List A) (h : l.length = 5) : ∃ a b c d e, l = [a, b, c, d, e] := by
  match l, h with
  | [a, b, c, d, e], _ => exact ⟨a, b, c, d, e, rfl⟩

theorem wf_ok {n : Int} (h : (Lit.int .i64 n).wf = true) : i64ok n := by
  simpa [Lit.wf, IntKind.min, IntKind.max, IntKind.signed, IntKind.bits, i64ok] using h

section
variable {H : Type} {enc : TypeId × Value → H} {w : World} {base : Nat} {spare : Nat → Bool} {held : Bool}

theorem int_cell {n : Nat} {v : Value} {y : DataW H × List MemPlace} (h : DataW.trod enc Tryz.prog w base spare held n 3 [v] = some y) : ∃ a, v = .int .i64 a ∧ i64ok a := by
  obtain ⟨a, ha, _, hw⟩ := DataW.trod_int Tryz.underlying3 h
  simp at ha
  exact ⟨a, ha, wf_ok hw⟩

theorem thing_cells {n : Nat} {cs : List Value} {y : DataW H × List MemPlace} (h : DataW.trod enc Tryz.prog w base spare held n 29 cs = some y) :
    ∃ t : Kt, t.ok ∧ cs = [.int .i64 t.i, .int .i64 t.x, .int .i64 t.y, .int .i64 t.w, .int .i64 t.h] := by
  obtain ⟨xs, m, _, rfl, hl, hlen, hf⟩ := DataW.trod_struct Tryz.underlying29 h
  rw [cellsT] at hl
  obtain ⟨v0, v1, v2, v3, v4, rfl⟩ := five cs hl
  obtain ⟨y0, y1, y2, y3, y4, rfl⟩ := five xs (by simpa using hlen)
  have f0 := hf 0 _ rfl
  have f1 := hf 1 _ rfl
  have f2 := hf 2 _ rfl
  have f3 := hf 3 _ rfl
  have f4 := hf 4 _ rfl
  simp [cellsI] at f0 f1 f2 f3 f4
  obtain ⟨a, ha, oa⟩ := int_cell f0
  obtain ⟨b, hb, ob⟩ := int_cell f1
  obtain ⟨c, hc, oc⟩ := int_cell f2
  obtain ⟨d, hd, od⟩ := int_cell f3
  obtain ⟨e, he, oe⟩ := int_cell f4
  subst ha hb hc hd he
  exact ⟨⟨a, b, c, d, e⟩, ⟨oa, ob, oc, od, oe⟩, rfl⟩
end

theorem spot_none {w : World} {b o : Nat} {sp : Option _} {v : Value} (h : w.cell? ⟨b, o, sp⟩ = some v) : sp = none := by
  have := World.cell?_spot h
  exact this

/-- a list of what is there for each place -/
theorem listOf {A : Type} (n : Nat) (P : Nat → A → Prop) (h : ∀ i, i < n → ∃ a, P i a) : ∃ l : List A, l.length = n ∧ ∀ i a, l[i]? = some a → P i a := by
  induction n with
  | zero => exact ⟨[], rfl, fun i a h => by simp at h⟩
  | succ n ih =>
    obtain ⟨l, hl, hp⟩ := ih (fun i hi => h i (by omega))
    obtain ⟨a, ha⟩ := h n (by omega)
    refine ⟨l ++ [a], by simp [hl], fun i b hb => ?_⟩
    by_cases hi : i < l.length
    · rw [List.getElem?_append_left hi] at hb
      exact hp i b hb
    · rw [List.getElem?_append_right (by omega)] at hb
      by_cases h0 : i = l.length
      · subst h0
        simp at hb
        subst hb
        rw [hl]
        exact ha
      · rw [List.getElem?_eq_none (by simp; omega)] at hb
        cases hb

theorem things_of {H : Type} {enc : TypeId × Value → H} {W : World} {a0 : Option Addr} {len cap : Nat} {d0 : DataW H} {p0 : List MemPlace} (h : DataW.Trod enc Tryz.prog W 0 (fun _ => true) true 25 (.slice a0 len cap) d0 p0) :
    ∃ ks : List Kt, ks.length = len ∧ KsAt W a0 ks := by
  obtain ⟨fuel, hf⟩ := h
  rcases Deep.open_slice Tryz.underlying25 hf with ⟨hcs, _⟩ | ⟨a, l, c, m, n, D, Pl, hcs, _, hl, _, hm, hx, hel⟩
  · simp [Value.cells] at hcs
    obtain ⟨rfl, rfl, rfl⟩ := hcs
    exact ⟨[], rfl, fun j t h => by simp at h⟩
  · simp [Value.cells] at hcs
    obtain ⟨rfl, rfl, rfl⟩ := hcs
    simp at hm
    subst hm
    refine listOf len (fun j t => t.ok ∧ ∃ b off, some a = some ⟨b, off, none⟩ ∧ KtAt W b (off + j * 5) t) (fun i hi => ?_)
    obtain ⟨cs, h1, h2⟩ := hel i (by omega)
    rw [cellsT] at h1
    obtain ⟨t, ht, rfl⟩ := thing_cells h2
    obtain ⟨b, off, sp⟩ := a
    have hcc := (World.cells?_some h1).2.2
    have hsp : sp = none := by
      obtain ⟨z, hz⟩ : ∃ z, z = 0 := ⟨_, rfl⟩
      obtain ⟨cs, g1, g2⟩ := hel z (by omega)
      rw [cellsT] at g1
      subst hz
      obtain ⟨t, ht, rfl⟩ := thing_cells g2
      have := (World.cells?_some g1).2.2 0 (by omega)
      simp [Addr.add] at this
      exact spot_none this
    subst hsp
    have hadd : ∀ j, ((⟨b, off, none⟩ : Addr).add (i * 5)).add j = ⟨b, off + i * 5 + j, none⟩ := fun j => by
      rw [Deep.add_add]
      unfold Addr.add
      split <;> simp_all <;> omega
    have hcell : ∀ j, j < 5 → W.cell? ⟨b, off + i * 5 + j, none⟩ = [Value.int .i64 t.i, .int .i64 t.x, .int .i64 t.y, .int .i64 t.w, .int .i64 t.h][j]? := fun j hj => by
      rw [← hcc j hj, hadd j]
    exact ⟨t, ht, b, off, rfl, ⟨hcell 0 (by omega), hcell 1 (by omega), hcell 2 (by omega), hcell 3 (by omega), hcell 4 (by omega)⟩⟩

set_option maxRecDepth 100000 in
/-- a thing handed in by value -/
theorem thing_of {H : Type} {enc : TypeId × Value → H} {W : World} {base : Nat} {v : Value} {d0 : DataW H} {p0 : List MemPlace} (hok : Value.okWide Tryz.prog W .any base 29 v) (h : DataW.Trod enc Tryz.prog W 0 (fun _ => true) true 29 v d0 p0) : ∃ t : Kt, t.ok ∧ v = ktV t := by
  obtain ⟨cs, rfl, hl⟩ := okWide_struct Tryz.underlying29 hok
  obtain ⟨m, hm⟩ := h
  obtain ⟨t, ht, e⟩ := thing_cells hm
  refine ⟨t, ht, ?_⟩
  have e2 : cs.toList = [.int .i64 t.i, .int .i64 t.x, .int .i64 t.y, .int .i64 t.w, .int .i64 t.h] := e
  have e3 : cs = #[.int .i64 t.i, .int .i64 t.x, .int .i64 t.y, .int .i64 t.w, .int .i64 t.h] := by
    apply Array.toList_inj.1
    exact e2
  rw [e3]

set_option maxRecDepth 100000 in
theorem int_of {H : Type} {enc : TypeId × Value → H} {W : World} {base : Nat} {v : Value} {d0 : DataW H} {p0 : List MemPlace} (hok : Value.okWide Tryz.prog W .any base 3 v) (h : DataW.Trod enc Tryz.prog W 0 (fun _ => true) true 3 v d0 p0) : ∃ n, i64ok n ∧ v = .int .i64 n := by
  obtain ⟨n, rfl⟩ := okWide_int Tryz.underlying3 hok
  obtain ⟨m, hm⟩ := h
  obtain ⟨a, ha, _, hw⟩ := DataW.trod_int Tryz.underlying3 hm
  simp [Value.cells] at ha
  subst ha
  exact ⟨n, wf_ok hw, rfl⟩

end Go.Proofs.YtmfdlacmlnginaaGreat.rowk

