import Derived.Test.YthimaoipogocfaaRows
import Derived.Test.YthimaoipogocfaaKShallow
import Derived.ProofKit
import Derived.OpenShut
import Derived.ChangeOld
import Derived.JoinedOf
import Derived.Deep.Slices
namespace Go.Proofs.Ythimaoipogocfaa.shallow
open Go.ChangeShapes Go.WideShapes Go.ChangeAt Go.RowKit

theorem own : ownKnob Try.prog.godebug = none := by kernel_rfl
theorem laidOut : laidOutB Try.prog = true := by kernel_rfl
theorem cellsT : Try.prog.cellsOf 36 = 5 := by kernel_rfl
theorem cellsI : Try.prog.cellsOf 3 = 1 := by kernel_rfl

theorem five {A : Type} (l : List A) (h : l.length = 5) : ∃ a b c d e, l = [a, b, c, d, e] := by
  match l, h with
  | [a, b, c, d, e], _ => exact ⟨a, b, c, d, e, rfl⟩

theorem wf_ok {n : Int} (h : (Lit.int .i64 n).wf = true) : i64ok n := by
  simpa [Lit.wf, IntKind.min, IntKind.max, IntKind.signed, IntKind.bits, i64ok] using h

section
variable {H : Type} {enc : TypeId × Value → H} {w : World} {base : Nat} {spare : Nat → Bool} {held : Bool}

theorem int_cell {n : Nat} {v : Value} {y : DataW H × List MemPlace} (h : DataW.trod enc Try.prog w base spare held n 3 [v] = some y) : ∃ a, v = .int .i64 a ∧ i64ok a := by
  obtain ⟨a, ha, _, hw⟩ := DataW.trod_int Try.underlying3 h
  simp at ha
  exact ⟨a, ha, wf_ok hw⟩

theorem thing_cells {n : Nat} {cs : List Value} {y : DataW H × List MemPlace} (h : DataW.trod enc Try.prog w base spare held n 36 cs = some y) :
    ∃ t : Kt, t.ok ∧ cs = [.int .i64 t.i, .int .i64 t.x, .int .i64 t.y, .int .i64 t.w, .int .i64 t.h] := by
  obtain ⟨xs, m, _, rfl, hl, hlen, hf⟩ := DataW.trod_struct Try.underlying36 h
  rw [cellsT] at hl
  obtain ⟨v0, v1, v2, v3, v4, rfl⟩ := five cs hl
  obtain ⟨y0, y1, y2, y3, y4, rfl⟩ := five xs (by simpa using hlen)
  have f0 := hf 0 _ rfl
  have f1 := hf 1 _ rfl
  have f2 := hf 2 _ rfl
  have f3 := hf 3 _ rfl
  have f4 := hf 4 _ rfl
  simp [cellsI] at f0 f1 f2 f3 f4
  obtain ⟨a, ha, oa⟩ := int_cell f0
  obtain ⟨b, hb, ob⟩ := int_cell f1
  obtain ⟨c, hc, oc⟩ := int_cell f2
  obtain ⟨d, hd, od⟩ := int_cell f3
  obtain ⟨e, he, oe⟩ := int_cell f4
  subst ha hb hc hd he
  exact ⟨⟨a, b, c, d, e⟩, ⟨oa, ob, oc, od, oe⟩, rfl⟩
end

theorem spot_none {w : World} {b o : Nat} {sp : Option _} {v : Value} (h : w.cell? ⟨b, o, sp⟩ = some v) : sp = none := by
  have := World.cell?_spot h
  exact this

/-- a list of what is there for each place -/
theorem listOf {A : Type} (n : Nat) (P : Nat → A → Prop) (h : ∀ i, i < n → ∃ a, P i a) : ∃ l : List A, l.length = n ∧ ∀ i a, l[i]? = some a → P i a := by
  induction n with
  | zero => exact ⟨[], rfl, fun i a h => by simp at h⟩
  | succ n ih =>
    obtain ⟨l, hl, hp⟩ := ih (fun i hi => h i (by omega))
    obtain ⟨a, ha⟩ := h n (by omega)
    refine ⟨l ++ [a], by simp [hl], fun i b hb => ?_⟩
    by_cases hi : i < l.length
    · rw [List.getElem?_append_left hi] at hb
      exact hp i b hb
    · rw [List.getElem?_append_right (by omega)] at hb
      by_cases h0 : i = l.length
      · subst h0
        simp at hb
        subst hb
        rw [hl]
        exact ha
      · rw [List.getElem?_eq_none (by simp; omega)] at hb
        cases hb

theorem things_of {H : Type} {enc : TypeId × Value → H} {W : World} {a0 : Option Addr} {len cap : Nat} {d0 : DataW H} {p0 : List MemPlace} (h : DataW.Trod enc Try.prog W 0 (fun _ => true) true 22 (.slice a0 len cap) d0 p0) :
    ∃ ks : List Kt, ks.length = len ∧ KsAt W a0 ks := by
  obtain ⟨fuel, hf⟩ := h
  rcases Deep.open_slice Try.underlying22 hf with ⟨hcs, _⟩ | ⟨a, l, c, m, n, D, Pl, hcs, _, hl, _, hm, hx, hel⟩
  · simp [Value.cells] at hcs
    obtain ⟨rfl, rfl, rfl⟩ := hcs
    exact ⟨[], rfl, fun j t h => by simp at h⟩
  · simp [Value.cells] at hcs
    obtain ⟨rfl, rfl, rfl⟩ := hcs
    simp at hm
    subst hm
    refine listOf len (fun j t => t.ok ∧ ∃ b off, some a = some ⟨b, off, none⟩ ∧ KtAt W b (off + j * 5) t) (fun i hi => ?_)
    obtain ⟨cs, h1, h2⟩ := hel i (by omega)
    rw [cellsT] at h1
    obtain ⟨t, ht, rfl⟩ := thing_cells h2
    obtain ⟨b, off, sp⟩ := a
    have hcc := (World.cells?_some h1).2.2
    have hsp : sp = none := by
      obtain ⟨z, hz⟩ : ∃ z, z = 0 := ⟨_, rfl⟩
      obtain ⟨cs, g1, g2⟩ := hel z (by omega)
      rw [cellsT] at g1
      subst hz
      obtain ⟨t, ht, rfl⟩ := thing_cells g2
      have := (World.cells?_some g1).2.2 0 (by omega)
      simp [Addr.add] at this
      exact spot_none this
    subst hsp
    have hadd : ∀ j, ((⟨b, off, none⟩ : Addr).add (i * 5)).add j = ⟨b, off + i * 5 + j, none⟩ := fun j => by
      rw [Deep.add_add]
      unfold Addr.add
      split <;> simp_all <;> omega
    have hcell : ∀ j, j < 5 → W.cell? ⟨b, off + i * 5 + j, none⟩ = [Value.int .i64 t.i, .int .i64 t.x, .int .i64 t.y, .int .i64 t.w, .int .i64 t.h][j]? := fun j hj => by
      rw [← hcc j hj, hadd j]
    exact ⟨t, ht, b, off, rfl, ⟨hcell 0 (by omega), hcell 1 (by omega), hcell 2 (by omega), hcell 3 (by omega), hcell 4 (by omega)⟩⟩

theorem ints_of {H : Type} {enc : TypeId × Value → H} {W : World} {a0 : Option Addr} {len cap : Nat} {d0 : DataW H} {p0 : List MemPlace} (h : DataW.Trod enc Try.prog W 0 (fun _ => true) true 23 (.slice a0 len cap) d0 p0) :
    ∃ ds : List Int, ds.length = len ∧ NsAt W a0 ds := by
  obtain ⟨fuel, hf⟩ := h
  rcases Deep.open_slice Try.underlying23 hf with ⟨hcs, _⟩ | ⟨a, l, c, m, n, D, Pl, hcs, _, hl, _, hm, hx, hel⟩
  · simp [Value.cells] at hcs
    obtain ⟨rfl, rfl, rfl⟩ := hcs
    exact ⟨[], rfl, fun j t h => by simp at h⟩
  · simp [Value.cells] at hcs
    obtain ⟨rfl, rfl, rfl⟩ := hcs
    simp at hm
    subst hm
    refine listOf len (fun j d => i64ok d ∧ ∃ b off, some a = some ⟨b, off, none⟩ ∧ W.cell? ⟨b, off + j, none⟩ = some (.int .i64 d)) (fun i hi => ?_)
    obtain ⟨cs, h1, h2⟩ := hel i (by omega)
    rw [cellsI] at h1
    obtain ⟨hl1, _, hcc⟩ := World.cells?_some h1
    obtain ⟨v, rfl⟩ : ∃ v, cs = [v] := by
      match cs, hl1 with
      | [v], _ => exact ⟨v, rfl⟩
    obtain ⟨d, rfl, hd⟩ := int_cell h2
    obtain ⟨b, off, sp⟩ := a
    have h0 := hcc 0 (by omega)
    have hsp : sp = none := by
      obtain ⟨z, hz⟩ : ∃ z, z = 0 := ⟨_, rfl⟩
      obtain ⟨cs, g1, g2⟩ := hel z (by omega)
      rw [cellsI] at g1
      subst hz
      obtain ⟨hl1, _, hcc⟩ := World.cells?_some g1
      obtain ⟨v, rfl⟩ : ∃ v, cs = [v] := by
        match cs, hl1 with
        | [v], _ => exact ⟨v, rfl⟩
      have := hcc 0 (by omega)
      simp [Addr.add] at this
      exact spot_none this
    subst hsp
    have hadd : ((⟨b, off, none⟩ : Addr).add (i * 1)).add 0 = ⟨b, off + i, none⟩ := by
      rw [Deep.add_add]
      unfold Addr.add
      split <;> simp_all <;> omega
    rw [hadd] at h0
    exact ⟨d, hd, b, off, rfl, h0⟩

set_option maxRecDepth 100000 in
theorem contract (H : Type) (enc : TypeId × Value → H) (W : World) (base : Nat) (args : Array Value) (ds gs : List (DataW H)) (before : List MemPlace)
    (hval : ∀ (j : Nat) t v, Try.f3.params[j]? = some t → args[j]? = some v → Value.okWide Try.prog W .any base t v)
    (hW : DataW.Whole enc Try.prog Try.f3.params.toList Rows.shallowSpec.vars false W args.toList ds gs before) :
    Calls Try.prog 3 args W fun e W' => ∃ v, e = .returned v ∧ Rows.shallowSpec.post enc Try.prog Try.f3 false true false false W args v W' := by
  have hW' := hW
  obtain ⟨p, q, hA0, hV, rfl, hfz, hnd⟩ := hW
  have hA : DataW.TrodAll enc Try.prog W 0 (fun _ => true) true Try.f3.params.toList args.toList ds p := hA0
  rw [Try.params3] at hA hval
  obtain ⟨v0, vs0, d0, ds0, p0, q0, hargs, rfl, rfl, h0, r0⟩ := trodAll_cons hA
  obtain ⟨v1, vs1, d1, ds1, p1, q1, rfl, rfl, rfl, h1, r1⟩ := trodAll_cons r0
  obtain ⟨v2, vs2, d2, ds2, p2, q2, rfl, rfl, rfl, h2, r2⟩ := trodAll_cons r1
  obtain ⟨rfl, rfl, rfl⟩ := trodAll_nil r2
  obtain rfl : args = #[v0, v1, v2] := by cases args; simp_all
  obtain ⟨rfl, rfl⟩ := trodVars_none hV
  obtain ⟨n0, rfl⟩ := okWide_int Try.underlying3 (hval 0 3 v0 rfl rfl)
  have hn0 : i64ok n0 := by
    obtain ⟨m, hm⟩ := h0
    obtain ⟨a, ha, _, hw⟩ := DataW.trod_int Try.underlying3 hm
    simp [Value.cells] at ha
    subst ha
    exact wf_ok hw
  obtain ⟨a1, len1, cap1, rfl⟩ := okWide_slice Try.underlying22 (hval 1 22 v1 rfl rfl)
  obtain ⟨a2, len2, cap2, rfl⟩ := okWide_slice Try.underlying23 (hval 2 23 v2 rfl rfl)
  have k0 := h0
  have k1 := h1
  have k2 := h2
  have lt0 : ∀ x ∈ p0, x.block < W.heap.size := by obtain ⟨m, hm⟩ := k0; exact DataW.trod_lt m _ _ _ hm
  have lt1 : ∀ x ∈ p1, x.block < W.heap.size := by obtain ⟨m, hm⟩ := k1; exact DataW.trod_lt m _ _ _ hm
  have lt2 : ∀ x ∈ p2, x.block < W.heap.size := by obtain ⟨m, hm⟩ := k2; exact DataW.trod_lt m _ _ _ hm
  obtain ⟨ks, rfl, hK⟩ := things_of h1
  obtain ⟨ds', rfl, hD⟩ := ints_of h2
  clear hA0
  refine (shallow_any hn0 hK hD).mono fun e W' ⟨he, hm⟩ => ?_
  have bel := hm.below
  subst he
  exact ⟨_, rfl, _, _, _, [], _, [], hW', trodAll_mk1 (shut_bool Try.underlying4 _),
    (trodAll_cons_mk (Below.trod laidOut (by kernel_rfl) (of_decide_eq_true (by kernel_rfl)) k0 bel lt0)
      (trodAll_cons_mk (Below.trod laidOut (by kernel_rfl) (of_decide_eq_true (by kernel_rfl)) k1 bel lt1)
        (trodAll_cons_mk (Below.trod laidOut (by kernel_rfl) (of_decide_eq_true (by kernel_rfl)) k2 bel lt2) trodAll_mk0))), rfl, bel.frame _, fun h => by cases h⟩

set_option maxRecDepth 100000 in
theorem lifted (os : Os) (started : os.Started) (H : Type) (enc : TypeId × Value → H) :
    ReturnsInHanded {} Try.checked os 3 .any (Rows.shallowSpec.pre6 enc Try.prog Try.f3 Rows.shallowRow.domain false) (Rows.shallowSpec.post enc Try.prog Try.f3 false true false false) := by
  refine returnsInHanded_of_change (C := Try.checked) own started (by kernel_rfl) Try.func3
    (ChangeSpec.witness6 (enc := enc) (C := Try.checked) false ⟨#[], #[.int .i64 0, .slice none 0 0, .slice none 0 0], []⟩ 8 (by kernel_rfl) (by kernel_rfl) (by kernel_rfl) (by kernel_rfl)) ?_
  intro W base args ds gs before hval hW _ _
  exact contract H enc W base args ds gs before hval hW

end Go.Proofs.Ythimaoipogocfaa.shallow
namespace Go.Proofs.Ythimaoipogocfaa

theorem shallow_holds : Rows.ShallowSaid :=
  OpenClaim.holds_of_wide 3 Try.f3 rfl rfl rfl rfl rfl rfl rfl ⟨rfl, rfl, rfl, rfl, rfl⟩ rfl rfl rfl rfl rfl (by kernel_rfl) Try.func3 (by kernel_rfl)
    (of_decide_eq_true (by kernel_rfl)) (by unfold Func.isWrapper; first | (rw [if_pos (by decide +kernel)]; kernel_rfl) | (rw [if_neg (by decide +kernel)]; exact ⟨rfl, rfl⟩))
    (fun os started H enc _ => shallow.lifted os started H enc)

#print axioms shallow_holds
end Go.Proofs.Ythimaoipogocfaa
