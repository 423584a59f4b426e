import Derived.Test.YthimaoipogocfaaGreatGStepL
import Derived.Test.YthimaoipogocfaaGreatM12
namespace Go.Proofs.YthimaoipogocfaaGreat.readk
open Go.ChangeShapes Go.WideShapes Go.ChangeAt Go.RowKit

theorem cells5 : Tryz.prog.cellsOf 5 = 1 := by kernel_rfl
theorem wf_byte {n : Int} (h : (Lit.int .u8 n).wf = true) : 0 ≤ n ∧ n < 256 := by
  have : 0 ≤ n ∧ n ≤ 255 := by simpa [Lit.wf, IntKind.min, IntKind.max, IntKind.signed, IntKind.bits] using h
  omega

/-! ### what the bound gives -/
theorem bulk_append {H : Type} (a b : List (DataW H)) : Rows.uptoBulkAll (a ++ b) = Rows.uptoBulkAll a + Rows.uptoBulkAll b := by
  induction a with
  | nil => simp [Rows.uptoBulkAll]
  | cons d a ih => simp only [List.cons_append, Rows.uptoBulkAll, ih]; omega
theorem bulk_tot {H : Type} (D : Nat → DataW H) (n : Nat) : Rows.uptoBulkAll ((List.range n).map D) = tot (fun i => Rows.uptoBulk (D i)) n := by
  induction n with
  | zero => simp [Rows.uptoBulkAll, tot]
  | succ n ih =>
    rw [List.range_succ, List.map_append, bulk_append, ih]
    show _ = tot (fun i => Rows.uptoBulk (D i)) n + Rows.uptoBulk (D n)
    simp [Rows.uptoBulkAll]
theorem tot_le {f g : Nat → Nat} : ∀ n, (∀ i, i < n → f i ≤ g i) → tot f n ≤ tot g n
  | 0, _ => Nat.le_refl _
  | n + 1, h => Nat.add_le_add (tot_le n (fun i hi => h i (by omega))) (h n (by omega))
theorem one_all {H : Type} (D : Nat → DataW H) (n : Nat) : n ≤ Rows.uptoBulkAll ((List.range n).map D) := by
  rw [bulk_tot]
  have h : ∀ n, tot (fun _ => 1) n = n := fun n => by
    induction n with
    | zero => rfl
    | succ n ih => show tot (fun _ => 1) n + 1 = n + 1; rw [ih]
  have := tot_le (f := fun _ => 1) (g := fun i => Rows.uptoBulk (D i)) n (fun i _ => one_le (D i))
  rw [h] at this
  exact this

theorem addr_add (b off j : Nat) : (⟨b, off, none⟩ : Addr).add j = ⟨b, off + j, none⟩ := by unfold Addr.add; split <;> simp_all
/-! ### bytes, read -/
def byteOf : Value → Int
  | .int _ b => b
  | _ => 0
section
variable {H : Type} {enc : TypeId × Value → H} {w : World} {base : Nat} {spare : Nat → Bool} {held : Bool}

theorem byte_cell {n : Nat} {v : Value} {y : DataW H × List MemPlace} (h : DataW.trod enc Tryz.prog w base spare held n 5 [v] = some y) : v = .int .u8 (byteOf v) ∧ 0 ≤ byteOf v ∧ byteOf v < 256 := by
  obtain ⟨a, ha, _, hw⟩ := DataW.trod_int Tryz.underlying5 h
  simp at ha
  subst ha
  exact ⟨rfl, wf_byte hw⟩

theorem bytes_cell {n : Nat} {v : Value} {y : DataW H × List MemPlace} (h : DataW.trod enc Tryz.prog w base spare held n 56 [v] = some y) (hk : Rows.uptoBulk y.1 ≤ 1048576) : ∃ l, LogV w v l ∧ l.length + 1 ≤ Rows.uptoBulk y.1 := by
  rcases Deep.open_slice1 Tryz.underlying56 cells5 h with ⟨e, hy⟩ | ⟨a, len, cap, m, n', V, D, Pl, e, hb, hl, hm, hmm, hx, hel⟩
  · refine ⟨[], ⟨.inl ⟨by simpa using e, rfl⟩, ByteL.nil, by simp⟩, ?_⟩
    have := one_le y.1
    simpa using this
  · simp at e
    subst e
    have hd : y.1 = .slice ((List.range len).map D) ((List.range (m - len)).map fun j => D (len + j)) := by rw [hx]
    have hlm : len ≤ m := by rw [hmm]; split <;> omega
    have h1 := one_all D len
    have hbulk : len + 1 ≤ Rows.uptoBulk y.1 := by
      rw [hd]
      simp only [Rows.uptoBulk]
      omega
    by_cases h0 : len = 0
    · subst h0
      exact ⟨[], ⟨.inr (.inr ⟨a, cap, rfl, rfl⟩), ByteL.nil, by simp⟩, by simpa using hbulk⟩
    · have hll : ((List.range len).map (fun i => byteOf (V i))).length = len := by simp
      have hget : ∀ j x, ((List.range len).map (fun i => byteOf (V i)))[j]? = some x → j < len ∧ x = byteOf (V j) := fun j x hj => by
        have hjl : j < len := by
          have := (List.getElem?_eq_some_iff.1 hj).1
          simpa using this
        refine ⟨hjl, ?_⟩
        simp [hjl] at hj
        exact hj.symm
      obtain ⟨b, off, sp⟩ := a
      have hsp : sp = none := by
        have := (hel 0 (by omega)).1
        simp [Addr.add] at this
        exact spot_none this
      subst hsp
      refine ⟨(List.range len).map (fun i => byteOf (V i)), ⟨.inr (.inl ⟨b, off, cap, by rw [hll], fun j x hj => ?_, by rw [hll]; exact hl, hm⟩), fun x hx => ?_, by rw [hll]; omega⟩, by rw [hll]; exact hbulk⟩
      · obtain ⟨hj1, rfl⟩ := hget j x hj
        obtain ⟨hc, ht⟩ := hel j (by omega)
        have hv := (byte_cell ht).1
        rw [addr_add] at hc
        rw [hc]
        exact congrArg some hv
      · obtain ⟨i, hi, rfl⟩ := List.mem_map.1 hx
        exact (byte_cell (hel i (by have := List.mem_range.1 hi; omega)).2).2

theorem step_cellsJ {n : Nat} {cs : List Value} {y : DataW H × List MemPlace} (h : DataW.trod enc Tryz.prog w base spare held n 71 cs = some y) (hkk : Rows.uptoBulk y.1 ≤ 1048576) :
    ∃ s : Stp, s.ok ∧ cs = [.int .i64 s.k, .int .i64 s.e, .int .i64 s.a, .int .i64 s.b, .int .i64 s.c, .int .i64 s.x0, .int .i64 s.y0, .int .i64 s.x1, .int .i64 s.y1, s.j] ∧ 12 ≤ Rows.uptoBulk y.1 ∧ StpJ w s (Rows.uptoBulk y.1) := by
  obtain ⟨xs, m, _, rfl, hl, hlen, hf⟩ := DataW.trod_struct Tryz.underlying71 h
  rw [cells40] at hl
  obtain ⟨v0, v1, v2, v3, v4, v5, v6, v7, v8, v9, rfl⟩ := ten cs hl
  obtain ⟨y0, y1, y2, y3, y4, y5, y6, rfl⟩ := seven xs (by simpa using hlen)
  have f0 := hf 0 _ rfl
  have f1 := hf 1 _ rfl
  have f2 := hf 2 _ rfl
  have f3 := hf 3 _ rfl
  have f4 := hf 4 _ rfl
  have f5 := hf 5 _ rfl
  have f6 := hf 6 _ rfl
  simp [cells3] at f0 f1 f2 f3 f4
  simp [cells37] at f5
  simp [cells38] at f6
  obtain ⟨k, hk, ok⟩ := int_cell f0
  obtain ⟨e, he, oe⟩ := int_cell f1
  obtain ⟨a, ha, oa⟩ := int_cell f2
  obtain ⟨b, hb, ob⟩ := int_cell f3
  obtain ⟨c, hc, oc⟩ := int_cell f4
  obtain ⟨x0, x1, x2, x3, e0, e1, e2, e3, o0, o1, o2, o3, h5⟩ := rect_cells f5
  subst hk he ha hb hc e0 e1 e2 e3
  have b0 := one_le y0.1
  have b1 := one_le y1.1
  have b2 := one_le y2.1
  have b3 := one_le y3.1
  have b4 := one_le y4.1
  have b6 := one_le y6.1
  simp [Rows.uptoBulk, Rows.uptoBulkAll] at hkk
  obtain ⟨l, hv, hll⟩ := bytes_cell f6 (by omega)
  refine ⟨⟨k, e, a, b, c, x0, x1, x2, x3, v9⟩, ⟨oe, oa, ob, oc, o0, o1, o2, o3⟩, rfl, ?_, ⟨l, hv, ?_⟩⟩
  · simp [Rows.uptoBulk, Rows.uptoBulkAll]
    omega
  · simp [Rows.uptoBulk, Rows.uptoBulkAll]
    omega
end

theorem walkJ {H : Type} {enc : TypeId × Value → H} {W : World} {a0 : Option Addr} {len cap : Nat} {d0 : DataW H} {p0 : List MemPlace} (h : DataW.Trod enc Tryz.prog W 0 (fun _ => true) true 22 (.slice a0 len cap) d0 p0) (hk : Rows.uptoBulk d0 ≤ 1048576) :
    ∃ cost : Nat → Nat, len ≤ 87381 ∧ tot cost len ≤ 1048576 ∧ ∀ i, i < len → ∃ b off, a0 = some ⟨b, off, none⟩ ∧ ∃ s : Stp, s.ok ∧ StpAt W b (off + i * 10) s ∧ StpJ W s (cost i) := by
  obtain ⟨fuel, hf⟩ := h
  rcases Deep.open_slice Tryz.underlying22 hf with ⟨hcs, _⟩ | ⟨a, l, c, m, n, D, Pl, hcs, _, hl, _, hm, hx, hel⟩
  · simp [Value.cells] at hcs
    obtain ⟨rfl, rfl, rfl⟩ := hcs
    exact ⟨fun _ => 0, by omega, by simp [tot], fun i hi => by omega⟩
  · simp [Value.cells] at hcs
    obtain ⟨rfl, rfl, rfl⟩ := hcs
    simp at hm
    subst hm
    have hd : d0 = .slice ((List.range len).map D) ((List.range (m - len)).map fun j => D (len + j)) := (Prod.mk.inj hx).1
    have hbulk : tot (fun i => Rows.uptoBulk (D i)) len ≤ 1048576 := by
      rw [hd] at hk
      simp only [Rows.uptoBulk] at hk
      rw [← bulk_tot]
      omega
    have hone : ∀ i, i < len → Rows.uptoBulk (D i) ≤ 1048576 := fun i hi => by
      have h1 := tot_mono (fun i => Rows.uptoBulk (D i)) (show i + 1 ≤ len by omega)
      have h2 : tot (fun i => Rows.uptoBulk (D i)) (i + 1) = tot (fun i => Rows.uptoBulk (D i)) i + Rows.uptoBulk (D i) := rfl
      omega
    have hall : ∀ i, i < len → ∃ s : Stp, s.ok ∧ W.cells? 0 (a.add (i * 10)) 10 = some [.int .i64 s.k, .int .i64 s.e, .int .i64 s.a, .int .i64 s.b, .int .i64 s.c, .int .i64 s.x0, .int .i64 s.y0, .int .i64 s.x1, .int .i64 s.y1, s.j] ∧ 12 ≤ Rows.uptoBulk (D i) ∧ StpJ W s (Rows.uptoBulk (D i)) := fun i hi => by
      obtain ⟨cs, h1, h2⟩ := hel i (by omega)
      rw [cells40] at h1
      obtain ⟨s, hs, rfl, hb, hj⟩ := step_cellsJ h2 (hone i hi)
      exact ⟨s, hs, h1, hb, hj⟩
    have hlen : len ≤ 87381 := by
      have := len_le len D (fun i hi => (hall i hi).choose_spec.2.2.1)
      rw [bulk_tot] at this
      omega
    refine ⟨fun i => Rows.uptoBulk (D i), hlen, hbulk, fun i hi => ?_⟩
    obtain ⟨b, off, sp⟩ := a
    have hsp : sp = none := by
      obtain ⟨s, _, hc, _⟩ := hall 0 (by omega)
      have := (World.cells?_some hc).2.2 0 (by omega)
      simp [Addr.add] at this
      exact spot_none this
    subst hsp
    refine ⟨b, off, rfl, ?_⟩
    obtain ⟨s, hs, hc, _, hj⟩ := hall i hi
    have hcc := (World.cells?_some hc).2.2
    have hadd : ∀ j, ((⟨b, off, none⟩ : Addr).add (i * 10)).add j = ⟨b, off + i * 10 + j, none⟩ := fun j => by
      rw [Deep.add_add]
      unfold Addr.add
      split <;> simp_all <;> omega
    have hcell : ∀ j, j < 10 → W.cell? ⟨b, off + i * 10 + j, none⟩ = [Value.int .i64 s.k, .int .i64 s.e, .int .i64 s.a, .int .i64 s.b, .int .i64 s.c, .int .i64 s.x0, .int .i64 s.y0, .int .i64 s.x1, .int .i64 s.y1, s.j][j]? := fun j hj => by
      rw [← hcc j hj, hadd j]
    exact ⟨s, hs, ⟨hcell 0 (by omega), hcell 1 (by omega), hcell 2 (by omega), hcell 3 (by omega), hcell 4 (by omega), hcell 5 (by omega), hcell 6 (by omega), hcell 7 (by omega), hcell 8 (by omega), hcell 9 (by omega)⟩, hj⟩

end Go.Proofs.YthimaoipogocfaaGreat.readk
