import Derived.WalkKit
import Derived.WalkSpells
import Derived.WalkLawsBesides
import Derived.Maps.AppendAt
import Derived.Deep.AppendLies
namespace Go.Proofs.YthimaoipogocfaaGreat
open Go.RowKit

theorem hideIt {p : Prop} (h : p) : Hid p := h

/-- WHAT MAY HAVE TURNED between w and w': the blocks of F, and new ones. -/
structure Mod (F : List Nat) (w w' : World) : Prop where
  os : w'.os = w.os
  tape : w'.tape = w.tape
  output : w'.output = w.output
  size : w.heap.size ≤ w'.heap.size
  block : ∀ k, k < w.heap.size → k ∉ F → w'.heap[k]? = w.heap[k]?

theorem Mod.refl (F : List Nat) (w : World) : Mod F w w := ⟨rfl, rfl, rfl, Nat.le_refl _, fun _ _ _ => rfl⟩

theorem Mod.trans {F : List Nat} {a b c : World} (h : Mod F a b) (k : Mod F b c) : Mod F a c :=
  ⟨k.os.trans h.os, k.tape.trans h.tape, k.output.trans h.output, Nat.le_trans h.size k.size, fun i hi hf => (k.block i (Nat.lt_of_lt_of_le hi h.size) hf).trans (h.block i hi hf)⟩

/-- .. where the second step turns what the first may turn, or what is new since. -/
theorem Mod.then {F G : List Nat} {a b c : World} (h : Mod F a b) (k : Mod G b c) (hg : ∀ x ∈ G, x ∈ F ∨ a.heap.size ≤ x) : Mod F a c :=
  ⟨k.os.trans h.os, k.tape.trans h.tape, k.output.trans h.output, Nat.le_trans h.size k.size, fun i hi hf => (k.block i (Nat.lt_of_lt_of_le hi h.size) (fun hG => by
    rcases hg i hG with h1 | h1
    · exact hf h1
    · omega)).trans (h.block i hi hf)⟩

theorem Mod.mono {F G : List Nat} {w w' : World} (h : Mod F w w') (hs : ∀ x ∈ F, x ∈ G) : Mod G w w' :=
  ⟨h.os, h.tape, h.output, h.size, fun k hk hf => h.block k hk (fun hF => hf (hs k hF))⟩

theorem Mod.nil {F : List Nat} {w w' : World} (h : Mod [] w w') : Mod F w w' := h.mono (fun _ hx => by cases hx)

theorem Mod.of_below {w w' : World} (h : Below w.heap.size w w') : Mod [] w w' := ⟨h.os, h.tape, h.output, h.size, fun k hk _ => h.block k hk⟩

theorem Mod.below {w w' : World} (h : Mod [] w w') : Below w.heap.size w w' := ⟨h.os, h.tape, h.output, h.size, fun k hk => h.block k hk (fun hx => by cases hx)⟩

theorem Mod.below_of {F : List Nat} {B : Nat} {w w' : World} (h : Mod F w w') (hB : B ≤ w.heap.size) (hF : ∀ x ∈ F, B ≤ x) : Below B w w' :=
  ⟨h.os, h.tape, h.output, h.size, fun k hk => h.block k (by omega) (fun hx => by have := hF k hx; omega)⟩

theorem Mod.of_grown {w w' : World} {row : Option Nat} (h : w.grownBy w' row) : Mod row.toList w w' :=
  ⟨h.os, h.tape, h.output, h.size, fun k hk hf => h.block k hk (fun e => hf (by simp [← e]))⟩

theorem Mod.alloc {F : List Nat} (w : World) (o : Obj) : Mod F w (w.alloc o) := (Mod.of_below ((Below.refl _ _).alloc (Nat.le_refl _) o)).nil
theorem Mod.drew {F : List Nat} (w : World) : Mod F w w.drew := ⟨rfl, rfl, rfl, Nat.le_refl _, fun _ _ _ => rfl⟩
theorem Mod.drewN {F : List Nat} (w : World) (n : Nat) : Mod F w (w.drewN n) := ⟨rfl, rfl, rfl, Nat.le_refl _, fun _ _ _ => rfl⟩
theorem Mod.setCell {F : List Nat} (w : World) (a : Addr) (v : Value) (h : a.block ∈ F) : Mod F w (w.setCell a v) :=
  ⟨rfl, rfl, rfl, by simp [World.setCell], fun k _ hf => Below.heap_setCell _ _ _ _ (fun e => hf (e ▸ h))⟩

theorem Mod.cell {F : List Nat} {w w' : World} (h : Mod F w w') {b : Nat} (hb : b < w.heap.size) (hf : b ∉ F) (o : Nat) : w'.cell? ⟨b, o, none⟩ = w.cell? ⟨b, o, none⟩ := World.cell?_of_block (w := w) (h.block b hb hf)
theorem Mod.frozen {F : List Nat} {w w' : World} (h : Mod F w w') {b : Nat} (hb : b < w.heap.size) (hf : b ∉ F) (o : Nat) : w'.frozen? ⟨b, o, none⟩ = w.frozen? ⟨b, o, none⟩ := World.frozen?_of_block (w := w) (h.block b hb hf)

theorem cell_mod {w w' : World} (hm : Mod [] w w') {a : Addr} {v : Value} (h : w.cell? a = some v) : w'.cell? a = some v :=
  (World.cell?_of_block (w := w) (hm.block _ (World.block_lt_of_cell? w _ h) (by simp))).trans h

theorem lt_of_block {w : World} {b : Nat} {o : Obj} (h : w.heap[b]? = some o) : b < w.heap.size := (Array.getElem?_eq_some_iff.1 h).1

/-- cells out of a block that is known whole -/
theorem cell_of_block {w : World} {b : Nat} {cs : Array Value} {e : TypeId} {fr : Nat × Nat} (h : w.heap[b]? = some (.cells cs e fr)) (o : Nat) : w.cell? ⟨b, o, none⟩ = cs[o]? := by
  simp [World.cell?, h]
theorem frozen_of_block {w : World} {b : Nat} {cs : Array Value} {e : TypeId} (h : w.heap[b]? = some (.cells cs e (0, 0))) (o : Nat) : w.frozen? ⟨b, o, none⟩ = false := by
  simp [World.frozen?, h]
theorem block_setCell {w : World} {b : Nat} {cs : Array Value} {e : TypeId} {fr : Nat × Nat} (h : w.heap[b]? = some (.cells cs e fr)) (o : Nat) (v : Value) :
    (w.setCell ⟨b, o, none⟩ v).heap[b]? = some (.cells (cs.setIfInBounds o v) e fr) := by
  simp [World.setCell, Array.getElem?_modify, h]
theorem block_setCell_other {w : World} {b c : Nat} (hne : c ≠ b) (o : Nat) (v : Value) : (w.setCell ⟨b, o, none⟩ v).heap[c]? = w.heap[c]? := Below.heap_setCell _ _ _ _ hne

/-- WHAT IS APPENDED: nil, or cells behind an address. -/
def srcRow (w : World) (size : Nat) (x : Value) (m : Nat) (news : List Value) : Prop :=
  news.length = m * size ∧ (∀ u ∈ news, u.oneCell' = true) ∧ ((x = .slice none 0 0 ∧ m = 0) ∨ ∃ a c, x = .slice (some a) m c ∧ ∀ j u, news[j]? = some u → w.cell? (a.add j) = some u)

theorem srcRow_of_owns {w : World} {base : Nat} {e : TypeId} {size : Nat} {v : Value} {n : Nat} {xs : List Value} (h : w.ownsRow base e size v n xs) (h1 : ∀ u ∈ xs, u.oneCell' = true) : srcRow w size v n xs := by
  refine ⟨h.1, h1, ?_⟩
  rcases h.2 with ⟨hv, h0⟩ | ⟨g, cap, cur, hv, _⟩
  · exact .inl ⟨hv, h0⟩
  · exact .inr ⟨⟨g, 0, none⟩, cap, hv, h.cells (by rw [hv]; rfl)⟩

/-- one list behind another: a name that no simp opens -/
def catL (xs ys : List Value) : List Value := xs ++ ys
theorem mem_catL {u : Value} {xs ys : List Value} : u ∈ catL xs ys ↔ u ∈ xs ∨ u ∈ ys := List.mem_append

section
variable {P : Program} (w : World)

theorem run_append_rows (base : Nat) (t ty e : TypeId) (i : TypeInfo) (z : Value) (size bytes : Nat) (ht : P.underlying t = some (.slice e)) (hi : P.info? e = some i) (hz : i.zero = some z)
    (hsize : i.size = size) (hby : i.bytes = bytes) (hzs : z.cells.size = size) (hsz : 0 < size)
    (v : Value) (n : Nat) (xs : List Value) (hown : w.ownsRow base e size v n xs) (x : Value) (m : Nat) (news : List Value) (hsrc : srcRow w size x m news)
    (h63 : n + m ≤ maxLen) (hbytes : (n + m) * bytes ≤ 140737488355328) (hbase : base ≤ w.heap.size) :
    ∃ v' w', (Builtin.append_ #[t, t] ty #[v, x]).run P w = .ok v' w' ∧ w'.ownsRow base e size v' (n + m) (xs ++ news) ∧ Mod v.ownBlock.toList w w' ∧ (v'.ownBlock = v.ownBlock ∨ v'.ownBlock = some w.heap.size) := by
  obtain ⟨hl, h1, hx⟩ := hsrc
  rcases hx with ⟨rfl, rfl⟩ | ⟨a, c, rfl, hnews⟩
  · have hn : news = [] := List.eq_nil_of_length_eq_zero (by simpa using hl)
    subst hn
    subst hsize
    refine ⟨v, w, ?_, by simpa using hown, Mod.refl _ _, .inl rfl⟩
    rcases hown.2 with ⟨rfl, rfl⟩ | ⟨g, cap, cur, rfl, _, _, hnc, _⟩
    · simp [Builtin.append_, run_underlying ht, sizeOf, typeInfo, hi, Builtin.lenOf, Builtin.firstCells]
    · simp [Builtin.append_, run_underlying ht, sizeOf, typeInfo, hi, Builtin.lenOf, Builtin.firstCells, hnc, storeCells]
  · obtain ⟨v', w', hr, h2, h3, _, h5⟩ := run_append_own_at (P := P) w base t ty e i z size bytes ht hi hz hsize hby hzs hsz v n xs hown a m c news hl hnews h1 h63 hbytes hbase
    exact ⟨v', w', hr, h2, Mod.of_grown h3, h5⟩

/-- .. THE NEW VALUE WRITTEN OUT, where there is anything in it. -/
theorem run_append_out (base : Nat) (t ty e : TypeId) (i : TypeInfo) (z : Value) (size bytes : Nat) (ht : P.underlying t = some (.slice e)) (hi : P.info? e = some i) (hz : i.zero = some z)
    (hsize : i.size = size) (hby : i.bytes = bytes) (hzs : z.cells.size = size) (hsz : 0 < size)
    (v : Value) (n : Nat) (xs : List Value) (hown : w.ownsRow base e size v n xs) (x : Value) (m : Nat) (news : List Value) (hsrc : srcRow w size x m news)
    (hpos : 0 < n + m) (h63 : n + m ≤ maxLen) (hbytes : (n + m) * bytes ≤ 140737488355328) (hbase : base ≤ w.heap.size) :
    ∃ g cap w', (Builtin.append_ #[t, t] ty #[v, x]).run P w = .ok (.slice (some ⟨g, 0, none⟩) (n + m) cap) w' ∧ w'.ownsRow base e size (.slice (some ⟨g, 0, none⟩) (n + m) cap) (n + m) (catL xs news) ∧ Mod v.ownBlock.toList w w' ∧ (v.ownBlock = some g ∨ g = w.heap.size) := by
  obtain ⟨v', w', hr, h2, h3, h4⟩ := run_append_rows (P := P) w base t ty e i z size bytes ht hi hz hsize hby hzs hsz v n xs hown x m news hsrc h63 hbytes hbase
  obtain ⟨g, cap, rfl, _, _⟩ := h2.form hpos
  refine ⟨g, cap, w', hr, h2, h3, ?_⟩
  rcases h4 with h4 | h4
  · exact .inl h4.symm
  · exact .inr (by simpa [Value.ownBlock] using h4)

theorem wp_append_rows {o : Oper} {a : Act} {K : Act → World → Prop} {Q : Exit → Act → World → Prop} (s xo : Operand) (t : TypeId)
    (ho : o.op = .call { callee := .builtin .append, args := #[s, xo], argTypes := #[t, t] })
    (base : Nat) (e : TypeId) (i : TypeInfo) (z : Value) (size bytes : Nat) (ht : P.underlying t = some (.slice e)) (hi : P.info? e = some i) (hz : i.zero = some z)
    (hsize : i.size = size) (hby : i.bytes = bytes) (hzs : z.cells.size = size) (hsz : 0 < size)
    (v : Value) (n : Nat) (xs : List Value) (hs : a.eval s = v) (hown : w.ownsRow base e size v n xs) (x : Value) (m : Nat) (news : List Value) (hx : a.eval xo = x) (hsrc : srcRow w size x m news)
    (hpos : 0 < n + m) (h63 : n + m ≤ maxLen) (hbytes : (n + m) * bytes ≤ 140737488355328) (hbase : base ≤ w.heap.size)
    (h : ∀ g cap w', w'.ownsRow base e size (.slice (some ⟨g, 0, none⟩) (n + m) cap) (n + m) (catL xs news) → Mod v.ownBlock.toList w w' → (v.ownBlock = some g ∨ g = w.heap.size) → K (a.put o.dst (.slice (some ⟨g, 0, none⟩) (n + m) cap)) w') : o.wp P a w K Q := by
  obtain ⟨g, cap, w', hr, h2, h3, h4⟩ := run_append_out (P := P) w base t o.type e i z size bytes ht hi hz hsize hby hzs hsz v n xs hown x m news hsrc hpos h63 hbytes hbase
  unfold Oper.wp execOp
  simp only [ho, resolve, invoke, builtin, Sem.run_bind, Sem.run_pure, Result.andThen_ok, List.map_toArray, List.map_cons, List.map_nil, hs, hx, hr]
  exact h g cap w' h2 h3 h4

theorem wpList_append_rows {ops : Array Oper} {rest : List Oper} {o : Oper} {a : Act} {Q : Exit → Act → World → Prop} (hgd : o.guard = none) (s xo : Operand) (t : TypeId)
    (ho : o.op = .call { callee := .builtin .append, args := #[s, xo], argTypes := #[t, t] })
    (base : Nat) (e : TypeId) (i : TypeInfo) (z : Value) (size bytes : Nat) (ht : P.underlying t = some (.slice e)) (hi : P.info? e = some i) (hz : i.zero = some z)
    (hsize : i.size = size) (hby : i.bytes = bytes) (hzs : z.cells.size = size) (hsz : 0 < size)
    (v : Value) (n : Nat) (xs : List Value) (hs : a.eval s = v) (hown : w.ownsRow base e size v n xs) (x : Value) (m : Nat) (news : List Value) (hx : a.eval xo = x) (hsrc : srcRow w size x m news)
    (hpos : 0 < n + m) (h63 : n + m ≤ maxLen) (hbytes : (n + m) * bytes ≤ 140737488355328) (hbase : base ≤ w.heap.size)
    (h : ∀ g cap w', w'.ownsRow base e size (.slice (some ⟨g, 0, none⟩) (n + m) cap) (n + m) (catL xs news) → Mod v.ownBlock.toList w w' → (v.ownBlock = some g ∨ g = w.heap.size) → wpList P ops Q rest (a.put o.dst (.slice (some ⟨g, 0, none⟩) (n + m) cap)) w') : wpList P ops Q (o :: rest) a w :=
  wpList_plain hgd fun _ hK => wp_append_rows w s xo t ho base e i z size bytes ht hi hz hsize hby hzs hsz v n xs hs hown x m news hx hsrc hpos h63 hbytes hbase fun g cap w' h2 h3 h4 => hK _ _ (h g cap w' h2 h3 h4)

theorem step_append_rows {ops : Array Oper} {o : Oper} {a : Act} {K : Act → World → Prop} {Q : Exit → Act → World → Prop} {E : Prop} (hgd : o.guard = none) (s xo : Operand) (t : TypeId)
    (ho : o.op = .call { callee := .builtin .append, args := #[s, xo], argTypes := #[t, t] })
    (base : Nat) (e : TypeId) (i : TypeInfo) (z : Value) (size bytes : Nat) (ht : P.underlying t = some (.slice e)) (hi : P.info? e = some i) (hz : i.zero = some z)
    (hsize : i.size = size) (hby : i.bytes = bytes) (hzs : z.cells.size = size) (hsz : 0 < size)
    (v : Value) (n : Nat) (xs : List Value) (hs : a.eval s = v) (hown : w.ownsRow base e size v n xs) (x : Value) (m : Nat) (news : List Value) (hx : a.eval xo = x) (hsrc : srcRow w size x m news)
    (hpos : 0 < n + m) (h63 : n + m ≤ maxLen) (hbytes : (n + m) * bytes ≤ 140737488355328) (hbase : base ≤ w.heap.size)
    (h : ∀ g cap w', w'.ownsRow base e size (.slice (some ⟨g, 0, none⟩) (n + m) cap) (n + m) (catL xs news) → Mod v.ownBlock.toList w w' → (v.ownBlock = some g ∨ g = w.heap.size) → K (a.put o.dst (.slice (some ⟨g, 0, none⟩) (n + m) cap)) w') :
    if Region.wanted o (yielded ops a.tmps) = true then Oper.wp P o a w K Q else E := by
  have hw : Region.wanted o (yielded ops a.tmps) = true := by simp [Region.wanted, hgd]
  rw [if_pos hw]
  exact wp_append_rows w s xo t ho base e i z size bytes ht hi hz hsize hby hzs hsz v n xs hs hown x m news hx hsrc hpos h63 hbytes hbase h

end

theorem srcRow_mod {w w' : World} {size : Nat} {x : Value} {m : Nat} {news : List Value} (h : srcRow w size x m news) (hm : Mod [] w w') : srcRow w' size x m news := by
  obtain ⟨hl, h1, hx⟩ := h
  refine ⟨hl, h1, ?_⟩
  rcases hx with h0 | ⟨a, c, hv, hc⟩
  · exact .inl h0
  · refine .inr ⟨a, c, hv, fun j u hu => ?_⟩
    have := hc j u hu
    rw [← this]
    exact World.cell?_of_block (w := w) (hm.block _ (World.block_lt_of_cell? w _ this) (fun h => by cases h))

/-- cells of an owned row -/
theorem owns_cell {w : World} {base : Nat} {e : TypeId} {size : Nat} {g n cap : Nat} {xs : List Value} (h : w.ownsRow base e size (.slice (some ⟨g, 0, none⟩) n cap) n xs) (j : Nat) (u : Value) (hu : xs[j]? = some u) : w.cell? ⟨g, j, none⟩ = some u := by
  have := h.cells (g := g) rfl j u hu
  rwa [show (⟨g, 0, none⟩ : Addr).add j = ⟨g, j, none⟩ from by unfold Addr.add; split <;> simp_all] at this

/-- A row is kept where its block is. -/
theorem owns_kept {w w' : World} {F : List Nat} {base : Nat} {e : TypeId} {size : Nat} {v : Value} {n : Nat} {xs : List Value} (h : w.ownsRow base e size v n xs) (hm : Mod F w w') (hf : ∀ k, v.ownBlock = some k → k ∉ F) : w'.ownsRow base e size v n xs := by
  refine ⟨h.1, ?_⟩
  rcases h.2 with h0 | ⟨g, cap, cur, hv, hb, hg, r⟩
  · exact .inl h0
  · exact .inr ⟨g, cap, cur, hv, hb, (hm.block g (lt_of_block hg) (hf g (by rw [hv]; rfl))).trans hg, r⟩

theorem owns_lt {w : World} {base : Nat} {e : TypeId} {size : Nat} {v : Value} {n : Nat} {xs : List Value} (h : w.ownsRow base e size v n xs) {k : Nat} (hk : v.ownBlock = some k) : k < w.heap.size := (h.lt k hk).2
theorem owns_base {w : World} {base base' : Nat} {e : TypeId} {size : Nat} {v : Value} {n : Nat} {xs : List Value} (h : w.ownsRow base e size v n xs) (hb : base' ≤ base) : w.ownsRow base' e size v n xs := by
  refine ⟨h.1, ?_⟩
  rcases h.2 with h0 | ⟨g, cap, cur, hv, hb', r⟩
  · exact .inl h0
  · exact .inr ⟨g, cap, cur, hv, Nat.le_trans hb hb', r⟩
/-- A new block that is a row. -/
theorem owns_new {w : World} {g : Nat} {cur : Array Value} {e : TypeId} {n size : Nat} (hg : w.heap[g]? = some (.cells cur e (0, 0))) (hs : cur.size = n * size) (hm : n ≤ maxLen) {base : Nat} (hb : base ≤ g) :
    w.ownsRow base e size (.slice (some ⟨g, 0, none⟩) n n) n cur.toList :=
  ⟨by simpa using hs, .inr ⟨g, n, cur, rfl, hb, hg, Nat.le_refl _, hm, hs, by rw [← hs]; exact List.take_of_length_le (by simp)⟩⟩

#print axioms wpList_append_rows
end Go.Proofs.YthimaoipogocfaaGreat

namespace Go.Proofs.YthimaoipogocfaaGreat

/-! ### float32 words by their keys: the sign bit above the rung -/
def rungW (b : Nat) : Nat := b % 2147483648
def negW (b : Nat) : Bool := b / 2147483648 % 2 == 1
def NumW (b : Nat) : Prop := rungW b ≤ 2139095040
def FinW (b : Nat) : Prop := rungW b < 2139095040
def sgnI (s : Bool) (n : Nat) : Int := if s then -(n : Int) else (n : Int)
def keyW (b : Nat) : Int := sgnI (negW b) (rungW b)
/-- the magnitude of a rung, in units of the last place -/
def magR (r : Nat) : Nat := if r < 8388608 then r else (8388608 + r % 8388608) * 2 ^ (r / 8388608 - 1)

theorem magR_step (r : Nat) : magR r < magR (r + 1) := by
  unfold magR
  by_cases h1 : r + 1 < 8388608
  · rw [if_pos (by omega), if_pos h1]; omega
  by_cases h2 : r < 8388608
  · have : r = 8388607 := by omega
    subst this; decide
  rw [if_neg h2, if_neg (by omega)]
  by_cases h3 : r % 8388608 = 8388607
  · have e1 : (r + 1) % 8388608 = 0 := by omega
    have e2 : (r + 1) / 8388608 - 1 = (r / 8388608 - 1) + 1 := by omega
    rw [h3, e1, e2, Nat.pow_succ]
    have := Nat.two_pow_pos (r / 8388608 - 1)
    omega
  · have e1 : (r + 1) % 8388608 = r % 8388608 + 1 := by omega
    have e2 : (r + 1) / 8388608 = r / 8388608 := by omega
    rw [e1, e2]
    exact Nat.mul_lt_mul_of_pos_right (by omega) (Nat.two_pow_pos _)

theorem magR_lt {a b : Nat} (h : a < b) : magR a < magR b := by
  induction b with
  | zero => omega
  | succ b ih =>
    by_cases e : a = b
    · subst e; exact magR_step a
    · exact Nat.lt_trans (ih (by omega)) (magR_step b)

theorem magR_lt_iff (a b : Nat) : magR a < magR b ↔ a < b := by
  constructor
  · intro h
    by_cases e : a < b
    · exact e
    · exfalso
      by_cases e2 : a = b
      · subst e2; omega
      · have := magR_lt (a := b) (b := a) (by omega); omega
  · exact magR_lt

theorem magR_zero : magR 0 = 0 := by decide

theorem magR_eq_iff (a b : Nat) : magR a = magR b ↔ a = b := by
  constructor
  · intro h
    have h1 := magR_lt_iff a b
    have h2 := magR_lt_iff b a
    omega
  · rintro rfl; rfl

theorem sgn_mag_lt (s t : Bool) (a b : Nat) : sgnI s (magR a) < sgnI t (magR b) ↔ sgnI s a < sgnI t b := by
  have h1 := magR_lt_iff a b
  have h2 := magR_lt_iff b a
  have h3 := magR_lt_iff 0 a
  have h4 := magR_lt_iff 0 b
  rw [magR_zero] at h3 h4
  cases s <;> cases t <;> simp [sgnI] <;> omega

theorem sgn_mag_eq (s t : Bool) (a b : Nat) : sgnI s (magR a) = sgnI t (magR b) ↔ sgnI s a = sgnI t b := by
  have h1 := magR_eq_iff a b
  have h3 := magR_lt_iff 0 a
  have h4 := magR_lt_iff 0 b
  rw [magR_zero] at h3 h4
  cases s <;> cases t <;> simp [sgnI] <;> omega

/-- how a finite word reads -/
theorem read_fin {b : Nat} (h : FinW b) : ∃ (m e : Nat), Ieee.single.read b = .number (negW b) m (-149 + (e : Int)) ∧ magR (rungW b) = m * 2 ^ e := by
  unfold FinW rungW at h
  by_cases h1 : b % 2147483648 < 8388608
  · refine ⟨b % 2147483648, 0, ?_, ?_⟩
    · unfold Ieee.Format.read
      have hs : Ieee.single.signWeight = 2147483648 := by decide
      have hb : Ieee.single.binade = 8388608 := by decide
      have hl : Ieee.single.leastPlace = -149 := by decide
      simp only [hs, hb, hl]
      rw [if_pos h1]; rfl
    · unfold magR rungW; rw [if_pos h1]; simp
  · refine ⟨8388608 + b % 2147483648 % 8388608, b % 2147483648 / 8388608 - 1, ?_, ?_⟩
    · unfold Ieee.Format.read
      have hs : Ieee.single.signWeight = 2147483648 := by decide
      have hb : Ieee.single.binade = 8388608 := by decide
      have hl : Ieee.single.leastPlace = -149 := by decide
      have hi : Ieee.single.infRung = 2139095040 := by decide
      simp only [hs, hb, hl, hi]
      rw [if_neg h1, if_pos h]; rfl
    · unfold magR rungW; rw [if_neg h1]

theorem read_inf {b : Nat} (h : NumW b) (h' : ¬ FinW b) : Ieee.single.read b = .infinity (negW b) := by
  unfold NumW FinW rungW at *
  have e : b % 2147483648 = 2139095040 := by omega
  unfold Ieee.Format.read
  have hs : Ieee.single.signWeight = 2147483648 := by decide
  have hb : Ieee.single.binade = 8388608 := by decide
  have hl : Ieee.single.leastPlace = -149 := by decide
  have hi : Ieee.single.infRung = 2139095040 := by decide
  simp only [hs, hb, hl, hi, e]
  rfl

theorem compare_int (x y x' y' : Int) (h1 : x < y ↔ x' < y') (h2 : x = y ↔ x' = y') : compare x y = compare x' y' := by
  show compareOfLessAndEq x y = compareOfLessAndEq x' y'
  unfold compareOfLessAndEq
  by_cases a : x < y
  · rw [if_pos a, if_pos (h1.1 a)]
  · rw [if_neg a, if_neg (fun q => a (h1.2 q))]
    by_cases c : x = y
    · rw [if_pos c, if_pos (h2.1 c)]
    · rw [if_neg c, if_neg (fun q => c (h2.2 q))]

theorem signed_scale (s : Bool) (m u k : Nat) : sgnI s (m * 2 ^ (u + k)) = Ieee.signed s m u * 2 ^ k := by
  unfold sgnI Ieee.signed
  rw [Nat.shiftLeft_eq, Nat.pow_add, ← Nat.mul_assoc]
  cases s
  · simp
  · simp [Int.neg_mul]

theorem pow_pos_int (k : Nat) : (0 : Int) < 2 ^ k := by
  have := Nat.two_pow_pos k
  have e : ((2 ^ k : Nat) : Int) = (2 : Int) ^ k := by simp
  omega

theorem order_fin {a b : Nat} (ha : FinW a) (hb : FinW b) : Ieee.single.order a b = some (compare (keyW a) (keyW b)) := by
  obtain ⟨m, e, ra, va⟩ := read_fin ha
  obtain ⟨n, f, rb, vb⟩ := read_fin hb
  unfold Ieee.Format.order
  rw [ra, rb]
  unfold Ieee.Datum.order
  simp only
  congr 1
  have key : ∀ s t : Bool, (sgnI s (magR (rungW a)) < sgnI t (magR (rungW b)) ↔ Ieee.signed s m ((-149 + (e : Int)) - min (-149 + (e : Int)) (-149 + (f : Int))).toNat < Ieee.signed t n ((-149 + (f : Int)) - min (-149 + (e : Int)) (-149 + (f : Int))).toNat) ∧ (sgnI s (magR (rungW a)) = sgnI t (magR (rungW b)) ↔ Ieee.signed s m ((-149 + (e : Int)) - min (-149 + (e : Int)) (-149 + (f : Int))).toNat = Ieee.signed t n ((-149 + (f : Int)) - min (-149 + (e : Int)) (-149 + (f : Int))).toNat) := by
    intro s t
    have e1 : ((-149 + (e : Int)) - min (-149 + (e : Int)) (-149 + (f : Int))).toNat = e - min e f := by omega
    have e2 : ((-149 + (f : Int)) - min (-149 + (e : Int)) (-149 + (f : Int))).toNat = f - min e f := by omega
    rw [e1, e2, va, vb]
    have g1 : e = (e - min e f) + min e f := by omega
    have g2 : f = (f - min e f) + min e f := by omega
    have s1 := signed_scale s m (e - min e f) (min e f)
    have s2 := signed_scale t n (f - min e f) (min e f)
    rw [← g1] at s1
    rw [← g2] at s2
    rw [s1, s2]
    have hp := pow_pos_int (min e f)
    constructor
    · constructor
      · intro h
        exact Int.lt_of_mul_lt_mul_right h (Int.le_of_lt hp)
      · intro h
        exact Int.mul_lt_mul_of_pos_right h hp
    · constructor
      · intro h
        exact Int.eq_of_mul_eq_mul_right (by omega) h
      · intro h; rw [h]
  obtain ⟨k1, k2⟩ := key (negW a) (negW b)
  refine compare_int _ _ _ _ ?_ ?_
  · rw [← k1]; exact sgn_mag_lt _ _ _ _
  · rw [← k2]; exact sgn_mag_eq _ _ _ _

theorem cmpI_lt {x y : Int} (h : x < y) : compare x y = .lt := by
  show compareOfLessAndEq x y = _
  unfold compareOfLessAndEq; rw [if_pos h]
theorem cmpI_gt {x y : Int} (h : y < x) : compare x y = .gt := by
  show compareOfLessAndEq x y = _
  unfold compareOfLessAndEq; rw [if_neg (by omega), if_neg (by omega)]

theorem order_num {a b : Nat} (ha : NumW a) (hb : NumW b) : Ieee.single.order a b = some (compare (keyW a) (keyW b)) := by
  by_cases fa : FinW a
  · by_cases fb : FinW b
    · exact order_fin fa fb
    · obtain ⟨m, e, ra, _⟩ := read_fin fa
      have rb := read_inf hb fb
      unfold Ieee.Format.order
      rw [ra, rb]
      unfold Ieee.Datum.order
      simp only
      congr 1
      unfold NumW FinW at *
      have e : rungW b = 2139095040 := by omega
      unfold keyW
      rw [e]
      cases hB : negW b
      · rw [cmpI_lt (by cases negW a <;> simp [sgnI] <;> omega)]; rfl
      · rw [cmpI_gt (by cases negW a <;> simp [sgnI] <;> omega)]; rfl
  · have ra := read_inf ha fa
    by_cases fb : FinW b
    · obtain ⟨m, e, rb, _⟩ := read_fin fb
      unfold Ieee.Format.order
      rw [ra, rb]
      unfold Ieee.Datum.order
      simp only
      congr 1
      unfold NumW FinW at *
      have e : rungW a = 2139095040 := by omega
      unfold keyW
      rw [e]
      cases hA : negW a
      · rw [cmpI_gt (by cases negW b <;> simp [sgnI] <;> omega)]; rfl
      · rw [cmpI_lt (by cases negW b <;> simp [sgnI] <;> omega)]; rfl
    · have rb := read_inf hb fb
      unfold Ieee.Format.order
      rw [ra, rb]
      unfold Ieee.Datum.order
      simp only
      congr 1
      unfold NumW FinW at *
      have e : rungW a = 2139095040 := by omega
      have e' : rungW b = 2139095040 := by omega
      unfold keyW
      rw [e, e']
      cases negW a <;> cases negW b <;> decide

end Go.Proofs.YthimaoipogocfaaGreat

namespace Go.Proofs.YthimaoipogocfaaGreat

/-! ### what int(f) gives -/
def unitW : Nat := 713623846352979940529142984724747568191373312  -- 2 ^ 149
theorem unitW_eq : unitW = 2 ^ 149 := by decide
def truncW (b : Nat) : Int := sgnI (negW b) (magR (rungW b) / 2 ^ 149)

theorem cut_zero (s : Bool) (n d : Nat) : Ieee.Toward.zero.cut s n d = n / 2 ^ d := by
  unfold Ieee.Toward.cut
  simp only [Nat.shiftLeft_eq, Nat.one_mul, Bool.toNat_false, Nat.add_zero]
  by_cases h : d ≤ n.log2 + 2
  · rw [Nat.min_eq_left h]
  · rw [Nat.min_eq_right (by omega)]
    have hn : n < 2 ^ (n.log2 + 1) := Nat.lt_log2_self
    have h1 : n < 2 ^ (n.log2 + 2) := Nat.lt_of_lt_of_le hn (Nat.pow_le_pow_right (by omega) (by omega))
    have h2 : n < 2 ^ d := Nat.lt_of_lt_of_le hn (Nat.pow_le_pow_right (by omega) (by omega))
    rw [Nat.div_eq_of_lt h1, Nat.div_eq_of_lt h2]

theorem toInt_fin {b : Nat} (h : FinW b) : (Ieee.single.read b).toInt .zero = some (truncW b) := by
  obtain ⟨m, e, ra, va⟩ := read_fin h
  rw [ra]
  unfold Ieee.Datum.toInt Ieee.Datum.integral
  simp only
  rw [cut_zero]
  congr 1
  unfold truncW Ieee.signed sgnI
  rw [va]
  have : (m <<< (-149 + (e : Int)).toNat) / 2 ^ (-(-149 + (e : Int))).toNat = m * 2 ^ e / 2 ^ 149 := by
    rw [Nat.shiftLeft_eq]
    by_cases he : 149 ≤ e
    · have e1 : (-149 + (e : Int)).toNat = e - 149 := by omega
      have e2 : (-(-149 + (e : Int))).toNat = 0 := by omega
      rw [e1, e2]
      have : e = (e - 149) + 149 := by omega
      conv => rhs; rw [this, Nat.pow_add, ← Nat.mul_assoc]
      rw [Nat.mul_div_cancel _ (Nat.two_pow_pos 149)]
      simp
    · have e1 : (-149 + (e : Int)).toNat = 0 := by omega
      have e2 : (-(-149 + (e : Int))).toNat = 149 - e := by omega
      rw [e1, e2]
      have : 149 = (149 - e) + e := by omega
      conv => rhs; rw [this, Nat.pow_add]
      rw [Nat.mul_div_mul_right _ _ (Nat.two_pow_pos e)]
      simp
  simp only [Nat.shiftLeft_zero]
  rw [this]

theorem trunc_mono {a b : Nat} (h : keyW a ≤ keyW b) : truncW a ≤ truncW b := by
  unfold keyW at h
  unfold truncW
  have h1 := fun h => Nat.div_le_div_right (c := 2 ^ 149) (Nat.le_of_lt (magR_lt (a := rungW a) (b := rungW b) h))
  have h2 := fun h => Nat.div_le_div_right (c := 2 ^ 149) (Nat.le_of_lt (magR_lt (a := rungW b) (b := rungW a) h))
  have h3 : rungW a = rungW b → magR (rungW a) / 2 ^ 149 = magR (rungW b) / 2 ^ 149 := fun h => by rw [h]
  have hz : magR 0 / 2 ^ 149 = 0 := by rw [magR_zero, Nat.zero_div]
  have h4 : rungW a = 0 → magR (rungW a) / 2 ^ 149 = 0 := fun h => by rw [h]; exact hz
  have h5 : rungW b = 0 → magR (rungW b) / 2 ^ 149 = 0 := fun h => by rw [h]; exact hz
  generalize magR (rungW a) / 2 ^ 149 = x at *
  generalize magR (rungW b) / 2 ^ 149 = y at *
  cases ha : negW a <;> cases hb : negW b <;> rw [ha, hb] at h <;> simp [sgnI] at h ⊢
  · by_cases q : rungW a = rungW b
    · rw [h3 q]; omega
    · have := h1 (by omega); omega
  · have := h4 (by omega); have := h5 (by omega); omega
  · by_cases q : rungW a = rungW b
    · rw [h3 q]; omega
    · have := h2 (by omega); omega

/-! ### the words nearest to a whole number -/
theorem magR_of (e k : Nat) (h1 : 8388608 ≤ k) (h2 : k ≤ 16777216) : magR (e * 8388608 + k) = k * 2 ^ e := by
  unfold magR
  rw [if_neg (by omega)]
  by_cases h : k = 16777216
  · subst h
    have e1 : (e * 8388608 + 16777216) % 8388608 = 0 := by omega
    have e2 : (e * 8388608 + 16777216) / 8388608 - 1 = e + 1 := by omega
    rw [e1, e2, Nat.pow_succ]
    generalize 2 ^ e = q
    omega
  · have e1 : (e * 8388608 + k) % 8388608 = k - 8388608 := by omega
    have e2 : (e * 8388608 + k) / 8388608 - 1 = e := by omega
    rw [e1, e2]
    have e3 : 8388608 + (k - 8388608) = k := by omega
    rw [e3]

/-- a word of a sign and a rung -/
def wordS (s : Bool) (r : Nat) : Nat := if s then 2147483648 + r else r
theorem wordS_rung (s : Bool) (r : Nat) (h : r < 2147483648) : rungW (wordS s r) = r := by
  unfold rungW wordS; cases s <;> simp <;> omega
theorem wordS_neg (s : Bool) (r : Nat) (h : r < 2147483648) : negW (wordS s r) = s := by
  unfold negW wordS
  cases s
  · have : r / 2147483648 % 2 = 0 := by omega
    show (r / 2147483648 % 2 == 1) = false
    rw [this]; rfl
  · have : (2147483648 + r) / 2147483648 % 2 = 1 := by omega
    show ((2147483648 + r) / 2147483648 % 2 == 1) = true
    rw [this]; rfl

theorem cut_even (s : Bool) (n d : Nat) (hd : d ≤ n.log2 + 2) : ∃ k, Ieee.Toward.even.cut s n d = k ∧ (k = n / 2 ^ d ∨ k = n / 2 ^ d + 1) ∧ (n % 2 ^ d = 0 → k = n / 2 ^ d) := by
  refine ⟨_, rfl, ?_, ?_⟩
  · unfold Ieee.Toward.cut
    simp only [Nat.shiftLeft_eq, Nat.one_mul]
    rw [Nat.min_eq_left hd]
    generalize (decide (2 ^ d < 2 * (n % 2 ^ d)) || (2 ^ d == 2 * (n % 2 ^ d) && n / 2 ^ d % 2 == 1)) = b
    cases b
    · left; rfl
    · right; rfl
  · intro h
    unfold Ieee.Toward.cut
    simp only [Nat.shiftLeft_eq, Nat.one_mul]
    rw [Nat.min_eq_left hd, h]
    have : 0 < 2 ^ d := Nat.two_pow_pos d
    have h1 : decide (2 ^ d < 2 * 0) = false := by simp
    have h2 : ((2 ^ d == 2 * 0) : Bool) = false := by rw [Nat.mul_zero]; exact beq_false_of_ne (by omega)
    rw [h1, h2]; simp

/-- the rung of a whole number: what is kept of it, and how far it was moved -/
theorem nearest_rung (s : Bool) (n : Nat) (h0 : n ≠ 0) (hn : n ≤ 1000000000) :
    (∃ e k, Ieee.single.nearest s n 0 = wordS s (e * 8388608 + k) ∧ 8388608 ≤ k ∧ k ≤ 16777216 ∧ e ≤ 155 ∧ k * 2 ^ e = n * 2 ^ 149) ∨
    (∃ d k, 1 ≤ d ∧ d ≤ 6 ∧ Ieee.single.nearest s n 0 = wordS s ((149 + d) * 8388608 + k) ∧ 8388608 ≤ n / 2 ^ d ∧ n / 2 ^ d < 16777216 ∧ (k = n / 2 ^ d ∨ k = n / 2 ^ d + 1) ∧ (n % 2 ^ d = 0 → k = n / 2 ^ d)) := by
  have hw : ∀ r, Ieee.single.word s r = wordS s r := by
    intro r; unfold Ieee.Format.word wordS
    have hs : Ieee.single.signWeight = 2147483648 := by decide
    rw [hs]
  have hb : Ieee.single.binade = 8388608 := by decide
  have hl : Ieee.single.leastPlace = -149 := by decide
  have hi : Ieee.single.infRung = 2139095040 := by decide
  have hf : Ieee.single.fractionBits = 23 := by decide
  have hlo : 2 ^ n.log2 ≤ n := Nat.log2_self_le h0
  have hhi : n < 2 ^ (n.log2 + 1) := Nat.lt_log2_self
  have hL : n.log2 ≤ 29 := by
    by_cases q : n.log2 ≤ 29
    · exact q
    · exfalso
      have : 2 ^ 30 ≤ 2 ^ n.log2 := Nat.pow_le_pow_right (by omega) (by omega)
      omega
  by_cases hs : n.log2 ≤ 23
  · left
    refine ⟨n.log2 + 126, n * 2 ^ (23 - n.log2), ?_, ?_, ?_, by omega, ?_⟩
    · unfold Ieee.Format.nearest
      rw [if_neg h0]
      simp only [hl, hf, hb, hi, hw]
      have e1 : max (0 + (n.log2 : Int) - ((23 : Nat) : Int)) (-149) = (n.log2 : Int) - 23 := by omega
      rw [e1]
      have e2 : (0 - ((n.log2 : Int) - 23)).toNat = 23 - n.log2 := by omega
      have e3 : ((n.log2 : Int) - 23 - 0).toNat = 0 := by omega
      have e4 : ((n.log2 : Int) - 23 - -149).toNat = n.log2 + 126 := by omega
      rw [e2, e3, e4]
      obtain ⟨k, hk, _, hk3⟩ := cut_even s (n <<< (23 - n.log2)) 0 (by omega)
      rw [hk, hk3 (by simp [Nat.mod_one])]
      simp only [Nat.pow_zero, Nat.div_one, Nat.shiftLeft_eq]
      have hup : n * 2 ^ (23 - n.log2) < 2 ^ (n.log2 + 1) * 2 ^ (23 - n.log2) := Nat.mul_lt_mul_of_pos_right hhi (Nat.two_pow_pos _)
      rw [← Nat.pow_add] at hup
      have e5 : n.log2 + 1 + (23 - n.log2) = 24 := by omega
      rw [e5] at hup
      rw [Nat.min_eq_left (by omega)]
    · have : 2 ^ n.log2 * 2 ^ (23 - n.log2) ≤ n * 2 ^ (23 - n.log2) := Nat.mul_le_mul_right _ hlo
      rw [← Nat.pow_add] at this
      have e5 : n.log2 + (23 - n.log2) = 23 := by omega
      rw [e5] at this
      omega
    · have hup : n * 2 ^ (23 - n.log2) < 2 ^ (n.log2 + 1) * 2 ^ (23 - n.log2) := Nat.mul_lt_mul_of_pos_right hhi (Nat.two_pow_pos _)
      rw [← Nat.pow_add] at hup
      have e5 : n.log2 + 1 + (23 - n.log2) = 24 := by omega
      rw [e5] at hup
      omega
    · rw [Nat.mul_assoc, ← Nat.pow_add]
      congr 2; omega
  · right
    obtain ⟨d, hd⟩ : ∃ d, n.log2 = 23 + d := ⟨n.log2 - 23, by omega⟩
    rw [hd] at hlo hhi hL
    have p1 : 8388608 * 2 ^ d ≤ n := by rw [Nat.pow_add] at hlo; exact hlo
    have p2 : n < 16777216 * 2 ^ d := by
      have : 23 + d + 1 = 24 + d := by omega
      rw [this, Nat.pow_add] at hhi; exact hhi
    have q1 : 8388608 ≤ n / 2 ^ d := (Nat.le_div_iff_mul_le (Nat.two_pow_pos d)).2 p1
    have q2 : n / 2 ^ d < 16777216 := (Nat.div_lt_iff_lt_mul (Nat.two_pow_pos d)).2 p2
    obtain ⟨k, hk, hk2, hk3⟩ := cut_even s n d (by omega)
    refine ⟨d, k, by omega, by omega, ?_, q1, q2, hk2, hk3⟩
    unfold Ieee.Format.nearest
    rw [if_neg h0]
    simp only [hl, hf, hb, hi, hw]
    have e1 : max (0 + (n.log2 : Int) - ((23 : Nat) : Int)) (-149) = (d : Int) := by omega
    rw [e1]
    have e2 : (0 - (d : Int)).toNat = 0 := by omega
    have e3 : ((d : Int) - 0).toNat = d := by omega
    have e4 : ((d : Int) - -149).toNat = 149 + d := by omega
    rw [e2, e3, e4, Nat.shiftLeft_zero, hk, Nat.min_eq_left (by omega)]

end Go.Proofs.YthimaoipogocfaaGreat

