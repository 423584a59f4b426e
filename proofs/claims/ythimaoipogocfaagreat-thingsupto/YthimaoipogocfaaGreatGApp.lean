import Derived.Test.YthimaoipogocfaaGreatGBytes
import Derived.ArgAppend
import Derived.Laws.OwnMore
namespace Go.Proofs.YthimaoipogocfaaGreat
open Go.RowKit Go.Maps

/-! ### an append behind which the old list still stands -/
theorem owns_prefix {w : World} {base : Nat} {e : TypeId} {size g n m c : Nat} {xs ys : List Value} (h : w.ownsRow base e size (.slice (some ⟨g, 0, none⟩) (n + m) c) (n + m) (xs ++ ys)) (hl : xs.length = n * size) : w.ownsRow base e size (.slice (some ⟨g, 0, none⟩) n c) n xs := by
  refine ⟨hl, ?_⟩
  rcases h.2 with ⟨h0, _⟩ | ⟨g', c', cur, h1, hb, hg, hn, hc, hs, ht⟩
  · cases h0
  · cases h1
    refine .inr ⟨g, c, cur, rfl, hb, hg, by omega, hc, hs, ?_⟩
    have e1 : cur.toList.take (n * size) = (cur.toList.take ((n + m) * size)).take (n * size) := by
      rw [List.take_take, Nat.min_eq_left (Nat.mul_le_mul_right _ (by omega))]
    rw [e1, ht, ← hl, List.take_left]

theorem run_append_keep {P : Program} (w : World) (base : Nat) (t ty e : TypeId) (i : TypeInfo) (z : Value) (size bytes : Nat) (ht : P.underlying t = some (.slice e)) (hi : P.info? e = some i) (hz : i.zero = some z)
    (hsize : i.size = size) (hby : i.bytes = bytes) (hzs : z.cells.size = size) (hsz : 0 < size)
    (v : Value) (n : Nat) (xs : List Value) (hown : w.ownsRow base e size v n xs) (a : Addr) (m c : Nat) (news : List Value) (hl : news.length = m * size) (hnews : ∀ j u, news[j]? = some u → w.cell? (a.add j) = some u) (h1 : ∀ u ∈ news, u.oneCell' = true)
    (h63 : n + m ≤ maxLen) (hbytes : (n + m) * bytes ≤ 140737488355328) (hbase : base ≤ w.heap.size) :
    ∃ v' w', (Builtin.append_ #[t, t] ty #[v, .slice (some a) m c]).run P w = .ok v' w' ∧ w'.ownsRow base e size v' (n + m) (xs ++ news) ∧ w'.ownsRow base e size v n xs ∧ Mod v.ownBlock.toList w w' ∧ (∀ x ∈ v'.ownBlock.toList, x ∈ v.ownBlock.toList ∨ w.heap.size ≤ x) ∧ ((∃ g, v.ownBlock = some g ∧ v'.ownBlock = some g) ∨ Mod [] w w') := by
  rcases hown.2 with ⟨rfl, h0⟩ | ⟨g, cap, cur, rfl, hrest⟩
  · obtain ⟨v', w', hr, h2, h3, _, h5⟩ := run_append_own_at (P := P) w base t ty e i z size bytes ht hi hz hsize hby hzs hsz _ n xs hown a m c news hl hnews h1 h63 hbytes hbase
    refine ⟨v', w', hr, h2, owns_kept hown (Mod.of_grown h3) (by simp [Value.ownBlock]), Mod.of_grown h3, fun x hx => ?_, .inr (Mod.of_grown h3)⟩
    rcases h5 with h5 | h5
    · rw [h5] at hx; simp [Value.ownBlock] at hx
    · rw [h5] at hx; simp at hx; exact .inr (by omega)
  · by_cases hfit : n + m ≤ cap
    · obtain ⟨w', hr, h2, h3⟩ := run_append_fits (P := P) w base t ty e i size ht hi hsize g n cap xs hown a m c news hl hnews h1 hfit
      exact ⟨_, w', hr, h2, owns_prefix h2 hown.1, Mod.of_grown h3, fun x hx => .inl hx, .inl ⟨g, rfl, rfl⟩⟩
    · have hcells : ∀ j u, xs[j]? = some u → w.cell? ((⟨g, 0, none⟩ : Addr).add j) = some u := hown.cells rfl
      obtain ⟨v', w', hr, h2, h3⟩ := run_append_arg_grows (P := P) w t ty e i z size bytes ht hi hz hsize hby hzs hsz ⟨g, 0, none⟩ n cap xs hown.1 hcells a m c news hl hnews (by omega) h63 hbytes
      refine ⟨v', w', hr, owns_base h2 hbase, owns_kept hown (Mod.of_grown h3) (by simp), (Mod.of_grown h3).mono (by simp), fun x hx => .inr (h2.lt x (by simpa using hx)).1, .inr (Mod.of_grown h3)⟩

def KeepPost (base : Nat) (e : TypeId) (size : Nat) (v : Value) (n m : Nat) (xs news : List Value) (w : World) (v' : Value) (w' : World) : Prop :=
  w'.ownsRow base e size v' (n + m) (xs ++ news) ∧ w'.ownsRow base e size v n xs ∧ Mod v.ownBlock.toList w w' ∧ (∀ x ∈ v'.ownBlock.toList, x ∈ v.ownBlock.toList ∨ w.heap.size ≤ x) ∧ ((∃ g, v.ownBlock = some g ∧ v'.ownBlock = some g) ∨ Mod [] w w')

theorem wpList_append_keep {P : Program} (w : World) {ops : Array Oper} {rest : List Oper} {o : Oper} {a : Act} {Q : Exit → Act → World → Prop} (hgd : o.guard = none) (s xo : Operand) (t : TypeId)
    (ho : o.op = .call { callee := .builtin .append, args := #[s, xo], argTypes := #[t, t] })
    (base : Nat) (e : TypeId) (i : TypeInfo) (z : Value) (size bytes : Nat) (ht : P.underlying t = some (.slice e)) (hi : P.info? e = some i) (hz : i.zero = some z)
    (hsize : i.size = size) (hby : i.bytes = bytes) (hzs : z.cells.size = size) (hsz : 0 < size)
    (v : Value) (n : Nat) (xs : List Value) (hs : a.eval s = v) (hown : w.ownsRow base e size v n xs) (ad : Addr) (m c : Nat) (news : List Value) (hx : a.eval xo = .slice (some ad) m c) (hl : news.length = m * size) (hnews : ∀ j u, news[j]? = some u → w.cell? (ad.add j) = some u) (h1 : ∀ u ∈ news, u.oneCell' = true)
    (h63 : n + m ≤ maxLen) (hbytes : (n + m) * bytes ≤ 140737488355328) (hbase : base ≤ w.heap.size)
    (h : ∀ v' w', Hid (KeepPost base e size v n m xs news w v' w') → wpList P ops Q rest (a.put o.dst v') w') : wpList P ops Q (o :: rest) a w := by
  refine wpList_plain hgd fun K hK => ?_
  obtain ⟨v', w', hr, h2, h3, h4, h5, h6⟩ := run_append_keep (P := P) w base t o.type e i z size bytes ht hi hz hsize hby hzs hsz v n xs hown ad m c news hl hnews h1 h63 hbytes hbase
  unfold Oper.wp execOp
  simp only [ho, resolve, invoke, builtin, Sem.run_bind, Sem.run_pure, Result.andThen_ok, List.map_toArray, List.map_cons, List.map_nil, hs, hx, hr]
  exact hK _ _ (h v' w' (hideIt ⟨h2, h3, h4, h5, h6⟩))

/-- what a block that was just laid holds, as what is appended -/
theorem news_alloc (w : World) (cs : Array Value) (e : TypeId) : ∀ j u, cs.toList[j]? = some u → (w.alloc (.cells cs e)).cell? ((⟨w.heap.size, 0, none⟩ : Addr).add j) = some u :=
  World.news_of_block (heap_alloc_new w _)

/-! ### cells that all are what f says -/
def rowF (f : Nat → Value) (n : Nat) : List Value := (List.range n).map f
theorem rowF_length (f : Nat → Value) (n : Nat) : (rowF f n).length = n := by simp [rowF]
theorem rowF_get (f : Nat → Value) {n j : Nat} (h : j < n) : (rowF f n)[j]? = some (f j) := by simp [rowF, h]
theorem rowF_succ (f : Nat → Value) (n : Nat) : rowF f (n + 1) = rowF f n ++ [f n] := by simp [rowF, List.range_succ]
theorem rowF_set {f : Nat → Value} {l : List Value} {k : Nat} (h : k < l.length) : (rowF f k ++ l.drop k).set k (f k) = rowF f (k + 1) ++ l.drop (k + 1) := by
  rw [List.set_append_right _ _ (by rw [rowF_length]; exact Nat.le_refl _), rowF_length, Nat.sub_self, List.drop_eq_getElem_cons h, List.set_cons_zero, rowF_succ, List.append_assoc]
  rfl
theorem rowF_one {f : Nat → Value} (hf : ∀ j, (f j).oneCell' = true) (n : Nat) : ∀ u ∈ rowF f n, u.oneCell' = true := fun u hu => by
  obtain ⟨j, _, rfl⟩ := List.mem_map.1 hu
  exact hf j

/-- a list of N cells, each what f says -/
def Fl (w : World) (u : Value) (n N : Nat) (f : Nat → Value) : Prop := ∃ a c, u = .slice a n c ∧ ∀ j, j < N → ∃ b, a = some ⟨b, 0, none⟩ ∧ w.cell? ⟨b, j, none⟩ = some (f j)
theorem Fl.of_owns {w : World} {base : Nat} {e : TypeId} {size n N : Nat} {v : Value} {f : Nat → Value} (h : w.ownsRow base e size v n (rowF f N)) : Fl w v n N f := by
  have h2 := h
  have hl := h.1
  rw [rowF_length] at hl
  rcases h.2 with ⟨rfl, h0⟩ | ⟨g, cap, cur, rfl, _⟩
  · subst h0
    exact ⟨none, 0, rfl, fun j hj => by omega⟩
  · exact ⟨_, _, rfl, fun j hj => ⟨g, rfl, owns_cell h2 j _ (rowF_get f hj)⟩⟩
theorem Fl.kept {w w' : World} {u : Value} {n N : Nat} {f : Nat → Value} {G : List Nat} (h : Fl w u n N f) (hm : Mod G w w') (hd : ∀ x ∈ u.ownBlock.toList, x ∉ G) : Fl w' u n N f := by
  obtain ⟨a, c, rfl, hc⟩ := h
  refine ⟨a, c, rfl, fun j hj => ?_⟩
  obtain ⟨b, hb, h1⟩ := hc j hj
  exact ⟨b, hb, (hm.cell (World.block_lt_of_cell? w _ h1) (hd b (by subst hb; simp [Value.ownBlock])) j).trans h1⟩
/-- .. behind an append of more such cells to a list of them -/
theorem Fl.next {w w' : World} {base : Nat} {e : TypeId} {size : Nat} {u v v' : Value} {n N k M : Nat} {f : Nat → Value} (h : Fl w u n N f) (hle : N ≤ M) (ho : w'.ownsRow base e size v' k (rowF f M)) (hm : Mod v.ownBlock.toList w w') (hcase : (∃ g, v.ownBlock = some g ∧ v'.ownBlock = some g) ∨ Mod [] w w') : Fl w' u n N f := by
  rcases hcase with ⟨g, hg, hg'⟩ | h0
  · obtain ⟨a, c, rfl, hc⟩ := h
    refine ⟨a, c, rfl, fun j hj => ?_⟩
    obtain ⟨b, hb, h1⟩ := hc j hj
    refine ⟨b, hb, ?_⟩
    by_cases hbg : b = g
    · subst hbg
      obtain ⟨a', c', rfl, hc'⟩ := Fl.of_owns ho
      obtain ⟨b', hb', h2⟩ := hc' j (by omega)
      subst hb'
      simp only [Value.ownBlock, Option.some.injEq] at hg'
      rw [← hg']
      exact h2
    · exact (hm.cell (World.block_lt_of_cell? w _ h1) (by simp [hg]; omega) j).trans h1
  · exact h.kept h0 (by simp)

theorem owns_setL {w : World} {base : Nat} {e : TypeId} {size g n c : Nat} {xs : List Value} (h : w.ownsRow base e size (.slice (some ⟨g, 0, none⟩) n c) n xs) (j : Nat) (u : Value) :
    (w.setCell ⟨g, j, none⟩ u).ownsRow base e size (.slice (some ⟨g, 0, none⟩) n c) n (xs.set j u) := by
  refine ⟨by simpa using h.1, ?_⟩
  rcases h.2 with ⟨h0, _⟩ | ⟨g', c', cur, h1, hb, hg, hn, hc, hs, ht⟩
  · cases h0
  · cases h1
    refine .inr ⟨g, c, cur.setIfInBounds j u, rfl, hb, block_setCell hg j u, hn, hc, by simpa using hs, ?_⟩
    rw [← ht, Array.toList_setIfInBounds, List.take_set]

end Go.Proofs.YthimaoipogocfaaGreat
