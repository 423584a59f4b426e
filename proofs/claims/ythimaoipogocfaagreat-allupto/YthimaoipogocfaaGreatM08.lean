import Derived.Test.YthimaoipogocfaaGreatM07
import Derived.Test.YthimaoipogocfaaGreatM06
import Derived.ArgAppend
import Derived.Laws.OwnMore
import Derived.Deep.RegionHeldLaw
import Derived.Deep.RegionLaw
import Derived.RegionTactic
namespace Go.Proofs.YthimaoipogocfaaGreat
open Go.RowKit Go.Maps
attribute [local go_sem] run_store_f32 run_neg_inf

def thCells (t : Th) : List Value := [.int .i64 t.id, .int .i64 t.x0, .int .i64 t.y0, .int .i64 t.x1, .int .i64 t.y1]
def flat (L : List Th) : List Value := L.flatMap thCells

theorem flat_length (L : List Th) : (flat L).length = L.length * 5 := by
  induction L with
  | nil => rfl
  | cons t L ih => simp only [flat, List.flatMap_cons, List.length_append, List.length_cons] at ih ⊢; rw [ih]; simp [thCells]; omega

theorem flat_append (L M : List Th) : flat (L ++ M) = flat L ++ flat M := by simp [flat]

theorem flat_get (L : List Th) (k : Nat) (t : Th) (h : L[k]? = some t) (j : Nat) (hj : j < 5) : (flat L)[k * 5 + j]? = (thCells t)[j]? := by
  induction L generalizing k with
  | nil => simp at h
  | cons s L ih =>
    have e : flat (s :: L) = thCells s ++ flat L := rfl
    have hl : (thCells s).length = 5 := rfl
    rw [e]
    cases k with
    | zero =>
      simp at h
      subst h
      rw [List.getElem?_append_left (by omega)]
      congr 1
      omega
    | succ k =>
      simp at h
      rw [List.getElem?_append_right (by omega), hl, ← ih k h]
      congr 1
      omega

theorem flat_one (L : List Th) : ∀ u ∈ flat L, u.oneCell' = true := by
  intro u hu
  simp only [flat, List.mem_flatMap] at hu
  obtain ⟨t, _, hu⟩ := hu
  simp [thCells] at hu
  rcases hu with rfl | rfl | rfl | rfl | rfl <;> rfl

theorem thCells_one (t : Th) : ∀ u ∈ thCells t, u.oneCell' = true := by
  intro u hu
  simp [thCells] at hu
  rcases hu with rfl | rfl | rfl | rfl | rfl <;> rfl

/-- cells of the things' row -/
theorem thing_cells {w : World} {g n c : Nat} {L : List Th} (h : w.ownsRow 0 193 5 (.slice (some ⟨g, 0, none⟩) n c) n (flat L)) {k : Nat} {t : Th} (ht : L[k]? = some t) :
    w.cell? ⟨g, k * 5, none⟩ = some (.int .i64 t.id) ∧ w.cell? ⟨g, k * 5 + 1, none⟩ = some (.int .i64 t.x0) ∧ w.cell? ⟨g, k * 5 + 2, none⟩ = some (.int .i64 t.y0) ∧ w.cell? ⟨g, k * 5 + 3, none⟩ = some (.int .i64 t.x1) ∧ w.cell? ⟨g, k * 5 + 4, none⟩ = some (.int .i64 t.y1) := by
  refine ⟨?_, ?_, ?_, ?_, ?_⟩
  · exact owns_cell h _ _ (flat_get L k t ht 0 (by omega))
  · exact owns_cell h _ _ (flat_get L k t ht 1 (by omega))
  · exact owns_cell h _ _ (flat_get L k t ht 2 (by omega))
  · exact owns_cell h _ _ (flat_get L k t ht 3 (by omega))
  · exact owns_cell h _ _ (flat_get L k t ht 4 (by omega))

/-- where the first thing of a number stands -/
def AtIs (L : List Th) (id k : Int) : Prop := (k = -1 ∧ ∀ t ∈ L, t.id ≠ id) ∨ ∃ (n : Nat) (t : Th), k = n ∧ L[n]? = some t ∧ t.id = id ∧ ∀ s ∈ L.take n, s.id ≠ id

def AtPost (L : List Th) (id : Int) (w : World) (e : Ending) (w' : World) : Prop := ∃ k, e = .returned (.int .i64 k) ∧ AtIs L id k ∧ w = w'

theorem at_nil (py : Nat) (id fan last : Int) (lv : Value) (w : World) (ht : w.heap[py]? = some (T58 fan (.slice none 0 0) lv last)) :
    Calls Tryz.prog 121 #[.pointer (some ⟨py, 0, none⟩), .int .i64 id] w (AtPost [] id w) := by
  have h1 := (cell_T58 ht).2.1
  go_enter Tryz.func121, Tryz.ntmps121
  go_wp2
  go_loop [5] (fun i => i = .int .i64 0) (fun _ => 0)
  case atStart => rfl
  case round =>
    subst hrel
    go_wp2
    go_ret
    exact ⟨_, rfl, .inl ⟨rfl, by simp⟩, rfl⟩

set_option maxHeartbeats 400000 in
theorem at_some (py g c : Nat) (id fan last : Int) (lv : Value) (L : List Th) (w : World) (ht : w.heap[py]? = some (T58 fan (.slice (some ⟨g, 0, none⟩) L.length c) lv last))
    (ho : w.ownsRow 0 193 5 (.slice (some ⟨g, 0, none⟩) L.length c) L.length (flat L)) (hL : L.length ≤ 400) :
    Calls Tryz.prog 121 #[.pointer (some ⟨py, 0, none⟩), .int .i64 id] w (AtPost L id w) := by
  have h1 := (cell_T58 ht).2.1
  have HO : Hid (w.ownsRow 0 193 5 (.slice (some ⟨g, 0, none⟩) L.length c) L.length (flat L)) := ho
  clear ho ht
  go_enter Tryz.func121, Tryz.ntmps121
  go_wp2
  go_loop [5] (fun i => ∃ k : Nat, k ≤ L.length ∧ i = .int .i64 k ∧ Hid (∀ s ∈ L.take k, s.id ≠ id)) (fun i => L.length - (intOf i).toNat)
  case atStart => exact ⟨0, Nat.zero_le _, rfl, fun s hs => by simp at hs⟩
  case round =>
    obtain ⟨k, hk, rfl, hno⟩ := hrel
    by_cases hlt : k < L.length
    · have hcs := thing_cells HO.out (List.getElem?_eq_getElem hlt)
      have hc0 := hcs.1
      clear hcs
      by_cases hid : L[k].id = id
      · have hbe : (L[k].id == id) = true := by simp [hid]
        have HI : Hid (L[k].id = id) := hid
        clear hid
        go_wp2
        go_ret
        exact ⟨k, rfl, .inr ⟨k, L[k], rfl, List.getElem?_eq_getElem hlt, HI.out, hno.out⟩, rfl⟩
      · have hbe : (L[k].id == id) = false := by simp [hid]
        go_wp2
        go_round
        case rel =>
          refine ⟨k + 1, by omega, by go_num, fun s hs => ?_⟩
          rw [List.take_succ_eq_append_getElem hlt] at hs
          rcases List.mem_append.1 hs with hs | hs
          · exact hno.out s hs
          · simp at hs
            rw [hs]
            exact hid
        case measure => simp [intOf]; omega
    · go_wp2
      go_ret
      exact ⟨-1, rfl, .inl ⟨rfl, fun t ht => hno.out t (by rwa [List.take_of_length_le (by omega)])⟩, rfl⟩

/-- THE REFERENCE's TREE IN MEMORY: its block, its things' row, its log's row; F: the blocks. -/
def RefRep (w : World) (py : Nat) (fan : Int) (L : List Th) (lg : List Int) (F : List Nat) : Prop :=
  ∃ tv gl cl last nl, w.heap[py]? = some (T58 fan tv (.slice (some ⟨gl, 0, none⟩) nl cl) last) ∧ LastOk last lg ∧ w.ownsRow 0 193 5 tv L.length (flat L) ∧
    w.ownsRow 0 5 1 (.slice (some ⟨gl, 0, none⟩) nl cl) nl (u8s lg) ∧ ByteL lg ∧ (4 ≤ nl ∧ nl = lg.length) ∧ F = py :: gl :: tv.ownBlock.toList

theorem RefRep.kept {w w' : World} {py : Nat} {fan : Int} {L : List Th} {lg : List Int} {F G : List Nat} (h : RefRep w py fan L lg F) (hm : Mod G w w') (hd : ∀ x ∈ F, x ∉ G) : RefRep w' py fan L lg F := by
  obtain ⟨tv, gl, cl, last, nl, h1, h2, h3, h4, h5, h6, rfl⟩ := h
  refine ⟨tv, gl, cl, last, nl, (hm.block py (lt_of_block h1) (hd _ (by simp))).trans h1, h2, owns_kept h3 hm (fun k hk => hd k (by simp [hk])), owns_kept h4 hm (fun k hk => hd k ?_), h5, h6, rfl⟩
  have : k = gl := by simpa [Value.ownBlock] using hk.symm
  simp [this]

theorem RefRep.lt {w : World} {py : Nat} {fan : Int} {L : List Th} {lg : List Int} {F : List Nat} (h : RefRep w py fan L lg F) : ∀ x ∈ F, x < w.heap.size := by
  obtain ⟨tv, gl, cl, last, nl, h1, h2, h3, h4, h5, h6, rfl⟩ := h
  intro x hx
  simp only [List.mem_cons, Option.mem_toList] at hx
  rcases hx with rfl | rfl | hx
  · exact lt_of_block h1
  · exact owns_lt h4 rfl
  · exact owns_lt h3 hx

theorem at_any {w : World} {py : Nat} {fan : Int} {L : List Th} {lg : List Int} {F : List Nat} (h : RefRep w py fan L lg F) (hL : L.length ≤ 400) (id : Int) :
    Calls Tryz.prog 121 #[.pointer (some ⟨py, 0, none⟩), .int .i64 id] w (AtPost L id w) := by
  obtain ⟨tv, gl, cl, last, nl, h1, h2, h3, h4, h5, h6, rfl⟩ := h
  have h3' := h3
  rcases h3.2 with ⟨rfl, h0⟩ | ⟨g, c, cur, rfl, _⟩
  · obtain rfl : L = [] := List.eq_nil_of_length_eq_zero h0
    exact at_nil py id fan last _ w h1
  · exact at_some py g c id fan last _ L w h1 h3' hL

end Go.Proofs.YthimaoipogocfaaGreat

namespace Go.Proofs.YthimaoipogocfaaGreat
open Go.RowKit Go.Maps

/-! ### an append behind which the old list still stands -/
theorem owns_prefix {w : World} {base : Nat} {e : TypeId} {size g n m c : Nat} {xs ys : List Value} (h : w.ownsRow base e size (.slice (some ⟨g, 0, none⟩) (n + m) c) (n + m) (xs ++ ys)) (hl : xs.length = n * size) : w.ownsRow base e size (.slice (some ⟨g, 0, none⟩) n c) n xs := by
  refine ⟨hl, ?_⟩
  rcases h.2 with ⟨h0, _⟩ | ⟨g', c', cur, h1, hb, hg, hn, hc, hs, ht⟩
  · cases h0
  · cases h1
    refine .inr ⟨g, c, cur, rfl, hb, hg, by omega, hc, hs, ?_⟩
    have e1 : cur.toList.take (n * size) = (cur.toList.take ((n + m) * size)).take (n * size) := by
      rw [List.take_take, Nat.min_eq_left (Nat.mul_le_mul_right _ (by omega))]
    rw [e1, ht, ← hl, List.take_left]

theorem run_append_keep {P : Program} (w : World) (base : Nat) (t ty e : TypeId) (i : TypeInfo) (z : Value) (size bytes : Nat) (ht : P.underlying t = some (.slice e)) (hi : P.info? e = some i) (hz : i.zero = some z)
    (hsize : i.size = size) (hby : i.bytes = bytes) (hzs : z.cells.size = size) (hsz : 0 < size)
    (v : Value) (n : Nat) (xs : List Value) (hown : w.ownsRow base e size v n xs) (a : Addr) (m c : Nat) (news : List Value) (hl : news.length = m * size) (hnews : ∀ j u, news[j]? = some u → w.cell? (a.add j) = some u) (h1 : ∀ u ∈ news, u.oneCell' = true)
    (h63 : n + m ≤ maxLen) (hbytes : (n + m) * bytes ≤ 140737488355328) (hbase : base ≤ w.heap.size) :
    ∃ v' w', (Builtin.append_ #[t, t] ty #[v, .slice (some a) m c]).run P w = .ok v' w' ∧ w'.ownsRow base e size v' (n + m) (xs ++ news) ∧ w'.ownsRow base e size v n xs ∧ Mod v.ownBlock.toList w w' ∧ (∀ x ∈ v'.ownBlock.toList, x ∈ v.ownBlock.toList ∨ w.heap.size ≤ x) ∧ ((∃ g, v.ownBlock = some g ∧ v'.ownBlock = some g) ∨ Mod [] w w') := by
  rcases hown.2 with ⟨rfl, h0⟩ | ⟨g, cap, cur, rfl, hrest⟩
  · obtain ⟨v', w', hr, h2, h3, _, h5⟩ := run_append_own_at (P := P) w base t ty e i z size bytes ht hi hz hsize hby hzs hsz _ n xs hown a m c news hl hnews h1 h63 hbytes hbase
    refine ⟨v', w', hr, h2, owns_kept hown (Mod.of_grown h3) (by simp [Value.ownBlock]), Mod.of_grown h3, fun x hx => ?_, .inr (Mod.of_grown h3)⟩
    rcases h5 with h5 | h5
    · rw [h5] at hx; simp [Value.ownBlock] at hx
    · rw [h5] at hx; simp at hx; exact .inr (by omega)
  · by_cases hfit : n + m ≤ cap
    · obtain ⟨w', hr, h2, h3⟩ := run_append_fits (P := P) w base t ty e i size ht hi hsize g n cap xs hown a m c news hl hnews h1 hfit
      exact ⟨_, w', hr, h2, owns_prefix h2 hown.1, Mod.of_grown h3, fun x hx => .inl hx, .inl ⟨g, rfl, rfl⟩⟩
    · have hcells : ∀ j u, xs[j]? = some u → w.cell? ((⟨g, 0, none⟩ : Addr).add j) = some u := hown.cells rfl
      obtain ⟨v', w', hr, h2, h3⟩ := run_append_arg_grows (P := P) w t ty e i z size bytes ht hi hz hsize hby hzs hsz ⟨g, 0, none⟩ n cap xs hown.1 hcells a m c news hl hnews (by omega) h63 hbytes
      refine ⟨v', w', hr, owns_base h2 hbase, owns_kept hown (Mod.of_grown h3) (by simp), (Mod.of_grown h3).mono (by simp), fun x hx => .inr (h2.lt x (by simpa using hx)).1, .inr (Mod.of_grown h3)⟩

def KeepPost (base : Nat) (e : TypeId) (size : Nat) (v : Value) (n m : Nat) (xs news : List Value) (w : World) (v' : Value) (w' : World) : Prop :=
  w'.ownsRow base e size v' (n + m) (xs ++ news) ∧ w'.ownsRow base e size v n xs ∧ Mod v.ownBlock.toList w w' ∧ (∀ x ∈ v'.ownBlock.toList, x ∈ v.ownBlock.toList ∨ w.heap.size ≤ x) ∧ ((∃ g, v.ownBlock = some g ∧ v'.ownBlock = some g) ∨ Mod [] w w')

theorem wpList_append_keep {P : Program} (w : World) {ops : Array Oper} {rest : List Oper} {o : Oper} {a : Act} {Q : Exit → Act → World → Prop} (hgd : o.guard = none) (s xo : Operand) (t : TypeId)
    (ho : o.op = .call { callee := .builtin .append, args := #[s, xo], argTypes := #[t, t] })
    (base : Nat) (e : TypeId) (i : TypeInfo) (z : Value) (size bytes : Nat) (ht : P.underlying t = some (.slice e)) (hi : P.info? e = some i) (hz : i.zero = some z)
    (hsize : i.size = size) (hby : i.bytes = bytes) (hzs : z.cells.size = size) (hsz : 0 < size)
    (v : Value) (n : Nat) (xs : List Value) (hs : a.eval s = v) (hown : w.ownsRow base e size v n xs) (ad : Addr) (m c : Nat) (news : List Value) (hx : a.eval xo = .slice (some ad) m c) (hl : news.length = m * size) (hnews : ∀ j u, news[j]? = some u → w.cell? (ad.add j) = some u) (h1 : ∀ u ∈ news, u.oneCell' = true)
    (h63 : n + m ≤ maxLen) (hbytes : (n + m) * bytes ≤ 140737488355328) (hbase : base ≤ w.heap.size)
    (h : ∀ v' w', Hid (KeepPost base e size v n m xs news w v' w') → wpList P ops Q rest (a.put o.dst v') w') : wpList P ops Q (o :: rest) a w := by
  refine wpList_plain hgd fun K hK => ?_
  obtain ⟨v', w', hr, h2, h3, h4, h5, h6⟩ := run_append_keep (P := P) w base t o.type e i z size bytes ht hi hz hsize hby hzs hsz v n xs hown ad m c news hl hnews h1 h63 hbytes hbase
  unfold Oper.wp execOp
  simp only [ho, resolve, invoke, builtin, Sem.run_bind, Sem.run_pure, Result.andThen_ok, List.map_toArray, List.map_cons, List.map_nil, hs, hx, hr]
  exact hK _ _ (h v' w' (hideIt ⟨h2, h3, h4, h5, h6⟩))

/-- what a block that was just laid holds, as what is appended -/
theorem news_alloc (w : World) (cs : Array Value) (e : TypeId) : ∀ j u, cs.toList[j]? = some u → (w.alloc (.cells cs e)).cell? ((⟨w.heap.size, 0, none⟩ : Addr).add j) = some u :=
  World.news_of_block (heap_alloc_new w _)

/-! ### cells that all are what f says -/
def rowF (f : Nat → Value) (n : Nat) : List Value := (List.range n).map f
theorem rowF_length (f : Nat → Value) (n : Nat) : (rowF f n).length = n := by simp [rowF]
theorem rowF_get (f : Nat → Value) {n j : Nat} (h : j < n) : (rowF f n)[j]? = some (f j) := by simp [rowF, h]
theorem rowF_succ (f : Nat → Value) (n : Nat) : rowF f (n + 1) = rowF f n ++ [f n] := by simp [rowF, List.range_succ]
theorem rowF_set {f : Nat → Value} {l : List Value} {k : Nat} (h : k < l.length) : (rowF f k ++ l.drop k).set k (f k) = rowF f (k + 1) ++ l.drop (k + 1) := by
  rw [List.set_append_right _ _ (by rw [rowF_length]; exact Nat.le_refl _), rowF_length, Nat.sub_self, List.drop_eq_getElem_cons h, List.set_cons_zero, rowF_succ, List.append_assoc]
  rfl
theorem rowF_one {f : Nat → Value} (hf : ∀ j, (f j).oneCell' = true) (n : Nat) : ∀ u ∈ rowF f n, u.oneCell' = true := fun u hu => by
  obtain ⟨j, _, rfl⟩ := List.mem_map.1 hu
  exact hf j

/-- a list of N cells, each what f says -/
def Fl (w : World) (u : Value) (n N : Nat) (f : Nat → Value) : Prop := ∃ a c, u = .slice a n c ∧ ∀ j, j < N → ∃ b, a = some ⟨b, 0, none⟩ ∧ w.cell? ⟨b, j, none⟩ = some (f j)
theorem Fl.of_owns {w : World} {base : Nat} {e : TypeId} {size n N : Nat} {v : Value} {f : Nat → Value} (h : w.ownsRow base e size v n (rowF f N)) : Fl w v n N f := by
  have h2 := h
  have hl := h.1
  rw [rowF_length] at hl
  rcases h.2 with ⟨rfl, h0⟩ | ⟨g, cap, cur, rfl, _⟩
  · subst h0
    exact ⟨none, 0, rfl, fun j hj => by omega⟩
  · exact ⟨_, _, rfl, fun j hj => ⟨g, rfl, owns_cell h2 j _ (rowF_get f hj)⟩⟩
theorem Fl.kept {w w' : World} {u : Value} {n N : Nat} {f : Nat → Value} {G : List Nat} (h : Fl w u n N f) (hm : Mod G w w') (hd : ∀ x ∈ u.ownBlock.toList, x ∉ G) : Fl w' u n N f := by
  obtain ⟨a, c, rfl, hc⟩ := h
  refine ⟨a, c, rfl, fun j hj => ?_⟩
  obtain ⟨b, hb, h1⟩ := hc j hj
  exact ⟨b, hb, (hm.cell (World.block_lt_of_cell? w _ h1) (hd b (by subst hb; simp [Value.ownBlock])) j).trans h1⟩
/-- .. behind an append of more such cells to a list of them -/
theorem Fl.next {w w' : World} {base : Nat} {e : TypeId} {size : Nat} {u v v' : Value} {n N k M : Nat} {f : Nat → Value} (h : Fl w u n N f) (hle : N ≤ M) (ho : w'.ownsRow base e size v' k (rowF f M)) (hm : Mod v.ownBlock.toList w w') (hcase : (∃ g, v.ownBlock = some g ∧ v'.ownBlock = some g) ∨ Mod [] w w') : Fl w' u n N f := by
  rcases hcase with ⟨g, hg, hg'⟩ | h0
  · obtain ⟨a, c, rfl, hc⟩ := h
    refine ⟨a, c, rfl, fun j hj => ?_⟩
    obtain ⟨b, hb, h1⟩ := hc j hj
    refine ⟨b, hb, ?_⟩
    by_cases hbg : b = g
    · subst hbg
      obtain ⟨a', c', rfl, hc'⟩ := Fl.of_owns ho
      obtain ⟨b', hb', h2⟩ := hc' j (by omega)
      subst hb'
      simp only [Value.ownBlock, Option.some.injEq] at hg'
      rw [← hg']
      exact h2
    · exact (hm.cell (World.block_lt_of_cell? w _ h1) (by simp [hg]; omega) j).trans h1
  · exact h.kept h0 (by simp)

theorem owns_setL {w : World} {base : Nat} {e : TypeId} {size g n c : Nat} {xs : List Value} (h : w.ownsRow base e size (.slice (some ⟨g, 0, none⟩) n c) n xs) (j : Nat) (u : Value) :
    (w.setCell ⟨g, j, none⟩ u).ownsRow base e size (.slice (some ⟨g, 0, none⟩) n c) n (xs.set j u) := by
  refine ⟨by simpa using h.1, ?_⟩
  rcases h.2 with ⟨h0, _⟩ | ⟨g', c', cur, h1, hb, hg, hn, hc, hs, ht⟩
  · cases h0
  · cases h1
    refine .inr ⟨g, c, cur.setIfInBounds j u, rfl, hb, block_setCell hg j u, hn, hc, by simpa using hs, ?_⟩
    rw [← ht, Array.toList_setIfInBounds, List.take_set]

end Go.Proofs.YthimaoipogocfaaGreat

namespace Go.Proofs.YthimaoipogocfaaGreat
open Go.RowKit Go.Maps
attribute [local go_sem] run_store_f32 run_neg_inf

def findT (L : List Th) (id : Int) : Option Nat := L.findIdx? (fun s => s.id == id)

theorem AtIs.find {L : List Th} {id k : Int} (h : AtIs L id k) : (k = -1 ∧ findT L id = none) ∨ ∃ n : Nat, k = n ∧ findT L id = some n ∧ n < L.length := by
  rcases h with ⟨rfl, h⟩ | ⟨n, t, rfl, hn, ht, hb⟩
  · exact .inl ⟨rfl, by rw [findT, List.findIdx?_eq_none_iff]; intro s hs; simpa using h s hs⟩
  · obtain ⟨hlt, he⟩ := List.getElem?_eq_some_iff.1 hn
    refine .inr ⟨n, rfl, ?_, hlt⟩
    rw [findT, List.findIdx?_eq_some_iff_getElem]
    refine ⟨hlt, by rw [he]; simp [ht], fun j hj => ?_⟩
    have := hb (L[j]'(by omega)) (by
      rw [List.mem_take_iff_getElem]
      exact ⟨j, by omega, rfl⟩)
    simpa using this

/-- what a Put does -/
def putF (L : List Th) (t : Th) : Int × List Th :=
  if idB t.id = false then (1, L) else if rectB t.x0 t.y0 t.x1 t.y1 = false then (2, L) else
  match findT L t.id with
  | none => if 400 ≤ L.length then (4, L) else (0, L ++ [t])
  | some n => (0, L.set n t)

def putFL (L : List Th) (lg : List Int) (t : Th) : List Int := if (putF L t).1 = 0 then putLT L lg t else lg
theorem findT_has {L : List Th} {id : Int} : hasT L id = (findT L id).isSome := by
  unfold hasT findT
  rw [List.findIdx?_isSome]

def RefPutPost (py : Nat) (fan : Int) (r : Int × List Th) (lg' : List Int) (F : List Nat) (w : World) (e : Ending) (w' : World) : Prop :=
  e = .returned (.int .i64 r.1) ∧ ∃ F', RefRep w' py fan r.2 lg' F' ∧ Mod F w w' ∧ ∀ x ∈ F', x ∈ F ∨ w.heap.size ≤ x

theorem refPut_same {py : Nat} {fan : Int} {L : List Th} {lg : List Int} {F : List Nat} {w w' : World} (h : RefRep w py fan L lg F) (hm : Mod [] w w') (c : Int) : RefPutPost py fan (c, L) lg F w (.returned (.int .i64 c)) w' :=
  ⟨rfl, F, h.kept hm (by simp), hm.nil, fun x hx => .inl hx⟩

theorem refPut_id {w : World} {py : Nat} {fan : Int} {L : List Th} {lg : List Int} {F : List Nat} (h : RefRep w py fan L lg F) (t : Th) (hid : idB t.id = false) :
    Calls Tryz.prog 120 #[.pointer (some ⟨py, 0, none⟩), .int .i64 t.id, R4 t.x0 t.y0 t.x1 t.y1] w (RefPutPost py fan (putF L t) (putFL L lg t) F w) := by
  have e : putF L t = (1, L) := by simp [putF, hid]
  have e2 : putFL L lg t = lg := by unfold putFL; rw [e]; rfl
  rw [e2, e]
  have hn : ¬ (0 ≤ t.id ∧ t.id ≤ 4095) := fun hh => by rw [idB_iff.2 hh] at hid; cases hid
  clear e e2
  by_cases h0 : t.id < 0
  · go_enter Tryz.func120, Tryz.ntmps120
    go_wp2
    go_ret
    exact refPut_same h (Mod.alloc _ _) 1
  · have h1 : 4096 ≤ t.id := by omega
    go_enter Tryz.func120, Tryz.ntmps120
    go_wp2
    go_ret
    exact refPut_same h (Mod.alloc _ _) 1

theorem refPut_rect {w : World} {py : Nat} {fan : Int} {L : List Th} {lg : List Int} {F : List Nat} (h : RefRep w py fan L lg F) (t : Th) (hid : idB t.id = true) (hr : rectB t.x0 t.y0 t.x1 t.y1 = false) :
    Calls Tryz.prog 120 #[.pointer (some ⟨py, 0, none⟩), .int .i64 t.id, R4 t.x0 t.y0 t.x1 t.y1] w (RefPutPost py fan (putF L t) (putFL L lg t) F w) := by
  have e : putF L t = (2, L) := by simp [putF, hid, hr]
  have e2 : putFL L lg t = lg := by unfold putFL; rw [e]; rfl
  rw [e2, e]
  obtain ⟨h0, h1⟩ := idB_iff.1 hid
  clear e e2
  go_enter Tryz.func120, Tryz.ntmps120
  go_wp2_with fail
  refine (Rect_any _ _ _ _ _).mono ?_
  rw [hr]
  rintro e w' ⟨rfl, rfl⟩
  go_wp2
  go_ret
  exact refPut_same h ((Mod.alloc _ _).trans (Mod.alloc _ _)) 2

set_option maxRecDepth 100000 in
set_option maxHeartbeats 400000 in
theorem refPut_full {w : World} {py : Nat} {fan : Int} {L : List Th} {lg : List Int} {F : List Nat} (h : RefRep w py fan L lg F) (hL : L.length ≤ 400) (t : Th) (hid : idB t.id = true) (hr : rectB t.x0 t.y0 t.x1 t.y1 = true) (hf : findT L t.id = none) (hl : 400 ≤ L.length) :
    Calls Tryz.prog 120 #[.pointer (some ⟨py, 0, none⟩), .int .i64 t.id, R4 t.x0 t.y0 t.x1 t.y1] w (RefPutPost py fan (putF L t) (putFL L lg t) F w) := by
  have e : putF L t = (4, L) := by simp [putF, hid, hr, hf, hl]
  have e2 : putFL L lg t = lg := by unfold putFL; rw [e]; rfl
  rw [e2, e]
  obtain ⟨h0, h1⟩ := idB_iff.1 hid
  have HF : Hid (findT L t.id = none) := hf
  clear e hf
  go_enter Tryz.func120, Tryz.ntmps120
  go_wp2_with fail
  refine (Rect_any _ _ _ _ _).mono ?_
  rw [hr]
  rintro e w1 ⟨rfl, hw1⟩
  have hm1 : Mod [] w w1 := by rw [hw1]; exact (Mod.alloc _ _).trans (Mod.alloc _ _)
  have hR1 := h.kept hm1 (by simp)
  clear hw1
  go_wp2_with fail
  refine (at_any hR1 hL _).mono ?_
  rintro e w' ⟨k, rfl, hat, rfl⟩
  have hk : k = -1 := by
    rcases hat.find with ⟨h, _⟩ | ⟨n, _, hn, _⟩
    · exact h
    · rw [HF.out] at hn; cases hn
  subst hk
  clear hat
  obtain ⟨tv, gl, cl, last, nl, h1', h2, h3, h4, h5, h6, rfl⟩ := hR1
  have hc1 := (cell_T58 h1').2.1
  rcases h3.2 with ⟨rfl, hz⟩ | ⟨g, c, cur, rfl, hrest⟩
  · omega
  · clear hrest h3 h4 h5 h2 h1'
    go_wp2
    go_ret
    exact refPut_same h hm1 4

theorem owns_ne' {w : World} {base : Nat} {e e' : TypeId} {size n b : Nat} {v : Value} {xs : List Value} {cs : Array Value} {fr : Nat × Nat} (h : w.ownsRow base e size v n xs) (hb : w.heap[b]? = some (.cells cs e' fr)) (hne : e ≠ e') : b ∉ v.ownBlock.toList := by
  rcases h.2 with ⟨rfl, _⟩ | ⟨g', c', cur, rfl, _, h2, _⟩
  · simp [Value.ownBlock]
  · have : g' ≠ b := by
      rintro rfl
      rw [hb] at h2
      cases h2
      exact hne rfl
    simp [Value.ownBlock]
    omega

theorem owns_apart {w : World} {base base' : Nat} {e e' : TypeId} {size size' n n' : Nat} {v v' : Value} {xs xs' : List Value} (h : w.ownsRow base e size v n xs) (h' : w.ownsRow base' e' size' v' n' xs') (hne : e ≠ e') : ∀ k, v.ownBlock = some k → k ∉ v'.ownBlock.toList := fun k hk => by
  rcases h.2 with ⟨rfl, _⟩ | ⟨g', c', cur, rfl, _, h2, _⟩
  · cases hk
  · obtain rfl : g' = k := by simpa [Value.ownBlock] using hk
    exact owns_ne' h' h2 (fun e => hne e.symm)

theorem infoTh : (Tryz.prog.info? 193).map (fun i => (i.zero, i.size, i.bytes)) = some (some (.agg #[.int .i64 0, .int .i64 0, .int .i64 0, .int .i64 0, .int .i64 0]), 5, 40) := by kernel_rfl

set_option maxRecDepth 100000 in
set_option maxHeartbeats 400000 in
theorem refPut_new {w : World} {py : Nat} {fan : Int} {L : List Th} {lg : List Int} {F : List Nat} (h : RefRep w py fan L lg F) (hnl : lg.length ≤ 99999900) (t : Th) (hid : idB t.id = true) (hr : rectB t.x0 t.y0 t.x1 t.y1 = true) (hf : findT L t.id = none) (hl : L.length < 400) :
    Calls Tryz.prog 120 #[.pointer (some ⟨py, 0, none⟩), .int .i64 t.id, R4 t.x0 t.y0 t.x1 t.y1] w (RefPutPost py fan (putF L t) (putFL L lg t) F w) := by
  have e : putF L t = (0, L ++ [t]) := by simp [putF, hid, hr, hf]; omega
  have e2 : putFL L lg t = lg ++ recF lg 80 (putB t.id t.x0 t.y0 t.x1 t.y1) := by
    unfold putFL putLT
    rw [e, if_pos rfl, findT_has, hf]
    rfl
  rw [e2, e]
  clear e2
  obtain ⟨h0, h1⟩ := idB_iff.1 hid
  have HF : Hid (findT L t.id = none) := hf
  clear e hf
  go_enter Tryz.func120, Tryz.ntmps120
  go_wp2_with fail
  refine (Rect_any _ _ _ _ _).mono ?_
  rw [hr]
  rintro e w1 ⟨rfl, hw1⟩
  have hm1 : Mod [] w w1 := by rw [hw1]; exact (Mod.alloc _ _).trans (Mod.alloc _ _)
  have hbx1 : w1.heap[w.heap.size]? = some (B4 t.x0 t.y0 t.x1 t.y1) := by
    rw [hw1, Below.heap_alloc _ _ _ (by simp)]
    exact heap_alloc_new w _
  have hR1 := h.kept hm1 (by simp)
  clear hw1
  go_wp2_with fail
  refine (at_any hR1 (by omega) _).mono ?_
  rintro e w' ⟨k, rfl, hat, rfl⟩
  have hk : k = -1 := by
    rcases hat.find with ⟨h, _⟩ | ⟨n, _, hn, _⟩
    · exact h
    · rw [HF.out] at hn; cases hn
  subst hk
  clear hat
  obtain ⟨tv, gl, cl, last, nl, ht1, h2, h3, h4, h5, h6, hF⟩ := hR1
  have HH : Hid (F = py :: gl :: tv.ownBlock.toList) := hF
  clear hF
  have hlen : ∃ a c, tv = .slice a L.length c := by
    rcases h3.2 with ⟨rfl, hz⟩ | ⟨g, c, cur, rfl, hrest⟩
    · exact ⟨none, 0, by rw [hz]⟩
    · exact ⟨_, _, rfl⟩
  obtain ⟨ta, tc, rfl⟩ := hlen
  have hc1 := (cell_T58 ht1).2.1
  have hcb := cell_B4 hbx1
  obtain ⟨cb0, cb1, cb2, cb3⟩ := hcb
  go_wp2_with fail
  refine (Body_any t.id _ _ _ _ _ ⟨h0, h1⟩ (rectB_ok hr)).mono ?_
  rintro e w2 ⟨gb, cb, rfl, hob, hb2⟩
  have hbu : ByteL (putB t.id t.x0 t.y0 t.x1 t.y1) := by have := Rc.body_byte (rcPut true t.id t.x0 t.y0 t.x1 t.y1); exact this
  obtain ⟨bs, hbs⟩ : ∃ bs, putB t.id t.x0 t.y0 t.x1 t.y1 = bs := ⟨_, rfl⟩
  rw [hbs] at hob hbu
  have HBS := hideIt hbs
  clear hbs
  have hm2 := hb2
  obtain ⟨i1, hi, hz0, hz1, hz2⟩ := info_partsB infoTh
  have ht2 := (hm2.block py (lt_of_block ht1) (by simp)).trans ht1
  have hbx2 := (hm2.block w.heap.size (lt_of_block hbx1) (by simp)).trans hbx1
  have h32 := owns_kept h3 hm2 (by simp)
  have h42 := owns_kept h4 hm2 (by simp)
  have hM2 := hm1.trans hm2
  have hsz1 := hM2.size
  clear hm1 hm2 hb2 ht1 h3 h4 hc1 cb0 cb1 cb2 cb3 hbx1
  have hc1 := (cell_T58 ht2).2.1
  obtain ⟨cb0, cb1, cb2, cb3⟩ := cell_B4 hbx2
  go_wp2_with fail
  have hown3 : ((w2.alloc (.cells #[.int .i64 t.id, .int .i64 t.x0, .int .i64 t.y0, .int .i64 t.x1, .int .i64 t.y1] 193)).drew).ownsRow 0 193 5 (.slice ta L.length tc) L.length (flat L) :=
    owns_kept h32 ((Mod.alloc (F := []) _ _).trans (Mod.drew _)) (by simp)
  have hsrc3 : srcRow ((w2.alloc (.cells #[.int .i64 t.id, .int .i64 t.x0, .int .i64 t.y0, .int .i64 t.x1, .int .i64 t.y1] 193)).drew) 5 (.slice (some ⟨w2.heap.size, 0, none⟩) 1 1) 1 (thCells t) := by
    refine srcRow_mod (srcRow_of_owns (owns_allocB (w := w2) (cur := #[.int .i64 t.id, .int .i64 t.x0, .int .i64 t.y0, .int .i64 t.x1, .int .i64 t.y1]) (e := 193) (n := 1) (size := 5) rfl (by decide) (base := 0) (Nat.zero_le _)) ?_) (Mod.drew _)
    exact thCells_one t
  have hne := owns_ne' h32 ht2 (by decide)
  have ht3f : ∀ w3, Mod (Value.slice ta L.length tc).ownBlock.toList ((w2.alloc (.cells #[.int .i64 t.id, .int .i64 t.x0, .int .i64 t.y0, .int .i64 t.x1, .int .i64 t.y1] 193)).drew) w3 → w3.heap[py]? = some (T58 fan (.slice ta L.length tc) (.slice (some ⟨gl, 0, none⟩) nl cl) last) := fun w3 hm => by
    rw [hm.block py (by have := lt_of_block ht2; simp; omega) hne]
    exact (Below.heap_alloc _ _ _ (lt_of_block ht2)).trans ht2
  have hc1b : ∀ o, (w2.alloc o).cell? ⟨py, 1, none⟩ = some (.slice ta L.length tc) := fun o => ((Mod.alloc (F := []) w2 o).cell (lt_of_block ht2) (by simp) 1).trans hc1
  have HO3 := hideIt hown3
  have HS3 := hideIt hsrc3
  have HT3 := hideIt ht3f
  clear hown3 hsrc3 ht3f
  go_region_law (refine step_append_rows _ rfl _ _ 104 rfl 0 193 i1 (.agg #[.int .i64 0, .int .i64 0, .int .i64 0, .int .i64 0, .int .i64 0]) 5 40 Tryz.underlying104 hi hz0 hz1 hz2 rfl (by decide) _ L.length (flat L) rfl HO3.out _ 1 (thCells t) rfl HS3.out (by omega) (by unfold maxLen; omega) (by omega) (Nat.zero_le _) ?_; intro g3 c3 w3 ho3 hm3 hat3; have ht3 := HT3.out w3 hm3; have hc3 := (cell_T58 ht3).2.1; have hf3 := frozen_of_block ht3 1)
  all_goals
    have hm3' : Mod (Value.slice ta L.length tc).ownBlock.toList ((w2.alloc (.cells #[.int .i64 t.id, .int .i64 t.x0, .int .i64 t.y0, .int .i64 t.x1, .int .i64 t.y1] 193)).drew) w3 := hm3
    have hat3' : (Value.slice ta L.length tc).ownBlock = some g3 ∨ g3 = w2.heap.size + 1 := by
      rcases hat3 with h | h
      · exact .inl h
      · exact .inr (by simpa using h)
    have hmw3 : Mod (Value.slice ta L.length tc).ownBlock.toList w2 w3 := ((Mod.alloc _ _).trans (Mod.drew _)).trans hm3'
    have ho3' : w3.ownsRow 0 193 5 (.slice (some ⟨g3, 0, none⟩) (L.length + 1) c3) (L.length + 1) (catL (flat L) (thCells t)) := ho3
    have hob3 := owns_kept hob hmw3 (by rintro k rfl2; intro hk; exact (owns_apart hob h32 (by decide)) k rfl2 hk)
    have h43 := owns_kept h42 hmw3 (by rintro k rfl2; intro hk; exact (owns_apart h42 h32 (by decide)) k rfl2 hk)
    clear hm3 hat3 ho3 hm3' hob h42 h32 HO3 HS3 HT3 hc1 cb0 cb1 cb2 cb3 hc1b hbx2 ht2
    have hg3 : g3 ≠ py := owns_ne ho3' ht3 (by decide)
    have hgl : gl ≠ py := owns_ne h43 ht3 (by decide)
    have hgb : gb ≠ py := owns_ne hob3 ht3 (by decide)
    have hms : Mod [py] w3 (w3.setCell ⟨py, 1, none⟩ (.slice (some ⟨g3, 0, none⟩) (L.length + 1) c3)) := Mod.setCell _ _ _ (by simp)
    have ht4 := T58_set1 (tv' := .slice (some ⟨g3, 0, none⟩) (L.length + 1) c3) ht3
    have ho4 := owns_kept ho3' hms (by simpa [Value.ownBlock] using hg3)
    have h44 := owns_kept h43 hms (by simpa [Value.ownBlock] using hgl)
    have hob4 := owns_kept hob3 hms (by simpa [Value.ownBlock] using hgb)
    clear hob3 h43 ho3' ht3 hc3 hf3
    generalize w3.setCell ⟨py, 1, none⟩ (.slice (some ⟨g3, 0, none⟩) (L.length + 1) c3) = w4 at *
    go_wp2_with fail
    refine (note_more py fan last 80 _ gl nl cl lg _ 18 bs w4 ht4 h2 h44 h5 h6 (by omega) (by omega) (by omega) (srcRow_of_owns hob4 (u8s_one _)) hbu).mono ?_
    rintro e w5 ⟨rfl, gn, cn, last', nl', ht5, hl5, ho5, hu5, hn5, hm5⟩
    have hfin : RefPutPost py fan (0, L ++ [t]) (lg ++ recF lg 80 bs) F w (.returned (.int .i64 0)) w5 := by
      have hz3 := hmw3.size
      have hz4 := hms.size
      have hgn := (ho5.lt gn rfl).1
      refine ⟨rfl, py :: gn :: [g3], ⟨_, gn, cn, last', nl', ht5, hl5, ?_, owns_base ho5 (Nat.zero_le _), hu5, hn5, rfl⟩, ?_, ?_⟩
      · have := owns_kept ho4 hm5 (by simpa [Value.ownBlock] using hg3)
        rw [show (L ++ [t]).length = L.length + 1 by simp, show flat (L ++ [t]) = catL (flat L) (thCells t) by simp [flat, catL]]
        exact this
      · rw [HH.out]
        exact ((hM2.nil.trans (hmw3.mono (by intro x hx; simp [hx]))).trans (hms.mono (by simp))).trans (hm5.mono (by simp))
      · intro x hx
        rw [HH.out]
        simp at hx
        rcases hx with rfl | rfl | rfl
        · exact .inl (by simp)
        · exact .inr (by omega)
        · rcases hat3' with h | h
          · exact .inl (by simp [h])
          · exact .inr (by omega)
    have HFIN := hideIt hfin
    clear hfin ht5 ho5 hm5 ht4 ho4 h44 hob4
    go_wp2
    go_ret
    rw [HBS.out]
    exact HFIN.out

end Go.Proofs.YthimaoipogocfaaGreat

namespace Go.Proofs.YthimaoipogocfaaGreat
open Go.RowKit Go.Maps
attribute [local go_sem] run_store_f32 run_neg_inf

theorem flat_set (L : List Th) (n : Nat) (s t : Th) (hn : L[n]? = some s) (hid : s.id = t.id) :
    ((((flat L).set (n * 5 + 1) (.int .i64 t.x0)).set (n * 5 + 2) (.int .i64 t.y0)).set (n * 5 + 3) (.int .i64 t.x1)).set (n * 5 + 4) (.int .i64 t.y1) = flat (L.set n t) := by
  induction L generalizing n with
  | nil => simp at hn
  | cons a L ih =>
    cases n with
    | zero =>
      simp at hn
      subst hn
      simp [flat, thCells, hid]
    | succ n =>
      simp at hn
      have e : ∀ M : List Value, ∀ j u, (thCells a ++ M).set (5 + j) u = thCells a ++ M.set j u := fun M j u => by
        rw [Nat.add_comm]
        rfl
      show ((((thCells a ++ flat L).set _ _).set _ _).set _ _).set _ _ = thCells a ++ flat (L.set n t)
      rw [show (n + 1) * 5 + 1 = 5 + (n * 5 + 1) by omega, show (n + 1) * 5 + 2 = 5 + (n * 5 + 2) by omega, show (n + 1) * 5 + 3 = 5 + (n * 5 + 3) by omega, show (n + 1) * 5 + 4 = 5 + (n * 5 + 4) by omega, e, e, e, e, ih n hn]

/-- four cells of a thing written -/
def setT4 (w : World) (g n : Nat) (t : Th) : World :=
  ((((w.setCell ⟨g, n * 5 + 1, none⟩ (.int .i64 t.x0)).setCell ⟨g, n * 5 + 1 + 1, none⟩ (.int .i64 t.y0)).setCell ⟨g, n * 5 + 1 + 2, none⟩ (.int .i64 t.x1)).setCell ⟨g, n * 5 + 1 + 3, none⟩ (.int .i64 t.y1)).drew

theorem setT4_mod (w : World) (g n : Nat) (t : Th) : Mod [g] w (setT4 w g n t) :=
  ((((Mod.setCell _ _ _ (by simp)).trans (Mod.setCell _ _ _ (by simp))).trans (Mod.setCell _ _ _ (by simp))).trans (Mod.setCell _ _ _ (by simp))).trans (Mod.drew _)

theorem setT4_owns {w : World} {g n m c : Nat} {L : List Th} {s t : Th} (h : w.ownsRow 0 193 5 (.slice (some ⟨g, 0, none⟩) m c) m (flat L)) (hs : L[n]? = some s) (hid : s.id = t.id) : (setT4 w g n t).ownsRow 0 193 5 (.slice (some ⟨g, 0, none⟩) m c) m (flat (L.set n t)) := by
  rw [← flat_set L n s t hs hid]
  exact owns_kept (owns_setL (owns_setL (owns_setL (owns_setL h _ _) _ _) _ _) _ _) (Mod.drew (F := []) _) (by simp)

theorem find_get {L : List Th} {id : Int} {n : Nat} (h : findT L id = some n) : ∃ s, L[n]? = some s ∧ s.id = id := by
  rw [findT, List.findIdx?_eq_some_iff_getElem] at h
  obtain ⟨hlt, h1, _⟩ := h
  exact ⟨L[n], List.getElem?_eq_getElem hlt, by simpa using h1⟩

set_option maxRecDepth 100000 in
set_option maxHeartbeats 400000 in
theorem refPut_old {w : World} {py : Nat} {fan : Int} {L : List Th} {lg : List Int} {F : List Nat} (h : RefRep w py fan L lg F) (hL : L.length ≤ 400) (hnl : lg.length ≤ 99999900) (t : Th) (hid : idB t.id = true) (hr : rectB t.x0 t.y0 t.x1 t.y1 = true) (n : Nat) (hf : findT L t.id = some n) :
    Calls Tryz.prog 120 #[.pointer (some ⟨py, 0, none⟩), .int .i64 t.id, R4 t.x0 t.y0 t.x1 t.y1] w (RefPutPost py fan (putF L t) (putFL L lg t) F w) := by
  have e : putF L t = (0, L.set n t) := by simp [putF, hid, hr, hf]
  have e2 : putFL L lg t = lg ++ recF lg 77 (putB t.id t.x0 t.y0 t.x1 t.y1) := by
    unfold putFL putLT
    rw [e, if_pos rfl, findT_has, hf]
    rfl
  rw [e2, e]
  clear e2
  obtain ⟨h0, h1⟩ := idB_iff.1 hid
  obtain ⟨s, hs, hsid⟩ := find_get hf
  have hnlt : n < L.length := (List.getElem?_eq_some_iff.1 hs).1
  have HF : Hid (findT L t.id = some n) := hf
  have HS : Hid (L[n]? = some s) := hs
  have HSI : Hid (s.id = t.id) := hsid
  clear e hf hs hsid
  go_enter Tryz.func120, Tryz.ntmps120
  go_wp2_with fail
  refine (Rect_any _ _ _ _ _).mono ?_
  rw [hr]
  rintro e w1 ⟨rfl, hw1⟩
  have hm1 : Mod [] w w1 := by rw [hw1]; exact (Mod.alloc _ _).trans (Mod.alloc _ _)
  have hbx1 : w1.heap[w.heap.size]? = some (B4 t.x0 t.y0 t.x1 t.y1) := by
    rw [hw1, Below.heap_alloc _ _ _ (by simp)]
    exact heap_alloc_new w _
  have hR1 := h.kept hm1 (by simp)
  clear hw1
  go_wp2_with fail
  refine (at_any hR1 (by omega) _).mono ?_
  rintro e w' ⟨k, rfl, hat, rfl⟩
  have hk : k = n := by
    rcases hat.find with ⟨_, h⟩ | ⟨m, hm, hn, _⟩
    · rw [HF.out] at h; cases h
    · rw [HF.out] at hn; cases hn; exact hm
  subst hk
  clear hat
  obtain ⟨tv, gl, cl, last, nl, ht1, h2, h3, h4, h5, h6, hF⟩ := hR1
  have HH : Hid (F = py :: gl :: tv.ownBlock.toList) := hF
  clear hF
  have hlen : ∃ g c, tv = .slice (some ⟨g, 0, none⟩) L.length c := by
    rcases h3.2 with ⟨rfl, hz⟩ | ⟨g, c, cur, rfl, hrest⟩
    · omega
    · exact ⟨_, _, rfl⟩
  obtain ⟨g, c, rfl⟩ := hlen
  have hcb := cell_B4 hbx1
  obtain ⟨cb0, cb1, cb2, cb3⟩ := hcb
  go_wp2_with fail
  refine (Body_any t.id _ _ _ _ _ ⟨h0, h1⟩ (rectB_ok hr)).mono ?_
  rintro e w2 ⟨gb, cb, rfl, hob, hb2⟩
  have hbu : ByteL (putB t.id t.x0 t.y0 t.x1 t.y1) := by have := Rc.body_byte (rcPut true t.id t.x0 t.y0 t.x1 t.y1); exact this
  obtain ⟨bs, hbs⟩ : ∃ bs, putB t.id t.x0 t.y0 t.x1 t.y1 = bs := ⟨_, rfl⟩
  rw [hbs] at hob hbu
  have HBS := hideIt hbs
  clear hbs
  have hm2 := hb2
  have ht2 := (hm2.block py (lt_of_block ht1) (by simp)).trans ht1
  have hbx2 := (hm2.block w.heap.size (lt_of_block hbx1) (by simp)).trans hbx1
  have h32 := owns_kept h3 hm2 (by simp)
  have h42 := owns_kept h4 hm2 (by simp)
  have hM2 := hm1.trans hm2
  have hsz1 := hM2.size
  clear hm1 hm2 hb2 ht1 h3 h4 cb0 cb1 cb2 cb3 hbx1
  have hc1 := (cell_T58 ht2).2.1
  obtain ⟨cb0, cb1, cb2, cb3⟩ := cell_B4 hbx2
  obtain ⟨d0, d1, d2, d3, d4⟩ := thing_cells h32 HS.out
  have hfz : ∀ o, w2.frozen? ⟨g, o, none⟩ = false := by
    rcases h32.2 with ⟨h, _⟩ | ⟨g', c', cur, h1, _, h2, _⟩
    · cases h
    · cases h1; exact fun o => frozen_of_block h2 o
  go_wp2_with fail
  go_region
  have hm3 := setT4_mod w2 g n t
  have h33 := setT4_owns h32 HS.out HSI.out
  have hgpy : g ≠ py := owns_ne h32 ht2 (by decide)
  have ht3 := (hm3.block py (lt_of_block ht2) (by simp; omega)).trans ht2
  have h43 := owns_kept h42 hm3 (owns_apart h42 h32 (by decide))
  have hob3 := owns_kept hob hm3 (owns_apart hob h32 (by decide))
  have hW : setT4 w2 g n t = ((((w2.setCell ⟨g, n * 5 + 1, none⟩ (.int .i64 t.x0)).setCell ⟨g, n * 5 + 1 + 1, none⟩ (.int .i64 t.y0)).setCell ⟨g, n * 5 + 1 + 2, none⟩ (.int .i64 t.x1)).setCell ⟨g, n * 5 + 1 + 3, none⟩ (.int .i64 t.y1)).drew := rfl
  rw [← hW]
  clear hW h42 h32 hob ht2 hc1 cb0 cb1 cb2 cb3 d0 d1 d2 d3 d4 hfz hbx2
  generalize setT4 w2 g n t = w3 at *
  go_wp2_with fail
  refine (note_more py fan last 77 _ gl nl cl lg _ 18 bs w3 ht3 h2 h43 h5 h6 (by omega) (by omega) (by omega) (srcRow_of_owns hob3 (u8s_one _)) hbu).mono ?_
  rintro e w5 ⟨rfl, gn, cn, last', nl', ht5, hl5, ho5, hu5, hn5, hm5⟩
  have hfin : RefPutPost py fan (0, L.set n t) (lg ++ recF lg 77 bs) F w (.returned (.int .i64 0)) w5 := by
    have hz3 := hm3.size
    have hgn := (ho5.lt gn rfl).1
    refine ⟨rfl, py :: gn :: [g], ⟨_, gn, cn, last', nl', ht5, hl5, ?_, owns_base ho5 (Nat.zero_le _), hu5, hn5, rfl⟩, ?_, ?_⟩
    · have := owns_kept h33 hm5 (by simpa [Value.ownBlock] using hgpy)
      rw [List.length_set]
      exact this
    · rw [HH.out]
      exact ((hM2.nil.trans (hm3.mono (by simp [Value.ownBlock])))).trans (hm5.mono (by simp))
    · intro x hx
      rw [HH.out]
      simp at hx
      rcases hx with rfl | rfl | rfl
      · exact .inl (by simp)
      · exact .inr (by omega)
      · exact .inl (by simp [Value.ownBlock])
  have HFIN := hideIt hfin
  clear hfin ht5 ho5 hm5 ht3 h33 h43 hob3
  go_wp2
  go_ret
  rw [HBS.out]
  exact HFIN.out

theorem refPut_any {w : World} {py : Nat} {fan : Int} {L : List Th} {lg : List Int} {F : List Nat} (h : RefRep w py fan L lg F) (hL : L.length ≤ 400) (hnl : lg.length ≤ 99999900) (t : Th) :
    Calls Tryz.prog 120 #[.pointer (some ⟨py, 0, none⟩), .int .i64 t.id, R4 t.x0 t.y0 t.x1 t.y1] w (RefPutPost py fan (putF L t) (putFL L lg t) F w) := by
  cases hid : idB t.id with
  | false => exact refPut_id h t hid
  | true =>
    cases hr : rectB t.x0 t.y0 t.x1 t.y1 with
    | false => exact refPut_rect h t hid hr
    | true =>
      cases hf : findT L t.id with
      | some n => exact refPut_old h hL hnl t hid hr n hf
      | none =>
        by_cases hl : L.length < 400
        · exact refPut_new h hnl t hid hr hf hl
        · exact refPut_full h hL t hid hr hf (by omega)

end Go.Proofs.YthimaoipogocfaaGreat

