import Derived.Test.YthimaoipogocfaaGreatNear3
import Derived.Deep.LoopGhost
namespace Go.Proofs.YthimaoipogocfaaGreat
open Go.RowKit
attribute [local go_sem] run_store_f32 run_neg_inf

theorem tgFar_pos (x y : Int) (t : Tg) : 0 ≤ tgFar x y t := Int.add_nonneg (Int.mul_nonneg (besI_pos _ _ _) (besI_pos _ _ _)) (Int.mul_nonneg (besI_pos _ _ _) (besI_pos _ _ _))

/-! ### open, at every height -/
def OpensPost (fan lo : Nat) (x y : Int) (F : List Nat) (c : Kd) (h qb : Nat) (l : List Wt) (G : List Nat) (w : World) (e : Ending) (w' : World) : Prop := e = .returned (.tuple #[]) ∧ ∃ es, Opens w fan lo x y F c h es ∧ Opened qb es l G w w'

theorem NodeAt.n_le {w : World} {fan lo h : Nat} {c : Kd} (h0 : 0 < lo) (hN : NodeAt w fan lo h c) : c.n ≤ c.ts.length := by
  have := (NodeAt.size hN).1
  have hp : 1 ≤ lo ^ h := Nat.pow_pos h0
  have := Nat.mul_le_mul_left c.n hp
  omega

theorem open_any {w : World} {x y : Int} (hx : Near9 x) (hy : Near9 y) {fan lo h : Nat} {c : Kd} {F : List Nat} (h0 : 0 < lo) (hN : NodeAt w fan lo h c) (hF : ∀ z ∈ c.F, z ∈ F) (hid : ∀ t ∈ c.ts, 0 ≤ t.id) {qb : Nat} {l : List Wt} {v : Value} (hq : QHeap w qb l v) (hG : ∀ z ∈ F, z ∉ qb :: v.ownBlock.toList) (hn : c.ts.length + l.length ≤ 90000) :
    Calls Tryz.prog 75 #[.pointer (some ⟨qb, 0, none⟩), .pointer (some ⟨c.p, 0, none⟩), .int .i64 x, .int .i64 y] w (OpensPost fan lo x y F c h qb l (qb :: v.ownBlock.toList) w) := by
  have hle := NodeAt.n_le h0 hN
  have hG' : ∀ z ∈ c.F, z ∉ qb :: v.ownBlock.toList := fun z hz => hG z (hF z hz)
  cases h with
  | zero =>
    obtain ⟨tv, hl⟩ := hN
    have ho := opens_leaf (w := w) (fan := fan) (lo := lo) (x := x) (y := y) (F := F) hid
    rcases ownV hl.row with ⟨rfl, h0⟩ | ⟨r, cc, rfl⟩
    · have hts : c.ts = [] := List.eq_nil_of_length_eq_zero (by rw [hl.len, h0])
      rw [hts] at ho
      exact (open_none hl.here hq).mono fun _ _ h => ⟨h.1, _, ho, h.2⟩
    · exact (open_leaf hx hy hl hq hG' (by omega)).mono fun _ _ h => ⟨h.1, _, ho, h.2⟩
  | succ h =>
    obtain ⟨bv, ks, hi, hK⟩ := hN
    have ho := opens_inner (x := x) (y := y) (F := F) h0 hi hK hF hid
    rcases ownV hi.row with ⟨rfl, h1⟩ | ⟨r, cc, rfl⟩
    · have hk0 : ks = [] := List.eq_nil_of_length_eq_zero (by rw [hi.len, h1])
      subst hk0
      exact (open_none hi.here hq).mono fun _ _ h => ⟨h.1, _, ho, h.2⟩
    · exact (open_inner hx hy h0 hi hK hq hG' (by omega)).mono fun _ _ h => ⟨h.1, _, ho, h.2⟩

/-! ### the hits in memory -/
def htCells (e : Ht) : List Value := [.int .i64 e.id, .int .i64 e.far]
def htsV (l : List Ht) : List Value := l.flatMap htCells
theorem htsV_length (l : List Ht) : (htsV l).length = l.length * 2 := by
  induction l with
  | nil => rfl
  | cons a l ih => simp only [htsV, List.flatMap_cons, List.length_append] at ih ⊢; rw [ih]; simp [htCells]; omega
theorem htsV_append (l m : List Ht) : htsV (l ++ m) = htsV l ++ htsV m := by simp [htsV]
theorem infoH : (Tryz.prog.info? 50).map (fun i => (i.zero, i.size, i.bytes)) = some (some (.agg #[.int .i64 0, .int .i64 0]), 2, 16) := by kernel_rfl
theorem htsV_one (l : List Ht) : ∀ u ∈ htsV l, u.oneCell' = true := by
  intro u hu
  obtain ⟨e, _, hu⟩ := List.mem_flatMap.1 hu
  simp [htCells] at hu
  rcases hu with rfl | rfl <;> rfl

/-- what is told: a row of its own -/
def NearPost (hs : List Ht) (w : World) (e : Ending) (w' : World) : Prop := ∃ v, e = .returned v ∧ w'.ownsRow 0 50 2 v hs.length (htsV hs) ∧ (∀ z ∈ v.ownBlock.toList, w.heap.size ≤ z) ∧ Mod [] w w'

theorem qlen_row {w : World} {T : TypeId} {v : Value} {n : Nat} {xs : List Value} (h : w.ownsRow 0 T 3 v n xs) : Calls Tryz.prog 73 #[v] w fun e w' => e = .returned (.int .i64 n) ∧ w = w' := by
  rcases h.2 with ⟨rfl, rfl⟩ | ⟨g, c, _, rfl, _⟩
  · exact qlen_nil
  · exact qlen_any
theorem owns_slice {w : World} {T : TypeId} {s : Nat} {v : Value} {n : Nat} {xs : List Value} (h : w.ownsRow 0 T s v n xs) : ∃ a c, v = .slice a n c := by
  rcases h.2 with ⟨rfl, rfl⟩ | ⟨g, c, _, rfl, _⟩
  · exact ⟨_, _, rfl⟩
  · exact ⟨_, _, rfl⟩
theorem owns_type {w : World} {T : TypeId} {s : Nat} {v : Value} {n : Nat} {xs : List Value} (h : w.ownsRow 0 T s v n xs) : ∀ z ∈ v.ownBlock.toList, ∃ cur, w.heap[z]? = some (.cells cur T (0, 0)) := by
  intro z hz
  rcases h.2 with ⟨rfl, _⟩ | ⟨g, c, cur, rfl, _, hh, _⟩
  · simp [Value.ownBlock] at hz
  · simp [Value.ownBlock] at hz
    subst hz
    exact ⟨cur, hh⟩

/-- where the search stands, in memory -/
structure Looked (w : World) (fan lo : Nat) (x y : Int) (F : List Nat) (ts : List Tg) (most gk : Nat) (hs : List Ht) (l : List Wt) (hv v : Value) (wr : World) : Prop where
  q : QHeap wr (w.heap.size + 1) l v
  vnew : ∀ z ∈ v.ownBlock.toList, w.heap.size ≤ z
  row : wr.ownsRow 0 50 2 hv hs.length (htsV hs)
  hnew : ∀ z ∈ hv.ownBlock.toList, w.heap.size ≤ z
  seek : Seek wr fan lo x y F ts hs l gk
  len : hs.length ≤ most
  m : Mod [] w wr
  low : ∀ z ∈ F, z < w.heap.size

theorem Seek.long {w : World} {fan lo : Nat} {x y : Int} {F : List Nat} {all : List Tg} {hs : List Ht} {l : List Wt} {n : Nat} (h : Seek w fan lo x y F all hs l n) : l.length ≤ all.length + 1 := by
  have ht := h.total
  rcases h.ids with hi | ⟨e, rfl⟩
  · have := pend_long h.wait hi
    omega
  · simp

theorem htsV_snoc (hs : List Ht) (id far : Int) : catL (htsV hs) [.int .i64 id, .int .i64 far] = htsV (hs ++ [⟨id, far⟩]) := by
  rw [htsV_append]
  simp [catL, htsV, htCells]

theorem qb_ne {w : World} {T U : TypeId} {s : Nat} {v : Value} {n : Nat} {xs : List Value} {cs : Array Value} {p : Nat} (h : w.ownsRow 0 T s v n xs) (hp : w.heap[p]? = some (.cells cs U (0, 0))) (hne : U ≠ T) : p ∉ v.ownBlock.toList := fun hx => by
  obtain ⟨cur, hc⟩ := owns_type h p hx
  rw [hp] at hc
  simp only [Option.some.injEq, Obj.cells.injEq] at hc
  exact hne hc.2.1

/-- the nearest was taken off the queue -/
structure Popped (w : World) (fan lo : Nat) (x y : Int) (F : List Nat) (ts : List Tg) (most gk : Nat) (hs : List Ht) (l l' : List Wt) (hv v : Value) (w3 : World) : Prop where
  q : QHeap w3 (w.heap.size + 1) l' v
  vnew : ∀ z ∈ v.ownBlock.toList, w.heap.size ≤ z
  row : w3.ownsRow 0 50 2 hv hs.length (htsV hs)
  hnew : ∀ z ∈ hv.ownBlock.toList, w.heap.size ≤ z
  seek : Seek w3 fan lo x y F ts hs l gk
  heap : HeapW l l.length
  perm : (wat l 0 :: l').Perm l
  len : hs.length < most
  m : Mod [] w w3
  low : ∀ z ∈ F, z < w.heap.size

theorem Looked.pop {w : World} {fan lo : Nat} {x y : Int} {F : List Nat} {ts : List Tg} {most gk g n c : Nat} {hs : List Ht} {l l' : List Wt} {hv : Value} {wr w2 w3 : World} (hL : Looked w fan lo x y F ts most gk hs l hv (.slice (some ⟨g, 0, none⟩) (n + 1) c) wr) (hmo : hs.length < most) (hq : QHeap w2 (w.heap.size + 1) l' (.slice (some ⟨g, 0, none⟩) n c)) (hp : (wat l 0 :: l').Perm l) (hm : Mod [w.heap.size + 1, g] wr w2) (hm3 : Mod [] w2 w3) :
    Popped w fan lo x y F ts most gk hs l l' hv (.slice (some ⟨g, 0, none⟩) n c) w3 := by
  have hg : w.heap.size ≤ g := hL.vnew g (by simp [Value.ownBlock])
  have hm4 : Mod [w.heap.size + 1, g] wr w3 := hm.trans hm3.nil
  refine ⟨hq.keep hm3, fun z hz => hL.vnew z (by simpa [Value.ownBlock] using hz), owns_kept hL.row hm4 (fun z hz => ?_), hL.hnew, hL.seek.kept hm4 (fun z hz => ?_), hL.q.heap, hp, hmo, hL.m.then hm4 (fun z hz => ?_), hL.low⟩
  · have hz' : z ∈ hv.ownBlock.toList := by rw [hz]; simp
    intro hzz
    rcases List.mem_cons.1 hzz with rfl | hzz
    · exact qb_ne hL.row hL.q.q.here (by decide) hz'
    · simp only [List.mem_singleton] at hzz
      subst hzz
      obtain ⟨cur, hc⟩ := owns_type hL.q.q.row z (by simp [Value.ownBlock])
      exact qb_ne hL.row hc (by decide) hz'
  · have := hL.low z hz
    simp
    omega
  · rcases List.mem_cons.1 hz with rfl | hz
    · exact .inr (by omega)
    · simp only [List.mem_singleton] at hz
      subst hz
      exact .inr hg

theorem Popped.thing {w : World} {fan lo : Nat} {x y : Int} {F : List Nat} {ts : List Tg} {most gk g5 c5 : Nat} {hs : List Ht} {l l' : List Wt} {hv v : Value} {w3 w4 w5 : World} (hP : Popped w fan lo x y F ts most gk hs l l' hv v w3) (hnd : (wat l 0).nd = none) (hm4 : Mod [] w3 w4) (ho : w5.ownsRow 0 50 2 (.slice (some ⟨g5, 0, none⟩) (hs.length + 1) c5) (hs.length + 1) (catL (htsV hs) [.int .i64 (wat l 0).id, .int .i64 (wat l 0).far])) (hm5 : Mod hv.ownBlock.toList w4 w5) (hat : hv.ownBlock = some g5 ∨ g5 = w4.heap.size) :
    ∃ gk', gk' < gk ∧ ∃ hs' l'' v', Hid (Looked w fan lo x y F ts most gk' hs' l'' (.slice (some ⟨g5, 0, none⟩) (hs.length + 1) c5) v' w5) := by
  have hm : Mod hv.ownBlock.toList w3 w5 := hm4.nil.trans hm5
  have hs3 := hP.m.size
  have hs4 := hm4.size
  have hF : ∀ z ∈ F, z ∉ hv.ownBlock.toList := fun z hz h => by
    have h1 := hP.low z hz
    have h2 := hP.hnew z h
    omega
  obtain ⟨gk', hlt, hse⟩ := (hP.seek.kept hm hF).thing hP.heap hP.perm hnd
  refine ⟨gk', hlt, hs ++ [⟨(wat l 0).id, (wat l 0).far⟩], l', v, hideIt ⟨⟨hP.q.q.kept hm ?_ (fun z hz => ?_), hP.q.heap⟩, hP.vnew, ?_, fun z hz => ?_, hse, ?_, hP.m.then hm (fun z hz => .inr (hP.hnew z hz)), hP.low⟩⟩
  · exact qb_ne hP.row hP.q.q.here (by decide)
  · obtain ⟨cur, hc⟩ := owns_type hP.q.q.row z hz
    exact qb_ne hP.row hc (by decide)
  · rw [htsV_snoc] at ho
    rw [List.length_append]
    exact ho
  · simp [Value.ownBlock] at hz
    subst hz
    rcases hat with h | h
    · exact hP.hnew z (by rw [h]; simp)
    · omega
  · have := hP.len
    rw [List.length_append]
    exact this

theorem Popped.node {w : World} {fan lo : Nat} {x y : Int} (hx : Near9 x) (hy : Near9 y) (h0 : 0 < lo) {F : List Nat} {ts : List Tg} {most gk p : Nat} {hs : List Ht} {l l' : List Wt} {hv v : Value} {w3 : World} (hP : Popped w fan lo x y F ts most gk hs l l' hv v w3) (hnd : (wat l 0).nd = some p) (hlen : ts.length ≤ 5000) :
    Calls Tryz.prog 75 #[.pointer (some ⟨w.heap.size + 1, 0, none⟩), .pointer (some ⟨p, 0, none⟩), .int .i64 x, .int .i64 y] w3 (fun e w5 => e = .returned (.tuple #[]) ∧ ∃ gk', gk' < gk ∧ ∃ hs' l'' v', Hid (Looked w fan lo x y F ts most gk' hs' l'' hv v' w5)) := by
  obtain ⟨h', c, hN, rfl, hcF, hid, hln, hgo⟩ := hP.seek.node hP.perm hnd
  have hlen' : c.ts.length + l'.length ≤ 90000 := by omega
  refine (open_any hx hy h0 hN hcF hid hP.q (fun z hz hzz => ?_) hlen').mono ?_
  · have h1 := hP.low z hz
    rcases List.mem_cons.1 hzz with rfl | hzz
    · omega
    · have := hP.vnew z hzz
      omega
  · rintro e w5 ⟨rfl, es, hO, hOp⟩
    obtain ⟨l'', v', k1, k2, k3, k4⟩ := hOp.out
    obtain ⟨gk', hlt, hse⟩ := hgo es l'' hO k2
    have hs3 := hP.m.size
    have hq1 := qb_ne hP.row hP.q.q.here (by decide)
    refine ⟨rfl, gk', hlt, hs, l'', v', hideIt ⟨k1, fun z hz => ?_, owns_kept hP.row k4 (fun z hz => ?_), hP.hnew, hse.kept k4 (fun z hz => ?_), Nat.le_of_lt hP.len, hP.m.then k4 (fun z hz => ?_), hP.low⟩⟩
    · rcases k3 z hz with h | h
      · rcases List.mem_cons.1 h with rfl | h
        · omega
        · exact hP.vnew z h
      · omega
    · have hz' : z ∈ hv.ownBlock.toList := by rw [hz]; simp
      intro hzz
      rcases List.mem_cons.1 hzz with rfl | hzz
      · exact hq1 hz'
      · obtain ⟨cur, hc⟩ := owns_type hP.q.q.row z hzz
        exact qb_ne hP.row hc (by decide) hz'
    · have h1 := hP.low z hz
      intro hzz
      rcases List.mem_cons.1 hzz with rfl | hzz
      · omega
      · have := hP.vnew z hzz
        omega
    · rcases List.mem_cons.1 hz with rfl | hz
      · exact .inr (by omega)
      · exact .inr (hP.vnew z hz)

set_option maxRecDepth 100000 in
set_option maxHeartbeats 2000000 in
theorem bNear_any {w : World} {p fan : Nat} {ts : List Tg} {F : List Nat} (ht : TreeRep w p fan ts F) {x y : Int} (hx : Near9 x) (hy : Near9 y) (hid : ∀ t ∈ ts, 0 ≤ t.id) (hlen : ts.length ≤ 5000) {most : Nat} (hmost : most ≤ 9223372036854775807) :
    Calls Tryz.prog 45 #[.pointer (some ⟨p, 0, none⟩), .int .i64 x, .int .i64 y, .int .i64 most] w (NearPost ((sortH (ts.map (tgH x y))).take most) w) := by
  obtain ⟨bm, es, clock, h, k, ht, rfl⟩ := ht
  obtain ⟨c0, c1, c2⟩ := cell_trO ht.here
  obtain ⟨i0, hi, hz0, hz1, hz2⟩ := info_partsB infoH
  have HSTART := hideIt (show Looked w fan (leastF fan) x y k.F ts most ((h + 2) * k.ts.length + 1) [] [⟨0, 0, some k.p, k.ts⟩] (.slice none 0 0) (.slice (some ⟨w.heap.size, 0, none⟩) 1 1) ((w.alloc (.cells #[.int .i64 0, .int .i64 0, .pointer (some ⟨k.p, 0, none⟩)] 138)).alloc (.cells #[.slice (some ⟨w.heap.size, 0, none⟩) 1 1] 140)) from by
    have hm : Mod [] w ((w.alloc (.cells #[.int .i64 0, .int .i64 0, .pointer (some ⟨k.p, 0, none⟩)] 138)).alloc (.cells #[.slice (some ⟨w.heap.size, 0, none⟩) 1 1] 140)) := (Mod.alloc _ _).trans (Mod.alloc _ _)
    have hrow := owns_allocB (w := w) (cur := #[.int .i64 0, .int .i64 0, .pointer (some ⟨k.p, 0, none⟩)]) (e := 138) (n := 1) (size := 3) rfl (by decide) (base := 0) (Nat.zero_le _)
    have hnew := heap_alloc_new (w.alloc (.cells #[.int .i64 0, .int .i64 0, .pointer (some ⟨k.p, 0, none⟩)] 138)) (.cells #[.slice (some ⟨w.heap.size, 0, none⟩) 1 1] 140)
    refine ⟨⟨⟨?_, owns_kept hrow (Mod.alloc (F := []) _ _) (by simp), by simp [Value.ownBlock]⟩, fun j hj h0 => ?_⟩, by simp [Value.ownBlock], ⟨rfl, .inl ⟨rfl, rfl⟩⟩, by simp [Value.ownBlock], ⟨?_, .inr ⟨_, rfl⟩, ?_, List.Pairwise.nil, by simp⟩, by simp, hm, fun z hz => ht.node.lt z hz⟩
    · simpa using hnew
    · simp at hj
      omega
    · exact Wait.cons (m := (h + 2) * k.ts.length + 1) (n := 0) (.inr ⟨h, k, ht.node.kept hm (by simp), fun z hz => hz, rfl, rfl, fun t _ => tgFar_pos x y t, fun t htt => hid t (ht.perm.mem_iff.1 htt), rfl⟩) .nil
    · simpa [pend] using ht.perm.map (tgH x y))
  have hlo : 0 < leastF fan := by have := ht.fan4; unfold leastF; omega
  generalize leastF fan = lo at *
  have HLO := hideIt hlo
  have HID := hideIt hid
  clear ht c0 c2 hid hlo
  go_enter Tryz.func45, Tryz.ntmps45
  go_wp2_with fail
  clear c1
  go_loopg [9] ((h + 2) * k.ts.length + 1) (fun gk hv wr => ∃ hs l v, Hid (Looked w fan lo x y k.F ts most gk hs l hv v wr))
  case atStart => exact ⟨_, _, _, HSTART⟩
  case round =>
    obtain ⟨hs, l, v, hR⟩ := hrel
    have cq := cell_qO hR.out.q.q.here
    have HLEN := hideIt (qlen_row hR.out.q.q.row)
    obtain ⟨ha, hc, rfl⟩ := owns_slice hR.out.row
    have hlong := hR.out.seek.long
    have hml := hR.out.len
    have hhs : hs.length ≤ 5000 := by have := hR.out.seek.total; omega
    by_cases hn0 : l.length = 0
    · have hfin : NearPost ((sortH (ts.map (tgH x y))).take most) w (.returned (.slice ha hs.length hc)) wr := by
        have hl0 : l = [] := List.eq_nil_of_length_eq_zero hn0
        subst hl0
        have e := near_done hR.out.seek.perm hR.out.seek.sort hR.out.seek.below (.inr ⟨rfl, hml⟩)
        rw [← e]
        exact ⟨_, rfl, hR.out.row, hR.out.hnew, hR.out.m⟩
      have HF := hideIt hfin
      clear hfin
      rw [hn0] at HLEN
      go_wp2_with fail
      refine HLEN.out.mono ?_
      rintro e w2 ⟨rfl, rfl⟩
      go_wp2
      go_ret
      exact HF.out
    · have hn1 : (0 : Int) < (l.length : Int) := by omega
      by_cases hmo : hs.length < most
      · have hmo' : (hs.length : Int) < (most : Int) := by omega
        obtain ⟨n, hn⟩ : ∃ n, l.length = n + 1 := ⟨l.length - 1, by omega⟩
        obtain ⟨g, c, rfl⟩ := ownV3 hR.out.q.q.row (by omega)
        rw [hn] at hR HLEN cq
        have HPOP0 := hideIt (hpop_any (n := n) ⟨hR.out.q.q, hn⟩ (by rw [← hn]; exact hR.out.q.heap) (by omega))
        clear hn0 hn1 hlong hml
        cases hnd : (wat l 0).nd with
        | none =>
          have HPOP := hideIt (show Calls Tryz.prog 74 #[qI (w.heap.size + 1)] wr (fun e w2 => e = .returned (.iface 138 (.agg #[.int .i64 (wat l 0).id, .int .i64 (wat l 0).far, .pointer none])) ∧ ∃ l', Hid (∀ w3, Mod [] w2 w3 → Popped w fan lo x y k.F ts most gk hs l l' (.slice ha hs.length hc) (.slice (some ⟨g, 0, none⟩) n c) w3)) from HPOP0.out.mono fun e w2 hq => by
            obtain ⟨rfl, l', hq2, hl2, hp2, hm2⟩ := hq
            refine ⟨?_, l', hideIt fun w3 hm3 => hR.out.pop hmo hq2 hp2 hm2 hm3⟩
            simp only [wtI, wtV, hnd]
            rfl)
          have hta := run_assertW (.agg #[.int .i64 (wat l 0).id, .int .i64 (wat l 0).far, .pointer none])
          have HND := hideIt hnd
          clear HPOP0 hnd hR
          go_wp2_with fail
          refine HLEN.out.mono ?_
          rintro e w2 ⟨rfl, rfl⟩
          go_wp2_with fail
          refine HPOP.out.mono ?_
          rintro e w2 ⟨rfl, l', HQ2⟩
          clear HPOP HLEN cq
          have HOWN := hideIt (show ((w2.alloc (.cells #[.int .i64 (wat l 0).id, .int .i64 (wat l 0).far, .pointer none] 138)).alloc (.cells #[.int .i64 (wat l 0).id, .int .i64 (wat l 0).far] 50)).ownsRow 0 50 2 (.slice ha hs.length hc) hs.length (htsV hs) from owns_kept (HQ2.out _ (Mod.alloc _ _)).row (Mod.alloc (F := []) _ _) (by simp))
          have HSRC := hideIt (show srcRow ((w2.alloc (.cells #[.int .i64 (wat l 0).id, .int .i64 (wat l 0).far, .pointer none] 138)).alloc (.cells #[.int .i64 (wat l 0).id, .int .i64 (wat l 0).far] 50)) 2 (.slice (some ⟨w2.heap.size + 1, 0, none⟩) 1 1) 1 [.int .i64 (wat l 0).id, .int .i64 (wat l 0).far] from by
            have h1 := owns_allocB (w := w2.alloc (.cells #[.int .i64 (wat l 0).id, .int .i64 (wat l 0).far, .pointer none] 138)) (cur := #[.int .i64 (wat l 0).id, .int .i64 (wat l 0).far]) (e := 50) (n := 1) (size := 2) rfl (by decide) (base := 0) (Nat.zero_le _)
            rw [show (w2.alloc (.cells #[.int .i64 (wat l 0).id, .int .i64 (wat l 0).far, .pointer none] 138)).heap.size = w2.heap.size + 1 by simp] at h1
            exact srcRow_of_owns h1 (fun u hu => htsV_one [⟨(wat l 0).id, (wat l 0).far⟩] u (by simpa [htsV, htCells] using hu)))
          have HTH := hideIt (fun (g5 c5 : Nat) (w5 : World) => (HQ2.out _ (Mod.alloc w2 (.cells #[.int .i64 (wat l 0).id, .int .i64 (wat l 0).far, .pointer none] 138))).thing (g5 := g5) (c5 := c5) (w5 := w5) HND.out (Mod.alloc _ (.cells #[.int .i64 (wat l 0).id, .int .i64 (wat l 0).far] 50)))
          clear HQ2 HND
          generalize (wat l 0).id = I at *
          generalize (wat l 0).far = FA at *
          go_wp2_with (at_builtin; refine wpList_append_rows _ rfl _ _ 46 rfl 0 50 i0 (.agg #[.int .i64 0, .int .i64 0]) 2 16 Tryz.underlying46 hi hz0 hz1 hz2 rfl (by decide) _ hs.length (htsV hs) rfl HOWN.out _ 1 [.int .i64 I, .int .i64 FA] rfl HSRC.out (by omega) (by unfold maxLen; omega) (by omega) (Nat.zero_le _) ?_)
          intro g5 c5 w5 ho5 hm5 hat5
          obtain ⟨gk', hlt, hnext⟩ := HTH.out g5 c5 w5 ho5 hm5 (hat5.imp id (fun h => by simpa using h))
          have HNX := hideIt hnext
          have HLT := hideIt hlt
          clear ho5 hm5 hat5 HTH HOWN HSRC hnext hlt
          go_wp2_with fail
          go_roundg gk'
          case measure => exact HLT.out
          case rel => exact HNX.out
        | some pn =>
          have HPOP := hideIt (show Calls Tryz.prog 74 #[qI (w.heap.size + 1)] wr (fun e w2 => e = .returned (.iface 138 (.agg #[.int .i64 (wat l 0).id, .int .i64 (wat l 0).far, .pointer (some ⟨pn, 0, none⟩)])) ∧ ∃ l', Hid (∀ w3, Mod [] w2 w3 → Popped w fan lo x y k.F ts most gk hs l l' (.slice ha hs.length hc) (.slice (some ⟨g, 0, none⟩) n c) w3)) from HPOP0.out.mono fun e w2 hq => by
            obtain ⟨rfl, l', hq2, hl2, hp2, hm2⟩ := hq
            refine ⟨?_, l', hideIt fun w3 hm3 => hR.out.pop hmo hq2 hp2 hm2 hm3⟩
            simp only [wtI, wtV, hnd]
            rfl)
          have hta := run_assertW (.agg #[.int .i64 (wat l 0).id, .int .i64 (wat l 0).far, .pointer (some ⟨pn, 0, none⟩)])
          have HND := hideIt hnd
          clear HPOP0 hnd hR
          go_wp2_with fail
          refine HLEN.out.mono ?_
          rintro e w2 ⟨rfl, rfl⟩
          go_wp2_with fail
          refine HPOP.out.mono ?_
          rintro e w2 ⟨rfl, l', HQ2⟩
          clear HPOP HLEN cq
          have HOP := hideIt ((HQ2.out _ (Mod.alloc w2 (.cells #[.int .i64 (wat l 0).id, .int .i64 (wat l 0).far, .pointer (some ⟨pn, 0, none⟩)] 138))).node hx hy HLO.out HND.out hlen)
          clear HQ2 HND
          go_wp2_with fail
          refine HOP.out.mono ?_
          rintro e w5 ⟨rfl, gk', hlt, hnext⟩
          have HNX := hideIt hnext
          have HLT := hideIt hlt
          clear HOP hnext hlt
          go_wp2_with fail
          go_roundg gk'
          case measure => exact HLT.out
          case rel => exact HNX.out
      · have hme : ¬ ((hs.length : Int) < (most : Int)) := by omega
        have hfin : NearPost ((sortH (ts.map (tgH x y))).take most) w (.returned (.slice ha hs.length hc)) wr := by
          have e := near_done (most := most) hR.out.seek.perm hR.out.seek.sort hR.out.seek.below (.inl (by omega))
          rw [← e]
          exact ⟨_, rfl, hR.out.row, hR.out.hnew, hR.out.m⟩
        have HF := hideIt hfin
        clear hfin
        go_wp2_with fail
        refine HLEN.out.mono ?_
        rintro e w2 ⟨rfl, rfl⟩
        go_wp2
        go_ret
        exact HF.out

end Go.Proofs.YthimaoipogocfaaGreat
