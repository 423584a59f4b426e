import Derived.Test.YtideopmkmobicaaRows
import Derived.Test.YtideopmkmobicaaBase
import Derived.Deep.QuietTactic
import Derived.BigQuiet
import Derived.Deep.DeepMust
namespace Go.Proofs.Ytideopmkmobicaa
open Go.RowKit

theorem info5 : (Try.prog.info? 5).map (fun i => (i.zero, i.size, i.bytes)) = some (some (.int .u8 0), 1, 1) := by kernel_rfl

/-- a byte's cell -/
def isU8 (u : Value) : Prop := ∃ z, u = .int .u8 z
theorem isU8_mk (z : Int) : isU8 (.int .u8 z) := ⟨z, rfl⟩
theorem isU8.one {u : Value} (h : isU8 u) : u.oneCell' = true := by obtain ⟨z, rfl⟩ := h; rfl

/-- an int64 -/
def i64ok (z : Int) : Prop := -9223372036854775808 ≤ z ∧ z ≤ 9223372036854775807
theorem i64ok_wrap (n : Int) : i64ok (wrap64 n) := by
  have := wrap64_wf n
  simpa [Lit.wf, IntKind.min, IntKind.max, IntKind.signed, IntKind.bits, i64ok] using this

def TwoPost (w : World) (e : Ending) (w' : World) : Prop := ∃ z0 z1, e = .returned (.slice (some ⟨w.heap.size, 0, none⟩) 2 2) ∧ w' = w.alloc (.cells #[.int .u8 z0, .int .u8 z1] 5)
theorem two_any (n : Int) (w : World) (h0 : 0 ≤ n) (h1 : n ≤ 4095) : Calls Try.prog 49 #[.int .i64 n] w (TwoPost w) := by
  go_enter Try.func49, Try.ntmps49
  go_wp2
  go_ret
  exact ⟨_, _, rfl, rfl⟩

def FourPost (w : World) (e : Ending) (w' : World) : Prop := ∃ z0 z1 z2 z3, e = .returned (.slice (some ⟨w.heap.size, 0, none⟩) 4 4) ∧ w' = w.alloc (.cells #[.int .u8 z0, .int .u8 z1, .int .u8 z2, .int .u8 z3] 5)
theorem four_any (n : Int) (w : World) (h : i64ok n) : Calls Try.prog 58 #[.int .i64 n] w (FourPost w) := by
  obtain ⟨h0, h1⟩ := h
  by_cases hn : n < 0
  · go_enter Try.func58, Try.ntmps58
    go_wp2
    go_ret
    exact ⟨_, _, _, _, rfl, rfl⟩
  · go_enter Try.func58, Try.ntmps58
    go_wp2
    go_ret
    exact ⟨_, _, _, _, rfl, rfl⟩

def ValPost (w : World) (e : Ending) (w' : World) : Prop := ∃ z : Int, e = .returned (.int .i64 z) ∧ i64ok z ∧ ∃ n, w' = w.drewN n
set_option maxHeartbeats 400000 in
theorem value_any (g off c : Nat) (x0 x1 x2 x3 : Int) (w : World) (h0 : w.cell? ⟨g, off, none⟩ = some (.int .u8 x0)) (h1 : w.cell? ⟨g, off + 1, none⟩ = some (.int .u8 x1)) (h2 : w.cell? ⟨g, off + 2, none⟩ = some (.int .u8 x2)) (h3 : w.cell? ⟨g, off + 3, none⟩ = some (.int .u8 x3)) :
    Calls Try.prog 42 #[.slice (some ⟨g, off, none⟩) 4 c, .bool false] w (ValPost w) := by
  go_enter Try.func42, Try.ntmps42
  go_wp2
  go_quiet (fail)
  go_wp2
  go_ret
  exact ⟨_, rfl, i64ok_wrap _, _, rfl⟩

theorem i64ok_tmod (x : Int) : i64ok (x.tmod 4294967296) := by
  have h1 := Int.tmod_lt_of_pos x (show (0 : Int) < 4294967296 by decide)
  have h2 := Int.lt_tmod_of_pos x (show (0 : Int) < 4294967296 by decide)
  unfold i64ok
  omega

def SumPost (w : World) (e : Ending) (w' : World) : Prop := ∃ z : Int, e = .returned (.int .i64 z) ∧ i64ok z ∧ w = w'
set_option maxHeartbeats 400000 in
theorem Sum_any (g n c : Nat) (w : World) (hn : n ≤ maxLen) (hc : ∀ j, j < n → ∃ z, w.cell? ⟨g, j, none⟩ = some (.int .u8 z)) :
    Calls Try.prog 59 #[.slice (some ⟨g, 0, none⟩) n c] w (SumPost w) := by
  unfold maxLen at hn
  have HC : Hid (∀ j, j < n → ∃ z, w.cell? ⟨g, j, none⟩ = some (.int .u8 z)) := hc
  clear hc
  go_enter Try.func59, Try.ntmps59
  go_wp2
  go_loop [3, 4] (fun s i => ∃ k : Nat, k ≤ n ∧ i = .int .i64 k ∧ ∃ z, i64ok z ∧ s = .int .i64 z) (fun _ i => n - (intOf i).toNat)
  case atStart => exact ⟨0, Nat.zero_le _, rfl, _, ⟨by decide, by decide⟩, rfl⟩
  case round =>
    obtain ⟨k, hk, rfl, z, hz, rfl⟩ := hrel
    by_cases hlt : k < n
    · obtain ⟨u, hu⟩ := HC.out k hlt
      go_wp2
      go_round
      case rel => exact ⟨k + 1, by omega, by go_num, _, i64ok_tmod _, rfl⟩
      case measure => simp [intOf]; omega
    · go_wp2
      go_ret
      exact ⟨_, rfl, hz, rfl⟩

theorem owns_alloc {w : World} {cur : Array Value} {e : TypeId} {n size : Nat} (hs : cur.size = n * size) (hm : n ≤ maxLen) {base : Nat} (hb : base ≤ w.heap.size) :
    (w.alloc (.cells cur e)).ownsRow base e size (.slice (some ⟨w.heap.size, 0, none⟩) n n) n cur.toList := owns_new (heap_alloc_new w _) hs hm hb

theorem owns_u8 {w : World} {base : Nat} {g n cap : Nat} {xs : List Value} (h : w.ownsRow base 5 1 (.slice (some ⟨g, 0, none⟩) n cap) n xs) (hu : ∀ u ∈ xs, isU8 u) : ∀ j, j < n → ∃ z, w.cell? ⟨g, j, none⟩ = some (.int .u8 z) := fun j hj => by
  have hl : j < xs.length := by rw [h.1]; omega
  obtain ⟨z, hz⟩ := hu _ (List.getElem_mem hl)
  exact ⟨z, owns_cell h j _ (by rw [List.getElem?_eq_getElem hl, hz])⟩

def RecPost (m : Nat) (w : World) (e : Ending) (w' : World) : Prop := ∃ g cap xs, e = .returned (.slice (some ⟨g, 0, none⟩) (m + 5) cap) ∧ w'.ownsRow w.heap.size 5 1 (.slice (some ⟨g, 0, none⟩) (m + 5) cap) (m + 5) xs ∧ (∀ u ∈ xs, isU8 u) ∧ Below w.heap.size w w'
set_option maxHeartbeats 400000 in
theorem Record_any (last kind : Int) (bv : Value) (m : Nat) (bs : List Value) (w : World) (hl : i64ok last) (hm : m ≤ 100) (hb : srcRow w 1 bv m bs) (hu : ∀ u ∈ bs, isU8 u) :
    Calls Try.prog 41 #[.int .i64 last, .int .u8 kind, bv] w (RecPost m w) := by
  obtain ⟨i0, hi, hz0, hz1, hz2⟩ := info_parts info5
  have hb1 : Below w.heap.size w (w.alloc (.cells #[.int .u8 kind] 5)) := (Below.refl _ _).alloc (Nat.le_refl _) _
  have ho1 : (w.alloc (.cells #[.int .u8 kind] 5)).ownsRow w.heap.size 5 1 (.slice (some ⟨w.heap.size, 0, none⟩) 1 1) 1 [.int .u8 kind] := owns_alloc (cur := #[.int .u8 kind]) rfl (by decide) (Nat.le_refl _)
  have hs1 := srcRow_mod hb (Mod.of_below hb1)
  have hbs : bs.length = m := by simpa using hb.1
  go_enter Try.func41, Try.ntmps41
  go_wp2_with (at_builtin; refine wpList_append_rows _ rfl _ _ 38 rfl w.heap.size 5 i0 (.int .u8 0) 1 1 Try.underlying38 hi hz0 hz1 hz2 rfl (by decide) _ 1 [.int .u8 kind] rfl ho1 _ m bs rfl hs1 (by omega) (by unfold maxLen; omega) (by omega) (by simp) ?_)
  intro g1 c1 w2 ho2 hm2 hat2
  have hb2 : Below w.heap.size w w2 := hb1.trans (hm2.below_of (by simp) (by simp [Value.ownBlock]))
  have hz2' : w.heap.size < w2.heap.size := by have := hm2.size; simp at this; omega
  have hu2 : ∀ u ∈ catL [.int .u8 kind] bs, isU8 u := fun u h => by
    rcases mem_catL.1 h with h | h
    · simp at h; exact ⟨_, h⟩
    · exact hu u h
  clear hb1 ho1 hs1 hat2 hm2 hb
  generalize catL [Value.int .u8 kind] bs = xs2 at ho2 hu2
  go_wp2_with fail
  refine (four_any last _ hl).mono ?_
  rintro e w' ⟨z0, z1, z2, z3, rfl, rfl⟩
  have ho3 : (w2.alloc (.cells #[.int .u8 z0, .int .u8 z1, .int .u8 z2, .int .u8 z3] 5)).ownsRow w2.heap.size 5 1 (.slice (some ⟨w2.heap.size, 0, none⟩) 4 4) 4 [.int .u8 z0, .int .u8 z1, .int .u8 z2, .int .u8 z3] := owns_alloc (cur := #[.int .u8 z0, .int .u8 z1, .int .u8 z2, .int .u8 z3]) rfl (by decide) (Nat.le_refl _)
  have hb3 : Below w.heap.size w (w2.alloc (.cells #[.int .u8 z0, .int .u8 z1, .int .u8 z2, .int .u8 z3] 5)) := hb2.alloc (by omega) _
  have ho2' := ho2.alloc (.cells #[.int .u8 z0, .int .u8 z1, .int .u8 z2, .int .u8 z3] 5)
  have hs2 := srcRow_of_owns ho2' (fun u h => (hu2 u h).one)
  go_wp2_with (at_builtin; refine wpList_append_rows _ rfl _ _ 38 rfl w2.heap.size 5 i0 (.int .u8 0) 1 1 Try.underlying38 hi hz0 hz1 hz2 rfl (by decide) _ 4 [.int .u8 z0, .int .u8 z1, .int .u8 z2, .int .u8 z3] rfl ho3 _ (1 + m) xs2 rfl hs2 (by omega) (by unfold maxLen; omega) (by omega) (by simp) ?_)
  intro g3 c3 w3 ho4 hm3 hat3
  have hu4 : ∀ u ∈ catL [.int .u8 z0, .int .u8 z1, .int .u8 z2, .int .u8 z3] xs2, isU8 u := fun u h => by
    rcases mem_catL.1 h with h | h
    · simp at h
      rcases h with h | h | h | h <;> exact ⟨_, h⟩
    · exact hu2 u h
  have hb4 : Below w.heap.size w w3 := hb3.trans (hm3.below_of (by simp; omega) (by simp [Value.ownBlock]; omega))
  have hz3 : w2.heap.size < w3.heap.size := by have := hm3.size; simp at this; omega
  have ho5 : w3.ownsRow w.heap.size 5 1 (.slice (some ⟨g1, 0, none⟩) (1 + m) c1) (1 + m) xs2 := owns_kept ho2' hm3 (by
    have := owns_lt ho2 (k := g1) rfl
    simp [Value.ownBlock]
    omega)
  clear ho2 ho2' hs2 ho3 hb3 hm3 hat3 hb2
  generalize catL [Value.int .u8 z0, Value.int .u8 z1, Value.int .u8 z2, Value.int .u8 z3] xs2 = xs4 at ho4 hu4
  have hcs := owns_u8 ho4 hu4
  go_wp2_with fail
  refine (Sum_any g3 (4 + (1 + m)) c3 _ (by unfold maxLen; omega) hcs).mono ?_
  rintro e w' ⟨zs, rfl, hzs, rfl⟩
  clear hcs ho4 hu4
  go_wp2_with fail
  refine (four_any zs _ hzs).mono ?_
  rintro e w' ⟨y0, y1, y2, y3, rfl, rfl⟩
  have hs6 := srcRow_of_owns (owns_alloc (w := w3) (cur := #[.int .u8 y0, .int .u8 y1, .int .u8 y2, .int .u8 y3]) (e := 5) (n := 4) (size := 1) rfl (by decide) (Nat.le_refl _)) (fun u h => by
    simp at h
    rcases h with rfl | rfl | rfl | rfl <;> rfl)
  have ho6 := ho5.alloc (.cells #[.int .u8 y0, .int .u8 y1, .int .u8 y2, .int .u8 y3] 5)
  have hb6 : Below w.heap.size w (w3.alloc (.cells #[.int .u8 y0, .int .u8 y1, .int .u8 y2, .int .u8 y3] 5)) := hb4.alloc (by omega) _
  go_wp2_with (at_builtin; refine wpList_append_rows _ rfl _ _ 38 rfl w.heap.size 5 i0 (.int .u8 0) 1 1 Try.underlying38 hi hz0 hz1 hz2 rfl (by decide) _ (1 + m) xs2 rfl ho6 _ 4 [.int .u8 y0, .int .u8 y1, .int .u8 y2, .int .u8 y3] rfl hs6 (by omega) (by unfold maxLen; omega) (by omega) (by simp; omega) ?_)
  intro g7 c7 w7 ho7 hm7 hat7
  go_wp2
  go_ret
  have hg1 := (ho5.lt g1 rfl).1
  rw [show 1 + m + 4 = m + 5 by omega] at ho7
  refine ⟨g7, c7, _, by rw [show 1 + m + 4 = m + 5 by omega]; rfl, ho7, fun u h => ?_, hb6.trans (hm7.below_of (by simp; omega) (by simp [Value.ownBlock]; omega))⟩
  rcases mem_catL.1 h with h | h
  · exact hu2 u h
  · simp at h
    rcases h with h | h | h | h <;> exact ⟨_, h⟩

end Go.Proofs.Ytideopmkmobicaa
