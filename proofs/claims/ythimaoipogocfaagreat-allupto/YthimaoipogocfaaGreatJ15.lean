import Derived.Test.YthimaoipogocfaaGreatJ01
import Derived.Test.YthimaoipogocfaaGreatJ03
namespace Go.Proofs.YthimaoipogocfaaGreat
open Go.RowKit

def i64ok (n : Int) : Prop := -9223372036854775808 ≤ n ∧ n ≤ 9223372036854775807

/-! ### bytes, numbers in bytes, sums, records -/
def u8s (l : List Int) : List Value := l.map (.int .u8)
theorem u8s_append (l m : List Int) : u8s (l ++ m) = u8s l ++ u8s m := by simp [u8s]
theorem u8s_length (l : List Int) : (u8s l).length = l.length := by simp [u8s]
theorem u8s_get {l : List Int} {j : Nat} {b : Int} (h : l[j]? = some b) : (u8s l)[j]? = some (.int .u8 b) := by simp [u8s, h]
theorem u8s_one (l : List Int) : ∀ u ∈ u8s l, u.oneCell' = true := by
  intro u hu
  obtain ⟨x, _, rfl⟩ := List.mem_map.1 hu
  rfl

/-- every one a byte -/
def ByteL (l : List Int) : Prop := ∀ b ∈ l, 0 ≤ b ∧ b < 256
theorem ByteL.append {l m : List Int} (h : ByteL l) (k : ByteL m) : ByteL (l ++ m) := fun b hb => by
  rcases List.mem_append.1 hb with hb | hb
  · exact h b hb
  · exact k b hb
theorem ByteL.nil : ByteL [] := fun b hb => by cases hb
theorem ByteL.cons {b : Int} {l : List Int} (h : 0 ≤ b ∧ b < 256) (k : ByteL l) : ByteL (b :: l) := fun c hc => by
  rcases List.mem_cons.1 hc with rfl | hc
  · exact h
  · exact k c hc
theorem ByteL.take {l : List Int} (h : ByteL l) (n : Nat) : ByteL (l.take n) := fun b hb => h b (List.mem_of_mem_take hb)
theorem ByteL.drop {l : List Int} (h : ByteL l) (n : Nat) : ByteL (l.drop n) := fun b hb => h b (List.mem_of_mem_drop hb)

/-- a number in bytes, the lowest first -/
def numB (n : Int) : Nat → List Int
  | 0 => []
  | k + 1 => n % 256 :: numB (n / 256) k
theorem numB_length (k : Nat) : ∀ n, (numB n k).length = k := by
  induction k with
  | zero => intro n; rfl
  | succ k ih => intro n; simp [numB, ih]
theorem numB_byte (k : Nat) : ∀ n, ByteL (numB n k) := by
  induction k with
  | zero => intro n; exact ByteL.nil
  | succ k ih => intro n; exact ByteL.cons (by omega) (ih _)
theorem numB_snoc (k : Nat) : ∀ n, numB n (k + 1) = numB n k ++ [n / 256 ^ k % 256] := by
  induction k with
  | zero => intro n; simp [numB]
  | succ k ih =>
    intro n
    rw [numB, ih, numB, List.cons_append]
    congr 4
    rw [Int.pow_succ, Int.mul_comm, ← Int.ediv_ediv_of_nonneg (by omega)]

/-- what bytes tell -/
def valB : List Int → Int
  | [] => 0
  | b :: l => b + 256 * valB l
theorem valB_numB (k : Nat) : ∀ n, valB (numB n k) = n % 256 ^ k := by
  induction k with
  | zero => intro n; simp [numB, valB, Int.emod_one]
  | succ k ih =>
    intro n
    rw [numB, valB, ih, Int.pow_succ, Int.mul_comm (256 ^ k) 256]
    have h : n % (256 * 256 ^ k) = n % 256 + 256 * (n / 256 % 256 ^ k) := by
      have hp : (0 : Int) < 256 ^ k := Int.pow_pos (by omega)
      have e1 := Int.emod_add_mul_ediv n 256
      have e2 := Int.emod_add_mul_ediv (n / 256) (256 ^ k)
      have r1 := Int.emod_nonneg n (show (256 : Int) ≠ 0 by omega)
      have r2 := Int.emod_lt_of_pos n (show (0 : Int) < 256 by omega)
      have r3 := Int.emod_nonneg (n / 256) (show (256 : Int) ^ k ≠ 0 by omega)
      have r4 := Int.emod_lt_of_pos (n / 256) hp
      have e3 : n = (n % 256 + 256 * (n / 256 % 256 ^ k)) + (256 * 256 ^ k) * (n / 256 / 256 ^ k) := by
        rw [Int.mul_assoc]
        omega
      have hlt : n % 256 + 256 * (n / 256 % 256 ^ k) < 256 * 256 ^ k := by omega
      conv => lhs; rw [e3]
      rw [Int.add_mul_emod_self_left, Int.emod_eq_of_lt (by omega) hlt]
    rw [h]
theorem valB_range {l : List Int} (h : ByteL l) : 0 ≤ valB l ∧ valB l < 256 ^ l.length := by
  induction l with
  | nil => simp [valB]
  | cons b l ih =>
    obtain ⟨h1, h2⟩ := ih (fun c hc => h c (by simp [hc]))
    have h3 := h b (by simp)
    rw [valB, List.length_cons, Int.pow_succ]
    omega
theorem numB_valB {l : List Int} (h : ByteL l) : numB (valB l) l.length = l := by
  induction l with
  | nil => rfl
  | cons b l ih =>
    have h3 := h b (by simp)
    rw [List.length_cons, numB, valB]
    have e1 : (b + 256 * valB l) % 256 = b := by omega
    have e2 : (b + 256 * valB l) / 256 = valB l := by omega
    rw [e1, e2, ih (fun c hc => h c (by simp [hc]))]

/-- the sum goes on -/
def sumStep (s b : Int) : Int := (bits .xor .u32 s b * 16777619) % 4294967296
def sumF (s : Int) (l : List Int) : Int := l.foldl sumStep s
theorem sumF_append (s : Int) (l m : List Int) : sumF s (l ++ m) = sumF (sumF s l) m := by simp [sumF]
theorem sumF_range {s : Int} (hs : 0 ≤ s ∧ s < 4294967296) (l : List Int) : 0 ≤ sumF s l ∧ sumF s l < 4294967296 := by
  induction l generalizing s with
  | nil => exact hs
  | cons b l ih => exact ih (s := sumStep s b) (by unfold sumStep; omega)
theorem sumF_snoc {s : Int} {l : List Int} {k : Nat} {b : Int} (h : l[k]? = some b) : sumF s (l.take (k + 1)) = sumStep (sumF s (l.take k)) b := by
  have hk : k < l.length := (List.getElem?_eq_some_iff.1 h).1
  rw [List.take_succ_eq_append_getElem hk, sumF_append]
  rw [List.getElem?_eq_getElem hk] at h
  rw [Option.some.inj h]
  rfl

/-- the sum of a record behind a log -/
def ahead (lg : List Int) : List Int := if lg = [] then [0, 0, 0, 0] else lg.drop (lg.length - 4)
def sealF (lg r : List Int) : Int := sumF 2166136261 (ahead lg ++ r)
theorem sealF_range (lg r : List Int) : 0 ≤ sealF lg r ∧ sealF lg r < 4294967296 := sumF_range (by omega) _
/-- a record behind a log -/
def recF (lg : List Int) (kind : Int) (body : List Int) : List Int := (kind :: body) ++ numB (sealF lg (kind :: body)) 4
theorem recF_length (lg : List Int) (kind : Int) (body : List Int) : (recF lg kind body).length = body.length + 5 := by simp [recF, numB_length]

def headB (fan : Int) : List Int := numB fan 1
def dropB (id : Int) : List Int := numB id 2
def putB (id x0 y0 x1 y1 : Int) : List Int := numB id 2 ++ numB x0 4 ++ numB y0 4 ++ numB x1 4 ++ numB y1 4
theorem putB_length (id x0 y0 x1 y1 : Int) : (putB id x0 y0 x1 y1).length = 18 := by simp [putB, numB_length]

/-- what a record says -/
structure Rc where
  kind : Int
  fan : Int
  id : Int
  x0 : Int
  y0 : Int
  x1 : Int
  y1 : Int
def Rc.ok (r : Rc) : Prop := (r.kind = 72 ∨ r.kind = 80 ∨ r.kind = 77 ∨ r.kind = 68) ∧ i64ok r.fan ∧ i64ok r.id ∧ i64ok r.x0 ∧ i64ok r.y0 ∧ i64ok r.x1 ∧ i64ok r.y1
def Rc.val (r : Rc) : Value := .agg #[.int .u8 r.kind, .int .i64 r.fan, .int .i64 r.id, .int .i64 r.x0, .int .i64 r.y0, .int .i64 r.x1, .int .i64 r.y1]
def Rc.body (r : Rc) : List Int := if r.kind = 72 then headB r.fan else if r.kind = 68 then dropB r.id else putB r.id r.x0 r.y0 r.x1 r.y1
def Rc.bytes (r : Rc) (lg : List Int) : List Int := recF lg r.kind r.body
def rcHead (fan : Int) : Rc := ⟨72, fan, 0, 0, 0, 0, 0⟩
def rcDrop (id : Int) : Rc := ⟨68, 0, id, 0, 0, 0, 0⟩
def rcPut (there : Bool) (id x0 y0 x1 y1 : Int) : Rc := ⟨if there then 77 else 80, 0, id, x0, y0, x1, y1⟩
theorem Rc.body_byte (r : Rc) : ByteL r.body := by
  unfold Rc.body headB dropB putB
  split
  · exact numB_byte _ _
  · split
    · exact numB_byte _ _
    · exact ((((numB_byte _ _).append (numB_byte _ _)).append (numB_byte _ _)).append (numB_byte _ _)).append (numB_byte _ _)
theorem Rc.bytes_byte {r : Rc} (hk : 0 ≤ r.kind ∧ r.kind < 256) (lg : List Int) : ByteL (r.bytes lg) := (ByteL.cons hk r.body_byte).append (numB_byte _ _)
theorem Rc.bytes_length (r : Rc) (lg : List Int) : (r.bytes lg).length ≤ 23 := by
  unfold Rc.bytes
  rw [recF_length]
  unfold Rc.body headB dropB
  split
  · simp [numB_length]
  · split
    · simp [numB_length]
    · simp [putB_length]
end Go.Proofs.YthimaoipogocfaaGreat

namespace Go.Proofs.YthimaoipogocfaaGreat
open Go.RowKit
attribute [local go_sem] run_store_f32 run_neg_inf

theorem info_partsB {e : TypeId} {z : Value} {s b : Nat} (h : (Tryz.prog.info? e).map (fun i => (i.zero, i.size, i.bytes)) = some (some z, s, b)) : ∃ i, Tryz.prog.info? e = some i ∧ i.zero = some z ∧ i.size = s ∧ i.bytes = b := by
  obtain ⟨i, hi, h2⟩ := Option.map_eq_some_iff.1 h
  simp only [Prod.mk.injEq] at h2
  exact ⟨i, hi, h2.1, h2.2.1, h2.2.2⟩
theorem owns_allocB {w : World} {cur : Array Value} {e : TypeId} {n size : Nat} (hs : cur.size = n * size) (hm : n ≤ maxLen) {base : Nat} (hb : base ≤ w.heap.size) :
    (w.alloc (.cells cur e)).ownsRow base e size (.slice (some ⟨w.heap.size, 0, none⟩) n n) n cur.toList := owns_new (heap_alloc_new w _) hs hm hb
theorem infoB : (Tryz.prog.info? 5).map (fun i => (i.zero, i.size, i.bytes)) = some (some (.int .u8 0), 1, 1) := by kernel_rfl

/-- bytes in memory -/
def BytesAt (w : World) (g off : Nat) (l : List Int) : Prop := ∀ j b, l[j]? = some b → w.cell? ⟨g, off + j, none⟩ = some (.int .u8 b)
theorem BytesAt.keep {w w' : World} {g off : Nat} {l : List Int} (h : BytesAt w g off l) (hm : Mod [] w w') : BytesAt w' g off l := fun j b hj => cell_mod hm (h j b hj)
theorem BytesAt.of_owns {w : World} {base g n c : Nat} {l : List Int} (h : w.ownsRow base 5 1 (.slice (some ⟨g, 0, none⟩) n c) n (u8s l)) : BytesAt w g 0 l := fun j b hj => by
  rw [Nat.zero_add]
  exact owns_cell h j _ (u8s_get hj)
theorem BytesAt.drop {w : World} {g off : Nat} {l : List Int} (h : BytesAt w g off l) (k : Nat) : BytesAt w g (off + k) (l.drop k) := fun j b hj => by
  rw [Nat.add_assoc]
  exact h (k + j) b (by rw [List.getElem?_drop] at hj; exact hj)

def SumPost (s : Int) (l : List Int) (w : World) (e : Ending) (w' : World) : Prop := e = .returned (.int .u32 (sumF s l)) ∧ w = w'

set_option maxHeartbeats 400000 in
theorem sum_any {w : World} {g off n c : Nat} {l : List Int} (hb : BytesAt w g off l) (hl : l.length = n) (hn : n ≤ maxLen) (hB : ByteL l) {s : Int} (hs : 0 ≤ s ∧ s < 4294967296) :
    Calls Tryz.prog 114 #[.int .u32 s, .slice (some ⟨g, off, none⟩) n c] w (SumPost s l w) := by
  unfold maxLen at hn
  have HB := hideIt hb
  have HBL := hideIt hB
  have HS := hideIt hs
  clear hb hB hs
  go_enter Tryz.func114, Tryz.ntmps114
  go_wp2_with fail
  go_loop [0, 9] (fun a i => ∃ k : Nat, k ≤ n ∧ i = .int .i64 k ∧ a = .int .u32 (sumF s (l.take k))) (fun _ i => n - (intOf i).toNat)
  case atStart => exact ⟨0, Nat.zero_le _, rfl, rfl⟩
  case round =>
    obtain ⟨k, hk, rfl, rfl⟩ := hrel
    by_cases hlt : k < n
    · have hget : l[k]? = some l[k] := List.getElem?_eq_getElem (by omega)
      have hc := HB.out k _ hget
      have hbr := HBL.out _ (List.mem_of_getElem? hget)
      have hst := sumF_snoc (s := s) hget
      generalize l[k] = b at *
      have HST := hideIt hst
      clear hst hget
      go_wp2
      go_round
      case rel =>
        refine ⟨k + 1, by omega, by go_num, ?_⟩
        rw [HST.out]
        rfl
      case measure => simp [intOf]; omega
    · have hkn : k = n := by omega
      subst hkn
      have e : l.take k = l := by rw [← hl]; exact List.take_length
      rw [e]
      go_wp2
      go_ret
      exact ⟨rfl, rfl⟩

end Go.Proofs.YthimaoipogocfaaGreat

namespace Go.Proofs.YthimaoipogocfaaGreat
open Go.RowKit
attribute [local go_sem] run_store_f32 run_neg_inf

/-- bytes that grow, since w0, from what lv0 held -/
structure LogGrow (w0 : World) (lv0 : Value) (xs : List Int) (n : Nat) (w : World) (g c : Nat) : Prop where
  own : w.ownsRow 0 5 1 (.slice (some ⟨g, 0, none⟩) n c) n (u8s xs)
  lies : g ∈ lv0.ownBlock.toList ∨ w0.heap.size ≤ g
  mod : Mod lv0.ownBlock.toList w0 w

theorem LogGrow.len {w0 : World} {lv0 : Value} {xs : List Int} {n : Nat} {w : World} {g c : Nat} (h : LogGrow w0 lv0 xs n w g c) : xs.length = n := by
  have := h.own.1
  rw [u8s_length] at this
  omega
theorem LogGrow.keep {w0 : World} {lv0 : Value} {xs : List Int} {n : Nat} {w w' : World} {g c : Nat} (h : LogGrow w0 lv0 xs n w g c) (hm : Mod [] w w') : LogGrow w0 lv0 xs n w' g c := ⟨owns_kept h.own hm (by simp), h.lies, h.mod.trans hm.nil⟩
theorem LogGrow.next {w0 : World} {lv0 : Value} {xs ys : List Int} {n m : Nat} {w w' : World} {g c g' c' : Nat} (h : LogGrow w0 lv0 xs n w g c) (k : LogGrow w (.slice (some ⟨g, 0, none⟩) n c) ys m w' g' c') : LogGrow w0 lv0 ys m w' g' c' := by
  have hs := h.mod.size
  refine ⟨k.own, ?_, h.mod.then k.mod (fun x hx => ?_)⟩
  · rcases k.lies with hx | hx
    · simp [Value.ownBlock] at hx
      subst hx
      exact h.lies
    · exact .inr (by omega)
  · simp [Value.ownBlock] at hx
    subst hx
    exact h.lies
theorem LogGrow.here {w : World} {xs : List Int} {n g c : Nat} (h : w.ownsRow 0 5 1 (.slice (some ⟨g, 0, none⟩) n c) n (u8s xs)) : LogGrow w (.slice (some ⟨g, 0, none⟩) n c) xs n w g c := ⟨h, .inl (by simp [Value.ownBlock]), Mod.refl _ _⟩
theorem LogGrow.cap {w0 : World} {lv0 : Value} {xs : List Int} {n : Nat} {w : World} {g c : Nat} (h : LogGrow w0 lv0 xs n w g c) : n ≤ c ∧ c ≤ maxLen := by
  rcases h.own.2 with ⟨h0, _⟩ | ⟨g', cap, cur, hv, hb, hg, hnc, hcm, hcs, htake⟩
  · cases h0
  · simp only [Value.slice.injEq, Option.some.injEq, Addr.mk.injEq, and_true, true_and] at hv
    obtain ⟨rfl, rfl⟩ := hv
    exact ⟨hnc, hcm⟩

/-- one byte was appended -/
theorem LogGrow.add {w w1 w2 : World} {lv : Value} {xs : List Int} {b : Int} {n g c : Nat} (hm : Mod [] w w1) (ho : w2.ownsRow 0 5 1 (.slice (some ⟨g, 0, none⟩) (n + 1) c) (n + 1) (catL (u8s xs) (u8s [b]))) (hm2 : Mod lv.ownBlock.toList w1 w2) (hat : lv.ownBlock = some g ∨ g = w1.heap.size) : LogGrow w lv (xs ++ [b]) (n + 1) w2 g c := by
  have e : catL (u8s xs) (u8s [b]) = u8s (xs ++ [b]) := by rw [u8s_append]; rfl
  have hs := hm.size
  refine ⟨?_, ?_, hm.nil.trans hm2⟩
  · rw [← e]
    exact ho
  · rcases hat with h | h
    · exact .inl (by rw [h]; simp)
    · exact .inr (by omega)

def LogPost (lv : Value) (xs : List Int) (n : Nat) (w : World) (e : Ending) (w' : World) : Prop := ∃ g c, e = .returned (.slice (some ⟨g, 0, none⟩) n c) ∧ LogGrow w lv xs n w' g c

set_option maxRecDepth 100000 in
set_option maxHeartbeats 1000000 in
theorem appendNumber_any {w : World} {g m c : Nat} {xs : List Int} (hown : w.ownsRow 0 5 1 (.slice (some ⟨g, 0, none⟩) m c) m (u8s xs)) {n : Int} (hn : i64ok n) {size : Nat} (hs : size ≤ 4) (hx : m ≤ 1000000000000) :
    Calls Tryz.prog 95 #[.slice (some ⟨g, 0, none⟩) m c, .int .i64 n, .int .i64 size] w (LogPost (.slice (some ⟨g, 0, none⟩) m c) (xs ++ numB n size) (m + size) w) := by
  obtain ⟨i0, hi, hz0, hz1, hz2⟩ := info_partsB infoB
  obtain ⟨lv, hlv⟩ : ∃ lv, lv = Value.slice (some ⟨g, 0, none⟩) m c := ⟨_, rfl⟩
  have HG : Hid (LogGrow w lv xs m w g c) := hideIt (by rw [hlv]; exact LogGrow.here hown)
  have HN := hideIt hn
  have HFIN := hideIt (show ∀ w' g1 c1, LogGrow w lv (xs ++ numB n size) (m + size) w' g1 c1 → LogPost (.slice (some ⟨g, 0, none⟩) m c) (xs ++ numB n size) (m + size) w (.returned (.slice (some ⟨g1, 0, none⟩) (m + size) c1)) w' from fun w' g1 c1 h => by
    rw [hlv] at h
    exact ⟨g1, c1, rfl, h⟩)
  clear hown hn hlv
  go_enter Tryz.func95, Tryz.ntmps95
  go_wp2_with fail
  go_loopw [0, 1, 8] (fun lg z' i wr => ∃ (k g1 c1 : Nat) (z : Int), k ≤ size ∧ i = .int .i64 k ∧ lg = .slice (some ⟨g1, 0, none⟩) (m + k) c1 ∧ z' = .int .i64 z ∧ Hid (z = n / 256 ^ k ∧ i64ok z ∧ LogGrow w lv (xs ++ numB n k) (m + k) wr g1 c1)) (fun _ _ i _ => size - (intOf i).toNat)
  case atStart => exact ⟨0, g, c, n, by omega, rfl, rfl, rfl, hideIt ⟨by simp, HN.out, by simpa [numB] using HG.out⟩⟩
  case round =>
    obtain ⟨k, g1, c1, z, hk, rfl, rfl, rfl, hR⟩ := hrel
    by_cases hlt : k < size
    · obtain ⟨hz, hok, hG⟩ := hR.out
      have hown := hG.own
      have HOWN := hideIt (show (wr.alloc (.cells #[.int .u8 (z % 256)] 5)).ownsRow 0 5 1 (.slice (some ⟨g1, 0, none⟩) (m + k) c1) (m + k) (u8s (xs ++ numB n k)) from owns_kept hown (Mod.alloc (F := []) _ _) (by simp))
      have HSRC := hideIt (show srcRow (wr.alloc (.cells #[.int .u8 (z % 256)] 5)) 1 (.slice (some ⟨wr.heap.size, 0, none⟩) 1 1) 1 (u8s [z % 256]) from
        srcRow_of_owns (owns_allocB (w := wr) (cur := #[.int .u8 (z % 256)]) (e := 5) (n := 1) (size := 1) rfl (by decide) (base := 0) (Nat.zero_le _)) (u8s_one [z % 256]))
      have HST := hideIt (show ∀ g2 c2 w2, w2.ownsRow 0 5 1 (.slice (some ⟨g2, 0, none⟩) (m + k + 1) c2) (m + k + 1) (catL (u8s (xs ++ numB n k)) (u8s [z % 256])) → Mod [g1] (wr.alloc (.cells #[.int .u8 (z % 256)] 5)) w2 → (some g1 = some g2 ∨ g2 = (wr.alloc (.cells #[.int .u8 (z % 256)] 5)).heap.size) → LogGrow w lv (xs ++ numB n (k + 1)) (m + (k + 1)) w2 g2 c2 from fun g2 c2 w2 h1 h2 h3 => by
        have hadd := LogGrow.add (lv := .slice (some ⟨g1, 0, none⟩) (m + k) c1) (Mod.alloc wr _) h1 h2 h3
        have e : xs ++ numB n k ++ [z % 256] = xs ++ numB n (k + 1) := by rw [numB_snoc, hz, List.append_assoc]
        rw [e] at hadd
        exact hG.next hadd)
      have HOK := hideIt (show z / 256 = n / 256 ^ (k + 1) ∧ i64ok (z / 256) from by
        refine ⟨?_, by unfold i64ok at hok ⊢; omega⟩
        rw [hz, Int.pow_succ, ← Int.ediv_ediv_of_nonneg (Int.le_of_lt (Int.pow_pos (by omega)))])
      clear hz hok hG hown hR
      go_wp2_with (at_builtin; refine wpList_append_rows _ rfl _ _ 56 rfl 0 5 i0 (.int .u8 0) 1 1 Tryz.underlying56 hi hz0 hz1 hz2 rfl (by decide) _ (m + k) (u8s (xs ++ numB n k)) rfl HOWN.out _ 1 (u8s [z % 256]) rfl HSRC.out (by omega) (by unfold maxLen; omega) (by omega) (Nat.zero_le _) ?_)
      intro g2 c2 w2 ho2 hm2 hat2
      have HS := hideIt (HST.out g2 c2 w2 ho2 hm2 (hat2.imp id (fun h => by simpa using h)))
      clear ho2 hm2 hat2 HST HOWN HSRC
      go_wp2_with fail
      go_roundw
      case rel => exact ⟨k + 1, g2, c2, z / 256, by omega, by go_num, rfl, rfl, hideIt ⟨HOK.out.1, HOK.out.2, HS.out⟩⟩
      case measure => simp [intOf]; omega
    · have hkn : k = size := by omega
      subst hkn
      have HF := hideIt (HFIN.out _ _ _ hR.out.2.2)
      clear hR
      go_wp2
      go_ret
      exact HF.out

end Go.Proofs.YthimaoipogocfaaGreat

namespace Go.Proofs.YthimaoipogocfaaGreat
open Go.RowKit
attribute [local go_sem] run_store_f32 run_neg_inf

theorem sealF_zero (l : List Int) : sealF [] l = sumF (sumF 2166136261 [0, 0, 0, 0]) l := by
  unfold sealF ahead
  rw [if_pos rfl, sumF_append]
theorem sealF_split {l : List Int} {k : Nat} (h4 : 4 ≤ k) (hle : k ≤ l.length) : sealF (l.take k) (l.drop k) = sumF 2166136261 (l.drop (k - 4)) := by
  unfold sealF ahead
  have hne : l.take k ≠ [] := fun h => by
    have := congrArg List.length h
    rw [List.length_take, List.length_nil] at this
    omega
  rw [if_neg hne]
  have hl : (l.take k).length = k := by rw [List.length_take]; omega
  rw [hl]
  congr 1
  have e : l = l.take k ++ l.drop k := (List.take_append_drop k l).symm
  conv => rhs; rw [e]
  rw [List.drop_append_of_le_length (by omega)]

def SealPost (s : Int) (w : World) (e : Ending) (w' : World) : Prop := e = .returned (.int .u32 s) ∧ Mod [] w w'

set_option maxRecDepth 100000 in
set_option maxHeartbeats 400000 in
theorem seal_any {w : World} {g off n c : Nat} {l : List Int} (hb : BytesAt w g off l) (hl : l.length = n) (hn : n ≤ maxLen) (hB : ByteL l) {k : Nat} (hk : k = 0 ∨ 4 ≤ k) (hle : k ≤ n) (hc : n ≤ c) (hc2 : c ≤ maxLen) :
    Calls Tryz.prog 77 #[.slice (some ⟨g, off, none⟩) n c, .int .i64 k] w (SealPost (sealF (l.take k) (l.drop k)) w) := by
  unfold maxLen at hn hc2
  have hr0 : (0 : Int) ≤ 2166136261 ∧ (2166136261 : Int) < 4294967296 := by omega
  rcases hk with rfl | hk
  · have e : sealF (l.take 0) (l.drop 0) = sumF (sumF 2166136261 [0, 0, 0, 0]) l := by simpa using sealF_zero l
    rw [e]
    have HS := hideIt (fun W (hm : Mod [] w W) => sum_any (c := c) (hb.keep hm) hl (by unfold maxLen; omega) hB (sumF_range hr0 [0, 0, 0, 0]))
    clear hb hB e
    go_enter Tryz.func77, Tryz.ntmps77
    go_wp2_with fail
    have hz : BytesAt (w.alloc (.cells #[.int .u8 0, .int .u8 0, .int .u8 0, .int .u8 0] 182)) w.heap.size 0 [0, 0, 0, 0] := fun j b hj => by
      rw [Nat.zero_add, cell_of_block (heap_alloc_new w _)]
      match j, hj with
      | 0, hj | 1, hj | 2, hj | 3, hj => simp at hj; subst hj; rfl
    refine (sum_any (l := [0, 0, 0, 0]) (n := 4) hz rfl (by unfold maxLen; omega) (fun b hb => by simp at hb; omega) hr0).mono ?_
    rintro e w1 ⟨rfl, hw⟩
    have hm1 : Mod [] w w1 := by rw [← hw]; exact Mod.alloc _ _
    clear hw hz
    go_wp2_with fail
    refine (HS.out _ hm1).mono ?_
    rintro e w2 ⟨rfl, rfl⟩
    go_wp2
    go_ret
    exact ⟨rfl, hm1⟩
  · rw [sealF_split hk (by omega)]
    have HS := hideIt (sum_any (c := c - (k - 4)) (hb.drop (k - 4)) (show (l.drop (k - 4)).length = n - (k - 4) by simp; omega) (by unfold maxLen; omega) (hB.drop _) hr0)
    have hk0 : ((k : Int) == 0) = false := by simp; omega
    clear hb hB
    go_enter Tryz.func77, Tryz.ntmps77
    go_wp2_with fail
    refine HS.out.mono ?_
    rintro e w2 ⟨rfl, rfl⟩
    go_wp2
    go_ret
    exact ⟨rfl, Mod.refl _ _⟩

end Go.Proofs.YthimaoipogocfaaGreat

namespace Go.Proofs.YthimaoipogocfaaGreat
open Go.RowKit
attribute [local go_sem] run_store_f32 run_neg_inf

theorem seal_log {w : World} {g c n m : Nat} {lg r : List Int} {w0 : World} {lv0 : Value} (h : LogGrow w0 lv0 (lg ++ r) n w g c) (hB : ByteL (lg ++ r)) (hl : n ≤ 1000000000000) (hm : lg.length = m) (h4 : m = 0 ∨ 4 ≤ m) :
    Calls Tryz.prog 77 #[.slice (some ⟨g, 0, none⟩) n c, .int .i64 m] w (SealPost (sealF lg r) w) := by
  obtain ⟨hc1, hc2⟩ := h.cap
  have hlen := h.len
  have hle : m ≤ n := by rw [← hlen, ← hm]; simp
  have := seal_any (k := m) (BytesAt.of_owns h.own) hlen (by unfold maxLen; omega) hB h4 hle hc1 hc2
  rw [← hm] at this ⊢
  simpa using this

/-- a record as its block holds it -/
abbrev rcO (r : Rc) : Obj := .cells #[.int .u8 r.kind, .int .i64 r.fan, .int .i64 r.id, .int .i64 r.x0, .int .i64 r.y0, .int .i64 r.x1, .int .i64 r.y1] 78 (0, 0)

theorem cell_rcO {w : World} {p : Nat} {r : Rc} (h : w.heap[p]? = some (rcO r)) : w.cell? ⟨p, 0, none⟩ = some (.int .u8 r.kind) ∧ w.cell? ⟨p, 1, none⟩ = some (.int .i64 r.fan) ∧ w.cell? ⟨p, 2, none⟩ = some (.int .i64 r.id) ∧ w.cell? ⟨p, 3, none⟩ = some (.int .i64 r.x0) ∧ w.cell? ⟨p, 4, none⟩ = some (.int .i64 r.y0) ∧ w.cell? ⟨p, 5, none⟩ = some (.int .i64 r.x1) ∧ w.cell? ⟨p, 6, none⟩ = some (.int .i64 r.y1) := by
  refine ⟨?_, ?_, ?_, ?_, ?_, ?_, ?_⟩ <;> rw [cell_of_block h] <;> rfl

/-- the kind is laid behind the log -/
theorem grow_kind {w : World} {o : Obj} {lv : Value} {lg : List Int} {b : Int} (hown : w.ownsRow 0 5 1 lv lg.length (u8s lg)) :
    ((w.alloc o).alloc (.cells #[.int .u8 b] 5)).ownsRow 0 5 1 lv lg.length (u8s lg) ∧ srcRow ((w.alloc o).alloc (.cells #[.int .u8 b] 5)) 1 (.slice (some ⟨w.heap.size + 1, 0, none⟩) 1 1) 1 (u8s [b]) :=
  ⟨owns_kept hown ((Mod.alloc (F := []) _ _).trans (Mod.alloc _ _)) (by simp), by
    have h := srcRow_of_owns (owns_allocB (w := w.alloc o) (cur := #[.int .u8 b]) (e := 5) (n := 1) (size := 1) rfl (by decide) (base := 0) (Nat.zero_le _)) (u8s_one [b])
    simpa [u8s] using h⟩

set_option maxRecDepth 100000 in
set_option maxHeartbeats 1000000 in
theorem append_nil_head {w : World} {fan : Int} (hf : i64ok fan) :
    Calls Tryz.prog 61 #[.slice none 0 0, (rcHead fan).val] w (LogPost (.slice none 0 0) ((rcHead fan).bytes []) 6 w) := by
  obtain ⟨i0, hi, hz0, hz1, hz2⟩ := info_partsB infoB
  have HF := hideIt hf
  clear hf
  obtain ⟨g1, g2⟩ := grow_kind (w := w) (o := rcO (rcHead fan)) (b := 72) (lg := []) (World.ownsRow_nil _ _ _ _)
  have HG1 := hideIt (show ((w.alloc (rcO (rcHead fan))).alloc (.cells #[.int .u8 72] 5)).ownsRow 0 5 1 (.slice none 0 0) 0 (u8s []) from g1)
  have HG2 := hideIt g2
  have hm0 := (Mod.alloc (F := []) w (rcO (rcHead fan))).trans (Mod.alloc (F := []) (w.alloc (rcO (rcHead fan))) (.cells #[.int .u8 72] 5))
  have hr0 := heap_alloc_new w (rcO (rcHead fan))
  have HM0 := hideIt hm0
  have HR0 := hideIt hr0
  clear g1 g2 hm0 hr0
  simp only [rcHead, Rc.val]
  go_enter Tryz.func61, Tryz.ntmps61
  go_wp2_with (at_builtin; refine wpList_append_rows _ rfl _ _ 56 rfl 0 5 i0 (.int .u8 0) 1 1 Tryz.underlying56 hi hz0 hz1 hz2 rfl (by decide) _ 0 (u8s []) rfl HG1.out _ 1 (u8s [72]) rfl HG2.out (by omega) (by unfold maxLen; omega) (by omega) (Nat.zero_le _) ?_)
  intro g2 c2 w2 ho2 hm2 hat2
  have hA := LogGrow.add (lv := .slice none 0 0) (xs := []) HM0.out ho2 hm2 (hat2.imp id (fun h => by simpa using h))
  have hr2 := ((hm2.block w.heap.size (by simp; omega) (by simp [Value.ownBlock])).trans ((Mod.alloc (F := []) _ _).block w.heap.size (by simp) (by simp))).trans HR0.out
  have hlt0 := lt_of_block hr2
  obtain ⟨hf0, hf1, -, -, -, -, -⟩ := cell_rcO hr2
  simp only [rcHead] at hf0 hf1
  have HA := hideIt hA
  clear ho2 hm2 hat2 hr2 hA HG1 HG2 HM0 HR0
  go_wp2_with fail
  refine (appendNumber_any (xs := [72]) HA.out.own HF.out (size := 1) (by omega) (by omega)).mono ?_
  rintro e w3 ⟨g3, c3, rfl, hA3⟩
  have HA3 := hideIt (HA.out.next hA3)
  clear hA3 HA hf0 hf1 hlt0
  go_wp2_with fail
  have hA3 : LogGrow w (.slice none 0 0) ([] ++ (72 :: headB fan)) 2 w3 g3 c3 := HA3.out
  refine (seal_log (m := 0) (lg := []) hA3 (ByteL.cons (by omega) (numB_byte _ _)) (by omega) rfl (.inl rfl)).mono ?_
  rintro e w4 ⟨rfl, hm4⟩
  have hA4 := hA3.keep hm4
  obtain ⟨s1, s2⟩ := sealF_range [] (72 :: headB fan)
  have HSB := hideIt (show (rcHead fan).bytes [] = [] ++ (72 :: headB fan) ++ numB (sealF [] (72 :: headB fan)) 4 from rfl)
  simp only [rcHead] at HSB
  generalize sealF [] (72 :: headB fan) = S at *
  have HA4 := hideIt hA4
  clear hA3 hA4 hm4 HA3
  go_wp2_with fail
  refine (appendNumber_any HA4.out.own (by unfold i64ok; omega) (size := 4) (by omega) (by omega)).mono ?_
  rintro e w5 ⟨g5, c5, rfl, hA5⟩
  have HA5 := hideIt (HA4.out.next hA5)
  clear hA5 HA4
  go_wp2
  go_ret
  exact ⟨g5, c5, rfl, by rw [HSB.out]; exact HA5.out⟩

set_option maxRecDepth 100000 in
set_option maxHeartbeats 1000000 in
theorem append_drop {w : World} {g c n : Nat} {lg : List Int} (hown : w.ownsRow 0 5 1 (.slice (some ⟨g, 0, none⟩) n c) n (u8s lg)) (hB : ByteL lg) (hn : n ≤ 100000000000) (h4 : 4 ≤ n) {id : Int} (hf : i64ok id) :
    Calls Tryz.prog 61 #[.slice (some ⟨g, 0, none⟩) n c, (rcDrop id).val] w (LogPost (.slice (some ⟨g, 0, none⟩) n c) (lg ++ (rcDrop id).bytes lg) (n + 7) w) := by
  obtain ⟨i0, hi, hz0, hz1, hz2⟩ := info_partsB infoB
  have HF := hideIt hf
  have hlen : lg.length = n := by
    have := hown.1
    rw [u8s_length] at this
    omega
  subst hlen
  obtain ⟨g1, g2⟩ := grow_kind (w := w) (o := rcO (rcDrop id)) (b := 68) hown
  have HG1 := hideIt g1
  have HG2 := hideIt g2
  have hm0 := (Mod.alloc (F := []) w (rcO (rcDrop id))).trans (Mod.alloc (F := []) (w.alloc (rcO (rcDrop id))) (.cells #[.int .u8 68] 5))
  have hr0 := heap_alloc_new w (rcO (rcDrop id))
  have hglt : g < w.heap.size := owns_lt hown rfl
  have HM0 := hideIt hm0
  have HR0 := hideIt hr0
  have HB := hideIt hB
  clear g1 g2 hm0 hr0 hf hown hB
  simp only [rcDrop, Rc.val]
  go_enter Tryz.func61, Tryz.ntmps61
  go_wp2_with (at_builtin; refine wpList_append_rows _ rfl _ _ 56 rfl 0 5 i0 (.int .u8 0) 1 1 Tryz.underlying56 hi hz0 hz1 hz2 rfl (by decide) _ lg.length (u8s lg) rfl HG1.out _ 1 (u8s [68]) rfl HG2.out (by omega) (by unfold maxLen; omega) (by omega) (Nat.zero_le _) ?_)
  intro g2 c2 w2 ho2 hm2 hat2
  have hA := LogGrow.add (lv := .slice (some ⟨g, 0, none⟩) lg.length c) (xs := lg) HM0.out ho2 hm2 (hat2.imp (fun h => h) (fun h => by simpa using h))
  have hr2 := ((hm2.block w.heap.size (by simp; omega) (by simp [Value.ownBlock]; omega)).trans ((Mod.alloc (F := []) _ _).block w.heap.size (by simp) (by simp))).trans HR0.out
  have hlt0 := lt_of_block hr2
  obtain ⟨hf0, -, hf1, -, -, -, -⟩ := cell_rcO hr2
  simp only [rcDrop] at hf0 hf1
  have HA := hideIt hA
  clear ho2 hm2 hat2 hr2 hA HG1 HG2 HM0 HR0
  go_wp2_with fail
  refine (appendNumber_any HA.out.own HF.out (size := 2) (by omega) (by omega)).mono ?_
  rintro e w3 ⟨g3, c3, rfl, hA3⟩
  have hA3 := HA.out.next hA3
  rw [List.append_assoc] at hA3
  have HA3 := hideIt hA3
  clear hA3 HA hf0 hf1 hlt0
  go_wp2_with fail
  have hA3 : LogGrow w (.slice (some ⟨g, 0, none⟩) lg.length c) (lg ++ (68 :: dropB id)) (lg.length + 3) w3 g3 c3 := HA3.out
  refine (seal_log (m := lg.length) hA3 (HB.out.append (ByteL.cons (by omega) (numB_byte _ _))) (by omega) rfl (.inr h4)).mono ?_
  rintro e w4 ⟨rfl, hm4⟩
  have hA4 := hA3.keep hm4
  obtain ⟨s1, s2⟩ := sealF_range lg (68 :: dropB id)
  have HSB := hideIt (show lg ++ (rcDrop id).bytes lg = lg ++ (68 :: dropB id) ++ numB (sealF lg (68 :: dropB id)) 4 from by rw [List.append_assoc]; rfl)
  simp only [rcDrop] at HSB
  generalize sealF lg (68 :: dropB id) = S at *
  have HA4 := hideIt hA4
  clear hA3 hA4 hm4 HA3
  go_wp2_with fail
  refine (appendNumber_any HA4.out.own (by unfold i64ok; omega) (size := 4) (by omega) (by omega)).mono ?_
  rintro e w5 ⟨g5, c5, rfl, hA5⟩
  have HA5 := hideIt (HA4.out.next hA5)
  clear hA5 HA4
  go_wp2
  go_ret
  exact ⟨g5, c5, rfl, by rw [HSB.out]; exact HA5.out⟩

end Go.Proofs.YthimaoipogocfaaGreat

