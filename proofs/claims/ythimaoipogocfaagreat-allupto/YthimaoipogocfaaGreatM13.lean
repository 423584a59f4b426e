import Derived.Test.YthimaoipogocfaaGreatM09
import Derived.Test.YthimaoipogocfaaGreatJ16
namespace Go.Proofs.YthimaoipogocfaaGreat.Rf
open Go.RowKit Go.Maps
attribute [local go_sem] run_store_f32 run_neg_inf

/-! ### how rectangles lie to one another -/
def apartB (a b c d : Int) : Bool := decide (b < c) || decide (d < a)
def commonB (a0 a1 a2 a3 b0 b1 b2 b3 : Int) : Bool := !apartB a0 a2 b0 b2 && !apartB a1 a3 b1 b3
def inB (a0 a1 a2 a3 b0 b1 b2 b3 : Int) : Bool := decide (a0 ≤ b0) && decide (b2 ≤ a2) && decide (a1 ≤ b1) && decide (b3 ≤ a3)
def gapF (n lo hi : Int) : Int := if n < lo then lo - n else if hi < n then n - hi else 0
def farF (x0 y0 x1 y1 x y : Int) : Int := gapF x x0 x1 * gapF x x0 x1 + gapF y y0 y1 * gapF y y0 y1

theorem apart_any (a b c d : Int) (w : World) : Calls Tryz.prog 156 #[.int .i64 a, .int .i64 b, .int .i64 c, .int .i64 d] w fun e w' => e = .returned (.bool (apartB a b c d)) ∧ w = w' := by
  by_cases h1 : b < c <;> by_cases h2 : d < a
  all_goals
    go_enter Tryz.func156, Tryz.ntmps156
    go_wp2
    go_ret
    refine ⟨ret_bool ?_, rfl⟩
    simp [apartB]
    try omega

def CommonPost (v : Bool) (a0 a1 a2 a3 b0 b1 b2 b3 : Int) (w : World) (e : Ending) (w' : World) : Prop := e = .returned (.bool v) ∧ (w.alloc (B4 a0 a1 a2 a3)).alloc (B4 b0 b1 b2 b3) = w'

set_option maxRecDepth 100000 in
set_option maxHeartbeats 400000 in
theorem Common_any (a0 a1 a2 a3 b0 b1 b2 b3 : Int) (w : World) :
    Calls Tryz.prog 124 #[R4 a0 a1 a2 a3, R4 b0 b1 b2 b3] w (CommonPost (commonB a0 a1 a2 a3 b0 b1 b2 b3) a0 a1 a2 a3 b0 b1 b2 b3 w) := by
  have hc : commonB a0 a1 a2 a3 b0 b1 b2 b3 = (!apartB a0 a2 b0 b2 && !apartB a1 a3 b1 b3) := rfl
  have HC := hideIt hc
  clear hc
  cases h1 : apartB a0 a2 b0 b2 <;> cases h2 : apartB a1 a3 b1 b3
  all_goals
    rw [h1, h2] at HC
    go_enter Tryz.func124, Tryz.ntmps124
    go_wp2_with fail
    refine (apart_any _ _ _ _ _).mono ?_
    rw [h1]
    rintro e w1 ⟨rfl, rfl⟩
    go_wp2_with fail
    refine (apart_any _ _ _ _ _).mono ?_
    rw [h2]
    rintro e w1 ⟨rfl, rfl⟩
    go_wp2
    go_ret
    exact ⟨ret_bool (by rw [HC.out]; rfl), rfl⟩

set_option maxRecDepth 100000 in
set_option maxHeartbeats 400000 in
theorem In_any (a0 a1 a2 a3 b0 b1 b2 b3 : Int) (w : World) :
    Calls Tryz.prog 125 #[R4 a0 a1 a2 a3, R4 b0 b1 b2 b3] w (CommonPost (inB a0 a1 a2 a3 b0 b1 b2 b3) a0 a1 a2 a3 b0 b1 b2 b3 w) := by
  by_cases h1 : a0 ≤ b0 <;> by_cases h2 : b2 ≤ a2 <;> by_cases h3 : a1 ≤ b1 <;> by_cases h4 : b3 ≤ a3
  all_goals
    go_enter Tryz.func125, Tryz.ntmps125
    go_wp2
    go_ret
    refine ⟨ret_bool ?_, rfl⟩
    simp [inB]
    try omega

theorem gap_any (n lo hi : Int) (w : World) (hn : -1000000000 ≤ n ∧ n ≤ 1000000000) (hl : -1000000000 ≤ lo ∧ lo ≤ 1000000000) (hh : -1000000000 ≤ hi ∧ hi ≤ 1000000000) :
    Calls Tryz.prog 181 #[.int .i64 n, .int .i64 lo, .int .i64 hi] w fun e w' => e = .returned (.int .i64 (gapF n lo hi)) ∧ w = w' := by
  obtain ⟨n0, n1⟩ := hn
  obtain ⟨l0, l1⟩ := hl
  obtain ⟨u0, u1⟩ := hh
  by_cases h1 : n < lo
  · have e : gapF n lo hi = lo - n := if_pos h1
    rw [e]
    clear e
    go_enter Tryz.func181, Tryz.ntmps181
    go_wp2
    go_ret
    exact ⟨rfl, rfl⟩
  · by_cases h2 : hi < n
    · have e : gapF n lo hi = n - hi := by unfold gapF; rw [if_neg h1, if_pos h2]
      rw [e]
      clear e
      go_enter Tryz.func181, Tryz.ntmps181
      go_wp2
      go_ret
      exact ⟨rfl, rfl⟩
    · have e : gapF n lo hi = 0 := by unfold gapF; rw [if_neg h1, if_neg h2]
      rw [e]
      clear e
      go_enter Tryz.func181, Tryz.ntmps181
      go_wp2
      go_ret
      exact ⟨rfl, rfl⟩

theorem gap_le {n lo hi : Int} (hn : -1000000000 ≤ n ∧ n ≤ 1000000000) (hl : -1000000000 ≤ lo ∧ lo ≤ 1000000000) (hh : -1000000000 ≤ hi ∧ hi ≤ 1000000000) : 0 ≤ gapF n lo hi ∧ gapF n lo hi ≤ 2000000000 := by
  unfold gapF
  split
  · omega
  · split <;> omega

theorem sq_le {g : Int} (h : 0 ≤ g ∧ g ≤ 2000000000) : 0 ≤ g * g ∧ g * g ≤ 4000000000000000000 :=
  ⟨Int.mul_nonneg h.1 h.1, by have := Int.mul_le_mul h.2 h.2 h.1 (by omega); omega⟩

def coordsOk (x0 y0 x1 y1 : Int) : Prop := (-1000000000 ≤ x0 ∧ x0 ≤ 1000000000) ∧ (-1000000000 ≤ y0 ∧ y0 ≤ 1000000000) ∧ (-1000000000 ≤ x1 ∧ x1 ≤ 1000000000) ∧ (-1000000000 ≤ y1 ∧ y1 ≤ 1000000000)

def FarPost (v : Int) (x0 y0 x1 y1 : Int) (w : World) (e : Ending) (w' : World) : Prop := e = .returned (.int .i64 v) ∧ w.alloc (B4 x0 y0 x1 y1) = w'

set_option maxRecDepth 100000 in
set_option maxHeartbeats 400000 in
theorem Far_any (x0 y0 x1 y1 x y : Int) (w : World) (hr : coordsOk x0 y0 x1 y1) (hx : -1000000000 ≤ x ∧ x ≤ 1000000000) (hy : -1000000000 ≤ y ∧ y ≤ 1000000000) :
    Calls Tryz.prog 157 #[R4 x0 y0 x1 y1, .int .i64 x, .int .i64 y] w (FarPost (farF x0 y0 x1 y1 x y) x0 y0 x1 y1 w) := by
  obtain ⟨r0, r1, r2, r3⟩ := hr
  have HX := hideIt (fun w => gap_any x x0 x1 w hx r0 r2)
  have HY := hideIt (fun w => gap_any y y0 y1 w hy r1 r3)
  have gx := gap_le hx r0 r2
  have gy := gap_le hy r1 r3
  have sx := sq_le gx
  have sy := sq_le gy
  have e : farF x0 y0 x1 y1 x y = gapF x x0 x1 * gapF x x0 x1 + gapF y y0 y1 * gapF y y0 y1 := rfl
  rw [e]
  clear e hx hy r0 r1 r2 r3
  generalize gapF x x0 x1 = gx' at *
  generalize gapF y y0 y1 = gy' at *
  obtain ⟨s0, s1⟩ := sx
  obtain ⟨s2, s3⟩ := sy
  go_enter Tryz.func157, Tryz.ntmps157
  go_wp2_with fail
  refine (HX.out _).mono ?_
  rintro e w1 ⟨rfl, rfl⟩
  go_wp2_with fail
  refine (HY.out _).mono ?_
  rintro e w1 ⟨rfl, rfl⟩
  go_wp2
  go_ret
  exact ⟨rfl, rfl⟩

end Go.Proofs.YthimaoipogocfaaGreat.Rf

namespace Go.Proofs.YthimaoipogocfaaGreat.Rf
open Go.RowKit Go.Maps
attribute [local go_sem] run_store_f32 run_neg_inf

def ints (zs : List Int) : List Value := zs.map (.int .i64)
theorem ints_length (zs : List Int) : (ints zs).length = zs.length := by simp [ints]
theorem ints_get {zs : List Int} {j : Nat} (h : j < zs.length) : (ints zs)[j]? = some (.int .i64 zs[j]) := by simp [ints, h]
theorem ints_append (a b : List Int) : ints (a ++ b) = ints a ++ ints b := by simp [ints]
theorem ints_one (zs : List Int) : ∀ u ∈ ints zs, u.oneCell' = true := by
  intro u hu
  simp only [ints, List.mem_map] at hu
  obtain ⟨z, _, rfl⟩ := hu
  rfl

theorem info3 : (Tryz.prog.info? 3).map (fun i => (i.zero, i.size, i.bytes)) = some (some (.int .i64 0), 1, 8) := by kernel_rfl

/-- insertion, as the reference does it -/
def insOne (out : List Int) (z : Int) : List Int := out.takeWhile (fun y => decide (y < z)) ++ z :: out.dropWhile (fun y => decide (y < z))
def sortI (l : List Int) : List Int := l.foldl insOne []

theorem insOne_length (out : List Int) (z : Int) : (insOne out z).length = out.length + 1 := by
  have h := congrArg List.length (List.takeWhile_append_dropWhile (p := fun y => decide (y < z)) (l := out))
  simp only [insOne, List.length_append, List.length_cons] at h ⊢
  omega

theorem sortI_snoc (l : List Int) (z : Int) : sortI (l ++ [z]) = insOne (sortI l) z := by simp [sortI]

theorem sortI_length (l : List Int) : (sortI l).length = l.length := by
  suffices h : ∀ (l acc : List Int), (l.foldl insOne acc).length = acc.length + l.length by simpa [sortI] using h l []
  intro l
  induction l with
  | nil => intro acc; simp
  | cons z l ih => intro acc; simp only [List.foldl_cons, ih, insOne_length, List.length_cons]; omega

/-- where the insertion comes: the first j are below z, and no further one just behind them -/
theorem insOne_at {out : List Int} {z : Int} {j : Nat} (hj : j ≤ out.length) (h1 : ∀ y ∈ out.take j, y < z) (h2 : ∀ h : j < out.length, ¬ out[j] < z) : insOne out z = out.take j ++ z :: out.drop j := by
  induction out generalizing j with
  | nil =>
    have : j = 0 := by simpa using hj
    subst this
    rfl
  | cons a out ih =>
    cases j with
    | zero =>
      have := h2 (by simp)
      simp at this
      have hd : decide (a < z) = false := by simp; omega
      simp [insOne, hd]
    | succ j =>
      have ha : a < z := h1 a (by simp)
      have := ih (j := j) (by simpa using hj) (fun y hy => h1 y (by simp [hy])) (fun h => by have := h2 (by simpa using h); simpa using this)
      simp only [insOne] at this ⊢
      simp [ha, this]

/-- the head and the rest of an owned row of one-cell elements, as what is appended -/
theorem src_head {w : World} {b g n c : Nat} {zs : List Int} (h : w.ownsRow b 3 1 (.slice (some ⟨g, 0, none⟩) n c) n (ints zs)) (j : Nat) (hj : j ≤ n) : srcRow w 1 (.slice (some ⟨g, 0, none⟩) j c) j (ints (zs.take j)) := by
  have hl : zs.length = n := by have := h.1; rw [ints_length] at this; omega
  refine ⟨by rw [ints_length]; simp; omega, ints_one _, .inr ⟨_, _, rfl, fun k u hu => ?_⟩⟩
  refine h.cells rfl k u ?_
  have e := ints_append (zs.take j) (zs.drop j)
  rw [List.take_append_drop] at e
  rw [e, List.getElem?_append_left (List.getElem?_eq_some_iff.1 hu).1]
  exact hu

theorem src_rest {w : World} {b g n c : Nat} {zs : List Int} (h : w.ownsRow b 3 1 (.slice (some ⟨g, 0, none⟩) n c) n (ints zs)) (hc : n ≤ c) (j : Nat) (hj : j ≤ n) :
    srcRow w 1 (.slice (if c = j then some ⟨g, 0, none⟩ else some ⟨g, j, none⟩) (n - j) (c - j)) (n - j) (ints (zs.drop j)) := by
  have hl : zs.length = n := by have := h.1; rw [ints_length] at this; omega
  refine ⟨by rw [ints_length]; simp; omega, ints_one _, .inr ?_⟩
  by_cases hcn : c = j
  · refine ⟨⟨g, 0, none⟩, c - j, by rw [if_pos hcn], fun k u hu => ?_⟩
    rw [List.drop_of_length_le (by omega)] at hu
    simp [ints] at hu
  · refine ⟨⟨g, j, none⟩, c - j, by rw [if_neg hcn], fun k u hu => ?_⟩
    rw [show (⟨g, j, none⟩ : Addr).add k = ⟨g, j + k, none⟩ from by unfold Addr.add; split <;> simp_all]
    refine owns_cell h _ u ?_
    have e := ints_append (zs.take j) (zs.drop j)
    rw [List.take_append_drop] at e
    rw [e, List.getElem?_append_right (by rw [ints_length]; simp; omega), ← hu]
    congr 1
    rw [ints_length]
    simp
    omega

/-- what sorted leaves -/
def SortPost (l : List Int) (w : World) (e : Ending) (w' : World) : Prop := ∃ v, e = .returned v ∧ w'.ownsRow w.heap.size 3 1 v l.length (ints (sortI l)) ∧ Below w.heap.size w w'

theorem sorted_nil (w : World) : Calls Tryz.prog 126 #[.slice none 0 0] w (SortPost [] w) := by
  go_enter Tryz.func126, Tryz.ntmps126
  go_wp2
  go_loop [3, 4] (fun o i => o = .slice none 0 0 ∧ i = .int .i64 0) (fun _ _ => 0)
  case atStart => exact ⟨rfl, rfl⟩
  case round =>
    obtain ⟨rfl, rfl⟩ := hrel
    go_wp2
    go_ret
    exact ⟨_, rfl, World.ownsRow_nil _ _ _ _, Below.refl _ _⟩

set_option maxRecDepth 100000 in
set_option maxHeartbeats 1000000 in
theorem sorted_some (g c : Nat) (l : List Int) (w : World) (ho : w.ownsRow 0 3 1 (.slice (some ⟨g, 0, none⟩) l.length c) l.length (ints l)) (hl : l.length ≤ 400) :
    Calls Tryz.prog 126 #[.slice (some ⟨g, 0, none⟩) l.length c] w (SortPost l w) := by
  obtain ⟨i0, hi, hz0, hz1, hz2⟩ := info_partsB info3
  have hcl : ∀ k (h : k < l.length), w.cell? ⟨g, k, none⟩ = some (.int .i64 l[k]) := fun k h => owns_cell ho k _ (ints_get h)
  have HCL := hideIt hcl
  clear hcl ho
  go_enter Tryz.func126, Tryz.ntmps126
  go_wp2_with fail
  go_loopw [3, 4] (fun o i wr => ∃ k : Nat, k ≤ l.length ∧ i = .int .i64 k ∧ Below w.heap.size w wr ∧ ((k = 0 ∧ o = .slice none 0 0) ∨ ∃ g2 c2, 0 < k ∧ o = .slice (some ⟨g2, 0, none⟩) k c2 ∧ wr.ownsRow w.heap.size 3 1 (.slice (some ⟨g2, 0, none⟩) k c2) k (ints (sortI (l.take k))))) (fun _ i _ => l.length - (intOf i).toNat)
  case atStart => exact ⟨0, Nat.zero_le _, rfl, Below.refl _ _, .inl ⟨rfl, rfl⟩⟩
  case round =>
    obtain ⟨k, hk, rfl, hB, how⟩ := hrel
    have hz := hB.size
    by_cases hlt : k < l.length
    · have hck : wr.cell? ⟨g, k, none⟩ = some (.int .i64 l[k]) := cell_mod (Mod.of_below hB) (HCL.out k hlt)
      clear hck
      rcases how with ⟨rfl, rfl⟩ | ⟨g2, c2, hk0, rfl, how⟩
      · go_wp2_with fail
        go_loopw [5] (fun a wx => a = .int .i64 0 ∧ Below w.heap.size w wx) (fun _ _ => 0)
        case atStart => exact ⟨rfl, hB⟩
        case round =>
          clear hB hz
          obtain ⟨rfl, hB⟩ := hrel
          have hd : decide ((0 : Int) < 0) = false := rfl
          go_wp2_with fail
          go_quiet (fail)
          have hB2 : Below w.heap.size w (wr.drewN nq) := hB.trans ⟨rfl, rfl, rfl, Nat.le_refl _, fun _ _ => rfl⟩
          clear hB
          generalize wr.drewN nq = w2 at *
          have hz := hB2.size
          have hck : w2.cell? ⟨g, 0, none⟩ = some (.int .i64 l[0]) := cell_mod (Mod.of_below hB2) (HCL.out 0 hlt)
          have hz1' : l.take 1 = [l[0]] := by
            cases l with
            | nil => simp at hlt
            | cons a l => simp
          have HZ := hideIt hz1'
          clear hz1'
          generalize l[0] = z at *
          have hsrc : srcRow (w2.alloc (.cells #[.int .i64 z] 3)) 1 (.slice (some ⟨w2.heap.size, 0, none⟩) 1 1) 1 (ints [z]) :=
            srcRow_of_owns (owns_allocB (w := w2) (cur := #[.int .i64 z]) (e := 3) (n := 1) (size := 1) rfl (by decide) (base := 0) (Nat.zero_le _)) (ints_one [z])
          have hbz : w.heap.size ≤ (w2.alloc (.cells #[.int .i64 z] 3)).heap.size := by simp; omega
          have hB3 : Below w.heap.size w (w2.alloc (.cells #[.int .i64 z] 3)) := hB2.alloc hz _
          go_wp2_with (first | (at_builtin; refine wpList_append_none _ rfl _ _ 28 rfl 3 i0 Tryz.underlying39 hi rfl _ _ rfl ?_) | (at_builtin; refine wpList_append_rows _ rfl _ _ 39 rfl w.heap.size 3 i0 (.int .i64 0) 1 8 Tryz.underlying39 hi hz0 hz1 hz2 rfl (by decide) _ 0 [] rfl (World.ownsRow_nil _ _ _ _) _ 1 (ints [z]) rfl hsrc (by omega) (by unfold maxLen; omega) (by omega) hbz ?_))
          intro g3 c3 w3 ho3 hm3 hat3
          have hB4 : Below w.heap.size w w3 := hB3.trans (hm3.below_of hbz (by simp [Value.ownBlock]))
          have hz4 := hB4.size
          have hg3 := (ho3.lt g3 rfl).1
          clear hm3 hat3 hsrc hB3 hbz hck hB2
          generalize hq : catL [] (ints [z]) = q3 at ho3
          have HQ := hideIt hq
          clear hq
          go_wp2_with (at_builtin; refine wpList_append_rows _ rfl _ _ 39 rfl w.heap.size 3 i0 (.int .i64 0) 1 8 Tryz.underlying39 hi hz0 hz1 hz2 rfl (by decide) _ 1 q3 rfl ho3 _ 0 [] rfl ⟨rfl, by simp, .inl ⟨rfl, rfl⟩⟩ (by omega) (by unfold maxLen; omega) (by omega) hz4 ?_)
          intro g5 c5 w5 ho5 hm5 hat5
          have hm5' : Mod [g3] w3 w5 := hm5
          have hB5 : Below w.heap.size w w5 := hB4.trans (hm5'.below_of hz4 (by simp; omega))
          have ho5' : w5.ownsRow w.heap.size 3 1 (.slice (some ⟨g5, 0, none⟩) 1 c5) 1 (catL q3 []) := ho5
          clear ho5 hm5 hm5' hat5 ho3 hB4
          go_wp2_with fail
          go_roundw
          case rel =>
            refine ⟨1, by omega, rfl, hB5, .inr ⟨g5, c5, by omega, rfl, ?_⟩⟩
            have e : ints (sortI (l.take 1)) = catL q3 [] := by
              rw [← HQ.out, HZ.out]
              simp [sortI, insOne, catL]
            rw [e]
            exact ho5'
          case measure => simp [intOf]; omega
      · have hst : sortI (l.take (k + 1)) = insOne (sortI (l.take k)) l[k] := by
          rw [List.take_succ_eq_append_getElem hlt, sortI_snoc]
        have HST := hideIt hst
        have HZC := hideIt (HCL.out k hlt)
        have hol : (sortI (l.take k)).length = k := by rw [sortI_length]; simp; omega
        have hc2 : k ≤ c2 := by
          rcases how.2 with ⟨h, _⟩ | ⟨_, _, _, h, _, _, h2, _⟩
          · cases h
          · cases h; exact h2
        clear hst
        generalize l[k] = z at HST HZC
        generalize sortI (l.take k) = out at *
        go_wp2_with fail
        go_loopw [5] (fun a wx => ∃ j : Nat, j ≤ k ∧ a = .int .i64 j ∧ Hid (∀ y ∈ out.take j, y < z) ∧ Below w.heap.size w wx ∧ wx.ownsRow w.heap.size 3 1 (.slice (some ⟨g2, 0, none⟩) k c2) k (ints out)) (fun a _ => k - (intOf a).toNat)
        case atStart => exact ⟨0, by omega, rfl, fun y hy => by simp at hy, hB, how⟩
        case round =>
          clear hB hz how
          obtain ⟨j, hj, rfl, hbelow, hB, how⟩ := hrel
          have hz := hB.size
          by_cases hjk : j < k
          · have hjl : j < out.length := by omega
            have hcy := owns_cell how j _ (ints_get hjl)
            have hcz := cell_mod (Mod.of_below hB) HZC.out
            have hb1 : (j : Int) < (k : Int) := by omega
            have hb2 : (k : Int) < (l.length : Int) := by omega
            by_cases hyz : out[j] < z
            · go_wp2_with fail
              go_quiet (fail)
              go_wp2_with fail
              go_roundw
              case rel =>
                refine ⟨j + 1, by omega, by go_num, fun y hy => ?_, hB.trans ⟨rfl, rfl, rfl, Nat.le_refl _, fun _ _ => rfl⟩, owns_kept how (Mod.drewN (F := []) _ _) (by simp)⟩
                rw [List.take_succ_eq_append_getElem hjl] at hy
                rcases List.mem_append.1 hy with hy | hy
                · exact hbelow.out y hy
                · simp at hy
                  rw [hy]
                  exact hyz
              case measure => simp [intOf]; omega
            · go_wp2_with fail
              go_quiet (fail)
              have hins : insOne out z = out.take j ++ z :: out.drop j := insOne_at (by omega) hbelow.out (fun _ => by omega)
              have HI := hideIt hins
              have hB2 : Below w.heap.size w (wr.drewN nq) := hB.trans ⟨rfl, rfl, rfl, Nat.le_refl _, fun _ _ => rfl⟩
              have ho2 := owns_kept how (Mod.drewN (F := []) wr nq) (by simp)
              clear hB how hz hins hcy hcz
              generalize wr.drewN nq = w2 at *
              by_cases hj0 : j = 0
              · subst hj0
                have hz2' := hB2.size
                have hck3 : w2.cell? ⟨g, k, none⟩ = some (.int .i64 z) := cell_mod (Mod.of_below hB2) HZC.out
                have hsrc2 : srcRow (w2.alloc (.cells #[.int .i64 z] 3)) 1 (.slice (some ⟨w2.heap.size, 0, none⟩) 1 1) 1 (ints [z]) :=
                  srcRow_of_owns (owns_allocB (w := w2) (cur := #[.int .i64 z]) (e := 3) (n := 1) (size := 1) rfl (by decide) (base := 0) (Nat.zero_le _)) (ints_one [z])
                have hbz : w.heap.size ≤ (w2.alloc (.cells #[.int .i64 z] 3)).heap.size := by simp; omega
                go_wp2_with (first | (at_builtin; refine wpList_append_none _ rfl _ _ 28 rfl 3 i0 Tryz.underlying39 hi rfl _ _ rfl ?_) | (at_builtin; refine wpList_append_rows _ rfl _ _ 39 rfl w.heap.size 3 i0 (.int .i64 0) 1 8 Tryz.underlying39 hi hz0 hz1 hz2 rfl (by decide) _ 0 [] rfl (World.ownsRow_nil _ _ _ _) _ 1 (ints [z]) rfl hsrc2 (by omega) (by unfold maxLen; omega) (by omega) hbz ?_))
                intro g4 c4 w4 ho4 hm4 hat4
                have hm24 : Mod [] w2 w4 := (Mod.alloc _ _).trans hm4
                have hB4 : Below w.heap.size w w4 := hB2.trans (hm24.below_of hz2' (by simp))
                have hz4 := hB4.size
                have ho24 := owns_kept ho2 hm24 (by simp)
                generalize hq4 : catL [] (ints [z]) = q4 at ho4
                have HQ4 := hideIt hq4
                have hsrc3 := src_rest ho24 hc2 0 (by omega)
                simp only [ite_self, Nat.sub_zero] at hsrc3
                clear hq4 hm4 hat4 hsrc2 hbz hm24 hck3 ho2
                go_wp2_with (at_builtin; refine wpList_append_rows _ rfl _ _ 39 rfl w.heap.size 3 i0 (.int .i64 0) 1 8 Tryz.underlying39 hi hz0 hz1 hz2 rfl (by decide) _ 1 q4 rfl ho4 _ k (ints (out.drop 0)) rfl hsrc3 (by omega) (by unfold maxLen; omega) (by omega) hz4 ?_)
                intro g5 c5 w5 ho5 hm5 hat5
                have hm5' : Mod [g4] w4 w5 := hm5
                have hg4b := (ho4.lt g4 rfl).1
                have hB5 : Below w.heap.size w w5 := hB4.trans (hm5'.below_of hz4 (by simp; omega))
                have ho5' : w5.ownsRow w.heap.size 3 1 (.slice (some ⟨g5, 0, none⟩) (1 + k) c5) (1 + k) (catL q4 (ints (out.drop 0))) := ho5
                have hjk2 : 1 + k = k + 1 := by omega
                rw [hjk2] at ho5'
                clear ho5 hm5 hm5' hat5 ho4 hB4 ho24 hsrc3
                go_wp2_with fail
                go_roundw
                case rel =>
                  refine ⟨k + 1, by omega, by go_num, hB5, .inr ⟨g5, c5, by omega, by first | rfl | rw [hjk2], ?_⟩⟩
                  have e : ints (sortI (l.take (k + 1))) = catL q4 (ints (out.drop 0)) := by
                    rw [HST.out, HI.out, ← HQ4.out]
                    simp [catL, ints]
                  rw [e]
                  exact ho5'
                case measure => simp [intOf]; omega
              · have hz2' := hB2.size
                have hsrc1 := src_head ho2 j (by omega)
                go_wp2_with (at_builtin; refine wpList_append_rows _ rfl _ _ 39 rfl w.heap.size 3 i0 (.int .i64 0) 1 8 Tryz.underlying39 hi hz0 hz1 hz2 rfl (by decide) _ 0 [] rfl (World.ownsRow_nil _ _ _ _) _ j (ints (out.take j)) rfl hsrc1 (by omega) (by unfold maxLen; omega) (by omega) hz2' ?_)
                intro g3 c3 w3 ho3 hm3 hat3
                have hm3' : Mod [] w2 w3 := hm3
                have hB3 : Below w.heap.size w w3 := hB2.trans (hm3'.below_of hz2' (by simp))
                have hz3 := hB3.size
                have ho23 := owns_kept ho2 hm3' (by simp)
                have hg3 : w2.heap.size ≤ g3 := by
                  rcases hat3 with h | h
                  · cases h
                  · omega
                have hg2lt := owns_lt ho2 (k := g2) rfl
                generalize hq3 : catL [] (ints (out.take j)) = q3 at ho3
                have HQ3 := hideIt hq3
                clear hq3 hm3 hat3 hsrc1 ho2
                have hck3 : w3.cell? ⟨g, k, none⟩ = some (.int .i64 z) := cell_mod (Mod.of_below hB3) HZC.out
                have hsrc2 : srcRow (w3.alloc (.cells #[.int .i64 z] 3)) 1 (.slice (some ⟨w3.heap.size, 0, none⟩) 1 1) 1 (ints [z]) :=
                  srcRow_of_owns (owns_allocB (w := w3) (cur := #[.int .i64 z]) (e := 3) (n := 1) (size := 1) rfl (by decide) (base := 0) (Nat.zero_le _)) (ints_one [z])
                have hbz : w.heap.size ≤ (w3.alloc (.cells #[.int .i64 z] 3)).heap.size := by simp; omega
                have ho3a := ho3.alloc (.cells #[.int .i64 z] 3)
                go_wp2_with (at_builtin; refine wpList_append_rows _ rfl _ _ 39 rfl w.heap.size 3 i0 (.int .i64 0) 1 8 Tryz.underlying39 hi hz0 hz1 hz2 rfl (by decide) _ j q3 rfl ho3a _ 1 (ints [z]) rfl hsrc2 (by omega) (by unfold maxLen; omega) (by omega) hbz ?_)
                intro g4 c4 w4 ho4 hm4 hat4
                have hm4' : Mod [g3] (w3.alloc (.cells #[.int .i64 z] 3)) w4 := hm4
                have hm34 : Mod [g3] w3 w4 := (Mod.alloc _ _).trans hm4'
                have hB4 : Below w.heap.size w w4 := hB3.trans (hm34.below_of hz3 (by simp; omega))
                have hz4 := hB4.size
                have ho24 := owns_kept ho23 hm34 (by simp [Value.ownBlock]; omega)
                have hg4 : g4 = g3 ∨ w3.heap.size ≤ g4 := by
                  rcases hat4 with h | h
                  · exact .inl (by simpa [Value.ownBlock] using h.symm)
                  · exact .inr (by omega)
                generalize hq4 : catL q3 (ints [z]) = q4 at ho4
                have HQ4 := hideIt hq4
                have hsrc3 := src_rest ho24 hc2 j (by omega)
                have hne : ¬ c2 = j := by omega
                rw [if_neg hne] at hsrc3
                clear hq4 hm4 hat4 hsrc2 hbz ho3a ho3 hm4' hm34 hck3
                go_wp2_with (at_builtin; refine wpList_append_rows _ rfl _ _ 39 rfl w.heap.size 3 i0 (.int .i64 0) 1 8 Tryz.underlying39 hi hz0 hz1 hz2 rfl (by decide) _ (j + 1) q4 rfl ho4 _ (k - j) (ints (out.drop j)) rfl hsrc3 (by omega) (by unfold maxLen; omega) (by omega) hz4 ?_)
                intro g5 c5 w5 ho5 hm5 hat5
                have hm5' : Mod [g4] w4 w5 := hm5
                have hg4b := (ho4.lt g4 rfl).1
                have hB5 : Below w.heap.size w w5 := hB4.trans (hm5'.below_of hz4 (by simp; omega))
                have ho5' : w5.ownsRow w.heap.size 3 1 (.slice (some ⟨g5, 0, none⟩) (j + 1 + (k - j)) c5) (j + 1 + (k - j)) (catL q4 (ints (out.drop j))) := ho5
                have hjk : j + 1 + (k - j) = k + 1 := by omega
                rw [hjk] at ho5'
                clear ho5 hm5 hm5' hat5 ho4 hB4 ho24 hsrc3
                go_wp2_with fail
                go_roundw
                case rel =>
                  refine ⟨k + 1, by omega, by go_num, hB5, .inr ⟨g5, c5, by omega, by first | rfl | rw [hjk], ?_⟩⟩
                  have e : ints (sortI (l.take (k + 1))) = catL q4 (ints (out.drop j)) := by
                    rw [HST.out, HI.out, ← HQ4.out, ← HQ3.out]
                    simp [catL, ints]
                  rw [e]
                  exact ho5'
                case measure => simp [intOf]; omega
          · have hjk' : j = k := by omega
            subst hjk'
            have hd : decide ((j : Int) < (j : Int)) = false := by simp
            go_wp2_with fail
            go_quiet (fail)
            have hins : insOne out z = out.take j ++ z :: out.drop j := insOne_at (by omega) hbelow.out (fun h => absurd h (by omega))
            have HI := hideIt hins
            have hB2 : Below w.heap.size w (wr.drewN nq) := hB.trans ⟨rfl, rfl, rfl, Nat.le_refl _, fun _ _ => rfl⟩
            have ho2 := owns_kept how (Mod.drewN (F := []) wr nq) (by simp)
            clear hB how hz hins
            generalize wr.drewN nq = w2 at *
            have hz2' := hB2.size
            have hsrc1 := src_head ho2 j (by omega)
            go_wp2_with (at_builtin; refine wpList_append_rows _ rfl _ _ 39 rfl w.heap.size 3 i0 (.int .i64 0) 1 8 Tryz.underlying39 hi hz0 hz1 hz2 rfl (by decide) _ 0 [] rfl (World.ownsRow_nil _ _ _ _) _ j (ints (out.take j)) rfl hsrc1 (by omega) (by unfold maxLen; omega) (by omega) hz2' ?_)
            intro g3 c3 w3 ho3 hm3 hat3
            have hm3' : Mod [] w2 w3 := hm3
            have hB3 : Below w.heap.size w w3 := hB2.trans (hm3'.below_of hz2' (by simp))
            have hz3 := hB3.size
            have ho23 := owns_kept ho2 hm3' (by simp)
            have hg3 : w2.heap.size ≤ g3 := by
              rcases hat3 with h | h
              · cases h
              · omega
            have hg2lt := owns_lt ho2 (k := g2) rfl
            generalize hq3 : catL [] (ints (out.take j)) = q3 at ho3
            have HQ3 := hideIt hq3
            clear hq3 hm3 hat3 hsrc1 ho2
            have hck3 : w3.cell? ⟨g, j, none⟩ = some (.int .i64 z) := cell_mod (Mod.of_below hB3) HZC.out
            have hsrc2 : srcRow (w3.alloc (.cells #[.int .i64 z] 3)) 1 (.slice (some ⟨w3.heap.size, 0, none⟩) 1 1) 1 (ints [z]) :=
              srcRow_of_owns (owns_allocB (w := w3) (cur := #[.int .i64 z]) (e := 3) (n := 1) (size := 1) rfl (by decide) (base := 0) (Nat.zero_le _)) (ints_one [z])
            have hbz : w.heap.size ≤ (w3.alloc (.cells #[.int .i64 z] 3)).heap.size := by simp; omega
            have ho3a := ho3.alloc (.cells #[.int .i64 z] 3)
            go_wp2_with (at_builtin; refine wpList_append_rows _ rfl _ _ 39 rfl w.heap.size 3 i0 (.int .i64 0) 1 8 Tryz.underlying39 hi hz0 hz1 hz2 rfl (by decide) _ j q3 rfl ho3a _ 1 (ints [z]) rfl hsrc2 (by omega) (by unfold maxLen; omega) (by omega) hbz ?_)
            intro g4 c4 w4 ho4 hm4 hat4
            have hm4' : Mod [g3] (w3.alloc (.cells #[.int .i64 z] 3)) w4 := hm4
            have hm34 : Mod [g3] w3 w4 := (Mod.alloc _ _).trans hm4'
            have hB4 : Below w.heap.size w w4 := hB3.trans (hm34.below_of hz3 (by simp; omega))
            have hz4 := hB4.size
            have ho24 := owns_kept ho23 hm34 (by simp [Value.ownBlock]; omega)
            have hg4 : g4 = g3 ∨ w3.heap.size ≤ g4 := by
              rcases hat4 with h | h
              · exact .inl (by simpa [Value.ownBlock] using h.symm)
              · exact .inr (by omega)
            generalize hq4 : catL q3 (ints [z]) = q4 at ho4
            have HQ4 := hideIt hq4
            have hsrc3 := src_rest ho24 hc2 j (by omega)
            obtain ⟨A, hA⟩ : ∃ A, (if c2 = j then some (⟨g2, 0, none⟩ : Addr) else some ⟨g2, j, none⟩) = some A := by split <;> exact ⟨_, rfl⟩
            rw [hA, Nat.sub_self] at hsrc3
            clear hq4 hm4 hat4 hsrc2 hbz ho3a ho3 hm4' hm34 hck3
            go_wp2_with (at_builtin; refine wpList_append_rows _ rfl _ _ 39 rfl w.heap.size 3 i0 (.int .i64 0) 1 8 Tryz.underlying39 hi hz0 hz1 hz2 rfl (by decide) _ (j + 1) q4 rfl ho4 _ 0 (ints (out.drop j)) rfl hsrc3 (by omega) (by unfold maxLen; omega) (by omega) hz4 ?_)
            intro g5 c5 w5 ho5 hm5 hat5
            have hm5' : Mod [g4] w4 w5 := hm5
            have hg4b := (ho4.lt g4 rfl).1
            have hB5 : Below w.heap.size w w5 := hB4.trans (hm5'.below_of hz4 (by simp; omega))
            have ho5' : w5.ownsRow w.heap.size 3 1 (.slice (some ⟨g5, 0, none⟩) (j + 1) c5) (j + 1) (catL q4 (ints (out.drop j))) := ho5
            clear ho5 hm5 hm5' hat5 ho4 hB4 ho24 hsrc3
            go_wp2_with fail
            go_roundw
            case rel =>
              refine ⟨j + 1, by omega, by go_num, hB5, .inr ⟨g5, c5, by omega, rfl, ?_⟩⟩
              have e : ints (sortI (l.take (j + 1))) = catL q4 (ints (out.drop j)) := by
                rw [HST.out, HI.out, ← HQ4.out, ← HQ3.out]
                simp [catL, ints]
              rw [e]
              exact ho5'
            case measure => simp [intOf]; omega
    · have hkl : k = l.length := by omega
      subst hkl
      rcases how with ⟨hk0, rfl⟩ | ⟨g2, c2, hk0, rfl, how⟩
      · go_wp2_with fail
        go_ret
        obtain rfl := List.eq_nil_of_length_eq_zero hk0
        exact ⟨_, rfl, World.ownsRow_nil _ _ _ _, hB⟩
      · rw [List.take_length] at how
        go_wp2_with fail
        go_ret
        exact ⟨_, rfl, how, hB⟩

theorem sorted_any {b : Nat} {v : Value} {l : List Int} {w : World} (ho : w.ownsRow b 3 1 v l.length (ints l)) (hl : l.length ≤ 400) : Calls Tryz.prog 126 #[v] w (SortPost l w) := by
  have ho' := owns_base ho (Nat.zero_le b)
  rcases ho.2 with ⟨rfl, h0⟩ | ⟨g, c, cur, rfl, _⟩
  · obtain rfl := List.eq_nil_of_length_eq_zero h0
    exact sorted_nil w
  · exact sorted_some g c l w ho' hl

end Go.Proofs.YthimaoipogocfaaGreat.Rf

