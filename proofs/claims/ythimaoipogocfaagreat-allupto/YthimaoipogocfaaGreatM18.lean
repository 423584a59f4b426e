import Derived.Test.YthimaoipogocfaaGreatM17
import Derived.Test.YthimaoipogocfaaGreatM12
namespace Go.Proofs.YthimaoipogocfaaGreat
open Go.RowKit Go.Maps
attribute [local go_sem] run_store_f32 run_neg_inf

theorem owns_lift {w : World} {B : Nat} {e : TypeId} {size : Nat} {v : Value} {n : Nat} {xs : List Value} (h : w.ownsRow 0 e size v n xs) (hb : ∀ x ∈ v.ownBlock.toList, B ≤ x) : w.ownsRow B e size v n xs := by
  refine ⟨h.1, ?_⟩
  rcases h.2 with h0 | ⟨g, c, cur, rfl, h1, h2⟩
  · exact .inl h0
  · exact .inr ⟨g, c, cur, rfl, hb g (by simp [Value.ownBlock]), h2⟩

/-- what the book is told of a list that came out -/
def Booked (B pw : Nat) (ps : List PS) (K : Nat) (w0 w : World) (lv : Value) (bk : Bk) (Fb : List Nat) : Prop :=
  w.heap[pw]? = some (T34 lv bk) ∧ BookRep B w bk K Fb ∧ pw ∉ Fb ∧ (∀ x ∈ Fb, x < w0.heap.size) ∧ pw < w0.heap.size ∧
    ∀ v w' e, (∀ x ∈ v.ownBlock.toList, w0.heap.size ≤ x) → BookPost B pw lv K Fb v w e w' → e = .returned (.tuple #[]) ∧ WRep B w' pw ps (K + 4) ∧ Below B w w'

theorem WRep.booked {B : Nat} {w0 w : World} {pw : Nat} {ps : List PS} {K : Nat} (h : WRep B w0 pw ps K) (hm : Mod [] w0 w) (hB : B ≤ w0.heap.size) : ∃ lv bk Fb, Booked B pw ps K w0 w lv bk Fb := by
  obtain ⟨lv, bk, Fb, h1, h2, h3, h4, h5, h6, h7, h8⟩ := h
  have hz := hm.size
  have hpw := lt_of_block h1
  have hlv : ∀ x, lv.ownBlock = some x → x < w0.heap.size := fun x hx => owns_lt h3 hx
  refine ⟨lv, bk, Fb, (hm.block pw hpw (by simp)).trans h1, h7.kept hm (by simp), fun hx => (h8 pw hx).1 rfl, fun x hx => (h7.bounds x hx).2, hpw, fun v w' e hv hp => ?_⟩
  obtain ⟨rfl, bk', Fb', t1, t2, t3, t4⟩ := hp
  have hout : ∀ x, x < w0.heap.size → x ≠ pw → x ∉ Fb → x ∉ pw :: (Fb ++ v.ownBlock.toList) := fun x a b c hx => by
    rcases List.mem_cons.1 hx with e | e
    · exact b e
    · rcases List.mem_append.1 e with e | e
      · exact c e
      · have := hv x e
        omega
  have hin : ∀ x ∈ Fb', x < w0.heap.size → x ∈ Fb := fun x hx hl => by
    rcases t3 x hx with e | e | e
    · exact e
    · have := hv x e
      omega
    · omega
  have hpl : pw ∉ lv.ownBlock.toList := owns_ne' h3 h1 (by decide)
  have hfb : ∀ x ∈ Fb', x ≠ pw := fun x hx e => by
    subst e
    exact (h8 _ (hin _ hx hpw)).1 rfl
  refine ⟨rfl, ⟨lv, bk', Fb', t1, h2, owns_kept (owns_kept h3 hm (by simp)) t4 (fun k hk => hout k (hlv k hk) (fun e => hpl (by subst e; simp [hk])) (fun hx => (h8 k hx).2 (by simp [hk]))), fun p hp => ((h4 p hp).kept hm (by simp)).kept t4 (fun x hx => hout x ((h4 p hp).lt x hx) (h5 p hp x hx).2.1 (h5 p hp x hx).2.2.2),
    fun p hp x hx => ⟨(h5 p hp x hx).1, (h5 p hp x hx).2.1, (h5 p hp x hx).2.2.1, fun hx' => (h5 p hp x hx).2.2.2 (hin x hx' ((h4 p hp).lt x hx))⟩, h6, t2, fun x hx => ⟨hfb x hx, fun hx' => ?_⟩⟩, ?_⟩
  · have hl := hlv x (by simpa using hx')
    exact (h8 x (hin x hx hl)).2 hx'
  · refine t4.below_of (Nat.le_trans hB hz) (fun x hx => ?_)
    rcases List.mem_cons.1 hx with e | e
    · omega
    · rcases List.mem_append.1 e with e | e
      · exact (h7.bounds x e).1
      · have := hv x e
        omega

/-! ### Nearest, with whose memory it is -/
def HNearOwn (hs : List Ht) (w : World) (e : Ending) (w' : World) : Prop := ∃ v, e = .returned (.tuple #[v, .int .i64 0]) ∧ w'.ownsRow 0 50 2 v hs.length (htsV hs) ∧ (∀ x ∈ v.ownBlock.toList, w.heap.size ≤ x) ∧ Mod [] w w'

set_option maxRecDepth 100000 in
set_option maxHeartbeats 400000 in
theorem hNear_own {w : World} {q fan : Nat} {ts : List Tg} {lg : List Int} {F : List Nat} (h : HRep w q fan ts lg F) {x y : Int} (hx : Near9 x) (hy : Near9 y) (hn : ts.length ≤ 1000) {most : Nat} (hmost : most ≤ 9223372036854775807) :
    Calls Tryz.prog 26 #[.pointer (some ⟨q, 0, none⟩), .int .i64 x, .int .i64 y, .int .i64 most] w (HNearOwn ((sortH (ts.map (tgH x y))).take most) w) := by
  obtain ⟨p, lv, F0, h1, h2, -, -, -, hi, rfl⟩ := h
  have c := cell_hO h1
  have cd := cell_mod (Mod.drew _) c
  have hpl : placeB x y = true := placeB_iff.2 ⟨hx, hy⟩
  have hid : ∀ t ∈ ts, 0 ≤ t.id := fun t ht => (hi.1 t ht).1
  have HF := hideIt (fun W (hW : Mod [] w W) => bNear_any (h2.kept hW (by simp)) hx hy hid (by omega) hmost)
  have hm0 : ¬ ((most : Int) < 0) := by omega
  generalize (sortH (ts.map (tgH x y))).take most = hs at *
  clear h1 h2 hi hx hy hid
  go_enter Tryz.func26, Tryz.ntmps26
  go_wp2_with fail
  refine (isPlace_any _ _ _).mono ?_
  rw [hpl]
  rintro e w1 ⟨rfl, hw⟩
  obtain rfl := hw.symm
  clear hw
  go_wp2_with fail
  refine (HF.out _ (Mod.refl _ _)).mono ?_
  rintro e w2 ⟨v, rfl, k1, k2, k3⟩
  have HP := hideIt (show HNearOwn hs w (.returned (.tuple #[v, .int .i64 0])) w2 from ⟨v, rfl, k1, k2, k3⟩)
  clear k1 k2 k3 c cd HF
  go_wp2
  go_ret2
  exact HP.out

end Go.Proofs.YthimaoipogocfaaGreat

namespace Go.Proofs.YthimaoipogocfaaGreat
open Go.RowKit Go.Maps
attribute [local go_sem] run_store_f32 run_neg_inf

set_option maxRecDepth 100000 in
set_option maxHeartbeats 1000000 in
theorem lawNumbers {B : Nat} {w0 w : World} {pw : Nat} {ps : List PS} {K : Nat} (h : WRep B w0 pw ps K) (hm : Mod [] w0 w) (hB : B ≤ w0.heap.size) (hK : K ≤ 100000000) {v u : Value} {xs : List Int} (hv : w.ownsRow 0 3 1 v xs.length (ints xs)) (hvn : ∀ x ∈ v.ownBlock.toList, w0.heap.size ≤ x)
    (hu : w.ownsRow 0 3 1 u xs.length (ints xs)) (hn : xs.length ≤ 1000) (c : Int) :
    Calls Tryz.prog 90 #[.pointer (some ⟨pw, 0, none⟩), v, .int .i64 c, u, .int .i64 c] w (JoinPost B pw ps (K + 4) w) := by
  have HBK := hideIt (show ∀ W, Mod [] w W → Calls Tryz.prog 127 #[.pointer (some ⟨pw, 1, none⟩), v] W (fun e w' => e = .returned (.tuple #[]) ∧ WRep B w' pw ps (K + 4) ∧ Below B w w') from fun W hW => by
    obtain ⟨lv, bk, Fb, k1, k2, k3, k4, k5, k6⟩ := h.booked (hm.trans hW) hB
    have hz := (hm.trans hW).size
    refine (bookN_any k1 k2 hK (by omega) k3 (owns_lift (owns_kept hv hW (by simp)) (fun x hx => Nat.le_trans hB (hvn x hx))) hn (fun x hx => ⟨fun hx' => ?_, fun e => ?_⟩)).mono ?_
    · have := hvn x hx
      have := k4 x hx'
      omega
    · have := hvn x hx
      omega
    · intro e w' hp
      obtain ⟨e1, e2, e3⟩ := k6 v w' e hvn hp
      exact ⟨e1, e2, (hW.below_of (Nat.le_trans hB hm.size) (by simp)).trans e3⟩)
  obtain ⟨a, ca, hva, hca⟩ := RowI.of_owns hv
  obtain ⟨a', ca', rfl, hca'⟩ := RowI.of_owns hu
  subst hva
  have HC := hideIt hca
  have HC' := hideIt hca'
  have hlb : ((xs.length : Int) == (xs.length : Int)) = true := by simp
  clear hca hca' h hm hv hvn hu hB
  go_enter Tryz.func90, Tryz.ntmps90
  go_wp2_with fail
  refine (num_any _ _).mono ?_
  rintro e w1 ⟨rfl, hw⟩
  obtain rfl := hw.symm
  clear hw
  go_wp2_with fail
  go_loopw [11, 12] (fun ok i wr => ok = .bool true ∧ ∃ k : Nat, k ≤ xs.length ∧ i = .int .i64 k ∧ Mod [] w wr) (fun _ i _ => xs.length - (intOf i).toNat)
  case atStart => exact ⟨rfl, 0, by omega, rfl, Mod.refl _ _⟩
  case round =>
    obtain ⟨rfl, k, hk, rfl, hmr⟩ := hrel
    by_cases hlt : k < xs.length
    · have hlt' : (k : Int) < (xs.length : Int) := by omega
      have hget : xs[k]? = some xs[k] := List.getElem?_eq_getElem hlt
      obtain ⟨b, rfl, c1⟩ := HC.out k _ hget
      obtain ⟨b', rfl, c2⟩ := HC'.out k _ hget
      have c1 := cell_mod hmr c1
      have c2 := cell_mod hmr c2
      have HM := hideIt hmr
      clear hmr hget
      generalize xs[k] = x at *
      have hq : (x == x) = true := by simp
      go_wp2_with fail
      go_region
      all_goals
        go_wp2_with fail
        go_roundw
        case rel => exact ⟨rfl, k + 1, by omega, by go_num, HM.out.trans (Mod.drew _)⟩
        case measure => simp [intOf]; omega
    · have hge : ¬ ((k : Int) < (xs.length : Int)) := by omega
      have HN := hideIt (HBK.out _ hmr)
      clear HBK hmr
      go_wp2_with fail
      refine HN.out.mono ?_
      rintro e w2 ⟨rfl, r1, r2⟩
      have HR := hideIt (And.intro r1 r2)
      clear HN r1 r2
      go_wp2
      go_ret
      exact ⟨rfl, HR.out.1, HR.out.2⟩

/-! ### the nearest -/
/-- hits that came out of a call, with an error's number -/
def HitX (c : Int) (hs : List Ht) (w : World) (e : Ending) (w' : World) : Prop := ∃ v, e = .returned (.tuple #[v, .int .i64 c]) ∧ w'.ownsRow 0 50 2 v hs.length (htsV hs) ∧ (∀ x ∈ v.ownBlock.toList, w.heap.size ≤ x) ∧ Mod [] w w'

theorem htsV_ints (hs : List Ht) : ∀ u ∈ htsV hs, ∃ z, u = .int .i64 z := fun u hu => by
  obtain ⟨h, _, hu⟩ := List.mem_flatMap.1 hu
  simp [htCells] at hu
  rcases hu with rfl | rfl
  · exact ⟨_, rfl⟩
  · exact ⟨_, rfl⟩
theorem htsV_len (hs : List Ht) : (htsV hs).length = hs.length * 2 := by
  induction hs with
  | nil => rfl
  | cons a l ih =>
    have e : htsV (a :: l) = htCells a ++ htsV l := rfl
    rw [e, List.length_append, ih, List.length_cons]
    simp [htCells]
    omega

set_option maxRecDepth 100000 in
set_option maxHeartbeats 1000000 in
theorem lawNearest {B : Nat} {w : World} {pw : Nat} {ps : List PS} {K : Nat} (h : WRep B w pw ps K) (hB : B ≤ w.heap.size) (hK : K ≤ 100000000) {px py : Nat} (s : Stp) {c : Int} {hs : List Ht} (hn : hs.length ≤ 1000)
    (hX : ∀ W, Mod [] w W → Calls Tryz.prog 26 #[.pointer (some ⟨px, 0, none⟩), .int .i64 s.a, .int .i64 s.b, .int .i64 s.c] W (HitX c hs W))
    (hY : ∀ W, Mod [] w W → Calls Tryz.prog 128 #[.pointer (some ⟨py, 0, none⟩), .int .i64 s.a, .int .i64 s.b, .int .i64 s.c] W (HitX c hs W)) :
    Calls Tryz.prog 92 #[.pointer (some ⟨pw, 0, none⟩), G2 px py, S10 s] w (JoinPost B pw ps (K + 4) w) := by
  obtain ⟨hm0, hb1, hb2⟩ := holds_boxes w px py s
  have HX := hideIt hX
  have HY := hideIt hY
  have HW := hideIt h
  have HM0 := hideIt hm0
  have HB1 := hideIt hb1
  have HB2 := hideIt hb2
  clear hX hY h hm0 hb1 hb2
  go_enter Tryz.func92, Tryz.ntmps92
  go_wp2_with fail
  refine (HX.out _ HM0.out).mono ?_
  rintro e w1 ⟨v, rfl, o1, n1, m1⟩
  have hb1' := (m1.block _ (lt_of_block HB1.out) (by simp)).trans HB1.out
  have hb2' := (m1.block _ (lt_of_block HB2.out) (by simp)).trans HB2.out
  have c1 := (cell_B52 hb1').2
  have d2 : w1.cell? ⟨w.heap.size + 1, 2, none⟩ = some (.int .i64 s.a) := cell_B40 hb2' 2 _ rfl
  have d3 : w1.cell? ⟨w.heap.size + 1, 3, none⟩ = some (.int .i64 s.b) := cell_B40 hb2' 3 _ rfl
  have d4 : w1.cell? ⟨w.heap.size + 1, 4, none⟩ = some (.int .i64 s.c) := cell_B40 hb2' 4 _ rfl
  have HM1 := hideIt (HM0.out.trans m1)
  have HO1 := hideIt o1
  have HN1 := hideIt (show ∀ x ∈ v.ownBlock.toList, w.heap.size ≤ x from fun x hx => Nat.le_trans HM0.out.size (n1 x hx))
  clear hb1' hb2' o1 n1 m1 HX HB1 HB2 HM0
  go_wp2_with fail
  refine (HY.out _ HM1.out).mono ?_
  rintro e w2 ⟨u, rfl, o2, n2, m2⟩
  have HM2 := hideIt (HM1.out.trans m2)
  have HO1 := hideIt (owns_kept HO1.out m2 (by simp))
  have HBK := hideIt (show ∀ W, Mod [] w2 W → Calls Tryz.prog 129 #[.pointer (some ⟨pw, 1, none⟩), v] W (fun e w' => e = .returned (.tuple #[]) ∧ WRep B w' pw ps (K + 4) ∧ Below B w w') from fun W hW => by
    have hmW := HM2.out.trans hW
    obtain ⟨lv, bk, Fb, k1, k2, k3, k4, k5, k6⟩ := HW.out.booked hmW hB
    have hz := hmW.size
    refine (bookH_any k1 k2 hK (by omega) k3 (htsV_len hs) (owns_lift (owns_kept HO1.out hW (by simp)) (fun x hx => Nat.le_trans hB (HN1.out x hx))) (htsV_ints hs) hn (fun x hx => ⟨fun hx' => ?_, fun e => ?_⟩)).mono ?_
    · have := HN1.out x hx
      have := k4 x hx'
      omega
    · have := HN1.out x hx
      omega
    · intro e w' hp
      obtain ⟨e1, e2, e3⟩ := k6 v w' e HN1.out hp
      exact ⟨e1, e2, (hmW.below_of hB (by simp)).trans e3⟩)
  obtain ⟨a, ca, hva, hca⟩ := RowH.of_owns HO1.out
  obtain ⟨a', ca', hua, hca'⟩ := RowH.of_owns o2
  subst hva hua
  have HC := hideIt hca
  have HC' := hideIt hca'
  have hlb : ((hs.length : Int) == (hs.length : Int)) = true := by simp
  clear hca hca' c1 d2 d3 d4 o2 n2 m2 HO1 HN1 HM1 HM2 HW HY
  go_wp2_with fail
  refine (num_any _ _).mono ?_
  rintro e w3 ⟨rfl, hw⟩
  obtain rfl := hw.symm
  clear hw
  go_wp2_with fail
  go_loopw [11, 12] (fun ok i wr => ok = .bool true ∧ ∃ k : Nat, k ≤ hs.length ∧ i = .int .i64 k ∧ Mod [] w2 wr) (fun _ i _ => hs.length - (intOf i).toNat)
  case atStart => exact ⟨rfl, 0, by omega, rfl, Mod.refl _ _⟩
  case round =>
    obtain ⟨rfl, k, hk, rfl, hmr⟩ := hrel
    by_cases hlt : k < hs.length
    · have hlt' : (k : Int) < (hs.length : Int) := by omega
      have hget : hs[k]? = some hs[k] := List.getElem?_eq_getElem hlt
      obtain ⟨b, rfl, c1, c2⟩ := HC.out k _ hget
      obtain ⟨b', rfl, c3, c4⟩ := HC'.out k _ hget
      have c1 := cell_mod hmr c1
      have c2 := cell_mod hmr c2
      have c3 := cell_mod hmr c3
      have c4 := cell_mod hmr c4
      have HM := hideIt hmr
      clear hmr hget
      generalize (hs[k]).id = x at *
      generalize (hs[k]).far = y at *
      go_wp2_with fail
      go_quiet (fail)
      have HMD := hideIt (HM.out.trans (Mod.drewN _ nq))
      clear c1 c2 c3 c4 HM
      generalize wr.drewN nq = w8 at *
      go_wp2_with fail
      go_roundw
      case rel => exact ⟨rfl, k + 1, by omega, by go_num, HMD.out⟩
      case measure => simp [intOf]; omega
    · have hge : ¬ ((k : Int) < (hs.length : Int)) := by omega
      have HN := hideIt (HBK.out _ hmr)
      clear HBK hmr
      go_wp2_with fail
      refine HN.out.mono ?_
      rintro e w4 ⟨rfl, r1, r2⟩
      have HR := hideIt (And.intro r1 r2)
      clear HN r1 r2
      go_wp2
      go_ret
      exact ⟨rfl, HR.out.1, HR.out.2⟩

end Go.Proofs.YthimaoipogocfaaGreat

namespace Go.Proofs.YthimaoipogocfaaGreat
open Go.RowKit Go.Maps
attribute [local go_sem] run_store_f32 run_neg_inf

/-- numbers that came out of a call, with an error's number -/
def NumX (c : Int) (xs : List Int) (w : World) (e : Ending) (w' : World) : Prop := ∃ v, e = .returned (.tuple #[v, .int .i64 c]) ∧ w'.ownsRow 0 3 1 v xs.length (ints xs) ∧ (∀ x ∈ v.ownBlock.toList, w.heap.size ≤ x) ∧ Mod [] w w'

set_option maxRecDepth 100000 in
set_option maxHeartbeats 1000000 in
theorem finds_meets {B : Nat} {w : World} {pw : Nat} {ps : List PS} {K : Nat} (h : WRep B w pw ps K) (hB : B ≤ w.heap.size) (hK : K ≤ 100000000) {px py : Nat} (s : Stp) (hk7 : (s.k == 7) = true) {c : Int} {xs : List Int} (hn : xs.length ≤ 1000)
    (hX : ∀ W, Mod [] w W → Calls Tryz.prog 36 #[.pointer (some ⟨px, 0, none⟩), R4 s.x0 s.y0 s.x1 s.y1] W (NumX c xs W))
    (hY : ∀ W, Mod [] w W → Calls Tryz.prog 89 #[.pointer (some ⟨py, 0, none⟩), R4 s.x0 s.y0 s.x1 s.y1, .bool false] W (NumX c xs W)) :
    Calls Tryz.prog 55 #[.pointer (some ⟨pw, 0, none⟩), G2 px py, S10 s] w (JoinPost B pw ps (K + 4) w) := by
  obtain ⟨hm0, hb1, hb2⟩ := holds_boxes w px py s
  have HX := hideIt hX
  have HY := hideIt hY
  have HW := hideIt h
  have HM0 := hideIt hm0
  have HB1 := hideIt hb1
  have HB2 := hideIt hb2
  clear hX hY h hm0 hb1 hb2
  go_enter Tryz.func55, Tryz.ntmps55
  go_wp2_with fail
  refine (HX.out _ HM0.out).mono ?_
  rintro e w1 ⟨v, rfl, o1, n1, m1⟩
  have hb1' := (m1.block _ (lt_of_block HB1.out) (by simp)).trans HB1.out
  have hb2' := (m1.block _ (lt_of_block HB2.out) (by simp)).trans HB2.out
  have c1 := (cell_B52 hb1').2
  have d5 : w1.cell? ⟨w.heap.size + 1, 5, none⟩ = some (.int .i64 s.x0) := cell_B40 hb2' 5 _ rfl
  have d6 : w1.cell? ⟨w.heap.size + 1, 6, none⟩ = some (.int .i64 s.y0) := cell_B40 hb2' 6 _ rfl
  have d7 : w1.cell? ⟨w.heap.size + 1, 7, none⟩ = some (.int .i64 s.x1) := cell_B40 hb2' 7 _ rfl
  have d8 : w1.cell? ⟨w.heap.size + 1, 8, none⟩ = some (.int .i64 s.y1) := cell_B40 hb2' 8 _ rfl
  have HM1 := hideIt (HM0.out.trans m1)
  have HO1 := hideIt o1
  have HN1 := hideIt (show ∀ x ∈ v.ownBlock.toList, w.heap.size ≤ x from fun x hx => Nat.le_trans HM0.out.size (n1 x hx))
  clear hb1' hb2' o1 n1 m1 HX HB1 HB2 HM0
  go_wp2_with fail
  refine (HY.out _ HM1.out).mono ?_
  rintro e w2 ⟨u, rfl, o2, n2, m2⟩
  have HM2 := hideIt (HM1.out.trans m2)
  have HL := hideIt (lawNumbers HW.out HM2.out hB hK (owns_kept HO1.out m2 (by simp)) HN1.out o2 hn c)
  clear c1 d5 d6 d7 d8 o2 n2 m2 HO1 HN1 HM1 HW HY
  go_wp2_with fail
  refine HL.out.mono ?_
  rintro e w3 ⟨rfl, r1, r2⟩
  have HR := hideIt (And.intro r1 ((HM2.out.below_of hB (by simp)).trans r2))
  clear HL HM2 r1 r2
  go_wp2
  go_ret
  exact ⟨rfl, HR.out.1, HR.out.2⟩

set_option maxRecDepth 100000 in
set_option maxHeartbeats 1000000 in
theorem finds_within {B : Nat} {w : World} {pw : Nat} {ps : List PS} {K : Nat} (h : WRep B w pw ps K) (hB : B ≤ w.heap.size) (hK : K ≤ 100000000) {px py : Nat} (s : Stp) (hk7 : (s.k == 7) = false) (hk8 : (s.k == 8) = true) {c : Int} {xs : List Int} (hn : xs.length ≤ 1000)
    (hX : ∀ W, Mod [] w W → Calls Tryz.prog 38 #[.pointer (some ⟨px, 0, none⟩), R4 s.x0 s.y0 s.x1 s.y1] W (NumX c xs W))
    (hY : ∀ W, Mod [] w W → Calls Tryz.prog 89 #[.pointer (some ⟨py, 0, none⟩), R4 s.x0 s.y0 s.x1 s.y1, .bool true] W (NumX c xs W)) :
    Calls Tryz.prog 55 #[.pointer (some ⟨pw, 0, none⟩), G2 px py, S10 s] w (JoinPost B pw ps (K + 4) w) := by
  obtain ⟨hm0, hb1, hb2⟩ := holds_boxes w px py s
  have HX := hideIt hX
  have HY := hideIt hY
  have HW := hideIt h
  have HM0 := hideIt hm0
  have HB1 := hideIt hb1
  have HB2 := hideIt hb2
  clear hX hY h hm0 hb1 hb2
  go_enter Tryz.func55, Tryz.ntmps55
  go_wp2_with fail
  refine (HX.out _ HM0.out).mono ?_
  rintro e w1 ⟨v, rfl, o1, n1, m1⟩
  have hb1' := (m1.block _ (lt_of_block HB1.out) (by simp)).trans HB1.out
  have hb2' := (m1.block _ (lt_of_block HB2.out) (by simp)).trans HB2.out
  have c1 := (cell_B52 hb1').2
  have d5 : w1.cell? ⟨w.heap.size + 1, 5, none⟩ = some (.int .i64 s.x0) := cell_B40 hb2' 5 _ rfl
  have d6 : w1.cell? ⟨w.heap.size + 1, 6, none⟩ = some (.int .i64 s.y0) := cell_B40 hb2' 6 _ rfl
  have d7 : w1.cell? ⟨w.heap.size + 1, 7, none⟩ = some (.int .i64 s.x1) := cell_B40 hb2' 7 _ rfl
  have d8 : w1.cell? ⟨w.heap.size + 1, 8, none⟩ = some (.int .i64 s.y1) := cell_B40 hb2' 8 _ rfl
  have HM1 := hideIt (HM0.out.trans m1)
  have HO1 := hideIt o1
  have HN1 := hideIt (show ∀ x ∈ v.ownBlock.toList, w.heap.size ≤ x from fun x hx => Nat.le_trans HM0.out.size (n1 x hx))
  clear hb1' hb2' o1 n1 m1 HX HB1 HB2 HM0
  go_wp2_with fail
  refine (HY.out _ HM1.out).mono ?_
  rintro e w2 ⟨u, rfl, o2, n2, m2⟩
  have HM2 := hideIt (HM1.out.trans m2)
  have HL := hideIt (lawNumbers HW.out HM2.out hB hK (owns_kept HO1.out m2 (by simp)) HN1.out o2 hn c)
  clear c1 d5 d6 d7 d8 o2 n2 m2 HO1 HN1 HM1 HW HY
  go_wp2_with fail
  refine HL.out.mono ?_
  rintro e w3 ⟨rfl, r1, r2⟩
  have HR := hideIt (And.intro r1 ((HM2.out.below_of hB (by simp)).trans r2))
  clear HL HM2 r1 r2
  go_wp2
  go_ret
  exact ⟨rfl, HR.out.1, HR.out.2⟩

def IntX (n : Int) (w : World) (e : Ending) (w' : World) : Prop := e = .returned (.int .i64 n) ∧ Mod [] w w'

set_option maxRecDepth 100000 in
set_option maxHeartbeats 1000000 in
theorem finds_pairs {B : Nat} {w : World} {pw : Nat} {ps : List PS} {K : Nat} (h : WRep B w pw ps K) (hB : B ≤ w.heap.size) {px py : Nat} (s : Stp) (hk7 : (s.k == 7) = false) (hk8 : (s.k == 8) = false) (hk9 : (s.k == 9) = true) {n : Int}
    (hX : ∀ W, Mod [] w W → Calls Tryz.prog 25 #[.pointer (some ⟨px, 0, none⟩)] W (IntX n W))
    (hY : ∀ W, Mod [] w W → Calls Tryz.prog 91 #[.pointer (some ⟨py, 0, none⟩)] W (IntX n W)) :
    Calls Tryz.prog 55 #[.pointer (some ⟨pw, 0, none⟩), G2 px py, S10 s] w (JoinPost B pw ps (K + 4) w) := by
  obtain ⟨hm0, hb1, hb2⟩ := holds_boxes w px py s
  have HX := hideIt hX
  have HY := hideIt hY
  have HW := hideIt h
  have HM0 := hideIt hm0
  have HB1 := hideIt hb1
  clear hX hY h hm0 hb1 hb2
  go_enter Tryz.func55, Tryz.ntmps55
  go_wp2_with fail
  refine (HX.out _ HM0.out).mono ?_
  rintro e w1 ⟨rfl, m1⟩
  have hb1' := (m1.block _ (lt_of_block HB1.out) (by simp)).trans HB1.out
  have c1 := (cell_B52 hb1').2
  have HM1 := hideIt (HM0.out.trans m1)
  clear hb1' m1 HX HB1 HM0
  go_wp2_with fail
  refine (HY.out _ HM1.out).mono ?_
  rintro e w2 ⟨rfl, m2⟩
  have hm2 := HM1.out.trans m2
  have HR := hideIt (And.intro ((HW.out.kept hm2).more (show K ≤ K + 4 by omega)) (hm2.below_of hB (by simp)))
  clear c1 m2 hm2 HM1 HW HY
  go_wp2
  go_ret
  exact ⟨rfl, HR.out.1, HR.out.2⟩

set_option maxRecDepth 100000 in
set_option maxHeartbeats 1000000 in
theorem finds_near {B : Nat} {w : World} {pw : Nat} {ps : List PS} {K : Nat} (h : WRep B w pw ps K) (hB : B ≤ w.heap.size) (hK : K ≤ 100000000) {px py : Nat} (s : Stp) (hk7 : (s.k == 7) = false) (hk8 : (s.k == 8) = false) (hk9 : (s.k == 9) = false) (hk10 : (s.k == 10) = true) {c : Int} {hs : List Ht} (hn : hs.length ≤ 1000)
    (hX : ∀ W, Mod [] w W → Calls Tryz.prog 26 #[.pointer (some ⟨px, 0, none⟩), .int .i64 s.a, .int .i64 s.b, .int .i64 s.c] W (HitX c hs W))
    (hY : ∀ W, Mod [] w W → Calls Tryz.prog 128 #[.pointer (some ⟨py, 0, none⟩), .int .i64 s.a, .int .i64 s.b, .int .i64 s.c] W (HitX c hs W)) :
    Calls Tryz.prog 55 #[.pointer (some ⟨pw, 0, none⟩), G2 px py, S10 s] w (JoinPost B pw ps (K + 4) w) := by
  obtain ⟨hm0, hb1, hb2⟩ := holds_boxes w px py s
  have hz := hm0.size
  have HL := hideIt (lawNearest (h.kept hm0) (Nat.le_trans hB hz) hK (px := px) (py := py) s hn (fun W hW => hX W (hm0.trans hW)) (fun W hW => hY W (hm0.trans hW)))
  have HM0 := hideIt hm0
  clear hX hY h hm0 hb1 hb2
  go_enter Tryz.func55, Tryz.ntmps55
  go_wp2_with fail
  refine HL.out.mono ?_
  rintro e w3 ⟨rfl, r1, r2⟩
  have HR := hideIt (And.intro r1 ((HM0.out.below_of hB (by simp)).trans r2))
  clear HL HM0 r1 r2
  go_wp2
  go_ret
  exact ⟨rfl, HR.out.1, HR.out.2⟩

def HeiX (P : Nat → Prop) (w : World) (e : Ending) (w' : World) : Prop := ∃ n : Nat, e = .returned (.int .i64 (n : Int)) ∧ P n ∧ Mod [] w w'
theorem HRep.fans {w : World} {q fan : Nat} {ts : List Tg} {lg : List Int} {F : List Nat} (h : HRep w q fan ts lg F) : 4 ≤ fan ∧ fan ≤ 16 := by
  obtain ⟨_, _, _, _, ⟨_, _, _, _, _, ht, _⟩, _⟩ := h
  exact ⟨ht.fan4, ht.fan16⟩

set_option maxRecDepth 100000 in
set_option maxHeartbeats 1000000 in
theorem finds_height {B : Nat} {w : World} {pw : Nat} {ps : List PS} {K : Nat} (h : WRep B w pw ps K) (hB : B ≤ w.heap.size) {px py : Nat} (s : Stp) (hk7 : (s.k == 7) = false) (hk8 : (s.k == 8) = false) (hk9 : (s.k == 9) = false) (hk10 : (s.k == 10) = false) {P : Nat → Prop}
    (hX : ∀ W, Mod [] w W → Calls Tryz.prog 93 #[.pointer (some ⟨px, 0, none⟩)] W (HeiX P W))
    (hY : ∀ W n, P n → Mod [] w W → Calls Tryz.prog 94 #[.pointer (some ⟨py, 0, none⟩), .int .i64 (n : Nat)] W (fun e w' => e = .returned (.bool true) ∧ W = w')) :
    Calls Tryz.prog 55 #[.pointer (some ⟨pw, 0, none⟩), G2 px py, S10 s] w (JoinPost B pw ps (K + 4) w) := by
  obtain ⟨hm0, hb1, hb2⟩ := holds_boxes w px py s
  have HX := hideIt hX
  have HY := hideIt hY
  have HW := hideIt h
  have HM0 := hideIt hm0
  have HB1 := hideIt hb1
  clear hX hY h hm0 hb1 hb2
  go_enter Tryz.func55, Tryz.ntmps55
  go_wp2_with fail
  refine (HX.out _ HM0.out).mono ?_
  rintro e w1 ⟨n, rfl, hP, m1⟩
  have hb1' := (m1.block _ (lt_of_block HB1.out) (by simp)).trans HB1.out
  have c1 := (cell_B52 hb1').2
  have HM1 := hideIt (HM0.out.trans m1)
  clear hb1' m1 HX HB1 HM0
  go_wp2_with fail
  refine (HY.out _ _ hP HM1.out).mono ?_
  rintro e w2 ⟨rfl, hw⟩
  obtain rfl := hw.symm
  clear hw
  have HR := hideIt (And.intro ((HW.out.kept HM1.out).more (show K ≤ K + 4 by omega)) (HM1.out.below_of hB (by simp)))
  clear c1 HM1 HW HY
  go_wp2
  go_ret
  exact ⟨rfl, HR.out.1, HR.out.2⟩

/-! ### what the trees of a pair answer -/
theorem NumX.bad {c : Int} {w w' : World} (hm : Mod [] w w') : NumX c [] w (.returned (.tuple #[.slice none 0 0, .int .i64 c])) w' :=
  ⟨_, rfl, World.ownsRow_nil _ _ _ _, by simp [Value.ownBlock], hm⟩
theorem HitX.bad {c : Int} {w w' : World} (hm : Mod [] w w') : HitX c [] w (.returned (.tuple #[.slice none 0 0, .int .i64 c])) w' :=
  ⟨_, rfl, World.ownsRow_nil _ _ _ _, by simp [Value.ownBlock], hm⟩

theorem finds_any {B : Nat} {w : World} {pw : Nat} {ps : List PS} {K : Nat} (h : WRep B w pw ps K) (hB : B ≤ w.heap.size) (hK : K ≤ 100000000) {p : PS} (hp : PairRep w p) (s : Stp) (hs : s.ok) :
    Calls Tryz.prog 55 #[.pointer (some ⟨pw, 0, none⟩), G2 p.px p.py, S10 s] w (JoinPost B pw ps (K + 4) w) := by
  obtain ⟨F1, F2, h1, h2, h3, h4, h5⟩ := hp
  have hnd := h5.nodup h1
  have hsl := h5.slen
  obtain ⟨ts, r1, r2⟩ := h1
  have hlen : ts.length ≤ 400 := by rw [← List.length_map (f := Tg.th), r2]; exact hsl
  have hperm : p.L.Perm (ts.map Tg.th) := by rw [r2]; exact h5.perm
  have hR : ∀ W, Mod [] w W → HRep W p.px p.fan ts p.s.lg F1 := fun W hW => r1.kept hW (by simp)
  have hQ : ∀ W, Mod [] w W → RefRep W p.py p.fan p.L p.s.lg F2 := fun W hW => h2.kept hW (by simp)
  have hL := h5.len
  cases hk7 : (s.k == 7) with
  | true =>
    cases hr : rectB s.x0 s.y0 s.x1 s.y1 with
    | false =>
      refine finds_meets h hB hK s hk7 (c := 2) (xs := []) (by simp) (fun W hW => ?_) (fun W hW => ?_)
      · refine (hMeets_bad _ _ hr).mono ?_
        rintro e w' ⟨rfl, hm⟩
        exact NumX.bad hm
      · refine (Rf.Found_bad _ _ _ _ _ _ _ hr).mono ?_
        rintro e w' ⟨rfl, hb⟩
        exact NumX.bad (Mod.of_below hb)
    | true =>
      refine finds_meets h hB hK s hk7 (c := 0) (xs := foundG (meetG s.x0 s.y0 s.x1 s.y1) ts) (Nat.le_trans (foundG_len _ _) (by omega)) (fun W hW => ?_) (fun W hW => ?_)
      · exact hMeets_good (hR W hW) (rectB_ok hr) (by omega)
      · refine (Rf.Found_any (hQ W hW) hL s.x0 s.y0 s.x1 s.y1 false hr).mono ?_
        rintro e w' ⟨v, rfl, o, hb⟩
        have ex := meets_same hperm s.x0 s.y0 s.x1 s.y1
        rw [← ex]
        exact ⟨v, rfl, by rw [Rf.sortI_length]; exact owns_base o (Nat.zero_le _), fun x hx => (o.lt x (by simpa using hx)).1, Mod.of_below hb⟩
  | false =>
    cases hk8 : (s.k == 8) with
    | true =>
      cases hr : rectB s.x0 s.y0 s.x1 s.y1 with
      | false =>
        refine finds_within h hB hK s hk7 hk8 (c := 2) (xs := []) (by simp) (fun W hW => ?_) (fun W hW => ?_)
        · refine (hWithin_bad _ _ hr).mono ?_
          rintro e w' ⟨rfl, hm⟩
          exact NumX.bad hm
        · refine (Rf.Found_bad _ _ _ _ _ _ _ hr).mono ?_
          rintro e w' ⟨rfl, hb⟩
          exact NumX.bad (Mod.of_below hb)
      | true =>
        refine finds_within h hB hK s hk7 hk8 (c := 0) (xs := foundG (holdG s.x0 s.y0 s.x1 s.y1) ts) (Nat.le_trans (foundG_len _ _) (by omega)) (fun W hW => ?_) (fun W hW => ?_)
        · exact hWithin_good (hR W hW) (rectB_ok hr) (by omega)
        · refine (Rf.Found_any (hQ W hW) hL s.x0 s.y0 s.x1 s.y1 true hr).mono ?_
          rintro e w' ⟨v, rfl, o, hb⟩
          have ex := within_same hperm s.x0 s.y0 s.x1 s.y1
          rw [← ex]
          exact ⟨v, rfl, by rw [Rf.sortI_length]; exact owns_base o (Nat.zero_le _), fun x hx => (o.lt x (by simpa using hx)).1, Mod.of_below hb⟩
    | false =>
      cases hk9 : (s.k == 9) with
      | true =>
        refine finds_pairs h hB s hk7 hk8 hk9 (n := (pairsG ts : Nat)) (fun W hW => ?_) (fun W hW => ?_)
        · refine (hPairs_any (hR W hW) (by omega)).mono ?_
          rintro e w' ⟨rfl, hm⟩
          exact ⟨rfl, hm⟩
        · refine (Rf.refPairs_any (hQ W hW) hL).mono ?_
          rintro e w' ⟨rfl, hb⟩
          have ex : Rf.pairsF p.L = pairsG ts := by rw [pairs_same hnd, pairsG_T]; exact pairsT_perm hperm
          rw [ex]
          exact ⟨rfl, Mod.of_below hb⟩
      | false =>
        cases hk10 : (s.k == 10) with
        | true =>
          cases hpl : placeB s.a s.b with
          | false =>
            refine finds_near h hB hK s hk7 hk8 hk9 hk10 (c := 1) (hs := []) (by simp) (fun W hW => ?_) (fun W hW => ?_)
            · refine (hNear_place _ _ hpl).mono ?_
              rintro e w' ⟨rfl, hm⟩
              exact HitX.bad hm
            · refine (Rf.refNear_bad _ _ _ _ _ (.inl hpl)).mono ?_
              rintro e w' ⟨rfl, rfl⟩
              exact HitX.bad (Mod.refl _ _)
          | true =>
            by_cases hc : s.c < 0
            · refine finds_near h hB hK s hk7 hk8 hk9 hk10 (c := 1) (hs := []) (by simp) (fun W hW => ?_) (fun W hW => ?_)
              · refine (hNear_most _ _ hpl hc).mono ?_
                rintro e w' ⟨rfl, hm⟩
                exact HitX.bad hm
              · refine (Rf.refNear_bad _ _ _ _ _ (.inr hc)).mono ?_
                rintro e w' ⟨rfl, rfl⟩
                exact HitX.bad (Mod.refl _ _)
            · obtain ⟨n, hn⟩ := Int.eq_ofNat_of_zero_le (show 0 ≤ s.c by omega)
              have hcm := hs.c.2
              obtain ⟨px1, px2⟩ := placeB_iff.1 hpl
              refine finds_near h hB hK s hk7 hk8 hk9 hk10 (c := 0) (hs := (sortH (ts.map (tgH s.a s.b))).take n) (by rw [List.length_take, sortH_length, List.length_map]; omega) (fun W hW => ?_) (fun W hW => ?_)
              · rw [hn]
                exact hNear_own (hR W hW) px1 px2 (by omega) (by omega)
              · refine (Rf.refNear_any (hQ W hW) hL s.a s.b s.c hpl (by omega) hnd (fun t ht => ?_)).mono ?_
                · have := hperm.mem_iff.1 ht
                  obtain ⟨g, hg, rfl⟩ := List.mem_map.1 this
                  have := r1.rects g hg
                  unfold RectOk at this
                  unfold Rf.coordsOk
                  show (-1000000000 ≤ g.x0 ∧ g.x0 ≤ 1000000000) ∧ (-1000000000 ≤ g.y0 ∧ g.y0 ≤ 1000000000) ∧ (-1000000000 ≤ g.x1 ∧ g.x1 ≤ 1000000000) ∧ (-1000000000 ≤ g.y1 ∧ g.y1 ≤ 1000000000)
                  omega
                · rintro e w' ⟨v, R, rfl, hR2, o, hb⟩
                  have hsame := near_same (x := s.a) (y := s.b) (most := n) hperm r1.rects r1.ids
                  rw [hn] at hR2
                  have ex := Rf.NearIs.unique (List.Perm.refl _) hR2 hsame
                  rw [ex, hts_same, List.length_map] at o
                  exact ⟨v, rfl, owns_base o (Nat.zero_le _), fun x hx => (o.lt x (by simpa using hx)).1, Mod.of_below hb⟩
        | false =>
          refine finds_height h hB s hk7 hk8 hk9 hk10 (P := fun m => 1 ≤ m ∧ ts.length ≤ p.fan ^ m ∧ (m = 1 ∨ 2 * leastF p.fan ^ (m - 1) ≤ ts.length)) (fun W hW => ?_) (fun W m hP hW => ?_)
          · refine (hHeight_any (hR W hW) (by omega)).mono ?_
            rintro e w' ⟨⟨m, rfl, m1, m2, m3, _⟩, rfl⟩
            exact ⟨m, rfl, ⟨m1, m2, m3⟩, Mod.refl _ _⟩
          obtain ⟨m1, m2, m3⟩ := hP
          have hl2 : ts.length = p.L.length := by rw [hperm.length_eq, List.length_map]
          obtain ⟨tv, gl, cl, last, nl, t1, t2, t3, t4, t5, t6, hF⟩ := hQ W hW
          obtain ⟨ta, tc, rfl⟩ : ∃ a c, tv = .slice a p.L.length c := by
            rcases t3.2 with ⟨rfl, hz⟩ | ⟨g, c, cur, rfl, hrest⟩
            · exact ⟨none, 0, by rw [hz]⟩
            · exact ⟨_, _, rfl⟩
          refine Rf.Allows_any _ _ _ _ _ _ _ _ _ t1 r1.fans hL ⟨m1, by rw [← hl2]; exact m2, ?_⟩
          have e : Rf.leastOf p.fan = leastF p.fan := by
            unfold Rf.leastOf leastF
            split <;> omega
          rw [e, ← hl2]
          exact m3

end Go.Proofs.YthimaoipogocfaaGreat

