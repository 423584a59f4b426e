import Derived.Test.YthimaoipogocfaaGreatM16
namespace Go.Proofs.YthimaoipogocfaaGreat
open Go.RowKit Go.Maps
attribute [local go_sem] run_store_f32 run_neg_inf

theorem infoBY : (Tryz.prog.info? 5).map (fun i => (i.zero, i.size, i.bytes)) = some (some (.int .u8 0), 1, 1) := by kernel_rfl
theorem infoLB : (Tryz.prog.info? 56).map (fun i => (i.zero, i.size, i.bytes)) = some (some (.slice none 0 0), 1, 24) := by kernel_rfl
theorem Fl.fillB {w : World} {u : Value} {n : Nat} {m : Int} (h : Fl w u n n (fun j => .int .u8 (signF m j))) (hm : 0 ≤ m ∧ m ≤ 1000000000000) (hn : n ≤ 1000000000) : FillB w u m := by
  obtain ⟨a, c, rfl, hc⟩ := h
  exact ⟨hm, a, n, c, rfl, hn, hc⟩

/-- the bytes' shelf is another; the others stay -/
theorem BookAt.byt {B : Nat} {w w' : World} {bk : Bk} {K : Nat} {Eb En Eh : List Nat} (hb : BookAt B w bk K Eb En Eh) {x0 : Value} {pw : Nat} (hm : Mod (pw :: (bookF ⟨bk.vb, bk.ub, .slice none 0 0, .slice none 0 0, .slice none 0 0, .slice none 0 0⟩ [] [] [] ++ x0.ownBlock.toList)) w w') (hpw : pw ∉ bookF bk Eb En Eh) (hvF : ∀ x ∈ x0.ownBlock.toList, x ∉ bookF bk Eb En Eh)
    {v' u' : Value} {E' : List Nat} {ls : List Value} {ks : List Int} (hsh : Shelf B w' 56 FillB v' u' (K + 4) E' ls ks) (hf : ∀ y ∈ sF v' u' E', y ∈ sF bk.vb bk.ub Eb ∨ y ∈ x0.ownBlock.toList ∨ w.heap.size ≤ y) :
    BookAt B w' { bk with vb := v', ub := u' } (K + 4) E' En Eh := by
  obtain ⟨h1, ⟨l2, k2, h2⟩, ⟨l3, k3, h3⟩, d1, d2, d3⟩ := hb
  have b2 := h2.bounds
  have b3 := h3.bounds
  have hin : ∀ y, y ∈ bookF ⟨bk.vb, bk.ub, .slice none 0 0, .slice none 0 0, .slice none 0 0, .slice none 0 0⟩ [] [] [] → y ∈ sF bk.vb bk.ub Eb := fun y hy => by
    simp [bookF, sF, Value.ownBlock] at hy ⊢
    rcases hy with h | h
    · exact .inl h
    · exact .inr (.inl h)
  refine ⟨⟨ls, ks, hsh⟩, ⟨l2, k2, (h2.kept stays_N hm (fun x hx hx' => ?_)).more (by omega)⟩, ⟨l3, k3, (h3.kept stays_H hm (fun x hx hx' => ?_)).more (by omega)⟩, fun x hx hx' => ?_, fun x hx hx' => ?_, d3⟩
  · rcases List.mem_cons.1 hx' with h | h
    · exact hpw (mem_bookF.2 (.inr (.inl (h ▸ hx))))
    · rcases List.mem_append.1 h with h | h
      · exact d1 x (hin x h) hx
      · exact hvF x h (mem_bookF.2 (.inr (.inl hx)))
  · rcases List.mem_cons.1 hx' with h | h
    · exact hpw (mem_bookF.2 (.inr (.inr (h ▸ hx))))
    · rcases List.mem_append.1 h with h | h
      · exact d2 x (hin x h) hx
      · exact hvF x h (mem_bookF.2 (.inr (.inr hx)))
  · rcases hf x hx with h | h | h
    · exact d1 x h hx'
    · exact hvF x h (mem_bookF.2 (.inr (.inl hx')))
    · have := (b2 x hx').2
      omega
  · rcases hf x hx with h | h | h
    · exact d2 x h hx'
    · exact hvF x h (mem_bookF.2 (.inr (.inr hx')))
    · have := (b3 x hx').2
      omega

set_option maxRecDepth 100000 in
set_option maxHeartbeats 2000000 in
theorem bookB_any {B : Nat} {w : World} {pw : Nat} {lv : Value} {bk : Bk} {K : Nat} {Fb : List Nat} (hT : w.heap[pw]? = some (T34 lv bk)) (hb : BookRep B w bk K Fb) (hK : K ≤ 100000000) (hB : B ≤ w.heap.size) (hpw : pw ∉ Fb) {v : Value} {xs : List Int} (hv : w.ownsRow B 5 1 v xs.length (u8s xs)) (hn : xs.length ≤ 999999000) (hvF : ∀ x ∈ v.ownBlock.toList, x ∉ Fb ∧ x ≠ pw) :
    Calls Tryz.prog 56 #[.pointer (some ⟨pw, 1, none⟩), v] w (BookPost B pw lv K Fb v w) := by
  obtain ⟨Eb, En, Eh, hb, rfl⟩ := hb
  obtain ⟨ls, ks, hsh⟩ := hb.b
  obtain ⟨a3, p3, a4, p4, e3, e4, hrd⟩ := hsh.read
  clear hrd
  obtain ⟨i0, hi, hz0, hz1, hz2⟩ := info_partsB infoBY
  obtain ⟨i1, hj, hy0, hy1, hy2⟩ := info_partsB infoLB
  obtain ⟨i2, hx, hx0, hx1, hx2⟩ := info_partsB infoIN
  obtain ⟨c1, c2, c3, c4, c5, c6⟩ := cell_T34s hT
  obtain ⟨va, vc, hve⟩ : ∃ va vc, v = .slice va xs.length vc := by
    rcases hv.2 with ⟨rfl, h0⟩ | ⟨g, c, cur, rfl, _⟩
    · exact ⟨none, 0, by rw [h0]⟩
    · exact ⟨_, _, rfl⟩
  have hfew : ls.length ≤ 100000000 := Nat.le_trans hsh.few hK
  rw [e3] at c1
  have HT := hideIt hT
  have HBK := hideIt hb
  have HSH := hideIt hsh
  have HV := hideIt hv
  have HVF := hideIt hvF
  have HPW := hideIt hpw
  have HVE := hideIt hve
  have E3 := hideIt e3
  have E4 := hideIt e4
  clear hT hb hsh hv hvF hpw c2 c3 c4 c5 c6 e3 e4
  subst hve
  go_enter Tryz.func56, Tryz.ntmps56
  go_wp2_with fail
  have hM : 0 ≤ (ls.length : Int) / 4 + 1 ∧ (ls.length : Int) / 4 + 1 ≤ 1000000000000 := by omega
  generalize (ls.length : Int) / 4 + 1 = M at *
  have HS := hideIt (fun (j : Nat) (hj : j ≤ 1000000000000) (W : World) => sign_any hM hj W)
  have HMM := hideIt hM
  clear hM
  obtain ⟨f, hf⟩ : ∃ f : Nat → Value, f = fun j => .int .u8 (signF M j) := ⟨_, rfl⟩
  have HFV := hideIt (show ∀ j, f j = .int .u8 (signF M j) from fun j => by rw [hf])
  have HF := hideIt hf
  clear hf
  go_loopw [6] (fun i wr => ∃ k : Nat, k ≤ xs.length ∧ i = .int .i64 k ∧ Hid (Mod (Value.slice va xs.length vc).ownBlock.toList w wr ∧ wr.ownsRow B 5 1 (.slice va xs.length vc) xs.length (rowF f k ++ (u8s xs).drop k))) (fun i _ => xs.length - (intOf i).toNat)
  case atStart => exact ⟨0, by omega, rfl, hideIt ⟨Mod.refl _ _, HV.out⟩⟩
  case round =>
    obtain ⟨k, hk, rfl, hr⟩ := hrel
    by_cases hlt : k < xs.length
    · have hlt' : (k : Int) < (xs.length : Int) := by omega
      have hil : (u8s xs).length = xs.length := by simp [u8s]
      obtain ⟨g, rfl, hfz⟩ := owns_form hr.out.2 (by omega)
      have hfk := hfz k
      have hget : (rowF f k ++ (u8s xs).drop k)[k]? = some (.int .u8 xs[k]) := by
        rw [List.getElem?_append_right (by rw [rowF_length]; exact Nat.le_refl _), rowF_length, Nat.sub_self, List.getElem?_drop]
        simp [u8s, hlt]
      have hcell := owns_cell hr.out.2 k _ hget
      have HN := hideIt (show (wr.setCell ⟨g, k, none⟩ (.int .u8 (signF M k))).ownsRow B 5 1 (.slice (some ⟨g, 0, none⟩) xs.length vc) xs.length (rowF f (k + 1) ++ (u8s xs).drop (k + 1)) by
        have := owns_setL hr.out.2 k (f k)
        rw [rowF_set (by omega), HFV.out k] at this
        exact this)
      have HMN := hideIt (show Mod (Value.slice (some ⟨g, 0, none⟩) xs.length vc).ownBlock.toList w (wr.setCell ⟨g, k, none⟩ (.int .u8 (signF M k))) from hr.out.1.trans (Mod.setCell _ _ _ (by simp [Value.ownBlock])))
      generalize xs[k] = y at *
      have HSK := hideIt (HS.out k (by omega))
      generalize signF M k = z at *
      clear hr hget hfz c1
      go_wp2_with fail
      refine (HSK.out _).mono ?_
      rintro e w9 ⟨rfl, rfl⟩
      go_wp2_with fail
      go_roundw
      case rel => exact ⟨k + 1, by omega, by go_num, hideIt ⟨HMN.out, HN.out⟩⟩
      case measure => simp [intOf]; omega
    · have hkn : k = xs.length := by omega
      subst hkn
      have hge : ¬ ((xs.length : Int) < (xs.length : Int)) := by omega
      have HO := hideIt (show wr.ownsRow B 5 1 (.slice va xs.length vc) xs.length (rowF f xs.length) by
        have := hr.out.2
        rw [List.drop_of_length_le (by simp [u8s]), List.append_nil] at this
        exact this)
      have HM0 := hideIt hr.out.1
      have hszr : B ≤ wr.heap.size := Nat.le_trans hB hr.out.1.size
      clear hr hk hlt
      generalize hnl : xs.length = n at *
      clear hnl c1
      have HS0 := hideIt (HS.out n (by omega))
      have HS1 := hideIt (show ∀ W, Calls Tryz.prog 58 #[.int .i64 M, .int .i64 ((n : Int) + 1)] W fun e w' => e = .returned (.int .u8 (signF M (n + 1))) ∧ W = w' from fun W => HS.out (n + 1) (by omega) W)
      have HS2 := hideIt (show ∀ W, Calls Tryz.prog 58 #[.int .i64 M, .int .i64 ((n : Int) + 2)] W fun e w' => e = .returned (.int .u8 (signF M (n + 2))) ∧ W = w' from fun W => HS.out (n + 2) (by omega) W)
      have HF0 := hideIt (HFV.out n)
      have HF1 := hideIt (HFV.out (n + 1))
      have HF2 := hideIt (HFV.out (n + 2))
      clear HS HFV
      generalize signF M n = z0 at *
      generalize signF M (n + 1) = z1 at *
      generalize signF M (n + 2) = z2 at *
      have HO1 := hideIt (show (wr.alloc (.cells #[.int .u8 z0] 5)).ownsRow B 5 1 (.slice va n vc) n (rowF f n) from owns_kept HO.out (Mod.alloc (F := []) _ _) (by simp))
      have hsz1 : B ≤ (wr.alloc (.cells #[.int .u8 z0] 5)).heap.size := by simp; omega
      go_wp2_with fail
      refine (HS0.out _).mono ?_
      rintro e w9 ⟨rfl, rfl⟩
      go_wp2_with (at_builtin; refine wpList_append_keep _ rfl _ _ 56 rfl B 5 i0 (.int .u8 0) 1 1 Tryz.underlying56 hi hz0 hz1 hz2 rfl (by decide) _ n (rowF f n) rfl HO1.out ⟨wr.heap.size, 0, none⟩ 1 1 [.int .u8 z0] rfl rfl (news_alloc wr #[.int .u8 z0] 5) (fun u hu => by simp at hu; first | (rw [hu]; rfl) | (rcases hu with rfl | rfl <;> rfl) | (rcases hu with rfl | rfl | rfl <;> rfl)) (by unfold maxLen; omega) (by omega) hsz1 ?_)
      intro v1 w1 hkp
      obtain ⟨o1, ov1, m1, b1, q1⟩ := hkp.out
      clear hkp
      have HM1 := hideIt (show Mod (Value.slice va n vc).ownBlock.toList w w1 from (HM0.out.trans (Mod.alloc _ _)).trans m1)
      have HR1 := hideIt (show w1.ownsRow B 5 1 v1 (n + 1) (rowF f (n + 1)) by rw [rowF_succ, HF0.out]; exact o1)
      have HB1 := hideIt (show ∀ y ∈ v1.ownBlock.toList, y ∈ (Value.slice va n vc).ownBlock.toList ∨ (w.heap.size ≤ y ∧ y < w1.heap.size) from fun y hy => (b1 y hy).imp (fun h => h) (fun h => ⟨by have := HM0.out.size; simp at h; omega, (HR1.out.lt y (by simpa using hy)).2⟩))
      have HL1 := hideIt (Fl.of_owns HR1.out)
      clear o1 m1 b1 q1 HO1 hsz1 HO HM0
      have HOA := hideIt (show (w1.alloc (.cells #[.int .u8 z0, .int .u8 z1] 5)).ownsRow B 5 1 (.slice va n vc) n (rowF f n) from owns_kept ov1 (Mod.alloc (F := []) _ _) (by simp))
      have hsz2 : B ≤ (w1.alloc (.cells #[.int .u8 z0, .int .u8 z1] 5)).heap.size := by have := HM1.out.size; simp; omega
      clear ov1
      go_wp2_with fail
      refine (HS0.out _).mono ?_
      rintro e w9 ⟨rfl, rfl⟩
      go_wp2_with fail
      refine (HS1.out _).mono ?_
      rintro e w9 ⟨rfl, rfl⟩
      go_wp2_with (at_builtin; refine wpList_append_keep _ rfl _ _ 56 rfl B 5 i0 (.int .u8 0) 1 1 Tryz.underlying56 hi hz0 hz1 hz2 rfl (by decide) _ n (rowF f n) rfl HOA.out ⟨w1.heap.size, 0, none⟩ 2 2 [.int .u8 z0, .int .u8 z1] rfl rfl (news_alloc w1 #[.int .u8 z0, .int .u8 z1] 5) (fun u hu => by simp at hu; first | (rw [hu]; rfl) | (rcases hu with rfl | rfl <;> rfl) | (rcases hu with rfl | rfl | rfl <;> rfl)) (by unfold maxLen; omega) (by omega) hsz2 ?_)
      intro v2 w2 hkp
      obtain ⟨o2, ov2, m2, b2, q2⟩ := hkp.out
      clear hkp
      have HM2 := hideIt (show Mod (Value.slice va n vc).ownBlock.toList w w2 from (HM1.out.trans (Mod.alloc _ _)).trans m2)
      have HR2 := hideIt (show w2.ownsRow B 5 1 v2 (n + 2) (rowF f (n + 2)) by rw [rowF_succ, rowF_succ, HF0.out, HF1.out, List.append_assoc]; exact o2)
      have HB1 := hideIt (show ∀ y ∈ v1.ownBlock.toList, y ∈ (Value.slice va n vc).ownBlock.toList ∨ (w.heap.size ≤ y ∧ y < w2.heap.size) from fun y hy => (HB1.out y hy).imp (fun h => h) (fun h => ⟨h.1, by have := m2.size; simp at this; omega⟩))
      have HB2 := hideIt (show ∀ y ∈ v2.ownBlock.toList, y ∈ (Value.slice va n vc).ownBlock.toList ∨ (w.heap.size ≤ y ∧ y < w2.heap.size) from fun y hy => (b2 y hy).imp (fun h => h) (fun h => ⟨by have := HM1.out.size; simp at h; omega, (HR2.out.lt y (by simpa using hy)).2⟩))
      have HL1 := hideIt ((HL1.out.kept (Mod.alloc (F := []) _ _) (by simp)).next (by omega) HR2.out m2 q2)
      have HL2 := hideIt (Fl.of_owns HR2.out)
      clear o2 m2 b2 q2 HOA hsz2 HM1 HR1
      have HOA := hideIt (show (w2.alloc (.cells #[.int .u8 z0, .int .u8 z1, .int .u8 z2] 5)).ownsRow B 5 1 (.slice va n vc) n (rowF f n) from owns_kept ov2 (Mod.alloc (F := []) _ _) (by simp))
      have hsz3 : B ≤ (w2.alloc (.cells #[.int .u8 z0, .int .u8 z1, .int .u8 z2] 5)).heap.size := by have := HM2.out.size; simp; omega
      clear ov2
      go_wp2_with fail
      refine (HS0.out _).mono ?_
      rintro e w9 ⟨rfl, rfl⟩
      go_wp2_with fail
      refine (HS1.out _).mono ?_
      rintro e w9 ⟨rfl, rfl⟩
      go_wp2_with fail
      refine (HS2.out _).mono ?_
      rintro e w9 ⟨rfl, rfl⟩
      go_wp2_with (at_builtin; refine wpList_append_keep _ rfl _ _ 56 rfl B 5 i0 (.int .u8 0) 1 1 Tryz.underlying56 hi hz0 hz1 hz2 rfl (by decide) _ n (rowF f n) rfl HOA.out ⟨w2.heap.size, 0, none⟩ 3 3 [.int .u8 z0, .int .u8 z1, .int .u8 z2] rfl rfl (news_alloc w2 #[.int .u8 z0, .int .u8 z1, .int .u8 z2] 5) (fun u hu => by simp at hu; first | (rw [hu]; rfl) | (rcases hu with rfl | rfl <;> rfl) | (rcases hu with rfl | rfl | rfl <;> rfl)) (by unfold maxLen; omega) (by omega) hsz3 ?_)
      intro v3 w3 hkp
      obtain ⟨o3, ov3, m3, b3, q3⟩ := hkp.out
      clear hkp
      have HM3 := hideIt (show Mod (Value.slice va n vc).ownBlock.toList w w3 from (HM2.out.trans (Mod.alloc _ _)).trans m3)
      have HR3 := hideIt (show w3.ownsRow B 5 1 v3 (n + 3) (rowF f (n + 3)) by rw [rowF_succ, rowF_succ, rowF_succ, HF0.out, HF1.out, HF2.out, List.append_assoc, List.append_assoc]; exact o3)
      have HB1 := hideIt (show ∀ y ∈ v1.ownBlock.toList, y ∈ (Value.slice va n vc).ownBlock.toList ∨ (w.heap.size ≤ y ∧ y < w3.heap.size) from fun y hy => (HB1.out y hy).imp (fun h => h) (fun h => ⟨h.1, by have := m3.size; simp at this; omega⟩))
      have HB2 := hideIt (show ∀ y ∈ v2.ownBlock.toList, y ∈ (Value.slice va n vc).ownBlock.toList ∨ (w.heap.size ≤ y ∧ y < w3.heap.size) from fun y hy => (HB2.out y hy).imp (fun h => h) (fun h => ⟨h.1, by have := m3.size; simp at this; omega⟩))
      have HB3 := hideIt (show ∀ y ∈ v3.ownBlock.toList, y ∈ (Value.slice va n vc).ownBlock.toList ∨ (w.heap.size ≤ y ∧ y < w3.heap.size) from fun y hy => (b3 y hy).imp (fun h => h) (fun h => ⟨by have := HM2.out.size; simp at h; omega, (HR3.out.lt y (by simpa using hy)).2⟩))
      have HL1 := hideIt ((HL1.out.kept (Mod.alloc (F := []) _ _) (by simp)).next (by omega) HR3.out m3 q3)
      have HL2 := hideIt ((HL2.out.kept (Mod.alloc (F := []) _ _) (by simp)).next (by omega) HR3.out m3 q3)
      have HL3 := hideIt (Fl.of_owns HR3.out)
      have HL0 := hideIt (Fl.of_owns ov3)
      clear o3 m3 b3 q3 ov3 HOA hsz3 HM2 HR2
      obtain ⟨r1, s1, rfl⟩ : ∃ a c, v1 = .slice a (n + 1) c := by obtain ⟨a, c, h, _⟩ := HL1.out; exact ⟨a, c, h⟩
      obtain ⟨r2, s2, rfl⟩ : ∃ a c, v2 = .slice a (n + 2) c := by obtain ⟨a, c, h, _⟩ := HL2.out; exact ⟨a, c, h⟩
      obtain ⟨r3, s3, rfl⟩ : ∃ a c, v3 = .slice a (n + 3) c := by obtain ⟨a, c, h, _⟩ := HL3.out; exact ⟨a, c, h⟩
      have hT3 : w3.heap[pw]? = some (T34 lv bk) := (HM3.out.block pw (lt_of_block HT.out) (fun hx => (HVF.out pw hx).2 rfl)).trans HT.out
      have c3 : w3.cell? ⟨pw, 1, none⟩ = some (.slice a3 ls.length p3) := by rw [← E3.out]; exact (cell_T34s hT3).1
      have HON := hideIt (show (w3.alloc (.cells #[.slice va n vc, .slice r1 (n + 1) s1, .slice r2 (n + 2) s2, .slice r3 (n + 3) s3] 56)).ownsRow B 56 1 (.slice a3 ls.length p3) ls.length ls by
        rw [← E3.out]
        exact owns_kept (owns_kept HSH.out.own HM3.out (fun k hk hk' => (HVF.out k hk').1 (mem_bookF.2 (.inl (mem_sF.2 (.inl (by simp [hk]))))))) (Mod.alloc (F := []) _ _) (by simp))
      have HSRC := hideIt (show srcRow (w3.alloc (.cells #[.slice va n vc, .slice r1 (n + 1) s1, .slice r2 (n + 2) s2, .slice r3 (n + 3) s3] 56)) 1 (.slice (some ⟨w3.heap.size, 0, none⟩) 4 4) 4 [.slice va n vc, .slice r1 (n + 1) s1, .slice r2 (n + 2) s2, .slice r3 (n + 3) s3] from srcRow_of_owns (owns_allocB (w := w3) (cur := #[.slice va n vc, .slice r1 (n + 1) s1, .slice r2 (n + 2) s2, .slice r3 (n + 3) s3]) (e := 56) (n := 4) (size := 1) rfl (by decide) (base := 0) (Nat.zero_le _)) (fun u hu => by simp at hu; rcases hu with rfl | rfl | rfl | rfl <;> rfl))
      have hsz4 : B ≤ (w3.alloc (.cells #[.slice va n vc, .slice r1 (n + 1) s1, .slice r2 (n + 2) s2, .slice r3 (n + 3) s3] 56)).heap.size := by have := HM3.out.size; simp; omega
      have HT3 := hideIt hT3
      clear hT3
      go_wp2_with (at_builtin; refine wpList_append_rows _ rfl _ _ 62 rfl B 56 i1 (.slice none 0 0) 1 24 Tryz.underlying62 hj hy0 hy1 hy2 rfl (by decide) _ ls.length ls rfl HON.out _ 4 [.slice va n vc, .slice r1 (n + 1) s1, .slice r2 (n + 2) s2, .slice r3 (n + 3) s3] rfl HSRC.out (by omega) (by unfold maxLen; omega) (by omega) hsz4 ?_)
      intro g5 c5 w5 ho5 hm5 hat5
      have HVNB := hideIt (show ∀ y ∈ bk.vb.ownBlock.toList, y ∈ bookF bk Eb En Eh from fun y hy => mem_bookF.2 (.inl (mem_sF.2 (.inl hy))))
      have HUNB := hideIt (show ∀ y ∈ bk.ub.ownBlock.toList, y ∈ bookF bk Eb En Eh from fun y hy => mem_bookF.2 (.inl (mem_sF.2 (.inr (.inl hy)))))
      have HM5 := hideIt (show Mod bk.vb.ownBlock.toList w3 w5 by rw [E3.out]; exact (Mod.alloc _ _).trans hm5)
      have HG5 := hideIt (show g5 ∈ bk.vb.ownBlock.toList ∨ w3.heap.size ≤ g5 by
        rw [E3.out]
        rcases hat5 with h | h
        · exact .inl (by simp [h])
        · exact .inr (by first | omega | (simp at h; omega)))
      have HO5 := hideIt (show w5.ownsRow B 56 1 (.slice (some ⟨g5, 0, none⟩) (ls.length + 4) c5) (ls.length + 4) (ls ++ [.slice va n vc, .slice r1 (n + 1) s1, .slice r2 (n + 2) s2, .slice r3 (n + 3) s3]) from ho5)
      have hT5 : w5.heap[pw]? = some (T34 lv bk) := (HM5.out.block pw (lt_of_block HT3.out) (fun hx => HPW.out (HVNB.out pw hx))).trans HT3.out
      have hf5 := frozen_of_block hT5 1
      have hc5 := (cell_T34s hT5).1
      have hg5 : g5 ≠ pw := by
        rintro rfl
        rcases HG5.out with h | h
        · exact HPW.out (HVNB.out _ h)
        · have := lt_of_block HT3.out
          omega
      have hT6 : (w5.setCell ⟨pw, 1, none⟩ (.slice (some ⟨g5, 0, none⟩) (ls.length + 4) c5)).heap[pw]? = some (T34 lv { bk with vb := .slice (some ⟨g5, 0, none⟩) (ls.length + 4) c5 }) := by rw [block_setCell hT5]; rfl
      have c4 : (w5.setCell ⟨pw, 1, none⟩ (.slice (some ⟨g5, 0, none⟩) (ls.length + 4) c5)).cell? ⟨pw, 2, none⟩ = some (.slice a4 ls.length p4) := by rw [← E4.out]; exact (cell_T34s hT6).2.1
      have HUV := hideIt (show ∀ k ∈ bk.ub.ownBlock.toList, k ∉ bk.vb.ownBlock.toList from owns_apartB HSH.out.marks HSH.out.own (by decide))
      have HU3 := hideIt (show w3.ownsRow B 3 1 bk.ub ls.length (ints ks) from owns_kept HSH.out.marks HM3.out (fun k hk hk' => (HVF.out k hk').1 (HUNB.out k (by simp [hk]))))
      have HOU := hideIt (show ((w5.setCell ⟨pw, 1, none⟩ (.slice (some ⟨g5, 0, none⟩) (ls.length + 4) c5)).alloc (.cells #[.int .i64 M, .int .i64 M, .int .i64 M, .int .i64 M] 3)).ownsRow B 3 1 (.slice a4 ls.length p4) ls.length (ints ks) by
        rw [← E4.out]
        refine owns_kept (owns_kept (owns_kept HU3.out HM5.out (fun k hk => HUV.out k (by simp [hk]))) (Mod.setCell (F := [pw]) _ _ _ (by simp)) (fun k hk hk' => ?_)) (Mod.alloc (F := []) _ _) (by simp)
        simp at hk'
        subst hk'
        exact HPW.out (HUNB.out _ (by simp [hk])))
      have HSR2 := hideIt (show srcRow ((w5.setCell ⟨pw, 1, none⟩ (.slice (some ⟨g5, 0, none⟩) (ls.length + 4) c5)).alloc (.cells #[.int .i64 M, .int .i64 M, .int .i64 M, .int .i64 M] 3)) 1 (.slice (some ⟨(w5.setCell ⟨pw, 1, none⟩ (.slice (some ⟨g5, 0, none⟩) (ls.length + 4) c5)).heap.size, 0, none⟩) 4 4) 4 [.int .i64 M, .int .i64 M, .int .i64 M, .int .i64 M] from srcRow_of_owns (owns_allocB (cur := #[.int .i64 M, .int .i64 M, .int .i64 M, .int .i64 M]) (e := 3) (n := 4) (size := 1) rfl (by decide) (base := 0) (Nat.zero_le _)) (fun u hu => by simp at hu; rw [hu]; rfl))
      have HT6 := hideIt hT6
      have hsz6 : B ≤ ((w5.setCell ⟨pw, 1, none⟩ (.slice (some ⟨g5, 0, none⟩) (ls.length + 4) c5)).alloc (.cells #[.int .i64 M, .int .i64 M, .int .i64 M, .int .i64 M] 3)).heap.size := Nat.le_trans hB (Nat.le_trans (HM3.out.size) (Nat.le_trans HM5.out.size (((Mod.setCell (F := [pw]) w5 ⟨pw, 1, none⟩ _ (by simp)).trans (Mod.alloc (F := [pw]) _ _)).size)))
      clear hT5 hT6 ho5 hm5 hat5 c3 HON HSRC hsz4
      generalize hW6 : w5.setCell ⟨pw, 1, none⟩ (.slice (some ⟨g5, 0, none⟩) (ls.length + 4) c5) = w6 at *
      go_wp2_with (at_builtin; refine wpList_append_rows _ rfl _ _ 39 rfl B 3 i2 (.int .i64 0) 1 8 Tryz.underlying39 hx hx0 hx1 hx2 rfl (by decide) _ ls.length (ints ks) rfl HOU.out _ 4 [.int .i64 M, .int .i64 M, .int .i64 M, .int .i64 M] rfl HSR2.out (by omega) (by unfold maxLen; omega) (by omega) hsz6 ?_)
      intro g7 c7 w7 ho7 hm7 hat7
      have HM7 := hideIt (show Mod bk.ub.ownBlock.toList w6 w7 by rw [E4.out]; exact (Mod.alloc _ _).trans hm7)
      have HG7 := hideIt (show g7 ∈ bk.ub.ownBlock.toList ∨ w3.heap.size ≤ g7 by
        rw [E4.out]
        rcases hat7 with h | h
        · exact .inl (by simp [h])
        · refine .inr ?_
          have h1 := HM5.out.size
          have h2 : w5.heap.size ≤ w6.heap.size := by rw [← hW6]; exact (Mod.setCell (F := [pw]) _ _ _ (by simp)).size
          first | omega | (simp at h; omega))
      have HO7 := hideIt (show w7.ownsRow B 3 1 (.slice (some ⟨g7, 0, none⟩) (ls.length + 4) c7) (ls.length + 4) (ints (ks ++ [M, M, M, M])) by
        rw [show ints (ks ++ [M, M, M, M]) = catL (ints ks) [.int .i64 M, .int .i64 M, .int .i64 M, .int .i64 M] by simp [ints, catL]]
        exact ho7)
      have hT7 : w7.heap[pw]? = some (T34 lv { bk with vb := .slice (some ⟨g5, 0, none⟩) (ls.length + 4) c5 }) := (HM7.out.block pw (lt_of_block HT6.out) (fun hx => HPW.out (HUNB.out pw hx))).trans HT6.out
      have hg7 : g7 ≠ pw := by
        rintro rfl
        rcases HG7.out with h | h
        · exact HPW.out (HUNB.out _ h)
        · have := lt_of_block HT3.out
          omega
      have hf7 := frozen_of_block hT7 2
      have hc7 : w7.cell? ⟨pw, 2, none⟩ = some bk.ub := (cell_T34s hT7).2.1
      have hT8 : (w7.setCell ⟨pw, 2, none⟩ (.slice (some ⟨g7, 0, none⟩) (ls.length + 4) c7)).heap[pw]? = some (T34 lv { bk with vb := .slice (some ⟨g5, 0, none⟩) (ls.length + 4) c5, ub := .slice (some ⟨g7, 0, none⟩) (ls.length + 4) c7 }) := by rw [block_setCell hT7]; rfl
      have HFIN := hideIt (show BookPost B pw lv K (bookF bk Eb En Eh) (.slice va n vc) w (.returned (.tuple #[])) (w7.setCell ⟨pw, 2, none⟩ (.slice (some ⟨g7, 0, none⟩) (ls.length + 4) c7)) from by
        rw [← hW6] at HM7
        obtain ⟨d1, d2, d3⟩ := rows_done (o' := 2) (by decide) HU3.out (fun hx => HPW.out (HUNB.out _ hx)) (by simpa [Value.ownBlock] using fun h => hg5 h.symm) (by simpa [Value.ownBlock] using fun h => hg7 h.symm) HO5.out HM5.out HO7.out HUV.out HM7.out
        have hx0 : ∀ y ∈ (Value.slice va n vc).ownBlock.toList, y ∉ sF bk.vb bk.ub Eb ∧ y < w.heap.size ∧ B ≤ y := fun y hy => ⟨fun h => (HVF.out y hy).1 (mem_bookF.2 (.inl h)), (HV.out.lt y (by simpa using hy)).2, (HV.out.lt y (by simpa using hy)).1⟩
        have hfill : ∀ {u : Value} {l : Nat}, Fl w3 u l l f → l ≤ 1000000000 → FillB w3 u M := fun h hl => Fl.fillB (by rw [← HF.out]; exact h) HMM.out hl
        obtain ⟨E', hsh', hE'⟩ := Shelf.fin stays_B HSH.out (x0 := .slice va n vc) (xs := [.slice va n vc, .slice r1 (n + 1) s1, .slice r2 (n + 2) s2, .slice r3 (n + 3) s3]) (m := M) (pw := pw) rfl hx0 hB HM3.out (fun x hx => by
          simp only [List.mem_cons, List.not_mem_nil, or_false] at hx
          rcases hx with rfl | rfl | rfl | rfl
          · exact ⟨fun y hy => .inl hy, rfl, hfill HL0.out (by omega)⟩
          · exact ⟨HB1.out, rfl, hfill HL1.out (by omega)⟩
          · exact ⟨HB2.out, rfl, hfill HL2.out (by omega)⟩
          · exact ⟨HB3.out, rfl, hfill HL3.out (by omega)⟩)
          ⟨fun h => HPW.out (mem_bookF.2 (.inl h)), fun h => (HVF.out _ h).2 rfl, lt_of_block HT.out⟩
          (v' := .slice (some ⟨g5, 0, none⟩) (ls.length + 4) c5) (u' := .slice (some ⟨g7, 0, none⟩) (ls.length + 4) c7)
          (fun y hy => by have e : y = g5 := by simpa [Value.ownBlock] using hy
                          subst e; exact HG5.out)
          (fun y hy => by have e : y = g7 := by simpa [Value.ownBlock] using hy
                          subst e; exact HG7.out) d3 d1 d2
        have hM : Mod (pw :: (bookF ⟨bk.vb, bk.ub, .slice none 0 0, .slice none 0 0, .slice none 0 0, .slice none 0 0⟩ [] [] [] ++ (Value.slice va n vc).ownBlock.toList)) w (w7.setCell ⟨pw, 2, none⟩ (.slice (some ⟨g7, 0, none⟩) (ls.length + 4) c7)) := by
          refine (HM3.out.mono (fun y hy => ?_)).trans (d3.mono (fun y hy => ?_))
          · exact List.mem_cons.2 (.inr (List.mem_append.2 (.inr hy)))
          · rcases List.mem_cons.1 hy with h | h
            · exact List.mem_cons.2 (.inl h)
            · refine List.mem_cons.2 (.inr (List.mem_append.2 (.inl ?_)))
              rcases List.mem_append.1 h with h | h
              · exact mem_bookF.2 (.inl (mem_sF.2 (.inl h)))
              · exact mem_bookF.2 (.inl (mem_sF.2 (.inr (.inl h))))
        refine ⟨rfl, _, _, hT8, ⟨E', En, Eh, HBK.out.byt hM HPW.out (fun x hx => (HVF.out x hx).1) hsh' hE', rfl⟩, fun x hx => ?_, hM.mono (fun y hy => ?_)⟩
        · rcases mem_bookF.1 hx with h | h | h
          · rcases hE' x h with h | h | h
            · exact .inl (mem_bookF.2 (.inl h))
            · exact .inr (.inl h)
            · exact .inr (.inr h)
          · exact .inl (mem_bookF.2 (.inr (.inl h)))
          · exact .inl (mem_bookF.2 (.inr (.inr h)))
        · rcases List.mem_cons.1 hy with h | h
          · exact List.mem_cons.2 (.inl h)
          · refine List.mem_cons.2 (.inr ?_)
            rcases List.mem_append.1 h with h | h
            · refine List.mem_append.2 (.inl ?_)
              rcases mem_bookF.1 h with h | h | h
              · rcases mem_sF.1 h with h | h | h
                · exact HVNB.out y h
                · exact HUNB.out y h
                · simp at h
              · simp [sF, Value.ownBlock] at h
              · simp [sF, Value.ownBlock] at h
            · exact List.mem_append.2 (.inr h))
      clear hT7 hT8 ho7 hm7 hat7 c4 HOU HSR2 hsz6 hc5 hf5 HL0 HL1 HL2 HL3 HB1 HB2 HB3 HO5 HO7 HU3
      go_wp2
      go_end0
      exact HFIN.out

end Go.Proofs.YthimaoipogocfaaGreat
