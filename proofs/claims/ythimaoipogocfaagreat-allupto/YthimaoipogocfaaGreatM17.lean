import Derived.Test.YthimaoipogocfaaGreatM16
import Derived.Test.YthimaoipogocfaaGreatM15
import Derived.Test.YthimaoipogocfaaGreatM10
import Derived.Test.YthimaoipogocfaaGreatM01
import Derived.Test.YthimaoipogocfaaGreatM04
namespace Go.Proofs.YthimaoipogocfaaGreat
open Go.RowKit Go.Maps
attribute [local go_sem] run_store_f32 run_neg_inf

theorem infoHT : (Tryz.prog.info? 50).map (fun i => (i.zero, i.size, i.bytes)) = some (some (.agg #[.int .i64 0, .int .i64 0]), 2, 16) := by kernel_rfl
theorem infoLH : (Tryz.prog.info? 46).map (fun i => (i.zero, i.size, i.bytes)) = some (some (.slice none 0 0), 1, 24) := by kernel_rfl
theorem Fl.fillH {w : World} {u : Value} {n : Nat} {m : Int} (h : Fl w u n (n * 2) (fun _ => .int .i64 m)) (hn : n ≤ 1000000000) : FillH w u m := by
  obtain ⟨a, c, rfl, hc⟩ := h
  refine ⟨a, n, c, rfl, hn, fun j hj => ?_⟩
  obtain ⟨b, hb, h1⟩ := hc (j * 2) (by omega)
  obtain ⟨b', hb', h2⟩ := hc (j * 2 + 1) (by omega)
  obtain rfl : b = b' := by rw [hb] at hb'; cases hb'; rfl
  exact ⟨b, hb, h1, h2⟩

/-- the hits' shelf is another; the others stay -/
theorem BookAt.hit {B : Nat} {w w' : World} {bk : Bk} {K : Nat} {Eb En Eh : List Nat} (hb : BookAt B w bk K Eb En Eh) {x0 : Value} {pw : Nat} (hm : Mod (pw :: (bookF ⟨.slice none 0 0, .slice none 0 0, .slice none 0 0, .slice none 0 0, bk.vh, bk.uh⟩ [] [] [] ++ x0.ownBlock.toList)) w w') (hpw : pw ∉ bookF bk Eb En Eh) (hvF : ∀ x ∈ x0.ownBlock.toList, x ∉ bookF bk Eb En Eh)
    {v' u' : Value} {E' : List Nat} {ls : List Value} {ks : List Int} (hsh : Shelf B w' 46 FillH v' u' (K + 4) E' ls ks) (hf : ∀ y ∈ sF v' u' E', y ∈ sF bk.vh bk.uh Eh ∨ y ∈ x0.ownBlock.toList ∨ w.heap.size ≤ y) :
    BookAt B w' { bk with vh := v', uh := u' } (K + 4) Eb En E' := by
  obtain ⟨⟨l1, k1, h1⟩, ⟨l2, k2, h2⟩, h3, d1, d2, d3⟩ := hb
  have b1 := h1.bounds
  have b2 := h2.bounds
  have hin : ∀ y, y ∈ bookF ⟨.slice none 0 0, .slice none 0 0, .slice none 0 0, .slice none 0 0, bk.vh, bk.uh⟩ [] [] [] → y ∈ sF bk.vh bk.uh Eh := fun y hy => by
    simp [bookF, sF, Value.ownBlock] at hy ⊢
    rcases hy with h | h
    · exact .inl h
    · exact .inr (.inl h)
  refine ⟨⟨l1, k1, (h1.kept stays_B hm (fun x hx hx' => ?_)).more (by omega)⟩, ⟨l2, k2, (h2.kept stays_N hm (fun x hx hx' => ?_)).more (by omega)⟩, ⟨ls, ks, hsh⟩, d1, fun x hx hx' => ?_, fun x hx hx' => ?_⟩
  · rcases List.mem_cons.1 hx' with h | h
    · exact hpw (mem_bookF.2 (.inl (h ▸ hx)))
    · rcases List.mem_append.1 h with h | h
      · exact d2 x hx (hin x h)
      · exact hvF x h (mem_bookF.2 (.inl hx))
  · rcases List.mem_cons.1 hx' with h | h
    · exact hpw (mem_bookF.2 (.inr (.inl (h ▸ hx))))
    · rcases List.mem_append.1 h with h | h
      · exact d3 x hx (hin x h)
      · exact hvF x h (mem_bookF.2 (.inr (.inl hx)))
  · rcases hf x hx' with h | h | h
    · exact d2 x hx h
    · exact hvF x h (mem_bookF.2 (.inl hx))
    · have := (b1 x hx).2
      omega
  · rcases hf x hx' with h | h | h
    · exact d3 x hx h
    · exact hvF x h (mem_bookF.2 (.inr (.inl hx)))
    · have := (b2 x hx).2
      omega

set_option maxRecDepth 100000 in
set_option maxHeartbeats 2000000 in
theorem bookH_any {B : Nat} {w : World} {pw : Nat} {lv : Value} {bk : Bk} {K : Nat} {Fb : List Nat} (hT : w.heap[pw]? = some (T34 lv bk)) (hb : BookRep B w bk K Fb) (hK : K ≤ 100000000) (hB : B ≤ w.heap.size) (hpw : pw ∉ Fb) {v : Value} {n : Nat} {xs : List Value} (hxn : xs.length = n * 2) (hv : w.ownsRow B 50 2 v n xs) (hxi : ∀ u ∈ xs, ∃ z, u = .int .i64 z) (hn : n ≤ 1000) (hvF : ∀ x ∈ v.ownBlock.toList, x ∉ Fb ∧ x ≠ pw) :
    Calls Tryz.prog 129 #[.pointer (some ⟨pw, 1, none⟩), v] w (BookPost B pw lv K Fb v w) := by
  obtain ⟨Eb, En, Eh, hb, rfl⟩ := hb
  obtain ⟨ls, ks, hsh⟩ := hb.h
  obtain ⟨a3, p3, a4, p4, e3, e4, hrd⟩ := hsh.read
  clear hrd
  obtain ⟨i0, hi, hz0, hz1, hz2⟩ := info_partsB infoHT
  obtain ⟨i1, hj, hy0, hy1, hy2⟩ := info_partsB infoLH
  obtain ⟨i2, hx, hx0, hx1, hx2⟩ := info_partsB infoIN
  obtain ⟨c1, c2, c3, c4, c5, c6⟩ := cell_T34s hT
  obtain ⟨va, vc, hve⟩ : ∃ va vc, v = .slice va n vc := by
    rcases hv.2 with ⟨rfl, h0⟩ | ⟨g, c, cur, rfl, _⟩
    · exact ⟨none, 0, by rw [h0]⟩
    · exact ⟨_, _, rfl⟩
  have hfew : ls.length ≤ 100000000 := Nat.le_trans hsh.few hK
  rw [e3] at c5
  have HT := hideIt hT
  have HBK := hideIt hb
  have HSH := hideIt hsh
  have HV := hideIt hv
  have HVF := hideIt hvF
  have HPW := hideIt hpw
  have HVE := hideIt hve
  have E3 := hideIt e3
  have E4 := hideIt e4
  clear hT hb hsh hv hvF hpw c1 c2 c3 c4 c6 e3 e4
  subst hve
  go_enter Tryz.func129, Tryz.ntmps129
  go_wp2_with fail
  have HWM0 := hideIt (show ∀ W, Mod (Value.slice va n vc).ownBlock.toList (w.alloc (.cells #[.int .i64 (-1 - (ls.length : Int) / 4), .int .i64 (-1 - (ls.length : Int) / 4)] 50)) W → W.cell? ⟨w.heap.size, 0, none⟩ = some (.int .i64 (-1 - (ls.length : Int) / 4)) ∧ W.cell? ⟨w.heap.size, 1, none⟩ = some (.int .i64 (-1 - (ls.length : Int) / 4)) from fun W hm => by
    have hb0 := (hm.block w.heap.size (by simp) (fun hx => by have := (HV.out.lt _ (by simpa using hx)).2; omega)).trans (heap_alloc_new w _)
    constructor <;> rw [cell_of_block hb0] <;> rfl)
  have HMA := hideIt (show Mod [] w (w.alloc (.cells #[.int .i64 (-1 - (ls.length : Int) / 4), .int .i64 (-1 - (ls.length : Int) / 4)] 50)) from Mod.alloc _ _)
  generalize (-1 - (ls.length : Int) / 4) = M at *
  generalize hwm : w.alloc (.cells #[.int .i64 M, .int .i64 M] 50) = wm at *
  have HVM := hideIt (owns_kept HV.out HMA.out (by simp))
  clear hwm
  obtain ⟨mb, hmb⟩ : ∃ mb, mb = w.heap.size := ⟨_, rfl⟩
  rw [← hmb] at HWM0
  rw [← hmb]
  clear hmb
  obtain ⟨f, hf⟩ : ∃ f : Nat → Value, f = fun _ => .int .i64 M := ⟨_, rfl⟩
  have HFV := hideIt (show ∀ j, f j = .int .i64 M from fun j => by rw [hf])
  have HF := hideIt hf
  have HXI := hideIt hxi
  clear hf hxi
  go_loopw [6] (fun i wr => ∃ k : Nat, k ≤ n ∧ i = .int .i64 k ∧ Hid (Mod (Value.slice va n vc).ownBlock.toList wm wr ∧ wr.ownsRow B 50 2 (.slice va n vc) n (rowF f (k * 2) ++ xs.drop (k * 2)))) (fun i _ => n - (intOf i).toNat)
  case atStart => exact ⟨0, by omega, rfl, hideIt ⟨Mod.refl _ _, HVM.out⟩⟩
  case round =>
    obtain ⟨k, hk, rfl, hr⟩ := hrel
    obtain ⟨u0, u1⟩ := HWM0.out _ hr.out.1
    by_cases hlt : k < n
    · have hlt' : (k : Int) < (n : Int) := by omega
      obtain ⟨g, rfl, hfz⟩ := owns_form hr.out.2 (by omega)
      have hfk := hfz (k * 2)
      have hfk2 := hfz (k * 2 + 1)
      have hget : ∀ j, k * 2 ≤ j → j < n * 2 → ∃ z, (rowF f (k * 2) ++ xs.drop (k * 2))[j]? = some (.int .i64 z) := fun j h1 h2 => by
        rw [List.getElem?_append_right (by rw [rowF_length]; exact h1), rowF_length, List.getElem?_drop, show k * 2 + (j - k * 2) = j by omega]
        have hj : j < xs.length := by omega
        obtain ⟨z, hz⟩ := HXI.out _ (List.getElem_mem hj)
        exact ⟨z, by rw [List.getElem?_eq_getElem hj, hz]⟩
      obtain ⟨z0, hz0'⟩ := hget (k * 2) (by omega) (by omega)
      obtain ⟨z1, hz1'⟩ := hget (k * 2 + 1) (by omega) (by omega)
      have hcell := owns_cell hr.out.2 _ _ hz0'
      have hcell2 := owns_cell hr.out.2 _ _ hz1'
      have HN := hideIt (show ((wr.setCell ⟨g, k * 2, none⟩ (.int .i64 M)).setCell ⟨g, k * 2 + 1, none⟩ (.int .i64 M)).ownsRow B 50 2 (.slice (some ⟨g, 0, none⟩) n vc) n (rowF f ((k + 1) * 2) ++ xs.drop ((k + 1) * 2)) by
        have h1 := owns_setL hr.out.2 (k * 2) (f (k * 2))
        rw [rowF_set (by omega)] at h1
        have h2 := owns_setL h1 (k * 2 + 1) (f (k * 2 + 1))
        rw [rowF_set (by omega), HFV.out, HFV.out] at h2
        rw [show (k + 1) * 2 = k * 2 + 1 + 1 by omega]
        exact h2)
      have HMN := hideIt (show Mod (Value.slice (some ⟨g, 0, none⟩) n vc).ownBlock.toList wm ((wr.setCell ⟨g, k * 2, none⟩ (.int .i64 M)).setCell ⟨g, k * 2 + 1, none⟩ (.int .i64 M)) from (hr.out.1.trans (Mod.setCell _ _ _ (by simp [Value.ownBlock]))).trans (Mod.setCell _ _ _ (by simp [Value.ownBlock])))
      clear hr hget hfz c5 hz0' hz1'
      go_wp2_with fail
      go_roundw
      case rel => exact ⟨k + 1, by omega, by go_num, hideIt ⟨HMN.out, HN.out⟩⟩
      case measure => simp [intOf]; omega
    · have hkn : k = n := by omega
      subst hkn
      have hge : ¬ ((k : Int) < (k : Int)) := by omega
      have HO := hideIt (show wr.ownsRow B 50 2 (.slice va k vc) k (rowF f (k * 2)) by
        have := hr.out.2
        rw [List.drop_of_length_le (by omega), List.append_nil] at this
        exact this)
      have HM0 := hideIt (show Mod (Value.slice va k vc).ownBlock.toList w wr from HMA.out.nil.trans hr.out.1)
      have hszr : B ≤ wr.heap.size := Nat.le_trans hB HM0.out.size
      have HMW := hideIt hr.out.1
      clear hr hk hlt c5
      have HO1 := hideIt (show (wr.alloc (.cells #[.int .i64 M, .int .i64 M] 50)).ownsRow B 50 2 (.slice va k vc) k (rowF f (k * 2)) from owns_kept HO.out (Mod.alloc (F := []) _ _) (by simp))
      have hsz1 : B ≤ (wr.alloc (.cells #[.int .i64 M, .int .i64 M] 50)).heap.size := by simp; omega
      go_wp2_with (at_builtin; refine wpList_append_keep _ rfl _ _ 46 rfl B 50 i0 (.agg #[.int .i64 0, .int .i64 0]) 2 16 Tryz.underlying46 hi hz0 hz1 hz2 rfl (by decide) _ k (rowF f (k * 2)) rfl HO1.out ⟨wr.heap.size, 0, none⟩ 1 1 [.int .i64 M, .int .i64 M] rfl rfl (news_alloc wr #[.int .i64 M, .int .i64 M] 50) (fun u hu => by simp at hu; rw [hu]; rfl) (by unfold maxLen; omega) (by omega) hsz1 ?_)
      intro v1 w1 hkp
      obtain ⟨o1, ov1, m1, b1, q1⟩ := hkp.out
      clear hkp
      have HMW := hideIt ((HMW.out.trans (Mod.alloc _ _)).trans m1)
      obtain ⟨u0, u1⟩ := HWM0.out _ HMW.out
      have HM1 := hideIt (show Mod (Value.slice va k vc).ownBlock.toList w w1 from (HM0.out.trans (Mod.alloc _ _)).trans m1)
      have HR1 := hideIt (show w1.ownsRow B 50 2 v1 (k + 1) (rowF f ((k + 1) * 2)) by rw [show (k + 1) * 2 = k * 2 + 1 + 1 by omega, rowF_succ, rowF_succ, HFV.out, HFV.out, List.append_assoc]; exact o1)
      have HB1 := hideIt (show ∀ y ∈ v1.ownBlock.toList, y ∈ (Value.slice va k vc).ownBlock.toList ∨ (w.heap.size ≤ y ∧ y < w1.heap.size) from fun y hy => (b1 y hy).imp (fun h => h) (fun h => ⟨by have := HM0.out.size; simp at h; omega, (HR1.out.lt y (by simpa using hy)).2⟩))
      have HL1 := hideIt (Fl.of_owns HR1.out)
      clear o1 m1 b1 q1 HO1 hsz1 HO HM0
      have HOA := hideIt (show (w1.alloc (.cells #[.int .i64 M, .int .i64 M, .int .i64 M, .int .i64 M] 50)).ownsRow B 50 2 (.slice va k vc) k (rowF f (k * 2)) from owns_kept ov1 (Mod.alloc (F := []) _ _) (by simp))
      have hsz2 : B ≤ (w1.alloc (.cells #[.int .i64 M, .int .i64 M, .int .i64 M, .int .i64 M] 50)).heap.size := by have := HM1.out.size; simp; omega
      clear ov1
      go_wp2_with (at_builtin; refine wpList_append_keep _ rfl _ _ 46 rfl B 50 i0 (.agg #[.int .i64 0, .int .i64 0]) 2 16 Tryz.underlying46 hi hz0 hz1 hz2 rfl (by decide) _ k (rowF f (k * 2)) rfl HOA.out ⟨w1.heap.size, 0, none⟩ 2 2 [.int .i64 M, .int .i64 M, .int .i64 M, .int .i64 M] rfl rfl (news_alloc w1 #[.int .i64 M, .int .i64 M, .int .i64 M, .int .i64 M] 50) (fun u hu => by simp at hu; rw [hu]; rfl) (by unfold maxLen; omega) (by omega) hsz2 ?_)
      intro v2 w2 hkp
      obtain ⟨o2, ov2, m2, b2, q2⟩ := hkp.out
      clear hkp
      have HMW := hideIt ((HMW.out.trans (Mod.alloc _ _)).trans m2)
      obtain ⟨u0, u1⟩ := HWM0.out _ HMW.out
      have HM2 := hideIt (show Mod (Value.slice va k vc).ownBlock.toList w w2 from (HM1.out.trans (Mod.alloc _ _)).trans m2)
      have HR2 := hideIt (show w2.ownsRow B 50 2 v2 (k + 2) (rowF f ((k + 2) * 2)) by rw [show (k + 2) * 2 = k * 2 + 1 + 1 + 1 + 1 by omega, rowF_succ, rowF_succ, rowF_succ, rowF_succ, HFV.out, HFV.out, HFV.out, HFV.out, List.append_assoc, List.append_assoc, List.append_assoc]; exact o2)
      have HB1 := hideIt (show ∀ y ∈ v1.ownBlock.toList, y ∈ (Value.slice va k vc).ownBlock.toList ∨ (w.heap.size ≤ y ∧ y < w2.heap.size) from fun y hy => (HB1.out y hy).imp (fun h => h) (fun h => ⟨h.1, by have := m2.size; simp at this; omega⟩))
      have HB2 := hideIt (show ∀ y ∈ v2.ownBlock.toList, y ∈ (Value.slice va k vc).ownBlock.toList ∨ (w.heap.size ≤ y ∧ y < w2.heap.size) from fun y hy => (b2 y hy).imp (fun h => h) (fun h => ⟨by have := HM1.out.size; simp at h; omega, (HR2.out.lt y (by simpa using hy)).2⟩))
      have HL1 := hideIt ((HL1.out.kept (Mod.alloc (F := []) _ _) (by simp)).next (by omega) HR2.out m2 q2)
      have HL2 := hideIt (Fl.of_owns HR2.out)
      clear o2 m2 b2 q2 HOA hsz2 HM1 HR1
      have HOA := hideIt (show (w2.alloc (.cells #[.int .i64 M, .int .i64 M, .int .i64 M, .int .i64 M, .int .i64 M, .int .i64 M] 50)).ownsRow B 50 2 (.slice va k vc) k (rowF f (k * 2)) from owns_kept ov2 (Mod.alloc (F := []) _ _) (by simp))
      have hsz3 : B ≤ (w2.alloc (.cells #[.int .i64 M, .int .i64 M, .int .i64 M, .int .i64 M, .int .i64 M, .int .i64 M] 50)).heap.size := by have := HM2.out.size; simp; omega
      clear ov2
      go_wp2_with (at_builtin; refine wpList_append_keep _ rfl _ _ 46 rfl B 50 i0 (.agg #[.int .i64 0, .int .i64 0]) 2 16 Tryz.underlying46 hi hz0 hz1 hz2 rfl (by decide) _ k (rowF f (k * 2)) rfl HOA.out ⟨w2.heap.size, 0, none⟩ 3 3 [.int .i64 M, .int .i64 M, .int .i64 M, .int .i64 M, .int .i64 M, .int .i64 M] rfl rfl (news_alloc w2 #[.int .i64 M, .int .i64 M, .int .i64 M, .int .i64 M, .int .i64 M, .int .i64 M] 50) (fun u hu => by simp at hu; rw [hu]; rfl) (by unfold maxLen; omega) (by omega) hsz3 ?_)
      intro v3 w3 hkp
      obtain ⟨o3, ov3, m3, b3, q3⟩ := hkp.out
      clear hkp
      have HM3 := hideIt (show Mod (Value.slice va k vc).ownBlock.toList w w3 from (HM2.out.trans (Mod.alloc _ _)).trans m3)
      have HR3 := hideIt (show w3.ownsRow B 50 2 v3 (k + 3) (rowF f ((k + 3) * 2)) by rw [show (k + 3) * 2 = k * 2 + 1 + 1 + 1 + 1 + 1 + 1 by omega, rowF_succ, rowF_succ, rowF_succ, rowF_succ, rowF_succ, rowF_succ, HFV.out, HFV.out, HFV.out, HFV.out, HFV.out, HFV.out, List.append_assoc, List.append_assoc, List.append_assoc, List.append_assoc, List.append_assoc]; exact o3)
      have HB1 := hideIt (show ∀ y ∈ v1.ownBlock.toList, y ∈ (Value.slice va k vc).ownBlock.toList ∨ (w.heap.size ≤ y ∧ y < w3.heap.size) from fun y hy => (HB1.out y hy).imp (fun h => h) (fun h => ⟨h.1, by have := m3.size; simp at this; omega⟩))
      have HB2 := hideIt (show ∀ y ∈ v2.ownBlock.toList, y ∈ (Value.slice va k vc).ownBlock.toList ∨ (w.heap.size ≤ y ∧ y < w3.heap.size) from fun y hy => (HB2.out y hy).imp (fun h => h) (fun h => ⟨h.1, by have := m3.size; simp at this; omega⟩))
      have HB3 := hideIt (show ∀ y ∈ v3.ownBlock.toList, y ∈ (Value.slice va k vc).ownBlock.toList ∨ (w.heap.size ≤ y ∧ y < w3.heap.size) from fun y hy => (b3 y hy).imp (fun h => h) (fun h => ⟨by have := HM2.out.size; simp at h; omega, (HR3.out.lt y (by simpa using hy)).2⟩))
      have HL1 := hideIt ((HL1.out.kept (Mod.alloc (F := []) _ _) (by simp)).next (by omega) HR3.out m3 q3)
      have HL2 := hideIt ((HL2.out.kept (Mod.alloc (F := []) _ _) (by simp)).next (by omega) HR3.out m3 q3)
      have HL3 := hideIt (Fl.of_owns HR3.out)
      have HL0 := hideIt (Fl.of_owns ov3)
      clear o3 m3 b3 q3 ov3 HOA hsz3 HM2 HR2
      obtain ⟨r1, s1, rfl⟩ : ∃ a c, v1 = .slice a (k + 1) c := by obtain ⟨a, c, h, _⟩ := HL1.out; exact ⟨a, c, h⟩
      obtain ⟨r2, s2, rfl⟩ : ∃ a c, v2 = .slice a (k + 2) c := by obtain ⟨a, c, h, _⟩ := HL2.out; exact ⟨a, c, h⟩
      obtain ⟨r3, s3, rfl⟩ : ∃ a c, v3 = .slice a (k + 3) c := by obtain ⟨a, c, h, _⟩ := HL3.out; exact ⟨a, c, h⟩
      have hT3 : w3.heap[pw]? = some (T34 lv bk) := (HM3.out.block pw (lt_of_block HT.out) (fun hx => (HVF.out pw hx).2 rfl)).trans HT.out
      have c3 : w3.cell? ⟨pw, 5, none⟩ = some (.slice a3 ls.length p3) := by rw [← E3.out]; exact (cell_T34s hT3).2.2.2.2.1
      have HON := hideIt (show (w3.alloc (.cells #[.slice va k vc, .slice r1 (k + 1) s1, .slice r2 (k + 2) s2, .slice r3 (k + 3) s3] 46)).ownsRow B 46 1 (.slice a3 ls.length p3) ls.length ls by
        rw [← E3.out]
        exact owns_kept (owns_kept HSH.out.own HM3.out (fun k hk hk' => (HVF.out k hk').1 (mem_bookF.2 (.inr (.inr (mem_sF.2 (.inl (by simp [hk])))))))) (Mod.alloc (F := []) _ _) (by simp))
      have HSRC := hideIt (show srcRow (w3.alloc (.cells #[.slice va k vc, .slice r1 (k + 1) s1, .slice r2 (k + 2) s2, .slice r3 (k + 3) s3] 46)) 1 (.slice (some ⟨w3.heap.size, 0, none⟩) 4 4) 4 [.slice va k vc, .slice r1 (k + 1) s1, .slice r2 (k + 2) s2, .slice r3 (k + 3) s3] from srcRow_of_owns (owns_allocB (w := w3) (cur := #[.slice va k vc, .slice r1 (k + 1) s1, .slice r2 (k + 2) s2, .slice r3 (k + 3) s3]) (e := 46) (n := 4) (size := 1) rfl (by decide) (base := 0) (Nat.zero_le _)) (fun u hu => by simp at hu; rcases hu with rfl | rfl | rfl | rfl <;> rfl))
      have hsz4 : B ≤ (w3.alloc (.cells #[.slice va k vc, .slice r1 (k + 1) s1, .slice r2 (k + 2) s2, .slice r3 (k + 3) s3] 46)).heap.size := by have := HM3.out.size; simp; omega
      have HT3 := hideIt hT3
      clear hT3
      go_wp2_with (at_builtin; refine wpList_append_rows _ rfl _ _ 64 rfl B 46 i1 (.slice none 0 0) 1 24 Tryz.underlying64 hj hy0 hy1 hy2 rfl (by decide) _ ls.length ls rfl HON.out _ 4 [.slice va k vc, .slice r1 (k + 1) s1, .slice r2 (k + 2) s2, .slice r3 (k + 3) s3] rfl HSRC.out (by omega) (by unfold maxLen; omega) (by omega) hsz4 ?_)
      intro g5 c5 w5 ho5 hm5 hat5
      have HVNB := hideIt (show ∀ y ∈ bk.vh.ownBlock.toList, y ∈ bookF bk Eb En Eh from fun y hy => mem_bookF.2 (.inr (.inr (mem_sF.2 (.inl hy)))))
      have HUNB := hideIt (show ∀ y ∈ bk.uh.ownBlock.toList, y ∈ bookF bk Eb En Eh from fun y hy => mem_bookF.2 (.inr (.inr (mem_sF.2 (.inr (.inl hy))))))
      have HM5 := hideIt (show Mod bk.vh.ownBlock.toList w3 w5 by rw [E3.out]; exact (Mod.alloc _ _).trans hm5)
      have HG5 := hideIt (show g5 ∈ bk.vh.ownBlock.toList ∨ w3.heap.size ≤ g5 by
        rw [E3.out]
        rcases hat5 with h | h
        · exact .inl (by simp [h])
        · exact .inr (by first | omega | (simp at h; omega)))
      have HO5 := hideIt (show w5.ownsRow B 46 1 (.slice (some ⟨g5, 0, none⟩) (ls.length + 4) c5) (ls.length + 4) (ls ++ [.slice va k vc, .slice r1 (k + 1) s1, .slice r2 (k + 2) s2, .slice r3 (k + 3) s3]) from ho5)
      have hT5 : w5.heap[pw]? = some (T34 lv bk) := (HM5.out.block pw (lt_of_block HT3.out) (fun hx => HPW.out (HVNB.out pw hx))).trans HT3.out
      have hf5 := frozen_of_block hT5 5
      have hc5 := (cell_T34s hT5).2.2.2.2.1
      have hg5 : g5 ≠ pw := by
        rintro rfl
        rcases HG5.out with h | h
        · exact HPW.out (HVNB.out _ h)
        · have := lt_of_block HT3.out
          omega
      have hT6 : (w5.setCell ⟨pw, 5, none⟩ (.slice (some ⟨g5, 0, none⟩) (ls.length + 4) c5)).heap[pw]? = some (T34 lv { bk with vh := .slice (some ⟨g5, 0, none⟩) (ls.length + 4) c5 }) := by rw [block_setCell hT5]; rfl
      have c4 : (w5.setCell ⟨pw, 5, none⟩ (.slice (some ⟨g5, 0, none⟩) (ls.length + 4) c5)).cell? ⟨pw, 6, none⟩ = some (.slice a4 ls.length p4) := by rw [← E4.out]; exact (cell_T34s hT6).2.2.2.2.2
      have HUV := hideIt (show ∀ k ∈ bk.uh.ownBlock.toList, k ∉ bk.vh.ownBlock.toList from owns_apartB HSH.out.marks HSH.out.own (by decide))
      have HU3 := hideIt (show w3.ownsRow B 3 1 bk.uh ls.length (ints ks) from owns_kept HSH.out.marks HM3.out (fun k hk hk' => (HVF.out k hk').1 (HUNB.out k (by simp [hk]))))
      have HOU := hideIt (show ((w5.setCell ⟨pw, 5, none⟩ (.slice (some ⟨g5, 0, none⟩) (ls.length + 4) c5)).alloc (.cells #[.int .i64 M, .int .i64 M, .int .i64 M, .int .i64 M] 3)).ownsRow B 3 1 (.slice a4 ls.length p4) ls.length (ints ks) by
        rw [← E4.out]
        refine owns_kept (owns_kept (owns_kept HU3.out HM5.out (fun k hk => HUV.out k (by simp [hk]))) (Mod.setCell (F := [pw]) _ _ _ (by simp)) (fun k hk hk' => ?_)) (Mod.alloc (F := []) _ _) (by simp)
        simp at hk'
        subst hk'
        exact HPW.out (HUNB.out _ (by simp [hk])))
      have HSR2 := hideIt (show srcRow ((w5.setCell ⟨pw, 5, none⟩ (.slice (some ⟨g5, 0, none⟩) (ls.length + 4) c5)).alloc (.cells #[.int .i64 M, .int .i64 M, .int .i64 M, .int .i64 M] 3)) 1 (.slice (some ⟨(w5.setCell ⟨pw, 5, none⟩ (.slice (some ⟨g5, 0, none⟩) (ls.length + 4) c5)).heap.size, 0, none⟩) 4 4) 4 [.int .i64 M, .int .i64 M, .int .i64 M, .int .i64 M] from srcRow_of_owns (owns_allocB (cur := #[.int .i64 M, .int .i64 M, .int .i64 M, .int .i64 M]) (e := 3) (n := 4) (size := 1) rfl (by decide) (base := 0) (Nat.zero_le _)) (fun u hu => by simp at hu; rw [hu]; rfl))
      have HT6 := hideIt hT6
      have hsz6 : B ≤ ((w5.setCell ⟨pw, 5, none⟩ (.slice (some ⟨g5, 0, none⟩) (ls.length + 4) c5)).alloc (.cells #[.int .i64 M, .int .i64 M, .int .i64 M, .int .i64 M] 3)).heap.size := Nat.le_trans hB (Nat.le_trans (HM3.out.size) (Nat.le_trans HM5.out.size (((Mod.setCell (F := [pw]) w5 ⟨pw, 5, none⟩ _ (by simp)).trans (Mod.alloc (F := [pw]) _ _)).size)))
      clear hT5 hT6 ho5 hm5 hat5 c3 HON HSRC hsz4
      generalize hW6 : w5.setCell ⟨pw, 5, none⟩ (.slice (some ⟨g5, 0, none⟩) (ls.length + 4) c5) = w6 at *
      go_wp2_with (at_builtin; refine wpList_append_rows _ rfl _ _ 39 rfl B 3 i2 (.int .i64 0) 1 8 Tryz.underlying39 hx hx0 hx1 hx2 rfl (by decide) _ ls.length (ints ks) rfl HOU.out _ 4 [.int .i64 M, .int .i64 M, .int .i64 M, .int .i64 M] rfl HSR2.out (by omega) (by unfold maxLen; omega) (by omega) hsz6 ?_)
      intro g7 c7 w7 ho7 hm7 hat7
      have HM7 := hideIt (show Mod bk.uh.ownBlock.toList w6 w7 by rw [E4.out]; exact (Mod.alloc _ _).trans hm7)
      have HG7 := hideIt (show g7 ∈ bk.uh.ownBlock.toList ∨ w3.heap.size ≤ g7 by
        rw [E4.out]
        rcases hat7 with h | h
        · exact .inl (by simp [h])
        · refine .inr ?_
          have h1 := HM5.out.size
          have h2 : w5.heap.size ≤ w6.heap.size := by rw [← hW6]; exact (Mod.setCell (F := [pw]) _ _ _ (by simp)).size
          first | omega | (simp at h; omega))
      have HO7 := hideIt (show w7.ownsRow B 3 1 (.slice (some ⟨g7, 0, none⟩) (ls.length + 4) c7) (ls.length + 4) (ints (ks ++ [M, M, M, M])) by
        rw [show ints (ks ++ [M, M, M, M]) = catL (ints ks) [.int .i64 M, .int .i64 M, .int .i64 M, .int .i64 M] by simp [ints, catL]]
        exact ho7)
      have hT7 : w7.heap[pw]? = some (T34 lv { bk with vh := .slice (some ⟨g5, 0, none⟩) (ls.length + 4) c5 }) := (HM7.out.block pw (lt_of_block HT6.out) (fun hx => HPW.out (HUNB.out pw hx))).trans HT6.out
      have hg7 : g7 ≠ pw := by
        rintro rfl
        rcases HG7.out with h | h
        · exact HPW.out (HUNB.out _ h)
        · have := lt_of_block HT3.out
          omega
      have hf7 := frozen_of_block hT7 6
      have hc7 : w7.cell? ⟨pw, 6, none⟩ = some bk.uh := (cell_T34s hT7).2.2.2.2.2
      have hT8 : (w7.setCell ⟨pw, 6, none⟩ (.slice (some ⟨g7, 0, none⟩) (ls.length + 4) c7)).heap[pw]? = some (T34 lv { bk with vh := .slice (some ⟨g5, 0, none⟩) (ls.length + 4) c5, uh := .slice (some ⟨g7, 0, none⟩) (ls.length + 4) c7 }) := by rw [block_setCell hT7]; rfl
      have HFIN := hideIt (show BookPost B pw lv K (bookF bk Eb En Eh) (.slice va k vc) w (.returned (.tuple #[])) (w7.setCell ⟨pw, 6, none⟩ (.slice (some ⟨g7, 0, none⟩) (ls.length + 4) c7)) from by
        rw [← hW6] at HM7
        obtain ⟨d1, d2, d3⟩ := rows_done (o' := 6) (by decide) HU3.out (fun hx => HPW.out (HUNB.out _ hx)) (by simpa [Value.ownBlock] using fun h => hg5 h.symm) (by simpa [Value.ownBlock] using fun h => hg7 h.symm) HO5.out HM5.out HO7.out HUV.out HM7.out
        have hx0 : ∀ y ∈ (Value.slice va k vc).ownBlock.toList, y ∉ sF bk.vh bk.uh Eh ∧ y < w.heap.size ∧ B ≤ y := fun y hy => ⟨fun h => (HVF.out y hy).1 (mem_bookF.2 (.inr (.inr h))), (HV.out.lt y (by simpa using hy)).2, (HV.out.lt y (by simpa using hy)).1⟩
        have hfill : ∀ {u : Value} {l : Nat}, Fl w3 u l (l * 2) f → l ≤ 1000000000 → FillH w3 u M := fun h hl => Fl.fillH (by rw [← HF.out]; exact h) hl
        obtain ⟨E', hsh', hE'⟩ := Shelf.fin stays_H HSH.out (x0 := .slice va k vc) (xs := [.slice va k vc, .slice r1 (k + 1) s1, .slice r2 (k + 2) s2, .slice r3 (k + 3) s3]) (m := M) (pw := pw) rfl hx0 hB HM3.out (fun x hx => by
          simp only [List.mem_cons, List.not_mem_nil, or_false] at hx
          rcases hx with rfl | rfl | rfl | rfl
          · exact ⟨fun y hy => .inl hy, rfl, hfill HL0.out (by omega)⟩
          · exact ⟨HB1.out, rfl, hfill HL1.out (by omega)⟩
          · exact ⟨HB2.out, rfl, hfill HL2.out (by omega)⟩
          · exact ⟨HB3.out, rfl, hfill HL3.out (by omega)⟩)
          ⟨fun h => HPW.out (mem_bookF.2 (.inr (.inr h))), fun h => (HVF.out _ h).2 rfl, lt_of_block HT.out⟩
          (v' := .slice (some ⟨g5, 0, none⟩) (ls.length + 4) c5) (u' := .slice (some ⟨g7, 0, none⟩) (ls.length + 4) c7)
          (fun y hy => by have e : y = g5 := by simpa [Value.ownBlock] using hy
                          subst e; exact HG5.out)
          (fun y hy => by have e : y = g7 := by simpa [Value.ownBlock] using hy
                          subst e; exact HG7.out) d3 d1 d2
        have hM : Mod (pw :: (bookF ⟨.slice none 0 0, .slice none 0 0, .slice none 0 0, .slice none 0 0, bk.vh, bk.uh⟩ [] [] [] ++ (Value.slice va k vc).ownBlock.toList)) w (w7.setCell ⟨pw, 6, none⟩ (.slice (some ⟨g7, 0, none⟩) (ls.length + 4) c7)) := by
          refine (HM3.out.mono (fun y hy => ?_)).trans (d3.mono (fun y hy => ?_))
          · exact List.mem_cons.2 (.inr (List.mem_append.2 (.inr hy)))
          · rcases List.mem_cons.1 hy with h | h
            · exact List.mem_cons.2 (.inl h)
            · refine List.mem_cons.2 (.inr (List.mem_append.2 (.inl ?_)))
              rcases List.mem_append.1 h with h | h
              · exact mem_bookF.2 (.inr (.inr (mem_sF.2 (.inl h))))
              · exact mem_bookF.2 (.inr (.inr (mem_sF.2 (.inr (.inl h)))))
        refine ⟨rfl, _, _, hT8, ⟨Eb, En, E', HBK.out.hit hM HPW.out (fun x hx => (HVF.out x hx).1) hsh' hE', rfl⟩, fun x hx => ?_, hM.mono (fun y hy => ?_)⟩
        · rcases mem_bookF.1 hx with h | h | h
          · exact .inl (mem_bookF.2 (.inl h))
          · exact .inl (mem_bookF.2 (.inr (.inl h)))
          · rcases hE' x h with h | h | h
            · exact .inl (mem_bookF.2 (.inr (.inr h)))
            · exact .inr (.inl h)
            · exact .inr (.inr h)
        · rcases List.mem_cons.1 hy with h | h
          · exact List.mem_cons.2 (.inl h)
          · refine List.mem_cons.2 (.inr ?_)
            rcases List.mem_append.1 h with h | h
            · refine List.mem_append.2 (.inl ?_)
              rcases mem_bookF.1 h with h | h | h
              · simp [sF, Value.ownBlock] at h
              · simp [sF, Value.ownBlock] at h
              · rcases mem_sF.1 h with h | h | h
                · exact HVNB.out y h
                · exact HUNB.out y h
                · simp at h
            · exact List.mem_append.2 (.inr h))
      clear hT7 hT8 ho7 hm7 hat7 c4 HOU HSR2 hsz6 hc5 hf5 HL0 HL1 HL2 HL3 HB1 HB2 HB3 HO5 HO7 HU3
      go_wp2
      go_end0
      exact HFIN.out


end Go.Proofs.YthimaoipogocfaaGreat

namespace Go.Proofs.YthimaoipogocfaaGreat
open Go.RowKit Go.Maps
attribute [local go_sem] run_store_f32 run_neg_inf

/-! ### what the reference finds, and what the program finds: the same -/
theorem insOne_perm (out : List Int) (z : Int) : (Rf.insOne out z).Perm (z :: out) := by
  unfold Rf.insOne
  have h := List.takeWhile_append_dropWhile (p := fun y => decide (y < z)) (l := out)
  refine List.perm_middle.trans ?_
  rw [h]
theorem takeWhile_lt {z : Int} : ∀ (l : List Int), ∀ y ∈ l.takeWhile (fun y => decide (y < z)), y < z
  | [], y, hy => by simp at hy
  | a :: l, y, hy => by
    by_cases ha : a < z
    · rw [List.takeWhile_cons_of_pos (by simpa using ha)] at hy
      rcases List.mem_cons.1 hy with rfl | hy
      · exact ha
      · exact takeWhile_lt l y hy
    · rw [List.takeWhile_cons_of_neg (by simpa using ha)] at hy
      cases hy
theorem dropWhile_ge {z : Int} : ∀ (l : List Int), l.Pairwise (· ≤ ·) → ∀ y ∈ l.dropWhile (fun y => decide (y < z)), z ≤ y
  | [], _, y, hy => by simp at hy
  | a :: l, h, y, hy => by
    by_cases ha : a < z
    · rw [List.dropWhile_cons_of_pos (by simpa using ha)] at hy
      exact dropWhile_ge l (List.pairwise_cons.1 h).2 y hy
    · rw [List.dropWhile_cons_of_neg (by simpa using ha)] at hy
      rcases List.mem_cons.1 hy with rfl | hy
      · omega
      · have := (List.pairwise_cons.1 h).1 y hy
        omega
theorem insOne_sorted {out : List Int} {z : Int} (h : out.Pairwise (· ≤ ·)) : (Rf.insOne out z).Pairwise (· ≤ ·) := by
  unfold Rf.insOne
  have h1 := takeWhile_lt (z := z) out
  have h2 := dropWhile_ge (z := z) out h
  refine List.pairwise_append.2 ⟨h.sublist (List.takeWhile_sublist _), List.pairwise_cons.2 ⟨h2, h.sublist (List.dropWhile_sublist _)⟩, fun a ha b hb => ?_⟩
  have := h1 a ha
  rcases List.mem_cons.1 hb with rfl | hb
  · omega
  · have := h2 b hb
    omega
theorem rf_sort (l : List Int) : Rf.sortI l = sortI l := by
  have key : ∀ (l acc : List Int), acc.Pairwise (· ≤ ·) → (l.foldl Rf.insOne acc).Pairwise (· ≤ ·) ∧ (l.foldl Rf.insOne acc).Perm (acc ++ l) := by
    intro l
    induction l with
    | nil => intro acc h; simpa using h
    | cons z l ih =>
      intro acc h
      obtain ⟨h1, h2⟩ := ih (Rf.insOne acc z) (insOne_sorted h)
      refine ⟨h1, h2.trans ?_⟩
      exact ((insOne_perm acc z).append_right l).trans List.perm_middle.symm
  obtain ⟨h1, h2⟩ := key l [] List.Pairwise.nil
  exact List.Perm.eq_of_pairwise (le := (· ≤ ·)) (fun a b _ _ h1 h2 => by omega) h1 (sortI_pairwise l) (by simpa [Rf.sortI] using h2.trans (sortI_perm l).symm)

theorem common_meet (a0 a1 a2 a3 b0 b1 b2 b3 : Int) : Rf.commonB a0 a1 a2 a3 b0 b1 b2 b3 = meetI a0 a1 a2 a3 b0 b1 b2 b3 := by
  rw [Bool.eq_iff_iff]
  simp only [Rf.commonB, Rf.apartB, meetI, Bool.and_eq_true, Bool.not_eq_true', Bool.or_eq_false_iff, decide_eq_true_eq, decide_eq_false_iff_not]
  omega
theorem in_hold (a0 a1 a2 a3 b0 b1 b2 b3 : Int) : Rf.inB a0 a1 a2 a3 b0 b1 b2 b3 = holdI a0 a1 a2 a3 b0 b1 b2 b3 := by
  rw [Bool.eq_iff_iff]
  simp only [Rf.inB, holdI, Bool.and_eq_true, decide_eq_true_eq]
  omega

theorem found_same {L : List Th} {ts : List Tg} (h : L.Perm (ts.map Tg.th)) {p q : Th → Bool} (hpq : ∀ t, p t = q t) : Rf.sortI ((L.filter p).map (·.id)) = foundG (fun t => q t.th) ts := by
  rw [foundG_eq, rf_sort, funext hpq]
  exact sortI_congr ((h.filter q).map _)
theorem meets_same {L : List Th} {ts : List Tg} (h : L.Perm (ts.map Tg.th)) (c0 c1 c2 c3 : Int) : Rf.sortI (Rf.idsF c0 c1 c2 c3 false L) = foundG (meetG c0 c1 c2 c3) ts :=
  found_same h (q := meetT c0 c1 c2 c3) (fun _ => common_meet _ _ _ _ _ _ _ _)
theorem within_same {L : List Th} {ts : List Tg} (h : L.Perm (ts.map Tg.th)) (c0 c1 c2 c3 : Int) : Rf.sortI (Rf.idsF c0 c1 c2 c3 true L) = foundG (holdG c0 c1 c2 c3) ts :=
  found_same h (q := holdT c0 c1 c2 c3) (fun _ => in_hold _ _ _ _ _ _ _ _)

/-! ### pairs -/
theorem pairsF_snoc (L : List Th) (t : Th) : Rf.pairsF (L ++ [t]) = Rf.pairsF L + Rf.meetN L t := by
  have key : ∀ i, i ≤ L.length → Rf.pairsTo (L ++ [t]) i = Rf.pairsTo L i := by
    intro i
    induction i with
    | zero => intro _; rfl
    | succ i ih =>
      intro hi
      show Rf.pairsTo (L ++ [t]) i + Rf.meetN ((L ++ [t]).take i) ((L ++ [t]).getD i Rf.thZ) = Rf.pairsTo L i + Rf.meetN (L.take i) (L.getD i Rf.thZ)
      rw [ih (by omega), List.take_append_of_le_length (by omega)]
      have e : (L ++ [t]).getD i Rf.thZ = L.getD i Rf.thZ := by
        rw [List.getD_eq_getElem?_getD, List.getD_eq_getElem?_getD, List.getElem?_append_left (by omega)]
      rw [e]
  show Rf.pairsTo (L ++ [t]) (L ++ [t]).length = _
  rw [List.length_append]
  show Rf.pairsTo (L ++ [t]) L.length + Rf.meetN ((L ++ [t]).take L.length) ((L ++ [t]).getD L.length Rf.thZ) = _
  rw [key _ (Nat.le_refl _)]
  have e : (L ++ [t]).getD L.length Rf.thZ = t := by
    rw [List.getD_eq_getElem?_getD, List.getElem?_append_right (Nat.le_refl _)]
    simp
  rw [e, List.take_left']
  · rfl
  · rfl
theorem sum_add {A : Type} (f g : A → Nat) : ∀ l : List A, (l.map (fun a => f a + g a)).sum = (l.map f).sum + (l.map g).sum
  | [] => rfl
  | a :: l => by
    simp only [List.map_cons, List.sum_cons]
    rw [sum_add f g l]
    omega
theorem filter_snoc {A : Type} (p : A → Bool) (l : List A) (t : A) : ((l ++ [t]).filter p).length = (l.filter p).length + if p t then 1 else 0 := by
  rw [List.filter_append, List.length_append]
  cases h : p t <;> simp [h]
theorem pairsT_snoc (L : List Th) (t : Th) : pairsT (L ++ [t]) = pairsT L + ((L.map (fun a => if pairT a t then 1 else 0)).sum + (L.filter (pairT t)).length) := by
  have htt : pairT t t = false := by simp [pairT]
  unfold pairsT
  rw [List.map_append, List.sum_append, List.map_congr_left (fun a _ => filter_snoc (pairT a) L t), sum_add]
  simp only [List.map_cons, List.map_nil, List.sum_cons, List.sum_nil, filter_snoc, htt]
  simp
  omega
theorem pair_sum (t : Th) : ∀ L : List Th, (∀ a ∈ L, a.id ≠ t.id) → (L.map (fun a => if pairT a t then 1 else 0)).sum + (L.filter (pairT t)).length = Rf.meetN L t
  | [], _ => rfl
  | a :: L, h => by
    have ih := pair_sum t L (fun b hb => h b (by simp [hb]))
    have ha := h a (by simp)
    have e1 : Rf.commonT t a = meetI t.x0 t.y0 t.x1 t.y1 a.x0 a.y0 a.x1 a.y1 := common_meet _ _ _ _ _ _ _ _
    have e2 : meetI t.x0 t.y0 t.x1 t.y1 a.x0 a.y0 a.x1 a.y1 = meetI a.x0 a.y0 a.x1 a.y1 t.x0 t.y0 t.x1 t.y1 := by
      rw [Bool.eq_iff_iff]
      simp only [meetI, Bool.and_eq_true, decide_eq_true_eq]
      omega
    have p1 : pairT a t = (decide (a.id < t.id) && meetI t.x0 t.y0 t.x1 t.y1 a.x0 a.y0 a.x1 a.y1) := by rw [e2]; rfl
    have p2 : pairT t a = (decide (t.id < a.id) && meetI t.x0 t.y0 t.x1 t.y1 a.x0 a.y0 a.x1 a.y1) := rfl
    unfold Rf.meetN at ih ⊢
    rw [List.filter_cons, List.filter_cons, List.map_cons, List.sum_cons, p1, p2, e1]
    cases meetI t.x0 t.y0 t.x1 t.y1 a.x0 a.y0 a.x1 a.y1 with
    | false => simpa using ih
    | true =>
      by_cases hlt : a.id < t.id
      · have h2 : ¬ (t.id < a.id) := by omega
        simp [hlt, h2]
        omega
      · have h2 : t.id < a.id := by omega
        simp [hlt, h2]
        omega
theorem pairs_same : ∀ {L : List Th}, (L.map (·.id)).Nodup → Rf.pairsF L = pairsT L := by
  intro L
  suffices h : ∀ M : List Th, (M.reverse.map (·.id)).Nodup → Rf.pairsF M.reverse = pairsT M.reverse by
    intro hn
    have := h L.reverse (by simpa using hn)
    simpa using this
  intro M
  induction M with
  | nil => intro _; rfl
  | cons t M ih =>
    intro hn
    rw [List.reverse_cons] at hn ⊢
    rw [List.map_append, List.nodup_append] at hn
    obtain ⟨h1, _, h3⟩ := hn
    rw [pairsF_snoc, pairsT_snoc, ih h1, pair_sum t M.reverse (fun a ha => h3 a.id (List.mem_map.2 ⟨a, ha, rfl⟩) t.id (by simp))]

/-! ### the nearest -/
def ht2 (h : Ht) : Rf.Ht := (h.id, h.far)
theorem hts_same (l : List Ht) : Rf.hts (l.map ht2) = htsV l := by
  unfold Rf.hts Rf.flatE htsV
  rw [List.flatMap_map]
  rfl
theorem gap_bes {n lo hi : Int} (h : lo ≤ hi) : Rf.gapF n lo hi = besI n lo hi := by
  unfold Rf.gapF besI
  split
  · omega
  · split <;> omega
theorem hit_same {x y : Int} {t : Tg} (h : RectOk t.x0 t.y0 t.x1 t.y1) : ht2 (tgH x y t) = Rf.hitOf x y t.th := by
  unfold RectOk at h
  show (t.id, farI x y t.x0 t.y0 t.x1 t.y1) = (t.id, Rf.farF t.x0 t.y0 t.x1 t.y1 x y)
  unfold farI Rf.farF
  rw [gap_bes (by omega), gap_bes (by omega)]
theorem hits_same {x y : Int} : ∀ {ts : List Tg}, (∀ t ∈ ts, RectOk t.x0 t.y0 t.x1 t.y1) → (ts.map (tgH x y)).map ht2 = Rf.hitsOf x y (ts.map Tg.th) := by
  intro ts h
  unfold Rf.hitsOf
  rw [List.map_map, List.map_map]
  exact List.map_congr_left (fun t ht => hit_same (h t ht))
theorem near_same {x y : Int} {most : Nat} {L : List Th} {ts : List Tg} (hp : L.Perm (ts.map Tg.th)) (hr : ∀ t ∈ ts, RectOk t.x0 t.y0 t.x1 t.y1) (hn : (ts.map (·.id)).Nodup) :
    Rf.NearIs (Rf.hitsOf x y L) most (((sortH (ts.map (tgH x y))).take most).map ht2) := by
  have hperm : ((sortH (ts.map (tgH x y))).map ht2).Perm (Rf.hitsOf x y L) := by
    refine ((sortH_perm _).map ht2).trans ?_
    rw [hits_same hr]
    exact (hp.map _).symm
  have hnd : ((sortH (ts.map (tgH x y))).map (·.id)).Nodup := by
    refine ((sortH_perm _).map (·.id)).nodup_iff.2 ?_
    rw [List.map_map]
    exact hn
  have hlt : (sortH (ts.map (tgH x y))).Pairwise (fun a b => Rf.htLt (ht2 a) (ht2 b)) := by
    have h2 := List.pairwise_map.1 hnd
    refine ((sortH_pairwise _).and h2).imp (fun {a b} h => ?_)
    obtain ⟨h3, h4⟩ := h
    rw [hle_iff] at h3
    show a.far < b.far ∨ (a.far = b.far ∧ a.id < b.id)
    omega
  generalize sortH (ts.map (tgH x y)) = S at *
  have hs : S.take most ++ S.drop most = S := List.take_append_drop _ _
  rw [← hs] at hlt
  obtain ⟨h1, _, h3⟩ := List.pairwise_append.1 hlt
  refine ⟨(S.drop most).map ht2, ?_, List.pairwise_map.2 h1, ?_, ?_, ?_⟩
  · rw [← List.map_append, hs]
    exact hperm
  · intro a ha b hb
    obtain ⟨a', ha', rfl⟩ := List.mem_map.1 ha
    obtain ⟨b', hb', rfl⟩ := List.mem_map.1 hb
    exact h3 a' ha' b' hb'
  · rw [List.length_map, List.length_take]
    omega
  · rw [List.length_map, List.length_take]
    by_cases h : most ≤ S.length
    · exact .inl (by omega)
    · exact .inr (by rw [List.drop_of_length_le (by omega)]; rfl)

end Go.Proofs.YthimaoipogocfaaGreat

