import Derived.Test.YthimaoipogocfaaGreatRep3
import Derived.Test.YthimaoipogocfaaGreatM09
import Derived.Laws.BytesArg
import Derived.Lib.Bytes
namespace Go.Proofs.YthimaoipogocfaaGreat
open Go.RowKit Go.Maps
attribute [local go_sem] run_store_f32 run_neg_inf

/-! ### bytes as strings -/
theorem bytes_inj : ∀ {a b : List Int}, ByteL a → ByteL b → (a.map fun n => UInt8.ofNat n.toNat) = (b.map fun n => UInt8.ofNat n.toNat) → a = b := by
  intro a
  induction a with
  | nil =>
    intro b _ _ h
    cases b with
    | nil => rfl
    | cons y b => simp at h
  | cons x a ih =>
    intro b ha hb h
    cases b with
    | nil => simp at h
    | cons y b =>
      rw [List.map_cons, List.map_cons, List.cons.injEq] at h
      have hx := ha x (by simp)
      have hy := hb y (by simp)
      have e := congrArg UInt8.toNat h.1
      have h1 : (UInt8.ofNat x.toNat).toNat = x.toNat := UInt8.toNat_ofNat_of_lt' (by show x.toNat < 256; omega)
      have h2 : (UInt8.ofNat y.toNat).toNat = y.toNat := UInt8.toNat_ofNat_of_lt' (by show y.toNat < 256; omega)
      rw [h1, h2] at e
      have e2 : x = y := by omega
      rw [e2, ih (fun z hz => ha z (by simp [hz])) (fun z hz => hb z (by simp [hz])) h.2]
theorem strOfNums_inj {a b : List Int} (ha : ByteL a) (hb : ByteL b) (h : (strOfNums a).toList = (strOfNums b).toList) : a = b := by
  rw [Lib.strOfNums_toList, Lib.strOfNums_toList] at h
  exact bytes_inj ha hb h
theorem BytesAt.str {w : World} {g off n : Nat} {l : List Int} (h : BytesAt w g off l) (hn : l.length = n) (c : Nat) : (convert 56 9 (.slice (some ⟨g, off, none⟩) n c)).run Tryz.prog w = .ok (.string (strOfNums l)) w := by
  refine run_convert_bytes_arg w 56 5 Tryz.underlying56 Tryz.underlying5 g off n c l hn (fun i hi => ?_) 9 Tryz.underlying9
  have hi2 : l[i]? = some (l.getD i 0) := by
    rw [List.getD_eq_getElem?_getD, List.getElem?_eq_getElem (by omega)]
    rfl
  exact h i _ hi2

/-! ### what is read is what would be written -/
theorem readF_rec {l : List Int} (hB : ByteL l) {k m : Nat} {kind : Int} (hg : l[k]? = some kind) (hs : sizeF kind = some m) (hle : k + m + 5 ≤ l.length) :
    readF l k = if recF (l.take k) kind ((l.drop (k + 1)).take m) = (l.drop k).take (m + 5) then some (parseF kind ((l.drop (k + 1)).take m)) else none := by
  obtain ⟨hk, hkk⟩ := List.getElem?_eq_some_iff.1 hg
  have hdk : l.drop k = kind :: l.drop (k + 1) := by rw [List.drop_eq_getElem_cons hk, hkk]
  obtain ⟨body, hbody⟩ : ∃ body, body = (l.drop (k + 1)).take m := ⟨_, rfl⟩
  have hrec : (l.drop k).take (1 + m) = kind :: body := by rw [hdk, Nat.add_comm, List.take_succ_cons, hbody]
  have hl4 : ((l.drop (k + 1 + m)).take 4).length = 4 := by rw [List.length_take, List.length_drop]; omega
  have h4B : ByteL ((l.drop (k + 1 + m)).take 4) := (hB.drop _).take _
  have hall : (l.drop k).take (m + 5) = (kind :: body) ++ (l.drop (k + 1 + m)).take 4 := by
    have : (l.drop k).take (1 + m) ++ ((l.drop k).drop (1 + m)).take 4 = (l.drop k).take (1 + m + 4) := (List.take_add ..).symm
    rw [List.drop_drop] at this
    rw [← hrec, show k + 1 + m = k + (1 + m) by omega, this]
    congr 1
    omega
  have hiff : (k + 1 + m + 4 ≤ l.length ∧ sealF (l.take k) ((l.drop k).take (1 + m)) = valB ((l.drop (k + 1 + m)).take 4)) ↔ recF (l.take k) kind body = (l.drop k).take (m + 5) := by
    rw [hall, hrec]
    unfold recF
    rw [List.append_cancel_left_eq]
    constructor
    · rintro ⟨_, h⟩
      have := numB_valB h4B
      rw [hl4] at this
      rw [h]
      exact this
    · intro h
      refine ⟨by omega, ?_⟩
      rw [← h, valB_numB]
      have := sealF_range (l.take k) (kind :: body)
      show _ = _ % 4294967296
      omega
  unfold readF
  rw [hg]
  simp only [hs]
  rw [← hbody]
  by_cases hc : recF (l.take k) kind body = (l.drop k).take (m + 5)
  · rw [if_pos hc, if_pos (hiff.2 hc)]
  · rw [if_neg hc, if_neg (fun h => hc (hiff.1 h))]

/-! ### size -/
def sizeZ (kind : Int) : Int := match sizeF kind with
  | some m => (m : Nat)
  | none => -1
theorem rsize_any (kind : Int) (w : World) : Calls Tryz.prog 153 #[.int .u8 kind] w (fun e w' => e = .returned (.int .i64 (sizeZ kind)) ∧ w = w') := by
  by_cases h1 : kind = 72
  · subst h1
    go_enter Tryz.func153, Tryz.ntmps153
    go_wp2
    go_ret
    exact ⟨rfl, rfl⟩
  by_cases h2 : kind = 80
  · subst h2
    go_enter Tryz.func153, Tryz.ntmps153
    go_wp2
    go_ret
    exact ⟨rfl, rfl⟩
  by_cases h3 : kind = 77
  · subst h3
    go_enter Tryz.func153, Tryz.ntmps153
    go_wp2
    go_ret
    exact ⟨rfl, rfl⟩
  by_cases h4 : kind = 68
  · subst h4
    go_enter Tryz.func153, Tryz.ntmps153
    go_wp2
    go_ret
    exact ⟨rfl, rfl⟩
  have e : sizeZ kind = -1 := by simp [sizeZ, sizeF, h1, h2, h3, h4]
  have b1 : (kind == 72) = false := by simp [h1]
  have b2 : (kind == 80) = false := by simp [h2]
  have b3 : (kind == 77) = false := by simp [h3]
  have b4 : (kind == 68) = false := by simp [h4]
  rw [e]
  clear e h1 h2 h3 h4
  go_enter Tryz.func153, Tryz.ntmps153
  go_wp2
  go_ret
  exact ⟨rfl, rfl⟩

/-! ### body -/
def RBNo (w : World) (e : Ending) (w' : World) : Prop := ∃ v, e = .returned (.tuple #[v, .bool false]) ∧ Mod [] w w'
def RBYes (g off m c : Nat) (w : World) (e : Ending) (w' : World) : Prop := e = .returned (.tuple #[.slice (some ⟨g, off, none⟩) m c, .bool true]) ∧ Mod [] w w'

set_option maxRecDepth 100000 in
set_option maxHeartbeats 1000000 in
theorem rbody_end (v : Value) (l : List Int) (w : World) (h : LogV w v l) {k : Nat} (hl : l.length ≤ k) (last : Int) : Calls Tryz.prog 118 #[v, .int .i64 k, .int .i64 last] w (RBNo w) := by
  have hle : (l.length : Int) ≤ (k : Int) := by omega
  rcases h.out with ⟨rfl, rfl⟩ | ⟨g, off, c, rfl, _⟩ | ⟨a, c, rfl, rfl⟩
  · clear h
    go_enter Tryz.func118, Tryz.ntmps118
    go_wp2
    go_ret2
    exact ⟨_, rfl, Mod.refl _ _⟩
  · clear h
    go_enter Tryz.func118, Tryz.ntmps118
    go_wp2
    go_ret2
    exact ⟨_, rfl, Mod.refl _ _⟩
  · clear h
    go_enter Tryz.func118, Tryz.ntmps118
    go_wp2
    go_ret2
    exact ⟨_, rfl, Mod.refl _ _⟩

set_option maxRecDepth 100000 in
set_option maxHeartbeats 1000000 in
theorem rbody_kind {w : World} {g off c : Nat} {l : List Int} (hb : BytesAt w g off l) {k : Nat} {kind : Int} (hg : l[k]? = some kind) (hs : sizeF kind = none) (last : Int) : Calls Tryz.prog 118 #[.slice (some ⟨g, off, none⟩) l.length c, .int .i64 k, .int .i64 last] w (RBNo w) := by
  have hk : k < l.length := (List.getElem?_eq_some_iff.1 hg).1
  have hk' : ¬ ((l.length : Int) ≤ (k : Int)) := by omega
  have cK := hb k _ hg
  have HS := hideIt (show ∀ W, Calls Tryz.prog 153 #[.int .u8 kind] W (fun e w' => e = .returned (.int .i64 (-1)) ∧ W = w') from fun W => by have := rsize_any kind W; unfold sizeZ at this; rw [hs] at this; exact this)
  clear hb hg hs
  go_enter Tryz.func118, Tryz.ntmps118
  go_wp2_with fail
  refine (HS.out _).mono ?_
  rintro e w1 ⟨rfl, hw⟩
  obtain rfl := hw
  go_wp2
  go_ret2
  exact ⟨_, rfl, Mod.refl _ _⟩

set_option maxRecDepth 100000 in
set_option maxHeartbeats 1000000 in
theorem rbody_short {w : World} {g off c : Nat} {l : List Int} (hb : BytesAt w g off l) (hl : l.length ≤ 1000000000000) {k m : Nat} {kind : Int} (hg : l[k]? = some kind) (hs : sizeF kind = some m) (hm : l.length < k + m + 5) (last : Int) : Calls Tryz.prog 118 #[.slice (some ⟨g, off, none⟩) l.length c, .int .i64 k, .int .i64 last] w (RBNo w) := by
  have hk : k < l.length := (List.getElem?_eq_some_iff.1 hg).1
  have hk' : ¬ ((l.length : Int) ≤ (k : Int)) := by omega
  have hm18 : m ≤ 18 := by
    have := sizeF_cases hs
    omega
  have hm0 : ¬ ((m : Int) < 0) := by omega
  have hsh : (l.length : Int) < (k : Int) + (m : Int) + 5 := by omega
  have cK := hb k _ hg
  have HS := hideIt (show ∀ W, Calls Tryz.prog 153 #[.int .u8 kind] W (fun e w' => e = .returned (.int .i64 (m : Nat)) ∧ W = w') from fun W => by have := rsize_any kind W; unfold sizeZ at this; rw [hs] at this; exact this)
  clear hb hg hs
  go_enter Tryz.func118, Tryz.ntmps118
  go_wp2_with fail
  refine (HS.out _).mono ?_
  rintro e w1 ⟨rfl, hw⟩
  obtain rfl := hw
  go_wp2
  go_ret2
  exact ⟨_, rfl, Mod.refl _ _⟩

def RBodyPost (g off m c : Nat) (b : Bool) (w : World) (e : Ending) (w' : World) : Prop := e = .returned (.tuple #[.slice (some ⟨g, off, none⟩) m c, .bool b]) ∧ Mod [] w w'

set_option maxRecDepth 100000 in
set_option maxHeartbeats 1000000 in
theorem rbody_whole {w : World} {g off c : Nat} {l : List Int} (hb : BytesAt w g off l) (hB : ByteL l) (hl : l.length ≤ 1000000000000) (hc : l.length ≤ c) (hc2 : c ≤ maxLen) {k m : Nat} {kind : Int} (hg : l[k]? = some kind) (hs : sizeF kind = some m) (hm : k + m + 5 ≤ l.length) {last : Int} (hla : LastOk last (l.take k)) :
    Calls Tryz.prog 118 #[.slice (some ⟨g, off, none⟩) l.length c, .int .i64 k, .int .i64 last] w (RBodyPost g (off + (k + 1)) m (c - (k + 1)) (decide (recF (l.take k) kind ((l.drop (k + 1)).take m) = (l.drop k).take (m + 5))) w) := by
  have hk : k < l.length := (List.getElem?_eq_some_iff.1 hg).1
  have hk' : ¬ ((l.length : Int) ≤ (k : Int)) := by omega
  have hm18 : m ≤ 18 := by
    have := sizeF_cases hs
    omega
  have hm0 : ¬ ((m : Int) < 0) := by omega
  have hsh : ¬ ((l.length : Int) < (k : Int) + (m : Int) + 5) := by omega
  have hc2' : c ≤ 9223372036854775807 := by unfold maxLen at hc2; omega
  have hkB := hB kind (List.mem_of_getElem? hg)
  have cK := hb k _ hg
  have HS := hideIt (show ∀ W, Calls Tryz.prog 153 #[.int .u8 kind] W (fun e w' => e = .returned (.int .i64 (m : Nat)) ∧ W = w') from fun W => by have := rsize_any kind W; unfold sizeZ at this; rw [hs] at this; exact this)
  have hbl : ((l.drop (k + 1)).take m).length = m := by rw [List.length_take, List.length_drop]; omega
  have hxl : ((l.drop k).take (m + 5)).length = m + 5 := by rw [List.length_take, List.length_drop]; omega
  have HREC := hideIt (show ∀ W, Mod [] w W → Calls Tryz.prog 116 #[.int .i64 last, .int .u8 kind, .slice (some ⟨g, off + (k + 1), none⟩) m (c - (k + 1))] W (RecPost (recF (l.take k) kind ((l.drop (k + 1)).take m)) m W) from fun W hW => by
    refine Record_any last kind (l.take k) _ m _ W hla.1 hla.2 hkB (by omega) ⟨by rw [u8s_length, hbl, Nat.mul_one], u8s_one _, .inr ⟨_, _, rfl, fun j u hu => ?_⟩⟩ ((hB.drop _).take _)
    have hj : j < ((l.drop (k + 1)).take m).length := by
      have := (List.getElem?_eq_some_iff.1 hu).1
      rw [u8s_length] at this
      exact this
    have hj2 := u8s_get (List.getElem?_eq_getElem hj)
    rw [hu] at hj2
    cases hj2
    have := ((hb.keep hW).drop (k + 1)).take m j _ (List.getElem?_eq_getElem hj)
    have e : (⟨g, off + (k + 1), none⟩ : Addr).add j = ⟨g, off + (k + 1) + j, none⟩ := by unfold Addr.add; split <;> simp_all
    rw [e]
    exact this)
  have HSTR := hideIt (show ∀ W, Mod [] w W → (convert 56 9 (.slice (some ⟨g, off + k, none⟩) (m + 5) (c - k))).run Tryz.prog W = .ok (.string (strOfNums ((l.drop k).take (m + 5)))) W from fun W hW => (((hb.keep hW).drop k).take (m + 5)).str hxl _)
  have HINJ := hideIt (show (strOfNums (recF (l.take k) kind ((l.drop (k + 1)).take m))).toList = (strOfNums ((l.drop k).take (m + 5))).toList → recF (l.take k) kind ((l.drop (k + 1)).take m) = (l.drop k).take (m + 5) from strOfNums_inj (recF_byte hkB _ ((hB.drop _).take _)) ((hB.drop _).take _))
  have HRL := hideIt (show (recF (l.take k) kind ((l.drop (k + 1)).take m)).length = m + 5 by rw [recF_length, hbl])
  generalize recF (l.take k) kind ((l.drop (k + 1)).take m) = R at *
  generalize (l.drop k).take (m + 5) = X at *
  clear hb hg hs hB hbl hxl hla
  go_enter Tryz.func118, Tryz.ntmps118
  go_wp2_with fail
  refine (HS.out _).mono ?_
  rintro e w1 ⟨rfl, hw⟩
  obtain rfl := hw
  go_wp2_with fail
  refine (HREC.out _ (Mod.refl _ _)).mono ?_
  rintro e w2 ⟨g2, c2, rfl, o2, m2⟩
  have HM2 := hideIt m2
  have hsub : k + 1 + m - (k + 1) = m := by omega
  have hsub2 : k + m + 5 - k = m + 5 := by omega
  have s1 := (BytesAt.of_owns o2).str HRL.out c2
  have s2 := HSTR.out w2 m2
  have s3 := (BytesAt.of_owns (owns_kept o2 (Mod.drew (F := []) _) (by simp))).str HRL.out c2
  have s4 := HSTR.out w2.drew (m2.trans (Mod.drew _))
  have s5 := fun W (hm : Mod [] w2 W) => by have := HSTR.out W (m2.trans hm); rw [← hsub2] at this; exact this
  have s6 := s5 w2.drew (Mod.drew _)
  have hw1 : IntKind.i64.wrap ((k : Int) + (m : Int)) = (k : Int) + (m : Int) := by rw [IntKind.wrap_i64]; omega
  have hw2 : IntKind.i64.wrap ((k : Int) + (m : Int) + 5) = (k : Int) + (m : Int) + 5 := by rw [IntKind.wrap_i64]; omega
  have hkc : ¬ (c = k) := by omega
  clear s5
  clear o2 m2 HREC HSTR HS
  by_cases hRX : R = X
  · subst hRX
    have HP := hideIt (show ∀ W, Mod [] w2 W → RBodyPost g (off + (k + 1)) m (c - (k + 1)) (decide (R = R)) w (.returned (.tuple #[.slice (some ⟨g, off + (k + 1), none⟩) m (c - (k + 1)), .bool true])) W from fun W hm => ⟨by simp, HM2.out.trans hm⟩)
    go_wp2_with fail
    go_region
    all_goals
      go_wp2
      go_ret2
      exact HP.out _ (Mod.drew _)
  · have hne : ((strOfNums R).toList == (strOfNums X).toList) = false := beq_eq_false_iff_ne.2 (fun h => hRX (HINJ.out h))
    have HP := hideIt (show ∀ W, Mod [] w2 W → RBodyPost g (off + (k + 1)) m (c - (k + 1)) (decide (R = X)) w (.returned (.tuple #[.slice (some ⟨g, off + (k + 1), none⟩) m (c - (k + 1)), .bool false])) W from fun W hm => ⟨by rw [decide_eq_false hRX], HM2.out.trans hm⟩)
    go_wp2_with fail
    go_region
    all_goals
      go_wp2
      go_ret2
      exact HP.out _ (Mod.drew _)

end Go.Proofs.YthimaoipogocfaaGreat
