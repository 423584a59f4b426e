import Derived.Test.YtideopmkmobicaaRefGet
import Derived.Maps.OwnSet
namespace Go.Proofs.Ytideopmkmobicaa
open Go.RowKit Go.Maps

/-- the program's tree, as its block holds it -/
abbrev T69 (bm : Nat) : Obj := .cells #[.map (some bm)] 69 (0, 0)

def thVal (t : Th) : Value := R4 t.x0 t.y0 t.x1 t.y1
def th0 : Th := ⟨0, 0, 0, 0, 0⟩
def thKV (t : Th) : Value × Value := (.int .i64 t.id, thVal t)
def entKV (e : MapEntry) : Value × Value := (e.key, e.val)

/-- the map's entries are the things, in their order -/
def Ents (es : List MapEntry) (L : List Th) : Prop := es.map entKV = L.map thKV

theorem Ents.length {es : List MapEntry} {L : List Th} (h : Ents es L) : es.length = L.length := by
  have := congrArg List.length h
  simpa using this

theorem Ents.cons {e : MapEntry} {es : List MapEntry} {t : Th} {L : List Th} (h : Ents (e :: es) (t :: L)) : e.key = .int .i64 t.id ∧ e.val = thVal t ∧ Ents es L := by
  simp only [Ents, List.map_cons, List.cons.injEq] at h
  exact ⟨congrArg Prod.fst h.1, congrArg Prod.snd h.1, h.2⟩

theorem Ents.find : ∀ (es : List MapEntry) (L : List Th) (id : Int) (i : Nat), Ents es L → Instr.findNow (.int .i64) (.int .i64 id) es i = some ((findT L id).map fun n => (i + n, thVal (L.getD n th0)))
  | [], [], id, i, _ => rfl
  | [], t :: L, id, i, h => by have := h.length; simp at this
  | e :: es, [], id, i, h => by have := h.length; simp at this
  | e :: es, t :: L, id, i, h => by
    obtain ⟨h1, h2, h3⟩ := h.cons
    have ih := Ents.find es L id (i + 1) h3
    have hc : findT (t :: L) id = if t.id = id then some 0 else (findT L id).map (· + 1) := by
      simp [findT, List.findIdx?_cons]
    have hs : Instr.sameNow (.int .i64) (.int .i64 id) e.key = some (id == t.id) := by
      rw [h1]
      simp [Instr.sameNow]
    rw [hc]
    unfold Instr.findNow
    rw [hs]
    by_cases hid : t.id = id
    · subst hid
      simp [h2]
    · have hne : (id == t.id) = false := by simp; exact fun e => hid e.symm
      rw [hne]
      simp only [ih, if_neg hid]
      cases findT L id with
      | none => rfl
      | some n =>
        simp
        omega

theorem Ents.get {es : List MapEntry} {L : List Th} (h : Ents es L) {n : Nat} {t : Th} (ht : L[n]? = some t) : ∃ e, es[n]? = some e ∧ e.key = .int .i64 t.id ∧ e.val = thVal t := by
  induction es generalizing L n with
  | nil =>
    have := h.length
    simp at this
    obtain rfl := List.eq_nil_of_length_eq_zero this.symm
    simp at ht
  | cons e es ih =>
    cases L with
    | nil => simp at ht
    | cons s L =>
      obtain ⟨h1, h2, h3⟩ := h.cons
      cases n with
      | zero => simp at ht; subst ht; exact ⟨e, rfl, h1, h2⟩
      | succ n => simp at ht; simpa using ih h3 ht

theorem Ents.push {es : Array MapEntry} {L : List Th} (h : Ents es.toList L) (t : Th) (b : Nat) : Ents (es.push ⟨.int .i64 t.id, thVal t, b⟩).toList (L ++ [t]) := by
  simp only [Ents, Array.toList_push, List.map_append] at h ⊢
  rw [h]
  rfl

theorem Ents.erase {es : Array MapEntry} {L : List Th} (h : Ents es.toList L) (n : Nat) : Ents (es.eraseIdxIfInBounds n).toList (L.eraseIdx n) := by
  simp only [Ents] at h ⊢
  have e : ∀ {A : Type} (f : A → Value × Value) (l : List A), (l.eraseIdx n).map f = (l.map f).eraseIdx n := fun f l => by
    rw [List.eraseIdx_eq_take_drop_succ, List.eraseIdx_eq_take_drop_succ, List.map_append, List.map_take, List.map_drop]
  rw [Array.toList_eraseIdxIfInBounds, e, e, h]

theorem Ents.modify {es : Array MapEntry} {L : List Th} (h : Ents es.toList L) (n : Nat) (t : Th) : Ents (es.modify n fun e => { e with key := .int .i64 t.id, val := thVal t }).toList (L.set n t) := by
  simp only [Ents] at h ⊢
  rw [Array.toList_modify]
  apply List.ext_getElem?
  intro i
  have hi : (es.toList.map entKV)[i]? = (L.map thKV)[i]? := by rw [h]
  simp only [List.getElem?_map, List.getElem?_modify, List.getElem?_set] at hi ⊢
  by_cases hni : n = i
  · subst hni
    simp only [if_true]
    cases he : es.toList[n]? with
    | none =>
      rw [he] at hi
      have : L[n]? = none := by cases hL : L[n]? <;> simp_all
      have : ¬ n < L.length := by simpa using this
      simp [this]
    | some e =>
      have hlt : n < L.length := by
        have h1 := (List.getElem?_eq_some_iff.1 he).1
        have h2 := congrArg List.length h
        simp at h2 h1
        omega
      simp [hlt, entKV, thKV]
  · simp only [if_neg hni]
    simpa using hi

/-- THE PROGRAM's TREE IN MEMORY. -/
def CodeRep (w : World) (px : Nat) (L : List Th) (F : List Nat) : Prop :=
  ∃ bm es clock, w.heap[px]? = some (T69 bm) ∧ w.heap[bm]? = some (.map es clock) ∧ Ents es.toList L ∧ F = [px, bm]

theorem CodeRep.kept {w w' : World} {px : Nat} {L : List Th} {F G : List Nat} (h : CodeRep w px L F) (hm : Mod G w w') (hd : ∀ x ∈ F, x ∉ G) : CodeRep w' px L F := by
  obtain ⟨bm, es, clock, h1, h2, h3, rfl⟩ := h
  exact ⟨bm, es, clock, (hm.block px (lt_of_block h1) (hd _ (by simp))).trans h1, (hm.block bm (lt_of_block h2) (hd _ (by simp))).trans h2, h3, rfl⟩

theorem CodeRep.lt {w : World} {px : Nat} {L : List Th} {F : List Nat} (h : CodeRep w px L F) : ∀ x ∈ F, x < w.heap.size := by
  obtain ⟨bm, es, clock, h1, h2, h3, rfl⟩ := h
  intro x hx
  simp at hx
  rcases hx with rfl | rfl
  · exact lt_of_block h1
  · exact lt_of_block h2

/-! ### what the map's operations do -/
theorem law3 : Keyed Try.prog 3 := int_keyed Try.underlying3

section
variable {w : World} {bm : Nat} {es : Array MapEntry} {clock : Nat} {L : List Th}

theorem run_check (w : World) (em : Bool) (id : Int) : (Instr.checkKey em 10000 3 (.int .i64 id)).run Try.prog w = .ok () w :=
  MapKept.run_checkKey Try.underlying3 (by simp [MapKept.IsKey]) em 9999

theorem run_find (he : Ents es.toList L) (w : World) (id : Int) : (Instr.findKey 3 (.int .i64 id) es.toList).run Try.prog w = .ok ((findT L id).map fun n => (n, thVal (L.getD n th0))) w := by
  have h := Ents.find es.toList L id 0 he
  simp only [Nat.zero_add] at h
  simp [Instr.findKey, run_underlying Try.underlying3, h]

theorem run_look (hb : w.heap[bm]? = some (.map es clock)) (he : Ents es.toList L) (id : Int) :
    (Instr.lookup 67 (.map (some bm)) (.int .i64 id) true).run Try.prog w = .ok (.tuple #[R4 (getF L id).1.x0 (getF L id).1.y0 (getF L id).1.x1 (getF L id).1.y1, .bool (findT L id).isSome]) w := by
  cases hf : findT L id with
  | none => simp [Instr.lookup, run_underlying Try.underlying67, MapKept.run_getObj_map hb, run_check, run_find he, hf, Result.andThen, getF]
  | some n => simp [Instr.lookup, run_underlying Try.underlying67, MapKept.run_getObj_map hb, run_check, run_find he, hf, Result.andThen, getF, thVal, th0]

theorem run_len (hb : w.heap[bm]? = some (.map es clock)) (he : Ents es.toList L) (ty : TypeId) : (Builtin.len_ #[67] ty #[.map (some bm)]).run Try.prog w = .ok (.int .i64 L.length) w := by
  have := he.length
  simp [Builtin.len_, run_underlying Try.underlying67, MapKept.run_getObj_map hb, goInt, Result.andThen]
  have h : es.size = L.length := by simpa using this
  omega

theorem run_put_new (hb : w.heap[bm]? = some (.map es clock)) (he : Ents es.toList L) (t : Th) (hf : findT L t.id = none) :
    (Instr.mapUpdate 67 (.map (some bm)) (.int .i64 t.id) (thVal t)).run Try.prog w = .ok () (ChangeMaps.setBlock w bm (.map (es.push ⟨.int .i64 t.id, thVal t, clock⟩) (clock + 1))) := by
  simp [Instr.mapUpdate, run_underlying Try.underlying67, MapKept.run_getObj_map hb, run_check, run_find he, hf, MapKept.run_setObj_map _ hb, Result.andThen, ChangeMaps.setBlock]

theorem run_put_old (hb : w.heap[bm]? = some (.map es clock)) (he : Ents es.toList L) (t : Th) (n : Nat) (hf : findT L t.id = some n) :
    (Instr.mapUpdate 67 (.map (some bm)) (.int .i64 t.id) (thVal t)).run Try.prog w = .ok () (ChangeMaps.setBlock w bm (.map (es.modify n fun e => { e with key := .int .i64 t.id, val := thVal t }) clock)) := by
  obtain ⟨s, hs, hid⟩ := find_get hf
  obtain ⟨e, hen, hek, _⟩ := he.get hs
  have hk : (es[n]?.map (·.key)).getD (.int .i64 t.id) = .int .i64 t.id := by
    have : es[n]? = some e := by simpa using hen
    rw [this]
    simp [hek, hid]
  have hst : (Instr.keyThatStays (.int .i64 t.id) (.int .i64 t.id)).run Try.prog w = .ok (.int .i64 t.id) w := by
    simp [Instr.keyThatStays, Instr.sameBits]
  simp [Instr.mapUpdate, run_underlying Try.underlying67, MapKept.run_getObj_map hb, run_check, run_find he, hf, MapKept.run_setObj_map _ hb, Result.andThen, ChangeMaps.setBlock, hk, hst]

theorem run_drop (hb : w.heap[bm]? = some (.map es clock)) (he : Ents es.toList L) (id : Int) (n : Nat) (hf : findT L id = some n) (ty : TypeId) :
    (Builtin.delete_ #[67, 3] ty #[.map (some bm), .int .i64 id]).run Try.prog w = .ok (.tuple #[]) (ChangeMaps.setBlock w bm (.map (es.eraseIdxIfInBounds n) clock)) := by
  simp [Builtin.delete_, run_underlying Try.underlying67, MapKept.run_getObj_map hb, run_check, run_find he, hf, MapKept.run_setObj_map _ hb, Result.andThen, ChangeMaps.setBlock]
end

end Go.Proofs.Ytideopmkmobicaa
