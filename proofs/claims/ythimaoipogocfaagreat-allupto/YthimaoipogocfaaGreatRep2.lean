import Derived.Test.YthimaoipogocfaaGreatM06
namespace Go.Proofs.YthimaoipogocfaaGreat
open Go.RowKit Go.Maps
attribute [local go_sem] run_store_f32 run_neg_inf

set_option maxRecDepth 100000 in
set_option maxHeartbeats 1000000 in
theorem redo_move_t {w : World} {q fan : Nat} {s : St} {F : List Nat} (h : HAt w q fan s F) (hl : s.lg.length ≤ 10000000000) (hk : s.L.length ≤ 1000) {fn id x0 y0 x1 y1 : Int} (hth : hasT s.L id = true) :
    Calls Tryz.prog 49 #[.pointer (some ⟨q, 0, none⟩), .agg #[.int .u8 77, .int .i64 fn, .int .i64 id, .int .i64 x0, .int .i64 y0, .int .i64 x1, .int .i64 y1]] w (RedoPost q fan s ⟨77, fn, id, x0, y0, x1, y1⟩ F w) := by
  have hm0 := Mod.alloc (F := []) w (rcO ⟨77, fn, id, x0, y0, x1, y1⟩)
  have HH := hideIt (show ∀ W, Mod [] w W → Calls Tryz.prog 33 #[.pointer (some ⟨q, 0, none⟩), .int .i64 id] W (HasPost true W) from fun W hm => by have := hasS h id W hm; rw [hth] at this; exact this)
  have HZ := hideIt (show ∀ W, Mod [] (w.alloc (rcO ⟨77, fn, id, x0, y0, x1, y1⟩)) W → W.heap[w.heap.size]? = some (rcO ⟨77, fn, id, x0, y0, x1, y1⟩) from fun W hm => (hm.block _ (by simp) (by simp)).trans (heap_alloc_new w _))
  have HP := hideIt (fun W (hm : Mod [] w W) => hPutS (h.kept hm (by simp)) hl hk id x0 y0 x1 y1)
  have HYES := hideIt (show ∀ W w2 s' F' (c : Int), Mod [] w W → HAt w2 q fan s' F' → ((c = 0 ∧ okT s.L ⟨id, x0, y0, x1, y1⟩ ∧ s' = stPut s ⟨id, x0, y0, x1, y1⟩) ∨ (c ≠ 0 ∧ ¬ okT s.L ⟨id, x0, y0, x1, y1⟩ ∧ s' = s)) → (∀ x ∈ F', x ∈ F ∨ W.heap.size ≤ x) → Mod F W w2 → RedoPost q fan s ⟨77, fn, id, x0, y0, x1, y1⟩ F w (.returned (.bool (c == 0))) w2 from fun W w2 s' F' c hm k1 k2 k3 k4 => redoPut (r := ⟨77, fn, id, x0, y0, x1, y1⟩) (.inl ⟨rfl, hth⟩) hm k1 k2 k3 k4)
  have HM0 := hideIt hm0
  obtain ⟨r0, r1, r2, r3, r4, r5, r6⟩ := cell_rcO (heap_alloc_new w (rcO ⟨77, fn, id, x0, y0, x1, y1⟩))
  simp only at r0 r1 r2 r3 r4 r5 r6
  clear h hm0 hth hl hk
  go_enter Tryz.func49, Tryz.ntmps49
  go_wp2_with fail
  refine (HH.out _ HM0.out).mono ?_
  rintro e w1 ⟨rfl, hm1⟩
  clear r0 r1 r2 r3 r4 r5 r6
  obtain ⟨r0, r1, r2, r3, r4, r5, r6⟩ := cell_rcO (HZ.out w1 hm1)
  simp only at r0 r1 r2 r3 r4 r5 r6
  have HM1 := hideIt (HM0.out.trans hm1)
  clear hm1 HZ HH
  go_wp2_with fail
  refine (HP.out _ HM1.out).mono ?_
  rintro e w2 ⟨c, s', F', rfl, k1, k2, k3, k4⟩
  have HF := hideIt (HYES.out _ _ _ _ _ HM1.out k1 k2 k3 k4)
  clear k1 k2 k3 k4 HYES HP
  go_wp2
  go_ret
  exact HF.out

set_option maxRecDepth 100000 in
set_option maxHeartbeats 1000000 in
theorem redo_move_f {w : World} {q fan : Nat} {s : St} {F : List Nat} (h : HAt w q fan s F) {fn id x0 y0 x1 y1 : Int} (hth : hasT s.L id = false) :
    Calls Tryz.prog 49 #[.pointer (some ⟨q, 0, none⟩), .agg #[.int .u8 77, .int .i64 fn, .int .i64 id, .int .i64 x0, .int .i64 y0, .int .i64 x1, .int .i64 y1]] w (RedoPost q fan s ⟨77, fn, id, x0, y0, x1, y1⟩ F w) := by
  have hm0 := Mod.alloc (F := []) w (rcO ⟨77, fn, id, x0, y0, x1, y1⟩)
  have HH := hideIt (show ∀ W, Mod [] w W → Calls Tryz.prog 33 #[.pointer (some ⟨q, 0, none⟩), .int .i64 id] W (HasPost false W) from fun W hm => by have := hasS h id W hm; rw [hth] at this; exact this)
  have HZ := hideIt (show ∀ W, Mod [] (w.alloc (rcO ⟨77, fn, id, x0, y0, x1, y1⟩)) W → W.heap[w.heap.size]? = some (rcO ⟨77, fn, id, x0, y0, x1, y1⟩) from fun W hm => (hm.block _ (by simp) (by simp)).trans (heap_alloc_new w _))
  have HNO := hideIt (show ∀ W, Mod [] w W → RedoPost q fan s ⟨77, fn, id, x0, y0, x1, y1⟩ F w (.returned (.bool false)) W from fun W hm => redoNo h (fun s'' hd => by
    cases hd with
    | put hk2 _ =>
      simp only at hk2
      rw [hth] at hk2
      simp at hk2
    | drop hk2 _ => simp only at hk2; omega) hm)
  have HM0 := hideIt hm0
  obtain ⟨r0, r1, r2, r3, r4, r5, r6⟩ := cell_rcO (heap_alloc_new w (rcO ⟨77, fn, id, x0, y0, x1, y1⟩))
  simp only at r0 r1 r2 r3 r4 r5 r6
  clear h hm0 hth
  go_enter Tryz.func49, Tryz.ntmps49
  go_wp2_with fail
  refine (HH.out _ HM0.out).mono ?_
  rintro e w1 ⟨rfl, hm1⟩
  clear r0 r1 r2 r3 r4 r5 r6
  obtain ⟨r0, r1, r2, r3, r4, r5, r6⟩ := cell_rcO (HZ.out w1 hm1)
  simp only at r0 r1 r2 r3 r4 r5 r6
  have HM1 := hideIt (HM0.out.trans hm1)
  clear hm1 HZ HH
  go_wp2
  go_ret
  exact HNO.out _ HM1.out

set_option maxRecDepth 100000 in
set_option maxHeartbeats 1000000 in
theorem redo_put_f {w : World} {q fan : Nat} {s : St} {F : List Nat} (h : HAt w q fan s F) (hl : s.lg.length ≤ 10000000000) (hk : s.L.length ≤ 1000) {fn id x0 y0 x1 y1 : Int} (hth : hasT s.L id = false) :
    Calls Tryz.prog 49 #[.pointer (some ⟨q, 0, none⟩), .agg #[.int .u8 80, .int .i64 fn, .int .i64 id, .int .i64 x0, .int .i64 y0, .int .i64 x1, .int .i64 y1]] w (RedoPost q fan s ⟨80, fn, id, x0, y0, x1, y1⟩ F w) := by
  have hm0 := Mod.alloc (F := []) w (rcO ⟨80, fn, id, x0, y0, x1, y1⟩)
  have HH := hideIt (show ∀ W, Mod [] w W → Calls Tryz.prog 33 #[.pointer (some ⟨q, 0, none⟩), .int .i64 id] W (HasPost false W) from fun W hm => by have := hasS h id W hm; rw [hth] at this; exact this)
  have HZ := hideIt (show ∀ W, Mod [] (w.alloc (rcO ⟨80, fn, id, x0, y0, x1, y1⟩)) W → W.heap[w.heap.size]? = some (rcO ⟨80, fn, id, x0, y0, x1, y1⟩) from fun W hm => (hm.block _ (by simp) (by simp)).trans (heap_alloc_new w _))
  have HP := hideIt (fun W (hm : Mod [] w W) => hPutS (h.kept hm (by simp)) hl hk id x0 y0 x1 y1)
  have HYES := hideIt (show ∀ W w2 s' F' (c : Int), Mod [] w W → HAt w2 q fan s' F' → ((c = 0 ∧ okT s.L ⟨id, x0, y0, x1, y1⟩ ∧ s' = stPut s ⟨id, x0, y0, x1, y1⟩) ∨ (c ≠ 0 ∧ ¬ okT s.L ⟨id, x0, y0, x1, y1⟩ ∧ s' = s)) → (∀ x ∈ F', x ∈ F ∨ W.heap.size ≤ x) → Mod F W w2 → RedoPost q fan s ⟨80, fn, id, x0, y0, x1, y1⟩ F w (.returned (.bool (c == 0))) w2 from fun W w2 s' F' c hm k1 k2 k3 k4 => redoPut (r := ⟨80, fn, id, x0, y0, x1, y1⟩) (.inr ⟨rfl, hth⟩) hm k1 k2 k3 k4)
  have HM0 := hideIt hm0
  obtain ⟨r0, r1, r2, r3, r4, r5, r6⟩ := cell_rcO (heap_alloc_new w (rcO ⟨80, fn, id, x0, y0, x1, y1⟩))
  simp only at r0 r1 r2 r3 r4 r5 r6
  clear h hm0 hth hl hk
  go_enter Tryz.func49, Tryz.ntmps49
  go_wp2_with fail
  refine (HH.out _ HM0.out).mono ?_
  rintro e w1 ⟨rfl, hm1⟩
  clear r0 r1 r2 r3 r4 r5 r6
  obtain ⟨r0, r1, r2, r3, r4, r5, r6⟩ := cell_rcO (HZ.out w1 hm1)
  simp only at r0 r1 r2 r3 r4 r5 r6
  have HM1 := hideIt (HM0.out.trans hm1)
  clear hm1 HZ HH
  go_wp2_with fail
  refine (HP.out _ HM1.out).mono ?_
  rintro e w2 ⟨c, s', F', rfl, k1, k2, k3, k4⟩
  have HF := hideIt (HYES.out _ _ _ _ _ HM1.out k1 k2 k3 k4)
  clear k1 k2 k3 k4 HYES HP
  go_wp2
  go_ret
  exact HF.out

set_option maxRecDepth 100000 in
set_option maxHeartbeats 1000000 in
theorem redo_put_t {w : World} {q fan : Nat} {s : St} {F : List Nat} (h : HAt w q fan s F) {fn id x0 y0 x1 y1 : Int} (hth : hasT s.L id = true) :
    Calls Tryz.prog 49 #[.pointer (some ⟨q, 0, none⟩), .agg #[.int .u8 80, .int .i64 fn, .int .i64 id, .int .i64 x0, .int .i64 y0, .int .i64 x1, .int .i64 y1]] w (RedoPost q fan s ⟨80, fn, id, x0, y0, x1, y1⟩ F w) := by
  have hm0 := Mod.alloc (F := []) w (rcO ⟨80, fn, id, x0, y0, x1, y1⟩)
  have HH := hideIt (show ∀ W, Mod [] w W → Calls Tryz.prog 33 #[.pointer (some ⟨q, 0, none⟩), .int .i64 id] W (HasPost true W) from fun W hm => by have := hasS h id W hm; rw [hth] at this; exact this)
  have HZ := hideIt (show ∀ W, Mod [] (w.alloc (rcO ⟨80, fn, id, x0, y0, x1, y1⟩)) W → W.heap[w.heap.size]? = some (rcO ⟨80, fn, id, x0, y0, x1, y1⟩) from fun W hm => (hm.block _ (by simp) (by simp)).trans (heap_alloc_new w _))
  have HNO := hideIt (show ∀ W, Mod [] w W → RedoPost q fan s ⟨80, fn, id, x0, y0, x1, y1⟩ F w (.returned (.bool false)) W from fun W hm => redoNo h (fun s'' hd => by
    cases hd with
    | put hk2 _ =>
      simp only at hk2
      rw [hth] at hk2
      simp at hk2
    | drop hk2 _ => simp only at hk2; omega) hm)
  have HM0 := hideIt hm0
  obtain ⟨r0, r1, r2, r3, r4, r5, r6⟩ := cell_rcO (heap_alloc_new w (rcO ⟨80, fn, id, x0, y0, x1, y1⟩))
  simp only at r0 r1 r2 r3 r4 r5 r6
  clear h hm0 hth
  go_enter Tryz.func49, Tryz.ntmps49
  go_wp2_with fail
  refine (HH.out _ HM0.out).mono ?_
  rintro e w1 ⟨rfl, hm1⟩
  clear r0 r1 r2 r3 r4 r5 r6
  obtain ⟨r0, r1, r2, r3, r4, r5, r6⟩ := cell_rcO (HZ.out w1 hm1)
  simp only at r0 r1 r2 r3 r4 r5 r6
  have HM1 := hideIt (HM0.out.trans hm1)
  clear hm1 HZ HH
  go_wp2
  go_ret
  exact HNO.out _ HM1.out


/-- REDO, whatever the record -/
theorem redo_any {w : World} {q fan : Nat} {s : St} {F : List Nat} (h : HAt w q fan s F) (hl : s.lg.length ≤ 10000000000) (hk : s.L.length ≤ 1000) {r : Rc} (hr : RcOk r) (h72 : r.kind ≠ 72) :
    Calls Tryz.prog 49 #[.pointer (some ⟨q, 0, none⟩), r.val] w (RedoPost q fan s r F w) := by
  rcases hr.kind with ⟨e, _⟩ | ⟨e, _⟩ | ⟨e, _⟩
  · exact absurd e h72
  · exact redo_drop h hl e
  · obtain ⟨kind, fn, id, x0, y0, x1, y1⟩ := r
    simp only at e
    rcases e with rfl | rfl
    · cases hth : hasT s.L id with
      | true => exact redo_put_t h hth
      | false => exact redo_put_f h hl hk hth
    · cases hth : hasT s.L id with
      | true => exact redo_move_t h hl hk hth
      | false => exact redo_move_f h hth

end Go.Proofs.YthimaoipogocfaaGreat
