import Derived.Test.YthimaoipogocfaaGreatGRdone
namespace Go.Proofs.YthimaoipogocfaaGreat
open Go.RowKit Go.Maps
attribute [local go_sem] run_store_f32 run_neg_inf

/-- bytes read: the order is drawn, once -/
def DrawPost (z : Int) (w : World) (e : Ending) (w' : World) : Prop := e = .returned (.int .i64 z) ∧ w' = w.drew

set_option maxHeartbeats 400000 in
theorem value_sgn (g off c : Nat) (x0 x1 x2 x3 : Int) (w : World) (hB : ByteL [x0, x1, x2, x3]) (h0 : w.cell? ⟨g, off, none⟩ = some (.int .u8 x0)) (h1 : w.cell? ⟨g, off + 1, none⟩ = some (.int .u8 x1)) (h2 : w.cell? ⟨g, off + 2, none⟩ = some (.int .u8 x2)) (h3 : w.cell? ⟨g, off + 3, none⟩ = some (.int .u8 x3)) :
    Calls Tryz.prog 117 #[.slice (some ⟨g, off, none⟩) 4 c, .bool true] w (DrawPost (sgn32 (valB [x0, x1, x2, x3])) w) := by
  obtain ⟨a0, b0⟩ := hB x0 (by simp)
  obtain ⟨a1, b1⟩ := hB x1 (by simp)
  obtain ⟨a2, b2⟩ := hB x2 (by simp)
  obtain ⟨a3, b3⟩ := hB x3 (by simp)
  clear hB
  have hv : valB [x0, x1, x2, x3] = x0 + 256 * (x1 + 256 * (x2 + 256 * x3)) := by simp only [valB]; omega
  have w0 : IntKind.i64.wrap x0 = x0 := by rw [IntKind.wrap_i64]; omega
  have w1 : IntKind.i64.wrap x1 = x1 := by rw [IntKind.wrap_i64]; omega
  have w2 : IntKind.i64.wrap x2 = x2 := by rw [IntKind.wrap_i64]; omega
  have w3 : IntKind.i64.wrap x3 = x3 := by rw [IntKind.wrap_i64]; omega
  have w4 : IntKind.i64.wrap (256 * x3) = 256 * x3 := by rw [IntKind.wrap_i64]; omega
  have w5 : IntKind.i64.wrap (x2 + 256 * x3) = x2 + 256 * x3 := by rw [IntKind.wrap_i64]; omega
  have w6 : IntKind.i64.wrap (256 * (x2 + 256 * x3)) = 256 * (x2 + 256 * x3) := by rw [IntKind.wrap_i64]; omega
  have w7 : IntKind.i64.wrap (x1 + 256 * (x2 + 256 * x3)) = x1 + 256 * (x2 + 256 * x3) := by rw [IntKind.wrap_i64]; omega
  have w8 : IntKind.i64.wrap (256 * (x1 + 256 * (x2 + 256 * x3))) = 256 * (x1 + 256 * (x2 + 256 * x3)) := by rw [IntKind.wrap_i64]; omega
  have w9 : IntKind.i64.wrap (x0 + 256 * (x1 + 256 * (x2 + 256 * x3))) = x0 + 256 * (x1 + 256 * (x2 + 256 * x3)) := by rw [IntKind.wrap_i64]; omega
  by_cases hz : 2147483648 ≤ x0 + 256 * (x1 + 256 * (x2 + 256 * x3))
  · have HV := hideIt (show sgn32 (valB [x0, x1, x2, x3]) = x0 + 256 * (x1 + 256 * (x2 + 256 * x3)) - 4294967296 by rw [hv]; unfold sgn32; rw [if_pos hz])
    clear hv
    go_enter Tryz.func117, Tryz.ntmps117
    go_wp2
    refine wp_region_quiet (C := fun w' => w' = w.drew) (by kernel_rfl) (by kernel_rfl) rfl ?_
    repeat (quiet_step (fail))
    refine wpQuiet_nil ?_
    intro _ hw'
    subst hw'
    go_wp2
    go_ret
    exact ⟨by rw [HV.out]; rfl, rfl⟩
  · have HV := hideIt (show sgn32 (valB [x0, x1, x2, x3]) = x0 + 256 * (x1 + 256 * (x2 + 256 * x3)) by rw [hv]; unfold sgn32; rw [if_neg hz])
    clear hv
    go_enter Tryz.func117, Tryz.ntmps117
    go_wp2
    refine wp_region_quiet (C := fun w' => w' = w.drew) (by kernel_rfl) (by kernel_rfl) rfl ?_
    repeat (quiet_step (fail))
    refine wpQuiet_nil ?_
    intro _ hw'
    subst hw'
    go_wp2
    go_ret
    exact ⟨by rw [HV.out]; rfl, rfl⟩

/-- a coordinate of a record's body -/
theorem value_coord {w : World} {g off n c : Nat} {body : List Int} (hb : BytesAt w g off body) (hB : ByteL body) {i : Nat} (h : 2 + i * 4 + 4 ≤ body.length) (hn : n = off + (2 + i * 4)) : Calls Tryz.prog 117 #[.slice (some ⟨g, n, none⟩) 4 c, .bool true] w (DrawPost (coordV (body.drop 2) i) w) := by
  subst hn
  obtain ⟨x0, x1, x2, x3, e0, e1, e2, e3, e4⟩ := four_bytes (i := 2 + i * 4) h
  have ev : coordV (body.drop 2) i = sgn32 (valB [x0, x1, x2, x3]) := by
    unfold coordV
    rw [List.drop_drop, e4]
  rw [ev]
  refine value_sgn g (off + (2 + i * 4)) c x0 x1 x2 x3 w ?_ (hb _ _ e0) (hb _ _ e1) (hb _ _ e2) (hb _ _ e3)
  rw [← e4]
  exact (hB.drop _).take _

set_option maxRecDepth 100000 in
set_option maxHeartbeats 1000000 in
theorem done_drop {w : World} {py : Nat} {fan : Int} {s : St} {L : List Th} {F : List Nat} (h : RefRep w py fan L s.lg F) (m : Match s L) (ok : StOk s) (hnl : s.lg.length ≤ 99999900) (hids : ∀ t ∈ L, 0 ≤ t.id ∧ t.id ≤ 4095) {g off c : Nat} {body : List Int} (hb : BytesAt w g off body) (hB : ByteL body) (hl : body.length = 2) :
    Calls Tryz.prog 119 #[.pointer (some ⟨py, 0, none⟩), .int .u8 68, .slice (some ⟨g, off, none⟩) 2 c] w (DonePost py fan s (parseF 68 body) F w) := by
  obtain ⟨a, b, e0, e1, e2⟩ := two_bytes (body := body) (by omega)
  have ebody : body = [a, b] := by rw [← e2, List.take_of_length_le (by omega)]
  have c0 := hb 0 _ e0
  have c1 := hb 1 _ e1
  obtain ⟨a0, a1⟩ := hB a (List.mem_of_getElem? e0)
  obtain ⟨b0, b1⟩ := hB b (List.mem_of_getElem? e1)
  have hid : (parseF 68 body).id = a + 256 * b := by
    show valB body = _
    rw [ebody, valB_two]
  have HAT := hideIt (fun W (hm : Mod [] w W) => at_any (h.kept hm (by simp)) m.len (a + 256 * b))
  have HD := hideIt (fun W (hm : Mod [] w W) => refDrop_any (h.kept hm (by simp)) m.len hnl hids (a + 256 * b))
  have HDN := hideIt (fun W (hm : Mod [] w W) c w' (k : RefPutPost py fan (dropF L (a + 256 * b)) (dropLT L s.lg (a + 256 * b)) F W (.returned (.int .i64 c)) w') => doneDrop (r := parseF 68 body) hm m ok rfl (by rw [hid]; exact k))
  rw [Nat.add_zero] at c0
  clear h hb hB hid hids
  go_enter Tryz.func119, Tryz.ntmps119
  go_wp2_with fail
  go_quiet (fail)
  have HMD := hideIt (show Mod [] w (w.drewN nq) from Mod.drewN _ nq)
  clear c0 c1
  generalize w.drewN nq = w1 at *
  go_wp2_with fail
  refine (HAT.out _ HMD.out).mono ?_
  rintro e w2 ⟨kk, rfl, hAt, hw⟩
  obtain rfl := hw
  clear HAT hAt
  go_wp2_with fail
  refine (HD.out _ HMD.out).mono ?_
  intro e w3 hp
  have hdp := (HDN.out _ HMD.out (dropF L (a + 256 * b)).1 w3 ⟨rfl, hp.2⟩).2
  have he := hp.1
  subst he
  have HDP := hideIt hdp
  clear hp hdp HD HDN
  generalize (dropF L (a + 256 * b)).1 = cc at *
  go_wp2
  go_ret
  exact HDP.out

end Go.Proofs.YthimaoipogocfaaGreat
