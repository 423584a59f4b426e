/-
  No cell of these rows narrows 'for every input' (looked for: loops, veiled, ifaces, maps, wideKeys, modest, calm, conditions, laid).
  DERIVED. THE GIVEN ROWS OF THIS SEAT. 9 by the template 'for every input the law returns true; each argument reads behind the call as it read before'; 0 by the template 'total and deterministic' (their statements: YthimaoipogocfaaGreatTotals.lean).
  GIVEN WITH THE SEED: the statements are not yours to turn. If you find one false, say at which input.
  Laid BY PROGRAM, IN A SANDBOX (cutbox-rows.mjs): the forced cells as the released guide's own fill.sh prints them over the translation 16915cb25757f9ca… (all of the seat's roots in one cut). By AI agents, Wed Nov 11 2026. No macro, syntax, notation, axiom, sorry.
-/
import Derived.Test.YthimaoipogocfaaGreatChecked
import GoSem.Claim
import GoSem.ClaimJoined
import GoSem.ClaimMapViews
import Derived.JoinedTies
import Derived.KernelRfl
namespace Go.Proofs.YthimaoipogocfaaGreat
/- THE CELL 'sum', in the pinned program and in every row, IS THE sha256 OF THE DUMP (.gsa) THAT YthimaoipogocfaaGreatProg.lean LOADS. Nothing in Lean hashes anything: it is a label: what it is worth is what the hold of that sum in a sandbox is worth. -/
noncomputable def Tryz.pinned : Pinned := { name := "ythimaoipogocfaagreat", sum := "16915cb25757f9ca5297f37fa9c942587872055e278925ed048bca96e8df521f", checked := Tryz.checked }
namespace Rows
def none {H : Type} : Left H := { results := [], args := [] }

/-- 'hedgerowlaw.Things': WHATEVER THE INPUT: true; the input reads as it did. -/
def thingsSpec : ChangeSpec := { name := "things", fn := fun _ => fun
  | [d] => { results := [.lit (.bool true)], args := [d] }
  | _ => none }
def thingsRow : OpenClaim := { program := "ythimaoipogocfaagreat", sum := "16915cb25757f9ca5297f37fa9c942587872055e278925ed048bca96e8df521f", func := "hedgerow/hedgerowlaw.Things", spec := "things", inPlace := ["math.Float64frombits", "math.Float32frombits", "math.Float64bits", "math.Float32bits"], unfollowed := true, recurses := true, apart := false }
def ThingsSaid : Prop := thingsRow.holds Tryz.pinned (OpenSpec.ofChange thingsSpec)

/-- ITS FALSE NEIGHBOUR: 'it returns false'. Refute it at one input. -/
def thingsWrong : ChangeSpec := { name := "things", fn := fun _ => fun
  | [d] => { results := [.lit (.bool false)], args := [d] }
  | _ => none }
def ThingsWrongFalsely : Prop := thingsRow.holds Tryz.pinned (OpenSpec.ofChange thingsWrong)

/-- 'hedgerowlaw.Finds': WHATEVER THE INPUT: true; the input reads as it did. -/
def findsSpec : ChangeSpec := { name := "finds", fn := fun _ => fun
  | [d] => { results := [.lit (.bool true)], args := [d] }
  | _ => none }
def findsRow : OpenClaim := { program := "ythimaoipogocfaagreat", sum := "16915cb25757f9ca5297f37fa9c942587872055e278925ed048bca96e8df521f", func := "hedgerow/hedgerowlaw.Finds", spec := "finds", inPlace := ["math.Float64frombits", "math.Float32frombits", "math.Float64bits", "math.Float32bits"], unfollowed := true, recurses := true, apart := false }
def FindsSaid : Prop := findsRow.holds Tryz.pinned (OpenSpec.ofChange findsSpec)

/-- ITS FALSE NEIGHBOUR: 'it returns false'. Refute it at one input. -/
def findsWrong : ChangeSpec := { name := "finds", fn := fun _ => fun
  | [d] => { results := [.lit (.bool false)], args := [d] }
  | _ => none }
def FindsWrongFalsely : Prop := findsRow.holds Tryz.pinned (OpenSpec.ofChange findsWrong)

/-- 'hedgerowlaw.All': WHATEVER THE INPUT: true; the input reads as it did. -/
def allSpec : ChangeSpec := { name := "all", fn := fun _ => fun
  | [d] => { results := [.lit (.bool true)], args := [d] }
  | _ => none }
def allRow : OpenClaim := { program := "ythimaoipogocfaagreat", sum := "16915cb25757f9ca5297f37fa9c942587872055e278925ed048bca96e8df521f", func := "hedgerow/hedgerowlaw.All", spec := "all", inPlace := ["math.Float64frombits", "math.Float32frombits", "math.Float64bits", "math.Float32bits"], unfollowed := true, recurses := true, apart := false }
def AllSaid : Prop := allRow.holds Tryz.pinned (OpenSpec.ofChange allSpec)

/-- ITS FALSE NEIGHBOUR: 'it returns false'. Refute it at one input. -/
def allWrong : ChangeSpec := { name := "all", fn := fun _ => fun
  | [d] => { results := [.lit (.bool false)], args := [d] }
  | _ => none }
def AllWrongFalsely : Prop := allRow.holds Tryz.pinned (OpenSpec.ofChange allWrong)

/-- 'hedgerowkeep.Known': WHATEVER THE INPUT: true; the input reads as it did. -/
def knownSpec : ChangeSpec := { name := "known", fn := fun _ => fun
  | [d1, d2, d3] => { results := [.lit (.bool true)], args := [d1, d2, d3] }
  | _ => none }
def knownRow : OpenClaim := { program := "ythimaoipogocfaagreat", sum := "16915cb25757f9ca5297f37fa9c942587872055e278925ed048bca96e8df521f", func := "hedgerow/hedgerowkeep.Known", spec := "known", inPlace := ["math.Float64frombits", "math.Float32frombits", "math.Float64bits", "math.Float32bits"], unfollowed := true, recurses := true, apart := false }
def KnownSaid : Prop := knownRow.holds Tryz.pinned (OpenSpec.ofChange knownSpec)

/-- ITS FALSE NEIGHBOUR: 'it returns false'. Refute it at one input. -/
def knownWrong : ChangeSpec := { name := "known", fn := fun _ => fun
  | [d1, d2, d3] => { results := [.lit (.bool false)], args := [d1, d2, d3] }
  | _ => none }
def KnownWrongFalsely : Prop := knownRow.holds Tryz.pinned (OpenSpec.ofChange knownWrong)

/-- 'hedgerowkeep.Halves': WHATEVER THE INPUT: true; the input reads as it did. -/
def halvesSpec : ChangeSpec := { name := "halves", fn := fun _ => fun
  | [d1, d2, d3, d4] => { results := [.lit (.bool true)], args := [d1, d2, d3, d4] }
  | _ => none }
def halvesRow : OpenClaim := { program := "ythimaoipogocfaagreat", sum := "16915cb25757f9ca5297f37fa9c942587872055e278925ed048bca96e8df521f", func := "hedgerow/hedgerowkeep.Halves", spec := "halves", inPlace := ["math.Float64frombits", "math.Float32frombits", "math.Float64bits", "math.Float32bits"], unfollowed := true, recurses := true, apart := false }
def HalvesSaid : Prop := halvesRow.holds Tryz.pinned (OpenSpec.ofChange halvesSpec)

/-- ITS FALSE NEIGHBOUR: 'it returns false'. Refute it at one input. -/
def halvesWrong : ChangeSpec := { name := "halves", fn := fun _ => fun
  | [d1, d2, d3, d4] => { results := [.lit (.bool false)], args := [d1, d2, d3, d4] }
  | _ => none }
def HalvesWrongFalsely : Prop := halvesRow.holds Tryz.pinned (OpenSpec.ofChange halvesWrong)

/-- 'hedgerowkeep.Anyway': WHATEVER THE INPUT: true; the input reads as it did. -/
def anywaySpec : ChangeSpec := { name := "anyway", fn := fun _ => fun
  | [d1, d2, d3, d4] => { results := [.lit (.bool true)], args := [d1, d2, d3, d4] }
  | _ => none }
def anywayRow : OpenClaim := { program := "ythimaoipogocfaagreat", sum := "16915cb25757f9ca5297f37fa9c942587872055e278925ed048bca96e8df521f", func := "hedgerow/hedgerowkeep.Anyway", spec := "anyway", inPlace := ["math.Float64frombits", "math.Float32frombits", "math.Float64bits", "math.Float32bits"], unfollowed := true, recurses := true, apart := false }
def AnywaySaid : Prop := anywayRow.holds Tryz.pinned (OpenSpec.ofChange anywaySpec)

/-- ITS FALSE NEIGHBOUR: 'it returns false'. Refute it at one input. -/
def anywayWrong : ChangeSpec := { name := "anyway", fn := fun _ => fun
  | [d1, d2, d3, d4] => { results := [.lit (.bool false)], args := [d1, d2, d3, d4] }
  | _ => none }
def AnywayWrongFalsely : Prop := anywayRow.holds Tryz.pinned (OpenSpec.ofChange anywayWrong)

/-- 'hedgerowkeep.Near': WHATEVER THE INPUT: true; the input reads as it did. -/
def nearSpec : ChangeSpec := { name := "near", fn := fun _ => fun
  | [d1, d2, d3, d4, d5] => { results := [.lit (.bool true)], args := [d1, d2, d3, d4, d5] }
  | _ => none }
def nearRow : OpenClaim := { program := "ythimaoipogocfaagreat", sum := "16915cb25757f9ca5297f37fa9c942587872055e278925ed048bca96e8df521f", func := "hedgerow/hedgerowkeep.Near", spec := "near", inPlace := ["math.Float64frombits", "math.Float32frombits", "math.Float64bits", "math.Float32bits"], unfollowed := true, recurses := true, apart := false }
def NearSaid : Prop := nearRow.holds Tryz.pinned (OpenSpec.ofChange nearSpec)

/-- ITS FALSE NEIGHBOUR: 'it returns false'. Refute it at one input. -/
def nearWrong : ChangeSpec := { name := "near", fn := fun _ => fun
  | [d1, d2, d3, d4, d5] => { results := [.lit (.bool false)], args := [d1, d2, d3, d4, d5] }
  | _ => none }
def NearWrongFalsely : Prop := nearRow.holds Tryz.pinned (OpenSpec.ofChange nearWrong)

/-- 'hedgerowkeep.Shifted': WHATEVER THE INPUT: true; the input reads as it did. -/
def shiftedSpec : ChangeSpec := { name := "shifted", fn := fun _ => fun
  | [d1, d2, d3, d4, d5] => { results := [.lit (.bool true)], args := [d1, d2, d3, d4, d5] }
  | _ => none }
def shiftedRow : OpenClaim := { program := "ythimaoipogocfaagreat", sum := "16915cb25757f9ca5297f37fa9c942587872055e278925ed048bca96e8df521f", func := "hedgerow/hedgerowkeep.Shifted", spec := "shifted", inPlace := ["math.Float64frombits", "math.Float32frombits", "math.Float64bits", "math.Float32bits"], unfollowed := true, recurses := true, apart := false }
def ShiftedSaid : Prop := shiftedRow.holds Tryz.pinned (OpenSpec.ofChange shiftedSpec)

/-- ITS FALSE NEIGHBOUR: 'it returns false'. Refute it at one input. -/
def shiftedWrong : ChangeSpec := { name := "shifted", fn := fun _ => fun
  | [d1, d2, d3, d4, d5] => { results := [.lit (.bool false)], args := [d1, d2, d3, d4, d5] }
  | _ => none }
def ShiftedWrongFalsely : Prop := shiftedRow.holds Tryz.pinned (OpenSpec.ofChange shiftedWrong)

/-- 'hedgerowkeep.Cut': WHATEVER THE INPUT: true; the input reads as it did. -/
def cutSpec : ChangeSpec := { name := "cut", fn := fun _ => fun
  | [d1, d2, d3, d4, d5] => { results := [.lit (.bool true)], args := [d1, d2, d3, d4, d5] }
  | _ => none }
def cutRow : OpenClaim := { program := "ythimaoipogocfaagreat", sum := "16915cb25757f9ca5297f37fa9c942587872055e278925ed048bca96e8df521f", func := "hedgerow/hedgerowkeep.Cut", spec := "cut", inPlace := ["math.Float64frombits", "math.Float32frombits", "math.Float64bits", "math.Float32bits"], unfollowed := true, recurses := true, apart := false }
def CutSaid : Prop := cutRow.holds Tryz.pinned (OpenSpec.ofChange cutSpec)

/-- ITS FALSE NEIGHBOUR: 'it returns false'. Refute it at one input. -/
def cutWrong : ChangeSpec := { name := "cut", fn := fun _ => fun
  | [d1, d2, d3, d4, d5] => { results := [.lit (.bool false)], args := [d1, d2, d3, d4, d5] }
  | _ => none }
def CutWrongFalsely : Prop := cutRow.holds Tryz.pinned (OpenSpec.ofChange cutWrong)

/- THE SECOND FORM. 'bulk': how many values and letters a reading holds, each counted each time it is reached (what is shared counts as often as it is met; a slice's spare places count too). A statement '..UptoSaid' is the law's where the arguments, and the package variables that the reading takes, are together of bulk at most 1048576: NARROWER than '..Said'. Prove '..Said' where nothing that the law and all that it calls make is longer than what came in: it says more and counts as full. Else prove '..UptoSaid'. A law counts once. -/
mutual
def uptoBulk {H : Type} : DataW H → Nat
  | .lit (.string bytes) => bytes.length + 1
  | .lit _ => 1
  | .nil => 1
  | .ptr d => uptoBulk d + 1
  | .slice elems spare => uptoBulkAll elems + uptoBulkAll spare + 1
  | .agg parts => uptoBulkAll parts + 1
  | .iface _ d => uptoBulk d + 1
  | .map entries => uptoBulkEntries entries + 1
  | .held _ => 1
def uptoBulkAll {H : Type} : List (DataW H) → Nat
  | [] => 0
  | d :: r => uptoBulk d + uptoBulkAll r
def uptoBulkEntries {H : Type} : List (Lit × DataW H) → Nat
  | [] => 0
  | x :: r => uptoBulkEntry x + uptoBulkEntries r
def uptoBulkEntry {H : Type} : Lit × DataW H → Nat
  | (.string bytes, d) => bytes.length + uptoBulk d + 1
  | (_, d) => uptoBulk d + 1
 end
def uptoSmall : (H : Type) → List (DataW H) → Bool := fun _ ds => decide (uptoBulkAll ds ≤ 1048576)
def OpenSpec.upto (s : _root_.Go.ChangeSpec) : _root_.Go.OpenSpec := { _root_.Go.OpenSpec.ofChange s with cond := some uptoSmall }

/-- 'hedgerowlaw.Things', WHERE WHAT IT READS IS OF BULK AT MOST 1048576: true; the input reads as it did. -/
def thingsUptoRow : OpenClaim := { program := "ythimaoipogocfaagreat", sum := "16915cb25757f9ca5297f37fa9c942587872055e278925ed048bca96e8df521f", func := "hedgerow/hedgerowlaw.Things", spec := "things", inPlace := ["math.Float64frombits", "math.Float32frombits", "math.Float64bits", "math.Float32bits"], unfollowed := true, recurses := true, apart := false, narrowed := true }
def ThingsUptoSaid : Prop := thingsUptoRow.holds Tryz.pinned (OpenSpec.upto thingsSpec)

/-- 'hedgerowlaw.Finds', WHERE WHAT IT READS IS OF BULK AT MOST 1048576: true; the input reads as it did. -/
def findsUptoRow : OpenClaim := { program := "ythimaoipogocfaagreat", sum := "16915cb25757f9ca5297f37fa9c942587872055e278925ed048bca96e8df521f", func := "hedgerow/hedgerowlaw.Finds", spec := "finds", inPlace := ["math.Float64frombits", "math.Float32frombits", "math.Float64bits", "math.Float32bits"], unfollowed := true, recurses := true, apart := false, narrowed := true }
def FindsUptoSaid : Prop := findsUptoRow.holds Tryz.pinned (OpenSpec.upto findsSpec)

/-- 'hedgerowlaw.All', WHERE WHAT IT READS IS OF BULK AT MOST 1048576: true; the input reads as it did. -/
def allUptoRow : OpenClaim := { program := "ythimaoipogocfaagreat", sum := "16915cb25757f9ca5297f37fa9c942587872055e278925ed048bca96e8df521f", func := "hedgerow/hedgerowlaw.All", spec := "all", inPlace := ["math.Float64frombits", "math.Float32frombits", "math.Float64bits", "math.Float32bits"], unfollowed := true, recurses := true, apart := false, narrowed := true }
def AllUptoSaid : Prop := allUptoRow.holds Tryz.pinned (OpenSpec.upto allSpec)

/-- 'hedgerowkeep.Known', WHERE WHAT IT READS IS OF BULK AT MOST 1048576: true; the input reads as it did. -/
def knownUptoRow : OpenClaim := { program := "ythimaoipogocfaagreat", sum := "16915cb25757f9ca5297f37fa9c942587872055e278925ed048bca96e8df521f", func := "hedgerow/hedgerowkeep.Known", spec := "known", inPlace := ["math.Float64frombits", "math.Float32frombits", "math.Float64bits", "math.Float32bits"], unfollowed := true, recurses := true, apart := false, narrowed := true }
def KnownUptoSaid : Prop := knownUptoRow.holds Tryz.pinned (OpenSpec.upto knownSpec)

/-- 'hedgerowkeep.Halves', WHERE WHAT IT READS IS OF BULK AT MOST 1048576: true; the input reads as it did. -/
def halvesUptoRow : OpenClaim := { program := "ythimaoipogocfaagreat", sum := "16915cb25757f9ca5297f37fa9c942587872055e278925ed048bca96e8df521f", func := "hedgerow/hedgerowkeep.Halves", spec := "halves", inPlace := ["math.Float64frombits", "math.Float32frombits", "math.Float64bits", "math.Float32bits"], unfollowed := true, recurses := true, apart := false, narrowed := true }
def HalvesUptoSaid : Prop := halvesUptoRow.holds Tryz.pinned (OpenSpec.upto halvesSpec)

/-- 'hedgerowkeep.Anyway', WHERE WHAT IT READS IS OF BULK AT MOST 1048576: true; the input reads as it did. -/
def anywayUptoRow : OpenClaim := { program := "ythimaoipogocfaagreat", sum := "16915cb25757f9ca5297f37fa9c942587872055e278925ed048bca96e8df521f", func := "hedgerow/hedgerowkeep.Anyway", spec := "anyway", inPlace := ["math.Float64frombits", "math.Float32frombits", "math.Float64bits", "math.Float32bits"], unfollowed := true, recurses := true, apart := false, narrowed := true }
def AnywayUptoSaid : Prop := anywayUptoRow.holds Tryz.pinned (OpenSpec.upto anywaySpec)

/-- 'hedgerowkeep.Near', WHERE WHAT IT READS IS OF BULK AT MOST 1048576: true; the input reads as it did. -/
def nearUptoRow : OpenClaim := { program := "ythimaoipogocfaagreat", sum := "16915cb25757f9ca5297f37fa9c942587872055e278925ed048bca96e8df521f", func := "hedgerow/hedgerowkeep.Near", spec := "near", inPlace := ["math.Float64frombits", "math.Float32frombits", "math.Float64bits", "math.Float32bits"], unfollowed := true, recurses := true, apart := false, narrowed := true }
def NearUptoSaid : Prop := nearUptoRow.holds Tryz.pinned (OpenSpec.upto nearSpec)

/-- 'hedgerowkeep.Shifted', WHERE WHAT IT READS IS OF BULK AT MOST 1048576: true; the input reads as it did. -/
def shiftedUptoRow : OpenClaim := { program := "ythimaoipogocfaagreat", sum := "16915cb25757f9ca5297f37fa9c942587872055e278925ed048bca96e8df521f", func := "hedgerow/hedgerowkeep.Shifted", spec := "shifted", inPlace := ["math.Float64frombits", "math.Float32frombits", "math.Float64bits", "math.Float32bits"], unfollowed := true, recurses := true, apart := false, narrowed := true }
def ShiftedUptoSaid : Prop := shiftedUptoRow.holds Tryz.pinned (OpenSpec.upto shiftedSpec)

/-- 'hedgerowkeep.Cut', WHERE WHAT IT READS IS OF BULK AT MOST 1048576: true; the input reads as it did. -/
def cutUptoRow : OpenClaim := { program := "ythimaoipogocfaagreat", sum := "16915cb25757f9ca5297f37fa9c942587872055e278925ed048bca96e8df521f", func := "hedgerow/hedgerowkeep.Cut", spec := "cut", inPlace := ["math.Float64frombits", "math.Float32frombits", "math.Float64bits", "math.Float32bits"], unfollowed := true, recurses := true, apart := false, narrowed := true }
def CutUptoSaid : Prop := cutUptoRow.holds Tryz.pinned (OpenSpec.upto cutSpec)

end Rows
end Go.Proofs.YthimaoipogocfaaGreat
