/-
  No cell of these rows narrows 'for every input' (looked for: loops, veiled, ifaces, maps, wideKeys, modest, calm, conditions, laid).
  DERIVED. THE GIVEN ROWS OF THIS SEAT. 14 by the template 'for every input the law returns true; each argument reads behind the call as it read before'; 0 by the template 'total and deterministic' (their statements: YtbgcamkclbcaiaaTotals.lean).
  GIVEN WITH THE SEED: the statements are not yours to turn. If you find one false, say at which input.
  Laid BY PROGRAM, IN A SANDBOX (cutbox-rows.mjs): the forced cells as the released guide's own fill.sh prints them over the translation 8c41a1dbc646e458… (all of the seat's roots in one cut). By AI agents, Wed Nov 11 2026. No macro, syntax, notation, axiom, sorry.
-/
import Derived.Test.YtbgcamkclbcaiaaChecked
import GoSem.Claim
import GoSem.ClaimJoined
import GoSem.ClaimMapViews
import Derived.JoinedTies
import Derived.KernelRfl
namespace Go.Proofs.Ytbgcamkclbcaiaa
/- THE CELL 'sum', in the pinned program and in every row, IS THE sha256 OF THE DUMP (.gsa) THAT YtbgcamkclbcaiaaProg.lean LOADS. Nothing in Lean hashes anything: it is a label: what it is worth is what the hold of that sum in a sandbox is worth. -/
noncomputable def Try.pinned : Pinned := { name := "ytbgcamkclbcaiaa", sum := "8c41a1dbc646e4588075941565c096aec1b8a4d0eaad3bfbfb95da796ecff159", checked := Try.checked }
namespace Rows
def none {H : Type} : Left H := { results := [], args := [] }

/-- 'laws.FnExactIsHomogeneous': WHATEVER THE INPUT: true; the input reads as it did. -/
def fnExactIsHomogeneousSpec : ChangeSpec := { name := "fnExactIsHomogeneous", fn := fun _ => fun
  | [d1, d2] => { results := [.lit (.bool true)], args := [d1, d2] }
  | _ => none }
def fnExactIsHomogeneousRow : OpenClaim := { program := "ytbgcamkclbcaiaa", sum := "8c41a1dbc646e4588075941565c096aec1b8a4d0eaad3bfbfb95da796ecff159", func := "loop.example/polycircuits/laws.FnExactIsHomogeneous", spec := "fnExactIsHomogeneous", plainKeys := false, apart := false }
def FnExactIsHomogeneousSaid : Prop := fnExactIsHomogeneousRow.holds Try.pinned (OpenSpec.ofChange fnExactIsHomogeneousSpec)

/-- ITS FALSE NEIGHBOUR: 'it returns false'. Refute it at one input. -/
def fnExactIsHomogeneousWrong : ChangeSpec := { name := "fnExactIsHomogeneous", fn := fun _ => fun
  | [d1, d2] => { results := [.lit (.bool false)], args := [d1, d2] }
  | _ => none }
def FnExactIsHomogeneousWrongFalsely : Prop := fnExactIsHomogeneousRow.holds Try.pinned (OpenSpec.ofChange fnExactIsHomogeneousWrong)

/-- 'laws.FnExactCutPoly': WHATEVER THE INPUT: true; the input reads as it did. -/
def fnExactCutPolySpec : ChangeSpec := { name := "fnExactCutPoly", fn := fun _ => fun
  | [d1, d2, d3] => { results := [.lit (.bool true)], args := [d1, d2, d3] }
  | _ => none }
def fnExactCutPolyRow : OpenClaim := { program := "ytbgcamkclbcaiaa", sum := "8c41a1dbc646e4588075941565c096aec1b8a4d0eaad3bfbfb95da796ecff159", func := "loop.example/polycircuits/laws.FnExactCutPoly", spec := "fnExactCutPoly", inPlace := ["slices.overlaps[loop.example/polycircuits/impl.Term]"], unfollowed := true, recurses := true, plainKeys := false, apart := false }
def FnExactCutPolySaid : Prop := fnExactCutPolyRow.holds Try.pinned (OpenSpec.ofChange fnExactCutPolySpec)

/-- ITS FALSE NEIGHBOUR: 'it returns false'. Refute it at one input. -/
def fnExactCutPolyWrong : ChangeSpec := { name := "fnExactCutPoly", fn := fun _ => fun
  | [d1, d2, d3] => { results := [.lit (.bool false)], args := [d1, d2, d3] }
  | _ => none }
def FnExactCutPolyWrongFalsely : Prop := fnExactCutPolyRow.holds Try.pinned (OpenSpec.ofChange fnExactCutPolyWrong)

/-- 'laws.FnExactMulCut': WHATEVER THE INPUT: true; the input reads as it did. -/
def fnExactMulCutSpec : ChangeSpec := { name := "fnExactMulCut", fn := fun _ => fun
  | [d1, d2, d3, d4] => { results := [.lit (.bool true)], args := [d1, d2, d3, d4] }
  | _ => none }
def fnExactMulCutRow : OpenClaim := { program := "ytbgcamkclbcaiaa", sum := "8c41a1dbc646e4588075941565c096aec1b8a4d0eaad3bfbfb95da796ecff159", func := "loop.example/polycircuits/laws.FnExactMulCut", spec := "fnExactMulCut", inPlace := ["slices.overlaps[loop.example/polycircuits/impl.Term]"], unfollowed := true, recurses := true, plainKeys := false, apart := false }
def FnExactMulCutSaid : Prop := fnExactMulCutRow.holds Try.pinned (OpenSpec.ofChange fnExactMulCutSpec)

/-- ITS FALSE NEIGHBOUR: 'it returns false'. Refute it at one input. -/
def fnExactMulCutWrong : ChangeSpec := { name := "fnExactMulCut", fn := fun _ => fun
  | [d1, d2, d3, d4] => { results := [.lit (.bool false)], args := [d1, d2, d3, d4] }
  | _ => none }
def FnExactMulCutWrongFalsely : Prop := fnExactMulCutRow.holds Try.pinned (OpenSpec.ofChange fnExactMulCutWrong)

/-- 'laws.FnExactShiftPoly': WHATEVER THE INPUT: true; the input reads as it did. -/
def fnExactShiftPolySpec : ChangeSpec := { name := "fnExactShiftPoly", fn := fun _ => fun
  | [d1, d2, d3] => { results := [.lit (.bool true)], args := [d1, d2, d3] }
  | _ => none }
def fnExactShiftPolyRow : OpenClaim := { program := "ytbgcamkclbcaiaa", sum := "8c41a1dbc646e4588075941565c096aec1b8a4d0eaad3bfbfb95da796ecff159", func := "loop.example/polycircuits/laws.FnExactShiftPoly", spec := "fnExactShiftPoly", inPlace := ["slices.overlaps[loop.example/polycircuits/impl.Term]"], unfollowed := true, recurses := true, plainKeys := false, apart := false }
def FnExactShiftPolySaid : Prop := fnExactShiftPolyRow.holds Try.pinned (OpenSpec.ofChange fnExactShiftPolySpec)

/-- ITS FALSE NEIGHBOUR: 'it returns false'. Refute it at one input. -/
def fnExactShiftPolyWrong : ChangeSpec := { name := "fnExactShiftPoly", fn := fun _ => fun
  | [d1, d2, d3] => { results := [.lit (.bool false)], args := [d1, d2, d3] }
  | _ => none }
def FnExactShiftPolyWrongFalsely : Prop := fnExactShiftPolyRow.holds Try.pinned (OpenSpec.ofChange fnExactShiftPolyWrong)

/-- 'laws.FnExactPartCircuit': WHATEVER THE INPUT: true; the input reads as it did. -/
def fnExactPartCircuitSpec : ChangeSpec := { name := "fnExactPartCircuit", fn := fun _ => fun
  | [d1, d2, d3] => { results := [.lit (.bool true)], args := [d1, d2, d3] }
  | _ => none }
def fnExactPartCircuitRow : OpenClaim := { program := "ytbgcamkclbcaiaa", sum := "8c41a1dbc646e4588075941565c096aec1b8a4d0eaad3bfbfb95da796ecff159", func := "loop.example/polycircuits/laws.FnExactPartCircuit", spec := "fnExactPartCircuit", unfollowed := true, recurses := true, plainKeys := false, apart := false }
def FnExactPartCircuitSaid : Prop := fnExactPartCircuitRow.holds Try.pinned (OpenSpec.ofChange fnExactPartCircuitSpec)

/-- ITS FALSE NEIGHBOUR: 'it returns false'. Refute it at one input. -/
def fnExactPartCircuitWrong : ChangeSpec := { name := "fnExactPartCircuit", fn := fun _ => fun
  | [d1, d2, d3] => { results := [.lit (.bool false)], args := [d1, d2, d3] }
  | _ => none }
def FnExactPartCircuitWrongFalsely : Prop := fnExactPartCircuitRow.holds Try.pinned (OpenSpec.ofChange fnExactPartCircuitWrong)

/-- 'laws.FnExactPartsAt': WHATEVER THE INPUT: true; the input reads as it did. -/
def fnExactPartsAtSpec : ChangeSpec := { name := "fnExactPartsAt", fn := fun _ => fun
  | [d1, d2, d3, d4] => { results := [.lit (.bool true)], args := [d1, d2, d3, d4] }
  | _ => none }
def fnExactPartsAtRow : OpenClaim := { program := "ytbgcamkclbcaiaa", sum := "8c41a1dbc646e4588075941565c096aec1b8a4d0eaad3bfbfb95da796ecff159", func := "loop.example/polycircuits/laws.FnExactPartsAt", spec := "fnExactPartsAt", plainKeys := false, apart := false }
def FnExactPartsAtSaid : Prop := fnExactPartsAtRow.holds Try.pinned (OpenSpec.ofChange fnExactPartsAtSpec)

/-- ITS FALSE NEIGHBOUR: 'it returns false'. Refute it at one input. -/
def fnExactPartsAtWrong : ChangeSpec := { name := "fnExactPartsAt", fn := fun _ => fun
  | [d1, d2, d3, d4] => { results := [.lit (.bool false)], args := [d1, d2, d3, d4] }
  | _ => none }
def FnExactPartsAtWrongFalsely : Prop := fnExactPartsAtRow.holds Try.pinned (OpenSpec.ofChange fnExactPartsAtWrong)

/-- 'laws.FnExactEulerPoly': WHATEVER THE INPUT: true; the input reads as it did. -/
def fnExactEulerPolySpec : ChangeSpec := { name := "fnExactEulerPoly", fn := fun _ => fun
  | [d1, d2] => { results := [.lit (.bool true)], args := [d1, d2] }
  | _ => none }
def fnExactEulerPolyRow : OpenClaim := { program := "ytbgcamkclbcaiaa", sum := "8c41a1dbc646e4588075941565c096aec1b8a4d0eaad3bfbfb95da796ecff159", func := "loop.example/polycircuits/laws.FnExactEulerPoly", spec := "fnExactEulerPoly", inPlace := ["slices.overlaps[loop.example/polycircuits/impl.Term]"], unfollowed := true, recurses := true, plainKeys := false, apart := false }
def FnExactEulerPolySaid : Prop := fnExactEulerPolyRow.holds Try.pinned (OpenSpec.ofChange fnExactEulerPolySpec)

/-- ITS FALSE NEIGHBOUR: 'it returns false'. Refute it at one input. -/
def fnExactEulerPolyWrong : ChangeSpec := { name := "fnExactEulerPoly", fn := fun _ => fun
  | [d1, d2] => { results := [.lit (.bool false)], args := [d1, d2] }
  | _ => none }
def FnExactEulerPolyWrongFalsely : Prop := fnExactEulerPolyRow.holds Try.pinned (OpenSpec.ofChange fnExactEulerPolyWrong)

/-- 'laws.FnExactScaleUnknowns': WHATEVER THE INPUT: true; the input reads as it did. -/
def fnExactScaleUnknownsSpec : ChangeSpec := { name := "fnExactScaleUnknowns", fn := fun _ => fun
  | [d1, d2, d3] => { results := [.lit (.bool true)], args := [d1, d2, d3] }
  | _ => none }
def fnExactScaleUnknownsRow : OpenClaim := { program := "ytbgcamkclbcaiaa", sum := "8c41a1dbc646e4588075941565c096aec1b8a4d0eaad3bfbfb95da796ecff159", func := "loop.example/polycircuits/laws.FnExactScaleUnknowns", spec := "fnExactScaleUnknowns", inPlace := ["slices.overlaps[loop.example/polycircuits/impl.Term]"], unfollowed := true, recurses := true, plainKeys := false, apart := false }
def FnExactScaleUnknownsSaid : Prop := fnExactScaleUnknownsRow.holds Try.pinned (OpenSpec.ofChange fnExactScaleUnknownsSpec)

/-- ITS FALSE NEIGHBOUR: 'it returns false'. Refute it at one input. -/
def fnExactScaleUnknownsWrong : ChangeSpec := { name := "fnExactScaleUnknowns", fn := fun _ => fun
  | [d1, d2, d3] => { results := [.lit (.bool false)], args := [d1, d2, d3] }
  | _ => none }
def FnExactScaleUnknownsWrongFalsely : Prop := fnExactScaleUnknownsRow.holds Try.pinned (OpenSpec.ofChange fnExactScaleUnknownsWrong)

/-- 'laws.FnPartCircuit': WHATEVER THE INPUT: true; the input reads as it did. -/
def fnPartCircuitSpec : ChangeSpec := { name := "fnPartCircuit", fn := fun _ => fun
  | [d1, d2] => { results := [.lit (.bool true)], args := [d1, d2] }
  | _ => none }
def fnPartCircuitRow : OpenClaim := { program := "ytbgcamkclbcaiaa", sum := "8c41a1dbc646e4588075941565c096aec1b8a4d0eaad3bfbfb95da796ecff159", func := "loop.example/polycircuits/laws.FnPartCircuit", spec := "fnPartCircuit", inPlace := ["slices.overlaps[loop.example/polycircuits/impl.Term]"], unfollowed := true, recurses := true, plainKeys := false, apart := false }
def FnPartCircuitSaid : Prop := fnPartCircuitRow.holds Try.pinned (OpenSpec.ofChange fnPartCircuitSpec)

/-- ITS FALSE NEIGHBOUR: 'it returns false'. Refute it at one input. -/
def fnPartCircuitWrong : ChangeSpec := { name := "fnPartCircuit", fn := fun _ => fun
  | [d1, d2] => { results := [.lit (.bool false)], args := [d1, d2] }
  | _ => none }
def FnPartCircuitWrongFalsely : Prop := fnPartCircuitRow.holds Try.pinned (OpenSpec.ofChange fnPartCircuitWrong)

/-- 'laws.FnPartsAt': WHATEVER THE INPUT: true; the input reads as it did. -/
def fnPartsAtSpec : ChangeSpec := { name := "fnPartsAt", fn := fun _ => fun
  | [d] => { results := [.lit (.bool true)], args := [d] }
  | _ => none }
def fnPartsAtRow : OpenClaim := { program := "ytbgcamkclbcaiaa", sum := "8c41a1dbc646e4588075941565c096aec1b8a4d0eaad3bfbfb95da796ecff159", func := "loop.example/polycircuits/laws.FnPartsAt", spec := "fnPartsAt", inPlace := ["slices.overlaps[loop.example/polycircuits/impl.Term]"], unfollowed := true, recurses := true, plainKeys := false, apart := false }
def FnPartsAtSaid : Prop := fnPartsAtRow.holds Try.pinned (OpenSpec.ofChange fnPartsAtSpec)

/-- ITS FALSE NEIGHBOUR: 'it returns false'. Refute it at one input. -/
def fnPartsAtWrong : ChangeSpec := { name := "fnPartsAt", fn := fun _ => fun
  | [d] => { results := [.lit (.bool false)], args := [d] }
  | _ => none }
def FnPartsAtWrongFalsely : Prop := fnPartsAtRow.holds Try.pinned (OpenSpec.ofChange fnPartsAtWrong)

/-- 'laws.FnMulCut': WHATEVER THE INPUT: true; the input reads as it did. -/
def fnMulCutSpec : ChangeSpec := { name := "fnMulCut", fn := fun _ => fun
  | [d] => { results := [.lit (.bool true)], args := [d] }
  | _ => none }
def fnMulCutRow : OpenClaim := { program := "ytbgcamkclbcaiaa", sum := "8c41a1dbc646e4588075941565c096aec1b8a4d0eaad3bfbfb95da796ecff159", func := "loop.example/polycircuits/laws.FnMulCut", spec := "fnMulCut", inPlace := ["slices.overlaps[loop.example/polycircuits/impl.Term]"], unfollowed := true, recurses := true, plainKeys := false, apart := false }
def FnMulCutSaid : Prop := fnMulCutRow.holds Try.pinned (OpenSpec.ofChange fnMulCutSpec)

/-- ITS FALSE NEIGHBOUR: 'it returns false'. Refute it at one input. -/
def fnMulCutWrong : ChangeSpec := { name := "fnMulCut", fn := fun _ => fun
  | [d] => { results := [.lit (.bool false)], args := [d] }
  | _ => none }
def FnMulCutWrongFalsely : Prop := fnMulCutRow.holds Try.pinned (OpenSpec.ofChange fnMulCutWrong)

/-- 'laws.FnShiftPoly': WHATEVER THE INPUT: true; the input reads as it did. -/
def fnShiftPolySpec : ChangeSpec := { name := "fnShiftPoly", fn := fun _ => fun
  | [d1, d2] => { results := [.lit (.bool true)], args := [d1, d2] }
  | _ => none }
def fnShiftPolyRow : OpenClaim := { program := "ytbgcamkclbcaiaa", sum := "8c41a1dbc646e4588075941565c096aec1b8a4d0eaad3bfbfb95da796ecff159", func := "loop.example/polycircuits/laws.FnShiftPoly", spec := "fnShiftPoly", inPlace := ["slices.overlaps[loop.example/polycircuits/impl.Term]"], unfollowed := true, recurses := true, plainKeys := false, apart := false }
def FnShiftPolySaid : Prop := fnShiftPolyRow.holds Try.pinned (OpenSpec.ofChange fnShiftPolySpec)

/-- ITS FALSE NEIGHBOUR: 'it returns false'. Refute it at one input. -/
def fnShiftPolyWrong : ChangeSpec := { name := "fnShiftPoly", fn := fun _ => fun
  | [d1, d2] => { results := [.lit (.bool false)], args := [d1, d2] }
  | _ => none }
def FnShiftPolyWrongFalsely : Prop := fnShiftPolyRow.holds Try.pinned (OpenSpec.ofChange fnShiftPolyWrong)

/-- 'laws.FnEulerPoly': WHATEVER THE INPUT: true; the input reads as it did. -/
def fnEulerPolySpec : ChangeSpec := { name := "fnEulerPoly", fn := fun _ => fun
  | [d] => { results := [.lit (.bool true)], args := [d] }
  | _ => none }
def fnEulerPolyRow : OpenClaim := { program := "ytbgcamkclbcaiaa", sum := "8c41a1dbc646e4588075941565c096aec1b8a4d0eaad3bfbfb95da796ecff159", func := "loop.example/polycircuits/laws.FnEulerPoly", spec := "fnEulerPoly", inPlace := ["slices.overlaps[loop.example/polycircuits/impl.Term]"], unfollowed := true, recurses := true, plainKeys := false, apart := false }
def FnEulerPolySaid : Prop := fnEulerPolyRow.holds Try.pinned (OpenSpec.ofChange fnEulerPolySpec)

/-- ITS FALSE NEIGHBOUR: 'it returns false'. Refute it at one input. -/
def fnEulerPolyWrong : ChangeSpec := { name := "fnEulerPoly", fn := fun _ => fun
  | [d] => { results := [.lit (.bool false)], args := [d] }
  | _ => none }
def FnEulerPolyWrongFalsely : Prop := fnEulerPolyRow.holds Try.pinned (OpenSpec.ofChange fnEulerPolyWrong)

/-- 'laws.FnScaleUnknowns': WHATEVER THE INPUT: true; the input reads as it did. -/
def fnScaleUnknownsSpec : ChangeSpec := { name := "fnScaleUnknowns", fn := fun _ => fun
  | [d1, d2] => { results := [.lit (.bool true)], args := [d1, d2] }
  | _ => none }
def fnScaleUnknownsRow : OpenClaim := { program := "ytbgcamkclbcaiaa", sum := "8c41a1dbc646e4588075941565c096aec1b8a4d0eaad3bfbfb95da796ecff159", func := "loop.example/polycircuits/laws.FnScaleUnknowns", spec := "fnScaleUnknowns", inPlace := ["slices.overlaps[loop.example/polycircuits/impl.Term]"], unfollowed := true, recurses := true, plainKeys := false, apart := false }
def FnScaleUnknownsSaid : Prop := fnScaleUnknownsRow.holds Try.pinned (OpenSpec.ofChange fnScaleUnknownsSpec)

/-- ITS FALSE NEIGHBOUR: 'it returns false'. Refute it at one input. -/
def fnScaleUnknownsWrong : ChangeSpec := { name := "fnScaleUnknowns", fn := fun _ => fun
  | [d1, d2] => { results := [.lit (.bool false)], args := [d1, d2] }
  | _ => none }
def FnScaleUnknownsWrongFalsely : Prop := fnScaleUnknownsRow.holds Try.pinned (OpenSpec.ofChange fnScaleUnknownsWrong)

/- THE SECOND FORM. 'bulk': how many values and letters a reading holds, each counted each time it is reached (what is shared counts as often as it is met; a slice's spare places count too). A statement '..UptoSaid' is the law's where the arguments, and the package variables that the reading takes, are together of bulk at most 1048576: NARROWER than '..Said'. Prove '..Said' where nothing that the law and all that it calls make is longer than what came in: it says more and counts as full. Else prove '..UptoSaid'. A law counts once. -/
mutual
def uptoBulk {H : Type} : DataW H → Nat
  | .lit (.string bytes) => bytes.length + 1
  | .lit _ => 1
  | .nil => 1
  | .ptr d => uptoBulk d + 1
  | .slice elems spare => uptoBulkAll elems + uptoBulkAll spare + 1
  | .agg parts => uptoBulkAll parts + 1
  | .iface _ d => uptoBulk d + 1
  | .map entries => uptoBulkEntries entries + 1
  | .held _ => 1
def uptoBulkAll {H : Type} : List (DataW H) → Nat
  | [] => 0
  | d :: r => uptoBulk d + uptoBulkAll r
def uptoBulkEntries {H : Type} : List (Lit × DataW H) → Nat
  | [] => 0
  | x :: r => uptoBulkEntry x + uptoBulkEntries r
def uptoBulkEntry {H : Type} : Lit × DataW H → Nat
  | (.string bytes, d) => bytes.length + uptoBulk d + 1
  | (_, d) => uptoBulk d + 1
 end
def uptoSmall : (H : Type) → List (DataW H) → Bool := fun _ ds => decide (uptoBulkAll ds ≤ 1048576)
def OpenSpec.upto (s : _root_.Go.ChangeSpec) : _root_.Go.OpenSpec := { _root_.Go.OpenSpec.ofChange s with cond := some uptoSmall }

/-- 'laws.FnExactIsHomogeneous', WHERE WHAT IT READS IS OF BULK AT MOST 1048576: true; the input reads as it did. -/
def fnExactIsHomogeneousUptoRow : OpenClaim := { program := "ytbgcamkclbcaiaa", sum := "8c41a1dbc646e4588075941565c096aec1b8a4d0eaad3bfbfb95da796ecff159", func := "loop.example/polycircuits/laws.FnExactIsHomogeneous", spec := "fnExactIsHomogeneous", plainKeys := false, apart := false, narrowed := true }
def FnExactIsHomogeneousUptoSaid : Prop := fnExactIsHomogeneousUptoRow.holds Try.pinned (OpenSpec.upto fnExactIsHomogeneousSpec)

/-- 'laws.FnExactCutPoly', WHERE WHAT IT READS IS OF BULK AT MOST 1048576: true; the input reads as it did. -/
def fnExactCutPolyUptoRow : OpenClaim := { program := "ytbgcamkclbcaiaa", sum := "8c41a1dbc646e4588075941565c096aec1b8a4d0eaad3bfbfb95da796ecff159", func := "loop.example/polycircuits/laws.FnExactCutPoly", spec := "fnExactCutPoly", inPlace := ["slices.overlaps[loop.example/polycircuits/impl.Term]"], unfollowed := true, recurses := true, plainKeys := false, apart := false, narrowed := true }
def FnExactCutPolyUptoSaid : Prop := fnExactCutPolyUptoRow.holds Try.pinned (OpenSpec.upto fnExactCutPolySpec)

/-- 'laws.FnExactMulCut', WHERE WHAT IT READS IS OF BULK AT MOST 1048576: true; the input reads as it did. -/
def fnExactMulCutUptoRow : OpenClaim := { program := "ytbgcamkclbcaiaa", sum := "8c41a1dbc646e4588075941565c096aec1b8a4d0eaad3bfbfb95da796ecff159", func := "loop.example/polycircuits/laws.FnExactMulCut", spec := "fnExactMulCut", inPlace := ["slices.overlaps[loop.example/polycircuits/impl.Term]"], unfollowed := true, recurses := true, plainKeys := false, apart := false, narrowed := true }
def FnExactMulCutUptoSaid : Prop := fnExactMulCutUptoRow.holds Try.pinned (OpenSpec.upto fnExactMulCutSpec)

/-- 'laws.FnExactShiftPoly', WHERE WHAT IT READS IS OF BULK AT MOST 1048576: true; the input reads as it did. -/
def fnExactShiftPolyUptoRow : OpenClaim := { program := "ytbgcamkclbcaiaa", sum := "8c41a1dbc646e4588075941565c096aec1b8a4d0eaad3bfbfb95da796ecff159", func := "loop.example/polycircuits/laws.FnExactShiftPoly", spec := "fnExactShiftPoly", inPlace := ["slices.overlaps[loop.example/polycircuits/impl.Term]"], unfollowed := true, recurses := true, plainKeys := false, apart := false, narrowed := true }
def FnExactShiftPolyUptoSaid : Prop := fnExactShiftPolyUptoRow.holds Try.pinned (OpenSpec.upto fnExactShiftPolySpec)

/-- 'laws.FnExactPartCircuit', WHERE WHAT IT READS IS OF BULK AT MOST 1048576: true; the input reads as it did. -/
def fnExactPartCircuitUptoRow : OpenClaim := { program := "ytbgcamkclbcaiaa", sum := "8c41a1dbc646e4588075941565c096aec1b8a4d0eaad3bfbfb95da796ecff159", func := "loop.example/polycircuits/laws.FnExactPartCircuit", spec := "fnExactPartCircuit", unfollowed := true, recurses := true, plainKeys := false, apart := false, narrowed := true }
def FnExactPartCircuitUptoSaid : Prop := fnExactPartCircuitUptoRow.holds Try.pinned (OpenSpec.upto fnExactPartCircuitSpec)

/-- 'laws.FnExactPartsAt', WHERE WHAT IT READS IS OF BULK AT MOST 1048576: true; the input reads as it did. -/
def fnExactPartsAtUptoRow : OpenClaim := { program := "ytbgcamkclbcaiaa", sum := "8c41a1dbc646e4588075941565c096aec1b8a4d0eaad3bfbfb95da796ecff159", func := "loop.example/polycircuits/laws.FnExactPartsAt", spec := "fnExactPartsAt", plainKeys := false, apart := false, narrowed := true }
def FnExactPartsAtUptoSaid : Prop := fnExactPartsAtUptoRow.holds Try.pinned (OpenSpec.upto fnExactPartsAtSpec)

/-- 'laws.FnExactEulerPoly', WHERE WHAT IT READS IS OF BULK AT MOST 1048576: true; the input reads as it did. -/
def fnExactEulerPolyUptoRow : OpenClaim := { program := "ytbgcamkclbcaiaa", sum := "8c41a1dbc646e4588075941565c096aec1b8a4d0eaad3bfbfb95da796ecff159", func := "loop.example/polycircuits/laws.FnExactEulerPoly", spec := "fnExactEulerPoly", inPlace := ["slices.overlaps[loop.example/polycircuits/impl.Term]"], unfollowed := true, recurses := true, plainKeys := false, apart := false, narrowed := true }
def FnExactEulerPolyUptoSaid : Prop := fnExactEulerPolyUptoRow.holds Try.pinned (OpenSpec.upto fnExactEulerPolySpec)

/-- 'laws.FnExactScaleUnknowns', WHERE WHAT IT READS IS OF BULK AT MOST 1048576: true; the input reads as it did. -/
def fnExactScaleUnknownsUptoRow : OpenClaim := { program := "ytbgcamkclbcaiaa", sum := "8c41a1dbc646e4588075941565c096aec1b8a4d0eaad3bfbfb95da796ecff159", func := "loop.example/polycircuits/laws.FnExactScaleUnknowns", spec := "fnExactScaleUnknowns", inPlace := ["slices.overlaps[loop.example/polycircuits/impl.Term]"], unfollowed := true, recurses := true, plainKeys := false, apart := false, narrowed := true }
def FnExactScaleUnknownsUptoSaid : Prop := fnExactScaleUnknownsUptoRow.holds Try.pinned (OpenSpec.upto fnExactScaleUnknownsSpec)

/-- 'laws.FnPartCircuit', WHERE WHAT IT READS IS OF BULK AT MOST 1048576: true; the input reads as it did. -/
def fnPartCircuitUptoRow : OpenClaim := { program := "ytbgcamkclbcaiaa", sum := "8c41a1dbc646e4588075941565c096aec1b8a4d0eaad3bfbfb95da796ecff159", func := "loop.example/polycircuits/laws.FnPartCircuit", spec := "fnPartCircuit", inPlace := ["slices.overlaps[loop.example/polycircuits/impl.Term]"], unfollowed := true, recurses := true, plainKeys := false, apart := false, narrowed := true }
def FnPartCircuitUptoSaid : Prop := fnPartCircuitUptoRow.holds Try.pinned (OpenSpec.upto fnPartCircuitSpec)

/-- 'laws.FnPartsAt', WHERE WHAT IT READS IS OF BULK AT MOST 1048576: true; the input reads as it did. -/
def fnPartsAtUptoRow : OpenClaim := { program := "ytbgcamkclbcaiaa", sum := "8c41a1dbc646e4588075941565c096aec1b8a4d0eaad3bfbfb95da796ecff159", func := "loop.example/polycircuits/laws.FnPartsAt", spec := "fnPartsAt", inPlace := ["slices.overlaps[loop.example/polycircuits/impl.Term]"], unfollowed := true, recurses := true, plainKeys := false, apart := false, narrowed := true }
def FnPartsAtUptoSaid : Prop := fnPartsAtUptoRow.holds Try.pinned (OpenSpec.upto fnPartsAtSpec)

/-- 'laws.FnMulCut', WHERE WHAT IT READS IS OF BULK AT MOST 1048576: true; the input reads as it did. -/
def fnMulCutUptoRow : OpenClaim := { program := "ytbgcamkclbcaiaa", sum := "8c41a1dbc646e4588075941565c096aec1b8a4d0eaad3bfbfb95da796ecff159", func := "loop.example/polycircuits/laws.FnMulCut", spec := "fnMulCut", inPlace := ["slices.overlaps[loop.example/polycircuits/impl.Term]"], unfollowed := true, recurses := true, plainKeys := false, apart := false, narrowed := true }
def FnMulCutUptoSaid : Prop := fnMulCutUptoRow.holds Try.pinned (OpenSpec.upto fnMulCutSpec)

/-- 'laws.FnShiftPoly', WHERE WHAT IT READS IS OF BULK AT MOST 1048576: true; the input reads as it did. -/
def fnShiftPolyUptoRow : OpenClaim := { program := "ytbgcamkclbcaiaa", sum := "8c41a1dbc646e4588075941565c096aec1b8a4d0eaad3bfbfb95da796ecff159", func := "loop.example/polycircuits/laws.FnShiftPoly", spec := "fnShiftPoly", inPlace := ["slices.overlaps[loop.example/polycircuits/impl.Term]"], unfollowed := true, recurses := true, plainKeys := false, apart := false, narrowed := true }
def FnShiftPolyUptoSaid : Prop := fnShiftPolyUptoRow.holds Try.pinned (OpenSpec.upto fnShiftPolySpec)

/-- 'laws.FnEulerPoly', WHERE WHAT IT READS IS OF BULK AT MOST 1048576: true; the input reads as it did. -/
def fnEulerPolyUptoRow : OpenClaim := { program := "ytbgcamkclbcaiaa", sum := "8c41a1dbc646e4588075941565c096aec1b8a4d0eaad3bfbfb95da796ecff159", func := "loop.example/polycircuits/laws.FnEulerPoly", spec := "fnEulerPoly", inPlace := ["slices.overlaps[loop.example/polycircuits/impl.Term]"], unfollowed := true, recurses := true, plainKeys := false, apart := false, narrowed := true }
def FnEulerPolyUptoSaid : Prop := fnEulerPolyUptoRow.holds Try.pinned (OpenSpec.upto fnEulerPolySpec)

/-- 'laws.FnScaleUnknowns', WHERE WHAT IT READS IS OF BULK AT MOST 1048576: true; the input reads as it did. -/
def fnScaleUnknownsUptoRow : OpenClaim := { program := "ytbgcamkclbcaiaa", sum := "8c41a1dbc646e4588075941565c096aec1b8a4d0eaad3bfbfb95da796ecff159", func := "loop.example/polycircuits/laws.FnScaleUnknowns", spec := "fnScaleUnknowns", inPlace := ["slices.overlaps[loop.example/polycircuits/impl.Term]"], unfollowed := true, recurses := true, plainKeys := false, apart := false, narrowed := true }
def FnScaleUnknownsUptoSaid : Prop := fnScaleUnknownsUptoRow.holds Try.pinned (OpenSpec.upto fnScaleUnknownsSpec)

end Rows
end Go.Proofs.Ytbgcamkclbcaiaa
