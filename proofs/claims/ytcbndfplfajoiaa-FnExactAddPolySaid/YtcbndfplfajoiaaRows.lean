/-
  No cell of these rows narrows 'for every input' (looked for: loops, veiled, ifaces, maps, wideKeys, modest, calm, conditions, laid).
  DERIVED. THE GIVEN ROWS OF THIS SEAT. 16 by the template 'for every input the law returns true; each argument reads behind the call as it read before'; 0 by the template 'total and deterministic' (their statements: YtcbndfplfajoiaaTotals.lean).
  GIVEN WITH THE SEED: the statements are not yours to turn. If you find one false, say at which input.
  Laid BY PROGRAM, IN A SANDBOX (cutbox-rows.mjs): the forced cells as the released guide's own fill.sh prints them over the translation 4a83ccc19ca84ea7… (all of the seat's roots in one cut). By AI agents, Wed Nov 11 2026. No macro, syntax, notation, axiom, sorry.
-/
import Derived.Test.YtcbndfplfajoiaaChecked
import GoSem.Claim
import GoSem.ClaimJoined
import GoSem.ClaimMapViews
import Derived.JoinedTies
import Derived.KernelRfl
namespace Go.Proofs.Ytcbndfplfajoiaa
/- THE CELL 'sum', in the pinned program and in every row, IS THE sha256 OF THE DUMP (.gsa) THAT YtcbndfplfajoiaaProg.lean LOADS. Nothing in Lean hashes anything: it is a label: what it is worth is what the hold of that sum in a sandbox is worth. -/
noncomputable def Try.pinned : Pinned := { name := "ytcbndfplfajoiaa", sum := "4a83ccc19ca84ea7c19d78c866bda839e3f6f78f579e74065ed5961fe5d48991", checked := Try.checked }
namespace Rows
def none {H : Type} : Left H := { results := [], args := [] }

/-- 'laws.FnExactMakePoly': WHATEVER THE INPUT: true; the input reads as it did. -/
def fnExactMakePolySpec : ChangeSpec := { name := "fnExactMakePoly", fn := fun _ => fun
  | [d1, d2] => { results := [.lit (.bool true)], args := [d1, d2] }
  | _ => none }
def fnExactMakePolyRow : OpenClaim := { program := "ytcbndfplfajoiaa", sum := "4a83ccc19ca84ea7c19d78c866bda839e3f6f78f579e74065ed5961fe5d48991", func := "loop.example/polycircuits/laws.FnExactMakePoly", spec := "fnExactMakePoly", inPlace := ["slices.overlaps[loop.example/polycircuits/impl.Term]"], unfollowed := true, recurses := true, apart := false }
def FnExactMakePolySaid : Prop := fnExactMakePolyRow.holds Try.pinned (OpenSpec.ofChange fnExactMakePolySpec)

/-- ITS FALSE NEIGHBOUR: 'it returns false'. Refute it at one input. -/
def fnExactMakePolyWrong : ChangeSpec := { name := "fnExactMakePoly", fn := fun _ => fun
  | [d1, d2] => { results := [.lit (.bool false)], args := [d1, d2] }
  | _ => none }
def FnExactMakePolyWrongFalsely : Prop := fnExactMakePolyRow.holds Try.pinned (OpenSpec.ofChange fnExactMakePolyWrong)

/-- 'laws.FnExactAddPoly': WHATEVER THE INPUT: true; the input reads as it did. -/
def fnExactAddPolySpec : ChangeSpec := { name := "fnExactAddPoly", fn := fun _ => fun
  | [d1, d2, d3] => { results := [.lit (.bool true)], args := [d1, d2, d3] }
  | _ => none }
def fnExactAddPolyRow : OpenClaim := { program := "ytcbndfplfajoiaa", sum := "4a83ccc19ca84ea7c19d78c866bda839e3f6f78f579e74065ed5961fe5d48991", func := "loop.example/polycircuits/laws.FnExactAddPoly", spec := "fnExactAddPoly", inPlace := ["slices.overlaps[loop.example/polycircuits/impl.Term]"], unfollowed := true, recurses := true, apart := false }
def FnExactAddPolySaid : Prop := fnExactAddPolyRow.holds Try.pinned (OpenSpec.ofChange fnExactAddPolySpec)

/-- ITS FALSE NEIGHBOUR: 'it returns false'. Refute it at one input. -/
def fnExactAddPolyWrong : ChangeSpec := { name := "fnExactAddPoly", fn := fun _ => fun
  | [d1, d2, d3] => { results := [.lit (.bool false)], args := [d1, d2, d3] }
  | _ => none }
def FnExactAddPolyWrongFalsely : Prop := fnExactAddPolyRow.holds Try.pinned (OpenSpec.ofChange fnExactAddPolyWrong)

/-- 'laws.FnExactMulPoly': WHATEVER THE INPUT: true; the input reads as it did. -/
def fnExactMulPolySpec : ChangeSpec := { name := "fnExactMulPoly", fn := fun _ => fun
  | [d1, d2, d3] => { results := [.lit (.bool true)], args := [d1, d2, d3] }
  | _ => none }
def fnExactMulPolyRow : OpenClaim := { program := "ytcbndfplfajoiaa", sum := "4a83ccc19ca84ea7c19d78c866bda839e3f6f78f579e74065ed5961fe5d48991", func := "loop.example/polycircuits/laws.FnExactMulPoly", spec := "fnExactMulPoly", inPlace := ["slices.overlaps[loop.example/polycircuits/impl.Term]"], unfollowed := true, recurses := true, apart := false }
def FnExactMulPolySaid : Prop := fnExactMulPolyRow.holds Try.pinned (OpenSpec.ofChange fnExactMulPolySpec)

/-- ITS FALSE NEIGHBOUR: 'it returns false'. Refute it at one input. -/
def fnExactMulPolyWrong : ChangeSpec := { name := "fnExactMulPoly", fn := fun _ => fun
  | [d1, d2, d3] => { results := [.lit (.bool false)], args := [d1, d2, d3] }
  | _ => none }
def FnExactMulPolyWrongFalsely : Prop := fnExactMulPolyRow.holds Try.pinned (OpenSpec.ofChange fnExactMulPolyWrong)

/-- 'laws.FnExactScalePoly': WHATEVER THE INPUT: true; the input reads as it did. -/
def fnExactScalePolySpec : ChangeSpec := { name := "fnExactScalePoly", fn := fun _ => fun
  | [d1, d2, d3] => { results := [.lit (.bool true)], args := [d1, d2, d3] }
  | _ => none }
def fnExactScalePolyRow : OpenClaim := { program := "ytcbndfplfajoiaa", sum := "4a83ccc19ca84ea7c19d78c866bda839e3f6f78f579e74065ed5961fe5d48991", func := "loop.example/polycircuits/laws.FnExactScalePoly", spec := "fnExactScalePoly", inPlace := ["slices.overlaps[loop.example/polycircuits/impl.Term]"], unfollowed := true, recurses := true, apart := false }
def FnExactScalePolySaid : Prop := fnExactScalePolyRow.holds Try.pinned (OpenSpec.ofChange fnExactScalePolySpec)

/-- ITS FALSE NEIGHBOUR: 'it returns false'. Refute it at one input. -/
def fnExactScalePolyWrong : ChangeSpec := { name := "fnExactScalePoly", fn := fun _ => fun
  | [d1, d2, d3] => { results := [.lit (.bool false)], args := [d1, d2, d3] }
  | _ => none }
def FnExactScalePolyWrongFalsely : Prop := fnExactScalePolyRow.holds Try.pinned (OpenSpec.ofChange fnExactScalePolyWrong)

/-- 'laws.FnExactDerivePoly': WHATEVER THE INPUT: true; the input reads as it did. -/
def fnExactDerivePolySpec : ChangeSpec := { name := "fnExactDerivePoly", fn := fun _ => fun
  | [d1, d2, d3] => { results := [.lit (.bool true)], args := [d1, d2, d3] }
  | _ => none }
def fnExactDerivePolyRow : OpenClaim := { program := "ytcbndfplfajoiaa", sum := "4a83ccc19ca84ea7c19d78c866bda839e3f6f78f579e74065ed5961fe5d48991", func := "loop.example/polycircuits/laws.FnExactDerivePoly", spec := "fnExactDerivePoly", inPlace := ["slices.overlaps[loop.example/polycircuits/impl.Term]"], unfollowed := true, recurses := true, apart := false }
def FnExactDerivePolySaid : Prop := fnExactDerivePolyRow.holds Try.pinned (OpenSpec.ofChange fnExactDerivePolySpec)

/-- ITS FALSE NEIGHBOUR: 'it returns false'. Refute it at one input. -/
def fnExactDerivePolyWrong : ChangeSpec := { name := "fnExactDerivePoly", fn := fun _ => fun
  | [d1, d2, d3] => { results := [.lit (.bool false)], args := [d1, d2, d3] }
  | _ => none }
def FnExactDerivePolyWrongFalsely : Prop := fnExactDerivePolyRow.holds Try.pinned (OpenSpec.ofChange fnExactDerivePolyWrong)

/-- 'laws.FnExactPutPoly': WHATEVER THE INPUT: true; the input reads as it did. -/
def fnExactPutPolySpec : ChangeSpec := { name := "fnExactPutPoly", fn := fun _ => fun
  | [d1, d2, d3, d4] => { results := [.lit (.bool true)], args := [d1, d2, d3, d4] }
  | _ => none }
def fnExactPutPolyRow : OpenClaim := { program := "ytcbndfplfajoiaa", sum := "4a83ccc19ca84ea7c19d78c866bda839e3f6f78f579e74065ed5961fe5d48991", func := "loop.example/polycircuits/laws.FnExactPutPoly", spec := "fnExactPutPoly", inPlace := ["slices.overlaps[loop.example/polycircuits/impl.Term]"], unfollowed := true, recurses := true, apart := false }
def FnExactPutPolySaid : Prop := fnExactPutPolyRow.holds Try.pinned (OpenSpec.ofChange fnExactPutPolySpec)

/-- ITS FALSE NEIGHBOUR: 'it returns false'. Refute it at one input. -/
def fnExactPutPolyWrong : ChangeSpec := { name := "fnExactPutPoly", fn := fun _ => fun
  | [d1, d2, d3, d4] => { results := [.lit (.bool false)], args := [d1, d2, d3, d4] }
  | _ => none }
def FnExactPutPolyWrongFalsely : Prop := fnExactPutPolyRow.holds Try.pinned (OpenSpec.ofChange fnExactPutPolyWrong)

/-- 'laws.FnExactCircuitValid': WHATEVER THE INPUT: true; the input reads as it did. -/
def fnExactCircuitValidSpec : ChangeSpec := { name := "fnExactCircuitValid", fn := fun _ => fun
  | [d1, d2] => { results := [.lit (.bool true)], args := [d1, d2] }
  | _ => none }
def fnExactCircuitValidRow : OpenClaim := { program := "ytcbndfplfajoiaa", sum := "4a83ccc19ca84ea7c19d78c866bda839e3f6f78f579e74065ed5961fe5d48991", func := "loop.example/polycircuits/laws.FnExactCircuitValid", spec := "fnExactCircuitValid", apart := false }
def FnExactCircuitValidSaid : Prop := fnExactCircuitValidRow.holds Try.pinned (OpenSpec.ofChange fnExactCircuitValidSpec)

/-- ITS FALSE NEIGHBOUR: 'it returns false'. Refute it at one input. -/
def fnExactCircuitValidWrong : ChangeSpec := { name := "fnExactCircuitValid", fn := fun _ => fun
  | [d1, d2] => { results := [.lit (.bool false)], args := [d1, d2] }
  | _ => none }
def FnExactCircuitValidWrongFalsely : Prop := fnExactCircuitValidRow.holds Try.pinned (OpenSpec.ofChange fnExactCircuitValidWrong)

/-- 'laws.FnExactEvalGates': WHATEVER THE INPUT: true; the input reads as it did. -/
def fnExactEvalGatesSpec : ChangeSpec := { name := "fnExactEvalGates", fn := fun _ => fun
  | [d1, d2, d3] => { results := [.lit (.bool true)], args := [d1, d2, d3] }
  | _ => none }
def fnExactEvalGatesRow : OpenClaim := { program := "ytcbndfplfajoiaa", sum := "4a83ccc19ca84ea7c19d78c866bda839e3f6f78f579e74065ed5961fe5d48991", func := "loop.example/polycircuits/laws.FnExactEvalGates", spec := "fnExactEvalGates", apart := false }
def FnExactEvalGatesSaid : Prop := fnExactEvalGatesRow.holds Try.pinned (OpenSpec.ofChange fnExactEvalGatesSpec)

/-- ITS FALSE NEIGHBOUR: 'it returns false'. Refute it at one input. -/
def fnExactEvalGatesWrong : ChangeSpec := { name := "fnExactEvalGates", fn := fun _ => fun
  | [d1, d2, d3] => { results := [.lit (.bool false)], args := [d1, d2, d3] }
  | _ => none }
def FnExactEvalGatesWrongFalsely : Prop := fnExactEvalGatesRow.holds Try.pinned (OpenSpec.ofChange fnExactEvalGatesWrong)

/-- 'laws.FnExactPolyOfCircuit': WHATEVER THE INPUT: true; the input reads as it did. -/
def fnExactPolyOfCircuitSpec : ChangeSpec := { name := "fnExactPolyOfCircuit", fn := fun _ => fun
  | [d1, d2] => { results := [.lit (.bool true)], args := [d1, d2] }
  | _ => none }
def fnExactPolyOfCircuitRow : OpenClaim := { program := "ytcbndfplfajoiaa", sum := "4a83ccc19ca84ea7c19d78c866bda839e3f6f78f579e74065ed5961fe5d48991", func := "loop.example/polycircuits/laws.FnExactPolyOfCircuit", spec := "fnExactPolyOfCircuit", inPlace := ["slices.overlaps[loop.example/polycircuits/impl.Term]"], unfollowed := true, recurses := true, apart := false }
def FnExactPolyOfCircuitSaid : Prop := fnExactPolyOfCircuitRow.holds Try.pinned (OpenSpec.ofChange fnExactPolyOfCircuitSpec)

/-- ITS FALSE NEIGHBOUR: 'it returns false'. Refute it at one input. -/
def fnExactPolyOfCircuitWrong : ChangeSpec := { name := "fnExactPolyOfCircuit", fn := fun _ => fun
  | [d1, d2] => { results := [.lit (.bool false)], args := [d1, d2] }
  | _ => none }
def FnExactPolyOfCircuitWrongFalsely : Prop := fnExactPolyOfCircuitRow.holds Try.pinned (OpenSpec.ofChange fnExactPolyOfCircuitWrong)

/-- 'laws.FnExactUsedGates': WHATEVER THE INPUT: true; the input reads as it did. -/
def fnExactUsedGatesSpec : ChangeSpec := { name := "fnExactUsedGates", fn := fun _ => fun
  | [d1, d2] => { results := [.lit (.bool true)], args := [d1, d2] }
  | _ => none }
def fnExactUsedGatesRow : OpenClaim := { program := "ytcbndfplfajoiaa", sum := "4a83ccc19ca84ea7c19d78c866bda839e3f6f78f579e74065ed5961fe5d48991", func := "loop.example/polycircuits/laws.FnExactUsedGates", spec := "fnExactUsedGates", unfollowed := true, recurses := true, apart := false }
def FnExactUsedGatesSaid : Prop := fnExactUsedGatesRow.holds Try.pinned (OpenSpec.ofChange fnExactUsedGatesSpec)

/-- ITS FALSE NEIGHBOUR: 'it returns false'. Refute it at one input. -/
def fnExactUsedGatesWrong : ChangeSpec := { name := "fnExactUsedGates", fn := fun _ => fun
  | [d1, d2] => { results := [.lit (.bool false)], args := [d1, d2] }
  | _ => none }
def FnExactUsedGatesWrongFalsely : Prop := fnExactUsedGatesRow.holds Try.pinned (OpenSpec.ofChange fnExactUsedGatesWrong)

/-- 'laws.FnExactPruneCircuit': WHATEVER THE INPUT: true; the input reads as it did. -/
def fnExactPruneCircuitSpec : ChangeSpec := { name := "fnExactPruneCircuit", fn := fun _ => fun
  | [d1, d2] => { results := [.lit (.bool true)], args := [d1, d2] }
  | _ => none }
def fnExactPruneCircuitRow : OpenClaim := { program := "ytcbndfplfajoiaa", sum := "4a83ccc19ca84ea7c19d78c866bda839e3f6f78f579e74065ed5961fe5d48991", func := "loop.example/polycircuits/laws.FnExactPruneCircuit", spec := "fnExactPruneCircuit", unfollowed := true, recurses := true, apart := false }
def FnExactPruneCircuitSaid : Prop := fnExactPruneCircuitRow.holds Try.pinned (OpenSpec.ofChange fnExactPruneCircuitSpec)

/-- ITS FALSE NEIGHBOUR: 'it returns false'. Refute it at one input. -/
def fnExactPruneCircuitWrong : ChangeSpec := { name := "fnExactPruneCircuit", fn := fun _ => fun
  | [d1, d2] => { results := [.lit (.bool false)], args := [d1, d2] }
  | _ => none }
def FnExactPruneCircuitWrongFalsely : Prop := fnExactPruneCircuitRow.holds Try.pinned (OpenSpec.ofChange fnExactPruneCircuitWrong)

/-- 'laws.FnExactCostOf': WHATEVER THE INPUT: true; the input reads as it did. -/
def fnExactCostOfSpec : ChangeSpec := { name := "fnExactCostOf", fn := fun _ => fun
  | [d1, d2] => { results := [.lit (.bool true)], args := [d1, d2] }
  | _ => none }
def fnExactCostOfRow : OpenClaim := { program := "ytcbndfplfajoiaa", sum := "4a83ccc19ca84ea7c19d78c866bda839e3f6f78f579e74065ed5961fe5d48991", func := "loop.example/polycircuits/laws.FnExactCostOf", spec := "fnExactCostOf", unfollowed := true, recurses := true, apart := false }
def FnExactCostOfSaid : Prop := fnExactCostOfRow.holds Try.pinned (OpenSpec.ofChange fnExactCostOfSpec)

/-- ITS FALSE NEIGHBOUR: 'it returns false'. Refute it at one input. -/
def fnExactCostOfWrong : ChangeSpec := { name := "fnExactCostOf", fn := fun _ => fun
  | [d1, d2] => { results := [.lit (.bool false)], args := [d1, d2] }
  | _ => none }
def FnExactCostOfWrongFalsely : Prop := fnExactCostOfRow.holds Try.pinned (OpenSpec.ofChange fnExactCostOfWrong)

/-- 'laws.FnExactDepthOf': WHATEVER THE INPUT: true; the input reads as it did. -/
def fnExactDepthOfSpec : ChangeSpec := { name := "fnExactDepthOf", fn := fun _ => fun
  | [d1, d2] => { results := [.lit (.bool true)], args := [d1, d2] }
  | _ => none }
def fnExactDepthOfRow : OpenClaim := { program := "ytcbndfplfajoiaa", sum := "4a83ccc19ca84ea7c19d78c866bda839e3f6f78f579e74065ed5961fe5d48991", func := "loop.example/polycircuits/laws.FnExactDepthOf", spec := "fnExactDepthOf", apart := false }
def FnExactDepthOfSaid : Prop := fnExactDepthOfRow.holds Try.pinned (OpenSpec.ofChange fnExactDepthOfSpec)

/-- ITS FALSE NEIGHBOUR: 'it returns false'. Refute it at one input. -/
def fnExactDepthOfWrong : ChangeSpec := { name := "fnExactDepthOf", fn := fun _ => fun
  | [d1, d2] => { results := [.lit (.bool false)], args := [d1, d2] }
  | _ => none }
def FnExactDepthOfWrongFalsely : Prop := fnExactDepthOfRow.holds Try.pinned (OpenSpec.ofChange fnExactDepthOfWrong)

/-- 'laws.FnExactFormalDegree': WHATEVER THE INPUT: true; the input reads as it did. -/
def fnExactFormalDegreeSpec : ChangeSpec := { name := "fnExactFormalDegree", fn := fun _ => fun
  | [d1, d2] => { results := [.lit (.bool true)], args := [d1, d2] }
  | _ => none }
def fnExactFormalDegreeRow : OpenClaim := { program := "ytcbndfplfajoiaa", sum := "4a83ccc19ca84ea7c19d78c866bda839e3f6f78f579e74065ed5961fe5d48991", func := "loop.example/polycircuits/laws.FnExactFormalDegree", spec := "fnExactFormalDegree", apart := false }
def FnExactFormalDegreeSaid : Prop := fnExactFormalDegreeRow.holds Try.pinned (OpenSpec.ofChange fnExactFormalDegreeSpec)

/-- ITS FALSE NEIGHBOUR: 'it returns false'. Refute it at one input. -/
def fnExactFormalDegreeWrong : ChangeSpec := { name := "fnExactFormalDegree", fn := fun _ => fun
  | [d1, d2] => { results := [.lit (.bool false)], args := [d1, d2] }
  | _ => none }
def FnExactFormalDegreeWrongFalsely : Prop := fnExactFormalDegreeRow.holds Try.pinned (OpenSpec.ofChange fnExactFormalDegreeWrong)

/-- 'laws.FnExactJoinCircuits': WHATEVER THE INPUT: true; the input reads as it did. -/
def fnExactJoinCircuitsSpec : ChangeSpec := { name := "fnExactJoinCircuits", fn := fun _ => fun
  | [d1, d2, d3, d4] => { results := [.lit (.bool true)], args := [d1, d2, d3, d4] }
  | _ => none }
def fnExactJoinCircuitsRow : OpenClaim := { program := "ytcbndfplfajoiaa", sum := "4a83ccc19ca84ea7c19d78c866bda839e3f6f78f579e74065ed5961fe5d48991", func := "loop.example/polycircuits/laws.FnExactJoinCircuits", spec := "fnExactJoinCircuits", apart := false }
def FnExactJoinCircuitsSaid : Prop := fnExactJoinCircuitsRow.holds Try.pinned (OpenSpec.ofChange fnExactJoinCircuitsSpec)

/-- ITS FALSE NEIGHBOUR: 'it returns false'. Refute it at one input. -/
def fnExactJoinCircuitsWrong : ChangeSpec := { name := "fnExactJoinCircuits", fn := fun _ => fun
  | [d1, d2, d3, d4] => { results := [.lit (.bool false)], args := [d1, d2, d3, d4] }
  | _ => none }
def FnExactJoinCircuitsWrongFalsely : Prop := fnExactJoinCircuitsRow.holds Try.pinned (OpenSpec.ofChange fnExactJoinCircuitsWrong)

/-- 'laws.FnExactCircuitOf': WHATEVER THE INPUT: true; the input reads as it did. -/
def fnExactCircuitOfSpec : ChangeSpec := { name := "fnExactCircuitOf", fn := fun _ => fun
  | [d1, d2] => { results := [.lit (.bool true)], args := [d1, d2] }
  | _ => none }
def fnExactCircuitOfRow : OpenClaim := { program := "ytcbndfplfajoiaa", sum := "4a83ccc19ca84ea7c19d78c866bda839e3f6f78f579e74065ed5961fe5d48991", func := "loop.example/polycircuits/laws.FnExactCircuitOf", spec := "fnExactCircuitOf", apart := false }
def FnExactCircuitOfSaid : Prop := fnExactCircuitOfRow.holds Try.pinned (OpenSpec.ofChange fnExactCircuitOfSpec)

/-- ITS FALSE NEIGHBOUR: 'it returns false'. Refute it at one input. -/
def fnExactCircuitOfWrong : ChangeSpec := { name := "fnExactCircuitOf", fn := fun _ => fun
  | [d1, d2] => { results := [.lit (.bool false)], args := [d1, d2] }
  | _ => none }
def FnExactCircuitOfWrongFalsely : Prop := fnExactCircuitOfRow.holds Try.pinned (OpenSpec.ofChange fnExactCircuitOfWrong)

/- THE SECOND FORM. 'bulk': how many values and letters a reading holds, each counted each time it is reached (what is shared counts as often as it is met; a slice's spare places count too). A statement '..UptoSaid' is the law's where the arguments, and the package variables that the reading takes, are together of bulk at most 1048576: NARROWER than '..Said'. Prove '..Said' where nothing that the law and all that it calls make is longer than what came in: it says more and counts as full. Else prove '..UptoSaid'. A law counts once. -/
mutual
def uptoBulk {H : Type} : DataW H → Nat
  | .lit (.string bytes) => bytes.length + 1
  | .lit _ => 1
  | .nil => 1
  | .ptr d => uptoBulk d + 1
  | .slice elems spare => uptoBulkAll elems + uptoBulkAll spare + 1
  | .agg parts => uptoBulkAll parts + 1
  | .iface _ d => uptoBulk d + 1
  | .map entries => uptoBulkEntries entries + 1
  | .held _ => 1
def uptoBulkAll {H : Type} : List (DataW H) → Nat
  | [] => 0
  | d :: r => uptoBulk d + uptoBulkAll r
def uptoBulkEntries {H : Type} : List (Lit × DataW H) → Nat
  | [] => 0
  | x :: r => uptoBulkEntry x + uptoBulkEntries r
def uptoBulkEntry {H : Type} : Lit × DataW H → Nat
  | (.string bytes, d) => bytes.length + uptoBulk d + 1
  | (_, d) => uptoBulk d + 1
 end
def uptoSmall : (H : Type) → List (DataW H) → Bool := fun _ ds => decide (uptoBulkAll ds ≤ 1048576)
def OpenSpec.upto (s : _root_.Go.ChangeSpec) : _root_.Go.OpenSpec := { _root_.Go.OpenSpec.ofChange s with cond := some uptoSmall }

/-- 'laws.FnExactMakePoly', WHERE WHAT IT READS IS OF BULK AT MOST 1048576: true; the input reads as it did. -/
def fnExactMakePolyUptoRow : OpenClaim := { program := "ytcbndfplfajoiaa", sum := "4a83ccc19ca84ea7c19d78c866bda839e3f6f78f579e74065ed5961fe5d48991", func := "loop.example/polycircuits/laws.FnExactMakePoly", spec := "fnExactMakePoly", inPlace := ["slices.overlaps[loop.example/polycircuits/impl.Term]"], unfollowed := true, recurses := true, apart := false, narrowed := true }
def FnExactMakePolyUptoSaid : Prop := fnExactMakePolyUptoRow.holds Try.pinned (OpenSpec.upto fnExactMakePolySpec)

/-- 'laws.FnExactAddPoly', WHERE WHAT IT READS IS OF BULK AT MOST 1048576: true; the input reads as it did. -/
def fnExactAddPolyUptoRow : OpenClaim := { program := "ytcbndfplfajoiaa", sum := "4a83ccc19ca84ea7c19d78c866bda839e3f6f78f579e74065ed5961fe5d48991", func := "loop.example/polycircuits/laws.FnExactAddPoly", spec := "fnExactAddPoly", inPlace := ["slices.overlaps[loop.example/polycircuits/impl.Term]"], unfollowed := true, recurses := true, apart := false, narrowed := true }
def FnExactAddPolyUptoSaid : Prop := fnExactAddPolyUptoRow.holds Try.pinned (OpenSpec.upto fnExactAddPolySpec)

/-- 'laws.FnExactMulPoly', WHERE WHAT IT READS IS OF BULK AT MOST 1048576: true; the input reads as it did. -/
def fnExactMulPolyUptoRow : OpenClaim := { program := "ytcbndfplfajoiaa", sum := "4a83ccc19ca84ea7c19d78c866bda839e3f6f78f579e74065ed5961fe5d48991", func := "loop.example/polycircuits/laws.FnExactMulPoly", spec := "fnExactMulPoly", inPlace := ["slices.overlaps[loop.example/polycircuits/impl.Term]"], unfollowed := true, recurses := true, apart := false, narrowed := true }
def FnExactMulPolyUptoSaid : Prop := fnExactMulPolyUptoRow.holds Try.pinned (OpenSpec.upto fnExactMulPolySpec)

/-- 'laws.FnExactScalePoly', WHERE WHAT IT READS IS OF BULK AT MOST 1048576: true; the input reads as it did. -/
def fnExactScalePolyUptoRow : OpenClaim := { program := "ytcbndfplfajoiaa", sum := "4a83ccc19ca84ea7c19d78c866bda839e3f6f78f579e74065ed5961fe5d48991", func := "loop.example/polycircuits/laws.FnExactScalePoly", spec := "fnExactScalePoly", inPlace := ["slices.overlaps[loop.example/polycircuits/impl.Term]"], unfollowed := true, recurses := true, apart := false, narrowed := true }
def FnExactScalePolyUptoSaid : Prop := fnExactScalePolyUptoRow.holds Try.pinned (OpenSpec.upto fnExactScalePolySpec)

/-- 'laws.FnExactDerivePoly', WHERE WHAT IT READS IS OF BULK AT MOST 1048576: true; the input reads as it did. -/
def fnExactDerivePolyUptoRow : OpenClaim := { program := "ytcbndfplfajoiaa", sum := "4a83ccc19ca84ea7c19d78c866bda839e3f6f78f579e74065ed5961fe5d48991", func := "loop.example/polycircuits/laws.FnExactDerivePoly", spec := "fnExactDerivePoly", inPlace := ["slices.overlaps[loop.example/polycircuits/impl.Term]"], unfollowed := true, recurses := true, apart := false, narrowed := true }
def FnExactDerivePolyUptoSaid : Prop := fnExactDerivePolyUptoRow.holds Try.pinned (OpenSpec.upto fnExactDerivePolySpec)

/-- 'laws.FnExactPutPoly', WHERE WHAT IT READS IS OF BULK AT MOST 1048576: true; the input reads as it did. -/
def fnExactPutPolyUptoRow : OpenClaim := { program := "ytcbndfplfajoiaa", sum := "4a83ccc19ca84ea7c19d78c866bda839e3f6f78f579e74065ed5961fe5d48991", func := "loop.example/polycircuits/laws.FnExactPutPoly", spec := "fnExactPutPoly", inPlace := ["slices.overlaps[loop.example/polycircuits/impl.Term]"], unfollowed := true, recurses := true, apart := false, narrowed := true }
def FnExactPutPolyUptoSaid : Prop := fnExactPutPolyUptoRow.holds Try.pinned (OpenSpec.upto fnExactPutPolySpec)

/-- 'laws.FnExactCircuitValid', WHERE WHAT IT READS IS OF BULK AT MOST 1048576: true; the input reads as it did. -/
def fnExactCircuitValidUptoRow : OpenClaim := { program := "ytcbndfplfajoiaa", sum := "4a83ccc19ca84ea7c19d78c866bda839e3f6f78f579e74065ed5961fe5d48991", func := "loop.example/polycircuits/laws.FnExactCircuitValid", spec := "fnExactCircuitValid", apart := false, narrowed := true }
def FnExactCircuitValidUptoSaid : Prop := fnExactCircuitValidUptoRow.holds Try.pinned (OpenSpec.upto fnExactCircuitValidSpec)

/-- 'laws.FnExactEvalGates', WHERE WHAT IT READS IS OF BULK AT MOST 1048576: true; the input reads as it did. -/
def fnExactEvalGatesUptoRow : OpenClaim := { program := "ytcbndfplfajoiaa", sum := "4a83ccc19ca84ea7c19d78c866bda839e3f6f78f579e74065ed5961fe5d48991", func := "loop.example/polycircuits/laws.FnExactEvalGates", spec := "fnExactEvalGates", apart := false, narrowed := true }
def FnExactEvalGatesUptoSaid : Prop := fnExactEvalGatesUptoRow.holds Try.pinned (OpenSpec.upto fnExactEvalGatesSpec)

/-- 'laws.FnExactPolyOfCircuit', WHERE WHAT IT READS IS OF BULK AT MOST 1048576: true; the input reads as it did. -/
def fnExactPolyOfCircuitUptoRow : OpenClaim := { program := "ytcbndfplfajoiaa", sum := "4a83ccc19ca84ea7c19d78c866bda839e3f6f78f579e74065ed5961fe5d48991", func := "loop.example/polycircuits/laws.FnExactPolyOfCircuit", spec := "fnExactPolyOfCircuit", inPlace := ["slices.overlaps[loop.example/polycircuits/impl.Term]"], unfollowed := true, recurses := true, apart := false, narrowed := true }
def FnExactPolyOfCircuitUptoSaid : Prop := fnExactPolyOfCircuitUptoRow.holds Try.pinned (OpenSpec.upto fnExactPolyOfCircuitSpec)

/-- 'laws.FnExactUsedGates', WHERE WHAT IT READS IS OF BULK AT MOST 1048576: true; the input reads as it did. -/
def fnExactUsedGatesUptoRow : OpenClaim := { program := "ytcbndfplfajoiaa", sum := "4a83ccc19ca84ea7c19d78c866bda839e3f6f78f579e74065ed5961fe5d48991", func := "loop.example/polycircuits/laws.FnExactUsedGates", spec := "fnExactUsedGates", unfollowed := true, recurses := true, apart := false, narrowed := true }
def FnExactUsedGatesUptoSaid : Prop := fnExactUsedGatesUptoRow.holds Try.pinned (OpenSpec.upto fnExactUsedGatesSpec)

/-- 'laws.FnExactPruneCircuit', WHERE WHAT IT READS IS OF BULK AT MOST 1048576: true; the input reads as it did. -/
def fnExactPruneCircuitUptoRow : OpenClaim := { program := "ytcbndfplfajoiaa", sum := "4a83ccc19ca84ea7c19d78c866bda839e3f6f78f579e74065ed5961fe5d48991", func := "loop.example/polycircuits/laws.FnExactPruneCircuit", spec := "fnExactPruneCircuit", unfollowed := true, recurses := true, apart := false, narrowed := true }
def FnExactPruneCircuitUptoSaid : Prop := fnExactPruneCircuitUptoRow.holds Try.pinned (OpenSpec.upto fnExactPruneCircuitSpec)

/-- 'laws.FnExactCostOf', WHERE WHAT IT READS IS OF BULK AT MOST 1048576: true; the input reads as it did. -/
def fnExactCostOfUptoRow : OpenClaim := { program := "ytcbndfplfajoiaa", sum := "4a83ccc19ca84ea7c19d78c866bda839e3f6f78f579e74065ed5961fe5d48991", func := "loop.example/polycircuits/laws.FnExactCostOf", spec := "fnExactCostOf", unfollowed := true, recurses := true, apart := false, narrowed := true }
def FnExactCostOfUptoSaid : Prop := fnExactCostOfUptoRow.holds Try.pinned (OpenSpec.upto fnExactCostOfSpec)

/-- 'laws.FnExactDepthOf', WHERE WHAT IT READS IS OF BULK AT MOST 1048576: true; the input reads as it did. -/
def fnExactDepthOfUptoRow : OpenClaim := { program := "ytcbndfplfajoiaa", sum := "4a83ccc19ca84ea7c19d78c866bda839e3f6f78f579e74065ed5961fe5d48991", func := "loop.example/polycircuits/laws.FnExactDepthOf", spec := "fnExactDepthOf", apart := false, narrowed := true }
def FnExactDepthOfUptoSaid : Prop := fnExactDepthOfUptoRow.holds Try.pinned (OpenSpec.upto fnExactDepthOfSpec)

/-- 'laws.FnExactFormalDegree', WHERE WHAT IT READS IS OF BULK AT MOST 1048576: true; the input reads as it did. -/
def fnExactFormalDegreeUptoRow : OpenClaim := { program := "ytcbndfplfajoiaa", sum := "4a83ccc19ca84ea7c19d78c866bda839e3f6f78f579e74065ed5961fe5d48991", func := "loop.example/polycircuits/laws.FnExactFormalDegree", spec := "fnExactFormalDegree", apart := false, narrowed := true }
def FnExactFormalDegreeUptoSaid : Prop := fnExactFormalDegreeUptoRow.holds Try.pinned (OpenSpec.upto fnExactFormalDegreeSpec)

/-- 'laws.FnExactJoinCircuits', WHERE WHAT IT READS IS OF BULK AT MOST 1048576: true; the input reads as it did. -/
def fnExactJoinCircuitsUptoRow : OpenClaim := { program := "ytcbndfplfajoiaa", sum := "4a83ccc19ca84ea7c19d78c866bda839e3f6f78f579e74065ed5961fe5d48991", func := "loop.example/polycircuits/laws.FnExactJoinCircuits", spec := "fnExactJoinCircuits", apart := false, narrowed := true }
def FnExactJoinCircuitsUptoSaid : Prop := fnExactJoinCircuitsUptoRow.holds Try.pinned (OpenSpec.upto fnExactJoinCircuitsSpec)

/-- 'laws.FnExactCircuitOf', WHERE WHAT IT READS IS OF BULK AT MOST 1048576: true; the input reads as it did. -/
def fnExactCircuitOfUptoRow : OpenClaim := { program := "ytcbndfplfajoiaa", sum := "4a83ccc19ca84ea7c19d78c866bda839e3f6f78f579e74065ed5961fe5d48991", func := "loop.example/polycircuits/laws.FnExactCircuitOf", spec := "fnExactCircuitOf", apart := false, narrowed := true }
def FnExactCircuitOfUptoSaid : Prop := fnExactCircuitOfUptoRow.holds Try.pinned (OpenSpec.upto fnExactCircuitOfSpec)

end Rows
end Go.Proofs.Ytcbndfplfajoiaa
