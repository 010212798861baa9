/-
  No cell of these rows narrows 'for every input' (looked for: loops, veiled, ifaces, maps, wideKeys, modest, calm, conditions, laid).
  DERIVED. THE GIVEN ROWS OF THIS SEAT. 14 by the template 'for every input the law returns true; each argument reads behind the call as it read before'; 0 by the template 'total and deterministic' (their statements: YtiahcaihmgnicaaTotals.lean).
  GIVEN WITH THE SEED: the statements are not yours to turn. If you find one false, say at which input.
  Laid BY PROGRAM, IN A SANDBOX (cutbox-rows.mjs): the forced cells as the released guide's own fill.sh prints them over the translation 3b67eeb7292767ad… (all of the seat's roots in one cut). By AI agents, Wed Nov 11 2026. No macro, syntax, notation, axiom, sorry.
-/
import Derived.Test.YtiahcaihmgnicaaChecked
import GoSem.Claim
import GoSem.ClaimJoined
import GoSem.ClaimMapViews
import Derived.JoinedTies
import Derived.KernelRfl
namespace Go.Proofs.Ytiahcaihmgnicaa
/- THE CELL 'sum', in the pinned program and in every row, IS THE sha256 OF THE DUMP (.gsa) THAT YtiahcaihmgnicaaProg.lean LOADS. Nothing in Lean hashes anything: it is a label: what it is worth is what the hold of that sum in a sandbox is worth. -/
noncomputable def Try.pinned : Pinned := { name := "ytiahcaihmgnicaa", sum := "3b67eeb7292767adbfc3fb145faf864aff8fb970ea57e7c585c9b38bc22dfbce", checked := Try.checked }
namespace Rows
def none {H : Type} : Left H := { results := [], args := [] }

/-- 'laws.FnExactMakePoly': WHATEVER THE INPUT: true; the input reads as it did. -/
def fnExactMakePolySpec : ChangeSpec := { name := "fnExactMakePoly", fn := fun _ => fun
  | [d1, d2] => { results := [.lit (.bool true)], args := [d1, d2] }
  | _ => none }
def fnExactMakePolyRow : OpenClaim := { program := "ytiahcaihmgnicaa", sum := "3b67eeb7292767adbfc3fb145faf864aff8fb970ea57e7c585c9b38bc22dfbce", func := "loop.example/polycircuits/laws.FnExactMakePoly", spec := "fnExactMakePoly", inPlace := ["slices.overlaps[loop.example/polycircuits/impl.Term]"], unfollowed := true, recurses := true, plainKeys := false, apart := false }
def FnExactMakePolySaid : Prop := fnExactMakePolyRow.holds Try.pinned (OpenSpec.ofChange fnExactMakePolySpec)

/-- ITS FALSE NEIGHBOUR: 'it returns false'. Refute it at one input. -/
def fnExactMakePolyWrong : ChangeSpec := { name := "fnExactMakePoly", fn := fun _ => fun
  | [d1, d2] => { results := [.lit (.bool false)], args := [d1, d2] }
  | _ => none }
def FnExactMakePolyWrongFalsely : Prop := fnExactMakePolyRow.holds Try.pinned (OpenSpec.ofChange fnExactMakePolyWrong)

/-- 'laws.FnExactMulPoly': WHATEVER THE INPUT: true; the input reads as it did. -/
def fnExactMulPolySpec : ChangeSpec := { name := "fnExactMulPoly", fn := fun _ => fun
  | [d1, d2, d3] => { results := [.lit (.bool true)], args := [d1, d2, d3] }
  | _ => none }
def fnExactMulPolyRow : OpenClaim := { program := "ytiahcaihmgnicaa", sum := "3b67eeb7292767adbfc3fb145faf864aff8fb970ea57e7c585c9b38bc22dfbce", func := "loop.example/polycircuits/laws.FnExactMulPoly", spec := "fnExactMulPoly", inPlace := ["slices.overlaps[loop.example/polycircuits/impl.Term]"], unfollowed := true, recurses := true, plainKeys := false, apart := false }
def FnExactMulPolySaid : Prop := fnExactMulPolyRow.holds Try.pinned (OpenSpec.ofChange fnExactMulPolySpec)

/-- ITS FALSE NEIGHBOUR: 'it returns false'. Refute it at one input. -/
def fnExactMulPolyWrong : ChangeSpec := { name := "fnExactMulPoly", fn := fun _ => fun
  | [d1, d2, d3] => { results := [.lit (.bool false)], args := [d1, d2, d3] }
  | _ => none }
def FnExactMulPolyWrongFalsely : Prop := fnExactMulPolyRow.holds Try.pinned (OpenSpec.ofChange fnExactMulPolyWrong)

/-- 'laws.FnExactDerivePoly': WHATEVER THE INPUT: true; the input reads as it did. -/
def fnExactDerivePolySpec : ChangeSpec := { name := "fnExactDerivePoly", fn := fun _ => fun
  | [d1, d2, d3] => { results := [.lit (.bool true)], args := [d1, d2, d3] }
  | _ => none }
def fnExactDerivePolyRow : OpenClaim := { program := "ytiahcaihmgnicaa", sum := "3b67eeb7292767adbfc3fb145faf864aff8fb970ea57e7c585c9b38bc22dfbce", func := "loop.example/polycircuits/laws.FnExactDerivePoly", spec := "fnExactDerivePoly", inPlace := ["slices.overlaps[loop.example/polycircuits/impl.Term]"], unfollowed := true, recurses := true, plainKeys := false, apart := false }
def FnExactDerivePolySaid : Prop := fnExactDerivePolyRow.holds Try.pinned (OpenSpec.ofChange fnExactDerivePolySpec)

/-- ITS FALSE NEIGHBOUR: 'it returns false'. Refute it at one input. -/
def fnExactDerivePolyWrong : ChangeSpec := { name := "fnExactDerivePoly", fn := fun _ => fun
  | [d1, d2, d3] => { results := [.lit (.bool false)], args := [d1, d2, d3] }
  | _ => none }
def FnExactDerivePolyWrongFalsely : Prop := fnExactDerivePolyRow.holds Try.pinned (OpenSpec.ofChange fnExactDerivePolyWrong)

/-- 'laws.FnExactPutPoly': WHATEVER THE INPUT: true; the input reads as it did. -/
def fnExactPutPolySpec : ChangeSpec := { name := "fnExactPutPoly", fn := fun _ => fun
  | [d1, d2, d3, d4] => { results := [.lit (.bool true)], args := [d1, d2, d3, d4] }
  | _ => none }
def fnExactPutPolyRow : OpenClaim := { program := "ytiahcaihmgnicaa", sum := "3b67eeb7292767adbfc3fb145faf864aff8fb970ea57e7c585c9b38bc22dfbce", func := "loop.example/polycircuits/laws.FnExactPutPoly", spec := "fnExactPutPoly", inPlace := ["slices.overlaps[loop.example/polycircuits/impl.Term]"], unfollowed := true, recurses := true, plainKeys := false, apart := false }
def FnExactPutPolySaid : Prop := fnExactPutPolyRow.holds Try.pinned (OpenSpec.ofChange fnExactPutPolySpec)

/-- ITS FALSE NEIGHBOUR: 'it returns false'. Refute it at one input. -/
def fnExactPutPolyWrong : ChangeSpec := { name := "fnExactPutPoly", fn := fun _ => fun
  | [d1, d2, d3, d4] => { results := [.lit (.bool false)], args := [d1, d2, d3, d4] }
  | _ => none }
def FnExactPutPolyWrongFalsely : Prop := fnExactPutPolyRow.holds Try.pinned (OpenSpec.ofChange fnExactPutPolyWrong)

/-- 'laws.FnExactPolyOfCircuit': WHATEVER THE INPUT: true; the input reads as it did. -/
def fnExactPolyOfCircuitSpec : ChangeSpec := { name := "fnExactPolyOfCircuit", fn := fun _ => fun
  | [d1, d2] => { results := [.lit (.bool true)], args := [d1, d2] }
  | _ => none }
def fnExactPolyOfCircuitRow : OpenClaim := { program := "ytiahcaihmgnicaa", sum := "3b67eeb7292767adbfc3fb145faf864aff8fb970ea57e7c585c9b38bc22dfbce", func := "loop.example/polycircuits/laws.FnExactPolyOfCircuit", spec := "fnExactPolyOfCircuit", inPlace := ["slices.overlaps[loop.example/polycircuits/impl.Term]"], unfollowed := true, recurses := true, plainKeys := false, apart := false }
def FnExactPolyOfCircuitSaid : Prop := fnExactPolyOfCircuitRow.holds Try.pinned (OpenSpec.ofChange fnExactPolyOfCircuitSpec)

/-- ITS FALSE NEIGHBOUR: 'it returns false'. Refute it at one input. -/
def fnExactPolyOfCircuitWrong : ChangeSpec := { name := "fnExactPolyOfCircuit", fn := fun _ => fun
  | [d1, d2] => { results := [.lit (.bool false)], args := [d1, d2] }
  | _ => none }
def FnExactPolyOfCircuitWrongFalsely : Prop := fnExactPolyOfCircuitRow.holds Try.pinned (OpenSpec.ofChange fnExactPolyOfCircuitWrong)

/-- 'laws.FnExactCircuitOf': WHATEVER THE INPUT: true; the input reads as it did. -/
def fnExactCircuitOfSpec : ChangeSpec := { name := "fnExactCircuitOf", fn := fun _ => fun
  | [d1, d2] => { results := [.lit (.bool true)], args := [d1, d2] }
  | _ => none }
def fnExactCircuitOfRow : OpenClaim := { program := "ytiahcaihmgnicaa", sum := "3b67eeb7292767adbfc3fb145faf864aff8fb970ea57e7c585c9b38bc22dfbce", func := "loop.example/polycircuits/laws.FnExactCircuitOf", spec := "fnExactCircuitOf", plainKeys := false, apart := false }
def FnExactCircuitOfSaid : Prop := fnExactCircuitOfRow.holds Try.pinned (OpenSpec.ofChange fnExactCircuitOfSpec)

/-- ITS FALSE NEIGHBOUR: 'it returns false'. Refute it at one input. -/
def fnExactCircuitOfWrong : ChangeSpec := { name := "fnExactCircuitOf", fn := fun _ => fun
  | [d1, d2] => { results := [.lit (.bool false)], args := [d1, d2] }
  | _ => none }
def FnExactCircuitOfWrongFalsely : Prop := fnExactCircuitOfRow.holds Try.pinned (OpenSpec.ofChange fnExactCircuitOfWrong)

/-- 'laws.FnExactFormulaValid': WHATEVER THE INPUT: true; the input reads as it did. -/
def fnExactFormulaValidSpec : ChangeSpec := { name := "fnExactFormulaValid", fn := fun _ => fun
  | [d1, d2] => { results := [.lit (.bool true)], args := [d1, d2] }
  | _ => none }
def fnExactFormulaValidRow : OpenClaim := { program := "ytiahcaihmgnicaa", sum := "3b67eeb7292767adbfc3fb145faf864aff8fb970ea57e7c585c9b38bc22dfbce", func := "loop.example/polycircuits/laws.FnExactFormulaValid", spec := "fnExactFormulaValid", inPlace := ["internal/bytealg.IndexByteString", "internal/bytealg.IndexString"], recurses := true, named := ["internal/bytealg.MaxLen"], plainKeys := false, apart := false }
def FnExactFormulaValidSaid : Prop := fnExactFormulaValidRow.holds Try.pinned (OpenSpec.ofChange fnExactFormulaValidSpec)

/-- ITS FALSE NEIGHBOUR: 'it returns false'. Refute it at one input. -/
def fnExactFormulaValidWrong : ChangeSpec := { name := "fnExactFormulaValid", fn := fun _ => fun
  | [d1, d2] => { results := [.lit (.bool false)], args := [d1, d2] }
  | _ => none }
def FnExactFormulaValidWrongFalsely : Prop := fnExactFormulaValidRow.holds Try.pinned (OpenSpec.ofChange fnExactFormulaValidWrong)

/-- 'laws.FnExactEvalFormula': WHATEVER THE INPUT: true; the input reads as it did. -/
def fnExactEvalFormulaSpec : ChangeSpec := { name := "fnExactEvalFormula", fn := fun _ => fun
  | [d1, d2, d3] => { results := [.lit (.bool true)], args := [d1, d2, d3] }
  | _ => none }
def fnExactEvalFormulaRow : OpenClaim := { program := "ytiahcaihmgnicaa", sum := "3b67eeb7292767adbfc3fb145faf864aff8fb970ea57e7c585c9b38bc22dfbce", func := "loop.example/polycircuits/laws.FnExactEvalFormula", spec := "fnExactEvalFormula", inPlace := ["internal/bytealg.IndexByteString", "internal/bytealg.IndexString"], recurses := true, named := ["internal/bytealg.MaxLen"], plainKeys := false, apart := false }
def FnExactEvalFormulaSaid : Prop := fnExactEvalFormulaRow.holds Try.pinned (OpenSpec.ofChange fnExactEvalFormulaSpec)

/-- ITS FALSE NEIGHBOUR: 'it returns false'. Refute it at one input. -/
def fnExactEvalFormulaWrong : ChangeSpec := { name := "fnExactEvalFormula", fn := fun _ => fun
  | [d1, d2, d3] => { results := [.lit (.bool false)], args := [d1, d2, d3] }
  | _ => none }
def FnExactEvalFormulaWrongFalsely : Prop := fnExactEvalFormulaRow.holds Try.pinned (OpenSpec.ofChange fnExactEvalFormulaWrong)

/-- 'laws.FnExactPolyOfFormula': WHATEVER THE INPUT: true; the input reads as it did. -/
def fnExactPolyOfFormulaSpec : ChangeSpec := { name := "fnExactPolyOfFormula", fn := fun _ => fun
  | [d1, d2] => { results := [.lit (.bool true)], args := [d1, d2] }
  | _ => none }
def fnExactPolyOfFormulaRow : OpenClaim := { program := "ytiahcaihmgnicaa", sum := "3b67eeb7292767adbfc3fb145faf864aff8fb970ea57e7c585c9b38bc22dfbce", func := "loop.example/polycircuits/laws.FnExactPolyOfFormula", spec := "fnExactPolyOfFormula", inPlace := ["internal/bytealg.IndexByteString", "internal/bytealg.IndexString", "slices.overlaps[loop.example/polycircuits/impl.Term]"], unfollowed := true, recurses := true, named := ["internal/bytealg.MaxLen"], plainKeys := false, apart := false }
def FnExactPolyOfFormulaSaid : Prop := fnExactPolyOfFormulaRow.holds Try.pinned (OpenSpec.ofChange fnExactPolyOfFormulaSpec)

/-- ITS FALSE NEIGHBOUR: 'it returns false'. Refute it at one input. -/
def fnExactPolyOfFormulaWrong : ChangeSpec := { name := "fnExactPolyOfFormula", fn := fun _ => fun
  | [d1, d2] => { results := [.lit (.bool false)], args := [d1, d2] }
  | _ => none }
def FnExactPolyOfFormulaWrongFalsely : Prop := fnExactPolyOfFormulaRow.holds Try.pinned (OpenSpec.ofChange fnExactPolyOfFormulaWrong)

/-- 'laws.FnExactLeavesOf': WHATEVER THE INPUT: true; the input reads as it did. -/
def fnExactLeavesOfSpec : ChangeSpec := { name := "fnExactLeavesOf", fn := fun _ => fun
  | [d1, d2] => { results := [.lit (.bool true)], args := [d1, d2] }
  | _ => none }
def fnExactLeavesOfRow : OpenClaim := { program := "ytiahcaihmgnicaa", sum := "3b67eeb7292767adbfc3fb145faf864aff8fb970ea57e7c585c9b38bc22dfbce", func := "loop.example/polycircuits/laws.FnExactLeavesOf", spec := "fnExactLeavesOf", inPlace := ["internal/bytealg.IndexByteString", "internal/bytealg.IndexString"], recurses := true, named := ["internal/bytealg.MaxLen"], plainKeys := false, apart := false }
def FnExactLeavesOfSaid : Prop := fnExactLeavesOfRow.holds Try.pinned (OpenSpec.ofChange fnExactLeavesOfSpec)

/-- ITS FALSE NEIGHBOUR: 'it returns false'. Refute it at one input. -/
def fnExactLeavesOfWrong : ChangeSpec := { name := "fnExactLeavesOf", fn := fun _ => fun
  | [d1, d2] => { results := [.lit (.bool false)], args := [d1, d2] }
  | _ => none }
def FnExactLeavesOfWrongFalsely : Prop := fnExactLeavesOfRow.holds Try.pinned (OpenSpec.ofChange fnExactLeavesOfWrong)

/-- 'laws.FnExactCircuitOfFormula': WHATEVER THE INPUT: true; the input reads as it did. -/
def fnExactCircuitOfFormulaSpec : ChangeSpec := { name := "fnExactCircuitOfFormula", fn := fun _ => fun
  | [d1, d2] => { results := [.lit (.bool true)], args := [d1, d2] }
  | _ => none }
def fnExactCircuitOfFormulaRow : OpenClaim := { program := "ytiahcaihmgnicaa", sum := "3b67eeb7292767adbfc3fb145faf864aff8fb970ea57e7c585c9b38bc22dfbce", func := "loop.example/polycircuits/laws.FnExactCircuitOfFormula", spec := "fnExactCircuitOfFormula", inPlace := ["internal/bytealg.IndexByteString", "internal/bytealg.IndexString"], recurses := true, named := ["internal/bytealg.MaxLen"], plainKeys := false, apart := false }
def FnExactCircuitOfFormulaSaid : Prop := fnExactCircuitOfFormulaRow.holds Try.pinned (OpenSpec.ofChange fnExactCircuitOfFormulaSpec)

/-- ITS FALSE NEIGHBOUR: 'it returns false'. Refute it at one input. -/
def fnExactCircuitOfFormulaWrong : ChangeSpec := { name := "fnExactCircuitOfFormula", fn := fun _ => fun
  | [d1, d2] => { results := [.lit (.bool false)], args := [d1, d2] }
  | _ => none }
def FnExactCircuitOfFormulaWrongFalsely : Prop := fnExactCircuitOfFormulaRow.holds Try.pinned (OpenSpec.ofChange fnExactCircuitOfFormulaWrong)

/-- 'laws.FnExactFormulaOfCircuit': WHATEVER THE INPUT: true; the input reads as it did. -/
def fnExactFormulaOfCircuitSpec : ChangeSpec := { name := "fnExactFormulaOfCircuit", fn := fun _ => fun
  | [d1, d2] => { results := [.lit (.bool true)], args := [d1, d2] }
  | _ => none }
def fnExactFormulaOfCircuitRow : OpenClaim := { program := "ytiahcaihmgnicaa", sum := "3b67eeb7292767adbfc3fb145faf864aff8fb970ea57e7c585c9b38bc22dfbce", func := "loop.example/polycircuits/laws.FnExactFormulaOfCircuit", spec := "fnExactFormulaOfCircuit", unfollowed := true, recurses := true, plainKeys := false, apart := false }
def FnExactFormulaOfCircuitSaid : Prop := fnExactFormulaOfCircuitRow.holds Try.pinned (OpenSpec.ofChange fnExactFormulaOfCircuitSpec)

/-- ITS FALSE NEIGHBOUR: 'it returns false'. Refute it at one input. -/
def fnExactFormulaOfCircuitWrong : ChangeSpec := { name := "fnExactFormulaOfCircuit", fn := fun _ => fun
  | [d1, d2] => { results := [.lit (.bool false)], args := [d1, d2] }
  | _ => none }
def FnExactFormulaOfCircuitWrongFalsely : Prop := fnExactFormulaOfCircuitRow.holds Try.pinned (OpenSpec.ofChange fnExactFormulaOfCircuitWrong)

/-- 'laws.FnExactSpreadSize': WHATEVER THE INPUT: true; the input reads as it did. -/
def fnExactSpreadSizeSpec : ChangeSpec := { name := "fnExactSpreadSize", fn := fun _ => fun
  | [d1, d2] => { results := [.lit (.bool true)], args := [d1, d2] }
  | _ => none }
def fnExactSpreadSizeRow : OpenClaim := { program := "ytiahcaihmgnicaa", sum := "3b67eeb7292767adbfc3fb145faf864aff8fb970ea57e7c585c9b38bc22dfbce", func := "loop.example/polycircuits/laws.FnExactSpreadSize", spec := "fnExactSpreadSize", plainKeys := false, apart := false }
def FnExactSpreadSizeSaid : Prop := fnExactSpreadSizeRow.holds Try.pinned (OpenSpec.ofChange fnExactSpreadSizeSpec)

/-- ITS FALSE NEIGHBOUR: 'it returns false'. Refute it at one input. -/
def fnExactSpreadSizeWrong : ChangeSpec := { name := "fnExactSpreadSize", fn := fun _ => fun
  | [d1, d2] => { results := [.lit (.bool false)], args := [d1, d2] }
  | _ => none }
def FnExactSpreadSizeWrongFalsely : Prop := fnExactSpreadSizeRow.holds Try.pinned (OpenSpec.ofChange fnExactSpreadSizeWrong)

/-- 'laws.FnExactShowFormula': WHATEVER THE INPUT: true; the input reads as it did. -/
def fnExactShowFormulaSpec : ChangeSpec := { name := "fnExactShowFormula", fn := fun _ => fun
  | [d1, d2] => { results := [.lit (.bool true)], args := [d1, d2] }
  | _ => none }
def fnExactShowFormulaRow : OpenClaim := { program := "ytiahcaihmgnicaa", sum := "3b67eeb7292767adbfc3fb145faf864aff8fb970ea57e7c585c9b38bc22dfbce", func := "loop.example/polycircuits/laws.FnExactShowFormula", spec := "fnExactShowFormula", inPlace := ["internal/bytealg.IndexByteString", "internal/bytealg.IndexString"], unfollowed := true, recurses := true, named := ["internal/bytealg.MaxLen"], plainKeys := false, apart := false }
def FnExactShowFormulaSaid : Prop := fnExactShowFormulaRow.holds Try.pinned (OpenSpec.ofChange fnExactShowFormulaSpec)

/-- ITS FALSE NEIGHBOUR: 'it returns false'. Refute it at one input. -/
def fnExactShowFormulaWrong : ChangeSpec := { name := "fnExactShowFormula", fn := fun _ => fun
  | [d1, d2] => { results := [.lit (.bool false)], args := [d1, d2] }
  | _ => none }
def FnExactShowFormulaWrongFalsely : Prop := fnExactShowFormulaRow.holds Try.pinned (OpenSpec.ofChange fnExactShowFormulaWrong)

/- THE SECOND FORM. 'bulk': how many values and letters a reading holds, each counted each time it is reached (what is shared counts as often as it is met; a slice's spare places count too). A statement '..UptoSaid' is the law's where the arguments, and the package variables that the reading takes, are together of bulk at most 1048576: NARROWER than '..Said'. Prove '..Said' where nothing that the law and all that it calls make is longer than what came in: it says more and counts as full. Else prove '..UptoSaid'. A law counts once. -/
mutual
def uptoBulk {H : Type} : DataW H → Nat
  | .lit (.string bytes) => bytes.length + 1
  | .lit _ => 1
  | .nil => 1
  | .ptr d => uptoBulk d + 1
  | .slice elems spare => uptoBulkAll elems + uptoBulkAll spare + 1
  | .agg parts => uptoBulkAll parts + 1
  | .iface _ d => uptoBulk d + 1
  | .map entries => uptoBulkEntries entries + 1
  | .held _ => 1
def uptoBulkAll {H : Type} : List (DataW H) → Nat
  | [] => 0
  | d :: r => uptoBulk d + uptoBulkAll r
def uptoBulkEntries {H : Type} : List (Lit × DataW H) → Nat
  | [] => 0
  | x :: r => uptoBulkEntry x + uptoBulkEntries r
def uptoBulkEntry {H : Type} : Lit × DataW H → Nat
  | (.string bytes, d) => bytes.length + uptoBulk d + 1
  | (_, d) => uptoBulk d + 1
 end
def uptoSmall : (H : Type) → List (DataW H) → Bool := fun _ ds => decide (uptoBulkAll ds ≤ 1048576)
def OpenSpec.upto (s : _root_.Go.ChangeSpec) : _root_.Go.OpenSpec := { _root_.Go.OpenSpec.ofChange s with cond := some uptoSmall }

/-- 'laws.FnExactMakePoly', WHERE WHAT IT READS IS OF BULK AT MOST 1048576: true; the input reads as it did. -/
def fnExactMakePolyUptoRow : OpenClaim := { program := "ytiahcaihmgnicaa", sum := "3b67eeb7292767adbfc3fb145faf864aff8fb970ea57e7c585c9b38bc22dfbce", func := "loop.example/polycircuits/laws.FnExactMakePoly", spec := "fnExactMakePoly", inPlace := ["slices.overlaps[loop.example/polycircuits/impl.Term]"], unfollowed := true, recurses := true, plainKeys := false, apart := false, narrowed := true }
def FnExactMakePolyUptoSaid : Prop := fnExactMakePolyUptoRow.holds Try.pinned (OpenSpec.upto fnExactMakePolySpec)

/-- 'laws.FnExactMulPoly', WHERE WHAT IT READS IS OF BULK AT MOST 1048576: true; the input reads as it did. -/
def fnExactMulPolyUptoRow : OpenClaim := { program := "ytiahcaihmgnicaa", sum := "3b67eeb7292767adbfc3fb145faf864aff8fb970ea57e7c585c9b38bc22dfbce", func := "loop.example/polycircuits/laws.FnExactMulPoly", spec := "fnExactMulPoly", inPlace := ["slices.overlaps[loop.example/polycircuits/impl.Term]"], unfollowed := true, recurses := true, plainKeys := false, apart := false, narrowed := true }
def FnExactMulPolyUptoSaid : Prop := fnExactMulPolyUptoRow.holds Try.pinned (OpenSpec.upto fnExactMulPolySpec)

/-- 'laws.FnExactDerivePoly', WHERE WHAT IT READS IS OF BULK AT MOST 1048576: true; the input reads as it did. -/
def fnExactDerivePolyUptoRow : OpenClaim := { program := "ytiahcaihmgnicaa", sum := "3b67eeb7292767adbfc3fb145faf864aff8fb970ea57e7c585c9b38bc22dfbce", func := "loop.example/polycircuits/laws.FnExactDerivePoly", spec := "fnExactDerivePoly", inPlace := ["slices.overlaps[loop.example/polycircuits/impl.Term]"], unfollowed := true, recurses := true, plainKeys := false, apart := false, narrowed := true }
def FnExactDerivePolyUptoSaid : Prop := fnExactDerivePolyUptoRow.holds Try.pinned (OpenSpec.upto fnExactDerivePolySpec)

/-- 'laws.FnExactPutPoly', WHERE WHAT IT READS IS OF BULK AT MOST 1048576: true; the input reads as it did. -/
def fnExactPutPolyUptoRow : OpenClaim := { program := "ytiahcaihmgnicaa", sum := "3b67eeb7292767adbfc3fb145faf864aff8fb970ea57e7c585c9b38bc22dfbce", func := "loop.example/polycircuits/laws.FnExactPutPoly", spec := "fnExactPutPoly", inPlace := ["slices.overlaps[loop.example/polycircuits/impl.Term]"], unfollowed := true, recurses := true, plainKeys := false, apart := false, narrowed := true }
def FnExactPutPolyUptoSaid : Prop := fnExactPutPolyUptoRow.holds Try.pinned (OpenSpec.upto fnExactPutPolySpec)

/-- 'laws.FnExactPolyOfCircuit', WHERE WHAT IT READS IS OF BULK AT MOST 1048576: true; the input reads as it did. -/
def fnExactPolyOfCircuitUptoRow : OpenClaim := { program := "ytiahcaihmgnicaa", sum := "3b67eeb7292767adbfc3fb145faf864aff8fb970ea57e7c585c9b38bc22dfbce", func := "loop.example/polycircuits/laws.FnExactPolyOfCircuit", spec := "fnExactPolyOfCircuit", inPlace := ["slices.overlaps[loop.example/polycircuits/impl.Term]"], unfollowed := true, recurses := true, plainKeys := false, apart := false, narrowed := true }
def FnExactPolyOfCircuitUptoSaid : Prop := fnExactPolyOfCircuitUptoRow.holds Try.pinned (OpenSpec.upto fnExactPolyOfCircuitSpec)

/-- 'laws.FnExactCircuitOf', WHERE WHAT IT READS IS OF BULK AT MOST 1048576: true; the input reads as it did. -/
def fnExactCircuitOfUptoRow : OpenClaim := { program := "ytiahcaihmgnicaa", sum := "3b67eeb7292767adbfc3fb145faf864aff8fb970ea57e7c585c9b38bc22dfbce", func := "loop.example/polycircuits/laws.FnExactCircuitOf", spec := "fnExactCircuitOf", plainKeys := false, apart := false, narrowed := true }
def FnExactCircuitOfUptoSaid : Prop := fnExactCircuitOfUptoRow.holds Try.pinned (OpenSpec.upto fnExactCircuitOfSpec)

/-- 'laws.FnExactFormulaValid', WHERE WHAT IT READS IS OF BULK AT MOST 1048576: true; the input reads as it did. -/
def fnExactFormulaValidUptoRow : OpenClaim := { program := "ytiahcaihmgnicaa", sum := "3b67eeb7292767adbfc3fb145faf864aff8fb970ea57e7c585c9b38bc22dfbce", func := "loop.example/polycircuits/laws.FnExactFormulaValid", spec := "fnExactFormulaValid", inPlace := ["internal/bytealg.IndexByteString", "internal/bytealg.IndexString"], recurses := true, named := ["internal/bytealg.MaxLen"], plainKeys := false, apart := false, narrowed := true }
def FnExactFormulaValidUptoSaid : Prop := fnExactFormulaValidUptoRow.holds Try.pinned (OpenSpec.upto fnExactFormulaValidSpec)

/-- 'laws.FnExactEvalFormula', WHERE WHAT IT READS IS OF BULK AT MOST 1048576: true; the input reads as it did. -/
def fnExactEvalFormulaUptoRow : OpenClaim := { program := "ytiahcaihmgnicaa", sum := "3b67eeb7292767adbfc3fb145faf864aff8fb970ea57e7c585c9b38bc22dfbce", func := "loop.example/polycircuits/laws.FnExactEvalFormula", spec := "fnExactEvalFormula", inPlace := ["internal/bytealg.IndexByteString", "internal/bytealg.IndexString"], recurses := true, named := ["internal/bytealg.MaxLen"], plainKeys := false, apart := false, narrowed := true }
def FnExactEvalFormulaUptoSaid : Prop := fnExactEvalFormulaUptoRow.holds Try.pinned (OpenSpec.upto fnExactEvalFormulaSpec)

/-- 'laws.FnExactPolyOfFormula', WHERE WHAT IT READS IS OF BULK AT MOST 1048576: true; the input reads as it did. -/
def fnExactPolyOfFormulaUptoRow : OpenClaim := { program := "ytiahcaihmgnicaa", sum := "3b67eeb7292767adbfc3fb145faf864aff8fb970ea57e7c585c9b38bc22dfbce", func := "loop.example/polycircuits/laws.FnExactPolyOfFormula", spec := "fnExactPolyOfFormula", inPlace := ["internal/bytealg.IndexByteString", "internal/bytealg.IndexString", "slices.overlaps[loop.example/polycircuits/impl.Term]"], unfollowed := true, recurses := true, named := ["internal/bytealg.MaxLen"], plainKeys := false, apart := false, narrowed := true }
def FnExactPolyOfFormulaUptoSaid : Prop := fnExactPolyOfFormulaUptoRow.holds Try.pinned (OpenSpec.upto fnExactPolyOfFormulaSpec)

/-- 'laws.FnExactLeavesOf', WHERE WHAT IT READS IS OF BULK AT MOST 1048576: true; the input reads as it did. -/
def fnExactLeavesOfUptoRow : OpenClaim := { program := "ytiahcaihmgnicaa", sum := "3b67eeb7292767adbfc3fb145faf864aff8fb970ea57e7c585c9b38bc22dfbce", func := "loop.example/polycircuits/laws.FnExactLeavesOf", spec := "fnExactLeavesOf", inPlace := ["internal/bytealg.IndexByteString", "internal/bytealg.IndexString"], recurses := true, named := ["internal/bytealg.MaxLen"], plainKeys := false, apart := false, narrowed := true }
def FnExactLeavesOfUptoSaid : Prop := fnExactLeavesOfUptoRow.holds Try.pinned (OpenSpec.upto fnExactLeavesOfSpec)

/-- 'laws.FnExactCircuitOfFormula', WHERE WHAT IT READS IS OF BULK AT MOST 1048576: true; the input reads as it did. -/
def fnExactCircuitOfFormulaUptoRow : OpenClaim := { program := "ytiahcaihmgnicaa", sum := "3b67eeb7292767adbfc3fb145faf864aff8fb970ea57e7c585c9b38bc22dfbce", func := "loop.example/polycircuits/laws.FnExactCircuitOfFormula", spec := "fnExactCircuitOfFormula", inPlace := ["internal/bytealg.IndexByteString", "internal/bytealg.IndexString"], recurses := true, named := ["internal/bytealg.MaxLen"], plainKeys := false, apart := false, narrowed := true }
def FnExactCircuitOfFormulaUptoSaid : Prop := fnExactCircuitOfFormulaUptoRow.holds Try.pinned (OpenSpec.upto fnExactCircuitOfFormulaSpec)

/-- 'laws.FnExactFormulaOfCircuit', WHERE WHAT IT READS IS OF BULK AT MOST 1048576: true; the input reads as it did. -/
def fnExactFormulaOfCircuitUptoRow : OpenClaim := { program := "ytiahcaihmgnicaa", sum := "3b67eeb7292767adbfc3fb145faf864aff8fb970ea57e7c585c9b38bc22dfbce", func := "loop.example/polycircuits/laws.FnExactFormulaOfCircuit", spec := "fnExactFormulaOfCircuit", unfollowed := true, recurses := true, plainKeys := false, apart := false, narrowed := true }
def FnExactFormulaOfCircuitUptoSaid : Prop := fnExactFormulaOfCircuitUptoRow.holds Try.pinned (OpenSpec.upto fnExactFormulaOfCircuitSpec)

/-- 'laws.FnExactSpreadSize', WHERE WHAT IT READS IS OF BULK AT MOST 1048576: true; the input reads as it did. -/
def fnExactSpreadSizeUptoRow : OpenClaim := { program := "ytiahcaihmgnicaa", sum := "3b67eeb7292767adbfc3fb145faf864aff8fb970ea57e7c585c9b38bc22dfbce", func := "loop.example/polycircuits/laws.FnExactSpreadSize", spec := "fnExactSpreadSize", plainKeys := false, apart := false, narrowed := true }
def FnExactSpreadSizeUptoSaid : Prop := fnExactSpreadSizeUptoRow.holds Try.pinned (OpenSpec.upto fnExactSpreadSizeSpec)

/-- 'laws.FnExactShowFormula', WHERE WHAT IT READS IS OF BULK AT MOST 1048576: true; the input reads as it did. -/
def fnExactShowFormulaUptoRow : OpenClaim := { program := "ytiahcaihmgnicaa", sum := "3b67eeb7292767adbfc3fb145faf864aff8fb970ea57e7c585c9b38bc22dfbce", func := "loop.example/polycircuits/laws.FnExactShowFormula", spec := "fnExactShowFormula", inPlace := ["internal/bytealg.IndexByteString", "internal/bytealg.IndexString"], unfollowed := true, recurses := true, named := ["internal/bytealg.MaxLen"], plainKeys := false, apart := false, narrowed := true }
def FnExactShowFormulaUptoSaid : Prop := fnExactShowFormulaUptoRow.holds Try.pinned (OpenSpec.upto fnExactShowFormulaSpec)

end Rows
end Go.Proofs.Ytiahcaihmgnicaa
