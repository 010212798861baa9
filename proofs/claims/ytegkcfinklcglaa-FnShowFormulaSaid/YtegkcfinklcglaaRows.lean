/-
  No cell of these rows narrows 'for every input' (looked for: loops, veiled, ifaces, maps, wideKeys, modest, calm, conditions, laid).
  DERIVED. THE GIVEN ROWS OF THIS SEAT. 14 by the template 'for every input the law returns true; each argument reads behind the call as it read before'; 0 by the template 'total and deterministic' (their statements: YtegkcfinklcglaaTotals.lean).
  GIVEN WITH THE SEED: the statements are not yours to turn. If you find one false, say at which input.
  Laid BY PROGRAM, IN A SANDBOX (cutbox-rows.mjs): the forced cells as the released guide's own fill.sh prints them over the translation c56a16b9cbf8e916… (all of the seat's roots in one cut). By AI agents, Wed Nov 11 2026. No macro, syntax, notation, axiom, sorry.
-/
import Derived.Test.YtegkcfinklcglaaChecked
import GoSem.Claim
import GoSem.ClaimJoined
import GoSem.ClaimMapViews
import Derived.JoinedTies
import Derived.KernelRfl
namespace Go.Proofs.Ytegkcfinklcglaa
/- THE CELL 'sum', in the pinned program and in every row, IS THE sha256 OF THE DUMP (.gsa) THAT YtegkcfinklcglaaProg.lean LOADS. Nothing in Lean hashes anything: it is a label: what it is worth is what the hold of that sum in a sandbox is worth. -/
noncomputable def Try.pinned : Pinned := { name := "ytegkcfinklcglaa", sum := "c56a16b9cbf8e916c55fc1c4244c78a8e313f776e6b846e4c7f2417ef9f5af2f", checked := Try.checked }
namespace Rows
def none {H : Type} : Left H := { results := [], args := [] }

/-- 'laws.FnMakePoly': WHATEVER THE INPUT: true; the input reads as it did. -/
def fnMakePolySpec : ChangeSpec := { name := "fnMakePoly", fn := fun _ => fun
  | [d] => { results := [.lit (.bool true)], args := [d] }
  | _ => none }
def fnMakePolyRow : OpenClaim := { program := "ytegkcfinklcglaa", sum := "c56a16b9cbf8e916c55fc1c4244c78a8e313f776e6b846e4c7f2417ef9f5af2f", func := "loop.example/polycircuits/laws.FnMakePoly", spec := "fnMakePoly", inPlace := ["slices.overlaps[loop.example/polycircuits/impl.Term]"], unfollowed := true, recurses := true, plainKeys := false, apart := false }
def FnMakePolySaid : Prop := fnMakePolyRow.holds Try.pinned (OpenSpec.ofChange fnMakePolySpec)

/-- ITS FALSE NEIGHBOUR: 'it returns false'. Refute it at one input. -/
def fnMakePolyWrong : ChangeSpec := { name := "fnMakePoly", fn := fun _ => fun
  | [d] => { results := [.lit (.bool false)], args := [d] }
  | _ => none }
def FnMakePolyWrongFalsely : Prop := fnMakePolyRow.holds Try.pinned (OpenSpec.ofChange fnMakePolyWrong)

/-- 'laws.FnAddPoly': WHATEVER THE INPUT: true; the input reads as it did. -/
def fnAddPolySpec : ChangeSpec := { name := "fnAddPoly", fn := fun _ => fun
  | [d1, d2] => { results := [.lit (.bool true)], args := [d1, d2] }
  | _ => none }
def fnAddPolyRow : OpenClaim := { program := "ytegkcfinklcglaa", sum := "c56a16b9cbf8e916c55fc1c4244c78a8e313f776e6b846e4c7f2417ef9f5af2f", func := "loop.example/polycircuits/laws.FnAddPoly", spec := "fnAddPoly", inPlace := ["slices.overlaps[loop.example/polycircuits/impl.Term]"], unfollowed := true, recurses := true, plainKeys := false, apart := false }
def FnAddPolySaid : Prop := fnAddPolyRow.holds Try.pinned (OpenSpec.ofChange fnAddPolySpec)

/-- ITS FALSE NEIGHBOUR: 'it returns false'. Refute it at one input. -/
def fnAddPolyWrong : ChangeSpec := { name := "fnAddPoly", fn := fun _ => fun
  | [d1, d2] => { results := [.lit (.bool false)], args := [d1, d2] }
  | _ => none }
def FnAddPolyWrongFalsely : Prop := fnAddPolyRow.holds Try.pinned (OpenSpec.ofChange fnAddPolyWrong)

/-- 'laws.FnMulPoly': WHATEVER THE INPUT: true; the input reads as it did. -/
def fnMulPolySpec : ChangeSpec := { name := "fnMulPoly", fn := fun _ => fun
  | [d1, d2] => { results := [.lit (.bool true)], args := [d1, d2] }
  | _ => none }
def fnMulPolyRow : OpenClaim := { program := "ytegkcfinklcglaa", sum := "c56a16b9cbf8e916c55fc1c4244c78a8e313f776e6b846e4c7f2417ef9f5af2f", func := "loop.example/polycircuits/laws.FnMulPoly", spec := "fnMulPoly", inPlace := ["slices.overlaps[loop.example/polycircuits/impl.Term]"], unfollowed := true, recurses := true, plainKeys := false, apart := false }
def FnMulPolySaid : Prop := fnMulPolyRow.holds Try.pinned (OpenSpec.ofChange fnMulPolySpec)

/-- ITS FALSE NEIGHBOUR: 'it returns false'. Refute it at one input. -/
def fnMulPolyWrong : ChangeSpec := { name := "fnMulPoly", fn := fun _ => fun
  | [d1, d2] => { results := [.lit (.bool false)], args := [d1, d2] }
  | _ => none }
def FnMulPolyWrongFalsely : Prop := fnMulPolyRow.holds Try.pinned (OpenSpec.ofChange fnMulPolyWrong)

/-- 'laws.FnDerivePoly': WHATEVER THE INPUT: true; the input reads as it did. -/
def fnDerivePolySpec : ChangeSpec := { name := "fnDerivePoly", fn := fun _ => fun
  | [d1, d2] => { results := [.lit (.bool true)], args := [d1, d2] }
  | _ => none }
def fnDerivePolyRow : OpenClaim := { program := "ytegkcfinklcglaa", sum := "c56a16b9cbf8e916c55fc1c4244c78a8e313f776e6b846e4c7f2417ef9f5af2f", func := "loop.example/polycircuits/laws.FnDerivePoly", spec := "fnDerivePoly", inPlace := ["slices.overlaps[loop.example/polycircuits/impl.Term]"], unfollowed := true, recurses := true, plainKeys := false, apart := false }
def FnDerivePolySaid : Prop := fnDerivePolyRow.holds Try.pinned (OpenSpec.ofChange fnDerivePolySpec)

/-- ITS FALSE NEIGHBOUR: 'it returns false'. Refute it at one input. -/
def fnDerivePolyWrong : ChangeSpec := { name := "fnDerivePoly", fn := fun _ => fun
  | [d1, d2] => { results := [.lit (.bool false)], args := [d1, d2] }
  | _ => none }
def FnDerivePolyWrongFalsely : Prop := fnDerivePolyRow.holds Try.pinned (OpenSpec.ofChange fnDerivePolyWrong)

/-- 'laws.FnPartPoly': WHATEVER THE INPUT: true; the input reads as it did. -/
def fnPartPolySpec : ChangeSpec := { name := "fnPartPoly", fn := fun _ => fun
  | [d] => { results := [.lit (.bool true)], args := [d] }
  | _ => none }
def fnPartPolyRow : OpenClaim := { program := "ytegkcfinklcglaa", sum := "c56a16b9cbf8e916c55fc1c4244c78a8e313f776e6b846e4c7f2417ef9f5af2f", func := "loop.example/polycircuits/laws.FnPartPoly", spec := "fnPartPoly", inPlace := ["slices.overlaps[loop.example/polycircuits/impl.Term]"], unfollowed := true, recurses := true, plainKeys := false, apart := false }
def FnPartPolySaid : Prop := fnPartPolyRow.holds Try.pinned (OpenSpec.ofChange fnPartPolySpec)

/-- ITS FALSE NEIGHBOUR: 'it returns false'. Refute it at one input. -/
def fnPartPolyWrong : ChangeSpec := { name := "fnPartPoly", fn := fun _ => fun
  | [d] => { results := [.lit (.bool false)], args := [d] }
  | _ => none }
def FnPartPolyWrongFalsely : Prop := fnPartPolyRow.holds Try.pinned (OpenSpec.ofChange fnPartPolyWrong)

/-- 'laws.FnPutPoly': WHATEVER THE INPUT: true; the input reads as it did. -/
def fnPutPolySpec : ChangeSpec := { name := "fnPutPoly", fn := fun _ => fun
  | [d] => { results := [.lit (.bool true)], args := [d] }
  | _ => none }
def fnPutPolyRow : OpenClaim := { program := "ytegkcfinklcglaa", sum := "c56a16b9cbf8e916c55fc1c4244c78a8e313f776e6b846e4c7f2417ef9f5af2f", func := "loop.example/polycircuits/laws.FnPutPoly", spec := "fnPutPoly", inPlace := ["slices.overlaps[loop.example/polycircuits/impl.Term]"], unfollowed := true, recurses := true, plainKeys := false, apart := false }
def FnPutPolySaid : Prop := fnPutPolyRow.holds Try.pinned (OpenSpec.ofChange fnPutPolySpec)

/-- ITS FALSE NEIGHBOUR: 'it returns false'. Refute it at one input. -/
def fnPutPolyWrong : ChangeSpec := { name := "fnPutPoly", fn := fun _ => fun
  | [d] => { results := [.lit (.bool false)], args := [d] }
  | _ => none }
def FnPutPolyWrongFalsely : Prop := fnPutPolyRow.holds Try.pinned (OpenSpec.ofChange fnPutPolyWrong)

/-- 'laws.FnPolyOfCircuit': WHATEVER THE INPUT: true; the input reads as it did. -/
def fnPolyOfCircuitSpec : ChangeSpec := { name := "fnPolyOfCircuit", fn := fun _ => fun
  | [d1, d2] => { results := [.lit (.bool true)], args := [d1, d2] }
  | _ => none }
def fnPolyOfCircuitRow : OpenClaim := { program := "ytegkcfinklcglaa", sum := "c56a16b9cbf8e916c55fc1c4244c78a8e313f776e6b846e4c7f2417ef9f5af2f", func := "loop.example/polycircuits/laws.FnPolyOfCircuit", spec := "fnPolyOfCircuit", inPlace := ["slices.overlaps[loop.example/polycircuits/impl.Term]"], unfollowed := true, recurses := true, plainKeys := false, apart := false }
def FnPolyOfCircuitSaid : Prop := fnPolyOfCircuitRow.holds Try.pinned (OpenSpec.ofChange fnPolyOfCircuitSpec)

/-- ITS FALSE NEIGHBOUR: 'it returns false'. Refute it at one input. -/
def fnPolyOfCircuitWrong : ChangeSpec := { name := "fnPolyOfCircuit", fn := fun _ => fun
  | [d1, d2] => { results := [.lit (.bool false)], args := [d1, d2] }
  | _ => none }
def FnPolyOfCircuitWrongFalsely : Prop := fnPolyOfCircuitRow.holds Try.pinned (OpenSpec.ofChange fnPolyOfCircuitWrong)

/-- 'laws.FnPrune': WHATEVER THE INPUT: true; the input reads as it did. -/
def fnPruneSpec : ChangeSpec := { name := "fnPrune", fn := fun _ => fun
  | [d] => { results := [.lit (.bool true)], args := [d] }
  | _ => none }
def fnPruneRow : OpenClaim := { program := "ytegkcfinklcglaa", sum := "c56a16b9cbf8e916c55fc1c4244c78a8e313f776e6b846e4c7f2417ef9f5af2f", func := "loop.example/polycircuits/laws.FnPrune", spec := "fnPrune", inPlace := ["slices.overlaps[loop.example/polycircuits/impl.Term]"], unfollowed := true, recurses := true, plainKeys := false, apart := false }
def FnPruneSaid : Prop := fnPruneRow.holds Try.pinned (OpenSpec.ofChange fnPruneSpec)

/-- ITS FALSE NEIGHBOUR: 'it returns false'. Refute it at one input. -/
def fnPruneWrong : ChangeSpec := { name := "fnPrune", fn := fun _ => fun
  | [d] => { results := [.lit (.bool false)], args := [d] }
  | _ => none }
def FnPruneWrongFalsely : Prop := fnPruneRow.holds Try.pinned (OpenSpec.ofChange fnPruneWrong)

/-- 'laws.FnCircuitOf': WHATEVER THE INPUT: true; the input reads as it did. -/
def fnCircuitOfSpec : ChangeSpec := { name := "fnCircuitOf", fn := fun _ => fun
  | [d] => { results := [.lit (.bool true)], args := [d] }
  | _ => none }
def fnCircuitOfRow : OpenClaim := { program := "ytegkcfinklcglaa", sum := "c56a16b9cbf8e916c55fc1c4244c78a8e313f776e6b846e4c7f2417ef9f5af2f", func := "loop.example/polycircuits/laws.FnCircuitOf", spec := "fnCircuitOf", inPlace := ["slices.overlaps[loop.example/polycircuits/impl.Term]"], unfollowed := true, recurses := true, plainKeys := false, apart := false }
def FnCircuitOfSaid : Prop := fnCircuitOfRow.holds Try.pinned (OpenSpec.ofChange fnCircuitOfSpec)

/-- ITS FALSE NEIGHBOUR: 'it returns false'. Refute it at one input. -/
def fnCircuitOfWrong : ChangeSpec := { name := "fnCircuitOf", fn := fun _ => fun
  | [d] => { results := [.lit (.bool false)], args := [d] }
  | _ => none }
def FnCircuitOfWrongFalsely : Prop := fnCircuitOfRow.holds Try.pinned (OpenSpec.ofChange fnCircuitOfWrong)

/-- 'laws.FnCircuitOfFormula': WHATEVER THE INPUT: true; the input reads as it did. -/
def fnCircuitOfFormulaSpec : ChangeSpec := { name := "fnCircuitOfFormula", fn := fun _ => fun
  | [d] => { results := [.lit (.bool true)], args := [d] }
  | _ => none }
def fnCircuitOfFormulaRow : OpenClaim := { program := "ytegkcfinklcglaa", sum := "c56a16b9cbf8e916c55fc1c4244c78a8e313f776e6b846e4c7f2417ef9f5af2f", func := "loop.example/polycircuits/laws.FnCircuitOfFormula", spec := "fnCircuitOfFormula", inPlace := ["internal/bytealg.IndexByteString", "internal/bytealg.IndexString", "slices.overlaps[loop.example/polycircuits/impl.Term]"], unfollowed := true, recurses := true, named := ["internal/bytealg.MaxLen"], plainKeys := false, apart := false }
def FnCircuitOfFormulaSaid : Prop := fnCircuitOfFormulaRow.holds Try.pinned (OpenSpec.ofChange fnCircuitOfFormulaSpec)

/-- ITS FALSE NEIGHBOUR: 'it returns false'. Refute it at one input. -/
def fnCircuitOfFormulaWrong : ChangeSpec := { name := "fnCircuitOfFormula", fn := fun _ => fun
  | [d] => { results := [.lit (.bool false)], args := [d] }
  | _ => none }
def FnCircuitOfFormulaWrongFalsely : Prop := fnCircuitOfFormulaRow.holds Try.pinned (OpenSpec.ofChange fnCircuitOfFormulaWrong)

/-- 'laws.FnFormulaOfCircuit': WHATEVER THE INPUT: true; the input reads as it did. -/
def fnFormulaOfCircuitSpec : ChangeSpec := { name := "fnFormulaOfCircuit", fn := fun _ => fun
  | [d] => { results := [.lit (.bool true)], args := [d] }
  | _ => none }
def fnFormulaOfCircuitRow : OpenClaim := { program := "ytegkcfinklcglaa", sum := "c56a16b9cbf8e916c55fc1c4244c78a8e313f776e6b846e4c7f2417ef9f5af2f", func := "loop.example/polycircuits/laws.FnFormulaOfCircuit", spec := "fnFormulaOfCircuit", inPlace := ["internal/bytealg.IndexByteString", "internal/bytealg.IndexString", "slices.overlaps[loop.example/polycircuits/impl.Term]"], unfollowed := true, recurses := true, named := ["internal/bytealg.MaxLen"], plainKeys := false, apart := false }
def FnFormulaOfCircuitSaid : Prop := fnFormulaOfCircuitRow.holds Try.pinned (OpenSpec.ofChange fnFormulaOfCircuitSpec)

/-- ITS FALSE NEIGHBOUR: 'it returns false'. Refute it at one input. -/
def fnFormulaOfCircuitWrong : ChangeSpec := { name := "fnFormulaOfCircuit", fn := fun _ => fun
  | [d] => { results := [.lit (.bool false)], args := [d] }
  | _ => none }
def FnFormulaOfCircuitWrongFalsely : Prop := fnFormulaOfCircuitRow.holds Try.pinned (OpenSpec.ofChange fnFormulaOfCircuitWrong)

/-- 'laws.FnShowFormula': WHATEVER THE INPUT: true; the input reads as it did. -/
def fnShowFormulaSpec : ChangeSpec := { name := "fnShowFormula", fn := fun _ => fun
  | [d] => { results := [.lit (.bool true)], args := [d] }
  | _ => none }
def fnShowFormulaRow : OpenClaim := { program := "ytegkcfinklcglaa", sum := "c56a16b9cbf8e916c55fc1c4244c78a8e313f776e6b846e4c7f2417ef9f5af2f", func := "loop.example/polycircuits/laws.FnShowFormula", spec := "fnShowFormula", inPlace := ["internal/bytealg.IndexByteString", "internal/bytealg.IndexString"], unfollowed := true, recurses := true, named := ["internal/bytealg.MaxLen"], plainKeys := false, apart := false }
def FnShowFormulaSaid : Prop := fnShowFormulaRow.holds Try.pinned (OpenSpec.ofChange fnShowFormulaSpec)

/-- ITS FALSE NEIGHBOUR: 'it returns false'. Refute it at one input. -/
def fnShowFormulaWrong : ChangeSpec := { name := "fnShowFormula", fn := fun _ => fun
  | [d] => { results := [.lit (.bool false)], args := [d] }
  | _ => none }
def FnShowFormulaWrongFalsely : Prop := fnShowFormulaRow.holds Try.pinned (OpenSpec.ofChange fnShowFormulaWrong)

/-- 'laws.FnSameValues': WHATEVER THE INPUT: true; the input reads as it did. -/
def fnSameValuesSpec : ChangeSpec := { name := "fnSameValues", fn := fun _ => fun
  | [d] => { results := [.lit (.bool true)], args := [d] }
  | _ => none }
def fnSameValuesRow : OpenClaim := { program := "ytegkcfinklcglaa", sum := "c56a16b9cbf8e916c55fc1c4244c78a8e313f776e6b846e4c7f2417ef9f5af2f", func := "loop.example/polycircuits/laws.FnSameValues", spec := "fnSameValues", inPlace := ["slices.overlaps[loop.example/polycircuits/impl.Term]"], unfollowed := true, recurses := true, plainKeys := false, apart := false }
def FnSameValuesSaid : Prop := fnSameValuesRow.holds Try.pinned (OpenSpec.ofChange fnSameValuesSpec)

/-- ITS FALSE NEIGHBOUR: 'it returns false'. Refute it at one input. -/
def fnSameValuesWrong : ChangeSpec := { name := "fnSameValues", fn := fun _ => fun
  | [d] => { results := [.lit (.bool false)], args := [d] }
  | _ => none }
def FnSameValuesWrongFalsely : Prop := fnSameValuesRow.holds Try.pinned (OpenSpec.ofChange fnSameValuesWrong)

/-- 'laws.FnFirstNonzero': WHATEVER THE INPUT: true; the input reads as it did. -/
def fnFirstNonzeroSpec : ChangeSpec := { name := "fnFirstNonzero", fn := fun _ => fun
  | [d] => { results := [.lit (.bool true)], args := [d] }
  | _ => none }
def fnFirstNonzeroRow : OpenClaim := { program := "ytegkcfinklcglaa", sum := "c56a16b9cbf8e916c55fc1c4244c78a8e313f776e6b846e4c7f2417ef9f5af2f", func := "loop.example/polycircuits/laws.FnFirstNonzero", spec := "fnFirstNonzero", unfollowed := true, recurses := true, plainKeys := false, apart := false }
def FnFirstNonzeroSaid : Prop := fnFirstNonzeroRow.holds Try.pinned (OpenSpec.ofChange fnFirstNonzeroSpec)

/-- ITS FALSE NEIGHBOUR: 'it returns false'. Refute it at one input. -/
def fnFirstNonzeroWrong : ChangeSpec := { name := "fnFirstNonzero", fn := fun _ => fun
  | [d] => { results := [.lit (.bool false)], args := [d] }
  | _ => none }
def FnFirstNonzeroWrongFalsely : Prop := fnFirstNonzeroRow.holds Try.pinned (OpenSpec.ofChange fnFirstNonzeroWrong)

/- THE SECOND FORM. 'bulk': how many values and letters a reading holds, each counted each time it is reached (what is shared counts as often as it is met; a slice's spare places count too). A statement '..UptoSaid' is the law's where the arguments, and the package variables that the reading takes, are together of bulk at most 1048576: NARROWER than '..Said'. Prove '..Said' where nothing that the law and all that it calls make is longer than what came in: it says more and counts as full. Else prove '..UptoSaid'. A law counts once. -/
mutual
def uptoBulk {H : Type} : DataW H → Nat
  | .lit (.string bytes) => bytes.length + 1
  | .lit _ => 1
  | .nil => 1
  | .ptr d => uptoBulk d + 1
  | .slice elems spare => uptoBulkAll elems + uptoBulkAll spare + 1
  | .agg parts => uptoBulkAll parts + 1
  | .iface _ d => uptoBulk d + 1
  | .map entries => uptoBulkEntries entries + 1
  | .held _ => 1
def uptoBulkAll {H : Type} : List (DataW H) → Nat
  | [] => 0
  | d :: r => uptoBulk d + uptoBulkAll r
def uptoBulkEntries {H : Type} : List (Lit × DataW H) → Nat
  | [] => 0
  | x :: r => uptoBulkEntry x + uptoBulkEntries r
def uptoBulkEntry {H : Type} : Lit × DataW H → Nat
  | (.string bytes, d) => bytes.length + uptoBulk d + 1
  | (_, d) => uptoBulk d + 1
 end
def uptoSmall : (H : Type) → List (DataW H) → Bool := fun _ ds => decide (uptoBulkAll ds ≤ 1048576)
def OpenSpec.upto (s : _root_.Go.ChangeSpec) : _root_.Go.OpenSpec := { _root_.Go.OpenSpec.ofChange s with cond := some uptoSmall }

/-- 'laws.FnMakePoly', WHERE WHAT IT READS IS OF BULK AT MOST 1048576: true; the input reads as it did. -/
def fnMakePolyUptoRow : OpenClaim := { program := "ytegkcfinklcglaa", sum := "c56a16b9cbf8e916c55fc1c4244c78a8e313f776e6b846e4c7f2417ef9f5af2f", func := "loop.example/polycircuits/laws.FnMakePoly", spec := "fnMakePoly", inPlace := ["slices.overlaps[loop.example/polycircuits/impl.Term]"], unfollowed := true, recurses := true, plainKeys := false, apart := false, narrowed := true }
def FnMakePolyUptoSaid : Prop := fnMakePolyUptoRow.holds Try.pinned (OpenSpec.upto fnMakePolySpec)

/-- 'laws.FnAddPoly', WHERE WHAT IT READS IS OF BULK AT MOST 1048576: true; the input reads as it did. -/
def fnAddPolyUptoRow : OpenClaim := { program := "ytegkcfinklcglaa", sum := "c56a16b9cbf8e916c55fc1c4244c78a8e313f776e6b846e4c7f2417ef9f5af2f", func := "loop.example/polycircuits/laws.FnAddPoly", spec := "fnAddPoly", inPlace := ["slices.overlaps[loop.example/polycircuits/impl.Term]"], unfollowed := true, recurses := true, plainKeys := false, apart := false, narrowed := true }
def FnAddPolyUptoSaid : Prop := fnAddPolyUptoRow.holds Try.pinned (OpenSpec.upto fnAddPolySpec)

/-- 'laws.FnMulPoly', WHERE WHAT IT READS IS OF BULK AT MOST 1048576: true; the input reads as it did. -/
def fnMulPolyUptoRow : OpenClaim := { program := "ytegkcfinklcglaa", sum := "c56a16b9cbf8e916c55fc1c4244c78a8e313f776e6b846e4c7f2417ef9f5af2f", func := "loop.example/polycircuits/laws.FnMulPoly", spec := "fnMulPoly", inPlace := ["slices.overlaps[loop.example/polycircuits/impl.Term]"], unfollowed := true, recurses := true, plainKeys := false, apart := false, narrowed := true }
def FnMulPolyUptoSaid : Prop := fnMulPolyUptoRow.holds Try.pinned (OpenSpec.upto fnMulPolySpec)

/-- 'laws.FnDerivePoly', WHERE WHAT IT READS IS OF BULK AT MOST 1048576: true; the input reads as it did. -/
def fnDerivePolyUptoRow : OpenClaim := { program := "ytegkcfinklcglaa", sum := "c56a16b9cbf8e916c55fc1c4244c78a8e313f776e6b846e4c7f2417ef9f5af2f", func := "loop.example/polycircuits/laws.FnDerivePoly", spec := "fnDerivePoly", inPlace := ["slices.overlaps[loop.example/polycircuits/impl.Term]"], unfollowed := true, recurses := true, plainKeys := false, apart := false, narrowed := true }
def FnDerivePolyUptoSaid : Prop := fnDerivePolyUptoRow.holds Try.pinned (OpenSpec.upto fnDerivePolySpec)

/-- 'laws.FnPartPoly', WHERE WHAT IT READS IS OF BULK AT MOST 1048576: true; the input reads as it did. -/
def fnPartPolyUptoRow : OpenClaim := { program := "ytegkcfinklcglaa", sum := "c56a16b9cbf8e916c55fc1c4244c78a8e313f776e6b846e4c7f2417ef9f5af2f", func := "loop.example/polycircuits/laws.FnPartPoly", spec := "fnPartPoly", inPlace := ["slices.overlaps[loop.example/polycircuits/impl.Term]"], unfollowed := true, recurses := true, plainKeys := false, apart := false, narrowed := true }
def FnPartPolyUptoSaid : Prop := fnPartPolyUptoRow.holds Try.pinned (OpenSpec.upto fnPartPolySpec)

/-- 'laws.FnPutPoly', WHERE WHAT IT READS IS OF BULK AT MOST 1048576: true; the input reads as it did. -/
def fnPutPolyUptoRow : OpenClaim := { program := "ytegkcfinklcglaa", sum := "c56a16b9cbf8e916c55fc1c4244c78a8e313f776e6b846e4c7f2417ef9f5af2f", func := "loop.example/polycircuits/laws.FnPutPoly", spec := "fnPutPoly", inPlace := ["slices.overlaps[loop.example/polycircuits/impl.Term]"], unfollowed := true, recurses := true, plainKeys := false, apart := false, narrowed := true }
def FnPutPolyUptoSaid : Prop := fnPutPolyUptoRow.holds Try.pinned (OpenSpec.upto fnPutPolySpec)

/-- 'laws.FnPolyOfCircuit', WHERE WHAT IT READS IS OF BULK AT MOST 1048576: true; the input reads as it did. -/
def fnPolyOfCircuitUptoRow : OpenClaim := { program := "ytegkcfinklcglaa", sum := "c56a16b9cbf8e916c55fc1c4244c78a8e313f776e6b846e4c7f2417ef9f5af2f", func := "loop.example/polycircuits/laws.FnPolyOfCircuit", spec := "fnPolyOfCircuit", inPlace := ["slices.overlaps[loop.example/polycircuits/impl.Term]"], unfollowed := true, recurses := true, plainKeys := false, apart := false, narrowed := true }
def FnPolyOfCircuitUptoSaid : Prop := fnPolyOfCircuitUptoRow.holds Try.pinned (OpenSpec.upto fnPolyOfCircuitSpec)

/-- 'laws.FnPrune', WHERE WHAT IT READS IS OF BULK AT MOST 1048576: true; the input reads as it did. -/
def fnPruneUptoRow : OpenClaim := { program := "ytegkcfinklcglaa", sum := "c56a16b9cbf8e916c55fc1c4244c78a8e313f776e6b846e4c7f2417ef9f5af2f", func := "loop.example/polycircuits/laws.FnPrune", spec := "fnPrune", inPlace := ["slices.overlaps[loop.example/polycircuits/impl.Term]"], unfollowed := true, recurses := true, plainKeys := false, apart := false, narrowed := true }
def FnPruneUptoSaid : Prop := fnPruneUptoRow.holds Try.pinned (OpenSpec.upto fnPruneSpec)

/-- 'laws.FnCircuitOf', WHERE WHAT IT READS IS OF BULK AT MOST 1048576: true; the input reads as it did. -/
def fnCircuitOfUptoRow : OpenClaim := { program := "ytegkcfinklcglaa", sum := "c56a16b9cbf8e916c55fc1c4244c78a8e313f776e6b846e4c7f2417ef9f5af2f", func := "loop.example/polycircuits/laws.FnCircuitOf", spec := "fnCircuitOf", inPlace := ["slices.overlaps[loop.example/polycircuits/impl.Term]"], unfollowed := true, recurses := true, plainKeys := false, apart := false, narrowed := true }
def FnCircuitOfUptoSaid : Prop := fnCircuitOfUptoRow.holds Try.pinned (OpenSpec.upto fnCircuitOfSpec)

/-- 'laws.FnCircuitOfFormula', WHERE WHAT IT READS IS OF BULK AT MOST 1048576: true; the input reads as it did. -/
def fnCircuitOfFormulaUptoRow : OpenClaim := { program := "ytegkcfinklcglaa", sum := "c56a16b9cbf8e916c55fc1c4244c78a8e313f776e6b846e4c7f2417ef9f5af2f", func := "loop.example/polycircuits/laws.FnCircuitOfFormula", spec := "fnCircuitOfFormula", inPlace := ["internal/bytealg.IndexByteString", "internal/bytealg.IndexString", "slices.overlaps[loop.example/polycircuits/impl.Term]"], unfollowed := true, recurses := true, named := ["internal/bytealg.MaxLen"], plainKeys := false, apart := false, narrowed := true }
def FnCircuitOfFormulaUptoSaid : Prop := fnCircuitOfFormulaUptoRow.holds Try.pinned (OpenSpec.upto fnCircuitOfFormulaSpec)

/-- 'laws.FnFormulaOfCircuit', WHERE WHAT IT READS IS OF BULK AT MOST 1048576: true; the input reads as it did. -/
def fnFormulaOfCircuitUptoRow : OpenClaim := { program := "ytegkcfinklcglaa", sum := "c56a16b9cbf8e916c55fc1c4244c78a8e313f776e6b846e4c7f2417ef9f5af2f", func := "loop.example/polycircuits/laws.FnFormulaOfCircuit", spec := "fnFormulaOfCircuit", inPlace := ["internal/bytealg.IndexByteString", "internal/bytealg.IndexString", "slices.overlaps[loop.example/polycircuits/impl.Term]"], unfollowed := true, recurses := true, named := ["internal/bytealg.MaxLen"], plainKeys := false, apart := false, narrowed := true }
def FnFormulaOfCircuitUptoSaid : Prop := fnFormulaOfCircuitUptoRow.holds Try.pinned (OpenSpec.upto fnFormulaOfCircuitSpec)

/-- 'laws.FnShowFormula', WHERE WHAT IT READS IS OF BULK AT MOST 1048576: true; the input reads as it did. -/
def fnShowFormulaUptoRow : OpenClaim := { program := "ytegkcfinklcglaa", sum := "c56a16b9cbf8e916c55fc1c4244c78a8e313f776e6b846e4c7f2417ef9f5af2f", func := "loop.example/polycircuits/laws.FnShowFormula", spec := "fnShowFormula", inPlace := ["internal/bytealg.IndexByteString", "internal/bytealg.IndexString"], unfollowed := true, recurses := true, named := ["internal/bytealg.MaxLen"], plainKeys := false, apart := false, narrowed := true }
def FnShowFormulaUptoSaid : Prop := fnShowFormulaUptoRow.holds Try.pinned (OpenSpec.upto fnShowFormulaSpec)

/-- 'laws.FnSameValues', WHERE WHAT IT READS IS OF BULK AT MOST 1048576: true; the input reads as it did. -/
def fnSameValuesUptoRow : OpenClaim := { program := "ytegkcfinklcglaa", sum := "c56a16b9cbf8e916c55fc1c4244c78a8e313f776e6b846e4c7f2417ef9f5af2f", func := "loop.example/polycircuits/laws.FnSameValues", spec := "fnSameValues", inPlace := ["slices.overlaps[loop.example/polycircuits/impl.Term]"], unfollowed := true, recurses := true, plainKeys := false, apart := false, narrowed := true }
def FnSameValuesUptoSaid : Prop := fnSameValuesUptoRow.holds Try.pinned (OpenSpec.upto fnSameValuesSpec)

/-- 'laws.FnFirstNonzero', WHERE WHAT IT READS IS OF BULK AT MOST 1048576: true; the input reads as it did. -/
def fnFirstNonzeroUptoRow : OpenClaim := { program := "ytegkcfinklcglaa", sum := "c56a16b9cbf8e916c55fc1c4244c78a8e313f776e6b846e4c7f2417ef9f5af2f", func := "loop.example/polycircuits/laws.FnFirstNonzero", spec := "fnFirstNonzero", unfollowed := true, recurses := true, plainKeys := false, apart := false, narrowed := true }
def FnFirstNonzeroUptoSaid : Prop := fnFirstNonzeroUptoRow.holds Try.pinned (OpenSpec.upto fnFirstNonzeroSpec)

end Rows
end Go.Proofs.Ytegkcfinklcglaa
