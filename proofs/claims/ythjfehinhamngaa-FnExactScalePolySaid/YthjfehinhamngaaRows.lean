/-
  No cell of these rows narrows 'for every input' (looked for: loops, veiled, ifaces, maps, wideKeys, modest, calm, conditions, laid).
  DERIVED. THE GIVEN ROWS OF THIS SEAT. 11 by the template 'for every input the law returns true; each argument reads behind the call as it read before'; 0 by the template 'total and deterministic' (their statements: YthjfehinhamngaaTotals.lean).
  GIVEN WITH THE SEED: the statements are not yours to turn. If you find one false, say at which input.
  Laid BY PROGRAM, IN A SANDBOX (cutbox-rows.mjs): the forced cells as the released guide's own fill.sh prints them over the translation e60714e4aae24cde… (all of the seat's roots in one cut). By AI agents, Wed Nov 11 2026. No macro, syntax, notation, axiom, sorry.
-/
import Derived.Test.YthjfehinhamngaaChecked
import GoSem.Claim
import GoSem.ClaimJoined
import GoSem.ClaimMapViews
import Derived.JoinedTies
import Derived.KernelRfl
namespace Go.Proofs.Ythjfehinhamngaa
/- THE CELL 'sum', in the pinned program and in every row, IS THE sha256 OF THE DUMP (.gsa) THAT YthjfehinhamngaaProg.lean LOADS. Nothing in Lean hashes anything: it is a label: what it is worth is what the hold of that sum in a sandbox is worth. -/
noncomputable def Try.pinned : Pinned := { name := "ythjfehinhamngaa", sum := "e60714e4aae24cde1412857de240ec70f4707bf635651e2175fe1f8d03a501f5", checked := Try.checked }
namespace Rows
def none {H : Type} : Left H := { results := [], args := [] }

/-- 'laws.FnExactPolyValid': WHATEVER THE INPUT: true; the input reads as it did. -/
def fnExactPolyValidSpec : ChangeSpec := { name := "fnExactPolyValid", fn := fun _ => fun
  | [d1, d2] => { results := [.lit (.bool true)], args := [d1, d2] }
  | _ => none }
def fnExactPolyValidRow : OpenClaim := { program := "ythjfehinhamngaa", sum := "e60714e4aae24cde1412857de240ec70f4707bf635651e2175fe1f8d03a501f5", func := "loop.example/polycircuits/laws.FnExactPolyValid", spec := "fnExactPolyValid", apart := false }
def FnExactPolyValidSaid : Prop := fnExactPolyValidRow.holds Try.pinned (OpenSpec.ofChange fnExactPolyValidSpec)

/-- ITS FALSE NEIGHBOUR: 'it returns false'. Refute it at one input. -/
def fnExactPolyValidWrong : ChangeSpec := { name := "fnExactPolyValid", fn := fun _ => fun
  | [d1, d2] => { results := [.lit (.bool false)], args := [d1, d2] }
  | _ => none }
def FnExactPolyValidWrongFalsely : Prop := fnExactPolyValidRow.holds Try.pinned (OpenSpec.ofChange fnExactPolyValidWrong)

/-- 'laws.FnExactMakePoly': WHATEVER THE INPUT: true; the input reads as it did. -/
def fnExactMakePolySpec : ChangeSpec := { name := "fnExactMakePoly", fn := fun _ => fun
  | [d1, d2] => { results := [.lit (.bool true)], args := [d1, d2] }
  | _ => none }
def fnExactMakePolyRow : OpenClaim := { program := "ythjfehinhamngaa", sum := "e60714e4aae24cde1412857de240ec70f4707bf635651e2175fe1f8d03a501f5", func := "loop.example/polycircuits/laws.FnExactMakePoly", spec := "fnExactMakePoly", inPlace := ["slices.overlaps[loop.example/polycircuits/impl.Term]"], unfollowed := true, recurses := true, apart := false }
def FnExactMakePolySaid : Prop := fnExactMakePolyRow.holds Try.pinned (OpenSpec.ofChange fnExactMakePolySpec)

/-- ITS FALSE NEIGHBOUR: 'it returns false'. Refute it at one input. -/
def fnExactMakePolyWrong : ChangeSpec := { name := "fnExactMakePoly", fn := fun _ => fun
  | [d1, d2] => { results := [.lit (.bool false)], args := [d1, d2] }
  | _ => none }
def FnExactMakePolyWrongFalsely : Prop := fnExactMakePolyRow.holds Try.pinned (OpenSpec.ofChange fnExactMakePolyWrong)

/-- 'laws.FnExactAddPoly': WHATEVER THE INPUT: true; the input reads as it did. -/
def fnExactAddPolySpec : ChangeSpec := { name := "fnExactAddPoly", fn := fun _ => fun
  | [d1, d2, d3] => { results := [.lit (.bool true)], args := [d1, d2, d3] }
  | _ => none }
def fnExactAddPolyRow : OpenClaim := { program := "ythjfehinhamngaa", sum := "e60714e4aae24cde1412857de240ec70f4707bf635651e2175fe1f8d03a501f5", func := "loop.example/polycircuits/laws.FnExactAddPoly", spec := "fnExactAddPoly", inPlace := ["slices.overlaps[loop.example/polycircuits/impl.Term]"], unfollowed := true, recurses := true, apart := false }
def FnExactAddPolySaid : Prop := fnExactAddPolyRow.holds Try.pinned (OpenSpec.ofChange fnExactAddPolySpec)

/-- ITS FALSE NEIGHBOUR: 'it returns false'. Refute it at one input. -/
def fnExactAddPolyWrong : ChangeSpec := { name := "fnExactAddPoly", fn := fun _ => fun
  | [d1, d2, d3] => { results := [.lit (.bool false)], args := [d1, d2, d3] }
  | _ => none }
def FnExactAddPolyWrongFalsely : Prop := fnExactAddPolyRow.holds Try.pinned (OpenSpec.ofChange fnExactAddPolyWrong)

/-- 'laws.FnExactMulPoly': WHATEVER THE INPUT: true; the input reads as it did. -/
def fnExactMulPolySpec : ChangeSpec := { name := "fnExactMulPoly", fn := fun _ => fun
  | [d1, d2, d3] => { results := [.lit (.bool true)], args := [d1, d2, d3] }
  | _ => none }
def fnExactMulPolyRow : OpenClaim := { program := "ythjfehinhamngaa", sum := "e60714e4aae24cde1412857de240ec70f4707bf635651e2175fe1f8d03a501f5", func := "loop.example/polycircuits/laws.FnExactMulPoly", spec := "fnExactMulPoly", inPlace := ["slices.overlaps[loop.example/polycircuits/impl.Term]"], unfollowed := true, recurses := true, apart := false }
def FnExactMulPolySaid : Prop := fnExactMulPolyRow.holds Try.pinned (OpenSpec.ofChange fnExactMulPolySpec)

/-- ITS FALSE NEIGHBOUR: 'it returns false'. Refute it at one input. -/
def fnExactMulPolyWrong : ChangeSpec := { name := "fnExactMulPoly", fn := fun _ => fun
  | [d1, d2, d3] => { results := [.lit (.bool false)], args := [d1, d2, d3] }
  | _ => none }
def FnExactMulPolyWrongFalsely : Prop := fnExactMulPolyRow.holds Try.pinned (OpenSpec.ofChange fnExactMulPolyWrong)

/-- 'laws.FnExactScalePoly': WHATEVER THE INPUT: true; the input reads as it did. -/
def fnExactScalePolySpec : ChangeSpec := { name := "fnExactScalePoly", fn := fun _ => fun
  | [d1, d2, d3] => { results := [.lit (.bool true)], args := [d1, d2, d3] }
  | _ => none }
def fnExactScalePolyRow : OpenClaim := { program := "ythjfehinhamngaa", sum := "e60714e4aae24cde1412857de240ec70f4707bf635651e2175fe1f8d03a501f5", func := "loop.example/polycircuits/laws.FnExactScalePoly", spec := "fnExactScalePoly", inPlace := ["slices.overlaps[loop.example/polycircuits/impl.Term]"], unfollowed := true, recurses := true, apart := false }
def FnExactScalePolySaid : Prop := fnExactScalePolyRow.holds Try.pinned (OpenSpec.ofChange fnExactScalePolySpec)

/-- ITS FALSE NEIGHBOUR: 'it returns false'. Refute it at one input. -/
def fnExactScalePolyWrong : ChangeSpec := { name := "fnExactScalePoly", fn := fun _ => fun
  | [d1, d2, d3] => { results := [.lit (.bool false)], args := [d1, d2, d3] }
  | _ => none }
def FnExactScalePolyWrongFalsely : Prop := fnExactScalePolyRow.holds Try.pinned (OpenSpec.ofChange fnExactScalePolyWrong)

/-- 'laws.FnExactEvalPoly': WHATEVER THE INPUT: true; the input reads as it did. -/
def fnExactEvalPolySpec : ChangeSpec := { name := "fnExactEvalPoly", fn := fun _ => fun
  | [d1, d2, d3] => { results := [.lit (.bool true)], args := [d1, d2, d3] }
  | _ => none }
def fnExactEvalPolyRow : OpenClaim := { program := "ythjfehinhamngaa", sum := "e60714e4aae24cde1412857de240ec70f4707bf635651e2175fe1f8d03a501f5", func := "loop.example/polycircuits/laws.FnExactEvalPoly", spec := "fnExactEvalPoly", apart := false }
def FnExactEvalPolySaid : Prop := fnExactEvalPolyRow.holds Try.pinned (OpenSpec.ofChange fnExactEvalPolySpec)

/-- ITS FALSE NEIGHBOUR: 'it returns false'. Refute it at one input. -/
def fnExactEvalPolyWrong : ChangeSpec := { name := "fnExactEvalPoly", fn := fun _ => fun
  | [d1, d2, d3] => { results := [.lit (.bool false)], args := [d1, d2, d3] }
  | _ => none }
def FnExactEvalPolyWrongFalsely : Prop := fnExactEvalPolyRow.holds Try.pinned (OpenSpec.ofChange fnExactEvalPolyWrong)

/-- 'laws.FnExactDegreeOf': WHATEVER THE INPUT: true; the input reads as it did. -/
def fnExactDegreeOfSpec : ChangeSpec := { name := "fnExactDegreeOf", fn := fun _ => fun
  | [d1, d2] => { results := [.lit (.bool true)], args := [d1, d2] }
  | _ => none }
def fnExactDegreeOfRow : OpenClaim := { program := "ythjfehinhamngaa", sum := "e60714e4aae24cde1412857de240ec70f4707bf635651e2175fe1f8d03a501f5", func := "loop.example/polycircuits/laws.FnExactDegreeOf", spec := "fnExactDegreeOf", apart := false }
def FnExactDegreeOfSaid : Prop := fnExactDegreeOfRow.holds Try.pinned (OpenSpec.ofChange fnExactDegreeOfSpec)

/-- ITS FALSE NEIGHBOUR: 'it returns false'. Refute it at one input. -/
def fnExactDegreeOfWrong : ChangeSpec := { name := "fnExactDegreeOf", fn := fun _ => fun
  | [d1, d2] => { results := [.lit (.bool false)], args := [d1, d2] }
  | _ => none }
def FnExactDegreeOfWrongFalsely : Prop := fnExactDegreeOfRow.holds Try.pinned (OpenSpec.ofChange fnExactDegreeOfWrong)

/-- 'laws.FnExactDegreeIn': WHATEVER THE INPUT: true; the input reads as it did. -/
def fnExactDegreeInSpec : ChangeSpec := { name := "fnExactDegreeIn", fn := fun _ => fun
  | [d1, d2, d3] => { results := [.lit (.bool true)], args := [d1, d2, d3] }
  | _ => none }
def fnExactDegreeInRow : OpenClaim := { program := "ythjfehinhamngaa", sum := "e60714e4aae24cde1412857de240ec70f4707bf635651e2175fe1f8d03a501f5", func := "loop.example/polycircuits/laws.FnExactDegreeIn", spec := "fnExactDegreeIn", apart := false }
def FnExactDegreeInSaid : Prop := fnExactDegreeInRow.holds Try.pinned (OpenSpec.ofChange fnExactDegreeInSpec)

/-- ITS FALSE NEIGHBOUR: 'it returns false'. Refute it at one input. -/
def fnExactDegreeInWrong : ChangeSpec := { name := "fnExactDegreeIn", fn := fun _ => fun
  | [d1, d2, d3] => { results := [.lit (.bool false)], args := [d1, d2, d3] }
  | _ => none }
def FnExactDegreeInWrongFalsely : Prop := fnExactDegreeInRow.holds Try.pinned (OpenSpec.ofChange fnExactDegreeInWrong)

/-- 'laws.FnExactDerivePoly': WHATEVER THE INPUT: true; the input reads as it did. -/
def fnExactDerivePolySpec : ChangeSpec := { name := "fnExactDerivePoly", fn := fun _ => fun
  | [d1, d2, d3] => { results := [.lit (.bool true)], args := [d1, d2, d3] }
  | _ => none }
def fnExactDerivePolyRow : OpenClaim := { program := "ythjfehinhamngaa", sum := "e60714e4aae24cde1412857de240ec70f4707bf635651e2175fe1f8d03a501f5", func := "loop.example/polycircuits/laws.FnExactDerivePoly", spec := "fnExactDerivePoly", inPlace := ["slices.overlaps[loop.example/polycircuits/impl.Term]"], unfollowed := true, recurses := true, apart := false }
def FnExactDerivePolySaid : Prop := fnExactDerivePolyRow.holds Try.pinned (OpenSpec.ofChange fnExactDerivePolySpec)

/-- ITS FALSE NEIGHBOUR: 'it returns false'. Refute it at one input. -/
def fnExactDerivePolyWrong : ChangeSpec := { name := "fnExactDerivePoly", fn := fun _ => fun
  | [d1, d2, d3] => { results := [.lit (.bool false)], args := [d1, d2, d3] }
  | _ => none }
def FnExactDerivePolyWrongFalsely : Prop := fnExactDerivePolyRow.holds Try.pinned (OpenSpec.ofChange fnExactDerivePolyWrong)

/-- 'laws.FnExactPartPoly': WHATEVER THE INPUT: true; the input reads as it did. -/
def fnExactPartPolySpec : ChangeSpec := { name := "fnExactPartPoly", fn := fun _ => fun
  | [d1, d2, d3] => { results := [.lit (.bool true)], args := [d1, d2, d3] }
  | _ => none }
def fnExactPartPolyRow : OpenClaim := { program := "ythjfehinhamngaa", sum := "e60714e4aae24cde1412857de240ec70f4707bf635651e2175fe1f8d03a501f5", func := "loop.example/polycircuits/laws.FnExactPartPoly", spec := "fnExactPartPoly", apart := false }
def FnExactPartPolySaid : Prop := fnExactPartPolyRow.holds Try.pinned (OpenSpec.ofChange fnExactPartPolySpec)

/-- ITS FALSE NEIGHBOUR: 'it returns false'. Refute it at one input. -/
def fnExactPartPolyWrong : ChangeSpec := { name := "fnExactPartPoly", fn := fun _ => fun
  | [d1, d2, d3] => { results := [.lit (.bool false)], args := [d1, d2, d3] }
  | _ => none }
def FnExactPartPolyWrongFalsely : Prop := fnExactPartPolyRow.holds Try.pinned (OpenSpec.ofChange fnExactPartPolyWrong)

/-- 'laws.FnExactPutPoly': WHATEVER THE INPUT: true; the input reads as it did. -/
def fnExactPutPolySpec : ChangeSpec := { name := "fnExactPutPoly", fn := fun _ => fun
  | [d1, d2, d3, d4] => { results := [.lit (.bool true)], args := [d1, d2, d3, d4] }
  | _ => none }
def fnExactPutPolyRow : OpenClaim := { program := "ythjfehinhamngaa", sum := "e60714e4aae24cde1412857de240ec70f4707bf635651e2175fe1f8d03a501f5", func := "loop.example/polycircuits/laws.FnExactPutPoly", spec := "fnExactPutPoly", inPlace := ["slices.overlaps[loop.example/polycircuits/impl.Term]"], unfollowed := true, recurses := true, apart := false }
def FnExactPutPolySaid : Prop := fnExactPutPolyRow.holds Try.pinned (OpenSpec.ofChange fnExactPutPolySpec)

/-- ITS FALSE NEIGHBOUR: 'it returns false'. Refute it at one input. -/
def fnExactPutPolyWrong : ChangeSpec := { name := "fnExactPutPoly", fn := fun _ => fun
  | [d1, d2, d3, d4] => { results := [.lit (.bool false)], args := [d1, d2, d3, d4] }
  | _ => none }
def FnExactPutPolyWrongFalsely : Prop := fnExactPutPolyRow.holds Try.pinned (OpenSpec.ofChange fnExactPutPolyWrong)

/- THE SECOND FORM. 'bulk': how many values and letters a reading holds, each counted each time it is reached (what is shared counts as often as it is met; a slice's spare places count too). A statement '..UptoSaid' is the law's where the arguments, and the package variables that the reading takes, are together of bulk at most 1048576: NARROWER than '..Said'. Prove '..Said' where nothing that the law and all that it calls make is longer than what came in: it says more and counts as full. Else prove '..UptoSaid'. A law counts once. -/
mutual
def uptoBulk {H : Type} : DataW H → Nat
  | .lit (.string bytes) => bytes.length + 1
  | .lit _ => 1
  | .nil => 1
  | .ptr d => uptoBulk d + 1
  | .slice elems spare => uptoBulkAll elems + uptoBulkAll spare + 1
  | .agg parts => uptoBulkAll parts + 1
  | .iface _ d => uptoBulk d + 1
  | .map entries => uptoBulkEntries entries + 1
  | .held _ => 1
def uptoBulkAll {H : Type} : List (DataW H) → Nat
  | [] => 0
  | d :: r => uptoBulk d + uptoBulkAll r
def uptoBulkEntries {H : Type} : List (Lit × DataW H) → Nat
  | [] => 0
  | x :: r => uptoBulkEntry x + uptoBulkEntries r
def uptoBulkEntry {H : Type} : Lit × DataW H → Nat
  | (.string bytes, d) => bytes.length + uptoBulk d + 1
  | (_, d) => uptoBulk d + 1
 end
def uptoSmall : (H : Type) → List (DataW H) → Bool := fun _ ds => decide (uptoBulkAll ds ≤ 1048576)
def OpenSpec.upto (s : _root_.Go.ChangeSpec) : _root_.Go.OpenSpec := { _root_.Go.OpenSpec.ofChange s with cond := some uptoSmall }

/-- 'laws.FnExactPolyValid', WHERE WHAT IT READS IS OF BULK AT MOST 1048576: true; the input reads as it did. -/
def fnExactPolyValidUptoRow : OpenClaim := { program := "ythjfehinhamngaa", sum := "e60714e4aae24cde1412857de240ec70f4707bf635651e2175fe1f8d03a501f5", func := "loop.example/polycircuits/laws.FnExactPolyValid", spec := "fnExactPolyValid", apart := false, narrowed := true }
def FnExactPolyValidUptoSaid : Prop := fnExactPolyValidUptoRow.holds Try.pinned (OpenSpec.upto fnExactPolyValidSpec)

/-- 'laws.FnExactMakePoly', WHERE WHAT IT READS IS OF BULK AT MOST 1048576: true; the input reads as it did. -/
def fnExactMakePolyUptoRow : OpenClaim := { program := "ythjfehinhamngaa", sum := "e60714e4aae24cde1412857de240ec70f4707bf635651e2175fe1f8d03a501f5", func := "loop.example/polycircuits/laws.FnExactMakePoly", spec := "fnExactMakePoly", inPlace := ["slices.overlaps[loop.example/polycircuits/impl.Term]"], unfollowed := true, recurses := true, apart := false, narrowed := true }
def FnExactMakePolyUptoSaid : Prop := fnExactMakePolyUptoRow.holds Try.pinned (OpenSpec.upto fnExactMakePolySpec)

/-- 'laws.FnExactAddPoly', WHERE WHAT IT READS IS OF BULK AT MOST 1048576: true; the input reads as it did. -/
def fnExactAddPolyUptoRow : OpenClaim := { program := "ythjfehinhamngaa", sum := "e60714e4aae24cde1412857de240ec70f4707bf635651e2175fe1f8d03a501f5", func := "loop.example/polycircuits/laws.FnExactAddPoly", spec := "fnExactAddPoly", inPlace := ["slices.overlaps[loop.example/polycircuits/impl.Term]"], unfollowed := true, recurses := true, apart := false, narrowed := true }
def FnExactAddPolyUptoSaid : Prop := fnExactAddPolyUptoRow.holds Try.pinned (OpenSpec.upto fnExactAddPolySpec)

/-- 'laws.FnExactMulPoly', WHERE WHAT IT READS IS OF BULK AT MOST 1048576: true; the input reads as it did. -/
def fnExactMulPolyUptoRow : OpenClaim := { program := "ythjfehinhamngaa", sum := "e60714e4aae24cde1412857de240ec70f4707bf635651e2175fe1f8d03a501f5", func := "loop.example/polycircuits/laws.FnExactMulPoly", spec := "fnExactMulPoly", inPlace := ["slices.overlaps[loop.example/polycircuits/impl.Term]"], unfollowed := true, recurses := true, apart := false, narrowed := true }
def FnExactMulPolyUptoSaid : Prop := fnExactMulPolyUptoRow.holds Try.pinned (OpenSpec.upto fnExactMulPolySpec)

/-- 'laws.FnExactScalePoly', WHERE WHAT IT READS IS OF BULK AT MOST 1048576: true; the input reads as it did. -/
def fnExactScalePolyUptoRow : OpenClaim := { program := "ythjfehinhamngaa", sum := "e60714e4aae24cde1412857de240ec70f4707bf635651e2175fe1f8d03a501f5", func := "loop.example/polycircuits/laws.FnExactScalePoly", spec := "fnExactScalePoly", inPlace := ["slices.overlaps[loop.example/polycircuits/impl.Term]"], unfollowed := true, recurses := true, apart := false, narrowed := true }
def FnExactScalePolyUptoSaid : Prop := fnExactScalePolyUptoRow.holds Try.pinned (OpenSpec.upto fnExactScalePolySpec)

/-- 'laws.FnExactEvalPoly', WHERE WHAT IT READS IS OF BULK AT MOST 1048576: true; the input reads as it did. -/
def fnExactEvalPolyUptoRow : OpenClaim := { program := "ythjfehinhamngaa", sum := "e60714e4aae24cde1412857de240ec70f4707bf635651e2175fe1f8d03a501f5", func := "loop.example/polycircuits/laws.FnExactEvalPoly", spec := "fnExactEvalPoly", apart := false, narrowed := true }
def FnExactEvalPolyUptoSaid : Prop := fnExactEvalPolyUptoRow.holds Try.pinned (OpenSpec.upto fnExactEvalPolySpec)

/-- 'laws.FnExactDegreeOf', WHERE WHAT IT READS IS OF BULK AT MOST 1048576: true; the input reads as it did. -/
def fnExactDegreeOfUptoRow : OpenClaim := { program := "ythjfehinhamngaa", sum := "e60714e4aae24cde1412857de240ec70f4707bf635651e2175fe1f8d03a501f5", func := "loop.example/polycircuits/laws.FnExactDegreeOf", spec := "fnExactDegreeOf", apart := false, narrowed := true }
def FnExactDegreeOfUptoSaid : Prop := fnExactDegreeOfUptoRow.holds Try.pinned (OpenSpec.upto fnExactDegreeOfSpec)

/-- 'laws.FnExactDegreeIn', WHERE WHAT IT READS IS OF BULK AT MOST 1048576: true; the input reads as it did. -/
def fnExactDegreeInUptoRow : OpenClaim := { program := "ythjfehinhamngaa", sum := "e60714e4aae24cde1412857de240ec70f4707bf635651e2175fe1f8d03a501f5", func := "loop.example/polycircuits/laws.FnExactDegreeIn", spec := "fnExactDegreeIn", apart := false, narrowed := true }
def FnExactDegreeInUptoSaid : Prop := fnExactDegreeInUptoRow.holds Try.pinned (OpenSpec.upto fnExactDegreeInSpec)

/-- 'laws.FnExactDerivePoly', WHERE WHAT IT READS IS OF BULK AT MOST 1048576: true; the input reads as it did. -/
def fnExactDerivePolyUptoRow : OpenClaim := { program := "ythjfehinhamngaa", sum := "e60714e4aae24cde1412857de240ec70f4707bf635651e2175fe1f8d03a501f5", func := "loop.example/polycircuits/laws.FnExactDerivePoly", spec := "fnExactDerivePoly", inPlace := ["slices.overlaps[loop.example/polycircuits/impl.Term]"], unfollowed := true, recurses := true, apart := false, narrowed := true }
def FnExactDerivePolyUptoSaid : Prop := fnExactDerivePolyUptoRow.holds Try.pinned (OpenSpec.upto fnExactDerivePolySpec)

/-- 'laws.FnExactPartPoly', WHERE WHAT IT READS IS OF BULK AT MOST 1048576: true; the input reads as it did. -/
def fnExactPartPolyUptoRow : OpenClaim := { program := "ythjfehinhamngaa", sum := "e60714e4aae24cde1412857de240ec70f4707bf635651e2175fe1f8d03a501f5", func := "loop.example/polycircuits/laws.FnExactPartPoly", spec := "fnExactPartPoly", apart := false, narrowed := true }
def FnExactPartPolyUptoSaid : Prop := fnExactPartPolyUptoRow.holds Try.pinned (OpenSpec.upto fnExactPartPolySpec)

/-- 'laws.FnExactPutPoly', WHERE WHAT IT READS IS OF BULK AT MOST 1048576: true; the input reads as it did. -/
def fnExactPutPolyUptoRow : OpenClaim := { program := "ythjfehinhamngaa", sum := "e60714e4aae24cde1412857de240ec70f4707bf635651e2175fe1f8d03a501f5", func := "loop.example/polycircuits/laws.FnExactPutPoly", spec := "fnExactPutPoly", inPlace := ["slices.overlaps[loop.example/polycircuits/impl.Term]"], unfollowed := true, recurses := true, apart := false, narrowed := true }
def FnExactPutPolyUptoSaid : Prop := fnExactPutPolyUptoRow.holds Try.pinned (OpenSpec.upto fnExactPutPolySpec)

end Rows
end Go.Proofs.Ythjfehinhamngaa
