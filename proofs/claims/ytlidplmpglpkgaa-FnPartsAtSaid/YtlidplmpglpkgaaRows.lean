/-
  No cell of these rows narrows 'for every input' (looked for: loops, veiled, ifaces, maps, wideKeys, modest, calm, conditions, laid).
  DERIVED. THE GIVEN ROWS OF THIS SEAT. 14 by the template 'for every input the law returns true; each argument reads behind the call as it read before'; 0 by the template 'total and deterministic' (their statements: YtlidplmpglpkgaaTotals.lean).
  GIVEN WITH THE SEED: the statements are not yours to turn. If you find one false, say at which input.
  Laid BY PROGRAM, IN A SANDBOX (cutbox-rows.mjs): the forced cells as the released guide's own fill.sh prints them over the translation 621fcb31eee0c0aa… (all of the seat's roots in one cut). By AI agents, Wed Nov 11 2026. No macro, syntax, notation, axiom, sorry.
-/
import Derived.Test.YtlidplmpglpkgaaChecked
import GoSem.Claim
import GoSem.ClaimJoined
import GoSem.ClaimMapViews
import Derived.JoinedTies
import Derived.KernelRfl
namespace Go.Proofs.Ytlidplmpglpkgaa
/- THE CELL 'sum', in the pinned program and in every row, IS THE sha256 OF THE DUMP (.gsa) THAT YtlidplmpglpkgaaProg.lean LOADS. Nothing in Lean hashes anything: it is a label: what it is worth is what the hold of that sum in a sandbox is worth. -/
noncomputable def Try.pinned : Pinned := { name := "ytlidplmpglpkgaa", sum := "621fcb31eee0c0aa8ef4fdc7a1a2bbe56b1e14e265d7fbc9f30d301dd8ac7913", checked := Try.checked }
namespace Rows
def none {H : Type} : Left H := { results := [], args := [] }

/-- 'laws.FnSameValues': WHATEVER THE INPUT: true; the input reads as it did. -/
def fnSameValuesSpec : ChangeSpec := { name := "fnSameValues", fn := fun _ => fun
  | [d] => { results := [.lit (.bool true)], args := [d] }
  | _ => none }
def fnSameValuesRow : OpenClaim := { program := "ytlidplmpglpkgaa", sum := "621fcb31eee0c0aa8ef4fdc7a1a2bbe56b1e14e265d7fbc9f30d301dd8ac7913", func := "loop.example/polycircuits/laws.FnSameValues", spec := "fnSameValues", inPlace := ["slices.overlaps[loop.example/polycircuits/impl.Term]"], unfollowed := true, recurses := true, plainKeys := false, apart := false }
def FnSameValuesSaid : Prop := fnSameValuesRow.holds Try.pinned (OpenSpec.ofChange fnSameValuesSpec)

/-- ITS FALSE NEIGHBOUR: 'it returns false'. Refute it at one input. -/
def fnSameValuesWrong : ChangeSpec := { name := "fnSameValues", fn := fun _ => fun
  | [d] => { results := [.lit (.bool false)], args := [d] }
  | _ => none }
def FnSameValuesWrongFalsely : Prop := fnSameValuesRow.holds Try.pinned (OpenSpec.ofChange fnSameValuesWrong)

/-- 'laws.FnFirstNonzero': WHATEVER THE INPUT: true; the input reads as it did. -/
def fnFirstNonzeroSpec : ChangeSpec := { name := "fnFirstNonzero", fn := fun _ => fun
  | [d] => { results := [.lit (.bool true)], args := [d] }
  | _ => none }
def fnFirstNonzeroRow : OpenClaim := { program := "ytlidplmpglpkgaa", sum := "621fcb31eee0c0aa8ef4fdc7a1a2bbe56b1e14e265d7fbc9f30d301dd8ac7913", func := "loop.example/polycircuits/laws.FnFirstNonzero", spec := "fnFirstNonzero", unfollowed := true, recurses := true, plainKeys := false, apart := false }
def FnFirstNonzeroSaid : Prop := fnFirstNonzeroRow.holds Try.pinned (OpenSpec.ofChange fnFirstNonzeroSpec)

/-- ITS FALSE NEIGHBOUR: 'it returns false'. Refute it at one input. -/
def fnFirstNonzeroWrong : ChangeSpec := { name := "fnFirstNonzero", fn := fun _ => fun
  | [d] => { results := [.lit (.bool false)], args := [d] }
  | _ => none }
def FnFirstNonzeroWrongFalsely : Prop := fnFirstNonzeroRow.holds Try.pinned (OpenSpec.ofChange fnFirstNonzeroWrong)

/-- 'laws.FnGradient': WHATEVER THE INPUT: true; the input reads as it did. -/
def fnGradientSpec : ChangeSpec := { name := "fnGradient", fn := fun _ => fun
  | [d] => { results := [.lit (.bool true)], args := [d] }
  | _ => none }
def fnGradientRow : OpenClaim := { program := "ytlidplmpglpkgaa", sum := "621fcb31eee0c0aa8ef4fdc7a1a2bbe56b1e14e265d7fbc9f30d301dd8ac7913", func := "loop.example/polycircuits/laws.FnGradient", spec := "fnGradient", inPlace := ["slices.overlaps[loop.example/polycircuits/impl.Term]"], unfollowed := true, recurses := true, plainKeys := false, apart := false }
def FnGradientSaid : Prop := fnGradientRow.holds Try.pinned (OpenSpec.ofChange fnGradientSpec)

/-- ITS FALSE NEIGHBOUR: 'it returns false'. Refute it at one input. -/
def fnGradientWrong : ChangeSpec := { name := "fnGradient", fn := fun _ => fun
  | [d] => { results := [.lit (.bool false)], args := [d] }
  | _ => none }
def FnGradientWrongFalsely : Prop := fnGradientRow.holds Try.pinned (OpenSpec.ofChange fnGradientWrong)

/-- 'laws.FnGradientAt': WHATEVER THE INPUT: true; the input reads as it did. -/
def fnGradientAtSpec : ChangeSpec := { name := "fnGradientAt", fn := fun _ => fun
  | [d] => { results := [.lit (.bool true)], args := [d] }
  | _ => none }
def fnGradientAtRow : OpenClaim := { program := "ytlidplmpglpkgaa", sum := "621fcb31eee0c0aa8ef4fdc7a1a2bbe56b1e14e265d7fbc9f30d301dd8ac7913", func := "loop.example/polycircuits/laws.FnGradientAt", spec := "fnGradientAt", unfollowed := true, recurses := true, plainKeys := false, apart := false }
def FnGradientAtSaid : Prop := fnGradientAtRow.holds Try.pinned (OpenSpec.ofChange fnGradientAtSpec)

/-- ITS FALSE NEIGHBOUR: 'it returns false'. Refute it at one input. -/
def fnGradientAtWrong : ChangeSpec := { name := "fnGradientAt", fn := fun _ => fun
  | [d] => { results := [.lit (.bool false)], args := [d] }
  | _ => none }
def FnGradientAtWrongFalsely : Prop := fnGradientAtRow.holds Try.pinned (OpenSpec.ofChange fnGradientAtWrong)

/-- 'laws.FnGradientPolys': WHATEVER THE INPUT: true; the input reads as it did. -/
def fnGradientPolysSpec : ChangeSpec := { name := "fnGradientPolys", fn := fun _ => fun
  | [d1, d2] => { results := [.lit (.bool true)], args := [d1, d2] }
  | _ => none }
def fnGradientPolysRow : OpenClaim := { program := "ytlidplmpglpkgaa", sum := "621fcb31eee0c0aa8ef4fdc7a1a2bbe56b1e14e265d7fbc9f30d301dd8ac7913", func := "loop.example/polycircuits/laws.FnGradientPolys", spec := "fnGradientPolys", inPlace := ["slices.overlaps[loop.example/polycircuits/impl.Term]"], unfollowed := true, recurses := true, plainKeys := false, apart := false }
def FnGradientPolysSaid : Prop := fnGradientPolysRow.holds Try.pinned (OpenSpec.ofChange fnGradientPolysSpec)

/-- ITS FALSE NEIGHBOUR: 'it returns false'. Refute it at one input. -/
def fnGradientPolysWrong : ChangeSpec := { name := "fnGradientPolys", fn := fun _ => fun
  | [d1, d2] => { results := [.lit (.bool false)], args := [d1, d2] }
  | _ => none }
def FnGradientPolysWrongFalsely : Prop := fnGradientPolysRow.holds Try.pinned (OpenSpec.ofChange fnGradientPolysWrong)

/-- 'laws.FnForwardOf': WHATEVER THE INPUT: true; the input reads as it did. -/
def fnForwardOfSpec : ChangeSpec := { name := "fnForwardOf", fn := fun _ => fun
  | [d1, d2] => { results := [.lit (.bool true)], args := [d1, d2] }
  | _ => none }
def fnForwardOfRow : OpenClaim := { program := "ytlidplmpglpkgaa", sum := "621fcb31eee0c0aa8ef4fdc7a1a2bbe56b1e14e265d7fbc9f30d301dd8ac7913", func := "loop.example/polycircuits/laws.FnForwardOf", spec := "fnForwardOf", inPlace := ["slices.overlaps[loop.example/polycircuits/impl.Term]"], unfollowed := true, recurses := true, plainKeys := false, apart := false }
def FnForwardOfSaid : Prop := fnForwardOfRow.holds Try.pinned (OpenSpec.ofChange fnForwardOfSpec)

/-- ITS FALSE NEIGHBOUR: 'it returns false'. Refute it at one input. -/
def fnForwardOfWrong : ChangeSpec := { name := "fnForwardOf", fn := fun _ => fun
  | [d1, d2] => { results := [.lit (.bool false)], args := [d1, d2] }
  | _ => none }
def FnForwardOfWrongFalsely : Prop := fnForwardOfRow.holds Try.pinned (OpenSpec.ofChange fnForwardOfWrong)

/-- 'laws.FnPartCircuit': WHATEVER THE INPUT: true; the input reads as it did. -/
def fnPartCircuitSpec : ChangeSpec := { name := "fnPartCircuit", fn := fun _ => fun
  | [d1, d2] => { results := [.lit (.bool true)], args := [d1, d2] }
  | _ => none }
def fnPartCircuitRow : OpenClaim := { program := "ytlidplmpglpkgaa", sum := "621fcb31eee0c0aa8ef4fdc7a1a2bbe56b1e14e265d7fbc9f30d301dd8ac7913", func := "loop.example/polycircuits/laws.FnPartCircuit", spec := "fnPartCircuit", inPlace := ["slices.overlaps[loop.example/polycircuits/impl.Term]"], unfollowed := true, recurses := true, plainKeys := false, apart := false }
def FnPartCircuitSaid : Prop := fnPartCircuitRow.holds Try.pinned (OpenSpec.ofChange fnPartCircuitSpec)

/-- ITS FALSE NEIGHBOUR: 'it returns false'. Refute it at one input. -/
def fnPartCircuitWrong : ChangeSpec := { name := "fnPartCircuit", fn := fun _ => fun
  | [d1, d2] => { results := [.lit (.bool false)], args := [d1, d2] }
  | _ => none }
def FnPartCircuitWrongFalsely : Prop := fnPartCircuitRow.holds Try.pinned (OpenSpec.ofChange fnPartCircuitWrong)

/-- 'laws.FnPartsAt': WHATEVER THE INPUT: true; the input reads as it did. -/
def fnPartsAtSpec : ChangeSpec := { name := "fnPartsAt", fn := fun _ => fun
  | [d] => { results := [.lit (.bool true)], args := [d] }
  | _ => none }
def fnPartsAtRow : OpenClaim := { program := "ytlidplmpglpkgaa", sum := "621fcb31eee0c0aa8ef4fdc7a1a2bbe56b1e14e265d7fbc9f30d301dd8ac7913", func := "loop.example/polycircuits/laws.FnPartsAt", spec := "fnPartsAt", inPlace := ["slices.overlaps[loop.example/polycircuits/impl.Term]"], unfollowed := true, recurses := true, plainKeys := false, apart := false }
def FnPartsAtSaid : Prop := fnPartsAtRow.holds Try.pinned (OpenSpec.ofChange fnPartsAtSpec)

/-- ITS FALSE NEIGHBOUR: 'it returns false'. Refute it at one input. -/
def fnPartsAtWrong : ChangeSpec := { name := "fnPartsAt", fn := fun _ => fun
  | [d] => { results := [.lit (.bool false)], args := [d] }
  | _ => none }
def FnPartsAtWrongFalsely : Prop := fnPartsAtRow.holds Try.pinned (OpenSpec.ofChange fnPartsAtWrong)

/-- 'laws.FnMulCut': WHATEVER THE INPUT: true; the input reads as it did. -/
def fnMulCutSpec : ChangeSpec := { name := "fnMulCut", fn := fun _ => fun
  | [d] => { results := [.lit (.bool true)], args := [d] }
  | _ => none }
def fnMulCutRow : OpenClaim := { program := "ytlidplmpglpkgaa", sum := "621fcb31eee0c0aa8ef4fdc7a1a2bbe56b1e14e265d7fbc9f30d301dd8ac7913", func := "loop.example/polycircuits/laws.FnMulCut", spec := "fnMulCut", inPlace := ["slices.overlaps[loop.example/polycircuits/impl.Term]"], unfollowed := true, recurses := true, plainKeys := false, apart := false }
def FnMulCutSaid : Prop := fnMulCutRow.holds Try.pinned (OpenSpec.ofChange fnMulCutSpec)

/-- ITS FALSE NEIGHBOUR: 'it returns false'. Refute it at one input. -/
def fnMulCutWrong : ChangeSpec := { name := "fnMulCut", fn := fun _ => fun
  | [d] => { results := [.lit (.bool false)], args := [d] }
  | _ => none }
def FnMulCutWrongFalsely : Prop := fnMulCutRow.holds Try.pinned (OpenSpec.ofChange fnMulCutWrong)

/-- 'laws.FnShiftPoly': WHATEVER THE INPUT: true; the input reads as it did. -/
def fnShiftPolySpec : ChangeSpec := { name := "fnShiftPoly", fn := fun _ => fun
  | [d1, d2] => { results := [.lit (.bool true)], args := [d1, d2] }
  | _ => none }
def fnShiftPolyRow : OpenClaim := { program := "ytlidplmpglpkgaa", sum := "621fcb31eee0c0aa8ef4fdc7a1a2bbe56b1e14e265d7fbc9f30d301dd8ac7913", func := "loop.example/polycircuits/laws.FnShiftPoly", spec := "fnShiftPoly", inPlace := ["slices.overlaps[loop.example/polycircuits/impl.Term]"], unfollowed := true, recurses := true, plainKeys := false, apart := false }
def FnShiftPolySaid : Prop := fnShiftPolyRow.holds Try.pinned (OpenSpec.ofChange fnShiftPolySpec)

/-- ITS FALSE NEIGHBOUR: 'it returns false'. Refute it at one input. -/
def fnShiftPolyWrong : ChangeSpec := { name := "fnShiftPoly", fn := fun _ => fun
  | [d1, d2] => { results := [.lit (.bool false)], args := [d1, d2] }
  | _ => none }
def FnShiftPolyWrongFalsely : Prop := fnShiftPolyRow.holds Try.pinned (OpenSpec.ofChange fnShiftPolyWrong)

/-- 'laws.FnEulerPoly': WHATEVER THE INPUT: true; the input reads as it did. -/
def fnEulerPolySpec : ChangeSpec := { name := "fnEulerPoly", fn := fun _ => fun
  | [d] => { results := [.lit (.bool true)], args := [d] }
  | _ => none }
def fnEulerPolyRow : OpenClaim := { program := "ytlidplmpglpkgaa", sum := "621fcb31eee0c0aa8ef4fdc7a1a2bbe56b1e14e265d7fbc9f30d301dd8ac7913", func := "loop.example/polycircuits/laws.FnEulerPoly", spec := "fnEulerPoly", inPlace := ["slices.overlaps[loop.example/polycircuits/impl.Term]"], unfollowed := true, recurses := true, plainKeys := false, apart := false }
def FnEulerPolySaid : Prop := fnEulerPolyRow.holds Try.pinned (OpenSpec.ofChange fnEulerPolySpec)

/-- ITS FALSE NEIGHBOUR: 'it returns false'. Refute it at one input. -/
def fnEulerPolyWrong : ChangeSpec := { name := "fnEulerPoly", fn := fun _ => fun
  | [d] => { results := [.lit (.bool false)], args := [d] }
  | _ => none }
def FnEulerPolyWrongFalsely : Prop := fnEulerPolyRow.holds Try.pinned (OpenSpec.ofChange fnEulerPolyWrong)

/-- 'laws.FnScaleUnknowns': WHATEVER THE INPUT: true; the input reads as it did. -/
def fnScaleUnknownsSpec : ChangeSpec := { name := "fnScaleUnknowns", fn := fun _ => fun
  | [d1, d2] => { results := [.lit (.bool true)], args := [d1, d2] }
  | _ => none }
def fnScaleUnknownsRow : OpenClaim := { program := "ytlidplmpglpkgaa", sum := "621fcb31eee0c0aa8ef4fdc7a1a2bbe56b1e14e265d7fbc9f30d301dd8ac7913", func := "loop.example/polycircuits/laws.FnScaleUnknowns", spec := "fnScaleUnknowns", inPlace := ["slices.overlaps[loop.example/polycircuits/impl.Term]"], unfollowed := true, recurses := true, plainKeys := false, apart := false }
def FnScaleUnknownsSaid : Prop := fnScaleUnknownsRow.holds Try.pinned (OpenSpec.ofChange fnScaleUnknownsSpec)

/-- ITS FALSE NEIGHBOUR: 'it returns false'. Refute it at one input. -/
def fnScaleUnknownsWrong : ChangeSpec := { name := "fnScaleUnknowns", fn := fun _ => fun
  | [d1, d2] => { results := [.lit (.bool false)], args := [d1, d2] }
  | _ => none }
def FnScaleUnknownsWrongFalsely : Prop := fnScaleUnknownsRow.holds Try.pinned (OpenSpec.ofChange fnScaleUnknownsWrong)

/-- 'laws.FnExactFirstNonzero': WHATEVER THE INPUT: true; the input reads as it did. -/
def fnExactFirstNonzeroSpec : ChangeSpec := { name := "fnExactFirstNonzero", fn := fun _ => fun
  | [d1, d2] => { results := [.lit (.bool true)], args := [d1, d2] }
  | _ => none }
def fnExactFirstNonzeroRow : OpenClaim := { program := "ytlidplmpglpkgaa", sum := "621fcb31eee0c0aa8ef4fdc7a1a2bbe56b1e14e265d7fbc9f30d301dd8ac7913", func := "loop.example/polycircuits/laws.FnExactFirstNonzero", spec := "fnExactFirstNonzero", unfollowed := true, recurses := true, plainKeys := false, apart := false }
def FnExactFirstNonzeroSaid : Prop := fnExactFirstNonzeroRow.holds Try.pinned (OpenSpec.ofChange fnExactFirstNonzeroSpec)

/-- ITS FALSE NEIGHBOUR: 'it returns false'. Refute it at one input. -/
def fnExactFirstNonzeroWrong : ChangeSpec := { name := "fnExactFirstNonzero", fn := fun _ => fun
  | [d1, d2] => { results := [.lit (.bool false)], args := [d1, d2] }
  | _ => none }
def FnExactFirstNonzeroWrongFalsely : Prop := fnExactFirstNonzeroRow.holds Try.pinned (OpenSpec.ofChange fnExactFirstNonzeroWrong)

/-- 'laws.FnExactTellApart': WHATEVER THE INPUT: true; the input reads as it did. -/
def fnExactTellApartSpec : ChangeSpec := { name := "fnExactTellApart", fn := fun _ => fun
  | [d1, d2, d3] => { results := [.lit (.bool true)], args := [d1, d2, d3] }
  | _ => none }
def fnExactTellApartRow : OpenClaim := { program := "ytlidplmpglpkgaa", sum := "621fcb31eee0c0aa8ef4fdc7a1a2bbe56b1e14e265d7fbc9f30d301dd8ac7913", func := "loop.example/polycircuits/laws.FnExactTellApart", spec := "fnExactTellApart", unfollowed := true, recurses := true, plainKeys := false, apart := false }
def FnExactTellApartSaid : Prop := fnExactTellApartRow.holds Try.pinned (OpenSpec.ofChange fnExactTellApartSpec)

/-- ITS FALSE NEIGHBOUR: 'it returns false'. Refute it at one input. -/
def fnExactTellApartWrong : ChangeSpec := { name := "fnExactTellApart", fn := fun _ => fun
  | [d1, d2, d3] => { results := [.lit (.bool false)], args := [d1, d2, d3] }
  | _ => none }
def FnExactTellApartWrongFalsely : Prop := fnExactTellApartRow.holds Try.pinned (OpenSpec.ofChange fnExactTellApartWrong)

/- THE SECOND FORM. 'bulk': how many values and letters a reading holds, each counted each time it is reached (what is shared counts as often as it is met; a slice's spare places count too). A statement '..UptoSaid' is the law's where the arguments, and the package variables that the reading takes, are together of bulk at most 1048576: NARROWER than '..Said'. Prove '..Said' where nothing that the law and all that it calls make is longer than what came in: it says more and counts as full. Else prove '..UptoSaid'. A law counts once. -/
mutual
def uptoBulk {H : Type} : DataW H → Nat
  | .lit (.string bytes) => bytes.length + 1
  | .lit _ => 1
  | .nil => 1
  | .ptr d => uptoBulk d + 1
  | .slice elems spare => uptoBulkAll elems + uptoBulkAll spare + 1
  | .agg parts => uptoBulkAll parts + 1
  | .iface _ d => uptoBulk d + 1
  | .map entries => uptoBulkEntries entries + 1
  | .held _ => 1
def uptoBulkAll {H : Type} : List (DataW H) → Nat
  | [] => 0
  | d :: r => uptoBulk d + uptoBulkAll r
def uptoBulkEntries {H : Type} : List (Lit × DataW H) → Nat
  | [] => 0
  | x :: r => uptoBulkEntry x + uptoBulkEntries r
def uptoBulkEntry {H : Type} : Lit × DataW H → Nat
  | (.string bytes, d) => bytes.length + uptoBulk d + 1
  | (_, d) => uptoBulk d + 1
 end
def uptoSmall : (H : Type) → List (DataW H) → Bool := fun _ ds => decide (uptoBulkAll ds ≤ 1048576)
def OpenSpec.upto (s : _root_.Go.ChangeSpec) : _root_.Go.OpenSpec := { _root_.Go.OpenSpec.ofChange s with cond := some uptoSmall }

/-- 'laws.FnSameValues', WHERE WHAT IT READS IS OF BULK AT MOST 1048576: true; the input reads as it did. -/
def fnSameValuesUptoRow : OpenClaim := { program := "ytlidplmpglpkgaa", sum := "621fcb31eee0c0aa8ef4fdc7a1a2bbe56b1e14e265d7fbc9f30d301dd8ac7913", func := "loop.example/polycircuits/laws.FnSameValues", spec := "fnSameValues", inPlace := ["slices.overlaps[loop.example/polycircuits/impl.Term]"], unfollowed := true, recurses := true, plainKeys := false, apart := false, narrowed := true }
def FnSameValuesUptoSaid : Prop := fnSameValuesUptoRow.holds Try.pinned (OpenSpec.upto fnSameValuesSpec)

/-- 'laws.FnFirstNonzero', WHERE WHAT IT READS IS OF BULK AT MOST 1048576: true; the input reads as it did. -/
def fnFirstNonzeroUptoRow : OpenClaim := { program := "ytlidplmpglpkgaa", sum := "621fcb31eee0c0aa8ef4fdc7a1a2bbe56b1e14e265d7fbc9f30d301dd8ac7913", func := "loop.example/polycircuits/laws.FnFirstNonzero", spec := "fnFirstNonzero", unfollowed := true, recurses := true, plainKeys := false, apart := false, narrowed := true }
def FnFirstNonzeroUptoSaid : Prop := fnFirstNonzeroUptoRow.holds Try.pinned (OpenSpec.upto fnFirstNonzeroSpec)

/-- 'laws.FnGradient', WHERE WHAT IT READS IS OF BULK AT MOST 1048576: true; the input reads as it did. -/
def fnGradientUptoRow : OpenClaim := { program := "ytlidplmpglpkgaa", sum := "621fcb31eee0c0aa8ef4fdc7a1a2bbe56b1e14e265d7fbc9f30d301dd8ac7913", func := "loop.example/polycircuits/laws.FnGradient", spec := "fnGradient", inPlace := ["slices.overlaps[loop.example/polycircuits/impl.Term]"], unfollowed := true, recurses := true, plainKeys := false, apart := false, narrowed := true }
def FnGradientUptoSaid : Prop := fnGradientUptoRow.holds Try.pinned (OpenSpec.upto fnGradientSpec)

/-- 'laws.FnGradientAt', WHERE WHAT IT READS IS OF BULK AT MOST 1048576: true; the input reads as it did. -/
def fnGradientAtUptoRow : OpenClaim := { program := "ytlidplmpglpkgaa", sum := "621fcb31eee0c0aa8ef4fdc7a1a2bbe56b1e14e265d7fbc9f30d301dd8ac7913", func := "loop.example/polycircuits/laws.FnGradientAt", spec := "fnGradientAt", unfollowed := true, recurses := true, plainKeys := false, apart := false, narrowed := true }
def FnGradientAtUptoSaid : Prop := fnGradientAtUptoRow.holds Try.pinned (OpenSpec.upto fnGradientAtSpec)

/-- 'laws.FnGradientPolys', WHERE WHAT IT READS IS OF BULK AT MOST 1048576: true; the input reads as it did. -/
def fnGradientPolysUptoRow : OpenClaim := { program := "ytlidplmpglpkgaa", sum := "621fcb31eee0c0aa8ef4fdc7a1a2bbe56b1e14e265d7fbc9f30d301dd8ac7913", func := "loop.example/polycircuits/laws.FnGradientPolys", spec := "fnGradientPolys", inPlace := ["slices.overlaps[loop.example/polycircuits/impl.Term]"], unfollowed := true, recurses := true, plainKeys := false, apart := false, narrowed := true }
def FnGradientPolysUptoSaid : Prop := fnGradientPolysUptoRow.holds Try.pinned (OpenSpec.upto fnGradientPolysSpec)

/-- 'laws.FnForwardOf', WHERE WHAT IT READS IS OF BULK AT MOST 1048576: true; the input reads as it did. -/
def fnForwardOfUptoRow : OpenClaim := { program := "ytlidplmpglpkgaa", sum := "621fcb31eee0c0aa8ef4fdc7a1a2bbe56b1e14e265d7fbc9f30d301dd8ac7913", func := "loop.example/polycircuits/laws.FnForwardOf", spec := "fnForwardOf", inPlace := ["slices.overlaps[loop.example/polycircuits/impl.Term]"], unfollowed := true, recurses := true, plainKeys := false, apart := false, narrowed := true }
def FnForwardOfUptoSaid : Prop := fnForwardOfUptoRow.holds Try.pinned (OpenSpec.upto fnForwardOfSpec)

/-- 'laws.FnPartCircuit', WHERE WHAT IT READS IS OF BULK AT MOST 1048576: true; the input reads as it did. -/
def fnPartCircuitUptoRow : OpenClaim := { program := "ytlidplmpglpkgaa", sum := "621fcb31eee0c0aa8ef4fdc7a1a2bbe56b1e14e265d7fbc9f30d301dd8ac7913", func := "loop.example/polycircuits/laws.FnPartCircuit", spec := "fnPartCircuit", inPlace := ["slices.overlaps[loop.example/polycircuits/impl.Term]"], unfollowed := true, recurses := true, plainKeys := false, apart := false, narrowed := true }
def FnPartCircuitUptoSaid : Prop := fnPartCircuitUptoRow.holds Try.pinned (OpenSpec.upto fnPartCircuitSpec)

/-- 'laws.FnPartsAt', WHERE WHAT IT READS IS OF BULK AT MOST 1048576: true; the input reads as it did. -/
def fnPartsAtUptoRow : OpenClaim := { program := "ytlidplmpglpkgaa", sum := "621fcb31eee0c0aa8ef4fdc7a1a2bbe56b1e14e265d7fbc9f30d301dd8ac7913", func := "loop.example/polycircuits/laws.FnPartsAt", spec := "fnPartsAt", inPlace := ["slices.overlaps[loop.example/polycircuits/impl.Term]"], unfollowed := true, recurses := true, plainKeys := false, apart := false, narrowed := true }
def FnPartsAtUptoSaid : Prop := fnPartsAtUptoRow.holds Try.pinned (OpenSpec.upto fnPartsAtSpec)

/-- 'laws.FnMulCut', WHERE WHAT IT READS IS OF BULK AT MOST 1048576: true; the input reads as it did. -/
def fnMulCutUptoRow : OpenClaim := { program := "ytlidplmpglpkgaa", sum := "621fcb31eee0c0aa8ef4fdc7a1a2bbe56b1e14e265d7fbc9f30d301dd8ac7913", func := "loop.example/polycircuits/laws.FnMulCut", spec := "fnMulCut", inPlace := ["slices.overlaps[loop.example/polycircuits/impl.Term]"], unfollowed := true, recurses := true, plainKeys := false, apart := false, narrowed := true }
def FnMulCutUptoSaid : Prop := fnMulCutUptoRow.holds Try.pinned (OpenSpec.upto fnMulCutSpec)

/-- 'laws.FnShiftPoly', WHERE WHAT IT READS IS OF BULK AT MOST 1048576: true; the input reads as it did. -/
def fnShiftPolyUptoRow : OpenClaim := { program := "ytlidplmpglpkgaa", sum := "621fcb31eee0c0aa8ef4fdc7a1a2bbe56b1e14e265d7fbc9f30d301dd8ac7913", func := "loop.example/polycircuits/laws.FnShiftPoly", spec := "fnShiftPoly", inPlace := ["slices.overlaps[loop.example/polycircuits/impl.Term]"], unfollowed := true, recurses := true, plainKeys := false, apart := false, narrowed := true }
def FnShiftPolyUptoSaid : Prop := fnShiftPolyUptoRow.holds Try.pinned (OpenSpec.upto fnShiftPolySpec)

/-- 'laws.FnEulerPoly', WHERE WHAT IT READS IS OF BULK AT MOST 1048576: true; the input reads as it did. -/
def fnEulerPolyUptoRow : OpenClaim := { program := "ytlidplmpglpkgaa", sum := "621fcb31eee0c0aa8ef4fdc7a1a2bbe56b1e14e265d7fbc9f30d301dd8ac7913", func := "loop.example/polycircuits/laws.FnEulerPoly", spec := "fnEulerPoly", inPlace := ["slices.overlaps[loop.example/polycircuits/impl.Term]"], unfollowed := true, recurses := true, plainKeys := false, apart := false, narrowed := true }
def FnEulerPolyUptoSaid : Prop := fnEulerPolyUptoRow.holds Try.pinned (OpenSpec.upto fnEulerPolySpec)

/-- 'laws.FnScaleUnknowns', WHERE WHAT IT READS IS OF BULK AT MOST 1048576: true; the input reads as it did. -/
def fnScaleUnknownsUptoRow : OpenClaim := { program := "ytlidplmpglpkgaa", sum := "621fcb31eee0c0aa8ef4fdc7a1a2bbe56b1e14e265d7fbc9f30d301dd8ac7913", func := "loop.example/polycircuits/laws.FnScaleUnknowns", spec := "fnScaleUnknowns", inPlace := ["slices.overlaps[loop.example/polycircuits/impl.Term]"], unfollowed := true, recurses := true, plainKeys := false, apart := false, narrowed := true }
def FnScaleUnknownsUptoSaid : Prop := fnScaleUnknownsUptoRow.holds Try.pinned (OpenSpec.upto fnScaleUnknownsSpec)

/-- 'laws.FnExactFirstNonzero', WHERE WHAT IT READS IS OF BULK AT MOST 1048576: true; the input reads as it did. -/
def fnExactFirstNonzeroUptoRow : OpenClaim := { program := "ytlidplmpglpkgaa", sum := "621fcb31eee0c0aa8ef4fdc7a1a2bbe56b1e14e265d7fbc9f30d301dd8ac7913", func := "loop.example/polycircuits/laws.FnExactFirstNonzero", spec := "fnExactFirstNonzero", unfollowed := true, recurses := true, plainKeys := false, apart := false, narrowed := true }
def FnExactFirstNonzeroUptoSaid : Prop := fnExactFirstNonzeroUptoRow.holds Try.pinned (OpenSpec.upto fnExactFirstNonzeroSpec)

/-- 'laws.FnExactTellApart', WHERE WHAT IT READS IS OF BULK AT MOST 1048576: true; the input reads as it did. -/
def fnExactTellApartUptoRow : OpenClaim := { program := "ytlidplmpglpkgaa", sum := "621fcb31eee0c0aa8ef4fdc7a1a2bbe56b1e14e265d7fbc9f30d301dd8ac7913", func := "loop.example/polycircuits/laws.FnExactTellApart", spec := "fnExactTellApart", unfollowed := true, recurses := true, plainKeys := false, apart := false, narrowed := true }
def FnExactTellApartUptoSaid : Prop := fnExactTellApartUptoRow.holds Try.pinned (OpenSpec.upto fnExactTellApartSpec)

end Rows
end Go.Proofs.Ytlidplmpglpkgaa
