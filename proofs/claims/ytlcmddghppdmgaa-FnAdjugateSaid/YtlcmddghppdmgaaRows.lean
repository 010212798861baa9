/-
  No cell of these rows narrows 'for every input' (looked for: loops, veiled, ifaces, maps, wideKeys, modest, calm, conditions, laid).
  DERIVED. THE GIVEN ROWS OF THIS SEAT. 15 by the template 'for every input the law returns true; each argument reads behind the call as it read before'; 0 by the template 'total and deterministic' (their statements: YtlcmddghppdmgaaTotals.lean).
  GIVEN WITH THE SEED: the statements are not yours to turn. If you find one false, say at which input.
  Laid BY PROGRAM, IN A SANDBOX (cutbox-rows.mjs): the forced cells as the released guide's own fill.sh prints them over the translation e889ac3ab0da4038… (all of the seat's roots in one cut). By AI agents, Wed Nov 11 2026. No macro, syntax, notation, axiom, sorry.
-/
import Derived.Test.YtlcmddghppdmgaaChecked
import GoSem.Claim
import GoSem.ClaimJoined
import GoSem.ClaimMapViews
import Derived.JoinedTies
import Derived.KernelRfl
namespace Go.Proofs.Ytlcmddghppdmgaa
/- THE CELL 'sum', in the pinned program and in every row, IS THE sha256 OF THE DUMP (.gsa) THAT YtlcmddghppdmgaaProg.lean LOADS. Nothing in Lean hashes anything: it is a label: what it is worth is what the hold of that sum in a sandbox is worth. -/
noncomputable def Try.pinned : Pinned := { name := "ytlcmddghppdmgaa", sum := "e889ac3ab0da40383b64fdcfaa730e3e3e674ea6a614826598ad5e78c7c0d103", checked := Try.checked }
namespace Rows
def none {H : Type} : Left H := { results := [], args := [] }

/-- 'laws.FnExactProgramValid': WHATEVER THE INPUT: true; the input reads as it did. -/
def fnExactProgramValidSpec : ChangeSpec := { name := "fnExactProgramValid", fn := fun _ => fun
  | [d1, d2] => { results := [.lit (.bool true)], args := [d1, d2] }
  | _ => none }
def fnExactProgramValidRow : OpenClaim := { program := "ytlcmddghppdmgaa", sum := "e889ac3ab0da40383b64fdcfaa730e3e3e674ea6a614826598ad5e78c7c0d103", func := "loop.example/polycircuits/laws.FnExactProgramValid", spec := "fnExactProgramValid", apart := false }
def FnExactProgramValidSaid : Prop := fnExactProgramValidRow.holds Try.pinned (OpenSpec.ofChange fnExactProgramValidSpec)

/-- ITS FALSE NEIGHBOUR: 'it returns false'. Refute it at one input. -/
def fnExactProgramValidWrong : ChangeSpec := { name := "fnExactProgramValid", fn := fun _ => fun
  | [d1, d2] => { results := [.lit (.bool false)], args := [d1, d2] }
  | _ => none }
def FnExactProgramValidWrongFalsely : Prop := fnExactProgramValidRow.holds Try.pinned (OpenSpec.ofChange fnExactProgramValidWrong)

/-- 'laws.FnExactMatrixAt': WHATEVER THE INPUT: true; the input reads as it did. -/
def fnExactMatrixAtSpec : ChangeSpec := { name := "fnExactMatrixAt", fn := fun _ => fun
  | [d1, d2, d3] => { results := [.lit (.bool true)], args := [d1, d2, d3] }
  | _ => none }
def fnExactMatrixAtRow : OpenClaim := { program := "ytlcmddghppdmgaa", sum := "e889ac3ab0da40383b64fdcfaa730e3e3e674ea6a614826598ad5e78c7c0d103", func := "loop.example/polycircuits/laws.FnExactMatrixAt", spec := "fnExactMatrixAt", unfollowed := true, recurses := true, apart := false }
def FnExactMatrixAtSaid : Prop := fnExactMatrixAtRow.holds Try.pinned (OpenSpec.ofChange fnExactMatrixAtSpec)

/-- ITS FALSE NEIGHBOUR: 'it returns false'. Refute it at one input. -/
def fnExactMatrixAtWrong : ChangeSpec := { name := "fnExactMatrixAt", fn := fun _ => fun
  | [d1, d2, d3] => { results := [.lit (.bool false)], args := [d1, d2, d3] }
  | _ => none }
def FnExactMatrixAtWrongFalsely : Prop := fnExactMatrixAtRow.holds Try.pinned (OpenSpec.ofChange fnExactMatrixAtWrong)

/-- 'laws.FnExactChainPrograms': WHATEVER THE INPUT: true; the input reads as it did. -/
def fnExactChainProgramsSpec : ChangeSpec := { name := "fnExactChainPrograms", fn := fun _ => fun
  | [d1, d2, d3] => { results := [.lit (.bool true)], args := [d1, d2, d3] }
  | _ => none }
def fnExactChainProgramsRow : OpenClaim := { program := "ytlcmddghppdmgaa", sum := "e889ac3ab0da40383b64fdcfaa730e3e3e674ea6a614826598ad5e78c7c0d103", func := "loop.example/polycircuits/laws.FnExactChainPrograms", spec := "fnExactChainPrograms", unfollowed := true, recurses := true, apart := false }
def FnExactChainProgramsSaid : Prop := fnExactChainProgramsRow.holds Try.pinned (OpenSpec.ofChange fnExactChainProgramsSpec)

/-- ITS FALSE NEIGHBOUR: 'it returns false'. Refute it at one input. -/
def fnExactChainProgramsWrong : ChangeSpec := { name := "fnExactChainPrograms", fn := fun _ => fun
  | [d1, d2, d3] => { results := [.lit (.bool false)], args := [d1, d2, d3] }
  | _ => none }
def FnExactChainProgramsWrongFalsely : Prop := fnExactChainProgramsRow.holds Try.pinned (OpenSpec.ofChange fnExactChainProgramsWrong)

/-- 'laws.FnExactBesidePrograms': WHATEVER THE INPUT: true; the input reads as it did. -/
def fnExactBesideProgramsSpec : ChangeSpec := { name := "fnExactBesidePrograms", fn := fun _ => fun
  | [d1, d2, d3] => { results := [.lit (.bool true)], args := [d1, d2, d3] }
  | _ => none }
def fnExactBesideProgramsRow : OpenClaim := { program := "ytlcmddghppdmgaa", sum := "e889ac3ab0da40383b64fdcfaa730e3e3e674ea6a614826598ad5e78c7c0d103", func := "loop.example/polycircuits/laws.FnExactBesidePrograms", spec := "fnExactBesidePrograms", unfollowed := true, recurses := true, apart := false }
def FnExactBesideProgramsSaid : Prop := fnExactBesideProgramsRow.holds Try.pinned (OpenSpec.ofChange fnExactBesideProgramsSpec)

/-- ITS FALSE NEIGHBOUR: 'it returns false'. Refute it at one input. -/
def fnExactBesideProgramsWrong : ChangeSpec := { name := "fnExactBesidePrograms", fn := fun _ => fun
  | [d1, d2, d3] => { results := [.lit (.bool false)], args := [d1, d2, d3] }
  | _ => none }
def FnExactBesideProgramsWrongFalsely : Prop := fnExactBesideProgramsRow.holds Try.pinned (OpenSpec.ofChange fnExactBesideProgramsWrong)

/-- 'laws.FnExactDetPaths': WHATEVER THE INPUT: true; the input reads as it did. -/
def fnExactDetPathsSpec : ChangeSpec := { name := "fnExactDetPaths", fn := fun _ => fun
  | [d1, d2, d3] => { results := [.lit (.bool true)], args := [d1, d2, d3] }
  | _ => none }
def fnExactDetPathsRow : OpenClaim := { program := "ytlcmddghppdmgaa", sum := "e889ac3ab0da40383b64fdcfaa730e3e3e674ea6a614826598ad5e78c7c0d103", func := "loop.example/polycircuits/laws.FnExactDetPaths", spec := "fnExactDetPaths", inPlace := ["slices.overlaps[int]"], unfollowed := true, recurses := true, apart := false }
def FnExactDetPathsSaid : Prop := fnExactDetPathsRow.holds Try.pinned (OpenSpec.ofChange fnExactDetPathsSpec)

/-- ITS FALSE NEIGHBOUR: 'it returns false'. Refute it at one input. -/
def fnExactDetPathsWrong : ChangeSpec := { name := "fnExactDetPaths", fn := fun _ => fun
  | [d1, d2, d3] => { results := [.lit (.bool false)], args := [d1, d2, d3] }
  | _ => none }
def FnExactDetPathsWrongFalsely : Prop := fnExactDetPathsRow.holds Try.pinned (OpenSpec.ofChange fnExactDetPathsWrong)

/-- 'laws.FnExactDetOf': WHATEVER THE INPUT: true; the input reads as it did. -/
def fnExactDetOfSpec : ChangeSpec := { name := "fnExactDetOf", fn := fun _ => fun
  | [d1, d2] => { results := [.lit (.bool true)], args := [d1, d2] }
  | _ => none }
def fnExactDetOfRow : OpenClaim := { program := "ytlcmddghppdmgaa", sum := "e889ac3ab0da40383b64fdcfaa730e3e3e674ea6a614826598ad5e78c7c0d103", func := "loop.example/polycircuits/laws.FnExactDetOf", spec := "fnExactDetOf", inPlace := ["slices.overlaps[int]"], unfollowed := true, recurses := true, apart := false }
def FnExactDetOfSaid : Prop := fnExactDetOfRow.holds Try.pinned (OpenSpec.ofChange fnExactDetOfSpec)

/-- ITS FALSE NEIGHBOUR: 'it returns false'. Refute it at one input. -/
def fnExactDetOfWrong : ChangeSpec := { name := "fnExactDetOf", fn := fun _ => fun
  | [d1, d2] => { results := [.lit (.bool false)], args := [d1, d2] }
  | _ => none }
def FnExactDetOfWrongFalsely : Prop := fnExactDetOfRow.holds Try.pinned (OpenSpec.ofChange fnExactDetOfWrong)

/-- 'laws.FnExactPermanentOf': WHATEVER THE INPUT: true; the input reads as it did. -/
def fnExactPermanentOfSpec : ChangeSpec := { name := "fnExactPermanentOf", fn := fun _ => fun
  | [d1, d2] => { results := [.lit (.bool true)], args := [d1, d2] }
  | _ => none }
def fnExactPermanentOfRow : OpenClaim := { program := "ytlcmddghppdmgaa", sum := "e889ac3ab0da40383b64fdcfaa730e3e3e674ea6a614826598ad5e78c7c0d103", func := "loop.example/polycircuits/laws.FnExactPermanentOf", spec := "fnExactPermanentOf", inPlace := ["slices.overlaps[int]"], unfollowed := true, recurses := true, apart := false }
def FnExactPermanentOfSaid : Prop := fnExactPermanentOfRow.holds Try.pinned (OpenSpec.ofChange fnExactPermanentOfSpec)

/-- ITS FALSE NEIGHBOUR: 'it returns false'. Refute it at one input. -/
def fnExactPermanentOfWrong : ChangeSpec := { name := "fnExactPermanentOf", fn := fun _ => fun
  | [d1, d2] => { results := [.lit (.bool false)], args := [d1, d2] }
  | _ => none }
def FnExactPermanentOfWrongFalsely : Prop := fnExactPermanentOfRow.holds Try.pinned (OpenSpec.ofChange fnExactPermanentOfWrong)

/-- 'laws.FnExactAdjugateOf': WHATEVER THE INPUT: true; the input reads as it did. -/
def fnExactAdjugateOfSpec : ChangeSpec := { name := "fnExactAdjugateOf", fn := fun _ => fun
  | [d1, d2] => { results := [.lit (.bool true)], args := [d1, d2] }
  | _ => none }
def fnExactAdjugateOfRow : OpenClaim := { program := "ytlcmddghppdmgaa", sum := "e889ac3ab0da40383b64fdcfaa730e3e3e674ea6a614826598ad5e78c7c0d103", func := "loop.example/polycircuits/laws.FnExactAdjugateOf", spec := "fnExactAdjugateOf", inPlace := ["slices.overlaps[int]"], unfollowed := true, recurses := true, apart := false }
def FnExactAdjugateOfSaid : Prop := fnExactAdjugateOfRow.holds Try.pinned (OpenSpec.ofChange fnExactAdjugateOfSpec)

/-- ITS FALSE NEIGHBOUR: 'it returns false'. Refute it at one input. -/
def fnExactAdjugateOfWrong : ChangeSpec := { name := "fnExactAdjugateOf", fn := fun _ => fun
  | [d1, d2] => { results := [.lit (.bool false)], args := [d1, d2] }
  | _ => none }
def FnExactAdjugateOfWrongFalsely : Prop := fnExactAdjugateOfRow.holds Try.pinned (OpenSpec.ofChange fnExactAdjugateOfWrong)

/-- 'laws.FnExactInverseOf': WHATEVER THE INPUT: true; the input reads as it did. -/
def fnExactInverseOfSpec : ChangeSpec := { name := "fnExactInverseOf", fn := fun _ => fun
  | [d1, d2] => { results := [.lit (.bool true)], args := [d1, d2] }
  | _ => none }
def fnExactInverseOfRow : OpenClaim := { program := "ytlcmddghppdmgaa", sum := "e889ac3ab0da40383b64fdcfaa730e3e3e674ea6a614826598ad5e78c7c0d103", func := "loop.example/polycircuits/laws.FnExactInverseOf", spec := "fnExactInverseOf", inPlace := ["slices.overlaps[int]"], unfollowed := true, recurses := true, apart := false }
def FnExactInverseOfSaid : Prop := fnExactInverseOfRow.holds Try.pinned (OpenSpec.ofChange fnExactInverseOfSpec)

/-- ITS FALSE NEIGHBOUR: 'it returns false'. Refute it at one input. -/
def fnExactInverseOfWrong : ChangeSpec := { name := "fnExactInverseOf", fn := fun _ => fun
  | [d1, d2] => { results := [.lit (.bool false)], args := [d1, d2] }
  | _ => none }
def FnExactInverseOfWrongFalsely : Prop := fnExactInverseOfRow.holds Try.pinned (OpenSpec.ofChange fnExactInverseOfWrong)

/-- 'laws.FnExactCharacterOf': WHATEVER THE INPUT: true; the input reads as it did. -/
def fnExactCharacterOfSpec : ChangeSpec := { name := "fnExactCharacterOf", fn := fun _ => fun
  | [d1, d2] => { results := [.lit (.bool true)], args := [d1, d2] }
  | _ => none }
def fnExactCharacterOfRow : OpenClaim := { program := "ytlcmddghppdmgaa", sum := "e889ac3ab0da40383b64fdcfaa730e3e3e674ea6a614826598ad5e78c7c0d103", func := "loop.example/polycircuits/laws.FnExactCharacterOf", spec := "fnExactCharacterOf", inPlace := ["slices.overlaps[int]", "slices.overlaps[loop.example/polycircuits/impl.Term]"], unfollowed := true, recurses := true, apart := false }
def FnExactCharacterOfSaid : Prop := fnExactCharacterOfRow.holds Try.pinned (OpenSpec.ofChange fnExactCharacterOfSpec)

/-- ITS FALSE NEIGHBOUR: 'it returns false'. Refute it at one input. -/
def fnExactCharacterOfWrong : ChangeSpec := { name := "fnExactCharacterOf", fn := fun _ => fun
  | [d1, d2] => { results := [.lit (.bool false)], args := [d1, d2] }
  | _ => none }
def FnExactCharacterOfWrongFalsely : Prop := fnExactCharacterOfRow.holds Try.pinned (OpenSpec.ofChange fnExactCharacterOfWrong)

/-- 'laws.FnMulMatrix': WHATEVER THE INPUT: true; the input reads as it did. -/
def fnMulMatrixSpec : ChangeSpec := { name := "fnMulMatrix", fn := fun _ => fun
  | [d] => { results := [.lit (.bool true)], args := [d] }
  | _ => none }
def fnMulMatrixRow : OpenClaim := { program := "ytlcmddghppdmgaa", sum := "e889ac3ab0da40383b64fdcfaa730e3e3e674ea6a614826598ad5e78c7c0d103", func := "loop.example/polycircuits/laws.FnMulMatrix", spec := "fnMulMatrix", inPlace := ["slices.overlaps[int]"], unfollowed := true, recurses := true, apart := false }
def FnMulMatrixSaid : Prop := fnMulMatrixRow.holds Try.pinned (OpenSpec.ofChange fnMulMatrixSpec)

/-- ITS FALSE NEIGHBOUR: 'it returns false'. Refute it at one input. -/
def fnMulMatrixWrong : ChangeSpec := { name := "fnMulMatrix", fn := fun _ => fun
  | [d] => { results := [.lit (.bool false)], args := [d] }
  | _ => none }
def FnMulMatrixWrongFalsely : Prop := fnMulMatrixRow.holds Try.pinned (OpenSpec.ofChange fnMulMatrixWrong)

/-- 'laws.FnDet': WHATEVER THE INPUT: true; the input reads as it did. -/
def fnDetSpec : ChangeSpec := { name := "fnDet", fn := fun _ => fun
  | [d] => { results := [.lit (.bool true)], args := [d] }
  | _ => none }
def fnDetRow : OpenClaim := { program := "ytlcmddghppdmgaa", sum := "e889ac3ab0da40383b64fdcfaa730e3e3e674ea6a614826598ad5e78c7c0d103", func := "loop.example/polycircuits/laws.FnDet", spec := "fnDet", inPlace := ["slices.overlaps[int]"], unfollowed := true, recurses := true, apart := false }
def FnDetSaid : Prop := fnDetRow.holds Try.pinned (OpenSpec.ofChange fnDetSpec)

/-- ITS FALSE NEIGHBOUR: 'it returns false'. Refute it at one input. -/
def fnDetWrong : ChangeSpec := { name := "fnDet", fn := fun _ => fun
  | [d] => { results := [.lit (.bool false)], args := [d] }
  | _ => none }
def FnDetWrongFalsely : Prop := fnDetRow.holds Try.pinned (OpenSpec.ofChange fnDetWrong)

/-- 'laws.FnAdjugate': WHATEVER THE INPUT: true; the input reads as it did. -/
def fnAdjugateSpec : ChangeSpec := { name := "fnAdjugate", fn := fun _ => fun
  | [d] => { results := [.lit (.bool true)], args := [d] }
  | _ => none }
def fnAdjugateRow : OpenClaim := { program := "ytlcmddghppdmgaa", sum := "e889ac3ab0da40383b64fdcfaa730e3e3e674ea6a614826598ad5e78c7c0d103", func := "loop.example/polycircuits/laws.FnAdjugate", spec := "fnAdjugate", inPlace := ["slices.overlaps[int]"], unfollowed := true, recurses := true, apart := false }
def FnAdjugateSaid : Prop := fnAdjugateRow.holds Try.pinned (OpenSpec.ofChange fnAdjugateSpec)

/-- ITS FALSE NEIGHBOUR: 'it returns false'. Refute it at one input. -/
def fnAdjugateWrong : ChangeSpec := { name := "fnAdjugate", fn := fun _ => fun
  | [d] => { results := [.lit (.bool false)], args := [d] }
  | _ => none }
def FnAdjugateWrongFalsely : Prop := fnAdjugateRow.holds Try.pinned (OpenSpec.ofChange fnAdjugateWrong)

/-- 'laws.FnPermanent': WHATEVER THE INPUT: true; the input reads as it did. -/
def fnPermanentSpec : ChangeSpec := { name := "fnPermanent", fn := fun _ => fun
  | [d] => { results := [.lit (.bool true)], args := [d] }
  | _ => none }
def fnPermanentRow : OpenClaim := { program := "ytlcmddghppdmgaa", sum := "e889ac3ab0da40383b64fdcfaa730e3e3e674ea6a614826598ad5e78c7c0d103", func := "loop.example/polycircuits/laws.FnPermanent", spec := "fnPermanent", inPlace := ["slices.overlaps[int]"], unfollowed := true, recurses := true, apart := false }
def FnPermanentSaid : Prop := fnPermanentRow.holds Try.pinned (OpenSpec.ofChange fnPermanentSpec)

/-- ITS FALSE NEIGHBOUR: 'it returns false'. Refute it at one input. -/
def fnPermanentWrong : ChangeSpec := { name := "fnPermanent", fn := fun _ => fun
  | [d] => { results := [.lit (.bool false)], args := [d] }
  | _ => none }
def FnPermanentWrongFalsely : Prop := fnPermanentRow.holds Try.pinned (OpenSpec.ofChange fnPermanentWrong)

/-- 'laws.FnCharacter': WHATEVER THE INPUT: true; the input reads as it did. -/
def fnCharacterSpec : ChangeSpec := { name := "fnCharacter", fn := fun _ => fun
  | [d] => { results := [.lit (.bool true)], args := [d] }
  | _ => none }
def fnCharacterRow : OpenClaim := { program := "ytlcmddghppdmgaa", sum := "e889ac3ab0da40383b64fdcfaa730e3e3e674ea6a614826598ad5e78c7c0d103", func := "loop.example/polycircuits/laws.FnCharacter", spec := "fnCharacter", inPlace := ["slices.overlaps[int]", "slices.overlaps[loop.example/polycircuits/impl.Term]"], unfollowed := true, recurses := true, apart := false }
def FnCharacterSaid : Prop := fnCharacterRow.holds Try.pinned (OpenSpec.ofChange fnCharacterSpec)

/-- ITS FALSE NEIGHBOUR: 'it returns false'. Refute it at one input. -/
def fnCharacterWrong : ChangeSpec := { name := "fnCharacter", fn := fun _ => fun
  | [d] => { results := [.lit (.bool false)], args := [d] }
  | _ => none }
def FnCharacterWrongFalsely : Prop := fnCharacterRow.holds Try.pinned (OpenSpec.ofChange fnCharacterWrong)

/- THE SECOND FORM. 'bulk': how many values and letters a reading holds, each counted each time it is reached (what is shared counts as often as it is met; a slice's spare places count too). A statement '..UptoSaid' is the law's where the arguments, and the package variables that the reading takes, are together of bulk at most 1048576: NARROWER than '..Said'. Prove '..Said' where nothing that the law and all that it calls make is longer than what came in: it says more and counts as full. Else prove '..UptoSaid'. A law counts once. -/
mutual
def uptoBulk {H : Type} : DataW H → Nat
  | .lit (.string bytes) => bytes.length + 1
  | .lit _ => 1
  | .nil => 1
  | .ptr d => uptoBulk d + 1
  | .slice elems spare => uptoBulkAll elems + uptoBulkAll spare + 1
  | .agg parts => uptoBulkAll parts + 1
  | .iface _ d => uptoBulk d + 1
  | .map entries => uptoBulkEntries entries + 1
  | .held _ => 1
def uptoBulkAll {H : Type} : List (DataW H) → Nat
  | [] => 0
  | d :: r => uptoBulk d + uptoBulkAll r
def uptoBulkEntries {H : Type} : List (Lit × DataW H) → Nat
  | [] => 0
  | x :: r => uptoBulkEntry x + uptoBulkEntries r
def uptoBulkEntry {H : Type} : Lit × DataW H → Nat
  | (.string bytes, d) => bytes.length + uptoBulk d + 1
  | (_, d) => uptoBulk d + 1
 end
def uptoSmall : (H : Type) → List (DataW H) → Bool := fun _ ds => decide (uptoBulkAll ds ≤ 1048576)
def OpenSpec.upto (s : _root_.Go.ChangeSpec) : _root_.Go.OpenSpec := { _root_.Go.OpenSpec.ofChange s with cond := some uptoSmall }

/-- 'laws.FnExactProgramValid', WHERE WHAT IT READS IS OF BULK AT MOST 1048576: true; the input reads as it did. -/
def fnExactProgramValidUptoRow : OpenClaim := { program := "ytlcmddghppdmgaa", sum := "e889ac3ab0da40383b64fdcfaa730e3e3e674ea6a614826598ad5e78c7c0d103", func := "loop.example/polycircuits/laws.FnExactProgramValid", spec := "fnExactProgramValid", apart := false, narrowed := true }
def FnExactProgramValidUptoSaid : Prop := fnExactProgramValidUptoRow.holds Try.pinned (OpenSpec.upto fnExactProgramValidSpec)

/-- 'laws.FnExactMatrixAt', WHERE WHAT IT READS IS OF BULK AT MOST 1048576: true; the input reads as it did. -/
def fnExactMatrixAtUptoRow : OpenClaim := { program := "ytlcmddghppdmgaa", sum := "e889ac3ab0da40383b64fdcfaa730e3e3e674ea6a614826598ad5e78c7c0d103", func := "loop.example/polycircuits/laws.FnExactMatrixAt", spec := "fnExactMatrixAt", unfollowed := true, recurses := true, apart := false, narrowed := true }
def FnExactMatrixAtUptoSaid : Prop := fnExactMatrixAtUptoRow.holds Try.pinned (OpenSpec.upto fnExactMatrixAtSpec)

/-- 'laws.FnExactChainPrograms', WHERE WHAT IT READS IS OF BULK AT MOST 1048576: true; the input reads as it did. -/
def fnExactChainProgramsUptoRow : OpenClaim := { program := "ytlcmddghppdmgaa", sum := "e889ac3ab0da40383b64fdcfaa730e3e3e674ea6a614826598ad5e78c7c0d103", func := "loop.example/polycircuits/laws.FnExactChainPrograms", spec := "fnExactChainPrograms", unfollowed := true, recurses := true, apart := false, narrowed := true }
def FnExactChainProgramsUptoSaid : Prop := fnExactChainProgramsUptoRow.holds Try.pinned (OpenSpec.upto fnExactChainProgramsSpec)

/-- 'laws.FnExactBesidePrograms', WHERE WHAT IT READS IS OF BULK AT MOST 1048576: true; the input reads as it did. -/
def fnExactBesideProgramsUptoRow : OpenClaim := { program := "ytlcmddghppdmgaa", sum := "e889ac3ab0da40383b64fdcfaa730e3e3e674ea6a614826598ad5e78c7c0d103", func := "loop.example/polycircuits/laws.FnExactBesidePrograms", spec := "fnExactBesidePrograms", unfollowed := true, recurses := true, apart := false, narrowed := true }
def FnExactBesideProgramsUptoSaid : Prop := fnExactBesideProgramsUptoRow.holds Try.pinned (OpenSpec.upto fnExactBesideProgramsSpec)

/-- 'laws.FnExactDetPaths', WHERE WHAT IT READS IS OF BULK AT MOST 1048576: true; the input reads as it did. -/
def fnExactDetPathsUptoRow : OpenClaim := { program := "ytlcmddghppdmgaa", sum := "e889ac3ab0da40383b64fdcfaa730e3e3e674ea6a614826598ad5e78c7c0d103", func := "loop.example/polycircuits/laws.FnExactDetPaths", spec := "fnExactDetPaths", inPlace := ["slices.overlaps[int]"], unfollowed := true, recurses := true, apart := false, narrowed := true }
def FnExactDetPathsUptoSaid : Prop := fnExactDetPathsUptoRow.holds Try.pinned (OpenSpec.upto fnExactDetPathsSpec)

/-- 'laws.FnExactDetOf', WHERE WHAT IT READS IS OF BULK AT MOST 1048576: true; the input reads as it did. -/
def fnExactDetOfUptoRow : OpenClaim := { program := "ytlcmddghppdmgaa", sum := "e889ac3ab0da40383b64fdcfaa730e3e3e674ea6a614826598ad5e78c7c0d103", func := "loop.example/polycircuits/laws.FnExactDetOf", spec := "fnExactDetOf", inPlace := ["slices.overlaps[int]"], unfollowed := true, recurses := true, apart := false, narrowed := true }
def FnExactDetOfUptoSaid : Prop := fnExactDetOfUptoRow.holds Try.pinned (OpenSpec.upto fnExactDetOfSpec)

/-- 'laws.FnExactPermanentOf', WHERE WHAT IT READS IS OF BULK AT MOST 1048576: true; the input reads as it did. -/
def fnExactPermanentOfUptoRow : OpenClaim := { program := "ytlcmddghppdmgaa", sum := "e889ac3ab0da40383b64fdcfaa730e3e3e674ea6a614826598ad5e78c7c0d103", func := "loop.example/polycircuits/laws.FnExactPermanentOf", spec := "fnExactPermanentOf", inPlace := ["slices.overlaps[int]"], unfollowed := true, recurses := true, apart := false, narrowed := true }
def FnExactPermanentOfUptoSaid : Prop := fnExactPermanentOfUptoRow.holds Try.pinned (OpenSpec.upto fnExactPermanentOfSpec)

/-- 'laws.FnExactAdjugateOf', WHERE WHAT IT READS IS OF BULK AT MOST 1048576: true; the input reads as it did. -/
def fnExactAdjugateOfUptoRow : OpenClaim := { program := "ytlcmddghppdmgaa", sum := "e889ac3ab0da40383b64fdcfaa730e3e3e674ea6a614826598ad5e78c7c0d103", func := "loop.example/polycircuits/laws.FnExactAdjugateOf", spec := "fnExactAdjugateOf", inPlace := ["slices.overlaps[int]"], unfollowed := true, recurses := true, apart := false, narrowed := true }
def FnExactAdjugateOfUptoSaid : Prop := fnExactAdjugateOfUptoRow.holds Try.pinned (OpenSpec.upto fnExactAdjugateOfSpec)

/-- 'laws.FnExactInverseOf', WHERE WHAT IT READS IS OF BULK AT MOST 1048576: true; the input reads as it did. -/
def fnExactInverseOfUptoRow : OpenClaim := { program := "ytlcmddghppdmgaa", sum := "e889ac3ab0da40383b64fdcfaa730e3e3e674ea6a614826598ad5e78c7c0d103", func := "loop.example/polycircuits/laws.FnExactInverseOf", spec := "fnExactInverseOf", inPlace := ["slices.overlaps[int]"], unfollowed := true, recurses := true, apart := false, narrowed := true }
def FnExactInverseOfUptoSaid : Prop := fnExactInverseOfUptoRow.holds Try.pinned (OpenSpec.upto fnExactInverseOfSpec)

/-- 'laws.FnExactCharacterOf', WHERE WHAT IT READS IS OF BULK AT MOST 1048576: true; the input reads as it did. -/
def fnExactCharacterOfUptoRow : OpenClaim := { program := "ytlcmddghppdmgaa", sum := "e889ac3ab0da40383b64fdcfaa730e3e3e674ea6a614826598ad5e78c7c0d103", func := "loop.example/polycircuits/laws.FnExactCharacterOf", spec := "fnExactCharacterOf", inPlace := ["slices.overlaps[int]", "slices.overlaps[loop.example/polycircuits/impl.Term]"], unfollowed := true, recurses := true, apart := false, narrowed := true }
def FnExactCharacterOfUptoSaid : Prop := fnExactCharacterOfUptoRow.holds Try.pinned (OpenSpec.upto fnExactCharacterOfSpec)

/-- 'laws.FnMulMatrix', WHERE WHAT IT READS IS OF BULK AT MOST 1048576: true; the input reads as it did. -/
def fnMulMatrixUptoRow : OpenClaim := { program := "ytlcmddghppdmgaa", sum := "e889ac3ab0da40383b64fdcfaa730e3e3e674ea6a614826598ad5e78c7c0d103", func := "loop.example/polycircuits/laws.FnMulMatrix", spec := "fnMulMatrix", inPlace := ["slices.overlaps[int]"], unfollowed := true, recurses := true, apart := false, narrowed := true }
def FnMulMatrixUptoSaid : Prop := fnMulMatrixUptoRow.holds Try.pinned (OpenSpec.upto fnMulMatrixSpec)

/-- 'laws.FnDet', WHERE WHAT IT READS IS OF BULK AT MOST 1048576: true; the input reads as it did. -/
def fnDetUptoRow : OpenClaim := { program := "ytlcmddghppdmgaa", sum := "e889ac3ab0da40383b64fdcfaa730e3e3e674ea6a614826598ad5e78c7c0d103", func := "loop.example/polycircuits/laws.FnDet", spec := "fnDet", inPlace := ["slices.overlaps[int]"], unfollowed := true, recurses := true, apart := false, narrowed := true }
def FnDetUptoSaid : Prop := fnDetUptoRow.holds Try.pinned (OpenSpec.upto fnDetSpec)

/-- 'laws.FnAdjugate', WHERE WHAT IT READS IS OF BULK AT MOST 1048576: true; the input reads as it did. -/
def fnAdjugateUptoRow : OpenClaim := { program := "ytlcmddghppdmgaa", sum := "e889ac3ab0da40383b64fdcfaa730e3e3e674ea6a614826598ad5e78c7c0d103", func := "loop.example/polycircuits/laws.FnAdjugate", spec := "fnAdjugate", inPlace := ["slices.overlaps[int]"], unfollowed := true, recurses := true, apart := false, narrowed := true }
def FnAdjugateUptoSaid : Prop := fnAdjugateUptoRow.holds Try.pinned (OpenSpec.upto fnAdjugateSpec)

/-- 'laws.FnPermanent', WHERE WHAT IT READS IS OF BULK AT MOST 1048576: true; the input reads as it did. -/
def fnPermanentUptoRow : OpenClaim := { program := "ytlcmddghppdmgaa", sum := "e889ac3ab0da40383b64fdcfaa730e3e3e674ea6a614826598ad5e78c7c0d103", func := "loop.example/polycircuits/laws.FnPermanent", spec := "fnPermanent", inPlace := ["slices.overlaps[int]"], unfollowed := true, recurses := true, apart := false, narrowed := true }
def FnPermanentUptoSaid : Prop := fnPermanentUptoRow.holds Try.pinned (OpenSpec.upto fnPermanentSpec)

/-- 'laws.FnCharacter', WHERE WHAT IT READS IS OF BULK AT MOST 1048576: true; the input reads as it did. -/
def fnCharacterUptoRow : OpenClaim := { program := "ytlcmddghppdmgaa", sum := "e889ac3ab0da40383b64fdcfaa730e3e3e674ea6a614826598ad5e78c7c0d103", func := "loop.example/polycircuits/laws.FnCharacter", spec := "fnCharacter", inPlace := ["slices.overlaps[int]", "slices.overlaps[loop.example/polycircuits/impl.Term]"], unfollowed := true, recurses := true, apart := false, narrowed := true }
def FnCharacterUptoSaid : Prop := fnCharacterUptoRow.holds Try.pinned (OpenSpec.upto fnCharacterSpec)

end Rows
end Go.Proofs.Ytlcmddghppdmgaa
