/-
  No cell of these rows narrows 'for every input' (looked for: loops, veiled, ifaces, maps, wideKeys, modest, calm, conditions, laid).
  DERIVED. THE GIVEN ROWS OF THIS SEAT. 16 by the template 'for every input the law returns true; each argument reads behind the call as it read before'; 0 by the template 'total and deterministic' (their statements: YtgclbdpghlcgjaaTotals.lean).
  GIVEN WITH THE SEED: the statements are not yours to turn. If you find one false, say at which input.
  Laid BY PROGRAM, IN A SANDBOX (cutbox-rows.mjs): the forced cells as the released guide's own fill.sh prints them over the translation 88e2c67dc9f5486c… (all of the seat's roots in one cut). By AI agents, Wed Nov 11 2026. No macro, syntax, notation, axiom, sorry.
-/
import Derived.Test.YtgclbdpghlcgjaaChecked
import GoSem.Claim
import GoSem.ClaimJoined
import GoSem.ClaimMapViews
import Derived.JoinedTies
import Derived.KernelRfl
namespace Go.Proofs.Ytgclbdpghlcgjaa
/- THE CELL 'sum', in the pinned program and in every row, IS THE sha256 OF THE DUMP (.gsa) THAT YtgclbdpghlcgjaaProg.lean LOADS. Nothing in Lean hashes anything: it is a label: what it is worth is what the hold of that sum in a sandbox is worth. -/
noncomputable def Try.pinned : Pinned := { name := "ytgclbdpghlcgjaa", sum := "88e2c67dc9f5486c751a5b7fee3fb2fc0fda8241859b1ea9c09b37fd293f7519", checked := Try.checked }
namespace Rows
def none {H : Type} : Left H := { results := [], args := [] }

/-- 'laws.FnMulMatrix': WHATEVER THE INPUT: true; the input reads as it did. -/
def fnMulMatrixSpec : ChangeSpec := { name := "fnMulMatrix", fn := fun _ => fun
  | [d] => { results := [.lit (.bool true)], args := [d] }
  | _ => none }
def fnMulMatrixRow : OpenClaim := { program := "ytgclbdpghlcgjaa", sum := "88e2c67dc9f5486c751a5b7fee3fb2fc0fda8241859b1ea9c09b37fd293f7519", func := "loop.example/polycircuits/laws.FnMulMatrix", spec := "fnMulMatrix", inPlace := ["slices.overlaps[int]"], unfollowed := true, recurses := true, apart := false }
def FnMulMatrixSaid : Prop := fnMulMatrixRow.holds Try.pinned (OpenSpec.ofChange fnMulMatrixSpec)

/-- ITS FALSE NEIGHBOUR: 'it returns false'. Refute it at one input. -/
def fnMulMatrixWrong : ChangeSpec := { name := "fnMulMatrix", fn := fun _ => fun
  | [d] => { results := [.lit (.bool false)], args := [d] }
  | _ => none }
def FnMulMatrixWrongFalsely : Prop := fnMulMatrixRow.holds Try.pinned (OpenSpec.ofChange fnMulMatrixWrong)

/-- 'laws.FnDet': WHATEVER THE INPUT: true; the input reads as it did. -/
def fnDetSpec : ChangeSpec := { name := "fnDet", fn := fun _ => fun
  | [d] => { results := [.lit (.bool true)], args := [d] }
  | _ => none }
def fnDetRow : OpenClaim := { program := "ytgclbdpghlcgjaa", sum := "88e2c67dc9f5486c751a5b7fee3fb2fc0fda8241859b1ea9c09b37fd293f7519", func := "loop.example/polycircuits/laws.FnDet", spec := "fnDet", inPlace := ["slices.overlaps[int]"], unfollowed := true, recurses := true, apart := false }
def FnDetSaid : Prop := fnDetRow.holds Try.pinned (OpenSpec.ofChange fnDetSpec)

/-- ITS FALSE NEIGHBOUR: 'it returns false'. Refute it at one input. -/
def fnDetWrong : ChangeSpec := { name := "fnDet", fn := fun _ => fun
  | [d] => { results := [.lit (.bool false)], args := [d] }
  | _ => none }
def FnDetWrongFalsely : Prop := fnDetRow.holds Try.pinned (OpenSpec.ofChange fnDetWrong)

/-- 'laws.FnAdjugate': WHATEVER THE INPUT: true; the input reads as it did. -/
def fnAdjugateSpec : ChangeSpec := { name := "fnAdjugate", fn := fun _ => fun
  | [d] => { results := [.lit (.bool true)], args := [d] }
  | _ => none }
def fnAdjugateRow : OpenClaim := { program := "ytgclbdpghlcgjaa", sum := "88e2c67dc9f5486c751a5b7fee3fb2fc0fda8241859b1ea9c09b37fd293f7519", func := "loop.example/polycircuits/laws.FnAdjugate", spec := "fnAdjugate", inPlace := ["slices.overlaps[int]"], unfollowed := true, recurses := true, apart := false }
def FnAdjugateSaid : Prop := fnAdjugateRow.holds Try.pinned (OpenSpec.ofChange fnAdjugateSpec)

/-- ITS FALSE NEIGHBOUR: 'it returns false'. Refute it at one input. -/
def fnAdjugateWrong : ChangeSpec := { name := "fnAdjugate", fn := fun _ => fun
  | [d] => { results := [.lit (.bool false)], args := [d] }
  | _ => none }
def FnAdjugateWrongFalsely : Prop := fnAdjugateRow.holds Try.pinned (OpenSpec.ofChange fnAdjugateWrong)

/-- 'laws.FnPermanent': WHATEVER THE INPUT: true; the input reads as it did. -/
def fnPermanentSpec : ChangeSpec := { name := "fnPermanent", fn := fun _ => fun
  | [d] => { results := [.lit (.bool true)], args := [d] }
  | _ => none }
def fnPermanentRow : OpenClaim := { program := "ytgclbdpghlcgjaa", sum := "88e2c67dc9f5486c751a5b7fee3fb2fc0fda8241859b1ea9c09b37fd293f7519", func := "loop.example/polycircuits/laws.FnPermanent", spec := "fnPermanent", inPlace := ["slices.overlaps[int]"], unfollowed := true, recurses := true, apart := false }
def FnPermanentSaid : Prop := fnPermanentRow.holds Try.pinned (OpenSpec.ofChange fnPermanentSpec)

/-- ITS FALSE NEIGHBOUR: 'it returns false'. Refute it at one input. -/
def fnPermanentWrong : ChangeSpec := { name := "fnPermanent", fn := fun _ => fun
  | [d] => { results := [.lit (.bool false)], args := [d] }
  | _ => none }
def FnPermanentWrongFalsely : Prop := fnPermanentRow.holds Try.pinned (OpenSpec.ofChange fnPermanentWrong)

/-- 'laws.FnCharacter': WHATEVER THE INPUT: true; the input reads as it did. -/
def fnCharacterSpec : ChangeSpec := { name := "fnCharacter", fn := fun _ => fun
  | [d] => { results := [.lit (.bool true)], args := [d] }
  | _ => none }
def fnCharacterRow : OpenClaim := { program := "ytgclbdpghlcgjaa", sum := "88e2c67dc9f5486c751a5b7fee3fb2fc0fda8241859b1ea9c09b37fd293f7519", func := "loop.example/polycircuits/laws.FnCharacter", spec := "fnCharacter", inPlace := ["slices.overlaps[int]", "slices.overlaps[loop.example/polycircuits/impl.Term]"], unfollowed := true, recurses := true, apart := false }
def FnCharacterSaid : Prop := fnCharacterRow.holds Try.pinned (OpenSpec.ofChange fnCharacterSpec)

/-- ITS FALSE NEIGHBOUR: 'it returns false'. Refute it at one input. -/
def fnCharacterWrong : ChangeSpec := { name := "fnCharacter", fn := fun _ => fun
  | [d] => { results := [.lit (.bool false)], args := [d] }
  | _ => none }
def FnCharacterWrongFalsely : Prop := fnCharacterRow.holds Try.pinned (OpenSpec.ofChange fnCharacterWrong)

/-- 'laws.FnExactMatrixValid': WHATEVER THE INPUT: true; the input reads as it did. -/
def fnExactMatrixValidSpec : ChangeSpec := { name := "fnExactMatrixValid", fn := fun _ => fun
  | [d1, d2] => { results := [.lit (.bool true)], args := [d1, d2] }
  | _ => none }
def fnExactMatrixValidRow : OpenClaim := { program := "ytgclbdpghlcgjaa", sum := "88e2c67dc9f5486c751a5b7fee3fb2fc0fda8241859b1ea9c09b37fd293f7519", func := "loop.example/polycircuits/laws.FnExactMatrixValid", spec := "fnExactMatrixValid", apart := false }
def FnExactMatrixValidSaid : Prop := fnExactMatrixValidRow.holds Try.pinned (OpenSpec.ofChange fnExactMatrixValidSpec)

/-- ITS FALSE NEIGHBOUR: 'it returns false'. Refute it at one input. -/
def fnExactMatrixValidWrong : ChangeSpec := { name := "fnExactMatrixValid", fn := fun _ => fun
  | [d1, d2] => { results := [.lit (.bool false)], args := [d1, d2] }
  | _ => none }
def FnExactMatrixValidWrongFalsely : Prop := fnExactMatrixValidRow.holds Try.pinned (OpenSpec.ofChange fnExactMatrixValidWrong)

/-- 'laws.FnExactMulMatrix': WHATEVER THE INPUT: true; the input reads as it did. -/
def fnExactMulMatrixSpec : ChangeSpec := { name := "fnExactMulMatrix", fn := fun _ => fun
  | [d1, d2, d3] => { results := [.lit (.bool true)], args := [d1, d2, d3] }
  | _ => none }
def fnExactMulMatrixRow : OpenClaim := { program := "ytgclbdpghlcgjaa", sum := "88e2c67dc9f5486c751a5b7fee3fb2fc0fda8241859b1ea9c09b37fd293f7519", func := "loop.example/polycircuits/laws.FnExactMulMatrix", spec := "fnExactMulMatrix", unfollowed := true, recurses := true, apart := false }
def FnExactMulMatrixSaid : Prop := fnExactMulMatrixRow.holds Try.pinned (OpenSpec.ofChange fnExactMulMatrixSpec)

/-- ITS FALSE NEIGHBOUR: 'it returns false'. Refute it at one input. -/
def fnExactMulMatrixWrong : ChangeSpec := { name := "fnExactMulMatrix", fn := fun _ => fun
  | [d1, d2, d3] => { results := [.lit (.bool false)], args := [d1, d2, d3] }
  | _ => none }
def FnExactMulMatrixWrongFalsely : Prop := fnExactMulMatrixRow.holds Try.pinned (OpenSpec.ofChange fnExactMulMatrixWrong)

/-- 'laws.FnExactTurnMatrix': WHATEVER THE INPUT: true; the input reads as it did. -/
def fnExactTurnMatrixSpec : ChangeSpec := { name := "fnExactTurnMatrix", fn := fun _ => fun
  | [d1, d2] => { results := [.lit (.bool true)], args := [d1, d2] }
  | _ => none }
def fnExactTurnMatrixRow : OpenClaim := { program := "ytgclbdpghlcgjaa", sum := "88e2c67dc9f5486c751a5b7fee3fb2fc0fda8241859b1ea9c09b37fd293f7519", func := "loop.example/polycircuits/laws.FnExactTurnMatrix", spec := "fnExactTurnMatrix", unfollowed := true, recurses := true, apart := false }
def FnExactTurnMatrixSaid : Prop := fnExactTurnMatrixRow.holds Try.pinned (OpenSpec.ofChange fnExactTurnMatrixSpec)

/-- ITS FALSE NEIGHBOUR: 'it returns false'. Refute it at one input. -/
def fnExactTurnMatrixWrong : ChangeSpec := { name := "fnExactTurnMatrix", fn := fun _ => fun
  | [d1, d2] => { results := [.lit (.bool false)], args := [d1, d2] }
  | _ => none }
def FnExactTurnMatrixWrongFalsely : Prop := fnExactTurnMatrixRow.holds Try.pinned (OpenSpec.ofChange fnExactTurnMatrixWrong)

/-- 'laws.FnExactMinorOf': WHATEVER THE INPUT: true; the input reads as it did. -/
def fnExactMinorOfSpec : ChangeSpec := { name := "fnExactMinorOf", fn := fun _ => fun
  | [d1, d2, d3, d4] => { results := [.lit (.bool true)], args := [d1, d2, d3, d4] }
  | _ => none }
def fnExactMinorOfRow : OpenClaim := { program := "ytgclbdpghlcgjaa", sum := "88e2c67dc9f5486c751a5b7fee3fb2fc0fda8241859b1ea9c09b37fd293f7519", func := "loop.example/polycircuits/laws.FnExactMinorOf", spec := "fnExactMinorOf", unfollowed := true, recurses := true, apart := false }
def FnExactMinorOfSaid : Prop := fnExactMinorOfRow.holds Try.pinned (OpenSpec.ofChange fnExactMinorOfSpec)

/-- ITS FALSE NEIGHBOUR: 'it returns false'. Refute it at one input. -/
def fnExactMinorOfWrong : ChangeSpec := { name := "fnExactMinorOf", fn := fun _ => fun
  | [d1, d2, d3, d4] => { results := [.lit (.bool false)], args := [d1, d2, d3, d4] }
  | _ => none }
def FnExactMinorOfWrongFalsely : Prop := fnExactMinorOfRow.holds Try.pinned (OpenSpec.ofChange fnExactMinorOfWrong)

/-- 'laws.FnExactDetOf': WHATEVER THE INPUT: true; the input reads as it did. -/
def fnExactDetOfSpec : ChangeSpec := { name := "fnExactDetOf", fn := fun _ => fun
  | [d1, d2] => { results := [.lit (.bool true)], args := [d1, d2] }
  | _ => none }
def fnExactDetOfRow : OpenClaim := { program := "ytgclbdpghlcgjaa", sum := "88e2c67dc9f5486c751a5b7fee3fb2fc0fda8241859b1ea9c09b37fd293f7519", func := "loop.example/polycircuits/laws.FnExactDetOf", spec := "fnExactDetOf", inPlace := ["slices.overlaps[int]"], unfollowed := true, recurses := true, apart := false }
def FnExactDetOfSaid : Prop := fnExactDetOfRow.holds Try.pinned (OpenSpec.ofChange fnExactDetOfSpec)

/-- ITS FALSE NEIGHBOUR: 'it returns false'. Refute it at one input. -/
def fnExactDetOfWrong : ChangeSpec := { name := "fnExactDetOf", fn := fun _ => fun
  | [d1, d2] => { results := [.lit (.bool false)], args := [d1, d2] }
  | _ => none }
def FnExactDetOfWrongFalsely : Prop := fnExactDetOfRow.holds Try.pinned (OpenSpec.ofChange fnExactDetOfWrong)

/-- 'laws.FnExactPermanentOf': WHATEVER THE INPUT: true; the input reads as it did. -/
def fnExactPermanentOfSpec : ChangeSpec := { name := "fnExactPermanentOf", fn := fun _ => fun
  | [d1, d2] => { results := [.lit (.bool true)], args := [d1, d2] }
  | _ => none }
def fnExactPermanentOfRow : OpenClaim := { program := "ytgclbdpghlcgjaa", sum := "88e2c67dc9f5486c751a5b7fee3fb2fc0fda8241859b1ea9c09b37fd293f7519", func := "loop.example/polycircuits/laws.FnExactPermanentOf", spec := "fnExactPermanentOf", inPlace := ["slices.overlaps[int]"], unfollowed := true, recurses := true, apart := false }
def FnExactPermanentOfSaid : Prop := fnExactPermanentOfRow.holds Try.pinned (OpenSpec.ofChange fnExactPermanentOfSpec)

/-- ITS FALSE NEIGHBOUR: 'it returns false'. Refute it at one input. -/
def fnExactPermanentOfWrong : ChangeSpec := { name := "fnExactPermanentOf", fn := fun _ => fun
  | [d1, d2] => { results := [.lit (.bool false)], args := [d1, d2] }
  | _ => none }
def FnExactPermanentOfWrongFalsely : Prop := fnExactPermanentOfRow.holds Try.pinned (OpenSpec.ofChange fnExactPermanentOfWrong)

/-- 'laws.FnExactRankOf': WHATEVER THE INPUT: true; the input reads as it did. -/
def fnExactRankOfSpec : ChangeSpec := { name := "fnExactRankOf", fn := fun _ => fun
  | [d1, d2] => { results := [.lit (.bool true)], args := [d1, d2] }
  | _ => none }
def fnExactRankOfRow : OpenClaim := { program := "ytgclbdpghlcgjaa", sum := "88e2c67dc9f5486c751a5b7fee3fb2fc0fda8241859b1ea9c09b37fd293f7519", func := "loop.example/polycircuits/laws.FnExactRankOf", spec := "fnExactRankOf", unfollowed := true, recurses := true, apart := false }
def FnExactRankOfSaid : Prop := fnExactRankOfRow.holds Try.pinned (OpenSpec.ofChange fnExactRankOfSpec)

/-- ITS FALSE NEIGHBOUR: 'it returns false'. Refute it at one input. -/
def fnExactRankOfWrong : ChangeSpec := { name := "fnExactRankOf", fn := fun _ => fun
  | [d1, d2] => { results := [.lit (.bool false)], args := [d1, d2] }
  | _ => none }
def FnExactRankOfWrongFalsely : Prop := fnExactRankOfRow.holds Try.pinned (OpenSpec.ofChange fnExactRankOfWrong)

/-- 'laws.FnExactInverseOf': WHATEVER THE INPUT: true; the input reads as it did. -/
def fnExactInverseOfSpec : ChangeSpec := { name := "fnExactInverseOf", fn := fun _ => fun
  | [d1, d2] => { results := [.lit (.bool true)], args := [d1, d2] }
  | _ => none }
def fnExactInverseOfRow : OpenClaim := { program := "ytgclbdpghlcgjaa", sum := "88e2c67dc9f5486c751a5b7fee3fb2fc0fda8241859b1ea9c09b37fd293f7519", func := "loop.example/polycircuits/laws.FnExactInverseOf", spec := "fnExactInverseOf", inPlace := ["slices.overlaps[int]"], unfollowed := true, recurses := true, apart := false }
def FnExactInverseOfSaid : Prop := fnExactInverseOfRow.holds Try.pinned (OpenSpec.ofChange fnExactInverseOfSpec)

/-- ITS FALSE NEIGHBOUR: 'it returns false'. Refute it at one input. -/
def fnExactInverseOfWrong : ChangeSpec := { name := "fnExactInverseOf", fn := fun _ => fun
  | [d1, d2] => { results := [.lit (.bool false)], args := [d1, d2] }
  | _ => none }
def FnExactInverseOfWrongFalsely : Prop := fnExactInverseOfRow.holds Try.pinned (OpenSpec.ofChange fnExactInverseOfWrong)

/-- 'laws.FnExactAdjugateOf': WHATEVER THE INPUT: true; the input reads as it did. -/
def fnExactAdjugateOfSpec : ChangeSpec := { name := "fnExactAdjugateOf", fn := fun _ => fun
  | [d1, d2] => { results := [.lit (.bool true)], args := [d1, d2] }
  | _ => none }
def fnExactAdjugateOfRow : OpenClaim := { program := "ytgclbdpghlcgjaa", sum := "88e2c67dc9f5486c751a5b7fee3fb2fc0fda8241859b1ea9c09b37fd293f7519", func := "loop.example/polycircuits/laws.FnExactAdjugateOf", spec := "fnExactAdjugateOf", inPlace := ["slices.overlaps[int]"], unfollowed := true, recurses := true, apart := false }
def FnExactAdjugateOfSaid : Prop := fnExactAdjugateOfRow.holds Try.pinned (OpenSpec.ofChange fnExactAdjugateOfSpec)

/-- ITS FALSE NEIGHBOUR: 'it returns false'. Refute it at one input. -/
def fnExactAdjugateOfWrong : ChangeSpec := { name := "fnExactAdjugateOf", fn := fun _ => fun
  | [d1, d2] => { results := [.lit (.bool false)], args := [d1, d2] }
  | _ => none }
def FnExactAdjugateOfWrongFalsely : Prop := fnExactAdjugateOfRow.holds Try.pinned (OpenSpec.ofChange fnExactAdjugateOfWrong)

/-- 'laws.FnExactCharacterOf': WHATEVER THE INPUT: true; the input reads as it did. -/
def fnExactCharacterOfSpec : ChangeSpec := { name := "fnExactCharacterOf", fn := fun _ => fun
  | [d1, d2] => { results := [.lit (.bool true)], args := [d1, d2] }
  | _ => none }
def fnExactCharacterOfRow : OpenClaim := { program := "ytgclbdpghlcgjaa", sum := "88e2c67dc9f5486c751a5b7fee3fb2fc0fda8241859b1ea9c09b37fd293f7519", func := "loop.example/polycircuits/laws.FnExactCharacterOf", spec := "fnExactCharacterOf", inPlace := ["slices.overlaps[int]", "slices.overlaps[loop.example/polycircuits/impl.Term]"], unfollowed := true, recurses := true, apart := false }
def FnExactCharacterOfSaid : Prop := fnExactCharacterOfRow.holds Try.pinned (OpenSpec.ofChange fnExactCharacterOfSpec)

/-- ITS FALSE NEIGHBOUR: 'it returns false'. Refute it at one input. -/
def fnExactCharacterOfWrong : ChangeSpec := { name := "fnExactCharacterOf", fn := fun _ => fun
  | [d1, d2] => { results := [.lit (.bool false)], args := [d1, d2] }
  | _ => none }
def FnExactCharacterOfWrongFalsely : Prop := fnExactCharacterOfRow.holds Try.pinned (OpenSpec.ofChange fnExactCharacterOfWrong)

/-- 'laws.FnExactOnesMatrix': WHATEVER THE INPUT: true; the input reads as it did. -/
def fnExactOnesMatrixSpec : ChangeSpec := { name := "fnExactOnesMatrix", fn := fun _ => fun
  | [d1, d2] => { results := [.lit (.bool true)], args := [d1, d2] }
  | _ => none }
def fnExactOnesMatrixRow : OpenClaim := { program := "ytgclbdpghlcgjaa", sum := "88e2c67dc9f5486c751a5b7fee3fb2fc0fda8241859b1ea9c09b37fd293f7519", func := "loop.example/polycircuits/laws.FnExactOnesMatrix", spec := "fnExactOnesMatrix", unfollowed := true, recurses := true, apart := false }
def FnExactOnesMatrixSaid : Prop := fnExactOnesMatrixRow.holds Try.pinned (OpenSpec.ofChange fnExactOnesMatrixSpec)

/-- ITS FALSE NEIGHBOUR: 'it returns false'. Refute it at one input. -/
def fnExactOnesMatrixWrong : ChangeSpec := { name := "fnExactOnesMatrix", fn := fun _ => fun
  | [d1, d2] => { results := [.lit (.bool false)], args := [d1, d2] }
  | _ => none }
def FnExactOnesMatrixWrongFalsely : Prop := fnExactOnesMatrixRow.holds Try.pinned (OpenSpec.ofChange fnExactOnesMatrixWrong)

/- THE SECOND FORM. 'bulk': how many values and letters a reading holds, each counted each time it is reached (what is shared counts as often as it is met; a slice's spare places count too). A statement '..UptoSaid' is the law's where the arguments, and the package variables that the reading takes, are together of bulk at most 1048576: NARROWER than '..Said'. Prove '..Said' where nothing that the law and all that it calls make is longer than what came in: it says more and counts as full. Else prove '..UptoSaid'. A law counts once. -/
mutual
def uptoBulk {H : Type} : DataW H → Nat
  | .lit (.string bytes) => bytes.length + 1
  | .lit _ => 1
  | .nil => 1
  | .ptr d => uptoBulk d + 1
  | .slice elems spare => uptoBulkAll elems + uptoBulkAll spare + 1
  | .agg parts => uptoBulkAll parts + 1
  | .iface _ d => uptoBulk d + 1
  | .map entries => uptoBulkEntries entries + 1
  | .held _ => 1
def uptoBulkAll {H : Type} : List (DataW H) → Nat
  | [] => 0
  | d :: r => uptoBulk d + uptoBulkAll r
def uptoBulkEntries {H : Type} : List (Lit × DataW H) → Nat
  | [] => 0
  | x :: r => uptoBulkEntry x + uptoBulkEntries r
def uptoBulkEntry {H : Type} : Lit × DataW H → Nat
  | (.string bytes, d) => bytes.length + uptoBulk d + 1
  | (_, d) => uptoBulk d + 1
 end
def uptoSmall : (H : Type) → List (DataW H) → Bool := fun _ ds => decide (uptoBulkAll ds ≤ 1048576)
def OpenSpec.upto (s : _root_.Go.ChangeSpec) : _root_.Go.OpenSpec := { _root_.Go.OpenSpec.ofChange s with cond := some uptoSmall }

/-- 'laws.FnMulMatrix', WHERE WHAT IT READS IS OF BULK AT MOST 1048576: true; the input reads as it did. -/
def fnMulMatrixUptoRow : OpenClaim := { program := "ytgclbdpghlcgjaa", sum := "88e2c67dc9f5486c751a5b7fee3fb2fc0fda8241859b1ea9c09b37fd293f7519", func := "loop.example/polycircuits/laws.FnMulMatrix", spec := "fnMulMatrix", inPlace := ["slices.overlaps[int]"], unfollowed := true, recurses := true, apart := false, narrowed := true }
def FnMulMatrixUptoSaid : Prop := fnMulMatrixUptoRow.holds Try.pinned (OpenSpec.upto fnMulMatrixSpec)

/-- 'laws.FnDet', WHERE WHAT IT READS IS OF BULK AT MOST 1048576: true; the input reads as it did. -/
def fnDetUptoRow : OpenClaim := { program := "ytgclbdpghlcgjaa", sum := "88e2c67dc9f5486c751a5b7fee3fb2fc0fda8241859b1ea9c09b37fd293f7519", func := "loop.example/polycircuits/laws.FnDet", spec := "fnDet", inPlace := ["slices.overlaps[int]"], unfollowed := true, recurses := true, apart := false, narrowed := true }
def FnDetUptoSaid : Prop := fnDetUptoRow.holds Try.pinned (OpenSpec.upto fnDetSpec)

/-- 'laws.FnAdjugate', WHERE WHAT IT READS IS OF BULK AT MOST 1048576: true; the input reads as it did. -/
def fnAdjugateUptoRow : OpenClaim := { program := "ytgclbdpghlcgjaa", sum := "88e2c67dc9f5486c751a5b7fee3fb2fc0fda8241859b1ea9c09b37fd293f7519", func := "loop.example/polycircuits/laws.FnAdjugate", spec := "fnAdjugate", inPlace := ["slices.overlaps[int]"], unfollowed := true, recurses := true, apart := false, narrowed := true }
def FnAdjugateUptoSaid : Prop := fnAdjugateUptoRow.holds Try.pinned (OpenSpec.upto fnAdjugateSpec)

/-- 'laws.FnPermanent', WHERE WHAT IT READS IS OF BULK AT MOST 1048576: true; the input reads as it did. -/
def fnPermanentUptoRow : OpenClaim := { program := "ytgclbdpghlcgjaa", sum := "88e2c67dc9f5486c751a5b7fee3fb2fc0fda8241859b1ea9c09b37fd293f7519", func := "loop.example/polycircuits/laws.FnPermanent", spec := "fnPermanent", inPlace := ["slices.overlaps[int]"], unfollowed := true, recurses := true, apart := false, narrowed := true }
def FnPermanentUptoSaid : Prop := fnPermanentUptoRow.holds Try.pinned (OpenSpec.upto fnPermanentSpec)

/-- 'laws.FnCharacter', WHERE WHAT IT READS IS OF BULK AT MOST 1048576: true; the input reads as it did. -/
def fnCharacterUptoRow : OpenClaim := { program := "ytgclbdpghlcgjaa", sum := "88e2c67dc9f5486c751a5b7fee3fb2fc0fda8241859b1ea9c09b37fd293f7519", func := "loop.example/polycircuits/laws.FnCharacter", spec := "fnCharacter", inPlace := ["slices.overlaps[int]", "slices.overlaps[loop.example/polycircuits/impl.Term]"], unfollowed := true, recurses := true, apart := false, narrowed := true }
def FnCharacterUptoSaid : Prop := fnCharacterUptoRow.holds Try.pinned (OpenSpec.upto fnCharacterSpec)

/-- 'laws.FnExactMatrixValid', WHERE WHAT IT READS IS OF BULK AT MOST 1048576: true; the input reads as it did. -/
def fnExactMatrixValidUptoRow : OpenClaim := { program := "ytgclbdpghlcgjaa", sum := "88e2c67dc9f5486c751a5b7fee3fb2fc0fda8241859b1ea9c09b37fd293f7519", func := "loop.example/polycircuits/laws.FnExactMatrixValid", spec := "fnExactMatrixValid", apart := false, narrowed := true }
def FnExactMatrixValidUptoSaid : Prop := fnExactMatrixValidUptoRow.holds Try.pinned (OpenSpec.upto fnExactMatrixValidSpec)

/-- 'laws.FnExactMulMatrix', WHERE WHAT IT READS IS OF BULK AT MOST 1048576: true; the input reads as it did. -/
def fnExactMulMatrixUptoRow : OpenClaim := { program := "ytgclbdpghlcgjaa", sum := "88e2c67dc9f5486c751a5b7fee3fb2fc0fda8241859b1ea9c09b37fd293f7519", func := "loop.example/polycircuits/laws.FnExactMulMatrix", spec := "fnExactMulMatrix", unfollowed := true, recurses := true, apart := false, narrowed := true }
def FnExactMulMatrixUptoSaid : Prop := fnExactMulMatrixUptoRow.holds Try.pinned (OpenSpec.upto fnExactMulMatrixSpec)

/-- 'laws.FnExactTurnMatrix', WHERE WHAT IT READS IS OF BULK AT MOST 1048576: true; the input reads as it did. -/
def fnExactTurnMatrixUptoRow : OpenClaim := { program := "ytgclbdpghlcgjaa", sum := "88e2c67dc9f5486c751a5b7fee3fb2fc0fda8241859b1ea9c09b37fd293f7519", func := "loop.example/polycircuits/laws.FnExactTurnMatrix", spec := "fnExactTurnMatrix", unfollowed := true, recurses := true, apart := false, narrowed := true }
def FnExactTurnMatrixUptoSaid : Prop := fnExactTurnMatrixUptoRow.holds Try.pinned (OpenSpec.upto fnExactTurnMatrixSpec)

/-- 'laws.FnExactMinorOf', WHERE WHAT IT READS IS OF BULK AT MOST 1048576: true; the input reads as it did. -/
def fnExactMinorOfUptoRow : OpenClaim := { program := "ytgclbdpghlcgjaa", sum := "88e2c67dc9f5486c751a5b7fee3fb2fc0fda8241859b1ea9c09b37fd293f7519", func := "loop.example/polycircuits/laws.FnExactMinorOf", spec := "fnExactMinorOf", unfollowed := true, recurses := true, apart := false, narrowed := true }
def FnExactMinorOfUptoSaid : Prop := fnExactMinorOfUptoRow.holds Try.pinned (OpenSpec.upto fnExactMinorOfSpec)

/-- 'laws.FnExactDetOf', WHERE WHAT IT READS IS OF BULK AT MOST 1048576: true; the input reads as it did. -/
def fnExactDetOfUptoRow : OpenClaim := { program := "ytgclbdpghlcgjaa", sum := "88e2c67dc9f5486c751a5b7fee3fb2fc0fda8241859b1ea9c09b37fd293f7519", func := "loop.example/polycircuits/laws.FnExactDetOf", spec := "fnExactDetOf", inPlace := ["slices.overlaps[int]"], unfollowed := true, recurses := true, apart := false, narrowed := true }
def FnExactDetOfUptoSaid : Prop := fnExactDetOfUptoRow.holds Try.pinned (OpenSpec.upto fnExactDetOfSpec)

/-- 'laws.FnExactPermanentOf', WHERE WHAT IT READS IS OF BULK AT MOST 1048576: true; the input reads as it did. -/
def fnExactPermanentOfUptoRow : OpenClaim := { program := "ytgclbdpghlcgjaa", sum := "88e2c67dc9f5486c751a5b7fee3fb2fc0fda8241859b1ea9c09b37fd293f7519", func := "loop.example/polycircuits/laws.FnExactPermanentOf", spec := "fnExactPermanentOf", inPlace := ["slices.overlaps[int]"], unfollowed := true, recurses := true, apart := false, narrowed := true }
def FnExactPermanentOfUptoSaid : Prop := fnExactPermanentOfUptoRow.holds Try.pinned (OpenSpec.upto fnExactPermanentOfSpec)

/-- 'laws.FnExactRankOf', WHERE WHAT IT READS IS OF BULK AT MOST 1048576: true; the input reads as it did. -/
def fnExactRankOfUptoRow : OpenClaim := { program := "ytgclbdpghlcgjaa", sum := "88e2c67dc9f5486c751a5b7fee3fb2fc0fda8241859b1ea9c09b37fd293f7519", func := "loop.example/polycircuits/laws.FnExactRankOf", spec := "fnExactRankOf", unfollowed := true, recurses := true, apart := false, narrowed := true }
def FnExactRankOfUptoSaid : Prop := fnExactRankOfUptoRow.holds Try.pinned (OpenSpec.upto fnExactRankOfSpec)

/-- 'laws.FnExactInverseOf', WHERE WHAT IT READS IS OF BULK AT MOST 1048576: true; the input reads as it did. -/
def fnExactInverseOfUptoRow : OpenClaim := { program := "ytgclbdpghlcgjaa", sum := "88e2c67dc9f5486c751a5b7fee3fb2fc0fda8241859b1ea9c09b37fd293f7519", func := "loop.example/polycircuits/laws.FnExactInverseOf", spec := "fnExactInverseOf", inPlace := ["slices.overlaps[int]"], unfollowed := true, recurses := true, apart := false, narrowed := true }
def FnExactInverseOfUptoSaid : Prop := fnExactInverseOfUptoRow.holds Try.pinned (OpenSpec.upto fnExactInverseOfSpec)

/-- 'laws.FnExactAdjugateOf', WHERE WHAT IT READS IS OF BULK AT MOST 1048576: true; the input reads as it did. -/
def fnExactAdjugateOfUptoRow : OpenClaim := { program := "ytgclbdpghlcgjaa", sum := "88e2c67dc9f5486c751a5b7fee3fb2fc0fda8241859b1ea9c09b37fd293f7519", func := "loop.example/polycircuits/laws.FnExactAdjugateOf", spec := "fnExactAdjugateOf", inPlace := ["slices.overlaps[int]"], unfollowed := true, recurses := true, apart := false, narrowed := true }
def FnExactAdjugateOfUptoSaid : Prop := fnExactAdjugateOfUptoRow.holds Try.pinned (OpenSpec.upto fnExactAdjugateOfSpec)

/-- 'laws.FnExactCharacterOf', WHERE WHAT IT READS IS OF BULK AT MOST 1048576: true; the input reads as it did. -/
def fnExactCharacterOfUptoRow : OpenClaim := { program := "ytgclbdpghlcgjaa", sum := "88e2c67dc9f5486c751a5b7fee3fb2fc0fda8241859b1ea9c09b37fd293f7519", func := "loop.example/polycircuits/laws.FnExactCharacterOf", spec := "fnExactCharacterOf", inPlace := ["slices.overlaps[int]", "slices.overlaps[loop.example/polycircuits/impl.Term]"], unfollowed := true, recurses := true, apart := false, narrowed := true }
def FnExactCharacterOfUptoSaid : Prop := fnExactCharacterOfUptoRow.holds Try.pinned (OpenSpec.upto fnExactCharacterOfSpec)

/-- 'laws.FnExactOnesMatrix', WHERE WHAT IT READS IS OF BULK AT MOST 1048576: true; the input reads as it did. -/
def fnExactOnesMatrixUptoRow : OpenClaim := { program := "ytgclbdpghlcgjaa", sum := "88e2c67dc9f5486c751a5b7fee3fb2fc0fda8241859b1ea9c09b37fd293f7519", func := "loop.example/polycircuits/laws.FnExactOnesMatrix", spec := "fnExactOnesMatrix", unfollowed := true, recurses := true, apart := false, narrowed := true }
def FnExactOnesMatrixUptoSaid : Prop := fnExactOnesMatrixUptoRow.holds Try.pinned (OpenSpec.upto fnExactOnesMatrixSpec)

end Rows
end Go.Proofs.Ytgclbdpghlcgjaa
