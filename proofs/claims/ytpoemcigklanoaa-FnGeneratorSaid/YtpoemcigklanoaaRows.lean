/-
  No cell of these rows narrows 'for every input' (looked for: loops, veiled, ifaces, maps, wideKeys, modest, calm, conditions, laid).
  DERIVED. THE GIVEN ROWS OF THIS SEAT. 16 by the template 'for every input the law returns true; each argument reads behind the call as it read before'; 0 by the template 'total and deterministic' (their statements: YtpoemcigklanoaaTotals.lean).
  GIVEN WITH THE SEED: the statements are not yours to turn. If you find one false, say at which input.
  Laid BY PROGRAM, IN A SANDBOX (cutbox-rows.mjs): the forced cells as the released guide's own fill.sh prints them over the translation facd61e01a52dc33… (all of the seat's roots in one cut). By AI agents, Wed Nov 11 2026. No macro, syntax, notation, axiom, sorry.
-/
import Derived.Test.YtpoemcigklanoaaChecked
import GoSem.Claim
import GoSem.ClaimJoined
import GoSem.ClaimMapViews
import Derived.JoinedTies
import Derived.KernelRfl
namespace Go.Proofs.Ytpoemcigklanoaa
/- THE CELL 'sum', in the pinned program and in every row, IS THE sha256 OF THE DUMP (.gsa) THAT YtpoemcigklanoaaProg.lean LOADS. Nothing in Lean hashes anything: it is a label: what it is worth is what the hold of that sum in a sandbox is worth. -/
noncomputable def Try.pinned : Pinned := { name := "ytpoemcigklanoaa", sum := "facd61e01a52dc33b29d80e6dbf67d1cbaeed8ce48885b2ce0ab431eb4422d60", checked := Try.checked }
namespace Rows
def none {H : Type} : Left H := { results := [], args := [] }

/-- 'laws.FnField': WHATEVER THE INPUT: true; the input reads as it did. -/
def fnFieldSpec : ChangeSpec := { name := "fnField", fn := fun _ => fun
  | [d] => { results := [.lit (.bool true)], args := [d] }
  | _ => none }
def fnFieldRow : OpenClaim := { program := "ytpoemcigklanoaa", sum := "facd61e01a52dc33b29d80e6dbf67d1cbaeed8ce48885b2ce0ab431eb4422d60", func := "loop.example/polycircuits/laws.FnField", spec := "fnField", apart := false }
def FnFieldSaid : Prop := fnFieldRow.holds Try.pinned (OpenSpec.ofChange fnFieldSpec)

/-- ITS FALSE NEIGHBOUR: 'it returns false'. Refute it at one input. -/
def fnFieldWrong : ChangeSpec := { name := "fnField", fn := fun _ => fun
  | [d] => { results := [.lit (.bool false)], args := [d] }
  | _ => none }
def FnFieldWrongFalsely : Prop := fnFieldRow.holds Try.pinned (OpenSpec.ofChange fnFieldWrong)

/-- 'laws.FnReduce': WHATEVER THE INPUT: true; the input reads as it did. -/
def fnReduceSpec : ChangeSpec := { name := "fnReduce", fn := fun _ => fun
  | [d1, d2] => { results := [.lit (.bool true)], args := [d1, d2] }
  | _ => none }
def fnReduceRow : OpenClaim := { program := "ytpoemcigklanoaa", sum := "facd61e01a52dc33b29d80e6dbf67d1cbaeed8ce48885b2ce0ab431eb4422d60", func := "loop.example/polycircuits/laws.FnReduce", spec := "fnReduce", apart := false }
def FnReduceSaid : Prop := fnReduceRow.holds Try.pinned (OpenSpec.ofChange fnReduceSpec)

/-- ITS FALSE NEIGHBOUR: 'it returns false'. Refute it at one input. -/
def fnReduceWrong : ChangeSpec := { name := "fnReduce", fn := fun _ => fun
  | [d1, d2] => { results := [.lit (.bool false)], args := [d1, d2] }
  | _ => none }
def FnReduceWrongFalsely : Prop := fnReduceRow.holds Try.pinned (OpenSpec.ofChange fnReduceWrong)

/-- 'laws.FnInverse': WHATEVER THE INPUT: true; the input reads as it did. -/
def fnInverseSpec : ChangeSpec := { name := "fnInverse", fn := fun _ => fun
  | [d] => { results := [.lit (.bool true)], args := [d] }
  | _ => none }
def fnInverseRow : OpenClaim := { program := "ytpoemcigklanoaa", sum := "facd61e01a52dc33b29d80e6dbf67d1cbaeed8ce48885b2ce0ab431eb4422d60", func := "loop.example/polycircuits/laws.FnInverse", spec := "fnInverse", apart := false }
def FnInverseSaid : Prop := fnInverseRow.holds Try.pinned (OpenSpec.ofChange fnInverseSpec)

/-- ITS FALSE NEIGHBOUR: 'it returns false'. Refute it at one input. -/
def fnInverseWrong : ChangeSpec := { name := "fnInverse", fn := fun _ => fun
  | [d] => { results := [.lit (.bool false)], args := [d] }
  | _ => none }
def FnInverseWrongFalsely : Prop := fnInverseRow.holds Try.pinned (OpenSpec.ofChange fnInverseWrong)

/-- 'laws.FnPower': WHATEVER THE INPUT: true; the input reads as it did. -/
def fnPowerSpec : ChangeSpec := { name := "fnPower", fn := fun _ => fun
  | [d] => { results := [.lit (.bool true)], args := [d] }
  | _ => none }
def fnPowerRow : OpenClaim := { program := "ytpoemcigklanoaa", sum := "facd61e01a52dc33b29d80e6dbf67d1cbaeed8ce48885b2ce0ab431eb4422d60", func := "loop.example/polycircuits/laws.FnPower", spec := "fnPower", apart := false }
def FnPowerSaid : Prop := fnPowerRow.holds Try.pinned (OpenSpec.ofChange fnPowerSpec)

/-- ITS FALSE NEIGHBOUR: 'it returns false'. Refute it at one input. -/
def fnPowerWrong : ChangeSpec := { name := "fnPower", fn := fun _ => fun
  | [d] => { results := [.lit (.bool false)], args := [d] }
  | _ => none }
def FnPowerWrongFalsely : Prop := fnPowerRow.holds Try.pinned (OpenSpec.ofChange fnPowerWrong)

/-- 'laws.FnGenerator': WHATEVER THE INPUT: true; the input reads as it did. -/
def fnGeneratorSpec : ChangeSpec := { name := "fnGenerator", fn := fun _ => fun
  | [d] => { results := [.lit (.bool true)], args := [d] }
  | _ => none }
def fnGeneratorRow : OpenClaim := { program := "ytpoemcigklanoaa", sum := "facd61e01a52dc33b29d80e6dbf67d1cbaeed8ce48885b2ce0ab431eb4422d60", func := "loop.example/polycircuits/laws.FnGenerator", spec := "fnGenerator", apart := false }
def FnGeneratorSaid : Prop := fnGeneratorRow.holds Try.pinned (OpenSpec.ofChange fnGeneratorSpec)

/-- ITS FALSE NEIGHBOUR: 'it returns false'. Refute it at one input. -/
def fnGeneratorWrong : ChangeSpec := { name := "fnGenerator", fn := fun _ => fun
  | [d] => { results := [.lit (.bool false)], args := [d] }
  | _ => none }
def FnGeneratorWrongFalsely : Prop := fnGeneratorRow.holds Try.pinned (OpenSpec.ofChange fnGeneratorWrong)

/-- 'laws.FnRoots': WHATEVER THE INPUT: true; the input reads as it did. -/
def fnRootsSpec : ChangeSpec := { name := "fnRoots", fn := fun _ => fun
  | [d] => { results := [.lit (.bool true)], args := [d] }
  | _ => none }
def fnRootsRow : OpenClaim := { program := "ytpoemcigklanoaa", sum := "facd61e01a52dc33b29d80e6dbf67d1cbaeed8ce48885b2ce0ab431eb4422d60", func := "loop.example/polycircuits/laws.FnRoots", spec := "fnRoots", apart := false }
def FnRootsSaid : Prop := fnRootsRow.holds Try.pinned (OpenSpec.ofChange fnRootsSpec)

/-- ITS FALSE NEIGHBOUR: 'it returns false'. Refute it at one input. -/
def fnRootsWrong : ChangeSpec := { name := "fnRoots", fn := fun _ => fun
  | [d] => { results := [.lit (.bool false)], args := [d] }
  | _ => none }
def FnRootsWrongFalsely : Prop := fnRootsRow.holds Try.pinned (OpenSpec.ofChange fnRootsWrong)

/-- 'laws.FnExactPrimeValid': WHATEVER THE INPUT: true; the input reads as it did. -/
def fnExactPrimeValidSpec : ChangeSpec := { name := "fnExactPrimeValid", fn := fun _ => fun
  | [d] => { results := [.lit (.bool true)], args := [d] }
  | _ => none }
def fnExactPrimeValidRow : OpenClaim := { program := "ytpoemcigklanoaa", sum := "facd61e01a52dc33b29d80e6dbf67d1cbaeed8ce48885b2ce0ab431eb4422d60", func := "loop.example/polycircuits/laws.FnExactPrimeValid", spec := "fnExactPrimeValid", apart := false }
def FnExactPrimeValidSaid : Prop := fnExactPrimeValidRow.holds Try.pinned (OpenSpec.ofChange fnExactPrimeValidSpec)

/-- ITS FALSE NEIGHBOUR: 'it returns false'. Refute it at one input. -/
def fnExactPrimeValidWrong : ChangeSpec := { name := "fnExactPrimeValid", fn := fun _ => fun
  | [d] => { results := [.lit (.bool false)], args := [d] }
  | _ => none }
def FnExactPrimeValidWrongFalsely : Prop := fnExactPrimeValidRow.holds Try.pinned (OpenSpec.ofChange fnExactPrimeValidWrong)

/-- 'laws.FnExactReduce': WHATEVER THE INPUT: true; the input reads as it did. -/
def fnExactReduceSpec : ChangeSpec := { name := "fnExactReduce", fn := fun _ => fun
  | [d1, d2] => { results := [.lit (.bool true)], args := [d1, d2] }
  | _ => none }
def fnExactReduceRow : OpenClaim := { program := "ytpoemcigklanoaa", sum := "facd61e01a52dc33b29d80e6dbf67d1cbaeed8ce48885b2ce0ab431eb4422d60", func := "loop.example/polycircuits/laws.FnExactReduce", spec := "fnExactReduce", apart := false }
def FnExactReduceSaid : Prop := fnExactReduceRow.holds Try.pinned (OpenSpec.ofChange fnExactReduceSpec)

/-- ITS FALSE NEIGHBOUR: 'it returns false'. Refute it at one input. -/
def fnExactReduceWrong : ChangeSpec := { name := "fnExactReduce", fn := fun _ => fun
  | [d1, d2] => { results := [.lit (.bool false)], args := [d1, d2] }
  | _ => none }
def FnExactReduceWrongFalsely : Prop := fnExactReduceRow.holds Try.pinned (OpenSpec.ofChange fnExactReduceWrong)

/-- 'laws.FnExactAddIn': WHATEVER THE INPUT: true; the input reads as it did. -/
def fnExactAddInSpec : ChangeSpec := { name := "fnExactAddIn", fn := fun _ => fun
  | [d1, d2, d3] => { results := [.lit (.bool true)], args := [d1, d2, d3] }
  | _ => none }
def fnExactAddInRow : OpenClaim := { program := "ytpoemcigklanoaa", sum := "facd61e01a52dc33b29d80e6dbf67d1cbaeed8ce48885b2ce0ab431eb4422d60", func := "loop.example/polycircuits/laws.FnExactAddIn", spec := "fnExactAddIn", apart := false }
def FnExactAddInSaid : Prop := fnExactAddInRow.holds Try.pinned (OpenSpec.ofChange fnExactAddInSpec)

/-- ITS FALSE NEIGHBOUR: 'it returns false'. Refute it at one input. -/
def fnExactAddInWrong : ChangeSpec := { name := "fnExactAddIn", fn := fun _ => fun
  | [d1, d2, d3] => { results := [.lit (.bool false)], args := [d1, d2, d3] }
  | _ => none }
def FnExactAddInWrongFalsely : Prop := fnExactAddInRow.holds Try.pinned (OpenSpec.ofChange fnExactAddInWrong)

/-- 'laws.FnExactMulIn': WHATEVER THE INPUT: true; the input reads as it did. -/
def fnExactMulInSpec : ChangeSpec := { name := "fnExactMulIn", fn := fun _ => fun
  | [d1, d2, d3] => { results := [.lit (.bool true)], args := [d1, d2, d3] }
  | _ => none }
def fnExactMulInRow : OpenClaim := { program := "ytpoemcigklanoaa", sum := "facd61e01a52dc33b29d80e6dbf67d1cbaeed8ce48885b2ce0ab431eb4422d60", func := "loop.example/polycircuits/laws.FnExactMulIn", spec := "fnExactMulIn", apart := false }
def FnExactMulInSaid : Prop := fnExactMulInRow.holds Try.pinned (OpenSpec.ofChange fnExactMulInSpec)

/-- ITS FALSE NEIGHBOUR: 'it returns false'. Refute it at one input. -/
def fnExactMulInWrong : ChangeSpec := { name := "fnExactMulIn", fn := fun _ => fun
  | [d1, d2, d3] => { results := [.lit (.bool false)], args := [d1, d2, d3] }
  | _ => none }
def FnExactMulInWrongFalsely : Prop := fnExactMulInRow.holds Try.pinned (OpenSpec.ofChange fnExactMulInWrong)

/-- 'laws.FnExactMinusIn': WHATEVER THE INPUT: true; the input reads as it did. -/
def fnExactMinusInSpec : ChangeSpec := { name := "fnExactMinusIn", fn := fun _ => fun
  | [d1, d2] => { results := [.lit (.bool true)], args := [d1, d2] }
  | _ => none }
def fnExactMinusInRow : OpenClaim := { program := "ytpoemcigklanoaa", sum := "facd61e01a52dc33b29d80e6dbf67d1cbaeed8ce48885b2ce0ab431eb4422d60", func := "loop.example/polycircuits/laws.FnExactMinusIn", spec := "fnExactMinusIn", apart := false }
def FnExactMinusInSaid : Prop := fnExactMinusInRow.holds Try.pinned (OpenSpec.ofChange fnExactMinusInSpec)

/-- ITS FALSE NEIGHBOUR: 'it returns false'. Refute it at one input. -/
def fnExactMinusInWrong : ChangeSpec := { name := "fnExactMinusIn", fn := fun _ => fun
  | [d1, d2] => { results := [.lit (.bool false)], args := [d1, d2] }
  | _ => none }
def FnExactMinusInWrongFalsely : Prop := fnExactMinusInRow.holds Try.pinned (OpenSpec.ofChange fnExactMinusInWrong)

/-- 'laws.FnExactInverseIn': WHATEVER THE INPUT: true; the input reads as it did. -/
def fnExactInverseInSpec : ChangeSpec := { name := "fnExactInverseIn", fn := fun _ => fun
  | [d1, d2] => { results := [.lit (.bool true)], args := [d1, d2] }
  | _ => none }
def fnExactInverseInRow : OpenClaim := { program := "ytpoemcigklanoaa", sum := "facd61e01a52dc33b29d80e6dbf67d1cbaeed8ce48885b2ce0ab431eb4422d60", func := "loop.example/polycircuits/laws.FnExactInverseIn", spec := "fnExactInverseIn", apart := false }
def FnExactInverseInSaid : Prop := fnExactInverseInRow.holds Try.pinned (OpenSpec.ofChange fnExactInverseInSpec)

/-- ITS FALSE NEIGHBOUR: 'it returns false'. Refute it at one input. -/
def fnExactInverseInWrong : ChangeSpec := { name := "fnExactInverseIn", fn := fun _ => fun
  | [d1, d2] => { results := [.lit (.bool false)], args := [d1, d2] }
  | _ => none }
def FnExactInverseInWrongFalsely : Prop := fnExactInverseInRow.holds Try.pinned (OpenSpec.ofChange fnExactInverseInWrong)

/-- 'laws.FnExactPowerIn': WHATEVER THE INPUT: true; the input reads as it did. -/
def fnExactPowerInSpec : ChangeSpec := { name := "fnExactPowerIn", fn := fun _ => fun
  | [d1, d2, d3] => { results := [.lit (.bool true)], args := [d1, d2, d3] }
  | _ => none }
def fnExactPowerInRow : OpenClaim := { program := "ytpoemcigklanoaa", sum := "facd61e01a52dc33b29d80e6dbf67d1cbaeed8ce48885b2ce0ab431eb4422d60", func := "loop.example/polycircuits/laws.FnExactPowerIn", spec := "fnExactPowerIn", apart := false }
def FnExactPowerInSaid : Prop := fnExactPowerInRow.holds Try.pinned (OpenSpec.ofChange fnExactPowerInSpec)

/-- ITS FALSE NEIGHBOUR: 'it returns false'. Refute it at one input. -/
def fnExactPowerInWrong : ChangeSpec := { name := "fnExactPowerIn", fn := fun _ => fun
  | [d1, d2, d3] => { results := [.lit (.bool false)], args := [d1, d2, d3] }
  | _ => none }
def FnExactPowerInWrongFalsely : Prop := fnExactPowerInRow.holds Try.pinned (OpenSpec.ofChange fnExactPowerInWrong)

/-- 'laws.FnExactOrderIn': WHATEVER THE INPUT: true; the input reads as it did. -/
def fnExactOrderInSpec : ChangeSpec := { name := "fnExactOrderIn", fn := fun _ => fun
  | [d1, d2] => { results := [.lit (.bool true)], args := [d1, d2] }
  | _ => none }
def fnExactOrderInRow : OpenClaim := { program := "ytpoemcigklanoaa", sum := "facd61e01a52dc33b29d80e6dbf67d1cbaeed8ce48885b2ce0ab431eb4422d60", func := "loop.example/polycircuits/laws.FnExactOrderIn", spec := "fnExactOrderIn", apart := false }
def FnExactOrderInSaid : Prop := fnExactOrderInRow.holds Try.pinned (OpenSpec.ofChange fnExactOrderInSpec)

/-- ITS FALSE NEIGHBOUR: 'it returns false'. Refute it at one input. -/
def fnExactOrderInWrong : ChangeSpec := { name := "fnExactOrderIn", fn := fun _ => fun
  | [d1, d2] => { results := [.lit (.bool false)], args := [d1, d2] }
  | _ => none }
def FnExactOrderInWrongFalsely : Prop := fnExactOrderInRow.holds Try.pinned (OpenSpec.ofChange fnExactOrderInWrong)

/-- 'laws.FnExactGeneratorIn': WHATEVER THE INPUT: true; the input reads as it did. -/
def fnExactGeneratorInSpec : ChangeSpec := { name := "fnExactGeneratorIn", fn := fun _ => fun
  | [d] => { results := [.lit (.bool true)], args := [d] }
  | _ => none }
def fnExactGeneratorInRow : OpenClaim := { program := "ytpoemcigklanoaa", sum := "facd61e01a52dc33b29d80e6dbf67d1cbaeed8ce48885b2ce0ab431eb4422d60", func := "loop.example/polycircuits/laws.FnExactGeneratorIn", spec := "fnExactGeneratorIn", apart := false }
def FnExactGeneratorInSaid : Prop := fnExactGeneratorInRow.holds Try.pinned (OpenSpec.ofChange fnExactGeneratorInSpec)

/-- ITS FALSE NEIGHBOUR: 'it returns false'. Refute it at one input. -/
def fnExactGeneratorInWrong : ChangeSpec := { name := "fnExactGeneratorIn", fn := fun _ => fun
  | [d] => { results := [.lit (.bool false)], args := [d] }
  | _ => none }
def FnExactGeneratorInWrongFalsely : Prop := fnExactGeneratorInRow.holds Try.pinned (OpenSpec.ofChange fnExactGeneratorInWrong)

/-- 'laws.FnExactRootsIn': WHATEVER THE INPUT: true; the input reads as it did. -/
def fnExactRootsInSpec : ChangeSpec := { name := "fnExactRootsIn", fn := fun _ => fun
  | [d1, d2, d3] => { results := [.lit (.bool true)], args := [d1, d2, d3] }
  | _ => none }
def fnExactRootsInRow : OpenClaim := { program := "ytpoemcigklanoaa", sum := "facd61e01a52dc33b29d80e6dbf67d1cbaeed8ce48885b2ce0ab431eb4422d60", func := "loop.example/polycircuits/laws.FnExactRootsIn", spec := "fnExactRootsIn", apart := false }
def FnExactRootsInSaid : Prop := fnExactRootsInRow.holds Try.pinned (OpenSpec.ofChange fnExactRootsInSpec)

/-- ITS FALSE NEIGHBOUR: 'it returns false'. Refute it at one input. -/
def fnExactRootsInWrong : ChangeSpec := { name := "fnExactRootsIn", fn := fun _ => fun
  | [d1, d2, d3] => { results := [.lit (.bool false)], args := [d1, d2, d3] }
  | _ => none }
def FnExactRootsInWrongFalsely : Prop := fnExactRootsInRow.holds Try.pinned (OpenSpec.ofChange fnExactRootsInWrong)

/- THE SECOND FORM. 'bulk': how many values and letters a reading holds, each counted each time it is reached (what is shared counts as often as it is met; a slice's spare places count too). A statement '..UptoSaid' is the law's where the arguments, and the package variables that the reading takes, are together of bulk at most 1048576: NARROWER than '..Said'. Prove '..Said' where nothing that the law and all that it calls make is longer than what came in: it says more and counts as full. Else prove '..UptoSaid'. A law counts once. -/
mutual
def uptoBulk {H : Type} : DataW H → Nat
  | .lit (.string bytes) => bytes.length + 1
  | .lit _ => 1
  | .nil => 1
  | .ptr d => uptoBulk d + 1
  | .slice elems spare => uptoBulkAll elems + uptoBulkAll spare + 1
  | .agg parts => uptoBulkAll parts + 1
  | .iface _ d => uptoBulk d + 1
  | .map entries => uptoBulkEntries entries + 1
  | .held _ => 1
def uptoBulkAll {H : Type} : List (DataW H) → Nat
  | [] => 0
  | d :: r => uptoBulk d + uptoBulkAll r
def uptoBulkEntries {H : Type} : List (Lit × DataW H) → Nat
  | [] => 0
  | x :: r => uptoBulkEntry x + uptoBulkEntries r
def uptoBulkEntry {H : Type} : Lit × DataW H → Nat
  | (.string bytes, d) => bytes.length + uptoBulk d + 1
  | (_, d) => uptoBulk d + 1
 end
def uptoSmall : (H : Type) → List (DataW H) → Bool := fun _ ds => decide (uptoBulkAll ds ≤ 1048576)
def OpenSpec.upto (s : _root_.Go.ChangeSpec) : _root_.Go.OpenSpec := { _root_.Go.OpenSpec.ofChange s with cond := some uptoSmall }

/-- 'laws.FnField', WHERE WHAT IT READS IS OF BULK AT MOST 1048576: true; the input reads as it did. -/
def fnFieldUptoRow : OpenClaim := { program := "ytpoemcigklanoaa", sum := "facd61e01a52dc33b29d80e6dbf67d1cbaeed8ce48885b2ce0ab431eb4422d60", func := "loop.example/polycircuits/laws.FnField", spec := "fnField", apart := false, narrowed := true }
def FnFieldUptoSaid : Prop := fnFieldUptoRow.holds Try.pinned (OpenSpec.upto fnFieldSpec)

/-- 'laws.FnReduce', WHERE WHAT IT READS IS OF BULK AT MOST 1048576: true; the input reads as it did. -/
def fnReduceUptoRow : OpenClaim := { program := "ytpoemcigklanoaa", sum := "facd61e01a52dc33b29d80e6dbf67d1cbaeed8ce48885b2ce0ab431eb4422d60", func := "loop.example/polycircuits/laws.FnReduce", spec := "fnReduce", apart := false, narrowed := true }
def FnReduceUptoSaid : Prop := fnReduceUptoRow.holds Try.pinned (OpenSpec.upto fnReduceSpec)

/-- 'laws.FnInverse', WHERE WHAT IT READS IS OF BULK AT MOST 1048576: true; the input reads as it did. -/
def fnInverseUptoRow : OpenClaim := { program := "ytpoemcigklanoaa", sum := "facd61e01a52dc33b29d80e6dbf67d1cbaeed8ce48885b2ce0ab431eb4422d60", func := "loop.example/polycircuits/laws.FnInverse", spec := "fnInverse", apart := false, narrowed := true }
def FnInverseUptoSaid : Prop := fnInverseUptoRow.holds Try.pinned (OpenSpec.upto fnInverseSpec)

/-- 'laws.FnPower', WHERE WHAT IT READS IS OF BULK AT MOST 1048576: true; the input reads as it did. -/
def fnPowerUptoRow : OpenClaim := { program := "ytpoemcigklanoaa", sum := "facd61e01a52dc33b29d80e6dbf67d1cbaeed8ce48885b2ce0ab431eb4422d60", func := "loop.example/polycircuits/laws.FnPower", spec := "fnPower", apart := false, narrowed := true }
def FnPowerUptoSaid : Prop := fnPowerUptoRow.holds Try.pinned (OpenSpec.upto fnPowerSpec)

/-- 'laws.FnGenerator', WHERE WHAT IT READS IS OF BULK AT MOST 1048576: true; the input reads as it did. -/
def fnGeneratorUptoRow : OpenClaim := { program := "ytpoemcigklanoaa", sum := "facd61e01a52dc33b29d80e6dbf67d1cbaeed8ce48885b2ce0ab431eb4422d60", func := "loop.example/polycircuits/laws.FnGenerator", spec := "fnGenerator", apart := false, narrowed := true }
def FnGeneratorUptoSaid : Prop := fnGeneratorUptoRow.holds Try.pinned (OpenSpec.upto fnGeneratorSpec)

/-- 'laws.FnRoots', WHERE WHAT IT READS IS OF BULK AT MOST 1048576: true; the input reads as it did. -/
def fnRootsUptoRow : OpenClaim := { program := "ytpoemcigklanoaa", sum := "facd61e01a52dc33b29d80e6dbf67d1cbaeed8ce48885b2ce0ab431eb4422d60", func := "loop.example/polycircuits/laws.FnRoots", spec := "fnRoots", apart := false, narrowed := true }
def FnRootsUptoSaid : Prop := fnRootsUptoRow.holds Try.pinned (OpenSpec.upto fnRootsSpec)

/-- 'laws.FnExactPrimeValid', WHERE WHAT IT READS IS OF BULK AT MOST 1048576: true; the input reads as it did. -/
def fnExactPrimeValidUptoRow : OpenClaim := { program := "ytpoemcigklanoaa", sum := "facd61e01a52dc33b29d80e6dbf67d1cbaeed8ce48885b2ce0ab431eb4422d60", func := "loop.example/polycircuits/laws.FnExactPrimeValid", spec := "fnExactPrimeValid", apart := false, narrowed := true }
def FnExactPrimeValidUptoSaid : Prop := fnExactPrimeValidUptoRow.holds Try.pinned (OpenSpec.upto fnExactPrimeValidSpec)

/-- 'laws.FnExactReduce', WHERE WHAT IT READS IS OF BULK AT MOST 1048576: true; the input reads as it did. -/
def fnExactReduceUptoRow : OpenClaim := { program := "ytpoemcigklanoaa", sum := "facd61e01a52dc33b29d80e6dbf67d1cbaeed8ce48885b2ce0ab431eb4422d60", func := "loop.example/polycircuits/laws.FnExactReduce", spec := "fnExactReduce", apart := false, narrowed := true }
def FnExactReduceUptoSaid : Prop := fnExactReduceUptoRow.holds Try.pinned (OpenSpec.upto fnExactReduceSpec)

/-- 'laws.FnExactAddIn', WHERE WHAT IT READS IS OF BULK AT MOST 1048576: true; the input reads as it did. -/
def fnExactAddInUptoRow : OpenClaim := { program := "ytpoemcigklanoaa", sum := "facd61e01a52dc33b29d80e6dbf67d1cbaeed8ce48885b2ce0ab431eb4422d60", func := "loop.example/polycircuits/laws.FnExactAddIn", spec := "fnExactAddIn", apart := false, narrowed := true }
def FnExactAddInUptoSaid : Prop := fnExactAddInUptoRow.holds Try.pinned (OpenSpec.upto fnExactAddInSpec)

/-- 'laws.FnExactMulIn', WHERE WHAT IT READS IS OF BULK AT MOST 1048576: true; the input reads as it did. -/
def fnExactMulInUptoRow : OpenClaim := { program := "ytpoemcigklanoaa", sum := "facd61e01a52dc33b29d80e6dbf67d1cbaeed8ce48885b2ce0ab431eb4422d60", func := "loop.example/polycircuits/laws.FnExactMulIn", spec := "fnExactMulIn", apart := false, narrowed := true }
def FnExactMulInUptoSaid : Prop := fnExactMulInUptoRow.holds Try.pinned (OpenSpec.upto fnExactMulInSpec)

/-- 'laws.FnExactMinusIn', WHERE WHAT IT READS IS OF BULK AT MOST 1048576: true; the input reads as it did. -/
def fnExactMinusInUptoRow : OpenClaim := { program := "ytpoemcigklanoaa", sum := "facd61e01a52dc33b29d80e6dbf67d1cbaeed8ce48885b2ce0ab431eb4422d60", func := "loop.example/polycircuits/laws.FnExactMinusIn", spec := "fnExactMinusIn", apart := false, narrowed := true }
def FnExactMinusInUptoSaid : Prop := fnExactMinusInUptoRow.holds Try.pinned (OpenSpec.upto fnExactMinusInSpec)

/-- 'laws.FnExactInverseIn', WHERE WHAT IT READS IS OF BULK AT MOST 1048576: true; the input reads as it did. -/
def fnExactInverseInUptoRow : OpenClaim := { program := "ytpoemcigklanoaa", sum := "facd61e01a52dc33b29d80e6dbf67d1cbaeed8ce48885b2ce0ab431eb4422d60", func := "loop.example/polycircuits/laws.FnExactInverseIn", spec := "fnExactInverseIn", apart := false, narrowed := true }
def FnExactInverseInUptoSaid : Prop := fnExactInverseInUptoRow.holds Try.pinned (OpenSpec.upto fnExactInverseInSpec)

/-- 'laws.FnExactPowerIn', WHERE WHAT IT READS IS OF BULK AT MOST 1048576: true; the input reads as it did. -/
def fnExactPowerInUptoRow : OpenClaim := { program := "ytpoemcigklanoaa", sum := "facd61e01a52dc33b29d80e6dbf67d1cbaeed8ce48885b2ce0ab431eb4422d60", func := "loop.example/polycircuits/laws.FnExactPowerIn", spec := "fnExactPowerIn", apart := false, narrowed := true }
def FnExactPowerInUptoSaid : Prop := fnExactPowerInUptoRow.holds Try.pinned (OpenSpec.upto fnExactPowerInSpec)

/-- 'laws.FnExactOrderIn', WHERE WHAT IT READS IS OF BULK AT MOST 1048576: true; the input reads as it did. -/
def fnExactOrderInUptoRow : OpenClaim := { program := "ytpoemcigklanoaa", sum := "facd61e01a52dc33b29d80e6dbf67d1cbaeed8ce48885b2ce0ab431eb4422d60", func := "loop.example/polycircuits/laws.FnExactOrderIn", spec := "fnExactOrderIn", apart := false, narrowed := true }
def FnExactOrderInUptoSaid : Prop := fnExactOrderInUptoRow.holds Try.pinned (OpenSpec.upto fnExactOrderInSpec)

/-- 'laws.FnExactGeneratorIn', WHERE WHAT IT READS IS OF BULK AT MOST 1048576: true; the input reads as it did. -/
def fnExactGeneratorInUptoRow : OpenClaim := { program := "ytpoemcigklanoaa", sum := "facd61e01a52dc33b29d80e6dbf67d1cbaeed8ce48885b2ce0ab431eb4422d60", func := "loop.example/polycircuits/laws.FnExactGeneratorIn", spec := "fnExactGeneratorIn", apart := false, narrowed := true }
def FnExactGeneratorInUptoSaid : Prop := fnExactGeneratorInUptoRow.holds Try.pinned (OpenSpec.upto fnExactGeneratorInSpec)

/-- 'laws.FnExactRootsIn', WHERE WHAT IT READS IS OF BULK AT MOST 1048576: true; the input reads as it did. -/
def fnExactRootsInUptoRow : OpenClaim := { program := "ytpoemcigklanoaa", sum := "facd61e01a52dc33b29d80e6dbf67d1cbaeed8ce48885b2ce0ab431eb4422d60", func := "loop.example/polycircuits/laws.FnExactRootsIn", spec := "fnExactRootsIn", apart := false, narrowed := true }
def FnExactRootsInUptoSaid : Prop := fnExactRootsInUptoRow.holds Try.pinned (OpenSpec.upto fnExactRootsInSpec)

end Rows
end Go.Proofs.Ytpoemcigklanoaa
