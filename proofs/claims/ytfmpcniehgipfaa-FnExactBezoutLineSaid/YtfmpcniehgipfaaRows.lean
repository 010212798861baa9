/-
  No cell of these rows narrows 'for every input' (looked for: loops, veiled, ifaces, maps, wideKeys, modest, calm, conditions, laid).
  DERIVED. THE GIVEN ROWS OF THIS SEAT. 17 by the template 'for every input the law returns true; each argument reads behind the call as it read before'; 0 by the template 'total and deterministic' (their statements: YtfmpcniehgipfaaTotals.lean).
  GIVEN WITH THE SEED: the statements are not yours to turn. If you find one false, say at which input.
  Laid BY PROGRAM, IN A SANDBOX (cutbox-rows.mjs): the forced cells as the released guide's own fill.sh prints them over the translation 2512f1b2d32e0762… (all of the seat's roots in one cut). By AI agents, Wed Nov 11 2026. No macro, syntax, notation, axiom, sorry.
-/
import Derived.Test.YtfmpcniehgipfaaChecked
import GoSem.Claim
import GoSem.ClaimJoined
import GoSem.ClaimMapViews
import Derived.JoinedTies
import Derived.KernelRfl
namespace Go.Proofs.Ytfmpcniehgipfaa
/- THE CELL 'sum', in the pinned program and in every row, IS THE sha256 OF THE DUMP (.gsa) THAT YtfmpcniehgipfaaProg.lean LOADS. Nothing in Lean hashes anything: it is a label: what it is worth is what the hold of that sum in a sandbox is worth. -/
noncomputable def Try.pinned : Pinned := { name := "ytfmpcniehgipfaa", sum := "2512f1b2d32e0762e14a0d5093ee9b075e95a05bdc1dcdb0d009fed13d14bc65", checked := Try.checked }
namespace Rows
def none {H : Type} : Left H := { results := [], args := [] }

/-- 'laws.FnExactLineValid': WHATEVER THE INPUT: true; the input reads as it did. -/
def fnExactLineValidSpec : ChangeSpec := { name := "fnExactLineValid", fn := fun _ => fun
  | [d1, d2] => { results := [.lit (.bool true)], args := [d1, d2] }
  | _ => none }
def fnExactLineValidRow : OpenClaim := { program := "ytfmpcniehgipfaa", sum := "2512f1b2d32e0762e14a0d5093ee9b075e95a05bdc1dcdb0d009fed13d14bc65", func := "loop.example/polycircuits/laws.FnExactLineValid", spec := "fnExactLineValid", apart := false }
def FnExactLineValidSaid : Prop := fnExactLineValidRow.holds Try.pinned (OpenSpec.ofChange fnExactLineValidSpec)

/-- ITS FALSE NEIGHBOUR: 'it returns false'. Refute it at one input. -/
def fnExactLineValidWrong : ChangeSpec := { name := "fnExactLineValid", fn := fun _ => fun
  | [d1, d2] => { results := [.lit (.bool false)], args := [d1, d2] }
  | _ => none }
def FnExactLineValidWrongFalsely : Prop := fnExactLineValidRow.holds Try.pinned (OpenSpec.ofChange fnExactLineValidWrong)

/-- 'laws.FnExactAtLine': WHATEVER THE INPUT: true; the input reads as it did. -/
def fnExactAtLineSpec : ChangeSpec := { name := "fnExactAtLine", fn := fun _ => fun
  | [d1, d2, d3] => { results := [.lit (.bool true)], args := [d1, d2, d3] }
  | _ => none }
def fnExactAtLineRow : OpenClaim := { program := "ytfmpcniehgipfaa", sum := "2512f1b2d32e0762e14a0d5093ee9b075e95a05bdc1dcdb0d009fed13d14bc65", func := "loop.example/polycircuits/laws.FnExactAtLine", spec := "fnExactAtLine", unfollowed := true, recurses := true, apart := false }
def FnExactAtLineSaid : Prop := fnExactAtLineRow.holds Try.pinned (OpenSpec.ofChange fnExactAtLineSpec)

/-- ITS FALSE NEIGHBOUR: 'it returns false'. Refute it at one input. -/
def fnExactAtLineWrong : ChangeSpec := { name := "fnExactAtLine", fn := fun _ => fun
  | [d1, d2, d3] => { results := [.lit (.bool false)], args := [d1, d2, d3] }
  | _ => none }
def FnExactAtLineWrongFalsely : Prop := fnExactAtLineRow.holds Try.pinned (OpenSpec.ofChange fnExactAtLineWrong)

/-- 'laws.FnExactMulLine': WHATEVER THE INPUT: true; the input reads as it did. -/
def fnExactMulLineSpec : ChangeSpec := { name := "fnExactMulLine", fn := fun _ => fun
  | [d1, d2, d3] => { results := [.lit (.bool true)], args := [d1, d2, d3] }
  | _ => none }
def fnExactMulLineRow : OpenClaim := { program := "ytfmpcniehgipfaa", sum := "2512f1b2d32e0762e14a0d5093ee9b075e95a05bdc1dcdb0d009fed13d14bc65", func := "loop.example/polycircuits/laws.FnExactMulLine", spec := "fnExactMulLine", unfollowed := true, recurses := true, apart := false }
def FnExactMulLineSaid : Prop := fnExactMulLineRow.holds Try.pinned (OpenSpec.ofChange fnExactMulLineSpec)

/-- ITS FALSE NEIGHBOUR: 'it returns false'. Refute it at one input. -/
def fnExactMulLineWrong : ChangeSpec := { name := "fnExactMulLine", fn := fun _ => fun
  | [d1, d2, d3] => { results := [.lit (.bool false)], args := [d1, d2, d3] }
  | _ => none }
def FnExactMulLineWrongFalsely : Prop := fnExactMulLineRow.holds Try.pinned (OpenSpec.ofChange fnExactMulLineWrong)

/-- 'laws.FnExactDivideLine': WHATEVER THE INPUT: true; the input reads as it did. -/
def fnExactDivideLineSpec : ChangeSpec := { name := "fnExactDivideLine", fn := fun _ => fun
  | [d1, d2, d3] => { results := [.lit (.bool true)], args := [d1, d2, d3] }
  | _ => none }
def fnExactDivideLineRow : OpenClaim := { program := "ytfmpcniehgipfaa", sum := "2512f1b2d32e0762e14a0d5093ee9b075e95a05bdc1dcdb0d009fed13d14bc65", func := "loop.example/polycircuits/laws.FnExactDivideLine", spec := "fnExactDivideLine", unfollowed := true, recurses := true, apart := false }
def FnExactDivideLineSaid : Prop := fnExactDivideLineRow.holds Try.pinned (OpenSpec.ofChange fnExactDivideLineSpec)

/-- ITS FALSE NEIGHBOUR: 'it returns false'. Refute it at one input. -/
def fnExactDivideLineWrong : ChangeSpec := { name := "fnExactDivideLine", fn := fun _ => fun
  | [d1, d2, d3] => { results := [.lit (.bool false)], args := [d1, d2, d3] }
  | _ => none }
def FnExactDivideLineWrongFalsely : Prop := fnExactDivideLineRow.holds Try.pinned (OpenSpec.ofChange fnExactDivideLineWrong)

/-- 'laws.FnExactGcdLine': WHATEVER THE INPUT: true; the input reads as it did. -/
def fnExactGcdLineSpec : ChangeSpec := { name := "fnExactGcdLine", fn := fun _ => fun
  | [d1, d2, d3] => { results := [.lit (.bool true)], args := [d1, d2, d3] }
  | _ => none }
def fnExactGcdLineRow : OpenClaim := { program := "ytfmpcniehgipfaa", sum := "2512f1b2d32e0762e14a0d5093ee9b075e95a05bdc1dcdb0d009fed13d14bc65", func := "loop.example/polycircuits/laws.FnExactGcdLine", spec := "fnExactGcdLine", unfollowed := true, recurses := true, apart := false }
def FnExactGcdLineSaid : Prop := fnExactGcdLineRow.holds Try.pinned (OpenSpec.ofChange fnExactGcdLineSpec)

/-- ITS FALSE NEIGHBOUR: 'it returns false'. Refute it at one input. -/
def fnExactGcdLineWrong : ChangeSpec := { name := "fnExactGcdLine", fn := fun _ => fun
  | [d1, d2, d3] => { results := [.lit (.bool false)], args := [d1, d2, d3] }
  | _ => none }
def FnExactGcdLineWrongFalsely : Prop := fnExactGcdLineRow.holds Try.pinned (OpenSpec.ofChange fnExactGcdLineWrong)

/-- 'laws.FnExactBezoutLine': WHATEVER THE INPUT: true; the input reads as it did. -/
def fnExactBezoutLineSpec : ChangeSpec := { name := "fnExactBezoutLine", fn := fun _ => fun
  | [d1, d2, d3] => { results := [.lit (.bool true)], args := [d1, d2, d3] }
  | _ => none }
def fnExactBezoutLineRow : OpenClaim := { program := "ytfmpcniehgipfaa", sum := "2512f1b2d32e0762e14a0d5093ee9b075e95a05bdc1dcdb0d009fed13d14bc65", func := "loop.example/polycircuits/laws.FnExactBezoutLine", spec := "fnExactBezoutLine", unfollowed := true, recurses := true, apart := false }
def FnExactBezoutLineSaid : Prop := fnExactBezoutLineRow.holds Try.pinned (OpenSpec.ofChange fnExactBezoutLineSpec)

/-- ITS FALSE NEIGHBOUR: 'it returns false'. Refute it at one input. -/
def fnExactBezoutLineWrong : ChangeSpec := { name := "fnExactBezoutLine", fn := fun _ => fun
  | [d1, d2, d3] => { results := [.lit (.bool false)], args := [d1, d2, d3] }
  | _ => none }
def FnExactBezoutLineWrongFalsely : Prop := fnExactBezoutLineRow.holds Try.pinned (OpenSpec.ofChange fnExactBezoutLineWrong)

/-- 'laws.FnExactZerosOf': WHATEVER THE INPUT: true; the input reads as it did. -/
def fnExactZerosOfSpec : ChangeSpec := { name := "fnExactZerosOf", fn := fun _ => fun
  | [d1, d2] => { results := [.lit (.bool true)], args := [d1, d2] }
  | _ => none }
def fnExactZerosOfRow : OpenClaim := { program := "ytfmpcniehgipfaa", sum := "2512f1b2d32e0762e14a0d5093ee9b075e95a05bdc1dcdb0d009fed13d14bc65", func := "loop.example/polycircuits/laws.FnExactZerosOf", spec := "fnExactZerosOf", unfollowed := true, recurses := true, apart := false }
def FnExactZerosOfSaid : Prop := fnExactZerosOfRow.holds Try.pinned (OpenSpec.ofChange fnExactZerosOfSpec)

/-- ITS FALSE NEIGHBOUR: 'it returns false'. Refute it at one input. -/
def fnExactZerosOfWrong : ChangeSpec := { name := "fnExactZerosOf", fn := fun _ => fun
  | [d1, d2] => { results := [.lit (.bool false)], args := [d1, d2] }
  | _ => none }
def FnExactZerosOfWrongFalsely : Prop := fnExactZerosOfRow.holds Try.pinned (OpenSpec.ofChange fnExactZerosOfWrong)

/-- 'laws.FnExactThroughPoints': WHATEVER THE INPUT: true; the input reads as it did. -/
def fnExactThroughPointsSpec : ChangeSpec := { name := "fnExactThroughPoints", fn := fun _ => fun
  | [d1, d2, d3] => { results := [.lit (.bool true)], args := [d1, d2, d3] }
  | _ => none }
def fnExactThroughPointsRow : OpenClaim := { program := "ytfmpcniehgipfaa", sum := "2512f1b2d32e0762e14a0d5093ee9b075e95a05bdc1dcdb0d009fed13d14bc65", func := "loop.example/polycircuits/laws.FnExactThroughPoints", spec := "fnExactThroughPoints", unfollowed := true, recurses := true, apart := false }
def FnExactThroughPointsSaid : Prop := fnExactThroughPointsRow.holds Try.pinned (OpenSpec.ofChange fnExactThroughPointsSpec)

/-- ITS FALSE NEIGHBOUR: 'it returns false'. Refute it at one input. -/
def fnExactThroughPointsWrong : ChangeSpec := { name := "fnExactThroughPoints", fn := fun _ => fun
  | [d1, d2, d3] => { results := [.lit (.bool false)], args := [d1, d2, d3] }
  | _ => none }
def FnExactThroughPointsWrongFalsely : Prop := fnExactThroughPointsRow.holds Try.pinned (OpenSpec.ofChange fnExactThroughPointsWrong)

/-- 'laws.FnExactIsPrimeLine': WHATEVER THE INPUT: true; the input reads as it did. -/
def fnExactIsPrimeLineSpec : ChangeSpec := { name := "fnExactIsPrimeLine", fn := fun _ => fun
  | [d1, d2] => { results := [.lit (.bool true)], args := [d1, d2] }
  | _ => none }
def fnExactIsPrimeLineRow : OpenClaim := { program := "ytfmpcniehgipfaa", sum := "2512f1b2d32e0762e14a0d5093ee9b075e95a05bdc1dcdb0d009fed13d14bc65", func := "loop.example/polycircuits/laws.FnExactIsPrimeLine", spec := "fnExactIsPrimeLine", unfollowed := true, recurses := true, apart := false }
def FnExactIsPrimeLineSaid : Prop := fnExactIsPrimeLineRow.holds Try.pinned (OpenSpec.ofChange fnExactIsPrimeLineSpec)

/-- ITS FALSE NEIGHBOUR: 'it returns false'. Refute it at one input. -/
def fnExactIsPrimeLineWrong : ChangeSpec := { name := "fnExactIsPrimeLine", fn := fun _ => fun
  | [d1, d2] => { results := [.lit (.bool false)], args := [d1, d2] }
  | _ => none }
def FnExactIsPrimeLineWrongFalsely : Prop := fnExactIsPrimeLineRow.holds Try.pinned (OpenSpec.ofChange fnExactIsPrimeLineWrong)

/-- 'laws.FnExactFactorLine': WHATEVER THE INPUT: true; the input reads as it did. -/
def fnExactFactorLineSpec : ChangeSpec := { name := "fnExactFactorLine", fn := fun _ => fun
  | [d1, d2] => { results := [.lit (.bool true)], args := [d1, d2] }
  | _ => none }
def fnExactFactorLineRow : OpenClaim := { program := "ytfmpcniehgipfaa", sum := "2512f1b2d32e0762e14a0d5093ee9b075e95a05bdc1dcdb0d009fed13d14bc65", func := "loop.example/polycircuits/laws.FnExactFactorLine", spec := "fnExactFactorLine", unfollowed := true, recurses := true, apart := false }
def FnExactFactorLineSaid : Prop := fnExactFactorLineRow.holds Try.pinned (OpenSpec.ofChange fnExactFactorLineSpec)

/-- ITS FALSE NEIGHBOUR: 'it returns false'. Refute it at one input. -/
def fnExactFactorLineWrong : ChangeSpec := { name := "fnExactFactorLine", fn := fun _ => fun
  | [d1, d2] => { results := [.lit (.bool false)], args := [d1, d2] }
  | _ => none }
def FnExactFactorLineWrongFalsely : Prop := fnExactFactorLineRow.holds Try.pinned (OpenSpec.ofChange fnExactFactorLineWrong)

/-- 'laws.FnExactPolyOfLine': WHATEVER THE INPUT: true; the input reads as it did. -/
def fnExactPolyOfLineSpec : ChangeSpec := { name := "fnExactPolyOfLine", fn := fun _ => fun
  | [d1, d2, d3] => { results := [.lit (.bool true)], args := [d1, d2, d3] }
  | _ => none }
def fnExactPolyOfLineRow : OpenClaim := { program := "ytfmpcniehgipfaa", sum := "2512f1b2d32e0762e14a0d5093ee9b075e95a05bdc1dcdb0d009fed13d14bc65", func := "loop.example/polycircuits/laws.FnExactPolyOfLine", spec := "fnExactPolyOfLine", inPlace := ["slices.overlaps[loop.example/polycircuits/impl.Term]"], unfollowed := true, recurses := true, apart := false }
def FnExactPolyOfLineSaid : Prop := fnExactPolyOfLineRow.holds Try.pinned (OpenSpec.ofChange fnExactPolyOfLineSpec)

/-- ITS FALSE NEIGHBOUR: 'it returns false'. Refute it at one input. -/
def fnExactPolyOfLineWrong : ChangeSpec := { name := "fnExactPolyOfLine", fn := fun _ => fun
  | [d1, d2, d3] => { results := [.lit (.bool false)], args := [d1, d2, d3] }
  | _ => none }
def FnExactPolyOfLineWrongFalsely : Prop := fnExactPolyOfLineRow.holds Try.pinned (OpenSpec.ofChange fnExactPolyOfLineWrong)

/-- 'laws.FnDivideLine': WHATEVER THE INPUT: true; the input reads as it did. -/
def fnDivideLineSpec : ChangeSpec := { name := "fnDivideLine", fn := fun _ => fun
  | [d] => { results := [.lit (.bool true)], args := [d] }
  | _ => none }
def fnDivideLineRow : OpenClaim := { program := "ytfmpcniehgipfaa", sum := "2512f1b2d32e0762e14a0d5093ee9b075e95a05bdc1dcdb0d009fed13d14bc65", func := "loop.example/polycircuits/laws.FnDivideLine", spec := "fnDivideLine", unfollowed := true, recurses := true, apart := false }
def FnDivideLineSaid : Prop := fnDivideLineRow.holds Try.pinned (OpenSpec.ofChange fnDivideLineSpec)

/-- ITS FALSE NEIGHBOUR: 'it returns false'. Refute it at one input. -/
def fnDivideLineWrong : ChangeSpec := { name := "fnDivideLine", fn := fun _ => fun
  | [d] => { results := [.lit (.bool false)], args := [d] }
  | _ => none }
def FnDivideLineWrongFalsely : Prop := fnDivideLineRow.holds Try.pinned (OpenSpec.ofChange fnDivideLineWrong)

/-- 'laws.FnMulLine': WHATEVER THE INPUT: true; the input reads as it did. -/
def fnMulLineSpec : ChangeSpec := { name := "fnMulLine", fn := fun _ => fun
  | [d] => { results := [.lit (.bool true)], args := [d] }
  | _ => none }
def fnMulLineRow : OpenClaim := { program := "ytfmpcniehgipfaa", sum := "2512f1b2d32e0762e14a0d5093ee9b075e95a05bdc1dcdb0d009fed13d14bc65", func := "loop.example/polycircuits/laws.FnMulLine", spec := "fnMulLine", inPlace := ["slices.overlaps[loop.example/polycircuits/impl.Term]"], unfollowed := true, recurses := true, apart := false }
def FnMulLineSaid : Prop := fnMulLineRow.holds Try.pinned (OpenSpec.ofChange fnMulLineSpec)

/-- ITS FALSE NEIGHBOUR: 'it returns false'. Refute it at one input. -/
def fnMulLineWrong : ChangeSpec := { name := "fnMulLine", fn := fun _ => fun
  | [d] => { results := [.lit (.bool false)], args := [d] }
  | _ => none }
def FnMulLineWrongFalsely : Prop := fnMulLineRow.holds Try.pinned (OpenSpec.ofChange fnMulLineWrong)

/-- 'laws.FnGcdLine': WHATEVER THE INPUT: true; the input reads as it did. -/
def fnGcdLineSpec : ChangeSpec := { name := "fnGcdLine", fn := fun _ => fun
  | [d] => { results := [.lit (.bool true)], args := [d] }
  | _ => none }
def fnGcdLineRow : OpenClaim := { program := "ytfmpcniehgipfaa", sum := "2512f1b2d32e0762e14a0d5093ee9b075e95a05bdc1dcdb0d009fed13d14bc65", func := "loop.example/polycircuits/laws.FnGcdLine", spec := "fnGcdLine", unfollowed := true, recurses := true, apart := false }
def FnGcdLineSaid : Prop := fnGcdLineRow.holds Try.pinned (OpenSpec.ofChange fnGcdLineSpec)

/-- ITS FALSE NEIGHBOUR: 'it returns false'. Refute it at one input. -/
def fnGcdLineWrong : ChangeSpec := { name := "fnGcdLine", fn := fun _ => fun
  | [d] => { results := [.lit (.bool false)], args := [d] }
  | _ => none }
def FnGcdLineWrongFalsely : Prop := fnGcdLineRow.holds Try.pinned (OpenSpec.ofChange fnGcdLineWrong)

/-- 'laws.FnThroughPoints': WHATEVER THE INPUT: true; the input reads as it did. -/
def fnThroughPointsSpec : ChangeSpec := { name := "fnThroughPoints", fn := fun _ => fun
  | [d] => { results := [.lit (.bool true)], args := [d] }
  | _ => none }
def fnThroughPointsRow : OpenClaim := { program := "ytfmpcniehgipfaa", sum := "2512f1b2d32e0762e14a0d5093ee9b075e95a05bdc1dcdb0d009fed13d14bc65", func := "loop.example/polycircuits/laws.FnThroughPoints", spec := "fnThroughPoints", unfollowed := true, recurses := true, apart := false }
def FnThroughPointsSaid : Prop := fnThroughPointsRow.holds Try.pinned (OpenSpec.ofChange fnThroughPointsSpec)

/-- ITS FALSE NEIGHBOUR: 'it returns false'. Refute it at one input. -/
def fnThroughPointsWrong : ChangeSpec := { name := "fnThroughPoints", fn := fun _ => fun
  | [d] => { results := [.lit (.bool false)], args := [d] }
  | _ => none }
def FnThroughPointsWrongFalsely : Prop := fnThroughPointsRow.holds Try.pinned (OpenSpec.ofChange fnThroughPointsWrong)

/-- 'laws.FnZerosOf': WHATEVER THE INPUT: true; the input reads as it did. -/
def fnZerosOfSpec : ChangeSpec := { name := "fnZerosOf", fn := fun _ => fun
  | [d1, d2] => { results := [.lit (.bool true)], args := [d1, d2] }
  | _ => none }
def fnZerosOfRow : OpenClaim := { program := "ytfmpcniehgipfaa", sum := "2512f1b2d32e0762e14a0d5093ee9b075e95a05bdc1dcdb0d009fed13d14bc65", func := "loop.example/polycircuits/laws.FnZerosOf", spec := "fnZerosOf", unfollowed := true, recurses := true, apart := false }
def FnZerosOfSaid : Prop := fnZerosOfRow.holds Try.pinned (OpenSpec.ofChange fnZerosOfSpec)

/-- ITS FALSE NEIGHBOUR: 'it returns false'. Refute it at one input. -/
def fnZerosOfWrong : ChangeSpec := { name := "fnZerosOf", fn := fun _ => fun
  | [d1, d2] => { results := [.lit (.bool false)], args := [d1, d2] }
  | _ => none }
def FnZerosOfWrongFalsely : Prop := fnZerosOfRow.holds Try.pinned (OpenSpec.ofChange fnZerosOfWrong)

/-- 'laws.FnFactorLine': WHATEVER THE INPUT: true; the input reads as it did. -/
def fnFactorLineSpec : ChangeSpec := { name := "fnFactorLine", fn := fun _ => fun
  | [d] => { results := [.lit (.bool true)], args := [d] }
  | _ => none }
def fnFactorLineRow : OpenClaim := { program := "ytfmpcniehgipfaa", sum := "2512f1b2d32e0762e14a0d5093ee9b075e95a05bdc1dcdb0d009fed13d14bc65", func := "loop.example/polycircuits/laws.FnFactorLine", spec := "fnFactorLine", unfollowed := true, recurses := true, apart := false }
def FnFactorLineSaid : Prop := fnFactorLineRow.holds Try.pinned (OpenSpec.ofChange fnFactorLineSpec)

/-- ITS FALSE NEIGHBOUR: 'it returns false'. Refute it at one input. -/
def fnFactorLineWrong : ChangeSpec := { name := "fnFactorLine", fn := fun _ => fun
  | [d] => { results := [.lit (.bool false)], args := [d] }
  | _ => none }
def FnFactorLineWrongFalsely : Prop := fnFactorLineRow.holds Try.pinned (OpenSpec.ofChange fnFactorLineWrong)

/- THE SECOND FORM. 'bulk': how many values and letters a reading holds, each counted each time it is reached (what is shared counts as often as it is met; a slice's spare places count too). A statement '..UptoSaid' is the law's where the arguments, and the package variables that the reading takes, are together of bulk at most 1048576: NARROWER than '..Said'. Prove '..Said' where nothing that the law and all that it calls make is longer than what came in: it says more and counts as full. Else prove '..UptoSaid'. A law counts once. -/
mutual
def uptoBulk {H : Type} : DataW H → Nat
  | .lit (.string bytes) => bytes.length + 1
  | .lit _ => 1
  | .nil => 1
  | .ptr d => uptoBulk d + 1
  | .slice elems spare => uptoBulkAll elems + uptoBulkAll spare + 1
  | .agg parts => uptoBulkAll parts + 1
  | .iface _ d => uptoBulk d + 1
  | .map entries => uptoBulkEntries entries + 1
  | .held _ => 1
def uptoBulkAll {H : Type} : List (DataW H) → Nat
  | [] => 0
  | d :: r => uptoBulk d + uptoBulkAll r
def uptoBulkEntries {H : Type} : List (Lit × DataW H) → Nat
  | [] => 0
  | x :: r => uptoBulkEntry x + uptoBulkEntries r
def uptoBulkEntry {H : Type} : Lit × DataW H → Nat
  | (.string bytes, d) => bytes.length + uptoBulk d + 1
  | (_, d) => uptoBulk d + 1
 end
def uptoSmall : (H : Type) → List (DataW H) → Bool := fun _ ds => decide (uptoBulkAll ds ≤ 1048576)
def OpenSpec.upto (s : _root_.Go.ChangeSpec) : _root_.Go.OpenSpec := { _root_.Go.OpenSpec.ofChange s with cond := some uptoSmall }

/-- 'laws.FnExactLineValid', WHERE WHAT IT READS IS OF BULK AT MOST 1048576: true; the input reads as it did. -/
def fnExactLineValidUptoRow : OpenClaim := { program := "ytfmpcniehgipfaa", sum := "2512f1b2d32e0762e14a0d5093ee9b075e95a05bdc1dcdb0d009fed13d14bc65", func := "loop.example/polycircuits/laws.FnExactLineValid", spec := "fnExactLineValid", apart := false, narrowed := true }
def FnExactLineValidUptoSaid : Prop := fnExactLineValidUptoRow.holds Try.pinned (OpenSpec.upto fnExactLineValidSpec)

/-- 'laws.FnExactAtLine', WHERE WHAT IT READS IS OF BULK AT MOST 1048576: true; the input reads as it did. -/
def fnExactAtLineUptoRow : OpenClaim := { program := "ytfmpcniehgipfaa", sum := "2512f1b2d32e0762e14a0d5093ee9b075e95a05bdc1dcdb0d009fed13d14bc65", func := "loop.example/polycircuits/laws.FnExactAtLine", spec := "fnExactAtLine", unfollowed := true, recurses := true, apart := false, narrowed := true }
def FnExactAtLineUptoSaid : Prop := fnExactAtLineUptoRow.holds Try.pinned (OpenSpec.upto fnExactAtLineSpec)

/-- 'laws.FnExactMulLine', WHERE WHAT IT READS IS OF BULK AT MOST 1048576: true; the input reads as it did. -/
def fnExactMulLineUptoRow : OpenClaim := { program := "ytfmpcniehgipfaa", sum := "2512f1b2d32e0762e14a0d5093ee9b075e95a05bdc1dcdb0d009fed13d14bc65", func := "loop.example/polycircuits/laws.FnExactMulLine", spec := "fnExactMulLine", unfollowed := true, recurses := true, apart := false, narrowed := true }
def FnExactMulLineUptoSaid : Prop := fnExactMulLineUptoRow.holds Try.pinned (OpenSpec.upto fnExactMulLineSpec)

/-- 'laws.FnExactDivideLine', WHERE WHAT IT READS IS OF BULK AT MOST 1048576: true; the input reads as it did. -/
def fnExactDivideLineUptoRow : OpenClaim := { program := "ytfmpcniehgipfaa", sum := "2512f1b2d32e0762e14a0d5093ee9b075e95a05bdc1dcdb0d009fed13d14bc65", func := "loop.example/polycircuits/laws.FnExactDivideLine", spec := "fnExactDivideLine", unfollowed := true, recurses := true, apart := false, narrowed := true }
def FnExactDivideLineUptoSaid : Prop := fnExactDivideLineUptoRow.holds Try.pinned (OpenSpec.upto fnExactDivideLineSpec)

/-- 'laws.FnExactGcdLine', WHERE WHAT IT READS IS OF BULK AT MOST 1048576: true; the input reads as it did. -/
def fnExactGcdLineUptoRow : OpenClaim := { program := "ytfmpcniehgipfaa", sum := "2512f1b2d32e0762e14a0d5093ee9b075e95a05bdc1dcdb0d009fed13d14bc65", func := "loop.example/polycircuits/laws.FnExactGcdLine", spec := "fnExactGcdLine", unfollowed := true, recurses := true, apart := false, narrowed := true }
def FnExactGcdLineUptoSaid : Prop := fnExactGcdLineUptoRow.holds Try.pinned (OpenSpec.upto fnExactGcdLineSpec)

/-- 'laws.FnExactBezoutLine', WHERE WHAT IT READS IS OF BULK AT MOST 1048576: true; the input reads as it did. -/
def fnExactBezoutLineUptoRow : OpenClaim := { program := "ytfmpcniehgipfaa", sum := "2512f1b2d32e0762e14a0d5093ee9b075e95a05bdc1dcdb0d009fed13d14bc65", func := "loop.example/polycircuits/laws.FnExactBezoutLine", spec := "fnExactBezoutLine", unfollowed := true, recurses := true, apart := false, narrowed := true }
def FnExactBezoutLineUptoSaid : Prop := fnExactBezoutLineUptoRow.holds Try.pinned (OpenSpec.upto fnExactBezoutLineSpec)

/-- 'laws.FnExactZerosOf', WHERE WHAT IT READS IS OF BULK AT MOST 1048576: true; the input reads as it did. -/
def fnExactZerosOfUptoRow : OpenClaim := { program := "ytfmpcniehgipfaa", sum := "2512f1b2d32e0762e14a0d5093ee9b075e95a05bdc1dcdb0d009fed13d14bc65", func := "loop.example/polycircuits/laws.FnExactZerosOf", spec := "fnExactZerosOf", unfollowed := true, recurses := true, apart := false, narrowed := true }
def FnExactZerosOfUptoSaid : Prop := fnExactZerosOfUptoRow.holds Try.pinned (OpenSpec.upto fnExactZerosOfSpec)

/-- 'laws.FnExactThroughPoints', WHERE WHAT IT READS IS OF BULK AT MOST 1048576: true; the input reads as it did. -/
def fnExactThroughPointsUptoRow : OpenClaim := { program := "ytfmpcniehgipfaa", sum := "2512f1b2d32e0762e14a0d5093ee9b075e95a05bdc1dcdb0d009fed13d14bc65", func := "loop.example/polycircuits/laws.FnExactThroughPoints", spec := "fnExactThroughPoints", unfollowed := true, recurses := true, apart := false, narrowed := true }
def FnExactThroughPointsUptoSaid : Prop := fnExactThroughPointsUptoRow.holds Try.pinned (OpenSpec.upto fnExactThroughPointsSpec)

/-- 'laws.FnExactIsPrimeLine', WHERE WHAT IT READS IS OF BULK AT MOST 1048576: true; the input reads as it did. -/
def fnExactIsPrimeLineUptoRow : OpenClaim := { program := "ytfmpcniehgipfaa", sum := "2512f1b2d32e0762e14a0d5093ee9b075e95a05bdc1dcdb0d009fed13d14bc65", func := "loop.example/polycircuits/laws.FnExactIsPrimeLine", spec := "fnExactIsPrimeLine", unfollowed := true, recurses := true, apart := false, narrowed := true }
def FnExactIsPrimeLineUptoSaid : Prop := fnExactIsPrimeLineUptoRow.holds Try.pinned (OpenSpec.upto fnExactIsPrimeLineSpec)

/-- 'laws.FnExactFactorLine', WHERE WHAT IT READS IS OF BULK AT MOST 1048576: true; the input reads as it did. -/
def fnExactFactorLineUptoRow : OpenClaim := { program := "ytfmpcniehgipfaa", sum := "2512f1b2d32e0762e14a0d5093ee9b075e95a05bdc1dcdb0d009fed13d14bc65", func := "loop.example/polycircuits/laws.FnExactFactorLine", spec := "fnExactFactorLine", unfollowed := true, recurses := true, apart := false, narrowed := true }
def FnExactFactorLineUptoSaid : Prop := fnExactFactorLineUptoRow.holds Try.pinned (OpenSpec.upto fnExactFactorLineSpec)

/-- 'laws.FnExactPolyOfLine', WHERE WHAT IT READS IS OF BULK AT MOST 1048576: true; the input reads as it did. -/
def fnExactPolyOfLineUptoRow : OpenClaim := { program := "ytfmpcniehgipfaa", sum := "2512f1b2d32e0762e14a0d5093ee9b075e95a05bdc1dcdb0d009fed13d14bc65", func := "loop.example/polycircuits/laws.FnExactPolyOfLine", spec := "fnExactPolyOfLine", inPlace := ["slices.overlaps[loop.example/polycircuits/impl.Term]"], unfollowed := true, recurses := true, apart := false, narrowed := true }
def FnExactPolyOfLineUptoSaid : Prop := fnExactPolyOfLineUptoRow.holds Try.pinned (OpenSpec.upto fnExactPolyOfLineSpec)

/-- 'laws.FnDivideLine', WHERE WHAT IT READS IS OF BULK AT MOST 1048576: true; the input reads as it did. -/
def fnDivideLineUptoRow : OpenClaim := { program := "ytfmpcniehgipfaa", sum := "2512f1b2d32e0762e14a0d5093ee9b075e95a05bdc1dcdb0d009fed13d14bc65", func := "loop.example/polycircuits/laws.FnDivideLine", spec := "fnDivideLine", unfollowed := true, recurses := true, apart := false, narrowed := true }
def FnDivideLineUptoSaid : Prop := fnDivideLineUptoRow.holds Try.pinned (OpenSpec.upto fnDivideLineSpec)

/-- 'laws.FnMulLine', WHERE WHAT IT READS IS OF BULK AT MOST 1048576: true; the input reads as it did. -/
def fnMulLineUptoRow : OpenClaim := { program := "ytfmpcniehgipfaa", sum := "2512f1b2d32e0762e14a0d5093ee9b075e95a05bdc1dcdb0d009fed13d14bc65", func := "loop.example/polycircuits/laws.FnMulLine", spec := "fnMulLine", inPlace := ["slices.overlaps[loop.example/polycircuits/impl.Term]"], unfollowed := true, recurses := true, apart := false, narrowed := true }
def FnMulLineUptoSaid : Prop := fnMulLineUptoRow.holds Try.pinned (OpenSpec.upto fnMulLineSpec)

/-- 'laws.FnGcdLine', WHERE WHAT IT READS IS OF BULK AT MOST 1048576: true; the input reads as it did. -/
def fnGcdLineUptoRow : OpenClaim := { program := "ytfmpcniehgipfaa", sum := "2512f1b2d32e0762e14a0d5093ee9b075e95a05bdc1dcdb0d009fed13d14bc65", func := "loop.example/polycircuits/laws.FnGcdLine", spec := "fnGcdLine", unfollowed := true, recurses := true, apart := false, narrowed := true }
def FnGcdLineUptoSaid : Prop := fnGcdLineUptoRow.holds Try.pinned (OpenSpec.upto fnGcdLineSpec)

/-- 'laws.FnThroughPoints', WHERE WHAT IT READS IS OF BULK AT MOST 1048576: true; the input reads as it did. -/
def fnThroughPointsUptoRow : OpenClaim := { program := "ytfmpcniehgipfaa", sum := "2512f1b2d32e0762e14a0d5093ee9b075e95a05bdc1dcdb0d009fed13d14bc65", func := "loop.example/polycircuits/laws.FnThroughPoints", spec := "fnThroughPoints", unfollowed := true, recurses := true, apart := false, narrowed := true }
def FnThroughPointsUptoSaid : Prop := fnThroughPointsUptoRow.holds Try.pinned (OpenSpec.upto fnThroughPointsSpec)

/-- 'laws.FnZerosOf', WHERE WHAT IT READS IS OF BULK AT MOST 1048576: true; the input reads as it did. -/
def fnZerosOfUptoRow : OpenClaim := { program := "ytfmpcniehgipfaa", sum := "2512f1b2d32e0762e14a0d5093ee9b075e95a05bdc1dcdb0d009fed13d14bc65", func := "loop.example/polycircuits/laws.FnZerosOf", spec := "fnZerosOf", unfollowed := true, recurses := true, apart := false, narrowed := true }
def FnZerosOfUptoSaid : Prop := fnZerosOfUptoRow.holds Try.pinned (OpenSpec.upto fnZerosOfSpec)

/-- 'laws.FnFactorLine', WHERE WHAT IT READS IS OF BULK AT MOST 1048576: true; the input reads as it did. -/
def fnFactorLineUptoRow : OpenClaim := { program := "ytfmpcniehgipfaa", sum := "2512f1b2d32e0762e14a0d5093ee9b075e95a05bdc1dcdb0d009fed13d14bc65", func := "loop.example/polycircuits/laws.FnFactorLine", spec := "fnFactorLine", unfollowed := true, recurses := true, apart := false, narrowed := true }
def FnFactorLineUptoSaid : Prop := fnFactorLineUptoRow.holds Try.pinned (OpenSpec.upto fnFactorLineSpec)

end Rows
end Go.Proofs.Ytfmpcniehgipfaa
