/-
  No cell of these rows narrows 'for every input' (looked for: loops, veiled, ifaces, maps, wideKeys, modest, calm, conditions, laid).
  DERIVED. THE GIVEN ROWS OF THIS SEAT. 6 by the template 'for every input the law returns true; each argument reads behind the call as it read before'; 0 by the template 'total and deterministic' (their statements: YtmndcdcjjihecaaTotals.lean).
  GIVEN WITH THE SEED: the statements are not yours to turn. If you find one false, say at which input.
  Laid BY PROGRAM, IN A SANDBOX (cutbox-rows.mjs): the forced cells as the released guide's own fill.sh prints them over the translation 823ec9760b06278c… (all of the seat's roots in one cut). By AI agents, Wed Nov 11 2026. No macro, syntax, notation, axiom, sorry.
-/
import Derived.Test.YtmndcdcjjihecaaChecked
import GoSem.Claim
import GoSem.ClaimJoined
import GoSem.ClaimMapViews
import Derived.JoinedTies
import Derived.KernelRfl
namespace Go.Proofs.Ytmndcdcjjihecaa
/- THE CELL 'sum', in the pinned program and in every row, IS THE sha256 OF THE DUMP (.gsa) THAT YtmndcdcjjihecaaProg.lean LOADS. Nothing in Lean hashes anything: it is a label: what it is worth is what the hold of that sum in a sandbox is worth. -/
noncomputable def Try.pinned : Pinned := { name := "ytmndcdcjjihecaa", sum := "823ec9760b06278c0c6628a97da5d9554612846c02b433760d8ff748c1c90217", checked := Try.checked }
namespace Rows
def none {H : Type} : Left H := { results := [], args := [] }

/-- 'laws.FnExactReducePoly': WHATEVER THE INPUT: true; the input reads as it did. -/
def fnExactReducePolySpec : ChangeSpec := { name := "fnExactReducePoly", fn := fun _ => fun
  | [d1, d2] => { results := [.lit (.bool true)], args := [d1, d2] }
  | _ => none }
def fnExactReducePolyRow : OpenClaim := { program := "ytmndcdcjjihecaa", sum := "823ec9760b06278c0c6628a97da5d9554612846c02b433760d8ff748c1c90217", func := "loop.example/polycircuits/laws.FnExactReducePoly", spec := "fnExactReducePoly", inPlace := ["slices.overlaps[loop.example/polycircuits/impl.Term]"], unfollowed := true, recurses := true, apart := false }
def FnExactReducePolySaid : Prop := fnExactReducePolyRow.holds Try.pinned (OpenSpec.ofChange fnExactReducePolySpec)

/-- ITS FALSE NEIGHBOUR: 'it returns false'. Refute it at one input. -/
def fnExactReducePolyWrong : ChangeSpec := { name := "fnExactReducePoly", fn := fun _ => fun
  | [d1, d2] => { results := [.lit (.bool false)], args := [d1, d2] }
  | _ => none }
def FnExactReducePolyWrongFalsely : Prop := fnExactReducePolyRow.holds Try.pinned (OpenSpec.ofChange fnExactReducePolyWrong)

/-- 'laws.FnExactSameValues': WHATEVER THE INPUT: true; the input reads as it did. -/
def fnExactSameValuesSpec : ChangeSpec := { name := "fnExactSameValues", fn := fun _ => fun
  | [d1, d2, d3] => { results := [.lit (.bool true)], args := [d1, d2, d3] }
  | _ => none }
def fnExactSameValuesRow : OpenClaim := { program := "ytmndcdcjjihecaa", sum := "823ec9760b06278c0c6628a97da5d9554612846c02b433760d8ff748c1c90217", func := "loop.example/polycircuits/laws.FnExactSameValues", spec := "fnExactSameValues", inPlace := ["slices.overlaps[loop.example/polycircuits/impl.Term]"], unfollowed := true, recurses := true, apart := false }
def FnExactSameValuesSaid : Prop := fnExactSameValuesRow.holds Try.pinned (OpenSpec.ofChange fnExactSameValuesSpec)

/-- ITS FALSE NEIGHBOUR: 'it returns false'. Refute it at one input. -/
def fnExactSameValuesWrong : ChangeSpec := { name := "fnExactSameValues", fn := fun _ => fun
  | [d1, d2, d3] => { results := [.lit (.bool false)], args := [d1, d2, d3] }
  | _ => none }
def FnExactSameValuesWrongFalsely : Prop := fnExactSameValuesRow.holds Try.pinned (OpenSpec.ofChange fnExactSameValuesWrong)

/-- 'laws.FnExactZeroBound': WHATEVER THE INPUT: true; the input reads as it did. -/
def fnExactZeroBoundSpec : ChangeSpec := { name := "fnExactZeroBound", fn := fun _ => fun
  | [d1, d2] => { results := [.lit (.bool true)], args := [d1, d2] }
  | _ => none }
def fnExactZeroBoundRow : OpenClaim := { program := "ytmndcdcjjihecaa", sum := "823ec9760b06278c0c6628a97da5d9554612846c02b433760d8ff748c1c90217", func := "loop.example/polycircuits/laws.FnExactZeroBound", spec := "fnExactZeroBound", apart := false }
def FnExactZeroBoundSaid : Prop := fnExactZeroBoundRow.holds Try.pinned (OpenSpec.ofChange fnExactZeroBoundSpec)

/-- ITS FALSE NEIGHBOUR: 'it returns false'. Refute it at one input. -/
def fnExactZeroBoundWrong : ChangeSpec := { name := "fnExactZeroBound", fn := fun _ => fun
  | [d1, d2] => { results := [.lit (.bool false)], args := [d1, d2] }
  | _ => none }
def FnExactZeroBoundWrongFalsely : Prop := fnExactZeroBoundRow.holds Try.pinned (OpenSpec.ofChange fnExactZeroBoundWrong)

/-- 'laws.FnExactFirstNonzero': WHATEVER THE INPUT: true; the input reads as it did. -/
def fnExactFirstNonzeroSpec : ChangeSpec := { name := "fnExactFirstNonzero", fn := fun _ => fun
  | [d1, d2] => { results := [.lit (.bool true)], args := [d1, d2] }
  | _ => none }
def fnExactFirstNonzeroRow : OpenClaim := { program := "ytmndcdcjjihecaa", sum := "823ec9760b06278c0c6628a97da5d9554612846c02b433760d8ff748c1c90217", func := "loop.example/polycircuits/laws.FnExactFirstNonzero", spec := "fnExactFirstNonzero", unfollowed := true, recurses := true, apart := false }
def FnExactFirstNonzeroSaid : Prop := fnExactFirstNonzeroRow.holds Try.pinned (OpenSpec.ofChange fnExactFirstNonzeroSpec)

/-- ITS FALSE NEIGHBOUR: 'it returns false'. Refute it at one input. -/
def fnExactFirstNonzeroWrong : ChangeSpec := { name := "fnExactFirstNonzero", fn := fun _ => fun
  | [d1, d2] => { results := [.lit (.bool false)], args := [d1, d2] }
  | _ => none }
def FnExactFirstNonzeroWrongFalsely : Prop := fnExactFirstNonzeroRow.holds Try.pinned (OpenSpec.ofChange fnExactFirstNonzeroWrong)

/-- 'laws.FnExactTellApart': WHATEVER THE INPUT: true; the input reads as it did. -/
def fnExactTellApartSpec : ChangeSpec := { name := "fnExactTellApart", fn := fun _ => fun
  | [d1, d2, d3] => { results := [.lit (.bool true)], args := [d1, d2, d3] }
  | _ => none }
def fnExactTellApartRow : OpenClaim := { program := "ytmndcdcjjihecaa", sum := "823ec9760b06278c0c6628a97da5d9554612846c02b433760d8ff748c1c90217", func := "loop.example/polycircuits/laws.FnExactTellApart", spec := "fnExactTellApart", unfollowed := true, recurses := true, apart := false }
def FnExactTellApartSaid : Prop := fnExactTellApartRow.holds Try.pinned (OpenSpec.ofChange fnExactTellApartSpec)

/-- ITS FALSE NEIGHBOUR: 'it returns false'. Refute it at one input. -/
def fnExactTellApartWrong : ChangeSpec := { name := "fnExactTellApart", fn := fun _ => fun
  | [d1, d2, d3] => { results := [.lit (.bool false)], args := [d1, d2, d3] }
  | _ => none }
def FnExactTellApartWrongFalsely : Prop := fnExactTellApartRow.holds Try.pinned (OpenSpec.ofChange fnExactTellApartWrong)

/-- 'laws.FnExactPointAt': WHATEVER THE INPUT: true; the input reads as it did. -/
def fnExactPointAtSpec : ChangeSpec := { name := "fnExactPointAt", fn := fun _ => fun
  | [d1, d2] => { results := [.lit (.bool true)], args := [d1, d2] }
  | _ => none }
def fnExactPointAtRow : OpenClaim := { program := "ytmndcdcjjihecaa", sum := "823ec9760b06278c0c6628a97da5d9554612846c02b433760d8ff748c1c90217", func := "loop.example/polycircuits/laws.FnExactPointAt", spec := "fnExactPointAt", apart := false }
def FnExactPointAtSaid : Prop := fnExactPointAtRow.holds Try.pinned (OpenSpec.ofChange fnExactPointAtSpec)

/-- ITS FALSE NEIGHBOUR: 'it returns false'. Refute it at one input. -/
def fnExactPointAtWrong : ChangeSpec := { name := "fnExactPointAt", fn := fun _ => fun
  | [d1, d2] => { results := [.lit (.bool false)], args := [d1, d2] }
  | _ => none }
def FnExactPointAtWrongFalsely : Prop := fnExactPointAtRow.holds Try.pinned (OpenSpec.ofChange fnExactPointAtWrong)

/- THE SECOND FORM. 'bulk': how many values and letters a reading holds, each counted each time it is reached (what is shared counts as often as it is met; a slice's spare places count too). A statement '..UptoSaid' is the law's where the arguments, and the package variables that the reading takes, are together of bulk at most 1048576: NARROWER than '..Said'. Prove '..Said' where nothing that the law and all that it calls make is longer than what came in: it says more and counts as full. Else prove '..UptoSaid'. A law counts once. -/
mutual
def uptoBulk {H : Type} : DataW H → Nat
  | .lit (.string bytes) => bytes.length + 1
  | .lit _ => 1
  | .nil => 1
  | .ptr d => uptoBulk d + 1
  | .slice elems spare => uptoBulkAll elems + uptoBulkAll spare + 1
  | .agg parts => uptoBulkAll parts + 1
  | .iface _ d => uptoBulk d + 1
  | .map entries => uptoBulkEntries entries + 1
  | .held _ => 1
def uptoBulkAll {H : Type} : List (DataW H) → Nat
  | [] => 0
  | d :: r => uptoBulk d + uptoBulkAll r
def uptoBulkEntries {H : Type} : List (Lit × DataW H) → Nat
  | [] => 0
  | x :: r => uptoBulkEntry x + uptoBulkEntries r
def uptoBulkEntry {H : Type} : Lit × DataW H → Nat
  | (.string bytes, d) => bytes.length + uptoBulk d + 1
  | (_, d) => uptoBulk d + 1
 end
def uptoSmall : (H : Type) → List (DataW H) → Bool := fun _ ds => decide (uptoBulkAll ds ≤ 1048576)
def OpenSpec.upto (s : _root_.Go.ChangeSpec) : _root_.Go.OpenSpec := { _root_.Go.OpenSpec.ofChange s with cond := some uptoSmall }

/-- 'laws.FnExactReducePoly', WHERE WHAT IT READS IS OF BULK AT MOST 1048576: true; the input reads as it did. -/
def fnExactReducePolyUptoRow : OpenClaim := { program := "ytmndcdcjjihecaa", sum := "823ec9760b06278c0c6628a97da5d9554612846c02b433760d8ff748c1c90217", func := "loop.example/polycircuits/laws.FnExactReducePoly", spec := "fnExactReducePoly", inPlace := ["slices.overlaps[loop.example/polycircuits/impl.Term]"], unfollowed := true, recurses := true, apart := false, narrowed := true }
def FnExactReducePolyUptoSaid : Prop := fnExactReducePolyUptoRow.holds Try.pinned (OpenSpec.upto fnExactReducePolySpec)

/-- 'laws.FnExactSameValues', WHERE WHAT IT READS IS OF BULK AT MOST 1048576: true; the input reads as it did. -/
def fnExactSameValuesUptoRow : OpenClaim := { program := "ytmndcdcjjihecaa", sum := "823ec9760b06278c0c6628a97da5d9554612846c02b433760d8ff748c1c90217", func := "loop.example/polycircuits/laws.FnExactSameValues", spec := "fnExactSameValues", inPlace := ["slices.overlaps[loop.example/polycircuits/impl.Term]"], unfollowed := true, recurses := true, apart := false, narrowed := true }
def FnExactSameValuesUptoSaid : Prop := fnExactSameValuesUptoRow.holds Try.pinned (OpenSpec.upto fnExactSameValuesSpec)

/-- 'laws.FnExactZeroBound', WHERE WHAT IT READS IS OF BULK AT MOST 1048576: true; the input reads as it did. -/
def fnExactZeroBoundUptoRow : OpenClaim := { program := "ytmndcdcjjihecaa", sum := "823ec9760b06278c0c6628a97da5d9554612846c02b433760d8ff748c1c90217", func := "loop.example/polycircuits/laws.FnExactZeroBound", spec := "fnExactZeroBound", apart := false, narrowed := true }
def FnExactZeroBoundUptoSaid : Prop := fnExactZeroBoundUptoRow.holds Try.pinned (OpenSpec.upto fnExactZeroBoundSpec)

/-- 'laws.FnExactFirstNonzero', WHERE WHAT IT READS IS OF BULK AT MOST 1048576: true; the input reads as it did. -/
def fnExactFirstNonzeroUptoRow : OpenClaim := { program := "ytmndcdcjjihecaa", sum := "823ec9760b06278c0c6628a97da5d9554612846c02b433760d8ff748c1c90217", func := "loop.example/polycircuits/laws.FnExactFirstNonzero", spec := "fnExactFirstNonzero", unfollowed := true, recurses := true, apart := false, narrowed := true }
def FnExactFirstNonzeroUptoSaid : Prop := fnExactFirstNonzeroUptoRow.holds Try.pinned (OpenSpec.upto fnExactFirstNonzeroSpec)

/-- 'laws.FnExactTellApart', WHERE WHAT IT READS IS OF BULK AT MOST 1048576: true; the input reads as it did. -/
def fnExactTellApartUptoRow : OpenClaim := { program := "ytmndcdcjjihecaa", sum := "823ec9760b06278c0c6628a97da5d9554612846c02b433760d8ff748c1c90217", func := "loop.example/polycircuits/laws.FnExactTellApart", spec := "fnExactTellApart", unfollowed := true, recurses := true, apart := false, narrowed := true }
def FnExactTellApartUptoSaid : Prop := fnExactTellApartUptoRow.holds Try.pinned (OpenSpec.upto fnExactTellApartSpec)

/-- 'laws.FnExactPointAt', WHERE WHAT IT READS IS OF BULK AT MOST 1048576: true; the input reads as it did. -/
def fnExactPointAtUptoRow : OpenClaim := { program := "ytmndcdcjjihecaa", sum := "823ec9760b06278c0c6628a97da5d9554612846c02b433760d8ff748c1c90217", func := "loop.example/polycircuits/laws.FnExactPointAt", spec := "fnExactPointAt", apart := false, narrowed := true }
def FnExactPointAtUptoSaid : Prop := fnExactPointAtUptoRow.holds Try.pinned (OpenSpec.upto fnExactPointAtSpec)

end Rows
end Go.Proofs.Ytmndcdcjjihecaa
