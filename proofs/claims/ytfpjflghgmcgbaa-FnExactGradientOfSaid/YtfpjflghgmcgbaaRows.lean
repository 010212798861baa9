/-
  No cell of these rows narrows 'for every input' (looked for: loops, veiled, ifaces, maps, wideKeys, modest, calm, conditions, laid).
  DERIVED. THE GIVEN ROWS OF THIS SEAT. 10 by the template 'for every input the law returns true; each argument reads behind the call as it read before'; 0 by the template 'total and deterministic' (their statements: YtfpjflghgmcgbaaTotals.lean).
  GIVEN WITH THE SEED: the statements are not yours to turn. If you find one false, say at which input.
  Laid BY PROGRAM, IN A SANDBOX (cutbox-rows.mjs): the forced cells as the released guide's own fill.sh prints them over the translation 7fa8eb7d4aa45b2c… (all of the seat's roots in one cut). By AI agents, Wed Nov 11 2026. No macro, syntax, notation, axiom, sorry.
-/
import Derived.Test.YtfpjflghgmcgbaaChecked
import GoSem.Claim
import GoSem.ClaimJoined
import GoSem.ClaimMapViews
import Derived.JoinedTies
import Derived.KernelRfl
namespace Go.Proofs.Ytfpjflghgmcgbaa
/- THE CELL 'sum', in the pinned program and in every row, IS THE sha256 OF THE DUMP (.gsa) THAT YtfpjflghgmcgbaaProg.lean LOADS. Nothing in Lean hashes anything: it is a label: what it is worth is what the hold of that sum in a sandbox is worth. -/
noncomputable def Try.pinned : Pinned := { name := "ytfpjflghgmcgbaa", sum := "7fa8eb7d4aa45b2ce7637475bea9cab8199f64b228ec2543025479aba0264fa9", checked := Try.checked }
namespace Rows
def none {H : Type} : Left H := { results := [], args := [] }

/-- 'laws.FnGradient': WHATEVER THE INPUT: true; the input reads as it did. -/
def fnGradientSpec : ChangeSpec := { name := "fnGradient", fn := fun _ => fun
  | [d] => { results := [.lit (.bool true)], args := [d] }
  | _ => none }
def fnGradientRow : OpenClaim := { program := "ytfpjflghgmcgbaa", sum := "7fa8eb7d4aa45b2ce7637475bea9cab8199f64b228ec2543025479aba0264fa9", func := "loop.example/polycircuits/laws.FnGradient", spec := "fnGradient", inPlace := ["slices.overlaps[loop.example/polycircuits/impl.Term]"], unfollowed := true, recurses := true, apart := false }
def FnGradientSaid : Prop := fnGradientRow.holds Try.pinned (OpenSpec.ofChange fnGradientSpec)

/-- ITS FALSE NEIGHBOUR: 'it returns false'. Refute it at one input. -/
def fnGradientWrong : ChangeSpec := { name := "fnGradient", fn := fun _ => fun
  | [d] => { results := [.lit (.bool false)], args := [d] }
  | _ => none }
def FnGradientWrongFalsely : Prop := fnGradientRow.holds Try.pinned (OpenSpec.ofChange fnGradientWrong)

/-- 'laws.FnGradientAt': WHATEVER THE INPUT: true; the input reads as it did. -/
def fnGradientAtSpec : ChangeSpec := { name := "fnGradientAt", fn := fun _ => fun
  | [d] => { results := [.lit (.bool true)], args := [d] }
  | _ => none }
def fnGradientAtRow : OpenClaim := { program := "ytfpjflghgmcgbaa", sum := "7fa8eb7d4aa45b2ce7637475bea9cab8199f64b228ec2543025479aba0264fa9", func := "loop.example/polycircuits/laws.FnGradientAt", spec := "fnGradientAt", unfollowed := true, recurses := true, apart := false }
def FnGradientAtSaid : Prop := fnGradientAtRow.holds Try.pinned (OpenSpec.ofChange fnGradientAtSpec)

/-- ITS FALSE NEIGHBOUR: 'it returns false'. Refute it at one input. -/
def fnGradientAtWrong : ChangeSpec := { name := "fnGradientAt", fn := fun _ => fun
  | [d] => { results := [.lit (.bool false)], args := [d] }
  | _ => none }
def FnGradientAtWrongFalsely : Prop := fnGradientAtRow.holds Try.pinned (OpenSpec.ofChange fnGradientAtWrong)

/-- 'laws.FnGradientPolys': WHATEVER THE INPUT: true; the input reads as it did. -/
def fnGradientPolysSpec : ChangeSpec := { name := "fnGradientPolys", fn := fun _ => fun
  | [d1, d2] => { results := [.lit (.bool true)], args := [d1, d2] }
  | _ => none }
def fnGradientPolysRow : OpenClaim := { program := "ytfpjflghgmcgbaa", sum := "7fa8eb7d4aa45b2ce7637475bea9cab8199f64b228ec2543025479aba0264fa9", func := "loop.example/polycircuits/laws.FnGradientPolys", spec := "fnGradientPolys", inPlace := ["slices.overlaps[loop.example/polycircuits/impl.Term]"], unfollowed := true, recurses := true, apart := false }
def FnGradientPolysSaid : Prop := fnGradientPolysRow.holds Try.pinned (OpenSpec.ofChange fnGradientPolysSpec)

/-- ITS FALSE NEIGHBOUR: 'it returns false'. Refute it at one input. -/
def fnGradientPolysWrong : ChangeSpec := { name := "fnGradientPolys", fn := fun _ => fun
  | [d1, d2] => { results := [.lit (.bool false)], args := [d1, d2] }
  | _ => none }
def FnGradientPolysWrongFalsely : Prop := fnGradientPolysRow.holds Try.pinned (OpenSpec.ofChange fnGradientPolysWrong)

/-- 'laws.FnForwardOf': WHATEVER THE INPUT: true; the input reads as it did. -/
def fnForwardOfSpec : ChangeSpec := { name := "fnForwardOf", fn := fun _ => fun
  | [d1, d2] => { results := [.lit (.bool true)], args := [d1, d2] }
  | _ => none }
def fnForwardOfRow : OpenClaim := { program := "ytfpjflghgmcgbaa", sum := "7fa8eb7d4aa45b2ce7637475bea9cab8199f64b228ec2543025479aba0264fa9", func := "loop.example/polycircuits/laws.FnForwardOf", spec := "fnForwardOf", inPlace := ["slices.overlaps[loop.example/polycircuits/impl.Term]"], unfollowed := true, recurses := true, apart := false }
def FnForwardOfSaid : Prop := fnForwardOfRow.holds Try.pinned (OpenSpec.ofChange fnForwardOfSpec)

/-- ITS FALSE NEIGHBOUR: 'it returns false'. Refute it at one input. -/
def fnForwardOfWrong : ChangeSpec := { name := "fnForwardOf", fn := fun _ => fun
  | [d1, d2] => { results := [.lit (.bool false)], args := [d1, d2] }
  | _ => none }
def FnForwardOfWrongFalsely : Prop := fnForwardOfRow.holds Try.pinned (OpenSpec.ofChange fnForwardOfWrong)

/-- 'laws.FnExactGradientOf': WHATEVER THE INPUT: true; the input reads as it did. -/
def fnExactGradientOfSpec : ChangeSpec := { name := "fnExactGradientOf", fn := fun _ => fun
  | [d1, d2] => { results := [.lit (.bool true)], args := [d1, d2] }
  | _ => none }
def fnExactGradientOfRow : OpenClaim := { program := "ytfpjflghgmcgbaa", sum := "7fa8eb7d4aa45b2ce7637475bea9cab8199f64b228ec2543025479aba0264fa9", func := "loop.example/polycircuits/laws.FnExactGradientOf", spec := "fnExactGradientOf", unfollowed := true, recurses := true, apart := false }
def FnExactGradientOfSaid : Prop := fnExactGradientOfRow.holds Try.pinned (OpenSpec.ofChange fnExactGradientOfSpec)

/-- ITS FALSE NEIGHBOUR: 'it returns false'. Refute it at one input. -/
def fnExactGradientOfWrong : ChangeSpec := { name := "fnExactGradientOf", fn := fun _ => fun
  | [d1, d2] => { results := [.lit (.bool false)], args := [d1, d2] }
  | _ => none }
def FnExactGradientOfWrongFalsely : Prop := fnExactGradientOfRow.holds Try.pinned (OpenSpec.ofChange fnExactGradientOfWrong)

/-- 'laws.FnExactGradientPolys': WHATEVER THE INPUT: true; the input reads as it did. -/
def fnExactGradientPolysSpec : ChangeSpec := { name := "fnExactGradientPolys", fn := fun _ => fun
  | [d1, d2] => { results := [.lit (.bool true)], args := [d1, d2] }
  | _ => none }
def fnExactGradientPolysRow : OpenClaim := { program := "ytfpjflghgmcgbaa", sum := "7fa8eb7d4aa45b2ce7637475bea9cab8199f64b228ec2543025479aba0264fa9", func := "loop.example/polycircuits/laws.FnExactGradientPolys", spec := "fnExactGradientPolys", inPlace := ["slices.overlaps[loop.example/polycircuits/impl.Term]"], unfollowed := true, recurses := true, apart := false }
def FnExactGradientPolysSaid : Prop := fnExactGradientPolysRow.holds Try.pinned (OpenSpec.ofChange fnExactGradientPolysSpec)

/-- ITS FALSE NEIGHBOUR: 'it returns false'. Refute it at one input. -/
def fnExactGradientPolysWrong : ChangeSpec := { name := "fnExactGradientPolys", fn := fun _ => fun
  | [d1, d2] => { results := [.lit (.bool false)], args := [d1, d2] }
  | _ => none }
def FnExactGradientPolysWrongFalsely : Prop := fnExactGradientPolysRow.holds Try.pinned (OpenSpec.ofChange fnExactGradientPolysWrong)

/-- 'laws.FnExactGradientAt': WHATEVER THE INPUT: true; the input reads as it did. -/
def fnExactGradientAtSpec : ChangeSpec := { name := "fnExactGradientAt", fn := fun _ => fun
  | [d1, d2, d3] => { results := [.lit (.bool true)], args := [d1, d2, d3] }
  | _ => none }
def fnExactGradientAtRow : OpenClaim := { program := "ytfpjflghgmcgbaa", sum := "7fa8eb7d4aa45b2ce7637475bea9cab8199f64b228ec2543025479aba0264fa9", func := "loop.example/polycircuits/laws.FnExactGradientAt", spec := "fnExactGradientAt", apart := false }
def FnExactGradientAtSaid : Prop := fnExactGradientAtRow.holds Try.pinned (OpenSpec.ofChange fnExactGradientAtSpec)

/-- ITS FALSE NEIGHBOUR: 'it returns false'. Refute it at one input. -/
def fnExactGradientAtWrong : ChangeSpec := { name := "fnExactGradientAt", fn := fun _ => fun
  | [d1, d2, d3] => { results := [.lit (.bool false)], args := [d1, d2, d3] }
  | _ => none }
def FnExactGradientAtWrongFalsely : Prop := fnExactGradientAtRow.holds Try.pinned (OpenSpec.ofChange fnExactGradientAtWrong)

/-- 'laws.FnExactGradientValid': WHATEVER THE INPUT: true; the input reads as it did. -/
def fnExactGradientValidSpec : ChangeSpec := { name := "fnExactGradientValid", fn := fun _ => fun
  | [d1, d2] => { results := [.lit (.bool true)], args := [d1, d2] }
  | _ => none }
def fnExactGradientValidRow : OpenClaim := { program := "ytfpjflghgmcgbaa", sum := "7fa8eb7d4aa45b2ce7637475bea9cab8199f64b228ec2543025479aba0264fa9", func := "loop.example/polycircuits/laws.FnExactGradientValid", spec := "fnExactGradientValid", apart := false }
def FnExactGradientValidSaid : Prop := fnExactGradientValidRow.holds Try.pinned (OpenSpec.ofChange fnExactGradientValidSpec)

/-- ITS FALSE NEIGHBOUR: 'it returns false'. Refute it at one input. -/
def fnExactGradientValidWrong : ChangeSpec := { name := "fnExactGradientValid", fn := fun _ => fun
  | [d1, d2] => { results := [.lit (.bool false)], args := [d1, d2] }
  | _ => none }
def FnExactGradientValidWrongFalsely : Prop := fnExactGradientValidRow.holds Try.pinned (OpenSpec.ofChange fnExactGradientValidWrong)

/-- 'laws.FnExactForwardOf': WHATEVER THE INPUT: true; the input reads as it did. -/
def fnExactForwardOfSpec : ChangeSpec := { name := "fnExactForwardOf", fn := fun _ => fun
  | [d1, d2, d3] => { results := [.lit (.bool true)], args := [d1, d2, d3] }
  | _ => none }
def fnExactForwardOfRow : OpenClaim := { program := "ytfpjflghgmcgbaa", sum := "7fa8eb7d4aa45b2ce7637475bea9cab8199f64b228ec2543025479aba0264fa9", func := "loop.example/polycircuits/laws.FnExactForwardOf", spec := "fnExactForwardOf", unfollowed := true, recurses := true, apart := false }
def FnExactForwardOfSaid : Prop := fnExactForwardOfRow.holds Try.pinned (OpenSpec.ofChange fnExactForwardOfSpec)

/-- ITS FALSE NEIGHBOUR: 'it returns false'. Refute it at one input. -/
def fnExactForwardOfWrong : ChangeSpec := { name := "fnExactForwardOf", fn := fun _ => fun
  | [d1, d2, d3] => { results := [.lit (.bool false)], args := [d1, d2, d3] }
  | _ => none }
def FnExactForwardOfWrongFalsely : Prop := fnExactForwardOfRow.holds Try.pinned (OpenSpec.ofChange fnExactForwardOfWrong)

/-- 'laws.FnExactForwardAt': WHATEVER THE INPUT: true; the input reads as it did. -/
def fnExactForwardAtSpec : ChangeSpec := { name := "fnExactForwardAt", fn := fun _ => fun
  | [d1, d2, d3, d4] => { results := [.lit (.bool true)], args := [d1, d2, d3, d4] }
  | _ => none }
def fnExactForwardAtRow : OpenClaim := { program := "ytfpjflghgmcgbaa", sum := "7fa8eb7d4aa45b2ce7637475bea9cab8199f64b228ec2543025479aba0264fa9", func := "loop.example/polycircuits/laws.FnExactForwardAt", spec := "fnExactForwardAt", apart := false }
def FnExactForwardAtSaid : Prop := fnExactForwardAtRow.holds Try.pinned (OpenSpec.ofChange fnExactForwardAtSpec)

/-- ITS FALSE NEIGHBOUR: 'it returns false'. Refute it at one input. -/
def fnExactForwardAtWrong : ChangeSpec := { name := "fnExactForwardAt", fn := fun _ => fun
  | [d1, d2, d3, d4] => { results := [.lit (.bool false)], args := [d1, d2, d3, d4] }
  | _ => none }
def FnExactForwardAtWrongFalsely : Prop := fnExactForwardAtRow.holds Try.pinned (OpenSpec.ofChange fnExactForwardAtWrong)

/- THE SECOND FORM. 'bulk': how many values and letters a reading holds, each counted each time it is reached (what is shared counts as often as it is met; a slice's spare places count too). A statement '..UptoSaid' is the law's where the arguments, and the package variables that the reading takes, are together of bulk at most 1048576: NARROWER than '..Said'. Prove '..Said' where nothing that the law and all that it calls make is longer than what came in: it says more and counts as full. Else prove '..UptoSaid'. A law counts once. -/
mutual
def uptoBulk {H : Type} : DataW H → Nat
  | .lit (.string bytes) => bytes.length + 1
  | .lit _ => 1
  | .nil => 1
  | .ptr d => uptoBulk d + 1
  | .slice elems spare => uptoBulkAll elems + uptoBulkAll spare + 1
  | .agg parts => uptoBulkAll parts + 1
  | .iface _ d => uptoBulk d + 1
  | .map entries => uptoBulkEntries entries + 1
  | .held _ => 1
def uptoBulkAll {H : Type} : List (DataW H) → Nat
  | [] => 0
  | d :: r => uptoBulk d + uptoBulkAll r
def uptoBulkEntries {H : Type} : List (Lit × DataW H) → Nat
  | [] => 0
  | x :: r => uptoBulkEntry x + uptoBulkEntries r
def uptoBulkEntry {H : Type} : Lit × DataW H → Nat
  | (.string bytes, d) => bytes.length + uptoBulk d + 1
  | (_, d) => uptoBulk d + 1
 end
def uptoSmall : (H : Type) → List (DataW H) → Bool := fun _ ds => decide (uptoBulkAll ds ≤ 1048576)
def OpenSpec.upto (s : _root_.Go.ChangeSpec) : _root_.Go.OpenSpec := { _root_.Go.OpenSpec.ofChange s with cond := some uptoSmall }

/-- 'laws.FnGradient', WHERE WHAT IT READS IS OF BULK AT MOST 1048576: true; the input reads as it did. -/
def fnGradientUptoRow : OpenClaim := { program := "ytfpjflghgmcgbaa", sum := "7fa8eb7d4aa45b2ce7637475bea9cab8199f64b228ec2543025479aba0264fa9", func := "loop.example/polycircuits/laws.FnGradient", spec := "fnGradient", inPlace := ["slices.overlaps[loop.example/polycircuits/impl.Term]"], unfollowed := true, recurses := true, apart := false, narrowed := true }
def FnGradientUptoSaid : Prop := fnGradientUptoRow.holds Try.pinned (OpenSpec.upto fnGradientSpec)

/-- 'laws.FnGradientAt', WHERE WHAT IT READS IS OF BULK AT MOST 1048576: true; the input reads as it did. -/
def fnGradientAtUptoRow : OpenClaim := { program := "ytfpjflghgmcgbaa", sum := "7fa8eb7d4aa45b2ce7637475bea9cab8199f64b228ec2543025479aba0264fa9", func := "loop.example/polycircuits/laws.FnGradientAt", spec := "fnGradientAt", unfollowed := true, recurses := true, apart := false, narrowed := true }
def FnGradientAtUptoSaid : Prop := fnGradientAtUptoRow.holds Try.pinned (OpenSpec.upto fnGradientAtSpec)

/-- 'laws.FnGradientPolys', WHERE WHAT IT READS IS OF BULK AT MOST 1048576: true; the input reads as it did. -/
def fnGradientPolysUptoRow : OpenClaim := { program := "ytfpjflghgmcgbaa", sum := "7fa8eb7d4aa45b2ce7637475bea9cab8199f64b228ec2543025479aba0264fa9", func := "loop.example/polycircuits/laws.FnGradientPolys", spec := "fnGradientPolys", inPlace := ["slices.overlaps[loop.example/polycircuits/impl.Term]"], unfollowed := true, recurses := true, apart := false, narrowed := true }
def FnGradientPolysUptoSaid : Prop := fnGradientPolysUptoRow.holds Try.pinned (OpenSpec.upto fnGradientPolysSpec)

/-- 'laws.FnForwardOf', WHERE WHAT IT READS IS OF BULK AT MOST 1048576: true; the input reads as it did. -/
def fnForwardOfUptoRow : OpenClaim := { program := "ytfpjflghgmcgbaa", sum := "7fa8eb7d4aa45b2ce7637475bea9cab8199f64b228ec2543025479aba0264fa9", func := "loop.example/polycircuits/laws.FnForwardOf", spec := "fnForwardOf", inPlace := ["slices.overlaps[loop.example/polycircuits/impl.Term]"], unfollowed := true, recurses := true, apart := false, narrowed := true }
def FnForwardOfUptoSaid : Prop := fnForwardOfUptoRow.holds Try.pinned (OpenSpec.upto fnForwardOfSpec)

/-- 'laws.FnExactGradientOf', WHERE WHAT IT READS IS OF BULK AT MOST 1048576: true; the input reads as it did. -/
def fnExactGradientOfUptoRow : OpenClaim := { program := "ytfpjflghgmcgbaa", sum := "7fa8eb7d4aa45b2ce7637475bea9cab8199f64b228ec2543025479aba0264fa9", func := "loop.example/polycircuits/laws.FnExactGradientOf", spec := "fnExactGradientOf", unfollowed := true, recurses := true, apart := false, narrowed := true }
def FnExactGradientOfUptoSaid : Prop := fnExactGradientOfUptoRow.holds Try.pinned (OpenSpec.upto fnExactGradientOfSpec)

/-- 'laws.FnExactGradientPolys', WHERE WHAT IT READS IS OF BULK AT MOST 1048576: true; the input reads as it did. -/
def fnExactGradientPolysUptoRow : OpenClaim := { program := "ytfpjflghgmcgbaa", sum := "7fa8eb7d4aa45b2ce7637475bea9cab8199f64b228ec2543025479aba0264fa9", func := "loop.example/polycircuits/laws.FnExactGradientPolys", spec := "fnExactGradientPolys", inPlace := ["slices.overlaps[loop.example/polycircuits/impl.Term]"], unfollowed := true, recurses := true, apart := false, narrowed := true }
def FnExactGradientPolysUptoSaid : Prop := fnExactGradientPolysUptoRow.holds Try.pinned (OpenSpec.upto fnExactGradientPolysSpec)

/-- 'laws.FnExactGradientAt', WHERE WHAT IT READS IS OF BULK AT MOST 1048576: true; the input reads as it did. -/
def fnExactGradientAtUptoRow : OpenClaim := { program := "ytfpjflghgmcgbaa", sum := "7fa8eb7d4aa45b2ce7637475bea9cab8199f64b228ec2543025479aba0264fa9", func := "loop.example/polycircuits/laws.FnExactGradientAt", spec := "fnExactGradientAt", apart := false, narrowed := true }
def FnExactGradientAtUptoSaid : Prop := fnExactGradientAtUptoRow.holds Try.pinned (OpenSpec.upto fnExactGradientAtSpec)

/-- 'laws.FnExactGradientValid', WHERE WHAT IT READS IS OF BULK AT MOST 1048576: true; the input reads as it did. -/
def fnExactGradientValidUptoRow : OpenClaim := { program := "ytfpjflghgmcgbaa", sum := "7fa8eb7d4aa45b2ce7637475bea9cab8199f64b228ec2543025479aba0264fa9", func := "loop.example/polycircuits/laws.FnExactGradientValid", spec := "fnExactGradientValid", apart := false, narrowed := true }
def FnExactGradientValidUptoSaid : Prop := fnExactGradientValidUptoRow.holds Try.pinned (OpenSpec.upto fnExactGradientValidSpec)

/-- 'laws.FnExactForwardOf', WHERE WHAT IT READS IS OF BULK AT MOST 1048576: true; the input reads as it did. -/
def fnExactForwardOfUptoRow : OpenClaim := { program := "ytfpjflghgmcgbaa", sum := "7fa8eb7d4aa45b2ce7637475bea9cab8199f64b228ec2543025479aba0264fa9", func := "loop.example/polycircuits/laws.FnExactForwardOf", spec := "fnExactForwardOf", unfollowed := true, recurses := true, apart := false, narrowed := true }
def FnExactForwardOfUptoSaid : Prop := fnExactForwardOfUptoRow.holds Try.pinned (OpenSpec.upto fnExactForwardOfSpec)

/-- 'laws.FnExactForwardAt', WHERE WHAT IT READS IS OF BULK AT MOST 1048576: true; the input reads as it did. -/
def fnExactForwardAtUptoRow : OpenClaim := { program := "ytfpjflghgmcgbaa", sum := "7fa8eb7d4aa45b2ce7637475bea9cab8199f64b228ec2543025479aba0264fa9", func := "loop.example/polycircuits/laws.FnExactForwardAt", spec := "fnExactForwardAt", apart := false, narrowed := true }
def FnExactForwardAtUptoSaid : Prop := fnExactForwardAtUptoRow.holds Try.pinned (OpenSpec.upto fnExactForwardAtSpec)

end Rows
end Go.Proofs.Ytfpjflghgmcgbaa
