/-
  No cell of these rows narrows 'for every input' (looked for: loops, veiled, ifaces, maps, wideKeys, modest, calm, conditions, laid).
  DERIVED. THE GIVEN ROWS OF THIS SEAT. 14 by the template 'for every input the law returns true; each argument reads behind the call as it read before'; 0 by the template 'total and deterministic' (their statements: YtajabchbdhjdiaaTotals.lean).
  GIVEN WITH THE SEED: the statements are not yours to turn. If you find one false, say at which input.
  Laid BY PROGRAM, IN A SANDBOX (cutbox-rows.mjs): the forced cells as the released guide's own fill.sh prints them over the translation 9e4abbb093375dbb… (all of the seat's roots in one cut). By AI agents, Wed Nov 11 2026. No macro, syntax, notation, axiom, sorry.
-/
import Derived.Test.YtajabchbdhjdiaaChecked
import GoSem.Claim
import GoSem.ClaimJoined
import GoSem.ClaimMapViews
import Derived.JoinedTies
import Derived.KernelRfl
namespace Go.Proofs.Ytajabchbdhjdiaa
/- THE CELL 'sum', in the pinned program and in every row, IS THE sha256 OF THE DUMP (.gsa) THAT YtajabchbdhjdiaaProg.lean LOADS. Nothing in Lean hashes anything: it is a label: what it is worth is what the hold of that sum in a sandbox is worth. -/
noncomputable def Try.pinned : Pinned := { name := "ytajabchbdhjdiaa", sum := "9e4abbb093375dbbe3a259c8b942ba2dd06390e50bfae903f0829d8eb531e7c3", checked := Try.checked }
namespace Rows
def none {H : Type} : Left H := { results := [], args := [] }

/-- 'laws.FnExactValuesOf': WHATEVER THE INPUT: true; the input reads as it did. -/
def fnExactValuesOfSpec : ChangeSpec := { name := "fnExactValuesOf", fn := fun _ => fun
  | [d1, d2] => { results := [.lit (.bool true)], args := [d1, d2] }
  | _ => none }
def fnExactValuesOfRow : OpenClaim := { program := "ytajabchbdhjdiaa", sum := "9e4abbb093375dbbe3a259c8b942ba2dd06390e50bfae903f0829d8eb531e7c3", func := "loop.example/polycircuits/laws.FnExactValuesOf", spec := "fnExactValuesOf", unfollowed := true, recurses := true, apart := false }
def FnExactValuesOfSaid : Prop := fnExactValuesOfRow.holds Try.pinned (OpenSpec.ofChange fnExactValuesOfSpec)

/-- ITS FALSE NEIGHBOUR: 'it returns false'. Refute it at one input. -/
def fnExactValuesOfWrong : ChangeSpec := { name := "fnExactValuesOf", fn := fun _ => fun
  | [d1, d2] => { results := [.lit (.bool false)], args := [d1, d2] }
  | _ => none }
def FnExactValuesOfWrongFalsely : Prop := fnExactValuesOfRow.holds Try.pinned (OpenSpec.ofChange fnExactValuesOfWrong)

/-- 'laws.FnExactPolyOfValues': WHATEVER THE INPUT: true; the input reads as it did. -/
def fnExactPolyOfValuesSpec : ChangeSpec := { name := "fnExactPolyOfValues", fn := fun _ => fun
  | [d1, d2] => { results := [.lit (.bool true)], args := [d1, d2] }
  | _ => none }
def fnExactPolyOfValuesRow : OpenClaim := { program := "ytajabchbdhjdiaa", sum := "9e4abbb093375dbbe3a259c8b942ba2dd06390e50bfae903f0829d8eb531e7c3", func := "loop.example/polycircuits/laws.FnExactPolyOfValues", spec := "fnExactPolyOfValues", inPlace := ["slices.overlaps[loop.example/polycircuits/impl.Term]"], unfollowed := true, recurses := true, apart := false }
def FnExactPolyOfValuesSaid : Prop := fnExactPolyOfValuesRow.holds Try.pinned (OpenSpec.ofChange fnExactPolyOfValuesSpec)

/-- ITS FALSE NEIGHBOUR: 'it returns false'. Refute it at one input. -/
def fnExactPolyOfValuesWrong : ChangeSpec := { name := "fnExactPolyOfValues", fn := fun _ => fun
  | [d1, d2] => { results := [.lit (.bool false)], args := [d1, d2] }
  | _ => none }
def FnExactPolyOfValuesWrongFalsely : Prop := fnExactPolyOfValuesRow.holds Try.pinned (OpenSpec.ofChange fnExactPolyOfValuesWrong)

/-- 'laws.FnExactPointPoly': WHATEVER THE INPUT: true; the input reads as it did. -/
def fnExactPointPolySpec : ChangeSpec := { name := "fnExactPointPoly", fn := fun _ => fun
  | [d1, d2] => { results := [.lit (.bool true)], args := [d1, d2] }
  | _ => none }
def fnExactPointPolyRow : OpenClaim := { program := "ytajabchbdhjdiaa", sum := "9e4abbb093375dbbe3a259c8b942ba2dd06390e50bfae903f0829d8eb531e7c3", func := "loop.example/polycircuits/laws.FnExactPointPoly", spec := "fnExactPointPoly", inPlace := ["slices.overlaps[loop.example/polycircuits/impl.Term]"], unfollowed := true, recurses := true, apart := false }
def FnExactPointPolySaid : Prop := fnExactPointPolyRow.holds Try.pinned (OpenSpec.ofChange fnExactPointPolySpec)

/-- ITS FALSE NEIGHBOUR: 'it returns false'. Refute it at one input. -/
def fnExactPointPolyWrong : ChangeSpec := { name := "fnExactPointPoly", fn := fun _ => fun
  | [d1, d2] => { results := [.lit (.bool false)], args := [d1, d2] }
  | _ => none }
def FnExactPointPolyWrongFalsely : Prop := fnExactPointPolyRow.holds Try.pinned (OpenSpec.ofChange fnExactPointPolyWrong)

/-- 'laws.FnExactIsOnto': WHATEVER THE INPUT: true; the input reads as it did. -/
def fnExactIsOntoSpec : ChangeSpec := { name := "fnExactIsOnto", fn := fun _ => fun
  | [d1, d2] => { results := [.lit (.bool true)], args := [d1, d2] }
  | _ => none }
def fnExactIsOntoRow : OpenClaim := { program := "ytajabchbdhjdiaa", sum := "9e4abbb093375dbbe3a259c8b942ba2dd06390e50bfae903f0829d8eb531e7c3", func := "loop.example/polycircuits/laws.FnExactIsOnto", spec := "fnExactIsOnto", inPlace := ["sync/atomic.LoadUint32", "(*internal/sync.Mutex).Lock", "internal/race.Disable", "sync/atomic.CompareAndSwapInt32", "internal/race.Enable", "internal/race.Acquire", "(*internal/sync.Mutex).lockSlow", "internal/sync.runtime_canSpin", "internal/sync.runtime_doSpin", "internal/sync.throw", "internal/sync.runtime_nanotime", "internal/sync.runtime_SemacquireMutex", "sync/atomic.AddInt32", "(*internal/sync.Mutex).Unlock", "internal/race.ReleaseMerge", "(*internal/sync.Mutex).unlockSlow", "internal/sync.fatal", "internal/sync.runtime_Semrelease", "sync/atomic.StoreUint32"], unfollowed := true, recurses := true, apart := false }
def FnExactIsOntoSaid : Prop := fnExactIsOntoRow.holds Try.pinned (OpenSpec.ofChange fnExactIsOntoSpec)

/-- ITS FALSE NEIGHBOUR: 'it returns false'. Refute it at one input. -/
def fnExactIsOntoWrong : ChangeSpec := { name := "fnExactIsOnto", fn := fun _ => fun
  | [d1, d2] => { results := [.lit (.bool false)], args := [d1, d2] }
  | _ => none }
def FnExactIsOntoWrongFalsely : Prop := fnExactIsOntoRow.holds Try.pinned (OpenSpec.ofChange fnExactIsOntoWrong)

/-- 'laws.FnExactCountValues': WHATEVER THE INPUT: true; the input reads as it did. -/
def fnExactCountValuesSpec : ChangeSpec := { name := "fnExactCountValues", fn := fun _ => fun
  | [d1, d2] => { results := [.lit (.bool true)], args := [d1, d2] }
  | _ => none }
def fnExactCountValuesRow : OpenClaim := { program := "ytajabchbdhjdiaa", sum := "9e4abbb093375dbbe3a259c8b942ba2dd06390e50bfae903f0829d8eb531e7c3", func := "loop.example/polycircuits/laws.FnExactCountValues", spec := "fnExactCountValues", inPlace := ["sync/atomic.LoadUint32", "(*internal/sync.Mutex).Lock", "internal/race.Disable", "sync/atomic.CompareAndSwapInt32", "internal/race.Enable", "internal/race.Acquire", "(*internal/sync.Mutex).lockSlow", "internal/sync.runtime_canSpin", "internal/sync.runtime_doSpin", "internal/sync.throw", "internal/sync.runtime_nanotime", "internal/sync.runtime_SemacquireMutex", "sync/atomic.AddInt32", "(*internal/sync.Mutex).Unlock", "internal/race.ReleaseMerge", "(*internal/sync.Mutex).unlockSlow", "internal/sync.fatal", "internal/sync.runtime_Semrelease", "sync/atomic.StoreUint32"], unfollowed := true, recurses := true, apart := false }
def FnExactCountValuesSaid : Prop := fnExactCountValuesRow.holds Try.pinned (OpenSpec.ofChange fnExactCountValuesSpec)

/-- ITS FALSE NEIGHBOUR: 'it returns false'. Refute it at one input. -/
def fnExactCountValuesWrong : ChangeSpec := { name := "fnExactCountValues", fn := fun _ => fun
  | [d1, d2] => { results := [.lit (.bool false)], args := [d1, d2] }
  | _ => none }
def FnExactCountValuesWrongFalsely : Prop := fnExactCountValuesRow.holds Try.pinned (OpenSpec.ofChange fnExactCountValuesWrong)

/-- 'laws.FnExactNeedsOf': WHATEVER THE INPUT: true; the input reads as it did. -/
def fnExactNeedsOfSpec : ChangeSpec := { name := "fnExactNeedsOf", fn := fun _ => fun
  | [d1, d2] => { results := [.lit (.bool true)], args := [d1, d2] }
  | _ => none }
def fnExactNeedsOfRow : OpenClaim := { program := "ytajabchbdhjdiaa", sum := "9e4abbb093375dbbe3a259c8b942ba2dd06390e50bfae903f0829d8eb531e7c3", func := "loop.example/polycircuits/laws.FnExactNeedsOf", spec := "fnExactNeedsOf", inPlace := ["slices.overlaps[loop.example/polycircuits/impl.Term]"], unfollowed := true, recurses := true, apart := false }
def FnExactNeedsOfSaid : Prop := fnExactNeedsOfRow.holds Try.pinned (OpenSpec.ofChange fnExactNeedsOfSpec)

/-- ITS FALSE NEIGHBOUR: 'it returns false'. Refute it at one input. -/
def fnExactNeedsOfWrong : ChangeSpec := { name := "fnExactNeedsOf", fn := fun _ => fun
  | [d1, d2] => { results := [.lit (.bool false)], args := [d1, d2] }
  | _ => none }
def FnExactNeedsOfWrongFalsely : Prop := fnExactNeedsOfRow.holds Try.pinned (OpenSpec.ofChange fnExactNeedsOfWrong)

/-- 'laws.FnExactIsBalanced': WHATEVER THE INPUT: true; the input reads as it did. -/
def fnExactIsBalancedSpec : ChangeSpec := { name := "fnExactIsBalanced", fn := fun _ => fun
  | [d1, d2] => { results := [.lit (.bool true)], args := [d1, d2] }
  | _ => none }
def fnExactIsBalancedRow : OpenClaim := { program := "ytajabchbdhjdiaa", sum := "9e4abbb093375dbbe3a259c8b942ba2dd06390e50bfae903f0829d8eb531e7c3", func := "loop.example/polycircuits/laws.FnExactIsBalanced", spec := "fnExactIsBalanced", inPlace := ["sync/atomic.LoadUint32", "(*internal/sync.Mutex).Lock", "internal/race.Disable", "sync/atomic.CompareAndSwapInt32", "internal/race.Enable", "internal/race.Acquire", "(*internal/sync.Mutex).lockSlow", "internal/sync.runtime_canSpin", "internal/sync.runtime_doSpin", "internal/sync.throw", "internal/sync.runtime_nanotime", "internal/sync.runtime_SemacquireMutex", "sync/atomic.AddInt32", "(*internal/sync.Mutex).Unlock", "internal/race.ReleaseMerge", "(*internal/sync.Mutex).unlockSlow", "internal/sync.fatal", "internal/sync.runtime_Semrelease", "sync/atomic.StoreUint32"], unfollowed := true, recurses := true, apart := false }
def FnExactIsBalancedSaid : Prop := fnExactIsBalancedRow.holds Try.pinned (OpenSpec.ofChange fnExactIsBalancedSpec)

/-- ITS FALSE NEIGHBOUR: 'it returns false'. Refute it at one input. -/
def fnExactIsBalancedWrong : ChangeSpec := { name := "fnExactIsBalanced", fn := fun _ => fun
  | [d1, d2] => { results := [.lit (.bool false)], args := [d1, d2] }
  | _ => none }
def FnExactIsBalancedWrongFalsely : Prop := fnExactIsBalancedRow.holds Try.pinned (OpenSpec.ofChange fnExactIsBalancedWrong)

/-- 'laws.FnPolyOfValues': WHATEVER THE INPUT: true; the input reads as it did. -/
def fnPolyOfValuesSpec : ChangeSpec := { name := "fnPolyOfValues", fn := fun _ => fun
  | [d] => { results := [.lit (.bool true)], args := [d] }
  | _ => none }
def fnPolyOfValuesRow : OpenClaim := { program := "ytajabchbdhjdiaa", sum := "9e4abbb093375dbbe3a259c8b942ba2dd06390e50bfae903f0829d8eb531e7c3", func := "loop.example/polycircuits/laws.FnPolyOfValues", spec := "fnPolyOfValues", inPlace := ["slices.overlaps[loop.example/polycircuits/impl.Term]"], unfollowed := true, recurses := true, apart := false }
def FnPolyOfValuesSaid : Prop := fnPolyOfValuesRow.holds Try.pinned (OpenSpec.ofChange fnPolyOfValuesSpec)

/-- ITS FALSE NEIGHBOUR: 'it returns false'. Refute it at one input. -/
def fnPolyOfValuesWrong : ChangeSpec := { name := "fnPolyOfValues", fn := fun _ => fun
  | [d] => { results := [.lit (.bool false)], args := [d] }
  | _ => none }
def FnPolyOfValuesWrongFalsely : Prop := fnPolyOfValuesRow.holds Try.pinned (OpenSpec.ofChange fnPolyOfValuesWrong)

/-- 'laws.FnValuesOf': WHATEVER THE INPUT: true; the input reads as it did. -/
def fnValuesOfSpec : ChangeSpec := { name := "fnValuesOf", fn := fun _ => fun
  | [d] => { results := [.lit (.bool true)], args := [d] }
  | _ => none }
def fnValuesOfRow : OpenClaim := { program := "ytajabchbdhjdiaa", sum := "9e4abbb093375dbbe3a259c8b942ba2dd06390e50bfae903f0829d8eb531e7c3", func := "loop.example/polycircuits/laws.FnValuesOf", spec := "fnValuesOf", inPlace := ["slices.overlaps[loop.example/polycircuits/impl.Term]"], unfollowed := true, recurses := true, apart := false }
def FnValuesOfSaid : Prop := fnValuesOfRow.holds Try.pinned (OpenSpec.ofChange fnValuesOfSpec)

/-- ITS FALSE NEIGHBOUR: 'it returns false'. Refute it at one input. -/
def fnValuesOfWrong : ChangeSpec := { name := "fnValuesOf", fn := fun _ => fun
  | [d] => { results := [.lit (.bool false)], args := [d] }
  | _ => none }
def FnValuesOfWrongFalsely : Prop := fnValuesOfRow.holds Try.pinned (OpenSpec.ofChange fnValuesOfWrong)

/-- 'laws.FnNeedsOf': WHATEVER THE INPUT: true; the input reads as it did. -/
def fnNeedsOfSpec : ChangeSpec := { name := "fnNeedsOf", fn := fun _ => fun
  | [d] => { results := [.lit (.bool true)], args := [d] }
  | _ => none }
def fnNeedsOfRow : OpenClaim := { program := "ytajabchbdhjdiaa", sum := "9e4abbb093375dbbe3a259c8b942ba2dd06390e50bfae903f0829d8eb531e7c3", func := "loop.example/polycircuits/laws.FnNeedsOf", spec := "fnNeedsOf", inPlace := ["slices.overlaps[loop.example/polycircuits/impl.Term]"], unfollowed := true, recurses := true, apart := false }
def FnNeedsOfSaid : Prop := fnNeedsOfRow.holds Try.pinned (OpenSpec.ofChange fnNeedsOfSpec)

/-- ITS FALSE NEIGHBOUR: 'it returns false'. Refute it at one input. -/
def fnNeedsOfWrong : ChangeSpec := { name := "fnNeedsOf", fn := fun _ => fun
  | [d] => { results := [.lit (.bool false)], args := [d] }
  | _ => none }
def FnNeedsOfWrongFalsely : Prop := fnNeedsOfRow.holds Try.pinned (OpenSpec.ofChange fnNeedsOfWrong)

/-- 'laws.FnExactFirstNonzero': WHATEVER THE INPUT: true; the input reads as it did. -/
def fnExactFirstNonzeroSpec : ChangeSpec := { name := "fnExactFirstNonzero", fn := fun _ => fun
  | [d1, d2] => { results := [.lit (.bool true)], args := [d1, d2] }
  | _ => none }
def fnExactFirstNonzeroRow : OpenClaim := { program := "ytajabchbdhjdiaa", sum := "9e4abbb093375dbbe3a259c8b942ba2dd06390e50bfae903f0829d8eb531e7c3", func := "loop.example/polycircuits/laws.FnExactFirstNonzero", spec := "fnExactFirstNonzero", unfollowed := true, recurses := true, apart := false }
def FnExactFirstNonzeroSaid : Prop := fnExactFirstNonzeroRow.holds Try.pinned (OpenSpec.ofChange fnExactFirstNonzeroSpec)

/-- ITS FALSE NEIGHBOUR: 'it returns false'. Refute it at one input. -/
def fnExactFirstNonzeroWrong : ChangeSpec := { name := "fnExactFirstNonzero", fn := fun _ => fun
  | [d1, d2] => { results := [.lit (.bool false)], args := [d1, d2] }
  | _ => none }
def FnExactFirstNonzeroWrongFalsely : Prop := fnExactFirstNonzeroRow.holds Try.pinned (OpenSpec.ofChange fnExactFirstNonzeroWrong)

/-- 'laws.FnExactTellApart': WHATEVER THE INPUT: true; the input reads as it did. -/
def fnExactTellApartSpec : ChangeSpec := { name := "fnExactTellApart", fn := fun _ => fun
  | [d1, d2, d3] => { results := [.lit (.bool true)], args := [d1, d2, d3] }
  | _ => none }
def fnExactTellApartRow : OpenClaim := { program := "ytajabchbdhjdiaa", sum := "9e4abbb093375dbbe3a259c8b942ba2dd06390e50bfae903f0829d8eb531e7c3", func := "loop.example/polycircuits/laws.FnExactTellApart", spec := "fnExactTellApart", unfollowed := true, recurses := true, apart := false }
def FnExactTellApartSaid : Prop := fnExactTellApartRow.holds Try.pinned (OpenSpec.ofChange fnExactTellApartSpec)

/-- ITS FALSE NEIGHBOUR: 'it returns false'. Refute it at one input. -/
def fnExactTellApartWrong : ChangeSpec := { name := "fnExactTellApart", fn := fun _ => fun
  | [d1, d2, d3] => { results := [.lit (.bool false)], args := [d1, d2, d3] }
  | _ => none }
def FnExactTellApartWrongFalsely : Prop := fnExactTellApartRow.holds Try.pinned (OpenSpec.ofChange fnExactTellApartWrong)

/-- 'laws.FnFirstNonzero': WHATEVER THE INPUT: true; the input reads as it did. -/
def fnFirstNonzeroSpec : ChangeSpec := { name := "fnFirstNonzero", fn := fun _ => fun
  | [d] => { results := [.lit (.bool true)], args := [d] }
  | _ => none }
def fnFirstNonzeroRow : OpenClaim := { program := "ytajabchbdhjdiaa", sum := "9e4abbb093375dbbe3a259c8b942ba2dd06390e50bfae903f0829d8eb531e7c3", func := "loop.example/polycircuits/laws.FnFirstNonzero", spec := "fnFirstNonzero", unfollowed := true, recurses := true, apart := false }
def FnFirstNonzeroSaid : Prop := fnFirstNonzeroRow.holds Try.pinned (OpenSpec.ofChange fnFirstNonzeroSpec)

/-- ITS FALSE NEIGHBOUR: 'it returns false'. Refute it at one input. -/
def fnFirstNonzeroWrong : ChangeSpec := { name := "fnFirstNonzero", fn := fun _ => fun
  | [d] => { results := [.lit (.bool false)], args := [d] }
  | _ => none }
def FnFirstNonzeroWrongFalsely : Prop := fnFirstNonzeroRow.holds Try.pinned (OpenSpec.ofChange fnFirstNonzeroWrong)

/-- 'laws.FnSameValues': WHATEVER THE INPUT: true; the input reads as it did. -/
def fnSameValuesSpec : ChangeSpec := { name := "fnSameValues", fn := fun _ => fun
  | [d] => { results := [.lit (.bool true)], args := [d] }
  | _ => none }
def fnSameValuesRow : OpenClaim := { program := "ytajabchbdhjdiaa", sum := "9e4abbb093375dbbe3a259c8b942ba2dd06390e50bfae903f0829d8eb531e7c3", func := "loop.example/polycircuits/laws.FnSameValues", spec := "fnSameValues", inPlace := ["slices.overlaps[loop.example/polycircuits/impl.Term]"], unfollowed := true, recurses := true, apart := false }
def FnSameValuesSaid : Prop := fnSameValuesRow.holds Try.pinned (OpenSpec.ofChange fnSameValuesSpec)

/-- ITS FALSE NEIGHBOUR: 'it returns false'. Refute it at one input. -/
def fnSameValuesWrong : ChangeSpec := { name := "fnSameValues", fn := fun _ => fun
  | [d] => { results := [.lit (.bool false)], args := [d] }
  | _ => none }
def FnSameValuesWrongFalsely : Prop := fnSameValuesRow.holds Try.pinned (OpenSpec.ofChange fnSameValuesWrong)

/- THE SECOND FORM. 'bulk': how many values and letters a reading holds, each counted each time it is reached (what is shared counts as often as it is met; a slice's spare places count too). A statement '..UptoSaid' is the law's where the arguments, and the package variables that the reading takes, are together of bulk at most 1048576: NARROWER than '..Said'. Prove '..Said' where nothing that the law and all that it calls make is longer than what came in: it says more and counts as full. Else prove '..UptoSaid'. A law counts once. -/
mutual
def uptoBulk {H : Type} : DataW H → Nat
  | .lit (.string bytes) => bytes.length + 1
  | .lit _ => 1
  | .nil => 1
  | .ptr d => uptoBulk d + 1
  | .slice elems spare => uptoBulkAll elems + uptoBulkAll spare + 1
  | .agg parts => uptoBulkAll parts + 1
  | .iface _ d => uptoBulk d + 1
  | .map entries => uptoBulkEntries entries + 1
  | .held _ => 1
def uptoBulkAll {H : Type} : List (DataW H) → Nat
  | [] => 0
  | d :: r => uptoBulk d + uptoBulkAll r
def uptoBulkEntries {H : Type} : List (Lit × DataW H) → Nat
  | [] => 0
  | x :: r => uptoBulkEntry x + uptoBulkEntries r
def uptoBulkEntry {H : Type} : Lit × DataW H → Nat
  | (.string bytes, d) => bytes.length + uptoBulk d + 1
  | (_, d) => uptoBulk d + 1
 end
def uptoSmall : (H : Type) → List (DataW H) → Bool := fun _ ds => decide (uptoBulkAll ds ≤ 1048576)
def OpenSpec.upto (s : _root_.Go.ChangeSpec) : _root_.Go.OpenSpec := { _root_.Go.OpenSpec.ofChange s with cond := some uptoSmall }

/-- 'laws.FnExactValuesOf', WHERE WHAT IT READS IS OF BULK AT MOST 1048576: true; the input reads as it did. -/
def fnExactValuesOfUptoRow : OpenClaim := { program := "ytajabchbdhjdiaa", sum := "9e4abbb093375dbbe3a259c8b942ba2dd06390e50bfae903f0829d8eb531e7c3", func := "loop.example/polycircuits/laws.FnExactValuesOf", spec := "fnExactValuesOf", unfollowed := true, recurses := true, apart := false, narrowed := true }
def FnExactValuesOfUptoSaid : Prop := fnExactValuesOfUptoRow.holds Try.pinned (OpenSpec.upto fnExactValuesOfSpec)

/-- 'laws.FnExactPolyOfValues', WHERE WHAT IT READS IS OF BULK AT MOST 1048576: true; the input reads as it did. -/
def fnExactPolyOfValuesUptoRow : OpenClaim := { program := "ytajabchbdhjdiaa", sum := "9e4abbb093375dbbe3a259c8b942ba2dd06390e50bfae903f0829d8eb531e7c3", func := "loop.example/polycircuits/laws.FnExactPolyOfValues", spec := "fnExactPolyOfValues", inPlace := ["slices.overlaps[loop.example/polycircuits/impl.Term]"], unfollowed := true, recurses := true, apart := false, narrowed := true }
def FnExactPolyOfValuesUptoSaid : Prop := fnExactPolyOfValuesUptoRow.holds Try.pinned (OpenSpec.upto fnExactPolyOfValuesSpec)

/-- 'laws.FnExactPointPoly', WHERE WHAT IT READS IS OF BULK AT MOST 1048576: true; the input reads as it did. -/
def fnExactPointPolyUptoRow : OpenClaim := { program := "ytajabchbdhjdiaa", sum := "9e4abbb093375dbbe3a259c8b942ba2dd06390e50bfae903f0829d8eb531e7c3", func := "loop.example/polycircuits/laws.FnExactPointPoly", spec := "fnExactPointPoly", inPlace := ["slices.overlaps[loop.example/polycircuits/impl.Term]"], unfollowed := true, recurses := true, apart := false, narrowed := true }
def FnExactPointPolyUptoSaid : Prop := fnExactPointPolyUptoRow.holds Try.pinned (OpenSpec.upto fnExactPointPolySpec)

/-- 'laws.FnExactIsOnto', WHERE WHAT IT READS IS OF BULK AT MOST 1048576: true; the input reads as it did. -/
def fnExactIsOntoUptoRow : OpenClaim := { program := "ytajabchbdhjdiaa", sum := "9e4abbb093375dbbe3a259c8b942ba2dd06390e50bfae903f0829d8eb531e7c3", func := "loop.example/polycircuits/laws.FnExactIsOnto", spec := "fnExactIsOnto", inPlace := ["sync/atomic.LoadUint32", "(*internal/sync.Mutex).Lock", "internal/race.Disable", "sync/atomic.CompareAndSwapInt32", "internal/race.Enable", "internal/race.Acquire", "(*internal/sync.Mutex).lockSlow", "internal/sync.runtime_canSpin", "internal/sync.runtime_doSpin", "internal/sync.throw", "internal/sync.runtime_nanotime", "internal/sync.runtime_SemacquireMutex", "sync/atomic.AddInt32", "(*internal/sync.Mutex).Unlock", "internal/race.ReleaseMerge", "(*internal/sync.Mutex).unlockSlow", "internal/sync.fatal", "internal/sync.runtime_Semrelease", "sync/atomic.StoreUint32"], unfollowed := true, recurses := true, apart := false, narrowed := true }
def FnExactIsOntoUptoSaid : Prop := fnExactIsOntoUptoRow.holds Try.pinned (OpenSpec.upto fnExactIsOntoSpec)

/-- 'laws.FnExactCountValues', WHERE WHAT IT READS IS OF BULK AT MOST 1048576: true; the input reads as it did. -/
def fnExactCountValuesUptoRow : OpenClaim := { program := "ytajabchbdhjdiaa", sum := "9e4abbb093375dbbe3a259c8b942ba2dd06390e50bfae903f0829d8eb531e7c3", func := "loop.example/polycircuits/laws.FnExactCountValues", spec := "fnExactCountValues", inPlace := ["sync/atomic.LoadUint32", "(*internal/sync.Mutex).Lock", "internal/race.Disable", "sync/atomic.CompareAndSwapInt32", "internal/race.Enable", "internal/race.Acquire", "(*internal/sync.Mutex).lockSlow", "internal/sync.runtime_canSpin", "internal/sync.runtime_doSpin", "internal/sync.throw", "internal/sync.runtime_nanotime", "internal/sync.runtime_SemacquireMutex", "sync/atomic.AddInt32", "(*internal/sync.Mutex).Unlock", "internal/race.ReleaseMerge", "(*internal/sync.Mutex).unlockSlow", "internal/sync.fatal", "internal/sync.runtime_Semrelease", "sync/atomic.StoreUint32"], unfollowed := true, recurses := true, apart := false, narrowed := true }
def FnExactCountValuesUptoSaid : Prop := fnExactCountValuesUptoRow.holds Try.pinned (OpenSpec.upto fnExactCountValuesSpec)

/-- 'laws.FnExactNeedsOf', WHERE WHAT IT READS IS OF BULK AT MOST 1048576: true; the input reads as it did. -/
def fnExactNeedsOfUptoRow : OpenClaim := { program := "ytajabchbdhjdiaa", sum := "9e4abbb093375dbbe3a259c8b942ba2dd06390e50bfae903f0829d8eb531e7c3", func := "loop.example/polycircuits/laws.FnExactNeedsOf", spec := "fnExactNeedsOf", inPlace := ["slices.overlaps[loop.example/polycircuits/impl.Term]"], unfollowed := true, recurses := true, apart := false, narrowed := true }
def FnExactNeedsOfUptoSaid : Prop := fnExactNeedsOfUptoRow.holds Try.pinned (OpenSpec.upto fnExactNeedsOfSpec)

/-- 'laws.FnExactIsBalanced', WHERE WHAT IT READS IS OF BULK AT MOST 1048576: true; the input reads as it did. -/
def fnExactIsBalancedUptoRow : OpenClaim := { program := "ytajabchbdhjdiaa", sum := "9e4abbb093375dbbe3a259c8b942ba2dd06390e50bfae903f0829d8eb531e7c3", func := "loop.example/polycircuits/laws.FnExactIsBalanced", spec := "fnExactIsBalanced", inPlace := ["sync/atomic.LoadUint32", "(*internal/sync.Mutex).Lock", "internal/race.Disable", "sync/atomic.CompareAndSwapInt32", "internal/race.Enable", "internal/race.Acquire", "(*internal/sync.Mutex).lockSlow", "internal/sync.runtime_canSpin", "internal/sync.runtime_doSpin", "internal/sync.throw", "internal/sync.runtime_nanotime", "internal/sync.runtime_SemacquireMutex", "sync/atomic.AddInt32", "(*internal/sync.Mutex).Unlock", "internal/race.ReleaseMerge", "(*internal/sync.Mutex).unlockSlow", "internal/sync.fatal", "internal/sync.runtime_Semrelease", "sync/atomic.StoreUint32"], unfollowed := true, recurses := true, apart := false, narrowed := true }
def FnExactIsBalancedUptoSaid : Prop := fnExactIsBalancedUptoRow.holds Try.pinned (OpenSpec.upto fnExactIsBalancedSpec)

/-- 'laws.FnPolyOfValues', WHERE WHAT IT READS IS OF BULK AT MOST 1048576: true; the input reads as it did. -/
def fnPolyOfValuesUptoRow : OpenClaim := { program := "ytajabchbdhjdiaa", sum := "9e4abbb093375dbbe3a259c8b942ba2dd06390e50bfae903f0829d8eb531e7c3", func := "loop.example/polycircuits/laws.FnPolyOfValues", spec := "fnPolyOfValues", inPlace := ["slices.overlaps[loop.example/polycircuits/impl.Term]"], unfollowed := true, recurses := true, apart := false, narrowed := true }
def FnPolyOfValuesUptoSaid : Prop := fnPolyOfValuesUptoRow.holds Try.pinned (OpenSpec.upto fnPolyOfValuesSpec)

/-- 'laws.FnValuesOf', WHERE WHAT IT READS IS OF BULK AT MOST 1048576: true; the input reads as it did. -/
def fnValuesOfUptoRow : OpenClaim := { program := "ytajabchbdhjdiaa", sum := "9e4abbb093375dbbe3a259c8b942ba2dd06390e50bfae903f0829d8eb531e7c3", func := "loop.example/polycircuits/laws.FnValuesOf", spec := "fnValuesOf", inPlace := ["slices.overlaps[loop.example/polycircuits/impl.Term]"], unfollowed := true, recurses := true, apart := false, narrowed := true }
def FnValuesOfUptoSaid : Prop := fnValuesOfUptoRow.holds Try.pinned (OpenSpec.upto fnValuesOfSpec)

/-- 'laws.FnNeedsOf', WHERE WHAT IT READS IS OF BULK AT MOST 1048576: true; the input reads as it did. -/
def fnNeedsOfUptoRow : OpenClaim := { program := "ytajabchbdhjdiaa", sum := "9e4abbb093375dbbe3a259c8b942ba2dd06390e50bfae903f0829d8eb531e7c3", func := "loop.example/polycircuits/laws.FnNeedsOf", spec := "fnNeedsOf", inPlace := ["slices.overlaps[loop.example/polycircuits/impl.Term]"], unfollowed := true, recurses := true, apart := false, narrowed := true }
def FnNeedsOfUptoSaid : Prop := fnNeedsOfUptoRow.holds Try.pinned (OpenSpec.upto fnNeedsOfSpec)

/-- 'laws.FnExactFirstNonzero', WHERE WHAT IT READS IS OF BULK AT MOST 1048576: true; the input reads as it did. -/
def fnExactFirstNonzeroUptoRow : OpenClaim := { program := "ytajabchbdhjdiaa", sum := "9e4abbb093375dbbe3a259c8b942ba2dd06390e50bfae903f0829d8eb531e7c3", func := "loop.example/polycircuits/laws.FnExactFirstNonzero", spec := "fnExactFirstNonzero", unfollowed := true, recurses := true, apart := false, narrowed := true }
def FnExactFirstNonzeroUptoSaid : Prop := fnExactFirstNonzeroUptoRow.holds Try.pinned (OpenSpec.upto fnExactFirstNonzeroSpec)

/-- 'laws.FnExactTellApart', WHERE WHAT IT READS IS OF BULK AT MOST 1048576: true; the input reads as it did. -/
def fnExactTellApartUptoRow : OpenClaim := { program := "ytajabchbdhjdiaa", sum := "9e4abbb093375dbbe3a259c8b942ba2dd06390e50bfae903f0829d8eb531e7c3", func := "loop.example/polycircuits/laws.FnExactTellApart", spec := "fnExactTellApart", unfollowed := true, recurses := true, apart := false, narrowed := true }
def FnExactTellApartUptoSaid : Prop := fnExactTellApartUptoRow.holds Try.pinned (OpenSpec.upto fnExactTellApartSpec)

/-- 'laws.FnFirstNonzero', WHERE WHAT IT READS IS OF BULK AT MOST 1048576: true; the input reads as it did. -/
def fnFirstNonzeroUptoRow : OpenClaim := { program := "ytajabchbdhjdiaa", sum := "9e4abbb093375dbbe3a259c8b942ba2dd06390e50bfae903f0829d8eb531e7c3", func := "loop.example/polycircuits/laws.FnFirstNonzero", spec := "fnFirstNonzero", unfollowed := true, recurses := true, apart := false, narrowed := true }
def FnFirstNonzeroUptoSaid : Prop := fnFirstNonzeroUptoRow.holds Try.pinned (OpenSpec.upto fnFirstNonzeroSpec)

/-- 'laws.FnSameValues', WHERE WHAT IT READS IS OF BULK AT MOST 1048576: true; the input reads as it did. -/
def fnSameValuesUptoRow : OpenClaim := { program := "ytajabchbdhjdiaa", sum := "9e4abbb093375dbbe3a259c8b942ba2dd06390e50bfae903f0829d8eb531e7c3", func := "loop.example/polycircuits/laws.FnSameValues", spec := "fnSameValues", inPlace := ["slices.overlaps[loop.example/polycircuits/impl.Term]"], unfollowed := true, recurses := true, apart := false, narrowed := true }
def FnSameValuesUptoSaid : Prop := fnSameValuesUptoRow.holds Try.pinned (OpenSpec.upto fnSameValuesSpec)

end Rows
end Go.Proofs.Ytajabchbdhjdiaa
