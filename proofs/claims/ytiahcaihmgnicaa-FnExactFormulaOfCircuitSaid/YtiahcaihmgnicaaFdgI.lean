/-
  Contracts of the program's FormalDegree, and of both functions of both for any list of gates. Conditions: what the slice holds is known.
-/
import Derived.Test.YtiahcaihmgnicaaDepI
namespace Go.Proofs.Ytiahcaihmgnicaa
open Go.RowKit
end Go.Proofs.Ytiahcaihmgnicaa
