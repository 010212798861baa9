/-
  FormulaOfCircuit, of the model. Conditions: what the slice holds is known.
-/
import Derived.Test.YtlidplmpglpkgaaBa15
import Derived.Test.YtlidplmpglpkgaaBa2
namespace Go.Proofs.Ytlidplmpglpkgaa
open Go.RowKit
end Go.Proofs.Ytlidplmpglpkgaa
