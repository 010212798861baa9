/-
  The walks of the exact laws of PolyValid, DegreeOf and DegreeIn. Conditions: none but that the slice reads as a list of terms.
-/
import Derived.Test.YtlidplmpglpkgaaBa12
import Derived.Test.YtlidplmpglpkgaaBa5
namespace Go.Proofs.Ytlidplmpglpkgaa
open Go.RowKit
/-- szPoly of a slice that is longer than 2^20 -/
theorem szP_long (a : Option Addr) (n cap : Nat) (w : World) (h1 : 1048576 < n) (h2 : n ≤ 9223372036854775807) :
    Calls Try.prog 86 #[.slice a n cap, .int .i64 1048576] w fun e w' => e = .returned (.int .i64 (-1)) ∧ w = w' :=
  (szP a n cap 1048576 w (by omega) (by omega) (by omega)).mono fun e w' h => by rw [if_pos (by omega)] at h; exact h
theorem szP_ok (a : Option Addr) (n cap : Nat) (w : World) (h1 : n ≤ 1048576) :
    Calls Try.prog 86 #[.slice a n cap, .int .i64 1048576] w fun e w' => e = .returned (.int .i64 (1048576 - (n : Int))) ∧ w = w' :=
  (szP a n cap 1048576 w (by omega) (by omega) (by omega)).mono fun e w' h => by rw [if_neg (by omega)] at h; exact h
end Go.Proofs.Ytlidplmpglpkgaa
