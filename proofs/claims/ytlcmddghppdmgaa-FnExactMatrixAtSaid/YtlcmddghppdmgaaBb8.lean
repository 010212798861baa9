/-
  Contracts of both DegreeIn.
-/
import Derived.Test.YtlcmddghppdmgaaBa12
namespace Go.Proofs.Ytlcmddghppdmgaa
open Go.RowKit
/-- the exponent of the unknown v -/
def pw (v : Int) (x : Trm) : Int := if v = 0 then x.a else if v = 1 then x.b else x.c
def inV (v : Int) : Bool := decide (0 ≤ v) && decide (v ≤ 2)
theorem inV_cases {v : Int} (h : inV v = true) : v = 0 ∨ v = 1 ∨ v = 2 := by
  simp only [inV, Bool.and_eq_true, decide_eq_true_eq] at h; omega
/-- the greatest exponent of v in the first k terms; -1 of none -/
def degI (L : List Trm) (v : Int) : Nat → Int
  | 0 => -1
  | k + 1 => if degI L v k < pw v (L.getD k default) then pw v (L.getD k default) else degI L v k
def degIV (p : Int) (L : List Trm) (v : Int) : Int := if (isP p && validB p L) && inV v then degI L v L.length else -2
theorem sUnk (r : Bool) (v : Int) (h : inV v = r) (w : World) :
    Calls Try.prog 78 #[.int .i64 v, .int .i64 0, .int .i64 2] w fun e w' => e = .returned (.bool r) ∧ w = w' := sIn_is r v 0 2 h w
end Go.Proofs.Ytlcmddghppdmgaa
