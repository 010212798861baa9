/-
  The walk of the exact law of ScalePoly. Conditions: none but that the slice reads as a list of terms.
-/
import Derived.Test.YtcbndfplfajoiaaWlkB
import Derived.Test.YtcbndfplfajoiaaScl

namespace Go.Proofs.Ytcbndfplfajoiaa
open Go.RowKit
theorem xScalePoly (p : Int) (a : Option Addr) (len cap : Nat) (L : List Trm) (n : Int) (w : World) (h : RowT w a len L) :
    Calls Try.prog 6 #[.int .i64 p, .slice a len cap, .int .i64 n] w fun e w' => e = .returned (.bool true) ∧ Below w.heap.size w w' := by
  by_cases hl : len ≤ 1048576
  · have := h.1
    subst this
    exact xScalePoly_in p a L cap n (sclV p n L) ((isP p && validB p L) && isE p n) w hl (h.trms hl) (fun f w hf => sScalePoly p f L n w hf) (fun f w hf => iScalePoly p f L n w hf)
  · exact xScalePoly_long p a len cap n w (by omega) h.2.1
end Go.Proofs.Ytcbndfplfajoiaa
