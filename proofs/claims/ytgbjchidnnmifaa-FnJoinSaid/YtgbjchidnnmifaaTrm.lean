/-
  Contracts of the exact laws' helpers on terms and powers. Conditions: none.
-/
import Derived.Test.YtgbjchidnnmifaaChecked
import Derived.Test.YtgbjchidnnmifaaLst
import Derived.WalkKit
import Derived.Lib.Hide
import Derived.Outline
import Derived.BigQuiet
import Derived.Deep.QuietTactic
import Derived.OwnWalk
namespace Go.Proofs.Ytgbjchidnnmifaa
open Go.RowKit
theorem below_drewN {B : Nat} {a w : World} (h : Below B a w) (n : Nat) : Below B a (w.drewN n) := ⟨h.os, h.tape, h.output, h.size, h.block⟩
/-- three new blocks that hold the powers -/
def three (w : World) (a b c : Int) : World := ((w.alloc (Obj.cells #[.int .i64 a, .int .i64 b, .int .i64 c] 25)).alloc (Obj.cells #[.int .i64 a, .int .i64 b, .int .i64 c] 25)).alloc (Obj.cells #[.int .i64 a, .int .i64 b, .int .i64 c] 25)
/-- behind W there are only draws -/
def DrawnFrom (W w' : World) : Prop := ∃ n, W.drewN n = w'
theorem drewN_two (W : World) (n m : Nat) : W.drewN (n + m) = (W.drewN n).drewN m := by simp
theorem ret_bool2 {a b : Bool} (h : a = b) : Ending.returned (.bool a) = .returned (.bool b) := by rw [h]
def Trm.v (x : Trm) : Value := .agg #[.int .i64 x.a, .int .i64 x.b, .int .i64 x.c, .int .i64 x.t]
end Go.Proofs.Ytgbjchidnnmifaa
