/-
  Contracts of the exact laws' helpers on terms and powers. Conditions: none.
-/
import Derived.Test.YtmndcdcjjihecaaChecked
import Derived.Test.YtmndcdcjjihecaaLst
import Derived.WalkKit
import Derived.Lib.Hide
import Derived.Outline
import Derived.BigQuiet
import Derived.Deep.QuietTactic
import Derived.OwnWalk
namespace Go.Proofs.Ytmndcdcjjihecaa
open Go.RowKit
theorem below_drewN {B : Nat} {a w : World} (h : Below B a w) (n : Nat) : Below B a (w.drewN n) := ⟨h.os, h.tape, h.output, h.size, h.block⟩
/-- three new blocks that hold the powers -/
def three (w : World) (a b c : Int) : World := ((w.alloc (Obj.cells #[.int .i64 a, .int .i64 b, .int .i64 c] 35)).alloc (Obj.cells #[.int .i64 a, .int .i64 b, .int .i64 c] 35)).alloc (Obj.cells #[.int .i64 a, .int .i64 b, .int .i64 c] 35)
set_option maxHeartbeats 1000000 in
theorem toA3 (a b c : Int) (w : World) :
    Calls Try.prog 61 #[.agg #[.int .i64 a, .int .i64 b, .int .i64 c]] w fun e w' => e = .returned (.agg #[.int .i64 a, .int .i64 b, .int .i64 c]) ∧ three w a b c = w' := by
  go_enter Try.func61, Try.ntmps61
  go_wp2_with fail
  refine wp_loop_rounds 4 ?_
  iterate 4 (rw [rounds_succ]; go_wp2)
  refine bodyPost_ret (v := .agg #[.int .i64 a, .int .i64 b, .int .i64 c]) (by simp [results, Try.results61, go_sem]) rfl ⟨rfl, rfl⟩
set_option maxHeartbeats 1000000 in
theorem toT (a b c t : Int) (w : World) :
    Calls Try.prog 33 #[.agg #[.int .i64 a, .int .i64 b, .int .i64 c, .int .i64 t]] w fun e w' => e = .returned (.agg #[.int .i64 a, .int .i64 b, .int .i64 c, .int .i64 t]) ∧ Below w.heap.size w w' := by
  go_enter Try.func33, Try.ntmps33
  go_wp2_with (go_at_call 61; refine (toA3 a b c _).mono ?_; rintro e w1 ⟨rfl, rfl⟩; unfold three)
  refine bodyPost_ret (v := .agg #[.int .i64 a, .int .i64 b, .int .i64 c, .int .i64 t]) (by simp [results, Try.results33, go_sem]) rfl ⟨rfl, by repeat (first | exact Below.refl _ _ | apply Below.drew | apply below_drewN | (refine Below.setCell ?_ (by simp <;> omega) _) | (refine Below.alloc ?_ (by simp <;> omega) _))⟩
/-- behind W there are only draws -/
def DrawnFrom (W w' : World) : Prop := ∃ n, W.drewN n = w'
theorem drewN_two (W : World) (n m : Nat) : W.drewN (n + m) = (W.drewN n).drewN m := by simp
theorem ret_bool2 {a b : Bool} (h : a = b) : Ending.returned (.bool a) = .returned (.bool b) := by rw [h]
set_option maxHeartbeats 2000000 in
theorem eqA3 (a b c d e f : Int) (w : World) :
    Calls Try.prog 22 #[.agg #[.int .i64 a, .int .i64 b, .int .i64 c], .agg #[.int .i64 d, .int .i64 e, .int .i64 f]] w fun x w' => x = .returned (.bool (a == d && b == e && c == f)) ∧ DrawnFrom ((w.alloc (Obj.cells #[.int .i64 a, .int .i64 b, .int .i64 c] 35)).alloc (Obj.cells #[.int .i64 d, .int .i64 e, .int .i64 f] 35)) w' := by
  cases h1 : (a != d)
  · have h1' : (a == d) = true := by simpa using h1
    cases h2 : (b != e)
    · have h2' : (b == e) = true := by simpa using h2
      cases h3 : (c != f)
      · have h3' : (c == f) = true := by simpa using h3
        have hF := Lib.hid (show (a == d && b == e && c == f) = true by rw [h1', h2', h3']; rfl)
        clear h1' h2' h3'
        go_enter Try.func22, Try.ntmps22
        go_wp2_with fail
        refine wp_loop_rounds 4 ?_
        iterate 3 (rw [rounds_succ]; go_wp2; go_quiet (fail); go_wp2)
        rw [rounds_succ]; go_wp2
        go_ret
        first | exact ⟨ret_bool2 hF.out.symm, _, rfl⟩ | exact ⟨ret_bool2 hF.out.symm, _, drewN_two _ _ _⟩
      · have h3' : (c == f) = false := by simpa using h3
        have hF := Lib.hid (show (a == d && b == e && c == f) = false by rw [h3', Bool.and_false])
        clear h1' h2' h3'
        go_enter Try.func22, Try.ntmps22
        go_wp2_with fail
        refine wp_loop_rounds 4 ?_
        iterate 3 (rw [rounds_succ]; go_wp2; go_quiet (fail); go_wp2)
        go_ret
        first | exact ⟨ret_bool2 hF.out.symm, _, rfl⟩ | exact ⟨ret_bool2 hF.out.symm, _, drewN_two _ _ _⟩
    · have h2' : (b == e) = false := by simpa using h2
      have hF := Lib.hid (show (a == d && b == e && c == f) = false by rw [h2', Bool.and_false, Bool.false_and])
      clear h1' h2'
      go_enter Try.func22, Try.ntmps22
      go_wp2_with fail
      refine wp_loop_rounds 4 ?_
      iterate 2 (rw [rounds_succ]; go_wp2; go_quiet (fail); go_wp2)
      go_ret
      first | exact ⟨ret_bool2 hF.out.symm, _, rfl⟩ | exact ⟨ret_bool2 hF.out.symm, _, drewN_two _ _ _⟩
  · have h1' : (a == d) = false := by simpa using h1
    have hF := Lib.hid (show (a == d && b == e && c == f) = false by rw [h1']; rfl)
    clear h1'
    go_enter Try.func22, Try.ntmps22
    go_wp2_with fail
    refine wp_loop_rounds 4 ?_
    rw [rounds_succ]; go_wp2; go_quiet (fail); go_wp2
    go_ret
    first | exact ⟨ret_bool2 hF.out.symm, _, rfl⟩ | exact ⟨ret_bool2 hF.out.symm, _, drewN_two _ _ _⟩
theorem eqA3_is (r : Bool) (a b c d e f : Int) (h : (a == d && b == e && c == f) = r) (w : World) :
    Calls Try.prog 22 #[.agg #[.int .i64 a, .int .i64 b, .int .i64 c], .agg #[.int .i64 d, .int .i64 e, .int .i64 f]] w fun x w' => x = .returned (.bool r) ∧ DrawnFrom ((w.alloc (Obj.cells #[.int .i64 a, .int .i64 b, .int .i64 c] 35)).alloc (Obj.cells #[.int .i64 d, .int .i64 e, .int .i64 f] 35)) w' := by
  subst h; exact eqA3 a b c d e f w
def Trm.v (x : Trm) : Value := .agg #[.int .i64 x.a, .int .i64 x.b, .int .i64 x.c, .int .i64 x.t]
set_option maxHeartbeats 2000000 in
theorem eqT (a b c t a' b' c' t' : Int) (w : World) :
    Calls Try.prog 37 #[.agg #[.int .i64 a, .int .i64 b, .int .i64 c, .int .i64 t], .agg #[.int .i64 a', .int .i64 b', .int .i64 c', .int .i64 t']] w fun x w' => x = .returned (.bool (a == a' && b == b' && c == c' && t == t')) ∧ Below w.heap.size w w' := by
  cases h1 : (a == a' && b == b' && c == c')
  · have hF := Lib.hid (show (false && t == t') = false from rfl)
    have H1 := Lib.hid h1
    clear h1
    go_enter Try.func37, Try.ntmps37
    go_wp2_with (go_at_call 22; refine (eqA3_is _ a b c a' b' c' H1.out _).mono ?_; rintro x w1 ⟨rfl, n, rfl⟩)
    go_ret
    exact ⟨ret_bool2 hF.out.symm, by repeat (first | exact Below.refl _ _ | apply Below.drew | apply below_drewN | (refine Below.alloc ?_ (by simp <;> omega) _))⟩
  · have H1 := Lib.hid h1
    cases h2 : (t != t')
    · have h2' : (t == t') = true := by simpa using h2
      have hF := Lib.hid (show (true && t == t') = true by rw [h2']; rfl)
      clear h1 h2'
      go_enter Try.func37, Try.ntmps37
      go_wp2_with (go_at_call 22; refine (eqA3_is _ a b c a' b' c' H1.out _).mono ?_; rintro x w1 ⟨rfl, n, rfl⟩)
      go_ret
      exact ⟨ret_bool2 hF.out.symm, by repeat (first | exact Below.refl _ _ | apply Below.drew | apply below_drewN | (refine Below.alloc ?_ (by simp <;> omega) _))⟩
    · have h2' : (t == t') = false := by simpa using h2
      have hF := Lib.hid (show (true && t == t') = false by rw [h2', Bool.and_false])
      clear h1 h2'
      go_enter Try.func37, Try.ntmps37
      go_wp2_with (go_at_call 22; refine (eqA3_is _ a b c a' b' c' H1.out _).mono ?_; rintro x w1 ⟨rfl, n, rfl⟩)
      go_ret
      exact ⟨ret_bool2 hF.out.symm, by repeat (first | exact Below.refl _ _ | apply Below.drew | apply below_drewN | (refine Below.alloc ?_ (by simp <;> omega) _))⟩
end Go.Proofs.Ytmndcdcjjihecaa
