/-
  Contracts of the model's order of powers. Conditions: none.
-/
import Derived.Test.YtmndcdcjjihecaaPolA
namespace Go.Proofs.Ytmndcdcjjihecaa
open Go.RowKit
theorem DrawnFrom.refl (W : World) : DrawnFrom W W := ⟨0, rfl⟩
theorem DrawnFrom.more {W w' : World} (h : DrawnFrom W w') (n : Nat) : DrawnFrom W (w'.drewN n) := by
  obtain ⟨m, rfl⟩ := h; exact ⟨m + n, by simp⟩
set_option maxHeartbeats 4000000 in
theorem sBef (a b c d e f : Int) (w : World) :
    Calls Try.prog 80 #[.agg #[.int .i64 a, .int .i64 b, .int .i64 c], .agg #[.int .i64 d, .int .i64 e, .int .i64 f]] w fun x w' => x = .returned (.bool (befB a b c d e f)) ∧ DrawnFrom ((w.alloc (Obj.cells #[.int .i64 a, .int .i64 b, .int .i64 c] 35)).alloc (Obj.cells #[.int .i64 d, .int .i64 e, .int .i64 f] 35)) w' := by
  cases h1 : (a != d)
  · cases h2 : (b != e)
    · cases h3 : (c != f)
      · have hF := Lib.hid (show befB a b c d e f = false by simp [befB, h1, h2, h3])
        go_enter Try.func80, Try.ntmps80
        go_wp2_with fail
        refine wp_loop_rounds 4 ?_
        iterate 3 (rw [rounds_succ]; go_wp2; go_quiet (fail); go_wp2)
        rw [rounds_succ]; go_wp2
        go_ret
        exact ⟨ret_bool hF.out.symm, by repeat (first | exact DrawnFrom.refl _ | apply DrawnFrom.more)⟩
      · have hF := Lib.hid (show befB a b c d e f = decide (f < c) by simp [befB, h1, h2, h3])
        go_enter Try.func80, Try.ntmps80
        go_wp2_with fail
        refine wp_loop_rounds 4 ?_
        iterate 3 (rw [rounds_succ]; go_wp2; go_quiet (fail); go_wp2)
        go_quiet (fail)
        go_wp2
        go_ret
        exact ⟨ret_bool hF.out.symm, by repeat (first | exact DrawnFrom.refl _ | apply DrawnFrom.more)⟩
    · have hF := Lib.hid (show befB a b c d e f = decide (e < b) by simp [befB, h1, h2])
      go_enter Try.func80, Try.ntmps80
      go_wp2_with fail
      refine wp_loop_rounds 4 ?_
      iterate 2 (rw [rounds_succ]; go_wp2; go_quiet (fail); go_wp2)
      go_quiet (fail)
      go_wp2
      go_ret
      exact ⟨ret_bool hF.out.symm, by repeat (first | exact DrawnFrom.refl _ | apply DrawnFrom.more)⟩
  · have hF := Lib.hid (show befB a b c d e f = decide (d < a) by simp [befB, h1])
    go_enter Try.func80, Try.ntmps80
    go_wp2_with fail
    refine wp_loop_rounds 4 ?_
    rw [rounds_succ]; go_wp2; go_quiet (fail); go_wp2
    go_quiet (fail)
    go_wp2
    go_ret
    exact ⟨ret_bool hF.out.symm, by repeat (first | exact DrawnFrom.refl _ | apply DrawnFrom.more)⟩
end Go.Proofs.Ytmndcdcjjihecaa
