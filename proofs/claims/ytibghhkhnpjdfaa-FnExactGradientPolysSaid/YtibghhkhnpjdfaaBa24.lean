/-
  Contracts of the model's checks on powers. Conditions: none.
-/
import Derived.Test.YtibghhkhnpjdfaaBa3
import Derived.Test.YtibghhkhnpjdfaaBa12
namespace Go.Proofs.Ytibghhkhnpjdfaa
open Go.RowKit
theorem idx0 (x y z : Value) (w : World) : (Instr.index 35 (.agg #[x, y, z]) (.int .i64 0)).run Try.prog w = .ok x w := by kernel_rfl
theorem idx1 (x y z : Value) (w : World) : (Instr.index 35 (.agg #[x, y, z]) (.int .i64 1)).run Try.prog w = .ok y w := by kernel_rfl
theorem idx2 (x y z : Value) (w : World) : (Instr.index 35 (.agg #[x, y, z]) (.int .i64 2)).run Try.prog w = .ok z w := by kernel_rfl
set_option maxHeartbeats 2000000 in
theorem sPows (a b c : Int) (w : World) :
    Calls Try.prog 207 #[.agg #[.int .i64 a, .int .i64 b, .int .i64 c]] w fun x w' => x = .returned (.bool (powsB a b c)) ∧ w.alloc (Obj.cells #[.int .i64 a, .int .i64 b, .int .i64 c] 35) = w' := by
  have k0 := idx0
  have k1 := idx1
  have k2 := idx2
  cases h0 : powB a
  · have hF := Lib.hid (show powsB a b c = false by simp [powsB, h0])
    have H0 := Lib.hid (show (decide (0 ≤ a) && decide (a ≤ 9)) = false from h0)
    clear h0
    go_enter Try.func207, Try.ntmps207
    go_wp2_with fail
    refine wp_loop_rounds 4 ?_
    rw [rounds_succ]
    go_wp2_with (go_at_call 94; refine (sIn _ _ _ _).mono ?_; rw [H0.out]; rintro e w' ⟨rfl, rfl⟩)
    go_ret
    exact ⟨ret_bool hF.out.symm, rfl⟩
  · have H0 := Lib.hid (show (decide (0 ≤ a) && decide (a ≤ 9)) = true from h0)
    cases h1 : powB b
    · have hF := Lib.hid (show powsB a b c = false by simp [powsB, h1])
      have H1 := Lib.hid (show (decide (0 ≤ b) && decide (b ≤ 9)) = false from h1)
      clear h0 h1
      go_enter Try.func207, Try.ntmps207
      go_wp2_with fail
      refine wp_loop_rounds 4 ?_
      rw [rounds_succ]
      go_wp2_with (go_at_call 94; refine (sIn _ _ _ _).mono ?_; rw [H0.out]; rintro e w' ⟨rfl, rfl⟩)
      rw [rounds_succ]
      go_wp2_with (go_at_call 94; refine (sIn _ _ _ _).mono ?_; rw [H1.out]; rintro e w' ⟨rfl, rfl⟩)
      go_ret
      exact ⟨ret_bool hF.out.symm, rfl⟩
    · have H1 := Lib.hid (show (decide (0 ≤ b) && decide (b ≤ 9)) = true from h1)
      cases h2 : powB c
      · have hF := Lib.hid (show powsB a b c = false by simp [powsB, h2])
        have H2 := Lib.hid (show (decide (0 ≤ c) && decide (c ≤ 9)) = false from h2)
        clear h0 h1 h2
        go_enter Try.func207, Try.ntmps207
        go_wp2_with fail
        refine wp_loop_rounds 4 ?_
        rw [rounds_succ]
        go_wp2_with (go_at_call 94; refine (sIn _ _ _ _).mono ?_; rw [H0.out]; rintro e w' ⟨rfl, rfl⟩)
        rw [rounds_succ]
        go_wp2_with (go_at_call 94; refine (sIn _ _ _ _).mono ?_; rw [H1.out]; rintro e w' ⟨rfl, rfl⟩)
        rw [rounds_succ]
        go_wp2_with (go_at_call 94; refine (sIn _ _ _ _).mono ?_; rw [H2.out]; rintro e w' ⟨rfl, rfl⟩)
        go_ret
        exact ⟨ret_bool hF.out.symm, rfl⟩
      · have hF := Lib.hid (show powsB a b c = true by simp [powsB, h0, h1, h2])
        have H2 := Lib.hid (show (decide (0 ≤ c) && decide (c ≤ 9)) = true from h2)
        clear h0 h1 h2
        go_enter Try.func207, Try.ntmps207
        go_wp2_with fail
        refine wp_loop_rounds 4 ?_
        rw [rounds_succ]
        go_wp2_with (go_at_call 94; refine (sIn _ _ _ _).mono ?_; rw [H0.out]; rintro e w' ⟨rfl, rfl⟩)
        rw [rounds_succ]
        go_wp2_with (go_at_call 94; refine (sIn _ _ _ _).mono ?_; rw [H1.out]; rintro e w' ⟨rfl, rfl⟩)
        rw [rounds_succ]
        go_wp2_with (go_at_call 94; refine (sIn _ _ _ _).mono ?_; rw [H2.out]; rintro e w' ⟨rfl, rfl⟩)
        rw [rounds_succ]
        go_wp2
        go_ret
        exact ⟨ret_bool hF.out.symm, rfl⟩
end Go.Proofs.Ytibghhkhnpjdfaa
