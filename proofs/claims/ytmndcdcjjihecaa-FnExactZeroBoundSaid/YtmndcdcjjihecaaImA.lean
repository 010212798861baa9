/-
  Contracts of the program's own checks on powers. Conditions: none.
-/
import Derived.Test.YtmndcdcjjihecaaPolC
namespace Go.Proofs.Ytmndcdcjjihecaa
open Go.RowKit
set_option maxHeartbeats 4000000 in
theorem iGrt (a b c d e f : Int) (w : World) :
    Calls Try.prog 64 #[.agg #[.int .i64 a, .int .i64 b, .int .i64 c], .agg #[.int .i64 d, .int .i64 e, .int .i64 f]] w fun x w' => x = .returned (.bool (befB a b c d e f)) ∧ DrawnFrom ((w.alloc (Obj.cells #[.int .i64 a, .int .i64 b, .int .i64 c] 35)).alloc (Obj.cells #[.int .i64 d, .int .i64 e, .int .i64 f] 35)) w' := by
  cases h1 : (a != d)
  · cases h2 : (b != e)
    · cases h3 : (c != f)
      · have hF := Lib.hid (show befB a b c d e f = false by simp [befB, h1, h2, h3])
        go_enter Try.func64, Try.ntmps64
        go_wp2_with fail
        refine wp_loop_rounds 4 ?_
        iterate 3 (rw [rounds_succ]; go_wp2; go_quiet (fail); go_wp2)
        rw [rounds_succ]; go_wp2
        go_ret
        exact ⟨ret_bool hF.out.symm, by repeat (first | exact DrawnFrom.refl _ | apply DrawnFrom.more)⟩
      · have hF := Lib.hid (show befB a b c d e f = decide (f < c) by simp [befB, h1, h2, h3])
        go_enter Try.func64, Try.ntmps64
        go_wp2_with fail
        refine wp_loop_rounds 4 ?_
        iterate 3 (rw [rounds_succ]; go_wp2; go_quiet (fail); go_wp2)
        go_quiet (fail)
        go_wp2
        go_ret
        exact ⟨ret_bool hF.out.symm, by repeat (first | exact DrawnFrom.refl _ | apply DrawnFrom.more)⟩
    · have hF := Lib.hid (show befB a b c d e f = decide (e < b) by simp [befB, h1, h2])
      go_enter Try.func64, Try.ntmps64
      go_wp2_with fail
      refine wp_loop_rounds 4 ?_
      iterate 2 (rw [rounds_succ]; go_wp2; go_quiet (fail); go_wp2)
      go_quiet (fail)
      go_wp2
      go_ret
      exact ⟨ret_bool hF.out.symm, by repeat (first | exact DrawnFrom.refl _ | apply DrawnFrom.more)⟩
  · have hF := Lib.hid (show befB a b c d e f = decide (d < a) by simp [befB, h1])
    go_enter Try.func64, Try.ntmps64
    go_wp2_with fail
    refine wp_loop_rounds 4 ?_
    rw [rounds_succ]; go_wp2; go_quiet (fail); go_wp2
    go_quiet (fail)
    go_wp2
    go_ret
    exact ⟨ret_bool hF.out.symm, by repeat (first | exact DrawnFrom.refl _ | apply DrawnFrom.more)⟩
theorem iGrt_is (r : Bool) (a b c d e f : Int) (h : befB a b c d e f = r) (w : World) :
    Calls Try.prog 64 #[.agg #[.int .i64 a, .int .i64 b, .int .i64 c], .agg #[.int .i64 d, .int .i64 e, .int .i64 f]] w fun x w' => x = .returned (.bool r) ∧ DrawnFrom ((w.alloc (Obj.cells #[.int .i64 a, .int .i64 b, .int .i64 c] 35)).alloc (Obj.cells #[.int .i64 d, .int .i64 e, .int .i64 f] 35)) w' := by
  subst h; exact iGrt a b c d e f w
theorem powB_split {n : Int} : (powB n = true ∧ 0 ≤ n ∧ n ≤ 9) ∨ (powB n = false ∧ (n < 0 ∨ (0 ≤ n ∧ 9 < n))) := by
  unfold powB
  by_cases h0 : n < 0
  · right; refine ⟨by simp; omega, .inl h0⟩
  · by_cases h9 : 9 < n
    · right; refine ⟨by simp; omega, .inr ⟨by omega, h9⟩⟩
    · left; refine ⟨by simp; omega, by omega, by omega⟩
set_option maxHeartbeats 4000000 in
theorem iFit (a b c t : Int) (w : World) :
    Calls Try.prog 63 #[.agg #[.int .i64 a, .int .i64 b, .int .i64 c, .int .i64 t]] w fun x w' => x = .returned (.bool (powsB a b c)) ∧ Below w.heap.size w w' := by
  have k0 := idx0
  have k1 := idx1
  have k2 := idx2
  rcases @powB_split a with ⟨h0, a0, a9⟩ | ⟨h0, ha⟩
  · rcases @powB_split b with ⟨h1, b0, b9⟩ | ⟨h1, hb⟩
    · rcases @powB_split c with ⟨h2, c0, c9⟩ | ⟨h2, hc⟩
      · have hF := Lib.hid (show powsB a b c = true by simp [powsB, h0, h1, h2])
        clear h0 h1 h2
        go_enter Try.func63, Try.ntmps63
        go_wp2_with fail
        refine wp_loop_rounds 4 ?_
        iterate 4 (rw [rounds_succ]; go_wp2)
        go_ret
        exact ⟨ret_bool hF.out.symm, by repeat (first | exact Below.refl _ _ | (refine Below.alloc ?_ (by simp <;> omega) _))⟩
      · have hF := Lib.hid (show powsB a b c = false by simp [powsB, h2])
        clear h0 h1 h2
        rcases hc with hc | ⟨hc0, hc⟩
        all_goals
          go_enter Try.func63, Try.ntmps63
          go_wp2_with fail
          refine wp_loop_rounds 4 ?_
          iterate 3 (rw [rounds_succ]; go_wp2)
          go_ret
          exact ⟨ret_bool hF.out.symm, by repeat (first | exact Below.refl _ _ | (refine Below.alloc ?_ (by simp <;> omega) _))⟩
    · have hF := Lib.hid (show powsB a b c = false by simp [powsB, h1])
      clear h0 h1
      rcases hb with hb | ⟨hb0, hb⟩
      all_goals
        go_enter Try.func63, Try.ntmps63
        go_wp2_with fail
        refine wp_loop_rounds 4 ?_
        iterate 2 (rw [rounds_succ]; go_wp2)
        go_ret
        exact ⟨ret_bool hF.out.symm, by repeat (first | exact Below.refl _ _ | (refine Below.alloc ?_ (by simp <;> omega) _))⟩
  · have hF := Lib.hid (show powsB a b c = false by simp [powsB, h0])
    clear h0
    rcases ha with ha | ⟨ha0, ha⟩
    all_goals
      go_enter Try.func63, Try.ntmps63
      go_wp2_with fail
      refine wp_loop_rounds 4 ?_
      rw [rounds_succ]; go_wp2
      go_ret
      exact ⟨ret_bool hF.out.symm, by repeat (first | exact Below.refl _ _ | (refine Below.alloc ?_ (by simp <;> omega) _))⟩
theorem iFit_is (r : Bool) (a b c t : Int) (h : powsB a b c = r) (w : World) :
    Calls Try.prog 63 #[.agg #[.int .i64 a, .int .i64 b, .int .i64 c, .int .i64 t]] w fun x w' => x = .returned (.bool r) ∧ Below w.heap.size w w' := by
  subst h; exact iFit a b c t w
end Go.Proofs.Ytmndcdcjjihecaa
