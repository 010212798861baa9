/-
  Contracts of PrimeValid, Reduce and the remainder, of the program and of the model. Conditions: arguments are 64-bit integers where said.
-/
import Derived.Test.YtmndcdcjjihecaaChecked
import Derived.Test.YtmndcdcjjihecaaFldMath
import Derived.WalkKit
import Derived.Lib.Hide
namespace Go.Proofs.Ytmndcdcjjihecaa
open Go.RowKit
theorem iPV_yes (p : Int) (w : World) (h : isP p = true) :
    Calls Try.prog 57 #[.int .i64 p] w fun e w' => e = .returned (.bool true) ∧ w = w' := by
  rcases isP_cases h with rfl | rfl | rfl | rfl | rfl | rfl
  all_goals
    clear h
    go_enter Try.func57, Try.ntmps57
    go_wp2
    go_ret
    exact ⟨rfl, rfl⟩
theorem iPV_no (p : Int) (w : World) (h : isP p = false) :
    Calls Try.prog 57 #[.int .i64 p] w fun e w' => e = .returned (.bool false) ∧ w = w' := by
  obtain ⟨h1, h2, h3, h4, h5, h6⟩ := isP_no h
  clear h
  go_enter Try.func57, Try.ntmps57
  go_wp2
  go_ret
  exact ⟨rfl, rfl⟩
theorem sPV_yes (p : Int) (w : World) (h : isP p = true) :
    Calls Try.prog 55 #[.int .i64 p] w fun e w' => e = .returned (.bool true) ∧ w = w' := by
  rcases isP_cases h with rfl | rfl | rfl | rfl | rfl | rfl
  all_goals
    clear h
    go_enter Try.func55, Try.ntmps55
    go_wp2
    go_ret
    exact ⟨rfl, rfl⟩
theorem sPV_no (p : Int) (w : World) (h : isP p = false) :
    Calls Try.prog 55 #[.int .i64 p] w fun e w' => e = .returned (.bool false) ∧ w = w' := by
  obtain ⟨h1, h2, h3, h4, h5, h6⟩ := isP_no h
  clear h
  go_enter Try.func55, Try.ntmps55
  go_wp2
  go_ret
  exact ⟨rfl, rfl⟩
theorem iPV (p : Int) (w : World) :
    Calls Try.prog 57 #[.int .i64 p] w fun e w' => e = .returned (.bool (isP p)) ∧ w = w' := by
  cases h : isP p
  · exact iPV_no p w h
  · exact iPV_yes p w h
theorem sPV (p : Int) (w : World) :
    Calls Try.prog 55 #[.int .i64 p] w fun e w' => e = .returned (.bool (isP p)) ∧ w = w' := by
  cases h : isP p
  · exact sPV_no p w h
  · exact sPV_yes p w h
theorem ret_int {a b : Int} (h : a = b) : Ending.returned (.int .i64 a) = .returned (.int .i64 b) := by rw [h]
theorem ret_bool {a b : Bool} (h : a = b) : Ending.returned (.bool a) = .returned (.bool b) := by rw [h]
theorem iRed (p n : Int) (w : World) (h : isP p = true) :
    Calls Try.prog 65 #[.int .i64 p, .int .i64 n] w fun e w' => e = .returned (.int .i64 (n % p)) ∧ w = w' := by
  have hb := isP_bd h
  have ht := tmod_bd n p (by omega)
  have hm := Lib.hid (tmod_add_mod n p (by omega))
  have hp := Lib.hid h
  obtain ⟨hb1, hb2⟩ := hb
  obtain ⟨ht1, ht2⟩ := ht
  clear h
  go_enter Try.func65, Try.ntmps65
  go_wp2_with (go_at_call 57; refine (iPV_yes _ _ hp.out).mono ?_; rintro e w' ⟨rfl, rfl⟩)
  go_ret
  exact ⟨ret_int hm.out, rfl⟩
theorem iRed_no (p n : Int) (w : World) (h : isP p = false) :
    Calls Try.prog 65 #[.int .i64 p, .int .i64 n] w fun e w' => e = .returned (.int .i64 (-1)) ∧ w = w' := by
  have hp := Lib.hid h
  clear h
  go_enter Try.func65, Try.ntmps65
  go_wp2_with (go_at_call 57; refine (iPV_no _ _ hp.out).mono ?_; rintro e w' ⟨rfl, rfl⟩)
  go_ret
  exact ⟨rfl, rfl⟩
/-- what Reduce returns, for all arguments -/
def red (p n : Int) : Int := if isP p = true then n % p else -1
theorem iRed_any (p n : Int) (w : World) :
    Calls Try.prog 65 #[.int .i64 p, .int .i64 n] w fun e w' => e = .returned (.int .i64 (red p n)) ∧ w = w' := by
  cases h : isP p
  · have : red p n = -1 := by simp [red, h]
    rw [this]; exact iRed_no p n w h
  · have : red p n = n % p := by simp [red, h]
    rw [this]; exact iRed p n w h
theorem sIn (n lo hi : Int) (w : World) :
    Calls Try.prog 56 #[.int .i64 n, .int .i64 lo, .int .i64 hi] w fun e w' => e = .returned (.bool (decide (lo ≤ n) && decide (n ≤ hi))) ∧ w = w' := by
  by_cases h1 : lo ≤ n
  · by_cases h2 : n ≤ hi
    · go_enter Try.func56, Try.ntmps56
      go_wp2
      go_ret
      exact ⟨by simp; omega, rfl⟩
    · go_enter Try.func56, Try.ntmps56
      go_wp2
      go_ret
      exact ⟨by simp; omega, rfl⟩
  · go_enter Try.func56, Try.ntmps56
    go_wp2
    go_ret
    exact ⟨by simp; omega, rfl⟩
end Go.Proofs.Ytmndcdcjjihecaa
