/-
  Contracts of PrimeValid, Reduce and the remainder, of the program and of the model. Conditions: arguments are 64-bit integers where said.
  Contracts of the checks that take elements as variadic arguments. Conditions: the cells of the slice are known.
-/
import Derived.Test.YtfmpcniehgipfaaChecked
import Derived.Test.YtfmpcniehgipfaaBf2
import Derived.WalkKit
import Derived.Lib.Hide
namespace Go.Proofs.Ytfmpcniehgipfaa
open Go.RowKit
theorem iPV_yes (p : Int) (w : World) (h : isP p = true) :
    Calls Try.prog 115 #[.int .i64 p] w fun e w' => e = .returned (.bool true) ∧ w = w' := by
  rcases isP_cases h with rfl | rfl | rfl | rfl | rfl | rfl
  all_goals
    clear h
    go_enter Try.func115, Try.ntmps115
    go_wp2
    go_ret
    exact ⟨rfl, rfl⟩
theorem iPV_no (p : Int) (w : World) (h : isP p = false) :
    Calls Try.prog 115 #[.int .i64 p] w fun e w' => e = .returned (.bool false) ∧ w = w' := by
  obtain ⟨h1, h2, h3, h4, h5, h6⟩ := isP_no h
  clear h
  go_enter Try.func115, Try.ntmps115
  go_wp2
  go_ret
  exact ⟨rfl, rfl⟩
theorem sPV_yes (p : Int) (w : World) (h : isP p = true) :
    Calls Try.prog 114 #[.int .i64 p] w fun e w' => e = .returned (.bool true) ∧ w = w' := by
  rcases isP_cases h with rfl | rfl | rfl | rfl | rfl | rfl
  all_goals
    clear h
    go_enter Try.func114, Try.ntmps114
    go_wp2
    go_ret
    exact ⟨rfl, rfl⟩
theorem sPV_no (p : Int) (w : World) (h : isP p = false) :
    Calls Try.prog 114 #[.int .i64 p] w fun e w' => e = .returned (.bool false) ∧ w = w' := by
  obtain ⟨h1, h2, h3, h4, h5, h6⟩ := isP_no h
  clear h
  go_enter Try.func114, Try.ntmps114
  go_wp2
  go_ret
  exact ⟨rfl, rfl⟩
theorem iPV (p : Int) (w : World) :
    Calls Try.prog 115 #[.int .i64 p] w fun e w' => e = .returned (.bool (isP p)) ∧ w = w' := by
  cases h : isP p
  · exact iPV_no p w h
  · exact iPV_yes p w h
theorem sPV (p : Int) (w : World) :
    Calls Try.prog 114 #[.int .i64 p] w fun e w' => e = .returned (.bool (isP p)) ∧ w = w' := by
  cases h : isP p
  · exact sPV_no p w h
  · exact sPV_yes p w h
theorem ret_int {a b : Int} (h : a = b) : Ending.returned (.int .i64 a) = .returned (.int .i64 b) := by rw [h]
theorem ret_bool {a b : Bool} (h : a = b) : Ending.returned (.bool a) = .returned (.bool b) := by rw [h]
theorem sMod (p n : Int) (w : World) (h : isP p = true) :
    Calls Try.prog 82 #[.int .i64 p, .int .i64 n] w fun e w' => e = .returned (.int .i64 (n % p)) ∧ w = w' := by
  have hb := isP_bd h
  have ht := tmod_bd n p (by omega)
  have hm := Lib.hid (tmod_add_mod n p (by omega))
  obtain ⟨hb1, hb2⟩ := hb
  obtain ⟨ht1, ht2⟩ := ht
  clear h
  go_enter Try.func82, Try.ntmps82
  go_wp2
  go_ret
  exact ⟨ret_int hm.out, rfl⟩
theorem iRed (p n : Int) (w : World) (h : isP p = true) :
    Calls Try.prog 124 #[.int .i64 p, .int .i64 n] w fun e w' => e = .returned (.int .i64 (n % p)) ∧ w = w' := by
  have hb := isP_bd h
  have ht := tmod_bd n p (by omega)
  have hm := Lib.hid (tmod_add_mod n p (by omega))
  have hp := Lib.hid h
  obtain ⟨hb1, hb2⟩ := hb
  obtain ⟨ht1, ht2⟩ := ht
  clear h
  go_enter Try.func124, Try.ntmps124
  go_wp2_with (go_at_call 115; refine (iPV_yes _ _ hp.out).mono ?_; rintro e w' ⟨rfl, rfl⟩)
  go_ret
  exact ⟨ret_int hm.out, rfl⟩
theorem iRed_no (p n : Int) (w : World) (h : isP p = false) :
    Calls Try.prog 124 #[.int .i64 p, .int .i64 n] w fun e w' => e = .returned (.int .i64 (-1)) ∧ w = w' := by
  have hp := Lib.hid h
  clear h
  go_enter Try.func124, Try.ntmps124
  go_wp2_with (go_at_call 115; refine (iPV_no _ _ hp.out).mono ?_; rintro e w' ⟨rfl, rfl⟩)
  go_ret
  exact ⟨rfl, rfl⟩
/-- what Reduce returns, for all arguments -/
def red (p n : Int) : Int := if isP p = true then n % p else -1
theorem iRed_any (p n : Int) (w : World) :
    Calls Try.prog 124 #[.int .i64 p, .int .i64 n] w fun e w' => e = .returned (.int .i64 (red p n)) ∧ w = w' := by
  cases h : isP p
  · have : red p n = -1 := by simp [red, h]
    rw [this]; exact iRed_no p n w h
  · have : red p n = n % p := by simp [red, h]
    rw [this]; exact iRed p n w h
theorem sIn (n lo hi : Int) (w : World) :
    Calls Try.prog 67 #[.int .i64 n, .int .i64 lo, .int .i64 hi] w fun e w' => e = .returned (.bool (decide (lo ≤ n) && decide (n ≤ hi))) ∧ w = w' := by
  by_cases h1 : lo ≤ n
  · by_cases h2 : n ≤ hi
    · go_enter Try.func67, Try.ntmps67
      go_wp2
      go_ret
      exact ⟨by simp; omega, rfl⟩
    · go_enter Try.func67, Try.ntmps67
      go_wp2
      go_ret
      exact ⟨by simp; omega, rfl⟩
  · go_enter Try.func67, Try.ntmps67
    go_wp2
    go_ret
    exact ⟨by simp; omega, rfl⟩
end Go.Proofs.Ytfmpcniehgipfaa
namespace Go.Proofs.Ytfmpcniehgipfaa
open Go.RowKit
theorem all_snoc (p : Int) (zs : List Int) (k : Nat) (h : k < zs.length) : (zs.take (k + 1)).all (isE p) = ((zs.take k).all (isE p) && isE p (zs.getD k 0)) := by
  rw [List.take_succ_eq_append_getElem h, List.all_append]; simp [h]
theorem all_take_no (p : Int) (zs : List Int) (k : Nat) (h : k < zs.length) (hn : isE p (zs.getD k 0) = false) : zs.all (isE p) = false := by
  rw [List.all_eq_false]; exact ⟨zs[k], List.getElem_mem h, by simpa [h] using hn⟩
set_option maxHeartbeats 400000 in
theorem iAE_p (p : Int) (hp0 : isP p = true) (b off : Nat) (zs : List Int) (w : World) (hl : zs.length ≤ 1000000)
    (hc : ∀ k, k < zs.length → w.cell? ⟨b, off + k, none⟩ = some (.int .i64 (zs.getD k 0))) :
    Calls Try.prog 66 #[.int .i64 p, .slice (some ⟨b, off, none⟩) zs.length zs.length] w fun e w' => e = .returned (.bool (zs.all (isE p))) ∧ w = w' := by
  have hp := Lib.hid hp0
  have hC := Lib.hid hc
  clear hp0 hc
  go_enter Try.func66, Try.ntmps66
  go_wp2_with (go_at_call 115; refine (iPV_yes _ _ hp.out).mono ?_; rintro e w' ⟨rfl, rfl⟩)
  go_loop [12] (fun i => ∃ k : Nat, k ≤ zs.length ∧ i = .int .i64 k ∧ (zs.take k).all (isE p) = true) (fun i => zs.length - (intOf i).toNat)
  case atStart => exact ⟨0, Nat.zero_le _, rfl, by simp⟩
  case round =>
    obtain ⟨k, hk, rfl, hall⟩ := hrel
    have Hall := Lib.hid hall
    clear hall
    by_cases hlt : k < zs.length
    · have hck := hC.out k hlt
      have hz1 := all_take_no p zs k hlt
      have hz2 := all_snoc p zs k hlt
      generalize zs.getD k 0 = z at hck hz1 hz2
      cases hE : isE p z
      · have hz := Lib.hid (hz1 hE)
        clear hz1 hz2
        rcases isE_no hE with h1 | ⟨h1, h2⟩
        all_goals
          clear hE
          go_wp2
          go_ret
          exact ⟨ret_bool hz.out.symm, rfl⟩
      · obtain ⟨h1, h2⟩ := isE_iff.1 hE
        have hz := Lib.hid hz2
        clear hz1 hz2
        have hE' := Lib.hid hE
        clear hE
        go_wp2
        go_round
        case rel => exact ⟨k + 1, by omega, by go_num, by rw [hz.out, Hall.out, hE'.out]; rfl⟩
        case measure => simp [intOf]; omega
    · go_wp2
      go_ret
      exact ⟨ret_bool (by rw [← Hall.out, List.take_of_length_le (by omega)]), rfl⟩
theorem iAE_no (p : Int) (hp0 : isP p = false) (v : Value) (w : World) :
    Calls Try.prog 66 #[.int .i64 p, v] w fun e w' => e = .returned (.bool false) ∧ w = w' := by
  have hp := Lib.hid hp0
  clear hp0
  go_enter Try.func66, Try.ntmps66
  go_wp2_with (go_at_call 115; refine (iPV_no _ _ hp.out).mono ?_; rintro e w' ⟨rfl, rfl⟩)
  go_ret
  exact ⟨rfl, rfl⟩
set_option maxHeartbeats 400000 in
theorem sEl_p (p : Int) (hp0 : isP p = true) (b off : Nat) (zs : List Int) (w : World) (hl : zs.length ≤ 1000000)
    (hc : ∀ k, k < zs.length → w.cell? ⟨b, off + k, none⟩ = some (.int .i64 (zs.getD k 0))) :
    Calls Try.prog 65 #[.int .i64 p, .slice (some ⟨b, off, none⟩) zs.length zs.length] w fun e w' => e = .returned (.bool (zs.all (isE p))) ∧ w = w' := by
  have hC := Lib.hid hc
  have hp := Lib.hid hp0
  have hb := isP_bd hp0
  obtain ⟨hb1, hb2⟩ := hb
  clear hc hp0
  go_enter Try.func65, Try.ntmps65
  go_wp2_with fail
  go_loop [9] (fun i => ∃ k : Nat, k ≤ zs.length ∧ i = .int .i64 k ∧ (zs.take k).all (isE p) = true) (fun i => zs.length - (intOf i).toNat)
  case atStart => exact ⟨0, Nat.zero_le _, rfl, by simp⟩
  case round =>
    obtain ⟨k, hk, rfl, hall⟩ := hrel
    have Hall := Lib.hid hall
    clear hall
    by_cases hlt : k < zs.length
    · have hck := hC.out k hlt
      have hz1 := all_take_no p zs k hlt
      have hz2 := all_snoc p zs k hlt
      generalize zs.getD k 0 = z at hck hz1 hz2
      cases hE : isE p z
      · have hz := Lib.hid (hz1 hE)
        have hB := Lib.hid (show (decide (0 ≤ z) && decide (z ≤ p - 1)) = false by have := isE_no hE; simp; omega)
        clear hz1 hz2 hE
        go_wp2_with (go_at_call 67; refine (sIn _ _ _ _).mono ?_; rw [hB.out]; rintro e w' ⟨rfl, rfl⟩)
        go_ret
        exact ⟨ret_bool hz.out.symm, rfl⟩
      · have hB := Lib.hid (show (decide (0 ≤ z) && decide (z ≤ p - 1)) = true by have := isE_iff.1 hE; simp; omega)
        have hz := Lib.hid hz2
        clear hz1 hz2
        have hE' := Lib.hid hE
        clear hE
        go_wp2_with (go_at_call 67; refine (sIn _ _ _ _).mono ?_; rw [hB.out]; rintro e w' ⟨rfl, rfl⟩)
        go_round
        case rel => exact ⟨k + 1, by omega, by go_num, by rw [hz.out, Hall.out, hE'.out]; rfl⟩
        case measure => simp [intOf]; omega
    · go_wp2_with (go_at_call 114; refine (sPV_yes _ _ hp.out).mono ?_; rintro e w' ⟨rfl, rfl⟩)
      go_ret
      exact ⟨ret_bool (by rw [← Hall.out, List.take_of_length_le (by omega)]), rfl⟩


set_option maxHeartbeats 400000 in
theorem sEl_no (p : Int) (hp0 : isP p = false) (b off : Nat) (zs : List Int) (w : World) (hl : zs.length ≤ 1000000)
    (hc : ∀ k, k < zs.length → w.cell? ⟨b, off + k, none⟩ = some (.int .i64 (zs.getD k 0))) :
    Calls Try.prog 65 #[.int .i64 p, .slice (some ⟨b, off, none⟩) zs.length zs.length] w fun e w' => e = .returned (.bool false) ∧ w = w' := by
  have hC := Lib.hid hc
  have hp := Lib.hid hp0
  clear hc hp0
  go_enter Try.func65, Try.ntmps65
  go_wp2_with fail
  go_loop [9] (fun i => ∃ k : Nat, k ≤ zs.length ∧ i = .int .i64 k) (fun i => zs.length - (intOf i).toNat)
  case atStart => exact ⟨0, Nat.zero_le _, rfl⟩
  case round =>
    obtain ⟨k, hk, rfl⟩ := hrel
    by_cases hlt : k < zs.length
    · have hck := hC.out k hlt
      generalize zs.getD k 0 = z at hck
      by_cases hz0 : 0 ≤ z
      · by_cases hz1 : z ≤ wrap64 (p - 1)
        · have hB := Lib.hid (show (decide (0 ≤ z) && decide (z ≤ wrap64 (p - 1))) = true by simp [hz0, hz1])
          go_wp2_with (go_at_call 67; refine (sIn _ _ _ _).mono ?_; rw [hB.out]; rintro e w' ⟨rfl, rfl⟩)
          go_round
          case rel => exact ⟨k + 1, by omega, by go_num⟩
          case measure => simp [intOf]; omega
        · have hB := Lib.hid (show (decide (0 ≤ z) && decide (z ≤ wrap64 (p - 1))) = false by simp [hz1])
          go_wp2_with (go_at_call 67; refine (sIn _ _ _ _).mono ?_; rw [hB.out]; rintro e w' ⟨rfl, rfl⟩)
          go_ret
          exact ⟨rfl, rfl⟩
      · have hB := Lib.hid (show (decide (0 ≤ z) && decide (z ≤ wrap64 (p - 1))) = false by simp [hz0])
        go_wp2_with (go_at_call 67; refine (sIn _ _ _ _).mono ?_; rw [hB.out]; rintro e w' ⟨rfl, rfl⟩)
        go_ret
        exact ⟨rfl, rfl⟩
    · go_wp2_with (go_at_call 114; refine (sPV_no _ _ hp.out).mono ?_; rintro e w' ⟨rfl, rfl⟩)
      go_ret
      exact ⟨rfl, rfl⟩
end Go.Proofs.Ytfmpcniehgipfaa
