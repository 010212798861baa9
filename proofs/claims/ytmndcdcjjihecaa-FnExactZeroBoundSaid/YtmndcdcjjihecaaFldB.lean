/-
  Contracts of the checks that take elements as variadic arguments. Conditions: the cells of the slice are known.
-/
import Derived.Test.YtmndcdcjjihecaaFldA
namespace Go.Proofs.Ytmndcdcjjihecaa
open Go.RowKit
theorem all_snoc (p : Int) (zs : List Int) (k : Nat) (h : k < zs.length) : (zs.take (k + 1)).all (isE p) = ((zs.take k).all (isE p) && isE p (zs.getD k 0)) := by
  rw [List.take_succ_eq_append_getElem h, List.all_append]; simp [h]
theorem all_take_no (p : Int) (zs : List Int) (k : Nat) (h : k < zs.length) (hn : isE p (zs.getD k 0) = false) : zs.all (isE p) = false := by
  rw [List.all_eq_false]; exact ⟨zs[k], List.getElem_mem h, by simpa [h] using hn⟩
set_option maxHeartbeats 400000 in
theorem iAE_p (p : Int) (hp0 : isP p = true) (b off : Nat) (zs : List Int) (w : World) (hl : zs.length ≤ 1000000)
    (hc : ∀ k, k < zs.length → w.cell? ⟨b, off + k, none⟩ = some (.int .i64 (zs.getD k 0))) :
    Calls Try.prog 62 #[.int .i64 p, .slice (some ⟨b, off, none⟩) zs.length zs.length] w fun e w' => e = .returned (.bool (zs.all (isE p))) ∧ w = w' := by
  have hp := Lib.hid hp0
  have hC := Lib.hid hc
  clear hp0 hc
  go_enter Try.func62, Try.ntmps62
  go_wp2_with (go_at_call 57; refine (iPV_yes _ _ hp.out).mono ?_; rintro e w' ⟨rfl, rfl⟩)
  go_loop [12] (fun i => ∃ k : Nat, k ≤ zs.length ∧ i = .int .i64 k ∧ (zs.take k).all (isE p) = true) (fun i => zs.length - (intOf i).toNat)
  case atStart => exact ⟨0, Nat.zero_le _, rfl, by simp⟩
  case round =>
    obtain ⟨k, hk, rfl, hall⟩ := hrel
    have Hall := Lib.hid hall
    clear hall
    by_cases hlt : k < zs.length
    · have hck := hC.out k hlt
      have hz1 := all_take_no p zs k hlt
      have hz2 := all_snoc p zs k hlt
      generalize zs.getD k 0 = z at hck hz1 hz2
      cases hE : isE p z
      · have hz := Lib.hid (hz1 hE)
        clear hz1 hz2
        rcases isE_no hE with h1 | ⟨h1, h2⟩
        all_goals
          clear hE
          go_wp2
          go_ret
          exact ⟨ret_bool hz.out.symm, rfl⟩
      · obtain ⟨h1, h2⟩ := isE_iff.1 hE
        have hz := Lib.hid hz2
        clear hz1 hz2
        have hE' := Lib.hid hE
        clear hE
        go_wp2
        go_round
        case rel => exact ⟨k + 1, by omega, by go_num, by rw [hz.out, Hall.out, hE'.out]; rfl⟩
        case measure => simp [intOf]; omega
    · go_wp2
      go_ret
      exact ⟨ret_bool (by rw [← Hall.out, List.take_of_length_le (by omega)]), rfl⟩
theorem iAE_no (p : Int) (hp0 : isP p = false) (v : Value) (w : World) :
    Calls Try.prog 62 #[.int .i64 p, v] w fun e w' => e = .returned (.bool false) ∧ w = w' := by
  have hp := Lib.hid hp0
  clear hp0
  go_enter Try.func62, Try.ntmps62
  go_wp2_with (go_at_call 57; refine (iPV_no _ _ hp.out).mono ?_; rintro e w' ⟨rfl, rfl⟩)
  go_ret
  exact ⟨rfl, rfl⟩
end Go.Proofs.Ytmndcdcjjihecaa
