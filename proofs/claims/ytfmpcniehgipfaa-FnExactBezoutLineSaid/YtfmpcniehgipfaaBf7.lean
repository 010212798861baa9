/-
  The checks of elements on a slice of numbers. Conditions: the number is a prime, what the slice holds is known.
  Whether numbers are a line: of both. Conditions: what the slice holds is known.
-/
import Derived.Test.YtfmpcniehgipfaaBf3
import Derived.Test.YtfmpcniehgipfaaBf5
import Derived.Test.YtfmpcniehgipfaaBf2
namespace Go.Proofs.Ytfmpcniehgipfaa
set_option linter.unusedVariables false
open Go.RowKit
set_option maxHeartbeats 400000 in
theorem iAEr (p : Int) (hp0 : isP p = true) (v : Value) (zs : List Int) (w : World) (h : Ints w v zs) (hl : zs.length ≤ 1048576) :
    Calls Try.prog 66 #[.int .i64 p, v] w fun e w' => e = .returned (.bool (zs.all (isE p))) ∧ w = w' := by
  obtain ⟨_, a, cap, rfl, hd⟩ := h
  have hp := Lib.hid hp0
  have HD := Lib.hid hd
  clear hp0 hd
  go_enter Try.func66, Try.ntmps66
  go_wp2_with (go_at_call 115; refine (iPV_yes _ _ hp.out).mono ?_; rintro e w' ⟨rfl, rfl⟩)
  go_loop [12] (fun i => ∃ k : Nat, k ≤ zs.length ∧ i = .int .i64 k ∧ (zs.take k).all (isE p) = true) (fun i => zs.length - (intOf i).toNat)
  case atStart => exact ⟨0, Nat.zero_le _, rfl, by simp⟩
  case round =>
    obtain ⟨k, hk, rfl, hall⟩ := hrel
    have Hall := Lib.hid hall
    clear hall
    by_cases hlt : k < zs.length
    · rcases HD.out with h | ⟨b, off, rfl, _, hc⟩
      · rw [h] at hlt; simp at hlt
      have hck := hc k hlt
      clear hc
      have hz1 := all_take_no p zs k hlt
      have hz2 := all_snoc p zs k hlt
      generalize zs.getD k 0 = z at hck hz1 hz2
      cases hE : isE p z
      · have hz := Lib.hid (hz1 hE)
        clear hz1 hz2
        rcases isE_no hE with h1 | ⟨h1, h2⟩
        all_goals
          clear hE
          go_wp2
          go_ret
          exact ⟨ret_bool hz.out.symm, rfl⟩
      · obtain ⟨h1, h2⟩ := isE_iff.1 hE
        have hz := Lib.hid hz2
        clear hz1 hz2
        have hE' := Lib.hid hE
        clear hE
        go_wp2
        go_round
        case rel => exact ⟨k + 1, by omega, by go_num, by rw [hz.out, Hall.out, hE'.out]; rfl⟩
        case measure => simp [intOf]; omega
    · go_wp2
      go_ret
      exact ⟨ret_bool (by rw [← Hall.out, List.take_of_length_le (by omega)]), rfl⟩
set_option maxHeartbeats 400000 in
theorem sElr (p : Int) (hp0 : isP p = true) (v : Value) (zs : List Int) (w : World) (h : Ints w v zs) (hl : zs.length ≤ 1048576) :
    Calls Try.prog 65 #[.int .i64 p, v] w fun e w' => e = .returned (.bool (zs.all (isE p))) ∧ w = w' := by
  obtain ⟨_, a, cap, rfl, hd⟩ := h
  have HD := Lib.hid hd
  have hp := Lib.hid hp0
  have hb := isP_bd hp0
  obtain ⟨hb1, hb2⟩ := hb
  clear hd hp0
  go_enter Try.func65, Try.ntmps65
  go_wp2_with fail
  go_loop [9] (fun i => ∃ k : Nat, k ≤ zs.length ∧ i = .int .i64 k ∧ (zs.take k).all (isE p) = true) (fun i => zs.length - (intOf i).toNat)
  case atStart => exact ⟨0, Nat.zero_le _, rfl, by simp⟩
  case round =>
    obtain ⟨k, hk, rfl, hall⟩ := hrel
    have Hall := Lib.hid hall
    clear hall
    by_cases hlt : k < zs.length
    · rcases HD.out with h | ⟨b, off, rfl, _, hc⟩
      · rw [h] at hlt; simp at hlt
      have hck := hc k hlt
      clear hc
      have hz1 := all_take_no p zs k hlt
      have hz2 := all_snoc p zs k hlt
      generalize zs.getD k 0 = z at hck hz1 hz2
      cases hE : isE p z
      · have hz := Lib.hid (hz1 hE)
        have hB := Lib.hid (show (decide (0 ≤ z) && decide (z ≤ p - 1)) = false by have := isE_no hE; simp; omega)
        clear hz1 hz2 hE
        go_wp2_with (go_at_call 67; refine (sIn _ _ _ _).mono ?_; rw [hB.out]; rintro e w' ⟨rfl, rfl⟩)
        go_ret
        exact ⟨ret_bool hz.out.symm, rfl⟩
      · have hB := Lib.hid (show (decide (0 ≤ z) && decide (z ≤ p - 1)) = true by have := isE_iff.1 hE; simp; omega)
        have hz := Lib.hid hz2
        clear hz1 hz2
        have hE' := Lib.hid hE
        clear hE
        go_wp2_with (go_at_call 67; refine (sIn _ _ _ _).mono ?_; rw [hB.out]; rintro e w' ⟨rfl, rfl⟩)
        go_round
        case rel => exact ⟨k + 1, by omega, by go_num, by rw [hz.out, Hall.out, hE'.out]; rfl⟩
        case measure => simp [intOf]; omega
    · go_wp2_with (go_at_call 114; refine (sPV_yes _ _ hp.out).mono ?_; rintro e w' ⟨rfl, rfl⟩)
      go_ret
      exact ⟨ret_bool (by rw [← Hall.out, List.take_of_length_le (by omega)]), rfl⟩
end Go.Proofs.Ytfmpcniehgipfaa
namespace Go.Proofs.Ytfmpcniehgipfaa
set_option linter.unusedVariables false
open Go.RowKit
/-- whether numbers are a line -/
def lineB (p : Int) (L : List Int) : Bool := (isP p && L.all (isE p)) && (decide (L.length ≤ 10) && (decide (L.length = 0) || decide (cf L (L.length - 1) ≠ 0)))
theorem lineB_iff {p : Int} {L : List Int} : lineB p L = true ↔ isP p = true ∧ AllE p L ∧ L.length ≤ 10 ∧ Can L := by
  unfold lineB Can
  constructor
  · intro h
    simp only [Bool.and_eq_true, Bool.or_eq_true, decide_eq_true_eq] at h
    obtain ⟨⟨h1, h2⟩, h3, h4⟩ := h
    exact ⟨h1, allE_of (by have := isP_bd h1; omega) h2, h3, h4⟩
  · rintro ⟨h1, h2, h3, h4⟩
    simp only [Bool.and_eq_true, Bool.or_eq_true, decide_eq_true_eq]
    exact ⟨⟨h1, all_of h2⟩, h3, h4⟩
set_option maxHeartbeats 400000 in
theorem sElrN (p : Int) (hp0 : isP p = false) (v : Value) (zs : List Int) (w : World) (h : Ints w v zs) (hl : zs.length ≤ 1048576) :
    Calls Try.prog 65 #[.int .i64 p, v] w fun e w' => e = .returned (.bool false) ∧ w = w' := by
  obtain ⟨_, a, cap, rfl, hd⟩ := h
  have HD := Lib.hid hd
  have hp := Lib.hid hp0
  clear hd hp0
  go_enter Try.func65, Try.ntmps65
  go_wp2_with fail
  go_loop [9] (fun i => ∃ k : Nat, k ≤ zs.length ∧ i = .int .i64 k) (fun i => zs.length - (intOf i).toNat)
  case atStart => exact ⟨0, Nat.zero_le _, rfl⟩
  case round =>
    obtain ⟨k, hk, rfl⟩ := hrel
    by_cases hlt : k < zs.length
    · rcases HD.out with h | ⟨b, off, rfl, _, hc⟩
      · rw [h] at hlt; simp at hlt
      have hck := hc k hlt
      clear hc
      generalize zs.getD k 0 = z at hck
      by_cases hz0 : 0 ≤ z
      · by_cases hz1 : z ≤ wrap64 (p - 1)
        · have hB := Lib.hid (show (decide (0 ≤ z) && decide (z ≤ wrap64 (p - 1))) = true by simp [hz0, hz1])
          go_wp2_with (go_at_call 67; refine (sIn _ _ _ _).mono ?_; rw [hB.out]; rintro e w' ⟨rfl, rfl⟩)
          go_round
          case rel => exact ⟨k + 1, by omega, by go_num⟩
          case measure => simp [intOf]; omega
        · have hB := Lib.hid (show (decide (0 ≤ z) && decide (z ≤ wrap64 (p - 1))) = false by simp [hz1])
          go_wp2_with (go_at_call 67; refine (sIn _ _ _ _).mono ?_; rw [hB.out]; rintro e w' ⟨rfl, rfl⟩)
          go_ret
          exact ⟨rfl, rfl⟩
      · have hB := Lib.hid (show (decide (0 ≤ z) && decide (z ≤ wrap64 (p - 1))) = false by simp [hz0])
        go_wp2_with (go_at_call 67; refine (sIn _ _ _ _).mono ?_; rw [hB.out]; rintro e w' ⟨rfl, rfl⟩)
        go_ret
        exact ⟨rfl, rfl⟩
    · go_wp2_with (go_at_call 114; refine (sPV_no _ _ hp.out).mono ?_; rintro e w' ⟨rfl, rfl⟩)
      go_ret
      exact ⟨rfl, rfl⟩
theorem sElA (p : Int) (v : Value) (zs : List Int) (w : World) (h : Ints w v zs) (hl : zs.length ≤ 1048576) :
    Calls Try.prog 65 #[.int .i64 p, v] w fun e w' => e = .returned (.bool (isP p && zs.all (isE p))) ∧ w = w' := by
  cases hp : isP p
  · exact sElrN p hp v zs w h hl
  · exact sElr p hp v zs w h hl
theorem iAEA (p : Int) (v : Value) (zs : List Int) (w : World) (h : Ints w v zs) (hl : zs.length ≤ 1048576) :
    Calls Try.prog 66 #[.int .i64 p, v] w fun e w' => e = .returned (.bool (isP p && zs.all (isE p))) ∧ w = w' := by
  cases hp : isP p
  · exact iAE_no p hp v w
  · exact iAEr p hp v zs w h hl
/-- the last number's cell -/
theorem Ints.last {w : World} {a : Option Addr} {cap : Nat} {L : List Int} (h : Ints w (.slice a L.length cap) L) (hL : 0 < L.length) : ∃ g off, a = some ⟨g, off, none⟩ ∧ g < w.heap.size ∧ w.cell? ⟨g, off + (L.length - 1), none⟩ = some (.int .i64 (cf L (L.length - 1))) := by
  obtain ⟨_, a2, cap2, e, h2⟩ := h
  simp only [Value.slice.injEq] at e
  obtain ⟨rfl, _, rfl⟩ := e
  rcases h2 with h2 | ⟨g, off, ha, hg, hc⟩
  · rw [h2] at hL; simp at hL
  · exact ⟨g, off, ha, hg, hc _ (by omega)⟩
set_option maxHeartbeats 1000000 in
theorem sLineValid (p : Int) (v : Value) (L : List Int) (w : World) (h : Ints w v L) (hl : L.length ≤ 1048576) :
    Calls Try.prog 20 #[.int .i64 p, v] w fun e w' => e = .returned (.bool (lineB p L)) ∧ w = w' := by
  have HE := Lib.hid (sElA p v L w h hl)
  have hv0 := h
  obtain ⟨_, a, cap, rfl, _⟩ := hv0
  have HV := Lib.hid (show lineB p L = ((isP p && L.all (isE p)) && (decide (L.length ≤ 10) && (decide (L.length = 0) || decide (cf L (L.length - 1) ≠ 0)))) from rfl)
  obtain ⟨b, hb⟩ : ∃ b, b = (isP p && L.all (isE p)) := ⟨_, rfl⟩
  rw [HV.out, ← hb]
  rw [← hb] at HE
  clear HV hb
  cases b
  · go_enter Try.func20, Try.ntmps20
    go_wp2_with fail
    refine HE.out.mono ?_
    rintro e w2 ⟨rfl, rfl⟩
    go_wp2_with fail
    go_ret
    exact ⟨rfl, rfl⟩
  · by_cases h10 : L.length ≤ 10
    · by_cases h0 : L.length = 0
      · have HR := Lib.hid (show true = (true && (decide (L.length ≤ 10) && (decide (L.length = 0) || decide (cf L (L.length - 1) ≠ 0)))) by simp [h0])
        rw [← HR.out]
        clear HR
        rw [h0] at HE ⊢
        clear h h0 h10 hl
        go_enter Try.func20, Try.ntmps20
        go_wp2_with fail
        refine HE.out.mono ?_
        rintro e w2 ⟨rfl, rfl⟩
        go_wp2_with fail
        go_ret
        exact ⟨rfl, rfl⟩
      · obtain ⟨g, off, rfl, hg, hc⟩ := h.last (by omega)
        obtain ⟨m, hm⟩ : ∃ m, L.length = m + 1 := ⟨L.length - 1, by omega⟩
        obtain ⟨x, hx⟩ : ∃ x, x = cf L m := ⟨_, rfl⟩
        have HR := Lib.hid (show decide (x ≠ 0) = (true && (decide (L.length ≤ 10) && (decide (L.length = 0) || decide (cf L (L.length - 1) ≠ 0)))) by simp [hm, hx]; intro _; omega)
        rw [← HR.out]
        clear HR
        rw [hm] at HE hc h10 ⊢
        rw [show m + 1 - 1 = m from rfl, ← hx] at hc
        have hsub : ((m + 1 : Nat) : Int) - 1 = (m : Int) := by omega
        have hm10 : ((m + 1 : Nat) : Int) ≤ 10 := by omega
        have hmn : (((m + 1 : Nat) : Int) == 0) = false := by simp; omega
        have hm0 : (0 : Int) ≤ (m : Int) := by omega
        have hmlt : (m : Int) < ((m + 1 : Nat) : Int) := by omega
        clear h h0 h10 hl hm hx
        by_cases hx0 : x = 0
        · subst hx0
          go_enter Try.func20, Try.ntmps20
          go_wp2_with fail
          refine HE.out.mono ?_
          rintro e w2 ⟨rfl, rfl⟩
          go_wp2_with fail
          go_ret
          exact ⟨rfl, rfl⟩
        · have hxb : (x != 0) = true := by simpa using hx0
          have HR := Lib.hid (show decide (x ≠ 0) = true by simpa using hx0)
          rw [HR.out]
          clear hx0
          go_enter Try.func20, Try.ntmps20
          go_wp2_with fail
          refine HE.out.mono ?_
          rintro e w2 ⟨rfl, rfl⟩
          go_wp2_with fail
          go_ret
          exact ⟨rfl, rfl⟩
    · have HR := Lib.hid (show false = (true && (decide (L.length ≤ 10) && (decide (L.length = 0) || decide (cf L (L.length - 1) ≠ 0)))) by simp [h10])
      rw [← HR.out]
      have hm10 : ¬ (L.length : Int) ≤ 10 := by omega
      clear h h10 HR
      go_enter Try.func20, Try.ntmps20
      go_wp2_with fail
      refine HE.out.mono ?_
      rintro e w2 ⟨rfl, rfl⟩
      go_wp2_with fail
      go_ret
      exact ⟨rfl, rfl⟩
set_option maxHeartbeats 1000000 in
theorem iLineValid (p : Int) (v : Value) (L : List Int) (w : World) (h : Ints w v L) (hl : L.length ≤ 1048576) :
    Calls Try.prog 22 #[.int .i64 p, v] w fun e w' => e = .returned (.bool (lineB p L)) ∧ w = w' := by
  have HE := Lib.hid (iAEA p v L w h hl)
  have hv0 := h
  obtain ⟨_, a, cap, rfl, _⟩ := hv0
  have HV := Lib.hid (show lineB p L = ((isP p && L.all (isE p)) && (decide (L.length ≤ 10) && (decide (L.length = 0) || decide (cf L (L.length - 1) ≠ 0)))) from rfl)
  obtain ⟨b, hb⟩ : ∃ b, b = (isP p && L.all (isE p)) := ⟨_, rfl⟩
  rw [HV.out, ← hb]
  rw [← hb] at HE
  clear HV hb
  by_cases h10 : L.length ≤ 10
  · have hm10 : ¬ (L.length : Int) > 10 := by omega
    cases b
    · clear h
      go_enter Try.func22, Try.ntmps22
      go_wp2_with fail
      refine HE.out.mono ?_
      rintro e w2 ⟨rfl, rfl⟩
      go_wp2_with fail
      go_ret
      exact ⟨rfl, rfl⟩
    · by_cases h0 : L.length = 0
      · have HR := Lib.hid (show true = (true && (decide (L.length ≤ 10) && (decide (L.length = 0) || decide (cf L (L.length - 1) ≠ 0)))) by simp [h0])
        rw [← HR.out]
        clear HR
        rw [h0] at HE ⊢
        clear h h0 h10 hl hm10
        go_enter Try.func22, Try.ntmps22
        go_wp2_with fail
        refine HE.out.mono ?_
        rintro e w2 ⟨rfl, rfl⟩
        go_wp2_with fail
        go_ret
        exact ⟨rfl, rfl⟩
      · obtain ⟨g, off, rfl, hg, hc⟩ := h.last (by omega)
        obtain ⟨m, hm⟩ : ∃ m, L.length = m + 1 := ⟨L.length - 1, by omega⟩
        obtain ⟨x, hx⟩ : ∃ x, x = cf L m := ⟨_, rfl⟩
        have HR := Lib.hid (show decide (x ≠ 0) = (true && (decide (L.length ≤ 10) && (decide (L.length = 0) || decide (cf L (L.length - 1) ≠ 0)))) by simp [hm, hx]; intro _; omega)
        rw [← HR.out]
        clear HR
        rw [hm] at HE hc h10 hm10 ⊢
        rw [show m + 1 - 1 = m from rfl, ← hx] at hc
        have hsub : ((m + 1 : Nat) : Int) - 1 = (m : Int) := by omega
        have hmn : (((m + 1 : Nat) : Int) == 0) = false := by simp; omega
        have hm0 : (0 : Int) ≤ (m : Int) := by omega
        have hmlt : (m : Int) < ((m + 1 : Nat) : Int) := by omega
        clear h h0 h10 hl hm hx
        by_cases hx0 : x = 0
        · subst hx0
          go_enter Try.func22, Try.ntmps22
          go_wp2_with fail
          refine HE.out.mono ?_
          rintro e w2 ⟨rfl, rfl⟩
          go_wp2_with fail
          go_ret
          exact ⟨rfl, rfl⟩
        · have hxb : (x != 0) = true := by simpa using hx0
          have HR := Lib.hid (show decide (x ≠ 0) = true by simpa using hx0)
          rw [HR.out]
          clear hx0
          go_enter Try.func22, Try.ntmps22
          go_wp2_with fail
          refine HE.out.mono ?_
          rintro e w2 ⟨rfl, rfl⟩
          go_wp2_with fail
          go_ret
          exact ⟨rfl, rfl⟩
  · have HR := Lib.hid (show false = (b && (decide (L.length ≤ 10) && (decide (L.length = 0) || decide (cf L (L.length - 1) ≠ 0)))) by simp [h10])
    rw [← HR.out]
    have hm10 : (L.length : Int) > 10 := by omega
    clear h h10 HR HE
    go_enter Try.func22, Try.ntmps22
    go_wp2_with fail
    go_ret
    exact ⟨rfl, rfl⟩
theorem sLineValidB (p : Int) (v : Value) (L : List Int) (w : World) (h : Ints w v L) (hl : L.length ≤ 1048576) :
    Calls Try.prog 20 #[.int .i64 p, v] w fun e w' => e = .returned (.bool (lineB p L)) ∧ Below w.heap.size w w' :=
  (sLineValid p v L w h hl).mono fun e w' ⟨h, hw⟩ => ⟨h, hw ▸ Below.refl _ _⟩
theorem iLineValidB (p : Int) (v : Value) (L : List Int) (w : World) (h : Ints w v L) (hl : L.length ≤ 1048576) :
    Calls Try.prog 22 #[.int .i64 p, v] w fun e w' => e = .returned (.bool (lineB p L)) ∧ Below w.heap.size w w' :=
  (iLineValid p v L w h hl).mono fun e w' ⟨h, hw⟩ => ⟨h, hw ▸ Below.refl _ _⟩
end Go.Proofs.Ytfmpcniehgipfaa
