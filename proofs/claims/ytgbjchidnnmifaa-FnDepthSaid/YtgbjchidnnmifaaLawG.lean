/-
  The walk of the law FnDepth: it returns true. Conditions: the bytes can be read.
-/
import Derived.Test.YtgbjchidnnmifaaDrh
import Derived.Test.YtgbjchidnnmifaaDpM
import Derived.Test.YtgbjchidnnmifaaFdgI
import Derived.Test.YtgbjchidnnmifaaCstI
namespace Go.Proofs.Ytgbjchidnnmifaa
open Go.RowKit
theorem costV_bd {p : Int} {L : List Gt} (hv : circB p L = true) (kd : Int) : costV p L kd ≤ 60 := by
  obtain ⟨_, _, hl, _⟩ := circB_iff.1 hv
  have := cst_bd L (useF L) kd L.length
  simp only [costV, hv, if_true]
  omega
theorem two_bd {j : Nat} (h : j ≤ 10) : (1 : Int) ≤ 2 ^ j ∧ (2 : Int) ^ j ≤ 1024 := by
  have h1 : 2 ^ j ≤ 2 ^ 10 := Nat.pow_le_pow_right (by omega) h
  have h2 : 2 ^ 0 ≤ 2 ^ j := Nat.pow_le_pow_right (by omega) (Nat.zero_le j)
  rw [show (2 : Nat) ^ 10 = 1024 from rfl] at h1
  rw [show (2 : Nat) ^ 0 = 1 from rfl] at h2
  have e : (2 : Int) ^ j = ((2 ^ j : Nat) : Int) := (Int.natCast_pow 2 j).symm
  rw [e]
  generalize (2 : Nat) ^ j = x at h1 h2
  omega
theorem dep_parts {p : Int} {L : List Gt} (hv : circB p L = true) : ∃ (d g s : Int) (t n : Nat), depV p L = d ∧ degV p L = g ∧ costV p L 2 = s ∧ costV p L 3 = t ∧ 0 ≤ d ∧ 0 ≤ s ∧ s ≤ 60 ∧ t ≤ 60 ∧ d ≤ s + t ∧ (d == 0) = (s + (t : Int) == 0) ∧
    ((t ≤ 10 ∧ n = t) ∨ (10 < t ∧ n = 10)) ∧ ((n ≤ 9 ∧ g ≤ 2 ^ n ∧ (2 : Int) ^ n ≤ 1000) ∨ (n = 10 ∧ g ≤ 1000)) := by
  obtain ⟨h0, h1, h2, h3, h4, _, h6, h7⟩ := dep_law hv
  have b2 := costV_bd hv 2
  have b3 := costV_bd hv 3
  obtain ⟨t, ht⟩ := Int.eq_ofNat_of_zero_le h7
  rw [ht] at h1 h2 h3 b3
  rw [Int.toNat_natCast] at h3
  have hz : (depV p L == 0) = (costV p L 2 + (t : Int) == 0) := by
    rw [Bool.eq_iff_iff]; simp only [beq_iff_eq]; exact h2
  by_cases h10 : t ≤ 9
  · have hx : (2 : Int) ^ t ≤ 1000 := by
      have hb : (2 : Nat) ^ t ≤ 2 ^ 9 := Nat.pow_le_pow_right (by omega) h10
      rw [show (2 : Nat) ^ 9 = 512 from rfl] at hb
      have e : (2 : Int) ^ t = ((2 ^ t : Nat) : Int) := (Int.natCast_pow 2 t).symm
      rw [e]
      generalize (2 : Nat) ^ t = x at hb
      omega
    exact ⟨_, _, _, t, t, rfl, rfl, rfl, ht, h0, h6, b2, by omega, h1, hz, .inl ⟨by omega, rfl⟩, .inl ⟨h10, h3, hx⟩⟩
  · by_cases h11 : t ≤ 10
    · exact ⟨_, _, _, t, t, rfl, rfl, rfl, ht, h0, h6, b2, by omega, h1, hz, .inl ⟨h11, rfl⟩, .inr ⟨by omega, h4⟩⟩
    · exact ⟨_, _, _, t, 10, rfl, rfl, rfl, ht, h0, h6, b2, by omega, h1, hz, .inr ⟨by omega, rfl⟩, .inr ⟨rfl, h4⟩⟩
set_option maxRecDepth 100000 in
set_option maxHeartbeats 16000000 in
theorem wDepth_in (a : Option Addr) (len cap : Nat) (w : World) (h : ByteRow w a len cap) (hl : len ≤ 1048576) :
    Calls Try.prog 4 #[.slice a len cap] w fun e w' => e = .returned (.bool true) ∧ Below w.heap.size w w' := by
  have hh := Lib.hid h
  have hlp : (len : Int) ≤ 1048576 := by omega
  clear h
  go_enter Try.func4, Try.ntmps4
  go_wp2_with fail
  refine (drawDepthOf a len cap w hh.out).mono ?_
  rintro e w1 ⟨p, v, L, rfl, hp, hL, hO, hn, hb⟩
  have HG := Lib.hid hO.gats
  clear hO hn hp
  cases hv : circB p L
  · have E1 := Lib.hid (show depV p L = -1 by simp [depV, hv])
    have E2 := Lib.hid (show degV p L = -1 by simp [degV, hv])
    clear hv
    go_wp2_with (first
      | (go_at_call 13; refine (iDepthOf p _ L _ HG.out).mono ?_; rw [E1.out]; rintro e w9 ⟨rfl, hb9⟩; replace hb := hb.trans (hb9.mono hb.size); replace HG := Lib.hid (Gats.below HG.out hb9); clear hb9)
      | (go_at_call 15; refine (sDepthOf p _ L _ HG.out).mono ?_; rw [E1.out]; rintro e w9 ⟨rfl, hb9⟩; replace hb := hb.trans (hb9.mono hb.size); replace HG := Lib.hid (Gats.below HG.out hb9); clear hb9)
      | (go_at_call 14; refine (iFormalDegree p _ L _ HG.out).mono ?_; rw [E2.out]; rintro e w9 ⟨rfl, hb9⟩; replace hb := hb.trans (hb9.mono hb.size); replace HG := Lib.hid (Gats.below HG.out hb9); clear hb9)
      | (go_at_call 16; refine (sFormalDegree p _ L _ HG.out).mono ?_; rw [E2.out]; rintro e w9 ⟨rfl, hb9⟩; replace hb := hb.trans (hb9.mono hb.size); replace HG := Lib.hid (Gats.below HG.out hb9); clear hb9))
    go_ret
    exact ⟨rfl, hb⟩
  · obtain ⟨d, g, s, t, n, e1, e2, e3, e4, hd0, hs0, hs1, ht1, h1, h2, hn, h3⟩ := dep_parts hv
    have E1 := Lib.hid e1
    have E2 := Lib.hid e2
    have E3 := Lib.hid e3
    have E4 := Lib.hid e4
    have H2 := Lib.hid h2
    have H3 := Lib.hid h3
    have HN := Lib.hid hn
    have ht60 : (t : Int) ≤ 60 := by omega
    have ht0 : (0 : Int) ≤ (t : Int) := by omega
    have hw : IntKind.i64.wrap (s + (t : Int)) = s + (t : Int) := IntWalk.i64_in _ (by omega)
    clear e1 e2 e3 e4 h2 h3 hn hv
    go_upto_region 10 with (first
      | (go_at_call 13; refine (iDepthOf p _ L _ HG.out).mono ?_; rw [E1.out]; rintro e w9 ⟨rfl, hb9⟩; replace hb := hb.trans (hb9.mono hb.size); replace HG := Lib.hid (Gats.below HG.out hb9); clear hb9)
      | (go_at_call 15; refine (sDepthOf p _ L _ HG.out).mono ?_; rw [E1.out]; rintro e w9 ⟨rfl, hb9⟩; replace hb := hb.trans (hb9.mono hb.size); replace HG := Lib.hid (Gats.below HG.out hb9); clear hb9)
      | (go_at_call 14; refine (iFormalDegree p _ L _ HG.out).mono ?_; rw [E2.out]; rintro e w9 ⟨rfl, hb9⟩; replace hb := hb.trans (hb9.mono hb.size); replace HG := Lib.hid (Gats.below HG.out hb9); clear hb9)
      | (go_at_call 16; refine (sFormalDegree p _ L _ HG.out).mono ?_; rw [E2.out]; rintro e w9 ⟨rfl, hb9⟩; replace hb := hb.trans (hb9.mono hb.size); replace HG := Lib.hid (Gats.below HG.out hb9); clear hb9)
      | (go_at_call 17; refine (iCostOf p _ L _ HG.out).mono ?_; rw [E3.out, E4.out]; rintro e w9 ⟨rfl, hb9⟩; replace hb := hb.trans (hb9.mono hb.size); replace HG := Lib.hid (Gats.below HG.out hb9); clear hb9))
    rcases HN.out with ⟨hn, hnt⟩ | ⟨hn, hnt⟩
    · have hnp : (t : Int) ≤ 10 := by omega
      go_wp2_with fail
      go_loopw [9, 64] (fun h i wr => ∃ j : Nat, j ≤ n ∧ i = .int .i64 j ∧ h = .int .i64 (2 ^ j) ∧ Below w.heap.size w wr) (fun _ i _ => n - (intOf i).toNat)
      case atStart => exact ⟨0, by omega, rfl, by simp, hb⟩
      case round =>
        clear hb HG
        rename_i K' hK'
        have HK' := Lib.hid hK'
        clear hK'
        obtain ⟨j, hj, rfl, rfl, hb⟩ := hrel
        have hxb := two_bd (j := j) (by omega)
        obtain ⟨x, hx⟩ : ∃ x : Int, x = 2 ^ j := ⟨_, rfl⟩
        rw [← hx] at hxb ⊢
        have HXX := Lib.hid hx
        clear hx
        by_cases hlt : j < n
        · have hltp : (j : Int) < (t : Int) := by omega
          have hw2 : IntKind.i64.wrap (2 * x) = 2 * x := IntWalk.i64_in _ (by omega)
          go_wp2_with fail
          go_roundw
          case rel => exact ⟨j + 1, by omega, by go_num, by rw [HXX.out, Int.pow_succ, Int.mul_comm], hb⟩
          case measure => simp [intOf]; omega
        · have hltp : (t : Int) ≤ (j : Int) := by omega
          have hjn : j = n := by omega
          subst hjn
          have hK' := HK'.out
          rcases Bool.eq_false_or_eq_true (d == 0) with q1 | q1
          · have q2 : (s + (t : Int) == 0) = true := by rw [← H2.out]; exact q1
            rcases H3.out with ⟨_, g1, g2⟩ | ⟨g1, g2⟩
            · rw [← HXX.out] at g1 g2
              go_wp2_with fail
              go_ret
              exact ⟨rfl, hb⟩
            · have g3 : 1000 < x := by rw [HXX.out, g1]; decide
              go_wp2_with fail
              go_ret
              exact ⟨by simp, hb⟩
          · have q2 : (s + (t : Int) == 0) = false := by rw [← H2.out]; exact q1
            rcases H3.out with ⟨_, g1, g2⟩ | ⟨g1, g2⟩
            · rw [← HXX.out] at g1 g2
              go_wp2_with fail
              go_ret
              exact ⟨rfl, hb⟩
            · have g3 : 1000 < x := by rw [HXX.out, g1]; decide
              go_wp2_with fail
              go_ret
              exact ⟨by simp, hb⟩
    · have hnp : (10 : Int) < (t : Int) := by omega
      go_wp2_with fail
      go_loopw [9, 64] (fun h i wr => ∃ j : Nat, j ≤ n ∧ i = .int .i64 j ∧ h = .int .i64 (2 ^ j) ∧ Below w.heap.size w wr) (fun _ i _ => n - (intOf i).toNat)
      case atStart => exact ⟨0, by omega, rfl, by simp, hb⟩
      case round =>
        clear hb HG
        rename_i K' hK'
        have HK' := Lib.hid hK'
        clear hK'
        obtain ⟨j, hj, rfl, rfl, hb⟩ := hrel
        have hxb := two_bd (j := j) (by omega)
        obtain ⟨x, hx⟩ : ∃ x : Int, x = 2 ^ j := ⟨_, rfl⟩
        rw [← hx] at hxb ⊢
        have HXX := Lib.hid hx
        clear hx
        by_cases hlt : j < n
        · have hltp : (j : Int) < (10 : Int) := by omega
          have hw2 : IntKind.i64.wrap (2 * x) = 2 * x := IntWalk.i64_in _ (by omega)
          go_wp2_with fail
          go_roundw
          case rel => exact ⟨j + 1, by omega, by go_num, by rw [HXX.out, Int.pow_succ, Int.mul_comm], hb⟩
          case measure => simp [intOf]; omega
        · have hltp : (10 : Int) ≤ (j : Int) := by omega
          have hjn : j = n := by omega
          subst hjn
          have hK' := HK'.out
          rcases Bool.eq_false_or_eq_true (d == 0) with q1 | q1
          · have q2 : (s + (t : Int) == 0) = true := by rw [← H2.out]; exact q1
            rcases H3.out with ⟨g0, g1, g2⟩ | ⟨g1, g2⟩
            · exfalso; omega
            · have g3 : 1000 < x := by rw [HXX.out, g1]; decide
              go_wp2_with fail
              go_ret
              exact ⟨by simp, hb⟩
          · have q2 : (s + (t : Int) == 0) = false := by rw [← H2.out]; exact q1
            rcases H3.out with ⟨g0, g1, g2⟩ | ⟨g1, g2⟩
            · exfalso; omega
            · have g3 : 1000 < x := by rw [HXX.out, g1]; decide
              go_wp2_with fail
              go_ret
              exact ⟨by simp, hb⟩
theorem wDepth_long (a : Option Addr) (len cap : Nat) (w : World) (h : len ≤ cap ∧ cap ≤ 9223372036854775807) (hl : ¬ len ≤ 1048576) :
    Calls Try.prog 4 #[.slice a len cap] w fun e w' => e = .returned (.bool true) ∧ Below w.heap.size w w' := by
  obtain ⟨h1, h2⟩ := h
  go_enter Try.func4, Try.ntmps4
  go_wp2_with fail
  go_ret
  exact ⟨rfl, Below.refl _ _⟩
theorem wDepth (a : Option Addr) (len cap : Nat) (w : World) (h : ByteRow w a len cap) :
    Calls Try.prog 4 #[.slice a len cap] w fun e w' => e = .returned (.bool true) ∧ Below w.heap.size w w' := by
  by_cases hl : len ≤ 1048576
  · exact wDepth_in a len cap w h hl
  · exact wDepth_long a len cap w ⟨h.1, h.2.1⟩ hl
end Go.Proofs.Ytgbjchidnnmifaa
