/-
  The walk of the law FnPower: it returns true. Conditions: the bytes can be read.
-/
import Derived.Test.YtpoemcigklanoaaDrw2
import Derived.Test.YtpoemcigklanoaaFldLaw
import Derived.Test.YtpoemcigklanoaaFldI
namespace Go.Proofs.Ytpoemcigklanoaa
open Go.RowKit
theorem powV_eq {p a n : Int} (hp : isP p = true) (a0 : 0 ≤ a) (a1 : a < p) (hn : 0 ≤ n) : powV p a n = a ^ n.toNat % p := by
  unfold powV; rw [if_pos ⟨isE1_iff.2 ⟨hp, a0, a1⟩, hn⟩]
theorem pow_laws : ∀ q ∈ [2, 3, 5, 7, 11, 13], ∀ a, a < q → a ≠ 0 →
    ((q - 1) % ((ordO (q : Nat) (a : Nat)).getD 0 + 1) = 0 ∧ a ^ (q - 1) % q = 1 ∧ a ^ q % q = a) := by
  decide +kernel
theorem ord_some {p a : Int} (hp : isP p = true) (a0 : 0 < a) (a1 : a < p) :
    ∃ m : Nat, ordV p a = (m : Int) + 1 ∧ (m : Int) < p - 1 ∧ a ^ (m + 1) % p = 1 ∧ (∀ j : Nat, j < m → a ^ (j + 1) % p ≠ 1) ∧ (p - 1) % ((m : Int) + 1) = 0 ∧ a ^ (p - 1).toNat % p = 1 ∧ a ^ p.toNat % p = a := by
  have hb := isP_bd hp
  have hE : isE1 p a = true := isE1_iff.2 ⟨hp, by omega, a1⟩
  have hs : (ordO p a).isSome = true := by rw [ord_fact hp (by omega) a1]; simp; omega
  obtain ⟨m, hm⟩ := Option.isSome_iff_exists.1 hs
  have hm2 := hm
  unfold ordO at hm2
  rw [List.find?_range_eq_some] at hm2
  obtain ⟨m1, m2, m3⟩ := hm2
  have hmp : (m : Int) < p - 1 := by simp at m2; omega
  obtain ⟨x, rfl⟩ := Int.eq_ofNat_of_zero_le (show 0 ≤ a by omega)
  obtain ⟨q, rfl⟩ := Int.eq_ofNat_of_zero_le (show 0 ≤ p by omega)
  have hq : q ∈ [2, 3, 5, 7, 11, 13] := by
    have := isP_cases hp
    simp only [List.mem_cons, List.not_mem_nil, or_false]
    omega
  obtain ⟨r1, r2, r3⟩ := pow_laws q hq x (by omega) (by omega)
  rw [hm] at r1
  simp only [Option.getD_some] at r1
  refine ⟨m, by simp [ordV, hE, ordN, hm], hmp, by simpa using m1, fun j hj => by simpa using m3 j hj, ?_, ?_, ?_⟩
  · have e : (q : Int) - 1 = ((q - 1 : Nat) : Int) := by omega
    have e2 : ((m : Int) + 1) = ((m + 1 : Nat) : Int) := by omega
    rw [e, e2, ← Int.natCast_emod, r1]; rfl
  · have e : ((q : Int) - 1).toNat = q - 1 := by omega
    have e2 : (x : Int) ^ (q - 1) % (q : Int) = ((x ^ (q - 1) % q : Nat) : Int) := by simp
    rw [e, e2, r2]; rfl
  · have e : ((q : Int)).toNat = q := by omega
    have e2 : (x : Int) ^ q % (q : Int) = ((x ^ q % q : Nat) : Int) := by simp
    rw [e, e2, r3]
theorem pow_repeat {p a : Int} {m : Nat} (h : a ^ (m + 1) % p = 1) (t r : Nat) : a ^ (r + (m + 1) * t) % p = a ^ r % p := by
  rw [Int.pow_add, Int.pow_mul, Int.mul_emod, ← pow_mod (a ^ (m + 1)) p t, h, Int.one_pow]
  rw [← Int.mul_emod, Int.mul_one]
theorem zero_pow (p n : Int) (hp : isP p = true) (hn : 0 ≤ n) : (powV p 0 n == 1) = (n == 0) := by
  have hb := isP_bd hp
  rw [powV_eq hp (by omega) (by omega) hn]
  by_cases h : n = 0
  · subst h
    rw [Int.toNat_zero, Int.pow_zero, Int.emod_eq_of_lt (by omega) (by omega)]; rfl
  · obtain ⟨k, hk⟩ : ∃ k : Nat, n.toNat = k + 1 := ⟨n.toNat - 1, by omega⟩
    rw [hk, Int.pow_succ, Int.mul_zero, Int.zero_emod]
    have : (n == 0) = false := by simpa using h
    rw [this]; rfl
theorem powV_no {p a n : Int} (h : ¬ (isE1 p a = true ∧ 0 ≤ n)) : powV p a n = -1 := by unfold powV; rw [if_neg h]
theorem powV_bd {p a n : Int} (hp : isP p = true) (a0 : 0 ≤ a) (a1 : a < p) (hn : 0 ≤ n) : 0 ≤ powV p a n ∧ powV p a n < p := by
  rw [powV_eq hp a0 a1 hn]; exact mod_in hp _
theorem pow_next {p a n : Int} (hp : isP p = true) (a0 : 0 < a) (a1 : a < p) (hn : 0 ≤ n) : mulV p (powV p a (n + 1)) (powV p a (p - 2)) = powV p a n := by
  have hb := isP_bd hp
  obtain ⟨m, _, _, _, _, _, h6, _⟩ := ord_some hp a0 a1
  obtain ⟨u0, u1⟩ := powV_bd hp (by omega) a1 (show 0 ≤ n + 1 by omega)
  obtain ⟨v0, v1⟩ := powV_bd hp (by omega) a1 (show 0 ≤ p - 2 by omega)
  rw [mulV_eq hp u0 u1 v0 v1, powV_eq hp (by omega) a1 (by omega), powV_eq hp (by omega) a1 (by omega), powV_eq hp (by omega) a1 hn]
  rw [← Int.mul_emod, ← Int.pow_add]
  have e : (n + 1).toNat + (p - 2).toNat = n.toNat + (p - 1).toNat := by omega
  rw [e, Int.pow_add, Int.mul_emod, h6, Int.mul_one, emod_emod']
set_option maxRecDepth 100000 in
set_option maxHeartbeats 4000000 in
theorem wPower_no (a : Option Addr) (len cap : Nat) (w : World) (h : ByteRow w a len cap) (hl : len ≤ 1048576) :
    Calls Try.prog 6 #[.slice a len cap] w fun e w' => e = .returned (.bool true) ∧ Below w.heap.size w w' := by
  have hh := Lib.hid h
  clear h
  go_enter Try.func6, Try.ntmps6
  go_wp2_with fail
  refine (drawPowerIn a len cap w hh.out).mono ?_
  rintro e w0 ⟨p, x, n, rfl, hp, hx, hn, hb⟩
  obtain ⟨hn0, hn1⟩ := hn
  by_cases hV : isE1 p x = true ∧ 0 ≤ n
  · obtain ⟨hE, hn2⟩ := hV
    obtain ⟨hP, x0, x1⟩ := isE1_iff.1 hE
    obtain ⟨p0, p1⟩ := isP_bd hP
    obtain ⟨v0, v1⟩ := powV_bd hP x0 x1 hn2
    by_cases hz : x = 0
    · subst hz
      have hO := Lib.hid (show ordV p 0 = -1 by
        have f := ord_fact hP (a := 0) (by omega) (by omega)
        have hno : ordO p 0 = none := by simpa using f
        simp [ordV, ordN, hno])
      have z1 := zero_pow p n hP hn2
      have HP := Lib.hid hP
      clear hE hP
      cases hn3 : (n == 0)
      · rw [hn3] at z1
        go_wp2_with (first | (go_at_call 35; refine (iPowerIn _ _ _ (by omega) _).mono ?_; rintro e w1 ⟨rfl, hb1⟩; replace hb := hb.trans (hb1.mono hb.size); clear hb1) | (go_at_call 38; refine (sPowerIn _ _ _ (by omega) _).mono ?_; rintro e w1 ⟨rfl, hb1⟩; replace hb := hb.trans (hb1.mono hb.size); clear hb1) | (go_at_call 37; refine (iOrder _ _ _).mono ?_; rw [hO.out]; rintro e w1 ⟨rfl, hb1⟩; replace hb := hb.trans (hb1.mono hb.size); clear hb1) | (go_at_call 39; refine (sOrder _ _ _).mono ?_; rw [hO.out]; rintro e w1 ⟨rfl, hb1⟩; replace hb := hb.trans (hb1.mono hb.size); clear hb1))
        go_ret
        exact ⟨rfl, hb⟩
      · rw [hn3] at z1
        go_wp2_with (first | (go_at_call 35; refine (iPowerIn _ _ _ (by omega) _).mono ?_; rintro e w1 ⟨rfl, hb1⟩; replace hb := hb.trans (hb1.mono hb.size); clear hb1) | (go_at_call 38; refine (sPowerIn _ _ _ (by omega) _).mono ?_; rintro e w1 ⟨rfl, hb1⟩; replace hb := hb.trans (hb1.mono hb.size); clear hb1) | (go_at_call 37; refine (iOrder _ _ _).mono ?_; rw [hO.out]; rintro e w1 ⟨rfl, hb1⟩; replace hb := hb.trans (hb1.mono hb.size); clear hb1) | (go_at_call 39; refine (sOrder _ _ _).mono ?_; rw [hO.out]; rintro e w1 ⟨rfl, hb1⟩; replace hb := hb.trans (hb1.mono hb.size); clear hb1))
        go_ret
        exact ⟨rfl, hb⟩
    · have hzb : (x == 0) = false := by simpa using hz
      obtain ⟨m, o1, o2, o3, o4, o5, o6, o7⟩ := ord_some hP (show 0 < x by omega) x1
      have hO := Lib.hid o1
      have O3 := Lib.hid o3
      have O4 := Lib.hid o4
      have t1 : ((p - 1) % ((m : Int) + 1) == 0) = true := by rw [o5]; rfl
      have t2 : (powV p x ((m : Int) + 1) == 1) = true := by
        rw [powV_eq hP x0 x1 (by omega), show ((m : Int) + 1).toNat = m + 1 by omega, o3]; rfl
      have q0 : 0 ≤ n % ((m : Int) + 1) := Int.emod_nonneg _ (by omega)
      have q1 : n % ((m : Int) + 1) ≤ 13 := by
        have := Int.emod_lt_of_pos n (show 0 < (m : Int) + 1 by omega)
        omega
      have t3 : (powV p x (n % ((m : Int) + 1)) == powV p x n) = true := by
        rw [powV_eq hP x0 x1 q0, powV_eq hP x0 x1 hn2]
        have hdm := Int.mul_ediv_add_emod n ((m : Int) + 1)
        have hd0 : 0 ≤ n / ((m : Int) + 1) := Int.ediv_nonneg hn2 (by omega)
        obtain ⟨t, ht⟩ := Int.eq_ofNat_of_zero_le hd0
        obtain ⟨r, hr⟩ := Int.eq_ofNat_of_zero_le q0
        rw [ht, hr] at hdm
        have e : n.toNat = r + (m + 1) * t := by
          have : n = ((r + (m + 1) * t : Nat) : Int) := by
            rw [← hdm]; simp; omega
          rw [this, Int.toNat_natCast]
        rw [hr, e, pow_repeat o3, Int.toNat_natCast]; simp
      have t4 : (mulV p (powV p x (n + 1)) (powV p x (p - 2)) == powV p x n) = true := by
        rw [pow_next hP (by omega) x1 hn2]; simp
      have t5 : (powV p x p == x) = true := by
        rw [powV_eq hP x0 x1 (by omega), o7]; simp
      have HP := Lib.hid hP
      clear o1 o3 o4 o5 o6 o7 hE hP hz
      go_wp2_with (first | (go_at_call 35; refine (iPowerIn _ _ _ (by omega) _).mono ?_; rintro e w1 ⟨rfl, hb1⟩; replace hb := hb.trans (hb1.mono hb.size); clear hb1) | (go_at_call 38; refine (sPowerIn _ _ _ (by omega) _).mono ?_; rintro e w1 ⟨rfl, hb1⟩; replace hb := hb.trans (hb1.mono hb.size); clear hb1) | (go_at_call 37; refine (iOrder _ _ _).mono ?_; rw [hO.out]; rintro e w1 ⟨rfl, hb1⟩; replace hb := hb.trans (hb1.mono hb.size); clear hb1) | (go_at_call 39; refine (sOrder _ _ _).mono ?_; rw [hO.out]; rintro e w1 ⟨rfl, hb1⟩; replace hb := hb.trans (hb1.mono hb.size); clear hb1))
      go_loopw [8] (fun i wr => ∃ k : Nat, 1 ≤ k ∧ k ≤ m + 1 ∧ i = .int .i64 k ∧ Below w.heap.size w wr) (fun i _ => m + 1 - (intOf i).toNat)
      case atStart => exact ⟨1, by omega, by omega, rfl, hb⟩
      case round =>
        clear hb
        obtain ⟨k, hk1, hk, rfl, hb⟩ := hrel
        by_cases hlt : k < m + 1
        · have u1 : (powV p x (k : Int) == 1) = false := by
            rw [powV_eq HP.out x0 x1 (by omega)]
            have e : ((k : Int)).toNat = (k - 1) + 1 := by omega
            rw [e]; simpa using O4.out (k - 1) (by omega)
          go_wp2_with (go_at_call 35; refine (iPowerIn _ _ _ (by omega) _).mono ?_; rintro e w1 ⟨rfl, hb1⟩; replace hb := hb.trans (hb1.mono hb.size); clear hb1)
          go_roundw
          case rel => exact ⟨k + 1, by omega, by omega, by go_num, hb⟩
          case measure => simp [intOf]; omega
        · by_cases hn3 : n < 1000
          · go_wp2_with (first | (go_at_call 35; refine (iPowerIn _ _ _ (by omega) _).mono ?_; rintro e w1 ⟨rfl, hb1⟩; replace hb := hb.trans (hb1.mono hb.size); clear hb1) | (go_at_call 20; refine (iMul _ _ _ _).mono ?_; rintro e w1 ⟨rfl, hb1⟩; replace hb := hb.trans (hb1.mono hb.size); clear hb1))
            go_ret
            exact ⟨rfl, hb⟩
          · go_wp2_with (first | (go_at_call 35; refine (iPowerIn _ _ _ (by omega) _).mono ?_; rintro e w1 ⟨rfl, hb1⟩; replace hb := hb.trans (hb1.mono hb.size); clear hb1) | (go_at_call 20; refine (iMul _ _ _ _).mono ?_; rintro e w1 ⟨rfl, hb1⟩; replace hb := hb.trans (hb1.mono hb.size); clear hb1))
            go_ret
            exact ⟨rfl, hb⟩
  · have hneg : powV p x n < 0 := by rw [powV_no hV]; omega
    clear hV
    go_wp2_with (first | (go_at_call 35; refine (iPowerIn _ _ _ (by omega) _).mono ?_; rintro e w1 ⟨rfl, hb1⟩; replace hb := hb.trans (hb1.mono hb.size); clear hb1) | (go_at_call 38; refine (sPowerIn _ _ _ (by omega) _).mono ?_; rintro e w1 ⟨rfl, hb1⟩; replace hb := hb.trans (hb1.mono hb.size); clear hb1) | (go_at_call 37; refine (iOrder _ _ _).mono ?_; rintro e w1 ⟨rfl, hb1⟩; replace hb := hb.trans (hb1.mono hb.size); clear hb1) | (go_at_call 39; refine (sOrder _ _ _).mono ?_; rintro e w1 ⟨rfl, hb1⟩; replace hb := hb.trans (hb1.mono hb.size); clear hb1))
    go_ret
    exact ⟨rfl, hb⟩
theorem wPower_long (a : Option Addr) (len cap : Nat) (w : World) (h : len ≤ cap ∧ cap ≤ 9223372036854775807) (hl : ¬ len ≤ 1048576) :
    Calls Try.prog 6 #[.slice a len cap] w fun e w' => e = .returned (.bool true) ∧ Below w.heap.size w w' := by
  obtain ⟨h1, h2⟩ := h
  go_enter Try.func6, Try.ntmps6
  go_wp2_with fail
  go_ret
  exact ⟨rfl, Below.refl _ _⟩
theorem wPower (a : Option Addr) (len cap : Nat) (w : World) (h : ByteRow w a len cap) :
    Calls Try.prog 6 #[.slice a len cap] w fun e w' => e = .returned (.bool true) ∧ Below w.heap.size w w' := by
  by_cases hl : len ≤ 1048576
  · exact wPower_no a len cap w h hl
  · exact wPower_long a len cap w ⟨h.1, h.2.1⟩ hl
end Go.Proofs.Ytpoemcigklanoaa
