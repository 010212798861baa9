/-
  Contracts of the order of an element and of the least generator, of both. Conditions: none.
-/
import Derived.Test.YtpoemcigklanoaaFldH
namespace Go.Proofs.Ytpoemcigklanoaa
open Go.RowKit
/-- the first number n such that the power with the exponent n + 1 is 1 -/
def ordO (p a : Int) : Option Nat := (List.range (p - 1).toNat).find? fun n => a ^ (n + 1) % p == 1
theorem ordO_some {p a : Int} {k : Nat} (hk : (k : Int) < p - 1) (h : (a ^ (k + 1) % p == 1) = true) (hl : ∀ j : Nat, j < k → (a ^ (j + 1) % p == 1) = false) : ordO p a = some k := by
  unfold ordO
  rw [List.find?_range_eq_some]
  refine ⟨by simpa using h, by simp; omega, ?_⟩
  intro j hj
  simp [hl j hj]
theorem ordO_none {p a : Int} (hl : ∀ j : Nat, (j : Int) < p - 1 → (a ^ (j + 1) % p == 1) = false) : ordO p a = none := by
  unfold ordO
  rw [List.find?_range_eq_none]
  intro j hj
  simp [hl j (by omega)]
/-- the order of an element, -1 if there is none -/
def ordN (p a : Int) : Int := match ordO p a with
  | some n => (n : Int) + 1
  | none => -1
theorem ord_all : ∀ q ∈ [2, 3, 5, 7, 11, 13], ∀ b, b < q → (ordO (q : Nat) (b : Nat)).isSome = (b != 0) := by
  decide +kernel
theorem ord_fact {p a : Int} (h : isP p = true) (h0 : 0 ≤ a) (h1 : a < p) : (ordO p a).isSome = (a != 0) := by
  obtain ⟨b, rfl⟩ := Int.eq_ofNat_of_zero_le h0
  obtain ⟨q, rfl⟩ := Int.eq_ofNat_of_zero_le (show 0 ≤ p by have := isP_bd h; omega)
  have hq : q ∈ [2, 3, 5, 7, 11, 13] := by
    have := isP_cases h
    simp only [List.mem_cons, List.not_mem_nil, or_false]
    omega
  rw [ord_all q hq b (by omega)]
  cases b <;> rfl
set_option maxHeartbeats 1000000 in
theorem iOrd (p a : Int) (hp0 : isP p = true) (ha0 : 0 ≤ a) (ha1 : a < p) (w : World) :
    Calls Try.prog 65 #[(.agg #[.int .i64 (p), .int .i64 (a)])] w fun e w' => e = .returned (.int .i64 (ordN p a)) ∧ Below w.heap.size w w' := by
  have hp := Lib.hid hp0
  obtain ⟨hpb1, hpb2⟩ := isP_bd hp0
  clear hp0
  have hf := fld1
  go_enter Try.func65, Try.ntmps65
  go_wp2_with fail
  go_loopw [7] (fun i wr => ∃ k : Nat, (k : Int) ≤ p - 1 ∧ i = .int .i64 k ∧ (∀ j : Nat, j < k → (a ^ (j + 1) % p == 1) = false) ∧ Below (w.heap.size + 1) (w.alloc (Obj.cells #[Value.int IntKind.i64 p, Value.int IntKind.i64 a] 48)) wr) (fun i _ => p.toNat - (intOf i).toNat)
  case atStart => exact ⟨0, by omega, rfl, fun j hj => by omega, Below.refl _ _⟩
  case round =>
    obtain ⟨k, hk, rfl, hall, hR⟩ := hrel
    have Hall := Lib.hid hall
    clear hall
    have c0 : wr.cell? ⟨w.heap.size, 0, none⟩ = some (.int .i64 p) := by rw [(bcell hR).1 _ _ (by omega)]; simp [go_sem]
    have c1 : wr.cell? ⟨w.heap.size, 1, none⟩ = some (.int .i64 a) := by rw [(bcell hR).1 _ _ (by omega)]; simp [go_sem]
    have hz : w.heap.size + 1 ≤ wr.heap.size := by have := hR.size; simp at this; omega
    have hlow : Below w.heap.size w wr := ((Below.refl _ _).alloc (Nat.le_refl _) _).trans (hR.mono (by omega))
    by_cases hlt : (k : Int) < p - 1
    · go_wp2_with fail
      refine (iPow p a (k + 1) hp.out ha0 ha1 (by omega) (by omega) _).mono ?_
      rintro e w1 ⟨rfl, hb1⟩
      have hek : ((k : Int) + 1).toNat = k + 1 := by omega
      rw [hek]
      clear hek
      have hR1 := Lib.hid (hR.trans (hb1.mono hz))
      have hlow1 := hlow.trans (hb1.mono (by omega))
      clear hR hlow hb1 hz c0 c1
      cases h1 : (a ^ (k + 1) % p == 1)
      · have Hb := Lib.hid h1
        go_wp2
        go_roundw
        case rel => exact ⟨k + 1, by omega, by go_num, (fun j hj => by by_cases e : j = k; · rw [e]; exact Hb.out
                                                                       · exact Hall.out j (by omega)), hR1.out⟩
        case measure => simp [intOf]; omega
      · have hres := Lib.hid (ordO_some hlt h1 Hall.out)
        go_wp2
        go_ret
        exact ⟨ret_int (by unfold ordN; rw [hres.out]), hlow1⟩
    · have hres := Lib.hid (ordO_none (p := p) (a := a) (fun j hj => Hall.out j (by omega)))
      go_wp2
      go_ret
      exact ⟨ret_int (by unfold ordN; rw [hres.out]), hlow⟩

/-- what OrderIn returns, for all arguments -/
def ordV (p a : Int) : Int := if isE1 p a = true then ordN p a else -1
set_option maxHeartbeats 400000 in
theorem iOrder (p a : Int) (w : World) :
    Calls Try.prog 37 #[.int .i64 p, .int .i64 a] w fun e w' => e = .returned (.int .i64 (ordV p a)) ∧ Below w.heap.size w w' := by
  cases hE : isE1 p a
  · have hv := Lib.hid (show -1 = ordV p a by simp [ordV, hE])
    have hB := Lib.hid hE
    clear hE
    go_enter Try.func37, Try.ntmps37
    go_wp2_with (go_at_call 52; refine (iAE1 p a _ _ (by simp)).mono ?_; rw [hB.out]; rintro e w' ⟨rfl, rfl⟩)
    go_ret
    exact ⟨ret_int hv.out, by repeat (first | exact Below.refl _ _ | apply Below.drew | (refine Below.alloc ?_ (by simp <;> omega) _))⟩
  · have hv := Lib.hid (show ordN p a = ordV p a by simp [ordV, hE])
    obtain ⟨hp, a0, a1⟩ := isE1_iff.1 hE
    have hP := Lib.hid hp
    have hB := Lib.hid hE
    clear hE hp
    go_enter Try.func37, Try.ntmps37
    go_wp2_with (first | (go_at_call 52; refine (iAE1 p a _ _ (by simp)).mono ?_; rw [hB.out]; rintro e w' ⟨rfl, rfl⟩) | (go_at_call 65; refine (iOrd p a hP.out a0 a1 _).mono ?_; rintro e w1 ⟨rfl, hb1⟩))
    go_ret
    exact ⟨ret_int hv.out, by repeat (first | exact Below.refl _ _ | apply Below.drew | (refine Below.trans ?_ (Below.mono hb1 (by simp <;> omega))) | (refine Below.alloc ?_ (by simp <;> omega) _))⟩
theorem pow_one' (p a : Int) (h0 : 0 ≤ a) (h1 : a < p) : a = a ^ (0 + 1) % p := by
  rw [Int.pow_succ, Int.pow_zero, Int.one_mul, Int.emod_eq_of_lt h0 h1]
set_option maxHeartbeats 1000000 in
theorem sOrder (p a : Int) (w : World) :
    Calls Try.prog 39 #[.int .i64 p, .int .i64 a] w fun e w' => e = .returned (.int .i64 (ordV p a)) ∧ Below w.heap.size w w' := by
  cases hE : isE1 p a
  · have hv := Lib.hid (show -1 = ordV p a by simp [ordV, hE])
    have hB := Lib.hid hE
    clear hE
    go_enter Try.func39, Try.ntmps39
    go_wp2_with (go_at_call 55; refine (sEl1 p a _ _ (by simp)).mono ?_; rw [hB.out]; rintro e w' ⟨rfl, rfl⟩)
    go_ret
    exact ⟨ret_int hv.out, by repeat (first | exact Below.refl _ _ | apply Below.drew | (refine Below.alloc ?_ (by simp <;> omega) _))⟩
  · obtain ⟨hp, a0, a1⟩ := isE1_iff.1 hE
    have hP := Lib.hid hp
    have f1 := ord_fact hp a0 a1
    by_cases ha : a = 0
    · subst ha
      have hs : (ordO p 0).isSome = false := by rw [f1]; rfl
      have hn : ordO p 0 = none := by simpa using hs
      have hv := Lib.hid (show -1 = ordV p 0 by simp [ordV, hE, ordN, hn])
      have hB := Lib.hid hE
      clear hE hp f1 hs hn
      go_enter Try.func39, Try.ntmps39
      go_wp2_with (go_at_call 55; refine (sEl1 p 0 _ _ (by simp)).mono ?_; rw [hB.out]; rintro e w' ⟨rfl, rfl⟩)
      go_ret
      exact ⟨ret_int hv.out, by repeat (first | exact Below.refl _ _ | apply Below.drew | (refine Below.alloc ?_ (by simp <;> omega) _))⟩
    · have hb : (a == 0) = false := by simpa using ha
      have hs : (ordO p a).isSome = true := by rw [f1]; simpa using ha
      obtain ⟨m, hm⟩ := Option.isSome_iff_exists.1 hs
      have hv := Lib.hid (show (m : Int) + 1 = ordV p a by simp [ordV, hE, ordN, hm])
      have hm2 := hm
      unfold ordO at hm2
      rw [List.find?_range_eq_some] at hm2
      obtain ⟨m1, m2, m3⟩ := hm2
      have hmp : (m : Int) < p - 1 := by simp at m2; omega
      have Hm1 := Lib.hid (show a ^ (m + 1) % p = 1 by simpa using m1)
      have Hm3 : Hid (∀ j : Nat, j < m → (a ^ (j + 1) % p == 1) = false) := Lib.hid (fun j hj => by simpa using m3 j hj)
      obtain ⟨hpb1, hpb2⟩ := isP_bd hp
      have hB := Lib.hid hE
      clear hE hp f1 hs ha hm m1 m2 m3
      go_enter Try.func39, Try.ntmps39
      go_wp2_with (go_at_call 55; refine (sEl1 p a _ _ (by simp)).mono ?_; rw [hB.out]; rintro e w' ⟨rfl, rfl⟩)
      go_loop [5, 6] (fun n b => ∃ k : Nat, k ≤ m ∧ n = .int .i64 ((k : Int) + 1) ∧ b = .int .i64 (a ^ (k + 1) % p)) (fun n _ => m + 1 - (intOf n).toNat)
      case atStart => exact ⟨0, by omega, rfl, by rw [← pow_one' p a a0 a1]⟩
      case round =>
        obtain ⟨k, hk, rfl, rfl⟩ := hrel
        have hx0 : 0 ≤ a ^ (k + 1) % p := Int.emod_nonneg _ (by omega)
        have hx1 : a ^ (k + 1) % p < p := Int.emod_lt_of_pos _ (by omega)
        obtain ⟨g0, g1⟩ := mul_bd hP.out hx0 hx1 a0 a1
        have hst := Lib.hid (pow_step p a (k + 1))
        by_cases hkm : k < m
        · have hne : (a ^ (k + 1) % p != 1) = true := by simpa using Hm3.out k hkm
          generalize a ^ (k + 1) % p = x at *
          go_wp2
          go_round
          case rel => exact ⟨k + 1, by omega, by go_num, by rw [hst.out]⟩
          case measure => simp [intOf]; omega
        · have hkm2 : k = m := by omega
          have hne : (a ^ (k + 1) % p != 1) = false := by rw [hkm2, Hm1.out]; rfl
          have Hk := Lib.hid hkm2
          clear hkm2
          generalize a ^ (k + 1) % p = x at *
          go_wp2
          go_ret
          exact ⟨ret_int (by rw [← hv.out, Hk.out]), by repeat (first | exact Below.refl _ _ | apply Below.drew | (refine Below.alloc ?_ (by simp <;> omega) _))⟩
/-- the least element whose order is p minus 1 -/
def genO (p : Int) : Option Nat := (List.range p.toNat).find? fun n => ordN p n == p - 1
def genV (p : Int) : Int := if isP p = true then (match genO p with | some n => (n : Int) | none => -1) else -1
theorem genO_some {p : Int} {k : Nat} (hk : (k : Int) < p) (h : (ordN p k == p - 1) = true) (hl : ∀ j : Nat, j < k → (ordN p j == p - 1) = false) : genO p = some k := by
  unfold genO
  rw [List.find?_range_eq_some]
  refine ⟨by simpa using h, by simp; omega, ?_⟩
  intro j hj
  simp [hl j hj]
theorem genO_none {p : Int} (hl : ∀ j : Nat, (j : Int) < p → (ordN p j == p - 1) = false) : genO p = none := by
  unfold genO
  rw [List.find?_range_eq_none]
  intro j hj
  simp [hl j (by omega)]
theorem ordN_zero {p : Int} (h : isP p = true) : (ordN p (0 : Nat) == p - 1) = false := by
  have hp := isP_bd h
  have f1 := ord_fact h (a := 0) (by omega) (by omega)
  have hn : ordO p 0 = none := by simpa using f1
  have : ordN p (0 : Nat) = -1 := by unfold ordN; simp [hn]
  rw [this]; simp; omega
theorem ordN_bd {p a : Int} (h : isP p = true) : -1 ≤ ordN p a ∧ ordN p a ≤ 13 := by
  have hp := isP_bd h
  unfold ordN
  cases hO : ordO p a with
  | none => simp
  | some m =>
    unfold ordO at hO
    rw [List.find?_range_eq_some] at hO
    have := hO.2.1
    simp at this
    simp only; omega
theorem ordV_eq {p : Int} {k : Nat} (h : isP p = true) (hk : (k : Int) < p) : ordV p k = ordN p k := by
  unfold ordV; rw [if_pos]; exact isE1_iff.2 ⟨h, by omega, hk⟩
set_option maxHeartbeats 1000000 in
theorem iGen (p : Int) (w : World) :
    Calls Try.prog 41 #[.int .i64 p] w fun e w' => e = .returned (.int .i64 (genV p)) ∧ Below w.heap.size w w' := by
  cases hE : isP p
  · have hv := Lib.hid (show -1 = genV p by simp [genV, hE])
    have hB := Lib.hid hE
    clear hE
    go_enter Try.func41, Try.ntmps41
    go_wp2_with (go_at_call 24; refine (iPV_no _ _ hB.out).mono ?_; rintro e w' ⟨rfl, rfl⟩)
    go_ret
    exact ⟨ret_int hv.out, Below.refl _ _⟩
  · have hP := Lib.hid hE
    obtain ⟨hpb1, hpb2⟩ := isP_bd hE
    have hv := Lib.hid (show genV p = (match genO p with | some n => (n : Int) | none => -1) by simp [genV, hE])
    clear hE
    go_enter Try.func41, Try.ntmps41
    go_wp2_with (go_at_call 24; refine (iPV_yes _ _ hP.out).mono ?_; rintro e w' ⟨rfl, rfl⟩)
    go_loopw [8] (fun i wr => ∃ k : Nat, (k : Int) ≤ p ∧ i = .int .i64 k ∧ (∀ j : Nat, j < k → (ordN p j == p - 1) = false) ∧ Below w.heap.size w wr) (fun i _ => p.toNat - (intOf i).toNat)
    case atStart => exact ⟨0, by omega, rfl, fun j hj => by omega, Below.refl _ _⟩
    case round =>
      obtain ⟨k, hk, rfl, hall, hR⟩ := hrel
      have Hall := Lib.hid hall
      clear hall
      by_cases hlt : (k : Int) < p
      · go_wp2_with fail
        refine (iOrd p k hP.out (by omega) hlt _).mono ?_
        rintro e w1 ⟨rfl, hb1⟩
        have hR1 := Lib.hid (hR.trans (hb1.mono hR.size))
        clear hR hb1
        cases h1 : (ordN p k == p - 1)
        · have Hb := Lib.hid h1
          go_wp2
          go_roundw
          case rel => exact ⟨k + 1, by omega, by go_num, (fun j hj => by by_cases e : j = k; · rw [e]; exact Hb.out
                                                                         · exact Hall.out j (by omega)), hR1.out⟩
          case measure => simp [intOf]; omega
        · have hres := Lib.hid (genO_some hlt h1 Hall.out)
          go_wp2
          go_ret
          exact ⟨ret_int (by rw [hv.out, hres.out]), hR1.out⟩
      · have hres := Lib.hid (genO_none (p := p) (fun j hj => Hall.out j (by omega)))
        go_wp2
        go_ret
        exact ⟨ret_int (by rw [hv.out, hres.out]), hR⟩
theorem below_snoc {P : Nat → Prop} {k : Nat} (h : ∀ j : Nat, j < k → P j) (hk : P k) : ∀ j : Nat, j < k + 1 → P j := by
  intro j hj
  by_cases e : j = k
  · rw [e]; exact hk
  · exact h j (by omega)
theorem below_one {P : Nat → Prop} (h : P 0) : ∀ j : Nat, j < 1 → P j := by
  intro j hj
  obtain rfl : j = 0 := by omega
  exact h
set_option maxHeartbeats 1000000 in
theorem sGen (p : Int) (w : World) (hp1 : p ≤ 9223372036854775807) :
    Calls Try.prog 42 #[.int .i64 p] w fun e w' => e = .returned (.int .i64 (genV p)) ∧ Below w.heap.size w w' := by
  cases hE : isP p
  · have hv := Lib.hid (show -1 = genV p by simp [genV, hE])
    have hB := Lib.hid hE
    clear hE
    go_enter Try.func42, Try.ntmps42
    go_wp2_with fail
    go_loop [3] (fun i => i = .int .i64 1) (fun i => 0)
    case atStart => rfl
    case round =>
      obtain rfl := hrel
      by_cases hlt : 1 < p
      · go_wp2_with (go_at_call 25; refine (sPV_no _ _ hB.out).mono ?_; rintro e w' ⟨rfl, rfl⟩)
        go_ret
        exact ⟨ret_int hv.out, Below.refl _ _⟩
      · go_wp2_with fail
        go_ret
        exact ⟨ret_int hv.out, Below.refl _ _⟩
  · have hP := Lib.hid hE
    obtain ⟨hpb1, hpb2⟩ := isP_bd hE
    have hv := Lib.hid (show genV p = (match genO p with | some n => (n : Int) | none => -1) by simp [genV, hE])
    have hzero := Lib.hid (ordN_zero hE)
    clear hE
    go_enter Try.func42, Try.ntmps42
    go_wp2_with fail
    go_loopw [3] (fun i wr => ∃ k : Nat, 1 ≤ k ∧ (k : Int) ≤ p ∧ i = .int .i64 k ∧ (∀ j : Nat, j < k → (ordN p j == p - 1) = false) ∧ Below w.heap.size w wr) (fun i _ => p.toNat - (intOf i).toNat)
    case atStart => exact ⟨1, by omega, by omega, rfl, below_one hzero.out, Below.refl _ _⟩
    case round =>
      obtain ⟨k, hk0, hk, rfl, hall, hR⟩ := hrel
      have Hall := Lib.hid hall
      clear hall
      by_cases hlt : (k : Int) < p
      · go_wp2_with (go_at_call 25; refine (sPV_yes _ _ hP.out).mono ?_; rintro e w' ⟨rfl, rfl⟩)
        refine (sOrder p k _).mono ?_
        rw [ordV_eq hP.out hlt]
        rintro e w1 ⟨rfl, hb1⟩
        have hR1 := Lib.hid (hR.trans (hb1.mono hR.size))
        clear hR hb1
        cases h1 : (ordN p k == p - 1)
        · have Hb := Lib.hid h1
          go_wp2
          go_roundw
          case rel => exact ⟨k + 1, by omega, by omega, by go_num, below_snoc Hall.out Hb.out, hR1.out⟩
          case measure => simp [intOf]; omega
        · have hres := Lib.hid (genO_some hlt h1 Hall.out)
          go_wp2
          go_ret
          exact ⟨ret_int (by rw [hv.out, hres.out]), hR1.out⟩
      · have hres := Lib.hid (genO_none (p := p) (fun j hj => Hall.out j (by omega)))
        go_wp2
        go_ret
        exact ⟨ret_int (by rw [hv.out, hres.out]), hR⟩
end Go.Proofs.Ytpoemcigklanoaa
