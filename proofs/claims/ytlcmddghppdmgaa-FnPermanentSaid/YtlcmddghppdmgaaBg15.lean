/-
  Contracts of the element's methods: sum, product, opposite. Conditions: the element's numbers lie in the field of a prime.
  Contracts of AddIn, MulIn and MinusIn, of the program and of the model. Conditions: none.
-/
import Derived.Test.YtlcmddghppdmgaaBg13
import Derived.Outline
import Derived.Deep.RegionHeld3
import Derived.StillTailTactics
namespace Go.Proofs.Ytlcmddghppdmgaa
open Go.RowKit
set_option maxHeartbeats 400000 in
theorem iTimes (p a b : Int) (hp0 : isP p = true) (ha0 : 0 ≤ a) (ha1 : a < p) (hb0 : 0 ≤ b) (hb1 : b < p) (w : World) :
    Calls Try.prog 141 #[(.agg #[.int .i64 (p), .int .i64 (a)]), (.agg #[.int .i64 (p), .int .i64 (b)])] w fun e w' => e = .returned ((.agg #[.int .i64 (p), .int .i64 (a * b % p)])) ∧ Below w.heap.size w w' := by
  have hp := Lib.hid hp0
  have hb := isP_bd hp0
  obtain ⟨hpb1, hpb2⟩ := hb
  have hab0 : 0 ≤ a * b := Int.mul_nonneg ha0 hb0
  have hab1 : a * b ≤ 169 := by
    have := Int.mul_le_mul (show a ≤ 13 by omega) (show b ≤ 13 by omega) hb0 (by omega)
    omega
  clear hp0
  have hw1 : IntKind.i64.wrap (a * b) = a * b := IntWalk.i64_in _ (by omega)
  go_enter Try.func141, Try.ntmps141
  go_wp2_with fail
  go_region_held3 (fun w' => w'.cell? ⟨w.heap.size, 0, none⟩ = some (.int .i64 p) ∧ w'.cell? ⟨w.heap.size, 1, none⟩ = some (.int .i64 a) ∧ w'.cell? ⟨w.heap.size + 1, 1, none⟩ = some (.int .i64 b)) (go_keep)
    (first | (go_at_call 185; refine (iRed _ _ _ hp.out).mono ?_; rintro e w' ⟨rfl, rfl⟩))
  go_wp2
  exact bodyPost_ret (v := (.agg #[.int .i64 (p), .int .i64 (a * b % p)])) (by simp [results, Try.results141, go_sem]) rfl ⟨rfl, by repeat (first | exact Below.refl _ _ | apply Below.drew | (refine Below.setCell ?_ (by simp <;> omega) _) | (refine Below.alloc ?_ (by simp <;> omega) _))⟩
set_option maxHeartbeats 400000 in
theorem iPlus (p a b : Int) (hp0 : isP p = true) (ha0 : 0 ≤ a) (ha1 : a < p) (hb0 : 0 ≤ b) (hb1 : b < p) (w : World) :
    Calls Try.prog 147 #[(.agg #[.int .i64 (p), .int .i64 (a)]), (.agg #[.int .i64 (p), .int .i64 (b)])] w fun e w' => e = .returned ((.agg #[.int .i64 (p), .int .i64 ((a + b) % p)])) ∧ Below w.heap.size w w' := by
  have hp := Lib.hid hp0
  have hb := isP_bd hp0
  obtain ⟨hpb1, hpb2⟩ := hb
  clear hp0
  have hw1 : IntKind.i64.wrap (a + b) = a + b := IntWalk.i64_in _ (by omega)
  go_enter Try.func147, Try.ntmps147
  go_wp2_with fail
  go_region_held3 (fun w' => w'.cell? ⟨w.heap.size, 0, none⟩ = some (.int .i64 p) ∧ w'.cell? ⟨w.heap.size, 1, none⟩ = some (.int .i64 a) ∧ w'.cell? ⟨w.heap.size + 1, 1, none⟩ = some (.int .i64 b)) (go_keep)
    (first | (go_at_call 185; refine (iRed _ _ _ hp.out).mono ?_; rintro e w' ⟨rfl, rfl⟩))
  go_wp2
  exact bodyPost_ret (v := (.agg #[.int .i64 (p), .int .i64 ((a + b) % p)])) (by simp [results, Try.results147, go_sem]) rfl ⟨rfl, by repeat (first | exact Below.refl _ _ | apply Below.drew | (refine Below.setCell ?_ (by simp <;> omega) _) | (refine Below.alloc ?_ (by simp <;> omega) _))⟩
set_option maxHeartbeats 400000 in
theorem iMinus (p a : Int) (hp0 : isP p = true) (ha0 : 0 ≤ a) (ha1 : a < p) (w : World) :
    Calls Try.prog 146 #[(.agg #[.int .i64 (p), .int .i64 (a)])] w fun e w' => e = .returned ((.agg #[.int .i64 (p), .int .i64 ((-a) % p)])) ∧ Below w.heap.size w w' := by
  have hp := Lib.hid hp0
  have hb := isP_bd hp0
  obtain ⟨hpb1, hpb2⟩ := hb
  clear hp0
  have hw1 : IntKind.i64.wrap (-a) = -a := IntWalk.i64_in _ (by omega)
  go_enter Try.func146, Try.ntmps146
  go_wp2_with fail
  go_region_held3 (fun w' => w'.cell? ⟨w.heap.size, 0, none⟩ = some (.int .i64 p) ∧ w'.cell? ⟨w.heap.size, 1, none⟩ = some (.int .i64 a)) (go_keep)
    (first | (go_at_call 185; refine (iRed _ _ _ hp.out).mono ?_; rintro e w' ⟨rfl, rfl⟩))
  go_wp2
  exact bodyPost_ret (v := (.agg #[.int .i64 (p), .int .i64 ((-a) % p)])) (by simp [results, Try.results146, go_sem]) rfl ⟨rfl, by repeat (first | exact Below.refl _ _ | apply Below.drew | (refine Below.setCell ?_ (by simp <;> omega) _) | (refine Below.alloc ?_ (by simp <;> omega) _))⟩
end Go.Proofs.Ytlcmddghppdmgaa
namespace Go.Proofs.Ytlcmddghppdmgaa
open Go.RowKit
theorem fld1 (x y : Value) (w : World) : (Instr.field 121 (.agg #[x, y]) 1).run Try.prog w = .ok y w := by kernel_rfl
/-- p is a prime and a, c are elements -/
def isE2 (p a c : Int) : Bool := isP p && (isE p a && isE p c)
def isE1 (p a : Int) : Bool := isP p && isE p a
theorem isE2_iff {p a c : Int} : isE2 p a c = true ↔ isP p = true ∧ (0 ≤ a ∧ a < p) ∧ (0 ≤ c ∧ c < p) := by simp [isE2, isE]
theorem isE1_iff {p a : Int} : isE1 p a = true ↔ isP p = true ∧ (0 ≤ a ∧ a < p) := by simp [isE1, isE]
theorem iAE2 (p a c : Int) (b : Nat) (w : World) (h0 : w.cell? ⟨b, 0, none⟩ = some (.int .i64 a)) (h1 : w.cell? ⟨b, 1, none⟩ = some (.int .i64 c)) :
    Calls Try.prog 140 #[.int .i64 p, .slice (some ⟨b, 0, none⟩) 2 2] w fun e w' => e = .returned (.bool (isE2 p a c)) ∧ w = w' := by
  cases hp : isP p
  · have : isE2 p a c = false := by simp [isE2, hp]
    rw [this]; exact iAE_no p hp _ w
  · have : isE2 p a c = [a, c].all (isE p) := by simp [isE2, hp]
    rw [this]; refine iAE_p p hp b 0 [a, c] w (by simp) ?_
    intro k hk
    match k, hk with
    | 0, _ => simpa using h0
    | 1, _ => simpa using h1
theorem iAE1 (p a : Int) (b : Nat) (w : World) (h0 : w.cell? ⟨b, 0, none⟩ = some (.int .i64 a)) :
    Calls Try.prog 140 #[.int .i64 p, .slice (some ⟨b, 0, none⟩) 1 1] w fun e w' => e = .returned (.bool (isE1 p a)) ∧ w = w' := by
  cases hp : isP p
  · have : isE1 p a = false := by simp [isE1, hp]
    rw [this]; exact iAE_no p hp _ w
  · have : isE1 p a = [a].all (isE p) := by simp [isE1, hp]
    rw [this]; refine iAE_p p hp b 0 [a] w (by simp) ?_
    intro k hk
    match k, hk with
    | 0, _ => simpa using h0
theorem sEl2 (p a c : Int) (b : Nat) (w : World) (h0 : w.cell? ⟨b, 0, none⟩ = some (.int .i64 a)) (h1 : w.cell? ⟨b, 1, none⟩ = some (.int .i64 c)) :
    Calls Try.prog 144 #[.int .i64 p, .slice (some ⟨b, 0, none⟩) 2 2] w fun e w' => e = .returned (.bool (isE2 p a c)) ∧ w = w' := by
  have hc : ∀ k, k < [a, c].length → w.cell? ⟨b, 0 + k, none⟩ = some (.int .i64 ([a, c].getD k 0)) := by
    intro k hk
    match k, hk with
    | 0, _ => simpa using h0
    | 1, _ => simpa using h1
  cases hp : isP p
  · have : isE2 p a c = false := by simp [isE2, hp]
    rw [this]; exact sEl_no p hp b 0 [a, c] w (by simp) hc
  · have : isE2 p a c = [a, c].all (isE p) := by simp [isE2, hp]
    rw [this]; exact sEl_p p hp b 0 [a, c] w (by simp) hc
theorem sEl1 (p a : Int) (b : Nat) (w : World) (h0 : w.cell? ⟨b, 0, none⟩ = some (.int .i64 a)) :
    Calls Try.prog 144 #[.int .i64 p, .slice (some ⟨b, 0, none⟩) 1 1] w fun e w' => e = .returned (.bool (isE1 p a)) ∧ w = w' := by
  have hc : ∀ k, k < [a].length → w.cell? ⟨b, 0 + k, none⟩ = some (.int .i64 ([a].getD k 0)) := by
    intro k hk
    match k, hk with
    | 0, _ => simpa using h0
  cases hp : isP p
  · have : isE1 p a = false := by simp [isE1, hp]
    rw [this]; exact sEl_no p hp b 0 [a] w (by simp) hc
  · have : isE1 p a = [a].all (isE p) := by simp [isE1, hp]
    rw [this]; exact sEl_p p hp b 0 [a] w (by simp) hc
/-- what MulIn, AddIn, MinusIn return, for all arguments -/
def mulV (p a c : Int) : Int := if isE2 p a c = true then a * c % p else -1
def addV (p a c : Int) : Int := if isE2 p a c = true then (a + c) % p else -1
def minV (p a : Int) : Int := if isE1 p a = true then (-a) % p else -1
set_option maxHeartbeats 400000 in
theorem iMul (p a c : Int) (w : World) :
    Calls Try.prog 59 #[.int .i64 p, .int .i64 a, .int .i64 c] w fun e w' => e = .returned (.int .i64 (mulV p a c)) ∧ Below w.heap.size w w' := by
  cases hE : isE2 p a c
  · have hv := Lib.hid (show -1 = mulV p a c by simp [mulV, hE])
    have hB := Lib.hid hE
    clear hE
    go_enter Try.func59, Try.ntmps59
    go_wp2_with (go_at_call 140; refine (iAE2 p a c _ _ (by simp) (by simp)).mono ?_; rw [hB.out]; rintro e w' ⟨rfl, rfl⟩)
    go_ret
    exact ⟨ret_int hv.out, by repeat (first | exact Below.refl _ _ | apply Below.drew | (refine Below.alloc ?_ (by simp <;> omega) _))⟩
  · have hv := Lib.hid (show a * c % p = mulV p a c by simp [mulV, hE])
    have hB := Lib.hid hE
    obtain ⟨hp, ⟨a0, a1⟩, ⟨c0, c1⟩⟩ := isE2_iff.1 hE
    have hP := Lib.hid hp
    clear hE hp
    have hf := fld1
    go_enter Try.func59, Try.ntmps59
    go_wp2_with (first | (go_at_call 140; refine (iAE2 p a c _ _ (by simp) (by simp)).mono ?_; rw [hB.out]; rintro e w' ⟨rfl, rfl⟩) | (go_at_call 141; refine (iTimes p a c hP.out a0 a1 c0 c1 _).mono ?_; rintro e w1 ⟨rfl, hb1⟩))
    go_ret
    exact ⟨ret_int hv.out, by repeat (first | exact Below.refl _ _ | apply Below.drew | (refine Below.trans ?_ (Below.mono hb1 (by simp <;> omega))) | (refine Below.alloc ?_ (by simp <;> omega) _))⟩

set_option maxHeartbeats 400000 in
theorem iAdd (p a c : Int) (w : World) :
    Calls Try.prog 66 #[.int .i64 p, .int .i64 a, .int .i64 c] w fun e w' => e = .returned (.int .i64 (addV p a c)) ∧ Below w.heap.size w w' := by
  cases hE : isE2 p a c
  · have hv := Lib.hid (show -1 = addV p a c by simp [addV, hE])
    have hB := Lib.hid hE
    clear hE
    go_enter Try.func66, Try.ntmps66
    go_wp2_with (go_at_call 140; refine (iAE2 p a c _ _ (by simp) (by simp)).mono ?_; rw [hB.out]; rintro e w' ⟨rfl, rfl⟩)
    go_ret
    exact ⟨ret_int hv.out, by repeat (first | exact Below.refl _ _ | apply Below.drew | (refine Below.alloc ?_ (by simp <;> omega) _))⟩
  · have hv := Lib.hid (show (a + c) % p = addV p a c by simp [addV, hE])
    have hB := Lib.hid hE
    obtain ⟨hp, ⟨a0, a1⟩, ⟨c0, c1⟩⟩ := isE2_iff.1 hE
    have hP := Lib.hid hp
    clear hE hp
    have hf := fld1
    go_enter Try.func66, Try.ntmps66
    go_wp2_with (first | (go_at_call 140; refine (iAE2 p a c _ _ (by simp) (by simp)).mono ?_; rw [hB.out]; rintro e w' ⟨rfl, rfl⟩) | (go_at_call 147; refine (iPlus p a c hP.out a0 a1 c0 c1 _).mono ?_; rintro e w1 ⟨rfl, hb1⟩))
    go_ret
    exact ⟨ret_int hv.out, by repeat (first | exact Below.refl _ _ | apply Below.drew | (refine Below.trans ?_ (Below.mono hb1 (by simp <;> omega))) | (refine Below.alloc ?_ (by simp <;> omega) _))⟩
set_option maxHeartbeats 400000 in
theorem iMin (p a : Int) (w : World) :
    Calls Try.prog 65 #[.int .i64 p, .int .i64 a] w fun e w' => e = .returned (.int .i64 (minV p a)) ∧ Below w.heap.size w w' := by
  cases hE : isE1 p a
  · have hv := Lib.hid (show -1 = minV p a by simp [minV, hE])
    have hB := Lib.hid hE
    clear hE
    go_enter Try.func65, Try.ntmps65
    go_wp2_with (go_at_call 140; refine (iAE1 p a _ _ (by simp)).mono ?_; rw [hB.out]; rintro e w' ⟨rfl, rfl⟩)
    go_ret
    exact ⟨ret_int hv.out, by repeat (first | exact Below.refl _ _ | apply Below.drew | (refine Below.alloc ?_ (by simp <;> omega) _))⟩
  · have hv := Lib.hid (show (-a) % p = minV p a by simp [minV, hE])
    have hB := Lib.hid hE
    obtain ⟨hp, a0, a1⟩ := isE1_iff.1 hE
    have hP := Lib.hid hp
    clear hE hp
    have hf := fld1
    go_enter Try.func65, Try.ntmps65
    go_wp2_with (first | (go_at_call 140; refine (iAE1 p a _ _ (by simp)).mono ?_; rw [hB.out]; rintro e w' ⟨rfl, rfl⟩) | (go_at_call 146; refine (iMinus p a hP.out a0 a1 _).mono ?_; rintro e w1 ⟨rfl, hb1⟩))
    go_ret
    exact ⟨ret_int hv.out, by repeat (first | exact Below.refl _ _ | apply Below.drew | (refine Below.trans ?_ (Below.mono hb1 (by simp <;> omega))) | (refine Below.alloc ?_ (by simp <;> omega) _))⟩
theorem mul_bd {p a c : Int} (hp : isP p = true) (a0 : 0 ≤ a) (a1 : a < p) (c0 : 0 ≤ c) (c1 : c < p) : 0 ≤ a * c ∧ a * c ≤ 169 := by
  have hb := isP_bd hp
  have := Int.mul_le_mul (show a ≤ 13 by omega) (show c ≤ 13 by omega) c0 (by omega)
  exact ⟨Int.mul_nonneg a0 c0, by omega⟩
end Go.Proofs.Ytlcmddghppdmgaa
