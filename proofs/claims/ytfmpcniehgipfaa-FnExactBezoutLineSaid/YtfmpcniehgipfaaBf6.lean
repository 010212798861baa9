/-
  Contracts of the element's methods: sum, product, opposite. Conditions: the element's numbers lie in the field of a prime.
  Contracts of AddIn, MulIn and MinusIn, of the program and of the model. Conditions: none.
  Contracts of the element's power, of the program. Conditions: the element's numbers lie in the field of a prime, the exponent is not negative.
  The inverse of the model: the first number whose product is 1. Conditions: the number is a prime, the argument an element.
-/
import Derived.Test.YtfmpcniehgipfaaBf5
import Derived.Outline
import Derived.Deep.RegionHeld3
import Derived.StillTailTactics
namespace Go.Proofs.Ytfmpcniehgipfaa
open Go.RowKit
set_option maxHeartbeats 400000 in
theorem iTimes (p a b : Int) (hp0 : isP p = true) (ha0 : 0 ≤ a) (ha1 : a < p) (hb0 : 0 ≤ b) (hb1 : b < p) (w : World) :
    Calls Try.prog 89 #[(.agg #[.int .i64 (p), .int .i64 (a)]), (.agg #[.int .i64 (p), .int .i64 (b)])] w fun e w' => e = .returned ((.agg #[.int .i64 (p), .int .i64 (a * b % p)])) ∧ Below w.heap.size w w' := by
  have hp := Lib.hid hp0
  have hb := isP_bd hp0
  obtain ⟨hpb1, hpb2⟩ := hb
  have hab0 : 0 ≤ a * b := Int.mul_nonneg ha0 hb0
  have hab1 : a * b ≤ 169 := by
    have := Int.mul_le_mul (show a ≤ 13 by omega) (show b ≤ 13 by omega) hb0 (by omega)
    omega
  clear hp0
  have hw1 : IntKind.i64.wrap (a * b) = a * b := IntWalk.i64_in _ (by omega)
  go_enter Try.func89, Try.ntmps89
  go_wp2_with fail
  go_region_held3 (fun w' => w'.cell? ⟨w.heap.size, 0, none⟩ = some (.int .i64 p) ∧ w'.cell? ⟨w.heap.size, 1, none⟩ = some (.int .i64 a) ∧ w'.cell? ⟨w.heap.size + 1, 1, none⟩ = some (.int .i64 b)) (go_keep)
    (first | (go_at_call 124; refine (iRed _ _ _ hp.out).mono ?_; rintro e w' ⟨rfl, rfl⟩))
  go_wp2
  exact bodyPost_ret (v := (.agg #[.int .i64 (p), .int .i64 (a * b % p)])) (by simp [results, Try.results89, go_sem]) rfl ⟨rfl, by repeat (first | exact Below.refl _ _ | apply Below.drew | (refine Below.setCell ?_ (by simp <;> omega) _) | (refine Below.alloc ?_ (by simp <;> omega) _))⟩
set_option maxHeartbeats 400000 in
theorem iPlus (p a b : Int) (hp0 : isP p = true) (ha0 : 0 ≤ a) (ha1 : a < p) (hb0 : 0 ≤ b) (hb1 : b < p) (w : World) :
    Calls Try.prog 87 #[(.agg #[.int .i64 (p), .int .i64 (a)]), (.agg #[.int .i64 (p), .int .i64 (b)])] w fun e w' => e = .returned ((.agg #[.int .i64 (p), .int .i64 ((a + b) % p)])) ∧ Below w.heap.size w w' := by
  have hp := Lib.hid hp0
  have hb := isP_bd hp0
  obtain ⟨hpb1, hpb2⟩ := hb
  clear hp0
  have hw1 : IntKind.i64.wrap (a + b) = a + b := IntWalk.i64_in _ (by omega)
  go_enter Try.func87, Try.ntmps87
  go_wp2_with fail
  go_region_held3 (fun w' => w'.cell? ⟨w.heap.size, 0, none⟩ = some (.int .i64 p) ∧ w'.cell? ⟨w.heap.size, 1, none⟩ = some (.int .i64 a) ∧ w'.cell? ⟨w.heap.size + 1, 1, none⟩ = some (.int .i64 b)) (go_keep)
    (first | (go_at_call 124; refine (iRed _ _ _ hp.out).mono ?_; rintro e w' ⟨rfl, rfl⟩))
  go_wp2
  exact bodyPost_ret (v := (.agg #[.int .i64 (p), .int .i64 ((a + b) % p)])) (by simp [results, Try.results87, go_sem]) rfl ⟨rfl, by repeat (first | exact Below.refl _ _ | apply Below.drew | (refine Below.setCell ?_ (by simp <;> omega) _) | (refine Below.alloc ?_ (by simp <;> omega) _))⟩
set_option maxHeartbeats 400000 in
theorem iMinus (p a : Int) (hp0 : isP p = true) (ha0 : 0 ≤ a) (ha1 : a < p) (w : World) :
    Calls Try.prog 88 #[(.agg #[.int .i64 (p), .int .i64 (a)])] w fun e w' => e = .returned ((.agg #[.int .i64 (p), .int .i64 ((-a) % p)])) ∧ Below w.heap.size w w' := by
  have hp := Lib.hid hp0
  have hb := isP_bd hp0
  obtain ⟨hpb1, hpb2⟩ := hb
  clear hp0
  have hw1 : IntKind.i64.wrap (-a) = -a := IntWalk.i64_in _ (by omega)
  go_enter Try.func88, Try.ntmps88
  go_wp2_with fail
  go_region_held3 (fun w' => w'.cell? ⟨w.heap.size, 0, none⟩ = some (.int .i64 p) ∧ w'.cell? ⟨w.heap.size, 1, none⟩ = some (.int .i64 a)) (go_keep)
    (first | (go_at_call 124; refine (iRed _ _ _ hp.out).mono ?_; rintro e w' ⟨rfl, rfl⟩))
  go_wp2
  exact bodyPost_ret (v := (.agg #[.int .i64 (p), .int .i64 ((-a) % p)])) (by simp [results, Try.results88, go_sem]) rfl ⟨rfl, by repeat (first | exact Below.refl _ _ | apply Below.drew | (refine Below.setCell ?_ (by simp <;> omega) _) | (refine Below.alloc ?_ (by simp <;> omega) _))⟩
end Go.Proofs.Ytfmpcniehgipfaa
namespace Go.Proofs.Ytfmpcniehgipfaa
open Go.RowKit
theorem fld1 (x y : Value) (w : World) : (Instr.field 61 (.agg #[x, y]) 1).run Try.prog w = .ok y w := by kernel_rfl
/-- p is a prime and a, c are elements -/
def isE2 (p a c : Int) : Bool := isP p && (isE p a && isE p c)
def isE1 (p a : Int) : Bool := isP p && isE p a
theorem isE2_iff {p a c : Int} : isE2 p a c = true ↔ isP p = true ∧ (0 ≤ a ∧ a < p) ∧ (0 ≤ c ∧ c < p) := by simp [isE2, isE]
theorem isE1_iff {p a : Int} : isE1 p a = true ↔ isP p = true ∧ (0 ≤ a ∧ a < p) := by simp [isE1, isE]
theorem iAE2 (p a c : Int) (b : Nat) (w : World) (h0 : w.cell? ⟨b, 0, none⟩ = some (.int .i64 a)) (h1 : w.cell? ⟨b, 1, none⟩ = some (.int .i64 c)) :
    Calls Try.prog 66 #[.int .i64 p, .slice (some ⟨b, 0, none⟩) 2 2] w fun e w' => e = .returned (.bool (isE2 p a c)) ∧ w = w' := by
  cases hp : isP p
  · have : isE2 p a c = false := by simp [isE2, hp]
    rw [this]; exact iAE_no p hp _ w
  · have : isE2 p a c = [a, c].all (isE p) := by simp [isE2, hp]
    rw [this]; refine iAE_p p hp b 0 [a, c] w (by simp) ?_
    intro k hk
    match k, hk with
    | 0, _ => simpa using h0
    | 1, _ => simpa using h1
theorem iAE1 (p a : Int) (b : Nat) (w : World) (h0 : w.cell? ⟨b, 0, none⟩ = some (.int .i64 a)) :
    Calls Try.prog 66 #[.int .i64 p, .slice (some ⟨b, 0, none⟩) 1 1] w fun e w' => e = .returned (.bool (isE1 p a)) ∧ w = w' := by
  cases hp : isP p
  · have : isE1 p a = false := by simp [isE1, hp]
    rw [this]; exact iAE_no p hp _ w
  · have : isE1 p a = [a].all (isE p) := by simp [isE1, hp]
    rw [this]; refine iAE_p p hp b 0 [a] w (by simp) ?_
    intro k hk
    match k, hk with
    | 0, _ => simpa using h0
theorem sEl2 (p a c : Int) (b : Nat) (w : World) (h0 : w.cell? ⟨b, 0, none⟩ = some (.int .i64 a)) (h1 : w.cell? ⟨b, 1, none⟩ = some (.int .i64 c)) :
    Calls Try.prog 65 #[.int .i64 p, .slice (some ⟨b, 0, none⟩) 2 2] w fun e w' => e = .returned (.bool (isE2 p a c)) ∧ w = w' := by
  have hc : ∀ k, k < [a, c].length → w.cell? ⟨b, 0 + k, none⟩ = some (.int .i64 ([a, c].getD k 0)) := by
    intro k hk
    match k, hk with
    | 0, _ => simpa using h0
    | 1, _ => simpa using h1
  cases hp : isP p
  · have : isE2 p a c = false := by simp [isE2, hp]
    rw [this]; exact sEl_no p hp b 0 [a, c] w (by simp) hc
  · have : isE2 p a c = [a, c].all (isE p) := by simp [isE2, hp]
    rw [this]; exact sEl_p p hp b 0 [a, c] w (by simp) hc
theorem sEl1 (p a : Int) (b : Nat) (w : World) (h0 : w.cell? ⟨b, 0, none⟩ = some (.int .i64 a)) :
    Calls Try.prog 65 #[.int .i64 p, .slice (some ⟨b, 0, none⟩) 1 1] w fun e w' => e = .returned (.bool (isE1 p a)) ∧ w = w' := by
  have hc : ∀ k, k < [a].length → w.cell? ⟨b, 0 + k, none⟩ = some (.int .i64 ([a].getD k 0)) := by
    intro k hk
    match k, hk with
    | 0, _ => simpa using h0
  cases hp : isP p
  · have : isE1 p a = false := by simp [isE1, hp]
    rw [this]; exact sEl_no p hp b 0 [a] w (by simp) hc
  · have : isE1 p a = [a].all (isE p) := by simp [isE1, hp]
    rw [this]; exact sEl_p p hp b 0 [a] w (by simp) hc
/-- what MulIn, AddIn, MinusIn return, for all arguments -/
def mulV (p a c : Int) : Int := if isE2 p a c = true then a * c % p else -1
def addV (p a c : Int) : Int := if isE2 p a c = true then (a + c) % p else -1
def minV (p a : Int) : Int := if isE1 p a = true then (-a) % p else -1
set_option maxHeartbeats 400000 in
theorem iMul (p a c : Int) (w : World) :
    Calls Try.prog 54 #[.int .i64 p, .int .i64 a, .int .i64 c] w fun e w' => e = .returned (.int .i64 (mulV p a c)) ∧ Below w.heap.size w w' := by
  cases hE : isE2 p a c
  · have hv := Lib.hid (show -1 = mulV p a c by simp [mulV, hE])
    have hB := Lib.hid hE
    clear hE
    go_enter Try.func54, Try.ntmps54
    go_wp2_with (go_at_call 66; refine (iAE2 p a c _ _ (by simp) (by simp)).mono ?_; rw [hB.out]; rintro e w' ⟨rfl, rfl⟩)
    go_ret
    exact ⟨ret_int hv.out, by repeat (first | exact Below.refl _ _ | apply Below.drew | (refine Below.alloc ?_ (by simp <;> omega) _))⟩
  · have hv := Lib.hid (show a * c % p = mulV p a c by simp [mulV, hE])
    have hB := Lib.hid hE
    obtain ⟨hp, ⟨a0, a1⟩, ⟨c0, c1⟩⟩ := isE2_iff.1 hE
    have hP := Lib.hid hp
    clear hE hp
    have hf := fld1
    go_enter Try.func54, Try.ntmps54
    go_wp2_with (first | (go_at_call 66; refine (iAE2 p a c _ _ (by simp) (by simp)).mono ?_; rw [hB.out]; rintro e w' ⟨rfl, rfl⟩) | (go_at_call 89; refine (iTimes p a c hP.out a0 a1 c0 c1 _).mono ?_; rintro e w1 ⟨rfl, hb1⟩))
    go_ret
    exact ⟨ret_int hv.out, by repeat (first | exact Below.refl _ _ | apply Below.drew | (refine Below.trans ?_ (Below.mono hb1 (by simp <;> omega))) | (refine Below.alloc ?_ (by simp <;> omega) _))⟩

set_option maxHeartbeats 400000 in
theorem iAdd (p a c : Int) (w : World) :
    Calls Try.prog 55 #[.int .i64 p, .int .i64 a, .int .i64 c] w fun e w' => e = .returned (.int .i64 (addV p a c)) ∧ Below w.heap.size w w' := by
  cases hE : isE2 p a c
  · have hv := Lib.hid (show -1 = addV p a c by simp [addV, hE])
    have hB := Lib.hid hE
    clear hE
    go_enter Try.func55, Try.ntmps55
    go_wp2_with (go_at_call 66; refine (iAE2 p a c _ _ (by simp) (by simp)).mono ?_; rw [hB.out]; rintro e w' ⟨rfl, rfl⟩)
    go_ret
    exact ⟨ret_int hv.out, by repeat (first | exact Below.refl _ _ | apply Below.drew | (refine Below.alloc ?_ (by simp <;> omega) _))⟩
  · have hv := Lib.hid (show (a + c) % p = addV p a c by simp [addV, hE])
    have hB := Lib.hid hE
    obtain ⟨hp, ⟨a0, a1⟩, ⟨c0, c1⟩⟩ := isE2_iff.1 hE
    have hP := Lib.hid hp
    clear hE hp
    have hf := fld1
    go_enter Try.func55, Try.ntmps55
    go_wp2_with (first | (go_at_call 66; refine (iAE2 p a c _ _ (by simp) (by simp)).mono ?_; rw [hB.out]; rintro e w' ⟨rfl, rfl⟩) | (go_at_call 87; refine (iPlus p a c hP.out a0 a1 c0 c1 _).mono ?_; rintro e w1 ⟨rfl, hb1⟩))
    go_ret
    exact ⟨ret_int hv.out, by repeat (first | exact Below.refl _ _ | apply Below.drew | (refine Below.trans ?_ (Below.mono hb1 (by simp <;> omega))) | (refine Below.alloc ?_ (by simp <;> omega) _))⟩
set_option maxHeartbeats 400000 in
theorem iMin (p a : Int) (w : World) :
    Calls Try.prog 62 #[.int .i64 p, .int .i64 a] w fun e w' => e = .returned (.int .i64 (minV p a)) ∧ Below w.heap.size w w' := by
  cases hE : isE1 p a
  · have hv := Lib.hid (show -1 = minV p a by simp [minV, hE])
    have hB := Lib.hid hE
    clear hE
    go_enter Try.func62, Try.ntmps62
    go_wp2_with (go_at_call 66; refine (iAE1 p a _ _ (by simp)).mono ?_; rw [hB.out]; rintro e w' ⟨rfl, rfl⟩)
    go_ret
    exact ⟨ret_int hv.out, by repeat (first | exact Below.refl _ _ | apply Below.drew | (refine Below.alloc ?_ (by simp <;> omega) _))⟩
  · have hv := Lib.hid (show (-a) % p = minV p a by simp [minV, hE])
    have hB := Lib.hid hE
    obtain ⟨hp, a0, a1⟩ := isE1_iff.1 hE
    have hP := Lib.hid hp
    clear hE hp
    have hf := fld1
    go_enter Try.func62, Try.ntmps62
    go_wp2_with (first | (go_at_call 66; refine (iAE1 p a _ _ (by simp)).mono ?_; rw [hB.out]; rintro e w' ⟨rfl, rfl⟩) | (go_at_call 88; refine (iMinus p a hP.out a0 a1 _).mono ?_; rintro e w1 ⟨rfl, hb1⟩))
    go_ret
    exact ⟨ret_int hv.out, by repeat (first | exact Below.refl _ _ | apply Below.drew | (refine Below.trans ?_ (Below.mono hb1 (by simp <;> omega))) | (refine Below.alloc ?_ (by simp <;> omega) _))⟩
theorem mul_bd {p a c : Int} (hp : isP p = true) (a0 : 0 ≤ a) (a1 : a < p) (c0 : 0 ≤ c) (c1 : c < p) : 0 ≤ a * c ∧ a * c ≤ 169 := by
  have hb := isP_bd hp
  have := Int.mul_le_mul (show a ≤ 13 by omega) (show c ≤ 13 by omega) c0 (by omega)
  exact ⟨Int.mul_nonneg a0 c0, by omega⟩
end Go.Proofs.Ytfmpcniehgipfaa
namespace Go.Proofs.Ytfmpcniehgipfaa
open Go.RowKit
theorem pow_step (p a : Int) (k : Nat) : a ^ k % p * a % p = a ^ (k + 1) % p := by
  rw [Int.pow_succ, Int.mul_emod (a ^ k % p) a p, Int.emod_emod_of_dvd _ (Int.dvd_refl p), ← Int.mul_emod]
theorem bcell {W w1 : World} {B : Nat} (hb : Below B W w1) : (∀ b o, b < B → w1.cell? ⟨b, o, none⟩ = W.cell? ⟨b, o, none⟩) ∧ (∀ b o, b < B → w1.frozen? ⟨b, o, none⟩ = W.frozen? ⟨b, o, none⟩) :=
  ⟨fun b o h => hb.cell (p := ⟨b, o, none⟩) h, fun b o h => hb.frozen (p := ⟨b, o, none⟩) h⟩
/-- the world inside power: the element lies in block s, the result in s + 1, the product in s + 2 -/
structure PowW (p a x : Int) (s : Nat) (w wr : World) : Prop where
  a0 : wr.cell? ⟨s, 0, none⟩ = some (.int .i64 p)
  a1 : wr.cell? ⟨s, 1, none⟩ = some (.int .i64 a)
  r0 : wr.cell? ⟨s + 1, 0, none⟩ = some (.int .i64 0)
  r1 : wr.cell? ⟨s + 1, 1, none⟩ = some (.int .i64 0)
  x0 : wr.cell? ⟨s + 1 + 1, 0, none⟩ = some (.int .i64 p)
  x1 : wr.cell? ⟨s + 1 + 1, 1, none⟩ = some (.int .i64 x)
  fr0 : wr.frozen? ⟨s + 1, 0, none⟩ = false
  fr1 : wr.frozen? ⟨s + 1, 1, none⟩ = false
  fx0 : wr.frozen? ⟨s + 1 + 1, 0, none⟩ = false
  fx1 : wr.frozen? ⟨s + 1 + 1, 1, none⟩ = false
  sz : s + 1 + 1 < wr.heap.size
  low : Below s w wr
theorem PowW.below {p a x : Int} {s : Nat} {w wr w1 : World} (h : PowW p a x s w wr) (hb : Below wr.heap.size wr w1) : PowW p a x s w w1 := by
  obtain ⟨hc, hf⟩ := bcell hb
  have sz := h.sz
  have e := hb.size
  constructor
  · rw [hc _ _ (by omega)]; exact h.a0
  · rw [hc _ _ (by omega)]; exact h.a1
  · rw [hc _ _ (by omega)]; exact h.r0
  · rw [hc _ _ (by omega)]; exact h.r1
  · rw [hc _ _ (by omega)]; exact h.x0
  · rw [hc _ _ (by omega)]; exact h.x1
  · rw [hf _ _ (by omega)]; exact h.fr0
  · rw [hf _ _ (by omega)]; exact h.fr1
  · rw [hf _ _ (by omega)]; exact h.fx0
  · rw [hf _ _ (by omega)]; exact h.fx1
  · omega
  · exact h.low.trans (hb.mono (by omega))
theorem two_set {w1 : World} {b : Nat} {x0 x1 y0 y1 : Value} (h0 : w1.cell? ⟨b, 0, none⟩ = some x0) (h1 : w1.cell? ⟨b, 1, none⟩ = some x1) :
    ((w1.setCell ⟨b, 0, none⟩ y0).setCell ⟨b, 1, none⟩ y1).cell? ⟨b, 0, none⟩ = some y0 ∧ ((w1.setCell ⟨b, 0, none⟩ y0).setCell ⟨b, 1, none⟩ y1).cell? ⟨b, 1, none⟩ = some y1 := by
  refine ⟨?_, ?_⟩
  · rw [World.cell?_setCell_other _ _ _ _ (by simp)]; exact World.cell?_setCell_same _ _ _ h0
  · exact World.cell?_setCell_same _ _ _ (by rw [World.cell?_setCell_other _ _ _ _ (by simp)]; exact h1)
theorem PowW.set {p a x : Int} {s : Nat} {w w1 : World} (y : Int) (h : PowW p a x s w w1) (hs : s = w.heap.size) :
    PowW p a y s w ((w1.setCell ⟨s + 1 + 1, 0, none⟩ (.int .i64 p)).setCell ⟨s + 1 + 1, 1, none⟩ (.int .i64 y)) := by
  obtain ⟨a0, a1, r0, r1, x0, x1, fr0, fr1, fx0, fx1, sz, low⟩ := h
  have n0 : ∀ (v : Value) (W : World) (o o' b : Nat), b < s + 1 + 1 → (W.setCell ⟨s + 1 + 1, o, none⟩ v).cell? ⟨b, o', none⟩ = W.cell? ⟨b, o', none⟩ := by
    intro v W o o' b hb
    exact World.cell?_setCell_far _ _ _ _ (by simp; omega)
  have n1 : ∀ (v : Value) (W : World), (W.setCell ⟨s + 1 + 1, 1, none⟩ v).cell? ⟨s + 1 + 1, 0, none⟩ = W.cell? ⟨s + 1 + 1, 0, none⟩ := fun v W => World.cell?_setCell_other _ _ _ _ (by simp)
  have n2 : ∀ (v : Value) (W : World), (W.setCell ⟨s + 1 + 1, 0, none⟩ v).cell? ⟨s + 1 + 1, 1, none⟩ = W.cell? ⟨s + 1 + 1, 1, none⟩ := fun v W => World.cell?_setCell_other _ _ _ _ (by simp)
  constructor
  · rw [n0 _ _ _ _ _ (by omega), n0 _ _ _ _ _ (by omega)]; exact a0
  · rw [n0 _ _ _ _ _ (by omega), n0 _ _ _ _ _ (by omega)]; exact a1
  · rw [n0 _ _ _ _ _ (by omega), n0 _ _ _ _ _ (by omega)]; exact r0
  · rw [n0 _ _ _ _ _ (by omega), n0 _ _ _ _ _ (by omega)]; exact r1
  · rw [n1]; exact World.cell?_setCell_same _ _ _ x0
  · exact World.cell?_setCell_same _ _ _ (by rw [n2]; exact x1)
  · simpa using fr0
  · simpa using fr1
  · simpa using fx0
  · simpa using fx1
  · simpa using sz
  · exact (low.setCell (by simp; omega) _).setCell (by simp; omega) _
theorem pow_shift (p a : Int) (h : isP p = true) (h0 : 0 ≤ a) (h1 : a < p) (k : Nat) : a ^ (k + 1 + (p - 1).toNat) % p = a ^ (k + 1) % p := by
  have fermat : a ^ (p.toNat) % p = a % p := by
    have key : ∀ q ∈ [2, 3, 5, 7, 11, 13], ∀ b, b < q → (b ^ q) % q = b % q := by decide +kernel
    obtain ⟨b, rfl⟩ := Int.eq_ofNat_of_zero_le h0
    obtain ⟨q, rfl⟩ := Int.eq_ofNat_of_zero_le (show 0 ≤ p by have := isP_bd h; omega)
    have hq : q ∈ [2, 3, 5, 7, 11, 13] := by
      have := isP_cases h
      simp only [List.mem_cons, List.not_mem_nil, or_false]
      omega
    have := key q hq b (by omega)
    rw [Int.toNat_natCast]
    exact_mod_cast this
  have hp := isP_bd h
  have e : k + 1 + (p - 1).toNat = k + p.toNat := by omega
  rw [e, Int.pow_add, Int.mul_emod, fermat, ← Int.mul_emod, ← Int.pow_succ]
theorem pow_shifts (p a : Int) (h : isP p = true) (h0 : 0 ≤ a) (h1 : a < p) (k t : Nat) : a ^ (k + 1 + t * (p - 1).toNat) % p = a ^ (k + 1) % p := by
  induction t with
  | zero => simp
  | succ t ih =>
    have e : k + 1 + (t + 1) * (p - 1).toNat = (k + t * (p - 1).toNat) + 1 + (p - 1).toNat := by rw [Nat.succ_mul]; omega
    rw [e, pow_shift p a h h0 h1, ← ih]
    congr 2; omega
theorem pow_less (p a n : Int) (m : Nat) (h : isP p = true) (h0 : 0 ≤ a) (h1 : a < p) (hn : p - 1 < n) (hm : (m : Int) = n % (p - 1) + (p - 1)) : a ^ m % p = a ^ n.toNat % p := by
  have hp := isP_bd h
  have hq0 : 0 ≤ n % (p - 1) := Int.emod_nonneg _ (by omega)
  have hdm := Int.mul_ediv_add_emod n (p - 1)
  have hd1 : 1 ≤ n / (p - 1) := (Int.le_ediv_iff_mul_le (by omega)).2 (by omega)
  obtain ⟨t, ht⟩ := Int.eq_ofNat_of_zero_le (show 0 ≤ n / (p - 1) - 1 by omega)
  obtain ⟨k, hk⟩ : ∃ k : Nat, m = k + 1 := ⟨m - 1, by omega⟩
  have e : n.toNat = k + 1 + t * (p - 1).toNat := by
    have e2 : n / (p - 1) = t + 1 := by omega
    rw [e2] at hdm
    have e3 : (((p - 1).toNat : Nat) : Int) = p - 1 := by omega
    have e4 : (n.toNat : Int) = ((k + 1 + t * (p - 1).toNat : Nat) : Int) := by
      rw [Int.natCast_add, Int.natCast_mul, e3, Int.toNat_of_nonneg (by omega), ← hk, hm]
      rw [Int.mul_add, Int.mul_one, Int.mul_comm (p - 1) (t : Int)] at hdm
      omega
    exact_mod_cast e4
  rw [e, pow_shifts p a h h0 h1, hk]
end Go.Proofs.Ytfmpcniehgipfaa
namespace Go.Proofs.Ytfmpcniehgipfaa
open Go.RowKit
/-- the first number whose product with a is 1 -/
def invO (p a : Int) : Option Nat := (List.range p.toNat).find? fun n => a * n % p == 1
theorem invO_some {p a : Int} {k : Nat} (hk : (k : Int) < p) (h : a * k % p = 1) (hl : ∀ j : Nat, j < k → (a * j % p == 1) = false) : invO p a = some k := by
  unfold invO
  rw [List.find?_range_eq_some]
  refine ⟨by simp [h], by simp; omega, ?_⟩
  intro j hj
  simp [hl j hj]
theorem invO_none {p a : Int} (hl : ∀ j : Nat, (j : Int) < p → (a * j % p == 1) = false) : invO p a = none := by
  unfold invO
  rw [List.find?_range_eq_none]
  intro j hj
  simp [hl j (by omega)]
set_option maxHeartbeats 400000 in
theorem sInvLoop (p a : Int) (hp0 : isP p = true) (ha0 : 0 ≤ a) (ha1 : a < p) (w : World) :
    Calls Try.prog 81 #[.int .i64 p, .int .i64 a] w fun e w' => e = .returned (.int .i64 (((invO p a).getD 0 : Nat) : Int)) ∧ w = w' := by
  obtain ⟨hpb1, hpb2⟩ := isP_bd hp0
  have hp := Lib.hid hp0
  clear hp0
  go_enter Try.func81, Try.ntmps81
  go_wp2_with fail
  go_loop [7] (fun i => ∃ k : Nat, (k : Int) ≤ p ∧ i = .int .i64 k ∧ (∀ j : Nat, j < k → (a * j % p == 1) = false)) (fun i => p.toNat - (intOf i).toNat)
  case atStart => exact ⟨0, by omega, rfl, fun j hj => by omega⟩
  case round =>
    obtain ⟨k, hk, rfl, hall⟩ := hrel
    have Hall := Lib.hid hall
    clear hall
    by_cases hlt : (k : Int) < p
    · obtain ⟨g0, g1⟩ := mul_bd hp.out ha0 ha1 (show (0 : Int) ≤ k by omega) hlt
      by_cases h1 : a * k % p = 1
      · have hb : (a * k % p == 1) = true := by rw [h1]; rfl
        have hres := Lib.hid (invO_some hlt h1 Hall.out)
        clear h1
        go_wp2
        go_ret
        exact ⟨ret_int (by rw [hres.out]; rfl), rfl⟩
      · have hb : (a * k % p == 1) = false := by simpa using h1
        have Hb := Lib.hid hb
        clear h1
        go_wp2
        go_round
        case rel => exact ⟨k + 1, by omega, by go_num, fun j hj => by by_cases e : j = k; · rw [e]; exact Hb.out
                                                                      · exact Hall.out j (by omega)⟩
        case measure => simp [intOf]; omega
    · have hres := Lib.hid (invO_none (p := p) (a := a) (fun j hj => Hall.out j (by omega)))
      go_wp2
      go_ret
      exact ⟨ret_int (by rw [hres.out]; rfl), rfl⟩
end Go.Proofs.Ytfmpcniehgipfaa
