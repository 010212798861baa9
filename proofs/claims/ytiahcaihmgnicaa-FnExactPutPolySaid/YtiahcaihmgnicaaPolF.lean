/-
  Contracts of the model's degrees.
-/
import Derived.Test.YtiahcaihmgnicaaPolD
import Derived.Deep.RegionHeld3

namespace Go.Proofs.Ytiahcaihmgnicaa
open Go.RowKit
set_option maxHeartbeats 2000000 in
theorem sDeg (a b c : Int) (w : World) (ha : 0 ≤ a ∧ a ≤ 9) (hb : 0 ≤ b ∧ b ≤ 9) (hc : 0 ≤ c ∧ c ≤ 9) :
    Calls Try.prog 147 #[.agg #[.int .i64 a, .int .i64 b, .int .i64 c]] w fun e w' => e = .returned (.int .i64 (a + b + c)) ∧ Below w.heap.size w w' := by
  obtain ⟨a0, a1⟩ := ha
  obtain ⟨b0, b1⟩ := hb
  obtain ⟨c0, c1⟩ := hc
  have w1 : IntKind.i64.wrap (a + b) = a + b := IntWalk.i64_in _ (by omega)
  have w2 : IntKind.i64.wrap (a + b + c) = a + b + c := IntWalk.i64_in _ (by omega)
  go_enter Try.func147, Try.ntmps147
  go_wp2_with fail
  go_ret
  exact ⟨rfl, by repeat (first | exact Below.refl _ _ | apply Below.drew | apply below_drewN | (refine Below.setCell ?_ (by simp <;> omega) _) | (refine Below.alloc ?_ (by simp <;> omega) _))⟩
def degT (x : Trm) : Int := x.a + x.b + x.c
/-- the greatest degree of the first k terms; -1 of none -/
def degK (L : List Trm) : Nat → Int
  | 0 => -1
  | k + 1 => if degK L k < degT (L.getD k default) then degT (L.getD k default) else degK L k
theorem powB_bd {n : Int} (h : powB n = true) : 0 ≤ n ∧ n ≤ 9 := by simpa [powB] using h
theorem okAt_pows {p : Int} {L : List Trm} {k : Nat} (h : okAt p L k = true) : powsB (L.getD k default).a (L.getD k default).b (L.getD k default).c = true := by
  simp only [okAt, tokB, Bool.and_eq_true] at h; exact h.1.1
theorem validB_at {p : Int} {L : List Trm} (h : validB p L = true) {k : Nat} (hk : k < L.length) : okAt p L k = true := by
  simp only [validB, Bool.and_eq_true] at h; exact List.all_eq_true.1 h.1 k (List.mem_range.2 hk)
theorem validB_pows {p : Int} {L : List Trm} (h : validB p L = true) {k : Nat} (hk : k < L.length) {x : Trm} (hx : x = L.getD k default) : (0 ≤ x.a ∧ x.a ≤ 9) ∧ (0 ≤ x.b ∧ x.b ≤ 9) ∧ (0 ≤ x.c ∧ x.c ≤ 9) := by
  have h1 := okAt_pows (validB_at h hk)
  rw [← hx] at h1
  simp only [powsB, Bool.and_eq_true] at h1
  exact ⟨powB_bd h1.1.1, powB_bd h1.1.2, powB_bd h1.2⟩
theorem validB_len {p : Int} {L : List Trm} (h : validB p L = true) : L.length ≤ 60 := by
  simp only [validB, Bool.and_eq_true, decide_eq_true_eq] at h; exact h.2
/-- what the model's DegreeOf hands back, for any prime or none and any list of terms -/
def degV (p : Int) (L : List Trm) : Int := if isP p && validB p L then degK L L.length else -2
end Go.Proofs.Ytiahcaihmgnicaa
