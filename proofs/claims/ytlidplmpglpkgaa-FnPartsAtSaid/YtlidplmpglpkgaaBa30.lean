/-
  Values of the gates of a circuit, of no program: those of the first gates alone are the same, and each is that of its gate. Conditions: the gates are a circuit.
-/
import Derived.Test.YtlidplmpglpkgaaBa20
import Derived.Test.YtlidplmpglpkgaaBa15
namespace Go.Proofs.Ytlidplmpglpkgaa
open Go.RowKit
theorem gAt_take {L : List Gt} {k j : Nat} (h : j < k) : gAt (L.take k) j = gAt L j := by
  unfold gAt
  simp only [List.getD_eq_getElem?_getD]
  rw [List.getElem?_take_of_lt h]
theorem circB_take {p : Int} {L : List Gt} (hv : circB p L = true) {k : Nat} (h0 : 1 ≤ k) (h1 : k ≤ L.length) : circB p (L.take k) = true := by
  obtain ⟨hp, _, h60, hall⟩ := circB_iff.1 hv
  have hl : (L.take k).length = k := by simp; omega
  refine circB_iff.2 ⟨hp, by omega, by omega, fun j hj => ?_⟩
  rw [gAt_take (by omega)]
  exact hall j (by omega)
theorem evL_take (p x y z : Int) (L : List Gt) (k : Nat) : ∀ j : Nat, j ≤ k → evL p x y z (L.take k) j = evL p x y z L j
  | 0, _ => rfl
  | j + 1, h => by
    have ih := evL_take p x y z L k j (by omega)
    simp only [evL, ih, gAt_take (show j < k by omega)]
theorem evL_pre (p x y z : Int) (L : List Gt) (k : Nat) : ∀ d : Nat, (evL p x y z L (k + d)).take k = evL p x y z L k
  | 0 => by
    rw [Nat.add_zero, List.take_of_length_le (by rw [evL_len]; omega)]
  | d + 1 => by
    have ih := evL_pre p x y z L k d
    rw [← Nat.add_assoc, evL, List.take_append_of_le_length (by rw [evL_len]; omega)]
    exact ih
theorem evL_st (p x y z : Int) (L : List Gt) (j : Nat) : ∀ k, j < k → (evL p x y z L k).getD j 0 = (evL p x y z L (j + 1)).getD j 0
  | 0, h => by omega
  | k + 1, h => by
    by_cases e : j = k
    · rw [e]
    · rw [evL, getD_snoc, if_neg (by rw [evL_len]; omega)]
      exact evL_st p x y z L j k (by omega)
/-- the value of gate k -/
theorem evL_at {p x y z : Int} {L : List Gt} (hv : circB p L = true) {k : Nat} (hk : k < L.length) {g : Gt} (hg : gAt L k = g) :
    (evL p x y z L L.length).getD k 0 = if g.k == 0 then coord x y z g.a
      else if g.k == 2 then ((evL p x y z L L.length).getD g.a.toNat 0 + (evL p x y z L L.length).getD g.b.toNat 0) % p
      else if g.k == 3 then ((evL p x y z L L.length).getD g.a.toNat 0 * (evL p x y z L L.length).getD g.b.toNat 0) % p
      else g.a := by
  obtain ⟨_, _, _, hall⟩ := circB_iff.1 hv
  have hc := gOK_cases (hall k hk)
  rw [hg] at hc
  have e1 : (evL p x y z L L.length).getD k 0 = if g.k == 0 then coord x y z g.a
      else if g.k == 2 then ((evL p x y z L k).getD g.a.toNat 0 + (evL p x y z L k).getD g.b.toNat 0) % p
      else if g.k == 3 then ((evL p x y z L k).getD g.a.toNat 0 * (evL p x y z L k).getD g.b.toNat 0) % p
      else g.a := by
    rw [evL_st p x y z L k L.length hk, evL, getD_snoc, if_pos (by rw [evL_len]), hg]
  rw [e1]
  rcases hc with h | h | ⟨h, a0, a1, b0, b1⟩
  · rw [if_pos (by simp [h]), if_pos (by simp [h])]
  · simp [h]
  · rw [evL_st p x y z L g.a.toNat k (by omega), evL_st p x y z L g.b.toNat k (by omega), ← evL_st p x y z L g.a.toNat L.length (by omega), ← evL_st p x y z L g.b.toNat L.length (by omega)]
end Go.Proofs.Ytlidplmpglpkgaa
