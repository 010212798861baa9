/-
  Joined circuits, of no program: the values of the gates are those of both and that of the last one, and the depth is one more than the greater one. Conditions: both are circuits.
-/
import Derived.Test.YtgbjchidnnmifaaEvM
import Derived.Test.YtgbjchidnnmifaaJoiI
import Derived.Test.YtgbjchidnnmifaaFdgI
namespace Go.Proofs.Ytgbjchidnnmifaa
open Go.RowKit
theorem gAt_join1 {L M : List Gt} {k : Int} {j : Nat} (h : j < L.length) : gAt (joinL L M k) j = gAt L j := by
  unfold gAt joinL
  simp only [List.getD_eq_getElem?_getD]
  rw [List.append_assoc, List.getElem?_append_left h]
theorem gAt_join2 {L M : List Gt} {k : Int} {j : Nat} (h : j < M.length) : gAt (joinL L M k) (L.length + j) = movG L.length (gAt M j) := by
  unfold gAt joinL
  simp only [List.getD_eq_getElem?_getD]
  rw [List.append_assoc, List.getElem?_append_right (by omega), Nat.add_sub_cancel_left, List.getElem?_append_left (by simpa using h)]
  simp [h]
theorem gAt_join3 {L M : List Gt} {k : Int} : gAt (joinL L M k) (L.length + M.length) = ⟨k, L.length - 1, L.length + M.length - 1⟩ := by
  unfold gAt joinL
  simp only [List.getD_eq_getElem?_getD]
  rw [List.getElem?_append_right (by simp)]
  simp
theorem ev_join1 (p x y z : Int) (L M : List Gt) (k : Int) : ∀ j : Nat, j ≤ L.length → evL p x y z (joinL L M k) j = evL p x y z L j
  | 0, _ => rfl
  | j + 1, h => by
    have ih := ev_join1 p x y z L M k j (by omega)
    simp only [evL, ih, gAt_join1 (show j < L.length by omega)]
theorem getD_app2 {A B : List Int} {n : Nat} (hn : A.length = n) (a : Int) (h0 : 0 ≤ a) : (A ++ B).getD (a + (n : Int)).toNat 0 = B.getD a.toNat 0 := by
  simp only [List.getD_eq_getElem?_getD]
  rw [List.getElem?_append_right (by omega), show (a + (n : Int)).toNat - A.length = a.toNat by omega]
theorem ev_join2 {p x y z : Int} {L M : List Gt} (k : Int) (hM : circB p M = true) : ∀ j : Nat, j ≤ M.length → evL p x y z (joinL L M k) (L.length + j) = evL p x y z L L.length ++ evL p x y z M j
  | 0, _ => by rw [Nat.add_zero, ev_join1 p x y z L M k L.length (Nat.le_refl _)]; simp [evL]
  | j + 1, h => by
    have ih := ev_join2 (x := x) (y := y) (z := z) (L := L) k hM j (by omega)
    obtain ⟨_, _, _, hall⟩ := circB_iff.1 hM
    have hc := gOK_cases (hall j (by omega))
    have hl := evL_len p x y z L L.length
    rw [← Nat.add_assoc]
    rw [evL, ih, gAt_join2 (show j < M.length by omega), evL, List.append_assoc]
    congr 2
    generalize gAt M j = g at hc
    obtain ⟨gk, ga, gb⟩ := g
    simp only at hc
    rcases hc with ⟨rfl, _⟩ | ⟨rfl, _⟩ | ⟨hk, a0, a1, b0, b1⟩
    · simp [movG, joinsB]
    · simp [movG, joinsB]
    · have hj : joinsB ⟨gk, ga, gb⟩ = true := by simpa [joinsB] using hk
      have e1 := getD_app2 (B := evL p x y z M j) hl ga a0
      have e2 := getD_app2 (B := evL p x y z M j) hl gb b0
      simp only [movG, hj, if_true]
      rw [e1, e2]
      rcases hk with rfl | rfl <;> simp
/-- all values of the joined circuit -/
theorem ev_join {p x y z : Int} {L M : List Gt} {k : Int} (hL : circB p L = true) (hM : circB p M = true) (hk : k = 2 ∨ k = 3) :
    evL p x y z (joinL L M k) (joinL L M k).length = evL p x y z L L.length ++ evL p x y z M M.length ++
      [if k = 2 then ((evL p x y z L L.length).getD (L.length - 1) 0 + (evL p x y z M M.length).getD (M.length - 1) 0) % p
        else ((evL p x y z L L.length).getD (L.length - 1) 0 * (evL p x y z M M.length).getD (M.length - 1) 0) % p] := by
  obtain ⟨_, l1, _, _⟩ := circB_iff.1 hL
  obtain ⟨_, m1, _, _⟩ := circB_iff.1 hM
  have hl := evL_len p x y z L L.length
  rw [joinL_len, evL, ev_join2 k hM M.length (Nat.le_refl _), gAt_join3]
  have e1 : (evL p x y z L L.length ++ evL p x y z M M.length).getD ((L.length : Int) - 1).toNat 0 = (evL p x y z L L.length).getD (L.length - 1) 0 := by
    simp only [List.getD_eq_getElem?_getD]
    rw [List.getElem?_append_left (by omega), show ((L.length : Int) - 1).toNat = L.length - 1 by omega]
  have e2 : (evL p x y z L L.length ++ evL p x y z M M.length).getD ((L.length : Int) + M.length - 1).toNat 0 = (evL p x y z M M.length).getD (M.length - 1) 0 := by
    simp only [List.getD_eq_getElem?_getD]
    rw [List.getElem?_append_right (by omega), show ((L.length : Int) + M.length - 1).toNat - (evL p x y z L L.length).length = M.length - 1 by omega]
  simp only [e1, e2]
  rcases hk with rfl | rfl <;> simp
theorem dep_join1 (L M : List Gt) (k : Int) : ∀ j : Nat, j ≤ L.length → depL (joinL L M k) j = depL L j
  | 0, _ => rfl
  | j + 1, h => by
    have ih := dep_join1 L M k j (by omega)
    simp only [depL, ih, gAt_join1 (show j < L.length by omega)]
theorem dep_join2 {p : Int} {L M : List Gt} (k : Int) (hM : circB p M = true) : ∀ j : Nat, j ≤ M.length → depL (joinL L M k) (L.length + j) = depL L L.length ++ depL M j
  | 0, _ => by rw [Nat.add_zero, dep_join1 L M k L.length (Nat.le_refl _)]; simp [depL]
  | j + 1, h => by
    have ih := dep_join2 (L := L) k hM j (by omega)
    obtain ⟨_, _, _, hall⟩ := circB_iff.1 hM
    have hc := gOK_cases (hall j (by omega))
    have hl := depL_len L L.length
    rw [← Nat.add_assoc]
    rw [depL, ih, gAt_join2 (show j < M.length by omega), depL, List.append_assoc]
    congr 2
    generalize gAt M j = g at hc
    obtain ⟨gk, ga, gb⟩ := g
    simp only at hc
    rcases hc with ⟨rfl, _⟩ | ⟨rfl, _⟩ | ⟨hk, a0, a1, b0, b1⟩
    · simp [movG, joinsB]
    · simp [movG, joinsB]
    · have hj : joinsB ⟨gk, ga, gb⟩ = true := by simpa [joinsB] using hk
      have hj2 : joinsB ⟨gk, ga + (L.length : Int), gb + (L.length : Int)⟩ = true := by simpa [joinsB] using hk
      have e1 := getD_app2 (B := depL M j) hl ga a0
      have e2 := getD_app2 (B := depL M j) hl gb b0
      simp only [movG, hj, hj2, if_true]
      rw [e1, e2]
theorem dep_join {p : Int} {L M : List Gt} {k : Int} (hL : circB p L = true) (hM : circB p M = true) (hk : k = 2 ∨ k = 3) (hJ : circB p (joinL L M k) = true) :
    depV p (joinL L M k) = 1 + max (depV p L) (depV p M) := by
  obtain ⟨_, l1, _, _⟩ := circB_iff.1 hL
  obtain ⟨_, m1, _, _⟩ := circB_iff.1 hM
  have hl := depL_len L L.length
  have hm := depL_len M M.length
  simp only [depV, hL, hM, hJ, if_true]
  rw [joinL_len, depL, dep_join2 k hM M.length (Nat.le_refl _), gAt_join3]
  have hj : joinsB ⟨k, (L.length : Int) - 1, (L.length : Int) + M.length - 1⟩ = true := by simpa [joinsB] using hk
  have e1 : (depL L L.length ++ depL M M.length).getD ((L.length : Int) - 1).toNat 0 = (depL L L.length).getD (L.length - 1) 0 := by
    simp only [List.getD_eq_getElem?_getD]
    rw [List.getElem?_append_left (by omega), show ((L.length : Int) - 1).toNat = L.length - 1 by omega]
  have e2 : (depL L L.length ++ depL M M.length).getD ((L.length : Int) + M.length - 1).toNat 0 = (depL M M.length).getD (M.length - 1) 0 := by
    simp only [List.getD_eq_getElem?_getD]
    rw [List.getElem?_append_right (by omega), show ((L.length : Int) + M.length - 1).toNat - (depL L L.length).length = M.length - 1 by omega]
  simp only [hj, if_true, e1, e2]
  rw [show L.length + M.length + 1 - 1 = (depL L L.length ++ depL M M.length).length by simp [hl, hm], getD_snoc, if_pos rfl]
end Go.Proofs.Ytgbjchidnnmifaa
