/-
  The gates of a pruned circuit, of no program: they are a circuit; the used gates' numbers one after the other. Conditions: the gates are a circuit.
-/
import Derived.Test.YtcbndfplfajoiaaPrn
import Derived.Test.YtcbndfplfajoiaaDpM
namespace Go.Proofs.Ytcbndfplfajoiaa
open Go.RowKit
theorem useTo_step {U : Nat → Bool} {k : Nat} (h : U k = true) : useTo U (k + 1) = useTo U k ++ [(k : Int)] := by simp [useTo, h]
theorem useTo_skip {U : Nat → Bool} {k : Nat} (h : U k = false) : useTo U (k + 1) = useTo U k := by simp [useTo, h]
theorem useTo_mono (U : Nat → Bool) {i : Nat} : ∀ {k : Nat}, i ≤ k → (useTo U i).length ≤ (useTo U k).length := by
  intro k h
  induction k with
  | zero => rw [show i = 0 by omega]; exact Nat.le_refl _
  | succ k ih =>
    by_cases e : i = k + 1
    · rw [e]; exact Nat.le_refl _
    · have := ih (by omega)
      cases hu : U k
      · rw [useTo_skip hu]; exact this
      · rw [useTo_step hu]; simp; omega
theorem use_pos (U : Nat → Bool) : ∀ n t : Nat, t < (useTo U n).length → ∃ j : Nat, j < n ∧ U j = true ∧ (useTo U n).getD t 0 = (j : Int) ∧ useTo U j = (useTo U n).take t
  | 0, t, h => by simp [useTo] at h
  | n + 1, t, h => by
    cases hu : U n
    · rw [useTo_skip hu] at h ⊢
      obtain ⟨j, h1, h2⟩ := use_pos U n t h
      exact ⟨j, by omega, h2⟩
    · rw [useTo_step hu] at h ⊢
      by_cases e : t = (useTo U n).length
      · subst e
        exact ⟨n, by omega, hu, by simp [List.getD_eq_getElem?_getD], by simp⟩
      · have ht : t < (useTo U n).length := by simp at h; omega
        obtain ⟨j, h1, h2, h3, h4⟩ := use_pos U n t ht
        refine ⟨j, by omega, h2, ?_, ?_⟩
        · rw [← h3, List.getD_eq_getElem?_getD, List.getD_eq_getElem?_getD, List.getElem?_append_left ht]
        · rw [h4, List.take_append_of_le_length (by omega)]
theorem use_none (U : Nat → Bool) {k j i : Nat} (h : (useTo U k).length = (useTo U j).length) (h1 : k ≤ i) (h2 : i < j) : U i = false := by
  cases hu : U i
  · rfl
  · have a := useTo_mono U h1
    have b := useTo_mono U (show i + 1 ≤ j by omega)
    rw [useTo_step hu] at b
    simp at b
    omega
theorem prn_skip (L : List Gt) (U : Nat → Bool) (k : Nat) : ∀ d : Nat, (∀ i, k ≤ i → i < k + d → U i = false) → prnL L U (k + d) = prnL L U k
  | 0, _ => rfl
  | d + 1, h => by
    rw [← Nat.add_assoc, prnL, h (k + d) (by omega) (by omega), prn_skip L U k d (fun i h1 h2 => h i h1 (by omega))]
    rfl
/-- from the place where the last one was put to the next used one -/
theorem prn_to (L : List Gt) (U : Nat → Bool) {k j : Nat} (hj : U j = true) (h : useTo U k = useTo U j) : k ≤ j ∧ prnL L U k = prnL L U j ∧ ∀ i, (plL U k).getD i 0 = (plL U j).getD i 0 := by
  have hl : (useTo U k).length = (useTo U j).length := by rw [h]
  have hkj : k ≤ j := by
    refine Classical.byContradiction fun hn => ?_
    have := useTo_mono U (show j + 1 ≤ k by omega)
    rw [useTo_step hj] at this
    simp at this
    omega
  refine ⟨hkj, ?_, fun i => ?_⟩
  · obtain ⟨d, rfl⟩ := Nat.exists_eq_add_of_le hkj
    exact (prn_skip L U k d (fun i h1 h2 => use_none U hl h1 h2)).symm
  · rw [plL_at, plL_at]
    by_cases h1 : i < k
    · rw [if_pos h1, if_pos (by omega)]
    · rw [if_neg h1]
      split
      · rename_i h2
        unfold pl
        rw [use_none U hl (by omega) h2]
        rfl
      · rfl
theorem ArrI.same {w : World} {g : Nat} {D E : List Int} (h : ArrI w g D) (he : ∀ i, D.getD i 0 = E.getD i 0) : ArrI w g E :=
  ⟨h.1, fun j hj => ⟨by rw [(h.2 j hj).1, he], (h.2 j hj).2⟩⟩
theorem prnL_out {p : Int} {L : List Gt} (hv : circB p L = true) (hl : L.length ≤ 60) : prnL L (useF L) 60 = prnL L (useF L) L.length ∧ (useTo (useF L) 60).length = (useTo (useF L) L.length).length := by
  obtain ⟨d, hd⟩ := Nat.exists_eq_add_of_le hl
  rw [hd]
  have e := prn_skip L (useF L) L.length d (fun i h1 _ => useF_out hv h1)
  refine ⟨e, ?_⟩
  rw [← prnL_len L, ← prnL_len L, e]
theorem prnL_ok {p : Int} {L : List Gt} (hv : circB p L = true) : ∀ k : Nat, k ≤ L.length → ∀ i : Nat, i < (prnL L (useF L) k).length → gOK (p - 1) (gAt (prnL L (useF L) k) i) i = true
  | 0, _, i, h => by simp [prnL] at h
  | k + 1, hk, i, h => by
    have ih := prnL_ok hv k (by omega)
    obtain ⟨_, _, _, hall⟩ := circB_iff.1 hv
    cases hu : useF L k
    · have e : prnL L (useF L) (k + 1) = prnL L (useF L) k := by rw [prnL, hu]; rfl
      rw [e] at h ⊢
      exact ih i h
    · have e : prnL L (useF L) (k + 1) = prnL L (useF L) k ++ [mapG (useF L) (gAt L k)] := by rw [prnL, hu]; rfl
      rw [e] at h ⊢
      by_cases hi : i < (prnL L (useF L) k).length
      · have : gAt (prnL L (useF L) k ++ [mapG (useF L) (gAt L k)]) i = gAt (prnL L (useF L) k) i := by
          unfold gAt
          simp only [List.getD_eq_getElem?_getD]
          rw [List.getElem?_append_left hi]
        rw [this]
        exact ih i hi
      · have hie : i = (prnL L (useF L) k).length := by simp at h; omega
        have : gAt (prnL L (useF L) k ++ [mapG (useF L) (gAt L k)]) i = mapG (useF L) (gAt L k) := by
          unfold gAt
          rw [List.getD_eq_getElem?_getD, hie, List.getElem?_append_right (Nat.le_refl _)]
          simp
        rw [this]
        have hg := hall k (by omega)
        have hc := gOK_cases hg
        cases hj : joinsB (gAt L k)
        · rw [show mapG (useF L) (gAt L k) = gAt L k by simp [mapG, hj]]
          have hk2 : ¬ ((gAt L k).k = 2 ∨ (gAt L k).k = 3) := by
            intro h2
            rw [Bool.eq_false_iff] at hj
            exact hj (by simpa [joinsB] using h2)
          rcases hc with h1 | h1 | h1
          · simp [gOK, h1, inB]
          · simp [gOK, h1, inB]
          · exact absurd h1.1 hk2
        · rw [show mapG (useF L) (gAt L k) = ⟨(gAt L k).k, pl (useF L) (gAt L k).a.toNat, pl (useF L) (gAt L k).b.toNat⟩ by simp [mapG, hj]]
          have hk2 : (gAt L k).k = 2 ∨ (gAt L k).k = 3 := by simpa [joinsB] using hj
          obtain ⟨ua, ub⟩ := use_closed hv (by omega) hu hj
          have key : ∀ a : Nat, a < k → useF L a = true → 0 ≤ pl (useF L) a ∧ pl (useF L) a < (i : Int) := by
            intro a ha hua
            have h1 := useTo_mono (useF L) (show a + 1 ≤ k by omega)
            rw [useTo_step hua] at h1
            simp at h1
            unfold pl
            rw [if_pos hua, hie, prnL_len]
            omega
          have ka := key (gAt L k).a.toNat (by omega) ua
          have kb := key (gAt L k).b.toNat (by omega) ub
          rcases hk2 with h2 | h2 <;> (simp [gOK, h2, inB]; omega)
theorem prnL_circ {p : Int} {L : List Gt} (hv : circB p L = true) : circB p (prnL L (useF L) L.length) = true := by
  obtain ⟨hp, hl1, hl2, _⟩ := circB_iff.1 hv
  refine circB_iff.2 ⟨hp, ?_, ?_, prnL_ok hv L.length (Nat.le_refl _)⟩
  · have h := useTo_mono (useF L) (show L.length - 1 + 1 ≤ L.length by omega)
    rw [useTo_step (useF_last hv)] at h
    rw [prnL_len]
    simp at h
    omega
  · rw [prnL_len]
    have := useTo_len (useF L) L.length
    omega
end Go.Proofs.Ytcbndfplfajoiaa
