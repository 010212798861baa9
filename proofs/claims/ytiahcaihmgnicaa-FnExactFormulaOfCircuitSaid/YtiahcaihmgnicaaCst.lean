/-
  Contracts of CostOf, of both. Conditions: what the slice holds is known.
-/
import Derived.Test.YtiahcaihmgnicaaUgt
namespace Go.Proofs.Ytiahcaihmgnicaa
open Go.RowKit
/-- how many of the used gates below k are of a kind -/
def cst (L : List Gt) (U : Nat → Bool) (kd : Int) : Nat → Int
  | 0 => 0
  | k + 1 => cst L U kd k + if U k && (gAt L k).k == kd then 1 else 0
theorem cst_bd (L : List Gt) (U : Nat → Bool) (kd : Int) : ∀ k : Nat, 0 ≤ cst L U kd k ∧ cst L U kd k ≤ k
  | 0 => by simp [cst]
  | k + 1 => by
    have := cst_bd L U kd k
    unfold cst
    split <;> omega
def csum (L : List Gt) (kd : Int) (l : List Int) : Int := l.foldl (fun s j => s + if (gAt L j.toNat).k == kd then 1 else 0) 0
theorem csum_snoc (L : List Gt) (kd : Int) (l : List Int) (x : Int) : csum L kd (l ++ [x]) = csum L kd l + if (gAt L x.toNat).k == kd then 1 else 0 := by simp [csum]
theorem csum_use (L : List Gt) (U : Nat → Bool) (kd : Int) : ∀ k : Nat, csum L kd (useTo U k) = cst L U kd k
  | 0 => rfl
  | k + 1 => by
    unfold useTo cst
    cases hu : U k
    · simp [csum_use L U kd k]
    · rw [if_pos rfl, csum_snoc, csum_use L U kd k]
      simp
theorem csum_bd (L : List Gt) (kd : Int) (l : List Int) : ∀ t : Nat, 0 ≤ csum L kd (l.take t) ∧ csum L kd (l.take t) ≤ t
  | 0 => by simp [csum]
  | t + 1 => by
    have ih := csum_bd L kd l t
    by_cases h : t < l.length
    · rw [List.take_succ_eq_append_getElem h, csum_snoc]
      split <;> omega
    · rw [List.take_of_length_le (by omega)]
      rw [List.take_of_length_le (by omega)] at ih
      omega
/-- only gates of the circuit are used -/
theorem useM_lt {p : Int} {L : List Gt} (hv : circB p L = true) : ∀ (m j : Nat), useM L m j = true → j < L.length
  | 0, j, h => by simp [useM] at h; omega
  | m + 1, j, h => by
    obtain ⟨_, hl1, _, hall⟩ := circB_iff.1 hv
    have ih := useM_lt hv m
    unfold useM useStep at h
    split at h
    · rename_i hc
      simp only [Bool.and_eq_true] at hc
      have hil : L.length - 1 - m < L.length := by omega
      have hg := gOK_cases (hall _ hil)
      have hj := hc.2
      simp only [joinsB, Bool.or_eq_true, beq_iff_eq] at hj
      simp only [Bool.or_eq_true, beq_iff_eq] at h
      rcases h with (h | h) | h
      · exact ih j h
      · omega
      · omega
    · exact ih j h
theorem useF_out {p : Int} {L : List Gt} (hv : circB p L = true) {j : Nat} (h : L.length ≤ j) : useF L j = false := by
  cases hu : useF L j
  · rfl
  · have := useM_lt hv _ j hu; omega
theorem cst_all {p : Int} {L : List Gt} (hv : circB p L = true) (kd : Int) : ∀ d : Nat, cst L (useF L) kd (L.length + d) = cst L (useF L) kd L.length
  | 0 => rfl
  | d + 1 => by
    rw [← Nat.add_assoc, cst, useF_out hv (by omega), cst_all hv kd d]
    simp
theorem useTo_mem (U : Nat → Bool) : ∀ (k : Nat) (x : Int), x ∈ useTo U k → ∃ j : Nat, x = j ∧ U j = true
  | 0, x, h => by simp [useTo] at h
  | k + 1, x, h => by
    unfold useTo at h
    split at h
    · rename_i hu
      rcases List.mem_append.1 h with h | h
      · exact useTo_mem U k x h
      · simp at h; exact ⟨k, h, hu⟩
    · exact useTo_mem U k x h
/-- what CostOf returns -/
def costV (p : Int) (L : List Gt) (kd : Int) : Int := if circB p L then cst L (useF L) kd L.length else -1
theorem arrB_cells {w : World} {g : Nat} {U0 : Nat → Bool} (h : ArrB w g U0) (U : Nat → Bool) : ArrB (w.setCells g 0 (useC U)) g U := by
  have hT : w.there g 0 (useC U).length := by rw [useC_len]; exact h.there
  refine ⟨by
    have := (below_setCells (B := 0) g (useC U) 0 w ⟨rfl, rfl, rfl, Nat.le_refl _, fun _ hk => by omega⟩ (Nat.zero_le _)).size
    exact Nat.lt_of_lt_of_le h.1 this, fun j hj => ⟨?_, ?_⟩⟩
  · have := World.rangeAt_setCells_same w g 0 (useC U) hT j _ (useC_at U j hj)
    rw [Nat.zero_add] at this; exact this
  · rw [World.frozen?_setCells]; exact (h.2 j hj).2
end Go.Proofs.Ytiahcaihmgnicaa
