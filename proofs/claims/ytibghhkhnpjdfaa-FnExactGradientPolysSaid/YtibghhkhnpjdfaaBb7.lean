/-
  The formula that a circuit is without sharing: mathematics alone. Conditions: the circuit is one.
  FormulaOfCircuit, of the model. Conditions: what the slice holds is known.
-/
import Derived.Test.YtibghhkhnpjdfaaBa20
import Derived.Test.YtibghhkhnpjdfaaBb2
import Derived.Test.YtibghhkhnpjdfaaBa2
namespace Go.Proofs.Ytibghhkhnpjdfaa
open Go.RowKit
def ltrS (a : Int) : ByteArray := (⟨#[120, 121, 122]⟩ : ByteArray).extract a.toNat (a.toNat + 1)
def dgtS (a : Int) : ByteArray := (⟨#[48, 49, 50, 51, 52, 53, 54, 55, 56, 57, 65, 66, 67]⟩ : ByteArray).extract a.toNat (a.toNat + 1)
def sgS (k : Int) : ByteArray := if k = 3 then ⟨#[42]⟩ else ⟨#[43]⟩
/-- the formula of a gate, made of those of the gates before -/
def gtS (g : Gt) (D : List ByteArray) : ByteArray :=
  if g.k = 0 then ltrS g.a else if g.k = 1 then dgtS g.a else (sgS g.k ++ D.getD g.a.toNat ⟨#[]⟩) ++ D.getD g.b.toNat ⟨#[]⟩
def txL (L : List Gt) : Nat → List ByteArray
  | 0 => []
  | k + 1 => txL L k ++ [gtS (gAt L k) (txL L k)]
theorem txL_len (L : List Gt) : ∀ k, (txL L k).length = k
  | 0 => rfl
  | k + 1 => by simp [txL, txL_len L k]
theorem getD_snocB (D : List ByteArray) (u : ByteArray) (j : Nat) : (D ++ [u]).getD j ⟨#[]⟩ = if j = D.length then u else D.getD j ⟨#[]⟩ := by
  simp only [List.getD_eq_getElem?_getD]
  by_cases h : j = D.length
  · rw [if_pos h, h]; simp
  · rw [if_neg h]
    by_cases h2 : j < D.length
    · rw [List.getElem?_append_left h2]
    · rw [List.getElem?_eq_none (by simp; omega), List.getElem?_eq_none (by omega)]
/-- the formula of a gate -/
def tx (L : List Gt) (j : Nat) : ByteArray := (txL L (j + 1)).getD j ⟨#[]⟩
theorem txL_st (L : List Gt) (j : Nat) : ∀ k, j < k → (txL L k).getD j ⟨#[]⟩ = tx L j
  | 0, h => by omega
  | k + 1, h => by
    by_cases e : j = k
    · rw [e]; rfl
    · rw [txL, getD_snocB, if_neg (by rw [txL_len]; omega)]
      exact txL_st L j k (by omega)
theorem tx_eq (L : List Gt) (j : Nat) : tx L j = gtS (gAt L j) (txL L j) := by
  unfold tx
  rw [txL, getD_snocB, if_pos (by rw [txL_len])]
def szAt (L : List Gt) (j : Nat) : Int := (sizL L (j + 1)).getD j 0
theorem sizL_st (L : List Gt) (j : Nat) : ∀ k, j < k → (sizL L k).getD j 0 = szAt L j
  | 0, h => by omega
  | k + 1, h => by
    by_cases e : j = k
    · rw [e]; rfl
    · rw [sizL, getD_snoc, if_neg (by rw [sizL_len]; omega)]
      exact sizL_st L j k (by omega)
theorem szAt_eq (L : List Gt) (j : Nat) : szAt L j = if joinsB (gAt L j) = true then min (1 + (sizL L j).getD (gAt L j).a.toNat 0 + (sizL L j).getD (gAt L j).b.toNat 0) 1000 else 1 := by
  unfold szAt
  rw [sizL, getD_snoc, if_pos (by rw [sizL_len])]
theorem ltrS_size {a : Int} (h0 : 0 ≤ a) (h1 : a ≤ 2) : (ltrS a).size = 1 := by
  have : a = 0 ∨ a = 1 ∨ a = 2 := by omega
  rcases this with rfl | rfl | rfl <;> rfl
theorem dgtS_size {a : Int} (h0 : 0 ≤ a) (h1 : a ≤ 12) : (dgtS a).size = 1 := by
  have : a = 0 ∨ a = 1 ∨ a = 2 ∨ a = 3 ∨ a = 4 ∨ a = 5 ∨ a = 6 ∨ a = 7 ∨ a = 8 ∨ a = 9 ∨ a = 10 ∨ a = 11 ∨ a = 12 := by omega
  rcases this with rfl | rfl | rfl | rfl | rfl | rfl | rfl | rfl | rfl | rfl | rfl | rfl | rfl <;> rfl
theorem sgS_size (k : Int) : (sgS k).size = 1 := by unfold sgS; split <;> rfl
/-- a gate that joins two: its formula is longer than theirs -/
theorem tx_join {p : Int} {L : List Gt} (hv : circB p L = true) {j : Nat} (hj : j < L.length) (hg : joinsB (gAt L j) = true) :
    tx L j = (sgS (gAt L j).k ++ tx L (gAt L j).a.toNat) ++ tx L (gAt L j).b.toNat ∧ (gAt L j).a.toNat < j ∧ (gAt L j).b.toNat < j := by
  obtain ⟨_, _, _, hall⟩ := circB_iff.1 hv
  have hc := gOK_cases (hall j hj)
  have hk : (gAt L j).k = 2 ∨ (gAt L j).k = 3 := by simpa [joinsB] using hg
  have ha : (gAt L j).a.toNat < j := by omega
  have hb : (gAt L j).b.toNat < j := by omega
  refine ⟨?_, ha, hb⟩
  rw [tx_eq]
  unfold gtS
  rw [if_neg (by omega), if_neg (by omega), txL_st L _ j ha, txL_st L _ j hb]
theorem tx_leaf {p : Int} {L : List Gt} (hv : circB p L = true) {j : Nat} (hj : j < L.length) (hg : joinsB (gAt L j) = false) :
    ((gAt L j).k = 0 ∧ tx L j = ltrS (gAt L j).a ∧ 0 ≤ (gAt L j).a ∧ (gAt L j).a ≤ 2) ∨ ((gAt L j).k = 1 ∧ tx L j = dgtS (gAt L j).a ∧ 0 ≤ (gAt L j).a ∧ (gAt L j).a ≤ 12) := by
  obtain ⟨hp, _, _, hall⟩ := circB_iff.1 hv
  have hb := isP_bd hp
  have hc := gOK_cases (hall j hj)
  have hk : ¬ ((gAt L j).k = 2 ∨ (gAt L j).k = 3) := by
    intro h
    have : joinsB (gAt L j) = true := by simpa [joinsB] using h
    rw [hg] at this
    cases this
  rw [tx_eq]
  unfold gtS
  rcases hc with ⟨h0, h1, h2, _⟩ | ⟨h0, h1, h2, _⟩ | ⟨h0, _⟩
  · exact .inl ⟨h0, by rw [if_pos h0], h1, h2⟩
  · exact .inr ⟨h0, by rw [if_neg (by omega), if_pos h0], h1, by omega⟩
  · exact absurd h0 hk
theorem tx_size {p : Int} {L : List Gt} (hv : circB p L = true) : ∀ j : Nat, j < L.length → szAt L j < 1000 → ((tx L j).size : Int) = szAt L j := by
  intro j
  induction j using Nat.strongRecOn with
  | _ j ih =>
    intro hj hs
    cases hg : joinsB (gAt L j)
    · rw [szAt_eq, hg, if_neg (by decide)]
      rcases tx_leaf hv hj hg with ⟨_, e, h0, h1⟩ | ⟨_, e, h0, h1⟩
      · rw [e, ltrS_size h0 h1]; rfl
      · rw [e, dgtS_size h0 h1]; rfl
    · obtain ⟨e, ha, hb⟩ := tx_join hv hj hg
      rw [szAt_eq, hg, if_pos rfl, sizL_st L _ j ha, sizL_st L _ j hb] at hs ⊢
      have ba := sizL_bd L ((gAt L j).a.toNat + 1) (gAt L j).a.toNat
      have bb := sizL_bd L ((gAt L j).b.toNat + 1) (gAt L j).b.toNat
      have ca : 0 ≤ szAt L (gAt L j).a.toNat := ba.1
      have cb : 0 ≤ szAt L (gAt L j).b.toNat := bb.1
      have ia := ih _ ha (by omega) (by omega)
      have ib := ih _ hb (by omega) (by omega)
      rw [e]
      simp only [ByteArray.size_append, sgS_size]
      omega
/-- what is used is no longer than the whole -/
theorem tx_used {p : Int} {L : List Gt} (hv : circB p L = true) {N : Nat} (hN : (tx L (L.length - 1)).size ≤ N) : ∀ m j : Nat, j < L.length → useM L m j = true → (tx L j).size ≤ N
  | 0, j, hj, h => by
    have : j + 1 = L.length := by simpa [useM] using h
    rwa [show j = L.length - 1 by omega]
  | m + 1, j, hj, h => by
    have hl := (circB_iff.1 hv).2.1
    simp only [useM, useStep] at h
    split at h
    · rename_i hc
      simp only [Bool.and_eq_true] at hc
      have hi : L.length - 1 - m < L.length := by omega
      have hb := tx_used hv hN m _ hi hc.1
      obtain ⟨e, ha, hbb⟩ := tx_join hv hi hc.2
      obtain ⟨_, _, _, hall⟩ := circB_iff.1 hv
      have hcc := gOK_cases (hall _ hi)
      have hk : (gAt L (L.length - 1 - m)).k = 2 ∨ (gAt L (L.length - 1 - m)).k = 3 := by simpa [joinsB] using hc.2
      rw [e] at hb
      simp only [ByteArray.size_append] at hb
      simp only [Bool.or_eq_true, beq_iff_eq] at h
      rcases h with (h | h) | h
      · exact tx_used hv hN m j hj h
      · rw [show j = (gAt L (L.length - 1 - m)).a.toNat by omega]; omega
      · rw [show j = (gAt L (L.length - 1 - m)).b.toNat by omega]; omega
    · exact tx_used hv hN m j hj h
theorem sp_step {U : Nat → Bool} {k : Nat} (h : U k = true) : useTo U (k + 1) = useTo U k ++ [(k : Int)] := by simp [useTo, h]
theorem sp_skip {U : Nat → Bool} {k : Nat} (h : U k = false) : useTo U (k + 1) = useTo U k := by simp [useTo, h]
theorem sp_pos (U : Nat → Bool) : ∀ n t : Nat, t < (useTo U n).length → ∃ j : Nat, j < n ∧ U j = true ∧ (useTo U n).getD t 0 = (j : Int) ∧ useTo U j = (useTo U n).take t
  | 0, t, h => by simp [useTo] at h
  | n + 1, t, h => by
    cases hu : U n
    · rw [sp_skip hu] at h ⊢
      obtain ⟨j, h1, h2⟩ := sp_pos U n t h
      exact ⟨j, by omega, h2⟩
    · rw [sp_step hu] at h ⊢
      by_cases e : t = (useTo U n).length
      · subst e
        exact ⟨n, by omega, hu, by simp [List.getD_eq_getElem?_getD], by simp⟩
      · have ht : t < (useTo U n).length := by simp at h; omega
        obtain ⟨j, h1, h2, h3, h4⟩ := sp_pos U n t ht
        refine ⟨j, by omega, h2, ?_, ?_⟩
        · rw [← h3, List.getD_eq_getElem?_getD, List.getD_eq_getElem?_getD, List.getElem?_append_left ht]
        · rw [h4, List.take_append_of_le_length (by omega)]
theorem sp_mem {U : Nat → Bool} : ∀ {n j : Nat}, j < n → U j = true → (j : Int) ∈ useTo U n
  | 0, j, h, _ => by omega
  | n + 1, j, h, hu => by
    unfold useTo
    by_cases e : j = n
    · subst e
      rw [if_pos hu]
      simp
    · have := sp_mem (n := n) (by omega) hu
      split
      · exact List.mem_append_left _ this
      · exact this
theorem sp_inj {U : Nat → Bool} : ∀ {n : Nat} {x : Int}, x ∈ useTo U n → ∃ j : Nat, x = j ∧ j < n ∧ U j = true
  | 0, x, h => by simp [useTo] at h
  | n + 1, x, h => by
    unfold useTo at h
    split at h
    · rename_i hu
      rcases List.mem_append.1 h with h | h
      · obtain ⟨j, e, h1, h2⟩ := sp_inj h
        exact ⟨j, e, by omega, h2⟩
      · exact ⟨n, by simpa using h, by omega, hu⟩
    · obtain ⟨j, e, h1, h2⟩ := sp_inj h
      exact ⟨j, e, by omega, h2⟩
end Go.Proofs.Ytibghhkhnpjdfaa
namespace Go.Proofs.Ytibghhkhnpjdfaa
open Go.RowKit
end Go.Proofs.Ytibghhkhnpjdfaa
