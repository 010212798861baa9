/-
  Circuits as lists of gates: a circuit is no deeper than it has sums and products, and its formal degree is at most 2 to the power of its products. Conditions: the gates are a circuit.
-/
import Derived.Test.YtiahcaihmgnicaaCst
import Derived.Test.YtiahcaihmgnicaaFdg
namespace Go.Proofs.Ytiahcaihmgnicaa
open Go.RowKit
theorem useM_one {p : Int} {L : List Gt} (hv : circB p L = true) {m j : Nat} (hm : m < L.length) (hj : L.length - 1 - m ≤ j) : useM L (m + 1) j = useM L m j := by
  obtain ⟨_, _, _, hall⟩ := circB_iff.1 hv
  have hg := gOK_cases (hall (L.length - 1 - m) (by omega))
  show useStep L (useM L m) (L.length - 1 - m) j = _
  unfold useStep
  split
  · rename_i hc
    simp only [Bool.and_eq_true, joinsB, Bool.or_eq_true, beq_iff_eq] at hc
    have e1 : ((j : Int) == (gAt L (L.length - 1 - m)).a) = false := by simp; omega
    have e2 : ((j : Int) == (gAt L (L.length - 1 - m)).b) = false := by simp; omega
    simp [e1, e2]
  · rfl
theorem useM_to {p : Int} {L : List Gt} (hv : circB p L = true) {m j : Nat} (hj : L.length - 1 - m ≤ j) : ∀ d : Nat, m + d ≤ L.length → useM L (m + d) j = useM L m j
  | 0, _ => rfl
  | d + 1, h => by
    rw [← Nat.add_assoc, useM_one hv (by omega) (by omega)]
    exact useM_to hv hj d (by omega)
theorem useM_mono {L : List Gt} {m j : Nat} (h : useM L m j = true) : ∀ d : Nat, useM L (m + d) j = true
  | 0 => h
  | d + 1 => by
    have ih := useM_mono h d
    show useStep L (useM L (m + d)) (L.length - 1 - (m + d)) j = true
    unfold useStep
    split
    · simp [ih]
    · exact ih
/-- the parts of a used gate are used -/
theorem use_closed {p : Int} {L : List Gt} (hv : circB p L = true) {j : Nat} (hj : j < L.length) (hu : useF L j = true) (hg : joinsB (gAt L j) = true) :
    useF L (gAt L j).a.toNat = true ∧ useF L (gAt L j).b.toNat = true := by
  obtain ⟨_, _, _, hall⟩ := circB_iff.1 hv
  have hc := gOK_cases (hall j hj)
  have hk : (gAt L j).k = 2 ∨ (gAt L j).k = 3 := by simpa [joinsB] using hg
  have e : L.length - 1 - (L.length - 1 - j) = j := by omega
  have h0 : useM L (L.length - 1 - j) j = true := by
    rw [← useM_to hv (m := L.length - 1 - j) (by omega) (j + 1) (by omega)]
    rw [show L.length - 1 - j + (j + 1) = L.length by omega]
    exact hu
  have hs : useM L (L.length - 1 - j + 1) = fun i => (useM L (L.length - 1 - j) i || (i : Int) == (gAt L j).a) || (i : Int) == (gAt L j).b := by
    show useStep L (useM L (L.length - 1 - j)) (L.length - 1 - (L.length - 1 - j)) = _
    rw [e]
    unfold useStep
    rw [h0, hg]
    rfl
  have ha : useM L (L.length - 1 - j + 1) (gAt L j).a.toNat = true := by
    rw [hs]
    have : (((gAt L j).a.toNat : Nat) : Int) = (gAt L j).a := by omega
    simp [this]
  have hb : useM L (L.length - 1 - j + 1) (gAt L j).b.toNat = true := by
    rw [hs]
    have : (((gAt L j).b.toNat : Nat) : Int) = (gAt L j).b := by omega
    simp [this]
  have e2 : L.length - 1 - j + 1 + j = L.length := by omega
  have h1 := useM_mono ha j
  have h2 := useM_mono hb j
  rw [e2] at h1 h2
  exact ⟨h1, h2⟩
theorem useF_last {p : Int} {L : List Gt} (hv : circB p L = true) : useF L (L.length - 1) = true := by
  obtain ⟨_, h1, _, _⟩ := circB_iff.1 hv
  have h0 : useM L 0 (L.length - 1) = true := by simp [useM]; omega
  have := useM_mono h0 L.length
  rwa [Nat.zero_add] at this
def depAt (L : List Gt) (j : Nat) : Int := (depL L (j + 1)).getD j 0
def degAt (L : List Gt) (j : Nat) : Int := (degL L (j + 1)).getD j 0
theorem depL_st (L : List Gt) (j : Nat) : ∀ k, j < k → (depL L k).getD j 0 = depAt L j
  | 0, h => by omega
  | k + 1, h => by
    by_cases e : j = k
    · rw [e]; rfl
    · rw [depL, getD_snoc, if_neg (by rw [depL_len]; omega)]
      exact depL_st L j k (by omega)
theorem degL_st (L : List Gt) (j : Nat) : ∀ k, j < k → (degL L k).getD j 0 = degAt L j
  | 0, h => by omega
  | k + 1, h => by
    by_cases e : j = k
    · rw [e]; rfl
    · rw [degL, getD_snoc, if_neg (by rw [degL_len]; omega)]
      exact degL_st L j k (by omega)
theorem depAt_eq (L : List Gt) (j : Nat) : depAt L j = if joinsB (gAt L j) then 1 + max ((depL L j).getD (gAt L j).a.toNat 0) ((depL L j).getD (gAt L j).b.toNat 0) else 0 := by
  unfold depAt
  rw [depL, getD_snoc, if_pos (by rw [depL_len])]
theorem degAt_eq (L : List Gt) (j : Nat) : degAt L j = let x := gAt L j
      if x.k == 0 then 1 else if x.k == 2 then max ((degL L j).getD x.a.toNat 0) ((degL L j).getD x.b.toNat 0)
      else if x.k == 3 then min ((degL L j).getD x.a.toNat 0 + (degL L j).getD x.b.toNat 0) 1000 else 0 := by
  unfold degAt
  rw [degL, getD_snoc, if_pos (by rw [degL_len])]
theorem cst_mono (L : List Gt) (U : Nat → Bool) (kd : Int) : ∀ {i k : Nat}, i ≤ k → cst L U kd i ≤ cst L U kd k := by
  intro i k h
  induction k with
  | zero => rw [show i = 0 by omega]; exact Int.le_refl _
  | succ k ih =>
    by_cases e : i = k + 1
    · rw [e]; exact Int.le_refl _
    · have := ih (by omega)
      have h2 : cst L U kd k ≤ cst L U kd (k + 1) := by
        rw [cst]; split <;> omega
      omega
theorem cst_hit {L : List Gt} {U : Nat → Bool} {kd : Int} {j : Nat} (hu : U j = true) (hk : (gAt L j).k = kd) : cst L U kd (j + 1) = cst L U kd j + 1 := by
  rw [cst]; simp [hu, hk]
theorem depAt_cst {p : Int} {L : List Gt} (hv : circB p L = true) : ∀ j : Nat, j < L.length → useF L j = true → depAt L j ≤ cst L (useF L) 2 (j + 1) + cst L (useF L) 3 (j + 1) := by
  intro j
  induction j using Nat.strongRecOn with
  | _ j ih =>
    intro hj hu
    obtain ⟨_, _, _, hall⟩ := circB_iff.1 hv
    have hc := gOK_cases (hall j hj)
    have c2 := cst_bd L (useF L) 2 (j + 1)
    have c3 := cst_bd L (useF L) 3 (j + 1)
    rw [depAt_eq]
    cases hg : joinsB (gAt L j)
    · simp; omega
    · have hk : (gAt L j).k = 2 ∨ (gAt L j).k = 3 := by simpa [joinsB] using hg
      obtain ⟨ua, ub⟩ := use_closed hv hj hu hg
      have la : (gAt L j).a.toNat < j := by omega
      have lb : (gAt L j).b.toNat < j := by omega
      rw [if_pos rfl, depL_st L _ j la, depL_st L _ j lb]
      have ia := ih _ la (by omega) ua
      have ib := ih _ lb (by omega) ub
      have ma2 := cst_mono L (useF L) 2 (i := (gAt L j).a.toNat + 1) (k := j) (by omega)
      have ma3 := cst_mono L (useF L) 3 (i := (gAt L j).a.toNat + 1) (k := j) (by omega)
      have mb2 := cst_mono L (useF L) 2 (i := (gAt L j).b.toNat + 1) (k := j) (by omega)
      have mb3 := cst_mono L (useF L) 3 (i := (gAt L j).b.toNat + 1) (k := j) (by omega)
      have h2 := cst_mono L (useF L) 2 (i := j) (k := j + 1) (by omega)
      have h3 := cst_mono L (useF L) 3 (i := j) (k := j + 1) (by omega)
      have hs : cst L (useF L) 2 j + cst L (useF L) 3 j + 1 ≤ cst L (useF L) 2 (j + 1) + cst L (useF L) 3 (j + 1) := by
        rcases hk with hk | hk
        · have := cst_hit (U := useF L) hu hk; omega
        · have := cst_hit (U := useF L) hu hk; omega
      omega
theorem degAt_cst {p : Int} {L : List Gt} (hv : circB p L = true) : ∀ j : Nat, j < L.length → useF L j = true → degAt L j ≤ 2 ^ (cst L (useF L) 3 (j + 1)).toNat := by
  intro j
  induction j using Nat.strongRecOn with
  | _ j ih =>
    intro hj hu
    obtain ⟨_, _, _, hall⟩ := circB_iff.1 hv
    have hc := gOK_cases (hall j hj)
    have hp : ∀ n : Nat, (1 : Int) ≤ 2 ^ n := fun n => by
      have : (0 : Int) < 2 ^ n := Int.pow_pos (by omega)
      omega
    have hmono : ∀ {a b : Nat}, a ≤ b → (2 : Int) ^ a ≤ 2 ^ b := fun h => by
      have := Nat.pow_le_pow_right (n := 2) (by omega) h
      exact_mod_cast this
    rw [degAt_eq]
    simp only []
    rcases hc with ⟨hk, _⟩ | ⟨hk, _⟩ | ⟨hk, a0, a1, b0, b1⟩
    · rw [if_pos (by simp [hk])]; exact hp _
    · rw [if_neg (by simp [hk]), if_neg (by simp [hk]), if_neg (by simp [hk])]
      have := hp (cst L (useF L) 3 (j + 1)).toNat
      omega
    · have hg : joinsB (gAt L j) = true := by simpa [joinsB] using hk
      obtain ⟨ua, ub⟩ := use_closed hv hj hu hg
      have la : (gAt L j).a.toNat < j := by omega
      have lb : (gAt L j).b.toNat < j := by omega
      rw [degL_st L _ j la, degL_st L _ j lb]
      have ia := ih _ la (by omega) ua
      have ib := ih _ lb (by omega) ub
      have ca := cst_bd L (useF L) 3 ((gAt L j).a.toNat + 1)
      have cb := cst_bd L (useF L) 3 ((gAt L j).b.toNat + 1)
      have cj := cst_bd L (useF L) 3 j
      have ma := cst_mono L (useF L) 3 (i := (gAt L j).a.toNat + 1) (k := j) (by omega)
      have mb := cst_mono L (useF L) 3 (i := (gAt L j).b.toNat + 1) (k := j) (by omega)
      have pa := hmono (a := (cst L (useF L) 3 ((gAt L j).a.toNat + 1)).toNat) (b := (cst L (useF L) 3 j).toNat) (by omega)
      have pb := hmono (a := (cst L (useF L) 3 ((gAt L j).b.toNat + 1)).toNat) (b := (cst L (useF L) 3 j).toNat) (by omega)
      rcases hk with hk | hk
      · rw [if_neg (by simp [hk]), if_pos (by simp [hk])]
        have h3 := cst_mono L (useF L) 3 (i := j) (k := j + 1) (by omega)
        have pj := hmono (a := (cst L (useF L) 3 j).toNat) (b := (cst L (useF L) 3 (j + 1)).toNat) (by omega)
        omega
      · rw [if_neg (by simp [hk]), if_neg (by simp [hk]), if_pos (by simp [hk])]
        have := cst_hit (U := useF L) hu hk
        rw [this, show (cst L (useF L) 3 j + 1).toNat = (cst L (useF L) 3 j).toNat + 1 by omega, Int.pow_succ]
        omega
/-- where the last gate joins nothing, no other one is used -/
theorem use_alone {L : List Gt} (hl : 1 ≤ L.length) (h : joinsB (gAt L (L.length - 1)) = false) : ∀ m j : Nat, useM L m j = (j + 1 == L.length)
  | 0, j => rfl
  | m + 1, j => by
    show useStep L (useM L m) (L.length - 1 - m) j = _
    unfold useStep
    split
    · rename_i hc
      rw [Bool.and_eq_true, use_alone hl h m] at hc
      have e : L.length - 1 - m = L.length - 1 := by have := hc.1; simp at this; omega
      rw [e, h] at hc
      simp at hc
    · exact use_alone hl h m j
theorem cst_alone {L : List Gt} (hl : 1 ≤ L.length) (h : joinsB (gAt L (L.length - 1)) = false) (kd : Int) (hk : kd = 2 ∨ kd = 3) : ∀ k : Nat, cst L (useF L) kd k = 0
  | 0 => rfl
  | k + 1 => by
    rw [cst, cst_alone hl h kd hk k]
    have hu : useF L k = (k + 1 == L.length) := use_alone hl h _ k
    by_cases e : k + 1 = L.length
    · have e' : k = L.length - 1 := by omega
      have hj : ¬ ((gAt L k).k = kd) := by
        rw [e']
        intro hk'
        rw [Bool.eq_false_iff] at h
        apply h
        simp only [joinsB, Bool.or_eq_true, beq_iff_eq]
        omega
      simp [hj]
    · have : useF L k = false := by rw [hu]; simpa using e
      simp [this]
/-- what the law says of a circuit -/
theorem dep_law {p : Int} {L : List Gt} (hv : circB p L = true) :
    0 ≤ depV p L ∧ depV p L ≤ costV p L 2 + costV p L 3 ∧ (depV p L = 0 ↔ costV p L 2 + costV p L 3 = 0) ∧ degV p L ≤ 2 ^ (costV p L 3).toNat ∧ degV p L ≤ 1000 ∧ 0 ≤ degV p L ∧ 0 ≤ costV p L 2 ∧ 0 ≤ costV p L 3 := by
  obtain ⟨_, hl1, _, hall⟩ := circB_iff.1 hv
  have e1 : depV p L = depAt L (L.length - 1) := by unfold depV; rw [if_pos hv]; exact depL_st L _ _ (by omega)
  have e2 : degV p L = degAt L (L.length - 1) := by unfold degV; rw [if_pos hv]; exact degL_st L _ _ (by omega)
  have e3 : costV p L 2 = cst L (useF L) 2 L.length := by simp [costV, hv]
  have e4 : costV p L 3 = cst L (useF L) 3 L.length := by simp [costV, hv]
  have b1 : 0 ≤ depV p L := by unfold depV; rw [if_pos hv]; exact (depL_bd L _ _).1
  have b2 : 0 ≤ degV p L ∧ degV p L ≤ 1000 := by unfold degV; rw [if_pos hv]; exact degL_bd L _ _
  have hn : L.length - 1 + 1 = L.length := by omega
  have d1 := depAt_cst hv (L.length - 1) (by omega) (useF_last hv)
  have d2 := degAt_cst hv (L.length - 1) (by omega) (useF_last hv)
  rw [hn] at d1 d2
  have c2 := cst_bd L (useF L) 2 L.length
  have c3 := cst_bd L (useF L) 3 L.length
  rw [← e1] at d1
  rw [← e2] at d2
  rw [e3, e4]
  refine ⟨b1, d1, ⟨fun h0 => ?_, fun h0 => by omega⟩, d2, b2.2, b2.1, c2.1, c3.1⟩
  have hj : joinsB (gAt L (L.length - 1)) = false := by
    rw [Bool.eq_false_iff]
    intro hj
    rw [e1, depAt_eq, if_pos hj] at h0
    have := (depL_bd L (L.length - 1) (gAt L (L.length - 1)).a.toNat).1
    omega
  rw [cst_alone hl1 hj 2 (.inl rfl), cst_alone hl1 hj 3 (.inr rfl)]
  rfl
end Go.Proofs.Ytiahcaihmgnicaa
