/-
  A pruned circuit against the circuit that it is made of: depth, formal degree, cost, polynomials, used gates. No world.
-/
import Derived.Test.YtlidplmpglpkgaaBe4
import Derived.Test.YtlidplmpglpkgaaBa29
namespace Go.Proofs.Ytlidplmpglpkgaa
open Go.RowKit
/-- where a used gate stands in the pruned circuit -/
def rk (L : List Gt) (j : Nat) : Nat := (useTo (useF L) j).length
def prR (L : List Gt) : List Gt := prnL L (useF L) L.length
theorem rk_step {L : List Gt} {j : Nat} (h : useF L j = true) : rk L (j + 1) = rk L j + 1 := by unfold rk; rw [useTo_step h]; simp
theorem rk_skip {L : List Gt} {j : Nat} (h : useF L j = false) : rk L (j + 1) = rk L j := by unfold rk; rw [useTo_skip h]
theorem rk_lt {L : List Gt} {i j : Nat} (hu : useF L i = true) (h : i < j) : rk L i < rk L j := by
  have := useTo_mono (useF L) (show i + 1 ≤ j by omega)
  have e := rk_step hu
  unfold rk at *
  omega
theorem prR_len (L : List Gt) : (prR L).length = rk L L.length := prnL_len L (useF L) L.length
theorem gAt_app {C D : List Gt} {j : Nat} (h : j < C.length) : gAt (C ++ D) j = gAt C j := by
  unfold gAt
  rw [List.getD_eq_getElem?_getD, List.getD_eq_getElem?_getD, List.getElem?_append_left h]
theorem gAt_end {C : List Gt} {x : Gt} {k : Nat} (h : k = C.length) : gAt (C ++ [x]) k = x := by
  subst h
  unfold gAt
  simp [List.getD_eq_getElem?_getD]
theorem prn_at (L : List Gt) : ∀ k j, j < k → useF L j = true → gAt (prnL L (useF L) k) (rk L j) = mapG (useF L) (gAt L j)
  | 0, _, h, _ => by omega
  | k + 1, j, h, hu => by
    cases hk : useF L k
    · have e : prnL L (useF L) (k + 1) = prnL L (useF L) k := by rw [prnL, hk]; rfl
      rw [e]
      have : j ≠ k := fun e => by rw [e, hk] at hu; cases hu
      exact prn_at L k j (by omega) hu
    · have e : prnL L (useF L) (k + 1) = prnL L (useF L) k ++ [mapG (useF L) (gAt L k)] := by rw [prnL, hk]; rfl
      rw [e]
      by_cases hj : j = k
      · subst hj
        exact gAt_end (prnL_len L (useF L) j).symm
      · rw [gAt_app (by rw [prnL_len]; exact rk_lt hu (show j < k by omega))]
        exact prn_at L k j (by omega) hu
theorem useM_why (L : List Gt) : ∀ m, m ≤ L.length → ∀ j, useM L m j = true → j + 1 = L.length ∨ ∃ i m', m' ≤ m ∧ i < L.length ∧ useM L m' i = true ∧ joinsB (gAt L i) = true ∧ ((j : Int) = (gAt L i).a ∨ (j : Int) = (gAt L i).b)
  | 0, _, j, h => .inl (by simpa [useM] using h)
  | m + 1, hm, j, h => by
    have ih := useM_why L m (by omega) j
    have up : (j + 1 = L.length ∨ ∃ i m', m' ≤ m ∧ i < L.length ∧ useM L m' i = true ∧ joinsB (gAt L i) = true ∧ ((j : Int) = (gAt L i).a ∨ (j : Int) = (gAt L i).b)) → (j + 1 = L.length ∨ ∃ i m', m' ≤ m + 1 ∧ i < L.length ∧ useM L m' i = true ∧ joinsB (gAt L i) = true ∧ ((j : Int) = (gAt L i).a ∨ (j : Int) = (gAt L i).b)) :=
      fun h => h.imp id fun ⟨i, m', h1, h2⟩ => ⟨i, m', by omega, h2⟩
    unfold useM useStep at h
    split at h
    · rename_i hc
      simp only [Bool.and_eq_true] at hc
      simp only [Bool.or_eq_true, beq_iff_eq] at h
      rcases h with (h | h) | h
      · exact up (ih h)
      · exact .inr ⟨L.length - 1 - m, m, by omega, by omega, hc.1, hc.2, .inl h⟩
      · exact .inr ⟨L.length - 1 - m, m, by omega, by omega, hc.1, hc.2, .inr h⟩
    · exact up (ih h)
theorem use_why {L : List Gt} {j : Nat} (h : useF L j = true) : j + 1 = L.length ∨ ∃ i, i < L.length ∧ useF L i = true ∧ joinsB (gAt L i) = true ∧ ((j : Int) = (gAt L i).a ∨ (j : Int) = (gAt L i).b) :=
  (useM_why L L.length (Nat.le_refl _) j h).imp id fun ⟨i, m', h1, h2, h3, h4⟩ => ⟨i, h2, by
    obtain ⟨d, hd⟩ := Nat.exists_eq_add_of_le h1
    unfold useF
    rw [hd]
    exact useM_mono h3 d, h4⟩
/-- a gate of the pruned circuit that joins two -/
structure JoG (L : List Gt) (j : Nat) : Prop where
  k : (gAt (prR L) (rk L j)).k = (gAt L j).k
  a : (gAt (prR L) (rk L j)).a.toNat = rk L (gAt L j).a.toNat
  b : (gAt (prR L) (rk L j)).b.toNat = rk L (gAt L j).b.toNat
  ua : useF L (gAt L j).a.toNat = true
  ub : useF L (gAt L j).b.toNat = true
  la : (gAt L j).a.toNat < j
  lb : (gAt L j).b.toNat < j
  k2 : (gAt L j).k = 2 ∨ (gAt L j).k = 3
  a0 : 0 ≤ (gAt L j).a
  b0 : 0 ≤ (gAt L j).b
theorem pl_rk {L : List Gt} {j : Nat} (h : useF L j = true) : pl (useF L) j = (rk L j : Nat) := by unfold pl rk; rw [if_pos h]
theorem joG {p : Int} {L : List Gt} (hv : circB p L = true) {j : Nat} (hj : j < L.length) (hu : useF L j = true) (hg : joinsB (gAt L j) = true) : JoG L j := by
  obtain ⟨ua, ub⟩ := use_closed hv hj hu hg
  have e : gAt (prR L) (rk L j) = ⟨(gAt L j).k, pl (useF L) (gAt L j).a.toNat, pl (useF L) (gAt L j).b.toNat⟩ := by
    unfold prR
    rw [prn_at L L.length j hj hu, mapG, if_pos hg]
  have hk2 : (gAt L j).k = 2 ∨ (gAt L j).k = 3 := by simpa [joinsB] using hg
  have hc := gOK_cases ((circB_iff.1 hv).2.2.2 j hj)
  refine ⟨by rw [e], ?_, ?_, ua, ub, by omega, by omega, hk2, by omega, by omega⟩
  · rw [e, pl_rk ua]; simp
  · rw [e, pl_rk ub]; simp
theorem leG {L : List Gt} {j : Nat} (hj : j < L.length) (hu : useF L j = true) (hg : joinsB (gAt L j) = false) : gAt (prR L) (rk L j) = gAt L j := by
  unfold prR
  rw [prn_at L L.length j hj hu, mapG, if_neg (by simp [hg])]
theorem rk_in {L : List Gt} {j : Nat} (hj : j < L.length) (hu : useF L j = true) : rk L j < (prR L).length := by rw [prR_len]; exact rk_lt hu hj
theorem prR_circ {p : Int} {L : List Gt} (hv : circB p L = true) : circB p (prR L) = true := prnL_circ hv
theorem prR_last {p : Int} {L : List Gt} (hv : circB p L = true) : (prR L).length - 1 = rk L (L.length - 1) := by
  have h1 := (circB_iff.1 hv).2.1
  have e := rk_step (useF_last hv)
  rw [show L.length - 1 + 1 = L.length by omega] at e
  rw [prR_len, e]
  omega
/-- every gate of the pruned circuit is a used one's -/
theorem rk_all {L : List Gt} {t : Nat} (h : t < (prR L).length) : ∃ j, j < L.length ∧ useF L j = true ∧ rk L j = t := by
  rw [prR_len] at h
  obtain ⟨j, h1, h2, _, h4⟩ := use_pos (useF L) L.length t h
  refine ⟨j, h1, h2, ?_⟩
  unfold rk at *
  rw [h4, List.length_take]
  omega
/-- all gates of the pruned circuit are used -/
theorem rk_used {p : Int} {L : List Gt} (hv : circB p L = true) : ∀ d j, L.length ≤ j + d → j < L.length → useF L j = true → useF (prR L) (rk L j) = true
  | 0, j, h1, h2, _ => by omega
  | d + 1, j, h1, h2, hu => by
    rcases use_why hu with h | ⟨i, hi, hui, hgi, hab⟩
    · have := useF_last (prR_circ hv)
      rw [prR_last hv] at this
      rwa [show L.length - 1 = j by omega] at this
    · have J := joG hv hi hui hgi
      have hji : j < i := by have := J.la; have := J.lb; have := J.a0; have := J.b0; omega
      have ih := rk_used hv d i (by omega) hi hui
      have hg : joinsB (gAt (prR L) (rk L i)) = true := by unfold joinsB; rw [J.k]; exact hgi
      have := use_closed (prR_circ hv) (rk_in hi hui) ih hg
      rw [J.a, J.b] at this
      rcases hab with h | h
      · rw [show j = (gAt L i).a.toNat by omega]; exact this.1
      · rw [show j = (gAt L i).b.toNat by omega]; exact this.2
theorem prR_used {p : Int} {L : List Gt} (hv : circB p L = true) {t : Nat} (h : t < (prR L).length) : useF (prR L) t = true := by
  obtain ⟨j, h1, h2, rfl⟩ := rk_all h
  exact rk_used hv L.length j (by omega) h1 h2
theorem dep_join {L : List Gt} {j : Nat} (hg : joinsB (gAt L j) = true) (ha : (gAt L j).a.toNat < j) (hb : (gAt L j).b.toNat < j) : depAt L j = 1 + max (depAt L (gAt L j).a.toNat) (depAt L (gAt L j).b.toNat) := by
  rw [depAt_eq, if_pos hg, depL_st L _ j ha, depL_st L _ j hb]
theorem deg_two {L : List Gt} {j : Nat} (hg : (gAt L j).k = 2) (ha : (gAt L j).a.toNat < j) (hb : (gAt L j).b.toNat < j) : degAt L j = max (degAt L (gAt L j).a.toNat) (degAt L (gAt L j).b.toNat) := by
  rw [degAt_eq]
  dsimp only
  rw [degL_st L _ j ha, degL_st L _ j hb]; simp [hg]
theorem deg_three {L : List Gt} {j : Nat} (hg : (gAt L j).k = 3) (ha : (gAt L j).a.toNat < j) (hb : (gAt L j).b.toNat < j) : degAt L j = min (degAt L (gAt L j).a.toNat + degAt L (gAt L j).b.toNat) 1000 := by
  rw [degAt_eq]
  dsimp only
  rw [degL_st L _ j ha, degL_st L _ j hb]; simp [hg]
/-- all that a gate says is what its place in the pruned circuit says -/
theorem prn_same {p : Int} {L : List Gt} (hv : circB p L = true) : ∀ d j, j < d → j < L.length → useF L j = true →
    depAt (prR L) (rk L j) = depAt L j ∧ degAt (prR L) (rk L j) = degAt L j ∧ pcP p (prR L) (rk L j) = pcP p L j ∧ pcO p (prR L) (rk L j) = pcO p L j
  | 0, j, h, _, _ => by omega
  | d + 1, j, h, hj, hu => by
    have hvR := prR_circ hv
    cases hg : joinsB (gAt L j)
    · have e := leG hj hu hg
      have hgR : joinsB (gAt (prR L) (rk L j)) = false := by rw [e]; exact hg
      have hc := gOK_cases ((circB_iff.1 hv).2.2.2 j hj)
      have hk : ¬ ((gAt L j).k = 2 ∨ (gAt L j).k = 3) := fun h2 => by
        have : joinsB (gAt L j) = true := by simpa [joinsB] using h2
        rw [hg] at this; cases this
      refine ⟨?_, ?_, ?_⟩
      · rw [depAt_eq, depAt_eq, hg, hgR]; rfl
      · rw [degAt_eq, degAt_eq, e]
        rcases hc with h | h | h
        · simp [h.1]
        · simp [h.1]
        · exact absurd h.1 hk
      · rcases hc with h | h | h
        · have h1 := pcP_in (p := p) h.1
          have h2 := pcP_in (p := p) (L := prR L) (j := rk L j) (by rw [e]; exact h.1)
          rw [h1.1, h1.2, h2.1, h2.2, e]
          exact ⟨rfl, rfl⟩
        · have h1 := pcP_cn (p := p) h.1
          have h2 := pcP_cn (p := p) (L := prR L) (j := rk L j) (by rw [e]; exact h.1)
          rw [h1.1, h1.2, h2.1, h2.2, e]
          exact ⟨rfl, rfl⟩
        · exact absurd h.1 hk
    · have J := joG hv hj hu hg
      have ia := prn_same hv d (gAt L j).a.toNat (by have := J.la; omega) (by have := J.la; omega) J.ua
      have ib := prn_same hv d (gAt L j).b.toNat (by have := J.lb; omega) (by have := J.lb; omega) J.ub
      have hgR : joinsB (gAt (prR L) (rk L j)) = true := by unfold joinsB; rw [J.k]; exact hg
      have la : (gAt (prR L) (rk L j)).a.toNat < rk L j := by rw [J.a]; exact rk_lt J.ua J.la
      have lb : (gAt (prR L) (rk L j)).b.toNat < rk L j := by rw [J.b]; exact rk_lt J.ub J.lb
      refine ⟨?_, ?_, ?_⟩
      · rw [dep_join hgR la lb, dep_join hg J.la J.lb, J.a, J.b, ia.1, ib.1]
      · rcases J.k2 with h2 | h2
        · rw [deg_two (J.k.trans h2) la lb, deg_two h2 J.la J.lb, J.a, J.b, ia.2.1, ib.2.1]
        · rw [deg_three (J.k.trans h2) la lb, deg_three h2 J.la J.lb, J.a, J.b, ia.2.1, ib.2.1]
      · rcases J.k2 with h2 | h2
        · have h3 := pcP_sum hvR (rk_in hj hu) (J.k.trans h2)
          have h4 := pcP_sum hv hj h2
          rw [h3.1, h3.2, h4.1, h4.2, J.a, J.b, ia.2.2.1, ib.2.2.1]
          exact ⟨rfl, rfl⟩
        · have h3 := pcP_mul hvR (rk_in hj hu) (J.k.trans h2)
          have h4 := pcP_mul hv hj h2
          rw [h3.1, h3.2, h4.1, h4.2, J.a, J.b, ia.2.2.1, ib.2.2.1]
          exact ⟨rfl, rfl⟩
theorem mapG_k (U : Nat → Bool) (x : Gt) : (mapG U x).k = x.k := by unfold mapG; split <;> rfl
theorem prn_cst {p : Int} {L : List Gt} (hv : circB p L = true) (kd : Int) : ∀ k, k ≤ L.length → cst (prR L) (useF (prR L)) kd (rk L k) = cst L (useF L) kd k
  | 0, _ => rfl
  | k + 1, hk => by
    have ih := prn_cst hv kd k (by omega)
    cases hu : useF L k
    · rw [rk_skip hu, ih, cst, hu]
      simp
    · have e : gAt (prR L) (rk L k) = mapG (useF L) (gAt L k) := prn_at L L.length k (by omega) hu
      rw [rk_step hu, cst, cst, ih, hu, rk_used hv L.length k (by omega) (by omega) hu, e, mapG_k]
theorem costV_prn {p : Int} {L : List Gt} (hv : circB p L = true) (kd : Int) : costV p (prR L) kd = costV p L kd := by
  unfold costV
  rw [hv, prR_circ hv, prR_len, prn_cst hv kd L.length (Nat.le_refl _)]
theorem depV_prn {p : Int} {L : List Gt} (hv : circB p L = true) : depV p (prR L) = depV p L := by
  have h1 := (circB_iff.1 hv).2.1
  have h2 := (circB_iff.1 (prR_circ hv)).2.1
  unfold depV
  rw [hv, prR_circ hv, if_pos rfl, if_pos rfl, depL_st _ _ _ (show (prR L).length - 1 < (prR L).length by omega), depL_st _ _ _ (show L.length - 1 < L.length by omega), prR_last hv]
  exact (prn_same hv L.length _ (by omega) (by omega) (useF_last hv)).1
theorem fdgV_prn {p : Int} {L : List Gt} (hv : circB p L = true) : fdgV p (prR L) = fdgV p L := by
  have h1 := (circB_iff.1 hv).2.1
  have h2 := (circB_iff.1 (prR_circ hv)).2.1
  unfold fdgV
  rw [hv, prR_circ hv, if_pos rfl, if_pos rfl, degL_st _ _ _ (show (prR L).length - 1 < (prR L).length by omega), degL_st _ _ _ (show L.length - 1 < L.length by omega), prR_last hv]
  exact (prn_same hv L.length _ (by omega) (by omega) (useF_last hv)).2.1
theorem pcOk_prn {p : Int} {L : List Gt} (hv : circB p L = true) : pcOk p (prR L) = pcOk p L := by
  rw [Bool.eq_iff_iff]
  constructor
  · intro h
    refine pc_good hv fun j hj hu => ?_
    have e := (prn_same hv L.length j hj hj hu).2.2.2
    cases ho : pcO p L j
    · rw [ho] at e
      rw [pc_bad (rk_in hj hu) (rk_used hv L.length j (by omega) hj hu) e] at h
      cases h
    · rfl
  · intro h
    refine pc_good (prR_circ hv) fun t ht _ => ?_
    obtain ⟨j, hj, hu, rfl⟩ := rk_all ht
    rw [(prn_same hv L.length j hj hj hu).2.2.2]
    cases ho : pcO p L j
    · rw [pc_bad hj hu ho] at h
      cases h
    · rfl
theorem pcV_prn {p : Int} {L : List Gt} (hv : circB p L = true) : pcV p (prR L) = pcV p L := by
  have h1 := (circB_iff.1 hv).2.1
  unfold pcV
  rw [pcOk_prn hv, prR_last hv, (prn_same hv L.length (L.length - 1) (by omega) (by omega) (useF_last hv)).2.2.1]
theorem useTo_full {U : Nat → Bool} : ∀ k, (∀ i, i < k → U i = true) → (useTo U k).length = k
  | 0, _ => rfl
  | k + 1, h => by
    rw [useTo_step (h k (by omega)), List.length_append, useTo_full k (fun i hi => h i (by omega))]
    rfl
theorem gts_ext {A B : List Gt} (hl : A.length = B.length) (h : ∀ t, t < A.length → gAt A t = gAt B t) : A = B := by
  refine List.ext_getElem hl fun t h1 h2 => ?_
  have := h t h1
  unfold gAt at this
  simpa [List.getD_eq_getElem?_getD, h1, h2] using this
/-- pruned again it is the same -/
theorem prR_again {p : Int} {L : List Gt} (hv : circB p L = true) : prR (prR L) = prR L := by
  obtain ⟨R, hR⟩ : ∃ R, R = prR L := ⟨_, rfl⟩
  have hvR : circB p R = true := by rw [hR]; exact prR_circ hv
  have hall : ∀ t, t < R.length → useF R t = true := fun t ht => by rw [hR] at ht ⊢; exact prR_used hv ht
  rw [← hR]
  have hrk : ∀ t, t ≤ R.length → rk R t = t := fun t ht => useTo_full t fun i hi => hall i (by omega)
  refine gts_ext (by rw [prR_len, hrk _ (Nat.le_refl _)]) fun t ht => ?_
  rw [prR_len, hrk _ (Nat.le_refl _)] at ht
  cases hg : joinsB (gAt R t)
  · have := leG ht (hall t ht) hg
    rwa [hrk t (by omega)] at this
  · have J := joG hvR ht (hall t ht) hg
    have e : gAt (prR R) t = ⟨(gAt R t).k, pl (useF R) (gAt R t).a.toNat, pl (useF R) (gAt R t).b.toNat⟩ := by
      have := prn_at R R.length t ht (hall t ht)
      rw [hrk t (by omega), mapG, if_pos hg] at this
      exact this
    rw [e, pl_rk J.ua, pl_rk J.ub, hrk _ (by have := J.la; omega), hrk _ (by have := J.lb; omega)]
    have h1 := Int.toNat_of_nonneg J.a0
    have h2 := Int.toNat_of_nonneg J.b0
    rw [h1, h2]
end Go.Proofs.Ytlidplmpglpkgaa
