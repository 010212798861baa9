/-
  The values and degrees of the polynomials of gates. Mathematics alone. Conditions: all used gates have a polynomial.
-/
import Derived.Test.YtlidplmpglpkgaaBa26
import Derived.Test.YtlidplmpglpkgaaBa29
import Derived.Test.YtlidplmpglpkgaaBa30
import Derived.Test.YtlidplmpglpkgaaBa15
namespace Go.Proofs.Ytlidplmpglpkgaa
open Go.RowKit
theorem mulOk_is2 {p : Int} {L M : List Trm} (h : mulOk p L M = true) : isP p = true ∧ validB p L = true ∧ validB p M = true ∧ validB p (addAll p (prodT p L M) []) = true ∧ mulL p L M = addAll p (prodT p L M) [] := by
  have e : mulL p L M = addAll p (prodT p L M) [] := by unfold mulL; rw [if_pos h]
  unfold mulOk at h
  simp only [Bool.and_eq_true] at h
  exact ⟨h.1.1.1, h.1.1.2, h.1.2.2, h.2, e⟩
/-- what is said of a gate's polynomial -/
structure PgF (p : Int) (L : List Gt) (j : Nat) : Prop where
  v : validB p (pcP p L j) = true
  e : ∀ x y z : Int, isE3 p x y z = true → evK p x y z (pcP p L j) (pcP p L j).length = (evL p x y z L L.length).getD j 0
  d : topK degT (pcP p L j) (pcP p L j).length ≤ degAt L j
  n : 0 ≤ degAt L j
theorem onT_valid {p : Int} (hp : isP p = true) (v : Int) : validB p [onT v] = true := by
  have hb := isP_bd hp
  refine validB_of (List.pairwise_singleton _ _) (fun y hy => ?_) (fun y hy => ?_) (by simp)
  · have := List.mem_singleton.1 hy
    subst this
    unfold onT
    repeat' split
    all_goals exact ⟨by decide, by show (1 : Int) < p; omega⟩
  · have := List.mem_singleton.1 hy
    subst this
    unfold onT
    repeat' split
    all_goals rfl
theorem cnL_valid {p a : Int} (ha : 0 ≤ a ∧ a < p) : validB p (cnL a) = true := by
  unfold cnL
  split
  · exact validB_of List.Pairwise.nil (fun y hy => by cases hy) (fun y hy => by cases hy) (by simp)
  · refine validB_of (List.pairwise_singleton _ _) (fun y hy => ?_) (fun y hy => ?_) (by simp)
    · have := List.mem_singleton.1 hy
      subst this
      exact ⟨by show 1 ≤ a; omega, ha.2⟩
    · have := List.mem_singleton.1 hy
      subst this
      rfl
theorem pgF {p : Int} {L : List Gt} (hv : circB p L = true) (ho : ∀ j, j < L.length → useF L j = true → pcO p L j = true) : ∀ n j : Nat, j < n → j < L.length → useF L j = true → PgF p L j
  | 0, j, h, _, _ => by omega
  | n + 1, j, hn, hj, hu => by
    obtain ⟨hp, _, _, hall⟩ := circB_iff.1 hv
    have hb := isP_bd hp
    have hc := gOK_cases (hall j hj)
    have hok := ho j hj hu
    have hev := fun x y z => evL_at (p := p) (x := x) (y := y) (z := z) hv hj (g := gAt L j) rfl
    have hdg := degAt_eq L j
    rcases hc with ⟨hk, a0, a2, _⟩ | ⟨hk, a0, a1, _⟩ | ⟨hk, a0, a1, b0, b1⟩
    · have he := (pcP_in (p := p) hk).1
      have hd1 : degAt L j = 1 := by rw [hdg]; simp [hk]
      refine ⟨by rw [he]; exact onT_valid hp _, fun x y z hE => ?_, ?_, ?_⟩
      · rw [hev, he]
        have hE3 := isE3_iff.1 hE
        have hco : 0 ≤ coord x y z (gAt L j).a ∧ coord x y z (gAt L j).a < p := by
          unfold coord
          split
          · exact hE3.1
          · split
            · exact hE3.2.1
            · exact hE3.2.2
        rw [if_pos (by simp [hk])]
        refine evK_is hp (Cg.of_eq ?_) hco
        have h3 : (gAt L j).a = 0 ∨ (gAt L j).a = 1 ∨ (gAt L j).a = 2 := by omega
        rcases h3 with h | h | h
        · rw [h]
          show (1 : Int) * (x ^ 1 * y ^ 0 * z ^ 0) + 0 = x
          grind
        · rw [h]
          show (1 : Int) * (x ^ 0 * y ^ 1 * z ^ 0) + 0 = y
          grind
        · rw [h]
          show (1 : Int) * (x ^ 0 * y ^ 0 * z ^ 1) + 0 = z
          grind
      · rw [he, hd1]
        refine topK_le (by decide) (fun y hy => ?_) _ (Nat.le_refl _)
        have := List.mem_singleton.1 hy
        subst this
        unfold onT degT
        repeat' split
        all_goals decide
      · rw [hd1]; decide
    · have he := (pcP_cn (p := p) hk).1
      have hd1 : degAt L j = 0 := by rw [hdg]; simp [hk]
      refine ⟨by rw [he]; exact cnL_valid ⟨a0, by omega⟩, fun x y z hE => ?_, ?_, ?_⟩
      · rw [hev, he]
        rw [if_neg (by simp [hk]), if_neg (by simp [hk]), if_neg (by simp [hk])]
        refine evK_is hp (Cg.of_eq ?_) ⟨a0, by omega⟩
        unfold cnL
        split
        · rename_i h; rw [h]; rfl
        · simp [wS, mon]
      · rw [he, hd1]
        refine topK_le (by decide) (fun y hy => ?_) _ (Nat.le_refl _)
        unfold cnL at hy
        split at hy
        · cases hy
        · have := List.mem_singleton.1 hy
          subst this
          show (0 : Int) + 0 + 0 ≤ 0
          omega
      · rw [hd1]; decide
    · have hjn : joinsB (gAt L j) = true := by rcases hk with h | h <;> simp [joinsB, h]
      obtain ⟨ua, ub⟩ := use_closed hv hj hu hjn
      have fa := pgF hv ho n (gAt L j).a.toNat (by omega) (by omega) ua
      have fb := pgF hv ho n (gAt L j).b.toNat (by omega) (by omega) ub
      have da := degL_st L (gAt L j).a.toNat j (by omega)
      have db := degL_st L (gAt L j).b.toNat j (by omega)
      have pw27 : ∀ P : List Trm, validB p P = true → ∀ y ∈ P, 0 ≤ degT y ∧ degT y ≤ 27 := fun P hP y hy => by
        have h := validB_mem hP hy
        unfold degT
        omega
      rcases hk with hk | hk
      · obtain ⟨he, hoe⟩ := pcP_sum (p := p) hv hj hk
        have hd1 : degAt L j = max (degAt L (gAt L j).a.toNat) (degAt L (gAt L j).b.toNat) := by rw [hdg, ← da, ← db]; simp [hk]
        rw [hoe] at hok
        obtain ⟨_, v1, v2, v3, hs⟩ := addOk_is hok
        refine ⟨by rw [he, hs]; exact v3, fun x y z hE => ?_, ?_, ?_⟩
        · rw [hev, he, hs, add_ev hp, fa.e x y z hE, fb.e x y z hE, if_neg (by simp [hk]), if_pos (by simp [hk])]
        · rw [he, hs, hd1]
          have h1 := add_top (p := p) degT degT_eq (L := pcP p L (gAt L j).a.toNat) (M := pcP p L (gAt L j).b.toNat)
          have h2 := fa.d
          have h3 := fb.d
          omega
        · rw [hd1]
          have := fa.n
          omega
      · obtain ⟨he, hoe⟩ := pcP_mul (p := p) hv hj hk
        have hd1 : degAt L j = min (degAt L (gAt L j).a.toNat + degAt L (gAt L j).b.toNat) 1000 := by rw [hdg, ← da, ← db]; simp [hk]
        rw [hoe] at hok
        obtain ⟨_, v1, v2, v3, hs⟩ := mulOk_is2 hok
        have hn0 : 0 ≤ degAt L j := by
          rw [hd1]
          have := fa.n
          have := fb.n
          omega
        refine ⟨by rw [he, hs]; exact v3, fun x y z hE => ?_, ?_, hn0⟩
        · rw [hev, he, hs, mul_ev hp v1 v2, fa.e x y z hE, fb.e x y z hE, if_neg (by simp [hk]), if_neg (by simp [hk]), if_pos (by simp [hk])]
        · rw [he, hs]
          by_cases h1 : pcP p L (gAt L j).a.toNat = []
          · rw [mul_nil p _ _ (.inl h1)]
            show (-1 : Int) ≤ _
            omega
          · by_cases h2 : pcP p L (gAt L j).b.toNat = []
            · rw [mul_nil p _ _ (.inr h2)]
              show (-1 : Int) ≤ _
              omega
            · have h27 : topK degT (addAll p (prodT p (pcP p L (gAt L j).a.toNat) (pcP p L (gAt L j).b.toNat)) []) (addAll p (prodT p (pcP p L (gAt L j).a.toNat) (pcP p L (gAt L j).b.toNat)) []).length ≤ 27 :=
                topK_le (by omega) (fun y hy => (pw27 _ v3 y hy).2) _ (Nat.le_refl _)
              have h3 := mul_top hp (degT_mul p) degT_eq v1 v2 (fun y hy => (pw27 _ v1 y hy).1) (fun y hy => (pw27 _ v2 y hy).1) h1 h2
              have h4 := fa.d
              have h5 := fb.d
              rw [hd1]
              omega
/-- all that the law of PolyOfCircuit asks -/
structure PcF (p : Int) (L : List Gt) (F : List Trm) : Prop where
  hp : isP p = true
  hc : circB p L = true
  vF : validB p F = true
  ev : ∀ x y z : Int, isE3 p x y z = true → evV p x y z F = (evL p x y z L L.length).getD (L.length - 1) 0
  dg : degV p F ≤ fdgV p L
theorem pcF_law {p : Int} {L : List Gt} (h : pcOk p L = true) : PcF p L (pcV p L) := by
  have hV : pcV p L = pcP p L (L.length - 1) := by unfold pcV; rw [if_pos h]
  unfold pcOk at h
  simp only [Bool.and_eq_true] at h
  obtain ⟨hc, ha⟩ := h
  obtain ⟨hp, h1, _, _⟩ := circB_iff.1 hc
  have ho : ∀ j, j < L.length → useF L j = true → pcO p L j = true := fun j hj hu => by
    have := List.all_eq_true.1 ha j (List.mem_range.2 hj)
    simpa [hu] using this
  have f := pgF hc ho L.length (L.length - 1) (by omega) (by omega) (useF_last hc)
  rw [hV]
  refine ⟨hp, hc, f.v, fun x y z hE => ?_, ?_⟩
  · unfold evV
    rw [hp, f.v, hE]
    exact f.e x y z hE
  · unfold degV fdgV
    rw [hp, f.v, hc]
    simp only [Bool.and_self, if_true]
    rw [topK_deg, degL_st L (L.length - 1) L.length (by omega)]
    exact f.d
end Go.Proofs.Ytlidplmpglpkgaa
