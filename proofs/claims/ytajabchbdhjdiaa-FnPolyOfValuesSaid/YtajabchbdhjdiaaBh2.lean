/-
  The values of the polynomial that is made of a list are the list, and it is its own reduction. Mathematics alone. Conditions: none.
-/
import Derived.Test.YtajabchbdhjdiaaBg1
namespace Go.Proofs.Ytajabchbdhjdiaa
set_option linter.unusedVariables false
theorem pv_back {p : Int} {V : List Int} (hB : pvB p V = true) : isP p = true ∧ validB p (pvV p V) = true ∧ redV p (pvV p V) = pvV p V ∧ vlV p (pvV p V) = V := by
  have hsp : lst p = true ∧ (V.length : Int) = p * p * p ∧ V.all (isE p) = true := by simpa [pvB] using hB
  obtain ⟨hl, hlen, hall⟩ := hsp
  have hp := lst_isP hl
  obtain ⟨q, rfl⟩ : ∃ q : Nat, p = (q : Int) := ⟨p.toNat, by have := isP_bd hp; omega⟩
  have hq : q = 2 ∨ q = 3 := by have := lst_cases hl; omega
  have hlen2 : V.length = q * q * q := by exact_mod_cast hlen
  have hE : ∀ j, j < q * q * q → isE q (V.getD j 0) = true := fun j hj => by
    rw [List.getD_eq_getElem?_getD, List.getElem?_eq_getElem (by omega)]
    exact List.all_eq_true.1 hall _ (List.getElem_mem _)
  have hF := pvF hq hE (q * q * q) (Nat.le_refl _)
  have hvv : pvV q V = pvK q V (q * q * q) := by unfold pvV; rw [if_pos hB, hlen2]
  have hF' : Srt (pvV q V) ∧ Els q (pvV q V) ∧ LowA q (pvV q V) ∧ ∀ n, n < q * q * q → evK q (pnt q n).1 (pnt q n).2.1 (pnt q n).2.2 (pvV q V) (pvV q V).length = V.getD n 0 := by
    obtain ⟨h1, h2, h3, h4⟩ := hF
    rw [hvv]
    exact ⟨h1, h2, h3, fun n hn => by rw [h4 n hn, if_pos hn]⟩
  obtain ⟨hs, he, hlow, hv⟩ := hF'
  have hV : validB q (pvV q V) = true := low_valid (by omega) hs he hlow
  have fL := mkK_facts (p := (q : Int)) (L := redL q (pvV q V)) hp (k := (pvV q V).length) (by rw [redL_len]; omega) (by rw [redL_len]; exact validB_len hV)
  refine ⟨hp, hV, ?_, ?_⟩
  · refine uniq hp fL.1 hs fL.2.1 he (red_low hp hV) hlow fun x y z hx hy hz => ?_
    exact Cg.eq ((evK_all q x y z _).trans ((red_wS hp hV hx hy hz).trans (evK_all q x y z _).symm)) (evK_bd hp _ _ _ _ _) (evK_bd hp _ _ _ _ _)
  · obtain ⟨_, _, h3, h4⟩ := pv_red hl hV
    have h3' : (vlV q (pvV q V)).length = q * q * q := h3
    have h4' : ∀ n, n < q * q * q → (vlV q (pvV q V)).getD n 0 = evP q (pvV q V) (pnt q n) := h4
    refine List.ext_getElem (by rw [h3', hlen2]) fun n h1 h2 => ?_
    have hn : n < q * q * q := by omega
    have e1 := h4' n hn
    have hpt : isE3 q (pnt q n).1 (pnt q n).2.1 (pnt q n).2.2 = true := by
      obtain ⟨_, x, y, z, _, he, e2⟩ := pnt_at hp (k := n) (by exact_mod_cast hn)
      have e3 : pnt q n = (x, y, z) := e2
      rw [e3]; exact he
    have e2 : evP q (pvV q V) (pnt q n) = V.getD n 0 := by
      rw [← hv n hn]
      unfold evP evV
      rw [hp, hV, hpt]
      rfl
    rw [e2] at e1
    rw [List.getD_eq_getElem?_getD, List.getD_eq_getElem?_getD, List.getElem?_eq_getElem h1, List.getElem?_eq_getElem h2] at e1
    simpa using e1
end Go.Proofs.Ytajabchbdhjdiaa
