/-
  An unknown stands in the reduction of a polynomial if and only if a value hangs on it. Mathematics alone. Conditions: none.
-/
import Derived.Test.YtajabchbdhjdiaaBf3
import Derived.Test.YtajabchbdhjdiaaBa28
namespace Go.Proofs.Ytajabchbdhjdiaa
set_option linter.unusedVariables false
/-- a point with one unknown put to 0 -/
def mvX (v x : Int) : Int := if v = 0 then 0 else x
def mvY (v y : Int) : Int := if v = 1 then 0 else y
def mvZ (v z : Int) : Int := if v = 2 then 0 else z
/-- the terms without an unknown -/
def noV (v : Int) (R : List Trm) : List Trm := R.filter fun x => pw v x == 0
theorem noV_wS {v x y z : Int} (hv : v = 0 ∨ v = 1 ∨ v = 2) : ∀ R : List Trm, (∀ t ∈ R, 0 ≤ t.a ∧ 0 ≤ t.b ∧ 0 ≤ t.c) → wS (mon (mvX v x) (mvY v y) (mvZ v z)) R = wS (mon x y z) (noV v R)
  | [], _ => rfl
  | t :: r, h => by
    have ih := noV_wS (x := x) (y := y) (z := z) hv r (fun u hu => h u (List.mem_cons_of_mem _ hu))
    have ht := h t List.mem_cons_self
    have z0 : ∀ n : Int, 0 ≤ n → n ≠ 0 → (0 : Int) ^ n.toNat = 0 := fun n h0 h1 => by
      obtain ⟨k, hk⟩ : ∃ k, n.toNat = k + 1 := ⟨n.toNat - 1, by omega⟩
      rw [hk, Int.pow_succ, Int.mul_zero]
    show t.t * mon (mvX v x) (mvY v y) (mvZ v z) t.a t.b t.c + wS (mon (mvX v x) (mvY v y) (mvZ v z)) r = _
    rw [ih]
    unfold noV
    by_cases e : pw v t = 0
    · rw [List.filter_cons_of_pos (by simp [e])]
      show _ = t.t * mon x y z t.a t.b t.c + _
      congr 2
      unfold mon mvX mvY mvZ
      rcases hv with rfl | rfl | rfl <;> simp only [pw, if_true] at e ⊢ <;> simp_all
    · rw [List.filter_cons_of_neg (by simp [e])]
      have : mon (mvX v x) (mvY v y) (mvZ v z) t.a t.b t.c = 0 := by
        unfold mon mvX mvY mvZ
        rcases hv with rfl | rfl | rfl
        · have e2 : t.a ≠ 0 := by simpa [pw] using e
          simp [z0 _ ht.1 e2]
        · have e2 : t.b ≠ 0 := by simpa [pw] using e
          simp [z0 _ ht.2.1 e2]
        · have e2 : t.c ≠ 0 := by simpa [pw] using e
          simp [z0 _ ht.2.2 e2]
      rw [this]
      simp
/-- a value hangs on an unknown -/
def HangsOn (p : Int) (L : List Trm) (v : Int) : Prop := ∃ x y z : Int, (0 ≤ x ∧ x < p) ∧ (0 ≤ y ∧ y < p) ∧ (0 ≤ z ∧ z < p) ∧ evK p x y z L L.length ≠ evK p (mvX v x) (mvY v y) (mvZ v z) L L.length
theorem nd_is {p v : Int} {L : List Trm} (hp : isP p = true) (hV : validB p L = true) (hv : v = 0 ∨ v = 1 ∨ v = 2) : ndB (redV p L) v = true ↔ HangsOn p L v := by
  have hpb := isP_bd hp
  have fL := mkK_facts (p := p) (L := redL p L) hp (k := L.length) (by rw [redL_len]; omega) (by rw [redL_len]; exact validB_len hV)
  have hs : Srt (redV p L) := fL.1
  have he : Els p (redV p L) := fL.2.1
  have hl := red_low hp hV
  have hnn : ∀ t ∈ redV p L, 0 ≤ t.a ∧ 0 ≤ t.b ∧ 0 ≤ t.c := fun t ht => ⟨(hl t ht).1.1, (hl t ht).2.1.1, (hl t ht).2.2.1⟩
  have hm : ∀ x y z : Int, (0 ≤ x ∧ x < p) → (0 ≤ y ∧ y < p) → (0 ≤ z ∧ z < p) → (0 ≤ mvX v x ∧ mvX v x < p) ∧ (0 ≤ mvY v y ∧ mvY v y < p) ∧ (0 ≤ mvZ v z ∧ mvZ v z < p) := fun x y z hx hy hz => by
    unfold mvX mvY mvZ
    refine ⟨?_, ?_, ?_⟩ <;> split <;> omega
  have ev : ∀ x y z : Int, (0 ≤ x ∧ x < p) → (0 ≤ y ∧ y < p) → (0 ≤ z ∧ z < p) → evK p x y z (redV p L) (redV p L).length = evK p x y z L L.length := fun x y z hx hy hz =>
    Cg.eq ((evK_all p x y z _).trans ((red_wS hp hV hx hy hz).trans (evK_all p x y z _).symm)) (evK_bd hp _ _ _ _ _) (evK_bd hp _ _ _ _ _)
  have hno : ∀ x y z : Int, evK p (mvX v x) (mvY v y) (mvZ v z) (redV p L) (redV p L).length = evK p x y z (noV v (redV p L)) (noV v (redV p L)).length := fun x y z =>
    Cg.eq ((evK_all p _ _ _ _).trans ((Cg.of_eq (noV_wS hv _ hnn)).trans (evK_all p x y z _).symm)) (evK_bd hp _ _ _ _ _) (evK_bd hp _ _ _ _ _)
  constructor
  · intro h
    apply Classical.byContradiction
    intro hc
    have heq : redV p L = noV v (redV p L) := by
      refine uniq hp hs (hs.filter _) he (fun y hy => he y (List.mem_filter.1 hy).1) hl (fun y hy => hl y (List.mem_filter.1 hy).1) fun x y z hx hy hz => ?_
      rw [← hno x y z, ev x y z hx hy hz, ev _ _ _ (hm x y z hx hy hz).1 (hm x y z hx hy hz).2.1 (hm x y z hx hy hz).2.2]
      apply Classical.byContradiction
      intro h2
      exact hc ⟨x, y, z, hx, hy, hz, h2⟩
    obtain ⟨t, ht, h2⟩ := List.any_eq_true.1 h
    rw [heq] at ht
    have := (List.mem_filter.1 ht).2
    simp at this h2
    exact h2 this
  · rintro ⟨x, y, z, hx, hy, hz, h⟩
    cases hb : ndB (redV p L) v
    · exfalso
      apply h
      have heq : noV v (redV p L) = redV p L := List.filter_eq_self.2 fun t ht => by
        have := List.any_eq_false.1 hb t ht
        simpa using this
      have h1 := hno x y z
      rw [heq] at h1
      rw [← ev x y z hx hy hz, ← ev _ _ _ (hm x y z hx hy hz).1 (hm x y z hx hy hz).2.1 (hm x y z hx hy hz).2.2, h1]
    · rfl
end Go.Proofs.Ytajabchbdhjdiaa
