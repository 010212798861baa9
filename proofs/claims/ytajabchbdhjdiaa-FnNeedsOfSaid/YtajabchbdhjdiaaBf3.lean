/-
  Two polynomials have the same values if and only if their reductions are equal; what their difference says. Mathematics alone. Conditions: none.
-/
import Derived.Test.YtajabchbdhjdiaaBf2
import Derived.Test.YtajabchbdhjdiaaBa28
import Derived.Test.YtajabchbdhjdiaaBa27
namespace Go.Proofs.Ytajabchbdhjdiaa
set_option linter.unusedVariables false
theorem low_all : ([2, 3, 5, 7, 11, 13] : List Nat).all (fun q => (List.range 10).all fun n => (List.range q).all fun x => x ^ (lowE (q : Int) (n : Int)).toNat % q == x ^ n % q) = true := by decide +kernel
theorem low_cg {p x n : Int} (hp : isP p = true) (hx : 0 ≤ x ∧ x < p) (hn : 0 ≤ n ∧ n ≤ 9) : Cg p (x ^ (lowE p n).toNat) (x ^ n.toNat) := by
  obtain ⟨q, rfl, hq⟩ := isP_nat hp
  obtain ⟨a, rfl⟩ := Int.eq_ofNat_of_zero_le hx.1
  obtain ⟨m, rfl⟩ := Int.eq_ofNat_of_zero_le hn.1
  have h := List.all_eq_true.1 (List.all_eq_true.1 (List.all_eq_true.1 low_all q hq) m (List.mem_range.2 (by omega))) a (List.mem_range.2 (by omega))
  rw [beq_iff_eq] at h
  refine Cg.iff.2 ?_
  have h2 : (((a ^ (lowE (q : Int) (m : Int)).toNat % q : Nat)) : Int) = ((a ^ m % q : Nat) : Int) := by rw [h]
  simpa [Int.natCast_emod, Int.natCast_pow] using h2
theorem red_mon {p x y z : Int} (hp : isP p = true) (hx : 0 ≤ x ∧ x < p) (hy : 0 ≤ y ∧ y < p) (hz : 0 ≤ z ∧ z < p) : ∀ L : List Trm, (∀ t ∈ L, (0 ≤ t.a ∧ t.a ≤ 9) ∧ (0 ≤ t.b ∧ t.b ≤ 9) ∧ (0 ≤ t.c ∧ t.c ≤ 9)) → Cg p (wS (mon x y z) ((redL p L).map (mkT p))) (wS (mon x y z) L)
  | [], _ => Cg.refl _ _
  | t :: r, h => by
    have ht := h t List.mem_cons_self
    show Cg p ((t.t % p) * (x ^ (lowE p t.a).toNat * y ^ (lowE p t.b).toNat * z ^ (lowE p t.c).toNat) + wS (mon x y z) ((redL p r).map (mkT p))) (t.t * (x ^ t.a.toNat * y ^ t.b.toNat * z ^ t.c.toNat) + wS (mon x y z) r)
    exact ((Cg.mod _ _).mul (((low_cg hp hx ht.1).mul (low_cg hp hy ht.2.1)).mul (low_cg hp hz ht.2.2))).add (red_mon hp hx hy hz r (fun u hu => h u (List.mem_cons_of_mem _ hu)))
theorem red_wS {p x y z : Int} {L : List Trm} (hp : isP p = true) (hV : validB p L = true) (hx : 0 ≤ x ∧ x < p) (hy : 0 ≤ y ∧ y < p) (hz : 0 ≤ z ∧ z < p) : Cg p (wS (mon x y z) (redV p L)) (wS (mon x y z) L) := by
  unfold redV mkK
  rw [List.take_of_length_le (by rw [redL_len]; omega)]
  refine (wS_addAll _ _ _).trans ?_
  show Cg p (0 + _) _
  rw [Int.zero_add]
  exact red_mon hp hx hy hz L (fun t ht => validB_mem hV ht)
theorem red_low {p : Int} {L : List Trm} (hp : isP p = true) (hV : validB p L = true) : LowA p (redV p L) := by
  intro y hy
  rcases addAll_mem5 hy with h | ⟨x, hx, _, h1, h2, h3⟩
  · cases h
  · obtain ⟨z, hz, rfl⟩ := List.mem_map.1 hx
    obtain ⟨t, ht, rfl⟩ := List.mem_map.1 (List.mem_of_mem_take hz)
    have hm := validB_mem hV ht
    have b1 := lowE_bd hp hm.1.1 hm.1.2
    have b2 := lowE_bd hp hm.2.1.1 hm.2.1.2
    have b3 := lowE_bd hp hm.2.2.1 hm.2.2.2
    rw [h1, h2, h3]
    exact ⟨⟨b1.1, b1.2.2⟩, ⟨b2.1, b2.2.2⟩, ⟨b3.1, b3.2.2⟩⟩
/-- two polynomials have the same value at all points -/
def SameV (p : Int) (L M : List Trm) : Prop := ∀ x y z : Int, (0 ≤ x ∧ x < p) → (0 ≤ y ∧ y < p) → (0 ≤ z ∧ z < p) → evK p x y z L L.length = evK p x y z M M.length
theorem red_same {p : Int} {L M : List Trm} (hp : isP p = true) (hL : validB p L = true) (hM : validB p M = true) : redV p L = redV p M ↔ SameV p L M := by
  have ev : ∀ {N : List Trm}, validB p N = true → ∀ x y z : Int, (0 ≤ x ∧ x < p) → (0 ≤ y ∧ y < p) → (0 ≤ z ∧ z < p) → evK p x y z (redV p N) (redV p N).length = evK p x y z N N.length := fun hN x y z hx hy hz =>
    Cg.eq ((evK_all p x y z _).trans ((red_wS hp hN hx hy hz).trans (evK_all p x y z _).symm)) (evK_bd hp _ _ _ _ _) (evK_bd hp _ _ _ _ _)
  constructor
  · intro e x y z hx hy hz
    rw [← ev hL x y z hx hy hz, ← ev hM x y z hx hy hz, e]
  · intro h
    have fL := mkK_facts (p := p) (L := redL p L) hp (k := L.length) (by rw [redL_len]; omega) (by rw [redL_len]; exact validB_len hL)
    have fM := mkK_facts (p := p) (L := redL p M) hp (k := M.length) (by rw [redL_len]; omega) (by rw [redL_len]; exact validB_len hM)
    refine uniq hp fL.1 fM.1 fL.2.1 fM.2.1 (red_low hp hL) (red_low hp hM) fun x y z hx hy hz => ?_
    exact (ev hL x y z hx hy hz).trans ((h x y z hx hy hz).trans (ev hM x y z hx hy hz).symm)
theorem pnt_all : ([2, 3, 5, 7, 11, 13] : List Nat).all (fun q => (List.range q).all fun x => (List.range q).all fun y => (List.range q).all fun z => decide (x * q * q + y * q + z < q * q * q) && (pnt q (x * q * q + y * q + z) == ((x : Int), (y : Int), (z : Int)))) = true := by decide +kernel
theorem pat_in {p x y z : Int} (hp : isP p = true) (hx : 0 ≤ x ∧ x < p) (hy : 0 ≤ y ∧ y < p) (hz : 0 ≤ z ∧ z < p) : (x, y, z) ∈ patX p.toNat p.toNat := by
  rw [patX_pnt p hp]
  obtain ⟨q, rfl, hq⟩ := isP_nat hp
  obtain ⟨a, rfl⟩ := Int.eq_ofNat_of_zero_le hx.1
  obtain ⟨b, rfl⟩ := Int.eq_ofNat_of_zero_le hy.1
  obtain ⟨c, rfl⟩ := Int.eq_ofNat_of_zero_le hz.1
  have h := List.all_eq_true.1 (List.all_eq_true.1 (List.all_eq_true.1 (List.all_eq_true.1 pnt_all q hq) a (List.mem_range.2 (by omega))) b (List.mem_range.2 (by omega))) c (List.mem_range.2 (by omega))
  simp only [Bool.and_eq_true, decide_eq_true_eq, beq_iff_eq] at h
  exact List.mem_map.2 ⟨_, List.mem_range.2 h.1, h.2⟩
theorem fnB_is {p : Int} {H : List Trm} (hp : isP p = true) (hH : validB p H = true) : fnB p H = true ↔ ∃ x y z : Int, (0 ≤ x ∧ x < p) ∧ (0 ≤ y ∧ y < p) ∧ (0 ≤ z ∧ z < p) ∧ evK p x y z H H.length ≠ 0 := by
  have e : fnB p H = fpB (patX p.toNat p.toNat) (nzB p H) := by unfold fnB; rw [hp, hH]; rfl
  have nz : ∀ x y z : Int, (0 ≤ x ∧ x < p) → (0 ≤ y ∧ y < p) → (0 ≤ z ∧ z < p) → nzB p H (x, y, z) = (evK p x y z H H.length != 0) := fun x y z hx hy hz => by
    have he : isE3 p x y z = true := by
      simp only [isE3, Bool.and_eq_true]
      exact ⟨isE_iff.2 hx, isE_iff.2 hy, isE_iff.2 hz⟩
    unfold nzB evP evV
    simp only [hp, hH, he, Bool.and_self, if_true]
  rw [e]
  constructor
  · intro h
    obtain ⟨t, h1, h2⟩ := List.any_eq_true.1 h
    rw [patX_pnt p hp] at h1
    obtain ⟨k, hk, rfl⟩ := List.mem_map.1 h1
    have hc := cube_nat hp
    obtain ⟨q, x, y, z, _, he, e2⟩ := pnt_at hp (k := k) (by rw [← hc]; exact_mod_cast List.mem_range.1 hk)
    simp only [isE3, Bool.and_eq_true] at he
    have hx := isE_iff.1 he.1
    have hy := isE_iff.1 he.2.1
    have hz := isE_iff.1 he.2.2
    rw [e2, nz x y z hx hy hz] at h2
    exact ⟨x, y, z, hx, hy, hz, by simpa using h2⟩
  · rintro ⟨x, y, z, hx, hy, hz, h⟩
    exact List.any_eq_true.2 ⟨(x, y, z), pat_in hp hx hy hz, by rw [nz x y z hx hy hz]; simpa using h⟩
/-- the difference has a value that is not 0 if and only if two polynomials have other values -/
theorem diff_is {p : Int} {L M : List Trm} (hp : isP p = true) (hL : validB p L = true) (hM : validB p M = true) (ho : addOk p L (sclV p (p - 1) M) = true) :
    fnB p (sumV p L (sclV p (p - 1) M)) = !(decide (redV p L = redV p M)) := by
  obtain ⟨_, _, hN, hS, e⟩ := addOk_is ho
  have hpb := isP_bd hp
  have hE : isE p (p - 1) = true := isE_iff.2 ⟨by omega, by omega⟩
  have hscl : sclV p (p - 1) M = sclL p (p - 1) M := by unfold sclV; rw [hp, hM, hE]; rfl
  rw [e]
  generalize hNN : sclV p (p - 1) M = N at *
  have hz0 : ∀ x y z : Int, evK p x y z (addAll p N L) (addAll p N L).length = 0 ↔ evK p x y z L L.length = evK p x y z M M.length := by
    intro x y z
    have h1 := add_ev (x := x) (y := y) (z := z) hp (L := L) (M := N)
    have h2 : Cg p (evK p x y z N N.length) ((p - 1) * evK p x y z M M.length) := (evK_all p x y z N).trans ((by rw [hscl]; exact scl_wS _ : Cg p (wS (mon x y z) N) ((p - 1) * wS (mon x y z) M)).trans ((Cg.refl _ _).mul (evK_all p x y z M).symm))
    have bL := evK_bd hp x y z L L.length
    have bM := evK_bd hp x y z M M.length
    generalize evK p x y z L L.length = u at *
    generalize evK p x y z M M.length = v at *
    generalize evK p x y z N N.length = n at *
    rw [h1]
    have h3 : Cg p (u + n) (u - v) := by
      obtain ⟨k, hk⟩ := h2
      exact ⟨v + k, by rw [hk]; grind⟩
    rw [h3.emod]
    constructor
    · intro h
      have hd : p ∣ u - v := Int.dvd_of_emod_eq_zero h
      obtain ⟨k, hk⟩ := hd
      have hk0 : k = 0 := by
        rcases Int.lt_trichotomy k 0 with h4 | h4 | h4
        · have := Int.mul_le_mul_of_nonneg_left (show k ≤ -1 by omega) (show 0 ≤ p by omega)
          omega
        · exact h4
        · have := Int.mul_le_mul_of_nonneg_left (show 1 ≤ k by omega) (show 0 ≤ p by omega)
          omega
      rw [hk0, Int.mul_zero] at hk
      omega
    · intro h
      rw [h, Int.sub_self, Int.zero_emod]
  have hs := red_same hp hL hM
  have hf := fnB_is hp hS
  by_cases hr : redV p L = redV p M
  · rw [decide_eq_true hr]
    cases hb : fnB p (addAll p N L)
    · rfl
    · obtain ⟨x, y, z, hx, hy, hz, h⟩ := hf.1 hb
      exact absurd ((hz0 x y z).2 (hs.1 hr x y z hx hy hz)) h
  · rw [decide_eq_false hr]
    cases hb : fnB p (addAll p N L)
    · exfalso
      refine hr (hs.2 fun x y z hx hy hz => (hz0 x y z).1 ?_)
      apply Classical.byContradiction
      intro h
      rw [hf.2 ⟨x, y, z, hx, hy, hz, h⟩] at hb
      cases hb
    · rfl
end Go.Proofs.Ytajabchbdhjdiaa
