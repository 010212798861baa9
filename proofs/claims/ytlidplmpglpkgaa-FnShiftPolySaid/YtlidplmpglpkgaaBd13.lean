/-
  What a number that hangs on the powers becomes where unknowns are put greater. Mathematics alone. Conditions: none.
  Numbers that hang on powers, where unknowns are put greater: of values, of the greatest degree, and back again. Mathematics alone. Conditions: none.
  What the law on shifted polynomials says, of the contracts' values. Conditions: none.
  The walk of the law of ShiftPoly. Conditions: none but that the bytes can be read.
-/
import Derived.Test.YtlidplmpglpkgaaBd12
import Derived.Test.YtlidplmpglpkgaaBa31
import Derived.Test.YtlidplmpglpkgaaBd3
import Derived.Test.YtlidplmpglpkgaaBd9
import Derived.Deep.Cut
import Derived.Deep.CutRange
namespace Go.Proofs.Ytlidplmpglpkgaa
abbrev M3 := Int → Int → Int → Int
def incM (v : Int) (m : M3) : M3 := fun a b c => if v = 0 then m (a + 1) b c else if v = 1 then m a (b + 1) c else m a b (c + 1)
def stM (v β : Int) (m : M3) : M3 := fun a b c => incM v m a b c + β * m a b c
def itM (v β : Int) : Nat → M3 → M3
  | 0, m => m
  | n + 1, m => itM v β n (stM v β m)
def tM (v β : Int) (m : M3) : M3 := fun a b c => if v = 0 then itM 0 β a.toNat m 0 b c else if v = 1 then itM 1 β b.toNat m a 0 c else itM 2 β c.toNat m a b 0
theorem mul_st {p v β : Int} (hv : v = 0 ∨ v = 1 ∨ v = 2) (m : M3) (D : List Trm) : Cg p (wS m (addAll p (prodT p D (gpL v β)) [])) (wS (stM v β m) D) := by
  refine (wS_addAll m _ _).trans ?_
  simp only [wS, Int.zero_add]
  refine (prod_wS m D (gpL v β)).trans (Cg.of_eq ?_)
  rw [wS_sum]
  refine sumI_congr fun x _ => ?_
  unfold gpL cnL stM incM
  by_cases h0 : β = 0
  · rw [if_pos h0, h0]
    rcases hv with rfl | rfl | rfl <;> simp [sumI, onT]
  · rw [if_neg h0]
    rcases hv with rfl | rfl | rfl <;> simp [sumI, onT] <;> grind
theorem mulL_st {p v β : Int} (hv : v = 0 ∨ v = 1 ∨ v = 2) (m : M3) {D : List Trm} (h : mulOk p D (gpL v β) = true) : Cg p (wS m (mulL p D (gpL v β))) (wS (stM v β m) D) := by
  rw [(mulOk_is2 h).2.2.2.2]
  exact mul_st hv m D
theorem part_st {p v β : Int} (hv : v = 0 ∨ v = 1 ∨ v = 2) {P0 : List Trm} : ∀ (n : Nat) (m : M3) (P : List Trm), partU p (gpL v β) P0 n = some P → Cg p (wS m P) (wS (itM v β n m) P0)
  | 0, m, P, h => by
    unfold partU at h
    injection h with h
    subst h
    exact Cg.refl _ _
  | n + 1, m, P, h => by
    cases hq : partU p (gpL v β) P0 n with
    | none => rw [partU_none hq 1] at h; cases h
    | some Q =>
      rw [partU_step hq] at h
      by_cases ho : mulOk p Q (gpL v β) = true
      · rw [if_pos ho] at h
        injection h with h
        subst h
        exact (mulL_st hv m ho).trans (part_st hv n (stM v β m) Q hq)
      · rw [if_neg ho] at h
        cases h
theorem one_st {v β : Int} (hv : v = 0 ∨ v = 1 ∨ v = 2) (m : M3) (x : Trm) : wS (itM v β (pwr v x).toNat m) [setp v 0 x] = x.t * tM v β m x.a x.b x.c := by
  rcases hv with rfl | rfl | rfl <;> simp [wS, setp, pwr, tM]
theorem sum_st {p v β : Int} (hv : v = 0 ∨ v = 1 ∨ v = 2) {L : List Trm} (m : M3) : ∀ (k : Nat) (S : List Trm), k ≤ L.length → sumK p v L (gpL v β) k = some S → validB p S = true ∧ Cg p (wS m S) (wS (tM v β m) (L.take k))
  | 0, S, _, h => by
    unfold sumK at h
    injection h with h
    subst h
    exact ⟨rfl, Cg.of_eq rfl⟩
  | k + 1, S, hk, h => by
    cases hs : sumK p v L (gpL v β) k with
    | none => rw [sumK_none hs 1] at h; cases h
    | some s =>
      have ih := sum_st hv m k s (by omega) hs
      cases hq : partU p (gpL v β) [setp v 0 (L.getD k default)] (pwr v (L.getD k default)).toNat with
      | none => rw [sumK_stop hs hq] at h; cases h
      | some q =>
        rw [sumK_step hs hq] at h
        by_cases ho : addOk p s q = true
        · rw [if_pos ho] at h
          injection h with h
          obtain ⟨_, _, _, hv', e⟩ := addOk_is ho
          rw [e] at h
          subst h
          refine ⟨hv', (wS_addAll m _ _).trans ?_⟩
          have hkl : k < L.length := by omega
          rw [List.take_succ_eq_append_getElem hkl, wS_app]
          refine ih.2.add ((part_st hv _ m q hq).trans (Cg.of_eq ?_))
          rw [one_st hv, show L.getD k default = L[k] by simp [List.getD_eq_getElem?_getD, hkl]]
          simp [wS]
        · rw [if_neg ho] at h
          cases h
theorem put_st {p v β : Int} (hv : v = 0 ∨ v = 1 ∨ v = 2) {L : List Trm} (m : M3) (h : putOk p L v (gpL v β) = true) : validB p (putV p L v (gpL v β)) = true ∧ Cg p (wS m (putV p L v (gpL v β))) (wS (tM v β m) L) := by
  unfold putOk at h
  simp only [Bool.and_eq_true] at h
  obtain ⟨hc, hs⟩ := h
  obtain ⟨S, hS⟩ := Option.isSome_iff_exists.1 hs
  have := sum_st hv (L := L) m L.length S (Nat.le_refl _) hS
  unfold putV
  rw [if_pos hc, hS]
  rw [List.take_length] at this
  exact this
/-- the number for powers behind all three -/
def t3 (x y z : Int) (m : M3) : M3 := tM 0 x (tM 1 y (tM 2 z m))
theorem sh_st {p x y z : Int} {L S : List Trm} (h : shK p x y z L 3 = some S) : (isP p && validB p L) = true ∧ validB p S = true ∧ ∀ m : M3, Cg p (wS m S) (wS (t3 x y z m) L) := by
  have hok : (isP p && validB p L) = true := by
    cases hb : (isP p && validB p L)
    · rw [shK_bad hb] at h; cases h
    · rfl
  have step : ∀ k (F : List Trm), shK p x y z L (k + 1) = some F → ∃ G, shK p x y z L k = some G ∧ putOk p G k (gpL k (byF x y z k)) = true ∧ F = putV p G k (gpL k (byF x y z k)) := by
    intro k F hF
    cases hg : shK p x y z L k with
    | none => rw [shK_stays hg 1] at hF; cases hF
    | some G =>
      cases ho : putOk p G k (gpL k (byF x y z k))
      · rw [shK_none hg ho] at hF; cases hF
      · rw [shK_some hg ho] at hF
        injection hF with hF
        exact ⟨G, rfl, ho, hF.symm⟩
  obtain ⟨F2, h2, o2, rfl⟩ := step 2 S h
  obtain ⟨F1, h1, o1, rfl⟩ := step 1 F2 h2
  obtain ⟨F0, h0, o0, rfl⟩ := step 0 F1 h1
  have e0 : F0 = L := by unfold shK at h0; injection h0 with h0; exact h0.symm
  subst e0
  refine ⟨hok, (put_st (v := 2) (by simp) (fun _ _ _ => 0) o2).1, fun m => ?_⟩
  refine ((put_st (v := 2) (by simp) m o2).2).trans ?_
  refine ((put_st (v := 1) (by simp) _ o1).2).trans ?_
  exact (put_st (v := 0) (by simp) _ o0).2
end Go.Proofs.Ytlidplmpglpkgaa
namespace Go.Proofs.Ytlidplmpglpkgaa
section
variable {p v u β γ : Int} {m m' : M3}
def Ng (p : Int) (m m' : M3) : Prop := ∀ a b c : Int, 0 ≤ a → 0 ≤ b → 0 ≤ c → Cg p (m a b c) (m' a b c)
theorem Ng.trans {m1 m2 m3 : M3} (h : Ng p m1 m2) (k : Ng p m2 m3) : Ng p m1 m3 := fun a b c ha hb hc => (h a b c ha hb hc).trans (k a b c ha hb hc)
theorem Ng.refl (p : Int) (m : M3) : Ng p m m := fun _ _ _ _ _ _ => Cg.refl _ _
theorem st0 (β : Int) (m : M3) (a b c : Int) : stM 0 β m a b c = m (a + 1) b c + β * m a b c := by simp [stM, incM]
theorem st1 (β : Int) (m : M3) (a b c : Int) : stM 1 β m a b c = m a (b + 1) c + β * m a b c := by simp [stM, incM]
theorem st2 (β : Int) (m : M3) (a b c : Int) : stM 2 β m a b c = m a b (c + 1) + β * m a b c := by simp [stM, incM]
theorem tm0 (β : Int) (m : M3) (a b c : Int) : tM 0 β m a b c = itM 0 β a.toNat m 0 b c := by simp [tM]
theorem tm1 (β : Int) (m : M3) (a b c : Int) : tM 1 β m a b c = itM 1 β b.toNat m a 0 c := by simp [tM]
theorem tm2 (β : Int) (m : M3) (a b c : Int) : tM 2 β m a b c = itM 2 β c.toNat m a b 0 := by simp [tM]
theorem st_ng (hv : v = 0 ∨ v = 1 ∨ v = 2) (h : Ng p m m') : Ng p (stM v β m) (stM v β m') := fun a b c ha hb hc => by
  rcases hv with rfl | rfl | rfl
  · rw [st0, st0]; exact (h _ _ _ (by omega) hb hc).add ((Cg.refl _ _).mul (h _ _ _ ha hb hc))
  · rw [st1, st1]; exact (h _ _ _ ha (by omega) hc).add ((Cg.refl _ _).mul (h _ _ _ ha hb hc))
  · rw [st2, st2]; exact (h _ _ _ ha hb (by omega)).add ((Cg.refl _ _).mul (h _ _ _ ha hb hc))
theorem it_ng (hv : v = 0 ∨ v = 1 ∨ v = 2) : ∀ (n : Nat) {m m' : M3}, Ng p m m' → Ng p (itM v β n m) (itM v β n m')
  | 0, _, _, h => h
  | n + 1, _, _, h => it_ng hv n (st_ng hv h)
theorem t_ng (hv : v = 0 ∨ v = 1 ∨ v = 2) (h : Ng p m m') : Ng p (tM v β m) (tM v β m') := fun a b c ha hb hc => by
  rcases hv with rfl | rfl | rfl
  · rw [tm0, tm0]; exact it_ng (by simp) _ h _ _ _ (Int.le_refl 0) hb hc
  · rw [tm1, tm1]; exact it_ng (by simp) _ h _ _ _ ha (Int.le_refl 0) hc
  · rw [tm2, tm2]; exact it_ng (by simp) _ h _ _ _ ha hb (Int.le_refl 0)
theorem wS_ng {L : List Trm} (hL : validB p L = true) (h : Ng p m m') : Cg p (wS m L) (wS m' L) := by
  rw [wS_sum, wS_sum]
  refine sumI_cg fun x hx => ?_
  obtain ⟨⟨a0, _⟩, ⟨b0, _⟩, ⟨c0, _⟩⟩ := validB_mem hL hx
  exact (Cg.refl _ _).mul (h _ _ _ a0 b0 c0)
/-- values -/
theorem it_eig (hv : v = 0 ∨ v = 1 ∨ v = 2) {l : Int} : ∀ (n : Nat) {m : M3}, (∀ a b c : Int, 0 ≤ a → 0 ≤ b → 0 ≤ c → incM v m a b c = l * m a b c) → ∀ a b c : Int, 0 ≤ a → 0 ≤ b → 0 ≤ c → itM v β n m a b c = (l + β) ^ n * m a b c
  | 0, m, _, a, b, c, _, _, _ => by simp [itM]
  | n + 1, m, h, a, b, c, ha, hb, hc => by
    have hst : ∀ a b c : Int, 0 ≤ a → 0 ≤ b → 0 ≤ c → stM v β m a b c = (l + β) * m a b c := fun a b c ha hb hc => by
      unfold stM
      rw [h a b c ha hb hc]
      grind
    have h' : ∀ a b c : Int, 0 ≤ a → 0 ≤ b → 0 ≤ c → incM v (stM v β m) a b c = l * stM v β m a b c := fun a b c ha hb hc => by
      have hi := h a b c ha hb hc
      rw [hst a b c ha hb hc]
      rcases hv with rfl | rfl | rfl
      · have e : incM 0 (stM 0 β m) a b c = stM 0 β m (a + 1) b c := by simp [incM]
        have e2 : incM 0 m a b c = m (a + 1) b c := by simp [incM]
        rw [e, hst _ _ _ (by omega) hb hc, ← e2, hi]
        grind
      · have e : incM 1 (stM 1 β m) a b c = stM 1 β m a (b + 1) c := by simp [incM]
        have e2 : incM 1 m a b c = m a (b + 1) c := by simp [incM]
        rw [e, hst _ _ _ ha (by omega) hc, ← e2, hi]
        grind
      · have e : incM 2 (stM 2 β m) a b c = stM 2 β m a b (c + 1) := by simp [incM]
        have e2 : incM 2 m a b c = m a b (c + 1) := by simp [incM]
        rw [e, hst _ _ _ ha hb (by omega), ← e2, hi]
        grind
    show itM v β n (stM v β m) a b c = _
    rw [it_eig hv n h' a b c ha hb hc, hst a b c ha hb hc, Int.pow_succ]
    grind
theorem t_mon0 (p x y z β : Int) : Ng p (tM 0 β (mon x y z)) (mon (x + β) y z) := fun a b c ha hb hc => by
  rw [tm0, it_eig (v := 0) (l := x) (by simp) a.toNat ?_ 0 b c (Int.le_refl 0) hb hc]
  · refine Cg.of_eq ?_
    simp [mon]
    grind
  · intro a b c ha hb hc
    simp only [incM, if_true, mon]
    rw [show (a + 1).toNat = a.toNat + 1 by omega, Int.pow_succ]
    grind
theorem t_mon1 (p x y z β : Int) : Ng p (tM 1 β (mon x y z)) (mon x (y + β) z) := fun a b c ha hb hc => by
  rw [tm1, it_eig (v := 1) (l := y) (by simp) b.toNat ?_ a 0 c ha (Int.le_refl 0) hc]
  · refine Cg.of_eq ?_
    simp [mon]
    grind
  · intro a b c ha hb hc
    have : incM 1 (mon x y z) a b c = mon x y z a (b + 1) c := by simp [incM]
    rw [this]
    unfold mon
    rw [show (b + 1).toNat = b.toNat + 1 by omega, Int.pow_succ]
    grind
theorem t_mon2 (p x y z β : Int) : Ng p (tM 2 β (mon x y z)) (mon x y (z + β)) := fun a b c ha hb hc => by
  rw [tm2, it_eig (v := 2) (l := z) (by simp) c.toNat ?_ a b 0 ha hb (Int.le_refl 0)]
  · refine Cg.of_eq ?_
    simp [mon]
    grind
  · intro a b c ha hb hc
    have : incM 2 (mon x y z) a b c = mon x y z a b (c + 1) := by simp [incM]
    rw [this]
    unfold mon
    rw [show (c + 1).toNat = c.toNat + 1 by omega, Int.pow_succ]
    grind
theorem t3_mon (p x y z bx by' bz : Int) : Ng p (t3 bx by' bz (mon x y z)) (mon ((x + bx) % p) ((y + by') % p) ((z + bz) % p)) := by
  refine (t_ng (by simp) (t_ng (by simp) (t_mon2 p x y z bz))).trans ?_
  refine (t_ng (by simp) (t_mon1 p x y (z + bz) by')).trans ?_
  refine (t_mon0 p x (y + by') (z + bz) bx).trans ?_
  intro a b c _ _ _
  unfold mon
  exact (((cg_pow (Cg.mod p (x + bx)) _).mul (cg_pow (Cg.mod p (y + by')) _)).mul (cg_pow (Cg.mod p (z + bz)) _)).symm
/-- the greatest degree -/
def Zd (D : Int) (m : M3) : Prop := ∀ a b c : Int, 0 ≤ a → 0 ≤ b → 0 ≤ c → a + b + c < D → m a b c = 0
def incN (v n : Int) (m : M3) : M3 := fun a b c => if v = 0 then m (a + n) b c else if v = 1 then m a (b + n) c else m a b (c + n)
theorem in0 (n : Int) (m : M3) (a b c : Int) : incN 0 n m a b c = m (a + n) b c := by simp [incN]
theorem in1 (n : Int) (m : M3) (a b c : Int) : incN 1 n m a b c = m a (b + n) c := by simp [incN]
theorem in2 (n : Int) (m : M3) (a b c : Int) : incN 2 n m a b c = m a b (c + n) := by simp [incN]
theorem it_top (hv : v = 0 ∨ v = 1 ∨ v = 2) : ∀ (n : Nat) {m : M3} {D : Int}, Zd D m → ∀ a b c : Int, 0 ≤ a → 0 ≤ b → 0 ≤ c → a + b + c + n ≤ D → itM v β n m a b c = incN v n m a b c
  | 0, m, D, _, a, b, c, _, _, _, _ => by
    rcases hv with rfl | rfl | rfl
    · rw [in0]; simp [itM]
    · rw [in1]; simp [itM]
    · rw [in2]; simp [itM]
  | n + 1, m, D, h, a, b, c, ha, hb, hc, hD => by
    have hz : Zd (D - 1) (stM v β m) := fun a b c ha hb hc hs => by
      rcases hv with rfl | rfl | rfl
      · rw [st0, h _ _ _ (by omega) hb hc (by omega), h _ _ _ ha hb hc (by omega)]; simp
      · rw [st1, h _ _ _ ha (by omega) hc (by omega), h _ _ _ ha hb hc (by omega)]; simp
      · rw [st2, h _ _ _ ha hb (by omega) (by omega), h _ _ _ ha hb hc (by omega)]; simp
    show itM v β n (stM v β m) a b c = _
    rw [it_top hv n hz a b c ha hb hc (by omega)]
    rcases hv with rfl | rfl | rfl
    · rw [in0, in0, st0, h (a + n) b c (by omega) hb hc (by omega), Int.mul_zero, Int.add_zero, show a + (n : Int) + 1 = a + ((n + 1 : Nat) : Int) by omega]
    · rw [in1, in1, st1, h a (b + n) c ha (by omega) hc (by omega), Int.mul_zero, Int.add_zero, show b + (n : Int) + 1 = b + ((n + 1 : Nat) : Int) by omega]
    · rw [in2, in2, st2, h a b (c + n) ha hb (by omega) (by omega), Int.mul_zero, Int.add_zero, show c + (n : Int) + 1 = c + ((n + 1 : Nat) : Int) by omega]
theorem t_top (hv : v = 0 ∨ v = 1 ∨ v = 2) {D : Int} (h : Zd D m) : (∀ a b c : Int, 0 ≤ a → 0 ≤ b → 0 ≤ c → a + b + c ≤ D → tM v β m a b c = m a b c) ∧ Zd D (tM v β m) := by
  have key : ∀ a b c : Int, 0 ≤ a → 0 ≤ b → 0 ≤ c → a + b + c ≤ D → tM v β m a b c = m a b c := fun a b c ha hb hc hD => by
    rcases hv with rfl | rfl | rfl
    · rw [tm0, it_top (by simp) a.toNat h 0 b c (Int.le_refl 0) hb hc (by omega), in0, show 0 + (a.toNat : Int) = a by omega]
    · rw [tm1, it_top (by simp) b.toNat h a 0 c ha (Int.le_refl 0) hc (by omega), in1, show 0 + (b.toNat : Int) = b by omega]
    · rw [tm2, it_top (by simp) c.toNat h a b 0 ha hb (Int.le_refl 0) (by omega), in2, show 0 + (c.toNat : Int) = c by omega]
  exact ⟨key, fun a b c ha hb hc hs => by rw [key a b c ha hb hc (by omega)]; exact h a b c ha hb hc hs⟩
theorem t3_top {x y z : Int} {D : Int} (h : Zd D m) (a b c : Int) (ha : 0 ≤ a) (hb : 0 ≤ b) (hc : 0 ≤ c) (hD : a + b + c ≤ D) : t3 x y z m a b c = m a b c := by
  unfold t3
  have h2 := t_top (v := 2) (β := z) (by simp) h
  have h1 := t_top (v := 1) (β := y) (by simp) h2.2
  have h0 := t_top (v := 0) (β := x) (by simp) h1.2
  rw [h0.1 a b c ha hb hc hD, h1.1 a b c ha hb hc hD, h2.1 a b c ha hb hc hD]
theorem ind_zd (A B C : Int) : Zd (A + B + C) (indM A B C) := fun a b c _ _ _ hs => by
  unfold indM
  rw [if_neg (by omega)]
/-- back again -/
theorem st_st (hu : u = 0 ∨ u = 1 ∨ u = 2) (hv : v = 0 ∨ v = 1 ∨ v = 2) : stM u β (stM v γ m) = stM v γ (stM u β m) := by
  funext a b c
  rcases hu with rfl | rfl | rfl <;> rcases hv with rfl | rfl | rfl <;> simp only [st0, st1, st2] <;> grind
theorem it_st (hu : u = 0 ∨ u = 1 ∨ u = 2) (hv : v = 0 ∨ v = 1 ∨ v = 2) : ∀ (n : Nat) {m : M3}, itM v γ n (stM u β m) = stM u β (itM v γ n m)
  | 0, _ => rfl
  | n + 1, m => by
    show itM v γ n (stM v γ (stM u β m)) = stM u β (itM v γ n (stM v γ m))
    rw [st_st hv hu, it_st hu hv n]
theorem it_it (hu : u = 0 ∨ u = 1 ∨ u = 2) (hv : v = 0 ∨ v = 1 ∨ v = 2) (n : Nat) : ∀ (k : Nat) {m : M3}, itM u β k (itM v γ n m) = itM v γ n (itM u β k m)
  | 0, _ => rfl
  | k + 1, m => by
    show itM u β k (stM u β (itM v γ n m)) = itM v γ n (itM u β k (stM u β m))
    rw [← it_st hu hv, it_it hu hv n k]
theorem st_t (hu : u = 0 ∨ u = 1 ∨ u = 2) (hv : v = 0 ∨ v = 1 ∨ v = 2) (hn : u ≠ v) : stM u β (tM v γ m) = tM v γ (stM u β m) := by
  funext a b c
  rcases hu with rfl | rfl | rfl <;> rcases hv with rfl | rfl | rfl
  · exact absurd rfl hn
  · rw [st0, tm1, tm1, tm1, it_st (by simp) (by simp), st0]
  · rw [st0, tm2, tm2, tm2, it_st (by simp) (by simp), st0]
  · rw [st1, tm0, tm0, tm0, it_st (by simp) (by simp), st1]
  · exact absurd rfl hn
  · rw [st1, tm2, tm2, tm2, it_st (by simp) (by simp), st1]
  · rw [st2, tm0, tm0, tm0, it_st (by simp) (by simp), st2]
  · rw [st2, tm1, tm1, tm1, it_st (by simp) (by simp), st2]
  · exact absurd rfl hn
theorem it_t (hu : u = 0 ∨ u = 1 ∨ u = 2) (hv : v = 0 ∨ v = 1 ∨ v = 2) (hn : u ≠ v) : ∀ (n : Nat) {m : M3}, itM u β n (tM v γ m) = tM v γ (itM u β n m)
  | 0, _ => rfl
  | n + 1, m => by
    show itM u β n (stM u β (tM v γ m)) = tM v γ (itM u β n (stM u β m))
    rw [st_t hu hv hn, it_t hu hv hn n]
theorem t2_t1 : tM 2 β (tM 1 γ m) = tM 1 γ (tM 2 β m) := by
  funext a b c
  rw [tm2, it_t (by simp) (by simp) (by decide), tm1, tm1, it_t (by simp) (by simp) (by decide), tm2, it_it (by simp) (by simp)]
theorem t2_t0 : tM 2 β (tM 0 γ m) = tM 0 γ (tM 2 β m) := by
  funext a b c
  rw [tm2, it_t (by simp) (by simp) (by decide), tm0, tm0, it_t (by simp) (by simp) (by decide), tm2, it_it (by simp) (by simp)]
theorem t1_t0 : tM 1 β (tM 0 γ m) = tM 0 γ (tM 1 β m) := by
  funext a b c
  rw [tm1, it_t (by simp) (by simp) (by decide), tm0, tm0, it_t (by simp) (by simp) (by decide), tm1, it_it (by simp) (by simp)]
theorem st_same (p : Int) (hv : v = 0 ∨ v = 1 ∨ v = 2) : Ng p (stM v β (tM v γ m)) (tM v γ (stM v (β + γ) m)) := fun a b c ha hb hc => by
  refine Cg.of_eq ?_
  rcases hv with rfl | rfl | rfl
  · rw [st0, tm0, tm0, tm0, it_st (by simp) (by simp), st0, show (a + 1).toNat = a.toNat + 1 by omega]
    show itM 0 γ a.toNat (stM 0 γ m) 0 b c + _ = _
    rw [it_st (by simp) (by simp), st0]
    grind
  · rw [st1, tm1, tm1, tm1, it_st (by simp) (by simp), st1, show (b + 1).toNat = b.toNat + 1 by omega]
    show itM 1 γ b.toNat (stM 1 γ m) a 0 c + _ = _
    rw [it_st (by simp) (by simp), st1]
    grind
  · rw [st2, tm2, tm2, tm2, it_st (by simp) (by simp), st2, show (c + 1).toNat = c.toNat + 1 by omega]
    show itM 2 γ c.toNat (stM 2 γ m) a b 0 + _ = _
    rw [it_st (by simp) (by simp), st2]
    grind
theorem it_same (p : Int) (hv : v = 0 ∨ v = 1 ∨ v = 2) : ∀ (n : Nat) {m : M3}, Ng p (itM v β n (tM v γ m)) (tM v γ (itM v (β + γ) n m))
  | 0, _ => Ng.refl _ _
  | n + 1, m => (it_ng hv n (st_same p hv)).trans (it_same p hv n)
theorem it_zero (hv : v = 0 ∨ v = 1 ∨ v = 2) {δ : Int} (hd : Cg p δ 0) : ∀ (n : Nat) {m : M3}, Ng p (itM v δ n m) (incN v n m)
  | 0, m => fun a b c _ _ _ => by
    rcases hv with rfl | rfl | rfl
    · rw [in0]; exact Cg.of_eq (by simp [itM])
    · rw [in1]; exact Cg.of_eq (by simp [itM])
    · rw [in2]; exact Cg.of_eq (by simp [itM])
  | n + 1, m => fun a b c ha hb hc => by
    have hz : ∀ q : Int, Cg p (δ * q) 0 := fun q => (hd.mul (Cg.refl p q)).trans (Cg.of_eq (Int.zero_mul q))
    refine (it_zero hv hd n (m := stM v δ m) a b c ha hb hc).trans ?_
    rcases hv with rfl | rfl | rfl
    · rw [in0, in0, st0, show a + (n : Int) + 1 = a + ((n + 1 : Nat) : Int) by omega]
      exact ((Cg.refl _ _).add (hz _)).trans (Cg.of_eq (Int.add_zero _))
    · rw [in1, in1, st1, show b + (n : Int) + 1 = b + ((n + 1 : Nat) : Int) by omega]
      exact ((Cg.refl _ _).add (hz _)).trans (Cg.of_eq (Int.add_zero _))
    · rw [in2, in2, st2, show c + (n : Int) + 1 = c + ((n + 1 : Nat) : Int) by omega]
      exact ((Cg.refl _ _).add (hz _)).trans (Cg.of_eq (Int.add_zero _))
theorem t_back (hv : v = 0 ∨ v = 1 ∨ v = 2) (hd : Cg p (β + γ) 0) : Ng p (tM v β (tM v γ m)) m := fun a b c ha hb hc => by
  rcases hv with rfl | rfl | rfl
  · rw [tm0]
    refine (it_same p (by simp) a.toNat 0 b c (Int.le_refl 0) hb hc).trans ?_
    rw [tm0]
    refine (it_zero (by simp) hd a.toNat 0 b c (Int.le_refl 0) hb hc).trans (Cg.of_eq ?_)
    rw [in0, show 0 + (a.toNat : Int) = a by omega]
  · rw [tm1]
    refine (it_same p (by simp) b.toNat a 0 c ha (Int.le_refl 0) hc).trans ?_
    rw [tm1]
    refine (it_zero (by simp) hd b.toNat a 0 c ha (Int.le_refl 0) hc).trans (Cg.of_eq ?_)
    rw [in1, show 0 + (b.toNat : Int) = b by omega]
  · rw [tm2]
    refine (it_same p (by simp) c.toNat a b 0 ha hb (Int.le_refl 0)).trans ?_
    rw [tm2]
    refine (it_zero (by simp) hd c.toNat a b 0 ha hb (Int.le_refl 0)).trans (Cg.of_eq ?_)
    rw [in2, show 0 + (c.toNat : Int) = c by omega]
theorem t3_back {x y z x' y' z' : Int} (hx : Cg p (x + x') 0) (hy : Cg p (y + y') 0) (hz : Cg p (z + z') 0) : Ng p (t3 x y z (t3 x' y' z' m)) m := by
  unfold t3
  rw [t2_t0, t2_t1, t1_t0]
  refine (t_ng (by simp) (t_ng (by simp) (t_ng (by simp) (t_ng (by simp) (t_back (by simp) hz))))).trans ?_
  refine (t_ng (by simp) (t_ng (by simp) (t_back (by simp) hy))).trans ?_
  exact t_back (by simp) hx
end
end Go.Proofs.Ytlidplmpglpkgaa
namespace Go.Proofs.Ytlidplmpglpkgaa
open Go.RowKit
theorem ind_at {L : List Trm} (hs : Srt L) {y : Trm} (hy : y ∈ L) : wS (indM y.a y.b y.c) L = y.t := by
  rw [wS_sum, sumI_one (x := y) (srt_ne hs) hy]
  · unfold indM
    rw [if_pos ⟨rfl, rfl, rfl⟩, Int.mul_one]
  · intro z hz hne
    unfold indM
    rw [if_neg, Int.mul_zero]
    intro e
    have hp : ∀ {l : List Trm}, Srt l → y ∈ l → z ∈ l → y = z ∨ bef y z = true ∨ bef z y = true := by
      intro l
      induction l with
      | nil => intro _ h; cases h
      | cons u r ih =>
        intro h h1 h2
        have hu := List.pairwise_cons.1 h
        rcases List.mem_cons.1 h1 with e1 | k1
        · rcases List.mem_cons.1 h2 with e2 | k2
          · exact .inl (e1.trans e2.symm)
          · exact .inr (.inl (e1 ▸ hu.1 _ k2))
        · rcases List.mem_cons.1 h2 with e2 | k2
          · exact .inr (.inr (e2 ▸ hu.1 _ k1))
          · exact ih hu.2 k1 k2
    rcases hp hs hy hz with h | h | h
    · exact hne h.symm
    · rw [bef_iff] at h; omega
    · rw [bef_iff] at h; omega
theorem not_zero {p : Int} {L : List Trm} (hV : validB p L = true) {y : Trm} (hy : y ∈ L) : ¬ Cg p y.t 0 := fun h => by
  have hb := validB_els hV y hy
  have := h.eq (by omega) (by omega)
  omega
/-- all that the law of shifted polynomials asks -/
structure ShF (p bx by' bz : Int) (L S : List Trm) : Prop where
  hp : isP p = true
  vL : validB p L = true
  vS : validB p S = true
  ev : ∀ x y z : Int, isE3 p x y z = true → evV p (addV p x bx) (addV p y by') (addV p z bz) L = evV p x y z S
  bk : ∀ nx ny nz : Int, Cg p (bx + nx) 0 → Cg p (by' + ny) 0 → Cg p (bz + nz) 0 → shOk p nx ny nz S = true → shV p nx ny nz S = L
  dg : degV p S = degV p L
theorem sh_is {p x y z : Int} {L : List Trm} (h : shOk p x y z L = true) : (isP p && isE3 p x y z) = true ∧ ∃ S, shK p x y z L 3 = some S ∧ shV p x y z L = S := by
  unfold shOk at h
  obtain ⟨h1, h2⟩ := Bool.and_eq_true_iff.1 h
  obtain ⟨S, hS⟩ := Option.isSome_iff_exists.1 h2
  exact ⟨h1, S, hS, (sh_some h1 hS).1⟩
theorem shF {p bx by' bz : Int} {L : List Trm} (h : shOk p bx by' bz L = true) : ShF p bx by' bz L (shV p bx by' bz L) := by
  obtain ⟨h1, S, hS, e⟩ := sh_is h
  rw [e]
  obtain ⟨h2, vS, hm⟩ := sh_st hS
  obtain ⟨hp, hE⟩ := Bool.and_eq_true_iff.1 h1
  obtain ⟨_, vL⟩ := Bool.and_eq_true_iff.1 h2
  have hb := isP_bd hp
  have hE3 := e3_iff.1 hE
  have dgL : degV p L = topK degT L L.length := by unfold degV; rw [hp, vL, ← topK_deg]; rfl
  have dgS : degV p S = topK degT S S.length := by unfold degV; rw [hp, vS, ← topK_deg]; rfl
  have pos : ∀ {M : List Trm}, validB p M = true → ∀ y ∈ M, 0 ≤ y.a ∧ 0 ≤ y.b ∧ 0 ≤ y.c := fun hM y hy => by
    obtain ⟨⟨a0, _⟩, ⟨b0, _⟩, ⟨c0, _⟩⟩ := validB_mem hM hy
    exact ⟨a0, b0, c0⟩
  have tr : ∀ A B C : Int, (∀ y ∈ L, degT y ≤ A + B + C) → Cg p (wS (indM A B C) S) (wS (indM A B C) L) := fun A B C hle => by
    refine (hm _).trans (Cg.of_eq ?_)
    rw [wS_sum, wS_sum]
    refine sumI_congr fun y hy => ?_
    obtain ⟨a0, b0, c0⟩ := pos vL y hy
    have := hle y hy
    unfold degT at this
    rw [t3_top (ind_zd A B C) y.a y.b y.c a0 b0 c0 this]
  refine ⟨hp, vL, vS, fun x y z he => ?_, fun nx ny nz hx hy hz hok => ?_, ?_⟩
  · have he3 := e3_iff.1 he
    have a1 : addV p x bx = (x + bx) % p := by unfold addV; rw [if_pos (by unfold isE2; rw [hp, isE_iff.2 he3.1, isE_iff.2 hE3.1]; rfl)]
    have a2 : addV p y by' = (y + by') % p := by unfold addV; rw [if_pos (by unfold isE2; rw [hp, isE_iff.2 he3.2.1, isE_iff.2 hE3.2.1]; rfl)]
    have a3 : addV p z bz = (z + bz) % p := by unfold addV; rw [if_pos (by unfold isE2; rw [hp, isE_iff.2 he3.2.2, isE_iff.2 hE3.2.2]; rfl)]
    rw [a1, a2, a3]
    have hE' : isE3 p ((x + bx) % p) ((y + by') % p) ((z + bz) % p) = true := by
      rw [e3_iff]
      exact ⟨emod_bd (by omega), emod_bd (by omega), emod_bd (by omega)⟩
    unfold evV
    rw [hp, vL, vS, he, hE']
    simp only [Bool.and_self, if_true]
    refine (evK_is hp ?_ (evK_bd hp _ _ _ L L.length)).symm
    refine (hm _).trans ?_
    refine (wS_ng vL (t3_mon p x y z bx by' bz)).trans ?_
    exact (evK_all p _ _ _ L).symm
  · obtain ⟨_, R, hR, eR⟩ := sh_is hok
    rw [eR]
    obtain ⟨_, vR, hr⟩ := sh_st hR
    refine ind_inj (validB_srt vR) (validB_srt vL) (validB_els vR) (validB_els vL) fun A B C => ?_
    exact ((hr _).trans (hm _)).trans (wS_ng vL (t3_back hx hy hz))
  · rw [dgL, dgS]
    have hmin := topK_min degT L L.length
    have hup : topK degT S S.length ≤ topK degT L L.length := by
      refine topK_le hmin (fun y hy => ?_) _ (Nat.le_refl _)
      apply Classical.byContradiction
      intro hgt
      have hle : ∀ u ∈ L, degT u ≤ y.a + y.b + y.c := fun u hu => by
        have := topK_ge (f := degT) hu
        unfold degT at *
        omega
      have h3 := tr y.a y.b y.c hle
      rw [ind_at (validB_srt vS) hy, ind_none fun u hu e => by
        have := topK_ge (f := degT) hu
        unfold degT at *
        omega] at h3
      exact not_zero vS hy h3
    by_cases h0 : 0 ≤ topK degT L L.length
    · obtain ⟨u, hu, hd⟩ := topK_at L.length (Nat.le_refl _) h0
      have h3 := tr u.a u.b u.c (fun y hy => by
        have := topK_ge (f := degT) hy
        unfold degT at *
        omega)
      rw [ind_at (validB_srt vL) hu] at h3
      obtain ⟨y, hy, e1, e2, e3⟩ := ind_mem (p := p) (L := S) (a := u.a) (b := u.b) (c := u.c) (fun h => not_zero vL hu (h3.symm.trans h))
      have h4 := topK_ge (f := degT) hy
      rw [degT_eq y u e1 e2 e3] at h4
      omega
    · have := topK_min degT S S.length
      omega
end Go.Proofs.Ytlidplmpglpkgaa
namespace Go.Proofs.Ytlidplmpglpkgaa
open Go.RowKit
/-- polynomials, two points that stay, and two more that change, in blocks behind -/
structure PW (w0 : World) (zs : List VT) (B A : Nat) (bx bb bz : Int) (X : Nat) (x y z : Int) (Y : Nat) (a b c : Int) (Z : Nat) (d e f : Int) (wr : World) : Prop where
  low : Below w0.heap.size w0 wr
  rd : ∀ q ∈ zs, ∃ g, Trms g q.1 q.2 ∧ g.heap.size ≤ B ∧ g.heap.size ≤ wr.heap.size ∧ ∀ k, k < B → k < g.heap.size → wr.heap[k]? = g.heap[k]?
  pa : PtB wr A bx bb bz
  px : PtB wr X x y z
  py : PtB wr Y a b c
  pz : PtB wr Z d e f
  wB : w0.heap.size ≤ B
  aB : A < B
  xB : X < B
  yB : B ≤ Y
  zB : B ≤ Z
  yz : Y ≠ Z
section
variable {w0 wr w' : World} {zs : List VT} {B A X Y Z : Nat} {bx bb bz x y z a b c d e f a' b' c' : Int}
theorem PW.on (h : PW w0 zs B A bx bb bz X x y z Y a b c Z d e f wr) (hb : Below wr.heap.size wr w') : PW w0 zs B A bx bb bz X x y z Y a b c Z d e f w' :=
  ⟨h.low.trans (hb.mono h.low.size), fun q hq => by
    obtain ⟨g, h1, h2, h3, h4⟩ := h.rd q hq
    exact ⟨g, h1, h2, Nat.le_trans h3 hb.size, fun k k1 k2 => (hb.block k (by omega)).trans (h4 k k1 k2)⟩, h.pa.on hb, h.px.on hb, h.py.on hb, h.pz.on hb, h.wB, h.aB, h.xB, h.yB, h.zB, h.yz⟩
theorem PW.sy {o : Nat} {u : Value} (h : PW w0 zs B A bx bb bz X x y z Y a b c Z d e f wr) (hp : PtB (wr.setCell ⟨Y, o, none⟩ u) Y a' b' c') : PW w0 zs B A bx bb bz X x y z Y a' b' c' Z d e f (wr.setCell ⟨Y, o, none⟩ u) := by
  have hB := h.wB
  have hA := h.aB
  have hX := h.xB
  have hY := h.yB
  exact ⟨h.low.setCell (show w0.heap.size ≤ Y by omega) _, fun q hq => by
    obtain ⟨g, h1, h2, h3, h4⟩ := h.rd q hq
    exact ⟨g, h1, h2, by simpa using h3, fun k k1 k2 => (Below.heap_setCell _ _ _ _ (show k ≠ Y by omega)).trans (h4 k k1 k2)⟩, h.pa.far (by omega) o u, h.px.far (by omega) o u, hp, h.pz.far (Ne.symm h.yz) o u, h.wB, h.aB, h.xB, h.yB, h.zB, h.yz⟩
theorem PW.sz {o : Nat} {u : Value} (h : PW w0 zs B A bx bb bz X x y z Y a b c Z d e f wr) (hp : PtB (wr.setCell ⟨Z, o, none⟩ u) Z a' b' c') : PW w0 zs B A bx bb bz X x y z Y a b c Z a' b' c' (wr.setCell ⟨Z, o, none⟩ u) := by
  have hB := h.wB
  have hA := h.aB
  have hX := h.xB
  have hZ := h.zB
  exact ⟨h.low.setCell (show w0.heap.size ≤ Z by omega) _, fun q hq => by
    obtain ⟨g, h1, h2, h3, h4⟩ := h.rd q hq
    exact ⟨g, h1, h2, by simpa using h3, fun k k1 k2 => (Below.heap_setCell _ _ _ _ (show k ≠ Z by omega)).trans (h4 k k1 k2)⟩, h.pa.far (by omega) o u, h.px.far (by omega) o u, h.py.far h.yz o u, hp, h.wB, h.aB, h.xB, h.yB, h.zB, h.yz⟩
theorem PW.pk (h : PW w0 zs B A bx bb bz X x y z Y a b c Z d e f wr) : PK w0 zs wr :=
  ⟨h.low, fun q hq => by
    obtain ⟨g, h1, h2, h3, h4⟩ := h.rd q hq
    exact trms_far (B := g.heap.size) h1 (Nat.le_refl _) (fun k hk => h4 k (by omega) hk) h3⟩
theorem PW.of (h : PK w0 zs wr) (ha : PtB wr A bx bb bz) (hx : PtB wr X x y z) (hb : Below wr.heap.size wr w') (hy : PtB w' Y a b c) (hz : PtB w' Z d e f) (yB : wr.heap.size ≤ Y) (zB : wr.heap.size ≤ Z) (yz : Y ≠ Z) :
    PW w0 zs wr.heap.size A bx bb bz X x y z Y a b c Z d e f w' :=
  ⟨h.low.trans (hb.mono h.low.size), fun q hq => ⟨wr, h.rd q hq, Nat.le_refl _, hb.size, fun k hk _ => hb.block k hk⟩, ha.on hb, hx.on hb, hy, hz, h.low.size, ha.sz, hx.sz, yB, zB, yz⟩
end
theorem two_new (w : World) (x y z a b c : Int) :
    PtB ((w.alloc (Obj.cells #[.int .i64 x, .int .i64 y, .int .i64 z] 33)).alloc (Obj.cells #[.int .i64 a, .int .i64 b, .int .i64 c] 33)).drew w.heap.size x y z ∧
    PtB ((w.alloc (Obj.cells #[.int .i64 x, .int .i64 y, .int .i64 z] 33)).alloc (Obj.cells #[.int .i64 a, .int .i64 b, .int .i64 c] 33)).drew (w.heap.size + 1) a b c ∧
    Below w.heap.size w ((w.alloc (Obj.cells #[.int .i64 x, .int .i64 y, .int .i64 z] 33)).alloc (Obj.cells #[.int .i64 a, .int .i64 b, .int .i64 c] 33)).drew := by
  obtain ⟨W, hW⟩ : ∃ W, W = w.alloc (Obj.cells #[.int .i64 x, .int .i64 y, .int .i64 z] 33) := ⟨_, rfl⟩
  have h1 : PtB W w.heap.size x y z := hW ▸ PtB.new w x y z
  have hs : W.heap.size = w.heap.size + 1 := by rw [hW]; simp
  have hb : Below w.heap.size w W := by rw [hW]; exact Below.alloc (Below.refl _ _) (Nat.le_refl _) _
  rw [← hW]
  have h2 : PtB (W.alloc (Obj.cells #[.int .i64 a, .int .i64 b, .int .i64 c] 33)) W.heap.size a b c := PtB.new W a b c
  have hb2 : Below W.heap.size W (W.alloc (Obj.cells #[.int .i64 a, .int .i64 b, .int .i64 c] 33)).drew := Below.drew (Below.alloc (Below.refl _ _) (Nat.le_refl _) _)
  refine ⟨h1.on hb2, ?_, hb.trans (hb2.mono (by omega))⟩
  rw [← hs]
  exact h2.on (Below.drew (Below.refl _ _))
theorem minV_cg {p a : Int} (hp : isP p = true) (ha : isE p a = true) : Cg p (a + minV p a) 0 := by
  have h : isE1 p a = true := by unfold isE1; rw [hp, ha]; rfl
  unfold minV
  rw [if_pos h]
  exact ((Cg.refl p a).add (Cg.mod p (-a))).trans (Cg.of_eq (by omega))
set_option maxRecDepth 100000 in
set_option maxHeartbeats 16000000 in
theorem wShiftPoly_in (a : Option Addr) (len cap : Nat) (a' : Option Addr) (len' cap' : Nat) (w : World) (h : ByteRow w a len cap) (h' : ByteRow w a' len' cap') (hl : len ≤ 1048576) (hl' : len' ≤ 1048576) :
    Calls Try.prog 12 #[.slice a len cap, .slice a' len' cap'] w fun e w' => e = .returned (.bool true) ∧ Below w.heap.size w w' := by
  have hlp : (len : Int) ≤ 1048576 := by omega
  have hlp' : (len' : Int) ≤ 1048576 := by omega
  have HB' := Lib.hid h'
  have HD := Lib.hid (drawShiftPoly a len cap w h)
  clear h h'
  go_enter Try.func12, Try.ntmps12
  go_wp2_with fail
  refine HD.out.mono ?_
  rintro e w1 ⟨p, f, L, bx, bb, bz, rfl, hL, hr1, hb1⟩
  have HK1 := Lib.hid (show PK w [(f, L)] w1 from ⟨hb1, fun z hz => by
    rcases List.mem_cons.1 hz with rfl | hz
    · exact (hr1.own (by omega)).trms
    · cases hz⟩)
  clear hr1 hb1 HD
  obtain ⟨A, hA⟩ : ∃ A, A = w1.heap.size := ⟨_, rfl⟩
  obtain ⟨W1, hW1⟩ : ∃ W, W = w1.alloc (Obj.cells #[.int .i64 bx, .int .i64 bb, .int .i64 bz] 33) := ⟨_, rfl⟩
  have HP := Lib.hid (show PtB W1 A bx bb bz by rw [hW1, hA]; exact PtB.new w1 bx bb bz)
  replace HK1 := Lib.hid (show PK w [(f, L)] W1 by rw [hW1]; exact HK1.out.on (Below.alloc (Below.refl _ _) (Nat.le_refl _) _))
  have HW := Lib.hid (And.intro hA hW1)
  clear hA hW1
  go_upto_region 4 with fail
  rw [← HW.out.2, ← HW.out.1]
  clear HW
  obtain ⟨d0, d1, d2, _, _⟩ := HP.out
  go_wp2_with fail
  refine (iShiftPoly p bx bb bz f L W1 (HK1.out.g (by simp))).mono ?_
  rintro e w2 ⟨hv, rfl, ho, hb⟩
  have HK2 := Lib.hid ((HK1.out.on hb).add ho.trms)
  replace HP := Lib.hid (HP.out.on hb)
  clear ho hb HK1 d0 d1 d2
  obtain ⟨d0, d1, d2, _, _⟩ := HP.out
  go_wp2_with fail
  refine (sShiftPoly p bx bb bz f L w2 (HK2.out.g (by simp))).mono ?_
  rintro e w3 ⟨wv, rfl, ho, hb⟩
  have HK3 := Lib.hid ((HK2.out.on hb).add ho.trms)
  replace HP := Lib.hid (HP.out.on hb)
  clear ho hb HK2 d0 d1 d2
  obtain ⟨ok, hok⟩ : ∃ ok, ok = shOk p bx bb bz L := ⟨_, rfl⟩
  have HOK := Lib.hid hok
  rw [← hok]
  clear hok
  have hbb : (ok != ok) = false := by cases ok <;> rfl
  go_wp2_with fail
  refine (acP hv wv (shV p bx bb bz L) w3 (HK3.out.g (by simp)) (HK3.out.g (by simp))).mono ?_
  rintro e w4 ⟨rfl, hb⟩
  have HK4 := Lib.hid (HK3.out.on hb)
  replace HP := Lib.hid (HP.out.on hb)
  clear hb HK3
  cases ok
  · go_wp2_with fail
    refine (acP hv wv (shV p bx bb bz L) w4 (HK4.out.g (by simp)) (HK4.out.g (by simp))).mono ?_
    rintro e w5 ⟨rfl, hb⟩
    have HK5 := Lib.hid (HK4.out.on hb)
    clear hb HK4
    go_wp2_with fail
    go_ret
    exact ⟨rfl, HK5.out.low⟩
  · have hF := shF HOK.out.symm
    have hB3 : isE3 p bx bb bz = true := by
      have h := HOK.out.symm
      unfold shOk at h
      simp only [Bool.and_eq_true] at h
      exact h.1.2
    have HE3 := Lib.hid hB3
    generalize shV p bx bb bz L = G at HK4 hF
    have HF := Lib.hid hF
    clear hF hB3
    go_wp2_with fail
    refine (acPoint_any p HF.out.hp a' len' cap' w4 (HB'.out.below HK4.out.low)).mono ?_
    rintro e w5 ⟨x, y, z, rfl, hE, hb⟩
    have HE := Lib.hid hE
    obtain ⟨X, hX⟩ : ∃ X, X = w5.heap.size := ⟨_, rfl⟩
    obtain ⟨W6, hW6⟩ : ∃ W, W = w5.alloc (Obj.cells #[.int .i64 x, .int .i64 y, .int .i64 z] 33) := ⟨_, rfl⟩
    have hb6 : Below w5.heap.size w5 W6 := by rw [hW6]; exact Below.alloc (Below.refl _ _) (Nat.le_refl _) _
    have HK6 := Lib.hid ((HK4.out.on hb).on hb6)
    have HA := Lib.hid ((HP.out.on hb).on hb6)
    have HX := Lib.hid (show PtB W6 X x y z by rw [hX, hW6]; exact PtB.new w5 x y z)
    have HW := Lib.hid (And.intro hX hW6)
    clear hX hW6 hb6 hb hE HK4 HP
    go_upto_region 9 with fail
    rw [← HW.out.2, ← HW.out.1]
    clear HW
    go_cut [13, 14] from 70 to 71 (fun yv zv wq => ∃ Y Z : Nat, yv = .pointer (some ⟨Y, 0, none⟩) ∧ zv = .pointer (some ⟨Z, 0, none⟩) ∧ Y ≠ Z ∧ W6.heap.size ≤ Y ∧ W6.heap.size ≤ Z ∧ PtB wq Y x y z ∧ PtB wq Z bx bb bz ∧ Below W6.heap.size W6 wq)
    case first =>
      obtain ⟨c0, c1, c2, _, _⟩ := HX.out
      obtain ⟨d0, d1, d2, _, _⟩ := HA.out
      go_region_held3 (fun w' => w'.cell? ⟨X, 0, none⟩ = some (.int .i64 x) ∧ w'.cell? ⟨X, 1, none⟩ = some (.int .i64 y) ∧ w'.cell? ⟨X, 2, none⟩ = some (.int .i64 z) ∧ w'.cell? ⟨A, 0, none⟩ = some (.int .i64 bx) ∧ w'.cell? ⟨A, 1, none⟩ = some (.int .i64 bb) ∧ w'.cell? ⟨A, 2, none⟩ = some (.int .i64 bz)) (go_keep) (fail)
      all_goals
        go_wp2_with fail
        go_meet
        case rel => first
          | exact ⟨W6.heap.size, W6.heap.size + 1, rfl, rfl, by omega, Nat.le_refl _, Nat.le_succ _, (two_new W6 x y z bx bb bz).1, (two_new W6 x y z bx bb bz).2.1, (two_new W6 x y z bx bb bz).2.2⟩
          | exact ⟨W6.heap.size + 1, W6.heap.size, rfl, rfl, by omega, Nat.le_succ _, Nat.le_refl _, (two_new W6 bx bb bz x y z).2.1, (two_new W6 bx bb bz x y z).1, (two_new W6 bx bb bz x y z).2.2⟩
    case rest =>
      obtain ⟨Y, Z, rfl, rfl, yz, hY, hZ, py, pz, hb⟩ := hcut
      have HY := Lib.hid (PW.of HK6.out HA.out HX.out hb py pz hY hZ yz)
      clear hb py pz hY hZ yz HK6 HA HX
      generalize W6.heap.size = B at HY
      go_wp2_with fail
      refine wp_loop_rounds 4 ?_
      rw [rounds_succ]
      have c0 := HY.out.px.c0
      have d0 := HY.out.pa.c0
      go_wp2_with fail
      refine wp_region_seq [(0, true), (1, true), (2, true), (3, true), (4, true), (5, true), (6, true), (7, true), (8, false), (9, true)] (fun w' => w'.cell? ⟨X, 0, none⟩ = some (.int .i64 x) ∧ w'.cell? ⟨A, 0, none⟩ = some (.int .i64 bx)) (by kernel_rfl) (by kernel_rfl) rfl (by intro c a d v w h; cases d <;> exact h) ⟨c0, d0⟩ ?_
      iterate 8 (refine wpSeq_take (v := ?_) (List.getElem?_toArray.trans rfl) ?_ ?_; rotate_left; (intro w' hSw; (try dsimp only at hSw); go_simp; (try with_reducible rfl)); (try simp only [Act.put, List.setIfInBounds_toArray, List.set_cons_zero, List.set_cons_succ]))
      refine wpSeq_do (List.getElem?_toArray.trans rfl) (fun K hK => ?_)
      go_simp
      refine (iAdd p x bx _).mono ?_
      rintro e wa0 ⟨rfl, hb⟩
      have HYa := Lib.hid (HY.out.on ((Below.drew (Below.refl _ _)).trans (hb.mono (by simp))))
      refine hK _ _ ⟨HYa.out.px.c0, HYa.out.pa.c0⟩ ?_
      clear hK K hb HY c0 d0
      (refine wpSeq_take (v := ?_) (List.getElem?_toArray.trans rfl) ?_ ?_; rotate_left; (intro w' hSw; (try dsimp only at hSw); go_simp; (try with_reducible rfl)); (try simp only [Act.put, List.setIfInBounds_toArray, List.set_cons_zero, List.set_cons_succ]))
      refine wpSeq_nil ?_
      simp only [Exit.then]
      have d0 := HYa.out.py.c0
      have f0 := HYa.out.py.f 0
      have HY := Lib.hid (HYa.out.sy (HYa.out.py.s0 (addV p x bx)))
      have e0 := HY.out.pa.c0
      go_wp2_with fail
      refine (iMin p bx _).mono ?_
      rintro e wb0 ⟨rfl, hb⟩
      replace HY := Lib.hid (HY.out.on hb)
      clear hb HYa d0 f0 e0
      have d0 := HY.out.pz.c0
      have f0 := HY.out.pz.f 0
      replace HY := Lib.hid (HY.out.sz (HY.out.pz.s0 (minV p bx)))
      go_wp2_with fail
      clear d0 f0
      generalize wb0.setCell ⟨Z, 0, none⟩ (.int .i64 (minV p bx)) = V0 at *
      rw [rounds_succ]
      have c1 := HY.out.px.c1
      have d1 := HY.out.pa.c1
      go_wp2_with fail
      refine wp_region_seq [(0, true), (1, true), (2, true), (3, true), (4, true), (5, true), (6, true), (7, true), (8, false), (9, true)] (fun w' => w'.cell? ⟨X, 1, none⟩ = some (.int .i64 y) ∧ w'.cell? ⟨A, 1, none⟩ = some (.int .i64 bb)) (by kernel_rfl) (by kernel_rfl) rfl (by intro c a d v w h; cases d <;> exact h) ⟨c1, d1⟩ ?_
      iterate 8 (refine wpSeq_take (v := ?_) (List.getElem?_toArray.trans rfl) ?_ ?_; rotate_left; (intro w' hSw; (try dsimp only at hSw); go_simp; (try with_reducible rfl)); (try simp only [Act.put, List.setIfInBounds_toArray, List.set_cons_zero, List.set_cons_succ]))
      refine wpSeq_do (List.getElem?_toArray.trans rfl) (fun K hK => ?_)
      go_simp
      refine (iAdd p y bb _).mono ?_
      rintro e wa1 ⟨rfl, hb⟩
      have HYa := Lib.hid (HY.out.on ((Below.drew (Below.refl _ _)).trans (hb.mono (by simp))))
      refine hK _ _ ⟨HYa.out.px.c1, HYa.out.pa.c1⟩ ?_
      clear hK K hb HY c1 d1
      (refine wpSeq_take (v := ?_) (List.getElem?_toArray.trans rfl) ?_ ?_; rotate_left; (intro w' hSw; (try dsimp only at hSw); go_simp; (try with_reducible rfl)); (try simp only [Act.put, List.setIfInBounds_toArray, List.set_cons_zero, List.set_cons_succ]))
      refine wpSeq_nil ?_
      simp only [Exit.then]
      have d1 := HYa.out.py.c1
      have f1 := HYa.out.py.f 1
      have HY := Lib.hid (HYa.out.sy (HYa.out.py.s1 (addV p y bb)))
      have e1 := HY.out.pa.c1
      go_wp2_with fail
      refine (iMin p bb _).mono ?_
      rintro e wb1 ⟨rfl, hb⟩
      replace HY := Lib.hid (HY.out.on hb)
      clear hb HYa d1 f1 e1
      have d1 := HY.out.pz.c1
      have f1 := HY.out.pz.f 1
      replace HY := Lib.hid (HY.out.sz (HY.out.pz.s1 (minV p bb)))
      go_wp2_with fail
      clear d1 f1
      generalize wb1.setCell ⟨Z, 1, none⟩ (.int .i64 (minV p bb)) = V1 at *
      rw [rounds_succ]
      have c2 := HY.out.px.c2
      have d2 := HY.out.pa.c2
      go_wp2_with fail
      refine wp_region_seq [(0, true), (1, true), (2, true), (3, true), (4, true), (5, true), (6, true), (7, true), (8, false), (9, true)] (fun w' => w'.cell? ⟨X, 2, none⟩ = some (.int .i64 z) ∧ w'.cell? ⟨A, 2, none⟩ = some (.int .i64 bz)) (by kernel_rfl) (by kernel_rfl) rfl (by intro c a d v w h; cases d <;> exact h) ⟨c2, d2⟩ ?_
      iterate 8 (refine wpSeq_take (v := ?_) (List.getElem?_toArray.trans rfl) ?_ ?_; rotate_left; (intro w' hSw; (try dsimp only at hSw); go_simp; (try with_reducible rfl)); (try simp only [Act.put, List.setIfInBounds_toArray, List.set_cons_zero, List.set_cons_succ]))
      refine wpSeq_do (List.getElem?_toArray.trans rfl) (fun K hK => ?_)
      go_simp
      refine (iAdd p z bz _).mono ?_
      rintro e wa2 ⟨rfl, hb⟩
      have HYa := Lib.hid (HY.out.on ((Below.drew (Below.refl _ _)).trans (hb.mono (by simp))))
      refine hK _ _ ⟨HYa.out.px.c2, HYa.out.pa.c2⟩ ?_
      clear hK K hb HY c2 d2
      (refine wpSeq_take (v := ?_) (List.getElem?_toArray.trans rfl) ?_ ?_; rotate_left; (intro w' hSw; (try dsimp only at hSw); go_simp; (try with_reducible rfl)); (try simp only [Act.put, List.setIfInBounds_toArray, List.set_cons_zero, List.set_cons_succ]))
      refine wpSeq_nil ?_
      simp only [Exit.then]
      have d2 := HYa.out.py.c2
      have f2 := HYa.out.py.f 2
      have HY := Lib.hid (HYa.out.sy (HYa.out.py.s2 (addV p z bz)))
      have e2 := HY.out.pa.c2
      go_wp2_with fail
      refine (iMin p bz _).mono ?_
      rintro e wb2 ⟨rfl, hb⟩
      replace HY := Lib.hid (HY.out.on hb)
      clear hb HYa d2 f2 e2
      have d2 := HY.out.pz.c2
      have f2 := HY.out.pz.f 2
      replace HY := Lib.hid (HY.out.sz (HY.out.pz.s2 (minV p bz)))
      go_wp2_with fail
      clear d2 f2
      generalize wb2.setCell ⟨Z, 2, none⟩ (.int .i64 (minV p bz)) = V2 at *
      rw [rounds_succ]
      have HEv := Lib.hid (HF.out.ev x y z HE.out)
      have HN := Lib.hid (HF.out.bk (minV p bx) (minV p bb) (minV p bz) (minV_cg HF.out.hp (by have h := HE3.out; unfold isE3 at h; simp only [Bool.and_eq_true] at h; exact h.1)) (minV_cg HF.out.hp (by have h := HE3.out; unfold isE3 at h; simp only [Bool.and_eq_true] at h; exact h.2.1)) (minV_cg HF.out.hp (by have h := HE3.out; unfold isE3 at h; simp only [Bool.and_eq_true] at h; exact h.2.2)))
      generalize addV p x bx = mx at *
      generalize addV p y bb = my at *
      generalize addV p z bz = mz at *
      generalize minV p bx = nx at *
      generalize minV p bb = ny at *
      generalize minV p bz = nz at *
      have HK := Lib.hid HY.out.pk
      have HPX := Lib.hid HY.out.px
      have HPY := Lib.hid HY.out.py
      have HPZ := Lib.hid HY.out.pz
      clear HY
      obtain ⟨k0, k1, k2, _, _⟩ := HPZ.out
      go_wp2_with fail
      refine (iShiftPoly p nx ny nz hv G V2 (HK.out.g (by simp))).mono ?_
      rintro e W9 ⟨tv, rfl, ho, hb⟩
      have HK9 := Lib.hid ((HK.out.on hb).add ho.trms)
      have HP := Lib.hid (fun w' (hw : Below W9.heap.size W9 w') => And.intro (HPX.out.on (hb.trans (hw.mono hb.size))) (HPY.out.on (hb.trans (hw.mono hb.size))))
      clear ho hb HK k0 k1 k2 HPX HPY HPZ
      have HI1 := Lib.hid (fun w' (hb : Below W9.heap.size W9 w') => iEvalPoly p x y z hv G w' ((HK9.out.on hb).g (by simp)))
      have HI2 := Lib.hid (fun w' (hb : Below W9.heap.size W9 w') => iEvalPoly p mx my mz f L w' ((HK9.out.on hb).g (by simp)))
      rw [HEv.out] at HI2
      have HJ1 := Lib.hid (fun w' (hb : Below W9.heap.size W9 w') => iDegreeOf p hv G w' ((HK9.out.on hb).g (by simp)))
      have HJ2 := Lib.hid (fun w' (hb : Below W9.heap.size W9 w') => iDegreeOf p f L w' ((HK9.out.on hb).g (by simp)))
      rw [HF.out.dg] at HJ1
      generalize evV p x y z G = es at *
      generalize degV p L = dl at *
      obtain ⟨fine, hfi⟩ : ∃ b, b = shOk p nx ny nz G := ⟨_, rfl⟩
      have HFI := Lib.hid hfi
      rw [← hfi]
      clear hfi
      cases fine
      · go_upto_region 17 with fail
        refine wp_region_below (by kernel_rfl) (by kernel_rfl) ?_
        iterate 2 (with_reducible refine wpQuiet_yes ?_ ?_; (focus (kernel_rfl)); intro K hK; go_simp; refine ⟨_, fun _ _ => rfl, ?_⟩; with_reducible refine hK _ ?_; clear hK K)
        (with_reducible refine wpQuiet_yes ?_ ?_; (focus (kernel_rfl)); intro K hK; go_simp; refine ⟨(.agg #[.int .i64 x, .int .i64 y, .int .i64 z]), ?_, ?_⟩; rotate_left; with_reducible refine hK _ ?_; clear hK K; rotate_left)
        · intro w' hw
          obtain ⟨c0, c1, c2, _, _⟩ := (HP.out w' hw).1
          simp only [c0, c1, c2, go_sem, Result.andThen, and_self]
        (with_reducible refine wpQuiet_yes ?_ ?_; (focus (kernel_rfl)); intro K hK; go_simp; refine ⟨(.int .i64 es), ?_, ?_⟩; rotate_left; with_reducible refine hK _ ?_; clear hK K; rotate_left)
        · intro w' hw
          exact (HI1.out w' hw).mono fun e w'' ⟨he, h⟩ => ⟨he, hw.trans (h.mono hw.size)⟩
        iterate 2 (with_reducible refine wpQuiet_yes ?_ ?_; (focus (kernel_rfl)); intro K hK; go_simp; refine ⟨_, fun _ _ => rfl, ?_⟩; with_reducible refine hK _ ?_; clear hK K)
        (with_reducible refine wpQuiet_yes ?_ ?_; (focus (kernel_rfl)); intro K hK; go_simp; refine ⟨(.agg #[.int .i64 mx, .int .i64 my, .int .i64 mz]), ?_, ?_⟩; rotate_left; with_reducible refine hK _ ?_; clear hK K; rotate_left)
        · intro w' hw
          obtain ⟨c0, c1, c2, _, _⟩ := (HP.out w' hw).2
          simp only [c0, c1, c2, go_sem, Result.andThen, and_self]
        (with_reducible refine wpQuiet_yes ?_ ?_; (focus (kernel_rfl)); intro K hK; go_simp; refine ⟨(.int .i64 es), ?_, ?_⟩; rotate_left; with_reducible refine hK _ ?_; clear hK K; rotate_left)
        · intro w' hw
          exact (HI2.out w' hw).mono fun e w'' ⟨he, h⟩ => ⟨he, hw.trans (h.mono hw.size)⟩
        (with_reducible refine wpQuiet_yes ?_ ?_; (focus (kernel_rfl)); intro K hK; go_simp; refine ⟨(.bool true), ?_, ?_⟩; rotate_left; with_reducible refine hK _ ?_; clear hK K; rotate_left)
        · intro w' hw
          simp
        iterate 4 (with_reducible refine wpQuiet_yes ?_ ?_; (focus (kernel_rfl)); intro K hK; go_simp; refine ⟨_, fun _ _ => rfl, ?_⟩; with_reducible refine hK _ ?_; clear hK K)
        iterate 3 (with_reducible refine wpQuiet_no ?_ ?_; (focus (kernel_rfl)); intro K hK; go_simp; with_reducible refine hK _ ?_; clear hK K)
        iterate 5 (with_reducible refine wpQuiet_yes ?_ ?_; (focus (kernel_rfl)); intro K hK; go_simp; refine ⟨_, fun _ _ => rfl, ?_⟩; with_reducible refine hK _ ?_; clear hK K)
        (with_reducible refine wpQuiet_yes ?_ ?_; (focus (kernel_rfl)); intro K hK; go_simp; refine ⟨(.int .i64 dl), ?_, ?_⟩; rotate_left; with_reducible refine hK _ ?_; clear hK K; rotate_left)
        · intro w' hw
          exact (HJ1.out w' hw).mono fun e w'' ⟨he, h⟩ => ⟨he, hw.trans (h.mono hw.size)⟩
        iterate 2 (with_reducible refine wpQuiet_yes ?_ ?_; (focus (kernel_rfl)); intro K hK; go_simp; refine ⟨_, fun _ _ => rfl, ?_⟩; with_reducible refine hK _ ?_; clear hK K)
        (with_reducible refine wpQuiet_yes ?_ ?_; (focus (kernel_rfl)); intro K hK; go_simp; refine ⟨(.int .i64 dl), ?_, ?_⟩; rotate_left; with_reducible refine hK _ ?_; clear hK K; rotate_left)
        · intro w' hw
          exact (HJ2.out w' hw).mono fun e w'' ⟨he, h⟩ => ⟨he, hw.trans (h.mono hw.size)⟩
        (with_reducible refine wpQuiet_yes ?_ ?_; (focus (kernel_rfl)); intro K hK; go_simp; refine ⟨(.bool true), ?_, ?_⟩; rotate_left; with_reducible refine hK _ ?_; clear hK K; rotate_left)
        · intro w' hw
          simp
        iterate 2 (with_reducible refine wpQuiet_yes ?_ ?_; (focus (kernel_rfl)); intro K hK; go_simp; refine ⟨_, fun _ _ => rfl, ?_⟩; with_reducible refine hK _ ?_; clear hK K)
        refine wpQuiet_nil fun w2 hb2 => ?_
        have HQ := Lib.hid ((HK9.out.on hb2).low)
        clear hb2
        simp only [Exit.then]
        go_wp2_with fail
        go_ret
        exact ⟨rfl, HQ.out⟩
      · have hR := HN.out HFI.out.symm
        have HA1 := Lib.hid (fun w' (hb : Below W9.heap.size W9 w') => acP tv f L w' (hR ▸ (HK9.out.on hb).g (L := shV p nx ny nz G) (by simp)) ((HK9.out.on hb).g (by simp)))
        clear hR
        go_upto_region 17 with fail
        refine wp_region_below (by kernel_rfl) (by kernel_rfl) ?_
        iterate 2 (with_reducible refine wpQuiet_yes ?_ ?_; (focus (kernel_rfl)); intro K hK; go_simp; refine ⟨_, fun _ _ => rfl, ?_⟩; with_reducible refine hK _ ?_; clear hK K)
        (with_reducible refine wpQuiet_yes ?_ ?_; (focus (kernel_rfl)); intro K hK; go_simp; refine ⟨(.agg #[.int .i64 x, .int .i64 y, .int .i64 z]), ?_, ?_⟩; rotate_left; with_reducible refine hK _ ?_; clear hK K; rotate_left)
        · intro w' hw
          obtain ⟨c0, c1, c2, _, _⟩ := (HP.out w' hw).1
          simp only [c0, c1, c2, go_sem, Result.andThen, and_self]
        (with_reducible refine wpQuiet_yes ?_ ?_; (focus (kernel_rfl)); intro K hK; go_simp; refine ⟨(.int .i64 es), ?_, ?_⟩; rotate_left; with_reducible refine hK _ ?_; clear hK K; rotate_left)
        · intro w' hw
          exact (HI1.out w' hw).mono fun e w'' ⟨he, h⟩ => ⟨he, hw.trans (h.mono hw.size)⟩
        iterate 2 (with_reducible refine wpQuiet_yes ?_ ?_; (focus (kernel_rfl)); intro K hK; go_simp; refine ⟨_, fun _ _ => rfl, ?_⟩; with_reducible refine hK _ ?_; clear hK K)
        (with_reducible refine wpQuiet_yes ?_ ?_; (focus (kernel_rfl)); intro K hK; go_simp; refine ⟨(.agg #[.int .i64 mx, .int .i64 my, .int .i64 mz]), ?_, ?_⟩; rotate_left; with_reducible refine hK _ ?_; clear hK K; rotate_left)
        · intro w' hw
          obtain ⟨c0, c1, c2, _, _⟩ := (HP.out w' hw).2
          simp only [c0, c1, c2, go_sem, Result.andThen, and_self]
        (with_reducible refine wpQuiet_yes ?_ ?_; (focus (kernel_rfl)); intro K hK; go_simp; refine ⟨(.int .i64 es), ?_, ?_⟩; rotate_left; with_reducible refine hK _ ?_; clear hK K; rotate_left)
        · intro w' hw
          exact (HI2.out w' hw).mono fun e w'' ⟨he, h⟩ => ⟨he, hw.trans (h.mono hw.size)⟩
        (with_reducible refine wpQuiet_yes ?_ ?_; (focus (kernel_rfl)); intro K hK; go_simp; refine ⟨(.bool true), ?_, ?_⟩; rotate_left; with_reducible refine hK _ ?_; clear hK K; rotate_left)
        · intro w' hw
          simp
        iterate 4 (with_reducible refine wpQuiet_yes ?_ ?_; (focus (kernel_rfl)); intro K hK; go_simp; refine ⟨_, fun _ _ => rfl, ?_⟩; with_reducible refine hK _ ?_; clear hK K)
        iterate 2 (with_reducible refine wpQuiet_yes ?_ ?_; (focus (kernel_rfl)); intro K hK; go_simp; refine ⟨_, fun _ _ => rfl, ?_⟩; with_reducible refine hK _ ?_; clear hK K)
        (with_reducible refine wpQuiet_yes ?_ ?_; (focus (kernel_rfl)); intro K hK; go_simp; refine ⟨(.bool true), ?_, ?_⟩; rotate_left; with_reducible refine hK _ ?_; clear hK K; rotate_left)
        · intro w' hw
          exact (HA1.out w' hw).mono fun e w'' ⟨he, h⟩ => ⟨he, hw.trans (h.mono hw.size)⟩
        iterate 5 (with_reducible refine wpQuiet_yes ?_ ?_; (focus (kernel_rfl)); intro K hK; go_simp; refine ⟨_, fun _ _ => rfl, ?_⟩; with_reducible refine hK _ ?_; clear hK K)
        (with_reducible refine wpQuiet_yes ?_ ?_; (focus (kernel_rfl)); intro K hK; go_simp; refine ⟨(.int .i64 dl), ?_, ?_⟩; rotate_left; with_reducible refine hK _ ?_; clear hK K; rotate_left)
        · intro w' hw
          exact (HJ1.out w' hw).mono fun e w'' ⟨he, h⟩ => ⟨he, hw.trans (h.mono hw.size)⟩
        iterate 2 (with_reducible refine wpQuiet_yes ?_ ?_; (focus (kernel_rfl)); intro K hK; go_simp; refine ⟨_, fun _ _ => rfl, ?_⟩; with_reducible refine hK _ ?_; clear hK K)
        (with_reducible refine wpQuiet_yes ?_ ?_; (focus (kernel_rfl)); intro K hK; go_simp; refine ⟨(.int .i64 dl), ?_, ?_⟩; rotate_left; with_reducible refine hK _ ?_; clear hK K; rotate_left)
        · intro w' hw
          exact (HJ2.out w' hw).mono fun e w'' ⟨he, h⟩ => ⟨he, hw.trans (h.mono hw.size)⟩
        (with_reducible refine wpQuiet_yes ?_ ?_; (focus (kernel_rfl)); intro K hK; go_simp; refine ⟨(.bool true), ?_, ?_⟩; rotate_left; with_reducible refine hK _ ?_; clear hK K; rotate_left)
        · intro w' hw
          simp
        iterate 2 (with_reducible refine wpQuiet_yes ?_ ?_; (focus (kernel_rfl)); intro K hK; go_simp; refine ⟨_, fun _ _ => rfl, ?_⟩; with_reducible refine hK _ ?_; clear hK K)
        refine wpQuiet_nil fun w2 hb2 => ?_
        have HQ := Lib.hid ((HK9.out.on hb2).low)
        clear hb2
        simp only [Exit.then]
        go_wp2_with fail
        go_ret
        exact ⟨rfl, HQ.out⟩
set_option maxHeartbeats 2000000 in
theorem wShiftPoly_long (a : Option Addr) (len cap : Nat) (a' : Option Addr) (len' cap' : Nat) (w : World) (h1 : len ≤ 9223372036854775807) (h2 : len' ≤ 9223372036854775807) (hl : ¬ (len ≤ 1048576 ∧ len' ≤ 1048576)) :
    Calls Try.prog 12 #[.slice a len cap, .slice a' len' cap'] w fun e w' => e = .returned (.bool true) ∧ Below w.heap.size w w' := by
  by_cases h : len ≤ 1048576
  · have hp : (len : Int) ≤ 1048576 := by omega
    have hq : (1048576 : Int) < (len' : Int) := by omega
    go_enter Try.func12, Try.ntmps12
    go_wp2_with fail
    go_ret
    exact ⟨rfl, Below.refl _ _⟩
  · have hp : (1048576 : Int) < (len : Int) := by omega
    go_enter Try.func12, Try.ntmps12
    go_wp2_with fail
    go_ret
    exact ⟨rfl, Below.refl _ _⟩
theorem wShiftPoly (a : Option Addr) (len cap : Nat) (a' : Option Addr) (len' cap' : Nat) (w : World) (h : ByteRow w a len cap) (h' : ByteRow w a' len' cap') :
    Calls Try.prog 12 #[.slice a len cap, .slice a' len' cap'] w fun e w' => e = .returned (.bool true) ∧ Below w.heap.size w w' := by
  by_cases hl : len ≤ 1048576 ∧ len' ≤ 1048576
  · exact wShiftPoly_in a len cap a' len' cap' w h h' hl.1 hl.2
  · exact wShiftPoly_long a len cap a' len' cap' w (Nat.le_trans h.1 h.2.1) (Nat.le_trans h'.1 h'.2.1) hl
end Go.Proofs.Ytlidplmpglpkgaa
