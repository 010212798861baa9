/- own texts -/
import Derived.Test.YtlidplmpglpkgaaBe14
import Derived.Test.YtlidplmpglpkgaaBa31
import Derived.Test.YtlidplmpglpkgaaBe1
import Derived.Test.YtlidplmpglpkgaaBe5
import Derived.Test.YtlidplmpglpkgaaBa27
namespace Go.Proofs.Ytlidplmpglpkgaa
def sumN (n : Nat) (u : Nat → Int) : Int := match n with
  | 0 => 0
  | n + 1 => sumN n u + u n
theorem sNs (n : Nat) (u : Nat → Int) : sumN (n + 1) u = sumN n u + u n := rfl
theorem sNc {u v : Nat → Int} : ∀ {n : Nat}, (∀ i, i < n → u i = v i) → sumN n u = sumN n v
  | 0, _ => rfl
  | n + 1, h => by rw [sNs, sNs, sNc fun i hi => h i (by omega), h n (by omega)]
theorem sN_cg {p : Int} {u v : Nat → Int} : ∀ {n : Nat}, (∀ i, i < n → Cg p (u i) (v i)) → Cg p (sumN n u) (sumN n v)
  | 0, _ => Cg.refl _ _
  | n + 1, h => (sN_cg fun i hi => h i (by omega)).add (h n (by omega))
theorem sN_add (u v : Nat → Int) : ∀ n, sumN n (fun i => u i + v i) = sumN n u + sumN n v
  | 0 => rfl
  | n + 1 => by rw [sNs, sNs, sNs, sN_add u v n]; omega
theorem sN_mul (u : Nat → Int) (c : Int) : ∀ n, sumN n (fun i => u i * c) = sumN n u * c
  | 0 => (Int.zero_mul c).symm
  | n + 1 => by rw [sNs, sNs, sN_mul u c n, Int.add_mul]
theorem sN_zero {u : Nat → Int} {n : Nat} (h : ∀ i, i < n → u i = 0) : sumN n u = 0 := by
  induction n with
  | zero => rfl
  | succ n ih => rw [sNs, ih fun i hi => h i (by omega), h n (by omega)]; rfl
theorem sN_more {v : Nat → Int} {m : Nat} : ∀ n, m ≤ n → (∀ i, m ≤ i → i < n → v i = 0) → sumN n v = sumN m v
  | 0, h, _ => by rw [show m = 0 by omega]
  | n + 1, h, h0 => by
    by_cases e : m = n + 1
    · rw [e]
    · rw [sNs, h0 n (by omega) (by omega), sN_more n (by omega) fun i h1 h2 => h0 i h1 (by omega)]
      omega
theorem sN_one (F : Nat → Int) (e : Nat) : ∀ n, sumN n (fun i => if i = e then F i else 0) = if e < n then F e else 0
  | 0 => by rw [if_neg (by omega)]; rfl
  | n + 1 => by
    rw [sNs, sN_one F e n]
    by_cases h : n = e
    · rw [if_pos h, if_neg (by omega), if_pos (by omega), h]; omega
    · rw [if_neg h, Int.add_zero]
      by_cases h2 : e < n
      · rw [if_pos h2, if_pos (by omega)]
      · rw [if_neg h2, if_neg (by omega)]
theorem tri (u v : Nat → Int) : ∀ n, sumN n (fun d => sumN (d + 1) (fun i => u i * v (d - i))) = sumN n (fun i => u i * sumN (n - i) v)
  | 0 => rfl
  | n + 1 => by
    rw [sNs, tri u v n, sNs, sNs n (fun i => u i * sumN (n + 1 - i) v)]
    have e : sumN n (fun i => u i * sumN (n + 1 - i) v) = sumN n (fun i => u i * sumN (n - i) v) + sumN n (fun i => u i * v (n - i)) := by
      rw [← sN_add]
      refine sNc fun i hi => ?_
      rw [show n + 1 - i = (n - i) + 1 by omega, sNs, Int.mul_add]
    rw [e, show n + 1 - n = 0 + 1 by omega, sNs, Nat.sub_self]
    show _ = _ + u n * (0 + v 0)
    rw [Int.zero_add]
    omega
theorem cauchy {u v : Nat → Int} {k da db : Nat} (hu : ∀ i, da < i → i ≤ k → u i = 0) (hv : ∀ i, db < i → i ≤ k → v i = 0) (hk : da + db ≤ k) :
    sumN (k + 1) (fun d => sumN (d + 1) (fun i => u i * v (d - i))) = sumN (k + 1) u * sumN (k + 1) v := by
  rw [tri, ← sN_mul]
  refine sNc fun i hi => ?_
  by_cases h : i ≤ da
  · rw [sN_more (v := v) (m := k + 1 - i) (k + 1) (by omega) fun e h1 h2 => hv e (by omega) (by omega)]
  · rw [hu i (by omega) (by omega)]; simp
def cvF (p : Int) (u v : Nat → Int) (d : Nat) : Nat → Int
  | 0 => 0
  | i + 1 => (cvF p u v d i + u i * v (d - i)) % p
theorem cFc {p : Int} {u v u' v' : Nat → Int} {d : Nat} (hu : ∀ i, i ≤ d → u i = u' i) (hv : ∀ i, i ≤ d → v i = v' i) : ∀ n, n ≤ d + 1 → cvF p u v d n = cvF p u' v' d n
  | 0, _ => rfl
  | n + 1, h => by
    show (cvF p u v d n + u n * v (d - n)) % p = (cvF p u' v' d n + u' n * v' (d - n)) % p
    rw [cFc hu hv n (by omega), hu n (by omega), hv (d - n) (by omega)]
theorem cvF_cg (p : Int) (u v : Nat → Int) (d : Nat) : ∀ n, Cg p (cvF p u v d n) (sumN n (fun i => u i * v (d - i)))
  | 0 => Cg.refl _ _
  | n + 1 => (Cg.mod p _).trans ((cvF_cg p u v d n).add (Cg.refl _ _))
theorem cvF_zero {p : Int} {u v : Nat → Int} {d : Nat} (h : ∀ i, i ≤ d → u i * v (d - i) = 0) : ∀ n, n ≤ d + 1 → cvF p u v d n = 0
  | 0, _ => rfl
  | n + 1, hn => by
    show (cvF p u v d n + u n * v (d - n)) % p = 0
    rw [cvF_zero h n (by omega), h n (by omega)]
    rfl
theorem cvV_F (p : Int) (A : List (List Int)) (a b d : Nat) : ∀ n, cvV p A a b d n = cvF p (pcl A a) (pcl A b) d n
  | 0 => rfl
  | n + 1 => by
    show (cvV p A a b d n + _) % p = _
    rw [cvV_F p A a b d n]
    rfl
section
variable {p x y z : Int}
theorem pcl_st (k : Nat) (L : List Gt) {j d : Nat} (hd : d ≤ k) : ∀ n, j < n → pcl (dvC p x y z k L n) j d = dvF p x y z (dvC p x y z k L j) (gAt L j) d
  | 0, h => by omega
  | n + 1, h => by
    show pcl (dvC p x y z k L n ++ [_]) j d = _
    by_cases e : j < n
    · rw [pcl_old (by rw [dvC_len]; exact e)]
      exact pcl_st k L hd n e
    · have e : j = n := by omega
      subst e
      have hl := dvC_len p x y z k L j
      have h2 : pcl (dvC p x y z k L j ++ [(List.range (k + 1)).map (dvF p x y z (dvC p x y z k L j) (gAt L j))]) (dvC p x y z k L j).length d = _ := pcl_new
      rw [hl] at h2
      rw [h2, List.getD_eq_getElem?_getD, List.getElem?_map, List.getElem?_range (show d < k + 1 by omega)]
      rfl
def paF (p x y z : Int) (k : Nat) (L : List Gt) (j d : Nat) : Int := pcl (dvC p x y z k L L.length) j d
theorem paF_eq {L : List Gt} (hv : circB p L = true) {k j d : Nat} (hj : j < L.length) (hd : d ≤ k) : paF p x y z k L j d =
    if (gAt L j).k = 0 then (if d = 1 then coord x y z (gAt L j).a else 0)
    else if (gAt L j).k = 1 then (if d = 0 then (gAt L j).a else 0)
    else if (gAt L j).k = 2 then (paF p x y z k L (gAt L j).a.toNat d + paF p x y z k L (gAt L j).b.toNat d) % p
    else cvF p (paF p x y z k L (gAt L j).a.toNat) (paF p x y z k L (gAt L j).b.toNat) d (d + 1) := by
  obtain ⟨_, _, _, hall⟩ := circB_iff.1 hv
  unfold paF
  rw [pcl_st k L hd L.length hj]
  unfold dvF
  rcases gOK_cases (hall j hj) with ⟨hk, _⟩ | ⟨hk, _⟩ | ⟨hk, a0, a1, b0, b1⟩
  · simp [hk]
  · simp [hk]
  · have st : ∀ i e : Nat, i < j → e ≤ k → pcl (dvC p x y z k L j) i e = pcl (dvC p x y z k L L.length) i e := fun i e hi he => by
      rw [pcl_st k L he j hi, pcl_st k L he L.length (by omega)]
    have h0 : ¬ (gAt L j).k = 0 := by omega
    have h1 : ¬ (gAt L j).k = 1 := by omega
    rw [if_neg h0, if_neg h1, if_neg h0, if_neg h1]
    by_cases h2 : (gAt L j).k = 2
    · rw [if_pos h2, if_pos h2, st _ d (by omega) hd, st _ d (by omega) hd]
    · rw [if_neg h2, if_neg h2, cvV_F]
      exact cFc (fun i hi => st _ i (by omega) (by omega)) (fun i hi => st _ i (by omega) (by omega)) _ (Nat.le_refl _)
theorem paF_less {L : List Gt} (hv : circB p L = true) {k k' : Nat} : ∀ n j : Nat, j < n → j < L.length → ∀ d, d ≤ k → d ≤ k' → paF p x y z k L j d = paF p x y z k' L j d
  | 0, j, h, _, _, _, _ => by omega
  | n + 1, j, hn, hj, d, h1, h2 => by
    obtain ⟨_, _, _, hall⟩ := circB_iff.1 hv
    rw [paF_eq hv hj h1, paF_eq hv hj h2]
    rcases gOK_cases (hall j hj) with ⟨hk, _⟩ | ⟨hk, _⟩ | ⟨hk, a0, a1, b0, b1⟩
    · simp [hk]
    · simp [hk]
    · have ia := paF_less hv (k := k) (k' := k') n (gAt L j).a.toNat (by omega) (by omega)
      have ib := paF_less hv (k := k) (k' := k') n (gAt L j).b.toNat (by omega) (by omega)
      rw [ia d h1 h2, ib d h1 h2, cFc (fun i hi => ia i (by omega) (by omega)) (fun i hi => ib i (by omega) (by omega)) (d + 1) (Nat.le_refl _)]
theorem degAt_nn {L : List Gt} (hv : circB p L = true) : ∀ n j : Nat, j < n → j < L.length → 0 ≤ degAt L j
  | 0, j, h, _ => by omega
  | n + 1, j, hn, hj => by
    obtain ⟨_, _, _, hall⟩ := circB_iff.1 hv
    have hdq := degAt_eq L j
    rcases gOK_cases (hall j hj) with ⟨hk, _⟩ | ⟨hk, _⟩ | ⟨hk, a0, a1, b0, b1⟩
    · have hd1 : degAt L j = 1 := by rw [hdq]; simp [hk]
      omega
    · have hd1 : degAt L j = 0 := by rw [hdq]; simp [hk]
      omega
    · have i1 := degAt_nn hv n (gAt L j).a.toNat (by omega) (by omega)
      have i2 := degAt_nn hv n (gAt L j).b.toNat (by omega) (by omega)
      rcases hk with hk | hk
      · rw [deg_two hk (by omega) (by omega)]; omega
      · rw [deg_three hk (by omega) (by omega)]; omega
theorem paF_sum {L : List Gt} (hv : circB p L = true) (he : isE3 p x y z = true) {k : Nat} (hk9 : k ≤ 9) : ∀ n j : Nat, j < n → j < L.length → degAt L j ≤ k → 0 ≤ degAt L j ∧ (∀ d : Nat, degAt L j < d → d ≤ k → paF p x y z k L j d = 0) ∧ Cg p (sumN (k + 1) (paF p x y z k L j)) ((evL p x y z L L.length).getD j 0)
  | 0, j, h, _, _ => by omega
  | n + 1, j, hn, hj, hdg => by
    obtain ⟨hp, _, _, hall⟩ := circB_iff.1 hv
    have hev := evL_at (p := p) (x := x) (y := y) (z := z) hv hj (g := gAt L j) rfl
    have hdq := degAt_eq L j
    rw [hev]
    rcases gOK_cases (hall j hj) with ⟨hk, a0, a2, _⟩ | ⟨hk, a0, a1, _⟩ | ⟨hk, a0, a1, b0, b1⟩
    · have hd1 : degAt L j = 1 := by rw [hdq]; simp [hk]
      have e : ∀ d, d ≤ k → paF p x y z k L j d = if d = 1 then coord x y z (gAt L j).a else 0 := fun d hd => by rw [paF_eq hv hj hd, if_pos hk]
      refine ⟨by omega, fun d h1 h2 => by rw [e d h2, if_neg (by omega)], Cg.of_eq ?_⟩
      rw [sNc fun i hi => e i (by omega), sN_one (fun _ => coord x y z (gAt L j).a) 1, if_pos (by omega), if_pos (by simp [hk])]
    · have hd1 : degAt L j = 0 := by rw [hdq]; simp [hk]
      have e : ∀ d, d ≤ k → paF p x y z k L j d = if d = 0 then (gAt L j).a else 0 := fun d hd => by rw [paF_eq hv hj hd]; simp [hk]
      refine ⟨by omega, fun d h1 h2 => by rw [e d h2, if_neg (by omega)], Cg.of_eq ?_⟩
      rw [sNc fun i hi => e i (by omega), sN_one (fun _ => (gAt L j).a) 0, if_pos (by omega), if_neg (by simp [hk]), if_neg (by simp [hk]), if_neg (by simp [hk])]
    · have hna : (gAt L j).a.toNat < j := by omega
      have hnb : (gAt L j).b.toNat < j := by omega
      rcases hk with hk | hk
      · have hd2 := deg_two hk hna hnb
        obtain ⟨n1, z1, s1⟩ := paF_sum hv he hk9 n (gAt L j).a.toNat (by omega) (by omega) (by omega)
        obtain ⟨n2, z2, s2⟩ := paF_sum hv he hk9 n (gAt L j).b.toNat (by omega) (by omega) (by omega)
        have e : ∀ d, d ≤ k → paF p x y z k L j d = (paF p x y z k L (gAt L j).a.toNat d + paF p x y z k L (gAt L j).b.toNat d) % p := fun d hd => by
          rw [paF_eq hv hj hd]; simp [hk]
        refine ⟨by omega, fun d h1 h2 => by rw [e d h2, z1 d (by omega) h2, z2 d (by omega) h2]; simp, ?_⟩
        rw [if_neg (by simp [hk]), if_pos (by simp [hk])]
        rw [sNc fun i hi => e i (by omega)]
        refine (sN_cg fun i _ => Cg.mod p _).trans ?_
        rw [sN_add]
        exact (s1.add s2).trans (Cg.mod p _).symm
      · have hd3 := deg_three hk hna hnb
        have hA0 : 0 ≤ degAt L (gAt L j).a.toNat ∧ 0 ≤ degAt L (gAt L j).b.toNat := ⟨degAt_nn hv _ _ (Nat.lt_succ_self _) (by omega), degAt_nn hv _ _ (Nat.lt_succ_self _) (by omega)⟩
        obtain ⟨n1, z1, s1⟩ := paF_sum hv he hk9 n (gAt L j).a.toNat (by omega) (by omega) (by omega)
        obtain ⟨n2, z2, s2⟩ := paF_sum hv he hk9 n (gAt L j).b.toNat (by omega) (by omega) (by omega)
        have e : ∀ d, d ≤ k → paF p x y z k L j d = cvF p (paF p x y z k L (gAt L j).a.toNat) (paF p x y z k L (gAt L j).b.toNat) d (d + 1) := fun d hd => by
          rw [paF_eq hv hj hd]; simp [hk]
        refine ⟨by omega, fun d h1 h2 => ?_, ?_⟩
        · rw [e d h2]
          refine cvF_zero (fun i hi => ?_) _ (Nat.le_refl _)
          by_cases hi2 : degAt L (gAt L j).a.toNat < i
          · rw [z1 i hi2 (by omega)]; simp
          · rw [z2 (d - i) (by omega) (by omega)]; simp
        · rw [if_neg (by simp [hk]), if_neg (by simp [hk]), if_pos (by simp [hk])]
          rw [sNc fun i hi => e i (by omega)]
          refine (sN_cg fun i _ => cvF_cg p _ _ i (i + 1)).trans ?_
          rw [cauchy (da := (degAt L (gAt L j).a.toNat).toNat) (db := (degAt L (gAt L j).b.toNat).toNat) (fun i h1 h2 => z1 i (by omega) h2) (fun i h1 h2 => z2 i (by omega) h2) (by omega)]
          exact (s1.mul s2).trans (Cg.mod p _).symm
end
end Go.Proofs.Ytlidplmpglpkgaa
namespace Go.Proofs.Ytlidplmpglpkgaa
def monD (x y z : Int) (d : Nat) : Int → Int → Int → Int := fun a b c => if a + b + c = (d : Int) then mon x y z a b c else 0
theorem sumI_sumN {α : Type} (F : α → Nat → Int) (l : List α) : ∀ n, sumI (fun u => sumN n (F u)) l = sumN n (fun i => sumI (fun u => F u i) l)
  | 0 => sumI_zero l
  | n + 1 => by
    rw [sNs, ← sumI_sumN F l n, ← sumI_add]
    rfl
theorem mDa {x y z a b c a' b' c' : Int} (ha : 0 ≤ a) (hb : 0 ≤ b) (hc : 0 ≤ c) (ha' : 0 ≤ a') (hb' : 0 ≤ b') (hc' : 0 ≤ c') (d : Nat) :
    monD x y z d (a + a') (b + b') (c + c') = sumN (d + 1) (fun i => monD x y z i a b c * monD x y z (d - i) a' b' c') := by
  have e : ∀ i, i < d + 1 → monD x y z i a b c * monD x y z (d - i) a' b' c' = if i = (a + b + c).toNat then mon x y z a b c * monD x y z (d - i) a' b' c' else 0 := fun i hi => by
    by_cases h : i = (a + b + c).toNat
    · rw [if_pos h]
      unfold monD
      rw [if_pos (by omega)]
    · rw [if_neg h]
      have : monD x y z i a b c = 0 := by unfold monD; rw [if_neg (by omega)]
      rw [this, Int.zero_mul]
  rw [sNc e, sN_one (fun i => mon x y z a b c * monD x y z (d - i) a' b' c')]
  by_cases h : (a + b + c).toNat < d + 1
  · rw [if_pos h]
    unfold monD
    by_cases h2 : a + a' + (b + b') + (c + c') = (d : Int)
    · rw [if_pos h2, if_pos (by omega), mon_add ha hb hc ha' hb' hc']
    · rw [if_neg h2, if_neg (by omega), Int.mul_zero]
  · rw [if_neg h]
    unfold monD
    rw [if_neg (by omega)]
theorem sumI_two {u v : Int → Int → Int → Int} (A B : List Trm) : sumI (fun x => sumI (fun y => x.t * y.t * (u x.a x.b x.c * v y.a y.b y.c)) B) A = wS u A * wS v B := by
  rw [wS_sum, wS_sum, Int.mul_comm, ← sumI_mul]
  refine sumI_congr fun x _ => ?_
  rw [Int.mul_comm, ← sumI_mul]
  exact sumI_congr fun y _ => by grind
section
variable {p x y z : Int}
theorem prod_D {A B : List Trm} (hA : validB p A = true) (hB : validB p B = true) (d : Nat) :
    Cg p (wS (monD x y z d) (addAll p (prodT p A B) [])) (sumN (d + 1) (fun i => wS (monD x y z i) A * wS (monD x y z (d - i)) B)) := by
  refine (wS_addAll _ _ _).trans ?_
  refine ((Cg.refl p _).add (prod_wS _ A B)).trans (Cg.of_eq ?_)
  rw [show wS (monD x y z d) [] = 0 from rfl, Int.zero_add]
  have e : sumI (fun u => sumI (fun v => u.t * v.t * monD x y z d (u.a + v.a) (u.b + v.b) (u.c + v.c)) B) A =
      sumI (fun u => sumN (d + 1) (fun i => sumI (fun v => u.t * v.t * (monD x y z i u.a u.b u.c * monD x y z (d - i) v.a v.b v.c)) B)) A := by
    refine sumI_congr fun u hu => ?_
    rw [← sumI_sumN]
    refine sumI_congr fun v hv => ?_
    obtain ⟨⟨a0, _⟩, ⟨b0, _⟩, ⟨c0, _⟩⟩ := validB_mem hA hu
    obtain ⟨⟨d0, _⟩, ⟨e0, _⟩, ⟨f0, _⟩⟩ := validB_mem hB hv
    rw [mDa a0 b0 c0 d0 e0 f0 d, Int.mul_comm, ← sN_mul]
    exact sNc fun i _ => Int.mul_comm _ _
  rw [e, sumI_sumN]
  exact sNc fun i _ => sumI_two A B
theorem pa_poly {L : List Gt} (hv : circB p L = true) (ho : ∀ j, j < L.length → useF L j = true → pcO p L j = true) {k : Nat} : ∀ n j : Nat, j < n → j < L.length → useF L j = true → ∀ d : Nat, d ≤ k →
    Cg p (wS (monD x y z d) (pcP p L j)) (paF p x y z k L j d)
  | 0, j, h, _, _, _, _ => by omega
  | n + 1, j, hn, hj, hu, d, hd => by
    obtain ⟨hp, _, _, hall⟩ := circB_iff.1 hv
    have hok := ho j hj hu
    rw [paF_eq hv hj hd]
    rcases gOK_cases (hall j hj) with ⟨hk, a0, a2, _⟩ | ⟨hk, a0, a1, _⟩ | ⟨hk, a0, a1, b0, b1⟩
    · rw [(pcP_in (p := p) hk).1, if_pos hk]
      refine Cg.of_eq ?_
      have h3 : (gAt L j).a = 0 ∨ (gAt L j).a = 1 ∨ (gAt L j).a = 2 := by omega
      rcases h3 with h | h | h
      all_goals
        rw [h]
        by_cases h1 : d = 1
        · subst h1
          simp [wS, onT, monD, mon, coord]
          grind
        · rw [if_neg h1]
          have : ¬ (1 : Int) = (d : Int) := by omega
          simp [wS, onT, monD, this]
    · have h0 : ¬ (gAt L j).k = 0 := by omega
      rw [(pcP_cn (p := p) hk).1, if_neg h0, if_pos hk]
      refine Cg.of_eq ?_
      unfold cnL
      by_cases h1 : (gAt L j).a = 0
      · rw [if_pos h1, h1]
        simp [wS]
      · rw [if_neg h1]
        by_cases h2 : d = 0
        · subst h2
          simp [wS, monD, mon]
        · rw [if_neg h2]
          have : ¬ (0 : Int) = (d : Int) := by omega
          simp [wS, monD, this]
    · have h0 : ¬ (gAt L j).k = 0 := by omega
      have h1 : ¬ (gAt L j).k = 1 := by omega
      rw [if_neg h0, if_neg h1]
      have hjn : joinsB (gAt L j) = true := by rcases hk with h | h <;> simp [joinsB, h]
      obtain ⟨ua, ub⟩ := use_closed hv hj hu hjn
      have ia := pa_poly hv ho (k := k) n (gAt L j).a.toNat (by omega) (by omega) ua
      have ib := pa_poly hv ho (k := k) n (gAt L j).b.toNat (by omega) (by omega) ub
      rcases hk with hk | hk
      · rw [if_pos hk]
        obtain ⟨e1, e2⟩ := pcP_sum hv hj hk
        rw [e2] at hok
        obtain ⟨_, _, _, _, e3⟩ := addOk_is hok
        rw [e1, e3]
        exact ((wS_addAll _ _ _).trans ((ia d hd).add (ib d hd))).trans (Cg.mod p _).symm
      · rw [if_neg (by omega)]
        obtain ⟨e1, e2⟩ := pcP_mul hv hj hk
        rw [e2] at hok
        obtain ⟨_, vA, vB, _, e3⟩ := mulOk_is2 hok
        rw [e1, e3]
        refine (prod_D vA vB d).trans ?_
        refine Cg.trans ?_ (cvF_cg p _ _ d (d + 1)).symm
        exact sN_cg fun i hi => (ia i (by omega)).mul (ib (d - i) (by omega))
structure PaF (p x y z : Int) (k : Nat) (L : List Gt) : Prop where
  hp : isP p = true
  hv : circB p L = true
  len : (paL p x y z k L).length = k + 1
  bd : ∀ d : Nat, d ≤ k → 0 ≤ (paL p x y z k L).getD d 0 ∧ (paL p x y z k L).getD d 0 < p
  less : ∀ k' : Nat, k' ≤ k → paL p x y z k' L = (paL p x y z k L).take (k' + 1)
  part : pcOk p L = true → ∀ d : Nat, d ≤ k → evV p x y z (partL p (pcV p L) d) = (paL p x y z k L).getD d 0
  sum : degAt L (L.length - 1) ≤ k → sumN (k + 1) (fun d => (paL p x y z k L).getD d 0) % p = (evL p x y z L L.length).getD (L.length - 1) 0
theorem paL_at (k : Nat) (L : List Gt) (d : Nat) : (paL p x y z k L).getD d 0 = paF p x y z k L (L.length - 1) d := rfl
theorem paLaw {k : Nat} {L : List Gt} (hv : circB p L = true) (he : isE3 p x y z = true) (hk9 : k ≤ 9) : PaF p x y z k L := by
  obtain ⟨hp, hl1, hl2, hall⟩ := circB_iff.1 hv
  have hb := isP_bd hp
  have len : ∀ k, (paL p x y z k L).length = k + 1 := fun k => dvC_row L.length (L.length - 1) (by omega)
  have bd : ∀ d : Nat, d ≤ k → 0 ≤ (paL p x y z k L).getD d 0 ∧ (paL p x y z k L).getD d 0 < p := fun d hd => dvC_bd hp he hall L.length (Nat.le_refl _) (L.length - 1) (by omega) d hd
  refine ⟨hp, hv, len k, bd, fun k' hk' => ?_, fun hok d hd => ?_, fun hdg => ?_⟩
  · refine List.ext_getElem (by rw [len, List.length_take, len]; omega) fun i h1 h2 => ?_
    have h3 : i < k' + 1 := by rw [len] at h1; exact h1
    rw [List.getElem_take]
    have e1 : (paL p x y z k' L)[i] = (paL p x y z k' L).getD i 0 := by simp [List.getD_eq_getElem?_getD, h1]
    have h4 : i < (paL p x y z k L).length := by rw [len]; omega
    have e2 : (paL p x y z k L)[i] = (paL p x y z k L).getD i 0 := by simp [List.getD_eq_getElem?_getD, h4]
    rw [e1, e2, paL_at, paL_at]
    exact paF_less hv L.length (L.length - 1) (by omega) (by omega) i (by omega) (by omega)
  · have hcp := hok
    unfold pcOk at hcp
    obtain ⟨_, hall2⟩ := Bool.and_eq_true_iff.1 hcp
    have ho : ∀ j, j < L.length → useF L j = true → pcO p L j = true := fun j hj hu => by
      cases hb2 : pcO p L j
      · rw [pc_bad hj hu hb2] at hok; cases hok
      · rfl
    have hul : useF L (L.length - 1) = true := useF_last hv
    have hF := pgF hv ho L.length (L.length - 1) (by omega) (by omega) hul
    have eV : pcV p L = pcP p L (L.length - 1) := by unfold pcV; rw [if_pos hok]
    rw [eV, partL_is hp hF.v]
    have vP : validB p (prt (pcP p L (L.length - 1)) d) = true := filter_valid hF.v _
    unfold evV
    rw [hp, vP, he]
    simp only [Bool.and_self, if_true]
    refine evK_is hp ?_ (bd d hd)
    have e : prt (pcP p L (L.length - 1)) d = fl (fun a b c => decide (a + b + c = (d : Int))) (pcP p L (L.length - 1)) := rfl
    rw [e, wS_fl]
    have e2 : (fun a b c => if decide (a + b + c = (d : Int)) = true then mon x y z a b c else 0) = monD x y z d := by
      funext a b c
      unfold monD
      simp
    rw [e2, paL_at]
    exact pa_poly hv ho L.length (L.length - 1) (by omega) (by omega) hul d hd
  · have h := (paF_sum hv he hk9 L.length (L.length - 1) (by omega) (by omega) hdg).2.2
    have hbv := evL_bd hv he L.length (Nat.le_refl _) (L.length - 1) (by omega)
    refine ((Cg.mod p _).trans h).eq (emod_bd (by omega)) hbv
end
end Go.Proofs.Ytlidplmpglpkgaa
