/-
  The values of the parts of gates by degree, and of the gates that are put for them. No world.
-/
import Derived.Test.YtbgcamkclbcaiaaBc20
import Derived.Test.YtbgcamkclbcaiaaBd2
namespace Go.Proofs.Ytbgcamkclbcaiaa
open Go.RowKit
theorem emB {n p : Int} (hp : 2 ≤ p) : 0 ≤ n % p ∧ n % p < p := ⟨Int.emod_nonneg _ (by omega), Int.emod_lt_of_pos _ (by omega)⟩
section
variable (p x y z : Int)
/-- the value of a gate -/
def vC (C : List Gt) (m : Nat) : Int := (evL p x y z C (m + 1)).getD m 0
theorem evL_getLt (C : List Gt) (j : Nat) : ∀ k, j < k → (evL p x y z C k).getD j 0 = vC p x y z C j := by
  intro k hk
  induction k with
  | zero => omega
  | succ k ih =>
    by_cases e : j = k
    · subst e; rfl
    · have hl := evL_len p x y z C k
      show ((evL p x y z C k ++ [_]).getD j 0) = _
      rw [List.getD_eq_getElem?_getD, List.getElem?_append_left (by omega), ← List.getD_eq_getElem?_getD]
      exact ih (by omega)
theorem vC_eq {C : List Gt} {m : Nat} {g : Gt} (hg : gAt C m = g) (ha : g.k = 2 ∨ g.k = 3 → g.a.toNat < m ∧ g.b.toNat < m) : vC p x y z C m = if g.k = 0 then coord x y z g.a else if g.k = 2 then (vC p x y z C g.a.toNat + vC p x y z C g.b.toNat) % p else if g.k = 3 then (vC p x y z C g.a.toNat * vC p x y z C g.b.toNat) % p else g.a := by
  have hl := evL_len p x y z C m
  show ((evL p x y z C m ++ [_]).getD m 0) = _
  rw [List.getD_eq_getElem?_getD, List.getElem?_append_right (by omega), hl, Nat.sub_self, List.getElem?_cons_zero, Option.getD_some]
  simp only [hg, beq_iff_eq]
  by_cases h2 : g.k = 2
  · have := ha (.inl h2)
    rw [evL_getLt p x y z C g.a.toNat m this.1, evL_getLt p x y z C g.b.toNat m this.2]
  · by_cases h3 : g.k = 3
    · have := ha (.inr h3)
      rw [evL_getLt p x y z C g.a.toNat m this.1, evL_getLt p x y z C g.b.toNat m this.2]
    · rw [if_neg h2, if_neg h2, if_neg h3, if_neg h3]
theorem evL_app (C D : List Gt) : ∀ k, k ≤ C.length → evL p x y z (C ++ D) k = evL p x y z C k
  | 0, _ => rfl
  | k + 1, h => by
    have ih := evL_app C D k (by omega)
    show evL p x y z (C ++ D) k ++ [_] = evL p x y z C k ++ [_]
    rw [ih, gAt_left (show k < C.length by omega)]
theorem vC_app (C D : List Gt) {m : Nat} (h : m < C.length) : vC p x y z (C ++ D) m = vC p x y z C m := by
  unfold vC
  rw [evL_app p x y z C D (m + 1) h]
/-- the value of a part -/
def pv (C : List Gt) (n : Int) : Int := if n < 0 then 0 else vC p x y z C n.toNat
theorem pv_app (C D : List Gt) {n : Int} (h : n < C.length) : pv p x y z (C ++ D) n = pv p x y z C n := by
  unfold pv
  split
  · rfl
  · exact vC_app p x y z C D (by omega)
end
section
variable {p x y z : Int}
theorem gat_bd {C : List Gt} (hC : AllOK p C) (j : Nat) (hj : j < C.length) : (gAt C j).k = 2 ∨ (gAt C j).k = 3 → (gAt C j).a.toNat < j ∧ (gAt C j).b.toNat < j := fun hk => by
  have h := gOK_cases (hC j hj)
  rcases h with ⟨h, _⟩ | ⟨h, _⟩ | ⟨_, h0, h1, h2, h3⟩
  · omega
  · omega
  · omega
theorem vC_bd (hp : isP p = true) (he : isE3 p x y z = true) {C : List Gt} (hC : AllOK p C) : ∀ m n, m < n → m < C.length → 0 ≤ vC p x y z C m ∧ vC p x y z C m < p
  | _, 0, h, _ => by omega
  | m, n + 1, hm, hl => by
    have hb := isP_bd hp
    obtain ⟨hx, hy, hz⟩ := isE3_iff.1 he
    rw [vC_eq p x y z rfl (gat_bd hC m hl)]
    have h := gOK_cases (hC m hl)
    split
    · unfold coord
      split
      · exact hx
      · split
        · exact hy
        · exact hz
    · split
      · exact emB hb.1
      · split
        · exact emB hb.1
        · rcases h with ⟨h, _⟩ | ⟨_, h0, h1, _⟩ | ⟨h, _⟩
          · omega
          · omega
          · omega
theorem pv_bd (hp : isP p = true) (he : isE3 p x y z = true) {C : List Gt} (hC : AllOK p C) {n : Int} (h : inC n C) : 0 ≤ pv p x y z C n ∧ pv p x y z C n < p := by
  have hb := isP_bd hp
  unfold pv
  split
  · omega
  · have := h.2
    exact vC_bd hp he hC n.toNat (n.toNat + 1) (by omega) (by omega)
/-- what is put goes on from what there is -/
def Ext (C D : List Gt) : Prop := ∃ E, D = C ++ E
theorem Ext.refl (C : List Gt) : Ext C C := ⟨[], by simp⟩
theorem Ext.trans {C D E : List Gt} (h : Ext C D) (k : Ext D E) : Ext C E := by
  obtain ⟨a, rfl⟩ := h
  obtain ⟨b, rfl⟩ := k
  exact ⟨a ++ b, by simp⟩
theorem Ext.pv {C D : List Gt} (h : Ext C D) {n : Int} (hn : n < C.length) : pv p x y z D n = Go.Proofs.Ytbgcamkclbcaiaa.pv p x y z C n := by
  obtain ⟨E, rfl⟩ := h
  exact pv_app p x y z C E hn
theorem shI_ext (g : Gt) (C : List Gt) : Ext C (shI g C).2 := by
  unfold shI
  cases h : ixG g C with
  | some n => rw [shr_hit h]; exact Ext.refl C
  | none => rw [shr_new h]; exact ⟨[g], rfl⟩
theorem ixG_eq {g : Gt} : ∀ {C : List Gt} {n : Nat}, ixG g C = some n → gAt C n = g
  | [], n, h => by cases h
  | y :: r, n, h => by
    unfold ixG at h
    split at h
    · rename_i e
      injection h with h
      subst h
      exact (eqGt_iff.1 e).symm
    · cases e : ixG g r with
      | none => rw [e] at h; cases h
      | some m =>
        rw [e] at h
        have h : m + 1 = n := by simpa using h
        subst h
        show gAt r m = g
        exact ixG_eq e
theorem shI_gate (g : Gt) (C : List Gt) : ∃ m : Nat, (shI g C).1 = (m : Int) ∧ m < (shI g C).2.length ∧ gAt (shI g C).2 m = g := by
  have hf := shr_facts g C
  refine ⟨(shr g C).1, rfl, hf.1, ?_⟩
  show gAt (shr g C).2 (shr g C).1 = g
  cases h : ixG g C with
  | some n => rw [shr_hit h]; exact ixG_eq h
  | none => rw [shr_new h]; exact gAt_last
/-- the value of a gate that is shared -/
theorem shI_val {g : Gt} {C : List Gt} (hC : AllOK p C) (hg : gOK (p - 1) g (C.length : Nat) = true) : pv p x y z (shI g C).2 (shI g C).1 = if g.k = 0 then coord x y z g.a else if g.k = 2 then (pv p x y z C g.a + pv p x y z C g.b) % p else if g.k = 3 then (pv p x y z C g.a * pv p x y z C g.b) % p else g.a := by
  obtain ⟨m, e1, e2, e3⟩ := shI_gate g C
  have ho := shI_ok hC hg
  have hx := shI_ext g C
  rw [e1]
  unfold pv
  rw [if_neg (by omega), Int.toNat_natCast, vC_eq p x y z e3 (by have := gat_bd ho.ok m e2; rw [e3] at this; exact this)]
  have hc := gOK_cases hg
  rcases hc with ⟨hk, _⟩ | ⟨hk, _⟩ | ⟨hk, h0, h1, h2, h3⟩
  · rw [if_pos hk, if_pos hk]
  · rw [if_neg (by omega), if_neg (by omega), if_neg (by omega), if_neg (by omega), if_neg (by omega), if_neg (by omega)]
  · obtain ⟨E, hE⟩ := hx
    rw [if_neg (show ¬ g.a < 0 by omega), if_neg (show ¬ g.b < 0 by omega), hE, vC_app p x y z C E (show g.a.toNat < C.length by omega), vC_app p x y z C E (show g.b.toNat < C.length by omega)]
theorem smG_val (hp : isP p = true) (he : isE3 p x y z = true) {a b : Int} {C : List Gt} (hC : AllOK p C) (ha : inC a C) (hb : inC b C) : pv p x y z (smG a b C).2 (smG a b C).1 = (pv p x y z C a + pv p x y z C b) % p ∧ Ext C (smG a b C).2 := by
  have ba := pv_bd hp he hC ha
  have bb := pv_bd hp he hC hb
  unfold smG
  split
  · rename_i h
    have e : pv p x y z C a = 0 := by unfold pv; rw [if_pos h]
    refine ⟨?_, Ext.refl C⟩
    rw [e, Int.zero_add, Int.emod_eq_of_lt bb.1 bb.2]
  · split
    · rename_i h
      have e : pv p x y z C b = 0 := by unfold pv; rw [if_pos h]
      refine ⟨?_, Ext.refl C⟩
      rw [e, Int.add_zero, Int.emod_eq_of_lt ba.1 ba.2]
    · refine ⟨?_, shI_ext _ _⟩
      rw [shI_val hC (gOK_join (.inl rfl) ⟨by omega, ha.2⟩ ⟨by omega, hb.2⟩)]
      rfl
theorem pdG_val (hp : isP p = true) {a b : Int} {C : List Gt} (hC : AllOK p C) (ha : inC a C) (hb : inC b C) : pv p x y z (pdG a b C).2 (pdG a b C).1 = (pv p x y z C a * pv p x y z C b) % p ∧ Ext C (pdG a b C).2 := by
  have hpb := isP_bd hp
  unfold pdG
  split
  · rename_i h
    refine ⟨?_, Ext.refl C⟩
    have e : pv p x y z C a * pv p x y z C b = 0 := by
      rcases h with h | h
      · have : pv p x y z C a = 0 := by unfold pv; rw [if_pos h]
        rw [this, Int.zero_mul]
      · have : pv p x y z C b = 0 := by unfold pv; rw [if_pos h]
        rw [this, Int.mul_zero]
    rw [e, Int.zero_emod]
    rfl
  · refine ⟨?_, shI_ext _ _⟩
    rw [shI_val hC (gOK_join (.inr rfl) ⟨by omega, ha.2⟩ ⟨by omega, hb.2⟩)]
    rfl
/-- the sum of products up to a degree, as the model takes it -/
def cvV (p : Int) (A : List (List Int)) (a b d : Nat) : Nat → Int
  | 0 => 0
  | i + 1 => (cvV p A a b d i + pcl A a i * pcl A b (d - i)) % p
/-- the value of degree d of a gate -/
def dvF (p x y z : Int) (A : List (List Int)) (g : Gt) (d : Nat) : Int :=
  if g.k = 0 then (if d = 1 then coord x y z g.a else 0)
  else if g.k = 1 then (if d = 0 then g.a else 0)
  else if g.k = 2 then (pcl A g.a.toNat d + pcl A g.b.toNat d) % p
  else cvV p A g.a.toNat g.b.toNat d (d + 1)
/-- the values up to the degree k of the first gates -/
def dvC (p x y z : Int) (k : Nat) (L : List Gt) : Nat → List (List Int)
  | 0 => []
  | j + 1 => dvC p x y z k L j ++ [(List.range (k + 1)).map (dvF p x y z (dvC p x y z k L j) (gAt L j))]
theorem dvC_len (p x y z : Int) (k : Nat) (L : List Gt) : ∀ j, (dvC p x y z k L j).length = j
  | 0 => rfl
  | j + 1 => by
    show (dvC p x y z k L j ++ [_]).length = _
    rw [List.length_append, dvC_len p x y z k L j]
    rfl
/-- places have these values -/
def Vals (p x y z : Int) (k : Nat) (C : List Gt) (P A : List (List Int)) : Prop := ∀ i d, i < P.length → d ≤ k → pv p x y z C (pcl P i d) = pcl A i d
theorem cvK_val (hp : isP p = true) (he : isE3 p x y z = true) {P A : List (List Int)} {a b d k : Nat} {C : List Gt} (hC : AllOK p C) (hP : AllIn P k C) (hv : Vals p x y z k C P A) (ha : a < P.length) (hb : b < P.length) (hd : d ≤ k) : ∀ n, n ≤ d + 1 → pv p x y z (cvK P a b d C n).2 (cvK P a b d C n).1 = cvV p A a b d n ∧ Ext C (cvK P a b d C n).2
  | 0, _ => ⟨by show pv p x y z C (-1) = 0; rfl, Ext.refl C⟩
  | n + 1, hn => by
    obtain ⟨ih, ihx⟩ := cvK_val hp he hC hP hv ha hb hd n (by omega)
    have ho := cvK_ok hC hP ha hb hd n (by omega)
    have ia := (hP a n ha (by omega)).mono ho.lo
    have ib := (hP b (d - n) hb (by omega)).mono ho.lo
    have h1 := pdG_ok (a := pcl P a n) (b := pcl P b (d - n)) ho.ok ia ib
    obtain ⟨v1, x1⟩ := pdG_val (x := x) (y := y) (z := z) hp (a := pcl P a n) (b := pcl P b (d - n)) ho.ok ia ib
    obtain ⟨v2, x2⟩ := smG_val (x := x) (y := y) (z := z) hp he (a := (cvK P a b d C n).1) (b := (pdG (pcl P a n) (pcl P b (d - n)) (cvK P a b d C n).2).1) h1.ok (ho.pl.mono h1.lo) h1.pl
    refine ⟨?_, (ihx.trans x1).trans x2⟩
    show pv p x y z (smG _ _ _).2 (smG _ _ _).1 = (cvV p A a b d n + pcl A a n * pcl A b (d - n)) % p
    rw [v2, v1, x1.pv ho.pl.2, ih, ihx.pv (hP a n ha (by omega)).2, ihx.pv (hP b (d - n) hb (by omega)).2, hv a n ha (by omega), hv b (d - n) hb (by omega)]
    rw [Int.add_emod, Int.emod_emod_of_dvd _ (Int.dvd_refl p), ← Int.add_emod]
theorem ptG_val (hp : isP p = true) (he : isE3 p x y z = true) {P A : List (List Int)} {g : Gt} {d k : Nat} {C : List Gt} (hC : AllOK p C) (hP : AllIn P k C) (hv : Vals p x y z k C P A) (hg : gOK (p - 1) g (P.length : Nat) = true) (hd : d ≤ k) : pv p x y z (ptG P g d C).2 (ptG P g d C).1 = dvF p x y z A g d ∧ Ext C (ptG P g d C).2 := by
  have none : pv p x y z C (-1) = 0 := rfl
  have hc := gOK_cases hg
  unfold ptG dvF
  split
  · rename_i hk
    split
    · refine ⟨?_, shI_ext _ _⟩
      rw [shI_val hC (gOK_leaf hg (.inl hk)), if_pos hk]
    · exact ⟨none, Ext.refl C⟩
  · split
    · rename_i k0 hk
      by_cases h0 : d = 0
      · rw [if_pos h0]
        by_cases ha : g.a = 0
        · rw [if_neg (by simp [ha])]
          exact ⟨by rw [ha]; exact none, Ext.refl C⟩
        · rw [if_pos ⟨h0, ha⟩]
          refine ⟨?_, shI_ext _ _⟩
          rw [shI_val hC (gOK_leaf hg (.inr hk)), if_neg k0, if_neg (by omega), if_neg (by omega)]
      · rw [if_neg h0, if_neg (fun e => h0 e.1)]
        exact ⟨none, Ext.refl C⟩
    · rename_i k0 k1
      have hab : (0 ≤ g.a ∧ g.a < (P.length : Int)) ∧ (0 ≤ g.b ∧ g.b < (P.length : Int)) := by
        rcases hc with ⟨hk, _⟩ | ⟨hk, _⟩ | ⟨hk, h0, h1, h2, h3⟩
        · exact absurd hk k0
        · exact absurd hk k1
        · omega
      split
      · have h := smG_val hp he (a := pcl P g.a.toNat d) (b := pcl P g.b.toNat d) hC (hP _ d (by omega) hd) (hP _ d (by omega) hd)
        rw [h.1, hv _ d (by omega) hd, hv _ d (by omega) hd]
        exact ⟨rfl, h.2⟩
      · exact cvK_val hp he hC hP hv (by omega) (by omega) hd (d + 1) (Nat.le_refl _)
theorem ptR_val (hp : isP p = true) (he : isE3 p x y z = true) {P A : List (List Int)} {g : Gt} {k : Nat} {C : List Gt} (hC : AllOK p C) (hP : AllIn P k C) (hv : Vals p x y z k C P A) (hg : gOK (p - 1) g (P.length : Nat) = true) : ∀ n, n ≤ k + 1 → (∀ d, d < n → pv p x y z (ptR P g C n).2 ((ptR P g C n).1.getD d 0) = dvF p x y z A g d) ∧ Ext C (ptR P g C n).2
  | 0, _ => ⟨fun d hd => by omega, Ext.refl C⟩
  | n + 1, hn => by
    obtain ⟨ih, ihx⟩ := ptR_val hp he hC hP hv hg n (by omega)
    obtain ⟨h1, h2, h3, h4⟩ := ptR_ok hC hP hg n (by omega)
    have hv1 : Vals p x y z k (ptR P g C n).2 P A := fun i d hi hd => by rw [ihx.pv (hP i d hi hd).2]; exact hv i d hi hd
    obtain ⟨v, xx⟩ := ptG_val hp he (d := n) h1 (hP.mono h3) hv1 hg (by omega)
    refine ⟨fun d hd => ?_, ihx.trans xx⟩
    show pv p x y z (ptG _ _ _ _).2 (((ptR P g C n).1 ++ [_]).getD d 0) = _
    by_cases e : d = n
    · subst e
      rw [List.getD_eq_getElem?_getD, List.getElem?_append_right (by rw [ptR_len]; exact Nat.le_refl _), ptR_len, Nat.sub_self]
      exact v
    · rw [List.getD_eq_getElem?_getD, List.getElem?_append_left (by rw [ptR_len]; omega), ← List.getD_eq_getElem?_getD, xx.pv (h2 d (by omega)).2]
      exact ih d (by omega)
/-- the gates that are put have the values by degree -/
theorem ptC_val (hp : isP p = true) (he : isE3 p x y z = true) {k : Nat} {L : List Gt} (hL : ∀ j, j < L.length → gOK (p - 1) (gAt L j) (j : Nat) = true) (hk : k ≤ 9) : ∀ j, j ≤ L.length → Vals p x y z k (ptC k L j).1 (ptC k L j).2 (dvC p x y z k L j)
  | 0, _ => fun i d hi => absurd hi (Nat.not_lt_zero i)
  | j + 1, hj => by
    have ih := ptC_val hp he hL hk j (by omega)
    obtain ⟨h1, h2, h3⟩ := ptC_ok hL hk j (by omega)
    have hx := hL j (by omega)
    rw [show j = (ptC k L j).2.length from (ptC_len k L j).symm] at hx
    rw [show gAt L (ptC k L j).2.length = gAt L j by rw [ptC_len]] at hx
    obtain ⟨v, xx⟩ := ptR_val hp he h1 h2 ih hx (k + 1) (Nat.le_refl _)
    intro i d hi hd
    show pv p x y z (ptR _ _ _ _).2 (pcl ((ptC k L j).2 ++ [_]) i d) = pcl (dvC p x y z k L j ++ [_]) i d
    by_cases e : i < (ptC k L j).2.length
    · rw [pcl_old e, pcl_old (by rw [dvC_len, ← ptC_len k L j]; exact e), xx.pv (h2 i d e hd).2]
      exact ih i d e hd
    · have e2 : i = (ptC k L j).2.length := by
        have : i < ((ptC k L j).2 ++ [_]).length := hi
        simp at this
        omega
      subst e2
      rw [pcl_new, v d (by omega)]
      rw [show (ptC k L j).2.length = (dvC p x y z k L j).length by rw [ptC_len, dvC_len], pcl_new, List.getD_eq_getElem?_getD, List.getElem?_map, List.getElem?_range (show d < k + 1 by omega)]
      rfl
end
end Go.Proofs.Ytbgcamkclbcaiaa
