/-
  The polynomial that is made of a list of values has these values, and the one that is made of a polynomial's values is its reduction. Mathematics alone. Conditions: none.
-/
import Derived.Test.YtajabchbdhjdiaaBf3
import Derived.Test.YtajabchbdhjdiaaBc3
import Derived.Test.YtajabchbdhjdiaaBa24
namespace Go.Proofs.Ytajabchbdhjdiaa
set_option linter.unusedVariables false
def keyT (x : Trm) : Int := x.a * 9 + x.b * 3 + x.c
theorem low_len1 {p : Int} (h3 : p ≤ 3) : ∀ (x : Trm) (r : List Trm), Srt (x :: r) → LowA p (x :: r) → (r.length : Int) ≤ keyT x
  | x, [], _, hl => by
    have := hl x List.mem_cons_self
    unfold keyT
    simp
    omega
  | x, y :: r, hs, hl => by
    have hs2 := List.pairwise_cons.1 hs
    have ih := low_len1 h3 y r hs2.2 (fun z hz => hl z (List.mem_cons_of_mem _ hz))
    have hb := bef_iff.1 (hs2.1 y List.mem_cons_self)
    have h1 := hl x List.mem_cons_self
    have h2 := hl y (List.mem_cons_of_mem _ List.mem_cons_self)
    unfold keyT at *
    simp only [List.length_cons]
    omega
theorem low_len {p : Int} (h3 : p ≤ 3) {L : List Trm} (hs : Srt L) (hl : LowA p L) : L.length ≤ 27 := by
  cases L with
  | nil => simp
  | cons x r =>
    have := low_len1 h3 x r hs hl
    have h1 := hl x List.mem_cons_self
    unfold keyT at this
    simp only [List.length_cons]
    omega
theorem low_valid {p : Int} (h3 : p ≤ 3) {L : List Trm} (hs : Srt L) (he : Els p L) (hl : LowA p L) : validB p L = true :=
  validB_of5 hs he (fun y hy => by
    have := hl y hy
    simp only [pwB, powsB, powB, Bool.and_eq_true]
    exact ⟨⟨⟨decide_eq_true (by omega), decide_eq_true (by omega)⟩, ⟨decide_eq_true (by omega), decide_eq_true (by omega)⟩⟩, ⟨decide_eq_true (by omega), decide_eq_true (by omega)⟩⟩) (by have := low_len h3 hs hl; omega)
def ppOk (q : Nat) : Bool := (List.range (q * q * q)).all fun k => (ppV q k).all (fun x => (decide (0 ≤ x.a) && decide (x.a < q)) && ((decide (0 ≤ x.b) && decide (x.b < q)) && (decide (0 ≤ x.c) && decide (x.c < q)))) &&
  (List.range (q * q * q)).all fun n => wS (mon (pnt q n).1 (pnt q n).2.1 (pnt q n).2.2) (ppV q k) % (q : Int) == if n = k then 1 else 0
theorem pp_ok2 : ppOk 2 = true := by decide +kernel
theorem pp_ok3 : ppOk 3 = true := by decide +kernel
theorem pp_at {q k : Nat} (h : q = 2 ∨ q = 3) (hk : k < q * q * q) : LowA q (ppV q k) ∧ ∀ n, n < q * q * q → Cg q (wS (mon (pnt q n).1 (pnt q n).2.1 (pnt q n).2.2) (ppV q k)) (if n = k then 1 else 0) := by
  have h1 : ppOk q = true := by
    rcases h with rfl | rfl
    · exact pp_ok2
    · exact pp_ok3
  have h2 := List.all_eq_true.1 h1 k (List.mem_range.2 hk)
  rw [Bool.and_eq_true] at h2
  refine ⟨fun x hx => ?_, fun n hn => ?_⟩
  · have := List.all_eq_true.1 h2.1 x hx
    simp only [Bool.and_eq_true, decide_eq_true_eq] at this
    omega
  · have := List.all_eq_true.1 h2.2 n (List.mem_range.2 hn)
    rw [beq_iff_eq] at this
    refine Cg.iff.2 ?_
    rw [this]
    split
    · exact (Int.emod_eq_of_lt (by omega) (by omega)).symm
    · simp
/-- what is known of the sum of the points with the first k values -/
structure PvF (q : Nat) (V : List Int) (k : Nat) : Prop where
  s : Srt (pvK q V k)
  e : Els q (pvK q V k)
  l : LowA q (pvK q V k)
  v : ∀ n, n < q * q * q → evK q (pnt q n).1 (pnt q n).2.1 (pnt q n).2.2 (pvK q V k) (pvK q V k).length = if n < k then V.getD n 0 else 0
theorem pvF {q : Nat} (h : q = 2 ∨ q = 3) {V : List Int} (hV : ∀ j, j < q * q * q → isE q (V.getD j 0) = true) : ∀ k, k ≤ q * q * q → PvF q V k
  | 0, _ => ⟨List.Pairwise.nil, fun x hx => absurd hx (by show ¬ x ∈ ([] : List Trm); simp), fun x hx => absurd hx (by show ¬ x ∈ ([] : List Trm); simp), fun n hn => rfl⟩
  | k + 1, hk => by
    have ih := pvF h hV k (by omega)
    have hp : isP (q : Int) = true := by rcases h with rfl | rfl <;> rfl
    have h3 : (q : Int) ≤ 3 := by omega
    have hq0 : (0 : Int) < (q : Int) := by omega
    have ha := isE_iff.1 (hV k (by omega))
    obtain ⟨a, hA⟩ : ∃ a, a = V.getD k 0 := ⟨_, rfl⟩
    rw [← hA] at ha
    have hpk : pvK q V (k + 1) = if 0 < a then sumV q (pvK q V k) (sclL q a (ppV q k)) else pvK q V k := by rw [hA]; rfl
    obtain ⟨pl, pv⟩ := pp_at h (k := k) (by omega)
    have hst : ∀ n, (if n < k + 1 then V.getD n 0 else 0) = (if n < k then V.getD n 0 else 0) + (if n = k then a else 0) := by
      intro n
      by_cases e : n = k
      · subst e; rw [if_pos (by omega), if_neg (by omega), if_pos rfl, hA]; omega
      · by_cases e2 : n < k
        · rw [if_pos (by omega), if_pos e2, if_neg e]; omega
        · rw [if_neg (by omega), if_neg e2, if_neg e]; rfl
    by_cases h0 : 0 < a
    · have hPP : ppB q k = true := by
        have hkq : ((k : Nat) : Int) < (q : Int) * q * q := by exact_mod_cast (show k < q * q * q by omega)
        have hls : lst (q : Int) = true := by rcases h with rfl | rfl <;> rfl
        unfold ppB ptB
        rw [hp, hls]
        simp
        omega
      have hvP := (ppV_s hPP).2
      have hvS := scl_valid hp (isE_iff.2 ha) hvP
      have lS : LowA q (sclL q a (ppV q k)) := by
        unfold sclL
        rw [if_neg (by omega)]
        intro y hy
        obtain ⟨x, hx, rfl⟩ := List.mem_map.1 hy
        exact pl x hx
      have hvK := low_valid h3 ih.s ih.e ih.l
      have sA : Srt (addAll q (sclL q a (ppV q k)) (pvK q V k)) := addAll_srt _ _ ih.s
      have eA : Els q (addAll q (sclL q a (ppV q k)) (pvK q V k)) := addAll_els hq0 _ _ (els_in (validB_els hvS)) ih.e
      have lA : LowA q (addAll q (sclL q a (ppV q k)) (pvK q V k)) := fun y hy => by
        rcases addAll_mem5 hy with h | ⟨x, hx, _, h1, h2, h3⟩
        · exact ih.l y h
        · have := lS x hx
          rw [h1, h2, h3]
          exact this
      have hsum : pvK q V (k + 1) = addAll q (sclL q a (ppV q k)) (pvK q V k) := by rw [hpk, if_pos h0]; exact (addOk_of hp hvK hvS (low_valid h3 sA eA lA)).2
      refine ⟨by rw [hsum]; exact sA, by rw [hsum]; exact eA, by rw [hsum]; exact lA, fun n hn => ?_⟩
      have e1 := add_ev (x := (pnt q n).1) (y := (pnt q n).2.1) (z := (pnt q n).2.2) hp (L := pvK q V k) (M := sclL q a (ppV q k))
      have e2 : evK q (pnt q n).1 (pnt q n).2.1 (pnt q n).2.2 (sclL q a (ppV q k)) (sclL q a (ppV q k)).length = if n = k then a else 0 := by
        refine evK_is hp ((scl_wS _).trans (((Cg.refl _ _).mul (pv n hn)).trans (Cg.of_eq ?_))) (by split <;> omega)
        split <;> simp
      rw [hsum, e1, ih.v n hn, e2, hst n]
      have hb : 0 ≤ (if n < k then V.getD n 0 else 0) + (if n = k then a else 0) ∧ (if n < k then V.getD n 0 else 0) + (if n = k then a else 0) < (q : Int) := by
        by_cases e : n = k
        · subst e; rw [if_neg (by omega), if_pos rfl]; omega
        · rw [if_neg e]
          by_cases e2 : n < k
          · rw [if_pos e2]
            have := isE_iff.1 (hV n hn)
            omega
          · rw [if_neg e2]; omega
      exact Int.emod_eq_of_lt hb.1 hb.2
    · have h00 : a = 0 := by omega
      have hsum : pvK q V (k + 1) = pvK q V k := by rw [hpk, if_neg h0]
      refine ⟨by rw [hsum]; exact ih.s, by rw [hsum]; exact ih.e, by rw [hsum]; exact ih.l, fun n hn => ?_⟩
      rw [hsum, ih.v n hn, hst n, h00]
      split <;> simp
/-- the polynomial of a polynomial's values is its reduction -/
theorem pv_red {p : Int} {L : List Trm} (hl : lst p = true) (hV : validB p L = true) : pvB p (vlV p L) = true ∧ pvV p (vlV p L) = redV p L ∧ (vlV p L).length = p.toNat * p.toNat * p.toNat ∧ ∀ n, n < p.toNat * p.toNat * p.toNat → (vlV p L).getD n 0 = evP p L (pnt p.toNat n) := by
  have hp := lst_isP hl
  obtain ⟨q, rfl⟩ : ∃ q : Nat, p = (q : Int) := ⟨p.toNat, by have := isP_bd hp; omega⟩
  have hq : q = 2 ∨ q = 3 := by have := lst_cases hl; omega
  have hvl : vlV q L = ((List.range (q * q * q)).map (pnt q)).map (evP q L) := by
    unfold vlV
    rw [if_pos (by unfold vlB; rw [hl, hp, hV]; rfl), patX_pnt _ hp]
    rfl
  have hlen : (vlV q L).length = q * q * q := by rw [hvl]; simp
  have hget : ∀ n, n < q * q * q → (vlV q L).getD n 0 = evP q L (pnt q n) := fun n hn => by
    rw [hvl]
    simp [List.getD_eq_getElem?_getD, hn]
  have hpt : ∀ n, n < q * q * q → isE3 q (pnt q n).1 (pnt q n).2.1 (pnt q n).2.2 = true := fun n hn => by
    obtain ⟨_, x, y, z, _, he, e2⟩ := pnt_at hp (k := n) (by exact_mod_cast hn)
    have e3 : pnt q n = (x, y, z) := e2
    rw [e3]; exact he
  have hev : ∀ n, n < q * q * q → evP q L (pnt q n) = evK q (pnt q n).1 (pnt q n).2.1 (pnt q n).2.2 L L.length := fun n hn => by
    unfold evP evV
    rw [hp, hV, hpt n hn]
    rfl
  have hE : ∀ j, j < q * q * q → isE q ((vlV q L).getD j 0) = true := fun j hj => by
    rw [hget j hj, hev j hj]
    exact isE_iff.2 (evK_bd hp _ _ _ _ _)
  have hB : pvB q (vlV q L) = true := by
    have h1 : (((vlV q L).length : Nat) : Int) = (q : Int) * q * q := by rw [hlen]; norm_cast
    have h2 : (vlV q L).all (isE q) = true := List.all_eq_true.2 fun x hx => by
      obtain ⟨j, hj, rfl⟩ := List.getElem_of_mem hx
      have := hE j (by rw [← hlen]; exact hj)
      rwa [List.getD_eq_getElem?_getD, List.getElem?_eq_getElem hj] at this
    unfold pvB
    rw [hl, h2, decide_eq_true h1]
    rfl
  refine ⟨hB, ?_, hlen, hget⟩
  have hF := pvF hq hE (q * q * q) (Nat.le_refl _)
  have hvv : pvV q (vlV q L) = pvK q (vlV q L) (q * q * q) := by unfold pvV; rw [if_pos hB, hlen]
  rw [hvv]
  have fL := mkK_facts (p := (q : Int)) (L := redL q L) hp (k := L.length) (by rw [redL_len]; omega) (by rw [redL_len]; exact validB_len hV)
  refine uniq hp hF.s fL.1 hF.e fL.2.1 hF.l (red_low hp hV) fun x y z hx hy hz => ?_
  have hin := pat_in hp hx hy hz
  rw [patX_pnt _ hp] at hin
  obtain ⟨n, hn, hpn⟩ := List.mem_map.1 hin
  have hn2 : n < q * q * q := List.mem_range.1 hn
  have hpn2 : pnt q n = (x, y, z) := hpn
  have e1 := hF.v n hn2
  rw [if_pos hn2, hget n hn2, hev n hn2, hpn2] at e1
  refine e1.trans ?_
  exact (Cg.eq ((evK_all q x y z _).trans ((red_wS hp hV hx hy hz).trans (evK_all q x y z _).symm)) (evK_bd hp _ _ _ _ _) (evK_bd hp _ _ _ _ _)).symm
end Go.Proofs.Ytajabchbdhjdiaa
