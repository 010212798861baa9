/-
  A gate is put where there is none like it: of lists. Conditions: none.
  Parts by degree of gates, as lists: the gates that are put, and the places of the parts; what a maker leaves alone. Conditions: none.
  CircuitOfFormula of the program. Conditions: none.
  Parts by degree, of the program: the sum and the product of two parts. Conditions: what the maker's cells and its row of gates hold is known; places are none or gates.
  The program's maker of parts: what its cells and its rows hold. Conditions: none.
  The program puts the part of one degree of a gate. Conditions: what its maker holds is known.
  The program puts the part of one degree of a gate: each kind. Conditions: what its maker holds is known.
  The program puts all parts of a gate. Conditions: what its maker holds is known.
-/
import Derived.Test.YtlidplmpglpkgaaBe6
import Derived.Test.YtlidplmpglpkgaaBe11
import Derived.Test.YtlidplmpglpkgaaBa8
import Derived.Test.YtlidplmpglpkgaaBa2
import Derived.Test.YtlidplmpglpkgaaBa4
import Derived.Deep.AppendLies
namespace Go.Proofs.Ytlidplmpglpkgaa
open Go.RowKit
theorem ixG_hit {x : Gt} : ∀ {C : List Gt} {k : Nat}, (∀ j, j < k → eqGt x (gAt C j) = false) → k < C.length → eqGt x (gAt C k) = true → ixG x C = some k
  | [], k, _, h, _ => by simp at h
  | y :: r, 0, _, _, h => by
    have h : eqGt x y = true := h
    unfold ixG
    rw [if_pos h]
  | y :: r, k + 1, hn, hk, h => by
    have h0 : eqGt x y = false := hn 0 (by omega)
    unfold ixG
    rw [if_neg (by simp [h0]), ixG_hit (C := r) (k := k) (fun j hj => hn (j + 1) (by omega)) (by simpa using hk) h]
    rfl
theorem ixG_none {x : Gt} : ∀ {C : List Gt}, (∀ j, j < C.length → eqGt x (gAt C j) = false) → ixG x C = none
  | [], _ => rfl
  | y :: r, hn => by
    have h0 : eqGt x y = false := hn 0 (by simp)
    unfold ixG
    rw [if_neg (by simp [h0]), ixG_none (C := r) (fun j hj => hn (j + 1) (by simpa using hj))]
    rfl
theorem ixG_lt {x : Gt} : ∀ {C : List Gt} {k : Nat}, ixG x C = some k → k < C.length
  | [], k, h => by cases h
  | y :: r, k, h => by
    unfold ixG at h
    split at h
    · injection h with h
      subst h
      simp
    · cases e : ixG x r with
      | none => rw [e] at h; cases h
      | some n =>
        rw [e] at h
        have h : n + 1 = k := by simpa using h
        have := ixG_lt e
        simp only [List.length_cons]
        omega
/-- a gate is put where there is none like it -/
def shr (x : Gt) (C : List Gt) : Nat × List Gt := match ixG x C with
  | some n => (n, C)
  | none => (C.length, C ++ [x])
theorem shr_hit {x : Gt} {C : List Gt} {n : Nat} (h : ixG x C = some n) : shr x C = (n, C) := by unfold shr; rw [h]
theorem shr_new {x : Gt} {C : List Gt} (h : ixG x C = none) : shr x C = (C.length, C ++ [x]) := by unfold shr; rw [h]
theorem shr_facts (x : Gt) (C : List Gt) : (shr x C).1 < (shr x C).2.length ∧ C.length ≤ (shr x C).2.length ∧ (shr x C).2.length ≤ C.length + 1 := by
  cases h : ixG x C with
  | some n => rw [shr_hit h]; exact ⟨ixG_lt h, Nat.le_refl _, Nat.le_succ _⟩
  | none => rw [shr_new h]; simp
theorem shr_ok {p : Int} {x : Gt} {C : List Gt} (h : AllOK p C) (hx : gOK (p - 1) x (C.length : Nat) = true) : AllOK p (shr x C).2 := by
  cases e : ixG x C with
  | some n => rw [shr_hit e]; exact h
  | none =>
    rw [shr_new e]
    intro j hj
    by_cases hjc : j < C.length
    · rw [gAt_left hjc]; exact h j hjc
    · have : j = C.length := by simp at hj; omega
      subst this
      rw [gAt_last]
      exact hx
end Go.Proofs.Ytlidplmpglpkgaa
namespace Go.Proofs.Ytlidplmpglpkgaa
open Go.RowKit
/-- a gate shared: its place and the gates -/
def shI (x : Gt) (C : List Gt) : Int × List Gt := (((shr x C).1 : Nat), (shr x C).2)
/-- the sum of two parts -/
def smG (a b : Int) (C : List Gt) : Int × List Gt := if a < 0 then (b, C) else if b < 0 then (a, C) else shI ⟨2, a, b⟩ C
/-- the product of two parts -/
def pdG (a b : Int) (C : List Gt) : Int × List Gt := if a < 0 ∨ b < 0 then (-1, C) else shI ⟨3, a, b⟩ C
/-- the place of a part -/
def pcl (P : List (List Int)) (i d : Nat) : Int := (P.getD i []).getD d 0
/-- the first n products of the part of degree d -/
def cvK (P : List (List Int)) (A B d : Nat) (C : List Gt) : Nat → Int × List Gt
  | 0 => (-1, C)
  | i + 1 => smG (cvK P A B d C i).1 (pdG (pcl P A i) (pcl P B (d - i)) (cvK P A B d C i).2).1 (pdG (pcl P A i) (pcl P B (d - i)) (cvK P A B d C i).2).2
/-- the part of degree d of a gate -/
def ptG (P : List (List Int)) (x : Gt) (d : Nat) (C : List Gt) : Int × List Gt :=
  if x.k = 0 then (if d = 1 then shI x C else (-1, C))
  else if x.k = 1 then (if d = 0 ∧ x.a ≠ 0 then shI x C else (-1, C))
  else if x.k = 2 then smG (pcl P x.a.toNat d) (pcl P x.b.toNat d) C
  else cvK P x.a.toNat x.b.toNat d C (d + 1)
/-- the parts of the first n degrees of a gate -/
def ptR (P : List (List Int)) (x : Gt) (C : List Gt) : Nat → List Int × List Gt
  | 0 => ([], C)
  | d + 1 => ((ptR P x C d).1 ++ [(ptG P x d (ptR P x C d).2).1], (ptG P x d (ptR P x C d).2).2)
/-- the parts up to the degree k of the first gates -/
def ptC (k : Nat) (L : List Gt) : Nat → List Gt × List (List Int)
  | 0 => ([], [])
  | j + 1 => ((ptR (ptC k L j).2 (gAt L j) (ptC k L j).1 (k + 1)).2, (ptC k L j).2 ++ [(ptR (ptC k L j).2 (gAt L j) (ptC k L j).1 (k + 1)).1])
theorem ptR_len (P : List (List Int)) (x : Gt) (C : List Gt) : ∀ n, (ptR P x C n).1.length = n
  | 0 => rfl
  | n + 1 => by
    show ((ptR P x C n).1 ++ [_]).length = _
    rw [List.length_append, ptR_len P x C n]
    rfl
theorem ptC_len (k : Nat) (L : List Gt) : ∀ j, (ptC k L j).2.length = j
  | 0 => rfl
  | j + 1 => by
    show ((ptC k L j).2 ++ [_]).length = _
    rw [List.length_append, ptC_len k L j]
    rfl
/-- a place is none or one of the gates -/
def inC (n : Int) (C : List Gt) : Prop := -1 ≤ n ∧ n < C.length
theorem inC.mono {n : Int} {C D : List Gt} (h : inC n C) (hl : C.length ≤ D.length) : inC n D := ⟨h.1, by have := h.2; omega⟩
/-- what is put: gates that may stand where they are, a place, and how many more gates -/
structure PutOk (p : Int) (C : List Gt) (r : Int × List Gt) (n : Nat) : Prop where
  ok : AllOK p r.2
  pl : inC r.1 r.2
  lo : C.length ≤ r.2.length
  hi : r.2.length ≤ C.length + n
theorem shI_ok {p : Int} {x : Gt} {C : List Gt} (h : AllOK p C) (hx : gOK (p - 1) x (C.length : Nat) = true) : PutOk p C (shI x C) 1 := by
  have h1 := shr_facts x C
  exact ⟨shr_ok h hx, ⟨by show -1 ≤ (((shr x C).1 : Nat) : Int); omega, by show (((shr x C).1 : Nat) : Int) < _; exact Int.ofNat_lt.2 h1.1⟩, h1.2.1, h1.2.2⟩
theorem smG_ok {p a b : Int} {C : List Gt} (h : AllOK p C) (ha : inC a C) (hb : inC b C) : PutOk p C (smG a b C) 1 := by
  unfold smG
  split
  · exact ⟨h, hb, Nat.le_refl _, Nat.le_succ _⟩
  · split
    · exact ⟨h, ha, Nat.le_refl _, Nat.le_succ _⟩
    · exact shI_ok h (gOK_join (.inl rfl) ⟨by omega, ha.2⟩ ⟨by omega, hb.2⟩)
theorem pdG_ok {p a b : Int} {C : List Gt} (h : AllOK p C) (ha : inC a C) (hb : inC b C) : PutOk p C (pdG a b C) 1 := by
  unfold pdG
  split
  · exact ⟨h, ⟨by show (-1 : Int) ≤ -1; omega, by show (-1 : Int) < _; omega⟩, Nat.le_refl _, Nat.le_succ _⟩
  · exact shI_ok h (gOK_join (.inr rfl) ⟨by omega, ha.2⟩ ⟨by omega, hb.2⟩)
theorem pdG_len (a b : Int) (C : List Gt) : (pdG a b C).2.length ≤ C.length + 1 := by
  unfold pdG
  split
  · exact Nat.le_succ _
  · exact (shr_facts _ C).2.2
/-- all places are none or gates -/
def AllIn (P : List (List Int)) (k : Nat) (C : List Gt) : Prop := ∀ i d, i < P.length → d ≤ k → inC (pcl P i d) C
theorem AllIn.mono {P : List (List Int)} {k : Nat} {C D : List Gt} (h : AllIn P k C) (hl : C.length ≤ D.length) : AllIn P k D := fun i d hi hd => (h i d hi hd).mono hl
theorem cvK_ok {p : Int} {P : List (List Int)} {A B d k : Nat} {C : List Gt} (h : AllOK p C) (hP : AllIn P k C) (hA : A < P.length) (hB : B < P.length) (hd : d ≤ k) : ∀ n, n ≤ d + 1 → PutOk p C (cvK P A B d C n) (2 * n)
  | 0, _ => ⟨h, ⟨by show (-1 : Int) ≤ -1; omega, by show (-1 : Int) < _; omega⟩, Nat.le_refl _, by show C.length ≤ _; omega⟩
  | n + 1, hn => by
    have ih := cvK_ok h hP hA hB hd n (by omega)
    have h1 := pdG_ok (a := pcl P A n) (b := pcl P B (d - n)) ih.ok ((hP A n hA (by omega)).mono ih.lo) ((hP B (d - n) hB (by omega)).mono ih.lo)
    have h2 := smG_ok (a := (cvK P A B d C n).1) (b := (pdG (pcl P A n) (pcl P B (d - n)) (cvK P A B d C n).2).1) h1.ok (ih.pl.mono h1.lo) h1.pl
    have e := ih.lo
    have e1 := ih.hi
    have e2 := h1.lo
    have e3 := h1.hi
    have e4 := h2.lo
    have e5 := h2.hi
    exact ⟨h2.ok, h2.pl, by show C.length ≤ (smG _ _ _).2.length; omega, by show (smG _ _ _).2.length ≤ _; omega⟩
theorem gOK_leaf {hi : Int} {x : Gt} {i j : Int} (h : gOK hi x i = true) (hk : x.k = 0 ∨ x.k = 1) : gOK hi x j = true := by
  unfold gOK at h ⊢
  rcases hk with e | e
  · rw [e] at h ⊢; exact h
  · rw [e] at h ⊢; exact h
theorem ptG_ok {p : Int} {P : List (List Int)} {x : Gt} {d k : Nat} {C : List Gt} (h : AllOK p C) (hP : AllIn P k C) (hx : gOK (p - 1) x (P.length : Nat) = true) (hd : d ≤ k) : PutOk p C (ptG P x d C) (2 * (d + 1)) := by
  have none : PutOk p C (-1, C) (2 * (d + 1)) := ⟨h, ⟨by show (-1 : Int) ≤ -1; omega, by show (-1 : Int) < _; omega⟩, Nat.le_refl _, by show C.length ≤ _; omega⟩
  have up : ∀ r, PutOk p C r 1 → PutOk p C r (2 * (d + 1)) := fun r h => ⟨h.ok, h.pl, h.lo, by have := h.hi; omega⟩
  have hc := gOK_cases hx
  unfold ptG
  split
  · rename_i hk
    split
    · exact up _ (shI_ok h (gOK_leaf hx (.inl hk)))
    · exact none
  · split
    · rename_i hk
      split
      · exact up _ (shI_ok h (gOK_leaf hx (.inr hk)))
      · exact none
    · rename_i k0 k1
      have hab : (0 ≤ x.a ∧ x.a < (P.length : Int)) ∧ (0 ≤ x.b ∧ x.b < (P.length : Int)) := by
        rcases hc with ⟨hk, _⟩ | ⟨hk, _⟩ | ⟨hk, h0, h1, h2, h3⟩
        · exact absurd hk k0
        · exact absurd hk k1
        · omega
      split
      · exact up _ (smG_ok h (hP _ d (by omega) hd) (hP _ d (by omega) hd))
      · exact cvK_ok h hP (by omega) (by omega) hd (d + 1) (Nat.le_refl _)
theorem ptR_ok {p : Int} {P : List (List Int)} {x : Gt} {k : Nat} {C : List Gt} (h : AllOK p C) (hP : AllIn P k C) (hx : gOK (p - 1) x (P.length : Nat) = true) : ∀ n, n ≤ k + 1 →
    AllOK p (ptR P x C n).2 ∧ (∀ d, d < n → inC ((ptR P x C n).1.getD d 0) (ptR P x C n).2) ∧ C.length ≤ (ptR P x C n).2.length ∧ (ptR P x C n).2.length ≤ C.length + n * (n + 1)
  | 0, _ => ⟨h, fun d hd => absurd hd (by omega), Nat.le_refl _, by show C.length ≤ _; omega⟩
  | n + 1, hn => by
    obtain ⟨h1, h2, h3, h4⟩ := ptR_ok h hP hx n (by omega)
    have g := ptG_ok (d := n) h1 (hP.mono h3) hx (by omega)
    have g1 := g.lo
    have g2 := g.hi
    refine ⟨g.ok, fun d hd => ?_, by show C.length ≤ (ptG _ _ _ _).2.length; omega, ?_⟩
    · show inC (((ptR P x C n).1 ++ [_]).getD d 0) (ptG _ _ _ _).2
      by_cases e : d = n
      · subst e
        rw [List.getD_eq_getElem?_getD, List.getElem?_append_right (by rw [ptR_len]; exact Nat.le_refl _), ptR_len]
        simpa using g.pl
      · rw [List.getD_eq_getElem?_getD, List.getElem?_append_left (by rw [ptR_len]; omega), ← List.getD_eq_getElem?_getD]
        exact (h2 d (by omega)).mono g1
    · show (ptG _ _ _ _).2.length ≤ _
      have : (n + 1) * (n + 1 + 1) = n * (n + 1) + 2 * (n + 1) := by rw [Nat.add_mul, Nat.mul_add]; omega
      omega
theorem pcl_old {P : List (List Int)} {r : List Int} {i d : Nat} (h : i < P.length) : pcl (P ++ [r]) i d = pcl P i d := by
  unfold pcl
  congr 1
  rw [List.getD_eq_getElem?_getD, List.getElem?_append_left h, ← List.getD_eq_getElem?_getD]
theorem pcl_new {P : List (List Int)} {r : List Int} {d : Nat} : pcl (P ++ [r]) P.length d = r.getD d 0 := by
  unfold pcl
  simp [List.getD_eq_getElem?_getD]
theorem ptC_ok {p : Int} {k : Nat} {L : List Gt} (hL : ∀ j, j < L.length → gOK (p - 1) (gAt L j) (j : Nat) = true) (hk : k ≤ 9) : ∀ j, j ≤ L.length →
    AllOK p (ptC k L j).1 ∧ AllIn (ptC k L j).2 k (ptC k L j).1 ∧ (ptC k L j).1.length ≤ 110 * j
  | 0, _ => ⟨fun j hj => absurd hj (Nat.not_lt_zero j), fun i d hi => absurd hi (Nat.not_lt_zero i), Nat.le_refl _⟩
  | j + 1, hj => by
    obtain ⟨h1, h2, h3⟩ := ptC_ok hL hk j (by omega)
    have hx := hL j (by omega)
    rw [show j = (ptC k L j).2.length from (ptC_len k L j).symm] at hx
    rw [show gAt L (ptC k L j).2.length = gAt L j by rw [ptC_len]] at hx
    obtain ⟨g1, g2, g3, g4⟩ := ptR_ok h1 h2 hx (k + 1) (Nat.le_refl _)
    refine ⟨g1, fun i d hi hd => ?_, ?_⟩
    · show inC (pcl ((ptC k L j).2 ++ [_]) i d) (ptR _ _ _ _).2
      by_cases e : i < (ptC k L j).2.length
      · rw [pcl_old e]; exact (h2 i d e hd).mono g3
      · have e2 : i = (ptC k L j).2.length := by
          have : i < ((ptC k L j).2 ++ [_]).length := hi
          simp at this
          omega
        subst e2
        rw [pcl_new]
        exact g2 d (by omega)
    · show (ptR _ _ _ _).2.length ≤ _
      have hk2 : (k + 1) * (k + 1 + 1) ≤ 10 * 11 := Nat.mul_le_mul (by omega) (by omega)
      omega
/-- a block that lies elsewhere than a maker -/
structure Kp (w : World) (G M : Nat) (v : Value) (b : Nat) : Prop where
  lt : b < w.heap.size
  nG : b ≠ G
  nM : b ≠ M
  nv : v.ownBlock ≠ some b
theorem Kp.step {w w' : World} {G M b : Nat} {v v' : Value} (h : Kp w G M v b) (ha : Apt G M v w w') (hm : Moves v v' w) (hs : w.heap.size ≤ w'.heap.size) : Kp w' G M v' b ∧ w'.heap[b]? = w.heap[b]? :=
  ⟨⟨Nat.lt_of_lt_of_le h.lt hs, h.nG, h.nM, hm.ne h.lt h.nv⟩, ha b h.lt h.nG h.nM h.nv⟩
theorem Kp.below {w w' : World} {G M b : Nat} {v : Value} (h : Kp w G M v b) (hb : Below w.heap.size w w') : Kp w' G M v b := ⟨Nat.lt_of_lt_of_le h.lt hb.size, h.nG, h.nM, h.nv⟩
theorem kpCell {w w' : World} {b i : Nat} {u : Value} (h : w.cell? ⟨b, i, none⟩ = some u) (e : w'.heap[b]? = w.heap[b]?) : w'.cell? ⟨b, i, none⟩ = some u := by
  rw [World.cell?_of_block (a := ⟨b, i, none⟩) e]; exact h
theorem owns_same {w w' : World} {B : Nat} {e : TypeId} {s : Nat} {v : Value} {n : Nat} {xs : List Value} (h : w.ownsRow B e s v n xs) (hh : ∀ b, v.ownBlock = some b → w'.heap[b]? = w.heap[b]?) : w'.ownsRow B e s v n xs := by
  refine ⟨h.1, ?_⟩
  rcases h.2 with ⟨h1, h2⟩ | ⟨g, cap, cur, rfl, hb, hg, hn, hm, hs, ht⟩
  · exact .inl ⟨h1, h2⟩
  · exact .inr ⟨g, cap, cur, rfl, hb, by rw [hh g rfl]; exact hg, hn, hm, hs, ht⟩
end Go.Proofs.Ytlidplmpglpkgaa
namespace Go.Proofs.Ytlidplmpglpkgaa
open Go.RowKit
theorem MapG.below {w w' : World} {b : Nat} {C : List Gt} (h : MapG w b C) (hb : Below w.heap.size w w') : MapG w' b C := (hb.block b (Array.getElem?_eq_some_iff.1 h).1).trans h
theorem MapG.lt {w : World} {b : Nat} {C : List Gt} (h : MapG w b C) : b < w.heap.size := (Array.getElem?_eq_some_iff.1 h).1
theorem wpList_mapG {ops : Array Oper} {rest : List Oper} {o : Oper} {a : Act} {w : World} {Q : Exit → Act → World → Prop} (hg : o.guard = none) (m x v : Operand) (hop : o.op = Op.mapUpdate 160 m x v)
    (b : Nat) (C : List Gt) (g : Gt) (hm : a.eval m = .map (some b)) (h : MapG w b C) (hx : a.eval x = g.v) (hv : a.eval v = .int .i64 (C.length : Int)) (hn : ixG g C = none)
    (hK : ∀ w', MapG w' b (C ++ [g]) → w.grownBy w' (some b) → wpList Try.prog ops Q rest (a.put o.dst undef) w') : wpList Try.prog ops Q (o :: rest) a w := by
  refine wpList_plain hg fun K' hK' => ?_
  obtain ⟨w', hrun, r1, r2⟩ := h.store g hn
  unfold Oper.wp
  simp [execOp, hop, hm, hx, hv, hrun, Result.andThen]
  exact hK' _ _ (hK w' r1 r2)
theorem keepBox {w w1 : World} {n G M : Nat} {v a b c : Value} (ha : Apt G M v w w1) (hn : n < w.heap.size) (hG : n ≠ G) (hM : n ≠ M) (hv : v.ownBlock ≠ some n)
    (h : w.cell? ⟨n, 0, none⟩ = some a ∧ w.cell? ⟨n, 1, none⟩ = some b ∧ w.cell? ⟨n, 2, none⟩ = some c) : w1.cell? ⟨n, 0, none⟩ = some a ∧ w1.cell? ⟨n, 1, none⟩ = some b ∧ w1.cell? ⟨n, 2, none⟩ = some c := by
  have e := ha n hn hG hM hv
  obtain ⟨h0, h1, h2⟩ := h
  exact ⟨by rw [World.cell?_of_block (a := ⟨n, 0, none⟩) e]; exact h0, by rw [World.cell?_of_block (a := ⟨n, 1, none⟩) e]; exact h1, by rw [World.cell?_of_block (a := ⟨n, 2, none⟩) e]; exact h2⟩
/-- the other cells of the program's maker -/
def shC (p : Int) (M : Nat) (i : Nat) : Value := if i = 1 then .int .i64 p else .map (some M)
/-- what the program's method leaves behind -/
def ShTo (B G M : Nat) (p : Int) (C : List Gt) (v : Value) (r : Int) (w : World) (e : Ending) (w' : World) : Prop := MkTo B G M 3 (shC p M) C v r w e w' ∧ MapG w' M C
set_option maxRecDepth 100000 in
set_option maxHeartbeats 8000000 in
theorem iShareN (B G M n0 : Nat) (v : Value) (cs : Nat → Value) (C : List Gt) (x : Gt) (w : World) (hl : C.length ≤ 8000) (hMG : M < G) (hBM : B ≤ M) (hn0 : 2 < n0) (hcs : cs 2 = .map (some M)) (h : MkS w G v n0 cs C) (hm : MapG w M C) :
    Calls Try.prog 237 #[.pointer (some ⟨G, 0, none⟩), .agg #[.int .i64 x.k, .int .i64 x.a, .int .i64 x.b]] w (fun e w' => MkTo B G M n0 cs (shr x C).2 v ((shr x C).1 : Nat) w e w' ∧ MapG w' M (shr x C).2) := by
  obtain ⟨W, hW⟩ : ∃ W, W = w.alloc (Obj.cells #[.int .i64 x.k, .int .i64 x.a, .int .i64 x.b] 137) := ⟨_, rfl⟩
  have bW : Below w.heap.size w W := by rw [hW]; exact Below.alloc (Below.refl _ _) (Nat.le_refl _) _
  have hT : GAt W w.heap.size 0 x := by rw [hW]; refine ⟨?_, ?_, ?_⟩ <;> simp [go_sem]
  have hsW : w.heap.size < W.heap.size := by rw [hW]; simp
  have HS := Lib.hid (fun w' (hb : Below W.heap.size W w') => show MkS w' G v n0 cs C ∧ MapG w' M C ∧ GAt w' w.heap.size 0 x ∧ Below w.heap.size w w' from
    ⟨(h.below bW).below hb, (hm.below bW).below hb, hT.below hb hsW, bW.trans (hb.mono (Nat.le_of_lt hsW))⟩)
  have hBw : B ≤ w.heap.size := by have := h.sh.lt; omega
  have HW := Lib.hid hW
  have HR := Lib.hid h.row
  have hgw := h.sh.lt
  have HVN := Lib.hid (h.old (Nat.le_refl _))
  have HCS := Lib.hid hcs
  clear hW bW hT hm h hcs
  cases hix : ixG x C with
  | some k =>
    rw [shr_hit hix]
    have HIX := Lib.hid hix
    clear hix
    go_enter Try.func237, Try.ntmps237
    go_wp2_with fail
    rw [← HW.out]
    clear HW
    refine wp_region_below (by kernel_rfl) (by kernel_rfl) ?_
    (with_reducible refine wpQuiet_yes ?_ ?_; (focus (kernel_rfl)); intro K hK; go_simp; refine ⟨_, fun _ _ => rfl, ?_⟩; with_reducible refine hK _ ?_; clear hK K)
    (with_reducible refine wpQuiet_yes ?_ ?_; (focus (kernel_rfl)); intro K hK; go_simp; refine ⟨_, fun _ _ => rfl, ?_⟩; with_reducible refine hK _ ?_; clear hK K)
    (with_reducible refine wpQuiet_yes ?_ ?_; (focus (kernel_rfl)); intro K hK; go_simp; refine ⟨_, fun _ _ => rfl, ?_⟩; with_reducible refine hK _ ?_; clear hK K)
    (with_reducible refine wpQuiet_yes ?_ ?_; (focus (kernel_rfl)); intro K hK; go_simp; refine ⟨(.map (some M)), ?_, ?_⟩; rotate_left; with_reducible refine hK _ ?_; clear hK K; rotate_left)
    · intro w' hw
      have c2 := (HS.out w' hw).1.sh.oth 2 (by omega) hn0
      rw [HCS.out] at c2
      simp only [c2, go_sem, Result.andThen, and_self]
    (with_reducible refine wpQuiet_yes ?_ ?_; (focus (kernel_rfl)); intro K hK; go_simp; refine ⟨(.agg #[.int .i64 x.k, .int .i64 x.a, .int .i64 x.b]), ?_, ?_⟩; rotate_left; with_reducible refine hK _ ?_; clear hK K; rotate_left)
    · intro w' hw
      obtain ⟨t0, t1, t2⟩ := (HS.out w' hw).2.2.1
      simp only [Nat.zero_add] at t0 t1 t2
      simp only [t0, t1, t2, go_sem, Result.andThen, and_self]
    (with_reducible refine wpQuiet_yes ?_ ?_; (focus (kernel_rfl)); intro K hK; go_simp; refine ⟨(.tuple #[.int .i64 (k : Int), .bool true]), ?_, ?_⟩; rotate_left; with_reducible refine hK _ ?_; clear hK K; rotate_left)
    · intro w' hw
      have := (HS.out w' hw).2.1.lookup x
      rw [HIX.out] at this
      unfold Gt.v at this
      simp only [Option.getD_some, Option.isSome_some] at this
      rw [this]
      simp
    (with_reducible refine wpQuiet_yes ?_ ?_; (focus (kernel_rfl)); intro K hK; go_simp; refine ⟨_, fun _ _ => rfl, ?_⟩; with_reducible refine hK _ ?_; clear hK K)
    (with_reducible refine wpQuiet_yes ?_ ?_; (focus (kernel_rfl)); intro K hK; go_simp; refine ⟨_, fun _ _ => rfl, ?_⟩; with_reducible refine hK _ ?_; clear hK K)
    (with_reducible refine wpQuiet_yes ?_ ?_; (focus (kernel_rfl)); intro K hK; go_simp; refine ⟨_, fun _ _ => rfl, ?_⟩; with_reducible refine hK _ ?_; clear hK K)
    (with_reducible refine wpQuiet_yes ?_ ?_; (focus (kernel_rfl)); intro K hK; go_simp; refine ⟨_, fun _ _ => rfl, ?_⟩; with_reducible refine hK _ ?_; clear hK K)
    (with_reducible refine wpQuiet_yes ?_ ?_; (focus (kernel_rfl)); intro K hK; go_simp; refine ⟨_, fun _ _ => rfl, ?_⟩; with_reducible refine hK _ ?_; clear hK K)
    refine wpQuiet_nil fun w2 hb2 => ?_
    have H2 := Lib.hid (HS.out w2 hb2)
    clear hb2
    simp only [Exit.then]
    go_wp2_with fail
    go_ret
    exact ⟨⟨_, rfl, H2.out.1, H2.out.2.2.2.mono hBw, Apt.of_below H2.out.2.2.2, .inl rfl⟩, H2.out.2.1⟩
  | none =>
    rw [shr_new hix]
    have HIX := Lib.hid hix
    clear hix
    go_enter Try.func237, Try.ntmps237
    go_wp2_with fail
    rw [← HW.out]
    clear HW
    refine wp_region_below (by kernel_rfl) (by kernel_rfl) ?_
    (with_reducible refine wpQuiet_yes ?_ ?_; (focus (kernel_rfl)); intro K hK; go_simp; refine ⟨_, fun _ _ => rfl, ?_⟩; with_reducible refine hK _ ?_; clear hK K)
    (with_reducible refine wpQuiet_yes ?_ ?_; (focus (kernel_rfl)); intro K hK; go_simp; refine ⟨_, fun _ _ => rfl, ?_⟩; with_reducible refine hK _ ?_; clear hK K)
    (with_reducible refine wpQuiet_yes ?_ ?_; (focus (kernel_rfl)); intro K hK; go_simp; refine ⟨_, fun _ _ => rfl, ?_⟩; with_reducible refine hK _ ?_; clear hK K)
    (with_reducible refine wpQuiet_yes ?_ ?_; (focus (kernel_rfl)); intro K hK; go_simp; refine ⟨(.map (some M)), ?_, ?_⟩; rotate_left; with_reducible refine hK _ ?_; clear hK K; rotate_left)
    · intro w' hw
      have c2 := (HS.out w' hw).1.sh.oth 2 (by omega) hn0
      rw [HCS.out] at c2
      simp only [c2, go_sem, Result.andThen, and_self]
    (with_reducible refine wpQuiet_yes ?_ ?_; (focus (kernel_rfl)); intro K hK; go_simp; refine ⟨(.agg #[.int .i64 x.k, .int .i64 x.a, .int .i64 x.b]), ?_, ?_⟩; rotate_left; with_reducible refine hK _ ?_; clear hK K; rotate_left)
    · intro w' hw
      obtain ⟨t0, t1, t2⟩ := (HS.out w' hw).2.2.1
      simp only [Nat.zero_add] at t0 t1 t2
      simp only [t0, t1, t2, go_sem, Result.andThen, and_self]
    (with_reducible refine wpQuiet_yes ?_ ?_; (focus (kernel_rfl)); intro K hK; go_simp; refine ⟨(.tuple #[.int .i64 0, .bool false]), ?_, ?_⟩; rotate_left; with_reducible refine hK _ ?_; clear hK K; rotate_left)
    · intro w' hw
      have := (HS.out w' hw).2.1.lookup x
      rw [HIX.out] at this
      unfold Gt.v at this
      simp only [Option.getD_none, Option.isSome_none] at this
      rw [this]
      simp
    (with_reducible refine wpQuiet_yes ?_ ?_; (focus (kernel_rfl)); intro K hK; go_simp; refine ⟨_, fun _ _ => rfl, ?_⟩; with_reducible refine hK _ ?_; clear hK K)
    (with_reducible refine wpQuiet_yes ?_ ?_; (focus (kernel_rfl)); intro K hK; go_simp; refine ⟨_, fun _ _ => rfl, ?_⟩; with_reducible refine hK _ ?_; clear hK K)
    (with_reducible refine wpQuiet_yes ?_ ?_; (focus (kernel_rfl)); intro K hK; go_simp; refine ⟨_, fun _ _ => rfl, ?_⟩; with_reducible refine hK _ ?_; clear hK K)
    (with_reducible refine wpQuiet_yes ?_ ?_; (focus (kernel_rfl)); intro K hK; go_simp; refine ⟨_, fun _ _ => rfl, ?_⟩; with_reducible refine hK _ ?_; clear hK K)
    (with_reducible refine wpQuiet_yes ?_ ?_; (focus (kernel_rfl)); intro K hK; go_simp; refine ⟨_, fun _ _ => rfl, ?_⟩; with_reducible refine hK _ ?_; clear hK K)
    refine wpQuiet_nil fun w2 hb2 => ?_
    have H2 := Lib.hid (HS.out w2 hb2)
    have hs2 : w.heap.size < w2.heap.size := Nat.lt_of_lt_of_le hsW hb2.size
    obtain ⟨t0, t1, t2⟩ := (HS.out w2 hb2).2.2.1
    simp only [Nat.zero_add] at t0 t1 t2
    clear hb2
    simp only [Exit.then]
    go_wp2_with fail
    go_region_held3 (fun w' => w'.cell? ⟨w.heap.size, 0, none⟩ = some (.int .i64 x.k) ∧ w'.cell? ⟨w.heap.size, 1, none⟩ = some (.int .i64 x.a) ∧ w'.cell? ⟨w.heap.size, 2, none⟩ = some (.int .i64 x.b)) (first | exact keepBox ha3 (by simpa using hs2) (by omega) (by omega) HVN.out (by assumption) | go_keep)
      (first | (go_at_call 145; refine (iPutSN B G G n0 v cs C x _ (by omega) (by omega) (H2.out.1.below (Below.drew (Below.refl _ _)))).mono ?_; rintro e w3 ⟨v3, rfl, hm3, hb3, ha3, hv3⟩))
    all_goals
      have hMv : v.ownBlock ≠ some M := H2.out.1.row.block (by omega)
      have hM3 : MapG w3 M C := (ha3 M (by have := H2.out.2.1.lt; simpa using this) (by omega) (by omega) hMv).trans (H2.out.2.1.below (Below.drew (Below.refl _ _)))
      have hM3v : v3.ownBlock ≠ some M := hm3.row.block (by omega)
      have hT3 := keepBox ha3 (by simpa using hs2) (by omega) (by omega) HVN.out ⟨t0, t1, t2⟩
      have H3 := Lib.hid (show MkS w3 G v3 n0 cs (C ++ [x]) ∧ Below B w w3 ∧ Apt G M v w w3 ∧ Moves v v3 w from by
        have hz := H2.out.2.2.2.size
        refine ⟨hm3, (H2.out.2.2.2.mono hBw).trans ((Below.drew (Below.refl B w2) : Below B w2 w2.drew).trans hb3), ?_, Moves.trans (.inl rfl) hv3 (by simpa using hz)⟩
        exact (Apt.of_below H2.out.2.2.2).trans (v' := v) (fun b hb h1 h2 h3 => ha3 b (by simpa using hb) h1 h1 h3) (.inl rfl) hz)
      have HM3 := Lib.hid hM3
      have HMV := Lib.hid hM3v
      have c2 := hm3.sh.oth 2 (by omega) hn0
      rw [HCS.out] at c2
      obtain ⟨q0, q1, q2⟩ := hT3
      clear hMv hM3 hM3v ha3 hb3 hv3 hm3 t0 t1 t2
      go_wp2_with fail
      refine wp_region_quiet_last (C := fun w' => ∃ n, w' = w3.drewN n) (by kernel_rfl) (by kernel_rfl) ⟨1, rfl⟩ ?_
      repeat (refine wpQL_step (fun K hK => ?_); go_simp; refine hK _ ?_; clear hK K)
      refine wpQL_one ?_
      rintro _ ⟨n, rfl⟩
      refine wpList_mapG rfl _ _ _ rfl M C x (by simp [Act.eval]) (HM3.out.below (below_drewN (Below.refl _ _) n)) (by simp [Act.eval, Gt.v]) (by simp [Act.eval]) HIX.out ?_
      intro w4 hm4 hg4
      have hbn : Below w3.heap.size w3 (w3.drewN n) := below_drewN (Below.refl _ _) n
      have H4 := Lib.hid (show MkS w4 G v3 n0 cs (C ++ [x]) ∧ Below B w w4 ∧ Apt G M v w w4 ∧ Moves v v3 w ∧ MapG w4 M (C ++ [x]) by
        have hz := H3.out.2.1.size
        refine ⟨⟨(H3.out.1.sh.below hbn).grown (u := .slice (some ⟨M, 0, none⟩) 0 0) hg4 (by simp [Value.ownBlock]; omega), World.ownsRow.kept (row := some M) (H3.out.1.row.below hbn) hg4 (.inr HMV.out)⟩, ?_, ?_, H3.out.2.2.2, hm4⟩
        · exact (H3.out.2.1.trans (hbn.mono (by omega))).trans ⟨hg4.os, hg4.tape, hg4.output, hg4.size, fun k hk => hg4.block k (by have := hbn.size; omega) (fun e => by injection e with e; omega)⟩
        · intro b hb h1 h2 h3
          exact (hg4.block b (by have := hbn.size; omega) (fun e => by injection e with e; omega)).trans ((hbn.block b (by omega)).trans (H3.out.2.2.1 b hb h1 h2 h3)))
      clear hbn hm4 hg4 c2 q0 q1 q2
      go_wp2_with fail
      go_ret
      exact ⟨⟨_, rfl, H4.out.1, H4.out.2.1, H4.out.2.2.1, H4.out.2.2.2.1⟩, H4.out.2.2.2.2⟩
theorem iShare (B G M : Nat) (p : Int) (v : Value) (C : List Gt) (x : Gt) (w : World) (hl : C.length ≤ 500) (hMG : M < G) (hBM : B ≤ M) (h : MkS w G v 3 (shC p M) C) (hm : MapG w M C) :
    Calls Try.prog 237 #[.pointer (some ⟨G, 0, none⟩), .agg #[.int .i64 x.k, .int .i64 x.a, .int .i64 x.b]] w (ShTo B G M p (shr x C).2 v ((shr x C).1 : Nat) w) :=
  iShareN B G M 3 v (shC p M) C x w (by omega) hMG hBM (by omega) rfl h hm
end Go.Proofs.Ytlidplmpglpkgaa
namespace Go.Proofs.Ytlidplmpglpkgaa
open Go.RowKit
/-- what a method of the program's maker leaves behind -/
def PtTo (B G M n : Nat) (cs : Nat → Value) (C : List Gt) (v : Value) (r : Int) (w : World) (e : Ending) (w' : World) : Prop := MkTo B G M n cs C v r w e w' ∧ MapG w' M C
set_option maxRecDepth 100000 in
set_option maxHeartbeats 4000000 in
theorem iPsum (B G M n : Nat) (v : Value) (cs : Nat → Value) (C : List Gt) (a b : Int) (w : World) (hl : C.length ≤ 8000) (hMG : M < G) (hBM : B ≤ M) (hn : 2 < n) (hcs : cs 2 = .map (some M)) (h0 : -1 ≤ a) (h1 : -1 ≤ b) (h : MkS w G v n cs C) (hm : MapG w M C) :
    Calls Try.prog 238 #[.pointer (some ⟨G, 0, none⟩), .int .i64 a, .int .i64 b] w (PtTo B G M n cs (smG a b C).2 v (smG a b C).1 w) := by
  unfold smG
  by_cases ha : a = -1
  · subst ha
    rw [if_pos (by decide)]
    have HM := Lib.hid (show PtTo B G M n cs C v b w (.returned (.int .i64 b)) w from ⟨⟨v, rfl, h, Below.refl _ _, Apt.of_below (Below.refl _ _), .inl rfl⟩, hm⟩)
    clear h hm
    go_enter Try.func238, Try.ntmps238
    go_wp2_with fail
    go_ret
    exact HM.out
  · rw [if_neg (by omega)]
    by_cases hb : b = -1
    · subst hb
      rw [if_pos (by decide)]
      have HM := Lib.hid (show PtTo B G M n cs C v a w (.returned (.int .i64 a)) w from ⟨⟨v, rfl, h, Below.refl _ _, Apt.of_below (Below.refl _ _), .inl rfl⟩, hm⟩)
      clear h hm
      go_enter Try.func238, Try.ntmps238
      go_wp2_with fail
      go_ret
      exact HM.out
    · rw [if_neg (by omega)]
      have HS := Lib.hid (iShareN B G M n v cs C ⟨2, a, b⟩ w hl hMG hBM hn hcs h hm)
      clear h hm hcs
      go_enter Try.func238, Try.ntmps238
      go_wp2_with fail
      refine HS.out.mono ?_
      rintro e w2 ⟨⟨v2, rfl, hm, hb2, ha2, hv2⟩, hm2⟩
      have H2 := Lib.hid (And.intro hm (And.intro hb2 (And.intro ha2 hv2)))
      have H3 := Lib.hid hm2
      clear hm hb2 ha2 hv2 hm2
      go_wp2_with fail
      go_ret
      exact ⟨⟨_, rfl, H2.out⟩, H3.out⟩
set_option maxRecDepth 100000 in
set_option maxHeartbeats 4000000 in
theorem iPprod (B G M n : Nat) (v : Value) (cs : Nat → Value) (C : List Gt) (a b : Int) (w : World) (hl : C.length ≤ 8000) (hMG : M < G) (hBM : B ≤ M) (hn : 2 < n) (hcs : cs 2 = .map (some M)) (h0 : -1 ≤ a) (h1 : -1 ≤ b) (h : MkS w G v n cs C) (hm : MapG w M C) :
    Calls Try.prog 241 #[.pointer (some ⟨G, 0, none⟩), .int .i64 a, .int .i64 b] w (PtTo B G M n cs (pdG a b C).2 v (pdG a b C).1 w) := by
  unfold pdG
  by_cases hab : a < 0 ∨ b < 0
  · rw [if_pos hab]
    have HM := Lib.hid (show PtTo B G M n cs C v (-1) w (.returned (.int .i64 (-1))) w from ⟨⟨v, rfl, h, Below.refl _ _, Apt.of_below (Below.refl _ _), .inl rfl⟩, hm⟩)
    clear h hm
    by_cases ha : a = -1
    · go_enter Try.func241, Try.ntmps241
      go_wp2_with fail
      go_ret
      exact HM.out
    · have hb : b = -1 := by omega
      clear hab
      go_enter Try.func241, Try.ntmps241
      go_wp2_with fail
      go_ret
      exact HM.out
  · rw [if_neg hab]
    have ha : ¬ a = -1 := fun e => hab (.inl (by omega))
    have hb : ¬ b = -1 := fun e => hab (.inr (by omega))
    have ha9 : (a == -1) = false := by simpa using ha
    have hb9 : (b == -1) = false := by simpa using hb
    have HS := Lib.hid (iShareN B G M n v cs C ⟨3, a, b⟩ w hl hMG hBM hn hcs h hm)
    clear h hm hcs hab
    go_enter Try.func241, Try.ntmps241
    go_wp2_with fail
    refine HS.out.mono ?_
    rintro e w2 ⟨⟨v2, rfl, hm, hb2, ha2, hv2⟩, hm2⟩
    have H2 := Lib.hid (And.intro hm (And.intro hb2 (And.intro ha2 hv2)))
    have H3 := Lib.hid hm2
    clear hm hb2 ha2 hv2 hm2
    go_wp2_with fail
    go_ret
    exact ⟨⟨_, rfl, H2.out⟩, H3.out⟩
end Go.Proofs.Ytlidplmpglpkgaa
namespace Go.Proofs.Ytlidplmpglpkgaa
open Go.RowKit
theorem infoA10 : (Try.prog.info? 168).map (fun i => (i.zero, i.size, i.bytes)) = some (some (.agg #[.int .i64 0, .int .i64 0, .int .i64 0, .int .i64 0, .int .i64 0, .int .i64 0, .int .i64 0, .int .i64 0, .int .i64 0, .int .i64 0]), 10, 80) := by kernel_rfl
/-- the cells of the program's maker but the first one -/
def piC (p : Int) (M : Nat) (pv : Value) (i : Nat) : Value := if i = 1 then .int .i64 p else if i = 2 then .map (some M) else pv
/-- ten places -/
def padR (r : List Int) : List Int := r ++ List.replicate (10 - r.length) 0
theorem padR_len {r : List Int} (h : r.length ≤ 10) : (padR r).length = 10 := by
  unfold padR
  rw [List.length_append, List.length_replicate]
  omega
theorem padR_at (r : List Int) (d : Nat) : (padR r).getD d 0 = r.getD d 0 := by
  unfold padR
  by_cases h : d < r.length
  · rw [List.getD_eq_getElem?_getD, List.getElem?_append_left h, ← List.getD_eq_getElem?_getD]
  · rw [List.getD_eq_getElem?_getD, List.getElem?_append_right (by omega), List.getD_eq_getElem?_getD, List.getElem?_eq_none (show r.length ≤ d by omega), List.getElem?_replicate]
    split <;> rfl
theorem padR_set {r : List Int} {a : Int} (h : r.length < 10) : (padR r).set r.length a = padR (r ++ [a]) := by
  unfold padR
  rw [List.set_append_right _ _ (Nat.le_refl _), Nat.sub_self, List.length_append, List.length_singleton, show 10 - r.length = (10 - (r.length + 1)) + 1 by omega, List.replicate_succ, List.set_cons_zero, List.append_assoc]
  rfl
def iv (n : Int) : Value := .int .i64 n
/-- the cells of rows of places -/
def flP (P : List (List Int)) : List Value := P.flatMap fun r => (padR r).map iv
theorem flP_len {P : List (List Int)} (h : ∀ r ∈ P, r.length ≤ 10) : (flP P).length = P.length * 10 := by
  induction P with
  | nil => rfl
  | cons r P ih =>
    have h1 := ih fun q hq => h q (by simp [hq])
    unfold flP at h1 ⊢
    rw [List.flatMap_cons, List.length_append, h1, List.length_map, padR_len (h r (by simp)), List.length_cons]
    omega
theorem flP_snoc (P : List (List Int)) (r : List Int) : flP (P ++ [r]) = flP P ++ (padR r).map iv := by
  unfold flP
  rw [List.flatMap_append]
  simp
theorem flP_at {P : List (List Int)} (h : ∀ r ∈ P, r.length ≤ 10) : ∀ i, i < P.length → ∀ d, d < 10 → (flP P)[i * 10 + d]? = some (.int .i64 (pcl P i d)) := by
  induction P with
  | nil => intro i hi; exact absurd hi (Nat.not_lt_zero i)
  | cons r P ih =>
    intro i hi d hd
    have hr := padR_len (h r (by simp))
    unfold flP
    rw [List.flatMap_cons]
    cases i with
    | zero =>
      rw [List.getElem?_append_left (by rw [List.length_map, hr]; omega), Nat.zero_mul, Nat.zero_add, List.getElem?_map]
      have : (padR r)[d]? = some ((padR r).getD d 0) := by rw [List.getD_eq_getElem?_getD]; rw [List.getElem?_eq_getElem (by omega)]; rfl
      rw [this, padR_at]
      rfl
    | succ i =>
      rw [List.getElem?_append_right (by rw [List.length_map, hr]; omega), List.length_map, hr, show (i + 1) * 10 + d - 10 = i * 10 + d by omega]
      have := ih (fun q hq => h q (by simp [hq])) i (by simpa using hi) d hd
      unfold flP at this
      rw [this]
      rfl
/-- a block of integers that may be written -/
structure ArW (w : World) (H : Nat) (b : List Int) : Prop where
  lt : H < w.heap.size
  c : ∀ j, j < b.length → w.cell? ⟨H, j, none⟩ = some (.int .i64 (b.getD j 0))
  f : ∀ j, j < b.length → w.frozen? ⟨H, j, none⟩ = false
theorem ArW.below {w w' : World} {H : Nat} {b : List Int} (h : ArW w H b) (hb : Below w.heap.size w w') : ArW w' H b :=
  ⟨Nat.lt_of_lt_of_le h.lt hb.size, fun j hj => by rw [hb.cell (p := ⟨H, j, none⟩) h.lt]; exact h.c j hj, fun j hj => by rw [hb.frozen (p := ⟨H, j, none⟩) h.lt]; exact h.f j hj⟩
theorem ArW.same {w w' : World} {H : Nat} {b : List Int} (h : ArW w H b) (hs : w.heap.size ≤ w'.heap.size) (e : w'.heap[H]? = w.heap[H]?) : ArW w' H b :=
  ⟨Nat.lt_of_lt_of_le h.lt hs, fun j hj => by rw [World.cell?_of_block (a := ⟨H, j, none⟩) e]; exact h.c j hj, fun j hj => by rw [World.frozen?_of_block (a := ⟨H, j, none⟩) e]; exact h.f j hj⟩
theorem ArW.set {w : World} {H j : Nat} {b : List Int} (h : ArW w H b) (hj : j < b.length) (v : Int) : ArW (w.setCell ⟨H, j, none⟩ (.int .i64 v)) H (b.set j v) := by
  refine ⟨by simpa using h.lt, fun i hi => ?_, fun i hi => by rw [World.frozen?_setCell]; exact h.f i (by simpa using hi)⟩
  by_cases e : i = j
  · subst e
    rw [World.cell?_setCell_same _ _ _ (h.c i hj)]
    simp [List.getD_eq_getElem?_getD, hj]
  · rw [World.cell?_setCell_other _ _ _ _ (addr_ne (by omega)), h.c i (by simpa using hi)]
    simp [List.getD_eq_getElem?_getD, Ne.symm e]
/-- the state of the program's maker -/
structure PsI (w : World) (G M : Nat) (p : Int) (v pv : Value) (C : List Gt) (P : List (List Int)) (Z : Nat) : Prop where
  ms : MkS w G v 4 (piC p M pv) C
  mp : MapG w M C
  row : w.ownsRow (G + 1) 168 10 pv P.length (flP P)
  wd : ∀ r ∈ P, r.length ≤ 10
  kp : ∀ b, pv.ownBlock = some b → b < Z ∧ Kp w G M v b
  mg : M < G
theorem PsI.below {w w' : World} {G M Z : Nat} {p : Int} {v pv : Value} {C : List Gt} {P : List (List Int)} (h : PsI w G M p v pv C P Z) (hb : Below w.heap.size w w') : PsI w' G M p v pv C P Z :=
  ⟨h.ms.below hb, h.mp.below hb, owns_same h.row (fun b hq => hb.block b (h.kp b hq).2.lt), h.wd, fun b hq => ⟨(h.kp b hq).1, (h.kp b hq).2.below hb⟩, h.mg⟩
theorem PsI.step {w w' : World} {G M Z : Nat} {p : Int} {v v' pv : Value} {C C' : List Gt} {P : List (List Int)} (h : PsI w G M p v pv C P Z) (hm : MkS w' G v' 4 (piC p M pv) C') (hmp : MapG w' M C') (ha : Apt G M v w w') (hv : Moves v v' w) (hs : w.heap.size ≤ w'.heap.size) : PsI w' G M p v' pv C' P Z :=
  ⟨hm, hmp, owns_same h.row (fun b hq => ((h.kp b hq).2.step ha hv hs).2), h.wd, fun b hq => ⟨(h.kp b hq).1, ((h.kp b hq).2.step ha hv hs).1⟩, h.mg⟩
theorem PsI.mono {w : World} {G M Z Z' : Nat} {p : Int} {v pv : Value} {C : List Gt} {P : List (List Int)} (h : PsI w G M p v pv C P Z) (hz : Z ≤ Z') : PsI w G M p v pv C P Z' :=
  ⟨h.ms, h.mp, h.row, h.wd, fun b hq => ⟨Nat.lt_of_lt_of_le (h.kp b hq).1 hz, (h.kp b hq).2⟩, h.mg⟩
theorem PsI.form {w : World} {G M Z : Nat} {p : Int} {v pv : Value} {C : List Gt} {P : List (List Int)} (h : PsI w G M p v pv C P Z) (hp : 0 < P.length) : ∃ pg pc, pv = .slice (some ⟨pg, 0, none⟩) P.length pc := by
  obtain ⟨g, c, h1, _⟩ := World.ownsRow.form h.row hp
  exact ⟨g, c, h1⟩
theorem PsI.at {w : World} {G M Z pg pc i d : Nat} {p : Int} {v : Value} {C : List Gt} {P : List (List Int)} (h : PsI w G M p v (.slice (some ⟨pg, 0, none⟩) P.length pc) C P Z) (hi : i < P.length) (hd : d < 10) :
    w.cell? ⟨pg, i * 10 + d, none⟩ = some (.int .i64 (pcl P i d)) := by
  rw [World.ownsRow.cellAt h.row (i * 10 + d) (by omega)]
  exact flP_at h.wd i hi d hd
end Go.Proofs.Ytlidplmpglpkgaa
namespace Go.Proofs.Ytlidplmpglpkgaa
open Go.RowKit
/-- the world inside putProductPart: the maker, the gate in its box, and what was left alone -/
structure QSr (w wr : World) (B G M n Z : Nat) (p : Int) (v v2 pv : Value) (C : List Gt) (P : List (List Int)) (x : Gt) : Prop where
  ps : PsI wr G M p v2 pv C P Z
  box : GAt wr n 0 x
  kn : Kp wr G M v2 n
  low : Below B w wr
  ap : Apt G M v w wr
  mv : Moves v v2 w
theorem QSr.below {w wr w' : World} {B G M n Z : Nat} {p : Int} {v v2 pv : Value} {C : List Gt} {P : List (List Int)} {x : Gt} (h : QSr w wr B G M n Z p v v2 pv C P x) (hB : B ≤ w.heap.size) (hb : Below wr.heap.size wr w') : QSr w w' B G M n Z p v v2 pv C P x :=
  ⟨h.ps.below hb, h.box.below hb h.kn.lt, h.kn.below hb, h.low.trans (hb.mono (Nat.le_trans hB h.low.size)), h.ap.trans (Apt.of_below hb) h.mv h.low.size, h.mv⟩
theorem QSr.step {w wr w' : World} {B G M n Z : Nat} {p : Int} {v v2 v3 pv : Value} {C C' : List Gt} {P : List (List Int)} {x : Gt} (h : QSr w wr B G M n Z p v v2 pv C P x) (hm : MkS w' G v3 4 (piC p M pv) C') (hmp : MapG w' M C') (hb : Below B wr w') (ha : Apt G M v2 wr w') (hv : Moves v2 v3 wr) : QSr w w' B G M n Z p v v3 pv C' P x := by
  have hn := h.kn.step ha hv hb.size
  refine ⟨h.ps.step hm hmp ha hv hb.size, ?_, hn.1, h.low.trans hb, h.ap.trans ha h.mv h.low.size, h.mv.trans hv h.low.size⟩
  obtain ⟨c0, c1, c2⟩ := h.box
  exact ⟨kpCell c0 hn.2, kpCell c1 hn.2, kpCell c2 hn.2⟩
theorem PsI.boxed {w W : World} {B G M Z : Nat} {p : Int} {v pv : Value} {C : List Gt} {P : List (List Int)} {x : Gt} (h : PsI w G M p v pv C P Z) (hB : B ≤ w.heap.size) (hW : W = w.alloc (Obj.cells #[.int .i64 x.k, .int .i64 x.a, .int .i64 x.b] 137)) : QSr w W B G M w.heap.size Z p v v pv C P x := by
  have bW : Below w.heap.size w W := by rw [hW]; exact Below.alloc (Below.refl _ _) (Nat.le_refl _) _
  have hG := h.ms.sh.lt
  have hM := h.mg
  refine ⟨h.below bW, by rw [hW]; refine ⟨?_, ?_, ?_⟩ <;> simp [go_sem], ⟨by rw [hW]; simp, by omega, by omega, fun e => by have := (World.ownsRow.lt h.ms.row _ e).2; omega⟩, bW.mono hB, Apt.of_below bW, .inl rfl⟩
theorem piC3 (p : Int) (M : Nat) (pv : Value) : piC p M pv 3 = pv := rfl
theorem piC2 (p : Int) (M : Nat) (pv : Value) : piC p M pv 2 = .map (some M) := rfl
set_option maxRecDepth 100000 in
set_option maxHeartbeats 8000000 in
theorem iPprodPart (p : Int) (B G M A D d k : Nat) (v pv : Value) (C : List Gt) (P : List (List Int)) (Z : Nat) (w : World) (hl : C.length + 2 * (d + 1) ≤ 8000) (hP60 : P.length ≤ 60) (hBM : B ≤ M) (hd : d ≤ k) (hk : k ≤ 9) (hA : A < P.length) (hD : D < P.length) (hok : AllOK p C) (hin : AllIn P k C) (h : PsI w G M p v pv C P Z) :
    Calls Try.prog 239 #[.pointer (some ⟨G, 0, none⟩), .agg #[.int .i64 3, .int .i64 (A : Int), .int .i64 (D : Int)], .int .i64 (d : Int)] w (PtTo B G M 4 (piC p M pv) (cvK P A D d C (d + 1)).2 v (cvK P A D d C (d + 1)).1 w) := by
  obtain ⟨pg, pc, rfl⟩ := h.form (by omega)
  have hMG := h.mg
  have hGw := h.ms.sh.lt
  have hPl : (P.length : Int) ≤ 60 := by omega
  have hAi : (A : Int) < (P.length : Int) := by omega
  have hDi : (D : Int) < (P.length : Int) := by omega
  have hA0 : (0 : Int) ≤ (A : Int) := by omega
  have hD0 : (0 : Int) ≤ (D : Int) := by omega
  have hd9 : (d : Int) ≤ 9 := by omega
  have hd0 : (0 : Int) ≤ (d : Int) := by omega
  obtain ⟨T, hTe⟩ : ∃ T : Nat → Int × List Gt, T = cvK P A D d C := ⟨_, rfl⟩
  have HT0 := Lib.hid (show T 0 = (-1, C) by rw [hTe]; rfl)
  have HTS := Lib.hid (fun i => show T (i + 1) = smG (T i).1 (pdG (pcl P A i) (pcl P D (d - i)) (T i).2).1 (pdG (pcl P A i) (pcl P D (d - i)) (T i).2).2 by rw [hTe]; rfl)
  have HTO := Lib.hid (fun i (hi : i < d + 1) => show ((T i).2.length ≤ 8000 ∧ (pdG (pcl P A i) (pcl P D (d - i)) (T i).2).2.length ≤ 8000) ∧ -1 ≤ (T i).1 ∧ (-1 ≤ pcl P A i ∧ -1 ≤ pcl P D (d - i)) ∧ -1 ≤ (pdG (pcl P A i) (pcl P D (d - i)) (T i).2).1 by
    have h1 := cvK_ok hok hin hA hD hd i (by omega)
    rw [← hTe] at h1
    have h2 := h1.hi
    have h3 := pdG_len (pcl P A i) (pcl P D (d - i)) (T i).2
    have h4 := hin A i hA (by omega)
    have h5 := hin D (d - i) hD (by omega)
    have h6 := pdG_ok h1.ok (h4.mono h1.lo) (h5.mono h1.lo)
    exact ⟨⟨by omega, by omega⟩, h1.pl.1, ⟨h4.1, h5.1⟩, h6.pl.1⟩)
  rw [← hTe]
  clear hTe
  obtain ⟨W, hW⟩ : ∃ W, W = w.alloc (Obj.cells #[.int .i64 3, .int .i64 (A : Int), .int .i64 (D : Int)] 137) := ⟨_, rfl⟩
  have HQ0 := Lib.hid (h.boxed (B := B) (x := ⟨3, (A : Int), (D : Int)⟩) (by omega) hW)
  have HW := Lib.hid hW
  clear hW h
  go_enter Try.func239, Try.ntmps239
  go_wp2_with fail
  rw [← HW.out]
  obtain ⟨n, hn⟩ : ∃ n, n = w.heap.size := ⟨_, rfl⟩
  have hBw : B ≤ w.heap.size := by omega
  rw [← hn] at HQ0 ⊢
  clear HW hn
  go_loopw [7, 12] (fun at0 i wr => ∃ (j : Nat) (v2 : Value), j ≤ d + 1 ∧ i = .int .i64 j ∧ at0 = .int .i64 (T j).1 ∧ QSr w wr B G M n Z p v v2 (.slice (some ⟨pg, 0, none⟩) P.length pc) (T j).2 P ⟨3, (A : Int), (D : Int)⟩) (fun _ i _ => d + 1 - (intOf i).toNat)
  case atStart => exact ⟨0, v, by omega, rfl, by rw [HT0.out], by rw [HT0.out]; exact HQ0.out⟩
  case round =>
    clear HQ0
    obtain ⟨j, v2, hj, rfl, rfl, hq⟩ := hrel
    have hj0 : (0 : Int) ≤ (j : Int) := by omega
    by_cases hjt : j < d + 1
    · have hjtp : (j : Int) < (d : Int) + 1 := by omega
      have hj10 : (j : Int) < 10 := by omega
      obtain ⟨dm, hdm⟩ : ∃ dm : Nat, dm = d - j := ⟨_, rfl⟩
      have hdm10 : (dm : Int) < 10 := by omega
      have hdm0 : (0 : Int) ≤ (dm : Int) := by omega
      have hsub : IntKind.i64.wrap ((d : Int) - (j : Int)) = (dm : Int) := by rw [IntWalk.i64_in _ (by omega)]; omega
      obtain ⟨pa, hpa⟩ : ∃ a, a = pcl P A j := ⟨_, rfl⟩
      obtain ⟨pb, hpb⟩ : ∃ a, a = pcl P D dm := ⟨_, rfl⟩
      obtain ⟨c0, c1, c2⟩ := hq.box
      simp only [Nat.zero_add] at c0 c1 c2
      have ra0 := hq.ps.at (d := j) hA (by omega)
      have rb0 := hq.ps.at (d := dm) hD (by omega)
      have kpg := (hq.ps.kp pg rfl).2
      have c3 := hq.ps.ms.sh.oth 3 (by omega) (by omega)
      rw [piC3] at c3
      rw [← hpa] at ra0
      rw [← hpb] at rb0
      have hts := HTS.out j
      have hto := HTO.out j hjt
      rw [← hdm, ← hpa, ← hpb] at hts hto
      obtain ⟨tj, htj⟩ : ∃ a, a = (T j).1 := ⟨_, rfl⟩
      obtain ⟨Cj, hCj⟩ : ∃ a, a = (T j).2 := ⟨_, rfl⟩
      rw [← htj, ← hCj] at hts hto
      rw [← hCj] at hq
      obtain ⟨a1, ha1⟩ : ∃ a, a = (pdG pa pb Cj).1 := ⟨_, rfl⟩
      obtain ⟨C3, hC3⟩ : ∃ a, a = (pdG pa pb Cj).2 := ⟨_, rfl⟩
      rw [← ha1, ← hC3] at hts hto
      have HPD := Lib.hid (fun w' (h : MkS w' G v2 4 (piC p M (.slice (some ⟨pg, 0, none⟩) P.length pc)) Cj) (hm : MapG w' M Cj) => iPprod B G M 4 v2 (piC p M (.slice (some ⟨pg, 0, none⟩) P.length pc)) Cj pa pb w' hto.1.1 hMG hBM (by omega) (piC2 _ _ _) hto.2.2.1.1 hto.2.2.1.2 h hm)
      rw [← ha1, ← hC3] at HPD
      have HSU := Lib.hid (fun v3 w' (h : MkS w' G v3 4 (piC p M (.slice (some ⟨pg, 0, none⟩) P.length pc)) C3) (hm : MapG w' M C3) => iPsum B G M 4 v3 (piC p M (.slice (some ⟨pg, 0, none⟩) P.length pc)) C3 tj a1 w' hto.1.2 hMG hBM (by omega) (piC2 _ _ _) hto.2.1 hto.2.2.2 h hm)
      rw [← hts] at HSU
      rw [← htj]
      obtain ⟨tn, htn⟩ : ∃ a, a = (T (j + 1)).1 := ⟨_, rfl⟩
      obtain ⟨Cn, hCn⟩ : ∃ a, a = (T (j + 1)).2 := ⟨_, rfl⟩
      rw [← htn, ← hCn] at HSU
      have HTN := Lib.hid (And.intro htn hCn)
      have HQ := Lib.hid hq
      clear htn hCn hts hto htj hCj ha1 hC3 hpa hpb hdm hq
      go_wp2_with fail
      refine wp_region_seq [(0, true), (1, true), (2, true), (3, true), (4, true), (5, true), (6, true), (7, true), (8, true), (9, true), (10, true), (11, true), (12, true), (13, true), (14, true), (15, true), (16, true), (17, true), (18, true), (19, true), (20, true), (21, true), (22, true), (23, false)] (fun w' => w'.cell? ⟨n, 1, none⟩ = some (.int .i64 A) ∧ w'.cell? ⟨n, 2, none⟩ = some (.int .i64 D) ∧ w'.cell? ⟨G, 3, none⟩ = some (.slice (some ⟨pg, 0, none⟩) P.length pc) ∧ w'.cell? ⟨pg, A * 10 + j, none⟩ = some (.int .i64 pa) ∧ w'.cell? ⟨pg, D * 10 + dm, none⟩ = some (.int .i64 pb)) (by kernel_rfl) (by kernel_rfl) rfl (by intro c a d v w h; cases d <;> exact h) ⟨c1, c2, c3, ra0, rb0⟩ ?_
      iterate 23 (refine wpSeq_take (v := ?_) (List.getElem?_toArray.trans rfl) ?_ ?_; rotate_left; (intro w' hSw; (try dsimp only at hSw); go_simp; (try with_reducible rfl)); (try simp only [Act.put, List.setIfInBounds_toArray, List.set_cons_zero, List.set_cons_succ]))
      refine wpSeq_do (List.getElem?_toArray.trans rfl) (fun K hK => ?_)
      go_simp
      have hdr : Below wr.heap.size wr wr.drew := Below.drew (Below.refl _ _)
      have HQd := Lib.hid (HQ.out.below hBw hdr)
      refine (HPD.out _ HQd.out.ps.ms HQd.out.ps.mp).mono ?_
      rintro e w5 ⟨⟨v5, rfl, hm2, hb2, ha2, hv2⟩, hmp2⟩
      have H5 := Lib.hid (HQd.out.step hm2 hmp2 hb2 ha2 hv2)
      have hsame := ((kpg.below hdr).step ha2 hv2 hb2.size).2.trans (hdr.block pg kpg.lt)
      obtain ⟨d0, d1, d2⟩ := H5.out.box
      simp only [Nat.zero_add] at d0 d1 d2
      have d3 := H5.out.ps.ms.sh.oth 3 (by omega) (by omega)
      rw [piC3] at d3
      refine hK _ _ ⟨d1, d2, d3, kpCell ra0 hsame, kpCell rb0 hsame⟩ ?_
      clear hK K hm2 hb2 ha2 hv2 hmp2 hsame c0 c1 c2 c3 kpg ra0 rb0 d0 d1 d2 d3
      refine wpSeq_nil ?_
      simp only [Exit.then]
      go_wp2_with fail
      refine (HSU.out _ _ H5.out.ps.ms H5.out.ps.mp).mono ?_
      rintro e w6 ⟨⟨v6, rfl, hm2, hb2, ha2, hv2⟩, hmp2⟩
      have H6 := Lib.hid (H5.out.step hm2 hmp2 hb2 ha2 hv2)
      clear hm2 hb2 ha2 hv2 hmp2
      go_wp2_with fail
      go_roundw
      case rel => exact ⟨j + 1, v6, by omega, by go_num, by rw [HTN.out.1], by rw [← HTN.out.2]; exact H6.out⟩
      case measure => simp [intOf]; omega
    · have hjd : j = d + 1 := by omega
      subst hjd
      have HQ := Lib.hid hq
      clear hq
      go_wp2_with fail
      go_ret
      exact ⟨⟨v2, rfl, HQ.out.ps.ms, HQ.out.low, HQ.out.ap, HQ.out.mv⟩, HQ.out.ps.mp⟩
end Go.Proofs.Ytlidplmpglpkgaa
namespace Go.Proofs.Ytlidplmpglpkgaa
open Go.RowKit
set_option maxRecDepth 100000 in
set_option maxHeartbeats 8000000 in
theorem iPpart (p : Int) (B G M d k : Nat) (v pv : Value) (C : List Gt) (P : List (List Int)) (x : Gt) (Z : Nat) (w : World) (hl : C.length + 2 * (d + 1) ≤ 8000) (hP60 : P.length ≤ 60) (hBM : B ≤ M) (hd : d ≤ k) (hk : k ≤ 9) (hx : gOK (p - 1) x (P.length : Nat) = true) (hok : AllOK p C) (hin : AllIn P k C) (h : PsI w G M p v pv C P Z) :
    Calls Try.prog 234 #[.pointer (some ⟨G, 0, none⟩), .agg #[.int .i64 x.k, .int .i64 x.a, .int .i64 x.b], .int .i64 (d : Int)] w (PtTo B G M 4 (piC p M pv) (ptG P x d C).2 v (ptG P x d C).1 w) := by
  have hc := gOK_cases hx
  have hMG := h.mg
  have hGw := h.ms.sh.lt
  have hd9 : (d : Int) ≤ 9 := by omega
  have hd0 : (0 : Int) ≤ (d : Int) := by omega
  have hBw : B ≤ w.heap.size := by omega
  obtain ⟨W, hW⟩ : ∃ W, W = w.alloc (Obj.cells #[.int .i64 x.k, .int .i64 x.a, .int .i64 x.b] 137) := ⟨_, rfl⟩
  have HQ := Lib.hid (h.boxed (B := B) (x := x) hBw hW)
  obtain ⟨n, hn⟩ : ∃ n, n = w.heap.size := ⟨_, rfl⟩
  rw [← hn] at HQ
  have HN := Lib.hid hn
  have HW := Lib.hid hW
  have HPP := Lib.hid (fun A D w' (hA : A < P.length) (hD : D < P.length) (h : PsI w' G M p v pv C P Z) => iPprodPart p B G M A D d k v pv C P Z w' hl hP60 hBM hd hk hA hD hok hin h)
  have HIN := Lib.hid hin
  clear hW hn h
  obtain ⟨xk, xa, xb⟩ := x
  obtain ⟨b0, b1, b2⟩ := HQ.out.box
  simp only [Nat.zero_add] at b0 b1 b2
  simp only at hc
  rcases hc with ⟨rfl, hc⟩ | ⟨rfl, hc⟩ | ⟨hkk, hc⟩
  · obtain ⟨-, -, rfl⟩ := hc
    by_cases hd1 : d = 1
    · have hb1 : ((d : Int) == 1) = true := by rw [hd1]; rfl
      obtain ⟨a, hae⟩ : ∃ a, a = (((shr (⟨0, xa, 0⟩ : Gt) C).1 : Nat) : Int) := ⟨_, rfl⟩
      obtain ⟨C2, hCe⟩ : ∃ C2, C2 = (shr (⟨0, xa, 0⟩ : Gt) C).2 := ⟨_, rfl⟩
      have hres : ptG P (⟨0, xa, 0⟩ : Gt) d C = (a, C2) := by
        rw [hae, hCe]
        unfold ptG
        simp only [hd1, if_true]
        rfl
      rw [hres]
      have HSH := Lib.hid (fun w' (h : MkS w' G v 4 (piC p M pv) C) (hm : MapG w' M C) => iShareN B G M 4 v (piC p M pv) C (⟨0, xa, 0⟩ : Gt) w' (by omega) hMG hBM (by omega) (piC2 _ _ _) h hm)
      rw [← hae, ← hCe] at HSH
      clear hae hCe hres
      go_enter Try.func234, Try.ntmps234
      go_wp2_with fail
      rw [← HW.out, ← HN.out]
      refine wp_region_seq [(0, true), (1, true), (2, true), (3, true), (4, false)] (fun w' => w'.cell? ⟨n, 0, none⟩ = some (.int .i64 0) ∧ w'.cell? ⟨n, 1, none⟩ = some (.int .i64 xa) ∧ w'.cell? ⟨n, 2, none⟩ = some (.int .i64 0)) (by kernel_rfl) (by kernel_rfl) rfl (by intro c a d v w h; cases d <;> exact h) ⟨b0, b1, b2⟩ ?_
      iterate 4 (refine wpSeq_take (v := ?_) (List.getElem?_toArray.trans rfl) ?_ ?_; rotate_left; (intro w' hSw; (try dsimp only at hSw); go_simp; (try with_reducible rfl)); (try simp only [Act.put, List.setIfInBounds_toArray, List.set_cons_zero, List.set_cons_succ]))
      refine wpSeq_do (List.getElem?_toArray.trans rfl) (fun K hK => ?_)
      go_simp
      have hdr : Below W.heap.size W W.drew := Below.drew (Below.refl _ _)
      have HQd := Lib.hid (HQ.out.below hBw hdr)
      refine (HSH.out _ HQd.out.ps.ms HQd.out.ps.mp).mono ?_
      rintro e w5 ⟨⟨v5, rfl, hm2, hb2, ha2, hv2⟩, hmp2⟩
      have H5 := Lib.hid (HQd.out.step hm2 hmp2 hb2 ha2 hv2)
      obtain ⟨d0, d1, d2⟩ := H5.out.box
      simp only [Nat.zero_add] at d0 d1 d2
      refine hK _ _ ⟨d0, d1, d2⟩ ?_
      clear hK K hm2 hb2 ha2 hv2 hmp2 b0 b1 b2 d0 d1 d2
      refine wpSeq_nil ?_
      simp only [Exit.then]
      go_wp2_with fail
      go_ret
      exact ⟨⟨v5, rfl, H5.out.ps.ms, H5.out.low, H5.out.ap, H5.out.mv⟩, H5.out.ps.mp⟩
    · have hb1 : ((d : Int) == 1) = false := by simp; omega
      have hres : ptG P (⟨0, xa, 0⟩ : Gt) d C = (-1, C) := by
        unfold ptG
        simp only [hd1, if_true, if_false]
      rw [hres]
      clear hres
      go_enter Try.func234, Try.ntmps234
      go_wp2_with fail
      rw [← HW.out]
      go_ret
      exact ⟨⟨v, rfl, HQ.out.ps.ms, HQ.out.low, HQ.out.ap, HQ.out.mv⟩, HQ.out.ps.mp⟩
  · obtain ⟨hx0, -, rfl⟩ := hc
    by_cases hd1 : d = 0 ∧ xa ≠ 0
    · have hb1 : ((d : Int) == 0) = true := by rw [hd1.1]; rfl
      have hb2 : (xa != 0) = true := by simpa using hd1.2
      obtain ⟨a, hae⟩ : ∃ a, a = (((shr (⟨1, xa, 0⟩ : Gt) C).1 : Nat) : Int) := ⟨_, rfl⟩
      obtain ⟨C2, hCe⟩ : ∃ C2, C2 = (shr (⟨1, xa, 0⟩ : Gt) C).2 := ⟨_, rfl⟩
      have hres : ptG P (⟨1, xa, 0⟩ : Gt) d C = (a, C2) := by
        rw [hae, hCe]
        unfold ptG
        simp only [hd1.1, hd1.2, ne_eq, not_false_eq_true, and_self, if_true, if_false, Int.one_ne_zero]
        rfl
      rw [hres]
      have HSH := Lib.hid (fun w' (h : MkS w' G v 4 (piC p M pv) C) (hm : MapG w' M C) => iShareN B G M 4 v (piC p M pv) C (⟨1, xa, 0⟩ : Gt) w' (by omega) hMG hBM (by omega) (piC2 _ _ _) h hm)
      rw [← hae, ← hCe] at HSH
      clear hae hCe hres
      go_enter Try.func234, Try.ntmps234
      go_wp2_with fail
      rw [← HW.out, ← HN.out]
      refine wp_region_seq [(0, true), (1, true), (2, true), (3, true), (4, false)] (fun w' => w'.cell? ⟨n, 0, none⟩ = some (.int .i64 1) ∧ w'.cell? ⟨n, 1, none⟩ = some (.int .i64 xa) ∧ w'.cell? ⟨n, 2, none⟩ = some (.int .i64 0)) (by kernel_rfl) (by kernel_rfl) rfl (by intro c a d v w h; cases d <;> exact h) ⟨b0, b1, b2⟩ ?_
      iterate 4 (refine wpSeq_take (v := ?_) (List.getElem?_toArray.trans rfl) ?_ ?_; rotate_left; (intro w' hSw; (try dsimp only at hSw); go_simp; (try with_reducible rfl)); (try simp only [Act.put, List.setIfInBounds_toArray, List.set_cons_zero, List.set_cons_succ]))
      refine wpSeq_do (List.getElem?_toArray.trans rfl) (fun K hK => ?_)
      go_simp
      have hdr : Below W.heap.size W W.drew := Below.drew (Below.refl _ _)
      have HQd := Lib.hid (HQ.out.below hBw hdr)
      refine (HSH.out _ HQd.out.ps.ms HQd.out.ps.mp).mono ?_
      rintro e w5 ⟨⟨v5, rfl, hm2, hb2, ha2, hv2⟩, hmp2⟩
      have H5 := Lib.hid (HQd.out.step hm2 hmp2 hb2 ha2 hv2)
      obtain ⟨d0, d1, d2⟩ := H5.out.box
      simp only [Nat.zero_add] at d0 d1 d2
      refine hK _ _ ⟨d0, d1, d2⟩ ?_
      clear hK K hm2 hb2 ha2 hv2 hmp2 b0 b1 b2 d0 d1 d2
      refine wpSeq_nil ?_
      simp only [Exit.then]
      go_wp2_with fail
      go_ret
      exact ⟨⟨v5, rfl, H5.out.ps.ms, H5.out.low, H5.out.ap, H5.out.mv⟩, H5.out.ps.mp⟩
    · have hres : ptG P (⟨1, xa, 0⟩ : Gt) d C = (-1, C) := by
        unfold ptG
        simp only [hd1, if_true, if_false, Int.one_ne_zero]
      rw [hres]
      clear hres
      by_cases hdz : d = 0
      · have hb1 : ((d : Int) == 0) = true := by rw [hdz]; rfl
        have hxz : xa = 0 := Classical.byContradiction fun e => hd1 ⟨hdz, e⟩
        clear hd1
        subst hxz
        go_enter Try.func234, Try.ntmps234
        go_wp2_with fail
        rw [← HW.out]
        go_ret
        exact ⟨⟨v, rfl, HQ.out.ps.ms, HQ.out.low, HQ.out.ap, HQ.out.mv⟩, HQ.out.ps.mp⟩
      · have hb1 : ((d : Int) == 0) = false := by simp; omega
        go_enter Try.func234, Try.ntmps234
        go_wp2_with fail
        rw [← HW.out]
        go_ret
        exact ⟨⟨v, rfl, HQ.out.ps.ms, HQ.out.low, HQ.out.ap, HQ.out.mv⟩, HQ.out.ps.mp⟩
  · obtain ⟨h0, h1, h2, h3⟩ := hc
    obtain ⟨A, rfl⟩ := Int.eq_ofNat_of_zero_le h0
    obtain ⟨D, rfl⟩ := Int.eq_ofNat_of_zero_le h2
    have hA : A < P.length := by omega
    have hD : D < P.length := by omega
    have hPl : (P.length : Int) ≤ 60 := by omega
    rcases hkk with rfl | rfl
    · obtain ⟨pg, pc, rfl⟩ := HQ.out.ps.form (by omega)
      obtain ⟨pa, hpa⟩ : ∃ a, a = pcl P A d := ⟨_, rfl⟩
      obtain ⟨pb, hpb⟩ : ∃ a, a = pcl P D d := ⟨_, rfl⟩
      have ra0 := HQ.out.ps.at (d := d) hA (by omega)
      have rb0 := HQ.out.ps.at (d := d) hD (by omega)
      have kpg := (HQ.out.ps.kp pg rfl).2
      have c3 := HQ.out.ps.ms.sh.oth 3 (by omega) (by omega)
      rw [piC3] at c3
      rw [← hpa] at ra0
      rw [← hpb] at rb0
      have hda := (HIN.out A d hA hd).1
      have hdb := (HIN.out D d hD hd).1
      rw [← hpa] at hda
      rw [← hpb] at hdb
      have hd10 : (d : Int) < 10 := by omega
      obtain ⟨a, hae⟩ : ∃ a, a = (smG pa pb C).1 := ⟨_, rfl⟩
      obtain ⟨C2, hCe⟩ : ∃ C2, C2 = (smG pa pb C).2 := ⟨_, rfl⟩
      have hres : ptG P ⟨2, (A : Int), (D : Int)⟩ d C = (a, C2) := by
        rw [hae, hCe, hpa, hpb]
        rfl
      rw [hres]
      have HSU := Lib.hid (fun w' (h : MkS w' G v 4 (piC p M (.slice (some ⟨pg, 0, none⟩) P.length pc)) C) (hm : MapG w' M C) => iPsum B G M 4 v (piC p M (.slice (some ⟨pg, 0, none⟩) P.length pc)) C pa pb w' (by omega) hMG hBM (by omega) (piC2 _ _ _) hda hdb h hm)
      rw [← hae, ← hCe] at HSU
      clear hae hCe hres hpa hpb hda hdb HPP
      go_enter Try.func234, Try.ntmps234
      go_wp2_with fail
      rw [← HW.out, ← HN.out]
      refine wp_region_seq [(0, true), (1, true), (2, true), (3, true), (4, true), (5, true), (6, true), (7, true), (8, true), (9, true), (10, true), (11, true), (12, true), (13, true), (14, true), (15, true), (16, true), (17, true), (18, true), (19, true), (20, true), (21, false)] (fun w' => w'.cell? ⟨n, 1, none⟩ = some (.int .i64 A) ∧ w'.cell? ⟨n, 2, none⟩ = some (.int .i64 D) ∧ w'.cell? ⟨G, 3, none⟩ = some (.slice (some ⟨pg, 0, none⟩) P.length pc) ∧ w'.cell? ⟨pg, A * 10 + d, none⟩ = some (.int .i64 pa) ∧ w'.cell? ⟨pg, D * 10 + d, none⟩ = some (.int .i64 pb)) (by kernel_rfl) (by kernel_rfl) rfl (by intro c a d v w h; cases d <;> exact h) ⟨b1, b2, c3, ra0, rb0⟩ ?_
      iterate 21 (refine wpSeq_take (v := ?_) (List.getElem?_toArray.trans rfl) ?_ ?_; rotate_left; (intro w' hSw; (try dsimp only at hSw); go_simp; (try with_reducible rfl)); (try simp only [Act.put, List.setIfInBounds_toArray, List.set_cons_zero, List.set_cons_succ]))
      refine wpSeq_do (List.getElem?_toArray.trans rfl) (fun K hK => ?_)
      go_simp
      have hdr : Below W.heap.size W W.drew := Below.drew (Below.refl _ _)
      have HQd := Lib.hid (HQ.out.below hBw hdr)
      refine (HSU.out _ HQd.out.ps.ms HQd.out.ps.mp).mono ?_
      rintro e w5 ⟨⟨v5, rfl, hm2, hb2, ha2, hv2⟩, hmp2⟩
      have H5 := Lib.hid (HQd.out.step hm2 hmp2 hb2 ha2 hv2)
      have hsame := ((kpg.below hdr).step ha2 hv2 hb2.size).2.trans (hdr.block pg kpg.lt)
      obtain ⟨d0, d1, d2⟩ := H5.out.box
      simp only [Nat.zero_add] at d0 d1 d2
      have d3 := H5.out.ps.ms.sh.oth 3 (by omega) (by omega)
      rw [piC3] at d3
      refine hK _ _ ⟨d1, d2, d3, kpCell ra0 hsame, kpCell rb0 hsame⟩ ?_
      clear hK K hm2 hb2 ha2 hv2 hmp2 hsame b0 b1 b2 c3 kpg ra0 rb0 d0 d1 d2 d3
      refine wpSeq_nil ?_
      simp only [Exit.then]
      go_wp2_with fail
      go_ret
      exact ⟨⟨v5, rfl, H5.out.ps.ms, H5.out.low, H5.out.ap, H5.out.mv⟩, H5.out.ps.mp⟩
    · have hres : ptG P ⟨3, (A : Int), (D : Int)⟩ d C = cvK P A D d C (d + 1) := rfl
      rw [hres]
      obtain ⟨r, hr⟩ : ∃ r, r = cvK P A D d C (d + 1) := ⟨_, rfl⟩
      have HPQ := Lib.hid (fun w' (h : PsI w' G M p v pv C P Z) => HPP.out A D w' hA hD h)
      rw [← hr] at HPQ ⊢
      clear hres hr HPP
      go_enter Try.func234, Try.ntmps234
      go_wp2_with fail
      rw [← HW.out]
      refine (HPQ.out _ HQ.out.ps).mono ?_
      rintro e w5 ⟨⟨v5, rfl, hm2, hb2, ha2, hv2⟩, hmp2⟩
      have H5 := Lib.hid (HQ.out.step hm2 hmp2 hb2 ha2 hv2)
      clear hm2 hb2 ha2 hv2 hmp2 b0 b1 b2
      go_wp2_with fail
      go_ret
      exact ⟨⟨v5, rfl, H5.out.ps.ms, H5.out.low, H5.out.ap, H5.out.mv⟩, H5.out.ps.mp⟩
end Go.Proofs.Ytlidplmpglpkgaa
namespace Go.Proofs.Ytlidplmpglpkgaa
open Go.RowKit
/-- the places of a gate are appended to the rows -/
theorem PsI.push {w wA w8 : World} {B G M Z g8 c8 H : Nat} {p : Int} {v pv : Value} {C : List Gt} {P : List (List Int)} {R : List Int} (h : PsI w G M p v pv C P Z) (hBM : B ≤ M) (hA : Below w.heap.size w wA)
    (hown : w8.ownsRow (G + 1) 168 10 (.slice (some ⟨g8, 0, none⟩) (P.length + 1) c8) (P.length + 1) (flP P ++ (padR R).map iv)) (hg : wA.grownBy w8 pv.ownBlock) (hat : pv.ownBlock = some g8 ∨ g8 = H) (hH : w.heap.size ≤ H) (hlt : g8 < w8.heap.size) (hR : R.length ≤ 10) :
    PsI (w8.setCell ⟨G, 3, none⟩ (.slice (some ⟨g8, 0, none⟩) (P.length + 1) c8)) G M p v (.slice (some ⟨g8, 0, none⟩) (P.length + 1) c8) C (P ++ [R]) w8.heap.size ∧ Below B w (w8.setCell ⟨G, 3, none⟩ (.slice (some ⟨g8, 0, none⟩) (P.length + 1) c8)) := by
  have hGw := h.ms.sh.lt
  have hMG := h.mg
  have hpG : pv.ownBlock ≠ some G := fun e => (h.kp G e).2.nG rfl
  have hpM : pv.ownBlock ≠ some M := fun e => (h.kp M e).2.nM rfl
  have hs1 := hA.size
  have hs2 := hg.size
  have hsm : ∀ b, b < w.heap.size → b ≠ G → pv.ownBlock ≠ some b → (w8.setCell ⟨G, 3, none⟩ (.slice (some ⟨g8, 0, none⟩) (P.length + 1) c8)).heap[b]? = w.heap[b]? := fun b hb hbG hbp => by
    rw [Below.heap_setCell _ _ _ _ (by simpa using fun e => hbG e), hg.block b (by omega) (fun e => hbp e.symm), hA.block b hb]
  have hsh := (h.ms.sh.below hA).grown hg hpG
  have hvn : ∀ b, v.ownBlock = some b → G + 1 ≤ b ∧ b < w.heap.size := fun b hq => World.ownsRow.lt h.ms.row b hq
  have h8G : G + 1 ≤ g8 := (World.ownsRow.lt hown g8 rfl).1
  have h8v : v.ownBlock ≠ some g8 := fun e => by
    rcases hat with e2 | e2
    · exact (h.kp g8 e2).2.nv e
    · have := (hvn g8 e).2
      omega
  refine ⟨⟨⟨⟨?_, fun i h1 h2 => ?_, by rw [World.frozen?_setCell]; exact hsh.f0, by simpa using hsh.lt, fun i h1 h2 => by rw [World.frozen?_setCell]; exact hsh.fz i h1 h2⟩, ?_⟩, ?_, ?_, fun r hr => ?_, fun b hq => ?_, hMG⟩, ?_⟩
  · rw [World.cell?_setCell_other _ _ _ _ (addr_ne (by omega))]; exact hsh.c0
  · by_cases e : i = 3
    · subst e
      rw [World.cell?_setCell_same _ _ _ (hsh.oth 3 (by omega) (by omega))]
      rfl
    · rw [World.cell?_setCell_other _ _ _ _ (addr_ne (by omega)), hsh.oth i h1 h2]
      have : i = 1 ∨ i = 2 := by omega
      rcases this with rfl | rfl <;> rfl
  · exact owns_same h.ms.row (fun b hq => by
      have := hvn b hq
      exact hsm b this.2 (by omega) (fun e => (h.kp b e).2.nv hq))
  · exact (hsm M (by omega) (by omega) hpM).trans h.mp
  · rw [flP_snoc, List.length_append, List.length_singleton]
    exact owns_same hown (fun b hq => by
      have hq : g8 = b := by simpa [Value.ownBlock] using hq
      subst hq
      exact Below.heap_setCell _ _ _ _ (by simp; omega))
  · rcases List.mem_append.1 hr with e | e
    · exact h.wd r e
    · have := List.mem_singleton.1 e
      subst this
      exact hR
  · have hq : g8 = b := by simpa [Value.ownBlock] using hq
    subst hq
    exact ⟨hlt, by simpa using hlt, by omega, by omega, h8v⟩
  · have hbw : Below B wA w8 := ⟨hg.os, hg.tape, hg.output, hg.size, fun b hb => hg.block b (by omega) (fun e => by
      have := (World.ownsRow.lt h.row b e.symm).1
      omega)⟩
    exact ((hA.mono (by omega)).trans hbw).setCell (show B ≤ G by omega) _
/-- the world inside putParts -/
structure RSt (w wr : World) (B G M n m Z : Nat) (p : Int) (v2 pv : Value) (C : List Gt) (P : List (List Int)) (x : Gt) (r : List Int) : Prop where
  ps : PsI wr G M p v2 pv C P Z
  box : GAt wr n 0 x
  kn : Kp wr G M v2 n
  ar : ArW wr m (padR r)
  km : Kp wr G M v2 m
  nm : n ≠ m
  zm : Z ≤ m
  low : Below B w wr
theorem RSt.below {w wr w' : World} {B G M n m Z : Nat} {p : Int} {v2 pv : Value} {C : List Gt} {P : List (List Int)} {x : Gt} {r : List Int} (h : RSt w wr B G M n m Z p v2 pv C P x r) (hB : B ≤ wr.heap.size) (hb : Below wr.heap.size wr w') : RSt w w' B G M n m Z p v2 pv C P x r :=
  ⟨h.ps.below hb, h.box.below hb h.kn.lt, h.kn.below hb, h.ar.below hb, h.km.below hb, h.nm, h.zm, h.low.trans (hb.mono hB)⟩
theorem RSt.step {w wr w' : World} {B G M n m Z : Nat} {p : Int} {v2 v3 pv : Value} {C C' : List Gt} {P : List (List Int)} {x : Gt} {r : List Int} (h : RSt w wr B G M n m Z p v2 pv C P x r) (hm : MkS w' G v3 4 (piC p M pv) C') (hmp : MapG w' M C') (hb : Below B wr w') (ha : Apt G M v2 wr w') (hv : Moves v2 v3 wr) : RSt w w' B G M n m Z p v3 pv C' P x r := by
  have hn := h.kn.step ha hv hb.size
  have hk := h.km.step ha hv hb.size
  refine ⟨h.ps.step hm hmp ha hv hb.size, ?_, hn.1, h.ar.same hb.size hk.2, hk.1, h.nm, h.zm, h.low.trans hb⟩
  obtain ⟨c0, c1, c2⟩ := h.box
  exact ⟨kpCell c0 hn.2, kpCell c1 hn.2, kpCell c2 hn.2⟩
/-- a place is written into the array -/
theorem RSt.set {w wr : World} {B G M n m Z : Nat} {p a : Int} {v2 pv : Value} {C : List Gt} {P : List (List Int)} {x : Gt} {r : List Int} (h : RSt w wr B G M n m Z p v2 pv C P x r) (hr : r.length < 10) (hBm : B ≤ m) : RSt w (wr.setCell ⟨m, r.length, none⟩ (.int .i64 a)) B G M n m Z p v2 pv C P x (r ++ [a]) := by
  have hsm : ∀ b, b ≠ m → (wr.setCell ⟨m, r.length, none⟩ (.int .i64 a)).heap[b]? = wr.heap[b]? := fun b hb => Below.heap_setCell _ _ _ _ (by simpa using fun e => hb e)
  have hgr : wr.grownBy (wr.setCell ⟨m, r.length, none⟩ (.int .i64 a)) (Value.slice (some ⟨m, 0, none⟩) 0 0).ownBlock := ⟨rfl, rfl, rfl, by simp, fun b _ hb => hsm b (fun e => hb (by rw [e]; rfl))⟩
  have hmm : (Value.slice (some ⟨m, 0, none⟩) 0 0).ownBlock = some m := rfl
  have hnv := h.km.nv
  have hnG := h.km.nG
  have hnM := h.km.nM
  refine ⟨⟨⟨h.ps.ms.sh.grown hgr (by rw [hmm]; intro e; injection e with e; exact hnG e), owns_same h.ps.ms.row (fun b hq => hsm b (fun e => hnv (by rw [← e]; exact hq)))⟩, (hsm M (fun e => hnM e.symm)).trans h.ps.mp, owns_same h.ps.row (fun b hq => hsm b (fun e => by have := (h.ps.kp b hq).1; have := h.zm; omega)), h.ps.wd, fun b hq => ⟨(h.ps.kp b hq).1, by simpa using (h.ps.kp b hq).2.lt, (h.ps.kp b hq).2.nG, (h.ps.kp b hq).2.nM, (h.ps.kp b hq).2.nv⟩, h.ps.mg⟩, ?_, ⟨by simpa using h.kn.lt, h.kn.nG, h.kn.nM, h.kn.nv⟩, ?_, ⟨by simpa using h.km.lt, hnG, hnM, hnv⟩, h.nm, h.zm, h.low.setCell hBm _⟩
  · obtain ⟨c0, c1, c2⟩ := h.box
    exact ⟨kpCell c0 (hsm n h.nm), kpCell c1 (hsm n h.nm), kpCell c2 (hsm n h.nm)⟩
  · rw [← padR_set hr]
    exact h.ar.set (by rw [padR_len (by omega)]; exact hr) a
theorem ten_of {l : List Int} (h : l.length = 10) : ∃ a b c d e f g i j k, l = [a, b, c, d, e, f, g, i, j, k] := by
  match l, h with
  | [a, b, c, d, e, f, g, i, j, k], _ => exact ⟨a, b, c, d, e, f, g, i, j, k, rfl⟩
set_option maxRecDepth 100000 in
set_option maxHeartbeats 16000000 in
theorem iPparts (p : Int) (B G M k : Nat) (v pv : Value) (C : List Gt) (P : List (List Int)) (x : Gt) (w : World) (hl : C.length + 110 ≤ 8000) (hP60 : P.length ≤ 60) (hBM : B ≤ M) (hk : k ≤ 9) (hx : gOK (p - 1) x (P.length : Nat) = true) (hok : AllOK p C) (hin : AllIn P k C) (h : PsI w G M p v pv C P w.heap.size) :
    Calls Try.prog 215 #[.pointer (some ⟨G, 0, none⟩), .agg #[.int .i64 x.k, .int .i64 x.a, .int .i64 x.b], .int .i64 (k : Int)] w fun e w' => e = .returned (.tuple #[]) ∧ ∃ v' pv', PsI w' G M p v' pv' (ptR P x C (k + 1)).2 (P ++ [(ptR P x C (k + 1)).1]) w'.heap.size ∧ Below B w w' := by
  obtain ⟨i0, hi, hz0, hz1, hz2⟩ := info_parts infoA10
  have HOKS := Lib.hid (fun n (hn : n ≤ k + 1) => ptR_ok (x := x) hok hin hx n hn)
  obtain ⟨CE, hCE⟩ : ∃ C1, C1 = (ptR P x C (k + 1)).2 := ⟨_, rfl⟩
  obtain ⟨RE, hRE⟩ : ∃ R1, R1 = (ptR P x C (k + 1)).1 := ⟨_, rfl⟩
  rw [← hCE, ← hRE]
  have HFI := Lib.hid (And.intro hCE hRE)
  clear hCE hRE
  have hkp : (0 : Int) ≤ (k : Int) := by omega
  have hk9 : (k : Int) ≤ 9 := by omega
  have hGw := h.ms.sh.lt
  have hMG := h.mg
  obtain ⟨W, hW⟩ : ∃ W, W = w.alloc (Obj.cells #[.int .i64 x.k, .int .i64 x.a, .int .i64 x.b] 137) := ⟨_, rfl⟩
  have bW : Below w.heap.size w W := by rw [hW]; exact Below.alloc (Below.refl _ _) (Nat.le_refl _) _
  have sW : W.heap.size = w.heap.size + 1 := by rw [hW]; simp
  have hT : GAt W w.heap.size 0 x := by rw [hW]; refine ⟨?_, ?_, ?_⟩ <;> simp [go_sem]
  obtain ⟨W2, hW2⟩ : ∃ W2, W2 = W.alloc (Obj.cells #[.int .i64 0, .int .i64 0, .int .i64 0, .int .i64 0, .int .i64 0, .int .i64 0, .int .i64 0, .int .i64 0, .int .i64 0, .int .i64 0] 168) := ⟨_, rfl⟩
  have bW2 : Below W.heap.size W W2 := by rw [hW2]; exact Below.alloc (Below.refl _ _) (Nat.le_refl _) _
  have sW2 : W2.heap.size = w.heap.size + 2 := by rw [hW2]; simp [sW]
  have hold : ∀ b, w.heap.size ≤ b → v.ownBlock ≠ some b := fun b hb e => by have := (World.ownsRow.lt h.ms.row _ e).2; omega
  have hR0 := Lib.hid (show RSt w W2 B G M w.heap.size (w.heap.size + 1) w.heap.size p v pv (ptR P x C 0).2 P x (ptR P x C 0).1 from
    ⟨(h.below bW).below bW2, hT.below bW2 (by omega), ⟨by omega, by omega, by omega, hold _ (by omega)⟩, by
      refine ⟨by omega, fun j hj => ?_, fun j _ => by rw [hW2, ← sW]; exact World.frozen?_alloc_at _ _ _ j rfl⟩
      have hj : j < 10 := by simpa [padR, ptR] using hj
      rw [padR_at]
      have : j = 0 ∨ j = 1 ∨ j = 2 ∨ j = 3 ∨ j = 4 ∨ j = 5 ∨ j = 6 ∨ j = 7 ∨ j = 8 ∨ j = 9 := by omega
      rw [hW2, ← sW]
      rcases this with rfl | rfl | rfl | rfl | rfl | rfl | rfl | rfl | rfl | rfl <;> simp [go_sem, ptR],
     ⟨by omega, by omega, by omega, hold _ (by omega)⟩, by omega, by omega, (bW.mono (by omega)).trans (bW2.mono (by omega))⟩)
  have HW := Lib.hid hW
  have HW2 := Lib.hid hW2
  have HIN := Lib.hid hin
  clear hW hW2 sW sW2 bW bW2 hT hold hin
  go_enter Try.func215, Try.ntmps215
  go_wp2_with fail
  rw [← HW.out, ← HW2.out]
  obtain ⟨n, hn⟩ : ∃ n, n = w.heap.size := ⟨_, rfl⟩
  rw [← hn] at hR0 hGw ⊢
  have hBn : B ≤ n + 1 := by omega
  clear HW HW2 hn
  go_loopw [10] (fun i wr => ∃ (d : Nat) (v' : Value), d ≤ k + 1 ∧ i = .int .i64 d ∧ RSt w wr B G M n (n + 1) n p v' pv (ptR P x C d).2 P x (ptR P x C d).1) (fun i _ => k + 1 - (intOf i).toNat)
  case atStart => exact ⟨0, v, by omega, rfl, hR0.out⟩
  case round =>
    clear hR0
    obtain ⟨d, v', hd, rfl, hG⟩ := hrel
    have hd0 : (0 : Int) ≤ (d : Int) := by omega
    have hrl := ptR_len P x C d
    by_cases hlt : d < k + 1
    · have hltp : (d : Int) < (k : Int) + 1 := by omega
      have hd10 : (d : Int) < 10 := by omega
      obtain ⟨C1, hC1⟩ : ∃ C1, C1 = (ptR P x C d).2 := ⟨_, rfl⟩
      obtain ⟨R1, hR1⟩ : ∃ R1, R1 = (ptR P x C d).1 := ⟨_, rfl⟩
      obtain ⟨a, ha⟩ : ∃ a, a = (ptG P x d C1).1 := ⟨_, rfl⟩
      obtain ⟨C2, hC2⟩ : ∃ C2, C2 = (ptG P x d C1).2 := ⟨_, rfl⟩
      have hoks := HOKS.out d (by omega)
      have hnext : (ptR P x C (d + 1)).2 = C2 ∧ (ptR P x C (d + 1)).1 = R1 ++ [a] := by rw [ha, hC2, hR1, hC1]; exact ⟨rfl, rfl⟩
      rw [← hC1] at hG hoks
      rw [← hR1] at hG hrl
      have HNX := Lib.hid hnext
      have hC1l : C1.length + 2 * (d + 1) ≤ 8000 := by
        have h1 := hoks.2.2.2
        have h2 : d * (d + 1) ≤ 9 * 10 := Nat.mul_le_mul (by omega) (by omega)
        omega
      have HPP := Lib.hid (fun w' (h : PsI w' G M p v' pv C1 P n) => iPpart p B G M d k v' pv C1 P x n w' hC1l hP60 hBM (by omega) hk hx hoks.1 (HIN.out.mono hoks.2.2.1) h)
      rw [← ha, ← hC2] at HPP
      have HG := Lib.hid hG
      obtain ⟨b0, b1, b2⟩ := hG.box
      simp only [Nat.zero_add] at b0 b1 b2
      have HRL := Lib.hid hrl
      have hr10 : R1.length < 10 := by omega
      clear hC1 hR1 ha hC2 hoks hnext hG hrl
      go_wp2_with fail
      refine (HPP.out _ HG.out.ps).mono ?_
      rintro e w5 ⟨⟨v5, rfl, hm2, hb2, ha2, hv2⟩, hmp2⟩
      have H5 := Lib.hid (HG.out.step hm2 hmp2 hb2 ha2 hv2)
      have cc := H5.out.ar.c d (by rw [padR_len (by omega)]; omega)
      have cf := H5.out.ar.f d (by rw [padR_len (by omega)]; omega)
      have H6 := Lib.hid (show RSt w (w5.setCell ⟨n + 1, d, none⟩ (.int .i64 a)) B G M n (n + 1) n p v5 pv (ptR P x C (d + 1)).2 P x (ptR P x C (d + 1)).1 by
        rw [HNX.out.1, HNX.out.2]
        have := H5.out.set (a := a) hr10 hBn
        rwa [HRL.out] at this)
      clear hm2 hb2 ha2 hv2 hmp2 b0 b1 b2
      go_wp2_with fail
      go_roundw
      case rel => exact ⟨d + 1, v5, by omega, by go_num, H6.out⟩
      case measure => simp [intOf]; omega
    · have hdk : d = k + 1 := by omega
      subst hdk
      rw [← HFI.out.1, ← HFI.out.2] at hG
      rw [← HFI.out.2] at hrl
      have hRl : RE.length ≤ 10 := by omega
      obtain ⟨r0, r1, r2, r3, r4, r5, r6, r7, r8, r9, hten⟩ := ten_of (padR_len hRl)
      have har := hG.ar
      rw [hten] at har
      have c0 := har.c 0 (by simp)
      have c1 := har.c 1 (by simp)
      have c2 := har.c 2 (by simp)
      have c3 := har.c 3 (by simp)
      have c4 := har.c 4 (by simp)
      have c5 := har.c 5 (by simp)
      have c6 := har.c 6 (by simp)
      have c7 := har.c 7 (by simp)
      have c8 := har.c 8 (by simp)
      have c9 := har.c 9 (by simp)
      simp only [List.getD_cons_zero, List.getD_cons_succ] at c0 c1 c2 c3 c4 c5 c6 c7 c8 c9
      have d3 := hG.ps.ms.sh.oth 3 (by omega) (by omega)
      rw [piC3] at d3
      have f3 := hG.ps.ms.sh.fz 3 (by omega) (by omega)
      have hGr := hG.ps.ms.sh.lt
      have hpG : pv.ownBlock ≠ some G := fun e => (hG.ps.kp G e).2.nG rfl
      have HG := Lib.hid hG
      have HTEN := Lib.hid hten
      have HRA := Lib.hid (fun w' (hb : Below wr.heap.size wr w') => owns_same (w' := w') hG.ps.row (fun b hq => hb.block b (hG.ps.kp b hq).2.lt))
      have HSA := Lib.hid (fun w' (hb : Below wr.heap.size wr w') => hG.ps.ms.sh.below hb)
      clear hG hten har hrl
      go_wp2_with fail
      go_region_law (refine step_append_lies _ rfl _ _ 163 rfl (G + 1) 168 i0 (.agg #[.int .i64 0, .int .i64 0, .int .i64 0, .int .i64 0, .int .i64 0, .int .i64 0, .int .i64 0, .int .i64 0, .int .i64 0, .int .i64 0]) 10 80 Try.underlying163 hi hz0 hz1 hz2 rfl (by decide) pv P.length (flP P) (by simp [Act.eval]) (HRA.out _ (by repeat (first | exact Below.refl _ _ | apply Below.drew | apply below_drewN | (refine Below.alloc ?_ (by first | omega | (simp <;> omega)) _)))) _ 1 1 [.int .i64 r0, .int .i64 r1, .int .i64 r2, .int .i64 r3, .int .i64 r4, .int .i64 r5, .int .i64 r6, .int .i64 r7, .int .i64 r8, .int .i64 r9] (by simp [Act.eval]; rfl) rfl (by intro j u hj; match j, hj with | 0, hj => (simp at hj; subst hj; simp [Addr.add, go_sem]) | 1, hj => (simp at hj; subst hj; simp [Addr.add, go_sem]) | 2, hj => (simp at hj; subst hj; simp [Addr.add, go_sem]) | 3, hj => (simp at hj; subst hj; simp [Addr.add, go_sem]) | 4, hj => (simp at hj; subst hj; simp [Addr.add, go_sem]) | 5, hj => (simp at hj; subst hj; simp [Addr.add, go_sem]) | 6, hj => (simp at hj; subst hj; simp [Addr.add, go_sem]) | 7, hj => (simp at hj; subst hj; simp [Addr.add, go_sem]) | 8, hj => (simp at hj; subst hj; simp [Addr.add, go_sem]) | 9, hj => (simp at hj; subst hj; simp [Addr.add, go_sem])) (by intro u hu; simp at hu; rcases hu with rfl | rfl | rfl | rfl | rfl | rfl | rfl | rfl | rfl | rfl <;> rfl) (by omega) (by unfold maxLen; omega) (by omega) (by first | omega | (simp; omega)) _ rfl ?_; intro g8 k8 w8 hown8 hgrow8 hat8 hlt8; have HS8 := Lib.hid ((HSA.out _ (by repeat (first | exact Below.refl _ _ | apply Below.drew | apply below_drewN | (refine Below.alloc ?_ (by first | omega | (simp <;> omega)) _)))).grown hgrow8 hpG); have e3 := HS8.out.oth 3 (by omega) (by omega); have e4 := HS8.out.fz 3 (by omega) (by omega); have hG8 := HS8.out.lt; rw [piC3] at e3)
      all_goals
        have HF := Lib.hid (HG.out.ps.push (R := RE) hBM (wA := _) (by repeat (first | exact Below.refl _ _ | apply Below.drew | apply below_drewN | (refine Below.alloc ?_ (by first | omega | (simp <;> omega)) _))) (by rw [HTEN.out]; exact hown8) hgrow8 hat8 (by simp) hlt8 hRl)
        clear hown8 hgrow8 hat8 hlt8
        go_wp2_with fail
        refine bodyPost_end (v := .tuple #[]) (by simp [results, Try.results215, go_sem]) rfl ⟨rfl, v', _, HF.out.1.mono (by simp), HG.out.low.trans HF.out.2⟩
end Go.Proofs.Ytlidplmpglpkgaa
