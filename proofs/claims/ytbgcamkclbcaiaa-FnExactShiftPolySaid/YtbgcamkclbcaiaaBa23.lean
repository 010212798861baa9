/-
  Of lists: the terms up to a degree, of a sum and of a product; terms times what their degrees have. Conditions: none.
  IsHomogeneous, of the model and of the program. Conditions: that the slice reads as a list of terms.
  The walk of the exact law of IsHomogeneous. Conditions: none but that the slices read as lists.
  Contract of the model's product of two polynomials. Conditions: both are polynomials over a field that is one.
  The exact law of MulPoly: the model's and the program's products of two polynomials, and the walk. Conditions: none but that the slices read as lists of terms.
  Terms up to a degree, of the model: l7Cut, CutPoly, MulCut. Conditions: exponents are small.
-/
import Derived.Test.YtbgcamkclbcaiaaBa22
import Derived.Test.YtbgcamkclbcaiaaBa12
import Derived.Test.YtbgcamkclbcaiaaBa15
namespace Go.Proofs.Ytbgcamkclbcaiaa
open Go.RowKit
/-- the terms of which something that hangs on the powers alone says yes -/
def fl (q : Int → Int → Int → Bool) (L : List Trm) : List Trm := L.filter fun x => q x.a x.b x.c
theorem fl_srt {q : Int → Int → Int → Bool} {L : List Trm} (h : Srt L) : Srt (fl q L) := List.Pairwise.sublist List.filter_sublist h
theorem fl_els {p : Int} {q : Int → Int → Int → Bool} {L : List Trm} (h : Els p L) : Els p (fl q L) := fun y hy => h y (List.mem_filter.1 hy).1
theorem wS_fl (m : Int → Int → Int → Int) (q : Int → Int → Int → Bool) : ∀ L : List Trm, wS m (fl q L) = wS (fun a b c => if q a b c = true then m a b c else 0) L
  | [] => rfl
  | x :: r => by
    have ih := wS_fl m q r
    unfold fl at ih ⊢
    rw [List.filter_cons]
    show _ = x.t * (if q x.a x.b x.c = true then m x.a x.b x.c else 0) + wS _ r
    by_cases h : q x.a x.b x.c = true
    · rw [if_pos h, if_pos h, ← ih]; rfl
    · rw [if_neg h, if_neg h, ih]; omega
/-- what is added and then cut is what is cut and then added -/
theorem fmap_congr {α β : Type} {f g : α → List β} : ∀ {l : List α}, (∀ x ∈ l, f x = g x) → l.flatMap f = l.flatMap g
  | [], _ => rfl
  | x :: r, h => by
    rw [List.flatMap_cons, List.flatMap_cons, h x (by simp), fmap_congr fun y hy => h y (by simp [hy])]
theorem fl_addAll {p : Int} (hp : 0 < p) (q : Int → Int → Int → Bool) {xs : List Trm} (hx : ∀ x ∈ xs, 0 ≤ x.t ∧ x.t < p) : fl q (addAll p xs []) = addAll p (fl q xs) [] := by
  have s0 : Srt ([] : List Trm) := List.Pairwise.nil
  have e0 : Els p [] := fun y hy => by cases hy
  refine ind_inj (fl_srt (addAll_srt _ _ s0)) (addAll_srt _ _ s0) (fl_els (addAll_els hp _ _ hx e0)) (addAll_els hp _ _ (fun y hy => hx y (List.mem_filter.1 hy).1) e0) fun a b c => ?_
  rw [wS_fl]
  refine (wS_addAll _ _ _).trans ?_
  refine Cg.trans ?_ (wS_addAll _ _ _).symm
  rw [wS_fl]
  exact Cg.refl _ _
theorem fl_valid {p : Int} {q : Int → Int → Int → Bool} {L : List Trm} (h : validB p L = true) : validB p (fl q L) = true := by
  refine validB_of (fl_srt (validB_srt h)) (fl_els (validB_els h)) (fun y hy => ?_) (Nat.le_trans (List.length_filter_le _ _) (validB_len h))
  have h := validB_mem h (List.mem_filter.1 hy).1
  simp only [powsB, powB, Bool.and_eq_true]
  refine ⟨⟨?_, ?_⟩, ?_⟩ <;> simp <;> omega
/-- powers up to a degree -/
def upB (k : Int) (a b c : Int) : Bool := decide (a + b + c ≤ k)
/-- the terms up to a degree -/
def cutL (k : Int) (L : List Trm) : List Trm := fl (upB k) L
theorem prod_bd {p : Int} (hp : 2 ≤ p) {L M : List Trm} : ∀ x ∈ prodT p L M, 0 ≤ x.t ∧ x.t < p := by
  intro x hx
  obtain ⟨y, _, hx⟩ := List.mem_flatMap.1 hx
  obtain ⟨z, _, rfl⟩ := List.mem_map.1 hx
  exact emod_bd hp
theorem cut_prod {p k : Int} (hp : isP p = true) (L M : List Trm) : cutL k (addAll p (prodT p L M) []) = addAll p (cutL k (prodT p L M)) [] := by
  have hb := isP_bd hp
  exact fl_addAll (by omega) _ (prod_bd (by omega))
/-- the cut products of all terms with 1 are the terms of the polynomial up to a degree -/
def one1 : Trm := ⟨0, 0, 0, 1⟩
theorem cut_one {p k : Int} {L : List Trm} (hp : isP p = true) (hV : validB p L = true) : addAll p (cutL k (prodT p L [one1])) [] = cutL k L := by
  have hb := isP_bd hp
  rw [← cut_prod hp]
  have e : prodT p L [one1] = L := by
    unfold prodT
    have : ∀ x ∈ L, [one1].map (mulTT p x) = [x] := fun x hx => by
      have h1 := validB_els hV x hx
      show [mulTT p x one1] = [x]
      unfold mulTT one1
      simp only [Int.add_zero, Int.mul_one]
      rw [Int.emod_eq_of_lt (by omega) (by omega)]
    rw [fmap_congr this]
    simp
  rw [e]
  congr 1
  have := addAll_is (p := p) (xs := L) (L := []) (M := L) (by omega) List.Pairwise.nil (validB_srt hV) (fun y hy => by cases hy) (validB_els hV) (els_in (validB_els hV)) (fun m => Cg.of_eq (by show 0 + wS m L = wS m L; omega))
  exact this
/-- a term times what a number has that hangs on it -/
def tmT (p : Int) (h : Trm → Int) (x : Trm) : Trm := ⟨x.a, x.b, x.c, x.t * h x % p⟩
/-- those that do not fall away -/
def tmL (p : Int) (h : Trm → Int) (L : List Trm) : List Trm := (L.map (tmT p h)).filter fun y => decide (0 < y.t)
theorem tm_snoc (p : Int) (h : Trm → Int) (L : List Trm) (x : Trm) : tmL p h (L ++ [x]) = if 0 < x.t * h x % p then tmL p h L ++ [tmT p h x] else tmL p h L := by
  unfold tmL
  rw [List.map_append, List.filter_append, List.map_singleton]
  by_cases h0 : 0 < x.t * h x % p
  · rw [if_pos h0, List.filter_cons_of_pos (by show decide (0 < x.t * h x % p) = true; rw [decide_eq_true_eq]; exact h0)]; rfl
  · rw [if_neg h0, List.filter_cons_of_neg (by show ¬ decide (0 < x.t * h x % p) = true; rw [decide_eq_true_eq]; exact h0)]; simp
theorem tm_srt {p : Int} {h : Trm → Int} {L : List Trm} (hs : Srt L) : Srt (tmL p h L) :=
  List.Pairwise.sublist List.filter_sublist (List.pairwise_map.2 (hs.imp fun h => h))
theorem tm_mem {p : Int} {h : Trm → Int} {L : List Trm} {y : Trm} (hy : y ∈ tmL p h L) : ∃ z ∈ L, y = tmT p h z ∧ 0 < y.t := by
  obtain ⟨h1, h2⟩ := List.mem_filter.1 hy
  obtain ⟨z, hz, rfl⟩ := List.mem_map.1 h1
  exact ⟨z, hz, rfl, by simpa using h2⟩
theorem tm_valid {p : Int} {h : Trm → Int} {L : List Trm} (hp : isP p = true) (hV : validB p L = true) : validB p (tmL p h L) = true := by
  have hb := isP_bd hp
  refine validB_of (tm_srt (validB_srt hV)) (fun y hy => ?_) (fun y hy => ?_) (Nat.le_trans (List.length_filter_le _ _) (by simpa using validB_len hV))
  · obtain ⟨z, _, rfl, h0⟩ := tm_mem hy
    have := emod_bd (n := z.t * h z) hb.1
    exact ⟨by omega, this.2⟩
  · obtain ⟨z, hz, rfl, _⟩ := tm_mem hy
    have h9 := validB_mem hV hz
    show powsB z.a z.b z.c = true
    simp only [powsB, powB, Bool.and_eq_true]
    refine ⟨⟨?_, ?_⟩, ?_⟩ <;> simp <;> omega
/-- the sum of what was multiplied so, of the first k terms -/
def tmK (p : Int) (h : Trm → Int) (L : List Trm) (k : Nat) : List Trm := addAll p ((L.take k).map (tmT p h)) []
theorem tmK_succ {p : Int} {h : Trm → Int} {L : List Trm} {k : Nat} (hk : k < L.length) : tmK p h L (k + 1) = addT p (tmT p h (L.getD k default)) (tmK p h L k) := by
  unfold tmK
  rw [List.take_succ_eq_append_getElem hk, List.map_append, List.map_singleton, addAll_snoc]
  simp [List.getD_eq_getElem?_getD, hk]
theorem tmK_facts {p : Int} {h : Trm → Int} {L : List Trm} (hp : isP p = true) (k : Nat) : Srt (tmK p h L k) ∧ Els p (tmK p h L k) ∧ (tmK p h L k).length ≤ k := by
  have hb := isP_bd hp
  refine ⟨addAll_srt _ _ List.Pairwise.nil, addAll_els (by omega) _ _ (fun x hx => ?_) (fun y hy => by cases hy), ?_⟩
  · obtain ⟨z, _, rfl⟩ := List.mem_map.1 hx
    exact emod_bd hb.1
  · have := addAll_len (p := p) ((L.take k).map (tmT p h)) []
    simp only [List.length_nil, List.length_map, List.length_take, Nat.zero_add] at this
    unfold tmK
    omega
theorem tmK_is {p : Int} {h : Trm → Int} {L : List Trm} (hp : isP p = true) (hs : Srt L) : ∀ k, k ≤ L.length → tmK p h L k = tmL p h (L.take k)
  | 0, _ => by simp [tmK, tmL, addAll]
  | k + 1, hk => by
    have hb := isP_bd hp
    have hkl : k < L.length := by omega
    rw [tmK_succ hkl, tmK_is hp hs k (by omega), List.take_succ_eq_append_getElem hkl, tm_snoc]
    have e : L.getD k default = L[k] := by simp [List.getD_eq_getElem?_getD, hkl]
    rw [e]
    have hbd := emod_bd (n := L[k].t * h L[k]) hb.1
    by_cases h0 : 0 < L[k].t * h L[k] % p
    · rw [if_pos h0, addT_end ?_ (by show L[k].t * h L[k] % p ≠ 0; omega)]
      intro y hy
      obtain ⟨z, hz, rfl, _⟩ := tm_mem hy
      obtain ⟨i, hi, rfl⟩ := List.getElem_of_mem hz
      simp only [List.length_take] at hi
      have := List.pairwise_iff_getElem.1 hs i k (by omega) hkl (by omega)
      rw [List.getElem_take]
      exact this
    · rw [if_neg h0, addT_zero (by show L[k].t * h L[k] % p = 0; omega)]
theorem tmK_all {p : Int} {h : Trm → Int} {L : List Trm} (hp : isP p = true) (hs : Srt L) : tmK p h L L.length = tmL p h L := by
  rw [tmK_is hp hs _ (Nat.le_refl _), List.take_length]
end Go.Proofs.Ytbgcamkclbcaiaa
namespace Go.Proofs.Ytbgcamkclbcaiaa
open Go.RowKit
/-- the sum of the powers, as integers of 64 bits add them -/
def degW (x : Trm) : Int := IntKind.i64.wrap (IntKind.i64.wrap (x.a + x.b) + x.c)
theorem degW_is {x : Trm} (h : (0 ≤ x.a ∧ x.a ≤ 9) ∧ (0 ≤ x.b ∧ x.b ≤ 9) ∧ (0 ≤ x.c ∧ x.c ≤ 9)) : degW x = degT x := by
  obtain ⟨⟨a0, a1⟩, ⟨b0, b1⟩, ⟨c0, c1⟩⟩ := h
  have w1 : IntKind.i64.wrap (x.a + x.b) = x.a + x.b := IntWalk.i64_in _ (by omega)
  have w2 : IntKind.i64.wrap (x.a + x.b + x.c) = x.a + x.b + x.c := IntWalk.i64_in _ (by omega)
  unfold degW degT
  rw [w1, w2]
def homB (L : List Trm) : Bool := L.all fun x => degW x == degW (L.getD 0 default)
def homV (p : Int) (L : List Trm) : Bool := homB L && (isP p && validB p L)
theorem homB_no {L : List Trm} {k : Nat} (hk : k < L.length) (h : degW (L.getD k default) ≠ degW (L.getD 0 default)) : homB L = false := by
  unfold homB
  rw [List.all_eq_false]
  exact ⟨L[k], List.getElem_mem hk, by have : L.getD k default = L[k] := by simp [List.getD_eq_getElem?_getD, hk]
                                       rw [← this]; simpa using h⟩
theorem homB_yes {L : List Trm} (h : ∀ k, k < L.length → degW (L.getD k default) = degW (L.getD 0 default)) : homB L = true := by
  unfold homB
  rw [List.all_eq_true]
  intro x hx
  obtain ⟨k, hk, rfl⟩ := List.getElem_of_mem hx
  have := h k hk
  have e : L.getD k default = L[k] := by simp [List.getD_eq_getElem?_getD, hk]
  rw [← e]
  simpa using this
/-- all terms have the degree of the polynomial just if the part of this degree is as long -/
theorem hom_part {p : Int} {L : List Trm} (hp : isP p = true) (hV : validB p L = true) : homB L = decide ((partL p L (degV p L)).length = L.length) := by
  have hd : degV p L = topK degT L L.length := by
    unfold degV
    rw [hp, hV, ← topK_deg]
    rfl
  have flt : ∀ (n : Int) (k : Nat), k ≤ L.length → partK L n k = (L.take k).filter (fun x => decide (degT x = n)) := by
    intro n k
    induction k with
    | zero => intro _; simp [partK]
    | succ k ih =>
      intro h
      have hk : k < L.length := by omega
      have e : L.getD k default = L[k] := by simp [List.getD_eq_getElem?_getD, hk]
      unfold partK
      rw [ih (by omega), List.take_succ_eq_append_getElem hk, List.filter_append, e]
      by_cases h2 : degT L[k] = n
      · rw [if_pos h2, List.filter_cons_of_pos (by simpa using h2)]; rfl
      · rw [if_neg h2, List.filter_cons_of_neg (by simpa using h2)]; simp
  have e : partL p L (degV p L) = L.filter fun x => decide (degT x = degV p L) := by
    unfold partL
    rw [hp, hV, flt _ _ (Nat.le_refl _), List.take_length]
    rfl
  have hdw : ∀ x ∈ L, degW x = degT x := fun x hx => degW_is (validB_mem hV hx)
  cases hL : L with
  | nil => rw [hL] at e; rw [e]; rfl
  | cons y r =>
    rw [← hL]
    have hy : y ∈ L := by rw [hL]; simp
    have h0 : L.getD 0 default = y := by rw [hL]; rfl
    rw [e]
    by_cases h : ∀ x ∈ L, degT x = degV p L
    · have e2 : (L.filter fun x => decide (degT x = degV p L)) = L := List.filter_eq_self.2 fun x hx => by simpa using h x hx
      rw [e2, homB_yes (fun k hk => ?_)]
      · simp
      · have hm : L.getD k default ∈ L := by simp [List.getD_eq_getElem?_getD, hk]
        rw [h0, hdw _ hm, hdw _ hy, h _ hm, h _ hy]
    · have hlt : (L.filter fun x => decide (degT x = degV p L)).length < L.length := by
        apply Nat.lt_of_le_of_ne (List.length_filter_le _ _)
        intro h2
        apply h
        have := List.length_filter_eq_length_iff.1 h2
        intro x hx
        simpa using this x hx
      rw [decide_eq_false (by omega)]
      -- some term has the greatest degree, some other one not
      cases hb : homB L with
      | false => rfl
      | true =>
        exfalso
        apply h
        have hall : ∀ x ∈ L, degT x = degT y := fun x hx => by
          have := List.all_eq_true.1 hb x hx
          rw [h0] at this
          rw [← hdw x hx, ← hdw y hy]
          simpa using this
        have h1 := topK_ge (f := degT) hy
        have hyn : 0 ≤ degT y := by have := validB_mem hV hy; unfold degT; omega
        obtain ⟨z, hz, hz2⟩ := topK_at (f := degT) (L := L) L.length (Nat.le_refl _) (by omega)
        intro x hx
        rw [hd, ← hz2, hall x hx, hall z hz]
set_option maxHeartbeats 2000000 in
theorem sDegW (x : Trm) (w : World) :
    Calls Try.prog 72 #[.agg #[.int .i64 x.a, .int .i64 x.b, .int .i64 x.c]] w fun e w' => e = .returned (.int .i64 (degW x)) ∧ Below w.heap.size w w' := by
  obtain ⟨d1, h1⟩ : ∃ d1, IntKind.i64.wrap (x.a + x.b) = d1 := ⟨_, rfl⟩
  obtain ⟨d2, h2⟩ : ∃ d2, IntKind.i64.wrap (d1 + x.c) = d2 := ⟨_, rfl⟩
  have hd : degW x = d2 := by unfold degW; rw [h1, h2]
  rw [hd]
  clear hd
  go_enter Try.func72, Try.ntmps72
  go_wp2_with fail
  go_ret
  exact ⟨rfl, by repeat (first | exact Below.refl _ _ | apply Below.drew | apply below_drewN | (refine Below.setCell ?_ (by simp <;> omega) _) | (refine Below.alloc ?_ (by simp <;> omega) _))⟩
set_option maxRecDepth 100000 in
set_option maxHeartbeats 4000000 in
theorem sHom_some (p : Int) (g off cap : Nat) (L : List Trm) (w : World) (hl : L.length ≤ 1048576) (hg : g < w.heap.size)
    (hc : ∀ j : Nat, j < L.length → TAt w g (off + j * 4) (L.getD j default)) :
    Calls Try.prog 18 #[.int .i64 p, .slice (some ⟨g, off, none⟩) L.length cap] w fun e w' => e = .returned (.bool (homV p L)) ∧ Below w.heap.size w w' := by
  have HB := Lib.hid (show ∀ w', Below w.heap.size w w' → Calls Try.prog 73 #[.int .i64 p, .slice (some ⟨g, off, none⟩) L.length cap] w' fun e w'' => e = .returned (.bool (isP p && validB p L)) ∧ Below w'.heap.size w' w'' from
    fun w' hb => sPolyValid p _ L w' ⟨hl, _, cap, rfl, .inr ⟨g, off, rfl, Nat.lt_of_lt_of_le hg hb.size, fun j hj => (hc j hj).below hb hg⟩⟩)
  have HC := Lib.hid hc
  have hlp : (L.length : Int) ≤ 1048576 := by omega
  clear hc
  go_enter Try.func18, Try.ntmps18
  go_wp2_with fail
  go_loopw [9] (fun i wr => ∃ k : Nat, k ≤ L.length ∧ i = .int .i64 k ∧ (∀ j, j < k → degW (L.getD j default) = degW (L.getD 0 default)) ∧ Below w.heap.size w wr) (fun i _ => L.length - (intOf i).toNat)
  case atStart => exact ⟨0, by omega, rfl, fun j hj => by omega, Below.refl _ _⟩
  case round =>
    obtain ⟨k, hk, rfl, hd, hb⟩ := hrel
    by_cases hlt : k < L.length
    · have hltp : (k : Int) < (L.length : Int) := by omega
      have hk0 : (0 : Int) ≤ (k : Int) := by omega
      have h0p : (0 : Int) < (L.length : Int) := by omega
      have h0n : 0 < L.length := by omega
      obtain ⟨a0, a1, a2, a3⟩ := (HC.out k hlt).below hb hg
      obtain ⟨x, hx⟩ : ∃ x, x = L.getD k default := ⟨_, rfl⟩
      obtain ⟨y, hy⟩ : ∃ y, y = L.getD 0 default := ⟨_, rfl⟩
      rw [← hx] at a0 a1 a2 a3
      have HY := Lib.hid (show ∀ w', Below w.heap.size w w' → TAt w' g off y from fun w' hb => by have := (HC.out 0 (by omega)).below hb hg; rw [hy]; simpa using this)
      have HD := Lib.hid hd
      have HX := Lib.hid hx
      have HY2 := Lib.hid hy
      have Hb := Lib.hid hb
      have HT := Lib.hid (show ∀ w', Below (wr.heap.size + 1) (wr.alloc (Obj.cells #[.int .i64 x.a, .int .i64 x.b, .int .i64 x.c, .int .i64 x.t] 79)) w' → TAt w' wr.heap.size 0 x from fun w' hb => TAt.below (B := wr.heap.size + 1) (by refine ⟨?_, ?_, ?_, ?_⟩ <;> simp [go_sem]) hb (by omega))
      have HW := Lib.hid (show ∀ w', Below (wr.heap.size + 1) (wr.alloc (Obj.cells #[.int .i64 x.a, .int .i64 x.b, .int .i64 x.c, .int .i64 x.t] 79)) w' → Below w.heap.size w w' from fun w' h => (Below.alloc Hb.out Hb.out.size _).trans (h.mono (by have := Hb.out.size; omega)))
      clear hx hy hd hb
      obtain ⟨d, hde⟩ : ∃ d, d = degW x := ⟨_, rfl⟩
      obtain ⟨e0, hee⟩ : ∃ e, e = degW y := ⟨_, rfl⟩
      have HDE := Lib.hid (And.intro hde hee)
      clear hde hee
      obtain ⟨r, hr⟩ : ∃ r, r = (d != e0) := ⟨_, rfl⟩
      go_wp2_with fail
      have e1 : (wr.alloc (Obj.cells #[.int .i64 x.a, .int .i64 x.b, .int .i64 x.c, .int .i64 x.t] 79)).heap.size = wr.heap.size + 1 := by simp
      refine wp_region_below (by kernel_rfl) (by kernel_rfl) ?_
      rw [e1]
      (with_reducible refine wpQuiet_yes ?_ ?_; (focus (kernel_rfl)); intro K hK; go_simp; refine ⟨_, fun _ _ => rfl, ?_⟩; with_reducible refine hK _ ?_; clear hK K)
      (with_reducible refine wpQuiet_yes ?_ ?_; (focus (kernel_rfl)); intro K hK; go_simp; refine ⟨(.agg #[.int .i64 x.a, .int .i64 x.b, .int .i64 x.c]), ?_, ?_⟩; rotate_left; with_reducible refine hK _ ?_; clear hK K; rotate_left)
      · intro w' hw
        obtain ⟨t0, t1, t2, t3⟩ := HT.out w' hw
        simp only [Nat.zero_add] at t0 t1 t2
        simp only [t0, t1, t2, go_sem, Result.andThen, and_self]
      (with_reducible refine wpQuiet_yes ?_ ?_; (focus (kernel_rfl)); intro K hK; go_simp; refine ⟨(.int .i64 d), ?_, ?_⟩; rotate_left; with_reducible refine hK _ ?_; clear hK K; rotate_left)
      · intro w' hw
        exact (sDegW x w').mono fun e w'' h => by rw [← HDE.out.1] at h; exact ⟨h.1, hw.trans (h.2.mono (by have := hw.size; simp at this; omega))⟩
      (with_reducible refine wpQuiet_yes ?_ ?_; (focus (kernel_rfl)); intro K hK; go_simp; refine ⟨_, fun _ _ => rfl, ?_⟩; with_reducible refine hK _ ?_; clear hK K)
      (with_reducible refine wpQuiet_yes ?_ ?_; (focus (kernel_rfl)); intro K hK; go_simp; refine ⟨_, fun _ _ => rfl, ?_⟩; with_reducible refine hK _ ?_; clear hK K)
      (with_reducible refine wpQuiet_yes ?_ ?_; (focus (kernel_rfl)); intro K hK; go_simp; refine ⟨_, fun _ _ => rfl, ?_⟩; with_reducible refine hK _ ?_; clear hK K)
      (with_reducible refine wpQuiet_yes ?_ ?_; (focus (kernel_rfl)); intro K hK; go_simp; refine ⟨(.agg #[.int .i64 y.a, .int .i64 y.b, .int .i64 y.c]), ?_, ?_⟩; rotate_left; with_reducible refine hK _ ?_; clear hK K; rotate_left)
      · intro w' hw
        obtain ⟨t0, t1, t2, t3⟩ := HY.out w' (HW.out w' hw)
        simp only [t0, t1, t2, go_sem, Result.andThen, and_self]
      (with_reducible refine wpQuiet_yes ?_ ?_; (focus (kernel_rfl)); intro K hK; go_simp; refine ⟨(.int .i64 e0), ?_, ?_⟩; rotate_left; with_reducible refine hK _ ?_; clear hK K; rotate_left)
      · intro w' hw
        exact (sDegW y w').mono fun e w'' h => by rw [← HDE.out.2] at h; exact ⟨h.1, hw.trans (h.2.mono (by have := hw.size; simp at this; omega))⟩
      (with_reducible refine wpQuiet_yes ?_ ?_; (focus (kernel_rfl)); intro K hK; go_simp; refine ⟨(.bool r), ?_, ?_⟩; rotate_left; with_reducible refine hK _ ?_; clear hK K; rotate_left)
      · intro w' hw
        rw [hr]
        try simp only [go_sem, Result.andThen, and_self]
      refine wpQuiet_nil fun w2 hb2 => ?_
      have H2 := Lib.hid (HW.out w2 hb2)
      clear hb2 HT HW
      simp only [Exit.then]
      cases r
      · have hEQ := Lib.hid (show d = e0 by simpa using hr.symm)
        clear hr
        go_wp2_with fail
        go_roundw
        case rel =>
          refine ⟨k + 1, by omega, by go_num, fun j hj => ?_, H2.out⟩
          by_cases hjk : j = k
          · rw [hjk, ← HX.out, ← HY2.out, ← HDE.out.1, ← HDE.out.2, hEQ.out]
          · exact HD.out j (by omega)
        case measure => simp [intOf]; omega
      · have hNE := Lib.hid (show d ≠ e0 by simpa using hr.symm)
        clear hr
        have hf : homV p L = false := by
          unfold homV
          rw [homB_no hlt (by rw [← HX.out, ← HY2.out, ← HDE.out.1, ← HDE.out.2]; exact hNE.out)]
          rfl
        have HF := Lib.hid hf
        clear hf
        go_wp2_with fail
        go_ret
        exact ⟨by rw [HF.out]; rfl, H2.out⟩
    · have hkl : k = L.length := by omega
      subst hkl
      have hh : homV p L = (isP p && validB p L) := by unfold homV; rw [homB_yes hd, Bool.true_and]
      have HH := Lib.hid hh
      have Hb := Lib.hid hb
      clear hd hb hh
      go_wp2_with fail
      refine (HB.out _ Hb.out).mono ?_
      rintro e w2 ⟨rfl, hb2⟩
      have H2 := Lib.hid (Hb.out.trans (hb2.mono Hb.out.size))
      clear hb2
      go_wp2_with fail
      go_ret
      exact ⟨by rw [HH.out]; rfl, H2.out⟩
set_option maxHeartbeats 4000000 in
theorem sHom_nil (p : Int) (a : Option Addr) (cap : Nat) (w : World) :
    Calls Try.prog 18 #[.int .i64 p, .slice a 0 cap] w fun e w' => e = .returned (.bool (homV p [])) ∧ Below w.heap.size w w' := by
  have HB := Lib.hid (show ∀ w', Calls Try.prog 73 #[.int .i64 p, .slice a 0 cap] w' fun e w'' => e = .returned (.bool (homV p [])) ∧ Below w'.heap.size w' w'' from
    fun w' => sPolyValid p (.slice a 0 cap) [] w' ⟨by simp, a, cap, rfl, .inl rfl⟩)
  go_enter Try.func18, Try.ntmps18
  go_wp2_with fail
  go_loop [9] (fun i => i = .int .i64 0) (fun _ => 0)
  case atStart => rfl
  case round =>
    obtain rfl := hrel
    go_wp2_with fail
    refine (HB.out _).mono ?_
    rintro e w1 ⟨rfl, hb1⟩
    have H1 := Lib.hid hb1
    clear hb1
    go_wp2_with fail
    go_ret
    exact ⟨rfl, H1.out⟩
theorem sIsHomogeneous (p : Int) (f : Value) (L : List Trm) (w : World) (h : Trms w f L) :
    Calls Try.prog 18 #[.int .i64 p, f] w fun e w' => e = .returned (.bool (homV p L)) ∧ Below w.heap.size w w' := by
  obtain ⟨hl, a, cap, rfl, h2⟩ := h
  rcases h2 with rfl | ⟨g, off, rfl, hg, hc⟩
  · exact sHom_nil p a cap w
  · exact sHom_some p g off cap L w hl hg hc
set_option maxHeartbeats 4000000 in
theorem iIsHomogeneous (p : Int) (f : Value) (L : List Trm) (w : World) (h : Trms w f L) :
    Calls Try.prog 20 #[.int .i64 p, f] w fun e w' => e = .returned (.bool (homV p L)) ∧ Below w.heap.size w w' := by
  have HD := Lib.hid (iDegreeOf p f L w h)
  have HP := Lib.hid (fun w' (hb : Below w.heap.size w w') => iPartPoly p f L (degV p L) w' (h.below hb))
  have hlen : homV p L = ((isP p && validB p L) && decide ((partL p L (degV p L)).length = L.length)) := by
    unfold homV
    cases hv : (isP p && validB p L)
    · simp
    · simp only [Bool.and_eq_true] at hv
      rw [hom_part hv.1 hv.2]
      simp
  have hpl : (partL p L (degV p L)).length ≤ L.length := by
    unfold partL
    split
    · exact partK_le L _ _
    · simp
  obtain ⟨P, hP⟩ : ∃ P, P = partL p L (degV p L) := ⟨_, rfl⟩
  obtain ⟨dg, hdg⟩ : ∃ dg, dg = degV p L := ⟨_, rfl⟩
  rw [← hdg] at HD HP hP hlen hpl
  rw [← hP] at HP hlen hpl
  obtain ⟨ok, hok⟩ : ∃ ok, ok = (isP p && validB p L) := ⟨_, rfl⟩
  rw [← hok] at HP hlen
  rw [hlen]
  obtain ⟨hl, a, cap, rfl, h2⟩ := h
  clear hP hdg hok hlen h2
  obtain ⟨n, hn⟩ : ∃ n, n = L.length := ⟨_, rfl⟩
  rw [← hn] at HD HP hpl ⊢
  clear hn hl
  go_enter Try.func20, Try.ntmps20
  go_wp2_with fail
  refine HD.out.mono ?_
  rintro e w1 ⟨rfl, hb1⟩
  have H1 := Lib.hid hb1
  clear hb1
  go_wp2_with fail
  refine (HP.out _ H1.out).mono ?_
  rintro e w2 ⟨v2, rfl, ho2, hb2⟩
  have H2 := Lib.hid (H1.out.trans (hb2.mono H1.out.size))
  obtain ⟨_, b, cap2, rfl, _⟩ := ho2.trms
  obtain ⟨m, hm⟩ : ∃ m, m = P.length := ⟨_, rfl⟩
  rw [← hm] at hpl ⊢
  obtain ⟨r, hr⟩ : ∃ r, r = decide (m = n) := ⟨_, rfl⟩
  have HR := Lib.hid (show decide (P.length = n) = r by rw [← hm]; exact hr.symm)
  clear hb2 ho2 hm
  have hr2 : ((m : Int) == (n : Int)) = r := by
    rw [hr]
    by_cases e : m = n
    · subst e; simp
    · have : ¬ (m : Int) = (n : Int) := by omega
      simp [e, this]
  clear hr hpl
  cases ok <;> cases r <;> (go_wp2_with fail; go_ret; exact ⟨by rw [HR.out]; rfl, H2.out⟩)
end Go.Proofs.Ytbgcamkclbcaiaa
namespace Go.Proofs.Ytbgcamkclbcaiaa
open Go.RowKit
set_option maxRecDepth 100000 in
set_option maxHeartbeats 8000000 in
theorem xIsHomogeneous_in (a0 : Int) (a1 : Option Addr) (L1 : List Trm) (c1 : Nat) (r0 : Bool) (w : World) (h1 : Trms w (.slice a1 L1.length c1) L1) (hl : L1.length ≤ 1048576)
    (hS : ∀ f1, ∀ w, Trms w f1 L1 → Calls Try.prog 18 #[.int .i64 a0, f1] w fun e w' => e = .returned (.bool r0) ∧ Below w.heap.size w w')
    (hI : ∀ f1, ∀ w, Trms w f1 L1 → Calls Try.prog 20 #[.int .i64 a0, f1] w fun e w' => e = .returned (.bool r0) ∧ Below w.heap.size w w') :
    Calls Try.prog 3 #[.int .i64 a0, .slice a1 L1.length c1] w fun e w' => e = .returned (.bool true) ∧ Below w.heap.size w w' := by
  have m1 : (1048576 : Int) - L1.length ≥ 0 := by omega
  have HS1 := Lib.hid (fun w => szP_at a1 L1.length c1 (1048576) w (by omega) (by omega) (by omega))
  have Q1 := Lib.hid h1
  have n1 : (L1.length : Int) ≤ 1048576 := by omega
  clear h1
  have HSP := Lib.hid hS
  have HIM := Lib.hid hI
  clear hS hI
  have bb0 := bne_self2 r0
  go_enter Try.func3, Try.ntmps3
  go_wp2_with fail
  refine (HS1.out _).mono ?_
  rintro e w' ⟨rfl, rfl⟩
  have B := Lib.hid (Below.refl w.heap.size w)
  go_wp2_with fail
  refine (toP _ L1 _ (Q1.out.below B.out)).mono ?_
  rintro e W1 ⟨s1, rfl, ho, hb⟩
  replace B := Lib.hid (B.out.trans (hb.mono B.out.size))
  clear hb
  have S1 := Lib.hid ho.trms
  clear ho
  go_wp2_with fail
  refine (HSP.out _ _ S1.out).mono ?_
  rintro e W2 ⟨rfl, hb⟩
  replace B := Lib.hid (B.out.trans (hb.mono B.out.size))
  replace S1 := Lib.hid (S1.out.below hb)
  clear hb
  clear S1
  go_wp2_with fail
  refine (toP _ L1 _ (Q1.out.below B.out)).mono ?_
  rintro e W3 ⟨x1, rfl, ho, hb⟩
  replace B := Lib.hid (B.out.trans (hb.mono B.out.size))
  clear hb
  have O1 := Lib.hid ho
  clear ho
  have Y1 := Lib.hid (Below.refl W3.heap.size W3)
  go_wp2_with fail
  refine (HIM.out _ _ (O1.out.trms.below Y1.out)).mono ?_
  rintro e W4 ⟨rfl, hb⟩
  replace B := Lib.hid (B.out.trans (hb.mono B.out.size))
  replace Y1 := Lib.hid (Y1.out.trans (hb.mono Y1.out.size))
  clear hb
  go_wp2_with fail
  refine (toP _ L1 _ (Q1.out.below B.out)).mono ?_
  rintro e W5 ⟨y1, rfl, ho, hb⟩
  replace B := Lib.hid (B.out.trans (hb.mono B.out.size))
  replace Y1 := Lib.hid (Y1.out.trans (hb.mono Y1.out.size))
  clear hb
  have S1 := Lib.hid ho.trms
  clear ho
  go_wp2_with fail
  refine (eqP x1 y1 L1 _ (O1.out.trms.below Y1.out) S1.out).mono ?_
  rintro e W6 ⟨rfl, hb⟩
  clear S1
  replace B := Lib.hid (B.out.trans (hb.mono B.out.size))
  replace Y1 := Lib.hid (Y1.out.trans (hb.mono Y1.out.size))
  clear hb
  go_wp2_with fail
  go_ret
  exact ⟨rfl, B.out⟩
set_option maxHeartbeats 1000000 in
theorem xIsHomogeneous_long0 (a0 : Int) (a1 : Option Addr) (n1 c1 : Nat) (w : World) (h1 : 1048576 < n1) (h2 : n1 ≤ 9223372036854775807) :
    Calls Try.prog 3 #[.int .i64 a0, .slice a1 n1 c1] w fun e w' => e = .returned (.bool true) ∧ Below w.heap.size w w' := by
  have HS1 := Lib.hid (fun w => szP_over a1 n1 c1 (1048576) w (by omega) (by omega) (by omega) (by omega))
  clear h1 h2
  go_enter Try.func3, Try.ntmps3
  go_wp2_with fail
  refine (HS1.out _).mono ?_
  rintro e w' ⟨rfl, rfl⟩
  go_wp2_with fail
  go_ret
  exact ⟨rfl, Below.refl _ _⟩

theorem xIsHomogeneous (a0 : Int) (a1 : Option Addr) (len1 c1 : Nat) (L1 : List Trm) (w : World) (h1 : RowT w a1 len1 L1) :
    Calls Try.prog 3 #[.int .i64 a0, .slice a1 len1 c1] w fun e w' => e = .returned (.bool true) ∧ Below w.heap.size w w' := by
  by_cases q1 : len1 ≤ 1048576
  · skip
    have e1 := h1.1
    subst e1
    exact xIsHomogeneous_in a0 a1 L1 c1 (homV a0 L1) w (h1.trms (by omega)) (by omega) (fun f1 w k1 => sIsHomogeneous a0 f1 L1 w k1) (fun f1 w k1 => iIsHomogeneous a0 f1 L1 w k1)
  · exact xIsHomogeneous_long0 a0 a1 len1 c1 w (by omega) h1.2.1
end Go.Proofs.Ytbgcamkclbcaiaa
namespace Go.Proofs.Ytbgcamkclbcaiaa
open Go.RowKit
/-- the world inside the model's product: one term in block n, the other in block m, the result in m + 1 -/
structure ZSt (n m : Nat) (x y z : Trm) (w wr : World) : Prop where
  tx : TAt wr n 0 x
  ty : TAt wr m 0 y
  tz : TAt wr (m + 1) 0 z
  fz : ∀ i, wr.frozen? ⟨m + 1, i, none⟩ = false
  nm : n < m
  sz : m + 1 < wr.heap.size
  bm : w.heap.size = m
  low : Below w.heap.size w wr
theorem ZSt.below {n m : Nat} {x y z : Trm} {w wr w1 : World} (h : ZSt n m x y z w wr) (hb : Below wr.heap.size wr w1) : ZSt n m x y z w w1 := by
  have sz := h.sz
  have nm := h.nm
  have e := hb.size
  exact ⟨h.tx.below hb (by omega), h.ty.below hb (by omega), h.tz.below hb sz, fun i => by rw [hb.frozen (p := ⟨m + 1, i, none⟩) sz]; exact h.fz i, nm, by omega, h.bm, h.low.trans (hb.mono h.low.size)⟩
theorem ZSt.other {n m i : Nat} {x y z z' : Trm} {w wr : World} (h : ZSt n m x y z w wr) (v : Value) (ht : TAt (wr.setCell ⟨m + 1, i, none⟩ v) (m + 1) 0 z') : ZSt n m x y z' w (wr.setCell ⟨m + 1, i, none⟩ v) := by
  have nm := h.nm
  obtain ⟨u0, u1, u2, u3⟩ := h.tx
  obtain ⟨q0, q1, q2, q3⟩ := h.ty
  have en : ∀ j, (⟨m + 1, i, none⟩ : Addr) ≠ ⟨n, j, none⟩ := fun j e => by have := congrArg Addr.block e; simp at this; omega
  have em : ∀ j, (⟨m + 1, i, none⟩ : Addr) ≠ ⟨m, j, none⟩ := fun j e => by have := congrArg Addr.block e; simp at this
  refine ⟨⟨?_, ?_, ?_, ?_⟩, ⟨?_, ?_, ?_, ?_⟩, ht, fun j => ?_, nm, by simpa using h.sz, h.bm, h.low.setCell (show w.heap.size ≤ m + 1 by have := h.bm; omega) _⟩
  · rw [World.cell?_setCell_other _ _ _ _ (en _)]; exact u0
  · rw [World.cell?_setCell_other _ _ _ _ (en _)]; exact u1
  · rw [World.cell?_setCell_other _ _ _ _ (en _)]; exact u2
  · rw [World.cell?_setCell_other _ _ _ _ (en _)]; exact u3
  · rw [World.cell?_setCell_other _ _ _ _ (em _)]; exact q0
  · rw [World.cell?_setCell_other _ _ _ _ (em _)]; exact q1
  · rw [World.cell?_setCell_other _ _ _ _ (em _)]; exact q2
  · rw [World.cell?_setCell_other _ _ _ _ (em _)]; exact q3
  · rw [World.frozen?_setCell]; exact h.fz j
theorem ZSt.s0 {n m : Nat} {x y z : Trm} {w wr : World} (h : ZSt n m x y z w wr) (v : Int) : ZSt n m x y ⟨v, z.b, z.c, z.t⟩ w (wr.setCell ⟨m + 1, 0, none⟩ (.int .i64 v)) := by
  obtain ⟨t0, t1, t2, t3⟩ := h.tz
  refine h.other _ ⟨World.cell?_setCell_same _ _ _ t0, ?_, ?_, ?_⟩
  · rw [World.cell?_setCell_other _ _ _ _ (by simp)]; exact t1
  · rw [World.cell?_setCell_other _ _ _ _ (by simp)]; exact t2
  · rw [World.cell?_setCell_other _ _ _ _ (by simp)]; exact t3
theorem ZSt.s1 {n m : Nat} {x y z : Trm} {w wr : World} (h : ZSt n m x y z w wr) (v : Int) : ZSt n m x y ⟨z.a, v, z.c, z.t⟩ w (wr.setCell ⟨m + 1, 1, none⟩ (.int .i64 v)) := by
  obtain ⟨t0, t1, t2, t3⟩ := h.tz
  refine h.other _ ⟨?_, World.cell?_setCell_same _ _ _ t1, ?_, ?_⟩
  · rw [World.cell?_setCell_other _ _ _ _ (by simp)]; exact t0
  · rw [World.cell?_setCell_other _ _ _ _ (by simp)]; exact t2
  · rw [World.cell?_setCell_other _ _ _ _ (by simp)]; exact t3
theorem ZSt.s2 {n m : Nat} {x y z : Trm} {w wr : World} (h : ZSt n m x y z w wr) (v : Int) : ZSt n m x y ⟨z.a, z.b, v, z.t⟩ w (wr.setCell ⟨m + 1, 2, none⟩ (.int .i64 v)) := by
  obtain ⟨t0, t1, t2, t3⟩ := h.tz
  refine h.other _ ⟨?_, ?_, World.cell?_setCell_same _ _ _ t2, ?_⟩
  · rw [World.cell?_setCell_other _ _ _ _ (by simp)]; exact t0
  · rw [World.cell?_setCell_other _ _ _ _ (by simp)]; exact t1
  · rw [World.cell?_setCell_other _ _ _ _ (by simp)]; exact t3
theorem wp_name {P : Program} {c : Code} {Q : Exit → Act → World → Prop} {a : Act} {w : World} (h : ∀ Q', Q' = Q → c.wp P Q' a w) : c.wp P Q a w := h Q rfl
set_option maxRecDepth 100000 in
set_option maxHeartbeats 8000000 in
theorem sProduct (p : Int) (a a2 : Option Addr) (cap cap2 : Nat) (L M : List Trm) (w : World) (hp : isP p = true) (hL : Trms w (.slice a L.length cap) L) (hM : Trms w (.slice a2 M.length cap2) M) (hVL : validB p L = true) (hVM : validB p M = true) :
    Calls Try.prog 78 #[.int .i64 p, .slice a L.length cap, .slice a2 M.length cap2] w fun e w' => ∃ v', e = .returned (.agg #[v']) ∧ Row w' w.heap.size v' (addAll p (prodT p L M) []) ∧ Below w.heap.size w w' := by
  have HP := Lib.hid hp
  have HVL := Lib.hid hVL
  have HVM := Lib.hid hVM
  have HL := Lib.hid hL
  have HM := Lib.hid hM
  have hl1 := validB_len hVL
  have hm1 := validB_len hVM
  obtain ⟨R, hRe⟩ : ∃ R, R = addAll p (prodT p L M) [] := ⟨_, rfl⟩
  rw [← hRe]
  have HRE := Lib.hid hRe
  clear hp hVL hVM hRe hL hM
  go_enter Try.func78, Try.ntmps78
  go_upto_region 1 with fail
  obtain ⟨W0, hW0⟩ : ∃ W, W = w.alloc (Obj.cells #[.slice none 0 0] 89) := ⟨_, rfl⟩
  have hb0 : Below w.heap.size w W0 := by rw [hW0]; exact Below.alloc (Below.refl _ _) (Nat.le_refl _) _
  have HS0 := Lib.hid (show W0.cell? ⟨w.heap.size, 0, none⟩ = some (.slice none 0 0) ∧ W0.frozen? ⟨w.heap.size, 0, none⟩ = false ∧ w.heap.size < W0.heap.size by rw [hW0]; exact ⟨by simp [go_sem], World.frozen?_alloc_at _ _ _ 0 (by simp), by simp⟩)
  have HB0 := Lib.hid hb0
  rw [← hW0]
  clear hW0 hb0
  go_wp2_with fail
  obtain ⟨W, hW⟩ : ∃ W, W = W0.alloc (Obj.cells #[.slice none 0 0] 89) := ⟨_, rfl⟩
  have HW := Lib.hid (show ModW W W0.heap.size (.slice none 0 0) ∧ Row W W0.heap.size (.slice none 0 0) (prodK p L M 0 0) ∧ Value.ownBlock (.slice none 0 0) ≠ some W0.heap.size ∧ Below W0.heap.size W0 W by
    rw [hW, prodK_zero]
    exact ⟨⟨by simp [go_sem], World.frozen?_alloc_at _ _ _ 0 rfl, by simp⟩, Row.nil _ _, by simp [Value.ownBlock], Below.alloc (Below.refl _ _) (Nat.le_refl _) _⟩)
  rw [← hW]
  obtain ⟨S, hSe⟩ : ∃ S, S = W0.heap.size := ⟨_, rfl⟩
  have hSB : W0.heap.size ≤ S := by rw [hSe]; exact Nat.le_refl _
  rw [show ModW W W0.heap.size (.slice none 0 0) = ModW W S (.slice none 0 0) by rw [hSe], show (Value.ownBlock (.slice none 0 0) ≠ some W0.heap.size) = (Value.ownBlock (.slice none 0 0) ≠ some S) by rw [hSe]] at HW
  rw [← hSe]
  clear hSe hW
  go_loopw [17] (fun i wr => ∃ (k : Nat) (v : Value), k ≤ L.length ∧ i = .int .i64 k ∧ ModW wr S v ∧ Row wr W0.heap.size v (prodK p L M k 0) ∧ v.ownBlock ≠ some S ∧ Below W0.heap.size W0 wr) (fun i _ => L.length - (intOf i).toNat)
  case atStart => exact ⟨0, _, by omega, rfl, HW.out⟩
  case round =>
    clear HW
    obtain ⟨k, v, hk, rfl, hS, hR, hv, hb⟩ := hrel
    by_cases hlt : k < L.length
    · have hltp : (k : Int) < (L.length : Int) := by omega
      have hk0 : (0 : Int) ≤ (k : Int) := by omega
      obtain ⟨x, hx⟩ : ∃ x, x = L.getD k default := ⟨_, rfl⟩
      have HX := Lib.hid hx
      have HEX := Lib.hid (validB_el HVL.out hlt hx)
      have HPX := Lib.hid (validB_pows HVL.out hlt hx)
      obtain ⟨g, off, rfl, hg, hc⟩ : ∃ g off, a = some ⟨g, off, none⟩ ∧ g < w.heap.size ∧ ∀ j : Nat, j < L.length → TAt w g (off + j * 4) (L.getD j default) := by
        obtain ⟨_, a', cap', he, h⟩ := HL.out
        injection he with e1 e2 e3
        subst e1
        rcases h with h | h
        · rw [h] at hlt; simp at hlt
        · exact h
      obtain ⟨b0, b1, b2, b3⟩ := ((hc k hlt).below HB0.out hg).below hb (Nat.lt_of_lt_of_le hg HB0.out.size)
      rw [← hx] at b0 b1 b2 b3
      have hn : v.ownBlock ≠ some wr.heap.size := fun e => by have := (World.ownsRow.lt hR _ e).2; omega
      have HIN := Lib.hid (show ∀ W, W = wr.alloc (Obj.cells #[.int .i64 x.a, .int .i64 x.b, .int .i64 x.c, .int .i64 x.t] 79) → ModW W S v ∧ Row W W0.heap.size v (prodK p L M k 0) ∧ v.ownBlock ≠ some S ∧ v.ownBlock ≠ some wr.heap.size ∧ TAt W wr.heap.size 0 x ∧ wr.heap.size < W.heap.size ∧ Below W0.heap.size W0 W from fun W hW => by
        have hb2 : Below wr.heap.size wr W := by rw [hW]; exact Below.alloc (Below.refl _ _) (Nat.le_refl _) _
        exact ⟨hS.below hb2, hR.below hb2, hv, hn, by rw [hW]; refine ⟨?_, ?_, ?_, ?_⟩ <;> simp [go_sem], by rw [hW]; simp, hb.trans (hb2.mono hb.size)⟩)
      have hSn : S < wr.heap.size := hS.sz
      clear hx hS hR hv hb hc hn
      go_wp2_with fail
      obtain ⟨W1, hW1⟩ : ∃ W, W = wr.alloc (Obj.cells #[.int .i64 x.a, .int .i64 x.b, .int .i64 x.c, .int .i64 x.t] 79) := ⟨_, rfl⟩
      have HI1 := Lib.hid (HIN.out W1 hW1)
      rw [← hW1]
      obtain ⟨n, hne⟩ : ∃ n, n = wr.heap.size := ⟨_, rfl⟩
      rw [← hne] at HI1 hSn ⊢
      clear hW1 hne HIN b0 b1 b2 b3
      go_loopw [23] (fun i wr => ∃ (j : Nat) (v : Value), j ≤ M.length ∧ i = .int .i64 j ∧ ModW wr S v ∧ Row wr W0.heap.size v (prodK p L M k j) ∧ v.ownBlock ≠ some S ∧ v.ownBlock ≠ some n ∧ TAt wr n 0 x ∧ n < wr.heap.size ∧ Below W0.heap.size W0 wr) (fun i _ => M.length - (intOf i).toNat)
      case atStart => exact ⟨0, _, by omega, rfl, HI1.out⟩
      case round =>
        clear HI1
        obtain ⟨j, v, hj, rfl, hS, hR, hv, hvn, hT, hnw, hb⟩ := hrel
        by_cases hjt : j < M.length
        · have hjtp : (j : Int) < (M.length : Int) := by omega
          have hj0 : (0 : Int) ≤ (j : Int) := by omega
          obtain ⟨y, hy⟩ : ∃ y, y = M.getD j default := ⟨_, rfl⟩
          have hely := validB_el HVM.out hjt hy
          have hpy := validB_pows HVM.out hjt hy
          obtain ⟨g2, off2, rfl, hg2, hc⟩ : ∃ g off, a2 = some ⟨g, off, none⟩ ∧ g < w.heap.size ∧ ∀ j : Nat, j < M.length → TAt w g (off + j * 4) (M.getD j default) := by
            obtain ⟨_, a', cap', he, h⟩ := HM.out
            injection he with e1 e2 e3
            subst e1
            rcases h with h | h
            · rw [h] at hjt; simp at hjt
            · exact h
          obtain ⟨b0, b1, b2, b3⟩ := ((hc j hjt).below HB0.out hg2).below hb (Nat.lt_of_lt_of_le hg2 HB0.out.size)
          rw [← hy] at b0 b1 b2 b3
          have hex := HEX.out
          have HXK := Lib.hid (show addT p (mulTT p x y) (prodK p L M k j) = prodK p L M k (j + 1) by rw [HX.out, hy, prodK_next hjt])
          have HS := Lib.hid hS
          have HR := Lib.hid hR
          have HV2 := Lib.hid hv
          have HV3 := Lib.hid hvn
          have HT := Lib.hid hT
          have Hb := Lib.hid hb
          have Ha := Lib.hid (Below.alloc (Below.refl wr.heap.size wr) (Nat.le_refl _) (Obj.cells #[.int .i64 y.a, .int .i64 y.b, .int .i64 y.c, .int .i64 y.t] 79))
          obtain ⟨t0, t1, t2, t3⟩ := hT
          simp only [Nat.zero_add] at t0 t1 t2 t3
          clear hy hS hR hv hvn hb hc
          obtain ⟨p2, p13⟩ := isP_bd HP.out
          have hq0 : 0 ≤ x.t * y.t := Int.mul_nonneg (by omega) (by omega)
          have hq1 : x.t * y.t ≤ 13 * 13 := Int.mul_le_mul (by omega) (by omega) (by omega) (by omega)
          have hw : IntKind.i64.wrap (x.t * y.t) = x.t * y.t := IntWalk.i64_in _ (by omega)
          obtain ⟨⟨xa0, xa1⟩, ⟨xb0, xb1⟩, ⟨xc0, xc1⟩⟩ := HPX.out
          obtain ⟨⟨ya0, ya1⟩, ⟨yb0, yb1⟩, ⟨yc0, yc1⟩⟩ := hpy
          have wa : IntKind.i64.wrap (x.a + y.a) = x.a + y.a := IntWalk.i64_in _ (by omega)
          have wb : IntKind.i64.wrap (x.b + y.b) = x.b + y.b := IntWalk.i64_in _ (by omega)
          have wcc : IntKind.i64.wrap (x.c + y.c) = x.c + y.c := IntWalk.i64_in _ (by omega)
          go_wp2_with fail
          obtain ⟨W, hW⟩ : ∃ W, W = (wr.alloc (Obj.cells #[.int .i64 y.a, .int .i64 y.b, .int .i64 y.c, .int .i64 y.t] 79)).alloc (Obj.cells #[.int .i64 0, .int .i64 0, .int .i64 0, .int .i64 (x.t * y.t % p)] 79) := ⟨_, rfl⟩
          have H := Lib.hid (show ZSt n wr.heap.size x y ⟨0, 0, 0, x.t * y.t % p⟩ wr W by
            have hbW : Below wr.heap.size wr W := by rw [hW]; exact Below.alloc (Below.alloc (Below.refl _ _) (Nat.le_refl _) _) (by simp) _
            refine ⟨HT.out.below hbW hnw, ?_, ?_, fun i => ?_, hnw, by rw [hW]; simp, rfl, hbW⟩
            · rw [hW]; refine ⟨?_, ?_, ?_, ?_⟩ <;> simp [go_sem]
            · rw [hW]; refine ⟨?_, ?_, ?_, ?_⟩ <;> simp [go_sem]
            · rw [hW]; exact World.frozen?_alloc_at (w := wr.alloc _) _ _ _ i (by simp))
          rw [← hW]
          obtain ⟨m, hme⟩ : ∃ m, m = wr.heap.size := ⟨_, rfl⟩
          rw [← hme] at H ⊢
          clear hW hme t0 t1 t2 t3 b0 b1 b2 b3
          refine wp_loop_rounds 4 ?_
          obtain ⟨⟨t0, t1, t2, t3⟩, ⟨u0, u1, u2, u3⟩, ⟨z0, z1, z2, z3⟩, fz, -, sz, -, -⟩ := H.out
          have fz0 := fz 0
          simp only [Nat.zero_add] at t0 t1 t2 t3 u0 u1 u2 u3 z0 z1 z2 z3
          clear hltp hk0 hjtp hj0 hely p2 p13 hq0 hq1 hw xa0 xa1 xb0 xb1 xc0 xc1 ya0 ya1 yb0 yb1 yc0 yc1 hl1 hm1 hex
          rw [rounds_succ]
          go_wp2_with fail
          refine wp_name (fun Q0 hQ0 => ?_)
          have HQ0 := Lib.hid hQ0
          clear hQ0
          refine wp_region_quiet_last (C := fun w' => ∃ n, w' = W.drewN n) (by kernel_rfl) (by kernel_rfl) ⟨1, rfl⟩ ?_
          repeat (refine wpQL_step (fun K hK => ?_); go_simp; refine hK _ ?_; clear hK K)
          refine wpQL_one ?_
          rintro _ ⟨n0, rfl⟩
          go_wp2_with fail
          rw [HQ0.out]
          go_wp2_with fail
          have H := Lib.hid ((H.out.below (below_drewN (Below.refl _ _) n0)).s0 (x.a + y.a))
          clear t0 t1 t2 t3 u0 u1 u2 u3 z0 z1 z2 z3 fz fz0 sz
          generalize ((W.drewN n0).setCell ⟨m + 1, 0, none⟩ (.int .i64 (x.a + y.a))) = W1 at H ⊢
          obtain ⟨⟨t0, t1, t2, t3⟩, ⟨u0, u1, u2, u3⟩, ⟨z0, z1, z2, z3⟩, fz, -, sz, -, -⟩ := H.out
          have fz1 := fz 1
          simp only [Nat.zero_add] at t0 t1 t2 t3 u0 u1 u2 u3 z0 z1 z2 z3
          rw [rounds_succ]
          go_wp2_with fail
          refine wp_name (fun Q1 hQ1 => ?_)
          have HQ1 := Lib.hid hQ1
          clear hQ1
          refine wp_region_quiet_last (C := fun w' => ∃ n, w' = W1.drewN n) (by kernel_rfl) (by kernel_rfl) ⟨1, rfl⟩ ?_
          repeat (refine wpQL_step (fun K hK => ?_); go_simp; refine hK _ ?_; clear hK K)
          refine wpQL_one ?_
          rintro _ ⟨n1, rfl⟩
          go_wp2_with fail
          rw [HQ1.out]
          go_wp2_with fail
          have H := Lib.hid ((H.out.below (below_drewN (Below.refl _ _) n1)).s1 (x.b + y.b))
          clear t0 t1 t2 t3 u0 u1 u2 u3 z0 z1 z2 z3 fz fz1 sz
          generalize ((W1.drewN n1).setCell ⟨m + 1, 1, none⟩ (.int .i64 (x.b + y.b))) = W2 at H ⊢
          obtain ⟨⟨t0, t1, t2, t3⟩, ⟨u0, u1, u2, u3⟩, ⟨z0, z1, z2, z3⟩, fz, -, sz, -, -⟩ := H.out
          have fz2 := fz 2
          simp only [Nat.zero_add] at t0 t1 t2 t3 u0 u1 u2 u3 z0 z1 z2 z3
          rw [rounds_succ]
          go_wp2_with fail
          refine wp_name (fun Q2 hQ2 => ?_)
          have HQ2 := Lib.hid hQ2
          clear hQ2
          refine wp_region_quiet_last (C := fun w' => ∃ n, w' = W2.drewN n) (by kernel_rfl) (by kernel_rfl) ⟨1, rfl⟩ ?_
          repeat (refine wpQL_step (fun K hK => ?_); go_simp; refine hK _ ?_; clear hK K)
          refine wpQL_one ?_
          rintro _ ⟨n2, rfl⟩
          go_wp2_with fail
          rw [HQ2.out]
          go_wp2_with fail
          have H := Lib.hid ((H.out.below (below_drewN (Below.refl _ _) n2)).s2 (x.c + y.c))
          clear t0 t1 t2 t3 u0 u1 u2 u3 z0 z1 z2 z3 fz fz2 sz
          generalize ((W2.drewN n2).setCell ⟨m + 1, 2, none⟩ (.int .i64 (x.c + y.c))) = W3 at H ⊢
          obtain ⟨⟨t0, t1, t2, t3⟩, ⟨u0, u1, u2, u3⟩, ⟨z0, z1, z2, z3⟩, fz, -, sz, -, -⟩ := H.out
          have fz3 := fz 3
          simp only [Nat.zero_add] at t0 t1 t2 t3 u0 u1 u2 u3 z0 z1 z2 z3
          rw [rounds_succ]
          go_wp2_with fail
          have hlow := H.out.low
          have hnW : n < _ := Nat.lt_of_lt_of_le hnw hlow.size
          have hf := prodK_facts HP.out (Nat.le_of_lt hlt) hj (validB_len HVL.out) (validB_len HVM.out)
          have H3 := Lib.hid (Hb.out.trans (hlow.mono Hb.out.size))
          have hpb := isP_bd HP.out
          refine (sAdd W0.heap.size S p (prodK p L M k j) (mulTT p x y) v _ (HS.out.below hlow) (HR.out.below hlow) (by omega) hf.1 HV2.out HP.out hf.2.1 ⟨Int.emod_nonneg _ (by omega), Int.emod_lt_of_pos _ (by omega)⟩ H3.out.size).mono ?_
          rintro e w4 hP4
          have hlw := hP4.low (HR.out.below hlow) hSB H3.out.size
          obtain ⟨rfl, v', hS', hR', hv', hK, hor⟩ := hP4
          rw [HXK.out] at hR'
          have hvn' : v'.ownBlock ≠ some n := by
            rcases hor with e | ⟨g, e, hg⟩
            · rw [e]; exact HV3.out
            · rw [e]; intro h; injection h with h; omega
          have hT' : TAt w4 n 0 x := by
            obtain ⟨q0, q1, q2, q3⟩ := H.out.tx
            have hc : ∀ i, w4.cell? ⟨n, i, none⟩ = W3.cell? ⟨n, i, none⟩ := fun i => hK.cell (p := ⟨n, i, none⟩) hnW (fun h => h.elim (fun h => absurd h (show n ≠ S by omega)) (fun h => HV3.out h))
            exact ⟨by rw [hc]; exact q0, by rw [hc]; exact q1, by rw [hc]; exact q2, by rw [hc]; exact q3⟩
          have hn4 : n < w4.heap.size := Nat.lt_of_lt_of_le hnW hlw.size
          have HQ := Lib.hid (And.intro hS' (And.intro hR' (And.intro hv' (And.intro hvn' (And.intro hT' (And.intro hn4 (H3.out.trans hlw)))))))
          clear hS' hR' hv' hvn' hT' hn4 hlw hK hor hf hlow hnW hpb t0 t1 t2 t3 u0 u1 u2 u3 z0 z1 z2 z3 fz fz3 sz
          have hm1 := validB_len HVM.out
          go_wp2_with fail
          go_roundw
          case rel => exact ⟨j + 1, v', by omega, by go_num, HQ.out⟩
          case measure => simp [intOf]; omega
        · have hjl : j = M.length := by omega
          subst hjl
          rw [prodK_row hlt] at hR
          have HQ := Lib.hid (And.intro hS (And.intro hR (And.intro hv hb)))
          clear hS hR hv hvn hT hb
          go_wp2_with fail
          go_roundw
          case rel => exact ⟨k + 1, v, by omega, by go_num, HQ.out⟩
          case measure => simp [intOf]; omega
    · have hkl : k = L.length := by omega
      subst hkl
      rw [prodK_end, ← HRE.out] at hR
      obtain ⟨q0, q1, q2⟩ := HS0.out
      have r0 : wr.cell? ⟨w.heap.size, 0, none⟩ = some (.slice none 0 0) := by rw [hb.cell (p := ⟨w.heap.size, 0, none⟩) q2]; exact q0
      have r1 : wr.frozen? ⟨w.heap.size, 0, none⟩ = false := by rw [hb.frozen (p := ⟨w.heap.size, 0, none⟩) q2]; exact q1
      obtain ⟨s0, sf, _⟩ := hS
      obtain ⟨a3, c3, rfl⟩ : ∃ a c, v = .slice a R.length c := by
        rcases hR.shape with ⟨rfl, h⟩ | ⟨g, c, rfl, _⟩
        · exact ⟨none, 0, by rw [h]; rfl⟩
        · exact ⟨_, c, rfl⟩
      have HQ := Lib.hid (show Row (wr.setCell ⟨w.heap.size, 0, none⟩ (.slice a3 R.length c3)) w.heap.size (.slice a3 R.length c3) R ∧ Below w.heap.size w (wr.setCell ⟨w.heap.size, 0, none⟩ (.slice a3 R.length c3)) from
        ⟨row_base (World.ownsRow.kept (row := some w.heap.size) hR ⟨rfl, rfl, rfl, by simp, fun k hk hne => Below.heap_setCell _ _ _ _ (fun e => hne (by rw [e]))⟩ (.inr (fun e => by have := (World.ownsRow.lt hR _ e).1; omega))) HB0.out.size,
         Below.setCell (HB0.out.trans (hb.mono HB0.out.size)) (Nat.le_refl _) _⟩)
      clear hR hb hv
      have hq := World.cell?_setCell_same wr ⟨w.heap.size, 0, none⟩ (.slice a3 R.length c3) r0
      go_wp2_with fail
      refine bodyPost_ret (v := .agg #[.slice a3 R.length c3]) (by simp [results, Try.results78, go_sem, hq]) rfl ⟨_, rfl, HQ.out⟩
end Go.Proofs.Ytbgcamkclbcaiaa
namespace Go.Proofs.Ytbgcamkclbcaiaa
open Go.RowKit
set_option maxRecDepth 100000 in
set_option maxHeartbeats 4000000 in
theorem sMulPoly_no (p : Int) (fv gv : Value) (L M : List Trm) (w : World) (hL : Trms w fv L) (hM : Trms w gv M) (hr : (okB p (fv, L) && okB p (gv, M)) = false) :
    Calls Try.prog 145 #[.int .i64 p, fv, gv] w (GivesPB [] false w) := by
  have HB := Lib.hid (bothAt p fv gv L M w hL hM false hr)
  clear hr
  obtain ⟨_, a, cap, rfl, _⟩ := hL
  obtain ⟨_, a2, cap2, rfl, _⟩ := hM
  go_enter Try.func145, Try.ntmps145
  go_wp2_with (go_at_call 77; refine HB.out.mono ?_; rintro e w2 ⟨rfl, hb2⟩)
  refine bodyPost_ret (v := .tuple #[.slice (some ⟨w2.heap.size, 0, none⟩) 0 0, .bool false]) (by simp [results, Try.results145, go_sem]) rfl ⟨_, rfl, (Row.lit0 w2 w.heap.size hb2.size).own (by simp), Below.alloc hb2 hb2.size _⟩
set_option maxRecDepth 100000 in
set_option maxHeartbeats 4000000 in
theorem sMulPoly_yes (p : Int) (fv gv : Value) (L M : List Trm) (w : World) (hL : Trms w fv L) (hM : Trms w gv M) (hp : isP p = true) (hVL : validB p L = true) (hVM : validB p M = true) :
    Calls Try.prog 145 #[.int .i64 p, fv, gv] w (GivesPB (if validB p (addAll p (prodT p L M) []) = true then addAll p (prodT p L M) [] else []) (validB p (addAll p (prodT p L M) [])) w) := by
  have HB := Lib.hid (bothAt p fv gv L M w hL hM true (by unfold okB; dsimp only; rw [hp, hVL, hVM]; rfl))
  obtain ⟨m0, a2, cap2, rfl, m1⟩ := hM
  obtain ⟨l0, a, cap, rfl, l1⟩ := hL
  have HS := Lib.hid (fun (w' : World) (hb : Below w.heap.size w w') => sProduct p a a2 cap cap2 L M w' hp (Trms.below ⟨l0, a, cap, rfl, l1⟩ hb) (Trms.below ⟨m0, a2, cap2, rfl, m1⟩ hb) hVL hVM)
  have HT := Lib.hid (fun (B : Nat) (v : Value) (w' : World) (hR : Row w' B v (addAll p (prodT p L M) [])) => sTold B p hp (addAll p (prodT p L M) []) v w' hR (by
    have h := (prodK_facts hp (k := L.length) (j := 0) (Nat.le_refl _) (Nat.zero_le _) (validB_len hVL) (validB_len hVM)).2.2
    rw [prodK_end] at h
    omega))
  clear m1 l1
  obtain ⟨R, hR⟩ : ∃ R, R = addAll p (prodT p L M) [] := ⟨_, rfl⟩
  rw [← hR] at HS HT ⊢
  obtain ⟨b, hb⟩ : ∃ b, b = validB p R := ⟨_, rfl⟩
  rw [← hb] at HT ⊢
  obtain ⟨R2, hR2⟩ : ∃ R2, R2 = (if b = true then R else []) := ⟨_, rfl⟩
  rw [← hR2] at HT ⊢
  clear hR hb hR2 hp hVL hVM
  go_enter Try.func145, Try.ntmps145
  go_wp2_with first
    | (go_at_call 77; refine HB.out.mono ?_; rintro e w2 ⟨rfl, hb2⟩)
    | (go_at_call 78; refine (HS.out _ hb2).mono ?_; rintro e w3 ⟨v3, rfl, hR3, hb3⟩)
    | (go_at_call 79; refine (HT.out _ _ _ hR3).mono ?_; rintro e w4 ⟨v4, rfl, ho4, hb4⟩)
  have h3 := hb2.trans (hb3.mono hb2.size)
  refine bodyPost_ret (v := .tuple #[v4, .bool b]) (by simp [results, Try.results145, go_sem]) rfl ⟨_, rfl, ownTrms_mono ho4 h3.size, h3.trans (hb4.mono h3.size)⟩
def mulOk (p : Int) (L M : List Trm) : Bool := ((isP p && validB p L) && (isP p && validB p M)) && validB p (addAll p (prodT p L M) [])
def mulL (p : Int) (L M : List Trm) : List Trm := if mulOk p L M = true then addAll p (prodT p L M) [] else []
theorem mulOk_no {p : Int} {L M : List Trm} (h : ((isP p && validB p L) && (isP p && validB p M)) = false) : mulOk p L M = false ∧ mulL p L M = [] := by
  have e : mulOk p L M = false := by unfold mulOk; rw [h]; rfl
  exact ⟨e, by unfold mulL; rw [e]; rfl⟩
theorem mulOk_yes {p : Int} {L M : List Trm} (h : ((isP p && validB p L) && (isP p && validB p M)) = true) : mulOk p L M = validB p (addAll p (prodT p L M) []) ∧ mulL p L M = (if validB p (addAll p (prodT p L M) []) = true then addAll p (prodT p L M) [] else []) := by
  have e : mulOk p L M = validB p (addAll p (prodT p L M) []) := by unfold mulOk; rw [h, Bool.true_and]
  exact ⟨e, by unfold mulL; rw [e]⟩
theorem sMulPoly (p : Int) (f g : Value) (L M : List Trm) (w : World) (hL : Trms w f L) (hM : Trms w g M) :
    Calls Try.prog 145 #[.int .i64 p, f, g] w (GivesPB (mulL p L M) (mulOk p L M) w) := by
  cases h : ((isP p && validB p L) && (isP p && validB p M))
  · rw [(mulOk_no h).1, (mulOk_no h).2]
    exact sMulPoly_no p f g L M w hL hM h
  · rw [(mulOk_yes h).1, (mulOk_yes h).2]
    simp only [Bool.and_eq_true] at h
    exact sMulPoly_yes p f g L M w hL hM h.1.1 h.1.2 h.2.2
theorem iMulPoly (p : Int) (f g : Value) (L M : List Trm) (w : World) (hL : Trms w f L) (hM : Trms w g M) :
    Calls Try.prog 60 #[.int .i64 p, f, g] w (GivesPB (mulL p L M) (mulOk p L M) w) := by
  cases h : ((isP p && validB p L) && (isP p && validB p M))
  · rw [(mulOk_no h).1, (mulOk_no h).2]
    exact iMulPoly_no p f g L M w hL hM h
  · rw [(mulOk_yes h).1, (mulOk_yes h).2]
    simp only [Bool.and_eq_true] at h
    exact iMulPoly_yes p f g L M w hL hM h.1.1 h.1.2 h.2.2
end Go.Proofs.Ytbgcamkclbcaiaa
namespace Go.Proofs.Ytbgcamkclbcaiaa
open Go.RowKit
/-- exponents that may stand in a product -/
def sml (x : Trm) : Prop := (0 ≤ x.a ∧ x.a ≤ 18) ∧ (0 ≤ x.b ∧ x.b ≤ 18) ∧ (0 ≤ x.c ∧ x.c ≤ 18)
theorem degW_sml {x : Trm} (h : sml x) : degW x = degT x := by
  obtain ⟨⟨a0, a1⟩, ⟨b0, b1⟩, ⟨c0, c1⟩⟩ := h
  have w1 : IntKind.i64.wrap (x.a + x.b) = x.a + x.b := IntWalk.i64_in _ (by omega)
  have w2 : IntKind.i64.wrap (x.a + x.b + x.c) = x.a + x.b + x.c := IntWalk.i64_in _ (by omega)
  unfold degW degT
  rw [w1, w2]
theorem sml_valid {p : Int} {L : List Trm} (h : validB p L = true) : ∀ x ∈ L, sml x := fun x hx => by
  have := validB_mem h hx
  unfold sml
  omega
/-- the powers of what was added are those of what came -/
theorem sml_add {p : Int} {xs : List Trm} (h : ∀ x ∈ xs, sml x) : ∀ y ∈ addAll p xs [], sml y := fun y hy => by
  rcases addAll_mem hy with h1 | ⟨z, hz, _, e1, e2, e3⟩
  · cases h1
  · have := h z hz
    unfold sml at this ⊢
    rw [e1, e2, e3]
    exact this
theorem sml_prod {p : Int} {L M : List Trm} (hL : validB p L = true) (hM : validB p M = true) : ∀ x ∈ prodT p L M, sml x := by
  intro x hx
  obtain ⟨y, hy, hx⟩ := List.mem_flatMap.1 hx
  obtain ⟨z, hz, rfl⟩ := List.mem_map.1 hx
  have h1 := validB_mem hL hy
  have h2 := validB_mem hM hz
  unfold sml mulTT
  show (0 ≤ y.a + z.a ∧ y.a + z.a ≤ 18) ∧ (0 ≤ y.b + z.b ∧ y.b + z.b ≤ 18) ∧ (0 ≤ y.c + z.c ∧ y.c + z.c ≤ 18)
  omega
theorem cut_next {n : Int} {L : List Trm} {k : Nat} (hk : k < L.length) : cutL n (L.take (k + 1)) = if degT (L.getD k default) ≤ n then cutL n (L.take k) ++ [L.getD k default] else cutL n (L.take k) := by
  have e : L.getD k default = L[k] := by simp [List.getD_eq_getElem?_getD, hk]
  rw [e, List.take_succ_eq_append_getElem hk]
  unfold cutL fl
  rw [List.filter_append]
  by_cases h : degT L[k] ≤ n
  · rw [if_pos h, List.filter_cons_of_pos (by unfold upB; rw [decide_eq_true_eq]; exact h)]; rfl
  · rw [if_neg h, List.filter_cons_of_neg (by unfold upB; rw [decide_eq_true_eq]; exact h)]; simp
theorem cut_len (n : Int) (L : List Trm) (k : Nat) : (cutL n (L.take k)).length ≤ k := by
  refine Nat.le_trans (List.length_filter_le _ _) ?_
  simp
  omega
set_option maxRecDepth 100000 in
set_option maxHeartbeats 8000000 in
theorem sCut_some (g off cap : Nat) (L : List Trm) (n : Int) (w : World) (hl : L.length ≤ 4000) (hs : ∀ x ∈ L, sml x) (hg : g < w.heap.size)
    (hc : ∀ j : Nat, j < L.length → TAt w g (off + j * 4) (L.getD j default)) :
    Calls Try.prog 76 #[.slice (some ⟨g, off, none⟩) L.length cap, .int .i64 n] w fun e w' => ∃ v, e = .returned v ∧ Row w' w.heap.size v (cutL n L) ∧ Below w.heap.size w w' := by
  obtain ⟨i0, hi, hz0, hz1, hz2⟩ := info_parts infoT
  have HC := Lib.hid hc
  have HS := Lib.hid hs
  clear hc hs
  go_enter Try.func76, Try.ntmps76
  go_wp2_with fail
  go_loopw [5, 11] (fun v i wr => ∃ k : Nat, k ≤ L.length ∧ i = .int .i64 k ∧ Row wr w.heap.size v (cutL n (L.take k)) ∧ Below w.heap.size w wr) (fun _ i _ => L.length - (intOf i).toNat)
  case atStart => exact ⟨0, by omega, rfl, Row.lit0 w w.heap.size (Nat.le_refl _), Below.alloc (Below.refl _ _) (Nat.le_refl _) _⟩
  case round =>
    obtain ⟨k, hk, rfl, hrow, hb⟩ := hrel
    have hlen := cut_len n L k
    by_cases hlt : k < L.length
    · have hltp : (k : Int) < (L.length : Int) := by omega
      have hk0 : (0 : Int) ≤ (k : Int) := by omega
      obtain ⟨a0, a1, a2, a3⟩ := (HC.out k hlt).below hb hg
      have HN := Lib.hid (cut_next (n := n) hlt)
      have hmem : L.getD k default ∈ L := by simp [List.getD_eq_getElem?_getD, hlt]
      have hsm := HS.out _ hmem
      obtain ⟨x, hx⟩ : ∃ x, x = L.getD k default := ⟨_, rfl⟩
      rw [← hx] at a0 a1 a2 a3 HN hsm
      have HDG := Lib.hid (fun w => by have := sDegW x w; rw [degW_sml hsm] at this; exact this)
      have Hb := Lib.hid hb
      have HR := Lib.hid hrow
      clear hx hb hrow hmem hsm
      go_wp2_with fail
      refine (HDG.out _).mono ?_
      rintro e w2 ⟨rfl, hb2⟩
      have hT2 : TAt w2 wr.heap.size 0 x := by
        refine TAt.below (B := _) ?_ hb2 (by simp)
        refine ⟨?_, ?_, ?_, ?_⟩ <;> simp [go_sem]
      have hs2 : wr.heap.size < w2.heap.size := by have := hb2.size; simp at this; omega
      have Hr := Lib.hid ((Below.alloc (Below.refl _ _) (Nat.le_refl _) _).trans (hb2.mono (by simp)))
      have H2 := Lib.hid (Hb.out.trans (Hr.out.mono Hb.out.size))
      have HR2 := Lib.hid (HR.out.below Hr.out)
      clear hb2 HR
      obtain ⟨t0, t1, t2, t3⟩ := hT2
      by_cases hd : degT x ≤ n
      · have HDn := Lib.hid (show cutL n (L.take (k + 1)) = cutL n (L.take k) ++ [x] by rw [HN.out, if_pos hd])
        go_wp2_with (at_builtin; refine wpList_append_own _ rfl _ _ 26 rfl w.heap.size 79 i0 (.agg #[.int .i64 0, .int .i64 0, .int .i64 0, .int .i64 0]) 4 32 Try.underlying26 hi hz0 hz1 hz2 rfl (by decide) _ _ _ rfl (World.ownsRow.alloc HR2.out _) ⟨w2.heap.size, 0, none⟩ 1 1 x.cs rfl rfl ?c1 ?c2 ?c3 ?c4 ?c5 ?_)
        case c1 =>
          intro j u hj
          match j, hj with
          | 0, hj => simp [Trm.cs] at hj; subst hj; simp [Addr.add]
          | 1, hj => simp [Trm.cs] at hj; subst hj; simp [Addr.add]
          | 2, hj => simp [Trm.cs] at hj; subst hj; simp [Addr.add]
          | 3, hj => simp [Trm.cs] at hj; subst hj; simp [Addr.add]
          | j + 4, hj => simp [Trm.cs] at hj
        case c2 => intro u hu; exact flat_cell [x] u (by simpa [flat] using hu)
        case c3 => unfold maxLen; omega
        case c4 => omega
        case c5 => have := H2.out.size; simp; omega
        intro v' w3 hown' hgrow _
        have R3 := Lib.hid (show Row w3 w.heap.size v' (cutL n (L.take (k + 1))) by
          rw [HDn.out]
          show World.ownsRow _ _ _ _ _ _ _
          rw [flat_app, flat_one, List.length_append]
          exact hown')
        have H3 := Lib.hid (show Below w.heap.size w w3 by
          exact Below.trans (Below.alloc H2.out H2.out.size _) (Row.low (World.ownsRow.alloc HR2.out _) (by have := H2.out.size; simp; omega) hgrow))
        clear hown' hgrow
        go_wp2
        go_roundw
        case rel => exact ⟨k + 1, by omega, by go_num, R3.out, H3.out⟩
        case measure => simp [intOf]; omega
      · have HDn := Lib.hid (show cutL n (L.take (k + 1)) = cutL n (L.take k) by rw [HN.out, if_neg hd])
        go_wp2_with fail
        go_roundw
        case rel => exact ⟨k + 1, by omega, by go_num, by rw [HDn.out]; exact HR2.out, H2.out⟩
        case measure => simp [intOf]; omega
    · have hkl : k = L.length := by omega
      subst hkl
      rw [List.take_length] at hrow
      have HR := Lib.hid hrow
      have Hb := Lib.hid hb
      clear hrow hb
      go_wp2_with fail
      go_ret
      exact ⟨_, rfl, HR.out, Hb.out⟩
set_option maxHeartbeats 4000000 in
theorem sCut_nil (a : Option Addr) (cap : Nat) (n : Int) (w : World) :
    Calls Try.prog 76 #[.slice a 0 cap, .int .i64 n] w fun e w' => ∃ v, e = .returned v ∧ Row w' w.heap.size v [] ∧ Below w.heap.size w w' := by
  go_enter Try.func76, Try.ntmps76
  go_wp2_with fail
  go_loop [5, 11] (fun v i => v = (.slice (some ⟨w.heap.size, 0, none⟩) 0 0) ∧ i = .int .i64 0) (fun _ _ => 0)
  case atStart => exact ⟨rfl, rfl⟩
  case round =>
    obtain ⟨rfl, rfl⟩ := hrel
    go_wp2_with fail
    go_ret
    exact ⟨_, rfl, Row.lit0 w w.heap.size (Nat.le_refl _), Below.alloc (Below.refl _ _) (Nat.le_refl _) _⟩
theorem sCut (f : Value) (L : List Trm) (n : Int) (w : World) (h : Trms w f L) (hl : L.length ≤ 4000) (hs : ∀ x ∈ L, sml x) :
    Calls Try.prog 76 #[f, .int .i64 n] w fun e w' => ∃ v, e = .returned v ∧ Row w' w.heap.size v (cutL n L) ∧ Below w.heap.size w w' := by
  obtain ⟨_, a, cap, rfl, h2⟩ := h
  rcases h2 with rfl | ⟨g, off, rfl, hg, hc⟩
  · exact sCut_nil a cap n w
  · exact sCut_some g off cap L n w hl hs hg hc
/-- what CutPoly hands back -/
def cutV (p n : Int) (L : List Trm) : List Trm := if (isP p && validB p L) = true then cutL n L else []
set_option maxHeartbeats 4000000 in
theorem sCutPoly (p : Int) (f : Value) (L : List Trm) (n : Int) (w : World) (h : Trms w f L) :
    Calls Try.prog 22 #[.int .i64 p, f, .int .i64 n] w (GivesPB (cutV p n L) (isP p && validB p L) w) := by
  have HB := Lib.hid (sPolyValid p f L w h)
  unfold cutV
  cases hn : (isP p && validB p L)
  · rw [hn] at HB
    clear h hn
    go_enter Try.func22, Try.ntmps22
    go_wp2_with fail
    refine HB.out.mono ?_
    rintro e w1 ⟨rfl, hb1⟩
    go_wp2_with fail
    refine bodyPost_ret (v := .tuple #[.slice (some ⟨w1.heap.size, 0, none⟩) 0 0, .bool false]) (by simp [results, Try.results22, go_sem]) rfl ⟨_, rfl, (Row.lit0 w1 w.heap.size hb1.size).own (by simp), Below.alloc hb1 hb1.size _⟩
  · rw [hn] at HB
    have hV : validB p L = true := by simp only [Bool.and_eq_true] at hn; exact hn.2
    have HC := Lib.hid (fun w' (hb : Below w.heap.size w w') => sCut f L n w' (h.below hb) (by have := validB_len hV; omega) (sml_valid hV))
    have hl : (cutL n L).length ≤ 4000 := by
      have h1 := cut_len n L L.length
      rw [List.take_length] at h1
      have := validB_len hV
      omega
    obtain ⟨R, hR⟩ : ∃ R, R = cutL n L := ⟨_, rfl⟩
    rw [← hR] at HC hl
    have HRR := Lib.hid hR
    clear h hn hV hR
    go_enter Try.func22, Try.ntmps22
    go_wp2_with fail
    refine HB.out.mono ?_
    rintro e w1 ⟨rfl, hb1⟩
    have H1 := Lib.hid hb1
    clear hb1
    go_wp2_with fail
    refine (HC.out _ H1.out).mono ?_
    rintro e w2 ⟨v, rfl, hrow, hb2⟩
    have H2 := Lib.hid (And.intro hrow (H1.out.trans (hb2.mono H1.out.size)))
    clear hrow hb2
    go_wp2_with fail
    refine bodyPost_ret (v := .tuple #[v, .bool true]) (by simp [results, Try.results22, go_sem]) rfl ?_
    rw [← HRR.out]
    exact ⟨_, rfl, (row_base H2.out.1 H1.out.size).own (by omega), H2.out.2⟩
/-- what MulCut hands back -/
def mcR (p k : Int) (L M : List Trm) : List Trm := cutL k (addAll p (prodT p L M) [])
def mcOk (p k : Int) (L M : List Trm) : Bool := ((isP p && validB p L) && (isP p && validB p M)) && validB p (mcR p k L M)
def mcL (p k : Int) (L M : List Trm) : List Trm := if mcOk p k L M = true then mcR p k L M else []
theorem mcOk_no {p k : Int} {L M : List Trm} (h : ((isP p && validB p L) && (isP p && validB p M)) = false) : mcOk p k L M = false ∧ mcL p k L M = [] := by
  have e : mcOk p k L M = false := by unfold mcOk; rw [h]; rfl
  exact ⟨e, by unfold mcL; rw [e]; rfl⟩
theorem mcOk_yes {p k : Int} {L M : List Trm} (h : ((isP p && validB p L) && (isP p && validB p M)) = true) : mcOk p k L M = validB p (mcR p k L M) ∧ mcL p k L M = (if validB p (mcR p k L M) = true then mcR p k L M else []) := by
  have e : mcOk p k L M = validB p (mcR p k L M) := by unfold mcOk; rw [h, Bool.true_and]
  exact ⟨e, by unfold mcL; rw [e]⟩
theorem prod_len {p : Int} {L M : List Trm} (hL : L.length ≤ 60) (hM : M.length ≤ 60) : (addAll p (prodT p L M) []).length ≤ 3600 := by
  have h1 := addAll_len (p := p) (prodT p L M) []
  rw [prodT_len] at h1
  have := Nat.mul_le_mul hL hM
  simp at h1
  omega
theorem mc_len {p k : Int} {L M : List Trm} (hL : L.length ≤ 60) (hM : M.length ≤ 60) : (mcR p k L M).length ≤ 3600 := Nat.le_trans (List.length_filter_le _ _) (prod_len hL hM)
set_option maxRecDepth 100000 in
set_option maxHeartbeats 4000000 in
theorem sMulCut_no (p : Int) (fv gv : Value) (L M : List Trm) (k : Int) (w : World) (hL : Trms w fv L) (hM : Trms w gv M) (hr : (okB p (fv, L) && okB p (gv, M)) = false) :
    Calls Try.prog 26 #[.int .i64 p, fv, gv, .int .i64 k] w (GivesPB [] false w) := by
  have HB := Lib.hid (bothAt p fv gv L M w hL hM false hr)
  clear hr
  obtain ⟨_, a, cap, rfl, _⟩ := hL
  obtain ⟨_, a2, cap2, rfl, _⟩ := hM
  go_enter Try.func26, Try.ntmps26
  go_wp2_with (go_at_call 77; refine HB.out.mono ?_; rintro e w2 ⟨rfl, hb2⟩)
  refine bodyPost_ret (v := .tuple #[.slice (some ⟨w2.heap.size, 0, none⟩) 0 0, .bool false]) (by simp [results, Try.results26, go_sem]) rfl ⟨_, rfl, (row_base (Row.lit0 w2 w2.heap.size (Nat.le_refl _)) hb2.size).own (by simp), Below.alloc hb2 hb2.size _⟩
set_option maxRecDepth 100000 in
set_option maxHeartbeats 4000000 in
theorem sMulCut_yes (p : Int) (fv gv : Value) (L M : List Trm) (k : Int) (w : World) (hL : Trms w fv L) (hM : Trms w gv M) (hp : isP p = true) (hVL : validB p L = true) (hVM : validB p M = true) :
    Calls Try.prog 26 #[.int .i64 p, fv, gv, .int .i64 k] w (GivesPB (if validB p (mcR p k L M) = true then mcR p k L M else []) (validB p (mcR p k L M)) w) := by
  have HB := Lib.hid (bothAt p fv gv L M w hL hM true (by unfold okB; dsimp only; rw [hp, hVL, hVM]; rfl))
  obtain ⟨m0, a2, cap2, rfl, m1⟩ := hM
  obtain ⟨l0, a, cap, rfl, l1⟩ := hL
  have HS := Lib.hid (fun (w' : World) (hb : Below w.heap.size w w') => sProduct p a a2 cap cap2 L M w' hp (Trms.below ⟨l0, a, cap, rfl, l1⟩ hb) (Trms.below ⟨m0, a2, cap2, rfl, m1⟩ hb) hVL hVM)
  have hln := prod_len (p := p) (validB_len hVL) (validB_len hVM)
  have HC := Lib.hid (fun (B : Nat) (v : Value) (w' : World) (hR : Row w' B v (addAll p (prodT p L M) [])) => sCut v (addAll p (prodT p L M) []) k w' (hR.own (by omega)).trms (by omega) (sml_add (sml_prod hVL hVM)))
  have HT := Lib.hid (fun (B : Nat) (v : Value) (w' : World) (hR : Row w' B v (mcR p k L M)) => sTold B p hp (mcR p k L M) v w' hR (by have := mc_len (p := p) (k := k) (validB_len hVL) (validB_len hVM); omega))
  obtain ⟨Q, hQ⟩ : ∃ Q, Q = addAll p (prodT p L M) [] := ⟨_, rfl⟩
  obtain ⟨R, hR⟩ : ∃ R, R = mcR p k L M := ⟨_, rfl⟩
  have hRQ : cutL k Q = R := by rw [hR, hQ]; rfl
  rw [← hR] at HT ⊢
  rw [← hQ] at HS HC
  rw [hRQ] at HC
  obtain ⟨b, hb⟩ : ∃ b, b = validB p R := ⟨_, rfl⟩
  rw [← hb] at HT ⊢
  obtain ⟨R2, hR2⟩ : ∃ R2, R2 = (if b = true then R else []) := ⟨_, rfl⟩
  rw [← hR2] at HT ⊢
  clear hR hb hR2 hp hVL hVM hQ hRQ l0 l1 m0 m1 hln
  go_enter Try.func26, Try.ntmps26
  go_wp2_with fail
  refine HB.out.mono ?_
  rintro e w2 ⟨rfl, hb2⟩
  have H2 := Lib.hid hb2
  clear hb2
  go_wp2_with fail
  refine (HS.out _ H2.out).mono ?_
  rintro e w3 ⟨v3, rfl, hR3, hb3⟩
  have H3 := Lib.hid (H2.out.trans (hb3.mono H2.out.size))
  obtain ⟨a3, c3, rfl⟩ : ∃ a c, v3 = .slice a Q.length c := by
    rcases hR3.shape with ⟨rfl, h⟩ | ⟨g, c, rfl, _⟩
    · exact ⟨none, 0, by rw [h]; rfl⟩
    · exact ⟨_, c, rfl⟩
  obtain ⟨W, hW⟩ : ∃ W, W = w3.alloc (Obj.cells #[.slice a3 Q.length c3] 89) := ⟨_, rfl⟩
  have HW := Lib.hid (show Row W w.heap.size (.slice a3 Q.length c3) Q ∧ Below w.heap.size w W ∧ w3.heap.size < W.heap.size ∧ W.cell? ⟨w3.heap.size, 0, none⟩ = some (.slice a3 Q.length c3) ∧ W.frozen? ⟨w3.heap.size, 0, none⟩ = false from by
    have bA : Below w3.heap.size w3 W := by rw [hW]; exact Below.alloc (Below.refl _ _) (Nat.le_refl _) _
    exact ⟨row_base (hR3.below bA) H2.out.size, H3.out.trans (bA.mono H3.out.size), by rw [hW]; simp, by rw [hW]; simp [go_sem], by rw [hW]; exact World.frozen?_alloc_at _ _ _ 0 rfl⟩)
  have hz3 : w.heap.size ≤ w3.heap.size := H3.out.size
  clear hR3 hb3
  have c0 := HW.out.2.2.2.1
  go_wp2_with fail
  rw [← hW]
  clear hW
  obtain ⟨n, hn⟩ : ∃ n, n = w3.heap.size := ⟨_, rfl⟩
  rw [← hn] at HW c0 hz3 ⊢
  clear hn
  refine (HC.out _ _ _ HW.out.1).mono ?_
  rintro e w4 ⟨v4, rfl, hR4, hb4⟩
  have H4 := Lib.hid (HW.out.2.1.trans (hb4.mono HW.out.2.1.size))
  have d0 : w4.cell? ⟨n, 0, none⟩ = some (.slice a3 Q.length c3) := by rw [hb4.cell (p := ⟨n, 0, none⟩) HW.out.2.2.1]; exact c0
  have d1 : w4.frozen? ⟨n, 0, none⟩ = false := by rw [hb4.frozen (p := ⟨n, 0, none⟩) HW.out.2.2.1]; exact HW.out.2.2.2.2
  obtain ⟨a4, c4, rfl⟩ : ∃ a c, v4 = .slice a R.length c := by
    rcases hR4.shape with ⟨rfl, h⟩ | ⟨g, c, rfl, _⟩
    · exact ⟨none, 0, by rw [h]; rfl⟩
    · exact ⟨_, c, rfl⟩
  have hvn : (Value.slice a4 R.length c4).ownBlock ≠ some n := fun e => by have := (World.ownsRow.lt hR4 _ e).1; have := HW.out.2.2.1; omega
  have HR5 := Lib.hid (show Row (w4.setCell ⟨n, 0, none⟩ (.slice a4 R.length c4)) W.heap.size (.slice a4 R.length c4) R from World.ownsRow.kept (row := some n) hR4 ⟨rfl, rfl, rfl, by simp, fun k hk hne => Below.heap_setCell _ _ _ _ (fun e => hne (by rw [e]))⟩ (.inr hvn))
  have H5 := Lib.hid (show Below w.heap.size w (w4.setCell ⟨n, 0, none⟩ (.slice a4 R.length c4)) from H4.out.setCell hz3 _)
  have d5 := World.cell?_setCell_same w4 ⟨n, 0, none⟩ (.slice a4 R.length c4) d0
  clear hR4 hb4 hvn c0
  go_wp2_with fail
  refine (HT.out _ _ _ HR5.out).mono ?_
  rintro e w6 ⟨v6, rfl, ho6, hb6⟩
  have H6 := Lib.hid (And.intro ho6 (H5.out.trans (hb6.mono H5.out.size)))
  clear ho6 hb6
  go_wp2_with fail
  refine bodyPost_ret (v := .tuple #[v6, .bool b]) (by simp [results, Try.results26, go_sem]) rfl ⟨_, rfl, ownTrms_mono H6.out.1 H5.out.size, H6.out.2⟩
theorem sMulCut (p : Int) (f g : Value) (L M : List Trm) (k : Int) (w : World) (hL : Trms w f L) (hM : Trms w g M) :
    Calls Try.prog 26 #[.int .i64 p, f, g, .int .i64 k] w (GivesPB (mcL p k L M) (mcOk p k L M) w) := by
  cases h : ((isP p && validB p L) && (isP p && validB p M))
  · rw [(mcOk_no h).1, (mcOk_no h).2]
    exact sMulCut_no p f g L M k w hL hM h
  · rw [(mcOk_yes h).1, (mcOk_yes h).2]
    simp only [Bool.and_eq_true] at h
    exact sMulCut_yes p f g L M k w hL hM h.1.1 h.1.2 h.2.2
end Go.Proofs.Ytbgcamkclbcaiaa
