/-
  IsHomogeneous, of the model and of the program. Conditions: that the slice reads as a list of terms.
  Terms up to a degree, of the model: l7Cut, CutPoly, MulCut. Conditions: exponents are small.
  The program's MulCut and CutPoly. Conditions: what the slices hold is known.
-/
import Derived.Test.YtlidplmpglpkgaaBa27
import Derived.Test.YtlidplmpglpkgaaBa13
import Derived.Test.YtlidplmpglpkgaaBa32
namespace Go.Proofs.Ytlidplmpglpkgaa
open Go.RowKit
/-- the sum of the powers, as integers of 64 bits add them -/
def degW (x : Trm) : Int := IntKind.i64.wrap (IntKind.i64.wrap (x.a + x.b) + x.c)
theorem degW_is {x : Trm} (h : (0 ≤ x.a ∧ x.a ≤ 9) ∧ (0 ≤ x.b ∧ x.b ≤ 9) ∧ (0 ≤ x.c ∧ x.c ≤ 9)) : degW x = degT x := by
  obtain ⟨⟨a0, a1⟩, ⟨b0, b1⟩, ⟨c0, c1⟩⟩ := h
  have w1 : IntKind.i64.wrap (x.a + x.b) = x.a + x.b := IntWalk.i64_in _ (by omega)
  have w2 : IntKind.i64.wrap (x.a + x.b + x.c) = x.a + x.b + x.c := IntWalk.i64_in _ (by omega)
  unfold degW degT
  rw [w1, w2]
def homB (L : List Trm) : Bool := L.all fun x => degW x == degW (L.getD 0 default)
def homV (p : Int) (L : List Trm) : Bool := homB L && (isP p && validB p L)
theorem homB_no {L : List Trm} {k : Nat} (hk : k < L.length) (h : degW (L.getD k default) ≠ degW (L.getD 0 default)) : homB L = false := by
  unfold homB
  rw [List.all_eq_false]
  exact ⟨L[k], List.getElem_mem hk, by have : L.getD k default = L[k] := by simp [List.getD_eq_getElem?_getD, hk]
                                       rw [← this]; simpa using h⟩
theorem homB_yes {L : List Trm} (h : ∀ k, k < L.length → degW (L.getD k default) = degW (L.getD 0 default)) : homB L = true := by
  unfold homB
  rw [List.all_eq_true]
  intro x hx
  obtain ⟨k, hk, rfl⟩ := List.getElem_of_mem hx
  have := h k hk
  have e : L.getD k default = L[k] := by simp [List.getD_eq_getElem?_getD, hk]
  rw [← e]
  simpa using this
/-- all terms have the degree of the polynomial just if the part of this degree is as long -/
theorem hom_part {p : Int} {L : List Trm} (hp : isP p = true) (hV : validB p L = true) : homB L = decide ((partL p L (degV p L)).length = L.length) := by
  have hd : degV p L = topK degT L L.length := by
    unfold degV
    rw [hp, hV, ← topK_deg]
    rfl
  have flt : ∀ (n : Int) (k : Nat), k ≤ L.length → partK L n k = (L.take k).filter (fun x => decide (degT x = n)) := by
    intro n k
    induction k with
    | zero => intro _; simp [partK]
    | succ k ih =>
      intro h
      have hk : k < L.length := by omega
      have e : L.getD k default = L[k] := by simp [List.getD_eq_getElem?_getD, hk]
      unfold partK
      rw [ih (by omega), List.take_succ_eq_append_getElem hk, List.filter_append, e]
      by_cases h2 : degT L[k] = n
      · rw [if_pos h2, List.filter_cons_of_pos (by simpa using h2)]; rfl
      · rw [if_neg h2, List.filter_cons_of_neg (by simpa using h2)]; simp
  have e : partL p L (degV p L) = L.filter fun x => decide (degT x = degV p L) := by
    unfold partL
    rw [hp, hV, flt _ _ (Nat.le_refl _), List.take_length]
    rfl
  have hdw : ∀ x ∈ L, degW x = degT x := fun x hx => degW_is (validB_mem hV hx)
  cases hL : L with
  | nil => rw [hL] at e; rw [e]; rfl
  | cons y r =>
    rw [← hL]
    have hy : y ∈ L := by rw [hL]; simp
    have h0 : L.getD 0 default = y := by rw [hL]; rfl
    rw [e]
    by_cases h : ∀ x ∈ L, degT x = degV p L
    · have e2 : (L.filter fun x => decide (degT x = degV p L)) = L := List.filter_eq_self.2 fun x hx => by simpa using h x hx
      rw [e2, homB_yes (fun k hk => ?_)]
      · simp
      · have hm : L.getD k default ∈ L := by simp [List.getD_eq_getElem?_getD, hk]
        rw [h0, hdw _ hm, hdw _ hy, h _ hm, h _ hy]
    · have hlt : (L.filter fun x => decide (degT x = degV p L)).length < L.length := by
        apply Nat.lt_of_le_of_ne (List.length_filter_le _ _)
        intro h2
        apply h
        have := List.length_filter_eq_length_iff.1 h2
        intro x hx
        simpa using this x hx
      rw [decide_eq_false (by omega)]
      -- some term has the greatest degree, some other one not
      cases hb : homB L with
      | false => rfl
      | true =>
        exfalso
        apply h
        have hall : ∀ x ∈ L, degT x = degT y := fun x hx => by
          have := List.all_eq_true.1 hb x hx
          rw [h0] at this
          rw [← hdw x hx, ← hdw y hy]
          simpa using this
        have h1 := topK_ge (f := degT) hy
        have hyn : 0 ≤ degT y := by have := validB_mem hV hy; unfold degT; omega
        obtain ⟨z, hz, hz2⟩ := topK_at (f := degT) (L := L) L.length (Nat.le_refl _) (by omega)
        intro x hx
        rw [hd, ← hz2, hall x hx, hall z hz]
set_option maxHeartbeats 2000000 in
theorem sDegW (x : Trm) (w : World) :
    Calls Try.prog 175 #[.agg #[.int .i64 x.a, .int .i64 x.b, .int .i64 x.c]] w fun e w' => e = .returned (.int .i64 (degW x)) ∧ Below w.heap.size w w' := by
  obtain ⟨d1, h1⟩ : ∃ d1, IntKind.i64.wrap (x.a + x.b) = d1 := ⟨_, rfl⟩
  obtain ⟨d2, h2⟩ : ∃ d2, IntKind.i64.wrap (d1 + x.c) = d2 := ⟨_, rfl⟩
  have hd : degW x = d2 := by unfold degW; rw [h1, h2]
  rw [hd]
  clear hd
  go_enter Try.func175, Try.ntmps175
  go_wp2_with fail
  go_ret
  exact ⟨rfl, by repeat (first | exact Below.refl _ _ | apply Below.drew | apply below_drewN | (refine Below.setCell ?_ (by simp <;> omega) _) | (refine Below.alloc ?_ (by simp <;> omega) _))⟩
set_option maxRecDepth 100000 in
set_option maxHeartbeats 4000000 in
theorem sHom_some (p : Int) (g off cap : Nat) (L : List Trm) (w : World) (hl : L.length ≤ 1048576) (hg : g < w.heap.size)
    (hc : ∀ j : Nat, j < L.length → TAt w g (off + j * 4) (L.getD j default)) :
    Calls Try.prog 79 #[.int .i64 p, .slice (some ⟨g, off, none⟩) L.length cap] w fun e w' => e = .returned (.bool (homV p L)) ∧ Below w.heap.size w w' := by
  have HB := Lib.hid (show ∀ w', Below w.heap.size w w' → Calls Try.prog 113 #[.int .i64 p, .slice (some ⟨g, off, none⟩) L.length cap] w' fun e w'' => e = .returned (.bool (isP p && validB p L)) ∧ Below w'.heap.size w' w'' from
    fun w' hb => sPolyValid p _ L w' ⟨hl, _, cap, rfl, .inr ⟨g, off, rfl, Nat.lt_of_lt_of_le hg hb.size, fun j hj => (hc j hj).below hb hg⟩⟩)
  have HC := Lib.hid hc
  have hlp : (L.length : Int) ≤ 1048576 := by omega
  clear hc
  go_enter Try.func79, Try.ntmps79
  go_wp2_with fail
  go_loopw [9] (fun i wr => ∃ k : Nat, k ≤ L.length ∧ i = .int .i64 k ∧ (∀ j, j < k → degW (L.getD j default) = degW (L.getD 0 default)) ∧ Below w.heap.size w wr) (fun i _ => L.length - (intOf i).toNat)
  case atStart => exact ⟨0, by omega, rfl, fun j hj => by omega, Below.refl _ _⟩
  case round =>
    obtain ⟨k, hk, rfl, hd, hb⟩ := hrel
    by_cases hlt : k < L.length
    · have hltp : (k : Int) < (L.length : Int) := by omega
      have hk0 : (0 : Int) ≤ (k : Int) := by omega
      have h0p : (0 : Int) < (L.length : Int) := by omega
      have h0n : 0 < L.length := by omega
      obtain ⟨a0, a1, a2, a3⟩ := (HC.out k hlt).below hb hg
      obtain ⟨x, hx⟩ : ∃ x, x = L.getD k default := ⟨_, rfl⟩
      obtain ⟨y, hy⟩ : ∃ y, y = L.getD 0 default := ⟨_, rfl⟩
      rw [← hx] at a0 a1 a2 a3
      have HY := Lib.hid (show ∀ w', Below w.heap.size w w' → TAt w' g off y from fun w' hb => by have := (HC.out 0 (by omega)).below hb hg; rw [hy]; simpa using this)
      have HD := Lib.hid hd
      have HX := Lib.hid hx
      have HY2 := Lib.hid hy
      have Hb := Lib.hid hb
      have HT := Lib.hid (show ∀ w', Below (wr.heap.size + 1) (wr.alloc (Obj.cells #[.int .i64 x.a, .int .i64 x.b, .int .i64 x.c, .int .i64 x.t] 87)) w' → TAt w' wr.heap.size 0 x from fun w' hb => TAt.below (B := wr.heap.size + 1) (by refine ⟨?_, ?_, ?_, ?_⟩ <;> simp [go_sem]) hb (by omega))
      have HW := Lib.hid (show ∀ w', Below (wr.heap.size + 1) (wr.alloc (Obj.cells #[.int .i64 x.a, .int .i64 x.b, .int .i64 x.c, .int .i64 x.t] 87)) w' → Below w.heap.size w w' from fun w' h => (Below.alloc Hb.out Hb.out.size _).trans (h.mono (by have := Hb.out.size; omega)))
      clear hx hy hd hb
      obtain ⟨d, hde⟩ : ∃ d, d = degW x := ⟨_, rfl⟩
      obtain ⟨e0, hee⟩ : ∃ e, e = degW y := ⟨_, rfl⟩
      have HDE := Lib.hid (And.intro hde hee)
      clear hde hee
      obtain ⟨r, hr⟩ : ∃ r, r = (d != e0) := ⟨_, rfl⟩
      go_wp2_with fail
      have e1 : (wr.alloc (Obj.cells #[.int .i64 x.a, .int .i64 x.b, .int .i64 x.c, .int .i64 x.t] 87)).heap.size = wr.heap.size + 1 := by simp
      refine wp_region_below (by kernel_rfl) (by kernel_rfl) ?_
      rw [e1]
      (with_reducible refine wpQuiet_yes ?_ ?_; (focus (kernel_rfl)); intro K hK; go_simp; refine ⟨_, fun _ _ => rfl, ?_⟩; with_reducible refine hK _ ?_; clear hK K)
      (with_reducible refine wpQuiet_yes ?_ ?_; (focus (kernel_rfl)); intro K hK; go_simp; refine ⟨(.agg #[.int .i64 x.a, .int .i64 x.b, .int .i64 x.c]), ?_, ?_⟩; rotate_left; with_reducible refine hK _ ?_; clear hK K; rotate_left)
      · intro w' hw
        obtain ⟨t0, t1, t2, t3⟩ := HT.out w' hw
        simp only [Nat.zero_add] at t0 t1 t2
        simp only [t0, t1, t2, go_sem, Result.andThen, and_self]
      (with_reducible refine wpQuiet_yes ?_ ?_; (focus (kernel_rfl)); intro K hK; go_simp; refine ⟨(.int .i64 d), ?_, ?_⟩; rotate_left; with_reducible refine hK _ ?_; clear hK K; rotate_left)
      · intro w' hw
        exact (sDegW x w').mono fun e w'' h => by rw [← HDE.out.1] at h; exact ⟨h.1, hw.trans (h.2.mono (by have := hw.size; simp at this; omega))⟩
      (with_reducible refine wpQuiet_yes ?_ ?_; (focus (kernel_rfl)); intro K hK; go_simp; refine ⟨_, fun _ _ => rfl, ?_⟩; with_reducible refine hK _ ?_; clear hK K)
      (with_reducible refine wpQuiet_yes ?_ ?_; (focus (kernel_rfl)); intro K hK; go_simp; refine ⟨_, fun _ _ => rfl, ?_⟩; with_reducible refine hK _ ?_; clear hK K)
      (with_reducible refine wpQuiet_yes ?_ ?_; (focus (kernel_rfl)); intro K hK; go_simp; refine ⟨_, fun _ _ => rfl, ?_⟩; with_reducible refine hK _ ?_; clear hK K)
      (with_reducible refine wpQuiet_yes ?_ ?_; (focus (kernel_rfl)); intro K hK; go_simp; refine ⟨(.agg #[.int .i64 y.a, .int .i64 y.b, .int .i64 y.c]), ?_, ?_⟩; rotate_left; with_reducible refine hK _ ?_; clear hK K; rotate_left)
      · intro w' hw
        obtain ⟨t0, t1, t2, t3⟩ := HY.out w' (HW.out w' hw)
        simp only [t0, t1, t2, go_sem, Result.andThen, and_self]
      (with_reducible refine wpQuiet_yes ?_ ?_; (focus (kernel_rfl)); intro K hK; go_simp; refine ⟨(.int .i64 e0), ?_, ?_⟩; rotate_left; with_reducible refine hK _ ?_; clear hK K; rotate_left)
      · intro w' hw
        exact (sDegW y w').mono fun e w'' h => by rw [← HDE.out.2] at h; exact ⟨h.1, hw.trans (h.2.mono (by have := hw.size; simp at this; omega))⟩
      (with_reducible refine wpQuiet_yes ?_ ?_; (focus (kernel_rfl)); intro K hK; go_simp; refine ⟨(.bool r), ?_, ?_⟩; rotate_left; with_reducible refine hK _ ?_; clear hK K; rotate_left)
      · intro w' hw
        rw [hr]
        try simp only [go_sem, Result.andThen, and_self]
      refine wpQuiet_nil fun w2 hb2 => ?_
      have H2 := Lib.hid (HW.out w2 hb2)
      clear hb2 HT HW
      simp only [Exit.then]
      cases r
      · have hEQ := Lib.hid (show d = e0 by simpa using hr.symm)
        clear hr
        go_wp2_with fail
        go_roundw
        case rel =>
          refine ⟨k + 1, by omega, by go_num, fun j hj => ?_, H2.out⟩
          by_cases hjk : j = k
          · rw [hjk, ← HX.out, ← HY2.out, ← HDE.out.1, ← HDE.out.2, hEQ.out]
          · exact HD.out j (by omega)
        case measure => simp [intOf]; omega
      · have hNE := Lib.hid (show d ≠ e0 by simpa using hr.symm)
        clear hr
        have hf : homV p L = false := by
          unfold homV
          rw [homB_no hlt (by rw [← HX.out, ← HY2.out, ← HDE.out.1, ← HDE.out.2]; exact hNE.out)]
          rfl
        have HF := Lib.hid hf
        clear hf
        go_wp2_with fail
        go_ret
        exact ⟨by rw [HF.out]; rfl, H2.out⟩
    · have hkl : k = L.length := by omega
      subst hkl
      have hh : homV p L = (isP p && validB p L) := by unfold homV; rw [homB_yes hd, Bool.true_and]
      have HH := Lib.hid hh
      have Hb := Lib.hid hb
      clear hd hb hh
      go_wp2_with fail
      refine (HB.out _ Hb.out).mono ?_
      rintro e w2 ⟨rfl, hb2⟩
      have H2 := Lib.hid (Hb.out.trans (hb2.mono Hb.out.size))
      clear hb2
      go_wp2_with fail
      go_ret
      exact ⟨by rw [HH.out]; rfl, H2.out⟩
set_option maxHeartbeats 4000000 in
theorem sHom_nil (p : Int) (a : Option Addr) (cap : Nat) (w : World) :
    Calls Try.prog 79 #[.int .i64 p, .slice a 0 cap] w fun e w' => e = .returned (.bool (homV p [])) ∧ Below w.heap.size w w' := by
  have HB := Lib.hid (show ∀ w', Calls Try.prog 113 #[.int .i64 p, .slice a 0 cap] w' fun e w'' => e = .returned (.bool (homV p [])) ∧ Below w'.heap.size w' w'' from
    fun w' => sPolyValid p (.slice a 0 cap) [] w' ⟨by simp, a, cap, rfl, .inl rfl⟩)
  go_enter Try.func79, Try.ntmps79
  go_wp2_with fail
  go_loop [9] (fun i => i = .int .i64 0) (fun _ => 0)
  case atStart => rfl
  case round =>
    obtain rfl := hrel
    go_wp2_with fail
    refine (HB.out _).mono ?_
    rintro e w1 ⟨rfl, hb1⟩
    have H1 := Lib.hid hb1
    clear hb1
    go_wp2_with fail
    go_ret
    exact ⟨rfl, H1.out⟩
theorem sIsHomogeneous (p : Int) (f : Value) (L : List Trm) (w : World) (h : Trms w f L) :
    Calls Try.prog 79 #[.int .i64 p, f] w fun e w' => e = .returned (.bool (homV p L)) ∧ Below w.heap.size w w' := by
  obtain ⟨hl, a, cap, rfl, h2⟩ := h
  rcases h2 with rfl | ⟨g, off, rfl, hg, hc⟩
  · exact sHom_nil p a cap w
  · exact sHom_some p g off cap L w hl hg hc
set_option maxHeartbeats 4000000 in
theorem iIsHomogeneous (p : Int) (f : Value) (L : List Trm) (w : World) (h : Trms w f L) :
    Calls Try.prog 60 #[.int .i64 p, f] w fun e w' => e = .returned (.bool (homV p L)) ∧ Below w.heap.size w w' := by
  have HD := Lib.hid (iDegreeOf p f L w h)
  have HP := Lib.hid (fun w' (hb : Below w.heap.size w w') => iPartPoly p f L (degV p L) w' (h.below hb))
  have hlen : homV p L = ((isP p && validB p L) && decide ((partL p L (degV p L)).length = L.length)) := by
    unfold homV
    cases hv : (isP p && validB p L)
    · simp
    · simp only [Bool.and_eq_true] at hv
      rw [hom_part hv.1 hv.2]
      simp
  have hpl : (partL p L (degV p L)).length ≤ L.length := by
    unfold partL
    split
    · exact partK_le L _ _
    · simp
  obtain ⟨P, hP⟩ : ∃ P, P = partL p L (degV p L) := ⟨_, rfl⟩
  obtain ⟨dg, hdg⟩ : ∃ dg, dg = degV p L := ⟨_, rfl⟩
  rw [← hdg] at HD HP hP hlen hpl
  rw [← hP] at HP hlen hpl
  obtain ⟨ok, hok⟩ : ∃ ok, ok = (isP p && validB p L) := ⟨_, rfl⟩
  rw [← hok] at HP hlen
  rw [hlen]
  obtain ⟨hl, a, cap, rfl, h2⟩ := h
  clear hP hdg hok hlen h2
  obtain ⟨n, hn⟩ : ∃ n, n = L.length := ⟨_, rfl⟩
  rw [← hn] at HD HP hpl ⊢
  clear hn hl
  go_enter Try.func60, Try.ntmps60
  go_wp2_with fail
  refine HD.out.mono ?_
  rintro e w1 ⟨rfl, hb1⟩
  have H1 := Lib.hid hb1
  clear hb1
  go_wp2_with fail
  refine (HP.out _ H1.out).mono ?_
  rintro e w2 ⟨v2, rfl, ho2, hb2⟩
  have H2 := Lib.hid (H1.out.trans (hb2.mono H1.out.size))
  obtain ⟨_, b, cap2, rfl, _⟩ := ho2.trms
  obtain ⟨m, hm⟩ : ∃ m, m = P.length := ⟨_, rfl⟩
  rw [← hm] at hpl ⊢
  obtain ⟨r, hr⟩ : ∃ r, r = decide (m = n) := ⟨_, rfl⟩
  have HR := Lib.hid (show decide (P.length = n) = r by rw [← hm]; exact hr.symm)
  clear hb2 ho2 hm
  have hr2 : ((m : Int) == (n : Int)) = r := by
    rw [hr]
    by_cases e : m = n
    · subst e; simp
    · have : ¬ (m : Int) = (n : Int) := by omega
      simp [e, this]
  clear hr hpl
  cases ok <;> cases r <;> (go_wp2_with fail; go_ret; exact ⟨by rw [HR.out]; rfl, H2.out⟩)
end Go.Proofs.Ytlidplmpglpkgaa
namespace Go.Proofs.Ytlidplmpglpkgaa
open Go.RowKit
/-- exponents that may stand in a product -/
def sml (x : Trm) : Prop := (0 ≤ x.a ∧ x.a ≤ 18) ∧ (0 ≤ x.b ∧ x.b ≤ 18) ∧ (0 ≤ x.c ∧ x.c ≤ 18)
theorem degW_sml {x : Trm} (h : sml x) : degW x = degT x := by
  obtain ⟨⟨a0, a1⟩, ⟨b0, b1⟩, ⟨c0, c1⟩⟩ := h
  have w1 : IntKind.i64.wrap (x.a + x.b) = x.a + x.b := IntWalk.i64_in _ (by omega)
  have w2 : IntKind.i64.wrap (x.a + x.b + x.c) = x.a + x.b + x.c := IntWalk.i64_in _ (by omega)
  unfold degW degT
  rw [w1, w2]
theorem sml_valid {p : Int} {L : List Trm} (h : validB p L = true) : ∀ x ∈ L, sml x := fun x hx => by
  have := validB_mem h hx
  unfold sml
  omega
/-- the powers of what was added are those of what came -/
theorem sml_add {p : Int} {xs : List Trm} (h : ∀ x ∈ xs, sml x) : ∀ y ∈ addAll p xs [], sml y := fun y hy => by
  rcases addAll_mem hy with h1 | ⟨z, hz, _, e1, e2, e3⟩
  · cases h1
  · have := h z hz
    unfold sml at this ⊢
    rw [e1, e2, e3]
    exact this
theorem sml_prod {p : Int} {L M : List Trm} (hL : validB p L = true) (hM : validB p M = true) : ∀ x ∈ prodT p L M, sml x := by
  intro x hx
  obtain ⟨y, hy, hx⟩ := List.mem_flatMap.1 hx
  obtain ⟨z, hz, rfl⟩ := List.mem_map.1 hx
  have h1 := validB_mem hL hy
  have h2 := validB_mem hM hz
  unfold sml mulTT
  show (0 ≤ y.a + z.a ∧ y.a + z.a ≤ 18) ∧ (0 ≤ y.b + z.b ∧ y.b + z.b ≤ 18) ∧ (0 ≤ y.c + z.c ∧ y.c + z.c ≤ 18)
  omega
theorem cut_next {n : Int} {L : List Trm} {k : Nat} (hk : k < L.length) : cutL n (L.take (k + 1)) = if degT (L.getD k default) ≤ n then cutL n (L.take k) ++ [L.getD k default] else cutL n (L.take k) := by
  have e : L.getD k default = L[k] := by simp [List.getD_eq_getElem?_getD, hk]
  rw [e, List.take_succ_eq_append_getElem hk]
  unfold cutL fl
  rw [List.filter_append]
  by_cases h : degT L[k] ≤ n
  · rw [if_pos h, List.filter_cons_of_pos (by unfold upB; rw [decide_eq_true_eq]; exact h)]; rfl
  · rw [if_neg h, List.filter_cons_of_neg (by unfold upB; rw [decide_eq_true_eq]; exact h)]; simp
theorem cut_len (n : Int) (L : List Trm) (k : Nat) : (cutL n (L.take k)).length ≤ k := by
  refine Nat.le_trans (List.length_filter_le _ _) ?_
  simp
  omega
set_option maxRecDepth 100000 in
set_option maxHeartbeats 8000000 in
theorem sCut_some (g off cap : Nat) (L : List Trm) (n : Int) (w : World) (hl : L.length ≤ 4000) (hs : ∀ x ∈ L, sml x) (hg : g < w.heap.size)
    (hc : ∀ j : Nat, j < L.length → TAt w g (off + j * 4) (L.getD j default)) :
    Calls Try.prog 157 #[.slice (some ⟨g, off, none⟩) L.length cap, .int .i64 n] w fun e w' => ∃ v, e = .returned v ∧ Row w' w.heap.size v (cutL n L) ∧ Below w.heap.size w w' := by
  obtain ⟨i0, hi, hz0, hz1, hz2⟩ := info_parts infoT
  have HC := Lib.hid hc
  have HS := Lib.hid hs
  clear hc hs
  go_enter Try.func157, Try.ntmps157
  go_wp2_with fail
  go_loopw [5, 11] (fun v i wr => ∃ k : Nat, k ≤ L.length ∧ i = .int .i64 k ∧ Row wr w.heap.size v (cutL n (L.take k)) ∧ Below w.heap.size w wr) (fun _ i _ => L.length - (intOf i).toNat)
  case atStart => exact ⟨0, by omega, rfl, Row.lit0 w w.heap.size (Nat.le_refl _), Below.alloc (Below.refl _ _) (Nat.le_refl _) _⟩
  case round =>
    obtain ⟨k, hk, rfl, hrow, hb⟩ := hrel
    have hlen := cut_len n L k
    by_cases hlt : k < L.length
    · have hltp : (k : Int) < (L.length : Int) := by omega
      have hk0 : (0 : Int) ≤ (k : Int) := by omega
      obtain ⟨a0, a1, a2, a3⟩ := (HC.out k hlt).below hb hg
      have HN := Lib.hid (cut_next (n := n) hlt)
      have hmem : L.getD k default ∈ L := by simp [List.getD_eq_getElem?_getD, hlt]
      have hsm := HS.out _ hmem
      obtain ⟨x, hx⟩ : ∃ x, x = L.getD k default := ⟨_, rfl⟩
      rw [← hx] at a0 a1 a2 a3 HN hsm
      have HDG := Lib.hid (fun w => by have := sDegW x w; rw [degW_sml hsm] at this; exact this)
      have Hb := Lib.hid hb
      have HR := Lib.hid hrow
      clear hx hb hrow hmem hsm
      go_wp2_with fail
      refine (HDG.out _).mono ?_
      rintro e w2 ⟨rfl, hb2⟩
      have hT2 : TAt w2 wr.heap.size 0 x := by
        refine TAt.below (B := _) ?_ hb2 (by simp)
        refine ⟨?_, ?_, ?_, ?_⟩ <;> simp [go_sem]
      have hs2 : wr.heap.size < w2.heap.size := by have := hb2.size; simp at this; omega
      have Hr := Lib.hid ((Below.alloc (Below.refl _ _) (Nat.le_refl _) _).trans (hb2.mono (by simp)))
      have H2 := Lib.hid (Hb.out.trans (Hr.out.mono Hb.out.size))
      have HR2 := Lib.hid (HR.out.below Hr.out)
      clear hb2 HR
      obtain ⟨t0, t1, t2, t3⟩ := hT2
      by_cases hd : degT x ≤ n
      · have HDn := Lib.hid (show cutL n (L.take (k + 1)) = cutL n (L.take k) ++ [x] by rw [HN.out, if_pos hd])
        go_wp2_with (at_builtin; refine wpList_append_own _ rfl _ _ 24 rfl w.heap.size 87 i0 (.agg #[.int .i64 0, .int .i64 0, .int .i64 0, .int .i64 0]) 4 32 Try.underlying24 hi hz0 hz1 hz2 rfl (by decide) _ _ _ rfl (World.ownsRow.alloc HR2.out _) ⟨w2.heap.size, 0, none⟩ 1 1 x.cs rfl rfl ?c1 ?c2 ?c3 ?c4 ?c5 ?_)
        case c1 =>
          intro j u hj
          match j, hj with
          | 0, hj => simp [Trm.cs] at hj; subst hj; simp [Addr.add]
          | 1, hj => simp [Trm.cs] at hj; subst hj; simp [Addr.add]
          | 2, hj => simp [Trm.cs] at hj; subst hj; simp [Addr.add]
          | 3, hj => simp [Trm.cs] at hj; subst hj; simp [Addr.add]
          | j + 4, hj => simp [Trm.cs] at hj
        case c2 => intro u hu; exact flat_cell [x] u (by simpa [flat] using hu)
        case c3 => unfold maxLen; omega
        case c4 => omega
        case c5 => have := H2.out.size; simp; omega
        intro v' w3 hown' hgrow _
        have R3 := Lib.hid (show Row w3 w.heap.size v' (cutL n (L.take (k + 1))) by
          rw [HDn.out]
          show World.ownsRow _ _ _ _ _ _ _
          rw [flat_app, flat_one, List.length_append]
          exact hown')
        have H3 := Lib.hid (show Below w.heap.size w w3 by
          exact Below.trans (Below.alloc H2.out H2.out.size _) (Row.low (World.ownsRow.alloc HR2.out _) (by have := H2.out.size; simp; omega) hgrow))
        clear hown' hgrow
        go_wp2
        go_roundw
        case rel => exact ⟨k + 1, by omega, by go_num, R3.out, H3.out⟩
        case measure => simp [intOf]; omega
      · have HDn := Lib.hid (show cutL n (L.take (k + 1)) = cutL n (L.take k) by rw [HN.out, if_neg hd])
        go_wp2_with fail
        go_roundw
        case rel => exact ⟨k + 1, by omega, by go_num, by rw [HDn.out]; exact HR2.out, H2.out⟩
        case measure => simp [intOf]; omega
    · have hkl : k = L.length := by omega
      subst hkl
      rw [List.take_length] at hrow
      have HR := Lib.hid hrow
      have Hb := Lib.hid hb
      clear hrow hb
      go_wp2_with fail
      go_ret
      exact ⟨_, rfl, HR.out, Hb.out⟩
set_option maxHeartbeats 4000000 in
theorem sCut_nil (a : Option Addr) (cap : Nat) (n : Int) (w : World) :
    Calls Try.prog 157 #[.slice a 0 cap, .int .i64 n] w fun e w' => ∃ v, e = .returned v ∧ Row w' w.heap.size v [] ∧ Below w.heap.size w w' := by
  go_enter Try.func157, Try.ntmps157
  go_wp2_with fail
  go_loop [5, 11] (fun v i => v = (.slice (some ⟨w.heap.size, 0, none⟩) 0 0) ∧ i = .int .i64 0) (fun _ _ => 0)
  case atStart => exact ⟨rfl, rfl⟩
  case round =>
    obtain ⟨rfl, rfl⟩ := hrel
    go_wp2_with fail
    go_ret
    exact ⟨_, rfl, Row.lit0 w w.heap.size (Nat.le_refl _), Below.alloc (Below.refl _ _) (Nat.le_refl _) _⟩
theorem sCut (f : Value) (L : List Trm) (n : Int) (w : World) (h : Trms w f L) (hl : L.length ≤ 4000) (hs : ∀ x ∈ L, sml x) :
    Calls Try.prog 157 #[f, .int .i64 n] w fun e w' => ∃ v, e = .returned v ∧ Row w' w.heap.size v (cutL n L) ∧ Below w.heap.size w w' := by
  obtain ⟨_, a, cap, rfl, h2⟩ := h
  rcases h2 with rfl | ⟨g, off, rfl, hg, hc⟩
  · exact sCut_nil a cap n w
  · exact sCut_some g off cap L n w hl hs hg hc
/-- what CutPoly hands back -/
def cutV (p n : Int) (L : List Trm) : List Trm := if (isP p && validB p L) = true then cutL n L else []
set_option maxHeartbeats 4000000 in
theorem sCutPoly (p : Int) (f : Value) (L : List Trm) (n : Int) (w : World) (h : Trms w f L) :
    Calls Try.prog 69 #[.int .i64 p, f, .int .i64 n] w (GivesPB (cutV p n L) (isP p && validB p L) w) := by
  have HB := Lib.hid (sPolyValid p f L w h)
  unfold cutV
  cases hn : (isP p && validB p L)
  · rw [hn] at HB
    clear h hn
    go_enter Try.func69, Try.ntmps69
    go_wp2_with fail
    refine HB.out.mono ?_
    rintro e w1 ⟨rfl, hb1⟩
    go_wp2_with fail
    refine bodyPost_ret (v := .tuple #[.slice (some ⟨w1.heap.size, 0, none⟩) 0 0, .bool false]) (by simp [results, Try.results69, go_sem]) rfl ⟨_, rfl, (Row.lit0 w1 w.heap.size hb1.size).own (by simp), Below.alloc hb1 hb1.size _⟩
  · rw [hn] at HB
    have hV : validB p L = true := by simp only [Bool.and_eq_true] at hn; exact hn.2
    have HC := Lib.hid (fun w' (hb : Below w.heap.size w w') => sCut f L n w' (h.below hb) (by have := validB_len hV; omega) (sml_valid hV))
    have hl : (cutL n L).length ≤ 4000 := by
      have h1 := cut_len n L L.length
      rw [List.take_length] at h1
      have := validB_len hV
      omega
    obtain ⟨R, hR⟩ : ∃ R, R = cutL n L := ⟨_, rfl⟩
    rw [← hR] at HC hl
    have HRR := Lib.hid hR
    clear h hn hV hR
    go_enter Try.func69, Try.ntmps69
    go_wp2_with fail
    refine HB.out.mono ?_
    rintro e w1 ⟨rfl, hb1⟩
    have H1 := Lib.hid hb1
    clear hb1
    go_wp2_with fail
    refine (HC.out _ H1.out).mono ?_
    rintro e w2 ⟨v, rfl, hrow, hb2⟩
    have H2 := Lib.hid (And.intro hrow (H1.out.trans (hb2.mono H1.out.size)))
    clear hrow hb2
    go_wp2_with fail
    refine bodyPost_ret (v := .tuple #[v, .bool true]) (by simp [results, Try.results69, go_sem]) rfl ?_
    rw [← HRR.out]
    exact ⟨_, rfl, (row_base H2.out.1 H1.out.size).own (by omega), H2.out.2⟩
/-- what MulCut hands back -/
def mcR (p k : Int) (L M : List Trm) : List Trm := cutL k (addAll p (prodT p L M) [])
def mcOk (p k : Int) (L M : List Trm) : Bool := ((isP p && validB p L) && (isP p && validB p M)) && validB p (mcR p k L M)
def mcL (p k : Int) (L M : List Trm) : List Trm := if mcOk p k L M = true then mcR p k L M else []
theorem mcOk_no {p k : Int} {L M : List Trm} (h : ((isP p && validB p L) && (isP p && validB p M)) = false) : mcOk p k L M = false ∧ mcL p k L M = [] := by
  have e : mcOk p k L M = false := by unfold mcOk; rw [h]; rfl
  exact ⟨e, by unfold mcL; rw [e]; rfl⟩
theorem mcOk_yes {p k : Int} {L M : List Trm} (h : ((isP p && validB p L) && (isP p && validB p M)) = true) : mcOk p k L M = validB p (mcR p k L M) ∧ mcL p k L M = (if validB p (mcR p k L M) = true then mcR p k L M else []) := by
  have e : mcOk p k L M = validB p (mcR p k L M) := by unfold mcOk; rw [h, Bool.true_and]
  exact ⟨e, by unfold mcL; rw [e]⟩
theorem prod_len {p : Int} {L M : List Trm} (hL : L.length ≤ 60) (hM : M.length ≤ 60) : (addAll p (prodT p L M) []).length ≤ 3600 := by
  have h1 := addAll_len (p := p) (prodT p L M) []
  rw [prodT_len] at h1
  have := Nat.mul_le_mul hL hM
  simp at h1
  omega
theorem mc_len {p k : Int} {L M : List Trm} (hL : L.length ≤ 60) (hM : M.length ≤ 60) : (mcR p k L M).length ≤ 3600 := Nat.le_trans (List.length_filter_le _ _) (prod_len hL hM)
set_option maxRecDepth 100000 in
set_option maxHeartbeats 4000000 in
theorem sMulCut_no (p : Int) (fv gv : Value) (L M : List Trm) (k : Int) (w : World) (hL : Trms w fv L) (hM : Trms w gv M) (hr : (okB p (fv, L) && okB p (gv, M)) = false) :
    Calls Try.prog 67 #[.int .i64 p, fv, gv, .int .i64 k] w (GivesPB [] false w) := by
  have HB := Lib.hid (bothAt p fv gv L M w hL hM false hr)
  clear hr
  obtain ⟨_, a, cap, rfl, _⟩ := hL
  obtain ⟨_, a2, cap2, rfl, _⟩ := hM
  go_enter Try.func67, Try.ntmps67
  go_wp2_with (go_at_call 98; refine HB.out.mono ?_; rintro e w2 ⟨rfl, hb2⟩)
  refine bodyPost_ret (v := .tuple #[.slice (some ⟨w2.heap.size, 0, none⟩) 0 0, .bool false]) (by simp [results, Try.results67, go_sem]) rfl ⟨_, rfl, (row_base (Row.lit0 w2 w2.heap.size (Nat.le_refl _)) hb2.size).own (by simp), Below.alloc hb2 hb2.size _⟩
set_option maxRecDepth 100000 in
set_option maxHeartbeats 4000000 in
theorem sMulCut_yes (p : Int) (fv gv : Value) (L M : List Trm) (k : Int) (w : World) (hL : Trms w fv L) (hM : Trms w gv M) (hp : isP p = true) (hVL : validB p L = true) (hVM : validB p M = true) :
    Calls Try.prog 67 #[.int .i64 p, fv, gv, .int .i64 k] w (GivesPB (if validB p (mcR p k L M) = true then mcR p k L M else []) (validB p (mcR p k L M)) w) := by
  have HB := Lib.hid (bothAt p fv gv L M w hL hM true (by unfold okB; dsimp only; rw [hp, hVL, hVM]; rfl))
  obtain ⟨m0, a2, cap2, rfl, m1⟩ := hM
  obtain ⟨l0, a, cap, rfl, l1⟩ := hL
  have HS := Lib.hid (fun (w' : World) (hb : Below w.heap.size w w') => sProduct p a a2 cap cap2 L M w' hp (Trms.below ⟨l0, a, cap, rfl, l1⟩ hb) (Trms.below ⟨m0, a2, cap2, rfl, m1⟩ hb) hVL hVM)
  have hln := prod_len (p := p) (validB_len hVL) (validB_len hVM)
  have HC := Lib.hid (fun (B : Nat) (v : Value) (w' : World) (hR : Row w' B v (addAll p (prodT p L M) [])) => sCut v (addAll p (prodT p L M) []) k w' (hR.own (by omega)).trms (by omega) (sml_add (sml_prod hVL hVM)))
  have HT := Lib.hid (fun (B : Nat) (v : Value) (w' : World) (hR : Row w' B v (mcR p k L M)) => sTold B p hp (mcR p k L M) v w' hR (by have := mc_len (p := p) (k := k) (validB_len hVL) (validB_len hVM); omega))
  obtain ⟨Q, hQ⟩ : ∃ Q, Q = addAll p (prodT p L M) [] := ⟨_, rfl⟩
  obtain ⟨R, hR⟩ : ∃ R, R = mcR p k L M := ⟨_, rfl⟩
  have hRQ : cutL k Q = R := by rw [hR, hQ]; rfl
  rw [← hR] at HT ⊢
  rw [← hQ] at HS HC
  rw [hRQ] at HC
  obtain ⟨b, hb⟩ : ∃ b, b = validB p R := ⟨_, rfl⟩
  rw [← hb] at HT ⊢
  obtain ⟨R2, hR2⟩ : ∃ R2, R2 = (if b = true then R else []) := ⟨_, rfl⟩
  rw [← hR2] at HT ⊢
  clear hR hb hR2 hp hVL hVM hQ hRQ l0 l1 m0 m1 hln
  go_enter Try.func67, Try.ntmps67
  go_wp2_with fail
  refine HB.out.mono ?_
  rintro e w2 ⟨rfl, hb2⟩
  have H2 := Lib.hid hb2
  clear hb2
  go_wp2_with fail
  refine (HS.out _ H2.out).mono ?_
  rintro e w3 ⟨v3, rfl, hR3, hb3⟩
  have H3 := Lib.hid (H2.out.trans (hb3.mono H2.out.size))
  obtain ⟨a3, c3, rfl⟩ : ∃ a c, v3 = .slice a Q.length c := by
    rcases hR3.shape with ⟨rfl, h⟩ | ⟨g, c, rfl, _⟩
    · exact ⟨none, 0, by rw [h]; rfl⟩
    · exact ⟨_, c, rfl⟩
  obtain ⟨W, hW⟩ : ∃ W, W = w3.alloc (Obj.cells #[.slice a3 Q.length c3] 105) := ⟨_, rfl⟩
  have HW := Lib.hid (show Row W w.heap.size (.slice a3 Q.length c3) Q ∧ Below w.heap.size w W ∧ w3.heap.size < W.heap.size ∧ W.cell? ⟨w3.heap.size, 0, none⟩ = some (.slice a3 Q.length c3) ∧ W.frozen? ⟨w3.heap.size, 0, none⟩ = false from by
    have bA : Below w3.heap.size w3 W := by rw [hW]; exact Below.alloc (Below.refl _ _) (Nat.le_refl _) _
    exact ⟨row_base (hR3.below bA) H2.out.size, H3.out.trans (bA.mono H3.out.size), by rw [hW]; simp, by rw [hW]; simp [go_sem], by rw [hW]; exact World.frozen?_alloc_at _ _ _ 0 rfl⟩)
  have hz3 : w.heap.size ≤ w3.heap.size := H3.out.size
  clear hR3 hb3
  have c0 := HW.out.2.2.2.1
  go_wp2_with fail
  rw [← hW]
  clear hW
  obtain ⟨n, hn⟩ : ∃ n, n = w3.heap.size := ⟨_, rfl⟩
  rw [← hn] at HW c0 hz3 ⊢
  clear hn
  refine (HC.out _ _ _ HW.out.1).mono ?_
  rintro e w4 ⟨v4, rfl, hR4, hb4⟩
  have H4 := Lib.hid (HW.out.2.1.trans (hb4.mono HW.out.2.1.size))
  have d0 : w4.cell? ⟨n, 0, none⟩ = some (.slice a3 Q.length c3) := by rw [hb4.cell (p := ⟨n, 0, none⟩) HW.out.2.2.1]; exact c0
  have d1 : w4.frozen? ⟨n, 0, none⟩ = false := by rw [hb4.frozen (p := ⟨n, 0, none⟩) HW.out.2.2.1]; exact HW.out.2.2.2.2
  obtain ⟨a4, c4, rfl⟩ : ∃ a c, v4 = .slice a R.length c := by
    rcases hR4.shape with ⟨rfl, h⟩ | ⟨g, c, rfl, _⟩
    · exact ⟨none, 0, by rw [h]; rfl⟩
    · exact ⟨_, c, rfl⟩
  have hvn : (Value.slice a4 R.length c4).ownBlock ≠ some n := fun e => by have := (World.ownsRow.lt hR4 _ e).1; have := HW.out.2.2.1; omega
  have HR5 := Lib.hid (show Row (w4.setCell ⟨n, 0, none⟩ (.slice a4 R.length c4)) W.heap.size (.slice a4 R.length c4) R from World.ownsRow.kept (row := some n) hR4 ⟨rfl, rfl, rfl, by simp, fun k hk hne => Below.heap_setCell _ _ _ _ (fun e => hne (by rw [e]))⟩ (.inr hvn))
  have H5 := Lib.hid (show Below w.heap.size w (w4.setCell ⟨n, 0, none⟩ (.slice a4 R.length c4)) from H4.out.setCell hz3 _)
  have d5 := World.cell?_setCell_same w4 ⟨n, 0, none⟩ (.slice a4 R.length c4) d0
  clear hR4 hb4 hvn c0
  go_wp2_with fail
  refine (HT.out _ _ _ HR5.out).mono ?_
  rintro e w6 ⟨v6, rfl, ho6, hb6⟩
  have H6 := Lib.hid (And.intro ho6 (H5.out.trans (hb6.mono H5.out.size)))
  clear ho6 hb6
  go_wp2_with fail
  refine bodyPost_ret (v := .tuple #[v6, .bool b]) (by simp [results, Try.results67, go_sem]) rfl ⟨_, rfl, ownTrms_mono H6.out.1 H5.out.size, H6.out.2⟩
theorem sMulCut (p : Int) (f g : Value) (L M : List Trm) (k : Int) (w : World) (hL : Trms w f L) (hM : Trms w g M) :
    Calls Try.prog 67 #[.int .i64 p, f, g, .int .i64 k] w (GivesPB (mcL p k L M) (mcOk p k L M) w) := by
  cases h : ((isP p && validB p L) && (isP p && validB p M))
  · rw [(mcOk_no h).1, (mcOk_no h).2]
    exact sMulCut_no p f g L M k w hL hM h
  · rw [(mcOk_yes h).1, (mcOk_yes h).2]
    simp only [Bool.and_eq_true] at h
    exact sMulCut_yes p f g L M k w hL hM h.1.1 h.1.2 h.2.2
end Go.Proofs.Ytlidplmpglpkgaa
namespace Go.Proofs.Ytlidplmpglpkgaa
open Go.RowKit
/-- the products that come first: of the first k terms with all, and of the next one with the first j -/
def prodF (p : Int) (L M : List Trm) (k j : Nat) : List Trm := prodT p (L.take k) M ++ (M.take j).map (mulTT p (L.getD k default))
/-- the sum of those up to a degree -/
def mcK (p n : Int) (L M : List Trm) (k j : Nat) : List Trm := addAll p (cutL n (prodF p L M k j)) []
theorem cut_snoc (n : Int) (L : List Trm) (x : Trm) : cutL n (L ++ [x]) = if degT x ≤ n then cutL n L ++ [x] else cutL n L := by
  unfold cutL fl
  rw [List.filter_append]
  by_cases h : degT x ≤ n
  · rw [if_pos h, List.filter_cons_of_pos (by unfold upB; rw [decide_eq_true_eq]; exact h)]; rfl
  · rw [if_neg h, List.filter_cons_of_neg (by unfold upB; rw [decide_eq_true_eq]; exact h)]; simp
theorem prodF_next {p : Int} {L M : List Trm} {k j : Nat} (hj : j < M.length) : prodF p L M k (j + 1) = prodF p L M k j ++ [mulTT p (L.getD k default) (M.getD j default)] := by
  unfold prodF
  rw [List.take_succ_eq_append_getElem hj, List.map_append, List.map_singleton, ← List.append_assoc]
  simp [List.getD_eq_getElem?_getD, hj]
theorem mcK_next {p n : Int} {L M : List Trm} {k j : Nat} (hj : j < M.length) : mcK p n L M k (j + 1) = if degT (mulTT p (L.getD k default) (M.getD j default)) ≤ n then addT p (mulTT p (L.getD k default) (M.getD j default)) (mcK p n L M k j) else mcK p n L M k j := by
  unfold mcK
  rw [prodF_next hj, cut_snoc]
  split
  · rw [addAll_snoc]
  · rfl
theorem mcK_zero (p n : Int) (L M : List Trm) : mcK p n L M 0 0 = [] := by simp [mcK, prodF, prodT, cutL, fl, addAll]
theorem mcK_row {p n : Int} {L M : List Trm} {k : Nat} (hk : k < L.length) : mcK p n L M k M.length = mcK p n L M (k + 1) 0 := by
  unfold mcK prodF prodT
  rw [List.take_succ_eq_append_getElem hk, List.flatMap_append, List.take_length]
  simp [List.getD_eq_getElem?_getD, hk]
theorem mcK_end {p n : Int} (hp : isP p = true) (L M : List Trm) : mcK p n L M L.length 0 = mcR p n L M := by
  unfold mcK mcR prodF
  rw [cut_prod hp]
  simp
theorem mcK_facts {p n : Int} {L M : List Trm} (hp : isP p = true) {k j : Nat} (hk : k ≤ L.length) (hj : j ≤ M.length) (hL : L.length ≤ 60) (hM : M.length ≤ 60) : Srt (mcK p n L M k j) ∧ Els p (mcK p n L M k j) ∧ (mcK p n L M k j).length ≤ 3660 := by
  have hb := isP_bd hp
  have e : mcK p n L M k j = cutL n (prodK p L M k j) := by
    unfold mcK prodK
    rw [show cutL n (addAll p (prodT p (L.take k) M ++ (M.take j).map (mulTT p (L.getD k default))) []) = _ from fl_addAll (by omega) _ (fun x hx => by
      rcases List.mem_append.1 hx with h | h
      · exact prod_bd (by omega) x h
      · obtain ⟨z, _, rfl⟩ := List.mem_map.1 h
        exact emod_bd hb.1)]
    rfl
  have h := prodK_facts hp hk hj hL hM
  rw [e]
  exact ⟨fl_srt h.1, fl_els h.2.1, Nat.le_trans (List.length_filter_le _ _) h.2.2⟩
theorem iDegS (x : Trm) (w : World) (h : sml x) :
    Calls Try.prog 153 #[.agg #[.int .i64 x.a, .int .i64 x.b, .int .i64 x.c, .int .i64 x.t]] w fun e w' => e = .returned (.int .i64 (degT x)) ∧ Below w.heap.size w w' := by
  obtain ⟨⟨a0, a1⟩, ⟨b0, b1⟩, ⟨c0, c1⟩⟩ := h
  have w1 : IntKind.i64.wrap (x.a + x.b) = x.a + x.b := IntWalk.i64_in _ (by omega)
  have w2 : IntKind.i64.wrap (x.a + x.b + x.c) = x.a + x.b + x.c := IntWalk.i64_in _ (by omega)
  go_enter Try.func153, Try.ntmps153
  go_wp2_with fail
  go_ret
  exact ⟨rfl, by repeat (first | exact Below.refl _ _ | apply Below.drew | apply below_drewN | (refine Below.setCell ?_ (by simp <;> omega) _) | (refine Below.alloc ?_ (by simp <;> omega) _))⟩
set_option maxRecDepth 100000 in
set_option maxHeartbeats 4000000 in
theorem iMulCut_no (p : Int) (fv gv : Value) (L M : List Trm) (n0 : Int) (w : World) (hL : Trms w fv L) (hM : Trms w gv M) (hr : (okB p (fv, L) && okB p (gv, M)) = false) :
    Calls Try.prog 66 #[.int .i64 p, fv, gv, .int .i64 n0] w (GivesPB [] false w) := by
  have HB := Lib.hid (iBothAt p fv gv L M w hL hM false hr)
  clear hr
  obtain ⟨_, a, cap, rfl, _⟩ := hL
  obtain ⟨_, a2, cap2, rfl, _⟩ := hM
  go_enter Try.func66, Try.ntmps66
  go_wp2_with (go_at_call 109; refine HB.out.mono ?_; rintro e w2 ⟨rfl, hb2⟩)
  refine bodyPost_ret (v := .tuple #[.slice none 0 0, .bool false]) (by simp [results, Try.results66, go_sem]) rfl ⟨_, rfl, (Row.nil w2 w.heap.size).own (by simp), hb2⟩
set_option maxRecDepth 100000 in
set_option maxHeartbeats 8000000 in
theorem iMulCut_yes (p : Int) (fv gv : Value) (L M : List Trm) (n0 : Int) (w : World) (hL : Trms w fv L) (hM : Trms w gv M) (hp : isP p = true) (hVL : validB p L = true) (hVM : validB p M = true) :
    Calls Try.prog 66 #[.int .i64 p, fv, gv, .int .i64 n0] w (GivesPB (if validB p (mcR p n0 L M) = true then mcR p n0 L M else []) (validB p (mcR p n0 L M)) w) := by
  have HB := Lib.hid (iBothAt p fv gv L M w hL hM true (by unfold okB; dsimp only; rw [hp, hVL, hVM]; rfl))
  have HP := Lib.hid hp
  have HVL := Lib.hid hVL
  have HVM := Lib.hid hVM
  have hl1 := validB_len hVL
  have hm1 := validB_len hVM
  obtain ⟨m0, a2, cap2, rfl, m1⟩ := hM
  have HM := Lib.hid (show Trms w (.slice a2 M.length cap2) M from ⟨m0, a2, cap2, rfl, m1⟩)
  obtain ⟨l0, a, cap, rfl, l1⟩ := hL
  have HL := Lib.hid (show Trms w (.slice a L.length cap) L from ⟨l0, a, cap, rfl, l1⟩)
  obtain ⟨R, hRe⟩ : ∃ R, R = mcR p n0 L M := ⟨_, rfl⟩
  rw [← hRe]
  obtain ⟨b, hbe⟩ : ∃ b, b = validB p R := ⟨_, rfl⟩
  rw [← hbe]
  obtain ⟨R2, hR2⟩ : ∃ R2, R2 = (if b = true then R else []) := ⟨_, rfl⟩
  rw [← hR2]
  have HRE := Lib.hid hRe
  have HBE := Lib.hid hbe
  have HR2 := Lib.hid hR2
  clear m0 m1 l0 l1 hp hVL hVM hRe hbe hR2
  go_enter Try.func66, Try.ntmps66
  go_wp2_with (go_at_call 109; refine HB.out.mono ?_; rintro e w2 ⟨rfl, hb2⟩)
  obtain ⟨W, hW⟩ : ∃ W, W = w2.alloc (Obj.cells #[.int .i64 p, .slice none 0 0] 114) := ⟨_, rfl⟩
  have HW := Lib.hid (show SumW W w2.heap.size p (.slice none 0 0) ∧ Row W w.heap.size (.slice none 0 0) (mcK p n0 L M 0 0) ∧ Value.ownBlock (.slice none 0 0) ≠ some w2.heap.size ∧ Below w.heap.size w W by
    rw [hW, mcK_zero]
    exact ⟨⟨by simp [go_sem], by simp [go_sem], World.frozen?_alloc_at _ _ _ 0 rfl, World.frozen?_alloc_at _ _ _ 1 rfl, by simp⟩, Row.nil _ _, by simp [Value.ownBlock], Below.alloc hb2 hb2.size _⟩)
  rw [← hW]
  obtain ⟨S, hSe⟩ : ∃ S, S = w2.heap.size := ⟨_, rfl⟩
  have hSB : w.heap.size ≤ S := by rw [hSe]; exact hb2.size
  rw [← hSe] at HW ⊢
  clear hSe hW hb2
  go_loopw [26] (fun i wr => ∃ (k : Nat) (v : Value), k ≤ L.length ∧ i = .int .i64 k ∧ SumW wr S p v ∧ Row wr w.heap.size v (mcK p n0 L M k 0) ∧ v.ownBlock ≠ some S ∧ Below w.heap.size w wr) (fun i _ => L.length - (intOf i).toNat)
  case atStart => exact ⟨0, _, by omega, rfl, HW.out⟩
  case round =>
    clear HW
    obtain ⟨k, v, hk, rfl, hS, hR, hv, hb⟩ := hrel
    by_cases hlt : k < L.length
    · have hltp : (k : Int) < (L.length : Int) := by omega
      have hk0 : (0 : Int) ≤ (k : Int) := by omega
      obtain ⟨x, hx⟩ : ∃ x, x = L.getD k default := ⟨_, rfl⟩
      have HX := Lib.hid hx
      have HEX := Lib.hid (validB_el HVL.out hlt hx)
      have HPX := Lib.hid (validB_pows HVL.out hlt hx)
      obtain ⟨g, off, rfl, hg, hc⟩ : ∃ g off, a = some ⟨g, off, none⟩ ∧ g < w.heap.size ∧ ∀ j : Nat, j < L.length → TAt w g (off + j * 4) (L.getD j default) := by
        obtain ⟨_, a', cap', he, h⟩ := HL.out
        injection he with e1 e2 e3
        subst e1
        rcases h with h | h
        · rw [h] at hlt; simp at hlt
        · exact h
      obtain ⟨b0, b1, b2, b3⟩ := (hc k hlt).below hb hg
      rw [← hx] at b0 b1 b2 b3
      have hn : v.ownBlock ≠ some wr.heap.size := fun e => by have := (World.ownsRow.lt hR _ e).2; omega
      have HIN := Lib.hid (show ∀ W, W = wr.alloc (Obj.cells #[.int .i64 x.a, .int .i64 x.b, .int .i64 x.c, .int .i64 x.t] 87) → SumW W S p v ∧ Row W w.heap.size v (mcK p n0 L M k 0) ∧ v.ownBlock ≠ some S ∧ v.ownBlock ≠ some wr.heap.size ∧ TAt W wr.heap.size 0 x ∧ wr.heap.size < W.heap.size ∧ Below w.heap.size w W from fun W hW => by
        have hb2 : Below wr.heap.size wr W := by rw [hW]; exact Below.alloc (Below.refl _ _) (Nat.le_refl _) _
        exact ⟨hS.below hb2, hR.below hb2, hv, hn, by rw [hW]; refine ⟨?_, ?_, ?_, ?_⟩ <;> simp [go_sem], by rw [hW]; simp, hb.trans (hb2.mono hb.size)⟩)
      have hSn : S < wr.heap.size := hS.sz
      clear hx hS hR hv hb hc hn
      go_wp2_with fail
      obtain ⟨W1, hW1⟩ : ∃ W, W = wr.alloc (Obj.cells #[.int .i64 x.a, .int .i64 x.b, .int .i64 x.c, .int .i64 x.t] 87) := ⟨_, rfl⟩
      have HI1 := Lib.hid (HIN.out W1 hW1)
      rw [← hW1]
      obtain ⟨n, hne⟩ : ∃ n, n = wr.heap.size := ⟨_, rfl⟩
      rw [← hne] at HI1 hSn ⊢
      clear hW1 hne HIN b0 b1 b2 b3
      go_loopw [32] (fun i wr => ∃ (j : Nat) (v : Value), j ≤ M.length ∧ i = .int .i64 j ∧ SumW wr S p v ∧ Row wr w.heap.size v (mcK p n0 L M k j) ∧ v.ownBlock ≠ some S ∧ v.ownBlock ≠ some n ∧ TAt wr n 0 x ∧ n < wr.heap.size ∧ Below w.heap.size w wr) (fun i _ => M.length - (intOf i).toNat)
      case atStart => exact ⟨0, _, by omega, rfl, HI1.out⟩
      case round =>
        clear HI1
        obtain ⟨j, v, hj, rfl, hS, hR, hv, hvn, hT, hnw, hb⟩ := hrel
        by_cases hjt : j < M.length
        · have hjtp : (j : Int) < (M.length : Int) := by omega
          have hj0 : (0 : Int) ≤ (j : Int) := by omega
          obtain ⟨y, hy⟩ : ∃ y, y = M.getD j default := ⟨_, rfl⟩
          have hely := validB_el HVM.out hjt hy
          have hpy := validB_pows HVM.out hjt hy
          obtain ⟨g2, off2, rfl, hg2, hc⟩ : ∃ g off, a2 = some ⟨g, off, none⟩ ∧ g < w.heap.size ∧ ∀ j : Nat, j < M.length → TAt w g (off + j * 4) (M.getD j default) := by
            obtain ⟨_, a', cap', he, h⟩ := HM.out
            injection he with e1 e2 e3
            subst e1
            rcases h with h | h
            · rw [h] at hjt; simp at hjt
            · exact h
          obtain ⟨b0, b1, b2, b3⟩ := (hc j hjt).below hb hg2
          rw [← hy] at b0 b1 b2 b3
          have hex := HEX.out
          have HMT := Lib.hid (fun w => by
            have := iMulT p x y w HPX.out hpy
            rw [mulV_is HP.out (isE_iff.2 (by omega)) (isE_iff.2 (by omega))] at this
            exact (show Calls _ _ _ _ (fun e w' => e = .returned (.agg #[.int .i64 (mulTT p x y).a, .int .i64 (mulTT p x y).b, .int .i64 (mulTT p x y).c, .int .i64 (mulTT p x y).t]) ∧ _) from this))
          have HXK := Lib.hid (show mcK p n0 L M k (j + 1) = if degT (mulTT p x y) ≤ n0 then addT p (mulTT p x y) (mcK p n0 L M k j) else mcK p n0 L M k j by rw [HX.out, hy, mcK_next hjt])
          have hsz : sml (mulTT p x y) := by
            have h1 := HPX.out
            unfold sml mulTT
            show (0 ≤ x.a + y.a ∧ x.a + y.a ≤ 18) ∧ (0 ≤ x.b + y.b ∧ x.b + y.b ≤ 18) ∧ (0 ≤ x.c + y.c ∧ x.c + y.c ≤ 18)
            omega
          have HDG := Lib.hid (fun w => iDegS (mulTT p x y) w hsz)
          obtain ⟨z, hz⟩ : ∃ z, z = mulTT p x y := ⟨_, rfl⟩
          have HZ := Lib.hid hz
          rw [← hz] at HXK HDG HMT
          have HZT := Lib.hid (show (0 ≤ z.t ∧ z.t < p) by rw [hz]; exact emod_bd (isP_bd HP.out).1)
          have HS := Lib.hid hS
          have HR := Lib.hid hR
          have HV2 := Lib.hid hv
          have HV3 := Lib.hid hvn
          have HT := Lib.hid hT
          have Hb := Lib.hid hb
          have Ha := Lib.hid (Below.alloc (Below.refl wr.heap.size wr) (Nat.le_refl _) (Obj.cells #[.int .i64 y.a, .int .i64 y.b, .int .i64 y.c, .int .i64 y.t] 87))
          obtain ⟨t0, t1, t2, t3⟩ := hT
          simp only [Nat.zero_add] at t0 t1 t2 t3
          clear hy hS hR hv hvn hb hc hely hpy hex hz hsz
          go_wp2_with fail
          refine (HMT.out _).mono ?_
          rintro e w3 ⟨rfl, hb3⟩
          have Hr := Lib.hid (Ha.out.trans (hb3.mono Ha.out.size))
          have H3 := Lib.hid (Hb.out.trans (Hr.out.mono Hb.out.size))
          clear hb3
          go_wp2_with fail
          refine (HDG.out _).mono ?_
          rintro e w4 ⟨rfl, hb4⟩
          have b4 : Below w3.heap.size w3 w4 := (Below.alloc (Below.refl _ _) (Nat.le_refl _) _).trans (hb4.mono (by simp))
          have hz4 : TAt w4 w3.heap.size 0 z := TAt.below (B := _) (by refine ⟨?_, ?_, ?_, ?_⟩ <;> simp [go_sem]) hb4 (by simp)
          replace Hr := Lib.hid (Hr.out.trans (b4.mono Hr.out.size))
          replace H3 := Lib.hid (Hb.out.trans (Hr.out.mono Hb.out.size))
          obtain ⟨q0, q1, q2, q3⟩ := hz4
          simp only [Nat.zero_add] at q0 q1 q2 q3
          clear hb4 b4
          by_cases hd : degT z ≤ n0
          · have HXY := Lib.hid (show addT p z (mcK p n0 L M k j) = mcK p n0 L M k (j + 1) by rw [HXK.out, if_pos hd])
            go_wp2_with fail
            have hf := mcK_facts (p := p) (n := n0) HP.out (k := k) (j := j) hk hj hl1 hm1
            have hpb := isP_bd HP.out
            have hn3 : n < w4.heap.size := Nat.lt_of_lt_of_le hnw Hr.out.size
            refine (iPut w.heap.size S p v (mcK p n0 L M k j) z w4 (HS.out.below Hr.out) (HR.out.below Hr.out) H3.out.size HP.out hf.1 hf.2.1 (isE_iff.2 HZT.out) (by omega) HV2.out).mono ?_
            rintro e w5 hP4
            have hlow := hP4.low (HR.out.below Hr.out) hSB H3.out.size
            obtain ⟨rfl, v', hS', hR', hv', hk', hd'⟩ := hP4
            rw [HXY.out] at hR'
            have hTn : TAt w5 n 0 x := TAt.kept (HT.out.below Hr.out hnw) hk' hn3 (fun h => by
              rcases h with h | h
              · omega
              · exact HV3.out h)
            have hvn' : v'.ownBlock ≠ some n := by
              rcases hd' with h | ⟨q, h, hq⟩
              · rw [h]; exact HV3.out
              · rw [h]; intro e; injection e with e; omega
            have HQ := Lib.hid (And.intro hS' (And.intro hR' (And.intro hv' (And.intro hvn' (And.intro hTn (And.intro (Nat.lt_of_lt_of_le hn3 hk'.size) (H3.out.trans hlow)))))))
            clear hS' hR' hv' hvn' hTn hlow hf hk' hd' t0 t1 t2 t3 q0 q1 q2 q3
            go_wp2_with fail
            go_roundw
            case rel => exact ⟨j + 1, v', by omega, by go_num, HQ.out⟩
            case measure => simp [intOf]; omega
          · have HXY := Lib.hid (show mcK p n0 L M k j = mcK p n0 L M k (j + 1) by rw [HXK.out, if_neg hd])
            have HQ := Lib.hid (And.intro (HS.out.below Hr.out) (And.intro (HXY.out ▸ HR.out.below Hr.out) (And.intro HV2.out (And.intro HV3.out (And.intro (HT.out.below Hr.out hnw) (And.intro (Nat.lt_of_lt_of_le hnw Hr.out.size) H3.out))))))
            clear t0 t1 t2 t3 q0 q1 q2 q3
            go_wp2_with fail
            go_roundw
            case rel => exact ⟨j + 1, v, by omega, by go_num, HQ.out⟩
            case measure => simp [intOf]; omega
        · have hjl : j = M.length := by omega
          subst hjl
          rw [mcK_row hlt] at hR
          have HQ := Lib.hid (And.intro hS (And.intro hR (And.intro hv hb)))
          clear hS hR hv hvn hT hb
          go_wp2_with fail
          go_roundw
          case rel => exact ⟨k + 1, v, by omega, by go_num, HQ.out⟩
          case measure => simp [intOf]; omega
    · have hkl : k = L.length := by omega
      subst hkl
      have hf := mcK_facts (p := p) (n := n0) HP.out (k := L.length) (j := 0) (Nat.le_refl _) (Nat.zero_le _) hl1 hm1
      have hown := hR.own (by omega)
      rw [mcK_end HP.out, ← HRE.out] at hown
      obtain ⟨hl2, ao, co, rfl, _⟩ := hown.trms
      have HO := Lib.hid hown
      have HS := Lib.hid hS
      have Hb := Lib.hid hb
      have HT := Lib.hid (iPolyOf S p ao co R wr hS hown.trms)
      rw [HP.out, ← HBE.out] at HT
      clear hown hS hb hR hf hv
      cases b
      · have hz : R2 = [] := by rw [HR2.out]; rfl
        subst hz
        go_wp2_with (go_at_call 108; refine HT.out.mono ?_; rintro e w5 ⟨rfl, hb5⟩)
        have H5 := Lib.hid (Hb.out.trans (hb5.mono Hb.out.size))
        refine bodyPost_ret (v := .tuple #[.slice none 0 0, .bool false]) (by simp [results, Try.results66, go_sem]) rfl ⟨_, rfl, (Row.nil _ w.heap.size).own (by simp), H5.out⟩
      · have hz : R2 = R := by rw [HR2.out]; rfl
        subst hz
        go_wp2_with (go_at_call 108; refine HT.out.mono ?_; rintro e w5 ⟨rfl, hb5⟩)
        have H5 := Lib.hid (And.intro (HO.out.below hb5) (Hb.out.trans (hb5.mono Hb.out.size)))
        refine bodyPost_ret (v := .tuple #[.slice ao R2.length co, .bool true]) (by simp [results, Try.results66, go_sem]) rfl ⟨_, rfl, H5.out.1, H5.out.2⟩
theorem iMulCut (p : Int) (f g : Value) (L M : List Trm) (k : Int) (w : World) (hL : Trms w f L) (hM : Trms w g M) :
    Calls Try.prog 66 #[.int .i64 p, f, g, .int .i64 k] w (GivesPB (mcL p k L M) (mcOk p k L M) w) := by
  cases h : ((isP p && validB p L) && (isP p && validB p M))
  · rw [(mcOk_no h).1, (mcOk_no h).2]
    exact iMulCut_no p f g L M k w hL hM h
  · rw [(mcOk_yes h).1, (mcOk_yes h).2]
    simp only [Bool.and_eq_true] at h
    exact iMulCut_yes p f g L M k w hL hM h.1.1 h.1.2 h.2.2
theorem one1_valid {p : Int} (hp : isP p = true) : validB p [one1] = true := by
  have hb := isP_bd hp
  refine validB_of (List.pairwise_singleton _ _) (fun y hy => ?_) (fun y hy => ?_) (by simp)
  · have : y = one1 := by simpa using hy
    subst this
    exact ⟨by decide, by show (1 : Int) < p; omega⟩
  · have : y = one1 := by simpa using hy
    subst this
    rfl
theorem cut_is (p k : Int) (L : List Trm) : mcL p k L [one1] = cutV p k L ∧ mcOk p k L [one1] = (isP p && validB p L) := by
  cases hp : isP p
  · have h := mcOk_no (p := p) (k := k) (L := L) (M := [one1]) (by rw [hp]; rfl)
    rw [h.1, h.2]
    unfold cutV
    rw [hp]
    exact ⟨rfl, rfl⟩
  · cases hV : validB p L
    · have h := mcOk_no (p := p) (k := k) (L := L) (M := [one1]) (by rw [hV]; simp)
      rw [h.1, h.2]
      unfold cutV
      rw [hp, hV]
      exact ⟨rfl, rfl⟩
    · have h := mcOk_yes (p := p) (k := k) (L := L) (M := [one1]) (by rw [hp, hV, one1_valid hp]; rfl)
      have e : mcR p k L [one1] = cutL k L := by
        unfold mcR
        rw [cut_prod hp, cut_one hp hV]
      have hv : validB p (cutL k L) = true := fl_valid hV
      rw [h.1, h.2, e, hv]
      unfold cutV
      rw [hp, hV]
      exact ⟨rfl, rfl⟩
set_option maxHeartbeats 4000000 in
theorem iCutPoly (p : Int) (f : Value) (L : List Trm) (k : Int) (w : World) (h : Trms w f L) :
    Calls Try.prog 68 #[.int .i64 p, f, .int .i64 k] w (GivesPB (cutV p k L) (isP p && validB p L) w) := by
  obtain ⟨W, hW⟩ : ∃ W, W = w.alloc (Obj.cells #[.int .i64 0, .int .i64 0, .int .i64 0, .int .i64 1] 87) := ⟨_, rfl⟩
  have hbW : Below w.heap.size w W := by rw [hW]; exact Below.alloc (Below.refl _ _) (Nat.le_refl _) _
  have HM := Lib.hid (iMulCut p f (.slice (some ⟨w.heap.size, 0, none⟩) 1 1) L [one1] k W (h.below hbW) ⟨by simp, _, 1, rfl, .inr ⟨w.heap.size, 0, rfl, by rw [hW]; simp, fun j hj => by
    have : j = 0 := by simpa using hj
    subst this
    rw [hW]
    refine ⟨?_, ?_, ?_, ?_⟩ <;> simp [go_sem, one1]⟩⟩)
  rw [(cut_is p k L).1, (cut_is p k L).2] at HM
  have HW := Lib.hid hW
  have Hb := Lib.hid hbW
  obtain ⟨R, hR⟩ : ∃ R, R = cutV p k L := ⟨_, rfl⟩
  obtain ⟨b, hb⟩ : ∃ b, b = (isP p && validB p L) := ⟨_, rfl⟩
  rw [← hR, ← hb] at HM ⊢
  clear h hW hbW hR hb
  go_enter Try.func68, Try.ntmps68
  go_wp2_with fail
  rw [← HW.out]
  refine HM.out.mono ?_
  rintro e w2 ⟨v, rfl, ho, hb2⟩
  have H2 := Lib.hid (And.intro ho (Hb.out.trans (hb2.mono Hb.out.size)))
  clear ho hb2
  go_wp2_with fail
  refine bodyPost_ret (v := .tuple #[v, .bool b]) (by simp [results, Try.results68, go_sem]) rfl ⟨_, rfl, ownT_base H2.out.1 Hb.out.size, H2.out.2⟩
end Go.Proofs.Ytlidplmpglpkgaa
