/-
  Contracts of what tells whether a gate may stand at an index, of the model and of the program. Conditions: the index is no less than 0; for the program the number is a prime.
-/
import Derived.Test.YtiahcaihmgnicaaCir
import Derived.Test.YtiahcaihmgnicaaFldD
import Derived.Test.YtiahcaihmgnicaaTrm
namespace Go.Proofs.Ytiahcaihmgnicaa
open Go.RowKit
theorem sIn_at (r : Bool) (n lo hi : Int) (h : inB n lo hi = r) (w : World) :
    Calls Try.prog 77 #[.int .i64 n, .int .i64 lo, .int .i64 hi] w fun e w' => e = .returned (.bool r) ∧ w = w' := by
  subst h; exact sIn n lo hi w
set_option maxHeartbeats 2000000 in
theorem sGate (p q : Int) (hq : IntKind.i64.wrap (p - 1) = q) (k a b i : Int) (hi0 : 0 ≤ i) (hi1 : i ≤ 1048576) (w : World) :
    Calls Try.prog 127 #[.int .i64 p, .agg #[.int .i64 k, .int .i64 a, .int .i64 b], .int .i64 i] w fun e w' => e = .returned (.bool (gOK q ⟨k, a, b⟩ i)) ∧ Below w.heap.size w w' := by
  by_cases h0 : k = 0
  · subst h0
    clear hq
    rcases Bool.eq_false_or_eq_true (inB a 0 2) with h | h
    all_goals
      have H := Lib.hid h
      clear h
      go_enter Try.func127, Try.ntmps127
      go_wp2_with (go_at_call 77; refine (sIn_at _ _ _ _ H.out _).mono ?_; rintro e w' ⟨rfl, rfl⟩)
      go_ret
      exact ⟨ret_bool (by simp [gOK, H.out]), by repeat (first | exact Below.refl _ _ | apply Below.drew | apply below_drewN | (refine Below.setCell ?_ (by simp <;> omega) _) | (refine Below.alloc ?_ (by simp <;> omega) _))⟩
  · by_cases h1 : k = 1
    · subst h1
      rcases Bool.eq_false_or_eq_true (inB a 0 q) with h | h
      all_goals
        have H := Lib.hid h
        clear h h0
        go_enter Try.func127, Try.ntmps127
        go_wp2_with (go_at_call 77; refine (sIn_at _ _ _ _ H.out _).mono ?_; rintro e w' ⟨rfl, rfl⟩)
        go_ret
        exact ⟨ret_bool (by simp [gOK, H.out]), by repeat (first | exact Below.refl _ _ | apply Below.drew | apply below_drewN | (refine Below.setCell ?_ (by simp <;> omega) _) | (refine Below.alloc ?_ (by simp <;> omega) _))⟩
    · by_cases h2 : k = 2 ∨ k = 3
      · rcases Bool.eq_false_or_eq_true (inB a 0 (i - 1)) with h | h
        · rcases Bool.eq_false_or_eq_true (inB b 0 (i - 1)) with h' | h'
          all_goals
            rcases h2 with rfl | rfl
            all_goals
              have H := Lib.hid h
              have H' := Lib.hid h'
              clear h h' h0 h1 hq
              go_enter Try.func127, Try.ntmps127
              go_wp2_with fail
              refine (sIn_at true a 0 (i - 1) H.out _).mono ?_
              rintro e w' ⟨rfl, rfl⟩
              go_wp2_with fail
              refine (sIn_at _ b 0 (i - 1) H'.out _).mono ?_
              rintro e w' ⟨rfl, rfl⟩
              go_wp2_with fail
              go_ret
              exact ⟨ret_bool (by simp [gOK, H.out, H'.out]), by repeat (first | exact Below.refl _ _ | apply Below.drew | apply below_drewN | (refine Below.setCell ?_ (by simp <;> omega) _) | (refine Below.alloc ?_ (by simp <;> omega) _))⟩
        · rcases h2 with rfl | rfl
          all_goals
            have H := Lib.hid h
            clear h h0 h1 hq
            go_enter Try.func127, Try.ntmps127
            go_wp2_with (go_at_call 77; refine (sIn_at _ _ _ _ H.out _).mono ?_; rintro e w' ⟨rfl, rfl⟩)
            go_ret
            exact ⟨ret_bool (by simp [gOK, H.out]), by repeat (first | exact Below.refl _ _ | apply Below.drew | apply below_drewN | (refine Below.setCell ?_ (by simp <;> omega) _) | (refine Below.alloc ?_ (by simp <;> omega) _))⟩
      · have h3 : (k == 0) = false := by simpa using h0
        have h4 : (k == 1) = false := by simpa using h1
        have h5 : (k == 2) = false := by simp; omega
        have h6 : (k == 3) = false := by simp; omega
        clear h0 h1 h2 hq
        go_enter Try.func127, Try.ntmps127
        go_wp2
        go_ret
        exact ⟨ret_bool (by simp [gOK, h3, h4, h5, h6]), by repeat (first | exact Below.refl _ _ | apply Below.drew | apply below_drewN | (refine Below.setCell ?_ (by simp <;> omega) _) | (refine Below.alloc ?_ (by simp <;> omega) _))⟩
theorem iUnk (r : Bool) (a : Int) (h : inB a 0 2 = r) (w : World) :
    Calls Try.prog 79 #[.int .i64 a] w fun e w' => e = .returned (.bool r) ∧ w = w' := by
  subst h
  by_cases h0 : 0 ≤ a
  · have hb : decide (a < 3) = decide (a ≤ 2) := by by_cases h : a < 3 <;> simp <;> omega
    go_enter Try.func79, Try.ntmps79
    go_wp2
    go_ret
    exact ⟨ret_bool (by simp [inB, h0]; try omega), rfl⟩
  · go_enter Try.func79, Try.ntmps79
    go_wp2
    go_ret
    exact ⟨ret_bool (by simp [inB]; omega), rfl⟩
theorem iJoins (k a b : Int) (w : World) :
    Calls Try.prog 114 #[.agg #[.int .i64 k, .int .i64 a, .int .i64 b]] w fun e w' => e = .returned (.bool (joinsB ⟨k, a, b⟩)) ∧ Below w.heap.size w w' := by
  by_cases h0 : k = 2
  · subst h0
    go_enter Try.func114, Try.ntmps114
    go_wp2
    go_ret
    exact ⟨ret_bool (by simp [joinsB]), by repeat (first | exact Below.refl _ _ | apply Below.drew | apply below_drewN | (refine Below.setCell ?_ (by simp <;> omega) _) | (refine Below.alloc ?_ (by simp <;> omega) _))⟩
  · have h1 : (k == 2) = false := by simpa using h0
    clear h0
    go_enter Try.func114, Try.ntmps114
    go_wp2
    go_ret
    exact ⟨ret_bool (by simp [joinsB, h1]), by repeat (first | exact Below.refl _ _ | apply Below.drew | apply below_drewN | (refine Below.setCell ?_ (by simp <;> omega) _) | (refine Below.alloc ?_ (by simp <;> omega) _))⟩
theorem iJoins_is (r : Bool) (k a b : Int) (h : joinsB ⟨k, a, b⟩ = r) (w : World) :
    Calls Try.prog 114 #[.agg #[.int .i64 k, .int .i64 a, .int .i64 b]] w fun e w' => e = .returned (.bool r) ∧ Below w.heap.size w w' := by
  subst h; exact iJoins k a b w
theorem iAE1_at (r : Bool) (p a : Int) (hp : isP p = true) (h : inB a 0 (p - 1) = r) (b : Nat) (w : World) (h0 : w.cell? ⟨b, 0, none⟩ = some (.int .i64 a)) :
    Calls Try.prog 104 #[.int .i64 p, .slice (some ⟨b, 0, none⟩) 1 1] w fun e w' => e = .returned (.bool r) ∧ w = w' := by
  have := iAE1 p a b w h0
  have e : isE p a = inB a 0 (p - 1) := by
    unfold isE inB
    by_cases h1 : a < p
    · have h2 : a ≤ p - 1 := by omega
      simp [h1, h2]
    · have h2 : ¬ a ≤ p - 1 := by omega
      simp [h1, h2]
  simp only [isE1, hp, Bool.true_and, e, h] at this
  exact this
set_option maxHeartbeats 2000000 in
theorem iFits (p : Int) (hp : isP p = true) (k a b i : Int) (w : World) :
    Calls Try.prog 128 #[.agg #[.int .i64 k, .int .i64 a, .int .i64 b], .int .i64 p, .int .i64 i] w fun e w' => e = .returned (.bool (gOK (p - 1) ⟨k, a, b⟩ i)) ∧ Below w.heap.size w w' := by
  have HP := Lib.hid hp
  clear hp
  by_cases h0 : k = 0
  · subst h0
    rcases Bool.eq_false_or_eq_true (inB a 0 2) with h | h
    all_goals
      have H := Lib.hid h
      clear h
      go_enter Try.func128, Try.ntmps128
      go_wp2_with (go_at_call 79; refine (iUnk _ _ H.out _).mono ?_; rintro e w' ⟨rfl, rfl⟩)
      go_ret
      exact ⟨ret_bool (by simp [gOK, H.out]), by repeat (first | exact Below.refl _ _ | apply Below.drew | apply below_drewN | (refine Below.setCell ?_ (by simp <;> omega) _) | (refine Below.alloc ?_ (by simp <;> omega) _))⟩
  · by_cases h1 : k = 1
    · subst h1
      rcases Bool.eq_false_or_eq_true (inB a 0 (p - 1)) with h | h
      all_goals
        have H := Lib.hid h
        clear h h0
        go_enter Try.func128, Try.ntmps128
        go_wp2_with (go_at_call 104; refine (iAE1_at _ p a HP.out H.out _ _ (by simp)).mono ?_; rintro e w1 ⟨rfl, rfl⟩)
        go_ret
        exact ⟨ret_bool (by simp [gOK, H.out]), by repeat (first | exact Below.refl _ _ | apply Below.drew | apply below_drewN | (refine Below.setCell ?_ (by simp <;> omega) _) | (refine Below.alloc ?_ (by simp <;> omega) _))⟩
    · by_cases h2 : k = 2 ∨ k = 3
      · have hj : joinsB ⟨k, a, b⟩ = true := by simp [joinsB, h2]
        have HJ := Lib.hid hj
        have h3 : (k == 0) = false := by simpa using h0
        have h4 : (k == 1) = false := by simpa using h1
        have H2 := Lib.hid h2
        clear h0 h1 hj h2
        have key : ∀ r : Bool, (r = (inB a 0 (i - 1) && inB b 0 (i - 1))) → (gOK (p - 1) ⟨k, a, b⟩ i) = r := by
          intro r hr
          rw [hr]
          unfold gOK
          rcases H2.out with rfl | rfl <;> simp
        have HK := Lib.hid key
        clear key
        have B0 : Below w.heap.size w (w.alloc (Obj.cells #[.int .i64 k, .int .i64 a, .int .i64 b] 93)) := Below.alloc (Below.refl _ _) (Nat.le_refl _) _
        by_cases h5 : 0 ≤ a
        · by_cases h6 : 0 ≤ b
          · by_cases h7 : a ≤ b
            · have h8 : min a b = a := by omega
              have h9 : max a b = b := by omega
              go_enter Try.func128, Try.ntmps128
              go_wp2_with fail
              refine (iJoins_is true k a b HJ.out _).mono ?_
              rintro e w1 ⟨rfl, hb2⟩
              have c0 := hb2.cell (p := ⟨w.heap.size, 0, none⟩) (by simp)
              have c1 := hb2.cell (p := ⟨w.heap.size, 1, none⟩) (by simp)
              have c2 := hb2.cell (p := ⟨w.heap.size, 2, none⟩) (by simp)
              simp [go_sem] at c0 c1 c2
              have B1 := B0.trans (hb2.mono B0.size)
              clear hb2
              go_wp2_with fail
              all_goals (go_ret; exact ⟨ret_bool (HK.out _ (by unfold inB; rw [Bool.eq_iff_iff]; simp; omega)).symm, B1⟩)
            · have h8 : min a b = b := by omega
              have h9 : max a b = a := by omega
              go_enter Try.func128, Try.ntmps128
              go_wp2_with fail
              refine (iJoins_is true k a b HJ.out _).mono ?_
              rintro e w1 ⟨rfl, hb2⟩
              have c0 := hb2.cell (p := ⟨w.heap.size, 0, none⟩) (by simp)
              have c1 := hb2.cell (p := ⟨w.heap.size, 1, none⟩) (by simp)
              have c2 := hb2.cell (p := ⟨w.heap.size, 2, none⟩) (by simp)
              simp [go_sem] at c0 c1 c2
              have B1 := B0.trans (hb2.mono B0.size)
              clear hb2
              go_wp2_with fail
              all_goals (go_ret; exact ⟨ret_bool (HK.out _ (by unfold inB; rw [Bool.eq_iff_iff]; simp; omega)).symm, B1⟩)
          · have h8 : min a b < 0 := by omega
            go_enter Try.func128, Try.ntmps128
            go_wp2_with fail
            refine (iJoins_is true k a b HJ.out _).mono ?_
            rintro e w1 ⟨rfl, hb2⟩
            have c0 := hb2.cell (p := ⟨w.heap.size, 0, none⟩) (by simp)
            have c1 := hb2.cell (p := ⟨w.heap.size, 1, none⟩) (by simp)
            have c2 := hb2.cell (p := ⟨w.heap.size, 2, none⟩) (by simp)
            simp [go_sem] at c0 c1 c2
            have B1 := B0.trans (hb2.mono B0.size)
            clear hb2
            go_wp2_with fail
            all_goals (go_ret; exact ⟨ret_bool (HK.out _ (by unfold inB; rw [Bool.eq_iff_iff]; simp; omega)).symm, B1⟩)
        · have h8 : min a b < 0 := by omega
          go_enter Try.func128, Try.ntmps128
          go_wp2_with fail
          refine (iJoins_is true k a b HJ.out _).mono ?_
          rintro e w1 ⟨rfl, hb2⟩
          have c0 := hb2.cell (p := ⟨w.heap.size, 0, none⟩) (by simp)
          have c1 := hb2.cell (p := ⟨w.heap.size, 1, none⟩) (by simp)
          have c2 := hb2.cell (p := ⟨w.heap.size, 2, none⟩) (by simp)
          simp [go_sem] at c0 c1 c2
          have B1 := B0.trans (hb2.mono B0.size)
          clear hb2
          go_wp2_with fail
          all_goals (go_ret; exact ⟨ret_bool (HK.out _ (by unfold inB; rw [Bool.eq_iff_iff]; simp; omega)).symm, B1⟩)
      · have hj : joinsB ⟨k, a, b⟩ = false := by simp [joinsB]; omega
        have HJ := Lib.hid hj
        have h3 : (k == 0) = false := by simpa using h0
        have h4 : (k == 1) = false := by simpa using h1
        have h5 : (k == 2) = false := by simp; omega
        have h6 : (k == 3) = false := by simp; omega
        have HF := Lib.hid (show gOK (p - 1) ⟨k, a, b⟩ i = false by simp [gOK, h3, h4, h5, h6])
        have B0 : Below w.heap.size w (w.alloc (Obj.cells #[.int .i64 k, .int .i64 a, .int .i64 b] 93)) := Below.alloc (Below.refl _ _) (Nat.le_refl _) _
        clear h0 h1 hj h2 h5 h6
        go_enter Try.func128, Try.ntmps128
        go_wp2_with (go_at_call 114; refine (iJoins_is false k a b HJ.out _).mono ?_; rintro e w1 ⟨rfl, hb1⟩)
        have B1 := B0.trans (hb1.mono B0.size)
        clear hb1
        go_wp2_with fail
        go_ret
        exact ⟨ret_bool HF.out.symm, B1⟩
end Go.Proofs.Ytiahcaihmgnicaa
