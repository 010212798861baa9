/-
  Contracts of what tells whether a gate may stand at an index, of the model and of the program. Conditions: the index is no less than 0; for the program the number is a prime.
  Contracts of CircuitValid, of the model and of the program. Conditions: what the slice holds is known.
  Contracts of the model's EvalGates. Conditions: what the slice holds is known.
  Contracts of EvalGates, of both. Conditions: what the slice holds is known.
-/
import Derived.Test.YtajabchbdhjdiaaBd3
import Derived.Test.YtajabchbdhjdiaaBa15
import Derived.Test.YtajabchbdhjdiaaBa2
import Derived.Test.YtajabchbdhjdiaaBd2
import Derived.Test.YtajabchbdhjdiaaBa17
import Derived.BigQuiet
import Derived.Deep.QuietTactic
import Derived.Deep.RegionHeld3
namespace Go.Proofs.Ytajabchbdhjdiaa
open Go.RowKit
theorem sIn_at (r : Bool) (n lo hi : Int) (h : inB n lo hi = r) (w : World) :
    Calls Try.prog 118 #[.int .i64 n, .int .i64 lo, .int .i64 hi] w fun e w' => e = .returned (.bool r) ∧ w = w' := by
  subst h; exact sIn n lo hi w
set_option maxHeartbeats 2000000 in
theorem sGate (p q : Int) (hq : IntKind.i64.wrap (p - 1) = q) (k a b i : Int) (hi0 : 0 ≤ i) (hi1 : i ≤ 1048576) (w : World) :
    Calls Try.prog 138 #[.int .i64 p, .agg #[.int .i64 k, .int .i64 a, .int .i64 b], .int .i64 i] w fun e w' => e = .returned (.bool (gOK q ⟨k, a, b⟩ i)) ∧ Below w.heap.size w w' := by
  by_cases h0 : k = 0
  · subst h0
    clear hq
    rcases Bool.eq_false_or_eq_true (inB a 0 2) with h | h
    all_goals
      have H := Lib.hid h
      clear h
      go_enter Try.func138, Try.ntmps138
      go_wp2_with (go_at_call 118; refine (sIn_at _ _ _ _ H.out _).mono ?_; rintro e w' ⟨rfl, rfl⟩)
      go_ret
      exact ⟨ret_bool (by simp [gOK, H.out]), by repeat (first | exact Below.refl _ _ | apply Below.drew | apply below_drewN | (refine Below.setCell ?_ (by simp <;> omega) _) | (refine Below.alloc ?_ (by simp <;> omega) _))⟩
  · by_cases h1 : k = 1
    · subst h1
      rcases Bool.eq_false_or_eq_true (inB a 0 q) with h | h
      all_goals
        have H := Lib.hid h
        clear h h0
        go_enter Try.func138, Try.ntmps138
        go_wp2_with (go_at_call 118; refine (sIn_at _ _ _ _ H.out _).mono ?_; rintro e w' ⟨rfl, rfl⟩)
        go_ret
        exact ⟨ret_bool (by simp [gOK, H.out]), by repeat (first | exact Below.refl _ _ | apply Below.drew | apply below_drewN | (refine Below.setCell ?_ (by simp <;> omega) _) | (refine Below.alloc ?_ (by simp <;> omega) _))⟩
    · by_cases h2 : k = 2 ∨ k = 3
      · rcases Bool.eq_false_or_eq_true (inB a 0 (i - 1)) with h | h
        · rcases Bool.eq_false_or_eq_true (inB b 0 (i - 1)) with h' | h'
          all_goals
            rcases h2 with rfl | rfl
            all_goals
              have H := Lib.hid h
              have H' := Lib.hid h'
              clear h h' h0 h1 hq
              go_enter Try.func138, Try.ntmps138
              go_wp2_with fail
              refine (sIn_at true a 0 (i - 1) H.out _).mono ?_
              rintro e w' ⟨rfl, rfl⟩
              go_wp2_with fail
              refine (sIn_at _ b 0 (i - 1) H'.out _).mono ?_
              rintro e w' ⟨rfl, rfl⟩
              go_wp2_with fail
              go_ret
              exact ⟨ret_bool (by simp [gOK, H.out, H'.out]), by repeat (first | exact Below.refl _ _ | apply Below.drew | apply below_drewN | (refine Below.setCell ?_ (by simp <;> omega) _) | (refine Below.alloc ?_ (by simp <;> omega) _))⟩
        · rcases h2 with rfl | rfl
          all_goals
            have H := Lib.hid h
            clear h h0 h1 hq
            go_enter Try.func138, Try.ntmps138
            go_wp2_with (go_at_call 118; refine (sIn_at _ _ _ _ H.out _).mono ?_; rintro e w' ⟨rfl, rfl⟩)
            go_ret
            exact ⟨ret_bool (by simp [gOK, H.out]), by repeat (first | exact Below.refl _ _ | apply Below.drew | apply below_drewN | (refine Below.setCell ?_ (by simp <;> omega) _) | (refine Below.alloc ?_ (by simp <;> omega) _))⟩
      · have h3 : (k == 0) = false := by simpa using h0
        have h4 : (k == 1) = false := by simpa using h1
        have h5 : (k == 2) = false := by simp; omega
        have h6 : (k == 3) = false := by simp; omega
        clear h0 h1 h2 hq
        go_enter Try.func138, Try.ntmps138
        go_wp2
        go_ret
        exact ⟨ret_bool (by simp [gOK, h3, h4, h5, h6]), by repeat (first | exact Below.refl _ _ | apply Below.drew | apply below_drewN | (refine Below.setCell ?_ (by simp <;> omega) _) | (refine Below.alloc ?_ (by simp <;> omega) _))⟩
theorem iUnkG (r : Bool) (a : Int) (h : inB a 0 2 = r) (w : World) :
    Calls Try.prog 159 #[.int .i64 a] w fun e w' => e = .returned (.bool r) ∧ w = w' := by
  subst h
  by_cases h0 : 0 ≤ a
  · have hb : decide (a < 3) = decide (a ≤ 2) := by by_cases h : a < 3 <;> simp <;> omega
    go_enter Try.func159, Try.ntmps159
    go_wp2
    go_ret
    exact ⟨ret_bool (by simp [inB, h0]; try omega), rfl⟩
  · go_enter Try.func159, Try.ntmps159
    go_wp2
    go_ret
    exact ⟨ret_bool (by simp [inB]; omega), rfl⟩
theorem iJoins (k a b : Int) (w : World) :
    Calls Try.prog 160 #[.agg #[.int .i64 k, .int .i64 a, .int .i64 b]] w fun e w' => e = .returned (.bool (joinsB ⟨k, a, b⟩)) ∧ Below w.heap.size w w' := by
  by_cases h0 : k = 2
  · subst h0
    go_enter Try.func160, Try.ntmps160
    go_wp2
    go_ret
    exact ⟨ret_bool (by simp [joinsB]), by repeat (first | exact Below.refl _ _ | apply Below.drew | apply below_drewN | (refine Below.setCell ?_ (by simp <;> omega) _) | (refine Below.alloc ?_ (by simp <;> omega) _))⟩
  · have h1 : (k == 2) = false := by simpa using h0
    clear h0
    go_enter Try.func160, Try.ntmps160
    go_wp2
    go_ret
    exact ⟨ret_bool (by simp [joinsB, h1]), by repeat (first | exact Below.refl _ _ | apply Below.drew | apply below_drewN | (refine Below.setCell ?_ (by simp <;> omega) _) | (refine Below.alloc ?_ (by simp <;> omega) _))⟩
theorem iJoins_is (r : Bool) (k a b : Int) (h : joinsB ⟨k, a, b⟩ = r) (w : World) :
    Calls Try.prog 160 #[.agg #[.int .i64 k, .int .i64 a, .int .i64 b]] w fun e w' => e = .returned (.bool r) ∧ Below w.heap.size w w' := by
  subst h; exact iJoins k a b w
theorem iAE1_at (r : Bool) (p a : Int) (hp : isP p = true) (h : inB a 0 (p - 1) = r) (b : Nat) (w : World) (h0 : w.cell? ⟨b, 0, none⟩ = some (.int .i64 a)) :
    Calls Try.prog 91 #[.int .i64 p, .slice (some ⟨b, 0, none⟩) 1 1] w fun e w' => e = .returned (.bool r) ∧ w = w' := by
  have := iAE1 p a b w h0
  have e : isE p a = inB a 0 (p - 1) := by
    unfold isE inB
    by_cases h1 : a < p
    · have h2 : a ≤ p - 1 := by omega
      simp [h1, h2]
    · have h2 : ¬ a ≤ p - 1 := by omega
      simp [h1, h2]
  simp only [isE1, hp, Bool.true_and, e, h] at this
  exact this
set_option maxHeartbeats 2000000 in
theorem iFits (p : Int) (hp : isP p = true) (k a b i : Int) (w : World) :
    Calls Try.prog 140 #[.agg #[.int .i64 k, .int .i64 a, .int .i64 b], .int .i64 p, .int .i64 i] w fun e w' => e = .returned (.bool (gOK (p - 1) ⟨k, a, b⟩ i)) ∧ Below w.heap.size w w' := by
  have HP := Lib.hid hp
  clear hp
  by_cases h0 : k = 0
  · subst h0
    rcases Bool.eq_false_or_eq_true (inB a 0 2) with h | h
    all_goals
      have H := Lib.hid h
      clear h
      go_enter Try.func140, Try.ntmps140
      go_wp2_with (go_at_call 159; refine (iUnkG _ _ H.out _).mono ?_; rintro e w' ⟨rfl, rfl⟩)
      go_ret
      exact ⟨ret_bool (by simp [gOK, H.out]), by repeat (first | exact Below.refl _ _ | apply Below.drew | apply below_drewN | (refine Below.setCell ?_ (by simp <;> omega) _) | (refine Below.alloc ?_ (by simp <;> omega) _))⟩
  · by_cases h1 : k = 1
    · subst h1
      rcases Bool.eq_false_or_eq_true (inB a 0 (p - 1)) with h | h
      all_goals
        have H := Lib.hid h
        clear h h0
        go_enter Try.func140, Try.ntmps140
        go_wp2_with (go_at_call 91; refine (iAE1_at _ p a HP.out H.out _ _ (by simp)).mono ?_; rintro e w1 ⟨rfl, rfl⟩)
        go_ret
        exact ⟨ret_bool (by simp [gOK, H.out]), by repeat (first | exact Below.refl _ _ | apply Below.drew | apply below_drewN | (refine Below.setCell ?_ (by simp <;> omega) _) | (refine Below.alloc ?_ (by simp <;> omega) _))⟩
    · by_cases h2 : k = 2 ∨ k = 3
      · have hj : joinsB ⟨k, a, b⟩ = true := by simp [joinsB, h2]
        have HJ := Lib.hid hj
        have h3 : (k == 0) = false := by simpa using h0
        have h4 : (k == 1) = false := by simpa using h1
        have H2 := Lib.hid h2
        clear h0 h1 hj h2
        have key : ∀ r : Bool, (r = (inB a 0 (i - 1) && inB b 0 (i - 1))) → (gOK (p - 1) ⟨k, a, b⟩ i) = r := by
          intro r hr
          rw [hr]
          unfold gOK
          rcases H2.out with rfl | rfl <;> simp
        have HK := Lib.hid key
        clear key
        have B0 : Below w.heap.size w (w.alloc (Obj.cells #[.int .i64 k, .int .i64 a, .int .i64 b] 118)) := Below.alloc (Below.refl _ _) (Nat.le_refl _) _
        by_cases h5 : 0 ≤ a
        · by_cases h6 : 0 ≤ b
          · by_cases h7 : a ≤ b
            · have h8 : min a b = a := by omega
              have h9 : max a b = b := by omega
              go_enter Try.func140, Try.ntmps140
              go_wp2_with fail
              refine (iJoins_is true k a b HJ.out _).mono ?_
              rintro e w1 ⟨rfl, hb2⟩
              have c0 := hb2.cell (p := ⟨w.heap.size, 0, none⟩) (by simp)
              have c1 := hb2.cell (p := ⟨w.heap.size, 1, none⟩) (by simp)
              have c2 := hb2.cell (p := ⟨w.heap.size, 2, none⟩) (by simp)
              simp [go_sem] at c0 c1 c2
              have B1 := B0.trans (hb2.mono B0.size)
              clear hb2
              go_wp2_with fail
              all_goals (go_ret; exact ⟨ret_bool (HK.out _ (by unfold inB; rw [Bool.eq_iff_iff]; simp; omega)).symm, B1⟩)
            · have h8 : min a b = b := by omega
              have h9 : max a b = a := by omega
              go_enter Try.func140, Try.ntmps140
              go_wp2_with fail
              refine (iJoins_is true k a b HJ.out _).mono ?_
              rintro e w1 ⟨rfl, hb2⟩
              have c0 := hb2.cell (p := ⟨w.heap.size, 0, none⟩) (by simp)
              have c1 := hb2.cell (p := ⟨w.heap.size, 1, none⟩) (by simp)
              have c2 := hb2.cell (p := ⟨w.heap.size, 2, none⟩) (by simp)
              simp [go_sem] at c0 c1 c2
              have B1 := B0.trans (hb2.mono B0.size)
              clear hb2
              go_wp2_with fail
              all_goals (go_ret; exact ⟨ret_bool (HK.out _ (by unfold inB; rw [Bool.eq_iff_iff]; simp; omega)).symm, B1⟩)
          · have h8 : min a b < 0 := by omega
            go_enter Try.func140, Try.ntmps140
            go_wp2_with fail
            refine (iJoins_is true k a b HJ.out _).mono ?_
            rintro e w1 ⟨rfl, hb2⟩
            have c0 := hb2.cell (p := ⟨w.heap.size, 0, none⟩) (by simp)
            have c1 := hb2.cell (p := ⟨w.heap.size, 1, none⟩) (by simp)
            have c2 := hb2.cell (p := ⟨w.heap.size, 2, none⟩) (by simp)
            simp [go_sem] at c0 c1 c2
            have B1 := B0.trans (hb2.mono B0.size)
            clear hb2
            go_wp2_with fail
            all_goals (go_ret; exact ⟨ret_bool (HK.out _ (by unfold inB; rw [Bool.eq_iff_iff]; simp; omega)).symm, B1⟩)
        · have h8 : min a b < 0 := by omega
          go_enter Try.func140, Try.ntmps140
          go_wp2_with fail
          refine (iJoins_is true k a b HJ.out _).mono ?_
          rintro e w1 ⟨rfl, hb2⟩
          have c0 := hb2.cell (p := ⟨w.heap.size, 0, none⟩) (by simp)
          have c1 := hb2.cell (p := ⟨w.heap.size, 1, none⟩) (by simp)
          have c2 := hb2.cell (p := ⟨w.heap.size, 2, none⟩) (by simp)
          simp [go_sem] at c0 c1 c2
          have B1 := B0.trans (hb2.mono B0.size)
          clear hb2
          go_wp2_with fail
          all_goals (go_ret; exact ⟨ret_bool (HK.out _ (by unfold inB; rw [Bool.eq_iff_iff]; simp; omega)).symm, B1⟩)
      · have hj : joinsB ⟨k, a, b⟩ = false := by simp [joinsB]; omega
        have HJ := Lib.hid hj
        have h3 : (k == 0) = false := by simpa using h0
        have h4 : (k == 1) = false := by simpa using h1
        have h5 : (k == 2) = false := by simp; omega
        have h6 : (k == 3) = false := by simp; omega
        have HF := Lib.hid (show gOK (p - 1) ⟨k, a, b⟩ i = false by simp [gOK, h3, h4, h5, h6])
        have B0 : Below w.heap.size w (w.alloc (Obj.cells #[.int .i64 k, .int .i64 a, .int .i64 b] 118)) := Below.alloc (Below.refl _ _) (Nat.le_refl _) _
        clear h0 h1 hj h2 h5 h6
        go_enter Try.func140, Try.ntmps140
        go_wp2_with (go_at_call 160; refine (iJoins_is false k a b HJ.out _).mono ?_; rintro e w1 ⟨rfl, hb1⟩)
        have B1 := B0.trans (hb1.mono B0.size)
        clear hb1
        go_wp2_with fail
        go_ret
        exact ⟨ret_bool HF.out.symm, B1⟩
end Go.Proofs.Ytajabchbdhjdiaa
namespace Go.Proofs.Ytajabchbdhjdiaa
open Go.RowKit
theorem circB_no {p q : Int} (hq : isP p = true → q = p - 1) {L : List Gt} {k : Nat} (hk : k < L.length) (h : gOK q (gAt L k) k = false) : circB p L = false := by
  cases hp : isP p
  · simp [circB, hp]
  · rw [hq hp] at h
    simp [circB, allG_no hk h]
theorem circB_all {p q : Int} (hq : isP p = true → q = p - 1) {L : List Gt} (h : ∀ j : Nat, j < L.length → gOK q (gAt L j) j = true) : circB p L = (isP p && inB (L.length : Int) 1 60) := by
  cases hp : isP p
  · simp [circB, hp]
  · rw [hq hp] at h
    have e1 : decide ((1 : Int) ≤ (L.length : Int)) = decide (1 ≤ L.length) := by by_cases h : 1 ≤ L.length <;> simp [h] <;> omega
    have e2 : decide ((L.length : Int) ≤ 60) = decide (L.length ≤ 60) := by by_cases h : L.length ≤ 60 <;> simp [h] <;> omega
    simp [circB, hp, allG_all h, inB, e1, e2]
theorem wrap_hi {p q : Int} (h : IntKind.i64.wrap (p - 1) = q) : isP p = true → q = p - 1 := by
  intro hp
  have := isP_bd hp
  rw [← h]
  exact IntWalk.i64_in _ (by omega)
theorem gOK_snoc {P : Nat → Prop} {k : Nat} (h : ∀ j : Nat, j < k → P j) (hk : P k) : ∀ j : Nat, j < k + 1 → P j := by
  intro j hj
  by_cases e : j = k
  · rw [e]; exact hk
  · exact h j (by omega)
theorem gat_mk {L : List Gt} {k : Nat} {x : Gt} (h : x = L.getD k default) : (⟨x.k, x.a, x.b⟩ : Gt) = gAt L k := by subst h; rfl
set_option maxHeartbeats 4000000 in
theorem sCirc_some (p : Int) (g off cap : Nat) (L : List Gt) (w : World) (hl : L.length ≤ 1048576) (hg : g < w.heap.size)
    (hc : ∀ j : Nat, j < L.length → GAt w g (off + j * 3) (L.getD j default)) :
    Calls Try.prog 99 #[.int .i64 p, .slice (some ⟨g, off, none⟩) L.length cap] w fun e w' => e = .returned (.bool (circB p L)) ∧ Below w.heap.size w w' := by
  have HC := Lib.hid hc
  obtain ⟨q, hq⟩ : ∃ q, IntKind.i64.wrap (p - 1) = q := ⟨_, rfl⟩
  have HQ := Lib.hid hq
  clear hc hq
  go_enter Try.func99, Try.ntmps99
  go_wp2_with fail
  go_loopw [9] (fun i wr => ∃ k : Nat, k ≤ L.length ∧ i = .int .i64 k ∧ (∀ j : Nat, j < k → gOK q (gAt L j) j = true) ∧ Below w.heap.size w wr) (fun i _ => L.length - (intOf i).toNat)
  case atStart => exact ⟨0, by omega, rfl, fun j hj => by omega, Below.refl _ _⟩
  case round =>
    obtain ⟨k, hk, rfl, hall, hb⟩ := hrel
    have Hall := Lib.hid hall
    clear hall
    by_cases hlt : k < L.length
    · have hltp : (k : Int) < (L.length : Int) := by omega
      have hk0 : (0 : Int) ≤ (k : Int) := by omega
      obtain ⟨a0, a1, a2⟩ := (HC.out k hlt).below hb hg
      obtain ⟨x, hx⟩ : ∃ x, x = L.getD k default := ⟨_, rfl⟩
      rw [← hx] at a0 a1 a2
      have Hx := Lib.hid hx
      have Hb := Lib.hid hb
      clear hx hb
      rcases Bool.eq_false_or_eq_true (gOK q ⟨x.k, x.a, x.b⟩ k) with h1 | h1
      · have H1 := Lib.hid h1
        clear h1
        go_wp2_with fail
        refine (sGate p q HQ.out x.k x.a x.b k (by omega) (by omega) _).mono ?_
        rintro e w1 ⟨he, hb1⟩
        rw [H1.out] at he
        subst he
        have HB := Lib.hid (show Below w.heap.size w w1 by
          have hs := Hb.out.size
          refine Below.trans ?_ (hb1.mono (by first | omega | (simp; omega)))
          repeat (first | exact Hb.out | apply Below.drew | apply below_drewN | (refine Below.setCell ?_ (by first | omega | (simp; omega)) _) | (refine Below.alloc ?_ (by first | omega | (simp; omega)) _)))
        clear hb1
        go_wp2_with fail
        go_roundw
        case rel => exact ⟨k + 1, by omega, by go_num, gOK_snoc Hall.out (by rw [← gat_mk Hx.out]; exact H1.out), HB.out⟩
        case measure => simp [intOf]; omega
      · have H1 := Lib.hid h1
        clear h1
        go_wp2_with fail
        refine (sGate p q HQ.out x.k x.a x.b k (by omega) (by omega) _).mono ?_
        rintro e w1 ⟨he, hb1⟩
        rw [H1.out] at he
        subst he
        have HB := Lib.hid (show Below w.heap.size w w1 by
          have hs := Hb.out.size
          refine Below.trans ?_ (hb1.mono (by first | omega | (simp; omega)))
          repeat (first | exact Hb.out | apply Below.drew | apply below_drewN | (refine Below.setCell ?_ (by first | omega | (simp; omega)) _) | (refine Below.alloc ?_ (by first | omega | (simp; omega)) _)))
        clear hb1
        go_wp2_with fail
        go_ret
        exact ⟨ret_bool (circB_no (wrap_hi HQ.out) hlt (by rw [← gat_mk Hx.out]; exact H1.out)).symm, HB.out⟩
    · have hkl : k = L.length := by omega
      subst hkl
      have HB := Lib.hid hb
      have HR := Lib.hid (circB_all (wrap_hi HQ.out) Hall.out)
      clear hb
      cases hp : isP p
      · have HP := Lib.hid hp
        clear hp
        go_wp2_with (go_at_call 113; refine (sPV_no _ _ HP.out).mono ?_; rintro e w' ⟨rfl, rfl⟩)
        go_ret
        exact ⟨ret_bool (by rw [HR.out, HP.out]; rfl), HB.out⟩
      · have HP := Lib.hid hp
        clear hp
        go_wp2_with first
          | (go_at_call 113; refine (sPV_yes _ _ HP.out).mono ?_; rintro e w' ⟨rfl, rfl⟩)
          | (go_at_call 118; refine (sIn_at _ _ _ _ rfl _).mono ?_; rintro e w' ⟨rfl, rfl⟩)
        go_ret
        exact ⟨ret_bool (by rw [HR.out, HP.out]; rfl), HB.out⟩
set_option maxHeartbeats 4000000 in
theorem sCirc_nil (p : Int) (a : Option Addr) (cap : Nat) (w : World) :
    Calls Try.prog 99 #[.int .i64 p, .slice a 0 cap] w fun e w' => e = .returned (.bool false) ∧ Below w.heap.size w w' := by
  go_enter Try.func99, Try.ntmps99
  go_wp2_with fail
  go_loop [9] (fun i => i = .int .i64 0) (fun _ => 0)
  case atStart => exact rfl
  case round =>
    subst hrel
    cases hp : isP p
    · have HP := Lib.hid hp
      clear hp
      go_wp2_with (go_at_call 113; refine (sPV_no _ _ HP.out).mono ?_; rintro e w' ⟨rfl, rfl⟩)
      go_ret
      exact ⟨rfl, Below.refl _ _⟩
    · have HP := Lib.hid hp
      clear hp
      go_wp2_with first
        | (go_at_call 113; refine (sPV_yes _ _ HP.out).mono ?_; rintro e w' ⟨rfl, rfl⟩)
        | (go_at_call 118; refine (sIn_at false _ _ _ (by decide) _).mono ?_; rintro e w' ⟨rfl, rfl⟩)
      go_ret
      exact ⟨rfl, Below.refl _ _⟩
theorem circB_nil (p : Int) : circB p [] = false := by simp [circB]
/-- the model's CircuitValid, for any number and any list of gates -/
theorem sCircuitValid (p : Int) (v : Value) (L : List Gt) (w : World) (h : Gats w v L) :
    Calls Try.prog 99 #[.int .i64 p, v] w fun e w' => e = .returned (.bool (circB p L)) ∧ Below w.heap.size w w' := by
  obtain ⟨hl, a, cap, rfl, h2⟩ := h
  rcases h2 with rfl | ⟨g, off, rfl, hg, hc⟩
  · exact (sCirc_nil p a cap w).mono fun e w' ⟨h1, h2⟩ => ⟨by rw [h1, circB_nil], h2⟩
  · exact sCirc_some p g off cap L w hl hg hc
set_option maxHeartbeats 4000000 in
theorem iCirc_some (p : Int) (hp : isP p = true) (g off cap : Nat) (L : List Gt) (w : World) (h1 : 1 ≤ L.length) (hl : L.length ≤ 60) (hg : g < w.heap.size)
    (hc : ∀ j : Nat, j < L.length → GAt w g (off + j * 3) (L.getD j default)) :
    Calls Try.prog 102 #[.int .i64 p, .slice (some ⟨g, off, none⟩) L.length cap] w fun e w' => e = .returned (.bool (circB p L)) ∧ Below w.heap.size w w' := by
  have HC := Lib.hid hc
  have HP := Lib.hid hp
  have hl0 : ((L.length : Int) == 0) = false := by simp; intro h; rw [h] at h1; simp at h1
  have hl1 : (L.length : Int) ≤ 60 := by omega
  have HL := Lib.hid h1
  clear hc hp h1
  go_enter Try.func102, Try.ntmps102
  go_wp2_with (go_at_call 90; refine (iPV_yes _ _ HP.out).mono ?_; rintro e w' ⟨rfl, rfl⟩)
  go_loopw [22] (fun i wr => ∃ k : Nat, k ≤ L.length ∧ i = .int .i64 k ∧ (∀ j : Nat, j < k → gOK (p - 1) (gAt L j) j = true) ∧ Below w.heap.size w wr) (fun i _ => L.length - (intOf i).toNat)
  case atStart => exact ⟨0, by omega, rfl, fun j hj => by omega, Below.refl _ _⟩
  case round =>
    obtain ⟨k, hk, rfl, hall, hb⟩ := hrel
    have Hall := Lib.hid hall
    clear hall
    by_cases hlt : k < L.length
    · have hltp : (k : Int) < (L.length : Int) := by omega
      have hk0 : (0 : Int) ≤ (k : Int) := by omega
      obtain ⟨a0, a1, a2⟩ := (HC.out k hlt).below hb hg
      obtain ⟨x, hx⟩ : ∃ x, x = L.getD k default := ⟨_, rfl⟩
      rw [← hx] at a0 a1 a2
      have Hx := Lib.hid hx
      have Hb := Lib.hid hb
      clear hx hb
      rcases Bool.eq_false_or_eq_true (gOK (p - 1) ⟨x.k, x.a, x.b⟩ k) with h1 | h1
      · have H1 := Lib.hid h1
        clear h1
        go_wp2_with fail
        refine (iFits p HP.out x.k x.a x.b k _).mono ?_
        rintro e w1 ⟨he, hb1⟩
        rw [H1.out] at he
        subst he
        have HB := Lib.hid (show Below w.heap.size w w1 by
          have hs := Hb.out.size
          refine Below.trans ?_ (hb1.mono (by first | omega | (simp; omega)))
          repeat (first | exact Hb.out | apply Below.drew | apply below_drewN | (refine Below.setCell ?_ (by first | omega | (simp; omega)) _) | (refine Below.alloc ?_ (by first | omega | (simp; omega)) _)))
        clear hb1
        go_wp2_with fail
        go_roundw
        case rel => exact ⟨k + 1, by omega, by go_num, gOK_snoc Hall.out (by rw [← gat_mk Hx.out]; exact H1.out), HB.out⟩
        case measure => simp [intOf]; omega
      · have H1 := Lib.hid h1
        clear h1
        go_wp2_with fail
        refine (iFits p HP.out x.k x.a x.b k _).mono ?_
        rintro e w1 ⟨he, hb1⟩
        rw [H1.out] at he
        subst he
        have HB := Lib.hid (show Below w.heap.size w w1 by
          have hs := Hb.out.size
          refine Below.trans ?_ (hb1.mono (by first | omega | (simp; omega)))
          repeat (first | exact Hb.out | apply Below.drew | apply below_drewN | (refine Below.setCell ?_ (by first | omega | (simp; omega)) _) | (refine Below.alloc ?_ (by first | omega | (simp; omega)) _)))
        clear hb1
        go_wp2_with fail
        go_ret
        exact ⟨ret_bool (circB_no (fun _ => rfl) hlt (by rw [← gat_mk Hx.out]; exact H1.out)).symm, HB.out⟩
    · have hkl : k = L.length := by omega
      subst hkl
      have HR := Lib.hid (circB_all (p := p) (fun _ => rfl) Hall.out)
      go_wp2_with fail
      go_ret
      exact ⟨ret_bool (by rw [HR.out, HP.out]; have := HL.out; simp [inB]; omega), hb⟩
set_option maxHeartbeats 2000000 in
theorem iCirc_no (p : Int) (hp : isP p = false) (v : Value) (w : World) :
    Calls Try.prog 102 #[.int .i64 p, v] w fun e w' => e = .returned (.bool false) ∧ w = w' := by
  have HP := Lib.hid hp
  clear hp
  go_enter Try.func102, Try.ntmps102
  go_wp2_with (go_at_call 90; refine (iPV_no _ _ HP.out).mono ?_; rintro e w' ⟨rfl, rfl⟩)
  go_ret
  exact ⟨rfl, rfl⟩
set_option maxHeartbeats 2000000 in
theorem iCirc_nil (p : Int) (hp : isP p = true) (a : Option Addr) (cap : Nat) (w : World) :
    Calls Try.prog 102 #[.int .i64 p, .slice a 0 cap] w fun e w' => e = .returned (.bool false) ∧ w = w' := by
  have HP := Lib.hid hp
  clear hp
  go_enter Try.func102, Try.ntmps102
  go_wp2_with (go_at_call 90; refine (iPV_yes _ _ HP.out).mono ?_; rintro e w' ⟨rfl, rfl⟩)
  go_ret
  exact ⟨rfl, rfl⟩
set_option maxHeartbeats 2000000 in
theorem iCirc_long (p : Int) (hp : isP p = true) (a : Option Addr) (n cap : Nat) (w : World) (hl : 60 < n) :
    Calls Try.prog 102 #[.int .i64 p, .slice a n cap] w fun e w' => e = .returned (.bool false) ∧ w = w' := by
  have HP := Lib.hid hp
  clear hp
  have hl0 : ((n : Int) == 0) = false := by simp; omega
  have hlp : (60 : Int) < (n : Int) := by omega
  go_enter Try.func102, Try.ntmps102
  go_wp2_with (go_at_call 90; refine (iPV_yes _ _ HP.out).mono ?_; rintro e w' ⟨rfl, rfl⟩)
  go_ret
  exact ⟨rfl, rfl⟩
theorem circB_long {p : Int} {L : List Gt} (h : 60 < L.length) : circB p L = false := by
  have : decide (L.length ≤ 60) = false := by simp; omega
  simp [circB, this]
/-- the program's CircuitValid, for any number and any list of gates -/
theorem iCircuitValid (p : Int) (v : Value) (L : List Gt) (w : World) (h : Gats w v L) :
    Calls Try.prog 102 #[.int .i64 p, v] w fun e w' => e = .returned (.bool (circB p L)) ∧ Below w.heap.size w w' := by
  cases hp : isP p
  · exact (iCirc_no p hp v w).mono fun e w' ⟨h1, h2⟩ => ⟨by rw [h1]; simp [circB, hp], h2 ▸ Below.refl _ _⟩
  · obtain ⟨hl, a, cap, rfl, h2⟩ := h
    by_cases h0 : L.length = 0
    · have : L = [] := List.length_eq_zero_iff.1 h0
      subst this
      exact (iCirc_nil p hp a cap w).mono fun e w' ⟨h1, h2⟩ => ⟨by rw [h1, circB_nil], h2 ▸ Below.refl _ _⟩
    · by_cases h60 : L.length ≤ 60
      · rcases h2 with rfl | ⟨g, off, rfl, hg, hc⟩
        · simp at h0
        · exact iCirc_some p hp g off cap L w (by omega) h60 hg hc
      · exact (iCirc_long p hp a L.length cap w (by omega)).mono fun e w' ⟨h1, h2⟩ => ⟨by rw [h1, circB_long (by omega)], h2 ▸ Below.refl _ _⟩
end Go.Proofs.Ytajabchbdhjdiaa
namespace Go.Proofs.Ytajabchbdhjdiaa
open Go.RowKit
def coord (x y z a : Int) : Int := if a == 0 then x else if a == 1 then y else z
/-- the values of the gates below k -/
def evL (p x y z : Int) (L : List Gt) : Nat → List Int
  | 0 => []
  | k + 1 => evL p x y z L k ++ [let g := gAt L k
      if g.k == 0 then coord x y z g.a
      else if g.k == 2 then ((evL p x y z L k).getD g.a.toNat 0 + (evL p x y z L k).getD g.b.toNat 0) % p
      else if g.k == 3 then ((evL p x y z L k).getD g.a.toNat 0 * (evL p x y z L k).getD g.b.toNat 0) % p
      else g.a]
theorem evL_len (p x y z : Int) (L : List Gt) : ∀ k, (evL p x y z L k).length = k
  | 0 => rfl
  | k + 1 => by simp [evL, evL_len p x y z L k]
theorem isE3_iff {p x y z : Int} : isE3 p x y z = true ↔ (0 ≤ x ∧ x < p) ∧ (0 ≤ y ∧ y < p) ∧ (0 ≤ z ∧ z < p) := by simp [isE3, isE]
theorem evL_bd {p x y z : Int} {L : List Gt} (hv : circB p L = true) (he : isE3 p x y z = true) : ∀ k : Nat, k ≤ L.length → ∀ j : Nat, j < k → 0 ≤ (evL p x y z L k).getD j 0 ∧ (evL p x y z L k).getD j 0 < p
  | 0, _, j, h => by omega
  | k + 1, hk, j, hj => by
    have ih := evL_bd hv he k (by omega)
    obtain ⟨hp, _, _, hall⟩ := circB_iff.1 hv
    obtain ⟨p0, p1⟩ := isP_bd hp
    obtain ⟨hx, hy, hz⟩ := isE3_iff.1 he
    have hl := evL_len p x y z L k
    simp only [evL, List.getD_eq_getElem?_getD] at ih ⊢
    by_cases hjk : j < k
    · rw [List.getElem?_append_left (by omega)]
      exact ih j hjk
    · have : j = k := by omega
      subst this
      rw [List.getElem?_append_right (by omega), hl, Nat.sub_self]
      simp only [List.getElem?_cons_zero, Option.getD_some]
      have h := gOK_cases (hall j (by omega))
      generalize gAt L j = g at h
      obtain ⟨gk, ga, gb⟩ := g
      simp only at h ⊢
      split
      · unfold coord; split
        · exact hx
        · split
          · exact hy
          · exact hz
      · split
        · exact ⟨Int.emod_nonneg _ (by omega), Int.emod_lt_of_pos _ (by omega)⟩
        · split
          · exact ⟨Int.emod_nonneg _ (by omega), Int.emod_lt_of_pos _ (by omega)⟩
          · rename_i h0 h2 h3; simp at h0 h2 h3; omega
/-- what EvalGates returns -/
def evV2 (p x y z : Int) (L : List Gt) : List Int := if circB p L && isE3 p x y z then evL p x y z L L.length else []
/-- the values fit the gate -/
theorem evL_step {p x y z : Int} {L : List Gt} {k : Nat} {g : Gt} (hg : gAt L k = g) {v : Int}
    (h : (if g.k == 0 then coord x y z g.a else if g.k == 2 then ((evL p x y z L k).getD g.a.toNat 0 + (evL p x y z L k).getD g.b.toNat 0) % p
      else if g.k == 3 then ((evL p x y z L k).getD g.a.toNat 0 * (evL p x y z L k).getD g.b.toNat 0) % p else g.a) = v) : evL p x y z L (k + 1) = evL p x y z L k ++ [v] := by
  simp only [evL, hg, h]
set_option maxRecDepth 100000 in
set_option maxHeartbeats 4000000 in
theorem sEval_some (p x y z : Int) (L : List Gt) (hv : circB p L = true) (he : isE3 p x y z = true) (g off cap : Nat) (w : World) (hg : g < w.heap.size)
    (hc : ∀ j : Nat, j < L.length → GAt w g (off + j * 3) (L.getD j default)) :
    Calls Try.prog 139 #[.int .i64 p, .slice (some ⟨g, off, none⟩) L.length cap, .agg #[.int .i64 x, .int .i64 y, .int .i64 z]] w fun e w' => ∃ v, e = .returned v ∧ OwnInts w' w.heap.size v (evL p x y z L L.length) ∧ Below w.heap.size w w' := by
  obtain ⟨i0, hi, hz0, hz1, hz2⟩ := info_parts infoInt
  obtain ⟨hp, hl1, hl2, hall⟩ := circB_iff.1 hv
  obtain ⟨p0, p1⟩ := isP_bd hp
  obtain ⟨⟨x0, x1⟩, ⟨y0, y1⟩, ⟨z0, z1⟩⟩ := isE3_iff.1 he
  have HC := Lib.hid hc
  have HA := Lib.hid hall
  have HBD := Lib.hid (evL_bd hv he)
  obtain ⟨W, hW⟩ : ∃ W, W = (w.alloc (Obj.cells #[.int .i64 x, .int .i64 y, .int .i64 z] 48)).alloc (.cells #[] 3) := ⟨_, rfl⟩
  have hPt : PtAt W w.heap.size x y z := by rw [hW]; refine ⟨?_, ?_, ?_⟩ <;> simp [go_sem]
  have B0 : Below w.heap.size w W := by rw [hW]; exact (by repeat (first | exact Below.refl _ _ | apply Below.drew | apply below_drewN | (refine Below.alloc ?_ (by first | omega | (simp <;> omega)) _)))
  have hsW : w.heap.size < W.heap.size := by rw [hW]; simp; omega
  have R0 : RowI W (w.heap.size + 1) (.slice (some ⟨w.heap.size + 1, 0, none⟩) 0 0) [] := by
    rw [hW]
    have := RowI.lit0 (w.alloc (Obj.cells #[.int .i64 x, .int .i64 y, .int .i64 z] 48)) (w.heap.size + 1) (by simp)
    simpa using this
  have HW := Lib.hid hW
  have hpn : ¬ p = 0 := by omega
  have hpb : (p == 0) = false := by simp; omega
  clear hc hv hall hp hW he
  go_enter Try.func139, Try.ntmps139
  go_wp2_with fail
  rw [← HW.out]
  clear HW
  go_loopw [7, 14] (fun v i wr => ∃ k : Nat, k ≤ L.length ∧ i = .int .i64 k ∧ RowI wr (w.heap.size + 1) v (evL p x y z L k) ∧ PtAt wr w.heap.size x y z ∧ Below w.heap.size w wr ∧ w.heap.size < wr.heap.size) (fun _ i _ => L.length - (intOf i).toNat)
  case atStart => exact ⟨0, by omega, rfl, R0, hPt, B0, hsW⟩
  case round =>
    clear R0 hPt B0 hsW
    obtain ⟨k, hk, rfl, hR, hP, hb, hsz⟩ := hrel
    by_cases hlt : k < L.length
    · have hltp : (k : Int) < (L.length : Int) := by omega
      have hk0 : (0 : Int) ≤ (k : Int) := by omega
      obtain ⟨a0, a1, a2⟩ := (HC.out k hlt).below hb hg
      have hx0 := HA.out k hlt
      obtain ⟨x', hx⟩ : ∃ x, x = L.getD k default := ⟨_, rfl⟩
      rw [← hx] at a0 a1 a2
      rw [← gat_mk hx] at hx0
      have hcs := gOK_cases hx0
      simp only at hcs
      have HGA := Lib.hid (gat_mk hx).symm
      have HW := Lib.hid hR
      have Hb := Lib.hid hb
      have HP := Lib.hid hP
      have hs := hb.size
      have hs1 : w.heap.size + 1 ≤ wr.heap.size := hsz
      have hlen : (evL p x y z L k).length = k := evL_len p x y z L k
      obtain ⟨xk, xa, xb⟩ := x'
      simp only at a0 a1 a2 hcs HGA
      by_cases hk0' : xk = 0
      · subst hk0'
        have hxa : xa = 0 ∨ xa = 1 ∨ xa = 2 := by omega
        rcases hxa with rfl | rfl | rfl
        · have HE := Lib.hid (evL_step (p := p) (x := x) (y := y) (z := z) HGA.out (v := x) (by simp [coord]))
          obtain ⟨q0, q1, q2⟩ := hP
          clear hx hR hb hx0 hcs
          go_wp2_with (at_builtin; refine wpList_append_own _ rfl _ _ 24 rfl (w.heap.size + 1) 3 i0 (.int .i64 0) 1 8 Try.underlying24 hi hz0 hz1 hz2 rfl (by decide) _ _ _ rfl (RowI.below HW.out (by repeat (first | exact Below.refl _ _ | apply Below.drew | apply below_drewN | (refine Below.alloc ?_ (by first | omega | (simp <;> omega)) _)))) _ 1 1 [.int .i64 (x)] rfl rfl (by intro j u hj; match j, hj with | 0, hj => (simp at hj; subst hj; simp [Addr.add, go_sem])) (one_ok _) (by unfold maxLen; omega) (by omega) (by first | omega | (simp; omega)) ?_)
          intro v' w3 hown' hgrow _
          have hR2 := RowI.snoc (L := evL p x y z L k) (by rw [hlen]; exact hown')
          have bb := HW.out.grow (Below.refl (w.heap.size + 1) wr) hs1 (by repeat (first | exact Below.refl _ _ | apply Below.drew | apply below_drewN | (refine Below.alloc ?_ (by first | omega | (simp <;> omega)) _))) hgrow
          have hP2 := HP.out.below bb (by omega)
          have hb2 := Hb.out.trans (bb.mono (by omega))
          have hs2 : w.heap.size < w3.heap.size := by have := bb.size; omega
          rw [← HE.out] at hR2
          clear hown' hgrow bb
          go_wp2_with fail
          go_roundw
          case rel => exact ⟨k + 1, by omega, by go_num, hR2, hP2, hb2, hs2⟩
          case measure => simp [intOf]; omega
        · have HE := Lib.hid (evL_step (p := p) (x := x) (y := y) (z := z) HGA.out (v := y) (by simp [coord]))
          obtain ⟨q0, q1, q2⟩ := hP
          clear hx hR hb hx0 hcs
          go_wp2_with (at_builtin; refine wpList_append_own _ rfl _ _ 24 rfl (w.heap.size + 1) 3 i0 (.int .i64 0) 1 8 Try.underlying24 hi hz0 hz1 hz2 rfl (by decide) _ _ _ rfl (RowI.below HW.out (by repeat (first | exact Below.refl _ _ | apply Below.drew | apply below_drewN | (refine Below.alloc ?_ (by first | omega | (simp <;> omega)) _)))) _ 1 1 [.int .i64 (y)] rfl rfl (by intro j u hj; match j, hj with | 0, hj => (simp at hj; subst hj; simp [Addr.add, go_sem])) (one_ok _) (by unfold maxLen; omega) (by omega) (by first | omega | (simp; omega)) ?_)
          intro v' w3 hown' hgrow _
          have hR2 := RowI.snoc (L := evL p x y z L k) (by rw [hlen]; exact hown')
          have bb := HW.out.grow (Below.refl (w.heap.size + 1) wr) hs1 (by repeat (first | exact Below.refl _ _ | apply Below.drew | apply below_drewN | (refine Below.alloc ?_ (by first | omega | (simp <;> omega)) _))) hgrow
          have hP2 := HP.out.below bb (by omega)
          have hb2 := Hb.out.trans (bb.mono (by omega))
          have hs2 : w.heap.size < w3.heap.size := by have := bb.size; omega
          rw [← HE.out] at hR2
          clear hown' hgrow bb
          go_wp2_with fail
          go_roundw
          case rel => exact ⟨k + 1, by omega, by go_num, hR2, hP2, hb2, hs2⟩
          case measure => simp [intOf]; omega
        · have HE := Lib.hid (evL_step (p := p) (x := x) (y := y) (z := z) HGA.out (v := z) (by simp [coord]))
          obtain ⟨q0, q1, q2⟩ := hP
          clear hx hR hb hx0 hcs
          go_wp2_with (at_builtin; refine wpList_append_own _ rfl _ _ 24 rfl (w.heap.size + 1) 3 i0 (.int .i64 0) 1 8 Try.underlying24 hi hz0 hz1 hz2 rfl (by decide) _ _ _ rfl (RowI.below HW.out (by repeat (first | exact Below.refl _ _ | apply Below.drew | apply below_drewN | (refine Below.alloc ?_ (by first | omega | (simp <;> omega)) _)))) _ 1 1 [.int .i64 (z)] rfl rfl (by intro j u hj; match j, hj with | 0, hj => (simp at hj; subst hj; simp [Addr.add, go_sem])) (one_ok _) (by unfold maxLen; omega) (by omega) (by first | omega | (simp; omega)) ?_)
          intro v' w3 hown' hgrow _
          have hR2 := RowI.snoc (L := evL p x y z L k) (by rw [hlen]; exact hown')
          have bb := HW.out.grow (Below.refl (w.heap.size + 1) wr) hs1 (by repeat (first | exact Below.refl _ _ | apply Below.drew | apply below_drewN | (refine Below.alloc ?_ (by first | omega | (simp <;> omega)) _))) hgrow
          have hP2 := HP.out.below bb (by omega)
          have hb2 := Hb.out.trans (bb.mono (by omega))
          have hs2 : w.heap.size < w3.heap.size := by have := bb.size; omega
          rw [← HE.out] at hR2
          clear hown' hgrow bb
          go_wp2_with fail
          go_roundw
          case rel => exact ⟨k + 1, by omega, by go_num, hR2, hP2, hb2, hs2⟩
          case measure => simp [intOf]; omega
      by_cases hk2 : xk = 2
      · subst hk2
        obtain ⟨ja, rfl⟩ := Int.eq_ofNat_of_zero_le (show 0 ≤ xa by omega)
        obtain ⟨jb, rfl⟩ := Int.eq_ofNat_of_zero_le (show 0 ≤ xb by omega)
        have hja : ja < k := by omega
        have hjb : jb < k := by omega
        obtain ⟨da, hda⟩ : ∃ d, d = (evL p x y z L k).getD ja 0 := ⟨_, rfl⟩
        obtain ⟨db, hdb⟩ : ∃ d, d = (evL p x y z L k).getD jb 0 := ⟨_, rfl⟩
        obtain ⟨b1, b2⟩ := HBD.out k hk ja hja
        obtain ⟨b3, b4⟩ := HBD.out k hk jb hjb
        rw [← hda] at b1 b2
        rw [← hdb] at b3 b4
        have hbd : 0 ≤ da + db ∧ da + db ≤ 169 := ⟨by omega, by omega⟩
        obtain ⟨m, hm⟩ : ∃ m, (da + db) % p = m := ⟨_, rfl⟩
        have hm0 : 0 ≤ m ∧ m < p := by rw [← hm]; exact ⟨Int.emod_nonneg _ (by omega), Int.emod_lt_of_pos _ (by omega)⟩
        have HE := Lib.hid (evL_step (p := p) (x := x) (y := y) (z := z) HGA.out (v := m) (by simp [← hm, hda, hdb]))
        have hw1 : IntKind.i64.wrap (da + db) = da + db := IntWalk.i64_in _ (by omega)
        have htm : (da + db).tmod p = m := by rw [Int.tmod_eq_emod_of_nonneg hbd.1]; exact hm
        have hwm : IntKind.i64.wrap m = m := IntWalk.i64_in _ (by omega)
        rcases hR.shape' hlen with ⟨_, h0⟩ | ⟨g2, cap2, rfl, hg0, hg2, hn2, hm2, hcell⟩
        · omega
        have d0 := hcell ja (by omega)
        have d1 := hcell jb (by omega)
        rw [← hda] at d0
        rw [← hdb] at d1
        clear hx hR hb hx0 hcs hcell hda hdb hm hP
        go_wp2_with fail
        go_quiet (fail)
        go_wp2_with (at_builtin; refine wpList_append_own _ rfl _ _ 24 rfl (w.heap.size + 1) 3 i0 (.int .i64 0) 1 8 Try.underlying24 hi hz0 hz1 hz2 rfl (by decide) _ _ _ rfl (RowI.below HW.out (by repeat (first | exact Below.refl _ _ | apply Below.drew | apply below_drewN | (refine Below.alloc ?_ (by first | omega | (simp <;> omega)) _)))) _ 1 1 [.int .i64 (m)] rfl rfl (by intro j u hj; match j, hj with | 0, hj => (simp at hj; subst hj; simp [Addr.add, go_sem])) (one_ok _) (by unfold maxLen; omega) (by omega) (by first | omega | (simp; omega)) ?_)
        intro v' w3 hown' hgrow _
        have hR2 := RowI.snoc (L := evL p x y z L k) (by rw [hlen]; exact hown')
        have bb := HW.out.grow (Below.refl (w.heap.size + 1) wr) hs1 (by repeat (first | exact Below.refl _ _ | apply Below.drew | apply below_drewN | (refine Below.alloc ?_ (by first | omega | (simp <;> omega)) _))) hgrow
        have hP2 := HP.out.below bb (by omega)
        have hb2 := Hb.out.trans (bb.mono (by omega))
        have hs2 : w.heap.size < w3.heap.size := by have := bb.size; omega
        rw [← HE.out] at hR2
        clear hown' hgrow bb
        go_wp2_with fail
        go_roundw
        case rel => exact ⟨k + 1, by omega, by go_num, hR2, hP2, hb2, hs2⟩
        case measure => simp [intOf]; omega
      by_cases hk3 : xk = 3
      · subst hk3
        obtain ⟨ja, rfl⟩ := Int.eq_ofNat_of_zero_le (show 0 ≤ xa by omega)
        obtain ⟨jb, rfl⟩ := Int.eq_ofNat_of_zero_le (show 0 ≤ xb by omega)
        have hja : ja < k := by omega
        have hjb : jb < k := by omega
        obtain ⟨da, hda⟩ : ∃ d, d = (evL p x y z L k).getD ja 0 := ⟨_, rfl⟩
        obtain ⟨db, hdb⟩ : ∃ d, d = (evL p x y z L k).getD jb 0 := ⟨_, rfl⟩
        obtain ⟨b1, b2⟩ := HBD.out k hk ja hja
        obtain ⟨b3, b4⟩ := HBD.out k hk jb hjb
        rw [← hda] at b1 b2
        rw [← hdb] at b3 b4
        have hbd : 0 ≤ da * db ∧ da * db ≤ 169 := ⟨Int.mul_nonneg b1 b3, by
          have h1 : da * db ≤ 13 * 13 := Int.mul_le_mul (by omega) (by omega) b3 (by omega)
          omega⟩
        obtain ⟨m, hm⟩ : ∃ m, (da * db) % p = m := ⟨_, rfl⟩
        have hm0 : 0 ≤ m ∧ m < p := by rw [← hm]; exact ⟨Int.emod_nonneg _ (by omega), Int.emod_lt_of_pos _ (by omega)⟩
        have HE := Lib.hid (evL_step (p := p) (x := x) (y := y) (z := z) HGA.out (v := m) (by simp [← hm, hda, hdb]))
        have hw1 : IntKind.i64.wrap (da * db) = da * db := IntWalk.i64_in _ (by omega)
        have htm : (da * db).tmod p = m := by rw [Int.tmod_eq_emod_of_nonneg hbd.1]; exact hm
        have hwm : IntKind.i64.wrap m = m := IntWalk.i64_in _ (by omega)
        rcases hR.shape' hlen with ⟨_, h0⟩ | ⟨g2, cap2, rfl, hg0, hg2, hn2, hm2, hcell⟩
        · omega
        have d0 := hcell ja (by omega)
        have d1 := hcell jb (by omega)
        rw [← hda] at d0
        rw [← hdb] at d1
        clear hx hR hb hx0 hcs hcell hda hdb hm hP
        go_wp2_with fail
        go_quiet (fail)
        go_wp2_with (at_builtin; refine wpList_append_own _ rfl _ _ 24 rfl (w.heap.size + 1) 3 i0 (.int .i64 0) 1 8 Try.underlying24 hi hz0 hz1 hz2 rfl (by decide) _ _ _ rfl (RowI.below HW.out (by repeat (first | exact Below.refl _ _ | apply Below.drew | apply below_drewN | (refine Below.alloc ?_ (by first | omega | (simp <;> omega)) _)))) _ 1 1 [.int .i64 (m)] rfl rfl (by intro j u hj; match j, hj with | 0, hj => (simp at hj; subst hj; simp [Addr.add, go_sem])) (one_ok _) (by unfold maxLen; omega) (by omega) (by first | omega | (simp; omega)) ?_)
        intro v' w3 hown' hgrow _
        have hR2 := RowI.snoc (L := evL p x y z L k) (by rw [hlen]; exact hown')
        have bb := HW.out.grow (Below.refl (w.heap.size + 1) wr) hs1 (by repeat (first | exact Below.refl _ _ | apply Below.drew | apply below_drewN | (refine Below.alloc ?_ (by first | omega | (simp <;> omega)) _))) hgrow
        have hP2 := HP.out.below bb (by omega)
        have hb2 := Hb.out.trans (bb.mono (by omega))
        have hs2 : w.heap.size < w3.heap.size := by have := bb.size; omega
        rw [← HE.out] at hR2
        clear hown' hgrow bb
        go_wp2_with fail
        go_roundw
        case rel => exact ⟨k + 1, by omega, by go_num, hR2, hP2, hb2, hs2⟩
        case measure => simp [intOf]; omega
      have hk1' : xk = 1 := by omega
      subst hk1'
      have HE := Lib.hid (evL_step (p := p) (x := x) (y := y) (z := z) HGA.out (v := xa) (by simp))
      clear hx hR hb hx0 hcs hP
      go_wp2_with (at_builtin; refine wpList_append_own _ rfl _ _ 24 rfl (w.heap.size + 1) 3 i0 (.int .i64 0) 1 8 Try.underlying24 hi hz0 hz1 hz2 rfl (by decide) _ _ _ rfl (RowI.below HW.out (by repeat (first | exact Below.refl _ _ | apply Below.drew | apply below_drewN | (refine Below.alloc ?_ (by first | omega | (simp <;> omega)) _)))) _ 1 1 [.int .i64 (xa)] rfl rfl (by intro j u hj; match j, hj with | 0, hj => (simp at hj; subst hj; simp [Addr.add, go_sem])) (one_ok _) (by unfold maxLen; omega) (by omega) (by first | omega | (simp; omega)) ?_)
      intro v' w3 hown' hgrow _
      have hR2 := RowI.snoc (L := evL p x y z L k) (by rw [hlen]; exact hown')
      have bb := HW.out.grow (Below.refl (w.heap.size + 1) wr) hs1 (by repeat (first | exact Below.refl _ _ | apply Below.drew | apply below_drewN | (refine Below.alloc ?_ (by first | omega | (simp <;> omega)) _))) hgrow
      have hP2 := HP.out.below bb (by omega)
      have hb2 := Hb.out.trans (bb.mono (by omega))
      have hs2 : w.heap.size < w3.heap.size := by have := bb.size; omega
      rw [← HE.out] at hR2
      clear hown' hgrow bb
      go_wp2_with fail
      go_roundw
      case rel => exact ⟨k + 1, by omega, by go_num, hR2, hP2, hb2, hs2⟩
      case measure => simp [intOf]; omega
    · have hkl : k = L.length := by omega
      subst hkl
      have hlen := evL_len p x y z L L.length
      go_wp2_with fail
      go_ret
      exact ⟨_, rfl, ownI_base (hR.own (by omega)) (by omega), hb⟩
end Go.Proofs.Ytajabchbdhjdiaa
namespace Go.Proofs.Ytajabchbdhjdiaa
open Go.RowKit
theorem addV_at {p a c : Int} (hp : isP p = true) (a0 : 0 ≤ a) (a1 : a < p) (c0 : 0 ≤ c) (c1 : c < p) : addV p a c = (a + c) % p := by
  have : isE2 p a c = true := isE2_iff.2 ⟨hp, ⟨a0, a1⟩, ⟨c0, c1⟩⟩
  simp [addV, this]
theorem mulV_at {p a c : Int} (hp : isP p = true) (a0 : 0 ≤ a) (a1 : a < p) (c0 : 0 ≤ c) (c1 : c < p) : mulV p a c = (a * c) % p := by
  have : isE2 p a c = true := isE2_iff.2 ⟨hp, ⟨a0, a1⟩, ⟨c0, c1⟩⟩
  simp [mulV, this]
theorem keepVal {W w1 : World} {t g ja jb : Nat} {a b da db : Value} (hb : Below W.heap.size W w1) (hg : g < W.heap.size) (ht : t < W.heap.size)
    (h : W.cell? ⟨t, 1, none⟩ = some a ∧ W.cell? ⟨t, 2, none⟩ = some b ∧ W.cell? ⟨g, ja, none⟩ = some da ∧ W.cell? ⟨g, jb, none⟩ = some db) :
    w1.cell? ⟨t, 1, none⟩ = some a ∧ w1.cell? ⟨t, 2, none⟩ = some b ∧ w1.cell? ⟨g, ja, none⟩ = some da ∧ w1.cell? ⟨g, jb, none⟩ = some db := by
  refine ⟨?_, ?_, ?_, ?_⟩
  · rw [hb.cell (p := ⟨t, 1, none⟩) ht]; exact h.1
  · rw [hb.cell (p := ⟨t, 2, none⟩) ht]; exact h.2.1
  · rw [hb.cell (p := ⟨g, ja, none⟩) hg]; exact h.2.2.1
  · rw [hb.cell (p := ⟨g, jb, none⟩) hg]; exact h.2.2.2
theorem gats_slice {p : Int} {w : World} {v : Value} {L : List Gt} (h : Gats w v L) (hv : circB p L = true) :
    ∃ g off cap, v = .slice (some ⟨g, off, none⟩) L.length cap ∧ g < w.heap.size ∧ ∀ j : Nat, j < L.length → GAt w g (off + j * 3) (L.getD j default) := by
  obtain ⟨_, a, cap, rfl, h2⟩ := h
  rcases h2 with rfl | ⟨g, off, rfl, hg, hc⟩
  · have := (circB_iff.1 hv).2.1; simp at this
  · exact ⟨g, off, cap, rfl, hg, hc⟩
theorem RowI.mono {w : World} {B B' : Nat} {v : Value} {L : List Int} (h : RowI w B v L) (hb : B' ≤ B) : RowI w B' v L := by
  refine ⟨h.1, ?_⟩
  rcases h.2 with h | ⟨g, cap, cur, hv, hg, r⟩
  · exact .inl h
  · exact .inr ⟨g, cap, cur, hv, by omega, r⟩
theorem iVal0 (p x y z xa xb : Int) (hxa : xa = 0 ∨ xa = 1 ∨ xa = 2) (a : Option Addr) (n cap : Nat) (w : World) :
    Calls Try.prog 161 #[.agg #[.int .i64 0, .int .i64 xa, .int .i64 xb], .int .i64 p, .agg #[.int .i64 x, .int .i64 y, .int .i64 z], .slice a n cap] w fun e w' => e = .returned (.int .i64 (coord x y z xa)) ∧ Below w.heap.size w w' := by
  rcases hxa with rfl | rfl | rfl
  all_goals
    go_enter Try.func161, Try.ntmps161
    go_wp2
    go_ret
    exact ⟨by simp [coord], (by repeat (first | exact Below.refl _ _ | apply Below.drew | apply below_drewN | (refine Below.alloc ?_ (by first | omega | (simp <;> omega)) _)))⟩
theorem iVal1 (p x y z xa xb : Int) (a : Option Addr) (n cap : Nat) (w : World) :
    Calls Try.prog 161 #[.agg #[.int .i64 1, .int .i64 xa, .int .i64 xb], .int .i64 p, .agg #[.int .i64 x, .int .i64 y, .int .i64 z], .slice a n cap] w fun e w' => e = .returned (.int .i64 xa) ∧ Below w.heap.size w w' := by
  go_enter Try.func161, Try.ntmps161
  go_wp2
  go_ret
  exact ⟨rfl, (by repeat (first | exact Below.refl _ _ | apply Below.drew | apply below_drewN | (refine Below.alloc ?_ (by first | omega | (simp <;> omega)) _)))⟩
set_option maxRecDepth 100000 in
set_option maxHeartbeats 4000000 in
theorem iVal2 (p x y z : Int) (hp : isP p = true) (ja jb n : Nat) (hja : ja < n) (hjb : jb < n) (hn : n ≤ 8000) (g cap : Nat) (da db : Int) (b1 : 0 ≤ da ∧ da < p) (b2 : 0 ≤ db ∧ db < p) (w : World) (hg : g < w.heap.size)
    (h0 : w.cell? ⟨g, ja, none⟩ = some (.int .i64 da)) (h1 : w.cell? ⟨g, jb, none⟩ = some (.int .i64 db)) :
    Calls Try.prog 161 #[.agg #[.int .i64 2, .int .i64 ja, .int .i64 jb], .int .i64 p, .agg #[.int .i64 x, .int .i64 y, .int .i64 z], .slice (some ⟨g, 0, none⟩) n cap] w fun e w' => e = .returned (.int .i64 ((da + db) % p)) ∧ Below w.heap.size w w' := by
  have HE := Lib.hid (addV_at hp b1.1 b1.2 b2.1 b2.2)
  obtain ⟨r, hr⟩ : ∃ r, addV p da db = r := ⟨_, rfl⟩
  rw [hr] at HE
  rw [← HE.out]
  obtain ⟨W, hW⟩ : ∃ W, W = (w.alloc (Obj.cells #[.int .i64 2, .int .i64 ja, .int .i64 jb] 118)).alloc (Obj.cells #[.int .i64 x, .int .i64 y, .int .i64 z] 48) := ⟨_, rfl⟩
  have bW : Below w.heap.size w W := by rw [hW]; exact (by repeat (first | exact Below.refl _ _ | apply Below.drew | apply below_drewN | (refine Below.alloc ?_ (by first | omega | (simp <;> omega)) _)))
  have c1 : W.cell? ⟨w.heap.size, 1, none⟩ = some (.int .i64 ja) := by rw [hW]; simp [go_sem]
  have c2 : W.cell? ⟨w.heap.size, 2, none⟩ = some (.int .i64 jb) := by rw [hW]; simp [go_sem]
  have ht : w.heap.size < W.heap.size := by rw [hW]; simp; omega
  have d0 := bW.cell (p := ⟨g, ja, none⟩) hg
  have d1 := bW.cell (p := ⟨g, jb, none⟩) hg
  rw [h0] at d0
  rw [h1] at d1
  have hg2 : g < W.heap.size := by omega
  have ja0 : (0 : Int) ≤ ja := by omega
  have jb0 : (0 : Int) ≤ jb := by omega
  have jan : (ja : Int) < (n : Int) := by omega
  have jbn : (jb : Int) < (n : Int) := by omega
  have hn0 : (n : Int) ≤ 8000 := by omega
  have HR := Lib.hid hr
  have HW := Lib.hid hW
  have HB := Lib.hid bW
  clear hr hW bW hp h0 h1 b1 b2
  go_enter Try.func161, Try.ntmps161
  go_wp2_with fail
  rw [← HW.out]
  clear HW
  go_region_held3 (fun w' => w'.cell? ⟨w.heap.size, 1, none⟩ = some (.int .i64 ja) ∧ w'.cell? ⟨w.heap.size, 2, none⟩ = some (.int .i64 jb) ∧ w'.cell? ⟨g, ja, none⟩ = some (.int .i64 da) ∧ w'.cell? ⟨g, jb, none⟩ = some (.int .i64 db)) (first | exact keepVal hb1 (by simpa using hg2) (by simpa using ht) (by assumption) | go_keep)
    (first | (go_at_call 92; refine (iAdd p da db _).mono ?_; rintro e w1 ⟨he, hb1⟩; rw [HR.out] at he; subst he))
  all_goals
    have B1 : Below w.heap.size w w1 := HB.out.trans (((Below.drew (Below.refl _ _) : Below W.heap.size W W.drew).trans (by simpa using hb1)).mono (by omega))
    go_wp2_with fail
    go_ret
    exact ⟨rfl, B1⟩
set_option maxRecDepth 100000 in
set_option maxHeartbeats 4000000 in
theorem iVal3 (p x y z : Int) (hp : isP p = true) (ja jb n : Nat) (hja : ja < n) (hjb : jb < n) (hn : n ≤ 8000) (g cap : Nat) (da db : Int) (b1 : 0 ≤ da ∧ da < p) (b2 : 0 ≤ db ∧ db < p) (w : World) (hg : g < w.heap.size)
    (h0 : w.cell? ⟨g, ja, none⟩ = some (.int .i64 da)) (h1 : w.cell? ⟨g, jb, none⟩ = some (.int .i64 db)) :
    Calls Try.prog 161 #[.agg #[.int .i64 3, .int .i64 ja, .int .i64 jb], .int .i64 p, .agg #[.int .i64 x, .int .i64 y, .int .i64 z], .slice (some ⟨g, 0, none⟩) n cap] w fun e w' => e = .returned (.int .i64 ((da * db) % p)) ∧ Below w.heap.size w w' := by
  have HE := Lib.hid (mulV_at hp b1.1 b1.2 b2.1 b2.2)
  obtain ⟨r, hr⟩ : ∃ r, mulV p da db = r := ⟨_, rfl⟩
  rw [hr] at HE
  rw [← HE.out]
  obtain ⟨W, hW⟩ : ∃ W, W = (w.alloc (Obj.cells #[.int .i64 3, .int .i64 ja, .int .i64 jb] 118)).alloc (Obj.cells #[.int .i64 x, .int .i64 y, .int .i64 z] 48) := ⟨_, rfl⟩
  have bW : Below w.heap.size w W := by rw [hW]; exact (by repeat (first | exact Below.refl _ _ | apply Below.drew | apply below_drewN | (refine Below.alloc ?_ (by first | omega | (simp <;> omega)) _)))
  have c1 : W.cell? ⟨w.heap.size, 1, none⟩ = some (.int .i64 ja) := by rw [hW]; simp [go_sem]
  have c2 : W.cell? ⟨w.heap.size, 2, none⟩ = some (.int .i64 jb) := by rw [hW]; simp [go_sem]
  have ht : w.heap.size < W.heap.size := by rw [hW]; simp; omega
  have d0 := bW.cell (p := ⟨g, ja, none⟩) hg
  have d1 := bW.cell (p := ⟨g, jb, none⟩) hg
  rw [h0] at d0
  rw [h1] at d1
  have hg2 : g < W.heap.size := by omega
  have ja0 : (0 : Int) ≤ ja := by omega
  have jb0 : (0 : Int) ≤ jb := by omega
  have jan : (ja : Int) < (n : Int) := by omega
  have jbn : (jb : Int) < (n : Int) := by omega
  have hn0 : (n : Int) ≤ 8000 := by omega
  have HR := Lib.hid hr
  have HW := Lib.hid hW
  have HB := Lib.hid bW
  clear hr hW bW hp h0 h1 b1 b2
  go_enter Try.func161, Try.ntmps161
  go_wp2_with fail
  rw [← HW.out]
  clear HW
  go_region_held3 (fun w' => w'.cell? ⟨w.heap.size, 1, none⟩ = some (.int .i64 ja) ∧ w'.cell? ⟨w.heap.size, 2, none⟩ = some (.int .i64 jb) ∧ w'.cell? ⟨g, ja, none⟩ = some (.int .i64 da) ∧ w'.cell? ⟨g, jb, none⟩ = some (.int .i64 db)) (first | exact keepVal hb1 (by simpa using hg2) (by simpa using ht) (by assumption) | go_keep)
    (first | (go_at_call 135; refine (iMul p da db _).mono ?_; rintro e w1 ⟨he, hb1⟩; rw [HR.out] at he; subst he))
  all_goals
    have B1 : Below w.heap.size w w1 := HB.out.trans (((Below.drew (Below.refl _ _) : Below W.heap.size W W.drew).trans (by simpa using hb1)).mono (by omega))
    go_wp2_with fail
    go_ret
    exact ⟨rfl, B1⟩
set_option maxRecDepth 100000 in
set_option maxHeartbeats 8000000 in
theorem iEval_row (p x y z : Int) (L : List Gt) (hv : circB p L = true) (he : isE3 p x y z = true) (g off cap : Nat) (w : World) (hg : g < w.heap.size)
    (hc : ∀ j : Nat, j < L.length → GAt w g (off + j * 3) (L.getD j default)) :
    Calls Try.prog 141 #[.int .i64 p, .slice (some ⟨g, off, none⟩) L.length cap, .agg #[.int .i64 x, .int .i64 y, .int .i64 z]] w fun e w' => ∃ v, e = .returned v ∧ RowI w' w.heap.size v (evL p x y z L L.length) ∧ Below w.heap.size w w' := by
  obtain ⟨i0, hi, hz0, hz1, hz2⟩ := info_parts infoInt
  obtain ⟨hp, hl1, hl2, hall⟩ := circB_iff.1 hv
  have HC := Lib.hid hc
  have HV := Lib.hid hv
  have HE3 := Lib.hid he
  have HP0 := Lib.hid hp
  have HA := Lib.hid hall
  have HBD := Lib.hid (evL_bd hv he)
  obtain ⟨W, hW⟩ : ∃ W, W = w.alloc (Obj.cells #[.int .i64 x, .int .i64 y, .int .i64 z] 48) := ⟨_, rfl⟩
  have hPt : PtAt W w.heap.size x y z := by rw [hW]; refine ⟨?_, ?_, ?_⟩ <;> simp [go_sem]
  have B0 : Below w.heap.size w W := by rw [hW]; exact (by repeat (first | exact Below.refl _ _ | apply Below.drew | apply below_drewN | (refine Below.alloc ?_ (by first | omega | (simp <;> omega)) _)))
  have hsW : w.heap.size < W.heap.size := by rw [hW]; simp
  have HG := Lib.hid (Gats.below (⟨by omega, _, _, rfl, .inr ⟨g, off, rfl, hg, hc⟩⟩ : Gats w (.slice (some ⟨g, off, none⟩) L.length cap) L) B0)
  have HW := Lib.hid hW
  clear hc hv hall hp hW he
  go_enter Try.func141, Try.ntmps141
  go_wp2_with fail
  rw [← HW.out]
  clear HW
  refine (iCircuitValid p _ L _ HG.out).mono ?_
  rintro e w1 ⟨he, hb1⟩
  rw [HV.out] at he
  subst he
  have P1 := hPt.below hb1 hsW
  have B1 := B0.trans (hb1.mono B0.size)
  have hs1 : w.heap.size < w1.heap.size := by have := hb1.size; omega
  clear hb1 hPt B0
  go_wp2_with fail
  refine (iAE3 true p x y z HP0.out HE3.out _ _ P1).mono ?_
  rintro e w2 ⟨rfl, rfl⟩
  have R0 := RowI.nil w1 (w.heap.size + 1)
  go_wp2_with fail
  go_loopw [7, 22] (fun v i wr => ∃ k : Nat, k ≤ L.length ∧ i = .int .i64 k ∧ RowI wr (w.heap.size + 1) v (evL p x y z L k) ∧ PtAt wr w.heap.size x y z ∧ Below w.heap.size w wr ∧ w.heap.size < wr.heap.size) (fun _ i _ => L.length - (intOf i).toNat)
  case atStart => exact ⟨0, by omega, rfl, R0, P1, B1, hs1⟩
  case round =>
    clear R0 P1 B1 hs1 hsW
    obtain ⟨k, hk, rfl, hR, hP, hb, hsz⟩ := hrel
    by_cases hlt : k < L.length
    · have hltp : (k : Int) < (L.length : Int) := by omega
      have hk0 : (0 : Int) ≤ (k : Int) := by omega
      obtain ⟨a0, a1, a2⟩ := (HC.out k hlt).below hb hg
      have hx0 := HA.out k hlt
      obtain ⟨x', hx⟩ : ∃ x, x = L.getD k default := ⟨_, rfl⟩
      rw [← hx] at a0 a1 a2
      rw [← gat_mk hx] at hx0
      have hcs := gOK_cases hx0
      simp only at hcs
      have HGA := Lib.hid (gat_mk hx).symm
      have HW := Lib.hid hR
      have Hb := Lib.hid hb
      have HP := Lib.hid hP
      have hs := hb.size
      have hlen : (evL p x y z L k).length = k := evL_len p x y z L k
      obtain ⟨xk, xa, xb⟩ := x'
      simp only at a0 a1 a2 hcs HGA
      by_cases hk0' : xk = 0
      · subst hk0'
        have hxa : xa = 0 ∨ xa = 1 ∨ xa = 2 := by omega
        have HE := Lib.hid (evL_step (p := p) (x := x) (y := y) (z := z) HGA.out (v := coord x y z xa) (by simp))
        obtain ⟨av, cv, rfl⟩ := hR.form hlen
        have HVal := Lib.hid (fun w' => iVal0 p x y z xa xb hxa av k cv w')
        obtain ⟨m, hm⟩ : ∃ m, coord x y z xa = m := ⟨_, rfl⟩
        rw [hm] at HE HVal
        clear hx hR hb hx0 hcs hm hxa
        obtain ⟨q0, q1, q2⟩ := hP
        go_wp2_with fail
        refine (HVal.out _).mono ?_
        rintro e w5 ⟨rfl, hb5⟩
        have B5 : Below wr.heap.size wr w5 := ((by repeat (first | exact Below.refl _ _ | apply Below.drew | apply below_drewN | (refine Below.alloc ?_ (by first | omega | (simp <;> omega)) _))) : Below wr.heap.size wr (wr.alloc (Obj.cells #[.int .i64 0, .int .i64 xa, .int .i64 xb] 118))).trans (hb5.mono (by simp))
        have HR5 := Lib.hid (HW.out.below B5)
        have HP5 := Lib.hid (HP.out.below B5 hsz)
        have HB5 := Lib.hid (Hb.out.trans (B5.mono hs))
        have hs5 := B5.size
        have hs6 : w.heap.size + 1 ≤ w5.heap.size := by omega
        clear hb5 B5
        go_wp2_with (at_builtin; refine wpList_append_own _ rfl _ _ 24 rfl (w.heap.size + 1) 3 i0 (.int .i64 0) 1 8 Try.underlying24 hi hz0 hz1 hz2 rfl (by decide) _ _ _ rfl (RowI.below HR5.out (by repeat (first | exact Below.refl _ _ | apply Below.drew | apply below_drewN | (refine Below.alloc ?_ (by first | omega | (simp <;> omega)) _)))) _ 1 1 [.int .i64 (m)] rfl rfl (by intro j u hj; match j, hj with | 0, hj => (simp at hj; subst hj; simp [Addr.add, go_sem])) (one_ok _) (by unfold maxLen; omega) (by omega) (by first | omega | (simp; omega)) ?_)
        intro v' w6 hown' hgrow _
        have hR2 := RowI.snoc (L := evL p x y z L k) (by rw [hlen]; exact hown')
        have bb := HR5.out.grow (Below.refl (w.heap.size + 1) w5) hs6 (by repeat (first | exact Below.refl _ _ | apply Below.drew | apply below_drewN | (refine Below.alloc ?_ (by first | omega | (simp <;> omega)) _))) hgrow
        have hP2 := HP5.out.below bb (by omega)
        have hb2 := HB5.out.trans (bb.mono (by omega))
        have hs2 : w.heap.size < w6.heap.size := by have := bb.size; omega
        rw [← HE.out] at hR2
        clear hown' hgrow bb
        go_wp2_with fail
        go_roundw
        case rel => exact ⟨k + 1, by omega, by go_num, hR2, hP2, hb2, hs2⟩
        case measure => simp [intOf]; omega
      by_cases hk2 : xk = 2
      · subst hk2
        obtain ⟨ja, rfl⟩ := Int.eq_ofNat_of_zero_le (show 0 ≤ xa by omega)
        obtain ⟨jb, rfl⟩ := Int.eq_ofNat_of_zero_le (show 0 ≤ xb by omega)
        have hja : ja < k := by omega
        have hjb : jb < k := by omega
        obtain ⟨da, hda⟩ : ∃ d, d = (evL p x y z L k).getD ja 0 := ⟨_, rfl⟩
        obtain ⟨db, hdb⟩ : ∃ d, d = (evL p x y z L k).getD jb 0 := ⟨_, rfl⟩
        have b1 := HBD.out k hk ja hja
        have b2 := HBD.out k hk jb hjb
        rw [← hda] at b1
        rw [← hdb] at b2
        have HE := Lib.hid (evL_step (p := p) (x := x) (y := y) (z := z) HGA.out (v := (da + db) % p) (by simp [hda, hdb]))
        rcases hR.shape' hlen with ⟨_, h0⟩ | ⟨g2, cap2, rfl, hg0, hg2, hn2, hm2, hcell⟩
        · omega
        have d0 := hcell ja (by omega)
        have d1 := hcell jb (by omega)
        rw [← hda] at d0
        rw [← hdb] at d1
        have HVal := Lib.hid (fun w' (h : Below wr.heap.size wr w') => iVal2 p x y z HP0.out ja jb k hja hjb (by omega) g2 cap2 da db b1 b2 w' (by have := h.size; omega) (by rw [h.cell (p := ⟨g2, ja, none⟩) hg2]; exact d0) (by rw [h.cell (p := ⟨g2, jb, none⟩) hg2]; exact d1))
        obtain ⟨m, hm⟩ : ∃ m, (da + db) % p = m := ⟨_, rfl⟩
        rw [hm] at HE HVal
        clear hx hR hb hx0 hcs hcell hda hdb hm b1 b2 d0 d1
        obtain ⟨q0, q1, q2⟩ := hP
        go_wp2_with fail
        refine (HVal.out _ (by repeat (first | exact Below.refl _ _ | apply Below.drew | apply below_drewN | (refine Below.alloc ?_ (by first | omega | (simp <;> omega)) _)))).mono ?_
        rintro e w5 ⟨rfl, hb5⟩
        have B5 : Below wr.heap.size wr w5 := ((by repeat (first | exact Below.refl _ _ | apply Below.drew | apply below_drewN | (refine Below.alloc ?_ (by first | omega | (simp <;> omega)) _))) : Below wr.heap.size wr (wr.alloc (Obj.cells #[.int .i64 2, .int .i64 ja, .int .i64 jb] 118))).trans (hb5.mono (by simp))
        have HR5 := Lib.hid (HW.out.below B5)
        have HP5 := Lib.hid (HP.out.below B5 hsz)
        have HB5 := Lib.hid (Hb.out.trans (B5.mono hs))
        have hs5 := B5.size
        have hs6 : w.heap.size + 1 ≤ w5.heap.size := by omega
        clear hb5 B5
        go_wp2_with (at_builtin; refine wpList_append_own _ rfl _ _ 24 rfl (w.heap.size + 1) 3 i0 (.int .i64 0) 1 8 Try.underlying24 hi hz0 hz1 hz2 rfl (by decide) _ _ _ rfl (RowI.below HR5.out (by repeat (first | exact Below.refl _ _ | apply Below.drew | apply below_drewN | (refine Below.alloc ?_ (by first | omega | (simp <;> omega)) _)))) _ 1 1 [.int .i64 (m)] rfl rfl (by intro j u hj; match j, hj with | 0, hj => (simp at hj; subst hj; simp [Addr.add, go_sem])) (one_ok _) (by unfold maxLen; omega) (by omega) (by first | omega | (simp; omega)) ?_)
        intro v' w6 hown' hgrow _
        have hR2 := RowI.snoc (L := evL p x y z L k) (by rw [hlen]; exact hown')
        have bb := HR5.out.grow (Below.refl (w.heap.size + 1) w5) hs6 (by repeat (first | exact Below.refl _ _ | apply Below.drew | apply below_drewN | (refine Below.alloc ?_ (by first | omega | (simp <;> omega)) _))) hgrow
        have hP2 := HP5.out.below bb (by omega)
        have hb2 := HB5.out.trans (bb.mono (by omega))
        have hs2 : w.heap.size < w6.heap.size := by have := bb.size; omega
        rw [← HE.out] at hR2
        clear hown' hgrow bb
        go_wp2_with fail
        go_roundw
        case rel => exact ⟨k + 1, by omega, by go_num, hR2, hP2, hb2, hs2⟩
        case measure => simp [intOf]; omega
      by_cases hk3 : xk = 3
      · subst hk3
        obtain ⟨ja, rfl⟩ := Int.eq_ofNat_of_zero_le (show 0 ≤ xa by omega)
        obtain ⟨jb, rfl⟩ := Int.eq_ofNat_of_zero_le (show 0 ≤ xb by omega)
        have hja : ja < k := by omega
        have hjb : jb < k := by omega
        obtain ⟨da, hda⟩ : ∃ d, d = (evL p x y z L k).getD ja 0 := ⟨_, rfl⟩
        obtain ⟨db, hdb⟩ : ∃ d, d = (evL p x y z L k).getD jb 0 := ⟨_, rfl⟩
        have b1 := HBD.out k hk ja hja
        have b2 := HBD.out k hk jb hjb
        rw [← hda] at b1
        rw [← hdb] at b2
        have HE := Lib.hid (evL_step (p := p) (x := x) (y := y) (z := z) HGA.out (v := (da * db) % p) (by simp [hda, hdb]))
        rcases hR.shape' hlen with ⟨_, h0⟩ | ⟨g2, cap2, rfl, hg0, hg2, hn2, hm2, hcell⟩
        · omega
        have d0 := hcell ja (by omega)
        have d1 := hcell jb (by omega)
        rw [← hda] at d0
        rw [← hdb] at d1
        have HVal := Lib.hid (fun w' (h : Below wr.heap.size wr w') => iVal3 p x y z HP0.out ja jb k hja hjb (by omega) g2 cap2 da db b1 b2 w' (by have := h.size; omega) (by rw [h.cell (p := ⟨g2, ja, none⟩) hg2]; exact d0) (by rw [h.cell (p := ⟨g2, jb, none⟩) hg2]; exact d1))
        obtain ⟨m, hm⟩ : ∃ m, (da * db) % p = m := ⟨_, rfl⟩
        rw [hm] at HE HVal
        clear hx hR hb hx0 hcs hcell hda hdb hm b1 b2 d0 d1
        obtain ⟨q0, q1, q2⟩ := hP
        go_wp2_with fail
        refine (HVal.out _ (by repeat (first | exact Below.refl _ _ | apply Below.drew | apply below_drewN | (refine Below.alloc ?_ (by first | omega | (simp <;> omega)) _)))).mono ?_
        rintro e w5 ⟨rfl, hb5⟩
        have B5 : Below wr.heap.size wr w5 := ((by repeat (first | exact Below.refl _ _ | apply Below.drew | apply below_drewN | (refine Below.alloc ?_ (by first | omega | (simp <;> omega)) _))) : Below wr.heap.size wr (wr.alloc (Obj.cells #[.int .i64 3, .int .i64 ja, .int .i64 jb] 118))).trans (hb5.mono (by simp))
        have HR5 := Lib.hid (HW.out.below B5)
        have HP5 := Lib.hid (HP.out.below B5 hsz)
        have HB5 := Lib.hid (Hb.out.trans (B5.mono hs))
        have hs5 := B5.size
        have hs6 : w.heap.size + 1 ≤ w5.heap.size := by omega
        clear hb5 B5
        go_wp2_with (at_builtin; refine wpList_append_own _ rfl _ _ 24 rfl (w.heap.size + 1) 3 i0 (.int .i64 0) 1 8 Try.underlying24 hi hz0 hz1 hz2 rfl (by decide) _ _ _ rfl (RowI.below HR5.out (by repeat (first | exact Below.refl _ _ | apply Below.drew | apply below_drewN | (refine Below.alloc ?_ (by first | omega | (simp <;> omega)) _)))) _ 1 1 [.int .i64 (m)] rfl rfl (by intro j u hj; match j, hj with | 0, hj => (simp at hj; subst hj; simp [Addr.add, go_sem])) (one_ok _) (by unfold maxLen; omega) (by omega) (by first | omega | (simp; omega)) ?_)
        intro v' w6 hown' hgrow _
        have hR2 := RowI.snoc (L := evL p x y z L k) (by rw [hlen]; exact hown')
        have bb := HR5.out.grow (Below.refl (w.heap.size + 1) w5) hs6 (by repeat (first | exact Below.refl _ _ | apply Below.drew | apply below_drewN | (refine Below.alloc ?_ (by first | omega | (simp <;> omega)) _))) hgrow
        have hP2 := HP5.out.below bb (by omega)
        have hb2 := HB5.out.trans (bb.mono (by omega))
        have hs2 : w.heap.size < w6.heap.size := by have := bb.size; omega
        rw [← HE.out] at hR2
        clear hown' hgrow bb
        go_wp2_with fail
        go_roundw
        case rel => exact ⟨k + 1, by omega, by go_num, hR2, hP2, hb2, hs2⟩
        case measure => simp [intOf]; omega
      have hk1' : xk = 1 := by omega
      subst hk1'
      have HE := Lib.hid (evL_step (p := p) (x := x) (y := y) (z := z) HGA.out (v := xa) (by simp))
      obtain ⟨av, cv, rfl⟩ := hR.form hlen
      have HVal := Lib.hid (fun w' => iVal1 p x y z xa xb av k cv w')
      clear hx hR hb hx0 hcs
      obtain ⟨q0, q1, q2⟩ := hP
      go_wp2_with fail
      refine (HVal.out _).mono ?_
      rintro e w5 ⟨rfl, hb5⟩
      have B5 : Below wr.heap.size wr w5 := ((by repeat (first | exact Below.refl _ _ | apply Below.drew | apply below_drewN | (refine Below.alloc ?_ (by first | omega | (simp <;> omega)) _))) : Below wr.heap.size wr (wr.alloc (Obj.cells #[.int .i64 1, .int .i64 xa, .int .i64 xb] 118))).trans (hb5.mono (by simp))
      have HR5 := Lib.hid (HW.out.below B5)
      have HP5 := Lib.hid (HP.out.below B5 hsz)
      have HB5 := Lib.hid (Hb.out.trans (B5.mono hs))
      have hs5 := B5.size
      have hs6 : w.heap.size + 1 ≤ w5.heap.size := by omega
      clear hb5 B5
      go_wp2_with (at_builtin; refine wpList_append_own _ rfl _ _ 24 rfl (w.heap.size + 1) 3 i0 (.int .i64 0) 1 8 Try.underlying24 hi hz0 hz1 hz2 rfl (by decide) _ _ _ rfl (RowI.below HR5.out (by repeat (first | exact Below.refl _ _ | apply Below.drew | apply below_drewN | (refine Below.alloc ?_ (by first | omega | (simp <;> omega)) _)))) _ 1 1 [.int .i64 (xa)] rfl rfl (by intro j u hj; match j, hj with | 0, hj => (simp at hj; subst hj; simp [Addr.add, go_sem])) (one_ok _) (by unfold maxLen; omega) (by omega) (by first | omega | (simp; omega)) ?_)
      intro v' w6 hown' hgrow _
      have hR2 := RowI.snoc (L := evL p x y z L k) (by rw [hlen]; exact hown')
      have bb := HR5.out.grow (Below.refl (w.heap.size + 1) w5) hs6 (by repeat (first | exact Below.refl _ _ | apply Below.drew | apply below_drewN | (refine Below.alloc ?_ (by first | omega | (simp <;> omega)) _))) hgrow
      have hP2 := HP5.out.below bb (by omega)
      have hb2 := HB5.out.trans (bb.mono (by omega))
      have hs2 : w.heap.size < w6.heap.size := by have := bb.size; omega
      rw [← HE.out] at hR2
      clear hown' hgrow bb
      go_wp2_with fail
      go_roundw
      case rel => exact ⟨k + 1, by omega, by go_num, hR2, hP2, hb2, hs2⟩
      case measure => simp [intOf]; omega
    · have hkl : k = L.length := by omega
      subst hkl
      have hlen := evL_len p x y z L L.length
      go_wp2_with fail
      go_ret
      exact ⟨_, rfl, hR.mono (by omega), hb⟩
theorem iEval_some (p x y z : Int) (L : List Gt) (hv : circB p L = true) (he : isE3 p x y z = true) (g off cap : Nat) (w : World) (hg : g < w.heap.size)
    (hc : ∀ j : Nat, j < L.length → GAt w g (off + j * 3) (L.getD j default)) :
    Calls Try.prog 141 #[.int .i64 p, .slice (some ⟨g, off, none⟩) L.length cap, .agg #[.int .i64 x, .int .i64 y, .int .i64 z]] w fun e w' => ∃ v, e = .returned v ∧ OwnInts w' w.heap.size v (evL p x y z L L.length) ∧ Below w.heap.size w w' := by
  refine (iEval_row p x y z L hv he g off cap w hg hc).mono ?_
  rintro e w' ⟨v, rfl, hR, hb⟩
  have hl := (circB_iff.1 hv).2.2.1
  exact ⟨v, rfl, hR.own (by rw [evL_len]; omega), hb⟩
set_option maxRecDepth 100000 in
set_option maxHeartbeats 4000000 in
theorem iEvalGates (p x y z : Int) (f : Value) (L : List Gt) (w : World) (h : Gats w f L) :
    Calls Try.prog 141 #[.int .i64 p, f, .agg #[.int .i64 x, .int .i64 y, .int .i64 z]] w fun e w' => ∃ v, e = .returned v ∧ OwnInts w' w.heap.size v (evV2 p x y z L) ∧ Below w.heap.size w w' := by
  obtain ⟨W, hW⟩ : ∃ W, W = w.alloc (Obj.cells #[.int .i64 x, .int .i64 y, .int .i64 z] 48) := ⟨_, rfl⟩
  have hPt : PtAt W w.heap.size x y z := by rw [hW]; refine ⟨?_, ?_, ?_⟩ <;> simp [go_sem]
  have B0 : Below w.heap.size w W := by rw [hW]; exact (by repeat (first | exact Below.refl _ _ | apply Below.drew | apply below_drewN | (refine Below.alloc ?_ (by first | omega | (simp <;> omega)) _)))
  have hsW : w.heap.size < W.heap.size := by rw [hW]; simp
  have HG := Lib.hid (h.below B0)
  have HW := Lib.hid hW
  clear hW
  cases hv : circB p L
  · have e1 : evV2 p x y z L = [] := by simp [evV2, hv]
    rw [e1]
    have HV := Lib.hid hv
    obtain ⟨nL, a, cap, rfl, _⟩ := h
    clear hv e1
    go_enter Try.func141, Try.ntmps141
    go_wp2_with fail
    rw [← HW.out]
    clear HW
    refine (iCircuitValid p _ L _ HG.out).mono ?_
    rintro e w1 ⟨he, hb1⟩
    rw [HV.out] at he
    subst he
    have B1 := B0.trans (hb1.mono B0.size)
    clear hb1
    go_wp2_with fail
    go_ret
    exact ⟨_, rfl, (RowI.nil w1 w.heap.size).own (by simp), B1⟩
  · have hp := (circB_iff.1 hv).1
    have HV := Lib.hid hv
    have HP := Lib.hid hp
    cases he3 : isE3 p x y z
    · have e1 : evV2 p x y z L = [] := by simp [evV2, he3]
      rw [e1]
      have HE := Lib.hid he3
      obtain ⟨nL, a, cap, rfl, _⟩ := h
      clear hv e1 he3 hp
      go_enter Try.func141, Try.ntmps141
      go_wp2_with fail
      rw [← HW.out]
      clear HW
      refine (iCircuitValid p _ L _ HG.out).mono ?_
      rintro e w1 ⟨he, hb1⟩
      rw [HV.out] at he
      subst he
      have B1 := B0.trans (hb1.mono B0.size)
      have P1 := hPt.below hb1 hsW
      clear hb1
      go_wp2_with fail
      refine (iAE3 false p x y z HP.out HE.out _ _ P1).mono ?_
      rintro e w2 ⟨rfl, rfl⟩
      go_wp2_with fail
      go_ret
      exact ⟨_, rfl, (RowI.nil w1 w.heap.size).own (by simp), B1⟩
    · have e1 : evV2 p x y z L = evL p x y z L L.length := by simp [evV2, hv, he3]
      rw [e1]
      obtain ⟨g, off, cap, rfl, hg, hc⟩ := gats_slice h hv
      exact iEval_some p x y z L hv he3 g off cap w hg hc
end Go.Proofs.Ytajabchbdhjdiaa
