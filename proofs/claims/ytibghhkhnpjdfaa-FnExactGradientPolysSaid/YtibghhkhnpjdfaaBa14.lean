/-
  Contracts of what tells whether a gate may stand at an index, of the model and of the program. Conditions: the index is no less than 0; for the program the number is a prime.
  Contracts of CircuitValid, of the model and of the program. Conditions: what the slice holds is known.
  Contracts of the model's l3Moved and JoinCircuits. Conditions: what the slices hold is known.
  Contracts of DepthOf, of the model and of the program. Conditions: what the slice holds is known.
  Contracts of the model's FormalDegree. Conditions: what the slice holds is known.
  Contracts of the program's DepthOf and FormalDegree. Conditions: what the slice holds is known.
-/
import Derived.Test.YtibghhkhnpjdfaaBa11
import Derived.Test.YtibghhkhnpjdfaaBa13
import Derived.Test.YtibghhkhnpjdfaaBa2
import Derived.Test.YtibghhkhnpjdfaaBa10
import Derived.BigQuiet
import Derived.Deep.QuietTactic
import Derived.Deep.RegionHeld3
namespace Go.Proofs.Ytibghhkhnpjdfaa
open Go.RowKit
theorem sIn_at (r : Bool) (n lo hi : Int) (h : inB n lo hi = r) (w : World) :
    Calls Try.prog 94 #[.int .i64 n, .int .i64 lo, .int .i64 hi] w fun e w' => e = .returned (.bool r) ∧ w = w' := by
  subst h; exact sIn n lo hi w
set_option maxHeartbeats 2000000 in
theorem sGate (p q : Int) (hq : IntKind.i64.wrap (p - 1) = q) (k a b i : Int) (hi0 : 0 ≤ i) (hi1 : i ≤ 1048576) (w : World) :
    Calls Try.prog 172 #[.int .i64 p, .agg #[.int .i64 k, .int .i64 a, .int .i64 b], .int .i64 i] w fun e w' => e = .returned (.bool (gOK q ⟨k, a, b⟩ i)) ∧ Below w.heap.size w w' := by
  by_cases h0 : k = 0
  · subst h0
    clear hq
    rcases Bool.eq_false_or_eq_true (inB a 0 2) with h | h
    all_goals
      have H := Lib.hid h
      clear h
      go_enter Try.func172, Try.ntmps172
      go_wp2_with (go_at_call 94; refine (sIn_at _ _ _ _ H.out _).mono ?_; rintro e w' ⟨rfl, rfl⟩)
      go_ret
      exact ⟨ret_bool (by simp [gOK, H.out]), by repeat (first | exact Below.refl _ _ | apply Below.drew | apply below_drewN | (refine Below.setCell ?_ (by simp <;> omega) _) | (refine Below.alloc ?_ (by simp <;> omega) _))⟩
  · by_cases h1 : k = 1
    · subst h1
      rcases Bool.eq_false_or_eq_true (inB a 0 q) with h | h
      all_goals
        have H := Lib.hid h
        clear h h0
        go_enter Try.func172, Try.ntmps172
        go_wp2_with (go_at_call 94; refine (sIn_at _ _ _ _ H.out _).mono ?_; rintro e w' ⟨rfl, rfl⟩)
        go_ret
        exact ⟨ret_bool (by simp [gOK, H.out]), by repeat (first | exact Below.refl _ _ | apply Below.drew | apply below_drewN | (refine Below.setCell ?_ (by simp <;> omega) _) | (refine Below.alloc ?_ (by simp <;> omega) _))⟩
    · by_cases h2 : k = 2 ∨ k = 3
      · rcases Bool.eq_false_or_eq_true (inB a 0 (i - 1)) with h | h
        · rcases Bool.eq_false_or_eq_true (inB b 0 (i - 1)) with h' | h'
          all_goals
            rcases h2 with rfl | rfl
            all_goals
              have H := Lib.hid h
              have H' := Lib.hid h'
              clear h h' h0 h1 hq
              go_enter Try.func172, Try.ntmps172
              go_wp2_with fail
              refine (sIn_at true a 0 (i - 1) H.out _).mono ?_
              rintro e w' ⟨rfl, rfl⟩
              go_wp2_with fail
              refine (sIn_at _ b 0 (i - 1) H'.out _).mono ?_
              rintro e w' ⟨rfl, rfl⟩
              go_wp2_with fail
              go_ret
              exact ⟨ret_bool (by simp [gOK, H.out, H'.out]), by repeat (first | exact Below.refl _ _ | apply Below.drew | apply below_drewN | (refine Below.setCell ?_ (by simp <;> omega) _) | (refine Below.alloc ?_ (by simp <;> omega) _))⟩
        · rcases h2 with rfl | rfl
          all_goals
            have H := Lib.hid h
            clear h h0 h1 hq
            go_enter Try.func172, Try.ntmps172
            go_wp2_with (go_at_call 94; refine (sIn_at _ _ _ _ H.out _).mono ?_; rintro e w' ⟨rfl, rfl⟩)
            go_ret
            exact ⟨ret_bool (by simp [gOK, H.out]), by repeat (first | exact Below.refl _ _ | apply Below.drew | apply below_drewN | (refine Below.setCell ?_ (by simp <;> omega) _) | (refine Below.alloc ?_ (by simp <;> omega) _))⟩
      · have h3 : (k == 0) = false := by simpa using h0
        have h4 : (k == 1) = false := by simpa using h1
        have h5 : (k == 2) = false := by simp; omega
        have h6 : (k == 3) = false := by simp; omega
        clear h0 h1 h2 hq
        go_enter Try.func172, Try.ntmps172
        go_wp2
        go_ret
        exact ⟨ret_bool (by simp [gOK, h3, h4, h5, h6]), by repeat (first | exact Below.refl _ _ | apply Below.drew | apply below_drewN | (refine Below.setCell ?_ (by simp <;> omega) _) | (refine Below.alloc ?_ (by simp <;> omega) _))⟩
theorem iUnkG (r : Bool) (a : Int) (h : inB a 0 2 = r) (w : World) :
    Calls Try.prog 136 #[.int .i64 a] w fun e w' => e = .returned (.bool r) ∧ w = w' := by
  subst h
  by_cases h0 : 0 ≤ a
  · have hb : decide (a < 3) = decide (a ≤ 2) := by by_cases h : a < 3 <;> simp <;> omega
    go_enter Try.func136, Try.ntmps136
    go_wp2
    go_ret
    exact ⟨ret_bool (by simp [inB, h0]; try omega), rfl⟩
  · go_enter Try.func136, Try.ntmps136
    go_wp2
    go_ret
    exact ⟨ret_bool (by simp [inB]; omega), rfl⟩
theorem iJoins (k a b : Int) (w : World) :
    Calls Try.prog 165 #[.agg #[.int .i64 k, .int .i64 a, .int .i64 b]] w fun e w' => e = .returned (.bool (joinsB ⟨k, a, b⟩)) ∧ Below w.heap.size w w' := by
  by_cases h0 : k = 2
  · subst h0
    go_enter Try.func165, Try.ntmps165
    go_wp2
    go_ret
    exact ⟨ret_bool (by simp [joinsB]), by repeat (first | exact Below.refl _ _ | apply Below.drew | apply below_drewN | (refine Below.setCell ?_ (by simp <;> omega) _) | (refine Below.alloc ?_ (by simp <;> omega) _))⟩
  · have h1 : (k == 2) = false := by simpa using h0
    clear h0
    go_enter Try.func165, Try.ntmps165
    go_wp2
    go_ret
    exact ⟨ret_bool (by simp [joinsB, h1]), by repeat (first | exact Below.refl _ _ | apply Below.drew | apply below_drewN | (refine Below.setCell ?_ (by simp <;> omega) _) | (refine Below.alloc ?_ (by simp <;> omega) _))⟩
theorem iJoins_is (r : Bool) (k a b : Int) (h : joinsB ⟨k, a, b⟩ = r) (w : World) :
    Calls Try.prog 165 #[.agg #[.int .i64 k, .int .i64 a, .int .i64 b]] w fun e w' => e = .returned (.bool r) ∧ Below w.heap.size w w' := by
  subst h; exact iJoins k a b w
theorem iAE1_at (r : Bool) (p a : Int) (hp : isP p = true) (h : inB a 0 (p - 1) = r) (b : Nat) (w : World) (h0 : w.cell? ⟨b, 0, none⟩ = some (.int .i64 a)) :
    Calls Try.prog 102 #[.int .i64 p, .slice (some ⟨b, 0, none⟩) 1 1] w fun e w' => e = .returned (.bool r) ∧ w = w' := by
  have := iAE1 p a b w h0
  have e : isE p a = inB a 0 (p - 1) := by
    unfold isE inB
    by_cases h1 : a < p
    · have h2 : a ≤ p - 1 := by omega
      simp [h1, h2]
    · have h2 : ¬ a ≤ p - 1 := by omega
      simp [h1, h2]
  simp only [isE1, hp, Bool.true_and, e, h] at this
  exact this
set_option maxHeartbeats 2000000 in
theorem iFits (p : Int) (hp : isP p = true) (k a b i : Int) (w : World) :
    Calls Try.prog 178 #[.agg #[.int .i64 k, .int .i64 a, .int .i64 b], .int .i64 p, .int .i64 i] w fun e w' => e = .returned (.bool (gOK (p - 1) ⟨k, a, b⟩ i)) ∧ Below w.heap.size w w' := by
  have HP := Lib.hid hp
  clear hp
  by_cases h0 : k = 0
  · subst h0
    rcases Bool.eq_false_or_eq_true (inB a 0 2) with h | h
    all_goals
      have H := Lib.hid h
      clear h
      go_enter Try.func178, Try.ntmps178
      go_wp2_with (go_at_call 136; refine (iUnkG _ _ H.out _).mono ?_; rintro e w' ⟨rfl, rfl⟩)
      go_ret
      exact ⟨ret_bool (by simp [gOK, H.out]), by repeat (first | exact Below.refl _ _ | apply Below.drew | apply below_drewN | (refine Below.setCell ?_ (by simp <;> omega) _) | (refine Below.alloc ?_ (by simp <;> omega) _))⟩
  · by_cases h1 : k = 1
    · subst h1
      rcases Bool.eq_false_or_eq_true (inB a 0 (p - 1)) with h | h
      all_goals
        have H := Lib.hid h
        clear h h0
        go_enter Try.func178, Try.ntmps178
        go_wp2_with (go_at_call 102; refine (iAE1_at _ p a HP.out H.out _ _ (by simp)).mono ?_; rintro e w1 ⟨rfl, rfl⟩)
        go_ret
        exact ⟨ret_bool (by simp [gOK, H.out]), by repeat (first | exact Below.refl _ _ | apply Below.drew | apply below_drewN | (refine Below.setCell ?_ (by simp <;> omega) _) | (refine Below.alloc ?_ (by simp <;> omega) _))⟩
    · by_cases h2 : k = 2 ∨ k = 3
      · have hj : joinsB ⟨k, a, b⟩ = true := by simp [joinsB, h2]
        have HJ := Lib.hid hj
        have h3 : (k == 0) = false := by simpa using h0
        have h4 : (k == 1) = false := by simpa using h1
        have H2 := Lib.hid h2
        clear h0 h1 hj h2
        have key : ∀ r : Bool, (r = (inB a 0 (i - 1) && inB b 0 (i - 1))) → (gOK (p - 1) ⟨k, a, b⟩ i) = r := by
          intro r hr
          rw [hr]
          unfold gOK
          rcases H2.out with rfl | rfl <;> simp
        have HK := Lib.hid key
        clear key
        have B0 : Below w.heap.size w (w.alloc (Obj.cells #[.int .i64 k, .int .i64 a, .int .i64 b] 116)) := Below.alloc (Below.refl _ _) (Nat.le_refl _) _
        by_cases h5 : 0 ≤ a
        · by_cases h6 : 0 ≤ b
          · by_cases h7 : a ≤ b
            · have h8 : min a b = a := by omega
              have h9 : max a b = b := by omega
              go_enter Try.func178, Try.ntmps178
              go_wp2_with fail
              refine (iJoins_is true k a b HJ.out _).mono ?_
              rintro e w1 ⟨rfl, hb2⟩
              have c0 := hb2.cell (p := ⟨w.heap.size, 0, none⟩) (by simp)
              have c1 := hb2.cell (p := ⟨w.heap.size, 1, none⟩) (by simp)
              have c2 := hb2.cell (p := ⟨w.heap.size, 2, none⟩) (by simp)
              simp [go_sem] at c0 c1 c2
              have B1 := B0.trans (hb2.mono B0.size)
              clear hb2
              go_wp2_with fail
              all_goals (go_ret; exact ⟨ret_bool (HK.out _ (by unfold inB; rw [Bool.eq_iff_iff]; simp; omega)).symm, B1⟩)
            · have h8 : min a b = b := by omega
              have h9 : max a b = a := by omega
              go_enter Try.func178, Try.ntmps178
              go_wp2_with fail
              refine (iJoins_is true k a b HJ.out _).mono ?_
              rintro e w1 ⟨rfl, hb2⟩
              have c0 := hb2.cell (p := ⟨w.heap.size, 0, none⟩) (by simp)
              have c1 := hb2.cell (p := ⟨w.heap.size, 1, none⟩) (by simp)
              have c2 := hb2.cell (p := ⟨w.heap.size, 2, none⟩) (by simp)
              simp [go_sem] at c0 c1 c2
              have B1 := B0.trans (hb2.mono B0.size)
              clear hb2
              go_wp2_with fail
              all_goals (go_ret; exact ⟨ret_bool (HK.out _ (by unfold inB; rw [Bool.eq_iff_iff]; simp; omega)).symm, B1⟩)
          · have h8 : min a b < 0 := by omega
            go_enter Try.func178, Try.ntmps178
            go_wp2_with fail
            refine (iJoins_is true k a b HJ.out _).mono ?_
            rintro e w1 ⟨rfl, hb2⟩
            have c0 := hb2.cell (p := ⟨w.heap.size, 0, none⟩) (by simp)
            have c1 := hb2.cell (p := ⟨w.heap.size, 1, none⟩) (by simp)
            have c2 := hb2.cell (p := ⟨w.heap.size, 2, none⟩) (by simp)
            simp [go_sem] at c0 c1 c2
            have B1 := B0.trans (hb2.mono B0.size)
            clear hb2
            go_wp2_with fail
            all_goals (go_ret; exact ⟨ret_bool (HK.out _ (by unfold inB; rw [Bool.eq_iff_iff]; simp; omega)).symm, B1⟩)
        · have h8 : min a b < 0 := by omega
          go_enter Try.func178, Try.ntmps178
          go_wp2_with fail
          refine (iJoins_is true k a b HJ.out _).mono ?_
          rintro e w1 ⟨rfl, hb2⟩
          have c0 := hb2.cell (p := ⟨w.heap.size, 0, none⟩) (by simp)
          have c1 := hb2.cell (p := ⟨w.heap.size, 1, none⟩) (by simp)
          have c2 := hb2.cell (p := ⟨w.heap.size, 2, none⟩) (by simp)
          simp [go_sem] at c0 c1 c2
          have B1 := B0.trans (hb2.mono B0.size)
          clear hb2
          go_wp2_with fail
          all_goals (go_ret; exact ⟨ret_bool (HK.out _ (by unfold inB; rw [Bool.eq_iff_iff]; simp; omega)).symm, B1⟩)
      · have hj : joinsB ⟨k, a, b⟩ = false := by simp [joinsB]; omega
        have HJ := Lib.hid hj
        have h3 : (k == 0) = false := by simpa using h0
        have h4 : (k == 1) = false := by simpa using h1
        have h5 : (k == 2) = false := by simp; omega
        have h6 : (k == 3) = false := by simp; omega
        have HF := Lib.hid (show gOK (p - 1) ⟨k, a, b⟩ i = false by simp [gOK, h3, h4, h5, h6])
        have B0 : Below w.heap.size w (w.alloc (Obj.cells #[.int .i64 k, .int .i64 a, .int .i64 b] 116)) := Below.alloc (Below.refl _ _) (Nat.le_refl _) _
        clear h0 h1 hj h2 h5 h6
        go_enter Try.func178, Try.ntmps178
        go_wp2_with (go_at_call 165; refine (iJoins_is false k a b HJ.out _).mono ?_; rintro e w1 ⟨rfl, hb1⟩)
        have B1 := B0.trans (hb1.mono B0.size)
        clear hb1
        go_wp2_with fail
        go_ret
        exact ⟨ret_bool HF.out.symm, B1⟩
end Go.Proofs.Ytibghhkhnpjdfaa
namespace Go.Proofs.Ytibghhkhnpjdfaa
open Go.RowKit
theorem circB_no {p q : Int} (hq : isP p = true → q = p - 1) {L : List Gt} {k : Nat} (hk : k < L.length) (h : gOK q (gAt L k) k = false) : circB p L = false := by
  cases hp : isP p
  · simp [circB, hp]
  · rw [hq hp] at h
    simp [circB, allG_no hk h]
theorem circB_all {p q : Int} (hq : isP p = true → q = p - 1) {L : List Gt} (h : ∀ j : Nat, j < L.length → gOK q (gAt L j) j = true) : circB p L = (isP p && inB (L.length : Int) 1 60) := by
  cases hp : isP p
  · simp [circB, hp]
  · rw [hq hp] at h
    have e1 : decide ((1 : Int) ≤ (L.length : Int)) = decide (1 ≤ L.length) := by by_cases h : 1 ≤ L.length <;> simp [h] <;> omega
    have e2 : decide ((L.length : Int) ≤ 60) = decide (L.length ≤ 60) := by by_cases h : L.length ≤ 60 <;> simp [h] <;> omega
    simp [circB, hp, allG_all h, inB, e1, e2]
theorem wrap_hi {p q : Int} (h : IntKind.i64.wrap (p - 1) = q) : isP p = true → q = p - 1 := by
  intro hp
  have := isP_bd hp
  rw [← h]
  exact IntWalk.i64_in _ (by omega)
theorem gOK_snoc {P : Nat → Prop} {k : Nat} (h : ∀ j : Nat, j < k → P j) (hk : P k) : ∀ j : Nat, j < k + 1 → P j := by
  intro j hj
  by_cases e : j = k
  · rw [e]; exact hk
  · exact h j (by omega)
theorem gat_mk {L : List Gt} {k : Nat} {x : Gt} (h : x = L.getD k default) : (⟨x.k, x.a, x.b⟩ : Gt) = gAt L k := by subst h; rfl
set_option maxHeartbeats 4000000 in
theorem sCirc_some (p : Int) (g off cap : Nat) (L : List Gt) (w : World) (hl : L.length ≤ 1048576) (hg : g < w.heap.size)
    (hc : ∀ j : Nat, j < L.length → GAt w g (off + j * 3) (L.getD j default)) :
    Calls Try.prog 93 #[.int .i64 p, .slice (some ⟨g, off, none⟩) L.length cap] w fun e w' => e = .returned (.bool (circB p L)) ∧ Below w.heap.size w w' := by
  have HC := Lib.hid hc
  obtain ⟨q, hq⟩ : ∃ q, IntKind.i64.wrap (p - 1) = q := ⟨_, rfl⟩
  have HQ := Lib.hid hq
  clear hc hq
  go_enter Try.func93, Try.ntmps93
  go_wp2_with fail
  go_loopw [9] (fun i wr => ∃ k : Nat, k ≤ L.length ∧ i = .int .i64 k ∧ (∀ j : Nat, j < k → gOK q (gAt L j) j = true) ∧ Below w.heap.size w wr) (fun i _ => L.length - (intOf i).toNat)
  case atStart => exact ⟨0, by omega, rfl, fun j hj => by omega, Below.refl _ _⟩
  case round =>
    obtain ⟨k, hk, rfl, hall, hb⟩ := hrel
    have Hall := Lib.hid hall
    clear hall
    by_cases hlt : k < L.length
    · have hltp : (k : Int) < (L.length : Int) := by omega
      have hk0 : (0 : Int) ≤ (k : Int) := by omega
      obtain ⟨a0, a1, a2⟩ := (HC.out k hlt).below hb hg
      obtain ⟨x, hx⟩ : ∃ x, x = L.getD k default := ⟨_, rfl⟩
      rw [← hx] at a0 a1 a2
      have Hx := Lib.hid hx
      have Hb := Lib.hid hb
      clear hx hb
      rcases Bool.eq_false_or_eq_true (gOK q ⟨x.k, x.a, x.b⟩ k) with h1 | h1
      · have H1 := Lib.hid h1
        clear h1
        go_wp2_with fail
        refine (sGate p q HQ.out x.k x.a x.b k (by omega) (by omega) _).mono ?_
        rintro e w1 ⟨he, hb1⟩
        rw [H1.out] at he
        subst he
        have HB := Lib.hid (show Below w.heap.size w w1 by
          have hs := Hb.out.size
          refine Below.trans ?_ (hb1.mono (by first | omega | (simp; omega)))
          repeat (first | exact Hb.out | apply Below.drew | apply below_drewN | (refine Below.setCell ?_ (by first | omega | (simp; omega)) _) | (refine Below.alloc ?_ (by first | omega | (simp; omega)) _)))
        clear hb1
        go_wp2_with fail
        go_roundw
        case rel => exact ⟨k + 1, by omega, by go_num, gOK_snoc Hall.out (by rw [← gat_mk Hx.out]; exact H1.out), HB.out⟩
        case measure => simp [intOf]; omega
      · have H1 := Lib.hid h1
        clear h1
        go_wp2_with fail
        refine (sGate p q HQ.out x.k x.a x.b k (by omega) (by omega) _).mono ?_
        rintro e w1 ⟨he, hb1⟩
        rw [H1.out] at he
        subst he
        have HB := Lib.hid (show Below w.heap.size w w1 by
          have hs := Hb.out.size
          refine Below.trans ?_ (hb1.mono (by first | omega | (simp; omega)))
          repeat (first | exact Hb.out | apply Below.drew | apply below_drewN | (refine Below.setCell ?_ (by first | omega | (simp; omega)) _) | (refine Below.alloc ?_ (by first | omega | (simp; omega)) _)))
        clear hb1
        go_wp2_with fail
        go_ret
        exact ⟨ret_bool (circB_no (wrap_hi HQ.out) hlt (by rw [← gat_mk Hx.out]; exact H1.out)).symm, HB.out⟩
    · have hkl : k = L.length := by omega
      subst hkl
      have HB := Lib.hid hb
      have HR := Lib.hid (circB_all (wrap_hi HQ.out) Hall.out)
      clear hb
      cases hp : isP p
      · have HP := Lib.hid hp
        clear hp
        go_wp2_with (go_at_call 173; refine (sPV_no _ _ HP.out).mono ?_; rintro e w' ⟨rfl, rfl⟩)
        go_ret
        exact ⟨ret_bool (by rw [HR.out, HP.out]; rfl), HB.out⟩
      · have HP := Lib.hid hp
        clear hp
        go_wp2_with first
          | (go_at_call 173; refine (sPV_yes _ _ HP.out).mono ?_; rintro e w' ⟨rfl, rfl⟩)
          | (go_at_call 94; refine (sIn_at _ _ _ _ rfl _).mono ?_; rintro e w' ⟨rfl, rfl⟩)
        go_ret
        exact ⟨ret_bool (by rw [HR.out, HP.out]; rfl), HB.out⟩
set_option maxHeartbeats 4000000 in
theorem sCirc_nil (p : Int) (a : Option Addr) (cap : Nat) (w : World) :
    Calls Try.prog 93 #[.int .i64 p, .slice a 0 cap] w fun e w' => e = .returned (.bool false) ∧ Below w.heap.size w w' := by
  go_enter Try.func93, Try.ntmps93
  go_wp2_with fail
  go_loop [9] (fun i => i = .int .i64 0) (fun _ => 0)
  case atStart => exact rfl
  case round =>
    subst hrel
    cases hp : isP p
    · have HP := Lib.hid hp
      clear hp
      go_wp2_with (go_at_call 173; refine (sPV_no _ _ HP.out).mono ?_; rintro e w' ⟨rfl, rfl⟩)
      go_ret
      exact ⟨rfl, Below.refl _ _⟩
    · have HP := Lib.hid hp
      clear hp
      go_wp2_with first
        | (go_at_call 173; refine (sPV_yes _ _ HP.out).mono ?_; rintro e w' ⟨rfl, rfl⟩)
        | (go_at_call 94; refine (sIn_at false _ _ _ (by decide) _).mono ?_; rintro e w' ⟨rfl, rfl⟩)
      go_ret
      exact ⟨rfl, Below.refl _ _⟩
theorem circB_nil (p : Int) : circB p [] = false := by simp [circB]
/-- the model's CircuitValid, for any number and any list of gates -/
theorem sCircuitValid (p : Int) (v : Value) (L : List Gt) (w : World) (h : Gats w v L) :
    Calls Try.prog 93 #[.int .i64 p, v] w fun e w' => e = .returned (.bool (circB p L)) ∧ Below w.heap.size w w' := by
  obtain ⟨hl, a, cap, rfl, h2⟩ := h
  rcases h2 with rfl | ⟨g, off, rfl, hg, hc⟩
  · exact (sCirc_nil p a cap w).mono fun e w' ⟨h1, h2⟩ => ⟨by rw [h1, circB_nil], h2⟩
  · exact sCirc_some p g off cap L w hl hg hc
set_option maxHeartbeats 4000000 in
theorem iCirc_some (p : Int) (hp : isP p = true) (g off cap : Nat) (L : List Gt) (w : World) (h1 : 1 ≤ L.length) (hl : L.length ≤ 60) (hg : g < w.heap.size)
    (hc : ∀ j : Nat, j < L.length → GAt w g (off + j * 3) (L.getD j default)) :
    Calls Try.prog 98 #[.int .i64 p, .slice (some ⟨g, off, none⟩) L.length cap] w fun e w' => e = .returned (.bool (circB p L)) ∧ Below w.heap.size w w' := by
  have HC := Lib.hid hc
  have HP := Lib.hid hp
  have hl0 : ((L.length : Int) == 0) = false := by simp; intro h; rw [h] at h1; simp at h1
  have hl1 : (L.length : Int) ≤ 60 := by omega
  have HL := Lib.hid h1
  clear hc hp h1
  go_enter Try.func98, Try.ntmps98
  go_wp2_with (go_at_call 138; refine (iPV_yes _ _ HP.out).mono ?_; rintro e w' ⟨rfl, rfl⟩)
  go_loopw [22] (fun i wr => ∃ k : Nat, k ≤ L.length ∧ i = .int .i64 k ∧ (∀ j : Nat, j < k → gOK (p - 1) (gAt L j) j = true) ∧ Below w.heap.size w wr) (fun i _ => L.length - (intOf i).toNat)
  case atStart => exact ⟨0, by omega, rfl, fun j hj => by omega, Below.refl _ _⟩
  case round =>
    obtain ⟨k, hk, rfl, hall, hb⟩ := hrel
    have Hall := Lib.hid hall
    clear hall
    by_cases hlt : k < L.length
    · have hltp : (k : Int) < (L.length : Int) := by omega
      have hk0 : (0 : Int) ≤ (k : Int) := by omega
      obtain ⟨a0, a1, a2⟩ := (HC.out k hlt).below hb hg
      obtain ⟨x, hx⟩ : ∃ x, x = L.getD k default := ⟨_, rfl⟩
      rw [← hx] at a0 a1 a2
      have Hx := Lib.hid hx
      have Hb := Lib.hid hb
      clear hx hb
      rcases Bool.eq_false_or_eq_true (gOK (p - 1) ⟨x.k, x.a, x.b⟩ k) with h1 | h1
      · have H1 := Lib.hid h1
        clear h1
        go_wp2_with fail
        refine (iFits p HP.out x.k x.a x.b k _).mono ?_
        rintro e w1 ⟨he, hb1⟩
        rw [H1.out] at he
        subst he
        have HB := Lib.hid (show Below w.heap.size w w1 by
          have hs := Hb.out.size
          refine Below.trans ?_ (hb1.mono (by first | omega | (simp; omega)))
          repeat (first | exact Hb.out | apply Below.drew | apply below_drewN | (refine Below.setCell ?_ (by first | omega | (simp; omega)) _) | (refine Below.alloc ?_ (by first | omega | (simp; omega)) _)))
        clear hb1
        go_wp2_with fail
        go_roundw
        case rel => exact ⟨k + 1, by omega, by go_num, gOK_snoc Hall.out (by rw [← gat_mk Hx.out]; exact H1.out), HB.out⟩
        case measure => simp [intOf]; omega
      · have H1 := Lib.hid h1
        clear h1
        go_wp2_with fail
        refine (iFits p HP.out x.k x.a x.b k _).mono ?_
        rintro e w1 ⟨he, hb1⟩
        rw [H1.out] at he
        subst he
        have HB := Lib.hid (show Below w.heap.size w w1 by
          have hs := Hb.out.size
          refine Below.trans ?_ (hb1.mono (by first | omega | (simp; omega)))
          repeat (first | exact Hb.out | apply Below.drew | apply below_drewN | (refine Below.setCell ?_ (by first | omega | (simp; omega)) _) | (refine Below.alloc ?_ (by first | omega | (simp; omega)) _)))
        clear hb1
        go_wp2_with fail
        go_ret
        exact ⟨ret_bool (circB_no (fun _ => rfl) hlt (by rw [← gat_mk Hx.out]; exact H1.out)).symm, HB.out⟩
    · have hkl : k = L.length := by omega
      subst hkl
      have HR := Lib.hid (circB_all (p := p) (fun _ => rfl) Hall.out)
      go_wp2_with fail
      go_ret
      exact ⟨ret_bool (by rw [HR.out, HP.out]; have := HL.out; simp [inB]; omega), hb⟩
set_option maxHeartbeats 2000000 in
theorem iCirc_no (p : Int) (hp : isP p = false) (v : Value) (w : World) :
    Calls Try.prog 98 #[.int .i64 p, v] w fun e w' => e = .returned (.bool false) ∧ w = w' := by
  have HP := Lib.hid hp
  clear hp
  go_enter Try.func98, Try.ntmps98
  go_wp2_with (go_at_call 138; refine (iPV_no _ _ HP.out).mono ?_; rintro e w' ⟨rfl, rfl⟩)
  go_ret
  exact ⟨rfl, rfl⟩
set_option maxHeartbeats 2000000 in
theorem iCirc_nil (p : Int) (hp : isP p = true) (a : Option Addr) (cap : Nat) (w : World) :
    Calls Try.prog 98 #[.int .i64 p, .slice a 0 cap] w fun e w' => e = .returned (.bool false) ∧ w = w' := by
  have HP := Lib.hid hp
  clear hp
  go_enter Try.func98, Try.ntmps98
  go_wp2_with (go_at_call 138; refine (iPV_yes _ _ HP.out).mono ?_; rintro e w' ⟨rfl, rfl⟩)
  go_ret
  exact ⟨rfl, rfl⟩
set_option maxHeartbeats 2000000 in
theorem iCirc_long (p : Int) (hp : isP p = true) (a : Option Addr) (n cap : Nat) (w : World) (hl : 60 < n) :
    Calls Try.prog 98 #[.int .i64 p, .slice a n cap] w fun e w' => e = .returned (.bool false) ∧ w = w' := by
  have HP := Lib.hid hp
  clear hp
  have hl0 : ((n : Int) == 0) = false := by simp; omega
  have hlp : (60 : Int) < (n : Int) := by omega
  go_enter Try.func98, Try.ntmps98
  go_wp2_with (go_at_call 138; refine (iPV_yes _ _ HP.out).mono ?_; rintro e w' ⟨rfl, rfl⟩)
  go_ret
  exact ⟨rfl, rfl⟩
theorem circB_long {p : Int} {L : List Gt} (h : 60 < L.length) : circB p L = false := by
  have : decide (L.length ≤ 60) = false := by simp; omega
  simp [circB, this]
/-- the program's CircuitValid, for any number and any list of gates -/
theorem iCircuitValid (p : Int) (v : Value) (L : List Gt) (w : World) (h : Gats w v L) :
    Calls Try.prog 98 #[.int .i64 p, v] w fun e w' => e = .returned (.bool (circB p L)) ∧ Below w.heap.size w w' := by
  cases hp : isP p
  · exact (iCirc_no p hp v w).mono fun e w' ⟨h1, h2⟩ => ⟨by rw [h1]; simp [circB, hp], h2 ▸ Below.refl _ _⟩
  · obtain ⟨hl, a, cap, rfl, h2⟩ := h
    by_cases h0 : L.length = 0
    · have : L = [] := List.length_eq_zero_iff.1 h0
      subst this
      exact (iCirc_nil p hp a cap w).mono fun e w' ⟨h1, h2⟩ => ⟨by rw [h1, circB_nil], h2 ▸ Below.refl _ _⟩
    · by_cases h60 : L.length ≤ 60
      · rcases h2 with rfl | ⟨g, off, rfl, hg, hc⟩
        · simp at h0
        · exact iCirc_some p hp g off cap L w (by omega) h60 hg hc
      · exact (iCirc_long p hp a L.length cap w (by omega)).mono fun e w' ⟨h1, h2⟩ => ⟨by rw [h1, circB_long (by omega)], h2 ▸ Below.refl _ _⟩
end Go.Proofs.Ytibghhkhnpjdfaa
namespace Go.Proofs.Ytibghhkhnpjdfaa
open Go.RowKit
/-- a gate whose parts lie so many gates further on -/
def movG (n : Int) (x : Gt) : Gt := if joinsB x then ⟨x.k, x.a + n, x.b + n⟩ else x
/-- the gates of two circuits and the gate that joins them -/
def joinL (L M : List Gt) (k : Int) : List Gt := L ++ M.map (movG L.length) ++ [⟨k, L.length - 1, L.length + M.length - 1⟩]
def joinB (p : Int) (L M : List Gt) (k : Int) : Bool := (circB p L && circB p M) && (inB k 2 3 && decide (L.length + M.length < 60))
def joinV (p : Int) (L M : List Gt) (k : Int) : List Gt := if joinB p L M k then joinL L M k else []
theorem flat_read {w : World} {g off : Nat} {L : List Gt} (hc : ∀ j : Nat, j < L.length → GAt w g (off + j * 3) (L.getD j default)) :
    ∀ (i : Nat) (u : Value), (flatG L)[i]? = some u → w.cell? ⟨g, off + i, none⟩ = some u := by
  intro i u hu
  have hi : i < (flatG L).length := by
    rcases Nat.lt_or_ge i (flatG L).length with h | h
    · exact h
    · rw [List.getElem?_eq_none h] at hu; cases hu
  rw [flatG_len] at hi
  have hj : i / 3 < L.length := by omega
  have hd : i % 3 < 3 := by omega
  have e : i = i / 3 * 3 + i % 3 := by omega
  rw [e, flatG_at L (i / 3) (i % 3) hj hd] at hu
  obtain ⟨h0, h1, h2⟩ := hc (i / 3) hj
  have : i % 3 = 0 ∨ i % 3 = 1 ∨ i % 3 = 2 := by omega
  rcases this with h | h | h
  · rw [h] at hu; simp [Gt.cs] at hu; subst hu
    rw [show off + i = off + i / 3 * 3 by omega]; exact h0
  · rw [h] at hu; simp [Gt.cs] at hu; subst hu
    rw [show off + i = off + i / 3 * 3 + 1 by omega]; exact h1
  · rw [h] at hu; simp [Gt.cs] at hu; subst hu
    rw [show off + i = off + i / 3 * 3 + 2 by omega]; exact h2
theorem flatG_all : ∀ (L : List Gt) (u : Value), u ∈ flatG L → u.oneCell' = true := flatG_cell
theorem take_snoc {L : List Gt} {k : Nat} (h : k < L.length) (f : Gt → Gt) : (L.map f).take (k + 1) = (L.map f).take k ++ [f (L.getD k default)] := by
  rw [List.take_succ_eq_append_getElem (by simpa using h)]
  simp [List.getD_eq_getElem?_getD, h]
theorem joinB_iff {p k : Int} {L M : List Gt} : joinB p L M k = true ↔ circB p L = true ∧ circB p M = true ∧ (k = 2 ∨ k = 3) ∧ L.length + M.length < 60 := by
  unfold joinB inB
  simp only [Bool.and_eq_true, decide_eq_true_eq]
  constructor
  · rintro ⟨⟨h1, h2⟩, ⟨h3, h4⟩, h5⟩; exact ⟨h1, h2, by omega, h5⟩
  · rintro ⟨h1, h2, h3, h4⟩; exact ⟨⟨h1, h2⟩, ⟨by omega, by omega⟩, h4⟩
theorem gats_some {p : Int} {w : World} {v : Value} {L : List Gt} (h : Gats w v L) (hv : circB p L = true) :
    ∃ g off cap, v = .slice (some ⟨g, off, none⟩) L.length cap ∧ g < w.heap.size ∧ ∀ j : Nat, j < L.length → GAt w g (off + j * 3) (L.getD j default) := by
  obtain ⟨_, a, cap, rfl, h2⟩ := h
  rcases h2 with rfl | ⟨g, off, rfl, hg, hc⟩
  · have := (circB_iff.1 hv).2.1; simp at this
  · exact ⟨g, off, cap, rfl, hg, hc⟩
theorem addr_add (g o j : Nat) : (⟨g, o, none⟩ : Addr).add j = ⟨g, o + j, none⟩ := by simp [Addr.add]
theorem RowGt.read {w : World} {B g n cap : Nat} {L : List Gt} (h : RowGt w B (.slice (some ⟨g, 0, none⟩) n cap) L) : ∀ (i : Nat) (u : Value), (flatG L)[i]? = some u → w.cell? ((⟨g, 0, none⟩ : Addr).add i) = some u := by
  intro i u hu
  have hn : n = L.length := by
    rcases h.shape with ⟨e, _⟩ | ⟨g', cap', e, _⟩
    · cases e
    · injection e
  subst hn
  have := flat_read (off := 0) (fun j hj => by rw [Nat.zero_add]; exact RowGt.tat h rfl hj) i u hu
  rw [addr_add]; exact this
end Go.Proofs.Ytibghhkhnpjdfaa
namespace Go.Proofs.Ytibghhkhnpjdfaa
open Go.RowKit
theorem depL_bd (L : List Gt) : ∀ k j : Nat, 0 ≤ (depL L k).getD j 0 ∧ (depL L k).getD j 0 ≤ k
  | 0, j => by simp [depL]
  | k + 1, j => by
    have ih := depL_bd L k
    simp only [depL, List.getD_eq_getElem?_getD] at ih ⊢
    by_cases hj : j < (depL L k).length
    · rw [List.getElem?_append_left hj]
      have := ih j
      omega
    · rw [List.getElem?_append_right (by omega)]
      by_cases he : j - (depL L k).length = 0
      · rw [he]
        simp only [List.getElem?_cons_zero, Option.getD_some]
        have h1 := ih (gAt L k).a.toNat
        have h2 := ih (gAt L k).b.toNat
        split <;> omega
      · rw [List.getElem?_eq_none (by simp; omega)]
        simp; omega
/-- what DepthOf returns -/
def depV (p : Int) (L : List Gt) : Int := if circB p L = true then (depL L L.length).getD (L.length - 1) 0 else -1
end Go.Proofs.Ytibghhkhnpjdfaa
namespace Go.Proofs.Ytibghhkhnpjdfaa
open Go.RowKit
theorem degL_bd (L : List Gt) : ∀ k j : Nat, 0 ≤ (degL L k).getD j 0 ∧ (degL L k).getD j 0 ≤ 1000
  | 0, j => by simp [degL]
  | k + 1, j => by
    have ih := degL_bd L k
    simp only [degL, List.getD_eq_getElem?_getD] at ih ⊢
    by_cases hj : j < (degL L k).length
    · rw [List.getElem?_append_left hj]
      exact ih j
    · rw [List.getElem?_append_right (by omega)]
      by_cases he : j - (degL L k).length = 0
      · rw [he]
        simp only [List.getElem?_cons_zero, Option.getD_some]
        have h1 := ih (gAt L k).a.toNat
        have h2 := ih (gAt L k).b.toNat
        split
        · omega
        · split
          · omega
          · split <;> omega
      · rw [List.getElem?_eq_none (by simp; omega)]
        simp
/-- what FormalDegree returns -/
def fdgV (p : Int) (L : List Gt) : Int := if circB p L = true then (degL L L.length).getD (L.length - 1) 0 else -1
end Go.Proofs.Ytibghhkhnpjdfaa
namespace Go.Proofs.Ytibghhkhnpjdfaa
open Go.RowKit
/-- a block whose first sixty cells hold the numbers of a list, and 0 behind them -/
def ArrI (w : World) (g : Nat) (D : List Int) : Prop :=
  g < w.heap.size ∧ ∀ j : Nat, j < 60 → w.cell? ⟨g, j, none⟩ = some (.int .i64 (D.getD j 0)) ∧ w.frozen? ⟨g, j, none⟩ = false
theorem ArrI.below {w w' : World} {B g : Nat} {D : List Int} (h : ArrI w g D) (hb : Below B w w') (hg : g < B) : ArrI w' g D :=
  ⟨Nat.lt_of_lt_of_le h.1 hb.size, fun j hj => ⟨by rw [hb.cell (p := ⟨g, j, none⟩) hg]; exact (h.2 j hj).1, by rw [hb.frozen (p := ⟨g, j, none⟩) hg]; exact (h.2 j hj).2⟩⟩
theorem getD_snoc (D : List Int) (v : Int) (i : Nat) : (D ++ [v]).getD i 0 = if i = D.length then v else D.getD i 0 := by
  simp only [List.getD_eq_getElem?_getD]
  by_cases h : i < D.length
  · rw [List.getElem?_append_left h, if_neg (by omega)]
  · rw [List.getElem?_append_right (by omega)]
    by_cases e : i = D.length
    · rw [if_pos e, e]; simp
    · rw [if_neg e, List.getElem?_eq_none (by simp; omega), List.getElem?_eq_none (by omega)]
theorem ArrI.zero {w : World} {g : Nat} {D : List Int} (h : ArrI w g D) : ArrI w g (D ++ [0]) :=
  ⟨h.1, fun j hj => ⟨by rw [(h.2 j hj).1, getD_snoc]; split
                        · rename_i e; rw [List.getD_eq_getElem?_getD, List.getElem?_eq_none (by omega)]; rfl
                        · rfl, (h.2 j hj).2⟩⟩
theorem ArrI.set {w : World} {g k : Nat} {D : List Int} (h : ArrI w g D) (hl : D.length = k) (hk : k < 60) (v : Int) : ArrI (w.setCell ⟨g, k, none⟩ (.int .i64 v)) g (D ++ [v]) := by
  refine ⟨by simpa using h.1, fun j hj => ⟨?_, by rw [World.frozen?_setCell]; exact (h.2 j hj).2⟩⟩
  rw [getD_snoc]
  by_cases e : j = k
  · rw [if_pos (by omega), e]
    exact World.cell?_setCell_same _ _ _ (h.2 k hk).1
  · rw [if_neg (by omega), World.cell?_setCell_other _ _ _ _ (by simp <;> omega)]
    exact (h.2 j hj).1
theorem ArrI.new (w : World) (ty : TypeId) : ArrI (w.alloc (.cells (Array.replicate 60 (.int .i64 0)) ty)) w.heap.size [] := by
  refine ⟨by simp, fun j hj => ⟨?_, ?_⟩⟩
  · rw [World.cell?_alloc_new]; simp [hj]
  · rw [World.frozen?_alloc_new]
theorem addr_ne {b b' o o' : Nat} (h : b ≠ b' ∨ o ≠ o') : (⟨b, o, none⟩ : Addr) ≠ ⟨b', o', none⟩ := by
  intro e
  injection e with e1 e2
  omega
theorem iLast (a : Option Addr) (n cap m : Nat) (hn : n ≤ 1048576) (hm : (n : Int) - 1 = (m : Int)) (w : World) :
    Calls Try.prog 91 #[.slice a n cap] w fun e w' => e = .returned (.int .i64 m) ∧ w = w' := by
  have hw := IntWalk.i64_in ((n : Int) - 1) (by omega)
  rw [hm] at hw
  go_enter Try.func91, Try.ntmps91
  go_wp2
  go_ret
  exact ⟨rfl, rfl⟩
end Go.Proofs.Ytibghhkhnpjdfaa
