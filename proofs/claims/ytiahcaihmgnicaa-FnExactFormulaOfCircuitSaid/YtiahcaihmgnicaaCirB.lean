/-
  Contracts of CircuitValid, of the model and of the program. Conditions: what the slice holds is known.
-/
import Derived.Test.YtiahcaihmgnicaaCirA
namespace Go.Proofs.Ytiahcaihmgnicaa
open Go.RowKit
theorem circB_no {p q : Int} (hq : isP p = true → q = p - 1) {L : List Gt} {k : Nat} (hk : k < L.length) (h : gOK q (gAt L k) k = false) : circB p L = false := by
  cases hp : isP p
  · simp [circB, hp]
  · rw [hq hp] at h
    simp [circB, allG_no hk h]
theorem circB_all {p q : Int} (hq : isP p = true → q = p - 1) {L : List Gt} (h : ∀ j : Nat, j < L.length → gOK q (gAt L j) j = true) : circB p L = (isP p && inB (L.length : Int) 1 60) := by
  cases hp : isP p
  · simp [circB, hp]
  · rw [hq hp] at h
    have e1 : decide ((1 : Int) ≤ (L.length : Int)) = decide (1 ≤ L.length) := by by_cases h : 1 ≤ L.length <;> simp [h] <;> omega
    have e2 : decide ((L.length : Int) ≤ 60) = decide (L.length ≤ 60) := by by_cases h : L.length ≤ 60 <;> simp [h] <;> omega
    simp [circB, hp, allG_all h, inB, e1, e2]
theorem wrap_hi {p q : Int} (h : IntKind.i64.wrap (p - 1) = q) : isP p = true → q = p - 1 := by
  intro hp
  have := isP_bd hp
  rw [← h]
  exact IntWalk.i64_in _ (by omega)
theorem gOK_snoc {P : Nat → Prop} {k : Nat} (h : ∀ j : Nat, j < k → P j) (hk : P k) : ∀ j : Nat, j < k + 1 → P j := by
  intro j hj
  by_cases e : j = k
  · rw [e]; exact hk
  · exact h j (by omega)
theorem gat_mk {L : List Gt} {k : Nat} {x : Gt} (h : x = L.getD k default) : (⟨x.k, x.a, x.b⟩ : Gt) = gAt L k := by subst h; rfl
set_option maxHeartbeats 4000000 in
theorem sCirc_some (p : Int) (g off cap : Nat) (L : List Gt) (w : World) (hl : L.length ≤ 1048576) (hg : g < w.heap.size)
    (hc : ∀ j : Nat, j < L.length → GAt w g (off + j * 3) (L.getD j default)) :
    Calls Try.prog 84 #[.int .i64 p, .slice (some ⟨g, off, none⟩) L.length cap] w fun e w' => e = .returned (.bool (circB p L)) ∧ Below w.heap.size w w' := by
  have HC := Lib.hid hc
  obtain ⟨q, hq⟩ : ∃ q, IntKind.i64.wrap (p - 1) = q := ⟨_, rfl⟩
  have HQ := Lib.hid hq
  clear hc hq
  go_enter Try.func84, Try.ntmps84
  go_wp2_with fail
  go_loopw [9] (fun i wr => ∃ k : Nat, k ≤ L.length ∧ i = .int .i64 k ∧ (∀ j : Nat, j < k → gOK q (gAt L j) j = true) ∧ Below w.heap.size w wr) (fun i _ => L.length - (intOf i).toNat)
  case atStart => exact ⟨0, by omega, rfl, fun j hj => by omega, Below.refl _ _⟩
  case round =>
    obtain ⟨k, hk, rfl, hall, hb⟩ := hrel
    have Hall := Lib.hid hall
    clear hall
    by_cases hlt : k < L.length
    · have hltp : (k : Int) < (L.length : Int) := by omega
      have hk0 : (0 : Int) ≤ (k : Int) := by omega
      obtain ⟨a0, a1, a2⟩ := (HC.out k hlt).below hb hg
      obtain ⟨x, hx⟩ : ∃ x, x = L.getD k default := ⟨_, rfl⟩
      rw [← hx] at a0 a1 a2
      have Hx := Lib.hid hx
      have Hb := Lib.hid hb
      clear hx hb
      rcases Bool.eq_false_or_eq_true (gOK q ⟨x.k, x.a, x.b⟩ k) with h1 | h1
      · have H1 := Lib.hid h1
        clear h1
        go_wp2_with fail
        refine (sGate p q HQ.out x.k x.a x.b k (by omega) (by omega) _).mono ?_
        rintro e w1 ⟨he, hb1⟩
        rw [H1.out] at he
        subst he
        have HB := Lib.hid (show Below w.heap.size w w1 by
          have hs := Hb.out.size
          refine Below.trans ?_ (hb1.mono (by first | omega | (simp; omega)))
          repeat (first | exact Hb.out | apply Below.drew | apply below_drewN | (refine Below.setCell ?_ (by first | omega | (simp; omega)) _) | (refine Below.alloc ?_ (by first | omega | (simp; omega)) _)))
        clear hb1
        go_wp2_with fail
        go_roundw
        case rel => exact ⟨k + 1, by omega, by go_num, gOK_snoc Hall.out (by rw [← gat_mk Hx.out]; exact H1.out), HB.out⟩
        case measure => simp [intOf]; omega
      · have H1 := Lib.hid h1
        clear h1
        go_wp2_with fail
        refine (sGate p q HQ.out x.k x.a x.b k (by omega) (by omega) _).mono ?_
        rintro e w1 ⟨he, hb1⟩
        rw [H1.out] at he
        subst he
        have HB := Lib.hid (show Below w.heap.size w w1 by
          have hs := Hb.out.size
          refine Below.trans ?_ (hb1.mono (by first | omega | (simp; omega)))
          repeat (first | exact Hb.out | apply Below.drew | apply below_drewN | (refine Below.setCell ?_ (by first | omega | (simp; omega)) _) | (refine Below.alloc ?_ (by first | omega | (simp; omega)) _)))
        clear hb1
        go_wp2_with fail
        go_ret
        exact ⟨ret_bool (circB_no (wrap_hi HQ.out) hlt (by rw [← gat_mk Hx.out]; exact H1.out)).symm, HB.out⟩
    · have hkl : k = L.length := by omega
      subst hkl
      have HB := Lib.hid hb
      have HR := Lib.hid (circB_all (wrap_hi HQ.out) Hall.out)
      clear hb
      cases hp : isP p
      · have HP := Lib.hid hp
        clear hp
        go_wp2_with (go_at_call 60; refine (sPV_no _ _ HP.out).mono ?_; rintro e w' ⟨rfl, rfl⟩)
        go_ret
        exact ⟨ret_bool (by rw [HR.out, HP.out]; rfl), HB.out⟩
      · have HP := Lib.hid hp
        clear hp
        go_wp2_with first
          | (go_at_call 60; refine (sPV_yes _ _ HP.out).mono ?_; rintro e w' ⟨rfl, rfl⟩)
          | (go_at_call 77; refine (sIn_at _ _ _ _ rfl _).mono ?_; rintro e w' ⟨rfl, rfl⟩)
        go_ret
        exact ⟨ret_bool (by rw [HR.out, HP.out]; rfl), HB.out⟩
set_option maxHeartbeats 4000000 in
theorem sCirc_nil (p : Int) (a : Option Addr) (cap : Nat) (w : World) :
    Calls Try.prog 84 #[.int .i64 p, .slice a 0 cap] w fun e w' => e = .returned (.bool false) ∧ Below w.heap.size w w' := by
  go_enter Try.func84, Try.ntmps84
  go_wp2_with fail
  go_loop [9] (fun i => i = .int .i64 0) (fun _ => 0)
  case atStart => exact rfl
  case round =>
    subst hrel
    cases hp : isP p
    · have HP := Lib.hid hp
      clear hp
      go_wp2_with (go_at_call 60; refine (sPV_no _ _ HP.out).mono ?_; rintro e w' ⟨rfl, rfl⟩)
      go_ret
      exact ⟨rfl, Below.refl _ _⟩
    · have HP := Lib.hid hp
      clear hp
      go_wp2_with first
        | (go_at_call 60; refine (sPV_yes _ _ HP.out).mono ?_; rintro e w' ⟨rfl, rfl⟩)
        | (go_at_call 77; refine (sIn_at false _ _ _ (by decide) _).mono ?_; rintro e w' ⟨rfl, rfl⟩)
      go_ret
      exact ⟨rfl, Below.refl _ _⟩
theorem circB_nil (p : Int) : circB p [] = false := by simp [circB]
/-- the model's CircuitValid, for any number and any list of gates -/
theorem sCircuitValid (p : Int) (v : Value) (L : List Gt) (w : World) (h : Gats w v L) :
    Calls Try.prog 84 #[.int .i64 p, v] w fun e w' => e = .returned (.bool (circB p L)) ∧ Below w.heap.size w w' := by
  obtain ⟨hl, a, cap, rfl, h2⟩ := h
  rcases h2 with rfl | ⟨g, off, rfl, hg, hc⟩
  · exact (sCirc_nil p a cap w).mono fun e w' ⟨h1, h2⟩ => ⟨by rw [h1, circB_nil], h2⟩
  · exact sCirc_some p g off cap L w hl hg hc
set_option maxHeartbeats 4000000 in
theorem iCirc_some (p : Int) (hp : isP p = true) (g off cap : Nat) (L : List Gt) (w : World) (h1 : 1 ≤ L.length) (hl : L.length ≤ 60) (hg : g < w.heap.size)
    (hc : ∀ j : Nat, j < L.length → GAt w g (off + j * 3) (L.getD j default)) :
    Calls Try.prog 90 #[.int .i64 p, .slice (some ⟨g, off, none⟩) L.length cap] w fun e w' => e = .returned (.bool (circB p L)) ∧ Below w.heap.size w w' := by
  have HC := Lib.hid hc
  have HP := Lib.hid hp
  have hl0 : ((L.length : Int) == 0) = false := by simp; intro h; rw [h] at h1; simp at h1
  have hl1 : (L.length : Int) ≤ 60 := by omega
  have HL := Lib.hid h1
  clear hc hp h1
  go_enter Try.func90, Try.ntmps90
  go_wp2_with (go_at_call 66; refine (iPV_yes _ _ HP.out).mono ?_; rintro e w' ⟨rfl, rfl⟩)
  go_loopw [22] (fun i wr => ∃ k : Nat, k ≤ L.length ∧ i = .int .i64 k ∧ (∀ j : Nat, j < k → gOK (p - 1) (gAt L j) j = true) ∧ Below w.heap.size w wr) (fun i _ => L.length - (intOf i).toNat)
  case atStart => exact ⟨0, by omega, rfl, fun j hj => by omega, Below.refl _ _⟩
  case round =>
    obtain ⟨k, hk, rfl, hall, hb⟩ := hrel
    have Hall := Lib.hid hall
    clear hall
    by_cases hlt : k < L.length
    · have hltp : (k : Int) < (L.length : Int) := by omega
      have hk0 : (0 : Int) ≤ (k : Int) := by omega
      obtain ⟨a0, a1, a2⟩ := (HC.out k hlt).below hb hg
      obtain ⟨x, hx⟩ : ∃ x, x = L.getD k default := ⟨_, rfl⟩
      rw [← hx] at a0 a1 a2
      have Hx := Lib.hid hx
      have Hb := Lib.hid hb
      clear hx hb
      rcases Bool.eq_false_or_eq_true (gOK (p - 1) ⟨x.k, x.a, x.b⟩ k) with h1 | h1
      · have H1 := Lib.hid h1
        clear h1
        go_wp2_with fail
        refine (iFits p HP.out x.k x.a x.b k _).mono ?_
        rintro e w1 ⟨he, hb1⟩
        rw [H1.out] at he
        subst he
        have HB := Lib.hid (show Below w.heap.size w w1 by
          have hs := Hb.out.size
          refine Below.trans ?_ (hb1.mono (by first | omega | (simp; omega)))
          repeat (first | exact Hb.out | apply Below.drew | apply below_drewN | (refine Below.setCell ?_ (by first | omega | (simp; omega)) _) | (refine Below.alloc ?_ (by first | omega | (simp; omega)) _)))
        clear hb1
        go_wp2_with fail
        go_roundw
        case rel => exact ⟨k + 1, by omega, by go_num, gOK_snoc Hall.out (by rw [← gat_mk Hx.out]; exact H1.out), HB.out⟩
        case measure => simp [intOf]; omega
      · have H1 := Lib.hid h1
        clear h1
        go_wp2_with fail
        refine (iFits p HP.out x.k x.a x.b k _).mono ?_
        rintro e w1 ⟨he, hb1⟩
        rw [H1.out] at he
        subst he
        have HB := Lib.hid (show Below w.heap.size w w1 by
          have hs := Hb.out.size
          refine Below.trans ?_ (hb1.mono (by first | omega | (simp; omega)))
          repeat (first | exact Hb.out | apply Below.drew | apply below_drewN | (refine Below.setCell ?_ (by first | omega | (simp; omega)) _) | (refine Below.alloc ?_ (by first | omega | (simp; omega)) _)))
        clear hb1
        go_wp2_with fail
        go_ret
        exact ⟨ret_bool (circB_no (fun _ => rfl) hlt (by rw [← gat_mk Hx.out]; exact H1.out)).symm, HB.out⟩
    · have hkl : k = L.length := by omega
      subst hkl
      have HR := Lib.hid (circB_all (p := p) (fun _ => rfl) Hall.out)
      go_wp2_with fail
      go_ret
      exact ⟨ret_bool (by rw [HR.out, HP.out]; have := HL.out; simp [inB]; omega), hb⟩
set_option maxHeartbeats 2000000 in
theorem iCirc_no (p : Int) (hp : isP p = false) (v : Value) (w : World) :
    Calls Try.prog 90 #[.int .i64 p, v] w fun e w' => e = .returned (.bool false) ∧ w = w' := by
  have HP := Lib.hid hp
  clear hp
  go_enter Try.func90, Try.ntmps90
  go_wp2_with (go_at_call 66; refine (iPV_no _ _ HP.out).mono ?_; rintro e w' ⟨rfl, rfl⟩)
  go_ret
  exact ⟨rfl, rfl⟩
set_option maxHeartbeats 2000000 in
theorem iCirc_nil (p : Int) (hp : isP p = true) (a : Option Addr) (cap : Nat) (w : World) :
    Calls Try.prog 90 #[.int .i64 p, .slice a 0 cap] w fun e w' => e = .returned (.bool false) ∧ w = w' := by
  have HP := Lib.hid hp
  clear hp
  go_enter Try.func90, Try.ntmps90
  go_wp2_with (go_at_call 66; refine (iPV_yes _ _ HP.out).mono ?_; rintro e w' ⟨rfl, rfl⟩)
  go_ret
  exact ⟨rfl, rfl⟩
set_option maxHeartbeats 2000000 in
theorem iCirc_long (p : Int) (hp : isP p = true) (a : Option Addr) (n cap : Nat) (w : World) (hl : 60 < n) :
    Calls Try.prog 90 #[.int .i64 p, .slice a n cap] w fun e w' => e = .returned (.bool false) ∧ w = w' := by
  have HP := Lib.hid hp
  clear hp
  have hl0 : ((n : Int) == 0) = false := by simp; omega
  have hlp : (60 : Int) < (n : Int) := by omega
  go_enter Try.func90, Try.ntmps90
  go_wp2_with (go_at_call 66; refine (iPV_yes _ _ HP.out).mono ?_; rintro e w' ⟨rfl, rfl⟩)
  go_ret
  exact ⟨rfl, rfl⟩
theorem circB_long {p : Int} {L : List Gt} (h : 60 < L.length) : circB p L = false := by
  have : decide (L.length ≤ 60) = false := by simp; omega
  simp [circB, this]
/-- the program's CircuitValid, for any number and any list of gates -/
theorem iCircuitValid (p : Int) (v : Value) (L : List Gt) (w : World) (h : Gats w v L) :
    Calls Try.prog 90 #[.int .i64 p, v] w fun e w' => e = .returned (.bool (circB p L)) ∧ Below w.heap.size w w' := by
  cases hp : isP p
  · exact (iCirc_no p hp v w).mono fun e w' ⟨h1, h2⟩ => ⟨by rw [h1]; simp [circB, hp], h2 ▸ Below.refl _ _⟩
  · obtain ⟨hl, a, cap, rfl, h2⟩ := h
    by_cases h0 : L.length = 0
    · have : L = [] := List.length_eq_zero_iff.1 h0
      subst this
      exact (iCirc_nil p hp a cap w).mono fun e w' ⟨h1, h2⟩ => ⟨by rw [h1, circB_nil], h2 ▸ Below.refl _ _⟩
    · by_cases h60 : L.length ≤ 60
      · rcases h2 with rfl | ⟨g, off, rfl, hg, hc⟩
        · simp at h0
        · exact iCirc_some p hp g off cap L w (by omega) h60 hg hc
      · exact (iCirc_long p hp a L.length cap w (by omega)).mono fun e w' ⟨h1, h2⟩ => ⟨by rw [h1, circB_long (by omega)], h2 ▸ Below.refl _ _⟩
end Go.Proofs.Ytiahcaihmgnicaa
