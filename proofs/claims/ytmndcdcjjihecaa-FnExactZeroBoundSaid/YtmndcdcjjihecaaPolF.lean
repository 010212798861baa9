/-
  Contracts of the model's degrees.
-/
import Derived.Test.YtmndcdcjjihecaaPolD
import Derived.Deep.RegionHeld3

namespace Go.Proofs.Ytmndcdcjjihecaa
open Go.RowKit
set_option maxHeartbeats 2000000 in
theorem sDeg (a b c : Int) (w : World) (ha : 0 ≤ a ∧ a ≤ 9) (hb : 0 ≤ b ∧ b ≤ 9) (hc : 0 ≤ c ∧ c ≤ 9) :
    Calls Try.prog 68 #[.agg #[.int .i64 a, .int .i64 b, .int .i64 c]] w fun e w' => e = .returned (.int .i64 (a + b + c)) ∧ Below w.heap.size w w' := by
  obtain ⟨a0, a1⟩ := ha
  obtain ⟨b0, b1⟩ := hb
  obtain ⟨c0, c1⟩ := hc
  have w1 : IntKind.i64.wrap (a + b) = a + b := IntWalk.i64_in _ (by omega)
  have w2 : IntKind.i64.wrap (a + b + c) = a + b + c := IntWalk.i64_in _ (by omega)
  go_enter Try.func68, Try.ntmps68
  go_wp2_with fail
  go_ret
  exact ⟨rfl, by repeat (first | exact Below.refl _ _ | apply Below.drew | apply below_drewN | (refine Below.setCell ?_ (by simp <;> omega) _) | (refine Below.alloc ?_ (by simp <;> omega) _))⟩
def degT (x : Trm) : Int := x.a + x.b + x.c
/-- the greatest degree of the first k terms; -1 of none -/
def degK (L : List Trm) : Nat → Int
  | 0 => -1
  | k + 1 => if degK L k < degT (L.getD k default) then degT (L.getD k default) else degK L k
theorem powB_bd {n : Int} (h : powB n = true) : 0 ≤ n ∧ n ≤ 9 := by simpa [powB] using h
theorem okAt_pows {p : Int} {L : List Trm} {k : Nat} (h : okAt p L k = true) : powsB (L.getD k default).a (L.getD k default).b (L.getD k default).c = true := by
  simp only [okAt, tokB, Bool.and_eq_true] at h; exact h.1.1
theorem validB_at {p : Int} {L : List Trm} (h : validB p L = true) {k : Nat} (hk : k < L.length) : okAt p L k = true := by
  simp only [validB, Bool.and_eq_true] at h; exact List.all_eq_true.1 h.1 k (List.mem_range.2 hk)
theorem validB_pows {p : Int} {L : List Trm} (h : validB p L = true) {k : Nat} (hk : k < L.length) {x : Trm} (hx : x = L.getD k default) : (0 ≤ x.a ∧ x.a ≤ 9) ∧ (0 ≤ x.b ∧ x.b ≤ 9) ∧ (0 ≤ x.c ∧ x.c ≤ 9) := by
  have h1 := okAt_pows (validB_at h hk)
  rw [← hx] at h1
  simp only [powsB, Bool.and_eq_true] at h1
  exact ⟨powB_bd h1.1.1, powB_bd h1.1.2, powB_bd h1.2⟩
theorem validB_len {p : Int} {L : List Trm} (h : validB p L = true) : L.length ≤ 60 := by
  simp only [validB, Bool.and_eq_true, decide_eq_true_eq] at h; exact h.2
set_option maxHeartbeats 4000000 in
theorem sDegreeOf_some (p : Int) (g off cap : Nat) (L : List Trm) (w : World) (hL : isP p = true) (hV : validB p L = true) (hg : g < w.heap.size)
    (hc : ∀ j : Nat, j < L.length → TAt w g (off + j * 4) (L.getD j default)) :
    Calls Try.prog 40 #[.int .i64 p, .slice (some ⟨g, off, none⟩) L.length cap] w fun e w' => e = .returned (.int .i64 (degK L L.length)) ∧ Below w.heap.size w w' := by
  have hl := validB_len hV
  have HB := Lib.hid (show ∀ w', Below w.heap.size w w' → Calls Try.prog 30 #[.int .i64 p, .slice (some ⟨g, off, none⟩) L.length cap] w' fun e w'' => e = .returned (.bool true) ∧ Below w'.heap.size w' w'' from
    fun w' hb => (sPolyValid p _ L w' ⟨by omega, _, cap, rfl, .inr ⟨g, off, rfl, Nat.lt_of_lt_of_le hg hb.size, fun j hj => (hc j hj).below hb hg⟩⟩).mono fun e w'' h => by rw [hL, hV] at h; exact h)
  have HC := Lib.hid hc
  have HV := Lib.hid hV
  clear hc hV
  go_enter Try.func40, Try.ntmps40
  go_wp2_with fail
  refine (HB.out _ (Below.refl _ _)).mono ?_
  rintro e w1 ⟨rfl, hb1⟩
  go_wp2_with fail
  go_loopw [5, 14] (fun n i wr => ∃ k : Nat, k ≤ L.length ∧ i = .int .i64 k ∧ n = .int .i64 (degK L k) ∧ Below w.heap.size w wr) (fun _ i _ => L.length - (intOf i).toNat)
  case atStart => exact ⟨0, by omega, rfl, rfl, hb1⟩
  case round =>
    obtain ⟨k, hk, rfl, rfl, hb⟩ := hrel
    by_cases hlt : k < L.length
    · have hltp : (k : Int) < (L.length : Int) := by omega
      have hk0 : (0 : Int) ≤ (k : Int) := by omega
      obtain ⟨a0, a1, a2, a3⟩ := (HC.out k hlt).below hb hg
      obtain ⟨x, hx⟩ : ∃ x, x = L.getD k default := ⟨_, rfl⟩
      rw [← hx] at a0 a1 a2 a3
      have HX := Lib.hid (validB_pows HV.out hlt hx)
      have HD := Lib.hid (show (if degK L k < x.a + x.b + x.c then x.a + x.b + x.c else degK L k) = degK L (k + 1) by rw [hx]; rfl)
      have Hb := Lib.hid hb
      clear hx hb hb1
      go_wp2_with fail
      refine (sDeg x.a x.b x.c _ HX.out.1 HX.out.2.1 HX.out.2.2).mono ?_
      rintro e w2 ⟨rfl, hb2⟩
      have H2 := Lib.hid (Hb.out.trans (((Below.alloc (Below.refl _ _) (Nat.le_refl _) _).trans (hb2.mono (by simp))).mono Hb.out.size))
      clear hb2
      go_wp2_with fail
      go_roundw
      case rel => exact ⟨k + 1, by omega, by go_num, by rw [HD.out], H2.out⟩
      case measure => simp [intOf]; omega
    · have hkl : k = L.length := by omega
      subst hkl
      go_wp2
      go_ret
      exact ⟨rfl, hb⟩
theorem sDegreeOf_nil (p : Int) (a : Option Addr) (cap : Nat) (w : World) (hp : isP p = true) :
    Calls Try.prog 40 #[.int .i64 p, .slice a 0 cap] w fun e w' => e = .returned (.int .i64 (-1)) ∧ Below w.heap.size w w' := by
  have HB := Lib.hid (show Calls Try.prog 30 #[.int .i64 p, .slice a 0 cap] w fun e w' => e = .returned (.bool true) ∧ Below w.heap.size w w' from
    (sPolyValid p (.slice a 0 cap) [] w ⟨by simp, a, cap, rfl, .inl rfl⟩).mono fun e w' h => by rw [hp] at h; exact h)
  clear hp
  go_enter Try.func40, Try.ntmps40
  go_wp2_with fail
  refine HB.out.mono ?_
  rintro e w1 ⟨rfl, hb1⟩
  go_wp2_with fail
  go_loop [5, 14] (fun n i => n = .int .i64 (-1) ∧ i = .int .i64 0) (fun _ _ => 0)
  case atStart => exact ⟨rfl, rfl⟩
  case round =>
    obtain ⟨rfl, rfl⟩ := hrel
    go_wp2_with fail
    go_ret
    exact ⟨rfl, hb1⟩
theorem sDegreeOf_no (p : Int) (v : Value) (L : List Trm) (w : World) (h : Trms w v L) (hn : (isP p && validB p L) = false) :
    Calls Try.prog 40 #[.int .i64 p, v] w fun e w' => e = .returned (.int .i64 (-2)) ∧ Below w.heap.size w w' := by
  have HB := Lib.hid (show Calls Try.prog 30 #[.int .i64 p, v] w fun e w' => e = .returned (.bool false) ∧ Below w.heap.size w w' from
    (sPolyValid p v L w h).mono fun e w' h => by rw [hn] at h; exact h)
  clear hn h
  go_enter Try.func40, Try.ntmps40
  go_wp2_with fail
  refine HB.out.mono ?_
  rintro e w1 ⟨rfl, hb1⟩
  go_wp2_with fail
  go_ret
  exact ⟨rfl, hb1⟩
/-- what the model's DegreeOf hands back, for any prime or none and any list of terms -/
def degV (p : Int) (L : List Trm) : Int := if isP p && validB p L then degK L L.length else -2
theorem sDegreeOf (p : Int) (v : Value) (L : List Trm) (w : World) (h : Trms w v L) :
    Calls Try.prog 40 #[.int .i64 p, v] w fun e w' => e = .returned (.int .i64 (degV p L)) ∧ Below w.heap.size w w' := by
  unfold degV
  cases hn : isP p && validB p L
  · exact sDegreeOf_no p v L w h hn
  · have hn2 := hn
    simp only [Bool.and_eq_true] at hn2
    obtain ⟨hl, a, cap, rfl, h2⟩ := h
    rcases h2 with rfl | ⟨g, off, rfl, hg, hc⟩
    · exact sDegreeOf_nil p a cap w hn2.1
    · exact sDegreeOf_some p g off cap L w hn2.1 hn2.2 hg hc
end Go.Proofs.Ytmndcdcjjihecaa
