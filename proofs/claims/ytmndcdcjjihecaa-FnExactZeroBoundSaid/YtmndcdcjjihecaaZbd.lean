/-
  ZeroBound, of the model and of the program, and the walk of its exact law. Conditions: none but that the slice reads as a list of terms.
-/
import Derived.Test.YtmndcdcjjihecaaLaws
import Derived.Test.YtmndcdcjjihecaaIn
import Derived.Test.YtmndcdcjjihecaaPolF
import Derived.Test.YtmndcdcjjihecaaImC
namespace Go.Proofs.Ytmndcdcjjihecaa
open Go.RowKit
theorem degK_bd {p : Int} {L : List Trm} (h : validB p L = true) : ∀ k, k ≤ L.length → -1 ≤ degK L k ∧ degK L k ≤ 27
  | 0, _ => by simp [degK]
  | k + 1, hk => by
    have := degK_bd h k (by omega)
    have hx := validB_pows h (show k < L.length by omega) rfl
    simp only [degK]
    split
    · simp only [degT]; omega
    · omega
theorem degV_yes {p : Int} {L : List Trm} (h : 0 ≤ degV p L) : isP p = true ∧ degV p L ≤ 27 := by
  unfold degV at h ⊢
  cases hn : isP p && validB p L
  · rw [hn] at h; simp at h
  · simp only [Bool.and_eq_true] at hn
    refine ⟨hn.1, ?_⟩
    simp only [if_true]
    exact (degK_bd hn.2 _ (Nat.le_refl _)).2
/-- what ZeroBound hands back -/
def zbV (p : Int) (L : List Trm) : Int := if degV p L < 0 then -1 else (if degV p L ≤ p then degV p L else p) * p * p
theorem mul_bd5 {a b A B : Int} (h0 : 0 ≤ a) (h1 : a ≤ A) (k0 : 0 ≤ b) (k1 : b ≤ B) : 0 ≤ a * b ∧ a * b ≤ A * B :=
  ⟨Int.mul_nonneg h0 k0, Int.mul_le_mul h1 k1 k0 (by omega)⟩
set_option maxHeartbeats 2000000 in
theorem sZeroBound (p : Int) (v : Value) (L : List Trm) (w : World) (h : Trms w v L) :
    Calls Try.prog 18 #[.int .i64 p, v] w fun e w' => e = .returned (.int .i64 (zbV p L)) ∧ Below w.heap.size w w' := by
  have HD := Lib.hid (sDegreeOf p v L w h)
  have HY := Lib.hid (fun h => degV_yes (p := p) (L := L) h)
  obtain ⟨r, hr⟩ : ∃ r, r = zbV p L := ⟨_, rfl⟩
  rw [← hr]
  unfold zbV at hr
  generalize degV p L = d at *
  clear h
  by_cases hd : d < 0
  · rw [if_pos hd] at hr
    subst hr
    clear HY
    go_enter Try.func18, Try.ntmps18
    go_wp2_with fail
    refine HD.out.mono ?_
    rintro e w1 ⟨rfl, hb1⟩
    go_wp2_with fail
    go_ret
    exact ⟨rfl, hb1⟩
  · rw [if_neg hd] at hr
    obtain ⟨hp, h27⟩ := HY.out (by omega)
    have hb := isP_bd hp
    obtain ⟨m, hm⟩ : ∃ m, m = (if d ≤ p then d else p) := ⟨_, rfl⟩
    rw [← hm] at hr
    have hmb : 0 ≤ m ∧ m ≤ 13 := by rw [hm]; split <;> omega
    have h1 := mul_bd5 hmb.1 hmb.2 (show 0 ≤ p by omega) hb.2
    have h2 := mul_bd5 h1.1 h1.2 (show 0 ≤ p by omega) hb.2
    have e1 : IntKind.i64.wrap (m * p) = m * p := IntWalk.i64_in _ (by omega)
    have e2 : IntKind.i64.wrap (m * p * p) = m * p * p := IntWalk.i64_in _ (by omega)
    clear HY hp hb h1 h2 h27
    by_cases hdp : d ≤ p
    · rw [if_pos hdp] at hm
      subst hm
      clear hmb
      go_enter Try.func18, Try.ntmps18
      go_wp2_with fail
      refine HD.out.mono ?_
      rintro e w1 ⟨rfl, hb1⟩
      go_wp2_with fail
      go_ret
      exact ⟨by subst hr; rfl, hb1⟩
    · rw [if_neg hdp] at hm
      subst hm
      clear hmb
      go_enter Try.func18, Try.ntmps18
      go_wp2_with fail
      refine HD.out.mono ?_
      rintro e w1 ⟨rfl, hb1⟩
      go_wp2_with fail
      go_ret
      exact ⟨by subst hr; rfl, hb1⟩
set_option maxHeartbeats 2000000 in
theorem iZeroBound (p : Int) (v : Value) (L : List Trm) (w : World) (h : Trms w v L) :
    Calls Try.prog 19 #[.int .i64 p, v] w fun e w' => e = .returned (.int .i64 (zbV p L)) ∧ Below w.heap.size w w' := by
  have HD := Lib.hid (iDegreeOf p v L w h)
  have HY := Lib.hid (fun h => degV_yes (p := p) (L := L) h)
  obtain ⟨r, hr⟩ : ∃ r, r = zbV p L := ⟨_, rfl⟩
  rw [← hr]
  unfold zbV at hr
  generalize degV p L = d at *
  clear h
  by_cases hd : d < 0
  · rw [if_pos hd] at hr
    subst hr
    clear HY
    go_enter Try.func19, Try.ntmps19
    go_wp2_with fail
    refine HD.out.mono ?_
    rintro e w1 ⟨rfl, hb1⟩
    go_wp2_with fail
    go_ret
    exact ⟨rfl, hb1⟩
  · rw [if_neg hd] at hr
    obtain ⟨hp, h27⟩ := HY.out (by omega)
    have hb := isP_bd hp
    obtain ⟨m, hm⟩ : ∃ m, m = (if d ≤ p then d else p) := ⟨_, rfl⟩
    rw [← hm] at hr
    have hmb : 0 ≤ m ∧ m ≤ 13 := by rw [hm]; split <;> omega
    have h1 := mul_bd5 hmb.1 hmb.2 (show 0 ≤ p by omega) hb.2
    have h2 := mul_bd5 h1.1 h1.2 (show 0 ≤ p by omega) hb.2
    have e1 : IntKind.i64.wrap (m * p) = m * p := IntWalk.i64_in _ (by omega)
    have e2 : IntKind.i64.wrap (m * p * p) = m * p * p := IntWalk.i64_in _ (by omega)
    clear HY hp hb h1 h2 h27
    by_cases hdp : d ≤ p
    · rw [if_pos hdp] at hm
      subst hm
      clear hmb
      go_enter Try.func19, Try.ntmps19
      go_wp2_with fail
      refine HD.out.mono ?_
      rintro e w1 ⟨rfl, hb1⟩
      go_wp2_with fail
      go_ret
      exact ⟨by subst hr; rfl, hb1⟩
    · rw [if_neg hdp] at hm
      subst hm
      clear hmb
      go_enter Try.func19, Try.ntmps19
      go_wp2_with fail
      refine HD.out.mono ?_
      rintro e w1 ⟨rfl, hb1⟩
      go_wp2_with fail
      go_ret
      exact ⟨by subst hr; rfl, hb1⟩
set_option maxRecDepth 100000 in
set_option maxHeartbeats 8000000 in
theorem xZeroBound_in (a0 : Int) (a1 : Option Addr) (L1 : List Trm) (c1 : Nat) (r0 : Int) (w : World) (h1 : Trms w (.slice a1 L1.length c1) L1) (hl : L1.length ≤ 1048576)
    (hS : ∀ f1, ∀ w, Trms w f1 L1 → Calls Try.prog 18 #[.int .i64 a0, f1] w fun e w' => e = .returned (.int .i64 r0) ∧ Below w.heap.size w w')
    (hI : ∀ f1, ∀ w, Trms w f1 L1 → Calls Try.prog 19 #[.int .i64 a0, f1] w fun e w' => e = .returned (.int .i64 r0) ∧ Below w.heap.size w w') :
    Calls Try.prog 5 #[.int .i64 a0, .slice a1 L1.length c1] w fun e w' => e = .returned (.bool true) ∧ Below w.heap.size w w' := by
  have m1 : (1048576 : Int) - L1.length ≥ 0 := by omega
  have HS1 := Lib.hid (fun w => szP_at a1 L1.length c1 (1048576) w (by omega) (by omega) (by omega))
  have Q1 := Lib.hid h1
  have n1 : (L1.length : Int) ≤ 1048576 := by omega
  clear h1
  have HSP := Lib.hid hS
  have HIM := Lib.hid hI
  clear hS hI
  have bb0 : (r0 != r0) = false := by simp
  go_enter Try.func5, Try.ntmps5
  go_wp2_with fail
  refine (HS1.out _).mono ?_
  rintro e w' ⟨rfl, rfl⟩
  have B := Lib.hid (Below.refl w.heap.size w)
  go_wp2_with fail
  refine (toP _ L1 _ (Q1.out.below B.out)).mono ?_
  rintro e W1 ⟨s1, rfl, ho, hb⟩
  replace B := Lib.hid (B.out.trans (hb.mono B.out.size))
  clear hb
  have S1 := Lib.hid ho.trms
  clear ho
  go_wp2_with fail
  refine (HSP.out _ _ S1.out).mono ?_
  rintro e W2 ⟨rfl, hb⟩
  replace B := Lib.hid (B.out.trans (hb.mono B.out.size))
  replace S1 := Lib.hid (S1.out.below hb)
  clear hb
  clear S1
  go_wp2_with fail
  refine (toP _ L1 _ (Q1.out.below B.out)).mono ?_
  rintro e W3 ⟨x1, rfl, ho, hb⟩
  replace B := Lib.hid (B.out.trans (hb.mono B.out.size))
  clear hb
  have O1 := Lib.hid ho
  clear ho
  have Y1 := Lib.hid (Below.refl W3.heap.size W3)
  go_wp2_with fail
  refine (HIM.out _ _ (O1.out.trms.below Y1.out)).mono ?_
  rintro e W4 ⟨rfl, hb⟩
  replace B := Lib.hid (B.out.trans (hb.mono B.out.size))
  replace Y1 := Lib.hid (Y1.out.trans (hb.mono Y1.out.size))
  clear hb
  go_wp2_with fail
  refine (toP _ L1 _ (Q1.out.below B.out)).mono ?_
  rintro e W5 ⟨y1, rfl, ho, hb⟩
  replace B := Lib.hid (B.out.trans (hb.mono B.out.size))
  replace Y1 := Lib.hid (Y1.out.trans (hb.mono Y1.out.size))
  clear hb
  have S1 := Lib.hid ho.trms
  clear ho
  go_wp2_with fail
  refine (eqP x1 y1 L1 _ (O1.out.trms.below Y1.out) S1.out).mono ?_
  rintro e W6 ⟨rfl, hb⟩
  clear S1
  replace B := Lib.hid (B.out.trans (hb.mono B.out.size))
  replace Y1 := Lib.hid (Y1.out.trans (hb.mono Y1.out.size))
  clear hb
  go_wp2_with fail
  go_ret
  exact ⟨rfl, B.out⟩
set_option maxHeartbeats 1000000 in
theorem xZeroBound_long0 (a0 : Int) (a1 : Option Addr) (n1 c1 : Nat) (w : World) (h1 : 1048576 < n1) (h2 : n1 ≤ 9223372036854775807) :
    Calls Try.prog 5 #[.int .i64 a0, .slice a1 n1 c1] w fun e w' => e = .returned (.bool true) ∧ Below w.heap.size w w' := by
  have HS1 := Lib.hid (fun w => szP_over a1 n1 c1 (1048576) w (by omega) (by omega) (by omega) (by omega))
  clear h1 h2
  go_enter Try.func5, Try.ntmps5
  go_wp2_with fail
  refine (HS1.out _).mono ?_
  rintro e w' ⟨rfl, rfl⟩
  go_wp2_with fail
  go_ret
  exact ⟨rfl, Below.refl _ _⟩
theorem xZeroBound (p : Int) (a : Option Addr) (len cap : Nat) (L : List Trm) (w : World) (h : RowT w a len L) :
    Calls Try.prog 5 #[.int .i64 p, .slice a len cap] w fun e w' => e = .returned (.bool true) ∧ Below w.heap.size w w' := by
  by_cases hl : len ≤ 1048576
  · have := h.1
    subst this
    exact xZeroBound_in p a L cap (zbV p L) w (h.trms hl) hl (fun f w hf => sZeroBound p f L w hf) (fun f w hf => iZeroBound p f L w hf)
  · exact xZeroBound_long0 p a len cap w (by omega) h.2.1
end Go.Proofs.Ytmndcdcjjihecaa
