/-
  The laws' comparison of lists of numbers, at equal ones. Conditions: what the slices hold is known.
-/
import Derived.Test.YtajabchbdhjdiaaBa9
import Derived.Test.YtajabchbdhjdiaaBe2
namespace Go.Proofs.Ytajabchbdhjdiaa
open Go.RowKit
set_option maxRecDepth 100000 in
set_option maxHeartbeats 4000000 in
theorem acS (v1 v2 : Value) (L1 L2 : List Int) (w : World) (h1 : Ints w v1 L1) (h2 : Ints w v2 L2) (he : L1 = L2) :
    Calls Try.prog 43 #[v1, v2] w fun e w' => e = .returned (.bool true) ∧ Drawn w w' := by
  subst he
  obtain ⟨m1, a1, cap1, rfl, h1⟩ := h1
  obtain ⟨m2, a2, cap2, rfl, h2⟩ := h2
  have H1 := Lib.hid h1
  have H2 := Lib.hid h2
  clear h1 h2
  go_enter Try.func43, Try.ntmps43
  go_wp2_with fail
  go_loopw [5] (fun i wr => ∃ k : Nat, k ≤ L1.length ∧ i = .int .i64 k ∧ Drawn w wr) (fun i _ => L1.length - (intOf i).toNat)
  case atStart => exact ⟨0, by omega, rfl, Drawn.refl _⟩
  case round =>
    obtain ⟨k, hk, rfl, hR⟩ := hrel
    by_cases hlt : k < L1.length
    · obtain ⟨n, rfl⟩ := hR
      rcases H1.out with h1 | ⟨g1, off1, rfl, hg1, hc1⟩
      · exact absurd hlt (by rw [h1]; simp)
      rcases H2.out with h2 | ⟨g2, off2, rfl, hg2, hc2⟩
      · exact absurd hlt (by rw [h2]; simp)
      have c1 := hc1 k hlt
      have c2 := hc2 k hlt
      have hlt1 : (k : Int) < (L1.length : Int) := by omega
      have hk0 : (0 : Int) ≤ (k : Int) := by omega
      clear hc1 hc2 H1 H2
      generalize L1.getD k 0 = x at c1 c2
      have hxy : (x != x) = false := by simp
      go_wp2_with fail
      go_quiet (fail)
      go_wp2
      go_roundw
      case rel => exact ⟨k + 1, by omega, by go_num, ⟨n + nq, by simp⟩⟩
      case measure => simp [intOf]; omega
    · clear H1 H2
      go_wp2
      go_ret
      exact ⟨by simp, hR⟩
end Go.Proofs.Ytajabchbdhjdiaa
