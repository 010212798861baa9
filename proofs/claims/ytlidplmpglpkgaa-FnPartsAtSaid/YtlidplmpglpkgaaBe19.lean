/- own -/
import Derived.Test.YtlidplmpglpkgaaBa8
namespace Go.Proofs.Ytlidplmpglpkgaa
open Go.RowKit
set_option maxHeartbeats 2000000 in
theorem sameInts (v1 v2 : Value) (L : List Int) (w : World) (h1 : Ints w v1 L) (h2 : Ints w v2 L) :
    Calls Try.prog 62 #[v1, v2] w fun e w' => e = .returned (.bool true) ∧ Drawn w w' := by
  obtain ⟨m1, a1, cap1, rfl, h1⟩ := h1
  obtain ⟨m2, a2, cap2, rfl, h2⟩ := h2
  have H1 := Lib.hid h1
  have H2 := Lib.hid h2
  clear h1 h2
  go_enter Try.func62, Try.ntmps62
  go_wp2_with fail
  go_loopw [5] (fun i wr => ∃ k : Nat, k ≤ L.length ∧ i = .int .i64 k ∧ Drawn w wr) (fun i _ => L.length - (intOf i).toNat)
  case atStart => exact ⟨0, by omega, rfl, Drawn.refl _⟩
  case round =>
    obtain ⟨k, hk, rfl, hR⟩ := hrel
    by_cases hlt : k < L.length
    · obtain ⟨n, rfl⟩ := hR
      rcases H1.out with h1 | ⟨g1, off1, rfl, hg1, hc1⟩
      · exact absurd hlt (by rw [h1]; simp)
      rcases H2.out with h2 | ⟨g2, off2, rfl, hg2, hc2⟩
      · exact absurd hlt (by rw [h2]; simp)
      have c1 := hc1 k hlt
      have c2 := hc2 k hlt
      have hlt1 : (k : Int) < (L.length : Int) := by omega
      have hk0 : (0 : Int) ≤ (k : Int) := by omega
      have hw : IntKind.i64.wrap ((k : Int) + 1) = (k : Int) + 1 := IntWalk.i64_in _ (by omega)
      generalize L.getD k 0 = x at c1 c2
      clear hc1 hc2 H1 H2
      go_wp2_with fail
      go_quiet (fail)
      go_wp2
      go_roundw
      case rel => exact ⟨k + 1, by omega, by go_num, ⟨n + nq, by simp⟩⟩
      case measure => simp [intOf]; omega
    · have hge : (L.length : Int) ≤ (k : Int) := by omega
      clear H1 H2
      go_wp2
      go_ret
      exact ⟨rfl, hR⟩
end Go.Proofs.Ytlidplmpglpkgaa
