/-
  Contract of the laws' acCircuit at equal lists of gates. Conditions: what both slices hold is known.
-/
import Derived.Test.YtgbjchidnnmifaaGat
import Derived.Test.YtgbjchidnnmifaaIntS
import Derived.BigQuiet
import Derived.Deep.QuietTactic
namespace Go.Proofs.Ytgbjchidnnmifaa
open Go.RowKit
set_option maxHeartbeats 4000000 in
theorem sameGats (v1 v2 : Value) (L : List Gt) (w : World) (h1 : Gats w v1 L) (h2 : Gats w v2 L) :
    Calls Try.prog 21 #[v1, v2] w fun e w' => e = .returned (.bool true) ∧ Drawn w w' := by
  obtain ⟨m1, a1, cap1, rfl, h1⟩ := h1
  obtain ⟨m2, a2, cap2, rfl, h2⟩ := h2
  have H1 := Lib.hid h1
  have H2 := Lib.hid h2
  have hle : (L.length : Int) ≤ (L.length : Int) := Int.le_refl _
  clear h1 h2
  go_enter Try.func21, Try.ntmps21
  go_wp2_with fail
  go_loopw [11] (fun i wr => ∃ k : Nat, k ≤ L.length ∧ i = .int .i64 k ∧ Drawn w wr) (fun i _ => L.length - (intOf i).toNat)
  case atStart => exact ⟨0, by omega, rfl, Drawn.refl _⟩
  case round =>
    obtain ⟨k, hk, rfl, hR⟩ := hrel
    by_cases hlt : k < L.length
    · obtain ⟨n, rfl⟩ := hR
      rcases H1.out with h1 | ⟨g1, off1, rfl, hg1, hc1⟩
      · exact absurd hlt (by rw [h1]; simp)
      rcases H2.out with h2 | ⟨g2, off2, rfl, hg2, hc2⟩
      · exact absurd hlt (by rw [h2]; simp)
      obtain ⟨c0, c1, c2⟩ := hc1 k hlt
      obtain ⟨d0, d1, d2⟩ := hc2 k hlt
      have hlt1 : (k : Int) < (L.length : Int) := by omega
      have hk0 : (0 : Int) ≤ (k : Int) := by omega
      generalize L.getD k default = x at c0 c1 c2 d0 d1 d2
      obtain ⟨xk, xa, xb⟩ := x
      simp only at c0 c1 c2 d0 d1 d2
      clear hc1 hc2 H1 H2
      go_wp2_with fail
      go_quiet (fail)
      go_wp2
      go_roundw
      case rel => exact ⟨k + 1, by omega, by go_num, ⟨n + nq, by simp⟩⟩
      case measure => simp [intOf]; omega
    · have hge : (L.length : Int) ≤ (k : Int) := by omega
      clear H1 H2
      go_wp2
      go_ret
      exact ⟨rfl, hR⟩
end Go.Proofs.Ytgbjchidnnmifaa
