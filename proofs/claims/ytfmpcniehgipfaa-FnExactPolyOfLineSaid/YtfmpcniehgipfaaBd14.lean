/-
  The walks of the exact laws of PolyValid, DegreeOf and DegreeIn. Conditions: none but that the slice reads as a list of terms.
  The walks of the exact laws whose function hands back a polynomial and a truth value: one polynomial and one integer came in. Condition: both contracts give the same list and truth value.
-/
import Derived.Test.YtfmpcniehgipfaaBd10
import Derived.Test.YtfmpcniehgipfaaBd13
import Derived.Test.YtfmpcniehgipfaaBd4
import Derived.Test.YtfmpcniehgipfaaBd2
import Derived.Test.YtfmpcniehgipfaaBd8
namespace Go.Proofs.Ytfmpcniehgipfaa
open Go.RowKit
end Go.Proofs.Ytfmpcniehgipfaa
namespace Go.Proofs.Ytfmpcniehgipfaa
open Go.RowKit
theorem OwnTrms.betw {B C : Nat} {w w' : World} {v : Value} {L : List Trm} (h : OwnTrms w C v L) (hb : Betw B C w w') : OwnTrms w' C v L := by
  obtain ⟨h1, a, cap, hv, h2⟩ := h
  refine ⟨h1, a, cap, hv, ?_⟩
  rcases h2 with h2 | ⟨g, off, ha, hB, hg, hc, hf⟩
  · exact .inl h2
  · have e := hb.block g (.inr hB)
    refine .inr ⟨g, off, ha, hB, by rw [hb.size]; exact hg, fun j hj => ?_, fun i hi => by rw [frozen_of_heap (p := ⟨g, off + i, none⟩) e]; exact hf i hi⟩
    obtain ⟨c0, c1, c2, c3⟩ := hc j hj
    exact ⟨by rw [cell_of_heap (p := ⟨g, off + j * 4, none⟩) e]; exact c0, by rw [cell_of_heap (p := ⟨g, off + j * 4 + 1, none⟩) e]; exact c1, by rw [cell_of_heap (p := ⟨g, off + j * 4 + 2, none⟩) e]; exact c2, by rw [cell_of_heap (p := ⟨g, off + j * 4 + 3, none⟩) e]; exact c3⟩
/-- the argument of a law is marked: what was made behind it stays -/
theorem markTbetw (v : Value) (L : List Trm) (B : Nat) (k : Int) (w3 w : World) (h : OwnTrms w3 B v L) (hw : Below w3.heap.size w3 w) (hk0 : 0 ≤ k) (hk1 : k ≤ 1000000000000) :
    Calls Try.prog 50 #[v, .int .i64 k] w fun e w' => e = .returned (.int .i64 (k + 4 * (L.length : Int))) ∧ Betw B w3.heap.size w w' := by
  obtain ⟨h1, a, cap, rfl, h2⟩ := h
  rcases h2 with rfl | ⟨g, off, rfl, hB, hg, hc, hf⟩
  · refine (markTnil a cap k w).mono ?_
    rintro e w' ⟨rfl, rfl⟩
    exact ⟨by simp, rfl, rfl, rfl, rfl, fun _ _ => rfl⟩
  · refine (markT g off L.length cap k w h1 hk0 hk1 (fun i hi => ?_) (fun i hi => by rw [hw.frozen (p := ⟨g, off + i, none⟩) hg]; exact hf i hi)).mono ?_
    · obtain ⟨t0, t1, t2, t3⟩ := (hc (i / 4) (by omega)).below hw hg
      have : i = i / 4 * 4 ∨ i = i / 4 * 4 + 1 ∨ i = i / 4 * 4 + 2 ∨ i = i / 4 * 4 + 3 := by omega
      rcases this with e | e | e | e
      · rw [e]; exact ⟨_, t0⟩
      · rw [e, ← Nat.add_assoc]; exact ⟨_, t1⟩
      · rw [e, ← Nat.add_assoc]; exact ⟨_, t2⟩
      · rw [e, ← Nat.add_assoc]; exact ⟨_, t3⟩
    · rintro e w' ⟨rfl, hM⟩
      exact ⟨rfl, hM.os, hM.tape, hM.output, hM.size, fun b hb => hM.far b (by omega)⟩
end Go.Proofs.Ytfmpcniehgipfaa
