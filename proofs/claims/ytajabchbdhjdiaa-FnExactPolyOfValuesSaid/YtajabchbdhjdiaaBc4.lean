/-
  Slices of numbers that a law takes: copied, marked. Conditions: none.
-/
import Derived.Test.YtajabchbdhjdiaaBc1
import Derived.Test.YtajabchbdhjdiaaBa14
namespace Go.Proofs.Ytajabchbdhjdiaa
set_option linter.unusedVariables false
open Go.RowKit
/-- a slice that came in and reads as a list of numbers -/
def RowL (w : World) (a : Option Addr) (len : Nat) (L : List Int) : Prop :=
  L.length = len ∧ len ≤ 9223372036854775807 ∧ (L = [] ∨ ∃ g off, a = some ⟨g, off, none⟩ ∧ g < w.heap.size ∧ ∀ j, j < L.length → w.cell? ⟨g, off + j, none⟩ = some (.int .i64 (L.getD j 0)))
theorem RowL.ints {w : World} {a : Option Addr} {len cap : Nat} {L : List Int} (h : RowL w a len L) (hl : len ≤ 1048576) : Ints w (.slice a len cap) L := by
  obtain ⟨h1, h2, h3⟩ := h
  exact ⟨by omega, a, cap, by rw [h1], h3⟩
theorem toIv (v : Value) (L : List Int) (w : World) (h : Ints w v L) (hL : L.length ≤ 1048576) :
    Calls Try.prog 27 #[v] w fun e w' => ∃ u, e = .returned u ∧ OwnInts w' w.heap.size u L ∧ Below w.heap.size w w' := by
  refine (toIS v L w h hL).mono ?_
  rintro e w' ⟨a, cap, rfl, hc, hd, hb⟩
  refine ⟨_, rfl, ⟨by omega, a, cap, rfl, ?_⟩, hb⟩
  rcases hd with hd | ⟨rfl, h1, h2, h3⟩
  · exact .inl hd
  · exact .inr ⟨w.heap.size, 0, rfl, Nat.le_refl _, h1, fun j hj => by rw [Nat.zero_add]; exact h2 j hj, fun j hj => by rw [Nat.zero_add]; exact h3 j hj⟩
theorem markIsame (v : Value) (L : List Int) (B : Nat) (k : Int) (w3 w : World) (h : OwnInts w3 B v L) (hw : Same B w3 w) (hk0 : 0 ≤ k) (hk1 : k ≤ 1000000000000) :
    Calls Try.prog 24 #[v, .int .i64 k] w fun e w' => e = .returned (.int .i64 (k + (L.length : Nat))) ∧ Betw B w3.heap.size w w' := by
  obtain ⟨h1, a, cap, rfl, h2⟩ := h
  rcases h2 with rfl | ⟨g, off, rfl, hB, hg, hc, hf⟩
  · refine (markNil a cap k w).mono ?_
    rintro e w' ⟨rfl, rfl⟩
    exact ⟨by simp, rfl, rfl, rfl, rfl, fun _ _ => rfl⟩
  · have e := hw g hB hg
    refine (markInts g off L.length cap k w h1 hk0 (by omega) (fun i hi => ⟨_, (cell_of_heap (p := ⟨g, off + i, none⟩) e).trans (hc i hi)⟩) (fun i hi => by rw [frozen_of_heap (p := ⟨g, off + i, none⟩) e]; exact hf i hi)).mono ?_
    rintro e' w' ⟨rfl, hM⟩
    exact ⟨rfl, hM.os, hM.tape, hM.output, hM.size, fun b hb => hM.far b (by omega)⟩
theorem OwnInts.below7 {w w' : World} {B : Nat} {v : Value} {L : List Int} (h : OwnInts w B v L) (hb : Below w.heap.size w w') : OwnInts w' B v L := h.below hb
end Go.Proofs.Ytajabchbdhjdiaa
