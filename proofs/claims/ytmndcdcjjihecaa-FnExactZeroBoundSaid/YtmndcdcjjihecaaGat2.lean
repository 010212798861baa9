/-
  Contracts of the exact laws' helpers on lists of gates, on: markCircuit, heldCircuit. Conditions: what the slices hold is known.
-/
import Derived.Test.YtmndcdcjjihecaaGat
import Derived.Test.YtmndcdcjjihecaaBetw
namespace Go.Proofs.Ytmndcdcjjihecaa
open Go.RowKit
/-- the gate that markCircuit writes in the place j -/
def mk3 (k : Int) (j : Nat) : Gt := ⟨k + 3 * (j : Int), k + 3 * (j : Int) + 1, k + 3 * (j : Int) + 1 + 1⟩
structure MarkG (g off n : Nat) (k : Int) (j : Nat) (w wr : World) : Prop where
  done : ∀ i : Nat, i < j → GAt wr g (off + i * 3) (mk3 k i)
  cells : ∀ i : Nat, i < n * 3 → ∃ x, wr.cell? ⟨g, off + i, none⟩ = some x
  froz : ∀ a, wr.frozen? a = w.frozen? a
  far : ∀ b, b ≠ g → wr.heap[b]? = w.heap[b]?
  size : wr.heap.size = w.heap.size
  os : wr.os = w.os
  tape : wr.tape = w.tape
  output : wr.output = w.output
theorem putG_heap (w : World) (G o : Nat) (x : Gt) (b : Nat) (h : b ≠ G) : (putG w G o x).heap[b]? = w.heap[b]? := by
  unfold putG
  rw [Below.heap_setCell _ _ _ _ h, Below.heap_setCell _ _ _ _ h, Below.heap_setCell _ _ _ _ h]
theorem MarkG.step {g off n : Nat} {k : Int} {j : Nat} {w wr : World} (h : MarkG g off n k j w wr) (hj : j < n) : MarkG g off n k (j + 1) w (putG wr g (off + j * 3) (mk3 k j)) := by
  have hs : ∀ d, d < 3 → ∃ u, wr.cell? ⟨g, off + j * 3 + d, none⟩ = some u := fun d hd => by
    obtain ⟨u, hu⟩ := h.cells (j * 3 + d) (by omega)
    exact ⟨u, by rw [Nat.add_assoc]; exact hu⟩
  constructor
  · intro i hi
    by_cases e : i = j
    · subst e; exact putG_at _ _ _ _ hs
    · obtain ⟨h0, h1, h2⟩ := h.done i (by omega)
      refine ⟨?_, ?_, ?_⟩
      all_goals rw [putG_far _ _ _ _ _ _ (by omega)]; assumption
  · intro i hi
    by_cases e : i < j * 3 ∨ j * 3 + 3 ≤ i
    · obtain ⟨u, hu⟩ := h.cells i hi
      exact ⟨u, by rw [putG_far _ _ _ _ _ _ (by omega)]; exact hu⟩
    · obtain ⟨h0, h1, h2⟩ := putG_at wr g (off + j * 3) (mk3 k j) hs
      have : i = j * 3 ∨ i = j * 3 + 1 ∨ i = j * 3 + 2 := by omega
      rcases this with rfl | rfl | rfl
      · exact ⟨_, h0⟩
      · exact ⟨_, h1⟩
      · exact ⟨_, h2⟩
  · intro a; rw [putG_frozen]; exact h.froz a
  · intro b hb; rw [putG_heap _ _ _ _ _ hb]; exact h.far b hb
  · rw [putG_size]; exact h.size
  · exact h.os
  · exact h.tape
  · exact h.output
/-- a slice value of n gates that hold k, k + 1, .., in a block from B on -/
def HeldG (w : World) (B : Nat) (v : Value) (n : Nat) (k : Int) : Prop :=
  n ≤ 1048576 ∧ ∃ a cap, v = .slice a n cap ∧ (n = 0 ∨ ∃ g off, a = some ⟨g, off, none⟩ ∧ B ≤ g ∧ g < w.heap.size ∧ ∀ i : Nat, i < n → GAt w g (off + i * 3) (mk3 k i))
theorem HeldG.below {w w' : World} {B : Nat} {v : Value} {n : Nat} {k : Int} (h : HeldG w B v n k) (hb : Below w.heap.size w w') : HeldG w' B v n k := by
  obtain ⟨h1, a, cap, hv, h2⟩ := h
  refine ⟨h1, a, cap, hv, ?_⟩
  rcases h2 with h2 | ⟨g, off, ha, hB, hg, hc⟩
  · exact .inl h2
  · exact .inr ⟨g, off, ha, hB, by have := hb.size; omega, fun j hj => (hc j hj).below hb hg⟩
theorem OwnGats.betw {B C : Nat} {w w' : World} {v : Value} {L : List Gt} (h : OwnGats w C v L) (hb : Betw B C w w') : OwnGats w' C v L := by
  obtain ⟨h1, a, cap, hv, h2⟩ := h
  refine ⟨h1, a, cap, hv, ?_⟩
  rcases h2 with h2 | ⟨g, off, ha, hB, hg, hc, hf⟩
  · exact .inl h2
  · have e := hb.block g (.inr hB)
    refine .inr ⟨g, off, ha, hB, by rw [hb.size]; exact hg, fun j hj => ?_, fun i hi => by rw [frozen_of_heap (p := ⟨g, off + i, none⟩) e]; exact hf i hi⟩
    obtain ⟨c0, c1, c2⟩ := hc j hj
    exact ⟨by rw [cell_of_heap (p := ⟨g, off + j * 3, none⟩) e]; exact c0, by rw [cell_of_heap (p := ⟨g, off + j * 3 + 1, none⟩) e]; exact c1, by rw [cell_of_heap (p := ⟨g, off + j * 3 + 2, none⟩) e]; exact c2⟩
end Go.Proofs.Ytmndcdcjjihecaa
