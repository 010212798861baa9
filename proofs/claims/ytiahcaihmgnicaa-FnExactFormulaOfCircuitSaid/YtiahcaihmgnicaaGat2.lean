/-
  Contracts of the exact laws' helpers on lists of gates, on: markCircuit, heldCircuit. Conditions: what the slices hold is known.
-/
import Derived.Test.YtiahcaihmgnicaaGat
import Derived.Test.YtiahcaihmgnicaaBetw
namespace Go.Proofs.Ytiahcaihmgnicaa
open Go.RowKit
/-- the gate that markCircuit writes in the place j -/
def mk3 (k : Int) (j : Nat) : Gt := ⟨k + 3 * (j : Int), k + 3 * (j : Int) + 1, k + 3 * (j : Int) + 1 + 1⟩
structure MarkG (g off n : Nat) (k : Int) (j : Nat) (w wr : World) : Prop where
  done : ∀ i : Nat, i < j → GAt wr g (off + i * 3) (mk3 k i)
  cells : ∀ i : Nat, i < n * 3 → ∃ x, wr.cell? ⟨g, off + i, none⟩ = some x
  froz : ∀ a, wr.frozen? a = w.frozen? a
  far : ∀ b, b ≠ g → wr.heap[b]? = w.heap[b]?
  size : wr.heap.size = w.heap.size
  os : wr.os = w.os
  tape : wr.tape = w.tape
  output : wr.output = w.output
theorem putG_heap (w : World) (G o : Nat) (x : Gt) (b : Nat) (h : b ≠ G) : (putG w G o x).heap[b]? = w.heap[b]? := by
  unfold putG
  rw [Below.heap_setCell _ _ _ _ h, Below.heap_setCell _ _ _ _ h, Below.heap_setCell _ _ _ _ h]
theorem MarkG.step {g off n : Nat} {k : Int} {j : Nat} {w wr : World} (h : MarkG g off n k j w wr) (hj : j < n) : MarkG g off n k (j + 1) w (putG wr g (off + j * 3) (mk3 k j)) := by
  have hs : ∀ d, d < 3 → ∃ u, wr.cell? ⟨g, off + j * 3 + d, none⟩ = some u := fun d hd => by
    obtain ⟨u, hu⟩ := h.cells (j * 3 + d) (by omega)
    exact ⟨u, by rw [Nat.add_assoc]; exact hu⟩
  constructor
  · intro i hi
    by_cases e : i = j
    · subst e; exact putG_at _ _ _ _ hs
    · obtain ⟨h0, h1, h2⟩ := h.done i (by omega)
      refine ⟨?_, ?_, ?_⟩
      all_goals rw [putG_far _ _ _ _ _ _ (by omega)]; assumption
  · intro i hi
    by_cases e : i < j * 3 ∨ j * 3 + 3 ≤ i
    · obtain ⟨u, hu⟩ := h.cells i hi
      exact ⟨u, by rw [putG_far _ _ _ _ _ _ (by omega)]; exact hu⟩
    · obtain ⟨h0, h1, h2⟩ := putG_at wr g (off + j * 3) (mk3 k j) hs
      have : i = j * 3 ∨ i = j * 3 + 1 ∨ i = j * 3 + 2 := by omega
      rcases this with rfl | rfl | rfl
      · exact ⟨_, h0⟩
      · exact ⟨_, h1⟩
      · exact ⟨_, h2⟩
  · intro a; rw [putG_frozen]; exact h.froz a
  · intro b hb; rw [putG_heap _ _ _ _ _ hb]; exact h.far b hb
  · rw [putG_size]; exact h.size
  · exact h.os
  · exact h.tape
  · exact h.output
set_option maxHeartbeats 4000000 in
theorem markG (g off n cap : Nat) (k : Int) (w : World) (hn : n ≤ 1048576) (hk0 : 0 ≤ k) (hk1 : k ≤ 1000000000000)
    (hc : ∀ i : Nat, i < n * 3 → ∃ x, w.cell? ⟨g, off + i, none⟩ = some x) (hf : ∀ i : Nat, i < n * 3 → w.frozen? ⟨g, off + i, none⟩ = false) :
    Calls Try.prog 39 #[.slice (some ⟨g, off, none⟩) n cap, .int .i64 k] w fun e w' => e = .returned (.int .i64 (k + 3 * (n : Int))) ∧ MarkG g off n k n w w' := by
  have h0 : MarkG g off n k 0 w w := ⟨fun i hi => by omega, hc, fun _ => rfl, fun _ _ => rfl, rfl, rfl, rfl, rfl⟩
  have hF := Lib.hid hf
  clear hc hf
  go_enter Try.func39, Try.ntmps39
  go_wp2_with fail
  go_loopw [1, 5] (fun q i wr => ∃ j : Nat, j ≤ n ∧ i = .int .i64 j ∧ q = .int .i64 (k + 3 * (j : Int)) ∧ MarkG g off n k j w wr) (fun _ i _ => n - (intOf i).toNat)
  case atStart => exact ⟨0, by omega, rfl, by simp, h0⟩
  case round =>
    obtain ⟨j, hj, rfl, rfl, hR⟩ := hrel
    clear h0
    by_cases hlt : j < n
    · have hltp : (j : Int) < (n : Int) := by omega
      have hj0 : (0 : Int) ≤ (j : Int) := by omega
      obtain ⟨u0, c0⟩ := hR.cells (j * 3) (by omega)
      obtain ⟨u1, c1⟩ := hR.cells (j * 3 + 1) (by omega)
      obtain ⟨u2, c2⟩ := hR.cells (j * 3 + 2) (by omega)
      rw [← Nat.add_assoc] at c1 c2
      have f0 : wr.frozen? ⟨g, off + j * 3, none⟩ = false := by rw [hR.froz]; exact hF.out _ (by omega)
      have f1 : wr.frozen? ⟨g, off + j * 3 + 1, none⟩ = false := by rw [hR.froz, Nat.add_assoc]; exact hF.out _ (by omega)
      have f2 : wr.frozen? ⟨g, off + j * 3 + 2, none⟩ = false := by rw [hR.froz, Nat.add_assoc]; exact hF.out _ (by omega)
      have hS := Lib.hid (hR.step hlt)
      clear hR
      go_wp2
      go_roundw
      case rel => exact ⟨j + 1, by omega, by go_num, by go_num, hS.out⟩
      case measure => simp [intOf]; omega
    · have hjn : j = n := by omega
      subst hjn
      go_wp2
      go_ret
      exact ⟨rfl, hR⟩
theorem markGnil (a : Option Addr) (cap : Nat) (k : Int) (w : World) :
    Calls Try.prog 39 #[.slice a 0 cap, .int .i64 k] w fun e w' => e = .returned (.int .i64 k) ∧ w = w' := by
  go_enter Try.func39, Try.ntmps39
  go_wp2_with fail
  go_loop [1, 5] (fun q i => i = .int .i64 0 ∧ q = .int .i64 k) (fun _ _ => 0)
  case atStart => exact ⟨rfl, rfl⟩
  case round =>
    obtain ⟨rfl, rfl⟩ := hrel
    go_wp2_with fail
    go_ret
    exact ⟨rfl, rfl⟩
set_option maxHeartbeats 4000000 in
theorem heldG (g off n cap : Nat) (k : Int) (w : World) (hn : n ≤ 1048576) (hk0 : 0 ≤ k) (hk1 : k ≤ 1000000000000)
    (hc : ∀ i : Nat, i < n → GAt w g (off + i * 3) (mk3 k i)) :
    Calls Try.prog 42 #[.slice (some ⟨g, off, none⟩) n cap, .int .i64 k] w fun e w' => e = .returned (.int .i64 (k + 3 * (n : Int))) ∧ w = w' := by
  have hC := Lib.hid hc
  clear hc
  go_enter Try.func42, Try.ntmps42
  go_wp2_with fail
  go_loop [1, 5] (fun q i => ∃ j : Nat, j ≤ n ∧ i = .int .i64 j ∧ q = .int .i64 (k + 3 * (j : Int))) (fun _ i => n - (intOf i).toNat)
  case atStart => exact ⟨0, by omega, rfl, by simp⟩
  case round =>
    obtain ⟨j, hj, rfl, rfl⟩ := hrel
    by_cases hlt : j < n
    · have hltp : (j : Int) < (n : Int) := by omega
      have hj0 : (0 : Int) ≤ (j : Int) := by omega
      obtain ⟨c0, c1, c2⟩ := hC.out j hlt
      simp only [mk3] at c0 c1 c2
      have n0 : (k + 3 * (j : Int) != k + 3 * (j : Int)) = false := by simp
      have n1 : (k + 3 * (j : Int) + 1 != k + 3 * (j : Int) + 1) = false := by simp
      have n2 : (k + 3 * (j : Int) + 1 + 1 != k + 3 * (j : Int) + 1 + 1) = false := by simp
      go_wp2
      go_round
      case rel => exact ⟨j + 1, by omega, by go_num, by go_num⟩
      case measure => simp [intOf]; omega
    · have hjn : j = n := by omega
      subst hjn
      go_wp2_with fail
      go_ret
      exact ⟨rfl, rfl⟩
theorem heldGnil (a : Option Addr) (cap : Nat) (k : Int) (w : World) :
    Calls Try.prog 42 #[.slice a 0 cap, .int .i64 k] w fun e w' => e = .returned (.int .i64 k) ∧ w = w' := by
  go_enter Try.func42, Try.ntmps42
  go_wp2_with fail
  go_loop [1, 5] (fun q i => i = .int .i64 0 ∧ q = .int .i64 k) (fun _ _ => 0)
  case atStart => exact ⟨rfl, rfl⟩
  case round =>
    obtain ⟨rfl, rfl⟩ := hrel
    go_wp2_with fail
    go_ret
    exact ⟨rfl, rfl⟩
/-- a slice value of n gates that hold k, k + 1, .., in a block from B on -/
def HeldG (w : World) (B : Nat) (v : Value) (n : Nat) (k : Int) : Prop :=
  n ≤ 1048576 ∧ ∃ a cap, v = .slice a n cap ∧ (n = 0 ∨ ∃ g off, a = some ⟨g, off, none⟩ ∧ B ≤ g ∧ g < w.heap.size ∧ ∀ i : Nat, i < n → GAt w g (off + i * 3) (mk3 k i))
theorem HeldG.below {w w' : World} {B : Nat} {v : Value} {n : Nat} {k : Int} (h : HeldG w B v n k) (hb : Below w.heap.size w w') : HeldG w' B v n k := by
  obtain ⟨h1, a, cap, hv, h2⟩ := h
  refine ⟨h1, a, cap, hv, ?_⟩
  rcases h2 with h2 | ⟨g, off, ha, hB, hg, hc⟩
  · exact .inl h2
  · exact .inr ⟨g, off, ha, hB, by have := hb.size; omega, fun j hj => (hc j hj).below hb hg⟩
theorem markGown (v : Value) (L : List Gt) (B : Nat) (k : Int) (w : World) (h : OwnGats w B v L) (hk0 : 0 ≤ k) (hk1 : k ≤ 1000000000000) :
    Calls Try.prog 39 #[v, .int .i64 k] w fun e w' => e = .returned (.int .i64 (k + 3 * (L.length : Int))) ∧ HeldG w' B v L.length k ∧ Below B w w' ∧ w'.heap.size = w.heap.size := by
  obtain ⟨h1, a, cap, rfl, h2⟩ := h
  rcases h2 with rfl | ⟨g, off, rfl, hB, hg, hc, hf⟩
  · refine (markGnil a cap k w).mono ?_
    rintro e w' ⟨rfl, rfl⟩
    exact ⟨by simp, ⟨by simp, a, cap, rfl, .inl rfl⟩, Below.refl _ _, rfl⟩
  · refine (markG g off L.length cap k w h1 hk0 hk1 (fun i hi => ?_) hf).mono ?_
    · obtain ⟨t0, t1, t2⟩ := hc (i / 3) (by omega)
      have : i = i / 3 * 3 ∨ i = i / 3 * 3 + 1 ∨ i = i / 3 * 3 + 2 := by omega
      rcases this with e | e | e
      · rw [e]; exact ⟨_, t0⟩
      · rw [e, ← Nat.add_assoc]; exact ⟨_, t1⟩
      · rw [e, ← Nat.add_assoc]; exact ⟨_, t2⟩
    · rintro e w' ⟨rfl, hM⟩
      exact ⟨rfl, ⟨h1, _, cap, rfl, .inr ⟨g, off, rfl, hB, by rw [hM.size]; exact hg, hM.done⟩⟩, ⟨hM.os, hM.tape, hM.output, by rw [hM.size]; exact Nat.le_refl _, fun b hb => hM.far b (by omega)⟩, hM.size⟩
theorem heldGown (v : Value) (n : Nat) (B : Nat) (k : Int) (w : World) (h : HeldG w B v n k) (hk0 : 0 ≤ k) (hk1 : k ≤ 1000000000000) :
    Calls Try.prog 42 #[v, .int .i64 k] w fun e w' => e = .returned (.int .i64 (k + 3 * (n : Int))) ∧ w = w' := by
  obtain ⟨h1, a, cap, rfl, h2⟩ := h
  rcases h2 with rfl | ⟨g, off, rfl, hB, hg, hc⟩
  · refine (heldGnil a cap k w).mono ?_
    rintro e w' ⟨rfl, rfl⟩
    exact ⟨by simp, rfl⟩
  · exact heldG g off n cap k w h1 hk0 hk1 hc
theorem OwnGats.betw {B C : Nat} {w w' : World} {v : Value} {L : List Gt} (h : OwnGats w C v L) (hb : Betw B C w w') : OwnGats w' C v L := by
  obtain ⟨h1, a, cap, hv, h2⟩ := h
  refine ⟨h1, a, cap, hv, ?_⟩
  rcases h2 with h2 | ⟨g, off, ha, hB, hg, hc, hf⟩
  · exact .inl h2
  · have e := hb.block g (.inr hB)
    refine .inr ⟨g, off, ha, hB, by rw [hb.size]; exact hg, fun j hj => ?_, fun i hi => by rw [frozen_of_heap (p := ⟨g, off + i, none⟩) e]; exact hf i hi⟩
    obtain ⟨c0, c1, c2⟩ := hc j hj
    exact ⟨by rw [cell_of_heap (p := ⟨g, off + j * 3, none⟩) e]; exact c0, by rw [cell_of_heap (p := ⟨g, off + j * 3 + 1, none⟩) e]; exact c1, by rw [cell_of_heap (p := ⟨g, off + j * 3 + 2, none⟩) e]; exact c2⟩
/-- the argument of a law is marked: what was made behind it stays -/
theorem markGbetw (v : Value) (L : List Gt) (B : Nat) (k : Int) (w3 w : World) (h : OwnGats w3 B v L) (hw : Below w3.heap.size w3 w) (hk0 : 0 ≤ k) (hk1 : k ≤ 1000000000000) :
    Calls Try.prog 39 #[v, .int .i64 k] w fun e w' => e = .returned (.int .i64 (k + 3 * (L.length : Int))) ∧ Betw B w3.heap.size w w' := by
  obtain ⟨h1, a, cap, rfl, h2⟩ := h
  rcases h2 with rfl | ⟨g, off, rfl, hB, hg, hc, hf⟩
  · refine (markGnil a cap k w).mono ?_
    rintro e w' ⟨rfl, rfl⟩
    exact ⟨by simp, rfl, rfl, rfl, rfl, fun _ _ => rfl⟩
  · refine (markG g off L.length cap k w h1 hk0 hk1 (fun i hi => ?_) (fun i hi => by rw [hw.frozen (p := ⟨g, off + i, none⟩) hg]; exact hf i hi)).mono ?_
    · obtain ⟨t0, t1, t2⟩ := (hc (i / 3) (by omega)).below hw hg
      have : i = i / 3 * 3 ∨ i = i / 3 * 3 + 1 ∨ i = i / 3 * 3 + 2 := by omega
      rcases this with e | e | e
      · rw [e]; exact ⟨_, t0⟩
      · rw [e, ← Nat.add_assoc]; exact ⟨_, t1⟩
      · rw [e, ← Nat.add_assoc]; exact ⟨_, t2⟩
    · rintro e w' ⟨rfl, hM⟩
      exact ⟨rfl, hM.os, hM.tape, hM.output, hM.size, fun b hb => hM.far b (by omega)⟩
end Go.Proofs.Ytiahcaihmgnicaa
