/-
  Contracts of the exact laws' helpers on lists of terms, on: markPoly, heldPoly. Conditions: what the slices hold is known.
-/
import Derived.Test.YtmndcdcjjihecaaTrms2
namespace Go.Proofs.Ytmndcdcjjihecaa
open Go.RowKit
/-- the term that markPoly writes in the place j -/
def mk4 (k : Int) (j : Nat) : Trm := ⟨k + 4 * (j : Int), k + 4 * (j : Int) + 1, k + 4 * (j : Int) + 1 + 1, k + 4 * (j : Int) + 1 + 1 + 1⟩
structure MarkT (g off n : Nat) (k : Int) (j : Nat) (w wr : World) : Prop where
  done : ∀ i : Nat, i < j → TAt wr g (off + i * 4) (mk4 k i)
  cells : ∀ i : Nat, i < n * 4 → ∃ x, wr.cell? ⟨g, off + i, none⟩ = some x
  froz : ∀ a, wr.frozen? a = w.frozen? a
  far : ∀ b, b ≠ g → wr.heap[b]? = w.heap[b]?
  size : wr.heap.size = w.heap.size
  os : wr.os = w.os
  tape : wr.tape = w.tape
  output : wr.output = w.output
theorem putT_heap (w : World) (G o : Nat) (x : Trm) (b : Nat) (h : b ≠ G) : (putT w G o x).heap[b]? = w.heap[b]? := by
  unfold putT
  rw [Below.heap_setCell _ _ _ _ h, Below.heap_setCell _ _ _ _ h, Below.heap_setCell _ _ _ _ h, Below.heap_setCell _ _ _ _ h]
theorem MarkT.step {g off n : Nat} {k : Int} {j : Nat} {w wr : World} (h : MarkT g off n k j w wr) (hj : j < n) : MarkT g off n k (j + 1) w (putT wr g (off + j * 4) (mk4 k j)) := by
  have hs : ∀ d, d < 4 → ∃ u, wr.cell? ⟨g, off + j * 4 + d, none⟩ = some u := fun d hd => by
    obtain ⟨u, hu⟩ := h.cells (j * 4 + d) (by omega)
    exact ⟨u, by rw [Nat.add_assoc]; exact hu⟩
  constructor
  · intro i hi
    by_cases e : i = j
    · subst e; exact putT_at _ _ _ _ hs
    · obtain ⟨h0, h1, h2, h3⟩ := h.done i (by omega)
      refine ⟨?_, ?_, ?_, ?_⟩
      all_goals rw [putT_far _ _ _ _ _ _ (by omega)]; assumption
  · intro i hi
    by_cases e : i < j * 4 ∨ j * 4 + 4 ≤ i
    · obtain ⟨u, hu⟩ := h.cells i hi
      exact ⟨u, by rw [putT_far _ _ _ _ _ _ (by omega)]; exact hu⟩
    · obtain ⟨h0, h1, h2, h3⟩ := putT_at wr g (off + j * 4) (mk4 k j) hs
      have : i = j * 4 ∨ i = j * 4 + 1 ∨ i = j * 4 + 2 ∨ i = j * 4 + 3 := by omega
      rcases this with rfl | rfl | rfl | rfl
      · exact ⟨_, h0⟩
      · exact ⟨_, h1⟩
      · exact ⟨_, h2⟩
      · exact ⟨_, h3⟩
  · intro a; rw [putT_frozen]; exact h.froz a
  · intro b hb; rw [putT_heap _ _ _ _ _ hb]; exact h.far b hb
  · rw [putT_size]; exact h.size
  · exact h.os
  · exact h.tape
  · exact h.output
set_option maxHeartbeats 4000000 in
theorem markT (g off n cap : Nat) (k : Int) (w : World) (hn : n ≤ 1048576) (hk0 : 0 ≤ k) (hk1 : k ≤ 1000000000000)
    (hc : ∀ i : Nat, i < n * 4 → ∃ x, w.cell? ⟨g, off + i, none⟩ = some x) (hf : ∀ i : Nat, i < n * 4 → w.frozen? ⟨g, off + i, none⟩ = false) :
    Calls Try.prog 14 #[.slice (some ⟨g, off, none⟩) n cap, .int .i64 k] w fun e w' => e = .returned (.int .i64 (k + 4 * (n : Int))) ∧ MarkT g off n k n w w' := by
  have h0 : MarkT g off n k 0 w w := ⟨fun i hi => by omega, hc, fun _ => rfl, fun _ _ => rfl, rfl, rfl, rfl, rfl⟩
  have hF := Lib.hid hf
  clear hc hf
  go_enter Try.func14, Try.ntmps14
  go_wp2_with fail
  go_loopw [1, 5] (fun q i wr => ∃ j : Nat, j ≤ n ∧ i = .int .i64 j ∧ q = .int .i64 (k + 4 * (j : Int)) ∧ MarkT g off n k j w wr) (fun _ i _ => n - (intOf i).toNat)
  case atStart => exact ⟨0, by omega, rfl, by simp, h0⟩
  case round =>
    obtain ⟨j, hj, rfl, rfl, hR⟩ := hrel
    clear h0
    by_cases hlt : j < n
    · have hltp : (j : Int) < (n : Int) := by omega
      have hj0 : (0 : Int) ≤ (j : Int) := by omega
      obtain ⟨u0, c0⟩ := hR.cells (j * 4) (by omega)
      obtain ⟨u1, c1⟩ := hR.cells (j * 4 + 1) (by omega)
      obtain ⟨u2, c2⟩ := hR.cells (j * 4 + 2) (by omega)
      obtain ⟨u3, c3⟩ := hR.cells (j * 4 + 3) (by omega)
      rw [← Nat.add_assoc] at c1 c2 c3
      have f0 : wr.frozen? ⟨g, off + j * 4, none⟩ = false := by rw [hR.froz]; exact hF.out _ (by omega)
      have f1 : wr.frozen? ⟨g, off + j * 4 + 1, none⟩ = false := by rw [hR.froz, Nat.add_assoc]; exact hF.out _ (by omega)
      have f2 : wr.frozen? ⟨g, off + j * 4 + 2, none⟩ = false := by rw [hR.froz, Nat.add_assoc]; exact hF.out _ (by omega)
      have f3 : wr.frozen? ⟨g, off + j * 4 + 3, none⟩ = false := by rw [hR.froz, Nat.add_assoc]; exact hF.out _ (by omega)
      have hS := Lib.hid (hR.step hlt)
      clear hR
      go_wp2_with fail
      refine wp_loop_rounds 4 ?_
      iterate 4 (rw [rounds_succ]; go_wp2)
      go_roundw
      case rel => exact ⟨j + 1, by omega, by go_num, by go_num, hS.out⟩
      case measure => simp [intOf]; omega
    · have hjn : j = n := by omega
      subst hjn
      go_wp2
      go_ret
      exact ⟨rfl, hR⟩
theorem markTnil (a : Option Addr) (cap : Nat) (k : Int) (w : World) :
    Calls Try.prog 14 #[.slice a 0 cap, .int .i64 k] w fun e w' => e = .returned (.int .i64 k) ∧ w = w' := by
  go_enter Try.func14, Try.ntmps14
  go_wp2_with fail
  go_loop [1, 5] (fun q i => i = .int .i64 0 ∧ q = .int .i64 k) (fun _ _ => 0)
  case atStart => exact ⟨rfl, rfl⟩
  case round =>
    obtain ⟨rfl, rfl⟩ := hrel
    go_wp2_with fail
    go_ret
    exact ⟨rfl, rfl⟩
set_option maxHeartbeats 4000000 in
theorem heldT (g off n cap : Nat) (k : Int) (w : World) (hn : n ≤ 1048576) (hk0 : 0 ≤ k) (hk1 : k ≤ 1000000000000)
    (hc : ∀ i : Nat, i < n → TAt w g (off + i * 4) (mk4 k i)) :
    Calls Try.prog 15 #[.slice (some ⟨g, off, none⟩) n cap, .int .i64 k] w fun e w' => e = .returned (.int .i64 (k + 4 * (n : Int))) ∧ w = w' := by
  have hC := Lib.hid hc
  clear hc
  go_enter Try.func15, Try.ntmps15
  go_wp2_with fail
  go_loop [1, 5] (fun q i => ∃ j : Nat, j ≤ n ∧ i = .int .i64 j ∧ q = .int .i64 (k + 4 * (j : Int))) (fun _ i => n - (intOf i).toNat)
  case atStart => exact ⟨0, by omega, rfl, by simp⟩
  case round =>
    obtain ⟨j, hj, rfl, rfl⟩ := hrel
    by_cases hlt : j < n
    · have hltp : (j : Int) < (n : Int) := by omega
      have hj0 : (0 : Int) ≤ (j : Int) := by omega
      obtain ⟨c0, c1, c2, c3⟩ := hC.out j hlt
      simp only [mk4] at c0 c1 c2 c3
      have n0 : (k + 4 * (j : Int) != k + 4 * (j : Int)) = false := by simp
      have n1 : (k + 4 * (j : Int) + 1 != k + 4 * (j : Int) + 1) = false := by simp
      have n2 : (k + 4 * (j : Int) + 1 + 1 != k + 4 * (j : Int) + 1 + 1) = false := by simp
      have n3 : (k + 4 * (j : Int) + 1 + 1 + 1 != k + 4 * (j : Int) + 1 + 1 + 1) = false := by simp
      go_wp2_with fail
      refine wp_loop_rounds 4 ?_
      iterate 4 (rw [rounds_succ]; go_wp2)
      go_round
      case rel => exact ⟨j + 1, by omega, by go_num, by go_num⟩
      case measure => simp [intOf]; omega
    · have hjn : j = n := by omega
      subst hjn
      go_wp2_with fail
      go_ret
      exact ⟨rfl, rfl⟩
theorem heldTnil (a : Option Addr) (cap : Nat) (k : Int) (w : World) :
    Calls Try.prog 15 #[.slice a 0 cap, .int .i64 k] w fun e w' => e = .returned (.int .i64 k) ∧ w = w' := by
  go_enter Try.func15, Try.ntmps15
  go_wp2_with fail
  go_loop [1, 5] (fun q i => i = .int .i64 0 ∧ q = .int .i64 k) (fun _ _ => 0)
  case atStart => exact ⟨rfl, rfl⟩
  case round =>
    obtain ⟨rfl, rfl⟩ := hrel
    go_wp2_with fail
    go_ret
    exact ⟨rfl, rfl⟩
/-- a slice value of n terms that hold k, k + 1, .., in a block from B on -/
def HeldT (w : World) (B : Nat) (v : Value) (n : Nat) (k : Int) : Prop :=
  n ≤ 1048576 ∧ ∃ a cap, v = .slice a n cap ∧ (n = 0 ∨ ∃ g off, a = some ⟨g, off, none⟩ ∧ B ≤ g ∧ g < w.heap.size ∧ ∀ i : Nat, i < n → TAt w g (off + i * 4) (mk4 k i))
theorem HeldT.below {w w' : World} {B : Nat} {v : Value} {n : Nat} {k : Int} (h : HeldT w B v n k) (hb : Below w.heap.size w w') : HeldT w' B v n k := by
  obtain ⟨h1, a, cap, hv, h2⟩ := h
  refine ⟨h1, a, cap, hv, ?_⟩
  rcases h2 with h2 | ⟨g, off, ha, hB, hg, hc⟩
  · exact .inl h2
  · exact .inr ⟨g, off, ha, hB, by have := hb.size; omega, fun j hj => (hc j hj).below hb hg⟩
theorem markTown (v : Value) (L : List Trm) (B : Nat) (k : Int) (w : World) (h : OwnTrms w B v L) (hk0 : 0 ≤ k) (hk1 : k ≤ 1000000000000) :
    Calls Try.prog 14 #[v, .int .i64 k] w fun e w' => e = .returned (.int .i64 (k + 4 * (L.length : Int))) ∧ HeldT w' B v L.length k ∧ Below B w w' ∧ w'.heap.size = w.heap.size := by
  obtain ⟨h1, a, cap, rfl, h2⟩ := h
  rcases h2 with rfl | ⟨g, off, rfl, hB, hg, hc, hf⟩
  · refine (markTnil a cap k w).mono ?_
    rintro e w' ⟨rfl, rfl⟩
    exact ⟨by simp, ⟨by simp, a, cap, rfl, .inl rfl⟩, Below.refl _ _, rfl⟩
  · refine (markT g off L.length cap k w h1 hk0 hk1 (fun i hi => ?_) hf).mono ?_
    · obtain ⟨t0, t1, t2, t3⟩ := hc (i / 4) (by omega)
      have : i = i / 4 * 4 ∨ i = i / 4 * 4 + 1 ∨ i = i / 4 * 4 + 2 ∨ i = i / 4 * 4 + 3 := by omega
      rcases this with e | e | e | e
      · rw [e]; exact ⟨_, t0⟩
      · rw [e, ← Nat.add_assoc]; exact ⟨_, t1⟩
      · rw [e, ← Nat.add_assoc]; exact ⟨_, t2⟩
      · rw [e, ← Nat.add_assoc]; exact ⟨_, t3⟩
    · rintro e w' ⟨rfl, hM⟩
      exact ⟨rfl, ⟨h1, _, cap, rfl, .inr ⟨g, off, rfl, hB, by rw [hM.size]; exact hg, hM.done⟩⟩, ⟨hM.os, hM.tape, hM.output, by rw [hM.size]; exact Nat.le_refl _, fun b hb => hM.far b (by omega)⟩, hM.size⟩
theorem heldTown (v : Value) (n : Nat) (B : Nat) (k : Int) (w : World) (h : HeldT w B v n k) (hk0 : 0 ≤ k) (hk1 : k ≤ 1000000000000) :
    Calls Try.prog 15 #[v, .int .i64 k] w fun e w' => e = .returned (.int .i64 (k + 4 * (n : Int))) ∧ w = w' := by
  obtain ⟨h1, a, cap, rfl, h2⟩ := h
  rcases h2 with rfl | ⟨g, off, rfl, hB, hg, hc⟩
  · refine (heldTnil a cap k w).mono ?_
    rintro e w' ⟨rfl, rfl⟩
    exact ⟨by simp, rfl⟩
  · exact heldT g off n cap k w h1 hk0 hk1 hc
end Go.Proofs.Ytmndcdcjjihecaa
