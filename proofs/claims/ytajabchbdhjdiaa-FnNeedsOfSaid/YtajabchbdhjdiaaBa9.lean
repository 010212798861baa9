/-
  Contracts of the exact laws' helpers on slices of numbers: eqIntS, markIntS, heldIntS, acSame. Conditions: what the slices hold is known.
  Rows of numbers of a call's own, made by append. Conditions: none.
-/
import Derived.Test.YtajabchbdhjdiaaBa8
import Derived.Test.YtajabchbdhjdiaaChecked
import Derived.WalkKit
import Derived.Lib.Hide
import Derived.Outline
import Derived.BigQuiet
import Derived.Deep.QuietTactic
import Derived.OwnWalk
import Derived.Test.YtajabchbdhjdiaaBa2
import Derived.Below
namespace Go.Proofs.Ytajabchbdhjdiaa
open Go.RowKit
/-- a slice value that reads as a list of numbers in this world -/
def Ints (w : World) (v : Value) (L : List Int) : Prop :=
  L.length ≤ 281474976710656 ∧ ∃ a cap, v = .slice a L.length cap ∧ (L = [] ∨ ∃ g off, a = some ⟨g, off, none⟩ ∧ g < w.heap.size ∧ ∀ j, j < L.length → w.cell? ⟨g, off + j, none⟩ = some (.int .i64 (L.getD j 0)))
/-- only draws lie between two worlds -/
def Drawn (w w' : World) : Prop := ∃ n, w' = w.drewN n
theorem Drawn.refl (w : World) : Drawn w w := ⟨0, rfl⟩
theorem Drawn.more {w w' : World} (h : Drawn w w') (n : Nat) : Drawn w (w'.drewN n) := by
  obtain ⟨m, rfl⟩ := h; exact ⟨m + n, by simp⟩
theorem getD_ext {L M : List Int} (hl : L.length = M.length) (h : ∀ j : Nat, j < L.length → L.getD j 0 = M.getD j 0) : L = M := by
  apply List.ext_getElem hl
  intro j h1 h2
  have := h j h1
  simpa [h1, h2] using this
theorem getD_ne {L M : List Int} (j : Nat) (h : L.getD j 0 ≠ M.getD j 0) : L ≠ M := fun e => h (by rw [e])
theorem snoc_all {P : Nat → Prop} {k : Nat} (h : ∀ j : Nat, j < k → P j) (hk : P k) : ∀ j : Nat, j < k + 1 → P j := by
  intro j hj
  by_cases e : j = k
  · rw [e]; exact hk
  · exact h j (by omega)
theorem ret_bool' {a b : Bool} (h : a = b) : Ending.returned (.bool a) = .returned (.bool b) := by rw [h]
theorem ret_int' {a b : Int} (h : a = b) : Ending.returned (.int .i64 a) = .returned (.int .i64 b) := by rw [h]
set_option maxHeartbeats 1000000 in
theorem eqInts (v1 v2 : Value) (L1 L2 : List Int) (w : World) (h1 : Ints w v1 L1) (h2 : Ints w v2 L2) :
    Calls Try.prog 21 #[v1, v2] w fun e w' => e = .returned (.bool (decide (L1 = L2))) ∧ Drawn w w' := by
  obtain ⟨m1, a1, cap1, rfl, h1⟩ := h1
  obtain ⟨m2, a2, cap2, rfl, h2⟩ := h2
  by_cases hl : L1.length = L2.length
  · have hlb : ((L1.length : Int) != (L2.length : Int)) = false := by simp; omega
    have Hl := Lib.hid hl
    have H1 := Lib.hid h1
    have H2 := Lib.hid h2
    clear h1 h2 hl
    go_enter Try.func21, Try.ntmps21
    go_wp2_with fail
    go_loopw [5] (fun i wr => ∃ k : Nat, k ≤ L1.length ∧ i = .int .i64 k ∧ (∀ j : Nat, j < k → L1.getD j 0 = L2.getD j 0) ∧ Drawn w wr) (fun i _ => L1.length - (intOf i).toNat)
    case atStart => exact ⟨0, by omega, rfl, fun j hj => by omega, Drawn.refl _⟩
    case round =>
      obtain ⟨k, hk, rfl, hall, hR⟩ := hrel
      have Hall := Lib.hid hall
      clear hall
      by_cases hlt : k < L1.length
      · obtain ⟨n, rfl⟩ := hR
        rcases H1.out with h1 | ⟨g1, off1, rfl, hg1, hc1⟩
        · exact absurd hlt (by rw [h1]; simp)
        rcases H2.out with h2 | ⟨g2, off2, rfl, hg2, hc2⟩
        · have := Hl.out; exact absurd hlt (by rw [h2] at this; simp at this; rw [this]; simp)
        have c1 := hc1 k hlt
        have c2 := hc2 k (by rw [← Hl.out]; exact hlt)
        have hlt2 : (k : Int) < (L2.length : Int) := by rw [← Hl.out]; omega
        have hlt1 : (k : Int) < (L1.length : Int) := by omega
        have hk0 : (0 : Int) ≤ (k : Int) := by omega
        clear hc1 hc2
        have hne := getD_ne (L := L1) (M := L2) k
        obtain ⟨x, hx⟩ : ∃ x, x = L1.getD k 0 := ⟨_, rfl⟩
        obtain ⟨y, hy⟩ : ∃ y, y = L2.getD k 0 := ⟨_, rfl⟩
        rw [← hx] at c1 hne
        rw [← hy] at c2 hne
        have Hx := Lib.hid hx
        have Hy := Lib.hid hy
        have Hne := Lib.hid hne
        clear hx hy hne
        clear H1 H2
        cases hxy : (x != y)
        · have hxy' : x = y := by simpa using hxy
          have Hxy := Lib.hid hxy'
          clear hxy'
          go_wp2_with fail
          go_quiet (fail)
          go_wp2
          go_roundw
          case rel => exact ⟨k + 1, by omega, by go_num, snoc_all Hall.out (by rw [← Hx.out, ← Hy.out, Hxy.out]), ⟨n + nq, by simp⟩⟩
          case measure => simp [intOf]; omega
        · have hxy' : x ≠ y := by simpa using hxy
          have hF := Lib.hid (show decide (L1 = L2) = false by simpa using Hne.out hxy')
          clear hxy'
          go_wp2_with fail
          go_quiet (fail)
          go_wp2
          go_ret
          exact ⟨ret_bool' hF.out.symm, ⟨n + nq, by simp⟩⟩
      · have hkl : k = L1.length := by omega
        have hE := getD_ext Hl.out (fun j hj => Hall.out j (by omega))
        have hT := Lib.hid (show decide (L1 = L2) = true by simpa using hE)
        clear hkl hE H1 H2
        go_wp2
        go_ret
        exact ⟨ret_bool' hT.out.symm, hR⟩
  · have hlb : ((L1.length : Int) != (L2.length : Int)) = true := by simp; omega
    have hF := Lib.hid (show decide (L1 = L2) = false by simp; intro e; exact hl (by rw [e]))
    clear h1 h2 hl
    go_enter Try.func21, Try.ntmps21
    go_wp2_with fail
    go_ret
    exact ⟨ret_bool' hF.out.symm, Drawn.refl _⟩
/-- the numbers k, k + 1, .. -/
def counts (k : Int) (n : Nat) : List Int := (List.range n).map fun j => k + (j : Nat)
theorem counts_len (k : Int) (n : Nat) : (counts k n).length = n := by simp [counts]
theorem counts_getD (k : Int) (n j : Nat) (h : j < n) : (counts k n).getD j 0 = k + j := by simp [counts, h]
/-- the world inside markIntS, behind j rounds: block g bears the numbers, all else is as it was -/
structure MarkR (g off n : Nat) (k : Int) (j : Nat) (w wr : World) : Prop where
  done : ∀ i : Nat, i < j → wr.cell? ⟨g, off + i, none⟩ = some (.int .i64 (k + (i : Nat)))
  rest : ∀ i : Nat, j ≤ i → i < n → ∃ x, wr.cell? ⟨g, off + i, none⟩ = some x
  froz : ∀ a, wr.frozen? a = w.frozen? a
  far : ∀ b, b ≠ g → wr.heap[b]? = w.heap[b]?
  size : wr.heap.size = w.heap.size
  os : wr.os = w.os
  tape : wr.tape = w.tape
  output : wr.output = w.output
theorem MarkR.step {g off n : Nat} {k : Int} {j : Nat} {w wr : World} (h : MarkR g off n k j w wr) (hj : j < n) :
    MarkR g off n k (j + 1) w (wr.setCell ⟨g, off + j, none⟩ (.int .i64 (k + (j : Nat)))) := by
  obtain ⟨x, hx⟩ := h.rest j (Nat.le_refl _) hj
  constructor
  · intro i hi
    by_cases e : i = j
    · subst e; exact World.cell?_setCell_same _ _ _ hx
    · rw [World.cell?_setCell_other _ _ _ _ (by simp <;> omega)]; exact h.done i (by omega)
  · intro i hi hin
    obtain ⟨y, hy⟩ := h.rest i (by omega) hin
    exact ⟨y, by rw [World.cell?_setCell_other _ _ _ _ (by simp <;> omega)]; exact hy⟩
  · intro a; rw [World.frozen?_setCell]; exact h.froz a
  · intro b hb; rw [Below.heap_setCell _ _ _ _ hb]; exact h.far b hb
  · simpa using h.size
  · exact h.os
  · exact h.tape
  · exact h.output
set_option maxHeartbeats 1000000 in
theorem markInts (g off n cap : Nat) (k : Int) (w : World) (hn : n ≤ 281474976710656) (hk0 : 0 ≤ k) (hk1 : k ≤ 4611686018427387904)
    (hc : ∀ i : Nat, i < n → ∃ x, w.cell? ⟨g, off + i, none⟩ = some x) (hf : ∀ i : Nat, i < n → w.frozen? ⟨g, off + i, none⟩ = false) :
    Calls Try.prog 24 #[.slice (some ⟨g, off, none⟩) n cap, .int .i64 k] w fun e w' => e = .returned (.int .i64 (k + (n : Nat))) ∧ MarkR g off n k n w w' := by
  have h0 : MarkR g off n k 0 w w := ⟨fun i hi => by omega, fun i _ hi => hc i hi, fun _ => rfl, fun _ _ => rfl, rfl, rfl, rfl, rfl⟩
  have hF := Lib.hid hf
  clear hc hf
  go_enter Try.func24, Try.ntmps24
  go_wp2_with fail
  go_loopw [1, 5] (fun q i wr => ∃ j : Nat, j ≤ n ∧ i = .int .i64 j ∧ q = .int .i64 (k + (j : Nat)) ∧ MarkR g off n k j w wr) (fun _ i _ => n - (intOf i).toNat)
  case atStart => exact ⟨0, by omega, rfl, by simp, h0⟩
  case round =>
    obtain ⟨j, hj, rfl, rfl, hR⟩ := hrel
    clear h0
    by_cases hlt : j < n
    · obtain ⟨x, hx⟩ := hR.rest j (Nat.le_refl _) hlt
      have hfz : wr.frozen? ⟨g, off + j, none⟩ = false := by rw [hR.froz]; exact hF.out j hlt
      have hS := Lib.hid (hR.step hlt)
      clear hR
      go_wp2
      go_roundw
      case rel => exact ⟨j + 1, by omega, by go_num, by go_num, hS.out⟩
      case measure => simp [intOf]; omega
    · have hjn : j = n := by omega
      subst hjn
      go_wp2
      go_ret
      exact ⟨rfl, hR⟩
theorem markNil (a : Option Addr) (cap : Nat) (k : Int) (w : World) :
    Calls Try.prog 24 #[.slice a 0 cap, .int .i64 k] w fun e w' => e = .returned (.int .i64 k) ∧ w = w' := by
  go_enter Try.func24, Try.ntmps24
  go_wp2_with fail
  go_loop [1, 5] (fun q i => i = .int .i64 0 ∧ q = .int .i64 k) (fun _ _ => 0)
  case atStart => exact ⟨rfl, rfl⟩
  case round =>
    obtain ⟨rfl, rfl⟩ := hrel
    go_wp2
    go_ret
    exact ⟨rfl, rfl⟩
set_option maxHeartbeats 1000000 in
theorem heldInts (g off n cap : Nat) (k : Int) (w : World) (hn : n ≤ 281474976710656) (hk0 : 0 ≤ k) (hk1 : k ≤ 4611686018427387904)
    (hc : ∀ i : Nat, i < n → w.cell? ⟨g, off + i, none⟩ = some (.int .i64 (k + (i : Nat)))) :
    Calls Try.prog 25 #[.slice (some ⟨g, off, none⟩) n cap, .int .i64 k] w fun e w' => e = .returned (.int .i64 (k + (n : Nat))) ∧ w = w' := by
  have hC := Lib.hid hc
  clear hc
  go_enter Try.func25, Try.ntmps25
  go_wp2_with fail
  go_loop [1, 5] (fun q i => ∃ j : Nat, j ≤ n ∧ i = .int .i64 j ∧ q = .int .i64 (k + (j : Nat))) (fun _ i => n - (intOf i).toNat)
  case atStart => exact ⟨0, by omega, rfl, by simp⟩
  case round =>
    obtain ⟨j, hj, rfl, rfl⟩ := hrel
    by_cases hlt : j < n
    · have hx := hC.out j hlt
      have hne : (k + (j : Int) != k + (j : Int)) = false := by simp
      go_wp2
      go_round
      case rel => exact ⟨j + 1, by omega, by go_num, by go_num⟩
      case measure => simp [intOf]; omega
    · have hjn : j = n := by omega
      subst hjn
      go_wp2
      go_ret
      exact ⟨rfl, rfl⟩
theorem heldNil (a : Option Addr) (cap : Nat) (k : Int) (w : World) :
    Calls Try.prog 25 #[.slice a 0 cap, .int .i64 k] w fun e w' => e = .returned (.int .i64 k) ∧ w = w' := by
  go_enter Try.func25, Try.ntmps25
  go_wp2_with fail
  go_loop [1, 5] (fun q i => i = .int .i64 0 ∧ q = .int .i64 k) (fun _ _ => 0)
  case atStart => exact ⟨rfl, rfl⟩
  case round =>
    obtain ⟨rfl, rfl⟩ := hrel
    go_wp2
    go_ret
    exact ⟨rfl, rfl⟩
theorem Drawn.below {w w' : World} (h : Drawn w w') (B : Nat) : Below B w w' := by
  obtain ⟨n, rfl⟩ := h
  exact ⟨rfl, rfl, rfl, Nat.le_refl _, fun _ _ => rfl⟩
theorem Drawn.size {w w' : World} (h : Drawn w w') : w'.heap.size = w.heap.size := by
  obtain ⟨n, rfl⟩ := h; rfl
theorem Ints.below {w w' : World} {v : Value} {L : List Int} (h : Ints w v L) (hb : Below w.heap.size w w') : Ints w' v L := by
  obtain ⟨h1, a, cap, hv, h2⟩ := h
  refine ⟨h1, a, cap, hv, ?_⟩
  rcases h2 with h2 | ⟨g, off, ha, hg, hc⟩
  · exact .inl h2
  · refine .inr ⟨g, off, ha, by have := hb.size; omega, fun j hj => ?_⟩
    rw [hb.cell (p := ⟨g, off + j, none⟩) hg]; exact hc j hj
/-- a slice value of n cells that hold k, k + 1, .., in a block from B on -/
def HeldBy (w : World) (B : Nat) (v : Value) (n : Nat) (k : Int) : Prop :=
  n ≤ 281474976710656 ∧ ∃ a cap, v = .slice a n cap ∧ (n = 0 ∨ ∃ g off, a = some ⟨g, off, none⟩ ∧ B ≤ g ∧ g < w.heap.size ∧ ∀ i : Nat, i < n → w.cell? ⟨g, off + i, none⟩ = some (.int .i64 (k + (i : Nat))))
theorem HeldBy.below {w w' : World} {B : Nat} {v : Value} {n : Nat} {k : Int} (h : HeldBy w B v n k) (hb : Below w.heap.size w w') : HeldBy w' B v n k := by
  obtain ⟨h1, a, cap, hv, h2⟩ := h
  refine ⟨h1, a, cap, hv, ?_⟩
  rcases h2 with h2 | ⟨g, off, ha, hB, hg, hc⟩
  · exact .inl h2
  · refine .inr ⟨g, off, ha, hB, by have := hb.size; omega, fun j hj => ?_⟩
    rw [hb.cell (p := ⟨g, off + j, none⟩) hg]; exact hc j hj
/-- a slice of the call's own, from block B on, that reads as a list of numbers -/
def OwnInts (w : World) (B : Nat) (v : Value) (L : List Int) : Prop :=
  L.length ≤ 281474976710656 ∧ ∃ a cap, v = .slice a L.length cap ∧ (L = [] ∨ ∃ g off, a = some ⟨g, off, none⟩ ∧ B ≤ g ∧ g < w.heap.size ∧ (∀ j, j < L.length → w.cell? ⟨g, off + j, none⟩ = some (.int .i64 (L.getD j 0))) ∧ ∀ j, j < L.length → w.frozen? ⟨g, off + j, none⟩ = false)
theorem OwnInts.ints {w : World} {B : Nat} {v : Value} {L : List Int} (h : OwnInts w B v L) : Ints w v L := by
  obtain ⟨h1, a, cap, hv, h2⟩ := h
  refine ⟨h1, a, cap, hv, ?_⟩
  rcases h2 with h2 | ⟨g, off, ha, _, hg, hc, _⟩
  · exact .inl h2
  · exact .inr ⟨g, off, ha, hg, hc⟩
theorem OwnInts.below {w w' : World} {B : Nat} {v : Value} {L : List Int} (h : OwnInts w B v L) (hb : Below w.heap.size w w') : OwnInts w' B v L := by
  obtain ⟨h1, a, cap, hv, h2⟩ := h
  refine ⟨h1, a, cap, hv, ?_⟩
  rcases h2 with h2 | ⟨g, off, ha, hB, hg, hc, hf⟩
  · exact .inl h2
  · refine .inr ⟨g, off, ha, hB, by have := hb.size; omega, fun j hj => ?_, fun j hj => ?_⟩
    · rw [hb.cell (p := ⟨g, off + j, none⟩) hg]; exact hc j hj
    · rw [hb.frozen (p := ⟨g, off + j, none⟩) hg]; exact hf j hj
theorem own_of_row {w : World} {B : Nat} {e : TypeId} {v : Value} {L : List Int} (h : w.ownsRow B e 1 v L.length (L.map (Value.int .i64))) (hle : L.length ≤ 281474976710656) : OwnInts w B v L := by
  have hl := h.lt
  have h0 := h
  obtain ⟨h1, h2⟩ := h
  rcases h2 with ⟨rfl, h2⟩ | ⟨g, cap, cur, rfl, hg, hh, hn, _, _, _⟩
  · refine ⟨hle, none, 0, by rw [h2], .inl (List.length_eq_zero_iff.1 h2)⟩
  · refine ⟨hle, _, cap, rfl, .inr ⟨g, 0, rfl, hg, (hl g rfl).2, fun j hj => ?_, fun j hj => ?_⟩⟩
    · rw [Nat.zero_add, h0.cellAt j (by omega)]; simp [hj]
    · rw [Nat.zero_add]; exact h0.frozenAt j
theorem markOwn (v : Value) (L : List Int) (B : Nat) (k : Int) (w : World) (h : OwnInts w B v L) (hk0 : 0 ≤ k) (hk1 : k ≤ 4611686018427387904) :
    Calls Try.prog 24 #[v, .int .i64 k] w fun e w' => e = .returned (.int .i64 (k + (L.length : Nat))) ∧ HeldBy w' B v L.length k ∧ Below B w w' ∧ w'.heap.size = w.heap.size := by
  obtain ⟨h1, a, cap, rfl, h2⟩ := h
  rcases h2 with rfl | ⟨g, off, rfl, hB, hg, hc, hf⟩
  · refine (markNil a cap k w).mono ?_
    rintro e w' ⟨rfl, rfl⟩
    exact ⟨by simp, ⟨by simp, a, cap, rfl, .inl rfl⟩, Below.refl _ _, rfl⟩
  · refine (markInts g off L.length cap k w h1 hk0 hk1 (fun i hi => ⟨_, hc i hi⟩) hf).mono ?_
    rintro e w' ⟨rfl, hM⟩
    refine ⟨rfl, ⟨h1, _, cap, rfl, .inr ⟨g, off, rfl, hB, by rw [hM.size]; exact hg, hM.done⟩⟩, ⟨hM.os, hM.tape, hM.output, by rw [hM.size]; exact Nat.le_refl _, fun b hb => hM.far b (by omega)⟩, hM.size⟩
theorem heldOwn (v : Value) (n : Nat) (B : Nat) (k : Int) (w : World) (h : HeldBy w B v n k) (hk0 : 0 ≤ k) (hk1 : k ≤ 4611686018427387904) :
    Calls Try.prog 25 #[v, .int .i64 k] w fun e w' => e = .returned (.int .i64 (k + (n : Nat))) ∧ w = w' := by
  obtain ⟨h1, a, cap, rfl, h2⟩ := h
  rcases h2 with rfl | ⟨g, off, rfl, hB, hg, hc⟩
  · refine (heldNil a cap k w).mono ?_
    rintro e w' ⟨rfl, rfl⟩
    exact ⟨by simp, rfl⟩
  · exact heldInts g off n cap k w h1 hk0 hk1 hc
end Go.Proofs.Ytajabchbdhjdiaa
namespace Go.Proofs.Ytajabchbdhjdiaa
set_option linter.unusedVariables false
open Go.RowKit
theorem infoN : (Try.prog.info? 3).map (fun i => (i.zero, i.size, i.bytes)) = some (some (.int .i64 0), 1, 8) := by kernel_rfl
/-- a row of numbers of the call's own -/
def RowN (w : World) (B : Nat) (v : Value) (L : List Int) : Prop := w.ownsRow B 3 1 v L.length (L.map (Value.int .i64))
theorem RowN.below {w w1 : World} {B : Nat} {v : Value} {L : List Int} (h : RowN w B v L) (hb : Below w.heap.size w w1) : RowN w1 B v L := by
  have hl := h.lt
  obtain ⟨h1, h2⟩ := h
  refine ⟨h1, ?_⟩
  rcases h2 with h2 | ⟨g, cap, cur, hv, hg, hh, hr⟩
  · exact .inl h2
  · subst hv
    have := (hl g rfl).2
    exact .inr ⟨g, cap, cur, rfl, hg, by rw [hb.block g this]; exact hh, hr⟩
theorem RowN.nil (w : World) (B : Nat) : RowN w B (.slice none 0 0) [] := World.ownsRow_nil _ _ _ _
theorem RowN.empty (w : World) {B : Nat} (hB : B ≤ w.heap.size) : RowN (w.alloc (.cells #[] 3)) B (.slice (some ⟨w.heap.size, 0, none⟩) 0 0) [] :=
  ⟨rfl, .inr ⟨w.heap.size, 0, #[], rfl, hB, (MapKept.heap_alloc w _).1, Nat.le_refl _, by decide, rfl, rfl⟩⟩
theorem RowN.own {w : World} {B : Nat} {v : Value} {L : List Int} (h : RowN w B v L) (hl : L.length ≤ 281474976710656) : OwnInts w B v L := own_of_row h hl
theorem RowN.base {w : World} {B B' : Nat} {v : Value} {L : List Int} (h : RowN w B v L) (hb : B' ≤ B) : RowN w B' v L := by
  obtain ⟨h1, h2⟩ := h
  refine ⟨h1, ?_⟩
  rcases h2 with h2 | ⟨g, cap, cur, hv, hg, r⟩
  · exact .inl h2
  · exact .inr ⟨g, cap, cur, hv, Nat.le_trans hb hg, r⟩
/-- a call hands back a row of its own with these numbers in it, and writes into nothing that was there -/
def GivesN (L : List Int) (w : World) (e : Ending) (w' : World) : Prop := ∃ v, e = .returned v ∧ RowN w' w.heap.size v L ∧ Below w.heap.size w w'
/-- what an append of one number leaves -/
theorem rowN_snoc {w wr w1 : World} {B : Nat} {v v' : Value} {L : List Int} {k : Int} {o : Obj} (hown : RowN wr B v L) (hlow : Below B w wr) (hB : B ≤ wr.heap.size)
    (hown' : w1.ownsRow B 3 1 v' (L.length + 1) (L.map (Value.int .i64) ++ [.int .i64 k])) (hgrow : (wr.alloc o).grownBy w1 v.ownBlock) :
    RowN w1 B v' (L ++ [k]) ∧ Below B w w1 :=
  ⟨by unfold RowN; simpa using hown', (hlow.alloc hB o).grown hgrow (by simp; omega) (fun j hj => (hown.lt j hj).1)⟩
end Go.Proofs.Ytajabchbdhjdiaa
