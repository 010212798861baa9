/-
  Contracts of the exact laws' helpers on lists of terms, on: szPoly, toPoly, eqPoly. Conditions: what the slices hold is known.
  Contracts of the exact laws' helpers on lists of terms, on: markPoly, heldPoly. Conditions: what the slices hold is known.
  Programs of paths in the heap: a slice of arrows. Conditions: none.
  A region that draws its order, of operations without guards, whose last one waits for all the others: the others one after the other in an order of one's own, those that yield the same in every world of a class taken first, the last one behind them. Conditions: the order's edges, as one Bool.
-/
import Derived.Test.YtlcmddghppdmgaaBp2
import Derived.Deep.RegionHeld3
import Derived.Below
import Derived.OwnWalk
namespace Go.Proofs.Ytlcmddghppdmgaa
open Go.RowKit
/-- a call hands back a slice of terms of its own -/
def GivesTrms (L : List Trm) (w : World) (e : Ending) (w' : World) : Prop :=
  ∃ v, e = .returned v ∧ OwnTrms w' w.heap.size v L ∧ Below w.heap.size w w'
theorem made_some (z0 : Array Value) (n i : Nat) (h : i < n) : ∃ u, (madeCells z0 n).toList[i]? = some u := by
  have : i < (madeCells z0 n).toList.length := by simp [size_madeCells, h]
  exact ⟨_, List.getElem?_eq_getElem this⟩
set_option maxHeartbeats 2000000 in
theorem toP_some (cap : Nat) (g off : Nat) (L : List Trm) (w : World) (hL : 0 < L.length) (hL1 : L.length ≤ 1048576) (hg : g < w.heap.size)
    (hc : ∀ j : Nat, j < L.length → TAt w g (off + j * 4) (L.getD j default)) :
    Calls Try.prog 192 #[.slice (some ⟨g, off, none⟩) L.length cap] w (GivesTrms L w) := by
  obtain ⟨i0, hi, hz0, hz1, hz2⟩ := info_parts infoT
  have HC := Lib.hid hc
  clear hc
  go_enter Try.func192, Try.ntmps192
  go_wp2_with (at_make; refine wpList_make_full _ rfl _ _ 53 rfl w.heap.size 74 i0 (.agg #[.int .i64 0, .int .i64 0, .int .i64 0, .int .i64 0]) 4 Try.underlying53 hi hz0 hz1 .i64 .i64 L.length L.length L.length rfl rfl rfl rfl ?c2 ?c3 ?c4 ?_)
  case c2 => rw [hz2]; omega
  case c3 => unfold maxLen; omega
  case c4 => exact Nat.le_refl _
  intro w2 hown hgr
  have hS : BuildW L w.heap.size 0 w w2 := by
    constructor
    · intro j hj; omega
    · intro i hi
      rw [hown.cellAt i hi]
      exact made_some _ _ _ hi
    · intro i hi; exact hown.frozenAt i
    · exact (hown.lt _ rfl).2
    · exact (Below.refl _ _).grown hgr (Nat.le_refl _) (fun k hk => by cases hk)
  clear hown hgr hi hz0 hz1 hz2
  go_wp2_with fail
  go_loopw [4] (fun i wr => ∃ k : Nat, k ≤ L.length ∧ i = .int .i64 k ∧ BuildW L w.heap.size k w wr) (fun i _ => L.length - (intOf i).toNat)
  case atStart => exact ⟨0, by omega, rfl, hS⟩
  case round =>
    clear hS
    obtain ⟨k, hk, rfl, hS⟩ := hrel
    by_cases hlt : k < L.length
    · have hltp : (k : Int) < (L.length : Int) := by omega
      have hk0 : (0 : Int) ≤ (k : Int) := by omega
      have HS := Lib.hid hS
      obtain ⟨h0, h1, h2, h3⟩ := (HC.out k hlt).below hS.low hg
      clear hS
      obtain ⟨x, hx⟩ : ∃ x, x = L.getD k default := ⟨_, rfl⟩
      rw [← hx] at h0 h1 h2 h3
      have Hx := Lib.hid hx
      clear hx
      go_wp2_with fail
      refine (toT x.a x.b x.c x.t _).mono ?_
      rintro e w3 ⟨rfl, hb3⟩
      have hS3 := HS.out.below hb3
      have hSt := Lib.hid (hS3.step hlt (Nat.le_refl _))
      obtain ⟨u0, c0⟩ := hS3.some (k * 4) (by omega)
      obtain ⟨u1, c1⟩ := hS3.some (k * 4 + 1) (by omega)
      obtain ⟨u2, c2⟩ := hS3.some (k * 4 + 2) (by omega)
      obtain ⟨u3, c3⟩ := hS3.some (k * 4 + 3) (by omega)
      have f0 := hS3.froz (k * 4) (by omega)
      have f1 := hS3.froz (k * 4 + 1) (by omega)
      have f2 := hS3.froz (k * 4 + 2) (by omega)
      have f3 := hS3.froz (k * 4 + 3) (by omega)
      clear hS3 hb3 HS h0 h1 h2 h3
      go_wp2
      go_roundw
      case rel => exact ⟨k + 1, by omega, by go_num, by have := hSt.out; rw [← Hx.out] at this; exact this⟩
      case measure => simp [intOf]; omega
    · have hkl : k = L.length := by omega
      subst hkl
      go_wp2
      go_ret
      exact ⟨_, rfl, ⟨hL1, _, _, rfl, .inr ⟨w.heap.size, 0, rfl, Nat.le_refl _, hS.sz, fun j hj => by rw [Nat.zero_add]; exact hS.done j hj, fun i hi => by rw [Nat.zero_add]; exact hS.froz i hi⟩⟩, hS.low⟩
theorem toP_nil (a : Option Addr) (cap : Nat) (w : World) :
    Calls Try.prog 192 #[.slice a 0 cap] w (GivesTrms [] w) := by
  obtain ⟨i0, hi, hz0, hz1, hz2⟩ := info_parts infoT
  go_enter Try.func192, Try.ntmps192
  go_wp2_with (at_make; refine wpList_make_full _ rfl _ _ 53 rfl w.heap.size 74 i0 (.agg #[.int .i64 0, .int .i64 0, .int .i64 0, .int .i64 0]) 4 Try.underlying53 hi hz0 hz1 .i64 .i64 0 0 0 rfl rfl rfl rfl ?c2 ?c3 ?c4 ?_)
  case c2 => omega
  case c3 => unfold maxLen; omega
  case c4 => exact Nat.le_refl _
  intro w2 hown hgr
  have hlow : Below w.heap.size w w2 := (Below.refl _ _).grown hgr (Nat.le_refl _) (fun k hk => by cases hk)
  clear hown hgr hi hz0 hz1 hz2
  go_wp2_with fail
  go_loop [4] (fun i => i = .int .i64 0) (fun _ => 0)
  case atStart => rfl
  case round =>
    obtain rfl := hrel
    go_wp2
    go_ret
    exact ⟨_, rfl, ⟨by simp, _, _, rfl, .inl rfl⟩, hlow⟩
theorem toP (v : Value) (L : List Trm) (w : World) (h : Trms w v L) :
    Calls Try.prog 192 #[v] w (GivesTrms L w) := by
  obtain ⟨h1, a, cap, rfl, h2⟩ := h
  rcases h2 with rfl | ⟨g, off, rfl, hg, hc⟩
  · exact toP_nil a cap w
  · by_cases h0 : 0 < L.length
    · exact toP_some cap g off L w h0 h1 hg hc
    · have : L = [] := List.length_eq_zero_iff.1 (by omega)
      subst this
      exact toP_nil _ cap w
theorem szP (a : Option Addr) (n cap : Nat) (m : Int) (w : World) (hm0 : 0 ≤ m) (hm1 : m ≤ 1048576) (hn : (n : Int) ≤ 9223372036854775807) :
    Calls Try.prog 189 #[.slice a n cap, .int .i64 m] w fun e w' => e = .returned (.int .i64 (if m < n then -1 else m - n)) ∧ w = w' := by
  by_cases h : m < (n : Int)
  · rw [if_pos h]
    go_enter Try.func189, Try.ntmps189
    go_wp2
    go_ret
    exact ⟨rfl, rfl⟩
  · rw [if_neg h]
    go_enter Try.func189, Try.ntmps189
    go_wp2
    go_ret
    exact ⟨rfl, rfl⟩
theorem keepTT {W w1 : World} {g1 o1 g2 o2 : Nat} {x y : Trm} (hb : Below W.heap.size W w1) (h1 : g1 < W.heap.size) (h2 : g2 < W.heap.size) (h : TAt W g1 o1 x ∧ TAt W g2 o2 y) : TAt w1 g1 o1 x ∧ TAt w1 g2 o2 y :=
  ⟨h.1.below hb h1, h.2.below hb h2⟩
set_option maxHeartbeats 4000000 in
theorem eqP_same (g1 o1 c1 g2 o2 c2 : Nat) (L : List Trm) (w : World) (hl : L.length ≤ 1048576) (hg1 : g1 < w.heap.size) (hg2 : g2 < w.heap.size)
    (h1 : ∀ j : Nat, j < L.length → TAt w g1 (o1 + j * 4) (L.getD j default)) (h2 : ∀ j : Nat, j < L.length → TAt w g2 (o2 + j * 4) (L.getD j default)) :
    Calls Try.prog 49 #[.slice (some ⟨g1, o1, none⟩) L.length c1, .slice (some ⟨g2, o2, none⟩) L.length c2] w fun e w' => e = .returned (.bool true) ∧ Below w.heap.size w w' := by
  have H1 := Lib.hid h1
  have H2 := Lib.hid h2
  clear h1 h2
  go_enter Try.func49, Try.ntmps49
  go_wp2_with fail
  go_loopw [5] (fun i wr => ∃ k : Nat, k ≤ L.length ∧ i = .int .i64 k ∧ Below w.heap.size w wr) (fun i _ => L.length - (intOf i).toNat)
  case atStart => exact ⟨0, by omega, rfl, Below.refl _ _⟩
  case round =>
    obtain ⟨k, hk, rfl, hb⟩ := hrel
    by_cases hlt : k < L.length
    · have hltp : (k : Int) < (L.length : Int) := by omega
      have hk0 : (0 : Int) ≤ (k : Int) := by omega
      obtain ⟨a0, a1, a2, a3⟩ := (H1.out k hlt).below hb hg1
      obtain ⟨b0, b1, b2, b3⟩ := (H2.out k hlt).below hb hg2
      obtain ⟨x, hx⟩ : ∃ x, x = L.getD k default := ⟨_, rfl⟩
      rw [← hx] at a0 a1 a2 a3 b0 b1 b2 b3
      clear hx
      have hr1 : g1 < wr.heap.size := Nat.lt_of_lt_of_le hg1 hb.size
      have hr2 : g2 < wr.heap.size := Nat.lt_of_lt_of_le hg2 hb.size
      have Hb := Lib.hid hb
      clear hb
      go_wp2_with fail
      go_region_held3 (fun w' => (w'.cell? ⟨g1, o1 + k * 4, none⟩ = some (.int .i64 x.a) ∧ w'.cell? ⟨g1, o1 + k * 4 + 1, none⟩ = some (.int .i64 x.b) ∧ w'.cell? ⟨g1, o1 + k * 4 + 2, none⟩ = some (.int .i64 x.c) ∧ w'.cell? ⟨g1, o1 + k * 4 + 3, none⟩ = some (.int .i64 x.t)) ∧ w'.cell? ⟨g2, o2 + k * 4, none⟩ = some (.int .i64 x.a) ∧ w'.cell? ⟨g2, o2 + k * 4 + 1, none⟩ = some (.int .i64 x.b) ∧ w'.cell? ⟨g2, o2 + k * 4 + 2, none⟩ = some (.int .i64 x.c) ∧ w'.cell? ⟨g2, o2 + k * 4 + 3, none⟩ = some (.int .i64 x.t)) (first | go_keep | exact keepTT hb1 (by simpa using hr1) (by simpa using hr2) (by assumption))
        (first | (go_at_call 126; refine (eqT x.a x.b x.c x.t x.a x.b x.c x.t _).mono ?_; rintro e w1 ⟨rfl, hb1⟩))
      have hs := Hb.out.size
      have hbb : Below w.heap.size w _ := Below.trans (by repeat (first | exact Hb.out | apply Below.drew | apply below_drewN)) (hb1.mono (by simpa using hs))
      go_wp2
      go_roundw
      case rel => exact ⟨k + 1, by omega, by go_num, by repeat (first | exact hbb | apply Below.drew | apply below_drewN)⟩
      case measure => simp [intOf]; omega
    · go_wp2
      go_ret
      exact ⟨rfl, hb⟩
theorem eqP_nil (a1 a2 : Option Addr) (c1 c2 : Nat) (w : World) :
    Calls Try.prog 49 #[.slice a1 0 c1, .slice a2 0 c2] w fun e w' => e = .returned (.bool true) ∧ Below w.heap.size w w' := by
  go_enter Try.func49, Try.ntmps49
  go_wp2_with fail
  go_loop [5] (fun i => i = .int .i64 0) (fun _ => 0)
  case atStart => rfl
  case round =>
    obtain rfl := hrel
    go_wp2
    go_ret
    exact ⟨rfl, Below.refl _ _⟩
/-- two slices that read as one list are found equal -/
theorem eqP (v1 v2 : Value) (L : List Trm) (w : World) (h1 : Trms w v1 L) (h2 : Trms w v2 L) :
    Calls Try.prog 49 #[v1, v2] w fun e w' => e = .returned (.bool true) ∧ Below w.heap.size w w' := by
  obtain ⟨hl, a1, c1, rfl, h1⟩ := h1
  obtain ⟨_, a2, c2, rfl, h2⟩ := h2
  rcases h1 with rfl | ⟨g1, o1, rfl, hg1, h1⟩
  · exact eqP_nil a1 a2 c1 c2 w
  · rcases h2 with rfl | ⟨g2, o2, rfl, hg2, h2⟩
    · exact eqP_nil _ a2 c1 c2 w
    · exact eqP_same g1 o1 c1 g2 o2 c2 L w hl hg1 hg2 h1 h2
end Go.Proofs.Ytlcmddghppdmgaa
namespace Go.Proofs.Ytlcmddghppdmgaa
open Go.RowKit
/-- the term that markPoly writes in the place j -/
def mk4 (k : Int) (j : Nat) : Trm := ⟨k + 4 * (j : Int), k + 4 * (j : Int) + 1, k + 4 * (j : Int) + 1 + 1, k + 4 * (j : Int) + 1 + 1 + 1⟩
structure MarkT (g off n : Nat) (k : Int) (j : Nat) (w wr : World) : Prop where
  done : ∀ i : Nat, i < j → TAt wr g (off + i * 4) (mk4 k i)
  cells : ∀ i : Nat, i < n * 4 → ∃ x, wr.cell? ⟨g, off + i, none⟩ = some x
  froz : ∀ a, wr.frozen? a = w.frozen? a
  far : ∀ b, b ≠ g → wr.heap[b]? = w.heap[b]?
  size : wr.heap.size = w.heap.size
  os : wr.os = w.os
  tape : wr.tape = w.tape
  output : wr.output = w.output
theorem putT_heap (w : World) (G o : Nat) (x : Trm) (b : Nat) (h : b ≠ G) : (putT w G o x).heap[b]? = w.heap[b]? := by
  unfold putT
  rw [Below.heap_setCell _ _ _ _ h, Below.heap_setCell _ _ _ _ h, Below.heap_setCell _ _ _ _ h, Below.heap_setCell _ _ _ _ h]
theorem MarkT.step {g off n : Nat} {k : Int} {j : Nat} {w wr : World} (h : MarkT g off n k j w wr) (hj : j < n) : MarkT g off n k (j + 1) w (putT wr g (off + j * 4) (mk4 k j)) := by
  have hs : ∀ d, d < 4 → ∃ u, wr.cell? ⟨g, off + j * 4 + d, none⟩ = some u := fun d hd => by
    obtain ⟨u, hu⟩ := h.cells (j * 4 + d) (by omega)
    exact ⟨u, by rw [Nat.add_assoc]; exact hu⟩
  constructor
  · intro i hi
    by_cases e : i = j
    · subst e; exact putT_at _ _ _ _ hs
    · obtain ⟨h0, h1, h2, h3⟩ := h.done i (by omega)
      refine ⟨?_, ?_, ?_, ?_⟩
      all_goals rw [putT_far _ _ _ _ _ _ (by omega)]; assumption
  · intro i hi
    by_cases e : i < j * 4 ∨ j * 4 + 4 ≤ i
    · obtain ⟨u, hu⟩ := h.cells i hi
      exact ⟨u, by rw [putT_far _ _ _ _ _ _ (by omega)]; exact hu⟩
    · obtain ⟨h0, h1, h2, h3⟩ := putT_at wr g (off + j * 4) (mk4 k j) hs
      have : i = j * 4 ∨ i = j * 4 + 1 ∨ i = j * 4 + 2 ∨ i = j * 4 + 3 := by omega
      rcases this with rfl | rfl | rfl | rfl
      · exact ⟨_, h0⟩
      · exact ⟨_, h1⟩
      · exact ⟨_, h2⟩
      · exact ⟨_, h3⟩
  · intro a; rw [putT_frozen]; exact h.froz a
  · intro b hb; rw [putT_heap _ _ _ _ _ hb]; exact h.far b hb
  · rw [putT_size]; exact h.size
  · exact h.os
  · exact h.tape
  · exact h.output
set_option maxHeartbeats 4000000 in
theorem markT (g off n cap : Nat) (k : Int) (w : World) (hn : n ≤ 1048576) (hk0 : 0 ≤ k) (hk1 : k ≤ 1000000000000)
    (hc : ∀ i : Nat, i < n * 4 → ∃ x, w.cell? ⟨g, off + i, none⟩ = some x) (hf : ∀ i : Nat, i < n * 4 → w.frozen? ⟨g, off + i, none⟩ = false) :
    Calls Try.prog 50 #[.slice (some ⟨g, off, none⟩) n cap, .int .i64 k] w fun e w' => e = .returned (.int .i64 (k + 4 * (n : Int))) ∧ MarkT g off n k n w w' := by
  have h0 : MarkT g off n k 0 w w := ⟨fun i hi => by omega, hc, fun _ => rfl, fun _ _ => rfl, rfl, rfl, rfl, rfl⟩
  have hF := Lib.hid hf
  clear hc hf
  go_enter Try.func50, Try.ntmps50
  go_wp2_with fail
  go_loopw [1, 5] (fun q i wr => ∃ j : Nat, j ≤ n ∧ i = .int .i64 j ∧ q = .int .i64 (k + 4 * (j : Int)) ∧ MarkT g off n k j w wr) (fun _ i _ => n - (intOf i).toNat)
  case atStart => exact ⟨0, by omega, rfl, by simp, h0⟩
  case round =>
    obtain ⟨j, hj, rfl, rfl, hR⟩ := hrel
    clear h0
    by_cases hlt : j < n
    · have hltp : (j : Int) < (n : Int) := by omega
      have hj0 : (0 : Int) ≤ (j : Int) := by omega
      obtain ⟨u0, c0⟩ := hR.cells (j * 4) (by omega)
      obtain ⟨u1, c1⟩ := hR.cells (j * 4 + 1) (by omega)
      obtain ⟨u2, c2⟩ := hR.cells (j * 4 + 2) (by omega)
      obtain ⟨u3, c3⟩ := hR.cells (j * 4 + 3) (by omega)
      rw [← Nat.add_assoc] at c1 c2 c3
      have f0 : wr.frozen? ⟨g, off + j * 4, none⟩ = false := by rw [hR.froz]; exact hF.out _ (by omega)
      have f1 : wr.frozen? ⟨g, off + j * 4 + 1, none⟩ = false := by rw [hR.froz, Nat.add_assoc]; exact hF.out _ (by omega)
      have f2 : wr.frozen? ⟨g, off + j * 4 + 2, none⟩ = false := by rw [hR.froz, Nat.add_assoc]; exact hF.out _ (by omega)
      have f3 : wr.frozen? ⟨g, off + j * 4 + 3, none⟩ = false := by rw [hR.froz, Nat.add_assoc]; exact hF.out _ (by omega)
      have hS := Lib.hid (hR.step hlt)
      clear hR
      go_wp2_with fail
      refine wp_loop_rounds 4 ?_
      iterate 4 (rw [rounds_succ]; go_wp2)
      go_roundw
      case rel => exact ⟨j + 1, by omega, by go_num, by go_num, hS.out⟩
      case measure => simp [intOf]; omega
    · have hjn : j = n := by omega
      subst hjn
      go_wp2
      go_ret
      exact ⟨rfl, hR⟩
theorem markTnil (a : Option Addr) (cap : Nat) (k : Int) (w : World) :
    Calls Try.prog 50 #[.slice a 0 cap, .int .i64 k] w fun e w' => e = .returned (.int .i64 k) ∧ w = w' := by
  go_enter Try.func50, Try.ntmps50
  go_wp2_with fail
  go_loop [1, 5] (fun q i => i = .int .i64 0 ∧ q = .int .i64 k) (fun _ _ => 0)
  case atStart => exact ⟨rfl, rfl⟩
  case round =>
    obtain ⟨rfl, rfl⟩ := hrel
    go_wp2_with fail
    go_ret
    exact ⟨rfl, rfl⟩
set_option maxHeartbeats 4000000 in
theorem heldT (g off n cap : Nat) (k : Int) (w : World) (hn : n ≤ 1048576) (hk0 : 0 ≤ k) (hk1 : k ≤ 1000000000000)
    (hc : ∀ i : Nat, i < n → TAt w g (off + i * 4) (mk4 k i)) :
    Calls Try.prog 51 #[.slice (some ⟨g, off, none⟩) n cap, .int .i64 k] w fun e w' => e = .returned (.int .i64 (k + 4 * (n : Int))) ∧ w = w' := by
  have hC := Lib.hid hc
  clear hc
  go_enter Try.func51, Try.ntmps51
  go_wp2_with fail
  go_loop [1, 5] (fun q i => ∃ j : Nat, j ≤ n ∧ i = .int .i64 j ∧ q = .int .i64 (k + 4 * (j : Int))) (fun _ i => n - (intOf i).toNat)
  case atStart => exact ⟨0, by omega, rfl, by simp⟩
  case round =>
    obtain ⟨j, hj, rfl, rfl⟩ := hrel
    by_cases hlt : j < n
    · have hltp : (j : Int) < (n : Int) := by omega
      have hj0 : (0 : Int) ≤ (j : Int) := by omega
      obtain ⟨c0, c1, c2, c3⟩ := hC.out j hlt
      simp only [mk4] at c0 c1 c2 c3
      have n0 : (k + 4 * (j : Int) != k + 4 * (j : Int)) = false := by simp
      have n1 : (k + 4 * (j : Int) + 1 != k + 4 * (j : Int) + 1) = false := by simp
      have n2 : (k + 4 * (j : Int) + 1 + 1 != k + 4 * (j : Int) + 1 + 1) = false := by simp
      have n3 : (k + 4 * (j : Int) + 1 + 1 + 1 != k + 4 * (j : Int) + 1 + 1 + 1) = false := by simp
      go_wp2_with fail
      refine wp_loop_rounds 4 ?_
      iterate 4 (rw [rounds_succ]; go_wp2)
      go_round
      case rel => exact ⟨j + 1, by omega, by go_num, by go_num⟩
      case measure => simp [intOf]; omega
    · have hjn : j = n := by omega
      subst hjn
      go_wp2_with fail
      go_ret
      exact ⟨rfl, rfl⟩
theorem heldTnil (a : Option Addr) (cap : Nat) (k : Int) (w : World) :
    Calls Try.prog 51 #[.slice a 0 cap, .int .i64 k] w fun e w' => e = .returned (.int .i64 k) ∧ w = w' := by
  go_enter Try.func51, Try.ntmps51
  go_wp2_with fail
  go_loop [1, 5] (fun q i => i = .int .i64 0 ∧ q = .int .i64 k) (fun _ _ => 0)
  case atStart => exact ⟨rfl, rfl⟩
  case round =>
    obtain ⟨rfl, rfl⟩ := hrel
    go_wp2_with fail
    go_ret
    exact ⟨rfl, rfl⟩
/-- a slice value of n terms that hold k, k + 1, .., in a block from B on -/
def HeldT (w : World) (B : Nat) (v : Value) (n : Nat) (k : Int) : Prop :=
  n ≤ 1048576 ∧ ∃ a cap, v = .slice a n cap ∧ (n = 0 ∨ ∃ g off, a = some ⟨g, off, none⟩ ∧ B ≤ g ∧ g < w.heap.size ∧ ∀ i : Nat, i < n → TAt w g (off + i * 4) (mk4 k i))
theorem HeldT.below {w w' : World} {B : Nat} {v : Value} {n : Nat} {k : Int} (h : HeldT w B v n k) (hb : Below w.heap.size w w') : HeldT w' B v n k := by
  obtain ⟨h1, a, cap, hv, h2⟩ := h
  refine ⟨h1, a, cap, hv, ?_⟩
  rcases h2 with h2 | ⟨g, off, ha, hB, hg, hc⟩
  · exact .inl h2
  · exact .inr ⟨g, off, ha, hB, by have := hb.size; omega, fun j hj => (hc j hj).below hb hg⟩
theorem markTown (v : Value) (L : List Trm) (B : Nat) (k : Int) (w : World) (h : OwnTrms w B v L) (hk0 : 0 ≤ k) (hk1 : k ≤ 1000000000000) :
    Calls Try.prog 50 #[v, .int .i64 k] w fun e w' => e = .returned (.int .i64 (k + 4 * (L.length : Int))) ∧ HeldT w' B v L.length k ∧ Below B w w' ∧ w'.heap.size = w.heap.size := by
  obtain ⟨h1, a, cap, rfl, h2⟩ := h
  rcases h2 with rfl | ⟨g, off, rfl, hB, hg, hc, hf⟩
  · refine (markTnil a cap k w).mono ?_
    rintro e w' ⟨rfl, rfl⟩
    exact ⟨by simp, ⟨by simp, a, cap, rfl, .inl rfl⟩, Below.refl _ _, rfl⟩
  · refine (markT g off L.length cap k w h1 hk0 hk1 (fun i hi => ?_) hf).mono ?_
    · obtain ⟨t0, t1, t2, t3⟩ := hc (i / 4) (by omega)
      have : i = i / 4 * 4 ∨ i = i / 4 * 4 + 1 ∨ i = i / 4 * 4 + 2 ∨ i = i / 4 * 4 + 3 := by omega
      rcases this with e | e | e | e
      · rw [e]; exact ⟨_, t0⟩
      · rw [e, ← Nat.add_assoc]; exact ⟨_, t1⟩
      · rw [e, ← Nat.add_assoc]; exact ⟨_, t2⟩
      · rw [e, ← Nat.add_assoc]; exact ⟨_, t3⟩
    · rintro e w' ⟨rfl, hM⟩
      exact ⟨rfl, ⟨h1, _, cap, rfl, .inr ⟨g, off, rfl, hB, by rw [hM.size]; exact hg, hM.done⟩⟩, ⟨hM.os, hM.tape, hM.output, by rw [hM.size]; exact Nat.le_refl _, fun b hb => hM.far b (by omega)⟩, hM.size⟩
theorem heldTown (v : Value) (n : Nat) (B : Nat) (k : Int) (w : World) (h : HeldT w B v n k) (hk0 : 0 ≤ k) (hk1 : k ≤ 1000000000000) :
    Calls Try.prog 51 #[v, .int .i64 k] w fun e w' => e = .returned (.int .i64 (k + 4 * (n : Int))) ∧ w = w' := by
  obtain ⟨h1, a, cap, rfl, h2⟩ := h
  rcases h2 with rfl | ⟨g, off, rfl, hB, hg, hc⟩
  · refine (heldTnil a cap k w).mono ?_
    rintro e w' ⟨rfl, rfl⟩
    exact ⟨by simp, rfl⟩
  · exact heldT g off n cap k w h1 hk0 hk1 hc
end Go.Proofs.Ytlcmddghppdmgaa
namespace Go.Proofs.Ytlcmddghppdmgaa
set_option linter.unusedVariables false
open Go.RowKit
/-- an arrow: from, to, label -/
structure Arr where
  f : Int
  t : Int
  L : List Trm
instance : Inhabited Arr := ⟨⟨0, 0, []⟩⟩
def arw (A : List Arr) (i : Nat) : Arr := A.getD i default
theorem arw_old {A : List Arr} {i : Nat} (h : i < A.length) (x : Arr) : arw (A ++ [x]) i = arw A i := by
  unfold arw; rw [List.getD_eq_getElem?_getD, List.getElem?_append_left h, ← List.getD_eq_getElem?_getD]
theorem arw_new (A : List Arr) (x : Arr) : arw (A ++ [x]) A.length = x := by
  simp [arw, List.getD_eq_getElem?_getD]
theorem arw_take {A : List Arr} {i j : Nat} (h : i < j) : arw (A.take j) i = arw A i := by
  unfold arw; rw [List.getD_eq_getElem?_getD, List.getD_eq_getElem?_getD, List.getElem?_take_of_lt h]
theorem arw_mem {A : List Arr} {i : Nat} (h : i < A.length) : arw A i ∈ A := by
  simp [arw, List.getD_eq_getElem?_getD, h]
/-- the terms of the first arrows' labels -/
def acT (A : List Arr) : Nat → Nat
  | 0 => 0
  | i + 1 => acT A i + (arw A i).L.length
def acN (A : List Arr) : Nat := acT A A.length
theorem acT_mono (A : List Arr) (i : Nat) : ∀ j, acT A i ≤ acT A (i + j)
  | 0 => Nat.le_refl _
  | j + 1 => Nat.le_trans (acT_mono A i j) (by show _ ≤ acT A (i + j) + _; omega)
theorem acT_le {A : List Arr} {i j : Nat} (h : i ≤ j) : acT A i ≤ acT A j := by
  have := acT_mono A i (j - i)
  rwa [show i + (j - i) = j by omega] at this
theorem lab_le {A : List Arr} {i : Nat} (h : i < A.length) : (arw A i).L.length ≤ acN A := by
  have := acT_le (A := A) (show i + 1 ≤ A.length by omega)
  have e : acT A (i + 1) = acT A i + (arw A i).L.length := rfl
  unfold acN; omega
/-- three cells that hold an arrow -/
def AAt (w : World) (g o : Nat) (x : Arr) : Prop :=
  w.cell? ⟨g, o, none⟩ = some (.int .i64 x.f) ∧ w.cell? ⟨g, o + 1, none⟩ = some (.int .i64 x.t) ∧ ∃ u, w.cell? ⟨g, o + 2, none⟩ = some u ∧ Trms w u x.L
/-- a slice value that reads as a list of arrows -/
def Arrs (w : World) (v : Value) (A : List Arr) : Prop :=
  A.length ≤ 1048576 ∧ acN A ≤ 1048576 ∧ ∃ a cap, v = .slice a A.length cap ∧ (A = [] ∨ ∃ g off, a = some ⟨g, off, none⟩ ∧ g < w.heap.size ∧ ∀ i, i < A.length → AAt w g (off + i * 3) (arw A i))
theorem AAt.below {w w' : World} {g o : Nat} {x : Arr} (h : AAt w g o x) (hb : Below w.heap.size w w') (hg : g < w.heap.size) : AAt w' g o x := by
  obtain ⟨h1, h2, u, h3, h4⟩ := h
  exact ⟨by rw [hb.cell (p := ⟨g, o, none⟩) hg]; exact h1, by rw [hb.cell (p := ⟨g, o + 1, none⟩) hg]; exact h2, u, by rw [hb.cell (p := ⟨g, o + 2, none⟩) hg]; exact h3, h4.below hb⟩
theorem Arrs.below {w w' : World} {v : Value} {A : List Arr} (h : Arrs w v A) (hb : Below w.heap.size w w') : Arrs w' v A := by
  obtain ⟨h1, h2, a, cap, hv, h3⟩ := h
  refine ⟨h1, h2, a, cap, hv, ?_⟩
  rcases h3 with h3 | ⟨g, off, ha, hg, hc⟩
  · exact .inl h3
  · exact .inr ⟨g, off, ha, Nat.lt_of_lt_of_le hg hb.size, fun i hi => (hc i hi).below hb hg⟩
theorem Arrs.nil (w : World) (a : Option Addr) (cap : Nat) : Arrs w (.slice a 0 cap) [] :=
  ⟨Nat.zero_le _, Nat.zero_le _, a, cap, rfl, .inl rfl⟩
/-- a slice of terms in the block h, which may be written -/
def TrmsIn (w : World) (h : Nat) (u : Value) (L : List Trm) : Prop :=
  L.length ≤ 1048576 ∧ ∃ a cap, u = .slice a L.length cap ∧ (L = [] ∨ ∃ off, a = some ⟨h, off, none⟩ ∧ h < w.heap.size ∧ (∀ j : Nat, j < L.length → TAt w h (off + j * 4) (L.getD j default)) ∧ ∀ i : Nat, i < L.length * 4 → w.frozen? ⟨h, off + i, none⟩ = false)
theorem TrmsIn.trms {w : World} {h : Nat} {u : Value} {L : List Trm} (k : TrmsIn w h u L) : Trms w u L := by
  obtain ⟨h1, a, cap, hv, h2⟩ := k
  refine ⟨h1, a, cap, hv, ?_⟩
  rcases h2 with h2 | ⟨off, ha, hg, hc, _⟩
  · exact .inl h2
  · exact .inr ⟨h, off, ha, hg, hc⟩
theorem OwnTrms.inb {w : World} {B : Nat} {u : Value} {L : List Trm} (k : OwnTrms w B u L) : ∃ h, (L ≠ [] → B ≤ h ∧ h < w.heap.size) ∧ TrmsIn w h u L := by
  obtain ⟨h1, a, cap, hv, h2⟩ := k
  rcases h2 with h2 | ⟨g, off, ha, hB, hg, hc, hf⟩
  · exact ⟨0, fun h => absurd h2 h, h1, a, cap, hv, .inl h2⟩
  · exact ⟨g, fun _ => ⟨hB, hg⟩, h1, a, cap, hv, .inr ⟨off, ha, hg, hc, hf⟩⟩
theorem lt_heap {w w' : World} {g : Nat} (h : g < w.heap.size) (e : w'.heap[g]? = w.heap[g]?) : g < w'.heap.size := by
  rw [Array.getElem?_eq_getElem h] at e
  exact (Array.getElem?_eq_some_iff.1 e).1
theorem TAt.same {w w' : World} {g o : Nat} {x : Trm} (h : TAt w g o x) (e : w'.heap[g]? = w.heap[g]?) : TAt w' g o x := by
  obtain ⟨h0, h1, h2, h3⟩ := h
  refine ⟨?_, ?_, ?_, ?_⟩
  all_goals rw [cell_of_heap (by exact e)]; assumption
theorem TrmsIn.same {w w' : World} {h : Nat} {u : Value} {L : List Trm} (k : TrmsIn w h u L) (e : L ≠ [] → w'.heap[h]? = w.heap[h]?) : TrmsIn w' h u L := by
  obtain ⟨h1, a, cap, hv, h2⟩ := k
  refine ⟨h1, a, cap, hv, ?_⟩
  by_cases hn : L = []
  · exact .inl hn
  · rcases h2 with h2 | ⟨off, ha, hg, hc, hf⟩
    · exact .inl h2
    · have e := e hn
      exact .inr ⟨off, ha, lt_heap hg e, fun j hj => (hc j hj).same e, fun i hi => by rw [frozen_of_heap (by exact e)]; exact hf i hi⟩
/-- arrows of one's own: their cells lie at block g from off on; label i lies in block H i, no two in one -/
structure OArr (w : World) (B g off : Nat) (H : Nat → Nat) (A : List Arr) : Prop where
  bg : B ≤ g
  gl : g < w.heap.size
  rd : ∀ i, i < A.length → w.cell? ⟨g, off + i * 3, none⟩ = some (.int .i64 (arw A i).f) ∧ w.cell? ⟨g, off + i * 3 + 1, none⟩ = some (.int .i64 (arw A i).t) ∧ ∃ u, w.cell? ⟨g, off + i * 3 + 2, none⟩ = some u ∧ TrmsIn w (H i) u (arw A i).L
  hb : ∀ i, i < A.length → (arw A i).L ≠ [] → B ≤ H i ∧ H i < w.heap.size ∧ H i ≠ g
  ap : ∀ i j, i < A.length → j < A.length → i ≠ j → (arw A i).L ≠ [] → (arw A j).L ≠ [] → H i ≠ H j
  fz : ∀ i, i < A.length * 3 → w.frozen? ⟨g, off + i, none⟩ = false
/-- a list of arrows of one's own, from block B on -/
def OwnArrs (w : World) (B : Nat) (v : Value) (A : List Arr) : Prop :=
  A.length ≤ 1048576 ∧ acN A ≤ 1048576 ∧ ∃ a cap, v = .slice a A.length cap ∧ (A = [] ∨ ∃ g off H, a = some ⟨g, off, none⟩ ∧ OArr w B g off H A)
theorem OwnArrs.arrs {w : World} {B : Nat} {v : Value} {A : List Arr} (h : OwnArrs w B v A) : Arrs w v A := by
  obtain ⟨h1, h2, a, cap, hv, h3⟩ := h
  refine ⟨h1, h2, a, cap, hv, ?_⟩
  rcases h3 with h3 | ⟨g, off, H, ha, hm⟩
  · exact .inl h3
  · refine .inr ⟨g, off, ha, hm.gl, fun i hi => ?_⟩
    obtain ⟨q1, q2, u, q3, q4⟩ := hm.rd i hi
    exact ⟨q1, q2, u, q3, q4.trms⟩
theorem OArr.same {w w' : World} {B g off : Nat} {H : Nat → Nat} {A : List Arr} (h : OArr w B g off H A) (hg : w'.heap[g]? = w.heap[g]?) (hh : ∀ i, i < A.length → (arw A i).L ≠ [] → w'.heap[H i]? = w.heap[H i]?) : OArr w' B g off H A := by
  refine ⟨h.bg, lt_heap h.gl hg, fun i hi => ?_, fun i hi hn => ?_, h.ap, fun i hi => by rw [frozen_of_heap (by exact hg)]; exact h.fz i hi⟩
  · obtain ⟨q1, q2, u, q3, q4⟩ := h.rd i hi
    exact ⟨by rw [cell_of_heap (by exact hg)]; exact q1, by rw [cell_of_heap (by exact hg)]; exact q2, u, by rw [cell_of_heap (by exact hg)]; exact q3, q4.same (hh i hi)⟩
  · obtain ⟨q1, q2, q3⟩ := h.hb i hi hn
    exact ⟨q1, lt_heap q2 (hh i hi hn), q3⟩
theorem OArr.below {w w' : World} {B g off : Nat} {H : Nat → Nat} {A : List Arr} (h : OArr w B g off H A) (hb : Below w.heap.size w w') : OArr w' B g off H A :=
  h.same (hb.block g h.gl) (fun i hi hn => hb.block _ (h.hb i hi hn).2.1)
theorem OwnArrs.below {w w' : World} {B : Nat} {v : Value} {A : List Arr} (h : OwnArrs w B v A) (hb : Below w.heap.size w w') : OwnArrs w' B v A := by
  obtain ⟨h1, h2, a, cap, hv, h3⟩ := h
  refine ⟨h1, h2, a, cap, hv, ?_⟩
  rcases h3 with h3 | ⟨g, off, H, ha, hm⟩
  · exact .inl h3
  · exact .inr ⟨g, off, H, ha, hm.below hb⟩
theorem OArr.base {w : World} {B B' g off : Nat} {H : Nat → Nat} {A : List Arr} (h : OArr w B g off H A) (hB : B' ≤ B) : OArr w B' g off H A :=
  ⟨Nat.le_trans hB h.bg, h.gl, h.rd, fun i hi hn => ⟨Nat.le_trans hB (h.hb i hi hn).1, (h.hb i hi hn).2⟩, h.ap, h.fz⟩
theorem OwnArrs.base {w : World} {B B' : Nat} {v : Value} {A : List Arr} (h : OwnArrs w B v A) (hB : B' ≤ B) : OwnArrs w B' v A := by
  obtain ⟨h1, h2, a, cap, hv, h3⟩ := h
  refine ⟨h1, h2, a, cap, hv, ?_⟩
  rcases h3 with h3 | ⟨g, off, H, ha, hm⟩
  · exact .inl h3
  · exact .inr ⟨g, off, H, ha, hm.base hB⟩
theorem OwnArrs.nil (w : World) (B : Nat) (a : Option Addr) (cap : Nat) : OwnArrs w B (.slice a 0 cap) [] :=
  ⟨Nat.zero_le _, Nat.zero_le _, a, cap, rfl, .inl rfl⟩
theorem OwnArrs.betw {B B' C : Nat} {w w' : World} {v : Value} {A : List Arr} (h : OwnArrs w B v A) (hC : C ≤ B) (hb : Betw B' C w w') : OwnArrs w' B v A := by
  obtain ⟨h1, h2, a, cap, hv, h3⟩ := h
  refine ⟨h1, h2, a, cap, hv, ?_⟩
  rcases h3 with h3 | ⟨g, off, H, ha, hm⟩
  · exact .inl h3
  · refine .inr ⟨g, off, H, ha, hm.same (hb.block g (.inr ?_)) (fun i hi hn => hb.block _ (.inr ?_))⟩
    · have := hm.bg; omega
    · have := (hm.hb i hi hn).1; omega
/-- an arrow stored into three cells -/
def putA (w : World) (g o : Nat) (f t : Int) (u : Value) : World :=
  ((w.setCell ⟨g, o, none⟩ (.int .i64 f)).setCell ⟨g, o + 1, none⟩ (.int .i64 t)).setCell ⟨g, o + 2, none⟩ u
theorem ad_ne {b b' o o' : Nat} (h : b ≠ b' ∨ o ≠ o') : (⟨b, o, none⟩ : Addr) ≠ ⟨b', o', none⟩ := by
  rintro ⟨⟩; rcases h with h | h <;> exact h rfl
theorem putA_far (w : World) (g o : Nat) (f t : Int) (u : Value) (b i : Nat) (h : b ≠ g ∨ i < o ∨ o + 3 ≤ i) : (putA w g o f t u).cell? ⟨b, i, none⟩ = w.cell? ⟨b, i, none⟩ := by
  unfold putA
  rw [World.cell?_setCell_other _ _ _ _ (ad_ne (by omega)), World.cell?_setCell_other _ _ _ _ (ad_ne (by omega)), World.cell?_setCell_other _ _ _ _ (ad_ne (by omega))]
theorem putA_at (w : World) (g o : Nat) (f t : Int) (u : Value) (h : ∀ d, d < 3 → ∃ x, w.cell? ⟨g, o + d, none⟩ = some x) :
    (putA w g o f t u).cell? ⟨g, o, none⟩ = some (.int .i64 f) ∧ (putA w g o f t u).cell? ⟨g, o + 1, none⟩ = some (.int .i64 t) ∧ (putA w g o f t u).cell? ⟨g, o + 2, none⟩ = some u := by
  obtain ⟨u0, h0⟩ := h 0 (by omega)
  obtain ⟨u1, h1⟩ := h 1 (by omega)
  obtain ⟨u2, h2⟩ := h 2 (by omega)
  rw [Nat.add_zero] at h0
  unfold putA
  refine ⟨?_, ?_, ?_⟩
  · rw [World.cell?_setCell_other _ _ _ _ (ad_ne (by omega)), World.cell?_setCell_other _ _ _ _ (ad_ne (by omega))]
    exact World.cell?_setCell_same _ _ _ h0
  · rw [World.cell?_setCell_other _ _ _ _ (ad_ne (by omega))]
    exact World.cell?_setCell_same _ _ _ (by rw [World.cell?_setCell_other _ _ _ _ (ad_ne (by omega))]; exact h1)
  · exact World.cell?_setCell_same _ _ _ (by rw [World.cell?_setCell_other _ _ _ _ (ad_ne (by omega)), World.cell?_setCell_other _ _ _ _ (ad_ne (by omega))]; exact h2)
theorem putA_frozen (w : World) (g o : Nat) (f t : Int) (u : Value) (p : Addr) : (putA w g o f t u).frozen? p = w.frozen? p := by simp [putA]
theorem putA_size (w : World) (g o : Nat) (f t : Int) (u : Value) : (putA w g o f t u).heap.size = w.heap.size := by simp [putA]
theorem putA_heap (w : World) (g o : Nat) (f t : Int) (u : Value) (b : Nat) (h : b ≠ g) : (putA w g o f t u).heap[b]? = w.heap[b]? := by
  unfold putA
  rw [Below.heap_setCell _ _ _ _ h, Below.heap_setCell _ _ _ _ h, Below.heap_setCell _ _ _ _ h]
theorem putA_low {B : Nat} {w w1 : World} (h : Below B w w1) (g o : Nat) (f t : Int) (u : Value) (hg : B ≤ g) : Below B w (putA w1 g o f t u) :=
  ((h.setCell hg _).setCell hg _).setCell hg _
/-- an arrow is stored behind the ones that lie there, with a label in a block of its own -/
theorem OArr.push {w : World} {B g off : Nat} {H : Nat → Nat} {A : List Arr} (h : OArr w B g off H A) (hx : ∀ d, d < 3 → ∃ x, w.cell? ⟨g, off + A.length * 3 + d, none⟩ = some x) (hfz : ∀ d, d < 3 → w.frozen? ⟨g, off + A.length * 3 + d, none⟩ = false)
    (f t : Int) (u : Value) (L : List Trm) (h' : Nat) (hu : TrmsIn w h' u L) (hb : L ≠ [] → B ≤ h' ∧ h' ≠ g ∧ ∀ i, i < A.length → (arw A i).L ≠ [] → H i ≠ h') :
    OArr (putA w g (off + A.length * 3) f t u) B g off (fun i => if i < A.length then H i else h') (A ++ [⟨f, t, L⟩]) := by
  have hul : L ≠ [] → h' < w.heap.size := fun hn => by
    obtain ⟨_, a, cap, _, q⟩ := hu
    rcases q with q | ⟨off, _, q, _⟩
    · exact absurd q hn
    · exact q
  refine ⟨h.bg, by rw [putA_size]; exact h.gl, fun i hi => ?_, fun i hi hn => ?_, fun i j hi hj hne hn1 hn2 => ?_, fun i hi => ?_⟩
  · by_cases e : i < A.length
    · rw [arw_old e, if_pos e, putA_far _ _ _ _ _ _ _ _ (by omega), putA_far _ _ _ _ _ _ _ _ (by omega), putA_far _ _ _ _ _ _ _ _ (by omega)]
      obtain ⟨q1, q2, v, q3, q4⟩ := h.rd i e
      exact ⟨q1, q2, v, q3, q4.same (fun hn => putA_heap _ _ _ _ _ _ _ (h.hb i e hn).2.2)⟩
    · have : i = A.length := by simp at hi; omega
      subst this
      rw [arw_new, if_neg e]
      obtain ⟨q1, q2, q3⟩ := putA_at w g (off + A.length * 3) f t u hx
      exact ⟨q1, q2, u, q3, hu.same (fun hn => putA_heap _ _ _ _ _ _ _ (hb hn).2.1)⟩
  · rw [putA_size]
    by_cases e : i < A.length
    · rw [arw_old e] at hn
      rw [if_pos e]; exact h.hb i e hn
    · have : i = A.length := by simp at hi; omega
      subst this
      rw [arw_new] at hn
      rw [if_neg e]
      exact ⟨(hb hn).1, hul hn, (hb hn).2.1⟩
  · have hi : i < A.length + 1 := by simpa using hi
    have hj : j < A.length + 1 := by simpa using hj
    by_cases ei : i < A.length
    · rw [arw_old ei] at hn1
      by_cases ej : j < A.length
      · rw [arw_old ej] at hn2
        simp only [ei, ej, if_true]
        exact h.ap i j ei ej hne hn1 hn2
      · have : j = A.length := by omega
        subst this
        rw [arw_new] at hn2
        simp only [ei, Nat.lt_irrefl, if_true, if_false]
        exact (hb hn2).2.2 i ei hn1
    · have : i = A.length := by omega
      subst this
      have ej : j < A.length := by omega
      rw [arw_new] at hn1
      rw [arw_old ej] at hn2
      simp only [ej, Nat.lt_irrefl, if_true, if_false]
      exact ((hb hn1).2.2 j ej hn2).symm
  · rw [putA_frozen]
    by_cases e : i < A.length * 3
    · exact h.fz i e
    · have hi : i < (A.length + 1) * 3 := by simpa using hi
      have := hfz (i - A.length * 3) (by omega)
      rwa [show off + A.length * 3 + (i - A.length * 3) = off + i by omega] at this
theorem OArr.nil {w : World} {B g off : Nat} (H : Nat → Nat) (hB : B ≤ g) (hg : g < w.heap.size) : OArr w B g off H [] :=
  ⟨hB, hg, fun i hi => by simp at hi, fun i hi => by simp at hi, fun i j hi => by simp at hi, fun i hi => by simp at hi⟩
end Go.Proofs.Ytlcmddghppdmgaa
namespace Go.Proofs.Ytlcmddghppdmgaa
open Go.RowKit
/-- may the operations come up in this order: those with 'true' taken first, the others alone -/
def seqB (md : Region.Mode) (ops : Array Oper) : List (Nat × Bool) → Array Bool → Bool
  | [], listed => (Region.ready md ops listed).isEmpty
  | (i, b) :: r, listed => (if b then (Region.ready md ops listed).contains i && Region.free md ops listed i else Region.ready md ops listed == [i]) && seqB md ops r (listed.setIfInBounds i true)
section
variable {P : Program} {ops : Array Oper} {S : World → Prop} {Q : Exit → Act → World → Prop}
/-- the walk: 'all' has the operations, perhaps more than are walked -/
def wpSeq (P : Program) (all : Array Oper) (S : World → Prop) (Q : Exit → Act → World → Prop) : List (Nat × Bool) → Act → World → Prop
  | [], a, w => Q .normal a w
  | (i, true) :: r, a, w => ∃ o v, all[i]? = some o ∧ (∀ w', S w' → (execOp a.eval o).run P w' = .ok (.value v) w') ∧ wpSeq P all S Q r (a.put o.dst v) w
  | (i, false) :: r, a, w => ∃ o, all[i]? = some o ∧ o.wp P a w (fun a' w' => S w' ∧ wpSeq P all S Q r a' w') Q
theorem wpSeq_take {all : Array Oper} {i : Nat} {r : List (Nat × Bool)} {a : Act} {w : World} {o : Oper} {v : Value} (ho : all[i]? = some o) (hy : ∀ w', S w' → (execOp a.eval o).run P w' = .ok (.value v) w')
    (h : wpSeq P all S Q r (a.put o.dst v) w) : wpSeq P all S Q ((i, true) :: r) a w := ⟨o, v, ho, hy, h⟩
theorem wpSeq_do {all : Array Oper} {i : Nat} {r : List (Nat × Bool)} {a : Act} {w : World} {o : Oper} (ho : all[i]? = some o)
    (h : ∀ K : Act → World → Prop, (∀ a' w', S w' → wpSeq P all S Q r a' w' → K a' w') → o.wp P a w K Q) : wpSeq P all S Q ((i, false) :: r) a w :=
  ⟨o, ho, h _ fun _ _ h1 h2 => ⟨h1, h2⟩⟩
theorem wpSeq_nil {all : Array Oper} {a : Act} {w : World} (h : Q .normal a w) : wpSeq P all S Q [] a w := h
theorem wpAnyH_seq {md : Region.Mode} {all : Array Oper} (hs : Region.noSelect ops = true) (hg : ∀ (i : Nat) (o : Oper), ops[i]? = some o → o.guard = none) (hall : ∀ (i : Nat), i < ops.size → all[i]? = ops[i]?)
    (hQ : ∀ c (a : Act) d v w, Q (.panic c) (a.put d v) w → Q (.panic c) a w) : ∀ (l : List (Nat × Bool)) (listed : Array Bool) (a : Act) (w : World), seqB md ops l listed = true → S w → wpSeq P all S Q l a w → wpAnyH P md ops Q S l.length listed a w
  | [], listed, a, w, hb, _, h => by
    have : Region.ready md ops listed = [] := by simpa [seqB] using hb
    exact ⟨this, h⟩
  | (i, true) :: r, listed, a, w, hb, hS, h => by
    simp only [seqB, if_true, Bool.and_eq_true] at hb
    obtain ⟨⟨h1, h2⟩, h3⟩ := hb
    obtain ⟨o, v, ho, hy, hr⟩ := h
    have hlt : i < ops.size := by
      have h1' : i ∈ Region.ready md ops listed := by simpa using h1
      obtain ⟨_, o', ho', _⟩ := mem_ready.1 h1'
      exact (Array.getElem?_eq_some_iff.1 ho').1
    rw [hall i hlt] at ho
    have hw : Region.wanted o (yielded ops a.tmps) = true := by simp [Region.wanted, hg i o ho]
    exact wpAnyH_take ho hs h2 h1 (fun c a w hq => hQ c a _ _ w hq) (.inl ⟨hw, hy⟩) hS (wpAnyH_seq hs hg hall hQ r _ _ w h3 hS hr)
  | (i, false) :: r, listed, a, w, hb, hS, h => by
    simp only [seqB, Bool.false_eq_true, if_false, Bool.and_eq_true, beq_iff_eq] at hb
    obtain ⟨h1, h3⟩ := hb
    obtain ⟨o, ho, hr⟩ := h
    have hlt : i < ops.size := by
      have h1' : i ∈ Region.ready md ops listed := by rw [h1]; simp
      obtain ⟨_, o', ho', _⟩ := mem_ready.1 h1'
      exact (Array.getElem?_eq_some_iff.1 ho').1
    rw [hall i hlt] at ho
    have hw : Region.wanted o (yielded ops a.tmps) = true := by simp [Region.wanted, hg i o ho]
    refine wpAnyH_all h1 (by simp) fun j hj => ?_
    have hji : j = i := by simpa using hj
    subst hji
    unfold wpOp
    rw [ho]
    simp only []
    rw [if_pos hw]
    refine .inl (Oper.wp_mono (fun a' w' h' => ⟨h'.1, wpAnyH_seq hs hg hall hQ r _ a' w' h3 h'.1 h'.2⟩) hr)
end
/-- the Bool over a region -/
def seqReg (ops : List Oper) (l : List (Nat × Bool)) : Bool := match ops.getLast? with
  | some o => Region.noSelect ops.dropLast.toArray && ops.all (fun x => x.guard.isNone) && l.length == ops.dropLast.length && lastB .any ops.dropLast o &&
      seqB .any ops.dropLast.toArray l (Array.replicate ops.dropLast.length false)
  | none => false
/-- the last operation of a list -/
def lastOf : List Oper → Option Oper
  | [] => none
  | [o] => some o
  | _ :: b :: r => lastOf (b :: r)
theorem lastOf_eq : ∀ ops : List Oper, lastOf ops = ops.getLast?
  | [] => rfl
  | [o] => rfl
  | a :: b :: r => by rw [lastOf, lastOf_eq (b :: r)]; simp [List.getLast?_cons_cons]
theorem wp_region_seq {P : Program} {ops : List Oper} {id : Nat} {Q : Exit → Act → World → Prop} {a : Act} {w : World} (l : List (Nat × Bool)) (S : World → Prop) {o : Oper} (hm : P.follows .mixedOrders = true) (hB : seqReg ops l = true) (ho : lastOf ops = some o)
    (hQ : ∀ c (a : Act) d v w, Q (.panic c) (a.put d v) w → Q (.panic c) a w) (hS : S w.drew)
    (h : wpSeq P ops.toArray S (Exit.then (fun a w => wpList P [o].toArray Q [o] a w) Q) l a w.drew) : (Code.region id ops.toArray true).wp P Q a w := by
  rw [lastOf_eq] at ho
  unfold seqReg at hB
  rw [ho] at hB
  obtain ⟨l0, rfl⟩ := List.getLast?_eq_some_iff.1 ho
  simp only [List.dropLast_concat, Bool.and_eq_true, beq_iff_eq] at hB
  obtain ⟨⟨⟨⟨h1, h2⟩, h3⟩, h4⟩, h5⟩ := hB
  have hin := lastIn_of h4
  have hg : ∀ (i : Nat) (x : Oper), l0.toArray[i]? = some x → x.guard = none := fun i x hx => by
    have hm : x ∈ l0 := by
      have := (Array.getElem?_eq_some_iff.1 hx)
      obtain ⟨hi, rfl⟩ := this
      simp
    have := List.all_eq_true.1 h2 x (by simp [hm])
    simpa using this
  have hh := wpAnyH_seq (P := P) (ops := l0.toArray) (all := (l0 ++ [o]).toArray) (md := .any) (S := S) (Q := Exit.then (Behind P o Q) Q) h1 hg (fun i hi => by
    have : i < l0.length := by simpa using hi
    simp [List.getElem?_append_left, this]) (fun c a d v w hq => hQ c a d v w hq) l (Array.replicate l0.length false) a w.drew h5 hS h
  rw [h3] at hh
  refine wp_region_any hm ?_
  have := wpAny_last hin l0.length (Array.replicate l0.length false) a _ (by simp) (by
    intro j oj hj ht
    have hlt := (List.getElem?_eq_some_iff.1 hj).1
    simp [Array.getD, hlt] at ht) (wpAny_of_held _ _ _ _ hh)
  simpa [Array.replicate_succ] using this
end Go.Proofs.Ytlcmddghppdmgaa
