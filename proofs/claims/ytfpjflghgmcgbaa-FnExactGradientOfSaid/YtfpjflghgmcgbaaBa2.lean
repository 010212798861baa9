/-
  Contracts of the exact laws' helpers on terms and powers. Conditions: none.
  Contracts of the exact laws' helpers on lists of terms. Conditions: what the slices hold is known.
  Only blocks between two bounds have turned. Conditions: none.
-/
import Derived.Test.YtfpjflghgmcgbaaChecked
import Derived.Test.YtfpjflghgmcgbaaBa1
import Derived.WalkKit
import Derived.Lib.Hide
import Derived.Outline
import Derived.BigQuiet
import Derived.Deep.QuietTactic
import Derived.OwnWalk
namespace Go.Proofs.Ytfpjflghgmcgbaa
open Go.RowKit
theorem below_drewN {B : Nat} {a w : World} (h : Below B a w) (n : Nat) : Below B a (w.drewN n) := ⟨h.os, h.tape, h.output, h.size, h.block⟩
/-- three new blocks that hold the powers -/
def three (w : World) (a b c : Int) : World := ((w.alloc (Obj.cells #[.int .i64 a, .int .i64 b, .int .i64 c] 27)).alloc (Obj.cells #[.int .i64 a, .int .i64 b, .int .i64 c] 27)).alloc (Obj.cells #[.int .i64 a, .int .i64 b, .int .i64 c] 27)
set_option maxHeartbeats 1000000 in
theorem toA3 (a b c : Int) (w : World) :
    Calls Try.prog 52 #[.agg #[.int .i64 a, .int .i64 b, .int .i64 c]] w fun e w' => e = .returned (.agg #[.int .i64 a, .int .i64 b, .int .i64 c]) ∧ three w a b c = w' := by
  go_enter Try.func52, Try.ntmps52
  go_wp2_with fail
  refine wp_loop_rounds 4 ?_
  iterate 4 (rw [rounds_succ]; go_wp2)
  refine bodyPost_ret (v := .agg #[.int .i64 a, .int .i64 b, .int .i64 c]) (by simp [results, Try.results52, go_sem]) rfl ⟨rfl, rfl⟩
/-- behind W there are only draws -/
def DrawnFrom (W w' : World) : Prop := ∃ n, W.drewN n = w'
theorem drewN_two (W : World) (n m : Nat) : W.drewN (n + m) = (W.drewN n).drewN m := by simp
theorem ret_bool2 {a b : Bool} (h : a = b) : Ending.returned (.bool a) = .returned (.bool b) := by rw [h]
set_option maxHeartbeats 2000000 in
theorem eqA3 (a b c d e f : Int) (w : World) :
    Calls Try.prog 53 #[.agg #[.int .i64 a, .int .i64 b, .int .i64 c], .agg #[.int .i64 d, .int .i64 e, .int .i64 f]] w fun x w' => x = .returned (.bool (a == d && b == e && c == f)) ∧ DrawnFrom ((w.alloc (Obj.cells #[.int .i64 a, .int .i64 b, .int .i64 c] 27)).alloc (Obj.cells #[.int .i64 d, .int .i64 e, .int .i64 f] 27)) w' := by
  cases h1 : (a != d)
  · have h1' : (a == d) = true := by simpa using h1
    cases h2 : (b != e)
    · have h2' : (b == e) = true := by simpa using h2
      cases h3 : (c != f)
      · have h3' : (c == f) = true := by simpa using h3
        have hF := Lib.hid (show (a == d && b == e && c == f) = true by rw [h1', h2', h3']; rfl)
        clear h1' h2' h3'
        go_enter Try.func53, Try.ntmps53
        go_wp2_with fail
        refine wp_loop_rounds 4 ?_
        iterate 3 (rw [rounds_succ]; go_wp2; go_quiet (fail); go_wp2)
        rw [rounds_succ]; go_wp2
        go_ret
        first | exact ⟨ret_bool2 hF.out.symm, _, rfl⟩ | exact ⟨ret_bool2 hF.out.symm, _, drewN_two _ _ _⟩
      · have h3' : (c == f) = false := by simpa using h3
        have hF := Lib.hid (show (a == d && b == e && c == f) = false by rw [h3', Bool.and_false])
        clear h1' h2' h3'
        go_enter Try.func53, Try.ntmps53
        go_wp2_with fail
        refine wp_loop_rounds 4 ?_
        iterate 3 (rw [rounds_succ]; go_wp2; go_quiet (fail); go_wp2)
        go_ret
        first | exact ⟨ret_bool2 hF.out.symm, _, rfl⟩ | exact ⟨ret_bool2 hF.out.symm, _, drewN_two _ _ _⟩
    · have h2' : (b == e) = false := by simpa using h2
      have hF := Lib.hid (show (a == d && b == e && c == f) = false by rw [h2', Bool.and_false, Bool.false_and])
      clear h1' h2'
      go_enter Try.func53, Try.ntmps53
      go_wp2_with fail
      refine wp_loop_rounds 4 ?_
      iterate 2 (rw [rounds_succ]; go_wp2; go_quiet (fail); go_wp2)
      go_ret
      first | exact ⟨ret_bool2 hF.out.symm, _, rfl⟩ | exact ⟨ret_bool2 hF.out.symm, _, drewN_two _ _ _⟩
  · have h1' : (a == d) = false := by simpa using h1
    have hF := Lib.hid (show (a == d && b == e && c == f) = false by rw [h1']; rfl)
    clear h1'
    go_enter Try.func53, Try.ntmps53
    go_wp2_with fail
    refine wp_loop_rounds 4 ?_
    rw [rounds_succ]; go_wp2; go_quiet (fail); go_wp2
    go_ret
    first | exact ⟨ret_bool2 hF.out.symm, _, rfl⟩ | exact ⟨ret_bool2 hF.out.symm, _, drewN_two _ _ _⟩
theorem eqA3_is (r : Bool) (a b c d e f : Int) (h : (a == d && b == e && c == f) = r) (w : World) :
    Calls Try.prog 53 #[.agg #[.int .i64 a, .int .i64 b, .int .i64 c], .agg #[.int .i64 d, .int .i64 e, .int .i64 f]] w fun x w' => x = .returned (.bool r) ∧ DrawnFrom ((w.alloc (Obj.cells #[.int .i64 a, .int .i64 b, .int .i64 c] 27)).alloc (Obj.cells #[.int .i64 d, .int .i64 e, .int .i64 f] 27)) w' := by
  subst h; exact eqA3 a b c d e f w
def Trm.v (x : Trm) : Value := .agg #[.int .i64 x.a, .int .i64 x.b, .int .i64 x.c, .int .i64 x.t]
set_option maxHeartbeats 2000000 in
theorem eqT (a b c t a' b' c' t' : Int) (w : World) :
    Calls Try.prog 133 #[.agg #[.int .i64 a, .int .i64 b, .int .i64 c, .int .i64 t], .agg #[.int .i64 a', .int .i64 b', .int .i64 c', .int .i64 t']] w fun x w' => x = .returned (.bool (a == a' && b == b' && c == c' && t == t')) ∧ Below w.heap.size w w' := by
  cases h1 : (a == a' && b == b' && c == c')
  · have hF := Lib.hid (show (false && t == t') = false from rfl)
    have H1 := Lib.hid h1
    clear h1
    go_enter Try.func133, Try.ntmps133
    go_wp2_with (go_at_call 53; refine (eqA3_is _ a b c a' b' c' H1.out _).mono ?_; rintro x w1 ⟨rfl, n, rfl⟩)
    go_ret
    exact ⟨ret_bool2 hF.out.symm, by repeat (first | exact Below.refl _ _ | apply Below.drew | apply below_drewN | (refine Below.alloc ?_ (by simp <;> omega) _))⟩
  · have H1 := Lib.hid h1
    cases h2 : (t != t')
    · have h2' : (t == t') = true := by simpa using h2
      have hF := Lib.hid (show (true && t == t') = true by rw [h2']; rfl)
      clear h1 h2'
      go_enter Try.func133, Try.ntmps133
      go_wp2_with (go_at_call 53; refine (eqA3_is _ a b c a' b' c' H1.out _).mono ?_; rintro x w1 ⟨rfl, n, rfl⟩)
      go_ret
      exact ⟨ret_bool2 hF.out.symm, by repeat (first | exact Below.refl _ _ | apply Below.drew | apply below_drewN | (refine Below.alloc ?_ (by simp <;> omega) _))⟩
    · have h2' : (t == t') = false := by simpa using h2
      have hF := Lib.hid (show (true && t == t') = false by rw [h2', Bool.and_false])
      clear h1 h2'
      go_enter Try.func133, Try.ntmps133
      go_wp2_with (go_at_call 53; refine (eqA3_is _ a b c a' b' c' H1.out _).mono ?_; rintro x w1 ⟨rfl, n, rfl⟩)
      go_ret
      exact ⟨ret_bool2 hF.out.symm, by repeat (first | exact Below.refl _ _ | apply Below.drew | apply below_drewN | (refine Below.alloc ?_ (by simp <;> omega) _))⟩
end Go.Proofs.Ytfpjflghgmcgbaa
namespace Go.Proofs.Ytfpjflghgmcgbaa
open Go.RowKit
/-- four cells that hold a term -/
def TAt (w : World) (g o : Nat) (x : Trm) : Prop :=
  w.cell? ⟨g, o, none⟩ = some (.int .i64 x.a) ∧ w.cell? ⟨g, o + 1, none⟩ = some (.int .i64 x.b) ∧ w.cell? ⟨g, o + 2, none⟩ = some (.int .i64 x.c) ∧ w.cell? ⟨g, o + 3, none⟩ = some (.int .i64 x.t)
/-- a slice value that reads as a list of terms in this world -/
def Trms (w : World) (v : Value) (L : List Trm) : Prop :=
  L.length ≤ 1048576 ∧ ∃ a cap, v = .slice a L.length cap ∧ (L = [] ∨ ∃ g off, a = some ⟨g, off, none⟩ ∧ g < w.heap.size ∧ ∀ j : Nat, j < L.length → TAt w g (off + j * 4) (L.getD j default))
theorem infoT : (Try.prog.info? 108).map (fun i => (i.zero, i.size, i.bytes)) = some (some (.agg #[.int .i64 0, .int .i64 0, .int .i64 0, .int .i64 0]), 4, 32) := by kernel_rfl
theorem TAt.below {w w' : World} {B g o : Nat} {x : Trm} (h : TAt w g o x) (hb : Below B w w') (hg : g < B) : TAt w' g o x := by
  obtain ⟨h0, h1, h2, h3⟩ := h
  refine ⟨?_, ?_, ?_, ?_⟩
  · rw [hb.cell (p := ⟨g, o, none⟩) hg]; exact h0
  · rw [hb.cell (p := ⟨g, o + 1, none⟩) hg]; exact h1
  · rw [hb.cell (p := ⟨g, o + 2, none⟩) hg]; exact h2
  · rw [hb.cell (p := ⟨g, o + 3, none⟩) hg]; exact h3
theorem Trms.below {w w' : World} {v : Value} {L : List Trm} (h : Trms w v L) (hb : Below w.heap.size w w') : Trms w' v L := by
  obtain ⟨h1, a, cap, hv, h2⟩ := h
  refine ⟨h1, a, cap, hv, ?_⟩
  rcases h2 with h2 | ⟨g, off, ha, hg, hc⟩
  · exact .inl h2
  · exact .inr ⟨g, off, ha, by have := hb.size; omega, fun j hj => (hc j hj).below hb hg⟩
/-- a slice of the call's own, from block B on, that reads as a list of terms and may be written -/
def OwnTrms (w : World) (B : Nat) (v : Value) (L : List Trm) : Prop :=
  L.length ≤ 1048576 ∧ ∃ a cap, v = .slice a L.length cap ∧ (L = [] ∨ ∃ g off, a = some ⟨g, off, none⟩ ∧ B ≤ g ∧ g < w.heap.size ∧ (∀ j : Nat, j < L.length → TAt w g (off + j * 4) (L.getD j default)) ∧ ∀ i : Nat, i < L.length * 4 → w.frozen? ⟨g, off + i, none⟩ = false)
theorem OwnTrms.trms {w : World} {B : Nat} {v : Value} {L : List Trm} (h : OwnTrms w B v L) : Trms w v L := by
  obtain ⟨h1, a, cap, hv, h2⟩ := h
  refine ⟨h1, a, cap, hv, ?_⟩
  rcases h2 with h2 | ⟨g, off, ha, _, hg, hc, _⟩
  · exact .inl h2
  · exact .inr ⟨g, off, ha, hg, hc⟩
theorem OwnTrms.below {w w' : World} {B : Nat} {v : Value} {L : List Trm} (h : OwnTrms w B v L) (hb : Below w.heap.size w w') : OwnTrms w' B v L := by
  obtain ⟨h1, a, cap, hv, h2⟩ := h
  refine ⟨h1, a, cap, hv, ?_⟩
  rcases h2 with h2 | ⟨g, off, ha, hB, hg, hc, hf⟩
  · exact .inl h2
  · exact .inr ⟨g, off, ha, hB, by have := hb.size; omega, fun j hj => (hc j hj).below hb hg, fun i hi => by rw [hb.frozen (p := ⟨g, off + i, none⟩) hg]; exact hf i hi⟩
/-- the world inside toPoly, behind k rounds: block G bears k terms -/
structure BuildW (L : List Trm) (G k : Nat) (w wr : World) : Prop where
  done : ∀ j : Nat, j < k → TAt wr G (j * 4) (L.getD j default)
  some : ∀ i : Nat, i < L.length * 4 → ∃ u, wr.cell? ⟨G, i, none⟩ = some u
  froz : ∀ i : Nat, i < L.length * 4 → wr.frozen? ⟨G, i, none⟩ = false
  sz : G < wr.heap.size
  low : Below w.heap.size w wr
theorem BuildW.below {L : List Trm} {G k : Nat} {w wr w1 : World} (h : BuildW L G k w wr) (hb : Below wr.heap.size wr w1) : BuildW L G k w w1 := by
  have sz := h.sz
  have e := hb.size
  constructor
  · intro j hj; exact (h.done j hj).below hb sz
  · intro i hi
    obtain ⟨u, hu⟩ := h.some i hi
    exact ⟨u, by rw [hb.cell (p := ⟨G, i, none⟩) sz]; exact hu⟩
  · intro i hi; rw [hb.frozen (p := ⟨G, i, none⟩) sz]; exact h.froz i hi
  · omega
  · exact h.low.trans (hb.mono h.low.size)
/-- a term stored into four cells -/
def putT (w : World) (G o : Nat) (x : Trm) : World :=
  (((w.setCell ⟨G, o, none⟩ (.int .i64 x.a)).setCell ⟨G, o + 1, none⟩ (.int .i64 x.b)).setCell ⟨G, o + 2, none⟩ (.int .i64 x.c)).setCell ⟨G, o + 3, none⟩ (.int .i64 x.t)
theorem putT_far (w : World) (G o : Nat) (x : Trm) (b i : Nat) (h : b ≠ G ∨ i < o ∨ o + 4 ≤ i) : (putT w G o x).cell? ⟨b, i, none⟩ = w.cell? ⟨b, i, none⟩ := by
  have hne : ∀ d, d < 4 → (⟨G, o + d, none⟩ : Addr) ≠ ⟨b, i, none⟩ := by
    intro d hd e
    injection e with e1 e2
    omega
  unfold putT
  rw [World.cell?_setCell_other _ _ _ _ (hne 3 (by omega)), World.cell?_setCell_other _ _ _ _ (hne 2 (by omega)), World.cell?_setCell_other _ _ _ _ (hne 1 (by omega)), World.cell?_setCell_other _ _ _ _ (by simpa using hne 0 (by omega))]
theorem putT_at (w : World) (G o : Nat) (x : Trm) (h : ∀ d, d < 4 → ∃ u, w.cell? ⟨G, o + d, none⟩ = some u) : TAt (putT w G o x) G o x := by
  obtain ⟨u0, h0⟩ := h 0 (by omega)
  obtain ⟨u1, h1⟩ := h 1 (by omega)
  obtain ⟨u2, h2⟩ := h 2 (by omega)
  obtain ⟨u3, h3⟩ := h 3 (by omega)
  rw [Nat.add_zero] at h0
  have hne : ∀ d e, d ≠ e → (⟨G, o + d, none⟩ : Addr) ≠ ⟨G, o + e, none⟩ := by
    intro d e hd h
    injection h with e1 e2
    omega
  have hn0 : ∀ d, d ≠ 0 → (⟨G, o + d, none⟩ : Addr) ≠ ⟨G, o, none⟩ := by
    intro d hd h
    injection h with e1 e2
    omega
  have hn0' : ∀ d, d ≠ 0 → (⟨G, o, none⟩ : Addr) ≠ ⟨G, o + d, none⟩ := fun d hd => (hn0 d hd).symm
  unfold putT
  refine ⟨?_, ?_, ?_, ?_⟩
  · rw [World.cell?_setCell_other _ _ _ _ (hn0 3 (by omega)), World.cell?_setCell_other _ _ _ _ (hn0 2 (by omega)), World.cell?_setCell_other _ _ _ _ (hn0 1 (by omega))]
    exact World.cell?_setCell_same _ _ _ h0
  · rw [World.cell?_setCell_other _ _ _ _ (hne 3 1 (by omega)), World.cell?_setCell_other _ _ _ _ (hne 2 1 (by omega))]
    exact World.cell?_setCell_same _ _ _ (by rw [World.cell?_setCell_other _ _ _ _ (hn0' 1 (by omega))]; exact h1)
  · rw [World.cell?_setCell_other _ _ _ _ (hne 3 2 (by omega))]
    exact World.cell?_setCell_same _ _ _ (by rw [World.cell?_setCell_other _ _ _ _ (hne 1 2 (by omega)), World.cell?_setCell_other _ _ _ _ (hn0' 2 (by omega))]; exact h2)
  · exact World.cell?_setCell_same _ _ _ (by rw [World.cell?_setCell_other _ _ _ _ (hne 2 3 (by omega)), World.cell?_setCell_other _ _ _ _ (hne 1 3 (by omega)), World.cell?_setCell_other _ _ _ _ (hn0' 3 (by omega))]; exact h3)
theorem putT_frozen (w : World) (G o : Nat) (x : Trm) (p : Addr) : (putT w G o x).frozen? p = w.frozen? p := by simp [putT]
theorem putT_size (w : World) (G o : Nat) (x : Trm) : (putT w G o x).heap.size = w.heap.size := by simp [putT]
theorem putT_low {B : Nat} {w w1 : World} (h : Below B w w1) (G o : Nat) (x : Trm) (hG : B ≤ G) : Below B w (putT w1 G o x) :=
  (((h.setCell hG _).setCell hG _).setCell hG _).setCell hG _
theorem BuildW.step {L : List Trm} {G k : Nat} {w wr : World} (h : BuildW L G k w wr) (hk : k < L.length) (hG : w.heap.size ≤ G) : BuildW L G (k + 1) w (putT wr G (k * 4) (L.getD k default)) := by
  constructor
  · intro j hj
    by_cases e : j = k
    · subst e
      exact putT_at _ _ _ _ (fun d hd => h.some _ (by omega))
    · obtain ⟨h0, h1, h2, h3⟩ := h.done j (by omega)
      refine ⟨?_, ?_, ?_, ?_⟩
      all_goals rw [putT_far _ _ _ _ _ _ (by omega)]; assumption
  · intro i hi
    by_cases e : i < k * 4 ∨ k * 4 + 4 ≤ i
    · obtain ⟨u, hu⟩ := h.some i hi
      exact ⟨u, by rw [putT_far _ _ _ _ _ _ (.inr e)]; exact hu⟩
    · obtain ⟨h0, h1, h2, h3⟩ := putT_at wr G (k * 4) (L.getD k default) (fun d hd => h.some _ (by omega))
      have : i = k * 4 ∨ i = k * 4 + 1 ∨ i = k * 4 + 2 ∨ i = k * 4 + 3 := by omega
      rcases this with rfl | rfl | rfl | rfl
      · exact ⟨_, h0⟩
      · exact ⟨_, h1⟩
      · exact ⟨_, h2⟩
      · exact ⟨_, h3⟩
  · intro i hi; rw [putT_frozen]; exact h.froz i hi
  · rw [putT_size]; exact h.sz
  · exact putT_low h.low _ _ _ hG
end Go.Proofs.Ytfpjflghgmcgbaa
namespace Go.Proofs.Ytfpjflghgmcgbaa
open Go.RowKit
/-- only blocks from B on and below C have turned -/
structure Betw (B C : Nat) (w w' : World) : Prop where
  os : w'.os = w.os
  tape : w'.tape = w.tape
  output : w'.output = w.output
  size : w'.heap.size = w.heap.size
  block : ∀ k, k < B ∨ C ≤ k → w'.heap[k]? = w.heap[k]?
theorem Betw.low {B C : Nat} {w w' : World} (h : Betw B C w w') : Below B w w' := ⟨h.os, h.tape, h.output, by rw [h.size]; exact Nat.le_refl _, fun k hk => h.block k (.inl hk)⟩
theorem cell_of_heap {w w' : World} {p : Addr} (h : w'.heap[p.block]? = w.heap[p.block]?) : w'.cell? p = w.cell? p := by
  unfold World.cell?; rw [h]
theorem frozen_of_heap {w w' : World} {p : Addr} (h : w'.heap[p.block]? = w.heap[p.block]?) : w'.frozen? p = w.frozen? p := by
  unfold World.frozen?; rw [h]
/-- the blocks from B on that a world has are in the later one as they were -/
def Same (B : Nat) (w w' : World) : Prop := ∀ b, B ≤ b → b < w.heap.size → w'.heap[b]? = w.heap[b]?
theorem same_of {B : Nat} {w w' : World} (h : Below w.heap.size w w') : Same B w w' := fun b _ hb => h.block b hb
theorem Same.betw {B B' : Nat} {w w1 w2 : World} (h : Same B w w1) (hb : Betw B' B w1 w2) : Same B w w2 := fun b h1 h2 => (hb.block b (.inr h1)).trans (h b h1 h2)
end Go.Proofs.Ytfpjflghgmcgbaa
