/-
  Contracts of the exact laws' helpers on terms and powers. Conditions: none.
  Contracts of the exact laws' helpers on lists of terms. Conditions: what the slices hold is known.
  Regions that draw their order, with guarded operations and callees that make memory: one walk in the order of the text, an operation at a time.
  q_pure: reads no cell; q_is v: the value is named (the first goal asks for it in every world of the class); q_skip: the guard says no. Ends with 'wpQuiet_nil fun w2 hb2 => ?_'.
  Rows of terms that a call owns. Conditions: none.
  A region that draws its order and whose last operation waits for all the others: the others are walked as a region of their own, and the last one behind them. Conditions: the order's edges, as one Bool.
  Only blocks between two bounds have turned. Conditions: none.
-/
import Derived.Test.YtfmpcniehgipfaaChecked
import Derived.Test.YtfmpcniehgipfaaBd1
import Derived.WalkKit
import Derived.Lib.Hide
import Derived.Outline
import Derived.BigQuiet
import Derived.Deep.QuietTactic
import Derived.OwnWalk
import Derived.Deep.Quiet
namespace Go.Proofs.Ytfmpcniehgipfaa
open Go.RowKit
theorem below_drewN {B : Nat} {a w : World} (h : Below B a w) (n : Nat) : Below B a (w.drewN n) := ⟨h.os, h.tape, h.output, h.size, h.block⟩
/-- three new blocks that hold the powers -/
def three (w : World) (a b c : Int) : World := ((w.alloc (Obj.cells #[.int .i64 a, .int .i64 b, .int .i64 c] 89)).alloc (Obj.cells #[.int .i64 a, .int .i64 b, .int .i64 c] 89)).alloc (Obj.cells #[.int .i64 a, .int .i64 b, .int .i64 c] 89)
/-- behind W there are only draws -/
def DrawnFrom (W w' : World) : Prop := ∃ n, W.drewN n = w'
theorem drewN_two (W : World) (n m : Nat) : W.drewN (n + m) = (W.drewN n).drewN m := by simp
theorem ret_bool2 {a b : Bool} (h : a = b) : Ending.returned (.bool a) = .returned (.bool b) := by rw [h]
set_option maxHeartbeats 2000000 in
theorem eqA3 (a b c d e f : Int) (w : World) :
    Calls Try.prog 131 #[.agg #[.int .i64 a, .int .i64 b, .int .i64 c], .agg #[.int .i64 d, .int .i64 e, .int .i64 f]] w fun x w' => x = .returned (.bool (a == d && b == e && c == f)) ∧ DrawnFrom ((w.alloc (Obj.cells #[.int .i64 a, .int .i64 b, .int .i64 c] 89)).alloc (Obj.cells #[.int .i64 d, .int .i64 e, .int .i64 f] 89)) w' := by
  cases h1 : (a != d)
  · have h1' : (a == d) = true := by simpa using h1
    cases h2 : (b != e)
    · have h2' : (b == e) = true := by simpa using h2
      cases h3 : (c != f)
      · have h3' : (c == f) = true := by simpa using h3
        have hF := Lib.hid (show (a == d && b == e && c == f) = true by rw [h1', h2', h3']; rfl)
        clear h1' h2' h3'
        go_enter Try.func131, Try.ntmps131
        go_wp2_with fail
        refine wp_loop_rounds 4 ?_
        iterate 3 (rw [rounds_succ]; go_wp2; go_quiet (fail); go_wp2)
        rw [rounds_succ]; go_wp2
        go_ret
        first | exact ⟨ret_bool2 hF.out.symm, _, rfl⟩ | exact ⟨ret_bool2 hF.out.symm, _, drewN_two _ _ _⟩
      · have h3' : (c == f) = false := by simpa using h3
        have hF := Lib.hid (show (a == d && b == e && c == f) = false by rw [h3', Bool.and_false])
        clear h1' h2' h3'
        go_enter Try.func131, Try.ntmps131
        go_wp2_with fail
        refine wp_loop_rounds 4 ?_
        iterate 3 (rw [rounds_succ]; go_wp2; go_quiet (fail); go_wp2)
        go_ret
        first | exact ⟨ret_bool2 hF.out.symm, _, rfl⟩ | exact ⟨ret_bool2 hF.out.symm, _, drewN_two _ _ _⟩
    · have h2' : (b == e) = false := by simpa using h2
      have hF := Lib.hid (show (a == d && b == e && c == f) = false by rw [h2', Bool.and_false, Bool.false_and])
      clear h1' h2'
      go_enter Try.func131, Try.ntmps131
      go_wp2_with fail
      refine wp_loop_rounds 4 ?_
      iterate 2 (rw [rounds_succ]; go_wp2; go_quiet (fail); go_wp2)
      go_ret
      first | exact ⟨ret_bool2 hF.out.symm, _, rfl⟩ | exact ⟨ret_bool2 hF.out.symm, _, drewN_two _ _ _⟩
  · have h1' : (a == d) = false := by simpa using h1
    have hF := Lib.hid (show (a == d && b == e && c == f) = false by rw [h1']; rfl)
    clear h1'
    go_enter Try.func131, Try.ntmps131
    go_wp2_with fail
    refine wp_loop_rounds 4 ?_
    rw [rounds_succ]; go_wp2; go_quiet (fail); go_wp2
    go_ret
    first | exact ⟨ret_bool2 hF.out.symm, _, rfl⟩ | exact ⟨ret_bool2 hF.out.symm, _, drewN_two _ _ _⟩
theorem eqA3_is (r : Bool) (a b c d e f : Int) (h : (a == d && b == e && c == f) = r) (w : World) :
    Calls Try.prog 131 #[.agg #[.int .i64 a, .int .i64 b, .int .i64 c], .agg #[.int .i64 d, .int .i64 e, .int .i64 f]] w fun x w' => x = .returned (.bool r) ∧ DrawnFrom ((w.alloc (Obj.cells #[.int .i64 a, .int .i64 b, .int .i64 c] 89)).alloc (Obj.cells #[.int .i64 d, .int .i64 e, .int .i64 f] 89)) w' := by
  subst h; exact eqA3 a b c d e f w
def Trm.v (x : Trm) : Value := .agg #[.int .i64 x.a, .int .i64 x.b, .int .i64 x.c, .int .i64 x.t]
set_option maxHeartbeats 2000000 in
theorem eqT (a b c t a' b' c' t' : Int) (w : World) :
    Calls Try.prog 100 #[.agg #[.int .i64 a, .int .i64 b, .int .i64 c, .int .i64 t], .agg #[.int .i64 a', .int .i64 b', .int .i64 c', .int .i64 t']] w fun x w' => x = .returned (.bool (a == a' && b == b' && c == c' && t == t')) ∧ Below w.heap.size w w' := by
  cases h1 : (a == a' && b == b' && c == c')
  · have hF := Lib.hid (show (false && t == t') = false from rfl)
    have H1 := Lib.hid h1
    clear h1
    go_enter Try.func100, Try.ntmps100
    go_wp2_with (go_at_call 131; refine (eqA3_is _ a b c a' b' c' H1.out _).mono ?_; rintro x w1 ⟨rfl, n, rfl⟩)
    go_ret
    exact ⟨ret_bool2 hF.out.symm, by repeat (first | exact Below.refl _ _ | apply Below.drew | apply below_drewN | (refine Below.alloc ?_ (by simp <;> omega) _))⟩
  · have H1 := Lib.hid h1
    cases h2 : (t != t')
    · have h2' : (t == t') = true := by simpa using h2
      have hF := Lib.hid (show (true && t == t') = true by rw [h2']; rfl)
      clear h1 h2'
      go_enter Try.func100, Try.ntmps100
      go_wp2_with (go_at_call 131; refine (eqA3_is _ a b c a' b' c' H1.out _).mono ?_; rintro x w1 ⟨rfl, n, rfl⟩)
      go_ret
      exact ⟨ret_bool2 hF.out.symm, by repeat (first | exact Below.refl _ _ | apply Below.drew | apply below_drewN | (refine Below.alloc ?_ (by simp <;> omega) _))⟩
    · have h2' : (t == t') = false := by simpa using h2
      have hF := Lib.hid (show (true && t == t') = false by rw [h2', Bool.and_false])
      clear h1 h2'
      go_enter Try.func100, Try.ntmps100
      go_wp2_with (go_at_call 131; refine (eqA3_is _ a b c a' b' c' H1.out _).mono ?_; rintro x w1 ⟨rfl, n, rfl⟩)
      go_ret
      exact ⟨ret_bool2 hF.out.symm, by repeat (first | exact Below.refl _ _ | apply Below.drew | apply below_drewN | (refine Below.alloc ?_ (by simp <;> omega) _))⟩
end Go.Proofs.Ytfmpcniehgipfaa
namespace Go.Proofs.Ytfmpcniehgipfaa
open Go.RowKit
/-- four cells that hold a term -/
def TAt (w : World) (g o : Nat) (x : Trm) : Prop :=
  w.cell? ⟨g, o, none⟩ = some (.int .i64 x.a) ∧ w.cell? ⟨g, o + 1, none⟩ = some (.int .i64 x.b) ∧ w.cell? ⟨g, o + 2, none⟩ = some (.int .i64 x.c) ∧ w.cell? ⟨g, o + 3, none⟩ = some (.int .i64 x.t)
/-- a slice value that reads as a list of terms in this world -/
def Trms (w : World) (v : Value) (L : List Trm) : Prop :=
  L.length ≤ 1048576 ∧ ∃ a cap, v = .slice a L.length cap ∧ (L = [] ∨ ∃ g off, a = some ⟨g, off, none⟩ ∧ g < w.heap.size ∧ ∀ j : Nat, j < L.length → TAt w g (off + j * 4) (L.getD j default))
theorem infoT : (Try.prog.info? 91).map (fun i => (i.zero, i.size, i.bytes)) = some (some (.agg #[.int .i64 0, .int .i64 0, .int .i64 0, .int .i64 0]), 4, 32) := by kernel_rfl
theorem TAt.below {w w' : World} {B g o : Nat} {x : Trm} (h : TAt w g o x) (hb : Below B w w') (hg : g < B) : TAt w' g o x := by
  obtain ⟨h0, h1, h2, h3⟩ := h
  refine ⟨?_, ?_, ?_, ?_⟩
  · rw [hb.cell (p := ⟨g, o, none⟩) hg]; exact h0
  · rw [hb.cell (p := ⟨g, o + 1, none⟩) hg]; exact h1
  · rw [hb.cell (p := ⟨g, o + 2, none⟩) hg]; exact h2
  · rw [hb.cell (p := ⟨g, o + 3, none⟩) hg]; exact h3
theorem Trms.below {w w' : World} {v : Value} {L : List Trm} (h : Trms w v L) (hb : Below w.heap.size w w') : Trms w' v L := by
  obtain ⟨h1, a, cap, hv, h2⟩ := h
  refine ⟨h1, a, cap, hv, ?_⟩
  rcases h2 with h2 | ⟨g, off, ha, hg, hc⟩
  · exact .inl h2
  · exact .inr ⟨g, off, ha, by have := hb.size; omega, fun j hj => (hc j hj).below hb hg⟩
/-- a slice of the call's own, from block B on, that reads as a list of terms and may be written -/
def OwnTrms (w : World) (B : Nat) (v : Value) (L : List Trm) : Prop :=
  L.length ≤ 1048576 ∧ ∃ a cap, v = .slice a L.length cap ∧ (L = [] ∨ ∃ g off, a = some ⟨g, off, none⟩ ∧ B ≤ g ∧ g < w.heap.size ∧ (∀ j : Nat, j < L.length → TAt w g (off + j * 4) (L.getD j default)) ∧ ∀ i : Nat, i < L.length * 4 → w.frozen? ⟨g, off + i, none⟩ = false)
theorem OwnTrms.trms {w : World} {B : Nat} {v : Value} {L : List Trm} (h : OwnTrms w B v L) : Trms w v L := by
  obtain ⟨h1, a, cap, hv, h2⟩ := h
  refine ⟨h1, a, cap, hv, ?_⟩
  rcases h2 with h2 | ⟨g, off, ha, _, hg, hc, _⟩
  · exact .inl h2
  · exact .inr ⟨g, off, ha, hg, hc⟩
theorem OwnTrms.below {w w' : World} {B : Nat} {v : Value} {L : List Trm} (h : OwnTrms w B v L) (hb : Below w.heap.size w w') : OwnTrms w' B v L := by
  obtain ⟨h1, a, cap, hv, h2⟩ := h
  refine ⟨h1, a, cap, hv, ?_⟩
  rcases h2 with h2 | ⟨g, off, ha, hB, hg, hc, hf⟩
  · exact .inl h2
  · exact .inr ⟨g, off, ha, hB, by have := hb.size; omega, fun j hj => (hc j hj).below hb hg, fun i hi => by rw [hb.frozen (p := ⟨g, off + i, none⟩) hg]; exact hf i hi⟩
/-- the world inside toPoly, behind k rounds: block G bears k terms -/
structure BuildW (L : List Trm) (G k : Nat) (w wr : World) : Prop where
  done : ∀ j : Nat, j < k → TAt wr G (j * 4) (L.getD j default)
  some : ∀ i : Nat, i < L.length * 4 → ∃ u, wr.cell? ⟨G, i, none⟩ = some u
  froz : ∀ i : Nat, i < L.length * 4 → wr.frozen? ⟨G, i, none⟩ = false
  sz : G < wr.heap.size
  low : Below w.heap.size w wr
theorem BuildW.below {L : List Trm} {G k : Nat} {w wr w1 : World} (h : BuildW L G k w wr) (hb : Below wr.heap.size wr w1) : BuildW L G k w w1 := by
  have sz := h.sz
  have e := hb.size
  constructor
  · intro j hj; exact (h.done j hj).below hb sz
  · intro i hi
    obtain ⟨u, hu⟩ := h.some i hi
    exact ⟨u, by rw [hb.cell (p := ⟨G, i, none⟩) sz]; exact hu⟩
  · intro i hi; rw [hb.frozen (p := ⟨G, i, none⟩) sz]; exact h.froz i hi
  · omega
  · exact h.low.trans (hb.mono h.low.size)
/-- a term stored into four cells -/
def putT (w : World) (G o : Nat) (x : Trm) : World :=
  (((w.setCell ⟨G, o, none⟩ (.int .i64 x.a)).setCell ⟨G, o + 1, none⟩ (.int .i64 x.b)).setCell ⟨G, o + 2, none⟩ (.int .i64 x.c)).setCell ⟨G, o + 3, none⟩ (.int .i64 x.t)
theorem putT_far (w : World) (G o : Nat) (x : Trm) (b i : Nat) (h : b ≠ G ∨ i < o ∨ o + 4 ≤ i) : (putT w G o x).cell? ⟨b, i, none⟩ = w.cell? ⟨b, i, none⟩ := by
  have hne : ∀ d, d < 4 → (⟨G, o + d, none⟩ : Addr) ≠ ⟨b, i, none⟩ := by
    intro d hd e
    injection e with e1 e2
    omega
  unfold putT
  rw [World.cell?_setCell_other _ _ _ _ (hne 3 (by omega)), World.cell?_setCell_other _ _ _ _ (hne 2 (by omega)), World.cell?_setCell_other _ _ _ _ (hne 1 (by omega)), World.cell?_setCell_other _ _ _ _ (by simpa using hne 0 (by omega))]
theorem putT_at (w : World) (G o : Nat) (x : Trm) (h : ∀ d, d < 4 → ∃ u, w.cell? ⟨G, o + d, none⟩ = some u) : TAt (putT w G o x) G o x := by
  obtain ⟨u0, h0⟩ := h 0 (by omega)
  obtain ⟨u1, h1⟩ := h 1 (by omega)
  obtain ⟨u2, h2⟩ := h 2 (by omega)
  obtain ⟨u3, h3⟩ := h 3 (by omega)
  rw [Nat.add_zero] at h0
  have hne : ∀ d e, d ≠ e → (⟨G, o + d, none⟩ : Addr) ≠ ⟨G, o + e, none⟩ := by
    intro d e hd h
    injection h with e1 e2
    omega
  have hn0 : ∀ d, d ≠ 0 → (⟨G, o + d, none⟩ : Addr) ≠ ⟨G, o, none⟩ := by
    intro d hd h
    injection h with e1 e2
    omega
  have hn0' : ∀ d, d ≠ 0 → (⟨G, o, none⟩ : Addr) ≠ ⟨G, o + d, none⟩ := fun d hd => (hn0 d hd).symm
  unfold putT
  refine ⟨?_, ?_, ?_, ?_⟩
  · rw [World.cell?_setCell_other _ _ _ _ (hn0 3 (by omega)), World.cell?_setCell_other _ _ _ _ (hn0 2 (by omega)), World.cell?_setCell_other _ _ _ _ (hn0 1 (by omega))]
    exact World.cell?_setCell_same _ _ _ h0
  · rw [World.cell?_setCell_other _ _ _ _ (hne 3 1 (by omega)), World.cell?_setCell_other _ _ _ _ (hne 2 1 (by omega))]
    exact World.cell?_setCell_same _ _ _ (by rw [World.cell?_setCell_other _ _ _ _ (hn0' 1 (by omega))]; exact h1)
  · rw [World.cell?_setCell_other _ _ _ _ (hne 3 2 (by omega))]
    exact World.cell?_setCell_same _ _ _ (by rw [World.cell?_setCell_other _ _ _ _ (hne 1 2 (by omega)), World.cell?_setCell_other _ _ _ _ (hn0' 2 (by omega))]; exact h2)
  · exact World.cell?_setCell_same _ _ _ (by rw [World.cell?_setCell_other _ _ _ _ (hne 2 3 (by omega)), World.cell?_setCell_other _ _ _ _ (hne 1 3 (by omega)), World.cell?_setCell_other _ _ _ _ (hn0' 3 (by omega))]; exact h3)
theorem putT_frozen (w : World) (G o : Nat) (x : Trm) (p : Addr) : (putT w G o x).frozen? p = w.frozen? p := by simp [putT]
theorem putT_size (w : World) (G o : Nat) (x : Trm) : (putT w G o x).heap.size = w.heap.size := by simp [putT]
theorem putT_low {B : Nat} {w w1 : World} (h : Below B w w1) (G o : Nat) (x : Trm) (hG : B ≤ G) : Below B w (putT w1 G o x) :=
  (((h.setCell hG _).setCell hG _).setCell hG _).setCell hG _
theorem BuildW.step {L : List Trm} {G k : Nat} {w wr : World} (h : BuildW L G k w wr) (hk : k < L.length) (hG : w.heap.size ≤ G) : BuildW L G (k + 1) w (putT wr G (k * 4) (L.getD k default)) := by
  constructor
  · intro j hj
    by_cases e : j = k
    · subst e
      exact putT_at _ _ _ _ (fun d hd => h.some _ (by omega))
    · obtain ⟨h0, h1, h2, h3⟩ := h.done j (by omega)
      refine ⟨?_, ?_, ?_, ?_⟩
      all_goals rw [putT_far _ _ _ _ _ _ (by omega)]; assumption
  · intro i hi
    by_cases e : i < k * 4 ∨ k * 4 + 4 ≤ i
    · obtain ⟨u, hu⟩ := h.some i hi
      exact ⟨u, by rw [putT_far _ _ _ _ _ _ (.inr e)]; exact hu⟩
    · obtain ⟨h0, h1, h2, h3⟩ := putT_at wr G (k * 4) (L.getD k default) (fun d hd => h.some _ (by omega))
      have : i = k * 4 ∨ i = k * 4 + 1 ∨ i = k * 4 + 2 ∨ i = k * 4 + 3 := by omega
      rcases this with rfl | rfl | rfl | rfl
      · exact ⟨_, h0⟩
      · exact ⟨_, h1⟩
      · exact ⟨_, h2⟩
      · exact ⟨_, h3⟩
  · intro i hi; rw [putT_frozen]; exact h.froz i hi
  · rw [putT_size]; exact h.sz
  · exact putT_low h.low _ _ _ hG
end Go.Proofs.Ytfmpcniehgipfaa
namespace Go.Proofs.Ytfmpcniehgipfaa
open Go.RowKit
/-- a region that draws its order, whose operations read what was there and whose callees only make new memory: one walk, in the order of the text -/
theorem wp_region_below {P : Program} {id : Nat} {Q : Exit → Act → World → Prop} {a : Act} {w : World} {l : List Oper} (hm : P.follows .mixedOrders = true) (hB : Region.lexB .any l.toArray = true)
    (h : wpQuiet P l.toArray (fun w' => Below w.heap.size w w') (fun a' => ∀ w', Below w.heap.size w w' → Q .normal a' w') l a) : (Code.region id l.toArray true).wp P Q a w :=
  wp_region_quiet (C := fun w' => Below w.heap.size w w') hm hB (by exact ⟨rfl, rfl, rfl, Nat.le_refl _, fun _ _ => rfl⟩) (by simpa using h)
section
variable {P : Program} {ops : Array Oper} {C : World → Prop}
theorem wpQuiet_no {Q : Act → Prop} {a : Act} {o : Oper} {rest : List Oper} (hg : Region.wanted o (yielded ops a.tmps) = false)
    (h : ∀ K : Act → Prop, (∀ a, wpQuiet P ops C Q rest a → K a) → K (a.put o.dst undef)) : wpQuiet P ops C Q (o :: rest) a :=
  wpQuiet_step fun K hK => by rw [hg]; exact h K hK
theorem wpQuiet_yes {Q : Act → Prop} {a : Act} {o : Oper} {rest : List Oper} (hg : Region.wanted o (yielded ops a.tmps) = true)
    (h : ∀ K : Act → Prop, (∀ a, wpQuiet P ops C Q rest a → K a) → o.quiet P a C K) : wpQuiet P ops C Q (o :: rest) a :=
  wpQuiet_step fun K hK => by rw [hg]; exact h K hK
end



theorem DrawnFrom.below' {B : Nat} {a w w' : World} (h : DrawnFrom w w') (hb : Below B a w) : Below B a w' := by
  obtain ⟨n, rfl⟩ := h; exact below_drewN hb n
end Go.Proofs.Ytfmpcniehgipfaa
namespace Go.Proofs.Ytfmpcniehgipfaa
open Go.RowKit
def Trm.cs (x : Trm) : List Value := [.int .i64 x.a, .int .i64 x.b, .int .i64 x.c, .int .i64 x.t]
/-- the cells of a list of terms -/
def flat : List Trm → List Value
  | [] => []
  | x :: r => x.cs ++ flat r
theorem flat_len : ∀ L : List Trm, (flat L).length = L.length * 4
  | [] => rfl
  | x :: r => by simp [flat, Trm.cs, flat_len r]; omega
theorem flat_app : ∀ A B : List Trm, flat (A ++ B) = flat A ++ flat B
  | [], _ => rfl
  | x :: r, B => by simp [flat, flat_app r B]
theorem flat_one (x : Trm) : flat [x] = x.cs := by simp [flat]
theorem flat_at : ∀ (L : List Trm) (j d : Nat), j < L.length → d < 4 → (flat L)[j * 4 + d]? = ((L.getD j default).cs)[d]?
  | [], j, d, h, _ => by simp at h
  | x :: r, 0, d, _, hd => by
    show (x.cs ++ flat r)[0 * 4 + d]? = _
    rw [List.getElem?_append_left (by simp [Trm.cs]; omega)]
    simp
  | x :: r, j + 1, d, h, hd => by
    show (x.cs ++ flat r)[(j + 1) * 4 + d]? = _
    rw [List.getElem?_append_right (by simp [Trm.cs]; omega), show (j + 1) * 4 + d - x.cs.length = j * 4 + d by simp [Trm.cs]; omega, flat_at r j d (by simpa using h) hd]
    simp
theorem flat_cell : ∀ (L : List Trm) (u : Value), u ∈ flat L → u.oneCell' = true
  | [], u, h => by simp [flat] at h
  | x :: r, u, h => by
    rcases List.mem_append.1 (show u ∈ x.cs ++ flat r from h) with h | h
    · simp [Trm.cs] at h; rcases h with rfl | rfl | rfl | rfl <;> rfl
    · exact flat_cell r u h
theorem flat_take : ∀ (L : List Trm) (k : Nat), (flat L).take (k * 4) = flat (L.take k)
  | [], k => by simp [flat]
  | x :: r, 0 => by simp [flat]
  | x :: r, k + 1 => by
    show (x.cs ++ flat r).take ((k + 1) * 4) = x.cs ++ flat (r.take k)
    rw [List.take_append, ← flat_take r k, List.take_of_length_le (by simp [Trm.cs]; omega), show (k + 1) * 4 - x.cs.length = k * 4 by simp [Trm.cs]; omega]
theorem flat_drop : ∀ (L : List Trm) (k : Nat), (flat L).drop (k * 4) = flat (L.drop k)
  | [], k => by simp [flat]
  | x :: r, 0 => by simp
  | x :: r, k + 1 => by
    show (x.cs ++ flat r).drop ((k + 1) * 4) = flat (r.drop k)
    rw [List.drop_append, ← flat_drop r k, List.drop_of_length_le (by simp [Trm.cs]; omega), show (k + 1) * 4 - x.cs.length = k * 4 by simp [Trm.cs]; omega]
    rfl
/-- a value that owns a row of terms, in a block from B on -/
def Row (w : World) (B : Nat) (v : Value) (L : List Trm) : Prop := w.ownsRow B 91 4 v L.length (flat L)
theorem Row.tat {w : World} {B g n cap : Nat} {L : List Trm} (h : Row w B (.slice (some ⟨g, 0, none⟩) n cap) L) (hn : n = L.length) {j : Nat} (hj : j < L.length) : TAt w g (j * 4) (L.getD j default) := by
  subst hn
  have key : ∀ d, d < 4 → w.cell? ⟨g, j * 4 + d, none⟩ = ((L.getD j default).cs)[d]? := fun d hd => by
    rw [World.ownsRow.cellAt h (j * 4 + d) (by omega), flat_at L j d hj hd]
  exact ⟨key 0 (by omega), key 1 (by omega), key 2 (by omega), key 3 (by omega)⟩
theorem Row.shape {w : World} {B : Nat} {v : Value} {L : List Trm} (h : Row w B v L) :
    (v = .slice none 0 0 ∧ L = []) ∨ ∃ g cap, v = .slice (some ⟨g, 0, none⟩) L.length cap ∧ B ≤ g ∧ g < w.heap.size ∧ L.length ≤ cap ∧ cap ≤ maxLen := by
  rcases h.2 with ⟨h1, h2⟩ | ⟨g, cap, cur, rfl, hb, hg, hn, hm, _⟩
  · exact .inl ⟨h1, List.length_eq_zero_iff.1 h2⟩
  · exact .inr ⟨g, cap, rfl, hb, (Array.getElem?_eq_some_iff.1 hg).1, hn, hm⟩
theorem Row.own {w : World} {B : Nat} {v : Value} {L : List Trm} (h : Row w B v L) (hl : L.length ≤ 1048576) : OwnTrms w B v L := by
  rcases h.shape with ⟨rfl, rfl⟩ | ⟨g, cap, rfl, hb, hg, hn, hm⟩
  · exact ⟨by simp, none, 0, rfl, .inl rfl⟩
  · exact ⟨hl, _, cap, rfl, .inr ⟨g, 0, rfl, hb, hg, fun j hj => by rw [Nat.zero_add]; exact h.tat rfl hj, fun i _ => World.ownsRow.frozenAt h _⟩⟩
theorem Row.below {w w' : World} {B : Nat} {v : Value} {L : List Trm} (h : Row w B v L) (hb : Below w.heap.size w w') : Row w' B v L :=
  World.ownsRow.kept (row := none) h ⟨hb.os, hb.tape, hb.output, hb.size, fun k hk _ => hb.block k hk⟩ (by cases v.ownBlock <;> simp)
theorem Row.nil (w : World) (B : Nat) : Row w B (.slice none 0 0) [] := World.ownsRow_nil w B _ _
theorem Row.lit0 (w : World) (B : Nat) (hb : B ≤ w.heap.size) : Row (w.alloc (.cells #[] 91)) B (.slice (some ⟨w.heap.size, 0, none⟩) 0 0) [] :=
  World.ownsRow_lit (size := 4) w #[] 0 hb (by unfold maxLen; omega) rfl
/-- growing a row leaves all below alone -/
theorem Row.low {w w' : World} {B : Nat} {v : Value} {L : List Trm} (h : Row w B v L) (hb : B ≤ w.heap.size) (hg : w.grownBy w' v.ownBlock) : Below B w w' :=
  ⟨hg.os, hg.tape, hg.output, hg.size, fun k hk => hg.block k (by omega) (fun e => by have := (World.ownsRow.lt h k e.symm).1; omega)⟩
/-- a call hands back a slice of terms of its own, and a truth value -/
def GivesPB (R : List Trm) (b : Bool) (w : World) (e : Ending) (w' : World) : Prop :=
  ∃ v, e = .returned (.tuple #[v, .bool b]) ∧ OwnTrms w' w.heap.size v R ∧ Below w.heap.size w w'
end Go.Proofs.Ytfmpcniehgipfaa
namespace Go.Proofs.Ytfmpcniehgipfaa
open Go.RowKit
/-- the last operation waits, by way of others, for all of them -/
def lastB (md : Region.Mode) (l : List Oper) (o : Oper) : Bool :=
  (List.range l.length).all (fun j => match l[j]? with
    | some oj => (oj.after.all fun e => !Region.binds md e || decide (e.on < j)) && (match oj.guard with | some (g, _) => decide (g < l.length) | none => true)
    | none => true) &&
  o.guard.isNone && (o.after.all fun e => !Region.binds md e || decide (e.on < l.length)) &&
  (List.range l.length).all (fun i => (List.range (l.length + 1)).any fun j => decide (i < j) && (match (l ++ [o])[j]? with
    | some oj => oj.after.any (fun e => Region.binds md e && e.on == i)
    | none => false))
structure LastIn (md : Region.Mode) (l : List Oper) (o : Oper) : Prop where
  low : ∀ (j : Nat) (oj : Oper), l[j]? = some oj → ∀ e ∈ oj.after, Region.binds md e = true → e.on < j
  gd : ∀ (j : Nat) (oj : Oper), l[j]? = some oj → ∀ g b, oj.guard = some (g, b) → g < l.length
  og : o.guard = none
  olow : ∀ e ∈ o.after, Region.binds md e = true → e.on < l.length
  cov : ∀ i, i < l.length → ∃ j oj, i < j ∧ (l ++ [o])[j]? = some oj ∧ ∃ e ∈ oj.after, Region.binds md e = true ∧ e.on = i
theorem lastIn_of {md : Region.Mode} {l : List Oper} {o : Oper} (h : lastB md l o = true) : LastIn md l o := by
  unfold lastB at h
  simp only [Bool.and_eq_true, List.all_eq_true, List.mem_range] at h
  obtain ⟨⟨⟨h1, h2⟩, h3⟩, h4⟩ := h
  have h1' : ∀ (j : Nat) (oj : Oper), l[j]? = some oj → (oj.after.all fun e => !Region.binds md e || decide (e.on < j)) = true ∧ (match oj.guard with | some (g, _) => decide (g < l.length) | none => true) = true := fun j oj hj => by
    have := h1 j (List.getElem?_eq_some_iff.1 hj).1
    rw [hj] at this
    simpa only [Bool.and_eq_true] using this
  refine ⟨fun j oj hj e he hb => ?_, fun j oj hj g b hg => ?_, by simpa using h2, fun e he hb => ?_, fun i hi => ?_⟩
  · have := Array.all_eq_true_iff_forall_mem.1 (h1' j oj hj).1 e he
    simpa [hb] using this
  · have := (h1' j oj hj).2
    rw [hg] at this
    simpa using this
  · have := Array.all_eq_true_iff_forall_mem.1 h3 e he
    simpa [hb] using this
  · obtain ⟨j, _, hj⟩ := List.any_eq_true.1 (h4 i hi)
    rw [Bool.and_eq_true] at hj
    obtain ⟨hij, hj⟩ := hj
    cases hoj : (l ++ [o])[j]? with
    | none => rw [hoj] at hj; simp at hj
    | some oj =>
      rw [hoj] at hj
      obtain ⟨e, he, hb⟩ := Array.any_eq_true'.1 hj
      simp only [Bool.and_eq_true, beq_iff_eq] at hb
      exact ⟨j, oj, by simpa using hij, hoj, e, he, hb.1, hb.2⟩
theorem wanted_same {o : Oper} {ops ops' : Array Oper} {t : Array Value} (h : ∀ g b, o.guard = some (g, b) → ops[g]? = ops'[g]?) : Region.wanted o (yielded ops t) = Region.wanted o (yielded ops' t) := by
  unfold Region.wanted
  cases hg : o.guard with
  | none => rfl
  | some p =>
    obtain ⟨g, b⟩ := p
    simp only []
    unfold yielded
    rw [h g b hg]
/-- all the lower ones have come up -/
def Shutl (md : Region.Mode) (l : List Oper) (listed : Array Bool) : Prop :=
  ∀ (j : Nat) (oj : Oper), l[j]? = some oj → listed.getD j false = true → ∀ e ∈ oj.after, Region.binds md e = true → listed.getD e.on false = true
section
variable {P : Program} {md : Region.Mode} {l : List Oper} {o : Oper}
theorem listed_of_true {listed : Array Bool} {i : Nat} (hi : i < listed.size) (h : ¬ listed.getD i false = true) : listed.getD i true = false := by
  simp only [Array.getD, hi, dite_true] at h ⊢
  simpa using h
theorem all_of_none (h : LastIn md l o) {listed : Array Bool} (hs : listed.size = l.length) (hr : Region.ready md l.toArray listed = []) : ∀ i, i < l.length → listed.getD i false = true := by
  intro i
  induction i using Nat.strongRecOn with
  | _ i ih =>
    intro hi
    refine Classical.byContradiction fun hn => ?_
    have hm : i ∈ Region.ready md l.toArray listed := mem_ready.2 ⟨listed_of_true (by omega) hn, l[i], by simp [hi], fun e he hb => by
      have hl := h.low i l[i] (by simp [hi]) e he hb
      exact ih e.on hl (by omega)⟩
    rw [hr] at hm
    cases hm
theorem all_of_last (h : LastIn md l o) {listed : Array Bool} (hc : Shutl md l listed) (ho : ∀ e ∈ o.after, Region.binds md e = true → listed.getD e.on false = true) : ∀ i, i < l.length → listed.getD i false = true := by
  have key : ∀ d i, l.length - i = d → i < l.length → listed.getD i false = true := by
    intro d
    induction d using Nat.strongRecOn with
    | _ d ih =>
      intro i hd hi
      obtain ⟨j, oj, hij, hoj, e, he, hb, rfl⟩ := h.cov i hi
      by_cases hjn : j < l.length
      · rw [List.getElem?_append_left hjn] at hoj
        exact hc j oj hoj (ih (l.length - j) (by omega) j rfl hjn) e he hb
      · have hj : j = l.length := by
          have := (List.getElem?_eq_some_iff.1 hoj).1
          simp at this
          omega
        subst hj
        rw [List.getElem?_append_right (Nat.le_refl _)] at hoj
        simp at hoj
        subst hoj
        exact ho e he hb
  exact fun i hi => key _ i rfl hi
theorem shutl_set {listed : Array Bool} (hc : Shutl md l listed) {i : Nat} (hi : i ∈ Region.ready md l.toArray listed) : Shutl md l (listed.setIfInBounds i true) := by
  intro j oj hj hl e he hb
  by_cases hji : j = i
  · subst hji
    obtain ⟨_, oi, hoi, hall⟩ := mem_ready.1 hi
    have : oi = oj := by simpa [hj] using hoi.symm
    subst this
    exact getD_set_true (hall e he hb)
  · rw [getD_set_ne false (Ne.symm hji)] at hl
    exact getD_set_true (hc j oj hj hl e he hb)
theorem push_lt {listed : Array Bool} {i : Nat} (d : Bool) (h : i < listed.size) : (listed.push false).getD i d = listed.getD i d := by
  simp [Array.getD, h, Array.getElem_push_lt, Nat.lt_succ_of_lt h]
theorem push_at (listed : Array Bool) (d : Bool) : (listed.push false).getD listed.size d = false := by simp [Array.getD]
theorem push_set {listed : Array Bool} {i : Nat} (h : i < listed.size) : (listed.push false).setIfInBounds i true = (listed.setIfInBounds i true).push false := by
  obtain ⟨l⟩ := listed
  simp only [List.size_toArray] at h
  simp [List.set_append_left _ _ h]
theorem oper_wp_turn {x : Oper} {a : Act} {w : World} {K K' : Act → World → Prop} {Z : Act → World → Prop} {Q : Exit → Act → World → Prop} (h : ∀ a w, K a w → K' a w) (hh : x.wp P a w K (Exit.then Z Q)) : x.wp P a w K' Q := by
  unfold Oper.wp at *
  generalize (execOp a.eval x).run P w = r at *
  cases r with
  | ok n w' =>
    cases n <;> simp only [Oper.upon] at hh ⊢ <;>
      first
        | exact h _ _ hh
        | exact Calls.mono hh (fun e w'' he => by cases e <;> first | exact h _ _ he | exact he)
        | exact Rows.mono hh (fun _ _ he => h _ _ he)
  | halt x w' => cases x <;> simp only [Oper.upon] at hh ⊢ <;> exact hh
theorem wpOp_turn (h : LastIn md l o) {i : Nat} (hi : i < l.length) {a : Act} {w : World} {K K' : Act → World → Prop} {Z : Act → World → Prop} {Q : Exit → Act → World → Prop} (hK : ∀ a w, K a w → K' a w)
    (hh : wpOp P l.toArray (Exit.then Z Q) i K a w) : wpOp P (l ++ [o]).toArray Q i K' a w := by
  have h1 : l.toArray[i]? = some l[i] := by simp [hi]
  have h2 : (l ++ [o]).toArray[i]? = some l[i] := by simp [hi, List.getElem?_append_left]
  unfold wpOp at *
  rw [h1] at hh
  rw [h2]
  simp only [] at hh ⊢
  rw [wanted_same (ops' := l.toArray) (fun g b hg => by
    have := h.gd i l[i] (by simp [hi]) g b hg
    simp [List.getElem?_append_left, this])]
  split
  · rename_i hw
    rw [if_pos hw] at hh
    exact hh.imp (oper_wp_turn hK) (fun ⟨h1, h2⟩ => ⟨h1, h2⟩)
  · rename_i hw
    rw [if_neg hw] at hh
    exact hK _ _ hh
/-- the last operation behind the others -/
def Behind (P : Program) (o : Oper) (Q : Exit → Act → World → Prop) (a : Act) (w : World) : Prop := wpList P [o].toArray Q [o] a w
theorem Behind.op (h : LastIn md l o) {Q : Exit → Act → World → Prop} {a : Act} {w : World} (hb : Behind P o Q a w) : wpOp P (l ++ [o]).toArray Q l.length (Q .normal) a w := by
  unfold Behind wpList at hb
  unfold wpOp
  rw [show (l ++ [o]).toArray[l.length]? = some o by simp]
  simp only []
  have hw : ∀ ops : Array Oper, Region.wanted o (yielded ops a.tmps) = true := fun ops => by simp [Region.wanted, h.og]
  rw [if_pos (hw _)] at hb ⊢
  exact hb
theorem wpAny_last (h : LastIn md l o) {Q : Exit → Act → World → Prop} : ∀ (fuel : Nat) (listed : Array Bool) (a : Act) (w : World), listed.size = l.length → Shutl md l listed →
    wpAny P md l.toArray (Exit.then (Behind P o Q) Q) fuel listed a w → wpAny P md (l ++ [o]).toArray Q (fuel + 1) (listed.push false) a w := by
  intro fuel
  have last : ∀ (fuel : Nat) (listed : Array Bool) (a : Act) (w : World), listed.size = l.length → Region.ready md l.toArray listed = [] → Behind P o Q a w →
      wpAny P md (l ++ [o]).toArray Q (fuel + 1) (listed.push false) a w := by
    intro fuel listed a w hs hr hq
    have hall := all_of_none h hs hr
    have hin : l.length ∈ Region.ready md (l ++ [o]).toArray (listed.push false) := mem_ready.2 ⟨by rw [← hs]; exact push_at _ _, o, by simp, fun e he hb => by
      have := h.olow e he hb
      rw [push_lt _ (by omega)]
      exact hall _ this⟩
    refine ⟨fun h0 => (by rw [h0] at hin; cases hin), fun j hj => ?_⟩
    obtain ⟨hju, oj, hoj, _⟩ := mem_ready.1 hj
    have hjl : j = l.length := by
      have hlt : j < (l ++ [o]).length := by
        have := (Array.getElem?_eq_some_iff.1 hoj).1
        simpa using this
      simp at hlt
      by_cases hj' : j < l.length
      · rw [push_lt _ (by omega)] at hju
        have := hall j hj'
        have hd : listed.getD j true = listed.getD j false := by simp [Array.getD, show j < listed.size by omega]
        rw [hd, this] at hju
        cases hju
      · omega
    subst hjl
    refine wpOp_mono (fun a' w' hq' => wpAny_done ?_ hq' fuel) (Behind.op h hq)
    refine List.eq_nil_iff_forall_not_mem.2 fun k hk => ?_
    obtain ⟨hku, ok, hok, _⟩ := mem_ready.1 hk
    have hlt : k < l.length + 1 := by
      have := (Array.getElem?_eq_some_iff.1 hok).1
      simpa using this
    by_cases hk' : k < l.length
    · rw [getD_set_ne true (by omega), push_lt _ (by omega)] at hku
      have := hall k hk'
      have hd : listed.getD k true = listed.getD k false := by simp [Array.getD, show k < listed.size by omega]
      rw [hd, this] at hku
      cases hku
    · have : k = l.length := by omega
      subst this
      simp [Array.getD, hs] at hku
  induction fuel with
  | zero =>
    intro listed a w hs hc hh
    exact last 0 listed a w hs hh.1 hh.2
  | succ fuel ih =>
    intro listed a w hs hc hh
    by_cases hr : Region.ready md l.toArray listed = []
    · exact last (fuel + 1) listed a w hs hr (hh.1 hr)
    · refine ⟨fun h0 => ?_, fun j hj => ?_⟩
      · obtain ⟨x, hx⟩ := List.exists_mem_of_ne_nil _ hr
        obtain ⟨hu, ox, hox, hall⟩ := mem_ready.1 hx
        have hxl : x < l.length := by have := (Array.getElem?_eq_some_iff.1 hox).1; simpa using this
        have : x ∈ Region.ready md (l ++ [o]).toArray (listed.push false) := mem_ready.2 ⟨by rw [push_lt _ (by omega)]; exact hu, ox, by simpa [List.getElem?_append_left, hxl] using hox, fun e he hb => by
          have hl := h.low x ox (by simpa using hox) e he hb
          rw [push_lt _ (by omega)]
          exact hall e he hb⟩
        rw [h0] at this
        cases this
      · obtain ⟨hu, oj, hoj, hall⟩ := mem_ready.1 hj
        have hlt : j < l.length + 1 := by have := (Array.getElem?_eq_some_iff.1 hoj).1; simpa using this
        by_cases hjl : j < l.length
        · have hoj' : l[j]? = some oj := by simpa [List.getElem?_append_left, hjl] using hoj
          have hj' : j ∈ Region.ready md l.toArray listed := mem_ready.2 ⟨by rw [push_lt _ (by omega)] at hu; exact hu, oj, by simpa using hoj', fun e he hb => by
            have hl := h.low j oj hoj' e he hb
            have := hall e he hb
            rwa [push_lt _ (by omega)] at this⟩
          have := hh.2 j hj'
          rw [push_set (by omega)]
          exact wpOp_turn h hjl (fun a' w' h' => ih (listed.setIfInBounds j true) a' w' (by simpa using hs) (shutl_set hc hj') h') this
        · have : j = l.length := by omega
          subst this
          have hoo : oj = o := by simpa using hoj.symm
          subst hoo
          have hal := all_of_last h hc (fun e he hb => by
            have hl := h.olow e he hb
            have := hall e he hb
            rwa [push_lt _ (by omega)] at this)
          obtain ⟨x, hx⟩ := List.exists_mem_of_ne_nil _ hr
          obtain ⟨hu', ox, hox, _⟩ := mem_ready.1 hx
          have hxl : x < l.length := by have := (Array.getElem?_eq_some_iff.1 hox).1; simpa using this
          have hd : listed.getD x true = listed.getD x false := by simp [Array.getD, show x < listed.size by omega]
          rw [hd, hal x hxl] at hu'
          cases hu'
/-- the walk of all but the last one, in the order of the text; the last one behind it -/
def wpQL (P : Program) (ops : Array Oper) (C : World → Prop) (Q : Exit → Act → World → Prop) : List Oper → Act → Prop
  | [], _ => False
  | [o], a => ∀ w, C w → wpList P [o].toArray Q [o] a w
  | o :: p :: r, a => if Region.wanted o (yielded ops a.tmps) then o.quiet P a C (wpQL P ops C Q (p :: r)) else wpQL P ops C Q (p :: r) (a.put o.dst undef)
theorem wpQL_one {ops : Array Oper} {C : World → Prop} {Q : Exit → Act → World → Prop} {a : Act} {x : Oper} (h : ∀ w, C w → wpList P [x].toArray Q [x] a w) : wpQL P ops C Q [x] a := h
theorem wpQL_step {ops : Array Oper} {C : World → Prop} {Q : Exit → Act → World → Prop} {a : Act} {x y : Oper} {r : List Oper}
    (h : ∀ K : Act → Prop, (∀ a, wpQL P ops C Q (y :: r) a → K a) → if Region.wanted x (yielded ops a.tmps) then x.quiet P a C K else K (a.put x.dst undef)) : wpQL P ops C Q (x :: y :: r) a :=
  h _ (fun _ h => h)
theorem wpQL_split {C : World → Prop} {Q : Exit → Act → World → Prop} (n : Nat) (hn : l.length = n) (hg : ∀ x ∈ l, ∀ g b, x.guard = some (g, b) → g < n) {ops ops' : Array Oper} (hops : ∀ g, g < n → ops[g]? = ops'[g]?) : ∀ (k : List Oper), (∀ x ∈ k, x ∈ l) → ∀ a, wpQL P ops C Q (k ++ [o]) a → wpQuiet P ops' C (fun a => ∀ w, C w → Behind P o Q a w) k a
  | [], _, a, h => h
  | [x], hk, a, h => by
    have h' : if Region.wanted x (yielded ops a.tmps) then x.quiet P a C (wpQL P ops C Q [o]) else wpQL P ops C Q [o] (a.put x.dst undef) := h
    rw [wanted_same (ops' := ops') (fun g b he => hops g (hg x (hk x (by simp)) g b he))] at h'
    exact h'
  | x :: y :: k, hk, a, h => by
    have h' : if Region.wanted x (yielded ops a.tmps) then x.quiet P a C (wpQL P ops C Q (y :: k ++ [o])) else wpQL P ops C Q (y :: k ++ [o]) (a.put x.dst undef) := h
    rw [wanted_same (ops' := ops') (fun g b he => hops g (hg x (hk x (by simp)) g b he))] at h'
    have ih := wpQL_split (C := C) (Q := Q) n hn hg hops (y :: k) (fun z hz => hk z (by simp [hz]))
    show if Region.wanted x (yielded ops' a.tmps) then x.quiet P a C (wpQuiet P ops' C (fun a => ∀ w, C w → Behind P o Q a w) (y :: k)) else wpQuiet P ops' C (fun a => ∀ w, C w → Behind P o Q a w) (y :: k) (a.put x.dst undef)
    split
    · rename_i hw; rw [if_pos hw] at h'; exact Oper.quiet_mono ih h'
    · rename_i hw; rw [if_neg hw] at h'; exact ih _ h'
end
def lastReg (ops : List Oper) : Bool := match ops.getLast? with
  | some o => Region.lexB .any ops.dropLast.toArray && lastB .any ops.dropLast o
  | none => false
/-- **a region that draws its order: all but its last operation are quiet, and the last one waits for them** -/
theorem wp_region_quiet_last {P : Program} {ops : List Oper} {id : Nat} {Q : Exit → Act → World → Prop} {a : Act} {w : World} {C : World → Prop} (hm : P.follows .mixedOrders = true) (hB : lastReg ops = true) (hC : C { w with drawn := w.drawn + 1 })
    (h : wpQL P ops.toArray C Q ops a) : (Code.region id ops.toArray true).wp P Q a w := by
  unfold lastReg at hB
  cases hl : ops.getLast? with
  | none => rw [hl] at hB; cases hB
  | some o =>
    rw [hl] at hB
    obtain ⟨l, rfl⟩ := List.getLast?_eq_some_iff.1 hl
    simp only [List.dropLast_concat, Bool.and_eq_true] at hB
    obtain ⟨hB, hL⟩ := hB
    have hin := lastIn_of hL
    have hq := wpQL_split (l := l) l.length rfl (fun x hx g b he => by
      obtain ⟨j, hj, rfl⟩ := List.getElem_of_mem hx
      exact hin.gd j _ (by simp [hj]) g b he) (ops' := l.toArray) (fun g hg => by simp [List.getElem?_append_left, hg]) l (fun x hx => hx) a h
    simp only [Region.lexB, Bool.and_eq_true] at hB
    have hany := wpAnyQ_lex (C := C) (md := .any) hB.1 l 0 (Array.replicate l.length false) a (by simp) (by simpa using hB.2) hq
    have hw : wpAny P .any l.toArray (Exit.then (Behind P o Q) Q) l.length (Array.replicate l.length false) a { w with drawn := w.drawn + 1 } :=
      wpAny_of_quiet (Q := fun a => ∀ w, C w → Behind P o Q a w) (fun a' w' hw' hb => hb w' hw') _ _ _ _ hC hany
    refine wp_region_any hm ?_
    have := wpAny_last hin l.length (Array.replicate l.length false) a _ (by simp) (by
      intro j oj hj ht
      have hlt := (List.getElem?_eq_some_iff.1 hj).1
      simp [Array.getD, hlt] at ht) hw
    simpa [Array.replicate_succ] using this
end Go.Proofs.Ytfmpcniehgipfaa
namespace Go.Proofs.Ytfmpcniehgipfaa
open Go.RowKit
/-- only blocks from B on and below C have turned -/
structure Betw (B C : Nat) (w w' : World) : Prop where
  os : w'.os = w.os
  tape : w'.tape = w.tape
  output : w'.output = w.output
  size : w'.heap.size = w.heap.size
  block : ∀ k, k < B ∨ C ≤ k → w'.heap[k]? = w.heap[k]?
theorem Betw.low {B C : Nat} {w w' : World} (h : Betw B C w w') : Below B w w' := ⟨h.os, h.tape, h.output, by rw [h.size]; exact Nat.le_refl _, fun k hk => h.block k (.inl hk)⟩
theorem cell_of_heap {w w' : World} {p : Addr} (h : w'.heap[p.block]? = w.heap[p.block]?) : w'.cell? p = w.cell? p := by
  unfold World.cell?; rw [h]
theorem frozen_of_heap {w w' : World} {p : Addr} (h : w'.heap[p.block]? = w.heap[p.block]?) : w'.frozen? p = w.frozen? p := by
  unfold World.frozen?; rw [h]
/-- the blocks from B on that a world has are in the later one as they were -/
def Same (B : Nat) (w w' : World) : Prop := ∀ b, B ≤ b → b < w.heap.size → w'.heap[b]? = w.heap[b]?
theorem same_of {B : Nat} {w w' : World} (h : Below w.heap.size w w') : Same B w w' := fun b _ hb => h.block b hb
theorem Same.betw {B B' : Nat} {w w1 w2 : World} (h : Same B w w1) (hb : Betw B' B w1 w2) : Same B w w2 := fun b h1 h2 => (hb.block b (.inr h1)).trans (h b h1 h2)
end Go.Proofs.Ytfmpcniehgipfaa
