/-
  A range over slices.Backward at elements: index and element, from the last one on. Conditions: what the slice holds when it is read is known.
  The program's division of lines. Conditions: what the slices hold is known; the divisor is not 0.
  The value of a line, of the program. Conditions: what the slice holds is known.
  AtLine of both. Conditions: what the slice holds is known.
  ZerosOf of both. Conditions: what the slice holds is known.
  The model's lines: rows of numbers that may be written, zeros at the end cut off. Conditions: what the slices hold is known.
  A copy of numbers by append onto a row of one's own, whatever is copied. Conditions: what is copied is known.
  The model's product of lines. Conditions: what the slices hold is known.
  The model's line less another one times an element and a power. Conditions: what the slices hold is known.
-/
import Derived.Test.YtfmpcniehgipfaaBf12
import Derived.Test.YtfmpcniehgipfaaBf9
import Derived.RangeFuncNested
import Derived.RangeFuncBound
import Derived.RangeFuncCalls
import Derived.RangeFuncLeaves
import Derived.Shelf.Abstract
import Derived.Shelf.RegionOpen
import Derived.OwnWalkIn
import Derived.TacticsInMore
import Derived.LoopNIn
import Derived.LoopIn
import Derived.Deep.Upon
import Derived.Test.YtfmpcniehgipfaaBf13
import Derived.Test.YtfmpcniehgipfaaBf2
import Derived.Test.YtfmpcniehgipfaaBf10
import Derived.Test.YtfmpcniehgipfaaBf4
import Derived.Test.YtfmpcniehgipfaaBf7
import Derived.Deep.AppendLies
import Derived.Laws.OwnMore
namespace Go.Proofs.Ytfmpcniehgipfaa
set_option linter.unusedVariables false
open Go.RowKit Go.Shelf
/-- an index and an element as values -/
def encB (t : Nat × Int × Int) : Array Value := #[.int .i64 ((t.1 : Nat) : Int), .agg #[.int .i64 t.2.1, .int .i64 t.2.2]]
/-- the first m of n, from the last one on -/
def bkS (n : Nat) (c : Nat → Int × Int) (m : Nat) : List (Nat × Int × Int) := (List.range m).map fun k => (n - 1 - k, c (n - 1 - k))
theorem bkS_len (n : Nat) (c : Nat → Int × Int) (m : Nat) : (bkS n c m).length = m := by simp [bkS]
theorem bkS_next (n : Nat) (c : Nat → Int × Int) (m : Nat) : bkS n c (m + 1) = bkS n c m ++ [(n - 1 - m, c (n - 1 - m))] := by
  unfold bkS; rw [List.range_succ, List.map_append]; rfl
theorem bkS_at {n m : Nat} (c : Nat → Int × Int) (h : m < n) : ∃ post, bkS n c n = bkS n c m ++ (n - 1 - m, c (n - 1 - m)) :: post := by
  refine ⟨((List.range n).drop (m + 1)).map fun k => (n - 1 - k, c (n - 1 - k)), ?_⟩
  unfold bkS
  have e : List.range n = List.range m ++ m :: (List.range n).drop (m + 1) := by
    conv => lhs; rw [← List.take_append_drop m (List.range n)]
    rw [List.take_range, Nat.min_eq_left (by omega), List.drop_eq_getElem_cons (by simpa using h)]
    simp
  conv => lhs; rw [e, List.map_append]
  rfl
/-- a part of it is one of its beginnings -/
theorem bkS_pre {n : Nat} {c : Nat → Int × Int} {pre post : List (Nat × Int × Int)} {x : Nat × Int × Int} (h : bkS n c n = pre ++ x :: post) : pre = bkS n c pre.length ∧ x = (n - 1 - pre.length, c (n - 1 - pre.length)) ∧ pre.length < n := by
  have hl : pre.length < n := by
    have := congrArg List.length h
    rw [bkS_len] at this
    simp at this
    omega
  obtain ⟨post2, h2⟩ := bkS_at c hl
  rw [h2] at h
  have e := List.append_inj h (by rw [bkS_len])
  refine ⟨e.1.symm, ?_, hl⟩
  have := e.2
  simp only [List.cons.injEq] at this
  exact this.1.symm
/-- the iterator's slice, and what it has yet to read -/
def RdB (bs n : Nat) (a : Option Addr) (g off cap : Nat) (c : Nat → Int × Int) (pre : List (Nat × Int × Int)) (W : World) : Prop :=
  W.cell? ⟨bs, 0, none⟩ = some (.slice a n cap) ∧ ∀ i, i + pre.length < n → W.cell? ⟨g, off + i * 2, none⟩ = some (.int .i64 (c i).1) ∧ W.cell? ⟨g, off + i * 2 + 1, none⟩ = some (.int .i64 (c i).2)
set_option maxHeartbeats 1000000 in
theorem bke_val (F : Fence) (n : Nat) (hF : F.fn 117) (hro : F.round = none) (a : Option Addr) (len cap : Nat) (w : World) :
    CallsIn F n Try.prog 117 #[.slice a len cap] w fun e w' => e = .returned (.func (.func 141) #[] #[.pointer (some ⟨w.heap.size, 0, none⟩)]) ∧ w' = w.alloc (.cells #[.slice a len cap] 63) := by
  refine callsIn_of_wp Try.func117 rfl hF ?_ hro
  simp only [Try.ntmps117, List.size_toArray, List.length_cons, List.length_nil, Nat.reduceAdd, Nat.reduceSub, Array.replicate_succ, Array.replicate_zero, List.push_toArray, List.append_toArray, List.nil_append, List.cons_append]
  gi_wp2
  go_ret
  exact ⟨rfl, rfl⟩
set_option maxHeartbeats 1000000 in
theorem bke_valP (a : Option Addr) (len cap : Nat) (w : World) :
    Calls Try.prog 117 #[.slice a len cap] w fun e w' => e = .returned (.func (.func 141) #[] #[.pointer (some ⟨w.heap.size, 0, none⟩)]) ∧ w' = w.alloc (.cells #[.slice a len cap] 63) := by
  go_enter Try.func117, Try.ntmps117
  go_wp2
  go_ret
  exact ⟨rfl, rfl⟩
attribute [local go_sem] Oper.semAt_some
set_option maxRecDepth 100000 in
set_option maxHeartbeats 4000000 in
theorem bke_seq (N bs n g off cap : Nat) (a : Option Addr) (c : Nat → Int × Int) (hN : 1 ≤ N) (hn : n ≤ 1000) (ha : n = 0 ∨ a = some ⟨g, off, none⟩) :
    ValSeq2 encB Fence.wide N Try.prog 141 #[.pointer (some ⟨bs, 0, none⟩)] (RdB bs n a g off cap c) (bkS n c n) := by
  intro l T J Jx W hT hTo hTox hRd hJ hJx hY h0
  have HR := Lib.hid hRd
  have HY := Lib.hid hY
  have H0 := Lib.hid h0
  have HA := Lib.hid ha
  obtain ⟨c0, _⟩ := hRd _ _ h0
  clear hT hTo hTox hRd hJ hJx hY h0 ha
  refine callsIn_of_wp_marks Try.func141 rfl trivial ?_ rfl
  simp only [Try.ntmps141, List.size_toArray, List.length_cons, List.length_nil, Nat.reduceAdd, Nat.reduceSub, Array.replicate_succ, Array.replicate_zero, List.push_toArray, List.append_toArray, List.nil_append, List.cons_append]
  gi_wp2_with fail
  clear c0
  gi_loopw [3] (fun i wr => ∃ m : Nat, m ≤ n ∧ i = .int .i64 ((n : Int) - 1 - m) ∧ J (bkS n c m) wr) (fun i _ => (intOf i + 1).toNat)
  case atStart => exact ⟨0, Nat.zero_le _, by simp, H0.out⟩
  case round =>
    obtain ⟨m, hm, rfl, hj⟩ := hrel
    have HJ := Lib.hid hj
    obtain ⟨c0, cc⟩ := HR.out _ _ hj
    clear hj
    by_cases hlt : m < n
    · obtain ⟨i, hi⟩ : ∃ i : Nat, n - 1 - m = i := ⟨_, rfl⟩
      have hij : (n : Int) - 1 - m = (i : Int) := by omega
      rw [hij]
      have hil : i < n := by omega
      have hilp : (i : Int) < (n : Int) := by omega
      have hi0 : (0 : Int) ≤ (i : Int) := by omega
      have hwi : IntKind.i64.wrap ((i : Int) - 1) = (i : Int) - 1 := IntWalk.i64_in _ (by omega)
      have HNX := Lib.hid (show (i : Int) - 1 = (n : Int) - 1 - ((m + 1 : Nat) : Int) by omega)
      obtain ⟨b0, b1⟩ := cc i (by rw [bkS_len]; omega)
      obtain rfl : a = some ⟨g, off, none⟩ := HA.out.resolve_left (by omega)
      obtain ⟨post, hpost⟩ := bkS_at c hlt
      rw [hi] at hpost
      obtain ⟨fn, tmps, assign, body, hy, hRR⟩ := HY.out _ _ _ _ HJ.out hpost
      have HRR := Lib.hid hRR
      simp only [encB] at hy
      have HE := Lib.hid (show bkS n c m ++ [(i, c i)] = bkS n c (m + 1) by rw [bkS_next, hi])
      have HS := Lib.hid hpost
      obtain ⟨q1, q2⟩ : ∃ y : Int × Int, y = c i := ⟨_, rfl⟩
      clear cc hi hij hpost hRR
      gi_wp2_with fail
      refine HRR.out.mono ?_
      rintro e W3 (⟨rfl, hJ3, hk3⟩ | ⟨rfl, hJx3, hk3⟩)
      · have HJ3 := Lib.hid (show J (bkS n c (m + 1)) W3 from by rw [← HE.out]; exact hJ3)
        clear hJ3 hk3 b0 b1 c0 hy HRR
        gi_wp2_with fail
        go_roundw
        case rel => exact ⟨m + 1, hlt, by rw [HNX.out], HJ3.out⟩
        case measure => simp [intOf] <;> omega
      · have HJ3 := Lib.hid hJx3
        clear hJx3 hk3 b0 b1 c0 hy HRR
        gi_wp2_with fail
        exact ⟨_, results_none rfl _ _ _, ⟨_, rfl⟩, .inr ⟨_, _, _, HS.out, HJ3.out⟩⟩
    · have hml : m = n := by omega
      subst hml
      have hij : (m : Int) - 1 - (m : Int) = -1 := by omega
      rw [hij]
      clear c0 cc
      gi_wp2_with fail
      exact ⟨_, results_none rfl _ _ _, ⟨_, rfl⟩, .inl HJ.out⟩
end Go.Proofs.Ytfmpcniehgipfaa
namespace Go.Proofs.Ytfmpcniehgipfaa
set_option linter.unusedVariables false
open Go.RowKit Go.Shelf
/-- a block of n elements that may be written -/
structure ElC (g n : Nat) (c : Nat → Int × Int) (W : World) : Prop where
  lt : g < W.heap.size
  c0 : ∀ i, i < n → W.cell? ⟨g, i * 2, none⟩ = some (.int .i64 (c i).1)
  c1 : ∀ i, i < n → W.cell? ⟨g, i * 2 + 1, none⟩ = some (.int .i64 (c i).2)
  fz : ∀ i, i < n * 2 → W.frozen? ⟨g, i, none⟩ = false
theorem ElC.heap {g n : Nat} {c : Nat → Int × Int} {W W' : World} (h : ElC g n c W) (hs : W.heap.size ≤ W'.heap.size) (e : W'.heap[g]? = W.heap[g]?) : ElC g n c W' :=
  ⟨Nat.lt_of_lt_of_le h.lt hs, fun i hi => (cell_of_heap (p := ⟨g, i * 2, none⟩) e).trans (h.c0 i hi), fun i hi => (cell_of_heap (p := ⟨g, i * 2 + 1, none⟩) e).trans (h.c1 i hi), fun i hi => (frozen_of_heap (p := ⟨g, i, none⟩) e).trans (h.fz i hi)⟩
theorem ElC.below {g n : Nat} {c : Nat → Int × Int} {W W' : World} (h : ElC g n c W) (hb : Below W.heap.size W W') : ElC g n c W' := h.heap hb.size (hb.block g h.lt)
theorem ElC.ext {g n : Nat} {c d : Nat → Int × Int} {W : World} (h : ElC g n c W) (he : ∀ i, i < n → d i = c i) : ElC g n d W :=
  ⟨h.lt, fun i hi => by rw [he i hi]; exact h.c0 i hi, fun i hi => by rw [he i hi]; exact h.c1 i hi, h.fz⟩
theorem ElC.grow {g n B : Nat} {c : Nat → Int × Int} {W W' : World} (h : ElC g n c W) (hg : GrowB B W W') : ElC g n c W' := by
  refine ⟨Nat.lt_of_lt_of_le h.lt hg.size, fun i hi => hg.cell (h.c0 i hi), fun i hi => hg.cell (h.c1 i hi), fun i hi => ?_⟩
  have hl : i / 2 < n := by omega
  rcases Nat.mod_two_eq_zero_or_one i with hm | hm
  · have e : i = i / 2 * 2 := by omega
    rw [e]
    exact (hg.frozen (h.c0 (i / 2) hl)).trans (h.fz _ (by omega))
  · have e : i = i / 2 * 2 + 1 := by omega
    rw [e]
    exact (hg.frozen (h.c1 (i / 2) hl)).trans (h.fz _ (by omega))
theorem ElC.set {g n : Nat} {c : Nat → Int × Int} {W : World} (h : ElC g n c W) {j : Nat} (hj : j < n) (p y : Int) : ElC g n (fun i => if i = j then (p, y) else c i) ((W.setCell ⟨g, j * 2, none⟩ (.int .i64 p)).setCell ⟨g, j * 2 + 1, none⟩ (.int .i64 y)) := by
  have ne : ∀ a b : Nat, a ≠ b → (⟨g, a, none⟩ : Addr) ≠ ⟨g, b, none⟩ := fun a b q e => q (by have := congrArg Addr.off e; simpa using this)
  have e1 : (W.setCell ⟨g, j * 2, none⟩ (.int .i64 p)).cell? ⟨g, j * 2 + 1, none⟩ = some (.int .i64 (c j).2) := (World.cell?_setCell_other _ _ _ _ (ne _ _ (by omega))).trans (h.c1 j hj)
  refine ⟨by simpa using h.lt, fun i hi => ?_, fun i hi => ?_, fun i hi => by rw [World.frozen?_setCell, World.frozen?_setCell]; exact h.fz i hi⟩
  · rw [World.cell?_setCell_other _ _ _ _ (ne _ _ (by omega))]
    by_cases e : i = j
    · subst e
      rw [if_pos rfl]
      exact World.cell?_setCell_same _ _ _ (h.c0 i hi)
    · rw [if_neg e, World.cell?_setCell_other _ _ _ _ (ne _ _ (by omega))]
      exact h.c0 i hi
  · by_cases e : i = j
    · subst e
      rw [if_pos rfl]
      exact World.cell?_setCell_same _ _ _ e1
    · rw [if_neg e, World.cell?_setCell_other _ _ _ _ (ne _ _ (by omega)), World.cell?_setCell_other _ _ _ _ (ne _ _ (by omega))]
      exact h.c1 i hi
theorem ElC.far {g n g2 o : Nat} {c : Nat → Int × Int} {W : World} (h : ElC g n c W) (hn : g2 ≠ g) (v : Value) : ElC g n c (W.setCell ⟨g2, o, none⟩ v) :=
  h.heap (by simp) (Below.heap_setCell _ _ _ _ (fun e => hn e.symm))
/-- what a copied row is as a block of elements -/
theorem RowE.elc {w : World} {B : Nat} {v : Value} {p : Int} {L : List Int} (h : RowE w B v p L) (hL : 0 < L.length) : ∃ g C, v = .slice (some ⟨g, 0, none⟩) L.length C ∧ L.length ≤ C ∧ C ≤ maxLen ∧ B ≤ g ∧ ElC g L.length (fun i => (p, cf L i)) w := by
  obtain ⟨g, C, rfl, hB, hg, h1, h2⟩ := h.at_ hL
  exact ⟨g, C, rfl, h1, h2, hB, hg, fun i hi => (h.cells hi).1, fun i hi => (h.cells hi).2, fun i _ => h.froz rfl i⟩
theorem ElC.elr {g n C : Nat} {p : Int} {L : List Int} {W : World} (hn : L.length = n) (h : ElC g n (fun i => (p, cf L i)) W) (hC : n ≤ C ∧ C ≤ maxLen) (hl : n ≤ 1048576) : Elr W (.slice (some ⟨g, 0, none⟩) n C) p L := by
  subst hn
  exact ⟨hl, _, C, rfl, hC, .inr ⟨g, 0, rfl, h.lt, fun j hj => by rw [Nat.zero_add]; exact ⟨h.c0 j hj, h.c1 j hj⟩⟩⟩
/-- a new block of zeros -/
theorem elc_make {w : World} {B n : Nat} {g C : Nat} (h : w.ownsRow B 61 2 (.slice (some ⟨g, 0, none⟩) n C) n (madeCells #[.int .i64 0, .int .i64 0] (n * 2)).toList) : ElC g n (fun _ => (0, 0)) w := by
  have hm : ∀ j, j < n * 2 → (madeCells #[Value.int .i64 0, .int .i64 0] (n * 2)).toList[j]? = some (Value.int .i64 0) := by
    intro j hj
    have hs : (madeCells #[Value.int .i64 0, .int .i64 0] (n * 2)).size = n * 2 := size_madeCells _ _
    rw [Array.getElem?_toList, Array.getElem?_eq_getElem (by rw [hs]; exact hj)]
    congr 1
    unfold madeCells
    simp
    rcases Nat.mod_two_eq_zero_or_one j with e | e <;> simp [e]
  refine ⟨(h.lt g rfl).2, fun i hi => ?_, fun i hi => ?_, fun i _ => World.ownsRow.frozenAt h i⟩
  · rw [World.ownsRow.cellAt h (i * 2) (by omega)]; exact hm _ (by omega)
  · rw [World.ownsRow.cellAt h (i * 2 + 1) (by omega)]; exact hm _ (by omega)
theorem Elr.grow {B : Nat} {W W' : World} {v : Value} {p : Int} {L : List Int} (h : Elr W v p L) (hg : GrowB B W W') : Elr W' v p L := by
  obtain ⟨h1, a, cap, hv, hk, h2⟩ := h
  refine ⟨h1, a, cap, hv, hk, ?_⟩
  rcases h2 with h2 | ⟨g, off, ha, hg', hc⟩
  · exact .inl h2
  · exact .inr ⟨g, off, ha, Nat.lt_of_lt_of_le hg' hg.size, fun j hj => ⟨hg.cell (hc j hj).1, hg.cell (hc j hj).2⟩⟩
/-- two blocks alone -/
def T2v (a b : Nat) (W : World) (k : Nat) : Prop := k < W.heap.size ∧ (k = a ∨ k = b)
theorem T2v.of {a b : Nat} {A C : World} {k : Nat} (h : T2v a b C k) (ha : a < A.heap.size) (hb : b < A.heap.size) : T2v a b A k := by
  obtain ⟨_, h | h⟩ := h
  · exact ⟨by omega, .inl h⟩
  · exact ⟨by omega, .inr h⟩
theorem KpV.keep2 {a b : Nat} {W W' : World} (h : KpV (T2v a b) W W') {k : Nat} (hk : k < W.heap.size) (h1 : k ≠ a) (h2 : k ≠ b) : W'.heap[k]? = W.heap[k]? := h.same k hk (fun q => q.2.elim h1 h2)
theorem kpV2_set {a b g : Nat} {W : World} {p y : Int} {j : Nat} (hg : g = a ∨ g = b) (ha : a < W.heap.size) (hb : b < W.heap.size) : KpV (T2v a b) W ((W.setCell ⟨g, j * 2, none⟩ (.int .i64 p)).setCell ⟨g, j * 2 + 1, none⟩ (.int .i64 y)) := by
  refine ⟨rfl, rfl, rfl, by simp, fun k hk hn => ?_, fun k q => .inl (q.of ha hb)⟩
  have hkg : k ≠ g := fun e => hn ⟨hk, by rcases hg with h | h <;> omega⟩
  rw [Below.heap_setCell _ _ _ _ hkg, Below.heap_setCell _ _ _ _ hkg]
/-- the inverse of an element that is not 0 -/
theorem invT_ok {p a iv : Int} (hp : isP p = true) (h0 : 0 < a) (h1 : a < p) (hiv : iv = ivV p a) : invT p a = .tuple #[(.agg #[.int .i64 (p), .int .i64 (iv)]), .bool true] := by
  obtain ⟨f1, f2⟩ := inv_fact hp (by omega) h1
  have hs : (invO p a).isSome = true := by rw [f1]; simp; omega
  obtain ⟨n, hn⟩ := Option.isSome_iff_exists.1 hs
  have hv : ivV p a = (n : Int) := by unfold ivV; rw [if_pos (isE1_iff.2 ⟨hp, by omega, h1⟩), hn]; rfl
  unfold invT
  rw [hn, hiv, hv]
end Go.Proofs.Ytfmpcniehgipfaa
namespace Go.Proofs.Ytfmpcniehgipfaa
set_option linter.unusedVariables false
open Go.RowKit Go.Shelf
attribute [local go_sem] Oper.semAt_some
set_option maxRecDepth 100000 in
set_option maxHeartbeats 8000000 in
theorem iAt (p x0 : Int) (v : Value) (L : List Int) (w : World) (hp : isP p = true) (h : Elr w v p L) (hE : AllE p L) (hl : L.length ≤ 1000) (hx0 : 0 ≤ x0) (hx1 : x0 < p) :
    Calls Try.prog 70 #[v, (.agg #[.int .i64 (p), .int .i64 (x0)])] w fun e w' => e = .returned ((.agg #[.int .i64 (p), .int .i64 (hvF p x0 L)])) ∧ Below w.heap.size w w' := by
  obtain ⟨hpb1, hpb2⟩ := isP_bd hp
  have HP := Lib.hid hp
  have HE := Lib.hid hE
  obtain ⟨_, a, cap, rfl, hk, hd⟩ := h
  have HD := Lib.hid hd
  have HZ := Lib.hid (fun w => iZero p x0 hp hx0 hx1 w)
  clear hp hE hd hk
  refine (callsIn_wide (n := 40)).1 ?_
  refine callsIn_of_wp_marks Try.func70 rfl trivial ?_ rfl
  simp only [Try.ntmps70, List.size_toArray, List.length_cons, List.length_nil, Nat.reduceAdd, Nat.reduceSub, Array.replicate_succ, Array.replicate_zero, List.push_toArray, List.append_toArray, List.nil_append, List.cons_append]
  gi_wp2_with fail
  refine ⟨trivial, ?_⟩
  refine (callsIn_wide.2 (HZ.out _)).mono ?_
  rintro e w1 ⟨rfl, hb1⟩
  have HA1 := Lib.hid (show w1.cell? ⟨w.heap.size, 0, none⟩ = some (.int .i64 p) ∧ w1.cell? ⟨w.heap.size, 1, none⟩ = some (.int .i64 x0) ∧ BoxE (w.heap.size + 1) 0 0 w1 from by
    refine ⟨?_, ?_, ?_⟩
    · rw [hb1.cell (p := ⟨w.heap.size, 0, none⟩) (by simp <;> omega)]; simp [go_sem]
    · rw [hb1.cell (p := ⟨w.heap.size, 1, none⟩) (by simp <;> omega)]; simp [go_sem]
    · refine BoxE.below ?_ hb1
      have := BoxE.new (w.alloc (Obj.cells #[.int .i64 p, .int .i64 x0] 61)) 0 0 61
      simpa using this)
  have hz1 : w.heap.size + 2 ≤ w1.heap.size := by have := hb1.size; simp at this; omega
  have HB1 := Lib.hid (show Below w.heap.size w w1 from (show Below w.heap.size w ((w.alloc (Obj.cells #[.int .i64 p, .int .i64 x0] 61)).alloc (Obj.cells #[.int .i64 0, .int .i64 0] 61)) from (by repeat (first | exact Below.refl _ _ | apply Below.drew | apply below_drewN | (refine Below.alloc ?_ (by first | omega | (simp <;> omega)) _)))).trans (hb1.mono (by simp <;> omega)))
  clear hb1
  gi_wp2_with fail
  refine ⟨trivial, ?_⟩
  refine (bke_val Fence.wide _ trivial rfl _ _ _ _).mono ?_
  rintro e w2 ⟨rfl, rfl⟩
  gi_wp2_with fail
  obtain ⟨g, off, hga, hgl, hgc⟩ : ∃ g off, (L.length = 0 ∨ a = some ⟨g, off, none⟩) ∧ (0 < L.length → g < w.heap.size) ∧ ∀ j, j < L.length → w.cell? ⟨g, off + j * 2, none⟩ = some (.int .i64 p) ∧ w.cell? ⟨g, off + j * 2 + 1, none⟩ = some (.int .i64 (cf L j)) := by
    rcases HD.out with ⟨_, _, h0⟩ | ⟨g, off, ha, hg, hc⟩
    · exact ⟨0, 0, .inl (by rw [h0]; rfl), fun q => by rw [h0] at q; simp at q, fun j hj => by rw [h0] at hj; simp at hj⟩
    · exact ⟨g, off, .inr ha, fun _ => hg, hc⟩
  obtain ⟨W0, hW0⟩ : ∃ W0, W0 = ((w1.alloc (Obj.cells #[Value.int IntKind.i64 p, Value.int IntKind.i64 0] 61)).alloc (Obj.cells #[Value.slice a L.length cap] 63)) := ⟨_, rfl⟩
  rw [← hW0]
  have s0 : W0.heap.size = w1.heap.size + 2 := by rw [hW0]; simp
  have b0 : Below w1.heap.size w1 W0 := by rw [hW0]; exact (by repeat (first | exact Below.refl _ _ | apply Below.drew | apply below_drewN | (refine Below.alloc ?_ (by first | omega | (simp <;> omega)) _)))
  have bV : BoxE w1.heap.size p 0 W0 := by rw [hW0]; exact (BoxE.new w1 p 0 _).below (Below.alloc (Below.refl _ _) (Nat.le_refl _) _)
  have cS : W0.cell? ⟨w1.heap.size + 1, 0, none⟩ = some (.slice a L.length cap) := by rw [hW0]; exact World.cell?_alloc_at _ _ _ _ (by simp)
  have HBW := Lib.hid (show Below w.heap.size w W0 from HB1.out.trans (b0.mono HB1.out.size))
  obtain ⟨vb, hvb⟩ : ∃ vb, vb = w1.heap.size := ⟨_, rfl⟩
  have HA0 := Lib.hid (show W0.cell? ⟨w.heap.size, 0, none⟩ = some (.int .i64 p) ∧ W0.cell? ⟨w.heap.size, 1, none⟩ = some (.int .i64 x0) ∧ BoxE (w.heap.size + 1) 0 0 W0 from
    ⟨(b0.cell (p := ⟨w.heap.size, 0, none⟩) (by show w.heap.size < _; omega)).trans HA1.out.1, (b0.cell (p := ⟨w.heap.size, 1, none⟩) (by show w.heap.size < _; omega)).trans HA1.out.2.1, HA1.out.2.2.heap (b0.block _ (by omega))⟩)
  have HG := Lib.hid (show ∀ j, j < L.length → W0.cell? ⟨g, off + j * 2, none⟩ = some (.int .i64 p) ∧ W0.cell? ⟨g, off + j * 2 + 1, none⟩ = some (.int .i64 (cf L j)) from fun j hj =>
    ⟨(HBW.out.cell (p := ⟨g, off + j * 2, none⟩) (hgl (by omega))).trans (hgc j hj).1, (HBW.out.cell (p := ⟨g, off + j * 2 + 1, none⟩) (hgl (by omega))).trans (hgc j hj).2⟩)
  have HGL := Lib.hid hgl
  rw [← hvb] at bV cS ⊢
  have hvw : w.heap.size + 2 ≤ vb := by omega
  have hvW : W0.heap.size = vb + 2 := by omega
  have HRD := Lib.hid (fun (pre : List (Nat × Int × Int)) (Wx : World) (hx : KpV (T1v vb) W0 Wx) => show RdB (vb + 1) L.length a g off cap (fun i => (p, cf L i)) pre Wx from
    ⟨(cell_of_heap (p := ⟨vb + 1, 0, none⟩) (hx.keep (k := vb + 1) (by omega) (by omega))).trans cS, fun i hi => by
      have hg0 := hgl (by omega)
      have e := hx.keep (k := g) (by omega) (by omega)
      exact ⟨(cell_of_heap (p := ⟨g, off + i * 2, none⟩) e).trans (HG.out i (by omega)).1, (cell_of_heap (p := ⟨g, off + i * 2 + 1, none⟩) e).trans (HG.out i (by omega)).2⟩⟩)
  have HBV := Lib.hid bV
  clear hW0 s0 b0 bV cS hgl hgc hvb hz1 HA1 HB1 HD
  refine wpIn_rangeVals2 (enc := encB) (S := bkS L.length (fun i => (p, cf L i)) L.length) rfl (by omega) (gf := 141) (lb := #[.pointer (some ⟨vb + 1, 0, none⟩)]) rfl trivial (enters_of Try.func141 (by kernel_rfl) rfl)
    (bke_seq (40 - 1) (vb + 1) L.length g off cap a (fun i => (p, cf L i)) (by omega) hl hga) (fun x => rfl) (T1v vb) (fun A k hk => hk.1)
    (fun pre Wc => BoxE vb p (hvF p x0 (L.drop (L.length - pre.length))) Wc ∧ KpV (T1v vb) W0 Wc)
    (fun s A C k hs hgr q => q.of hs.1.lt)
    (fun s A C hs hgr => ⟨hs.1.grow hgr, hs.2.grow (Nat.le_refl _) hgr (fun k q => q.of hs.1.lt)⟩)
    (fun pre Wc hs => HRD.out pre Wc hs.2)
    (fun c pre Wc => False) (fun c s A C hs hgr => hs) (fun c s A C k hs => hs.elim)
    ⟨by rw [List.length_nil, Nat.sub_zero, hvF_end]; exact HBV.out, KpV.refl _ _⟩
    (fun t a' Wc => ∃ bx : Nat, a' = { tmps := #[Value.slice a L.length cap, Value.agg #[Value.int IntKind.i64 p, Value.int IntKind.i64 x0], undef, Value.pointer (some ⟨w.heap.size, 0, none⟩), Value.pointer (some ⟨w.heap.size + 1, 0, none⟩), Value.pointer (some ⟨vb, 0, none⟩), undef, .pointer (some ⟨bx, 0, none⟩), Value.agg #[Value.int IntKind.i64 p, Value.int IntKind.i64 x0], Value.agg #[Value.int IntKind.i64 p, Value.int IntKind.i64 0], Value.slice a L.length cap,
          Value.func (Fn.func 141) #[] #[Value.pointer (some ⟨vb + 1, 0, none⟩)], .int .i64 (t.1 : Nat), .agg #[.int .i64 t.2.1, .int .i64 t.2.2], undef, undef, undef, undef, undef, undef, undef, undef], defers := [] } ∧ (Wc.cell? ⟨bx, 0, none⟩ = some (.int .i64 t.2.1) ∧ Wc.cell? ⟨bx, 1, none⟩ = some (.int .i64 t.2.2)) ∧ vb < bx)
    (fun t a' _ A C hs hgr => by
      obtain ⟨bx, e, ⟨h0, h1⟩, h4⟩ := hs
      exact ⟨bx, e, ⟨hgr.cell h0, hgr.cell h1⟩, h4⟩) ?assign ?body ?done ?stop
  case assign =>
    rintro l2 pre t post Wc K ⟨q1, q4⟩ hS hs hK
    simp only [encB]
    gi_wp2_with fail
    exact hK _ _ (Below.alloc (Below.refl _ _) (Nat.le_refl _) _) ⟨_, rfl, ⟨by simp [go_sem], by simp [go_sem]⟩, by have := q4.size; omega⟩
  case done =>
    rintro D Wd hD hnD ⟨q1, q4⟩ hKD
    rw [bkS_len, Nat.sub_self, List.drop_zero] at q1
    have HONE := Lib.hid q4
    have HQ1 := Lib.hid q1
    have HD := Lib.hid hKD
    have HR := Lib.hid (show BoxE (w.heap.size + 1) 0 0 Wd from HA0.out.2.2.heap (q4.keep (by omega) (by omega)))
    clear q1 q4 hKD
    simp only [Exit.inBlock]
    rename_i hcont
    refine hcont _ _ ?_
    obtain ⟨c0, c1, _, _⟩ := HQ1.out
    obtain ⟨r0, r1, r2, r3⟩ := HR.out
    gi_wp2_with fail
    have hs2 : w.heap.size + 1 < Wd.heap.size := World.block_lt_of_cell? _ ⟨w.heap.size + 1, 0, none⟩ r0
    obtain ⟨Wf, hWf⟩ : ∃ Wf, Wf = ((Wd.setCell ⟨w.heap.size + 1, 0, none⟩ (.int .i64 p)).setCell ⟨w.heap.size + 1, 1, none⟩ (.int .i64 (hvF p x0 L))) := ⟨_, rfl⟩
    have hq := HR.out
    have hBf : BoxE (w.heap.size + 1) p (hvF p x0 L) Wf := by
      obtain ⟨q0, q1⟩ := two_set (y0 := .int .i64 p) (y1 := .int .i64 (hvF p x0 L)) r0 r1
      rw [hWf]
      exact ⟨q0, q1, by rw [World.frozen?_setCell, World.frozen?_setCell]; exact r2, by rw [World.frozen?_setCell, World.frozen?_setCell]; exact r3⟩
    have hKD2 : Wf.heap[D]? = some (.deferred (some [])) := by
      rw [hWf, Below.heap_setCell _ _ _ _ (show D ≠ w.heap.size + 1 by omega), Below.heap_setCell _ _ _ _ (show D ≠ w.heap.size + 1 by omega)]; exact HD.out
    have hBl : Below w.heap.size w Wf := by
      rw [hWf]
      refine Below.setCell (Below.setCell ?_ (by show w.heap.size ≤ w.heap.size + 1; omega) _) (by show w.heap.size ≤ w.heap.size + 1; omega) _
      exact ⟨HONE.out.os.trans HBW.out.os, HONE.out.tape.trans HBW.out.tape, HONE.out.output.trans HBW.out.output, Nat.le_trans HBW.out.size HONE.out.size, fun k hk => (HONE.out.keep (by omega) (by omega)).trans (HBW.out.block k hk)⟩
    have hBf2 : BoxE (w.heap.size + 1) p (hvF p x0 L) (Wf.putObj D (.deferred none)) := hBf.heap (World.putObj_heap_other (by omega))
    refine ⟨by simp, .inl ⟨_, _, rfl, run_takeDeferred (hWf ▸ hKD2), ?_⟩⟩
    rw [← hWf]
    refine ⟨(.agg #[.int .i64 (p), .int .i64 (hvF p x0 L)]), ?_, rfl, hBl.trans (belowK_b (w := w) (Nat.le_refl _) _ D _ _ (by omega) hKD2 rfl rfl)⟩
    simp [results, Try.results70, go_sem, hBf2.c0, hBf2.c1]
  case stop =>
    rintro D c pre t post0 Wd hD hS hF hKD
    exact hF.elim
  case body =>
    rintro l2 pre t post a' Wc ⟨q1, q4⟩ ⟨bx, rfl, ⟨b0, b1⟩, hbb⟩ hS hs
    obtain ⟨e1, e2, hlt⟩ := bkS_pre hS
    obtain ⟨i, hi⟩ : ∃ i, i = L.length - 1 - pre.length := ⟨_, rfl⟩
    rw [← hi] at e2
    subst e2
    have hil : i < L.length := by omega
    obtain ⟨y, hy⟩ : ∃ y, y = hvF p x0 (L.drop (i + 1)) := ⟨_, rfl⟩
    have hq1 : BoxE vb p y Wc := by rw [hy, show i + 1 = L.length - pre.length by omega]; exact q1
    have HN := Lib.hid (show hvF p x0 (L.drop (L.length - (pre ++ [(i, p, cf L i)]).length)) = (y * x0 % p + cf L i) % p by
      rw [hy, List.length_append, List.length_singleton, show L.length - (pre.length + 1) = i by omega, hvF_drop hil]
      exact (((Cg.mod p _).add (Cg.refl p (cf L i))).emod).symm)
    have hyb := hvF_bd (show 0 < p by omega) x0 (L.drop (i + 1))
    rw [← hy] at hyb
    have hxb := HE.out i
    obtain ⟨x, hx⟩ : ∃ x, x = cf L i := ⟨_, rfl⟩
    rw [← hx] at HN b0 b1 hxb ⊢
    obtain ⟨z, hz⟩ : ∃ z, z = y * x0 % p := ⟨_, rfl⟩
    have hzb := emod_bdU (show 0 < p by omega) (y * x0)
    rw [← hz] at HN hzb
    have HT := Lib.hid (fun w => iTimes p y x0 HP.out hyb.1 hyb.2 hx0 hx1 w)
    rw [← hz] at HT
    have HPL := Lib.hid (fun w => iPlus p z x HP.out hzb.1 hzb.2 hxb.1 hxb.2 w)
    have hbxW := World.block_lt_of_cell? _ ⟨bx, 0, none⟩ b0
    have hvbW := hq1.lt
    have hsW := q4.size
    have HSS := Lib.hid (fun w' (hb : Below Wc.heap.size Wc w') => show w'.cell? ⟨vb, 0, none⟩ = some (.int .i64 p) ∧ w'.cell? ⟨vb, 1, none⟩ = some (.int .i64 y) ∧ w'.cell? ⟨w.heap.size, 0, none⟩ = some (.int .i64 p) ∧ w'.cell? ⟨w.heap.size, 1, none⟩ = some (.int .i64 x0) ∧ w'.cell? ⟨bx, 0, none⟩ = some (.int .i64 p) ∧ w'.cell? ⟨bx, 1, none⟩ = some (.int .i64 x) from by
      have e := (hb.block w.heap.size (by omega)).trans (q4.keep (k := w.heap.size) (by omega) (by omega))
      exact ⟨(hb.cell (p := ⟨vb, 0, none⟩) hvbW).trans hq1.c0, (hb.cell (p := ⟨vb, 1, none⟩) hvbW).trans hq1.c1, (cell_of_heap (p := ⟨w.heap.size, 0, none⟩) e).trans HA0.out.1, (cell_of_heap (p := ⟨w.heap.size, 1, none⟩) e).trans HA0.out.2.1,
        (hb.cell (p := ⟨bx, 0, none⟩) hbxW).trans b0, (hb.cell (p := ⟨bx, 1, none⟩) hbxW).trans b1⟩)
    have HQ1 := Lib.hid hq1
    have HQ4 := Lib.hid q4
    clear q1 q4 b0 b1 hS hi hy hx hz hq1 e1 hlt
    gi_wp2_with fail
    refine Go.wpIn_mono (Q := fun e a2 w' => e = Exit.normal ∧ rndPostX (T1v vb) (fun pre Wc => BoxE vb p (hvF p x0 (L.drop (L.length - pre.length))) Wc ∧ KpV (T1v vb) W0 Wc) (fun c pre Wc => False) (pre ++ [(i, p, x)]) Wc .normal a2 w') ?_ (by rintro e a w' ⟨rfl, h⟩; exact h)
    refine wpIn_region_seq_round [(0, true), (1, true), (2, true), (5, true), (3, false), (4, true), (6, false)] (fun w' => w'.cell? ⟨vb, 0, none⟩ = some (.int .i64 p) ∧ w'.cell? ⟨vb, 1, none⟩ = some (.int .i64 y) ∧ w'.cell? ⟨w.heap.size, 0, none⟩ = some (.int .i64 p) ∧ w'.cell? ⟨w.heap.size, 1, none⟩ = some (.int .i64 x0) ∧ w'.cell? ⟨bx, 0, none⟩ = some (.int .i64 p) ∧ w'.cell? ⟨bx, 1, none⟩ = some (.int .i64 x)) (by kernel_rfl) (by kernel_rfl) (by kernel_rfl) rfl (by rintro ⟨a, w, h, _⟩; cases h) (by rintro c a d v w ⟨h, _⟩; cases h) (HSS.out _ (Below.drew (Below.refl _ _))) ?_
    iterate 4 (refine wpSeq_take (v := ?_) (List.getElem?_toArray.trans rfl) ?_ ?_; rotate_left; (intro w' hSw; (try dsimp only at hSw); go_simp; (try with_reducible rfl)); (try simp only [Act.put, List.setIfInBounds_toArray, List.set_cons_zero, List.set_cons_succ]))
    refine wpSeq_do (List.getElem?_toArray.trans rfl) (fun K hK => ?_)
    go_simp
    refine (HT.out _).mono ?_
    rintro e w5 ⟨rfl, hb5⟩
    have HB5 := Lib.hid (show Below Wc.heap.size Wc w5 from (Below.drew (Below.refl _ _)).trans (hb5.mono (by simp)))
    refine hK _ _ (HSS.out _ HB5.out) ?_
    clear hK K hb5
    (refine wpSeq_take (v := ?_) (List.getElem?_toArray.trans rfl) ?_ ?_; rotate_left; (intro w' hSw; (try dsimp only at hSw); go_simp; (try with_reducible rfl)); (try simp only [Act.put, List.setIfInBounds_toArray, List.set_cons_zero, List.set_cons_succ]))
    refine wpSeq_do (List.getElem?_toArray.trans rfl) (fun K hK => ?_)
    go_simp
    refine (HPL.out _).mono ?_
    rintro e w6 ⟨rfl, hb6⟩
    have HB6 := Lib.hid (show Below Wc.heap.size Wc w6 from HB5.out.trans (hb6.mono HB5.out.size))
    refine hK _ _ (HSS.out _ HB6.out) ?_
    clear hK K hb6
    refine wpSeq_nil ?_
    simp only [Exit.then]
    have HC6 := Lib.hid (HQ1.out.below HB6.out)
    obtain ⟨c0, c1, f0, f1⟩ := HC6.out
    have HFIN := Lib.hid (show BoxE vb p (hvF p x0 (L.drop (L.length - (pre ++ [(i, p, x)]).length))) ((w6.setCell ⟨vb, 0, none⟩ (.int .i64 p)).setCell ⟨vb, 1, none⟩ (.int .i64 ((z + x) % p))) ∧ KpV (T1v vb) Wc ((w6.setCell ⟨vb, 0, none⟩ (.int .i64 p)).setCell ⟨vb, 1, none⟩ (.int .i64 ((z + x) % p))) from by
      refine ⟨?_, ?_⟩
      · rw [HN.out]; exact HC6.out.set _
      · have hk6 : KpV (T1v vb) Wc w6 := KpV.of_below HB6.out (fun k q => .inl (q.of hvbW))
        exact hk6.trans (kpV_set HC6.out.lt))
    go_wp2_with fail
    exact ⟨⟨HFIN.out.1, HQ4.out.trans HFIN.out.2⟩, HFIN.out.2⟩
end Go.Proofs.Ytfmpcniehgipfaa
namespace Go.Proofs.Ytfmpcniehgipfaa
set_option linter.unusedVariables false
open Go.RowKit
/-- what AtLine tells -/
def atV (p : Int) (L : List Int) (a : Int) : Int := if lineB p L = true ∧ isE p a = true then hvF p a L else -1
set_option maxHeartbeats 2000000 in
theorem sAtL (p a : Int) (v : Value) (L : List Int) (w : World) (hp : isP p = true) (h : Ints w v L) (hE : AllE p L) (hl : L.length ≤ 1000) (ha0 : 0 ≤ a) (ha1 : a < p) :
    Calls Try.prog 68 #[.int .i64 p, v, .int .i64 a] w fun e w' => e = .returned (.int .i64 (hvF p a L)) ∧ w = w' := by
  obtain ⟨hpb1, hpb2⟩ := isP_bd hp
  obtain ⟨_, av, cap, rfl, hd⟩ := h
  have HD := Lib.hid hd
  have HE := Lib.hid hE
  clear hd hp hE
  go_enter Try.func68, Try.ntmps68
  go_wp2_with fail
  go_loop [7, 8] (fun f i => ∃ m : Nat, m ≤ L.length ∧ i = .int .i64 ((L.length : Int) - 1 - m) ∧ f = .int .i64 (hvF p a (L.drop (L.length - m)))) (fun _ i => (intOf i + 1).toNat)
  case atStart => exact ⟨0, Nat.zero_le _, by simp, by rw [Nat.sub_zero, hvF_end]⟩
  case round =>
    obtain ⟨m, hm, rfl, rfl⟩ := hrel
    by_cases hlt : m < L.length
    · rcases HD.out with h0 | ⟨g, off, rfl, hg, hc⟩
      · rw [h0] at hlt; simp at hlt
      obtain ⟨i, hi⟩ : ∃ i : Nat, L.length - 1 - m = i := ⟨_, rfl⟩
      have hij : (L.length : Int) - 1 - m = (i : Int) := by omega
      rw [hij]
      have hil : i < L.length := by omega
      have hilp : (i : Int) < (L.length : Int) := by omega
      have hi0 : (0 : Int) ≤ (i : Int) := by omega
      have hige : (i : Int) ≥ 0 := by omega
      have hck := hc i hil
      have hwi : IntKind.i64.wrap ((i : Int) - 1) = (i : Int) - 1 := IntWalk.i64_in _ (by omega)
      have HNX := Lib.hid (show (i : Int) - 1 = (L.length : Int) - 1 - ((m + 1 : Nat) : Int) by omega)
      obtain ⟨y, hy⟩ : ∃ y, y = hvF p a (L.drop (L.length - m)) := ⟨_, rfl⟩
      have hyb := hvF_bd (show 0 < p by omega) a (L.drop (L.length - m))
      rw [← hy] at hyb ⊢
      have hxb := HE.out i
      obtain ⟨x, hx⟩ : ∃ x, x = cf L i := ⟨_, rfl⟩
      rw [show L.getD i 0 = cf L i from rfl, ← hx] at hck
      rw [← hx] at hxb
      have HN := Lib.hid (show hvF p a (L.drop (L.length - (m + 1))) = (y * a + x) % p by rw [show L.length - (m + 1) = i by omega, hvF_drop hil, hx, hy, show i + 1 = L.length - m by omega])
      have hya0 : 0 ≤ y * a := Int.mul_nonneg hyb.1 ha0
      have hya1 : y * a ≤ 169 := by
        have := Int.mul_le_mul (show y ≤ 13 by omega) (show a ≤ 13 by omega) ha0 (by omega)
        omega
      have hw1 : IntKind.i64.wrap (y * a) = y * a := IntWalk.i64_in _ (by omega)
      have hw2 : IntKind.i64.wrap (y * a + x) = y * a + x := IntWalk.i64_in _ (by omega)
      have htm : (y * a + x).tmod p = (y * a + x) % p := Int.tmod_eq_emod_of_nonneg (by omega)
      have hpn : ¬ p = 0 := by omega
      have hzb := emod_bdU (show 0 < p by omega) (y * a + x)
      obtain ⟨z, hz⟩ : ∃ z, z = (y * a + x) % p := ⟨_, rfl⟩
      rw [← hz] at HN htm hzb
      have hw3 : IntKind.i64.wrap z = z := IntWalk.i64_in _ (by omega)
      clear hc hi hij hy hx hz
      go_wp2_with fail
      go_round
      case rel => exact ⟨m + 1, hlt, by rw [HNX.out], by rw [HN.out]⟩
      case measure => simp [intOf] <;> omega
    · have hml : m = L.length := by omega
      subst hml
      rw [Nat.sub_self, List.drop_zero]
      have hij : (L.length : Int) - 1 - (L.length : Int) = -1 := by omega
      rw [hij]
      go_wp2_with fail
      go_ret
      exact ⟨rfl, rfl⟩
set_option maxHeartbeats 2000000 in
theorem sAtLine (p a : Int) (v : Value) (L : List Int) (w : World) (h : Ints w v L) (hl : L.length ≤ 1048576) :
    Calls Try.prog 24 #[.int .i64 p, v, .int .i64 a] w fun e w' => e = .returned (.int .i64 (atV p L a)) ∧ Below w.heap.size w w' := by
  have HL := Lib.hid (sLineValid p v L w h hl)
  cases hB : lineB p L
  · have HV := Lib.hid (show atV p L a = -1 by unfold atV; rw [hB]; simp)
    rw [hB] at HL
    rw [HV.out]
    clear hB
    go_enter Try.func24, Try.ntmps24
    go_wp2_with fail
    refine HL.out.mono ?_
    rintro e w2 ⟨rfl, rfl⟩
    go_wp2_with fail
    go_ret
    exact ⟨rfl, Below.refl _ _⟩
  · obtain ⟨hp, hE, hl10, _⟩ := lineB_iff.1 hB
    obtain ⟨q1, q2⟩ := isP_bd hp
    have hwp : IntKind.i64.wrap (p - 1) = p - 1 := IntWalk.i64_in _ (by omega)
    rw [hB] at HL
    cases hA : isE p a
    · have HV := Lib.hid (show atV p L a = -1 by unfold atV; rw [hA]; simp)
      have hR := Lib.hid (show (decide (0 ≤ a) && decide (a ≤ p - 1)) = false by have := isE_no hA; simp; omega)
      rw [HV.out]
      clear hB hp hE
      go_enter Try.func24, Try.ntmps24
      go_wp2_with fail
      refine HL.out.mono ?_
      rintro e w2 ⟨rfl, rfl⟩
      go_wp2_with (go_at_call 67; refine (sIn _ _ _ _).mono ?_; rw [hR.out]; rintro e w' ⟨rfl, rfl⟩)
      go_ret
      exact ⟨rfl, Below.refl _ _⟩
    · obtain ⟨a0, a1⟩ := isE_iff.1 hA
      have HV := Lib.hid (show atV p L a = hvF p a L by unfold atV; rw [if_pos ⟨hB, hA⟩])
      have hR := Lib.hid (show (decide (0 ≤ a) && decide (a ≤ p - 1)) = true by simp; omega)
      have HC := Lib.hid (sAtL p a v L w hp h hE (by omega) a0 a1)
      rw [HV.out]
      clear hB hp hE hA a0 a1
      go_enter Try.func24, Try.ntmps24
      go_wp2_with fail
      refine HL.out.mono ?_
      rintro e w2 ⟨rfl, rfl⟩
      go_wp2_with (first | (go_at_call 67; refine (sIn _ _ _ _).mono ?_; rw [hR.out]; rintro e w' ⟨rfl, rfl⟩) | (go_at_call 68; refine HC.out.mono ?_; rintro e w' ⟨rfl, rfl⟩))
      go_ret
      exact ⟨rfl, Below.refl _ _⟩
set_option maxHeartbeats 2000000 in
theorem iAtLine (p a : Int) (v : Value) (L : List Int) (w : World) (h : Ints w v L) (hl : L.length ≤ 1048576) :
    Calls Try.prog 25 #[.int .i64 p, v, .int .i64 a] w fun e w' => e = .returned (.int .i64 (atV p L a)) ∧ Below w.heap.size w w' := by
  have HL := Lib.hid (iLineValid p v L w h hl)
  cases hB : lineB p L
  · have HV := Lib.hid (show atV p L a = -1 by unfold atV; rw [hB]; simp)
    rw [hB] at HL
    rw [HV.out]
    clear hB
    go_enter Try.func25, Try.ntmps25
    go_wp2_with fail
    refine HL.out.mono ?_
    rintro e w2 ⟨rfl, rfl⟩
    go_wp2_with fail
    go_ret
    exact ⟨rfl, Below.refl _ _⟩
  · obtain ⟨hp, hE, hl10, _⟩ := lineB_iff.1 hB
    rw [hB] at HL
    have hb1 : Below w.heap.size w (w.alloc (Obj.cells #[.int .i64 a] 3)) := Below.alloc (Below.refl _ _) (Nat.le_refl _) _
    have HI := Lib.hid (iAE1 p a w.heap.size (w.alloc (Obj.cells #[.int .i64 a] 3)) (by simp [go_sem]))
    cases hA : isE p a
    · have HV := Lib.hid (show atV p L a = -1 by unfold atV; rw [hA]; simp)
      have HB1 := Lib.hid hb1
      rw [show isE1 p a = false by simp [isE1, hA]] at HI
      rw [HV.out]
      clear hB hp hE hb1
      go_enter Try.func25, Try.ntmps25
      go_wp2_with fail
      refine HL.out.mono ?_
      rintro e w2 ⟨rfl, rfl⟩
      go_wp2_with fail
      refine HI.out.mono ?_
      rintro e w2 ⟨rfl, rfl⟩
      go_wp2_with fail
      go_ret
      exact ⟨rfl, HB1.out⟩
    · obtain ⟨a0, a1⟩ := isE_iff.1 hA
      have HV := Lib.hid (show atV p L a = hvF p a L by unfold atV; rw [if_pos ⟨hB, hA⟩])
      rw [show isE1 p a = true by simp [isE1, hA, hp]] at HI
      have HB1 := Lib.hid hb1
      have HO := Lib.hid (iLineOf p v L _ (h.below hb1) (by omega))
      have HAT := Lib.hid (fun v w (hv : Elr w v p L) => iAt p a v L w hp hv hE (by omega) a0 a1)
      have hL10 := Lib.hid hl10
      have hf := fld1
      rw [HV.out]
      clear hB hp hE hA a0 a1 hb1 hl10 h hl
      go_enter Try.func25, Try.ntmps25
      go_wp2_with fail
      refine HL.out.mono ?_
      rintro e w2 ⟨rfl, rfl⟩
      go_wp2_with fail
      refine HI.out.mono ?_
      rintro e w2 ⟨rfl, rfl⟩
      go_wp2_with fail
      refine HO.out.mono ?_
      rintro e w3 ⟨u, rfl, hu, hb3⟩
      have HB3 := Lib.hid (show Below w.heap.size w w3 from HB1.out.trans (hb3.mono HB1.out.size))
      have HU := Lib.hid (hu.elr (by have := hL10.out; omega))
      clear hu hb3
      go_wp2_with fail
      refine (HAT.out _ _ HU.out).mono ?_
      rintro e w4 ⟨rfl, hb4⟩
      have HB4 := Lib.hid (show Below w.heap.size w w4 from HB3.out.trans (hb4.mono HB3.out.size))
      clear hb4
      go_wp2_with fail
      go_ret
      exact ⟨rfl, HB4.out⟩
end Go.Proofs.Ytfmpcniehgipfaa
namespace Go.Proofs.Ytfmpcniehgipfaa
set_option linter.unusedVariables false
open Go.RowKit
/-- the zeros among the first k elements -/
def zrK (p : Int) (L : List Int) : Nat → List Int
  | 0 => []
  | k + 1 => if hvF p (k : Int) L = 0 then zrK p L k ++ [(k : Int)] else zrK p L k
def zrV (p : Int) (L : List Int) : List Int := if lineB p L = true then zrK p L p.toNat else []
theorem zrK_len (p : Int) (L : List Int) : ∀ k, (zrK p L k).length ≤ k
  | 0 => Nat.le_refl _
  | k + 1 => by
    unfold zrK
    split
    · have := zrK_len p L k; simp; omega
    · have := zrK_len p L k; omega
theorem one_num (w : World) (x : Int) (T : TypeId) : ∀ (j : Nat) (u : Value), [Value.int .i64 x][j]? = some u → (w.alloc (Obj.cells #[.int .i64 x] T)).cell? ((⟨w.heap.size, 0, none⟩ : Addr).add j) = some u := by
  intro j u hj
  match j, hj with
  | 0, hj => simp at hj; subst hj; simp [Addr.add]
theorem one_numok (x : Int) : ∀ u : Value, u ∈ [Value.int .i64 x] → u.oneCell' = true := by
  intro u hu; simp at hu; subst hu; rfl
/-- what an append of one number behind other new blocks leaves -/
theorem rowN_app {w wr W w1 : World} {B : Nat} {v v' : Value} {L : List Int} {x : Int} (hf : RowN wr B v L) (hb : Below B w wr) (hB : B ≤ wr.heap.size) (hW : Below wr.heap.size wr W)
    (hown : w1.ownsRow B 3 1 v' (L.length + 1) (L.map (Value.int .i64) ++ [.int .i64 x])) (hg : W.grownBy w1 v.ownBlock) : RowN w1 B v' (L ++ [x]) ∧ Below B w w1 := by
  refine ⟨by unfold RowN; simpa using hown, ?_⟩
  have h1 := hb.trans (hW.mono hB)
  exact h1.grown hg (Nat.le_trans hB hW.size) (fun j hj => (hf.lt j hj).1)
set_option maxRecDepth 100000 in
set_option maxHeartbeats 4000000 in
theorem sZerosOf (p : Int) (v : Value) (L : List Int) (w : World) (h : Ints w v L) (hl : L.length ≤ 1048576) :
    Calls Try.prog 36 #[.int .i64 p, v] w fun e w' => ∃ u, e = .returned u ∧ OwnInts w' w.heap.size u (zrV p L) ∧ Below w.heap.size w w' := by
  obtain ⟨i0, hi, hz0, hz1, hz2⟩ := info_parts infoN
  have HI := Lib.hid h
  cases hB : lineB p L
  · have HL := Lib.hid (fun w' (hb : Below w.heap.size w w') => by have := sLineValid p v L w' (h.below hb) hl; rw [hB] at this; exact this)
    have HV := Lib.hid (show zrV p L = [] by unfold zrV; rw [hB]; rfl)
    have HB1 := Lib.hid (show Below w.heap.size w (w.alloc (Obj.cells #[] 3)) from Below.alloc (Below.refl _ _) (Nat.le_refl _) _)
    have HE := Lib.hid (RowN.empty w (Nat.le_refl _))
    rw [HV.out]
    clear hB h
    go_enter Try.func36, Try.ntmps36
    go_wp2_with fail
    go_loopw [5, 6] (fun f i wr => f = .slice (some ⟨w.heap.size, 0, none⟩) 0 0 ∧ wr = w.alloc (Obj.cells #[] 3)) (fun _ _ _ => 0)
    case atStart => exact ⟨rfl, rfl⟩
    case round =>
      obtain ⟨rfl, rfl⟩ := hrel
      go_wp2_with fail
      refine (HL.out _ HB1.out).mono ?_
      rintro e w2 ⟨rfl, rfl⟩
      go_wp2_with fail
      go_ret
      exact ⟨_, rfl, HE.out.own (by simp), HB1.out⟩
  · obtain ⟨hp, hE, hl10, _⟩ := lineB_iff.1 hB
    obtain ⟨q1, q2⟩ := isP_bd hp
    have HL := Lib.hid (fun w' (hb : Below w.heap.size w w') => by have := sLineValid p v L w' (h.below hb) hl; rw [hB] at this; exact this)
    have HV := Lib.hid (show zrV p L = zrK p L p.toNat by unfold zrV; rw [hB]; rfl)
    have HA := Lib.hid (fun w' (hb : Below w.heap.size w w') (k : Nat) (hk : (k : Int) < p) => sAtL p k v L w' hp (h.below hb) hE (by omega) (by omega) hk)
    obtain ⟨P, hP⟩ : ∃ P : Nat, p = (P : Int) := ⟨p.toNat, by omega⟩
    have hPn : p.toNat = P := by omega
    rw [HV.out, hPn]
    have HPP := Lib.hid hP
    have HB1 := Lib.hid (show Below w.heap.size w (w.alloc (Obj.cells #[] 3)) from Below.alloc (Below.refl _ _) (Nat.le_refl _) _)
    have HE := Lib.hid (RowN.empty w (Nat.le_refl _))
    clear hB h hp hE HV hPn hP
    go_enter Try.func36, Try.ntmps36
    go_wp2_with fail
    go_loopw [5, 6] (fun f i wr => ∃ k : Nat, k ≤ P ∧ i = .int .i64 k ∧ RowN wr w.heap.size f (zrK p L k) ∧ Below w.heap.size w wr) (fun _ i _ => P - (intOf i).toNat)
    case atStart => exact ⟨0, by omega, rfl, HE.out, HB1.out⟩
    case round =>
      obtain ⟨k, hk, rfl, hf, hb⟩ := hrel
      have HF := Lib.hid hf
      have HB := Lib.hid hb
      clear hf hb
      by_cases hkp : k < P
      · have hkI : (k : Int) < p := by have := HPP.out; omega
        have hk13 : (k : Int) ≤ 13 := by omega
        have hw : IntKind.i64.wrap ((k : Int) + 1) = (k : Int) + 1 := IntWalk.i64_in _ (by omega)
        have hlen := zrK_len p L k
        obtain ⟨z, hz⟩ : ∃ z, z = hvF p (k : Int) L := ⟨_, rfl⟩
        have HAK := Lib.hid (HA.out wr HB.out k hkI)
        rw [← hz] at HAK
        by_cases h0 : z = 0
        · subst h0
          have HN := Lib.hid (show zrK p L (k + 1) = zrK p L k ++ [(k : Int)] by show (if _ then _ else _) = _; rw [if_pos hz.symm])
          clear hz
          obtain ⟨M, hM⟩ : ∃ M, M = zrK p L k := ⟨_, rfl⟩
          rw [← hM] at HF HN hlen
          have hlen2 := Lib.hid hlen
          have hkk := Lib.hid hk13
          clear hM hlen
          go_wp2_with fail
          refine (HL.out _ HB.out).mono ?_
          rintro e w2 ⟨rfl, rfl⟩
          go_wp2_with fail
          refine HAK.out.mono ?_
          rintro e w2 ⟨rfl, rfl⟩
          go_wp2_with (at_builtin; refine wpList_append_own _ rfl _ _ 22 rfl w.heap.size 3 i0 (.int .i64 0) 1 8 Try.underlying22 hi hz0 hz1 hz2 rfl (by decide) _ _ _ rfl (RowN.below HF.out (Below.alloc (Below.refl _ _) (Nat.le_refl _) _)) _ 1 1 [.int .i64 (k : Int)] rfl rfl (one_num _ _ _) (one_numok _) (by unfold maxLen; have := hlen2.out; have := hkk.out; omega) (by have := hlen2.out; have := hkk.out; omega) (by first | omega | (have := HB.out.size; simp; omega)) ?_)
          intro v5 w5 hown5 hgrow5 _
          obtain ⟨r5, b5⟩ := rowN_app HF.out HB.out HB.out.size (Below.alloc (Below.refl _ _) (Nat.le_refl _) _) hown5 hgrow5
          rw [← HN.out] at r5
          have H5 := Lib.hid (And.intro r5 b5)
          clear r5 b5 hown5 hgrow5
          go_wp2_with fail
          go_roundw
          case rel => exact ⟨k + 1, by omega, by go_num, H5.out⟩
          case measure => simp [intOf]; omega
        · have hzb : (z == 0) = false := by simpa using h0
          have HN := Lib.hid (show zrK p L (k + 1) = zrK p L k by show (if _ then _ else _) = _; rw [if_neg (by rw [← hz]; exact h0)])
          clear hz h0
          go_wp2_with fail
          refine (HL.out _ HB.out).mono ?_
          rintro e w2 ⟨rfl, rfl⟩
          go_wp2_with fail
          refine HAK.out.mono ?_
          rintro e w2 ⟨rfl, rfl⟩
          go_wp2_with fail
          go_roundw
          case rel => exact ⟨k + 1, by omega, by go_num, by rw [HN.out]; exact HF.out, HB.out⟩
          case measure => simp [intOf]; omega
      · have hkP : k = P := by omega
        subst hkP
        have hnl : ¬ (k : Int) < p := by have := HPP.out; omega
        have hlen := zrK_len p L k
        go_wp2_with fail
        refine (HL.out _ HB.out).mono ?_
        rintro e w2 ⟨rfl, rfl⟩
        go_wp2_with fail
        go_ret
        exact ⟨_, rfl, HF.out.own (by have := HPP.out; omega), HB.out⟩
set_option maxRecDepth 100000 in
set_option maxHeartbeats 4000000 in
theorem iZerosOf (p : Int) (v : Value) (L : List Int) (w : World) (h : Ints w v L) (hl : L.length ≤ 1048576) :
    Calls Try.prog 37 #[.int .i64 p, v] w fun e w' => ∃ u, e = .returned u ∧ OwnInts w' w.heap.size u (zrV p L) ∧ Below w.heap.size w w' := by
  obtain ⟨i0, hi, hz0, hz1, hz2⟩ := info_parts infoN
  have HL := Lib.hid (iLineValid p v L w h hl)
  cases hB : lineB p L
  · have HV := Lib.hid (show zrV p L = [] by unfold zrV; rw [hB]; rfl)
    rw [HV.out]
    rw [hB] at HL
    clear hB h
    go_enter Try.func37, Try.ntmps37
    go_wp2_with fail
    refine HL.out.mono ?_
    rintro e w2 ⟨rfl, rfl⟩
    go_wp2_with fail
    go_ret
    exact ⟨_, rfl, (RowN.nil _ _).own (by simp), Below.refl _ _⟩
  · obtain ⟨hp, hE, hl10, _⟩ := lineB_iff.1 hB
    obtain ⟨q1, q2⟩ := isP_bd hp
    have HV := Lib.hid (show zrV p L = zrK p L p.toNat by unfold zrV; rw [hB]; rfl)
    have HA := Lib.hid (fun w' (hb : Below w.heap.size w w') (k : Nat) (hk : (k : Int) < p) => show Calls Try.prog 25 #[.int .i64 p, v, .int .i64 (k : Int)] w' fun e w2 => e = .returned (.int .i64 (hvF p (k : Int) L)) ∧ Below w'.heap.size w' w2 by
      have := iAtLine p k v L w' (h.below hb) hl
      rw [show atV p L (k : Int) = hvF p (k : Int) L by unfold atV; rw [if_pos ⟨hB, isE_iff.2 ⟨by omega, hk⟩⟩]] at this
      exact this)
    obtain ⟨P, hP⟩ : ∃ P : Nat, p = (P : Int) := ⟨p.toNat, by omega⟩
    have hPn : p.toNat = P := by omega
    rw [HV.out, hPn]
    have HPP := Lib.hid hP
    rw [hB] at HL
    clear hB h hp hE HV hPn hP
    go_enter Try.func37, Try.ntmps37
    go_wp2_with fail
    refine HL.out.mono ?_
    rintro e w2 ⟨rfl, rfl⟩
    go_wp2_with fail
    go_loopw [5, 12] (fun f i wr => ∃ k : Nat, k ≤ P ∧ i = .int .i64 k ∧ RowN wr w.heap.size f (zrK p L k) ∧ Below w.heap.size w wr) (fun _ i _ => P - (intOf i).toNat)
    case atStart => exact ⟨0, by omega, rfl, RowN.nil _ _, Below.refl _ _⟩
    case round =>
      obtain ⟨k, hk, rfl, hf, hb⟩ := hrel
      have HF := Lib.hid hf
      have HB := Lib.hid hb
      clear hf hb
      by_cases hkp : k < P
      · have hkI : (k : Int) < p := by have := HPP.out; omega
        have hk13 : (k : Int) ≤ 13 := by omega
        have hw : IntKind.i64.wrap ((k : Int) + 1) = (k : Int) + 1 := IntWalk.i64_in _ (by omega)
        have hlen := zrK_len p L k
        obtain ⟨z, hz⟩ : ∃ z, z = hvF p (k : Int) L := ⟨_, rfl⟩
        have HAK := Lib.hid (HA.out wr HB.out k hkI)
        rw [← hz] at HAK
        by_cases h0 : z = 0
        · subst h0
          have HN := Lib.hid (show zrK p L (k + 1) = zrK p L k ++ [(k : Int)] by show (if _ then _ else _) = _; rw [if_pos hz.symm])
          clear hz
          obtain ⟨M, hM⟩ : ∃ M, M = zrK p L k := ⟨_, rfl⟩
          rw [← hM] at HF HN hlen
          have hlen2 := Lib.hid hlen
          have hkk := Lib.hid hk13
          clear hM hlen
          go_wp2_with fail
          refine HAK.out.mono ?_
          rintro e w2 ⟨rfl, hb2⟩
          have HB2 := Lib.hid (show Below w.heap.size w w2 from HB.out.trans (hb2.mono HB.out.size))
          have HF2 := Lib.hid (HF.out.below hb2)
          clear hb2
          go_wp2_with (at_builtin; refine wpList_append_own _ rfl _ _ 22 rfl w.heap.size 3 i0 (.int .i64 0) 1 8 Try.underlying22 hi hz0 hz1 hz2 rfl (by decide) _ _ _ rfl (RowN.below HF2.out (Below.alloc (Below.refl _ _) (Nat.le_refl _) _)) _ 1 1 [.int .i64 (k : Int)] rfl rfl (one_num _ _ _) (one_numok _) (by unfold maxLen; have := hlen2.out; have := hkk.out; omega) (by have := hlen2.out; have := hkk.out; omega) (by first | omega | (have := HB2.out.size; simp; omega)) ?_)
          intro v5 w5 hown5 hgrow5 _
          obtain ⟨r5, b5⟩ := rowN_app HF2.out HB2.out HB2.out.size (Below.alloc (Below.refl _ _) (Nat.le_refl _) _) hown5 hgrow5
          rw [← HN.out] at r5
          have H5 := Lib.hid (And.intro r5 b5)
          clear r5 b5 hown5 hgrow5
          go_wp2_with fail
          go_roundw
          case rel => exact ⟨k + 1, by omega, by go_num, H5.out⟩
          case measure => simp [intOf]; omega
        · have hzb : (z == 0) = false := by simpa using h0
          have HN := Lib.hid (show zrK p L (k + 1) = zrK p L k by show (if _ then _ else _) = _; rw [if_neg (by rw [← hz]; exact h0)])
          clear hz h0
          go_wp2_with fail
          refine HAK.out.mono ?_
          rintro e w2 ⟨rfl, hb2⟩
          have HB2 := Lib.hid (show Below w.heap.size w w2 from HB.out.trans (hb2.mono HB.out.size))
          have HF2 := Lib.hid (HF.out.below hb2)
          clear hb2
          go_wp2_with fail
          go_roundw
          case rel => exact ⟨k + 1, by omega, by go_num, by rw [HN.out]; exact HF2.out, HB2.out⟩
          case measure => simp [intOf]; omega
      · have hkP : k = P := by omega
        subst hkP
        have hnl : ¬ (k : Int) < p := by have := HPP.out; omega
        have hlen := zrK_len p L k
        go_wp2_with fail
        go_ret
        exact ⟨_, rfl, HF.out.own (by have := HPP.out; omega), HB.out⟩
end Go.Proofs.Ytfmpcniehgipfaa
namespace Go.Proofs.Ytfmpcniehgipfaa
set_option linter.unusedVariables false
open Go.RowKit
theorem RowN.shape {w : World} {B : Nat} {v : Value} {L : List Int} (h : RowN w B v L) :
    (v = .slice none 0 0 ∧ L = []) ∨ ∃ g cap, v = .slice (some ⟨g, 0, none⟩) L.length cap ∧ B ≤ g ∧ g < w.heap.size ∧ L.length ≤ cap ∧ cap ≤ maxLen := by
  rcases h.2 with ⟨h1, h2⟩ | ⟨g, cap, cur, rfl, hb, hg, hn, hm, _⟩
  · exact .inl ⟨h1, List.length_eq_zero_iff.1 h2⟩
  · exact .inr ⟨g, cap, rfl, hb, (Array.getElem?_eq_some_iff.1 hg).1, hn, hm⟩
theorem RowN.at_ {w : World} {B : Nat} {v : Value} {L : List Int} (h : RowN w B v L) (hL : 0 < L.length) : ∃ g cap, v = .slice (some ⟨g, 0, none⟩) L.length cap ∧ B ≤ g ∧ g < w.heap.size ∧ L.length ≤ cap ∧ cap ≤ maxLen := by
  rcases h.shape with ⟨_, h0⟩ | h
  · rw [h0] at hL; simp at hL
  · exact h
theorem RowN.cell {w : World} {B g cap : Nat} {L : List Int} (h : RowN w B (.slice (some ⟨g, 0, none⟩) L.length cap) L) {j : Nat} (hj : j < L.length) : w.cell? ⟨g, j, none⟩ = some (.int .i64 (cf L j)) := by
  rw [World.ownsRow.cellAt h j (by omega)]
  simp [cf, hj]
theorem RowN.froz {w : World} {B g n cap : Nat} {L : List Int} (h : RowN w B (.slice (some ⟨g, 0, none⟩) n cap) L) (hn : n = L.length) (j : Nat) : w.frozen? ⟨g, j, none⟩ = false := by
  subst hn; exact World.ownsRow.frozenAt h j
theorem RowN.set {w : World} {B g cap : Nat} {L : List Int} (h : RowN w B (.slice (some ⟨g, 0, none⟩) L.length cap) L) (j : Nat) (y : Int) : RowN (w.setCell ⟨g, j, none⟩ (.int .i64 y)) B (.slice (some ⟨g, 0, none⟩) L.length cap) (L.set j y) := by
  have h1 := (World.ownsRow.stored h j (.int .i64 y)).1
  unfold RowN
  rw [List.length_set, List.map_set]
  exact h1
theorem rowN_make {w : World} {B n : Nat} {v : Value} (h : w.ownsRow B 3 1 v n (madeCells #[Value.int .i64 0] n).toList) : RowN w B v (lsU n (fun _ => 0)) := by
  unfold RowN
  rw [lsU_len]
  have e : (madeCells #[Value.int .i64 0] n).toList = (lsU n (fun _ => 0)).map (Value.int .i64) := by
    rw [toList_madeCells_one]
    unfold lsU
    rw [List.map_map]
    refine List.ext_getElem (by simp) (fun j h1 h2 => by simp)
  rw [← e]; exact h
/-- a slice that reads as numbers, and its room -/
def Ilr (w : World) (v : Value) (L : List Int) : Prop :=
  L.length ≤ 1048576 ∧ ∃ a cap, v = .slice a L.length cap ∧ (L.length ≤ cap ∧ cap ≤ maxLen) ∧ ((a = none ∧ cap = 0 ∧ L = []) ∨ ∃ g off, a = some ⟨g, off, none⟩ ∧ g < w.heap.size ∧ ∀ j, j < L.length → w.cell? ⟨g, off + j, none⟩ = some (.int .i64 (cf L j)))
theorem Ilr.below {w w' : World} {v : Value} {L : List Int} (h : Ilr w v L) (hb : Below w.heap.size w w') : Ilr w' v L := by
  obtain ⟨h1, a, cap, hv, hk, h2⟩ := h
  refine ⟨h1, a, cap, hv, hk, ?_⟩
  rcases h2 with h2 | ⟨g, off, ha, hg, hc⟩
  · exact .inl h2
  · refine .inr ⟨g, off, ha, Nat.lt_of_lt_of_le hg hb.size, fun j hj => ?_⟩
    rw [hb.cell (p := ⟨g, off + j, none⟩) hg]
    exact hc j hj
theorem Ilr.ints {w : World} {v : Value} {L : List Int} (h : Ilr w v L) : Ints w v L := by
  obtain ⟨h1, a, cap, hv, hk, h2⟩ := h
  refine ⟨by omega, a, cap, hv, ?_⟩
  rcases h2 with ⟨_, _, h2⟩ | ⟨g, off, ha, hg, hc⟩
  · exact .inl h2
  · exact .inr ⟨g, off, ha, hg, hc⟩
theorem Ilr.some {w : World} {v : Value} {L : List Int} (h : Ilr w v L) (hL : 0 < L.length) : ∃ g off cap, v = .slice (some ⟨g, off, none⟩) L.length cap ∧ (L.length ≤ cap ∧ cap ≤ maxLen) ∧ g < w.heap.size ∧ ∀ j, j < L.length → w.cell? ⟨g, off + j, none⟩ = some (.int .i64 (cf L j)) := by
  obtain ⟨_, a, cap, hv, hk, h2⟩ := h
  rcases h2 with ⟨_, _, h2⟩ | ⟨g, off, ha, hg, hc⟩
  · rw [h2] at hL; simp at hL
  · exact ⟨g, off, cap, by rw [hv, ha], hk, hg, hc⟩
theorem Ilr.form {w : World} {v : Value} {L : List Int} (h : Ilr w v L) : ∃ a cap, v = .slice a L.length cap := by
  obtain ⟨_, a, cap, hv, _⟩ := h
  exact ⟨a, cap, hv⟩
theorem RowN.ilr {w : World} {B : Nat} {v : Value} {L : List Int} (h : RowN w B v L) (hl : L.length ≤ 1048576) : Ilr w v L := by
  rcases h.shape with ⟨rfl, rfl⟩ | ⟨g, cap, rfl, hb, hg, hn, hm⟩
  · exact ⟨by simp, none, 0, rfl, ⟨by simp, by unfold maxLen; omega⟩, .inl ⟨rfl, rfl, rfl⟩⟩
  · exact ⟨hl, _, cap, rfl, ⟨hn, hm⟩, .inr ⟨g, 0, rfl, hg, fun j hj => by rw [Nat.zero_add]; exact h.cell hj⟩⟩
def lenV : Value → Nat
  | .slice _ n _ => n
  | _ => 0
set_option maxRecDepth 100000 in
set_option maxHeartbeats 4000000 in
theorem sTrim (v : Value) (L : List Int) (w : World) (h : Ilr w v L) (hl : L.length ≤ 1000) :
    Calls Try.prog 77 #[v] w fun e w' => ∃ u, e = .returned u ∧ RowN w' w.heap.size u (trimL L) ∧ Below w.heap.size w w' := by
  obtain ⟨i0, hi, hz0, hz1, hz2⟩ := info_parts infoN
  have HH := Lib.hid h
  obtain ⟨_, a, cap, rfl, hkk, hd⟩ := h
  have HD := Lib.hid hd
  have HE := Lib.hid (RowN.empty w (Nat.le_refl _))
  have HBE := Lib.hid (show Below w.heap.size w (w.alloc (Obj.cells #[] 3)) from Below.alloc (Below.refl _ _) (Nat.le_refl _) _)
  clear hd
  go_enter Try.func77, Try.ntmps77
  go_wp2_with fail
  go_loopw [0] (fun f wr => ∃ k : Nat, k ≤ L.length ∧ f = .slice a k cap ∧ (∀ j, k ≤ j → cf L j = 0) ∧ wr = w) (fun f _ => lenV f)
  case atStart => exact ⟨L.length, Nat.le_refl _, rfl, fun j hj => cf_ge hj, rfl⟩
  case round =>
    obtain ⟨k, hk, rfl, hz, rfl⟩ := hrel
    have HZ := Lib.hid hz
    clear hz
    by_cases h0 : k = 0
    · subst h0
      have HT := Lib.hid (show [] = trimL L from by rw [← trim_take (Nat.zero_le _) HZ.out (.inl rfl)]; rfl)
      rcases HD.out with ⟨rfl, rfl, h00⟩ | ⟨g, off, rfl, hg, hc⟩
      · go_wp2_with fail
        go_ret
        exact ⟨_, rfl, HE.out, HBE.out⟩
      · go_wp2_with fail
        go_ret
        exact ⟨_, rfl, by rw [← HT.out]; exact HE.out, HBE.out⟩
    · obtain ⟨m, rfl⟩ : ∃ m, k = m + 1 := ⟨k - 1, by omega⟩
      rcases HD.out with ⟨_, _, h00⟩ | ⟨g, off, rfl, hg, hc⟩
      · rw [h00] at hk; simp at hk
      have hck := hc m (by omega)
      obtain ⟨x, hx⟩ : ∃ x, x = cf L m := ⟨_, rfl⟩
      rw [← hx] at hck
      have HX := Lib.hid hx
      have hsub : ((m + 1 : Nat) : Int) - 1 = (m : Int) := by omega
      have hgt : ((m + 1 : Nat) : Int) > 0 := by omega
      have hm0 : (0 : Int) ≤ (m : Int) := by omega
      have hmlt : (m : Int) < ((m + 1 : Nat) : Int) := by omega
      have hmc : (m : Int) ≤ (cap : Int) := by omega
      have HC := Lib.hid hc
      have HHC := Lib.hid hkk
      clear hx hc hkk
      by_cases hx0 : x = 0
      · subst hx0
        go_wp2_with fail
        go_roundw
        case rel =>
          refine ⟨m, by omega, rfl, fun j hj => ?_, trivial⟩
          by_cases e : j = m
          · rw [e]; exact HX.out.symm
          · exact HZ.out j (by omega)
        case measure => simp [lenV]
      · have hxb : (x == 0) = false := by simpa using hx0
        have HT := Lib.hid (show L.take (m + 1) = trimL L from trim_take hk HZ.out (.inr (by show cf L (m + 1 - 1) ≠ 0; rw [show m + 1 - 1 = m from rfl, ← HX.out]; exact hx0)))
        have HN := Lib.hid (show ∀ j u, ((trimL L).map (Value.int .i64))[j]? = some u → (wr.alloc (Obj.cells #[] 3)).cell? ((⟨g, off, none⟩ : Addr).add j) = some u from by
          intro j u hj
          have hjl : j < (trimL L).length := by
            have := (List.getElem?_eq_some_iff.1 hj).1
            simpa using this
          have hjL : j < L.length := Nat.lt_of_lt_of_le hjl (trim_len L)
          have hadd : (⟨g, off, none⟩ : Addr).add j = ⟨g, off + j, none⟩ := by unfold Addr.add; split <;> simp_all
          rw [hadd, World.cell?_alloc_past _ _ _ hg, HC.out j hjL, ← trim_cf]
          simpa [cf, hjl] using hj)
        have HL := Lib.hid (show (trimL L).length = m + 1 from by rw [← HT.out, List.length_take]; omega)
        have HO := Lib.hid (fun u (hu : u ∈ (trimL L).map (Value.int .i64)) => show u.oneCell' = true from by
          obtain ⟨y, _, rfl⟩ := List.mem_map.1 hu
          rfl)
        have hm1000 : m + 1 ≤ 1000 := by omega
        clear hx0 hk
        go_wp2_with (at_builtin; refine wpList_append_lies _ rfl _ _ 22 rfl wr.heap.size 3 i0 (.int .i64 0) 1 8 Try.underlying22 hi hz0 hz1 hz2 rfl (by decide) _ _ _ rfl HE.out ⟨g, off, none⟩ (m + 1) cap ((trimL L).map (Value.int .i64)) rfl (by rw [List.length_map, HL.out]; omega) HN.out HO.out (by omega) (by unfold maxLen; simp; omega) (by simp; omega) (by simp) _ rfl ?_)
        intro g5 c5 w5 hown5 hgrow5 _ _
        have hr5 : RowN w5 wr.heap.size (.slice (some ⟨g5, 0, none⟩) (m + 1) c5) (trimL L) := by
          unfold RowN
          rw [HL.out]
          simpa using hown5
        have hb5 : Below wr.heap.size wr w5 := HBE.out.grown hgrow5 HBE.out.size (fun j hj => (World.ownsRow.lt HE.out j hj).1)
        have H5 := Lib.hid (And.intro hr5 hb5)
        clear hr5 hb5 hown5 hgrow5
        go_wp2_with fail
        go_ret
        exact ⟨_, rfl, H5.out⟩
end Go.Proofs.Ytfmpcniehgipfaa
namespace Go.Proofs.Ytfmpcniehgipfaa
set_option linter.unusedVariables false
open Go.RowKit
theorem run_append_none0 {P : Program} {w : World} (base : Nat) (t ty e : TypeId) (i : TypeInfo) (size : Nat) (ht : P.underlying t = some (.slice e)) (hi : P.info? e = some i)
    (v : Value) (n c : Nat) (xs : List Value) (hown : w.ownsRow base e size v n xs) :
    (Builtin.append_ #[t, t] ty #[v, .slice none 0 c]).run P w = .ok v w := by
  rcases hown.2 with ⟨rfl, rfl⟩ | ⟨g, cap, cur, rfl, _, _, hnc, _⟩
  · simp [Builtin.append_, run_underlying ht, sizeOf, typeInfo, hi, Builtin.lenOf, Builtin.firstCells]
  · simp [Builtin.append_, run_underlying ht, sizeOf, typeInfo, hi, Builtin.lenOf, Builtin.firstCells, hnc, storeCells]
/-- numbers are copied behind a row that is empty -/
theorem wpL_copyN (w : World) {ops : Array Oper} {rest : List Oper} {o : Oper} {a : Act} {Q : Exit → Act → World → Prop} (hgd : o.guard = none) (s x : Operand)
    (ho : o.op = .call { callee := .builtin .append, args := #[s, x], argTypes := #[22, 22] }) (B : Nat) (v : Value) (hs : a.eval s = v) (hE : RowN w B v [])
    (ao : Option Addr) (c : Nat) (L : List Int) (hx : a.eval x = .slice ao L.length c) (hl : L.length ≤ 1000) (hr : L = [] ∨ ∃ g off, ao = some ⟨g, off, none⟩ ∧ ∀ j, j < L.length → w.cell? ⟨g, off + j, none⟩ = some (.int .i64 (cf L j)))
    (hB : B ≤ w.heap.size) (h : ∀ v' w', RowN w' B v' L → w.grownBy w' v.ownBlock → wpList Try.prog ops Q rest (a.put o.dst v') w') : wpList Try.prog ops Q (o :: rest) a w := by
  obtain ⟨i0, hi, hz0, hz1, hz2⟩ := info_parts infoN
  have hadd : ∀ g off j, (⟨g, off, none⟩ : Addr).add j = ⟨g, off + j, none⟩ := fun g off j => by unfold Addr.add; split <;> simp_all
  have key : ∀ ad : Addr, ao = some ad → (∀ j u, (L.map (Value.int .i64))[j]? = some u → w.cell? (ad.add j) = some u) → wpList Try.prog ops Q (o :: rest) a w := fun ad had hc => by
    refine wpList_append_own w hgd s x 22 ho B 3 i0 (.int .i64 0) 1 8 Try.underlying22 hi hz0 hz1 hz2 rfl (by decide) v 0 [] hs hE ad L.length c (L.map (Value.int .i64)) (by rw [hx, had]) (by rw [List.length_map]; omega) hc (fun u hu => by
      obtain ⟨y, _, rfl⟩ := List.mem_map.1 hu
      rfl) (by unfold maxLen; omega) (by omega) hB ?_
    intro v' w' h1 h2 _
    refine h v' w' ?_ h2
    unfold RowN
    simpa using h1
  rcases hr with rfl | ⟨g, off, rfl, hc⟩
  · cases ao with
    | none =>
      refine wpList_plain hgd fun K hK' => ?_
      have hrun := run_append_none0 (P := Try.prog) (w := w) B 22 o.type 3 i0 1 Try.underlying22 hi v 0 c [] hE
      unfold Oper.wp
      simp only [List.length_nil] at hx
      simp [execOp, ho, resolve, invoke, builtin, hs, hx, hrun, Result.andThen]
      exact hK' _ _ (h v w hE (World.grownBy.refl _ _))
    | some ad => exact key ad rfl (fun j u hj => by simp at hj)
  · refine key _ rfl (fun j u hj => ?_)
    have hjl : j < L.length := by
      have := (List.getElem?_eq_some_iff.1 hj).1
      simpa using this
    rw [hadd, hc j hjl]
    simpa [cf, hjl] using hj
end Go.Proofs.Ytfmpcniehgipfaa
namespace Go.Proofs.Ytfmpcniehgipfaa
set_option linter.unusedVariables false
open Go.RowKit
/-- a list's own cell, of numbers -/
theorem Ints.cell {w : World} {a : Option Addr} {cap : Nat} {L : List Int} (h : Ints w (.slice a L.length cap) L) (hL : 0 < L.length) : ∃ g off, a = some ⟨g, off, none⟩ ∧ g < w.heap.size ∧ ∀ j, j < L.length → w.cell? ⟨g, off + j, none⟩ = some (.int .i64 (cf L j)) := by
  obtain ⟨_, a2, cap2, e, h2⟩ := h
  simp only [Value.slice.injEq] at e
  obtain ⟨rfl, _, rfl⟩ := e
  rcases h2 with h2 | ⟨g, off, ha, hg, hc⟩
  · rw [h2] at hL; simp at hL
  · exact ⟨g, off, ha, hg, hc⟩
set_option maxRecDepth 100000 in
set_option maxHeartbeats 8000000 in
theorem sMulL (p : Int) (v1 v2 : Value) (L1 L2 : List Int) (w : World) (hp : isP p = true) (h1 : Ints w v1 L1) (h2 : Ints w v2 L2) (hE1 : AllE p L1) (hE2 : AllE p L2) (hl1 : L1.length ≤ 400) (hl2 : L2.length ≤ 400) :
    Calls Try.prog 71 #[.int .i64 p, v1, v2] w fun e w' => ∃ u, e = .returned u ∧ RowN w' w.heap.size u (lmL p L1 L2) ∧ Below w.heap.size w w' := by
  obtain ⟨q1, q2⟩ := isP_bd hp
  obtain ⟨i0, hi, hz0, hz1, hz2⟩ := info_parts infoN
  have HP := Lib.hid hp
  have HE1 := Lib.hid hE1
  have HE2 := Lib.hid hE2
  have HG1 := Lib.hid h1
  have HG2 := Lib.hid h2
  obtain ⟨_, a1, cap1, rfl, _⟩ := h1
  obtain ⟨_, a2, cap2, rfl, _⟩ := h2
  obtain ⟨n, hn⟩ : ∃ n, n = L1.length + L2.length := ⟨_, rfl⟩
  have hsum : (L1.length : Int) + (L2.length : Int) = (n : Int) := by omega
  have hwn : IntKind.i64.wrap (n : Int) = (n : Int) := IntWalk.i64_in _ (by omega)
  have HNN := Lib.hid hn
  have hn800 : n ≤ 800 := by omega
  obtain ⟨H, hH⟩ : ∃ H, H = w.heap.size := ⟨_, rfl⟩
  have HHH := Lib.hid hH
  clear hp hE1 hE2 hn
  go_enter Try.func71, Try.ntmps71
  go_wp2_with (at_make; refine wpList_make_full _ rfl _ _ 22 rfl w.heap.size 3 i0 (.int .i64 0) 1 Try.underlying22 hi hz0 hz1 .i64 .i64 (n : Int) (n : Int) n rfl rfl rfl rfl ?c2 ?c3 ?c4 ?_)
  case c2 => rw [hz2]; omega
  case c3 => unfold maxLen; omega
  case c4 => exact Nat.le_refl _
  rw [← hH]
  intro w2 hown hgr
  have HR0 := Lib.hid (show RowN w2 w.heap.size (.slice (some ⟨H, 0, none⟩) n n) (lsU n (muU p L1 L2 0)) from by rw [← hH]; exact rowN_make hown)
  have HB2 := Lib.hid (show Below w.heap.size w w2 from (Below.refl w.heap.size w).grown hgr (Nat.le_refl _) (fun k hk => by cases hk))
  clear hown hgr hH
  go_wp2_with fail
  go_loopw [20] (fun ii wr => ∃ i : Nat, i ≤ L1.length ∧ ii = .int .i64 i ∧ RowN wr w.heap.size (.slice (some ⟨H, 0, none⟩) n n) (lsU n (muU p L1 L2 i)) ∧ Below w.heap.size w wr) (fun ii _ => L1.length - (intOf ii).toNat)
  case atStart => exact ⟨0, by omega, rfl, HR0.out, HB2.out⟩
  case round =>
    clear HR0 HB2
    obtain ⟨i, hil, rfl, hf, hb⟩ := hrel
    have HF := Lib.hid hf
    have HB := Lib.hid hb
    clear hf hb
    by_cases hi1 : i < L1.length
    · obtain ⟨g, off, rfl, hg, hc⟩ := HG1.out.cell (by omega)
      have hci := hc i hi1
      have hxb := HE1.out i
      obtain ⟨x, hx⟩ : ∃ x, x = cf L1 i := ⟨_, rfl⟩
      rw [← hx] at hci hxb
      have HX := Lib.hid hx
      have HXB := Lib.hid hxb
      have d0 : wr.cell? ⟨g, off + i, none⟩ = some (.int .i64 x) := (HB.out.cell (p := ⟨g, off + i, none⟩) hg).trans hci
      have hiI : (i : Int) < (L1.length : Int) := by omega
      have hi0 : (0 : Int) ≤ (i : Int) := by omega
      clear hc hci hx hxb
      go_wp2_with fail
      go_loopw [27] (fun kk ws => ∃ k : Nat, k ≤ L2.length ∧ kk = .int .i64 k ∧ RowN ws w.heap.size (.slice (some ⟨H, 0, none⟩) n n) (lsU n (rowF p L1 L2 (muU p L1 L2 i) i k)) ∧ Below w.heap.size w ws) (fun kk _ => L2.length - (intOf kk).toNat)
      case atStart =>
        refine ⟨0, by omega, rfl, ?_, HB.out⟩
        rw [lsU_ext (d := muU p L1 L2 i) (fun j _ => rowF_zero _ _ _ _ _ _)]
        exact HF.out
      case round =>
        clear HF HB d0
        obtain ⟨k, hkl, rfl, hf, hb⟩ := hrel
        have HF := Lib.hid hf
        have HB := Lib.hid hb
        clear hf hb
        by_cases hk2 : k < L2.length
        · obtain ⟨g2, off2, rfl, hg2, hc2⟩ := HG2.out.cell (by omega)
          have hck := hc2 k hk2
          have hyb := HE2.out k
          obtain ⟨y, hy⟩ : ∃ y, y = cf L2 k := ⟨_, rfl⟩
          rw [← hy] at hck hyb
          have HXB' := HXB.out
          have d1 : wr.cell? ⟨g2, off2 + k, none⟩ = some (.int .i64 y) := (HB.out.cell (p := ⟨g2, off2 + k, none⟩) hg2).trans hck
          have hkI : (k : Int) < (L2.length : Int) := by omega
          have hk0 : (0 : Int) ≤ (k : Int) := by omega
          have hwik : IntKind.i64.wrap ((i : Int) + (k : Int)) = (i : Int) + (k : Int) := IntWalk.i64_in _ (by omega)
          have hikn : i + k < n := by have := HNN.out; omega
          have hikI : (i : Int) + (k : Int) < (n : Int) := by omega
          have hik0 : (0 : Int) ≤ (i : Int) + (k : Int) := by omega
          have hikN : ((i : Int) + (k : Int)).toNat = i + k := by omega
          have hxy := mul_bd HP.out HXB'.1 HXB'.2 hyb.1 hyb.2
          have hzb := rowF_bd (show 0 < p by omega) L1 L2 i k (i + k)
          have hcz : cf (lsU n (rowF p L1 L2 (muU p L1 L2 i) i k)) (i + k) = rowF p L1 L2 (muU p L1 L2 i) i k (i + k) := lsU_cf hikn
          obtain ⟨z, hz⟩ : ∃ z, z = rowF p L1 L2 (muU p L1 L2 i) i k (i + k) := ⟨_, rfl⟩
          rw [← hz] at hcz hzb
          have hw1 : IntKind.i64.wrap (x * y) = x * y := IntWalk.i64_in _ (by omega)
          have hw2 : IntKind.i64.wrap (z + x * y) = z + x * y := IntWalk.i64_in _ (by omega)
          have htm : (z + x * y).tmod p = (z + x * y) % p := Int.tmod_eq_emod_of_nonneg (by omega)
          have hpn : ¬ p = 0 := by omega
          obtain ⟨s, hs⟩ : ∃ s, s = (z + x * y) % p := ⟨_, rfl⟩
          have hsb := emod_bdU (show 0 < p by omega) (z + x * y)
          rw [← hs] at htm hsb
          have hw3 : IntKind.i64.wrap s = s := IntWalk.i64_in _ (by omega)
          have HN := Lib.hid (show (lsU n (rowF p L1 L2 (muU p L1 L2 i) i k)).set (i + k) s = lsU n (rowF p L1 L2 (muU p L1 L2 i) i (k + 1)) from by
            refine lsU_set hikn (fun j hj => ?_)
            rw [rowF_step, ← rowF_at p L1 L2 (muU p L1 L2 i) i k, ← hz, ← HX.out, ← hy, ← hs])
          have HLN := Lib.hid (lsU_len n (rowF p L1 L2 (muU p L1 L2 i) i k))
          obtain ⟨M, hM⟩ : ∃ M, M = lsU n (rowF p L1 L2 (muU p L1 L2 i) i k) := ⟨_, rfl⟩
          rw [← hM] at HF HN HLN hcz
          have HF2 := Lib.hid (show RowN wr w.heap.size (.slice (some ⟨H, 0, none⟩) M.length n) M from by rw [HLN.out]; exact HF.out)
          have e0 : wr.cell? ⟨H, i + k, none⟩ = some (.int .i64 z) := by rw [← hcz]; exact HF2.out.cell (by have := HLN.out; omega)
          have f0 := HF2.out.froz rfl (i + k)
          have H3 := Lib.hid (show RowN (wr.setCell ⟨H, i + k, none⟩ (.int .i64 s)) w.heap.size (.slice (some ⟨H, 0, none⟩) n n) (lsU n (rowF p L1 L2 (muU p L1 L2 i) i (k + 1))) ∧ Below w.heap.size w (wr.setCell ⟨H, i + k, none⟩ (.int .i64 s)) from by
            refine ⟨?_, HB.out.setCell (by rw [HHH.out]; exact Nat.le_refl _) _⟩
            have := HF2.out.set (i + k) s
            rw [HN.out, HLN.out] at this
            exact this)
          clear hc2 hck hy hz hs hM hcz hyb hxy hzb hsb
          go_wp2_with fail
          go_roundw
          case rel => exact ⟨k + 1, by omega, by go_num, H3.out⟩
          case measure => simp [intOf]; omega
        · have hkl2 : k = L2.length := by omega
          subst hkl2
          have hnl : ¬ (L2.length : Int) < (L2.length : Int) := by omega
          have HF2 := Lib.hid (show RowN wr w.heap.size (.slice (some ⟨H, 0, none⟩) n n) (lsU n (muU p L1 L2 (i + 1))) from HF.out)
          clear HF
          go_wp2_with fail
          go_roundw
          case rel => exact ⟨i + 1, by omega, by go_num, HF2.out, HB.out⟩
          case measure => simp [intOf]; omega
    · have hil2 : i = L1.length := by omega
      subst hil2
      have HLN := Lib.hid (lsU_len n (muU p L1 L2 L1.length))
      have HT := Lib.hid (sTrim _ _ wr (HF.out.ilr (by rw [HLN.out]; omega)) (by rw [HLN.out]; omega))
      have HN := Lib.hid (show trimL (lsU n (muU p L1 L2 L1.length)) = lmL p L1 L2 from by unfold lmL; rw [HNN.out])
      rw [HN.out] at HT
      go_wp2_with fail
      refine HT.out.mono ?_
      rintro e w5 ⟨u5, rfl, hu5, hb5⟩
      have H5 := Lib.hid (show RowN w5 w.heap.size u5 (lmL p L1 L2) ∧ Below w.heap.size w w5 from ⟨hu5.base HB.out.size, HB.out.trans (hb5.mono HB.out.size)⟩)
      clear hu5 hb5
      go_wp2_with fail
      go_ret
      exact ⟨_, rfl, H5.out⟩
end Go.Proofs.Ytfmpcniehgipfaa
namespace Go.Proofs.Ytfmpcniehgipfaa
set_option linter.unusedVariables false
open Go.RowKit
theorem RowN.form {w : World} {B : Nat} {v : Value} {L : List Int} (h : RowN w B v L) : ∃ a c, v = .slice a L.length c := by
  rcases h.shape with ⟨rfl, rfl⟩ | ⟨g, cap, rfl, _⟩
  · exact ⟨none, 0, rfl⟩
  · exact ⟨_, cap, rfl⟩
theorem RowN.form' {w : World} {B n : Nat} {v : Value} {L : List Int} (h : RowN w B v L) (hl : L.length = n) : ∃ a c, v = .slice a n c := by
  obtain ⟨a, c, h⟩ := h.form
  exact ⟨a, c, by rw [h, hl]⟩
theorem Ints.rd {w : World} {a : Option Addr} {cap : Nat} {L : List Int} (h : Ints w (.slice a L.length cap) L) : L = [] ∨ ∃ g off, a = some ⟨g, off, none⟩ ∧ g < w.heap.size ∧ ∀ j, j < L.length → w.cell? ⟨g, off + j, none⟩ = some (.int .i64 (cf L j)) := by
  by_cases e : L = []
  · exact .inl e
  · exact .inr (h.cell (List.length_pos_iff.2 e))
theorem rd_past {w : World} {a : Option Addr} {L : List Int} (h : L = [] ∨ ∃ g off, a = some ⟨g, off, none⟩ ∧ g < w.heap.size ∧ ∀ j, j < L.length → w.cell? ⟨g, off + j, none⟩ = some (.int .i64 (cf L j))) {w' : World} (hb : Below w.heap.size w w') : L = [] ∨ ∃ g off, a = some ⟨g, off, none⟩ ∧ ∀ j, j < L.length → w'.cell? ⟨g, off + j, none⟩ = some (.int .i64 (cf L j)) := by
  rcases h with h | ⟨g, off, ha, hg, hc⟩
  · exact .inl h
  · exact .inr ⟨g, off, ha, fun j hj => (hb.cell (p := ⟨g, off + j, none⟩) hg).trans (hc j hj)⟩
/-- what the model leaves of a line -/
def lesL (p : Int) (L1 L2 : List Int) (t : Int) (d : Nat) : List Int := trimL (lsU (max L1.length (L2.length + d)) (dvS p L2 t (cf L1) d L2.length))
set_option maxRecDepth 100000 in
set_option maxHeartbeats 8000000 in
theorem sLess (p t : Int) (d : Nat) (v1 v2 : Value) (L1 L2 : List Int) (w : World) (hp : isP p = true) (h1 : Ints w v1 L1) (h2 : Ints w v2 L2) (hE1 : AllE p L1) (hE2 : AllE p L2) (ht0 : 0 ≤ t) (ht1 : t < p) (hl1 : L1.length ≤ 400) (hl2 : L2.length ≤ 400) (hd : d ≤ 100) :
    Calls Try.prog 118 #[.int .i64 p, v1, v2, .int .i64 t, .int .i64 d] w fun e w' => ∃ u, e = .returned u ∧ RowN w' w.heap.size u (lesL p L1 L2 t d) ∧ Below w.heap.size w w' := by
  obtain ⟨q1, q2⟩ := isP_bd hp
  obtain ⟨i0, hi, hz0, hz1, hz2⟩ := info_parts infoN
  have HP := Lib.hid hp
  have HE1 := Lib.hid hE1
  have HE2 := Lib.hid hE2
  have HG2 := Lib.hid h2
  have hv1 := h1
  obtain ⟨_, a1, cap1, rfl, _⟩ := hv1
  obtain ⟨_, a2, cap2, rfl, _⟩ := h2
  have HE := Lib.hid (RowN.empty w (Nat.le_refl _))
  have HBE := Lib.hid (show Below w.heap.size w (w.alloc (Obj.cells #[] 3)) from Below.alloc (Below.refl _ _) (Nat.le_refl _) _)
  have HRD := Lib.hid (rd_past h1.rd HBE.out)
  obtain ⟨n, hn⟩ : ∃ n, n = max L1.length (L2.length + d) := ⟨_, rfl⟩
  have hn1 : L1.length ≤ n := by omega
  have hn2 : L2.length + d ≤ n := by omega
  have hn3 : n ≤ 500 := by omega
  have HNN := Lib.hid hn
  have hsum : IntKind.i64.wrap ((L2.length : Int) + (d : Int)) = (L2.length : Int) + (d : Int) := IntWalk.i64_in _ (by omega)
  clear hp hE1 hE2 h1 hn
  go_enter Try.func118, Try.ntmps118
  go_wp2_with (at_builtin; refine wpL_copyN _ rfl _ _ rfl w.heap.size _ rfl HE.out _ _ L1 rfl (by omega) HRD.out (by simp) ?_)
  intro v5 w5 hr5 hg5
  have H5 := Lib.hid (show RowN w5 w.heap.size v5 (lsU L1.length (cf L1)) ∧ Below w.heap.size w w5 from ⟨by rw [lsU_of]; exact hr5, HBE.out.grown hg5 HBE.out.size (fun j hj => (HE.out.lt j hj).1)⟩)
  clear hr5 hg5
  go_wp2_with fail
  go_loopw [11] (fun f wr => ∃ m : Nat, L1.length ≤ m ∧ m ≤ n ∧ RowN wr w.heap.size f (lsU m (cf L1)) ∧ Below w.heap.size w wr) (fun f _ => n - lenV f)
  case atStart => exact ⟨L1.length, Nat.le_refl _, hn1, H5.out⟩
  case round =>
    clear H5
    obtain ⟨m, hm1, hm2, hf, hb⟩ := hrel
    have HF := Lib.hid hf
    have HB := Lib.hid hb
    have HLN := Lib.hid (lsU_len m (cf L1))
    obtain ⟨av, cv, rfl⟩ := hf.form' (lsU_len m (cf L1))
    clear hf hb
    by_cases hmn : m < L2.length + d
    · have hlt : (m : Int) < (L2.length : Int) + (d : Int) := by omega
      have HN := Lib.hid (show lsU m (cf L1) ++ [0] = lsU (m + 1) (cf L1) from by rw [lsU_snoc, cf_ge hm1])
      obtain ⟨M, hM⟩ : ∃ M, M = lsU m (cf L1) := ⟨_, rfl⟩
      rw [← hM] at HF HN HLN
      have HML := Lib.hid (show M.length ≤ 500 from by rw [HLN.out]; omega)
      have HF' := Lib.hid (show RowN wr w.heap.size (.slice av m cv) M ∧ M.length = m from ⟨HF.out, HLN.out⟩)
      clear hM
      go_wp2_with (at_builtin; refine wpList_append_own _ rfl _ _ 22 rfl w.heap.size 3 i0 (.int .i64 0) 1 8 Try.underlying22 hi hz0 hz1 hz2 rfl (by decide) _ _ _ rfl (RowN.below HF'.out.1 (Below.alloc (Below.refl _ _) (Nat.le_refl _) _)) _ 1 1 [.int .i64 0] rfl rfl (one_num _ _ _) (one_numok _) (by unfold maxLen; have := HML.out; omega) (by have := HML.out; omega) (by first | omega | (have := HB.out.size; simp; omega)) ?_)
      intro v6 w6 hown6 hgrow6 _
      obtain ⟨r6, b6⟩ := rowN_app HF'.out.1 HB.out HB.out.size (Below.alloc (Below.refl _ _) (Nat.le_refl _) _) hown6 hgrow6
      rw [HN.out] at r6
      obtain ⟨av6, cv6, rfl⟩ := r6.form' (lsU_len (m + 1) (cf L1))
      have H6 := Lib.hid (And.intro r6 b6)
      clear r6 b6 hown6 hgrow6
      go_wp2_with fail
      go_roundw
      case rel => exact ⟨m + 1, by omega, by omega, H6.out⟩
      case measure => simp [lenV]; omega
    · have hmn2 : m = n := by have := HNN.out; omega
      subst hmn2
      have hnl : ¬ (m : Int) < (L2.length : Int) + (d : Int) := by omega
      have HF2 := Lib.hid (show RowN wr w.heap.size (.slice av m cv) (lsU m (dvS p L2 t (cf L1) d 0)) from by rw [lsU_ext (d := cf L1) (fun j _ => dvS_zero _ _ _ _ _ _)]; exact HF.out)
      clear HF HLN
      go_wp2_with fail
      go_loopw [29] (fun ii ws => ∃ k : Nat, k ≤ L2.length ∧ ii = .int .i64 k ∧ RowN ws w.heap.size (.slice av m cv) (lsU m (dvS p L2 t (cf L1) d k)) ∧ Below w.heap.size w ws) (fun ii _ => L2.length - (intOf ii).toNat)
      case atStart => exact ⟨0, by omega, rfl, HF2.out, HB.out⟩
      case round =>
        clear HF2 HB
        obtain ⟨k, hkl, rfl, hf, hb⟩ := hrel
        have HF := Lib.hid hf
        have HB := Lib.hid hb
        clear hf hb
        by_cases hk2 : k < L2.length
        · obtain ⟨g2, off2, rfl, hg2, hc2⟩ := HG2.out.cell (by omega)
          have hck := hc2 k hk2
          have hyb := HE2.out k
          obtain ⟨y, hy⟩ : ∃ y, y = cf L2 k := ⟨_, rfl⟩
          rw [← hy] at hck hyb
          have d1 : wr.cell? ⟨g2, off2 + k, none⟩ = some (.int .i64 y) := (HB.out.cell (p := ⟨g2, off2 + k, none⟩) hg2).trans hck
          have hkI : (k : Int) < (L2.length : Int) := by omega
          have hk0 : (0 : Int) ≤ (k : Int) := by omega
          have hwik : IntKind.i64.wrap ((k : Int) + (d : Int)) = (k : Int) + (d : Int) := IntWalk.i64_in _ (by omega)
          have hikn : k + d < m := by omega
          have hikI : (k : Int) + (d : Int) < (m : Int) := by omega
          have hik0 : (0 : Int) ≤ (k : Int) + (d : Int) := by omega
          have hikN : ((k : Int) + (d : Int)).toNat = k + d := by omega
          have hyt := mul_bd HP.out hyb.1 hyb.2 ht0 ht1
          have hzb := dvS_bd (show 0 < p by omega) (g := L2) (t := t) (c := cf L1) HE1.out d k (k + d)
          have hcz : cf (lsU m (dvS p L2 t (cf L1) d k)) (k + d) = dvS p L2 t (cf L1) d k (k + d) := lsU_cf hikn
          obtain ⟨z, hz⟩ : ∃ z, z = dvS p L2 t (cf L1) d k (k + d) := ⟨_, rfl⟩
          rw [← hz] at hcz hzb
          have hw1 : IntKind.i64.wrap (y * t) = y * t := IntWalk.i64_in _ (by omega)
          have hw2 : IntKind.i64.wrap (z - y * t) = z - y * t := IntWalk.i64_in _ (by omega)
          obtain ⟨s, hs⟩ : ∃ s, s = (z - y * t) % p := ⟨_, rfl⟩
          have HMD := Lib.hid (fun w => sMod p (z - y * t) w HP.out)
          rw [← hs] at HMD
          have HN := Lib.hid (show (lsU m (dvS p L2 t (cf L1) d k)).set (k + d) s = lsU m (dvS p L2 t (cf L1) d (k + 1)) from by
            refine lsU_set hikn (fun j hj => ?_)
            rw [dvS_step, ← dvS_at p L2 t (cf L1) d k, show d + k = k + d by omega, ← hz, ← hy, ← hs])
          have HLN := Lib.hid (lsU_len m (dvS p L2 t (cf L1) d k))
          obtain ⟨M, hM⟩ : ∃ M, M = lsU m (dvS p L2 t (cf L1) d k) := ⟨_, rfl⟩
          rw [← hM] at HF HN HLN hcz
          obtain ⟨G, C, hue, hGB, hGs, _, _⟩ := HF.out.at_ (by have := HLN.out; omega)
          rw [HLN.out] at hue
          simp only [Value.slice.injEq] at hue
          obtain ⟨rfl, _, rfl⟩ := hue
          have HF2 := Lib.hid (show RowN wr w.heap.size (.slice (some ⟨G, 0, none⟩) M.length cv) M from by rw [HLN.out]; exact HF.out)
          have e0 : wr.cell? ⟨G, k + d, none⟩ = some (.int .i64 z) := by rw [← hcz]; exact HF2.out.cell (by have := HLN.out; omega)
          have f0 := HF2.out.froz rfl (k + d)
          have H3 := Lib.hid (show RowN (wr.setCell ⟨G, k + d, none⟩ (.int .i64 s)) w.heap.size (.slice (some ⟨G, 0, none⟩) m cv) (lsU m (dvS p L2 t (cf L1) d (k + 1))) ∧ Below w.heap.size w (wr.setCell ⟨G, k + d, none⟩ (.int .i64 s)) from by
            refine ⟨?_, HB.out.setCell hGB _⟩
            have := HF2.out.set (k + d) s
            rw [HN.out, HLN.out] at this
            exact this)
          clear hc2 hck hy hz hs hM hcz hyb hyt hzb
          go_wp2_with fail
          refine (HMD.out _).mono ?_
          rintro e w7 ⟨rfl, rfl⟩
          go_wp2_with fail
          go_roundw
          case rel => exact ⟨k + 1, by omega, by go_num, H3.out⟩
          case measure => simp [intOf]; omega
        · have hkl2 : k = L2.length := by omega
          subst hkl2
          have HLN := Lib.hid (lsU_len m (dvS p L2 t (cf L1) d L2.length))
          have HT := Lib.hid (sTrim _ _ wr (HF.out.ilr (by rw [HLN.out]; omega)) (by rw [HLN.out]; omega))
          have HN := Lib.hid (show trimL (lsU m (dvS p L2 t (cf L1) d L2.length)) = lesL p L1 L2 t d from by unfold lesL; rw [← HNN.out])
          rw [HN.out] at HT
          go_wp2_with fail
          refine HT.out.mono ?_
          rintro e w8 ⟨u8, rfl, hu8, hb8⟩
          have H8 := Lib.hid (show RowN w8 w.heap.size u8 (lesL p L1 L2 t d) ∧ Below w.heap.size w w8 from ⟨hu8.base HB.out.size, HB.out.trans (hb8.mono HB.out.size)⟩)
          clear hu8 hb8
          go_wp2_with fail
          go_ret
          exact ⟨_, rfl, H8.out⟩
end Go.Proofs.Ytfmpcniehgipfaa
