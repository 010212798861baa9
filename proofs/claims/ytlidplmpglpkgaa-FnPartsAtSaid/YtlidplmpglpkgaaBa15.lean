/-
  The program's 'used': a range over slices.Backward. Conditions: what the slice holds is known.
  Contracts of UsedGates, of both. Conditions: what the slice holds is known.
  Contracts of CostOf, of both. Conditions: what the slice holds is known.
  Circuits as lists of gates: a circuit is no deeper than it has sums and products, and its formal degree is at most 2 to the power of its products. Conditions: the gates are a circuit.
  The formula that a circuit is without sharing: mathematics alone. Conditions: the circuit is one.
  Contract of the program's CostOf. Conditions: what the slice holds is known.
-/
import Derived.Test.YtlidplmpglpkgaaBa14
import Derived.Test.YtlidplmpglpkgaaBa2
import Derived.RangeFuncNested
import Derived.RangeFuncBound
import Derived.RangeFuncCalls
import Derived.RangeFuncLeaves
import Derived.Shelf.Abstract
import Derived.Shelf.RegionOpen
import Derived.OwnWalkIn
import Derived.TacticsInMore
import Derived.LoopNIn
import Derived.LoopIn
import Derived.Deep.Upon
import Derived.Test.YtlidplmpglpkgaaBa8
import Derived.Test.YtlidplmpglpkgaaBa12
namespace Go.Proofs.Ytlidplmpglpkgaa
open Go.RowKit Go.Shelf
attribute [local go_sem] Oper.semAt_some
/-- all blocks below n₀ but one lie as they lay -/
structure KpX (n₀ UB : Nat) (w w' : World) : Prop where
  size : w.heap.size ≤ w'.heap.size
  block : ∀ k, k < n₀ → k ≠ UB → w'.heap[k]? = w.heap[k]?
theorem KpX.refl (n₀ UB : Nat) (w : World) : KpX n₀ UB w w := ⟨Nat.le_refl _, fun _ _ _ => rfl⟩
theorem KpX.trans {n₀ UB : Nat} {a b c : World} (h : KpX n₀ UB a b) (k : KpX n₀ UB b c) : KpX n₀ UB a c := ⟨Nat.le_trans h.size k.size, fun i h1 h2 => (k.block i h1 h2).trans (h.block i h1 h2)⟩
theorem KpX.cell {n₀ UB : Nat} {w w' : World} (h : KpX n₀ UB w w') {p : Addr} (h1 : p.block < n₀) (h2 : p.block ≠ UB) : w'.cell? p = w.cell? p := cell_of_heap (h.block _ h1 h2)
theorem KpX.of_below {n₀ UB : Nat} {w w' : World} (h : Below n₀ w w') : KpX n₀ UB w w' := ⟨h.size, fun k hk _ => h.block k hk⟩
/-- the gates' numbers from the last one down, m of them -/
def bkTo (n : Nat) : (m : Nat) → m ≤ n → List (Fin n)
  | 0, _ => []
  | m + 1, h => bkTo n m (by omega) ++ [⟨n - 1 - m, by omega⟩]
theorem bkTo_len (n : Nat) : ∀ (m : Nat) (h : m ≤ n), (bkTo n m h).length = m
  | 0, _ => rfl
  | m + 1, h => by simp [bkTo, bkTo_len n m]
def encG (L : List Gt) (x : Fin L.length) : Array Value := #[.int .i64 ((x.1 : Nat) : Int), .agg #[.int .i64 (gAt L x.1).k, .int .i64 (gAt L x.1).a, .int .i64 (gAt L x.1).b]]
set_option maxRecDepth 100000 in
set_option maxHeartbeats 4000000 in
theorem back_in (F : Fence) (n : Nat) (hF : F.fn 230) (hro : F.round = none) (hn : 1 ≤ n) (l Bs n₀ UB g off cap : Nat) (L : List Gt) (hL : L.length ≤ 60) (hg : g < n₀) (hgU : g ≠ UB) (hB : Bs < n₀) (hBU : Bs ≠ UB)
    (J Jx : List (Fin L.length) → World → Prop)
    (hY : ∀ pre x W, J pre W → pre.length < L.length → YieldAt F (n - 1) Try.prog l (encG L x) W fun e W' =>
      (e = .returned (.bool true) ∧ J (pre ++ [x]) W' ∧ KpX n₀ UB W W') ∨ (e = .returned (.bool false) ∧ Jx (pre ++ [x]) W'))
    (W : World) (hBs : W.cell? ⟨Bs, 0, none⟩ = some (.slice (some ⟨g, off, none⟩) L.length cap)) (hc : ∀ j : Nat, j < L.length → GAt W g (off + j * 3) (L.getD j default)) (h0 : J [] W) :
    CallsIn F n Try.prog 230 #[.func (.yield l) #[] #[], .pointer (some ⟨Bs, 0, none⟩)] W fun e W' => (∃ v, e = .returned v) ∧
      ((∃ ys, ys = bkTo L.length L.length (Nat.le_refl _) ∧ J ys W') ∨ (∃ pre, (∃ k, ∃ h : k ≤ L.length, pre = bkTo L.length k h) ∧ Jx pre W')) := by
  have HC := Lib.hid hc
  clear hc
  refine callsIn_of_wp Try.func230 rfl hF ?_ hro
  simp only [Try.ntmps230, List.size_toArray, List.length_cons, List.length_nil, Nat.reduceAdd, Nat.reduceSub, Array.replicate_succ, Array.replicate_zero, List.push_toArray, List.append_toArray, List.nil_append, List.cons_append]
  gi_wp2
  gi_loopw [3] (fun i wr => ∃ m : Nat, ∃ h : m ≤ L.length, i = .int .i64 ((L.length : Int) - 1 - m) ∧ J (bkTo L.length m h) wr ∧ KpX n₀ UB W wr) (fun i _ => (intOf i + 1).toNat)
  case atStart => exact ⟨0, Nat.zero_le _, by simp, h0, KpX.refl _ _ _⟩
  case round =>
    obtain ⟨m, hm, rfl, hJ, hK⟩ := hrel
    by_cases hlt : m < L.length
    · obtain ⟨i, hi⟩ : ∃ i : Nat, L.length - 1 - m = i := ⟨_, rfl⟩
      have hij : (L.length : Int) - 1 - m = (i : Int) := by omega
      rw [hij]
      have hil : i < L.length := by omega
      have hilp : (i : Int) < (L.length : Int) := by omega
      have hi0 : (0 : Int) ≤ (i : Int) := by omega
      have hwi : IntKind.i64.wrap ((i : Int) - 1) = (i : Int) - 1 := IntWalk.i64_in _ (by omega)
      have HNX := Lib.hid (show (i : Int) - 1 = (L.length : Int) - 1 - ((m + 1 : Nat) : Int) by omega)
      have cB := (hK.cell (p := ⟨Bs, 0, none⟩) hB hBU).trans hBs
      obtain ⟨a0, a1, a2⟩ := HC.out i hil
      have b0 := (hK.cell (p := ⟨g, off + i * 3, none⟩) hg hgU).trans a0
      have b1 := (hK.cell (p := ⟨g, off + i * 3 + 1, none⟩) hg hgU).trans a1
      have b2 := (hK.cell (p := ⟨g, off + i * 3 + 2, none⟩) hg hgU).trans a2
      obtain ⟨fn, tmps, assign, body, hy, hR⟩ := hY _ ⟨i, hil⟩ wr hJ (by rw [bkTo_len]; exact hlt)
      obtain ⟨x, hx⟩ : ∃ x, x = gAt L i := ⟨_, rfl⟩
      simp only [encG, ← hx] at hy
      have hx2 : L.getD i default = x := hx.symm
      rw [hx2] at b0 b1 b2
      have HE := Lib.hid (show bkTo L.length (m + 1) hlt = bkTo L.length m hm ++ [⟨i, hil⟩] by simp only [bkTo, hi])
      clear hx hx2 a0 a1 a2 hi hij
      gi_wp2
      refine hR.mono ?_
      rintro e W3 (⟨rfl, hJ3, hk3⟩ | ⟨rfl, hJx3⟩)
      · have hKK := hK.trans hk3
        rw [← HE.out] at hJ3
        clear hR hy b0 b1 b2 cB
        gi_wp2
        go_roundw
        case rel => exact ⟨m + 1, hlt, by rw [HNX.out], hJ3, hKK⟩
        case measure => simp [intOf] <;> omega
      · gi_wp2
        refine bodyPost_ret (results_none rfl _ _ _) rfl ?_
        exact ⟨⟨_, rfl⟩, .inr ⟨_, ⟨m + 1, hlt, HE.out.symm⟩, hJx3⟩⟩
    · have hml : m = L.length := by omega
      subst hml
      have hij : (L.length : Int) - 1 - (L.length : Int) = -1 := by omega
      rw [hij]
      gi_wp2
      go_end0
      exact ⟨⟨_, rfl⟩, .inl ⟨_, rfl, hJ⟩⟩
set_option maxHeartbeats 1000000 in
theorem back_val (F : Fence) (n : Nat) (hF : F.fn 205) (hro : F.round = none) (a : Option Addr) (len cap : Nat) (w : World) :
    CallsIn F n Try.prog 205 #[.slice a len cap] w fun e w' => e = .returned (.func (.func 230) #[] #[.pointer (some ⟨w.heap.size, 0, none⟩)]) ∧ w' = w.alloc (.cells #[.slice a len cap] 43) := by
  refine callsIn_of_wp Try.func205 rfl hF ?_ hro
  simp only [Try.ntmps205, List.size_toArray, List.length_cons, List.length_nil, Nat.reduceAdd, Nat.reduceSub, Array.replicate_succ, Array.replicate_zero, List.push_toArray, List.append_toArray, List.nil_append, List.cons_append]
  gi_wp2
  go_ret
  exact ⟨rfl, rfl⟩
theorem back_stops (F : Fence) (n : Nat) (hF : F.fn 230) (hro : F.round = none) (hn : 1 ≤ n) (Bs n₀ UB g off cap : Nat) (L : List Gt) (hL : L.length ≤ 60) (w : World) (hg : g < n₀) (hgU : g ≠ UB) (hB : Bs < n₀) (hBU : Bs ≠ UB) (hn0 : n₀ ≤ w.heap.size)
    (hBs : w.cell? ⟨Bs, 0, none⟩ = some (.slice (some ⟨g, off, none⟩) L.length cap)) (hc : ∀ j : Nat, j < L.length → GAt w g (off + j * 3) (L.getD j default)) :
    SeqStopsK F n Try.prog 230 #[.pointer (some ⟨Bs, 0, none⟩)] (encG L) (KpX n₀ UB) (fun ys => ys = bkTo L.length L.length (Nat.le_refl _)) (fun pre => ∃ k, ∃ h : k ≤ L.length, pre = bkTo L.length k h) L.length w := fun l J Jx W hW _ _ hY h0 =>
  back_in F n hF hro hn l Bs n₀ UB g off cap L hL hg hgU hB hBU J Jx hY W ((hW.cell (p := ⟨Bs, 0, none⟩) (by show Bs < _; omega)).trans hBs) (fun j hj => (hc j hj).below hW (by omega)) h0
/-- what the rounds make of the first truth values -/
def useL (L : List Gt) (pre : List (Fin L.length)) : Nat → Bool := pre.foldl (fun U x => useStep L U x.1) (useM L 0)
theorem useL_snoc (L : List Gt) (pre : List (Fin L.length)) (x : Fin L.length) : useL L (pre ++ [x]) = useStep L (useL L pre) x.1 := by simp [useL]
theorem useL_bk (L : List Gt) : ∀ (m : Nat) (h : m ≤ L.length), useL L (bkTo L.length m h) = useM L m
  | 0, _ => rfl
  | m + 1, h => by rw [bkTo, useL_snoc, useL_bk L m]; rfl
theorem arrB_own {β : Type} (g : Nat) (f : β → Nat → Bool) : Own (fun s W => ArrB W g (f s)) := fun _ _ _ _ hs hg hr =>
  ⟨Nat.lt_of_lt_of_le hs.1 hg.size, fun j hj => ⟨cell_kept (hs.2 j hj).1 hg hr, (frozen_kept (hs.2 j hj).1 hg hr).trans (hs.2 j hj).2⟩⟩
theorem size_own {β : Type} (N : Nat) : Own (fun (_ : β) W => N ≤ W.heap.size) := fun _ _ _ _ hs hg _ => Nat.le_trans hs hg.size
theorem gat_own (g : Nat) (y : Gt) : Own (fun (_ : Unit) W => g < W.heap.size ∧ GAt W g 0 y) := fun _ _ _ _ hs hg hr =>
  ⟨Nat.lt_of_lt_of_le hs.1 hg.size, cell_kept hs.2.1 hg hr, cell_kept hs.2.2.1 hg hr, cell_kept hs.2.2.2 hg hr⟩
theorem keeps_below {w w' : World} (h : Below w.heap.size w w') : KeepsOthers w w' :=
  ⟨h.size, fun k o hk _ => by rw [h.block k (Array.getElem?_eq_some_iff.1 hk).1]; exact hk⟩
theorem KpX.set {n₀ UB : Nat} {a w : World} (h : KpX n₀ UB a w) (o : Nat) (v : Value) : KpX n₀ UB a (w.setCell ⟨UB, o, none⟩ v) :=
  ⟨by simpa using h.size, fun k hk hne => by rw [Below.heap_setCell _ _ _ _ hne]; exact h.block k hk hne⟩
theorem kpX_b {n₀ UB : Nat} {w : World} (hn : n₀ ≤ w.heap.size) (W : World) (l : Nat) (o o' : Obj) (hl : w.heap.size ≤ l) (h : W.heap[l]? = some o) (h1 : o.isCells = false) (h2 : o.isWalk = false) : KpX n₀ UB W (W.putObj l o') :=
  KpX.of_below (belowK_b hn W l o o' hl h h1 h2)
set_option maxRecDepth 100000 in
set_option maxHeartbeats 8000000 in
theorem iUsed_some (p : Int) (L : List Gt) (hv : circB p L = true) (g off cap : Nat) (w : World) (hg : g < w.heap.size)
    (hc : ∀ j : Nat, j < L.length → GAt w g (off + j * 3) (L.getD j default)) :
    Calls Try.prog 148 #[.slice (some ⟨g, off, none⟩) L.length cap] w fun e w' => ∃ V, e = .returned V ∧ UseV V (useF L) ∧ Below w.heap.size w w' := by
  obtain ⟨hp, hl1, hl2, hall⟩ := circB_iff.1 hv
  have HC := Lib.hid hc
  have HA := Lib.hid hall
  clear hc hv hall hp
  obtain ⟨W, hW⟩ : ∃ W, W = (w.alloc (.cells (Array.replicate 60 (.bool false)) 157)).alloc (.cells (Array.replicate 60 (.bool false)) 157) := ⟨_, rfl⟩
  have hs0 : W.heap.size = w.heap.size + 2 := by rw [hW]; simp
  have A0 : ArrB W w.heap.size (fun _ => false) := by rw [hW]; exact (ArrB.new w _).below (Below.alloc (Below.refl _ _) (Nat.le_refl _) _) (by simp)
  have A1 : ArrB W (w.heap.size + 1) (fun _ => false) := by rw [hW]; have := ArrB.new (w.alloc (.cells (Array.replicate 60 (.bool false)) 157)) 157; simpa using this
  have B0 : Below w.heap.size w W := by rw [hW]; exact (by repeat (first | exact Below.refl _ _ | apply Below.drew | apply below_drewN | (refine Below.alloc ?_ (by first | omega | (simp <;> omega)) _)))
  obtain ⟨n, hn⟩ : ∃ n, L.length = n + 1 := ⟨L.length - 1, by omega⟩
  have hn1 : (L.length : Int) - 1 = (n : Int) := by omega
  have hn60 : (n : Int) < 60 := by omega
  have hn0 : (0 : Int) ≤ n := by omega
  obtain ⟨k0, f0⟩ := A1.2 n (by omega)
  have A2 : ArrB (W.setCell ⟨w.heap.size + 1, n, none⟩ (.bool true)) (w.heap.size + 1) (useM L 0) :=
    (A1.set (by omega) true).ext (fun j hj => by simp only [useM]; by_cases e : j = n <;> simp [e, hn] <;> omega)
  have A3 : ArrB (W.setCell ⟨w.heap.size + 1, n, none⟩ (.bool true)) w.heap.size (fun _ => false) := A0.far (by omega) _
  have B2 : Below w.heap.size w (W.setCell ⟨w.heap.size + 1, n, none⟩ (.bool true)) := B0.setCell (by simp) _
  have HN := Lib.hid hn
  have HN1 := Lib.hid hn1
  have HW := Lib.hid hW
  clear hn A0 A1 hW hn1
  refine (callsIn_wide (n := 6)).1 ?_
  refine callsIn_of_wp_marks Try.func148 rfl trivial ?_ rfl
  simp only [Try.ntmps148, List.size_toArray, List.length_cons, List.length_nil, Nat.reduceAdd, Nat.reduceSub, Array.replicate_succ, Array.replicate_zero, List.push_toArray, List.append_toArray, List.nil_append, List.cons_append]
  gi_wp2_with fail
  refine ⟨trivial, ?_⟩
  change CallsIn _ _ _ _ _ ((w.alloc (.cells (Array.replicate 60 (.bool false)) 157)).alloc (.cells (Array.replicate 60 (.bool false)) 157)) _
  rw [← HW.out]
  clear HW
  refine (callsIn_wide.2 (iLast _ L.length _ n (by omega) HN1.out _)).mono ?_
  rintro e w' ⟨rfl, rfl⟩
  gi_wp2_with fail
  refine ⟨trivial, ?_⟩
  refine (back_val Fence.wide _ trivial rfl _ _ _ _).mono ?_
  rintro e w' ⟨rfl, rfl⟩
  gi_wp2_with fail
  obtain ⟨W3, hW3⟩ : ∃ W3, (W.setCell ⟨w.heap.size + 1, n, none⟩ (.bool true)).alloc (.cells #[.slice (some ⟨g, off, none⟩) L.length cap] 43) = W3 := ⟨_, rfl⟩
  have hs3 : W3.heap.size = w.heap.size + 3 := by rw [← hW3]; simp [hs0]
  have b23 : Below (W.setCell ⟨w.heap.size + 1, n, none⟩ (.bool true)).heap.size (W.setCell ⟨w.heap.size + 1, n, none⟩ (.bool true)) W3 := by rw [← hW3]; exact Below.alloc (Below.refl _ _) (Nat.le_refl _) _
  have A4 := A2.below b23 A2.1
  have A5 := A3.below b23 A3.1
  have B3 := B2.trans (b23.mono B2.size)
  have cB : W3.cell? ⟨w.heap.size + 2, 0, none⟩ = some (.slice (some ⟨g, off, none⟩) L.length cap) := by
    rw [← hW3, ← hs0]
    have := World.cell?_alloc_new (W.setCell ⟨w.heap.size + 1, n, none⟩ (.bool true)) #[.slice (some ⟨g, off, none⟩) L.length cap] 43 0
    simpa using this
  have hC3 : ∀ j : Nat, j < L.length → GAt W3 g (off + j * 3) (L.getD j default) := fun j hj => (HC.out j hj).below B3 hg
  rw [hW3]
  clear hW3 b23 A2 A3 B2 B0 k0 f0
  refine wpIn_rangeFunc_ownH rfl (by omega) (gf := 230) (lb := #[.pointer (some ⟨w.heap.size + 2, 0, none⟩)]) rfl trivial (enters_of Try.func230 (by kernel_rfl) rfl)
    (back_stops Fence.wide (6 - 1) trivial rfl (by omega) (w.heap.size + 2) (w.heap.size + 3) (w.heap.size + 1) g off cap L hl2 W3 (by omega) (by omega) (by omega) (by omega) (by omega) cB hC3) (fun h k => KpX.trans h k) (kpX_b (by omega)) (Below.refl _ _) (fun _ => rfl)
    (fun pre Wc => ((ArrB Wc (w.heap.size + 1) (useL L pre) ∧ ArrB Wc w.heap.size (fun _ => false)) ∧ w.heap.size + 3 ≤ Wc.heap.size) ∧ Below w.heap.size w Wc)
    (fun _ _ _ => False)
    (OwnFrom.and (OwnFrom.and (OwnFrom.and (Own.from (arrB_own _ _) _) (Own.from (arrB_own _ _) _)) (Own.from (size_own _) _)) (ownFrom_below (Nat.le_refl _) (by omega)))
    (fun _ _ _ _ _ hs _ _ => hs)
    ⟨⟨⟨A4, A5⟩, by omega⟩, B3⟩
    (fun x a' Wc => ∃ Bx, w.heap.size + 2 < Bx ∧ (Bx < Wc.heap.size ∧ GAt Wc Bx 0 (gAt L x.1)) ∧ a' = { tmps := #[.slice (some ⟨g, off, none⟩) L.length cap, undef, .pointer (some ⟨w.heap.size, 0, none⟩), .pointer (some ⟨w.heap.size + 1, 0, none⟩), .int .i64 ((x.1 : Nat) : Int), .pointer (some ⟨Bx, 0, none⟩), .slice (some ⟨g, off, none⟩) L.length cap, .int .i64 n, .pointer (some ⟨w.heap.size + 1, n, none⟩), .slice (some ⟨g, off, none⟩) L.length cap, .func (.func 230) #[] #[.pointer (some ⟨w.heap.size + 2, 0, none⟩)], .int .i64 ((x.1 : Nat) : Int), .agg #[.int .i64 (gAt L x.1).k, .int .i64 (gAt L x.1).a, .int .i64 (gAt L x.1).b], undef, undef, undef, undef, undef, undef, undef, undef, undef, undef, undef, undef, undef, undef], defers := [] })
    (fun x a' _ X Y row hs hg hr => by obtain ⟨Bx, h1, h2, h3⟩ := hs; exact ⟨Bx, h1, gat_own Bx (gAt L x.1) () X Y row h2 hg (fun r e => (hr r e).2), h3⟩)
    ?assign ?body ?done ?stop
  case assign =>
    rintro l pre x Wc K ⟨⟨⟨hA, hR⟩, hsz⟩, hB⟩ hK
    simp only [encG]
    gi_wp2
    have b1 : Below Wc.heap.size Wc (Wc.alloc (Obj.cells #[.int .i64 (gAt L x.1).k, .int .i64 (gAt L x.1).a, .int .i64 (gAt L x.1).b] 137)) := Below.alloc (Below.refl _ _) (Nat.le_refl _) _
    exact hK _ _ ((KeepsOthers.alloc _ _).from _) (KpX.of_below (b1.mono hsz)) ⟨⟨⟨hA.below b1 hA.1, hR.below b1 hR.1⟩, by simp; omega⟩, hB.trans (b1.mono hB.size)⟩
      ⟨Wc.heap.size, by omega, ⟨by simp, by refine ⟨?_, ?_, ?_⟩ <;> simp [go_sem]⟩, rfl⟩
  case body =>
    rintro l pre x a' Wc hl ⟨r, hr⟩ ⟨⟨⟨hA, hR⟩, hsz⟩, hB⟩ ⟨Bx, hBx, ⟨hBl, hG⟩, rfl⟩ hlt
    obtain ⟨i, hil⟩ := x
    have hil : i < L.length := hil
    have hi60 : (i : Int) < 60 := by omega
    have hi0 : (0 : Int) ≤ i := by omega
    obtain ⟨q0, _⟩ := hA.2 i (by omega)
    have hx0 := HA.out i hil
    obtain ⟨y, hy⟩ : ∃ y, gAt L i = y := ⟨_, rfl⟩
    simp only [hy] at hG ⊢
    rw [hy] at hx0
    have HY := Lib.hid hy
    have HS := Lib.hid (useL_snoc L pre ⟨i, hil⟩)
    clear hy
    obtain ⟨c0, c1, c2⟩ := hG
    rcases Bool.eq_false_or_eq_true (useL L pre i) with hu | hu
    · rw [hu] at q0
      have HU := Lib.hid hu
      clear hu
      gi_wp2_with fail
      refine ⟨trivial, ?_⟩
      cases hj : joinsB y
      · have HJ := Lib.hid hj
        have HE := Lib.hid (show useL L (pre ++ [⟨i, hil⟩]) = useL L pre by rw [HS.out]; simp [useStep, HY.out, hj])
        clear hj
        refine (CallsIn.inRound l (callsIn_wide.2 (iJoins_is false y.k y.a y.b HJ.out _))).mono ?_
        rintro e W5 ⟨rfl, hb5⟩
        have A5' := hA.below hb5 hA.1
        have R5 := hR.below hb5 hR.1
        have hs5 := hb5.size
        clear q0 c0 c1 c2
        gi_wp2
        exact ⟨(keeps_below hb5).from _, KpX.of_below (hb5.mono hsz), ⟨⟨by rw [HE.out]; exact A5', R5⟩, by omega⟩, hB.trans (hb5.mono hB.size)⟩
      · obtain ⟨yk, ya, yb⟩ := y
        have hcs := gOK_cases hx0
        have hyk : yk = 2 ∨ yk = 3 := by simpa [joinsB] using hj
        simp only at hcs
        obtain ⟨ja, rfl⟩ := Int.eq_ofNat_of_zero_le (show 0 ≤ ya by omega)
        obtain ⟨jb, rfl⟩ := Int.eq_ofNat_of_zero_le (show 0 ≤ yb by omega)
        have hja : ja < i := by omega
        have hjb : jb < i := by omega
        have ja60 : (ja : Int) < 60 := by omega
        have jb60 : (jb : Int) < 60 := by omega
        have ja0 : (0 : Int) ≤ ja := by omega
        have jb0 : (0 : Int) ≤ jb := by omega
        have HJ := Lib.hid hj
        refine (CallsIn.inRound l (callsIn_wide.2 (iJoins_is true yk ja jb HJ.out _))).mono ?_
        rintro e W5 ⟨rfl, hb5⟩
        have A5' := hA.below hb5 hA.1
        have R5 := hR.below hb5 hR.1
        have hs5 := hb5.size
        have d0 := (hb5.cell (p := ⟨Bx, 0, none⟩) hBl).trans c0
        have d1 := (hb5.cell (p := ⟨Bx, 1, none⟩) hBl).trans c1
        have d2 := (hb5.cell (p := ⟨Bx, 2, none⟩) hBl).trans c2
        obtain ⟨p1, f1⟩ := A5'.2 ja (by omega)
        have S1 := A5'.set (k := ja) (by omega) true
        obtain ⟨p2, f2⟩ := S1.2 jb (by omega)
        have S2 := S1.set (k := jb) (by omega) true
        have e2 : (W5.setCell ⟨w.heap.size + 1, ja, none⟩ (.bool true)).cell? ⟨Bx, 2, none⟩ = some (.int .i64 jb) := by
          rw [World.cell?_setCell_other _ _ _ _ (addr_ne (by omega))]; exact d2
        have hR3 : ArrB ((W5.setCell ⟨w.heap.size + 1, ja, none⟩ (.bool true)).setCell ⟨w.heap.size + 1, jb, none⟩ (.bool true)) (w.heap.size + 1) (useL L (pre ++ [⟨i, hil⟩])) := by
          refine S2.ext fun j _ => ?_
          rw [HS.out]
          simp only [useStep, HU.out, HY.out, HJ.out, Bool.and_self, if_true]
          by_cases e1 : j = jb
          · subst e1; simp
          · by_cases e2 : j = ja
            · subst e2; simp [e1]
            · have n1 : ((j : Int) == (ja : Int)) = false := beq_eq_false_iff_ne.2 (by omega)
              have n2 : ((j : Int) == (jb : Int)) = false := beq_eq_false_iff_ne.2 (by omega)
              rw [n1, n2, if_neg e1, if_neg e2]
              simp
        have hR4 : ArrB ((W5.setCell ⟨w.heap.size + 1, ja, none⟩ (.bool true)).setCell ⟨w.heap.size + 1, jb, none⟩ (.bool true)) w.heap.size (fun _ => false) := (R5.far (by omega) _).far (by omega) _
        have hb2 : Below w.heap.size w ((W5.setCell ⟨w.heap.size + 1, ja, none⟩ (.bool true)).setCell ⟨w.heap.size + 1, jb, none⟩ (.bool true)) := ((hB.trans (hb5.mono hB.size)).setCell (by simp) _).setCell (by simp) _
        have hK : KpX (w.heap.size + 3) (w.heap.size + 1) Wc ((W5.setCell ⟨w.heap.size + 1, ja, none⟩ (.bool true)).setCell ⟨w.heap.size + 1, jb, none⟩ (.bool true)) := ((KpX.of_below (hb5.mono hsz)).set _ _).set _ _
        have hKO : KeepsOthers Wc ((W5.setCell ⟨w.heap.size + 1, ja, none⟩ (.bool true)).setCell ⟨w.heap.size + 1, jb, none⟩ (.bool true)) := ((keeps_below hb5).trans (KeepsOthers.setCell _ _ _)).trans (KeepsOthers.setCell _ _ _)
        have hsz2 : w.heap.size + 3 ≤ ((W5.setCell ⟨w.heap.size + 1, ja, none⟩ (.bool true)).setCell ⟨w.heap.size + 1, jb, none⟩ (.bool true)).heap.size := by simp; omega
        clear S1 S2 hcs hx0 hj hyk q0 c0 c1 c2 hA hR
        gi_wp2
        exact ⟨hKO.from _, hK, ⟨⟨hR3, hR4⟩, hsz2⟩, hb2⟩
    · rw [hu] at q0
      have hE : useL L (pre ++ [⟨i, hil⟩]) = useL L pre := by rw [HS.out]; simp [useStep, hu]
      have HE := Lib.hid hE
      clear hu hE
      gi_wp2_with fail
      refine ⟨trivial, ?_⟩
      gi_wp2
      exact ⟨KeepsFrom.refl _ _, KpX.refl _ _ _, ⟨⟨by rw [HE.out]; exact hA, hR⟩, hsz⟩, hB⟩
  case done =>
    rintro D ys Wc hD rfl ⟨⟨⟨hA, hR⟩, hsz⟩, hB⟩ hKD
    rw [useL_bk] at hA
    have hT := hR.there
    have hC := hA.range
    have hlen := useC_len (useF L)
    have h1 := all_oneCell_toArray (useC_one (useF L))
    have hT2 : Wc.there w.heap.size 0 (useC (useF L)).toArray.size := by simp only [List.size_toArray, hlen]; exact hT
    have hI2 : (Try.prog.info? 157).map (·.size) = some (useC (useF L)).toArray.size := by simp only [List.size_toArray, hlen]; exact infoB
    have hI1 : (Try.prog.info? 157).map (·.size) = some (useC (useF L)).length := by rw [hlen]; exact infoB
    have hC2 : Wc.rangeAt (w.heap.size + 1) 0 (useC (useF L)) := hC
    have hE : (Wc.setCells w.heap.size 0 (useC (useF L))).rangeAt w.heap.size 0 (useC (useF L)) := World.rangeAt_setCells_same _ _ _ _ (by rw [hlen]; exact hT)
    have hBl : Below w.heap.size w (Wc.setCells w.heap.size 0 (useC (useF L))) := below_setCells _ _ _ _ hB (Nat.le_refl _)
    have hKD2 : (Wc.setCells w.heap.size 0 (useC (useF L))).heap[D]? = some (Obj.deferred (some [])) := by
      rw [World.heap_setCells_other _ _ _ _ (Array.getElem?_eq_some_iff.1 hKD).1 (by omega)]; exact hKD
    simp only [Exit.inBlock, Exit.then]
    rename_i Q' K hcont
    refine hcont _ _ ?_
    refine wpIn_wide.2 ?_
    clear hA hR hB hT hC
    go_wp2_with (first
      | (refine wpList_load_mid rfl 157 _ rfl (w.heap.size + 1) 0 rfl (useC (useF L)) _ hC2 Try.underlying157 rfl hI1 ?_)
      | (refine wpList_store_mid rfl 157 _ _ rfl w.heap.size 0 (useC (useF L)).toArray rfl rfl hT2 hI2 h1 ?_))
    have hE2 : ((Wc.setCells w.heap.size 0 (useC (useF L))).putObj D (.deferred none)).rangeAt w.heap.size 0 (useC (useF L)) := fun j v hv =>
      cell_kept (hE j v hv) (grownBy_putObj' _ D (.deferred none)) (fun r e => by cases e; exact ⟨_, hKD2, rfl⟩)
    have hL := run_loadVar_mid (P := Try.prog) ((Wc.setCells w.heap.size 0 (useC (useF L))).putObj D (.deferred none)) w.heap.size 0 157 (useC (useF L)) _ hE2 Try.underlying157 rfl hI1
    refine ⟨by simp, .inl ⟨_, _, rfl, run_takeDeferred hKD2, ?_⟩⟩
    exact ⟨_, results_cell_at Try.results148 _ _ w.heap.size 0 rfl _ hL, _, rfl, rfl, hBl.trans (belowK_b (w := w) (Nat.le_refl _) _ D _ _ (by omega) hKD2 rfl rfl)⟩
  case stop =>
    rintro D c pre Wc _ _ h _
    exact h.elim
end Go.Proofs.Ytlidplmpglpkgaa
namespace Go.Proofs.Ytlidplmpglpkgaa
open Go.RowKit
theorem gats_u {p : Int} {w : World} {v : Value} {L : List Gt} (h : Gats w v L) (hv : circB p L = true) :
    ∃ g off cap, v = .slice (some ⟨g, off, none⟩) L.length cap ∧ g < w.heap.size ∧ ∀ j : Nat, j < L.length → GAt w g (off + j * 3) (L.getD j default) := by
  obtain ⟨_, a, cap, rfl, h2⟩ := h
  rcases h2 with rfl | ⟨g, off, rfl, hg, hc⟩
  · have := (circB_iff.1 hv).2.1; simp at this
  · exact ⟨g, off, cap, rfl, hg, hc⟩
/-- the numbers below k that are used -/
def useTo (U : Nat → Bool) : Nat → List Int
  | 0 => []
  | k + 1 => if U k then useTo U k ++ [(k : Int)] else useTo U k
theorem useTo_len (U : Nat → Bool) : ∀ k, (useTo U k).length ≤ k
  | 0 => Nat.le_refl _
  | k + 1 => by
    unfold useTo
    have := useTo_len U k
    split <;> simp <;> omega
/-- what UsedGates returns -/
def useV (p : Int) (L : List Gt) : List Int := if circB p L then useTo (useF L) 60 else []
set_option maxRecDepth 100000 in
set_option maxHeartbeats 4000000 in
theorem iUsedGates (p : Int) (f : Value) (L : List Gt) (w : World) (h : Gats w f L) :
    Calls Try.prog 54 #[.int .i64 p, f] w fun e w' => ∃ v, e = .returned v ∧ OwnInts w' w.heap.size v (useV p L) ∧ Below w.heap.size w w' := by
  have HG := Lib.hid (h)
  cases hv : circB p L
  · have e1 : useV p L = [] := by simp [useV, hv]
    rw [e1]
    have HV := Lib.hid hv
    obtain ⟨nL, a, cap, rfl, _⟩ := h
    clear hv e1
    go_enter Try.func54, Try.ntmps54
    go_wp2_with fail
    refine (iCircuitValid p _ L _ HG.out).mono ?_
    rintro e w1 ⟨he, hb1⟩
    rw [HV.out] at he
    subst he
    have B1 := hb1
    have R1 := RowI.nil w1 w.heap.size
    clear hb1
    go_wp2_with fail
    go_ret
    exact ⟨_, rfl, R1.own (by simp), B1⟩
  · have e1 : useV p L = useTo (useF L) 60 := by simp [useV, hv]
    rw [e1]
    have HV := Lib.hid hv
    obtain ⟨i0, hi, hz0, hz1, hz2⟩ := info_parts infoInt
    obtain ⟨g, off, cap, rfl, hg, hc⟩ := gats_u h hv
    have HC := Lib.hid hc
    clear e1 hc
    go_enter Try.func54, Try.ntmps54
    go_wp2_with fail
    refine (iCircuitValid p _ L _ HG.out).mono ?_
    rintro e w1 ⟨he, hb1⟩
    rw [HV.out] at he
    subst he
    have B1 := hb1
    have R1 := RowI.nil w1 w.heap.size
    have hg1 : g < w1.heap.size := by have := B1.size; omega
    have HC1 := Lib.hid (fun (j : Nat) (hj : j < L.length) => (HC.out j hj).below B1 hg)
    clear hb1
    go_wp2_with fail
    refine (iUsed_some p L HV.out g off cap w1 hg1 HC1.out).mono ?_
    rintro e w2 ⟨V, rfl, hV, hb2⟩
    have B2 := B1.trans (hb2.mono B1.size)
    have R2 := R1.below hb2
    have HVV := Lib.hid hV
    clear hb2 hV B1 R1 hv
    go_wp2_with fail
    go_loopw [5, 14] (fun v i wr => ∃ k : Nat, k ≤ 60 ∧ i = .int .i64 k ∧ RowI wr w.heap.size v (useTo (useF L) k) ∧ Below w.heap.size w wr) (fun _ i _ => 60 - (intOf i).toNat)
    case atStart => exact ⟨0, by omega, rfl, R2, B2⟩
    case round =>
      clear R2 B2
      obtain ⟨k, hk, rfl, hR, hb⟩ := hrel
      have hlen := useTo_len (useF L) k
      by_cases hlt : k < 60
      · have hk60 : (k : Int) < 60 := by omega
        have hk0 : (0 : Int) ≤ (k : Int) := by omega
        have hs := hb.size
        have HW := Lib.hid hR
        have Hb := Lib.hid hb
        have hix := fun w' => HVV.out.index k hlt w'
        rcases Bool.eq_false_or_eq_true (useF L k) with hu | hu
        · simp only [hu] at hix
          have HE := Lib.hid (show useTo (useF L) (k + 1) = useTo (useF L) k ++ [(k : Int)] by simp [useTo, hu])
          clear hR hb hu
          go_wp2_with (at_builtin; refine wpList_append_own _ rfl _ _ 61 rfl (w.heap.size) 3 i0 (.int .i64 0) 1 8 Try.underlying61 hi hz0 hz1 hz2 rfl (by decide) _ _ _ rfl (RowI.below HW.out (by repeat (first | exact Below.refl _ _ | apply Below.drew | apply below_drewN | (refine Below.alloc ?_ (by first | omega | (simp <;> omega)) _)))) _ 1 1 [.int .i64 ((k : Int))] rfl rfl (by intro j u hj; match j, hj with | 0, hj => (simp at hj; subst hj; simp [Addr.add, go_sem])) (one_ok _) (by unfold maxLen; omega) (by omega) (by first | omega | (simp; omega)) ?_)
          intro v' w3 hown' hgrow _
          have hR2 := RowI.snoc hown'
          have hb2 := HW.out.grow Hb.out hs (by repeat (first | exact Below.refl _ _ | apply Below.drew | apply below_drewN | (refine Below.alloc ?_ (by first | omega | (simp <;> omega)) _))) hgrow
          rw [← HE.out] at hR2
          clear hown' hgrow hix
          go_wp2_with fail
          go_roundw
          case rel => exact ⟨k + 1, by omega, by go_num, hR2, hb2⟩
          case measure => simp [intOf]; omega
        · simp only [hu] at hix
          have HE := Lib.hid (show useTo (useF L) (k + 1) = useTo (useF L) k by simp [useTo, hu])
          clear hR hb hu
          go_wp2_with fail
          go_roundw
          case rel => exact ⟨k + 1, by omega, by go_num, by rw [HE.out]; exact HW.out, Hb.out⟩
          case measure => simp [intOf]; omega
      · have hkl : k = 60 := by omega
        subst hkl
        go_wp2_with fail
        go_ret
        exact ⟨_, rfl, hR.own (by omega), hb⟩
end Go.Proofs.Ytlidplmpglpkgaa
namespace Go.Proofs.Ytlidplmpglpkgaa
open Go.RowKit
/-- how many of the used gates below k are of a kind -/
def cst (L : List Gt) (U : Nat → Bool) (kd : Int) : Nat → Int
  | 0 => 0
  | k + 1 => cst L U kd k + if U k && (gAt L k).k == kd then 1 else 0
theorem cst_bd (L : List Gt) (U : Nat → Bool) (kd : Int) : ∀ k : Nat, 0 ≤ cst L U kd k ∧ cst L U kd k ≤ k
  | 0 => by simp [cst]
  | k + 1 => by
    have := cst_bd L U kd k
    unfold cst
    split <;> omega
def csum (L : List Gt) (kd : Int) (l : List Int) : Int := l.foldl (fun s j => s + if (gAt L j.toNat).k == kd then 1 else 0) 0
theorem csum_snoc (L : List Gt) (kd : Int) (l : List Int) (x : Int) : csum L kd (l ++ [x]) = csum L kd l + if (gAt L x.toNat).k == kd then 1 else 0 := by simp [csum]
theorem csum_use (L : List Gt) (U : Nat → Bool) (kd : Int) : ∀ k : Nat, csum L kd (useTo U k) = cst L U kd k
  | 0 => rfl
  | k + 1 => by
    unfold useTo cst
    cases hu : U k
    · simp [csum_use L U kd k]
    · rw [if_pos rfl, csum_snoc, csum_use L U kd k]
      simp
theorem csum_bd (L : List Gt) (kd : Int) (l : List Int) : ∀ t : Nat, 0 ≤ csum L kd (l.take t) ∧ csum L kd (l.take t) ≤ t
  | 0 => by simp [csum]
  | t + 1 => by
    have ih := csum_bd L kd l t
    by_cases h : t < l.length
    · rw [List.take_succ_eq_append_getElem h, csum_snoc]
      split <;> omega
    · rw [List.take_of_length_le (by omega)]
      rw [List.take_of_length_le (by omega)] at ih
      omega
/-- only gates of the circuit are used -/
theorem useM_lt {p : Int} {L : List Gt} (hv : circB p L = true) : ∀ (m j : Nat), useM L m j = true → j < L.length
  | 0, j, h => by simp [useM] at h; omega
  | m + 1, j, h => by
    obtain ⟨_, hl1, _, hall⟩ := circB_iff.1 hv
    have ih := useM_lt hv m
    unfold useM useStep at h
    split at h
    · rename_i hc
      simp only [Bool.and_eq_true] at hc
      have hil : L.length - 1 - m < L.length := by omega
      have hg := gOK_cases (hall _ hil)
      have hj := hc.2
      simp only [joinsB, Bool.or_eq_true, beq_iff_eq] at hj
      simp only [Bool.or_eq_true, beq_iff_eq] at h
      rcases h with (h | h) | h
      · exact ih j h
      · omega
      · omega
    · exact ih j h
theorem useF_out {p : Int} {L : List Gt} (hv : circB p L = true) {j : Nat} (h : L.length ≤ j) : useF L j = false := by
  cases hu : useF L j
  · rfl
  · have := useM_lt hv _ j hu; omega
theorem cst_all {p : Int} {L : List Gt} (hv : circB p L = true) (kd : Int) : ∀ d : Nat, cst L (useF L) kd (L.length + d) = cst L (useF L) kd L.length
  | 0 => rfl
  | d + 1 => by
    rw [← Nat.add_assoc, cst, useF_out hv (by omega), cst_all hv kd d]
    simp
theorem useTo_mem (U : Nat → Bool) : ∀ (k : Nat) (x : Int), x ∈ useTo U k → ∃ j : Nat, x = j ∧ U j = true
  | 0, x, h => by simp [useTo] at h
  | k + 1, x, h => by
    unfold useTo at h
    split at h
    · rename_i hu
      rcases List.mem_append.1 h with h | h
      · exact useTo_mem U k x h
      · simp at h; exact ⟨k, h, hu⟩
    · exact useTo_mem U k x h
/-- what CostOf returns -/
def costV (p : Int) (L : List Gt) (kd : Int) : Int := if circB p L then cst L (useF L) kd L.length else -1
theorem arrB_cells {w : World} {g : Nat} {U0 : Nat → Bool} (h : ArrB w g U0) (U : Nat → Bool) : ArrB (w.setCells g 0 (useC U)) g U := by
  have hT : w.there g 0 (useC U).length := by rw [useC_len]; exact h.there
  refine ⟨by
    have := (below_setCells (B := 0) g (useC U) 0 w ⟨rfl, rfl, rfl, Nat.le_refl _, fun _ hk => by omega⟩ (Nat.zero_le _)).size
    exact Nat.lt_of_lt_of_le h.1 this, fun j hj => ⟨?_, ?_⟩⟩
  · have := World.rangeAt_setCells_same w g 0 (useC U) hT j _ (useC_at U j hj)
    rw [Nat.zero_add] at this; exact this
  · rw [World.frozen?_setCells]; exact (h.2 j hj).2
end Go.Proofs.Ytlidplmpglpkgaa
namespace Go.Proofs.Ytlidplmpglpkgaa
open Go.RowKit
theorem useM_one {p : Int} {L : List Gt} (hv : circB p L = true) {m j : Nat} (hm : m < L.length) (hj : L.length - 1 - m ≤ j) : useM L (m + 1) j = useM L m j := by
  obtain ⟨_, _, _, hall⟩ := circB_iff.1 hv
  have hg := gOK_cases (hall (L.length - 1 - m) (by omega))
  show useStep L (useM L m) (L.length - 1 - m) j = _
  unfold useStep
  split
  · rename_i hc
    simp only [Bool.and_eq_true, joinsB, Bool.or_eq_true, beq_iff_eq] at hc
    have e1 : ((j : Int) == (gAt L (L.length - 1 - m)).a) = false := by simp; omega
    have e2 : ((j : Int) == (gAt L (L.length - 1 - m)).b) = false := by simp; omega
    simp [e1, e2]
  · rfl
theorem useM_to {p : Int} {L : List Gt} (hv : circB p L = true) {m j : Nat} (hj : L.length - 1 - m ≤ j) : ∀ d : Nat, m + d ≤ L.length → useM L (m + d) j = useM L m j
  | 0, _ => rfl
  | d + 1, h => by
    rw [← Nat.add_assoc, useM_one hv (by omega) (by omega)]
    exact useM_to hv hj d (by omega)
theorem useM_mono {L : List Gt} {m j : Nat} (h : useM L m j = true) : ∀ d : Nat, useM L (m + d) j = true
  | 0 => h
  | d + 1 => by
    have ih := useM_mono h d
    show useStep L (useM L (m + d)) (L.length - 1 - (m + d)) j = true
    unfold useStep
    split
    · simp [ih]
    · exact ih
/-- the parts of a used gate are used -/
theorem use_closed {p : Int} {L : List Gt} (hv : circB p L = true) {j : Nat} (hj : j < L.length) (hu : useF L j = true) (hg : joinsB (gAt L j) = true) :
    useF L (gAt L j).a.toNat = true ∧ useF L (gAt L j).b.toNat = true := by
  obtain ⟨_, _, _, hall⟩ := circB_iff.1 hv
  have hc := gOK_cases (hall j hj)
  have hk : (gAt L j).k = 2 ∨ (gAt L j).k = 3 := by simpa [joinsB] using hg
  have e : L.length - 1 - (L.length - 1 - j) = j := by omega
  have h0 : useM L (L.length - 1 - j) j = true := by
    rw [← useM_to hv (m := L.length - 1 - j) (by omega) (j + 1) (by omega)]
    rw [show L.length - 1 - j + (j + 1) = L.length by omega]
    exact hu
  have hs : useM L (L.length - 1 - j + 1) = fun i => (useM L (L.length - 1 - j) i || (i : Int) == (gAt L j).a) || (i : Int) == (gAt L j).b := by
    show useStep L (useM L (L.length - 1 - j)) (L.length - 1 - (L.length - 1 - j)) = _
    rw [e]
    unfold useStep
    rw [h0, hg]
    rfl
  have ha : useM L (L.length - 1 - j + 1) (gAt L j).a.toNat = true := by
    rw [hs]
    have : (((gAt L j).a.toNat : Nat) : Int) = (gAt L j).a := by omega
    simp [this]
  have hb : useM L (L.length - 1 - j + 1) (gAt L j).b.toNat = true := by
    rw [hs]
    have : (((gAt L j).b.toNat : Nat) : Int) = (gAt L j).b := by omega
    simp [this]
  have e2 : L.length - 1 - j + 1 + j = L.length := by omega
  have h1 := useM_mono ha j
  have h2 := useM_mono hb j
  rw [e2] at h1 h2
  exact ⟨h1, h2⟩
theorem useF_last {p : Int} {L : List Gt} (hv : circB p L = true) : useF L (L.length - 1) = true := by
  obtain ⟨_, h1, _, _⟩ := circB_iff.1 hv
  have h0 : useM L 0 (L.length - 1) = true := by simp [useM]; omega
  have := useM_mono h0 L.length
  rwa [Nat.zero_add] at this
def depAt (L : List Gt) (j : Nat) : Int := (depL L (j + 1)).getD j 0
def degAt (L : List Gt) (j : Nat) : Int := (degL L (j + 1)).getD j 0
theorem depL_st (L : List Gt) (j : Nat) : ∀ k, j < k → (depL L k).getD j 0 = depAt L j
  | 0, h => by omega
  | k + 1, h => by
    by_cases e : j = k
    · rw [e]; rfl
    · rw [depL, getD_snoc, if_neg (by rw [depL_len]; omega)]
      exact depL_st L j k (by omega)
theorem degL_st (L : List Gt) (j : Nat) : ∀ k, j < k → (degL L k).getD j 0 = degAt L j
  | 0, h => by omega
  | k + 1, h => by
    by_cases e : j = k
    · rw [e]; rfl
    · rw [degL, getD_snoc, if_neg (by rw [degL_len]; omega)]
      exact degL_st L j k (by omega)
theorem depAt_eq (L : List Gt) (j : Nat) : depAt L j = if joinsB (gAt L j) then 1 + max ((depL L j).getD (gAt L j).a.toNat 0) ((depL L j).getD (gAt L j).b.toNat 0) else 0 := by
  unfold depAt
  rw [depL, getD_snoc, if_pos (by rw [depL_len])]
theorem degAt_eq (L : List Gt) (j : Nat) : degAt L j = let x := gAt L j
      if x.k == 0 then 1 else if x.k == 2 then max ((degL L j).getD x.a.toNat 0) ((degL L j).getD x.b.toNat 0)
      else if x.k == 3 then min ((degL L j).getD x.a.toNat 0 + (degL L j).getD x.b.toNat 0) 1000 else 0 := by
  unfold degAt
  rw [degL, getD_snoc, if_pos (by rw [degL_len])]
theorem cst_mono (L : List Gt) (U : Nat → Bool) (kd : Int) : ∀ {i k : Nat}, i ≤ k → cst L U kd i ≤ cst L U kd k := by
  intro i k h
  induction k with
  | zero => rw [show i = 0 by omega]; exact Int.le_refl _
  | succ k ih =>
    by_cases e : i = k + 1
    · rw [e]; exact Int.le_refl _
    · have := ih (by omega)
      have h2 : cst L U kd k ≤ cst L U kd (k + 1) := by
        rw [cst]; split <;> omega
      omega
theorem cst_hit {L : List Gt} {U : Nat → Bool} {kd : Int} {j : Nat} (hu : U j = true) (hk : (gAt L j).k = kd) : cst L U kd (j + 1) = cst L U kd j + 1 := by
  rw [cst]; simp [hu, hk]
theorem depAt_cst {p : Int} {L : List Gt} (hv : circB p L = true) : ∀ j : Nat, j < L.length → useF L j = true → depAt L j ≤ cst L (useF L) 2 (j + 1) + cst L (useF L) 3 (j + 1) := by
  intro j
  induction j using Nat.strongRecOn with
  | _ j ih =>
    intro hj hu
    obtain ⟨_, _, _, hall⟩ := circB_iff.1 hv
    have hc := gOK_cases (hall j hj)
    have c2 := cst_bd L (useF L) 2 (j + 1)
    have c3 := cst_bd L (useF L) 3 (j + 1)
    rw [depAt_eq]
    cases hg : joinsB (gAt L j)
    · simp; omega
    · have hk : (gAt L j).k = 2 ∨ (gAt L j).k = 3 := by simpa [joinsB] using hg
      obtain ⟨ua, ub⟩ := use_closed hv hj hu hg
      have la : (gAt L j).a.toNat < j := by omega
      have lb : (gAt L j).b.toNat < j := by omega
      rw [if_pos rfl, depL_st L _ j la, depL_st L _ j lb]
      have ia := ih _ la (by omega) ua
      have ib := ih _ lb (by omega) ub
      have ma2 := cst_mono L (useF L) 2 (i := (gAt L j).a.toNat + 1) (k := j) (by omega)
      have ma3 := cst_mono L (useF L) 3 (i := (gAt L j).a.toNat + 1) (k := j) (by omega)
      have mb2 := cst_mono L (useF L) 2 (i := (gAt L j).b.toNat + 1) (k := j) (by omega)
      have mb3 := cst_mono L (useF L) 3 (i := (gAt L j).b.toNat + 1) (k := j) (by omega)
      have h2 := cst_mono L (useF L) 2 (i := j) (k := j + 1) (by omega)
      have h3 := cst_mono L (useF L) 3 (i := j) (k := j + 1) (by omega)
      have hs : cst L (useF L) 2 j + cst L (useF L) 3 j + 1 ≤ cst L (useF L) 2 (j + 1) + cst L (useF L) 3 (j + 1) := by
        rcases hk with hk | hk
        · have := cst_hit (U := useF L) hu hk; omega
        · have := cst_hit (U := useF L) hu hk; omega
      omega
theorem degAt_cst {p : Int} {L : List Gt} (hv : circB p L = true) : ∀ j : Nat, j < L.length → useF L j = true → degAt L j ≤ 2 ^ (cst L (useF L) 3 (j + 1)).toNat := by
  intro j
  induction j using Nat.strongRecOn with
  | _ j ih =>
    intro hj hu
    obtain ⟨_, _, _, hall⟩ := circB_iff.1 hv
    have hc := gOK_cases (hall j hj)
    have hp : ∀ n : Nat, (1 : Int) ≤ 2 ^ n := fun n => by
      have : (0 : Int) < 2 ^ n := Int.pow_pos (by omega)
      omega
    have hmono : ∀ {a b : Nat}, a ≤ b → (2 : Int) ^ a ≤ 2 ^ b := fun h => by
      have := Nat.pow_le_pow_right (n := 2) (by omega) h
      exact_mod_cast this
    rw [degAt_eq]
    simp only []
    rcases hc with ⟨hk, _⟩ | ⟨hk, _⟩ | ⟨hk, a0, a1, b0, b1⟩
    · rw [if_pos (by simp [hk])]; exact hp _
    · rw [if_neg (by simp [hk]), if_neg (by simp [hk]), if_neg (by simp [hk])]
      have := hp (cst L (useF L) 3 (j + 1)).toNat
      omega
    · have hg : joinsB (gAt L j) = true := by simpa [joinsB] using hk
      obtain ⟨ua, ub⟩ := use_closed hv hj hu hg
      have la : (gAt L j).a.toNat < j := by omega
      have lb : (gAt L j).b.toNat < j := by omega
      rw [degL_st L _ j la, degL_st L _ j lb]
      have ia := ih _ la (by omega) ua
      have ib := ih _ lb (by omega) ub
      have ca := cst_bd L (useF L) 3 ((gAt L j).a.toNat + 1)
      have cb := cst_bd L (useF L) 3 ((gAt L j).b.toNat + 1)
      have cj := cst_bd L (useF L) 3 j
      have ma := cst_mono L (useF L) 3 (i := (gAt L j).a.toNat + 1) (k := j) (by omega)
      have mb := cst_mono L (useF L) 3 (i := (gAt L j).b.toNat + 1) (k := j) (by omega)
      have pa := hmono (a := (cst L (useF L) 3 ((gAt L j).a.toNat + 1)).toNat) (b := (cst L (useF L) 3 j).toNat) (by omega)
      have pb := hmono (a := (cst L (useF L) 3 ((gAt L j).b.toNat + 1)).toNat) (b := (cst L (useF L) 3 j).toNat) (by omega)
      rcases hk with hk | hk
      · rw [if_neg (by simp [hk]), if_pos (by simp [hk])]
        have h3 := cst_mono L (useF L) 3 (i := j) (k := j + 1) (by omega)
        have pj := hmono (a := (cst L (useF L) 3 j).toNat) (b := (cst L (useF L) 3 (j + 1)).toNat) (by omega)
        omega
      · rw [if_neg (by simp [hk]), if_neg (by simp [hk]), if_pos (by simp [hk])]
        have := cst_hit (U := useF L) hu hk
        rw [this, show (cst L (useF L) 3 j + 1).toNat = (cst L (useF L) 3 j).toNat + 1 by omega, Int.pow_succ]
        omega
/-- where the last gate joins nothing, no other one is used -/
theorem use_alone {L : List Gt} (hl : 1 ≤ L.length) (h : joinsB (gAt L (L.length - 1)) = false) : ∀ m j : Nat, useM L m j = (j + 1 == L.length)
  | 0, j => rfl
  | m + 1, j => by
    show useStep L (useM L m) (L.length - 1 - m) j = _
    unfold useStep
    split
    · rename_i hc
      rw [Bool.and_eq_true, use_alone hl h m] at hc
      have e : L.length - 1 - m = L.length - 1 := by have := hc.1; simp at this; omega
      rw [e, h] at hc
      simp at hc
    · exact use_alone hl h m j
theorem cst_alone {L : List Gt} (hl : 1 ≤ L.length) (h : joinsB (gAt L (L.length - 1)) = false) (kd : Int) (hk : kd = 2 ∨ kd = 3) : ∀ k : Nat, cst L (useF L) kd k = 0
  | 0 => rfl
  | k + 1 => by
    rw [cst, cst_alone hl h kd hk k]
    have hu : useF L k = (k + 1 == L.length) := use_alone hl h _ k
    by_cases e : k + 1 = L.length
    · have e' : k = L.length - 1 := by omega
      have hj : ¬ ((gAt L k).k = kd) := by
        rw [e']
        intro hk'
        rw [Bool.eq_false_iff] at h
        apply h
        simp only [joinsB, Bool.or_eq_true, beq_iff_eq]
        omega
      simp [hj]
    · have : useF L k = false := by rw [hu]; simpa using e
      simp [this]
/-- what the law says of a circuit -/
theorem dep_law {p : Int} {L : List Gt} (hv : circB p L = true) :
    0 ≤ depV p L ∧ depV p L ≤ costV p L 2 + costV p L 3 ∧ (depV p L = 0 ↔ costV p L 2 + costV p L 3 = 0) ∧ fdgV p L ≤ 2 ^ (costV p L 3).toNat ∧ fdgV p L ≤ 1000 ∧ 0 ≤ fdgV p L ∧ 0 ≤ costV p L 2 ∧ 0 ≤ costV p L 3 := by
  obtain ⟨_, hl1, _, hall⟩ := circB_iff.1 hv
  have e1 : depV p L = depAt L (L.length - 1) := by unfold depV; rw [if_pos hv]; exact depL_st L _ _ (by omega)
  have e2 : fdgV p L = degAt L (L.length - 1) := by unfold fdgV; rw [if_pos hv]; exact degL_st L _ _ (by omega)
  have e3 : costV p L 2 = cst L (useF L) 2 L.length := by simp [costV, hv]
  have e4 : costV p L 3 = cst L (useF L) 3 L.length := by simp [costV, hv]
  have b1 : 0 ≤ depV p L := by unfold depV; rw [if_pos hv]; exact (depL_bd L _ _).1
  have b2 : 0 ≤ fdgV p L ∧ fdgV p L ≤ 1000 := by unfold fdgV; rw [if_pos hv]; exact degL_bd L _ _
  have hn : L.length - 1 + 1 = L.length := by omega
  have d1 := depAt_cst hv (L.length - 1) (by omega) (useF_last hv)
  have d2 := degAt_cst hv (L.length - 1) (by omega) (useF_last hv)
  rw [hn] at d1 d2
  have c2 := cst_bd L (useF L) 2 L.length
  have c3 := cst_bd L (useF L) 3 L.length
  rw [← e1] at d1
  rw [← e2] at d2
  rw [e3, e4]
  refine ⟨b1, d1, ⟨fun h0 => ?_, fun h0 => by omega⟩, d2, b2.2, b2.1, c2.1, c3.1⟩
  have hj : joinsB (gAt L (L.length - 1)) = false := by
    rw [Bool.eq_false_iff]
    intro hj
    rw [e1, depAt_eq, if_pos hj] at h0
    have := (depL_bd L (L.length - 1) (gAt L (L.length - 1)).a.toNat).1
    omega
  rw [cst_alone hl1 hj 2 (.inl rfl), cst_alone hl1 hj 3 (.inr rfl)]
  rfl
end Go.Proofs.Ytlidplmpglpkgaa
namespace Go.Proofs.Ytlidplmpglpkgaa
open Go.RowKit
def ltrS (a : Int) : ByteArray := (⟨#[120, 121, 122]⟩ : ByteArray).extract a.toNat (a.toNat + 1)
def dgtS (a : Int) : ByteArray := (⟨#[48, 49, 50, 51, 52, 53, 54, 55, 56, 57, 65, 66, 67]⟩ : ByteArray).extract a.toNat (a.toNat + 1)
def sgS (k : Int) : ByteArray := if k = 3 then ⟨#[42]⟩ else ⟨#[43]⟩
/-- the formula of a gate, made of those of the gates before -/
def gtS (g : Gt) (D : List ByteArray) : ByteArray :=
  if g.k = 0 then ltrS g.a else if g.k = 1 then dgtS g.a else (sgS g.k ++ D.getD g.a.toNat ⟨#[]⟩) ++ D.getD g.b.toNat ⟨#[]⟩
def txL (L : List Gt) : Nat → List ByteArray
  | 0 => []
  | k + 1 => txL L k ++ [gtS (gAt L k) (txL L k)]
theorem txL_len (L : List Gt) : ∀ k, (txL L k).length = k
  | 0 => rfl
  | k + 1 => by simp [txL, txL_len L k]
theorem getD_snocB (D : List ByteArray) (u : ByteArray) (j : Nat) : (D ++ [u]).getD j ⟨#[]⟩ = if j = D.length then u else D.getD j ⟨#[]⟩ := by
  simp only [List.getD_eq_getElem?_getD]
  by_cases h : j = D.length
  · rw [if_pos h, h]; simp
  · rw [if_neg h]
    by_cases h2 : j < D.length
    · rw [List.getElem?_append_left h2]
    · rw [List.getElem?_eq_none (by simp; omega), List.getElem?_eq_none (by omega)]
/-- the formula of a gate -/
def tx (L : List Gt) (j : Nat) : ByteArray := (txL L (j + 1)).getD j ⟨#[]⟩
theorem txL_st (L : List Gt) (j : Nat) : ∀ k, j < k → (txL L k).getD j ⟨#[]⟩ = tx L j
  | 0, h => by omega
  | k + 1, h => by
    by_cases e : j = k
    · rw [e]; rfl
    · rw [txL, getD_snocB, if_neg (by rw [txL_len]; omega)]
      exact txL_st L j k (by omega)
theorem tx_eq (L : List Gt) (j : Nat) : tx L j = gtS (gAt L j) (txL L j) := by
  unfold tx
  rw [txL, getD_snocB, if_pos (by rw [txL_len])]
def szAt (L : List Gt) (j : Nat) : Int := (sizL L (j + 1)).getD j 0
theorem sizL_st (L : List Gt) (j : Nat) : ∀ k, j < k → (sizL L k).getD j 0 = szAt L j
  | 0, h => by omega
  | k + 1, h => by
    by_cases e : j = k
    · rw [e]; rfl
    · rw [sizL, getD_snoc, if_neg (by rw [sizL_len]; omega)]
      exact sizL_st L j k (by omega)
theorem szAt_eq (L : List Gt) (j : Nat) : szAt L j = if joinsB (gAt L j) = true then min (1 + (sizL L j).getD (gAt L j).a.toNat 0 + (sizL L j).getD (gAt L j).b.toNat 0) 1000 else 1 := by
  unfold szAt
  rw [sizL, getD_snoc, if_pos (by rw [sizL_len])]
theorem ltrS_size {a : Int} (h0 : 0 ≤ a) (h1 : a ≤ 2) : (ltrS a).size = 1 := by
  have : a = 0 ∨ a = 1 ∨ a = 2 := by omega
  rcases this with rfl | rfl | rfl <;> rfl
theorem dgtS_size {a : Int} (h0 : 0 ≤ a) (h1 : a ≤ 12) : (dgtS a).size = 1 := by
  have : a = 0 ∨ a = 1 ∨ a = 2 ∨ a = 3 ∨ a = 4 ∨ a = 5 ∨ a = 6 ∨ a = 7 ∨ a = 8 ∨ a = 9 ∨ a = 10 ∨ a = 11 ∨ a = 12 := by omega
  rcases this with rfl | rfl | rfl | rfl | rfl | rfl | rfl | rfl | rfl | rfl | rfl | rfl | rfl <;> rfl
theorem sgS_size (k : Int) : (sgS k).size = 1 := by unfold sgS; split <;> rfl
/-- a gate that joins two: its formula is longer than theirs -/
theorem tx_join {p : Int} {L : List Gt} (hv : circB p L = true) {j : Nat} (hj : j < L.length) (hg : joinsB (gAt L j) = true) :
    tx L j = (sgS (gAt L j).k ++ tx L (gAt L j).a.toNat) ++ tx L (gAt L j).b.toNat ∧ (gAt L j).a.toNat < j ∧ (gAt L j).b.toNat < j := by
  obtain ⟨_, _, _, hall⟩ := circB_iff.1 hv
  have hc := gOK_cases (hall j hj)
  have hk : (gAt L j).k = 2 ∨ (gAt L j).k = 3 := by simpa [joinsB] using hg
  have ha : (gAt L j).a.toNat < j := by omega
  have hb : (gAt L j).b.toNat < j := by omega
  refine ⟨?_, ha, hb⟩
  rw [tx_eq]
  unfold gtS
  rw [if_neg (by omega), if_neg (by omega), txL_st L _ j ha, txL_st L _ j hb]
theorem tx_leaf {p : Int} {L : List Gt} (hv : circB p L = true) {j : Nat} (hj : j < L.length) (hg : joinsB (gAt L j) = false) :
    ((gAt L j).k = 0 ∧ tx L j = ltrS (gAt L j).a ∧ 0 ≤ (gAt L j).a ∧ (gAt L j).a ≤ 2) ∨ ((gAt L j).k = 1 ∧ tx L j = dgtS (gAt L j).a ∧ 0 ≤ (gAt L j).a ∧ (gAt L j).a ≤ 12) := by
  obtain ⟨hp, _, _, hall⟩ := circB_iff.1 hv
  have hb := isP_bd hp
  have hc := gOK_cases (hall j hj)
  have hk : ¬ ((gAt L j).k = 2 ∨ (gAt L j).k = 3) := by
    intro h
    have : joinsB (gAt L j) = true := by simpa [joinsB] using h
    rw [hg] at this
    cases this
  rw [tx_eq]
  unfold gtS
  rcases hc with ⟨h0, h1, h2, _⟩ | ⟨h0, h1, h2, _⟩ | ⟨h0, _⟩
  · exact .inl ⟨h0, by rw [if_pos h0], h1, h2⟩
  · exact .inr ⟨h0, by rw [if_neg (by omega), if_pos h0], h1, by omega⟩
  · exact absurd h0 hk
theorem tx_size {p : Int} {L : List Gt} (hv : circB p L = true) : ∀ j : Nat, j < L.length → szAt L j < 1000 → ((tx L j).size : Int) = szAt L j := by
  intro j
  induction j using Nat.strongRecOn with
  | _ j ih =>
    intro hj hs
    cases hg : joinsB (gAt L j)
    · rw [szAt_eq, hg, if_neg (by decide)]
      rcases tx_leaf hv hj hg with ⟨_, e, h0, h1⟩ | ⟨_, e, h0, h1⟩
      · rw [e, ltrS_size h0 h1]; rfl
      · rw [e, dgtS_size h0 h1]; rfl
    · obtain ⟨e, ha, hb⟩ := tx_join hv hj hg
      rw [szAt_eq, hg, if_pos rfl, sizL_st L _ j ha, sizL_st L _ j hb] at hs ⊢
      have ba := sizL_bd L ((gAt L j).a.toNat + 1) (gAt L j).a.toNat
      have bb := sizL_bd L ((gAt L j).b.toNat + 1) (gAt L j).b.toNat
      have ca : 0 ≤ szAt L (gAt L j).a.toNat := ba.1
      have cb : 0 ≤ szAt L (gAt L j).b.toNat := bb.1
      have ia := ih _ ha (by omega) (by omega)
      have ib := ih _ hb (by omega) (by omega)
      rw [e]
      simp only [ByteArray.size_append, sgS_size]
      omega
/-- what is used is no longer than the whole -/
theorem tx_used {p : Int} {L : List Gt} (hv : circB p L = true) {N : Nat} (hN : (tx L (L.length - 1)).size ≤ N) : ∀ m j : Nat, j < L.length → useM L m j = true → (tx L j).size ≤ N
  | 0, j, hj, h => by
    have : j + 1 = L.length := by simpa [useM] using h
    rwa [show j = L.length - 1 by omega]
  | m + 1, j, hj, h => by
    have hl := (circB_iff.1 hv).2.1
    simp only [useM, useStep] at h
    split at h
    · rename_i hc
      simp only [Bool.and_eq_true] at hc
      have hi : L.length - 1 - m < L.length := by omega
      have hb := tx_used hv hN m _ hi hc.1
      obtain ⟨e, ha, hbb⟩ := tx_join hv hi hc.2
      obtain ⟨_, _, _, hall⟩ := circB_iff.1 hv
      have hcc := gOK_cases (hall _ hi)
      have hk : (gAt L (L.length - 1 - m)).k = 2 ∨ (gAt L (L.length - 1 - m)).k = 3 := by simpa [joinsB] using hc.2
      rw [e] at hb
      simp only [ByteArray.size_append] at hb
      simp only [Bool.or_eq_true, beq_iff_eq] at h
      rcases h with (h | h) | h
      · exact tx_used hv hN m j hj h
      · rw [show j = (gAt L (L.length - 1 - m)).a.toNat by omega]; omega
      · rw [show j = (gAt L (L.length - 1 - m)).b.toNat by omega]; omega
    · exact tx_used hv hN m j hj h
theorem sp_step {U : Nat → Bool} {k : Nat} (h : U k = true) : useTo U (k + 1) = useTo U k ++ [(k : Int)] := by simp [useTo, h]
theorem sp_skip {U : Nat → Bool} {k : Nat} (h : U k = false) : useTo U (k + 1) = useTo U k := by simp [useTo, h]
theorem sp_pos (U : Nat → Bool) : ∀ n t : Nat, t < (useTo U n).length → ∃ j : Nat, j < n ∧ U j = true ∧ (useTo U n).getD t 0 = (j : Int) ∧ useTo U j = (useTo U n).take t
  | 0, t, h => by simp [useTo] at h
  | n + 1, t, h => by
    cases hu : U n
    · rw [sp_skip hu] at h ⊢
      obtain ⟨j, h1, h2⟩ := sp_pos U n t h
      exact ⟨j, by omega, h2⟩
    · rw [sp_step hu] at h ⊢
      by_cases e : t = (useTo U n).length
      · subst e
        exact ⟨n, by omega, hu, by simp [List.getD_eq_getElem?_getD], by simp⟩
      · have ht : t < (useTo U n).length := by simp at h; omega
        obtain ⟨j, h1, h2, h3, h4⟩ := sp_pos U n t ht
        refine ⟨j, by omega, h2, ?_, ?_⟩
        · rw [← h3, List.getD_eq_getElem?_getD, List.getD_eq_getElem?_getD, List.getElem?_append_left ht]
        · rw [h4, List.take_append_of_le_length (by omega)]
theorem sp_mem {U : Nat → Bool} : ∀ {n j : Nat}, j < n → U j = true → (j : Int) ∈ useTo U n
  | 0, j, h, _ => by omega
  | n + 1, j, h, hu => by
    unfold useTo
    by_cases e : j = n
    · subst e
      rw [if_pos hu]
      simp
    · have := sp_mem (n := n) (by omega) hu
      split
      · exact List.mem_append_left _ this
      · exact this
theorem sp_inj {U : Nat → Bool} : ∀ {n : Nat} {x : Int}, x ∈ useTo U n → ∃ j : Nat, x = j ∧ j < n ∧ U j = true
  | 0, x, h => by simp [useTo] at h
  | n + 1, x, h => by
    unfold useTo at h
    split at h
    · rename_i hu
      rcases List.mem_append.1 h with h | h
      · obtain ⟨j, e, h1, h2⟩ := sp_inj h
        exact ⟨j, e, by omega, h2⟩
      · exact ⟨n, by simpa using h, by omega, hu⟩
    · obtain ⟨j, e, h1, h2⟩ := sp_inj h
      exact ⟨j, e, by omega, h2⟩
end Go.Proofs.Ytlidplmpglpkgaa
namespace Go.Proofs.Ytlidplmpglpkgaa
open Go.RowKit
theorem take_snocZ {l : List Int} {k : Nat} (h : k < l.length) : l.take (k + 1) = l.take k ++ [l.getD k 0] := by
  rw [List.take_succ_eq_append_getElem h]
  simp [List.getD_eq_getElem?_getD, h]
theorem getD_mem {l : List Int} {k : Nat} (h : k < l.length) : l.getD k 0 ∈ l := by
  rw [List.getD_eq_getElem?_getD, List.getElem?_eq_getElem h]
  exact List.getElem_mem h
end Go.Proofs.Ytlidplmpglpkgaa
