/-
  The program's 'used': a range over slices.Backward. Conditions: what the slice holds is known.
-/
import Derived.Test.YtfpjflghgmcgbaaBd4
import Derived.Test.YtfpjflghgmcgbaaBa2
import Derived.RangeFuncNested
import Derived.RangeFuncBound
import Derived.RangeFuncCalls
import Derived.RangeFuncLeaves
import Derived.Shelf.Abstract
import Derived.Shelf.RegionOpen
import Derived.OwnWalkIn
import Derived.TacticsInMore
import Derived.LoopNIn
import Derived.LoopIn
import Derived.Deep.Upon
namespace Go.Proofs.Ytfpjflghgmcgbaa
open Go.RowKit Go.Shelf
attribute [local go_sem] Oper.semAt_some
/-- all blocks below n₀ but one lie as they lay -/
structure KpX (n₀ UB : Nat) (w w' : World) : Prop where
  size : w.heap.size ≤ w'.heap.size
  block : ∀ k, k < n₀ → k ≠ UB → w'.heap[k]? = w.heap[k]?
theorem KpX.refl (n₀ UB : Nat) (w : World) : KpX n₀ UB w w := ⟨Nat.le_refl _, fun _ _ _ => rfl⟩
theorem KpX.trans {n₀ UB : Nat} {a b c : World} (h : KpX n₀ UB a b) (k : KpX n₀ UB b c) : KpX n₀ UB a c := ⟨Nat.le_trans h.size k.size, fun i h1 h2 => (k.block i h1 h2).trans (h.block i h1 h2)⟩
theorem KpX.cell {n₀ UB : Nat} {w w' : World} (h : KpX n₀ UB w w') {p : Addr} (h1 : p.block < n₀) (h2 : p.block ≠ UB) : w'.cell? p = w.cell? p := cell_of_heap (h.block _ h1 h2)
theorem KpX.of_below {n₀ UB : Nat} {w w' : World} (h : Below n₀ w w') : KpX n₀ UB w w' := ⟨h.size, fun k hk _ => h.block k hk⟩
/-- the gates' numbers from the last one down, m of them -/
def bkTo (n : Nat) : (m : Nat) → m ≤ n → List (Fin n)
  | 0, _ => []
  | m + 1, h => bkTo n m (by omega) ++ [⟨n - 1 - m, by omega⟩]
theorem bkTo_len (n : Nat) : ∀ (m : Nat) (h : m ≤ n), (bkTo n m h).length = m
  | 0, _ => rfl
  | m + 1, h => by simp [bkTo, bkTo_len n m]
def encG (L : List Gt) (x : Fin L.length) : Array Value := #[.int .i64 ((x.1 : Nat) : Int), .agg #[.int .i64 (gAt L x.1).k, .int .i64 (gAt L x.1).a, .int .i64 (gAt L x.1).b]]
set_option maxRecDepth 100000 in
set_option maxHeartbeats 4000000 in
theorem back_in (F : Fence) (n : Nat) (hF : F.fn 135) (hro : F.round = none) (hn : 1 ≤ n) (l Bs n₀ UB g off cap : Nat) (L : List Gt) (hL : L.length ≤ 60) (hg : g < n₀) (hgU : g ≠ UB) (hB : Bs < n₀) (hBU : Bs ≠ UB)
    (J Jx : List (Fin L.length) → World → Prop)
    (hY : ∀ pre x W, J pre W → pre.length < L.length → YieldAt F (n - 1) Try.prog l (encG L x) W fun e W' =>
      (e = .returned (.bool true) ∧ J (pre ++ [x]) W' ∧ KpX n₀ UB W W') ∨ (e = .returned (.bool false) ∧ Jx (pre ++ [x]) W'))
    (W : World) (hBs : W.cell? ⟨Bs, 0, none⟩ = some (.slice (some ⟨g, off, none⟩) L.length cap)) (hc : ∀ j : Nat, j < L.length → GAt W g (off + j * 3) (L.getD j default)) (h0 : J [] W) :
    CallsIn F n Try.prog 135 #[.func (.yield l) #[] #[], .pointer (some ⟨Bs, 0, none⟩)] W fun e W' => (∃ v, e = .returned v) ∧
      ((∃ ys, ys = bkTo L.length L.length (Nat.le_refl _) ∧ J ys W') ∨ (∃ pre, (∃ k, ∃ h : k ≤ L.length, pre = bkTo L.length k h) ∧ Jx pre W')) := by
  have HC := Lib.hid hc
  clear hc
  refine callsIn_of_wp Try.func135 rfl hF ?_ hro
  simp only [Try.ntmps135, List.size_toArray, List.length_cons, List.length_nil, Nat.reduceAdd, Nat.reduceSub, Array.replicate_succ, Array.replicate_zero, List.push_toArray, List.append_toArray, List.nil_append, List.cons_append]
  gi_wp2
  gi_loopw [3] (fun i wr => ∃ m : Nat, ∃ h : m ≤ L.length, i = .int .i64 ((L.length : Int) - 1 - m) ∧ J (bkTo L.length m h) wr ∧ KpX n₀ UB W wr) (fun i _ => (intOf i + 1).toNat)
  case atStart => exact ⟨0, Nat.zero_le _, by simp, h0, KpX.refl _ _ _⟩
  case round =>
    obtain ⟨m, hm, rfl, hJ, hK⟩ := hrel
    by_cases hlt : m < L.length
    · obtain ⟨i, hi⟩ : ∃ i : Nat, L.length - 1 - m = i := ⟨_, rfl⟩
      have hij : (L.length : Int) - 1 - m = (i : Int) := by omega
      rw [hij]
      have hil : i < L.length := by omega
      have hilp : (i : Int) < (L.length : Int) := by omega
      have hi0 : (0 : Int) ≤ (i : Int) := by omega
      have hwi : IntKind.i64.wrap ((i : Int) - 1) = (i : Int) - 1 := IntWalk.i64_in _ (by omega)
      have HNX := Lib.hid (show (i : Int) - 1 = (L.length : Int) - 1 - ((m + 1 : Nat) : Int) by omega)
      have cB := (hK.cell (p := ⟨Bs, 0, none⟩) hB hBU).trans hBs
      obtain ⟨a0, a1, a2⟩ := HC.out i hil
      have b0 := (hK.cell (p := ⟨g, off + i * 3, none⟩) hg hgU).trans a0
      have b1 := (hK.cell (p := ⟨g, off + i * 3 + 1, none⟩) hg hgU).trans a1
      have b2 := (hK.cell (p := ⟨g, off + i * 3 + 2, none⟩) hg hgU).trans a2
      obtain ⟨fn, tmps, assign, body, hy, hR⟩ := hY _ ⟨i, hil⟩ wr hJ (by rw [bkTo_len]; exact hlt)
      obtain ⟨x, hx⟩ : ∃ x, x = gAt L i := ⟨_, rfl⟩
      simp only [encG, ← hx] at hy
      have hx2 : L.getD i default = x := hx.symm
      rw [hx2] at b0 b1 b2
      have HE := Lib.hid (show bkTo L.length (m + 1) hlt = bkTo L.length m hm ++ [⟨i, hil⟩] by simp only [bkTo, hi])
      clear hx hx2 a0 a1 a2 hi hij
      gi_wp2
      refine hR.mono ?_
      rintro e W3 (⟨rfl, hJ3, hk3⟩ | ⟨rfl, hJx3⟩)
      · have hKK := hK.trans hk3
        rw [← HE.out] at hJ3
        clear hR hy b0 b1 b2 cB
        gi_wp2
        go_roundw
        case rel => exact ⟨m + 1, hlt, by rw [HNX.out], hJ3, hKK⟩
        case measure => simp [intOf] <;> omega
      · gi_wp2
        refine bodyPost_ret (results_none rfl _ _ _) rfl ?_
        exact ⟨⟨_, rfl⟩, .inr ⟨_, ⟨m + 1, hlt, HE.out.symm⟩, hJx3⟩⟩
    · have hml : m = L.length := by omega
      subst hml
      have hij : (L.length : Int) - 1 - (L.length : Int) = -1 := by omega
      rw [hij]
      gi_wp2
      go_end0
      exact ⟨⟨_, rfl⟩, .inl ⟨_, rfl, hJ⟩⟩
set_option maxHeartbeats 1000000 in
theorem back_val (F : Fence) (n : Nat) (hF : F.fn 104) (hro : F.round = none) (a : Option Addr) (len cap : Nat) (w : World) :
    CallsIn F n Try.prog 104 #[.slice a len cap] w fun e w' => e = .returned (.func (.func 135) #[] #[.pointer (some ⟨w.heap.size, 0, none⟩)]) ∧ w' = w.alloc (.cells #[.slice a len cap] 24) := by
  refine callsIn_of_wp Try.func104 rfl hF ?_ hro
  simp only [Try.ntmps104, List.size_toArray, List.length_cons, List.length_nil, Nat.reduceAdd, Nat.reduceSub, Array.replicate_succ, Array.replicate_zero, List.push_toArray, List.append_toArray, List.nil_append, List.cons_append]
  gi_wp2
  go_ret
  exact ⟨rfl, rfl⟩
theorem back_stops (F : Fence) (n : Nat) (hF : F.fn 135) (hro : F.round = none) (hn : 1 ≤ n) (Bs n₀ UB g off cap : Nat) (L : List Gt) (hL : L.length ≤ 60) (w : World) (hg : g < n₀) (hgU : g ≠ UB) (hB : Bs < n₀) (hBU : Bs ≠ UB) (hn0 : n₀ ≤ w.heap.size)
    (hBs : w.cell? ⟨Bs, 0, none⟩ = some (.slice (some ⟨g, off, none⟩) L.length cap)) (hc : ∀ j : Nat, j < L.length → GAt w g (off + j * 3) (L.getD j default)) :
    SeqStopsK F n Try.prog 135 #[.pointer (some ⟨Bs, 0, none⟩)] (encG L) (KpX n₀ UB) (fun ys => ys = bkTo L.length L.length (Nat.le_refl _)) (fun pre => ∃ k, ∃ h : k ≤ L.length, pre = bkTo L.length k h) L.length w := fun l J Jx W hW _ _ hY h0 =>
  back_in F n hF hro hn l Bs n₀ UB g off cap L hL hg hgU hB hBU J Jx hY W ((hW.cell (p := ⟨Bs, 0, none⟩) (by show Bs < _; omega)).trans hBs) (fun j hj => (hc j hj).below hW (by omega)) h0
/-- what the rounds make of the first truth values -/
def useL (L : List Gt) (pre : List (Fin L.length)) : Nat → Bool := pre.foldl (fun U x => useStep L U x.1) (useM L 0)
theorem useL_snoc (L : List Gt) (pre : List (Fin L.length)) (x : Fin L.length) : useL L (pre ++ [x]) = useStep L (useL L pre) x.1 := by simp [useL]
theorem useL_bk (L : List Gt) : ∀ (m : Nat) (h : m ≤ L.length), useL L (bkTo L.length m h) = useM L m
  | 0, _ => rfl
  | m + 1, h => by rw [bkTo, useL_snoc, useL_bk L m]; rfl
theorem arrB_own {β : Type} (g : Nat) (f : β → Nat → Bool) : Own (fun s W => ArrB W g (f s)) := fun _ _ _ _ hs hg hr =>
  ⟨Nat.lt_of_lt_of_le hs.1 hg.size, fun j hj => ⟨cell_kept (hs.2 j hj).1 hg hr, (frozen_kept (hs.2 j hj).1 hg hr).trans (hs.2 j hj).2⟩⟩
theorem size_own {β : Type} (N : Nat) : Own (fun (_ : β) W => N ≤ W.heap.size) := fun _ _ _ _ hs hg _ => Nat.le_trans hs hg.size
theorem gat_own (g : Nat) (y : Gt) : Own (fun (_ : Unit) W => g < W.heap.size ∧ GAt W g 0 y) := fun _ _ _ _ hs hg hr =>
  ⟨Nat.lt_of_lt_of_le hs.1 hg.size, cell_kept hs.2.1 hg hr, cell_kept hs.2.2.1 hg hr, cell_kept hs.2.2.2 hg hr⟩
theorem keeps_below {w w' : World} (h : Below w.heap.size w w') : KeepsOthers w w' :=
  ⟨h.size, fun k o hk _ => by rw [h.block k (Array.getElem?_eq_some_iff.1 hk).1]; exact hk⟩
theorem KpX.set {n₀ UB : Nat} {a w : World} (h : KpX n₀ UB a w) (o : Nat) (v : Value) : KpX n₀ UB a (w.setCell ⟨UB, o, none⟩ v) :=
  ⟨by simpa using h.size, fun k hk hne => by rw [Below.heap_setCell _ _ _ _ hne]; exact h.block k hk hne⟩
theorem kpX_b {n₀ UB : Nat} {w : World} (hn : n₀ ≤ w.heap.size) (W : World) (l : Nat) (o o' : Obj) (hl : w.heap.size ≤ l) (h : W.heap[l]? = some o) (h1 : o.isCells = false) (h2 : o.isWalk = false) : KpX n₀ UB W (W.putObj l o') :=
  KpX.of_below (belowK_b hn W l o o' hl h h1 h2)
set_option maxRecDepth 100000 in
set_option maxHeartbeats 8000000 in
theorem iUsed_some (p : Int) (L : List Gt) (hv : circB p L = true) (g off cap : Nat) (w : World) (hg : g < w.heap.size)
    (hc : ∀ j : Nat, j < L.length → GAt w g (off + j * 3) (L.getD j default)) :
    Calls Try.prog 91 #[.slice (some ⟨g, off, none⟩) L.length cap] w fun e w' => ∃ V, e = .returned V ∧ UseV V (useF L) ∧ Below w.heap.size w w' := by
  obtain ⟨hp, hl1, hl2, hall⟩ := circB_iff.1 hv
  have HC := Lib.hid hc
  have HA := Lib.hid hall
  clear hc hv hall hp
  obtain ⟨W, hW⟩ : ∃ W, W = (w.alloc (.cells (Array.replicate 60 (.bool false)) 130)).alloc (.cells (Array.replicate 60 (.bool false)) 130) := ⟨_, rfl⟩
  have hs0 : W.heap.size = w.heap.size + 2 := by rw [hW]; simp
  have A0 : ArrB W w.heap.size (fun _ => false) := by rw [hW]; exact (ArrB.new w _).below (Below.alloc (Below.refl _ _) (Nat.le_refl _) _) (by simp)
  have A1 : ArrB W (w.heap.size + 1) (fun _ => false) := by rw [hW]; have := ArrB.new (w.alloc (.cells (Array.replicate 60 (.bool false)) 130)) 130; simpa using this
  have B0 : Below w.heap.size w W := by rw [hW]; exact (by repeat (first | exact Below.refl _ _ | apply Below.drew | apply below_drewN | (refine Below.alloc ?_ (by first | omega | (simp <;> omega)) _)))
  obtain ⟨n, hn⟩ : ∃ n, L.length = n + 1 := ⟨L.length - 1, by omega⟩
  have hn1 : (L.length : Int) - 1 = (n : Int) := by omega
  have hn60 : (n : Int) < 60 := by omega
  have hn0 : (0 : Int) ≤ n := by omega
  obtain ⟨k0, f0⟩ := A1.2 n (by omega)
  have A2 : ArrB (W.setCell ⟨w.heap.size + 1, n, none⟩ (.bool true)) (w.heap.size + 1) (useM L 0) :=
    (A1.set (by omega) true).ext (fun j hj => by simp only [useM]; by_cases e : j = n <;> simp [e, hn] <;> omega)
  have A3 : ArrB (W.setCell ⟨w.heap.size + 1, n, none⟩ (.bool true)) w.heap.size (fun _ => false) := A0.far (by omega) _
  have B2 : Below w.heap.size w (W.setCell ⟨w.heap.size + 1, n, none⟩ (.bool true)) := B0.setCell (by simp) _
  have HN := Lib.hid hn
  have HN1 := Lib.hid hn1
  have HW := Lib.hid hW
  clear hn A0 A1 hW hn1
  refine (callsIn_wide (n := 6)).1 ?_
  refine callsIn_of_wp_marks Try.func91 rfl trivial ?_ rfl
  simp only [Try.ntmps91, List.size_toArray, List.length_cons, List.length_nil, Nat.reduceAdd, Nat.reduceSub, Array.replicate_succ, Array.replicate_zero, List.push_toArray, List.append_toArray, List.nil_append, List.cons_append]
  gi_wp2_with fail
  refine ⟨trivial, ?_⟩
  change CallsIn _ _ _ _ _ ((w.alloc (.cells (Array.replicate 60 (.bool false)) 130)).alloc (.cells (Array.replicate 60 (.bool false)) 130)) _
  rw [← HW.out]
  clear HW
  refine (callsIn_wide.2 (iLast _ L.length _ n (by omega) HN1.out _)).mono ?_
  rintro e w' ⟨rfl, rfl⟩
  gi_wp2_with fail
  refine ⟨trivial, ?_⟩
  refine (back_val Fence.wide _ trivial rfl _ _ _ _).mono ?_
  rintro e w' ⟨rfl, rfl⟩
  gi_wp2_with fail
  obtain ⟨W3, hW3⟩ : ∃ W3, (W.setCell ⟨w.heap.size + 1, n, none⟩ (.bool true)).alloc (.cells #[.slice (some ⟨g, off, none⟩) L.length cap] 24) = W3 := ⟨_, rfl⟩
  have hs3 : W3.heap.size = w.heap.size + 3 := by rw [← hW3]; simp [hs0]
  have b23 : Below (W.setCell ⟨w.heap.size + 1, n, none⟩ (.bool true)).heap.size (W.setCell ⟨w.heap.size + 1, n, none⟩ (.bool true)) W3 := by rw [← hW3]; exact Below.alloc (Below.refl _ _) (Nat.le_refl _) _
  have A4 := A2.below b23 A2.1
  have A5 := A3.below b23 A3.1
  have B3 := B2.trans (b23.mono B2.size)
  have cB : W3.cell? ⟨w.heap.size + 2, 0, none⟩ = some (.slice (some ⟨g, off, none⟩) L.length cap) := by
    rw [← hW3, ← hs0]
    have := World.cell?_alloc_new (W.setCell ⟨w.heap.size + 1, n, none⟩ (.bool true)) #[.slice (some ⟨g, off, none⟩) L.length cap] 24 0
    simpa using this
  have hC3 : ∀ j : Nat, j < L.length → GAt W3 g (off + j * 3) (L.getD j default) := fun j hj => (HC.out j hj).below B3 hg
  rw [hW3]
  clear hW3 b23 A2 A3 B2 B0 k0 f0
  refine wpIn_rangeFunc_ownH rfl (by omega) (gf := 135) (lb := #[.pointer (some ⟨w.heap.size + 2, 0, none⟩)]) rfl trivial (enters_of Try.func135 (by kernel_rfl) rfl)
    (back_stops Fence.wide (6 - 1) trivial rfl (by omega) (w.heap.size + 2) (w.heap.size + 3) (w.heap.size + 1) g off cap L hl2 W3 (by omega) (by omega) (by omega) (by omega) (by omega) cB hC3) (fun h k => KpX.trans h k) (kpX_b (by omega)) (Below.refl _ _) (fun _ => rfl)
    (fun pre Wc => ((ArrB Wc (w.heap.size + 1) (useL L pre) ∧ ArrB Wc w.heap.size (fun _ => false)) ∧ w.heap.size + 3 ≤ Wc.heap.size) ∧ Below w.heap.size w Wc)
    (fun _ _ _ => False)
    (OwnFrom.and (OwnFrom.and (OwnFrom.and (Own.from (arrB_own _ _) _) (Own.from (arrB_own _ _) _)) (Own.from (size_own _) _)) (ownFrom_below (Nat.le_refl _) (by omega)))
    (fun _ _ _ _ _ hs _ _ => hs)
    ⟨⟨⟨A4, A5⟩, by omega⟩, B3⟩
    (fun x a' Wc => ∃ Bx, w.heap.size + 2 < Bx ∧ (Bx < Wc.heap.size ∧ GAt Wc Bx 0 (gAt L x.1)) ∧ a' = { tmps := #[.slice (some ⟨g, off, none⟩) L.length cap, undef, .pointer (some ⟨w.heap.size, 0, none⟩), .pointer (some ⟨w.heap.size + 1, 0, none⟩), .int .i64 ((x.1 : Nat) : Int), .pointer (some ⟨Bx, 0, none⟩), .slice (some ⟨g, off, none⟩) L.length cap, .int .i64 n, .pointer (some ⟨w.heap.size + 1, n, none⟩), .slice (some ⟨g, off, none⟩) L.length cap, .func (.func 135) #[] #[.pointer (some ⟨w.heap.size + 2, 0, none⟩)], .int .i64 ((x.1 : Nat) : Int), .agg #[.int .i64 (gAt L x.1).k, .int .i64 (gAt L x.1).a, .int .i64 (gAt L x.1).b], undef, undef, undef, undef, undef, undef, undef, undef, undef, undef, undef, undef, undef, undef], defers := [] })
    (fun x a' _ X Y row hs hg hr => by obtain ⟨Bx, h1, h2, h3⟩ := hs; exact ⟨Bx, h1, gat_own Bx (gAt L x.1) () X Y row h2 hg (fun r e => (hr r e).2), h3⟩)
    ?assign ?body ?done ?stop
  case assign =>
    rintro l pre x Wc K ⟨⟨⟨hA, hR⟩, hsz⟩, hB⟩ hK
    simp only [encG]
    gi_wp2
    have b1 : Below Wc.heap.size Wc (Wc.alloc (Obj.cells #[.int .i64 (gAt L x.1).k, .int .i64 (gAt L x.1).a, .int .i64 (gAt L x.1).b] 99)) := Below.alloc (Below.refl _ _) (Nat.le_refl _) _
    exact hK _ _ ((KeepsOthers.alloc _ _).from _) (KpX.of_below (b1.mono hsz)) ⟨⟨⟨hA.below b1 hA.1, hR.below b1 hR.1⟩, by simp; omega⟩, hB.trans (b1.mono hB.size)⟩
      ⟨Wc.heap.size, by omega, ⟨by simp, by refine ⟨?_, ?_, ?_⟩ <;> simp [go_sem]⟩, rfl⟩
  case body =>
    rintro l pre x a' Wc hl ⟨r, hr⟩ ⟨⟨⟨hA, hR⟩, hsz⟩, hB⟩ ⟨Bx, hBx, ⟨hBl, hG⟩, rfl⟩ hlt
    obtain ⟨i, hil⟩ := x
    have hil : i < L.length := hil
    have hi60 : (i : Int) < 60 := by omega
    have hi0 : (0 : Int) ≤ i := by omega
    obtain ⟨q0, _⟩ := hA.2 i (by omega)
    have hx0 := HA.out i hil
    obtain ⟨y, hy⟩ : ∃ y, gAt L i = y := ⟨_, rfl⟩
    simp only [hy] at hG ⊢
    rw [hy] at hx0
    have HY := Lib.hid hy
    have HS := Lib.hid (useL_snoc L pre ⟨i, hil⟩)
    clear hy
    obtain ⟨c0, c1, c2⟩ := hG
    rcases Bool.eq_false_or_eq_true (useL L pre i) with hu | hu
    · rw [hu] at q0
      have HU := Lib.hid hu
      clear hu
      gi_wp2_with fail
      refine ⟨trivial, ?_⟩
      cases hj : joinsB y
      · have HJ := Lib.hid hj
        have HE := Lib.hid (show useL L (pre ++ [⟨i, hil⟩]) = useL L pre by rw [HS.out]; simp [useStep, HY.out, hj])
        clear hj
        refine (CallsIn.inRound l (callsIn_wide.2 (iJoins_is false y.k y.a y.b HJ.out _))).mono ?_
        rintro e W5 ⟨rfl, hb5⟩
        have A5' := hA.below hb5 hA.1
        have R5 := hR.below hb5 hR.1
        have hs5 := hb5.size
        clear q0 c0 c1 c2
        gi_wp2
        exact ⟨(keeps_below hb5).from _, KpX.of_below (hb5.mono hsz), ⟨⟨by rw [HE.out]; exact A5', R5⟩, by omega⟩, hB.trans (hb5.mono hB.size)⟩
      · obtain ⟨yk, ya, yb⟩ := y
        have hcs := gOK_cases hx0
        have hyk : yk = 2 ∨ yk = 3 := by simpa [joinsB] using hj
        simp only at hcs
        obtain ⟨ja, rfl⟩ := Int.eq_ofNat_of_zero_le (show 0 ≤ ya by omega)
        obtain ⟨jb, rfl⟩ := Int.eq_ofNat_of_zero_le (show 0 ≤ yb by omega)
        have hja : ja < i := by omega
        have hjb : jb < i := by omega
        have ja60 : (ja : Int) < 60 := by omega
        have jb60 : (jb : Int) < 60 := by omega
        have ja0 : (0 : Int) ≤ ja := by omega
        have jb0 : (0 : Int) ≤ jb := by omega
        have HJ := Lib.hid hj
        refine (CallsIn.inRound l (callsIn_wide.2 (iJoins_is true yk ja jb HJ.out _))).mono ?_
        rintro e W5 ⟨rfl, hb5⟩
        have A5' := hA.below hb5 hA.1
        have R5 := hR.below hb5 hR.1
        have hs5 := hb5.size
        have d0 := (hb5.cell (p := ⟨Bx, 0, none⟩) hBl).trans c0
        have d1 := (hb5.cell (p := ⟨Bx, 1, none⟩) hBl).trans c1
        have d2 := (hb5.cell (p := ⟨Bx, 2, none⟩) hBl).trans c2
        obtain ⟨p1, f1⟩ := A5'.2 ja (by omega)
        have S1 := A5'.set (k := ja) (by omega) true
        obtain ⟨p2, f2⟩ := S1.2 jb (by omega)
        have S2 := S1.set (k := jb) (by omega) true
        have e2 : (W5.setCell ⟨w.heap.size + 1, ja, none⟩ (.bool true)).cell? ⟨Bx, 2, none⟩ = some (.int .i64 jb) := by
          rw [World.cell?_setCell_other _ _ _ _ (addr_ne (by omega))]; exact d2
        have hR3 : ArrB ((W5.setCell ⟨w.heap.size + 1, ja, none⟩ (.bool true)).setCell ⟨w.heap.size + 1, jb, none⟩ (.bool true)) (w.heap.size + 1) (useL L (pre ++ [⟨i, hil⟩])) := by
          refine S2.ext fun j _ => ?_
          rw [HS.out]
          simp only [useStep, HU.out, HY.out, HJ.out, Bool.and_self, if_true]
          by_cases e1 : j = jb
          · subst e1; simp
          · by_cases e2 : j = ja
            · subst e2; simp [e1]
            · have n1 : ((j : Int) == (ja : Int)) = false := beq_eq_false_iff_ne.2 (by omega)
              have n2 : ((j : Int) == (jb : Int)) = false := beq_eq_false_iff_ne.2 (by omega)
              rw [n1, n2, if_neg e1, if_neg e2]
              simp
        have hR4 : ArrB ((W5.setCell ⟨w.heap.size + 1, ja, none⟩ (.bool true)).setCell ⟨w.heap.size + 1, jb, none⟩ (.bool true)) w.heap.size (fun _ => false) := (R5.far (by omega) _).far (by omega) _
        have hb2 : Below w.heap.size w ((W5.setCell ⟨w.heap.size + 1, ja, none⟩ (.bool true)).setCell ⟨w.heap.size + 1, jb, none⟩ (.bool true)) := ((hB.trans (hb5.mono hB.size)).setCell (by simp) _).setCell (by simp) _
        have hK : KpX (w.heap.size + 3) (w.heap.size + 1) Wc ((W5.setCell ⟨w.heap.size + 1, ja, none⟩ (.bool true)).setCell ⟨w.heap.size + 1, jb, none⟩ (.bool true)) := ((KpX.of_below (hb5.mono hsz)).set _ _).set _ _
        have hKO : KeepsOthers Wc ((W5.setCell ⟨w.heap.size + 1, ja, none⟩ (.bool true)).setCell ⟨w.heap.size + 1, jb, none⟩ (.bool true)) := ((keeps_below hb5).trans (KeepsOthers.setCell _ _ _)).trans (KeepsOthers.setCell _ _ _)
        have hsz2 : w.heap.size + 3 ≤ ((W5.setCell ⟨w.heap.size + 1, ja, none⟩ (.bool true)).setCell ⟨w.heap.size + 1, jb, none⟩ (.bool true)).heap.size := by simp; omega
        clear S1 S2 hcs hx0 hj hyk q0 c0 c1 c2 hA hR
        gi_wp2
        exact ⟨hKO.from _, hK, ⟨⟨hR3, hR4⟩, hsz2⟩, hb2⟩
    · rw [hu] at q0
      have hE : useL L (pre ++ [⟨i, hil⟩]) = useL L pre := by rw [HS.out]; simp [useStep, hu]
      have HE := Lib.hid hE
      clear hu hE
      gi_wp2_with fail
      refine ⟨trivial, ?_⟩
      gi_wp2
      exact ⟨KeepsFrom.refl _ _, KpX.refl _ _ _, ⟨⟨by rw [HE.out]; exact hA, hR⟩, hsz⟩, hB⟩
  case done =>
    rintro D ys Wc hD rfl ⟨⟨⟨hA, hR⟩, hsz⟩, hB⟩ hKD
    rw [useL_bk] at hA
    have hT := hR.there
    have hC := hA.range
    have hlen := useC_len (useF L)
    have h1 := all_oneCell_toArray (useC_one (useF L))
    have hT2 : Wc.there w.heap.size 0 (useC (useF L)).toArray.size := by simp only [List.size_toArray, hlen]; exact hT
    have hI2 : (Try.prog.info? 130).map (·.size) = some (useC (useF L)).toArray.size := by simp only [List.size_toArray, hlen]; exact infoB
    have hI1 : (Try.prog.info? 130).map (·.size) = some (useC (useF L)).length := by rw [hlen]; exact infoB
    have hC2 : Wc.rangeAt (w.heap.size + 1) 0 (useC (useF L)) := hC
    have hE : (Wc.setCells w.heap.size 0 (useC (useF L))).rangeAt w.heap.size 0 (useC (useF L)) := World.rangeAt_setCells_same _ _ _ _ (by rw [hlen]; exact hT)
    have hBl : Below w.heap.size w (Wc.setCells w.heap.size 0 (useC (useF L))) := below_setCells _ _ _ _ hB (Nat.le_refl _)
    have hKD2 : (Wc.setCells w.heap.size 0 (useC (useF L))).heap[D]? = some (Obj.deferred (some [])) := by
      rw [World.heap_setCells_other _ _ _ _ (Array.getElem?_eq_some_iff.1 hKD).1 (by omega)]; exact hKD
    simp only [Exit.inBlock, Exit.then]
    rename_i Q' K hcont
    refine hcont _ _ ?_
    refine wpIn_wide.2 ?_
    clear hA hR hB hT hC
    go_wp2_with (first
      | (refine wpList_load_mid rfl 130 _ rfl (w.heap.size + 1) 0 rfl (useC (useF L)) _ hC2 Try.underlying130 rfl hI1 ?_)
      | (refine wpList_store_mid rfl 130 _ _ rfl w.heap.size 0 (useC (useF L)).toArray rfl rfl hT2 hI2 h1 ?_))
    have hE2 : ((Wc.setCells w.heap.size 0 (useC (useF L))).putObj D (.deferred none)).rangeAt w.heap.size 0 (useC (useF L)) := fun j v hv =>
      cell_kept (hE j v hv) (grownBy_putObj' _ D (.deferred none)) (fun r e => by cases e; exact ⟨_, hKD2, rfl⟩)
    have hL := run_loadVar_mid (P := Try.prog) ((Wc.setCells w.heap.size 0 (useC (useF L))).putObj D (.deferred none)) w.heap.size 0 130 (useC (useF L)) _ hE2 Try.underlying130 rfl hI1
    refine ⟨by simp, .inl ⟨_, _, rfl, run_takeDeferred hKD2, ?_⟩⟩
    exact ⟨_, results_cell_at Try.results91 _ _ w.heap.size 0 rfl _ hL, _, rfl, rfl, hBl.trans (belowK_b (w := w) (Nat.le_refl _) _ D _ _ (by omega) hKD2 rfl rfl)⟩
  case stop =>
    rintro D c pre Wc _ _ h _
    exact h.elim
end Go.Proofs.Ytfpjflghgmcgbaa
