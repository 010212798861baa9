/-
  What a row's programs of paths are in the walk. Conditions: none.
-/
import Derived.Test.YtlcmddghppdmgaaBp3
import Derived.Test.YtlcmddghppdmgaaBp6
namespace Go.Proofs.Ytlcmddghppdmgaa
set_option linter.unusedVariables false
set_option maxRecDepth 100000
open Go.ChangeShapes Go.WideShapes Go.RowKit Go.Deep
/-- three cells that hold an arrow that came in -/
def AAtR (w : World) (g o : Nat) (x : Arr) : Prop :=
  w.cell? ⟨g, o, none⟩ = some (.int .i64 x.f) ∧ w.cell? ⟨g, o + 1, none⟩ = some (.int .i64 x.t) ∧ ∃ a len cap, w.cell? ⟨g, o + 2, none⟩ = some (.slice a len cap) ∧ RowT w a len x.L
/-- a slice of arrows that came in, of whatever length -/
def RowP (w : World) (a : Option Addr) (len : Nat) (A : List Arr) : Prop :=
  A.length = len ∧ len ≤ 9223372036854775807 ∧ (A = [] ∨ ∃ g off, a = some ⟨g, off, none⟩ ∧ g < w.heap.size ∧ ∀ i : Nat, i < A.length → AAtR w g (off + i * 3) (arw A i))
theorem RowP.arrs {w : World} {a : Option Addr} {len cap : Nat} {A : List Arr} (h : RowP w a len A) (hl : len + acN A ≤ 1048576) : Arrs w (.slice a len cap) A := by
  obtain ⟨h1, _, h2⟩ := h
  refine ⟨by omega, by omega, a, cap, by rw [h1], ?_⟩
  rcases h2 with h2 | ⟨g, off, ha, hg, hc⟩
  · exact .inl h2
  · refine .inr ⟨g, off, ha, hg, fun i hi => ?_⟩
    obtain ⟨q1, q2, b, n, c, q3, q4⟩ := hc i hi
    have hle := lab_le hi
    have hn : (arw A i).L.length = n := q4.1
    exact ⟨q1, q2, _, q3, q4.trms (by omega)⟩
theorem cells3a : Try.prog.cellsOf 130 = 3 := by kernel_rfl
section
variable {H : Type} {enc : TypeId × Value → H} {w : World} {base : Nat} {spare : Nat → Bool} {held : Bool} {fuel : Nat} {cs : List Value} {x : DataW H × List MemPlace}
theorem openTf (hf : DataW.trod enc Try.prog w base spare held fuel 128 cs = some x) : ∃ a len cap L, cs = [.slice a len cap] ∧ RowT w a len L := by
  rcases open_slice Try.underlying128 hf with ⟨hcs, _⟩ | ⟨x', len, cap, m, n, D, Pl, hcs, _⟩
  · exact ⟨none, 0, 0, [], hcs, rfl, by omega, .inl rfl⟩
  · have hT : DataW.Trod enc Try.prog w base spare held 128 (.slice (some x') len cap) x.1 x.2 := ⟨fuel, by rw [hcs] at hf; exact hf⟩
    obtain ⟨L, hL⟩ := openT hT
    exact ⟨some x', len, cap, L, hcs, hL⟩
theorem trodArrow (h : DataW.trod enc Try.prog w base spare held fuel 130 cs = some x) :
    ∃ (y : Arr) (a : Option Addr) (len cap : Nat), cs = [.int .i64 y.f, .int .i64 y.t, .slice a len cap] ∧ RowT w a len y.L := by
  obtain ⟨xs, m, _, _, hl, hx, hi⟩ := DataW.trod_struct Try.underlying130 h
  rw [cells3a] at hl
  obtain ⟨c0, c1, c2, rfl⟩ := list3 hl
  have h0 := hi 0 _ rfl
  have h1 := hi 1 _ rfl
  have h2 := hi 2 _ rfl
  obtain ⟨y0, y1, y2, rfl⟩ : ∃ a b c, xs = [a, b, c] := by
    match xs, hx with
    | [a, b, c], _ => exact ⟨a, b, c, rfl⟩
  have h0 : DataW.trod enc Try.prog w base spare held m 3 [c0] = _ := h0
  have h1 : DataW.trod enc Try.prog w base spare held m 3 [c1] = _ := h1
  have h2 : DataW.trod enc Try.prog w base spare held m 128 [c2] = _ := h2
  simp only [List.getElem?_cons_zero, List.getElem?_cons_succ] at h0 h1 h2
  obtain ⟨f, hf, _⟩ := DataW.trod_int Try.underlying3 h0
  obtain ⟨t, ht, _⟩ := DataW.trod_int Try.underlying3 h1
  obtain ⟨a, len, cap, L, hc, hR⟩ := openTf h2
  simp at hf ht hc
  exact ⟨⟨f, t, L⟩, a, len, cap, by rw [hf, ht, hc], hR⟩
theorem openAf (hf : DataW.trod enc Try.prog w base spare held fuel 22 cs = some x) :
    ∃ a len cap A, cs = [.slice a len cap] ∧ RowP w a len A := by
  rcases open_slice Try.underlying22 hf with ⟨hcs, _⟩ | ⟨x', len, cap, m, n, D, Pl, hcs, _, hl, hm, hmm, _, hel⟩
  · exact ⟨none, 0, 0, [], hcs, rfl, by omega, .inl rfl⟩
  · refine ⟨some x', len, cap, ?_⟩
    suffices hR : ∃ L, RowP w (some x') len L by
      obtain ⟨L, hR⟩ := hR
      exact ⟨L, hcs, hR⟩
    have hlm : len ≤ m := by rw [hmm]; split <;> omega
    have hc : ∀ i, i < len → ∃ y : Arr, ∃ a n c, w.cells? base (x'.add (i * 3)) 3 = some [.int .i64 y.f, .int .i64 y.t, .slice a n c] ∧ RowT w a n y.L := by
      intro i hi
      obtain ⟨cs', h1, h2⟩ := hel i (by omega)
      obtain ⟨y, a, n, c, rfl, hR⟩ := trodArrow h2
      rw [cells3a] at h1
      exact ⟨y, a, n, c, h1, hR⟩
    obtain ⟨F, hF⟩ := choose_lt hc
    have hcell : ∀ i, i < len → ∃ a n c, RowT w a n (F i).L ∧ ∀ k, k < 3 → ∃ u, w.cell? (x'.add (i * 3 + k)) = some u ∧ [Value.int .i64 (F i).f, .int .i64 (F i).t, .slice a n c][k]? = some u := by
      intro i hi
      obtain ⟨a, n, c, h1, hR⟩ := hF i hi
      refine ⟨a, n, c, hR, fun k hk => ?_⟩
      obtain ⟨_, hlen, h3⟩ := World.cells?_some h1
      have := h3 k hk
      rw [Go.Deep.add_add] at this
      match k, hk with
      | 0, _ => exact ⟨_, by simpa using this, rfl⟩
      | 1, _ => exact ⟨_, by simpa using this, rfl⟩
      | 2, _ => exact ⟨_, by simpa using this, rfl⟩
    refine ⟨(List.range len).map F, by simp, by unfold maxLen at hm; omega, ?_⟩
    by_cases h0 : len = 0
    · left; simp [h0]
    · right
      obtain ⟨_, _, _, _, hk0⟩ := hcell 0 (by omega)
      obtain ⟨u0, h00, _⟩ := hk0 0 (by omega)
      have hs : x'.spot = none := by simpa [Addr.add] using World.cell?_spot h00
      obtain ⟨g, off, spot⟩ := x'
      simp only at hs
      subst hs
      refine ⟨g, off, rfl, by simpa [Addr.add] using World.block_lt_of_cell? w _ h00, ?_⟩
      intro j hj
      have hj : j < len := by simpa using hj
      have e : arw ((List.range len).map F) j = F j := by simp [arw, List.getD_eq_getElem?_getD, hj]
      rw [e]
      obtain ⟨a, n, c, hR, hk⟩ := hcell j hj
      have key : ∀ k, k < 3 → ∃ u, w.cell? ⟨g, off + j * 3 + k, none⟩ = some u ∧ [Value.int .i64 (F j).f, .int .i64 (F j).t, .slice a n c][k]? = some u := by
        intro k hk3
        obtain ⟨u, h1, h2⟩ := hk k hk3
        refine ⟨u, ?_, h2⟩
        rw [show (⟨g, off, none⟩ : Addr).add (j * 3 + k) = ⟨g, off + j * 3 + k, none⟩ by unfold Addr.add; split <;> simp_all <;> omega] at h1
        exact h1
      obtain ⟨_, k0, e0⟩ := key 0 (by omega)
      obtain ⟨_, k1, e1⟩ := key 1 (by omega)
      obtain ⟨_, k2, e2⟩ := key 2 (by omega)
      simp at e0 e1 e2
      subst e0 e1 e2
      exact ⟨by simpa using k0, k1, a, n, c, k2, hR⟩
end
section
variable {H : Type} {enc : TypeId × Value → H} {w : World} {base : Nat} {spare : Nat → Bool} {held : Bool}
theorem cells2p : Try.prog.cellsOf 24 = 2 := by kernel_rfl
theorem list2 {α : Type} {l : List α} (h : l.length = 2) : ∃ a b, l = [a, b] := by
  match l, h with
  | [a, b], _ => exact ⟨a, b, rfl⟩
/-- a program that came in -/
theorem openP {r : Reach} {b0 : Nat} {v : Value} {d : DataW H} {ps : List MemPlace} (hv : Value.okWide Try.prog w r b0 24 v) (h : DataW.Trod enc Try.prog w base spare held 24 v d ps) :
    ∃ (n : Int) (a : Option Addr) (len cap : Nat) (A : List Arr), v = .agg #[.int .i64 n, .slice a len cap] ∧ RowP w a len A := by
  obtain ⟨cs, rfl, hsz⟩ := okWide_struct Try.underlying24 hv
  rw [cells2p] at hsz
  obtain ⟨fuel, hf⟩ := h
  obtain ⟨xs, m, _, _, hl, hx, hi⟩ := DataW.trod_struct Try.underlying24 hf
  have e : (Value.agg cs).cells.toList = cs.toList := rfl
  rw [e] at hi
  obtain ⟨c0, c1, hcs⟩ := list2 (show cs.toList.length = 2 by simpa using hsz)
  rw [hcs] at hi
  have h0 := hi 0 _ rfl
  have h1 := hi 1 _ rfl
  obtain ⟨y0, y1, rfl⟩ : ∃ a b, xs = [a, b] := by
    match xs, hx with
    | [a, b], _ => exact ⟨a, b, rfl⟩
  have h0 : DataW.trod enc Try.prog w base spare held m 3 [c0] = _ := h0
  have h1 : DataW.trod enc Try.prog w base spare held m 22 [c1] = _ := h1
  simp only [List.getElem?_cons_zero, List.getElem?_cons_succ] at h0 h1
  obtain ⟨n, hn, _⟩ := DataW.trod_int Try.underlying3 h0
  obtain ⟨a, len, cap, A, hc1, hR⟩ := openAf h1
  simp at hn hc1
  subst hn hc1
  refine ⟨n, a, len, cap, A, ?_, hR⟩
  have : cs = #[.int .i64 n, .slice a len cap] := by rw [← Array.toList_inj, hcs]
  rw [this]
end
end Go.Proofs.Ytlcmddghppdmgaa
