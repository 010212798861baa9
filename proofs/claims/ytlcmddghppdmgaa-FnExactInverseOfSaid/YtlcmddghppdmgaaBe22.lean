/-
  What a row's matrices are in the walk. Conditions: none.
-/
import Derived.Test.YtlcmddghppdmgaaBe7
import Derived.ProofKit
import Derived.OpenShut
import Derived.Deep.Slices
namespace Go.Proofs.Ytlcmddghppdmgaa
set_option linter.unusedVariables false
set_option maxRecDepth 100000
open Go.ChangeShapes Go.WideShapes Go.RowKit Go.Deep
theorem cellsI1 : Try.prog.cellsOf 3 = 1 := by kernel_rfl
theorem cellsS1 : Try.prog.cellsOf 62 = 1 := by kernel_rfl
theorem add_off (g off i : Nat) : (⟨g, off, none⟩ : Addr).add i = ⟨g, off + i, none⟩ := by unfold Addr.add; split <;> simp_all
section
variable {H : Type} {enc : TypeId × Value → H} {w : World} {base : Nat} {spare : Nat → Bool} {held : Bool} {fuel : Nat} {cs : List Value} {x : DataW H × List MemPlace}
theorem trodInts (h : DataW.trod enc Try.prog w base spare held fuel 62 cs = some x) : ∃ u L, cs = [u] ∧ IntsR w u L ∧ CapOK u := by
  rcases open_slice1 Try.underlying62 cellsI1 h with ⟨rfl, _⟩ | ⟨a, len, cap, m, n, V, D, Pl, rfl, _, hl, hm, hmm, _, hel⟩
  · exact ⟨_, [], rfl, ⟨by simp, none, 0, rfl, .inl rfl⟩, Nat.le_refl _⟩
  · have hlm : len ≤ m := by rw [hmm]; split <;> omega
    have hc : ∀ i, i < len → ∃ y : Int, w.cell? (a.add i) = some (.int .i64 y) := by
      intro i hi
      obtain ⟨h1, h2⟩ := hel i (by omega)
      obtain ⟨y, hy, _⟩ := DataW.trod_int Try.underlying3 h2
      simp at hy
      exact ⟨y, by rw [h1, hy]⟩
    obtain ⟨F, hF⟩ := choose_lt hc
    refine ⟨_, (List.range len).map F, rfl, ⟨by simp; unfold maxLen at hm; omega, some a, cap, by simp, ?_⟩, hl⟩
    by_cases h0 : len = 0
    · left; simp [h0]
    · right
      have h00 := hF 0 (by omega)
      have hs : a.spot = none := by simpa [Addr.add] using World.cell?_spot h00
      obtain ⟨g, off, spot⟩ := a
      simp only at hs
      subst hs
      refine ⟨g, off, rfl, by simpa [Addr.add] using World.block_lt_of_cell? w _ h00, ?_⟩
      intro j hj
      have hj : j < len := by simpa using hj
      have e : ((List.range len).map F).getD j 0 = F j := by simp [List.getD_eq_getElem?_getD, hj]
      rw [e]
      have := hF j hj
      rwa [add_off] at this
theorem openM {d : DataW H} {ps : List MemPlace} {a : Option Addr} {len cap : Nat} (h : DataW.Trod enc Try.prog w base spare held 34 (.slice a len cap) d ps) :
    ∃ M, RowM w a len M := by
  obtain ⟨fuel, hf⟩ := h
  rcases open_slice1 Try.underlying34 cellsS1 hf with ⟨hcs, _⟩ | ⟨x, l, c, m, n, V, D, Pl, hcs, _, hl, hm, hmm, _, hel⟩
  · simp [Value.cells] at hcs
    obtain ⟨rfl, rfl, rfl⟩ := hcs
    exact ⟨[], rfl, by omega, .inl rfl⟩
  · simp [Value.cells] at hcs
    obtain ⟨rfl, rfl, rfl⟩ := hcs
    have hlm : len ≤ m := by rw [hmm]; split <;> omega
    have hc : ∀ i, i < len → ∃ L : List Int, w.cell? (x.add i) = some (V i) ∧ IntsR w (V i) L ∧ CapOK (V i) := by
      intro i hi
      obtain ⟨h1, h2⟩ := hel i (by omega)
      obtain ⟨u, L, hu, hr, hk⟩ := trodInts h2
      simp at hu
      subst hu
      exact ⟨L, h1, hr, hk⟩
    obtain ⟨F, hF⟩ := choose_lt hc
    refine ⟨(List.range len).map F, by simp, by unfold maxLen at hm; omega, ?_⟩
    by_cases h0 : len = 0
    · left; simp [h0]
    · right
      obtain ⟨h00, _, _⟩ := hF 0 (by omega)
      have hs : x.spot = none := by simpa [Addr.add] using World.cell?_spot h00
      obtain ⟨g, off, spot⟩ := x
      simp only at hs
      subst hs
      refine ⟨g, off, rfl, by simpa [Addr.add] using World.block_lt_of_cell? w _ h00, ?_⟩
      intro j hj
      have hj : j < len := by simpa using hj
      have e : rowM ((List.range len).map F) j = F j := by simp [rowM, List.getD_eq_getElem?_getD, hj]
      rw [e]
      have := hF j hj
      rw [add_off] at this
      exact ⟨_, this⟩
end
end Go.Proofs.Ytlcmddghppdmgaa
