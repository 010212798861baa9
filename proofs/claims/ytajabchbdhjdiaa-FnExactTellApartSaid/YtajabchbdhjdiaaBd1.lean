/-
  What a row's slices of gates are in the walk. Conditions: none.
-/
import Derived.Test.YtajabchbdhjdiaaBa3
import Derived.Test.YtajabchbdhjdiaaBa5
namespace Go.Proofs.Ytajabchbdhjdiaa
set_option maxRecDepth 100000
open Go.ChangeShapes Go.WideShapes Go.RowKit Go.Deep
/-- a slice that came in and reads as a list of gates, of whatever length -/
def RowG (w : World) (a : Option Addr) (len : Nat) (L : List Gt) : Prop :=
  L.length = len ∧ len ≤ 9223372036854775807 ∧ (L = [] ∨ ∃ g off, a = some ⟨g, off, none⟩ ∧ g < w.heap.size ∧ ∀ j : Nat, j < L.length → GAt w g (off + j * 3) (L.getD j default))
theorem RowG.gats {w : World} {a : Option Addr} {len cap : Nat} {L : List Gt} (h : RowG w a len L) (hl : len ≤ 1048576) : Gats w (.slice a len cap) L := by
  obtain ⟨h1, _, h2⟩ := h
  exact ⟨by omega, a, cap, by rw [h1], h2⟩
theorem cells3g : Try.prog.cellsOf 120 = 3 := by kernel_rfl
section
variable {H : Type} {enc : TypeId × Value → H} {w : World} {base : Nat} {spare : Nat → Bool} {held : Bool} {fuel : Nat} {cs : List Value} {x : DataW H × List MemPlace}
theorem trodGate (h : DataW.trod enc Try.prog w base spare held fuel 120 cs = some x) :
    ∃ y : Gt, cs = [.int .i64 y.k, .int .i64 y.a, .int .i64 y.b] := by
  obtain ⟨xs, m, _, _, hl, hx, hi⟩ := DataW.trod_struct Try.underlying120 h
  rw [cells3g] at hl
  obtain ⟨c0, c1, c2, rfl⟩ := list3 hl
  have h0 := hi 0 _ rfl
  have h1 := hi 1 _ rfl
  have h2 := hi 2 _ rfl
  obtain ⟨y0, y1, y2, rfl⟩ : ∃ a b c, xs = [a, b, c] := by
    match xs, hx with
    | [a, b, c], _ => exact ⟨a, b, c, rfl⟩
  have h0 : DataW.trod enc Try.prog w base spare held m 3 [c0] = _ := h0
  have h1 : DataW.trod enc Try.prog w base spare held m 3 [c1] = _ := h1
  have h2 : DataW.trod enc Try.prog w base spare held m 3 [c2] = _ := h2
  simp only [List.getElem?_cons_zero, List.getElem?_cons_succ] at h0 h1 h2
  obtain ⟨a, ha, _⟩ := DataW.trod_int Try.underlying3 h0
  obtain ⟨b, hb, _⟩ := DataW.trod_int Try.underlying3 h1
  obtain ⟨c, hc, _⟩ := DataW.trod_int Try.underlying3 h2
  simp at ha hb hc
  exact ⟨⟨a, b, c⟩, by rw [ha, hb, hc]⟩
theorem openGf (hf : DataW.trod enc Try.prog w base spare held fuel 54 cs = some x) :
    ∃ a len cap L, cs = [.slice a len cap] ∧ RowG w a len L := by
  rcases open_slice Try.underlying54 hf with ⟨hcs, _⟩ | ⟨x', len, cap, m, n, D, Pl, hcs, _, hl, hm, hmm, _, hel⟩
  · exact ⟨none, 0, 0, [], hcs, rfl, by omega, .inl rfl⟩
  · refine ⟨some x', len, cap, ?_⟩
    suffices hR : ∃ L, RowG w (some x') len L by
      obtain ⟨L, hR⟩ := hR
      exact ⟨L, hcs, hR⟩
    have hlm : len ≤ m := by rw [hmm]; split <;> omega
    have hc : ∀ i, i < len → ∃ y : Gt, w.cells? base (x'.add (i * 3)) 3 = some [.int .i64 y.k, .int .i64 y.a, .int .i64 y.b] := by
      intro i hi
      obtain ⟨cs', h1, h2⟩ := hel i (by omega)
      obtain ⟨y, rfl⟩ := trodGate h2
      rw [cells3g] at h1
      exact ⟨y, h1⟩
    obtain ⟨F, hF⟩ := choose_lt hc
    have hcell : ∀ i, i < len → ∀ k, k < 3 → ∃ u, w.cell? (x'.add (i * 3 + k)) = some u ∧ [Value.int .i64 (F i).k, .int .i64 (F i).a, .int .i64 (F i).b][k]? = some u := by
      intro i hi k hk
      obtain ⟨_, hlen, h3⟩ := World.cells?_some (hF i hi)
      have := h3 k hk
      rw [Go.Deep.add_add] at this
      match k, hk with
      | 0, _ => exact ⟨_, by simpa using this, rfl⟩
      | 1, _ => exact ⟨_, by simpa using this, rfl⟩
      | 2, _ => exact ⟨_, by simpa using this, rfl⟩
    refine ⟨(List.range len).map F, by simp, by unfold maxLen at hm; omega, ?_⟩
    by_cases h0 : len = 0
    · left; simp [h0]
    · right
      obtain ⟨u0, h00, _⟩ := hcell 0 (by omega) 0 (by omega)
      have hs : x'.spot = none := by simpa [Addr.add] using World.cell?_spot h00
      obtain ⟨g, off, spot⟩ := x'
      simp only at hs
      subst hs
      refine ⟨g, off, rfl, by simpa [Addr.add] using World.block_lt_of_cell? w _ h00, ?_⟩
      intro j hj
      have hj : j < len := by simpa using hj
      have e : ((List.range len).map F).getD j default = F j := by simp [List.getD_eq_getElem?_getD, hj]
      rw [e]
      have key : ∀ k, k < 3 → ∃ u, w.cell? ⟨g, off + j * 3 + k, none⟩ = some u ∧ [Value.int .i64 (F j).k, .int .i64 (F j).a, .int .i64 (F j).b][k]? = some u := by
        intro k hk
        obtain ⟨u, h1, h2⟩ := hcell j hj k hk
        refine ⟨u, ?_, h2⟩
        rw [show (⟨g, off, none⟩ : Addr).add (j * 3 + k) = ⟨g, off + j * 3 + k, none⟩ by unfold Addr.add; split <;> simp_all <;> omega] at h1
        exact h1
      obtain ⟨_, k0, e0⟩ := key 0 (by omega)
      obtain ⟨_, k1, e1⟩ := key 1 (by omega)
      obtain ⟨_, k2, e2⟩ := key 2 (by omega)
      simp at e0 e1 e2
      subst e0 e1 e2
      exact ⟨by simpa using k0, k1, k2⟩
theorem openG {d : DataW H} {ps : List MemPlace} {a : Option Addr} {len cap : Nat} (h : DataW.Trod enc Try.prog w base spare held 54 (.slice a len cap) d ps) :
    ∃ L, RowG w a len L := by
  obtain ⟨fuel, hf⟩ := h
  obtain ⟨a', len', cap', L, hcs, hR⟩ := openGf hf
  simp [Value.cells] at hcs
  obtain ⟨rfl, rfl, rfl⟩ := hcs
  exact ⟨L, hR⟩
end
end Go.Proofs.Ytajabchbdhjdiaa
