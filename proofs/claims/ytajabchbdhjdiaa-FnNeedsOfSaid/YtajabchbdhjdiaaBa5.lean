/-
  What a row's slices of terms and arrays of three integers are in the walk. Conditions: none.
-/
import Derived.Test.YtajabchbdhjdiaaBa2
import Derived.ProofKit
import Derived.OpenShut
import Derived.Deep.Slices
namespace Go.Proofs.Ytajabchbdhjdiaa
set_option maxRecDepth 100000
open Go.ChangeShapes Go.WideShapes Go.RowKit Go.Deep
/-- a slice that came in and reads as a list of terms, of whatever length -/
def RowT (w : World) (a : Option Addr) (len : Nat) (L : List Trm) : Prop :=
  L.length = len ∧ len ≤ 9223372036854775807 ∧ (L = [] ∨ ∃ g off, a = some ⟨g, off, none⟩ ∧ g < w.heap.size ∧ ∀ j : Nat, j < L.length → TAt w g (off + j * 4) (L.getD j default))
theorem RowT.trms {w : World} {a : Option Addr} {len cap : Nat} {L : List Trm} (h : RowT w a len L) (hl : len ≤ 1048576) : Trms w (.slice a len cap) L := by
  obtain ⟨h1, _, h2⟩ := h
  exact ⟨by omega, a, cap, by rw [h1], h2⟩
theorem list3 {α : Type} {l : List α} (h : l.length = 3) : ∃ a b c, l = [a, b, c] := by
  match l, h with
  | [a, b, c], _ => exact ⟨a, b, c, rfl⟩
theorem list4 {α : Type} {l : List α} (h : l.length = 4) : ∃ a b c d, l = [a, b, c, d] := by
  match l, h with
  | [a, b, c, d], _ => exact ⟨a, b, c, d, rfl⟩
theorem cells1 : Try.prog.cellsOf 3 = 1 := by kernel_rfl
theorem cells3 : Try.prog.cellsOf 48 = 3 := by kernel_rfl
section
variable {H : Type} {enc : TypeId × Value → H} {w : World} {base : Nat} {spare : Nat → Bool} {held : Bool} {fuel : Nat} {cs : List Value} {x : DataW H × List MemPlace}
theorem trodA3 (h : DataW.trod enc Try.prog w base spare held fuel 48 cs = some x) :
    ∃ a b c : Int, cs = [.int .i64 a, .int .i64 b, .int .i64 c] := by
  obtain ⟨xs, m, _, _, hl, hx, hi⟩ := DataW.trod_array Try.underlying48 h
  rw [cells3] at hl
  obtain ⟨c0, c1, c2, rfl⟩ := list3 hl
  obtain ⟨y0, y1, y2, rfl⟩ := list3 hx
  have h0 := hi 0 (by omega)
  have h1 := hi 1 (by omega)
  have h2 := hi 2 (by omega)
  rw [cells1] at h0 h1 h2
  simp at h0 h1 h2
  obtain ⟨a, ha, _⟩ := DataW.trod_int Try.underlying3 h0
  obtain ⟨b, hb, _⟩ := DataW.trod_int Try.underlying3 h1
  obtain ⟨c, hc, _⟩ := DataW.trod_int Try.underlying3 h2
  simp at ha hb hc
  exact ⟨a, b, c, by rw [ha, hb, hc]⟩
/-- an array of three integers that came in -/
theorem openA3 {r : Reach} {b0 : Nat} {v : Value} {d : DataW H} {ps : List MemPlace} (hv : Value.okWide Try.prog w r b0 48 v) (h : DataW.Trod enc Try.prog w base spare held 48 v d ps) :
    ∃ a b c : Int, v = .agg #[.int .i64 a, .int .i64 b, .int .i64 c] := by
  obtain ⟨fuel, hf⟩ := h
  obtain ⟨a, b, c, hcs⟩ := trodA3 hf
  obtain ⟨cs, rfl⟩ : ∃ cs, v = .agg cs := by
    unfold Value.okWide at hv
    rw [Try.underlying48] at hv
    cases v <;> simp_all
  simp [Value.cells] at hcs
  refine ⟨a, b, c, ?_⟩
  have : cs = #[.int .i64 a, .int .i64 b, .int .i64 c] := by rw [← Array.toList_inj, hcs]
  rw [this]
end
theorem cells4 : Try.prog.cellsOf 71 = 4 := by kernel_rfl
section
variable {H : Type} {enc : TypeId × Value → H} {w : World} {base : Nat} {spare : Nat → Bool} {held : Bool} {fuel : Nat} {cs : List Value} {x : DataW H × List MemPlace}
theorem trodTerm (h : DataW.trod enc Try.prog w base spare held fuel 71 cs = some x) :
    ∃ y : Trm, cs = [.int .i64 y.a, .int .i64 y.b, .int .i64 y.c, .int .i64 y.t] := by
  obtain ⟨xs, m, _, _, hl, hx, hi⟩ := DataW.trod_struct Try.underlying71 h
  rw [cells4] at hl
  obtain ⟨c0, c1, c2, c3, rfl⟩ := list4 hl
  have h0 := hi 0 _ rfl
  have h1 := hi 1 _ rfl
  obtain ⟨y0, y1, rfl⟩ : ∃ a b, xs = [a, b] := by
    match xs, hx with
    | [a, b], _ => exact ⟨a, b, rfl⟩
  have h0 : DataW.trod enc Try.prog w base spare held m 48 [c0, c1, c2] = _ := h0
  have h1 : DataW.trod enc Try.prog w base spare held m 3 [c3] = _ := h1
  simp only [List.getElem?_cons_zero, List.getElem?_cons_succ] at h0 h1
  obtain ⟨a, b, c, habc⟩ := trodA3 h0
  obtain ⟨t, ht, _⟩ := DataW.trod_int Try.underlying3 h1
  simp at ht
  obtain ⟨rfl, rfl, rfl⟩ := habc
  subst ht
  exact ⟨⟨a, b, c, t⟩, rfl⟩
theorem openT {d : DataW H} {ps : List MemPlace} {a : Option Addr} {len cap : Nat} (h : DataW.Trod enc Try.prog w base spare held 22 (.slice a len cap) d ps) :
    ∃ L, RowT w a len L := by
  obtain ⟨fuel, hf⟩ := h
  rcases open_slice Try.underlying22 hf with ⟨hcs, _⟩ | ⟨x, l, c, m, n, D, Pl, hcs, _, hl, hm, hmm, _, hel⟩
  · simp [Value.cells] at hcs
    obtain ⟨rfl, rfl, rfl⟩ := hcs
    exact ⟨[], rfl, by omega, .inl rfl⟩
  · simp [Value.cells] at hcs
    obtain ⟨rfl, rfl, rfl⟩ := hcs
    have hlm : len ≤ m := by rw [hmm]; split <;> omega
    have hc : ∀ i, i < len → ∃ y : Trm, w.cells? base (x.add (i * 4)) 4 = some [.int .i64 y.a, .int .i64 y.b, .int .i64 y.c, .int .i64 y.t] := by
      intro i hi
      obtain ⟨cs', h1, h2⟩ := hel i (by omega)
      obtain ⟨y, rfl⟩ := trodTerm h2
      rw [cells4] at h1
      exact ⟨y, h1⟩
    obtain ⟨F, hF⟩ := choose_lt hc
    have hcell : ∀ i, i < len → ∀ k, k < 4 → ∃ u, w.cell? (x.add (i * 4 + k)) = some u ∧ [Value.int .i64 (F i).a, .int .i64 (F i).b, .int .i64 (F i).c, .int .i64 (F i).t][k]? = some u := by
      intro i hi k hk
      obtain ⟨_, hlen, h3⟩ := World.cells?_some (hF i hi)
      have := h3 k hk
      rw [Go.Deep.add_add] at this
      match k, hk with
      | 0, _ => exact ⟨_, by simpa using this, rfl⟩
      | 1, _ => exact ⟨_, by simpa using this, rfl⟩
      | 2, _ => exact ⟨_, by simpa using this, rfl⟩
      | 3, _ => exact ⟨_, by simpa using this, rfl⟩
    refine ⟨(List.range len).map F, by simp, by unfold maxLen at hm; omega, ?_⟩
    by_cases h0 : len = 0
    · left; simp [h0]
    · right
      obtain ⟨u0, h00, _⟩ := hcell 0 (by omega) 0 (by omega)
      have hs : x.spot = none := by simpa [Addr.add] using World.cell?_spot h00
      obtain ⟨g, off, spot⟩ := x
      simp only at hs
      subst hs
      refine ⟨g, off, rfl, by simpa [Addr.add] using World.block_lt_of_cell? w _ h00, ?_⟩
      intro j hj
      have hj : j < len := by simpa using hj
      have e : ((List.range len).map F).getD j default = F j := by simp [List.getD_eq_getElem?_getD, hj]
      rw [e]
      have key : ∀ k, k < 4 → ∃ u, w.cell? ⟨g, off + j * 4 + k, none⟩ = some u ∧ [Value.int .i64 (F j).a, .int .i64 (F j).b, .int .i64 (F j).c, .int .i64 (F j).t][k]? = some u := by
        intro k hk
        obtain ⟨u, h1, h2⟩ := hcell j hj k hk
        refine ⟨u, ?_, h2⟩
        rw [show (⟨g, off, none⟩ : Addr).add (j * 4 + k) = ⟨g, off + j * 4 + k, none⟩ by unfold Addr.add; split <;> simp_all <;> omega] at h1
        exact h1
      obtain ⟨_, k0, e0⟩ := key 0 (by omega)
      obtain ⟨_, k1, e1⟩ := key 1 (by omega)
      obtain ⟨_, k2, e2⟩ := key 2 (by omega)
      obtain ⟨_, k3, e3⟩ := key 3 (by omega)
      simp at e0 e1 e2 e3
      subst e0 e1 e2 e3
      exact ⟨by simpa using k0, k1, k2, k3⟩
end
end Go.Proofs.Ytajabchbdhjdiaa
