/-
  What a row's slices of terms and arrays of three integers are in the walk. Conditions: none.
-/
import Derived.Test.YtegkcfinklcglaaBo2
import Derived.ProofKit
import Derived.OpenShut
import Derived.Deep.Slices
namespace Go.Proofs.Ytegkcfinklcglaa
set_option maxRecDepth 100000
open Go.ChangeShapes Go.WideShapes Go.RowKit Go.Deep
/-- a slice that came in and reads as a list of terms, of whatever length -/
def RowT (w : World) (a : Option Addr) (len : Nat) (L : List Trm) : Prop :=
  L.length = len ∧ len ≤ 9223372036854775807 ∧ (L = [] ∨ ∃ g off, a = some ⟨g, off, none⟩ ∧ g < w.heap.size ∧ ∀ j : Nat, j < L.length → TAt w g (off + j * 4) (L.getD j default))
theorem RowT.trms {w : World} {a : Option Addr} {len cap : Nat} {L : List Trm} (h : RowT w a len L) (hl : len ≤ 1048576) : Trms w (.slice a len cap) L := by
  obtain ⟨h1, _, h2⟩ := h
  exact ⟨by omega, a, cap, by rw [h1], h2⟩
end Go.Proofs.Ytegkcfinklcglaa
