/-
  What a row's slices of gates are in the walk. Conditions: none.
-/
import Derived.Test.YtoeghbcolpailaaGreatBa4
import Derived.Test.YtoeghbcolpailaaGreatBa7
namespace Go.Proofs.YtoeghbcolpailaaGreat
set_option maxRecDepth 100000
open Go.ChangeShapes Go.WideShapes Go.RowKit Go.Deep
/-- a slice that came in and reads as a list of gates, of whatever length -/
def RowG (w : World) (a : Option Addr) (len : Nat) (L : List Gt) : Prop :=
  L.length = len ∧ len ≤ 9223372036854775807 ∧ (L = [] ∨ ∃ g off, a = some ⟨g, off, none⟩ ∧ g < w.heap.size ∧ ∀ j : Nat, j < L.length → GAt w g (off + j * 3) (L.getD j default))
theorem RowG.gats {w : World} {a : Option Addr} {len cap : Nat} {L : List Gt} (h : RowG w a len L) (hl : len ≤ 1048576) : Gats w (.slice a len cap) L := by
  obtain ⟨h1, _, h2⟩ := h
  exact ⟨by omega, a, cap, by rw [h1], h2⟩
end Go.Proofs.YtoeghbcolpailaaGreat
