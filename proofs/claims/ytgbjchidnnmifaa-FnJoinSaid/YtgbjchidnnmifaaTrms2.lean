/-
  Contracts of the exact laws' helpers on lists of terms, on: szPoly, toPoly, eqPoly. Conditions: what the slices hold is known.
-/
import Derived.Test.YtgbjchidnnmifaaTrms
import Derived.Deep.RegionHeld3
namespace Go.Proofs.Ytgbjchidnnmifaa
open Go.RowKit
/-- a call hands back a slice of terms of its own -/
def GivesTrms (L : List Trm) (w : World) (e : Ending) (w' : World) : Prop :=
  ∃ v, e = .returned v ∧ OwnTrms w' w.heap.size v L ∧ Below w.heap.size w w'
theorem made_some (z0 : Array Value) (n i : Nat) (h : i < n) : ∃ u, (madeCells z0 n).toList[i]? = some u := by
  have : i < (madeCells z0 n).toList.length := by simp [size_madeCells, h]
  exact ⟨_, List.getElem?_eq_getElem this⟩
theorem keepTT {W w1 : World} {g1 o1 g2 o2 : Nat} {x y : Trm} (hb : Below W.heap.size W w1) (h1 : g1 < W.heap.size) (h2 : g2 < W.heap.size) (h : TAt W g1 o1 x ∧ TAt W g2 o2 y) : TAt w1 g1 o1 x ∧ TAt w1 g2 o2 y :=
  ⟨h.1.below hb h1, h.2.below hb h2⟩
end Go.Proofs.Ytgbjchidnnmifaa
