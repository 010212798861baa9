/-
  Only blocks between two bounds have turned. Conditions: none.
-/
import Derived.Test.YtmndcdcjjihecaaTrms
namespace Go.Proofs.Ytmndcdcjjihecaa
open Go.RowKit
/-- only blocks from B on and below C have turned -/
structure Betw (B C : Nat) (w w' : World) : Prop where
  os : w'.os = w.os
  tape : w'.tape = w.tape
  output : w'.output = w.output
  size : w'.heap.size = w.heap.size
  block : ∀ k, k < B ∨ C ≤ k → w'.heap[k]? = w.heap[k]?
theorem Betw.low {B C : Nat} {w w' : World} (h : Betw B C w w') : Below B w w' := ⟨h.os, h.tape, h.output, by rw [h.size]; exact Nat.le_refl _, fun k hk => h.block k (.inl hk)⟩
theorem cell_of_heap {w w' : World} {p : Addr} (h : w'.heap[p.block]? = w.heap[p.block]?) : w'.cell? p = w.cell? p := by
  unfold World.cell?; rw [h]
theorem frozen_of_heap {w w' : World} {p : Addr} (h : w'.heap[p.block]? = w.heap[p.block]?) : w'.frozen? p = w.frozen? p := by
  unfold World.frozen?; rw [h]
/-- the blocks from B on that a world has are in the later one as they were -/
def Same (B : Nat) (w w' : World) : Prop := ∀ b, B ≤ b → b < w.heap.size → w'.heap[b]? = w.heap[b]?
theorem same_of {B : Nat} {w w' : World} (h : Below w.heap.size w w') : Same B w w' := fun b _ hb => h.block b hb
theorem Same.betw {B B' : Nat} {w w1 w2 : World} (h : Same B w w1) (hb : Betw B' B w1 w2) : Same B w w2 := fun b h1 h2 => (hb.block b (.inr h1)).trans (h b h1 h2)
end Go.Proofs.Ytmndcdcjjihecaa
