/-
  Contracts of the program's maker of circuits: put, moved, made. Conditions: what the maker's cells and its row of gates hold is known.
-/
import Derived.Test.YtoeghbcolpailaaGreatBa15
import Derived.Test.YtoeghbcolpailaaGreatBa8
namespace Go.Proofs.YtoeghbcolpailaaGreat
open Go.RowKit
/-- a maker's two cells: the slice of its gates, whose block is another one, and the prime -/
structure MakW (w : World) (G : Nat) (p : Int) (v : Value) : Prop where
  c0 : w.cell? ⟨G, 0, none⟩ = some v
  c1 : w.cell? ⟨G, 1, none⟩ = some (.int .i64 p)
  f0 : w.frozen? ⟨G, 0, none⟩ = false
  lt : G < w.heap.size
theorem MakW.below {w w' : World} {G : Nat} {p : Int} {v : Value} (h : MakW w G p v) (hb : Below w.heap.size w w') : MakW w' G p v := by
  have hl := h.lt
  exact ⟨by rw [hb.cell (p := ⟨G, 0, none⟩) hl]; exact h.c0, by rw [hb.cell (p := ⟨G, 1, none⟩) hl]; exact h.c1, by rw [hb.frozen (p := ⟨G, 0, none⟩) hl]; exact h.f0, Nat.lt_of_lt_of_le hl hb.size⟩
theorem MakW.set {w : World} {G : Nat} {p : Int} {v : Value} (h : MakW w G p v) (u : Value) : MakW (w.setCell ⟨G, 0, none⟩ u) G p u := by
  refine ⟨World.cell?_setCell_same _ _ _ h.c0, ?_, by rw [World.frozen?_setCell]; exact h.f0, by simpa using h.lt⟩
  rw [World.cell?_setCell_other _ _ _ _ (addr_ne (by omega))]; exact h.c1
theorem MakW.grown {w w' : World} {G : Nat} {p : Int} {v u : Value} (h : MakW w G p v) (hb : w.grownBy w' u.ownBlock) (hne : u.ownBlock ≠ some G) :
    w'.cell? ⟨G, 0, none⟩ = some v ∧ w'.cell? ⟨G, 1, none⟩ = some (.int .i64 p) ∧ w'.frozen? ⟨G, 0, none⟩ = false ∧ G < w'.heap.size := by
  have e := hb.block G h.lt (fun e => hne e.symm)
  exact ⟨by rw [World.cell?_of_block (a := ⟨G, 0, none⟩) e]; exact h.c0, by rw [World.cell?_of_block (a := ⟨G, 1, none⟩) e]; exact h.c1, by rw [World.frozen?_of_block (a := ⟨G, 0, none⟩) e]; exact h.f0, Nat.lt_of_lt_of_le h.lt hb.size⟩
end Go.Proofs.YtoeghbcolpailaaGreat
