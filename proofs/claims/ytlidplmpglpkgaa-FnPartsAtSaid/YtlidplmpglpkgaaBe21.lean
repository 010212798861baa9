/-
  FormulaOfCircuit, of the model and of the program, and the walk of its exact law. Conditions: none but that the slice reads as a list of gates.
  FormulaOfCircuit, of the program, and the walk of its exact law. Conditions: none but that the slice reads as a list of gates.
-/
import Derived.Test.YtlidplmpglpkgaaBe20
import Derived.Test.YtlidplmpglpkgaaBa10
import Derived.Test.YtlidplmpglpkgaaBe7
namespace Go.Proofs.Ytlidplmpglpkgaa
open Go.RowKit
/-- may the formula be made, and what it is -/
def focB (p : Int) (L : List Gt) : Bool := circB p L && decide (szAt L (L.length - 1) ≤ 60)
def focS (p : Int) (L : List Gt) : ByteArray := if focB p L = true then tx L (L.length - 1) else ⟨#[]⟩
theorem sprV_at {p : Int} {L : List Gt} (hv : circB p L = true) : sprV p L = szAt L (L.length - 1) := by
  have hl := (circB_iff.1 hv).2.1
  unfold sprV
  rw [if_pos hv]
  exact sizL_st L _ _ (by omega)
/-- a block whose first cells hold texts -/
structure StrW (w : World) (G n : Nat) (F : Nat → Value) : Prop where
  sz : G < w.heap.size
  c : ∀ j, j < n → w.cell? ⟨G, j, none⟩ = some (F j) ∧ w.frozen? ⟨G, j, none⟩ = false
theorem StrW.below {w w' : World} {G n : Nat} {F : Nat → Value} (h : StrW w G n F) (hb : Below w.heap.size w w') : StrW w' G n F :=
  ⟨Nat.lt_of_lt_of_le h.sz hb.size, fun j hj => ⟨by rw [hb.cell (p := ⟨G, j, none⟩) h.sz]; exact (h.c j hj).1, by rw [hb.frozen (p := ⟨G, j, none⟩) h.sz]; exact (h.c j hj).2⟩⟩
theorem StrW.set {w : World} {G n i : Nat} {F : Nat → Value} (h : StrW w G n F) (hi : i < n) (u : Value) : StrW (w.setCell ⟨G, i, none⟩ u) G n (fun j => if j = i then u else F j) := by
  refine ⟨by simpa using h.sz, fun j hj => ⟨?_, by rw [World.frozen?_setCell]; exact (h.c j hj).2⟩⟩
  by_cases e : j = i
  · subst e
    rw [if_pos rfl]
    exact World.cell?_setCell_same _ _ _ (h.c j hj).1
  · rw [if_neg e, World.cell?_setCell_other _ _ _ _ (by simp <;> omega)]
    exact (h.c j hj).1
theorem infoStr : (Try.prog.info? 9).map (fun i => (i.zero, i.size, i.bytes)) = some (some (.string ⟨#[]⟩), 1, 16) := by kernel_rfl
end Go.Proofs.Ytlidplmpglpkgaa
namespace Go.Proofs.Ytlidplmpglpkgaa
open Go.RowKit
theorem madeS (z0 : Array Value) (n i : Nat) (h : i < n) : ∃ u, (madeCells z0 n).toList[i]? = some u := by
  rw [List.getElem?_eq_getElem (by simpa [madeCells] using h)]
  exact ⟨_, rfl⟩
theorem snocZ {l : List Int} {k : Nat} (h : k < l.length) : l.take (k + 1) = l.take k ++ [l.getD k 0] := by
  rw [List.take_succ_eq_append_getElem h]
  simp [List.getD_eq_getElem?_getD, h]
/-- what the program's rounds keep: the texts of the used gates so far -/
structure FoW (L : List Gt) (w0 : World) (B G g2 o2 : Nat) (l : List Int) (t : Nat) (F : Nat → Value) (wr : World) : Prop where
  st : StrW wr G L.length F
  li : ∀ j, j < l.length → wr.cell? ⟨g2, o2 + j, none⟩ = some (.int .i64 (l.getD j 0))
  g2s : g2 < wr.heap.size
  ne : g2 ≠ G
  BG : B ≤ G
  low : Below B w0 wr
  ok : ∀ j : Nat, (j : Int) ∈ l.take t → F j = .string (tx L j)
theorem FoW.below {L : List Gt} {w0 : World} {B G g2 o2 t : Nat} {l : List Int} {F : Nat → Value} {wr w1 : World} (h : FoW L w0 B G g2 o2 l t F wr) (hB : B ≤ w0.heap.size) (hb : Below wr.heap.size wr w1) : FoW L w0 B G g2 o2 l t F w1 :=
  ⟨h.st.below hb, fun j hj => by rw [hb.cell (p := ⟨g2, o2 + j, none⟩) h.g2s]; exact h.li j hj, Nat.lt_of_lt_of_le h.g2s hb.size, h.ne, h.BG, h.low.trans (hb.mono (Nat.le_trans hB h.low.size)), h.ok⟩
theorem FoW.put {L : List Gt} {w0 : World} {B G g2 o2 t i : Nat} {l : List Int} {F : Nat → Value} {wr : World} (h : FoW L w0 B G g2 o2 l t F wr) (hi : i < L.length) (ht : t < l.length) (hl : l.getD t 0 = (i : Int)) :
    FoW L w0 B G g2 o2 l (t + 1) (fun j => if j = i then .string (tx L i) else F j) (wr.setCell ⟨G, i, none⟩ (.string (tx L i))) := by
  refine ⟨h.st.set hi _, fun j hj => ?_, by simpa using h.g2s, h.ne, h.BG, h.low.setCell (p := ⟨G, i, none⟩) h.BG _, fun j hj => ?_⟩
  · rw [World.cell?_setCell_other _ _ _ _ (fun e => h.ne (congrArg Addr.block e).symm)]
    exact h.li j hj
  · by_cases e : j = i
    · rw [if_pos e, e]
    · rw [if_neg e]
      rw [snocZ ht, hl] at hj
      rcases List.mem_append.1 hj with hj | hj
      · exact h.ok j hj
      · exact absurd (by have : (j : Int) = (i : Int) := by simpa using hj
                         omega) e
end Go.Proofs.Ytlidplmpglpkgaa
