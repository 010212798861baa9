/-
  Points: three integers in a block; their checks; the exact laws' copy of them. Conditions: what the block holds is known.
-/
import Derived.Test.YtlidplmpglpkgaaBa2
import Derived.Test.YtlidplmpglpkgaaBa9
namespace Go.Proofs.Ytlidplmpglpkgaa
open Go.RowKit
/-- three cells that hold a point -/
def PtAt (w : World) (g : Nat) (x y z : Int) : Prop :=
  w.cell? ⟨g, 0, none⟩ = some (.int .i64 x) ∧ w.cell? ⟨g, 1, none⟩ = some (.int .i64 y) ∧ w.cell? ⟨g, 2, none⟩ = some (.int .i64 z)
theorem PtAt.below {w w' : World} {B g : Nat} {x y z : Int} (h : PtAt w g x y z) (hb : Below B w w') (hg : g < B) : PtAt w' g x y z := by
  obtain ⟨h0, h1, h2⟩ := h
  refine ⟨?_, ?_, ?_⟩
  · rw [hb.cell (p := ⟨g, 0, none⟩) hg]; exact h0
  · rw [hb.cell (p := ⟨g, 1, none⟩) hg]; exact h1
  · rw [hb.cell (p := ⟨g, 2, none⟩) hg]; exact h2
def isE3 (p x y z : Int) : Bool := isE p x && (isE p y && isE p z)
theorem iAE3 (r : Bool) (p x y z : Int) (hp : isP p = true) (hr : isE3 p x y z = r) (b : Nat) (w : World) (h : PtAt w b x y z) :
    Calls Try.prog 101 #[.int .i64 p, .slice (some ⟨b, 0, none⟩) 3 3] w fun e w' => e = .returned (.bool r) ∧ w = w' := by
  have : r = [x, y, z].all (isE p) := by simp [← hr, isE3]
  rw [this]; refine iAE_p p hp b 0 [x, y, z] w (by simp) ?_
  obtain ⟨h0, h1, h2⟩ := h
  intro k hk
  match k, hk with
  | 0, _ => simpa using h0
  | 1, _ => simpa using h1
  | 2, _ => simpa using h2
theorem sEl3 (r : Bool) (p x y z : Int) (hp : isP p = true) (hr : isE3 p x y z = r) (b : Nat) (w : World) (h : PtAt w b x y z) :
    Calls Try.prog 134 #[.int .i64 p, .slice (some ⟨b, 0, none⟩) 3 3] w fun e w' => e = .returned (.bool r) ∧ w = w' := by
  have : r = [x, y, z].all (isE p) := by simp [← hr, isE3]
  rw [this]; refine sEl_p p hp b 0 [x, y, z] w (by simp) ?_
  obtain ⟨h0, h1, h2⟩ := h
  intro k hk
  match k, hk with
  | 0, _ => simpa using h0
  | 1, _ => simpa using h1
  | 2, _ => simpa using h2
theorem toA3b (a b c : Int) (w : World) :
    Calls Try.prog 223 #[.agg #[.int .i64 a, .int .i64 b, .int .i64 c]] w fun e w' => e = .returned (.agg #[.int .i64 a, .int .i64 b, .int .i64 c]) ∧ Below w.heap.size w w' :=
  (toA3 a b c w).mono fun e w' ⟨h1, h2⟩ => ⟨h1, by subst h2; unfold three; exact Below.alloc (Below.alloc (Below.alloc (Below.refl _ _) (by omega) _) (by simp) _) (by simp; omega) _⟩
theorem keepPt {W w1 : World} {b : Nat} {x y z : Int} (hb : Below W.heap.size W w1) (h1 : b < W.heap.size) (h : W.cell? ⟨b, 0, none⟩ = some (.int .i64 x) ∧ W.cell? ⟨b, 1, none⟩ = some (.int .i64 y) ∧ W.cell? ⟨b, 2, none⟩ = some (.int .i64 z)) :
    w1.cell? ⟨b, 0, none⟩ = some (.int .i64 x) ∧ w1.cell? ⟨b, 1, none⟩ = some (.int .i64 y) ∧ w1.cell? ⟨b, 2, none⟩ = some (.int .i64 z) := PtAt.below h hb h1
end Go.Proofs.Ytlidplmpglpkgaa
