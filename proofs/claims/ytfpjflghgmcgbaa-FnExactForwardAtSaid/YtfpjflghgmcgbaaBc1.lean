/-
  Regions that draw their order, with guarded operations and callees that make memory: one walk in the order of the text, an operation at a time.
  q_pure: reads no cell; q_is v: the value is named (the first goal asks for it in every world of the class); q_skip: the guard says no. Ends with 'wpQuiet_nil fun w2 hb2 => ?_'.
-/
import Derived.Test.YtfpjflghgmcgbaaBa2
import Derived.Deep.Quiet
namespace Go.Proofs.Ytfpjflghgmcgbaa
open Go.RowKit
/-- a region that draws its order, whose operations read what was there and whose callees only make new memory: one walk, in the order of the text -/
theorem wp_region_below {P : Program} {id : Nat} {Q : Exit → Act → World → Prop} {a : Act} {w : World} {l : List Oper} (hm : P.follows .mixedOrders = true) (hB : Region.lexB .any l.toArray = true)
    (h : wpQuiet P l.toArray (fun w' => Below w.heap.size w w') (fun a' => ∀ w', Below w.heap.size w w' → Q .normal a' w') l a) : (Code.region id l.toArray true).wp P Q a w :=
  wp_region_quiet (C := fun w' => Below w.heap.size w w') hm hB (by exact ⟨rfl, rfl, rfl, Nat.le_refl _, fun _ _ => rfl⟩) (by simpa using h)
section
variable {P : Program} {ops : Array Oper} {C : World → Prop}
theorem wpQuiet_no {Q : Act → Prop} {a : Act} {o : Oper} {rest : List Oper} (hg : Region.wanted o (yielded ops a.tmps) = false)
    (h : ∀ K : Act → Prop, (∀ a, wpQuiet P ops C Q rest a → K a) → K (a.put o.dst undef)) : wpQuiet P ops C Q (o :: rest) a :=
  wpQuiet_step fun K hK => by rw [hg]; exact h K hK
theorem wpQuiet_yes {Q : Act → Prop} {a : Act} {o : Oper} {rest : List Oper} (hg : Region.wanted o (yielded ops a.tmps) = true)
    (h : ∀ K : Act → Prop, (∀ a, wpQuiet P ops C Q rest a → K a) → o.quiet P a C K) : wpQuiet P ops C Q (o :: rest) a :=
  wpQuiet_step fun K hK => by rw [hg]; exact h K hK
end



theorem DrawnFrom.below' {B : Nat} {a w w' : World} (h : DrawnFrom w w') (hb : Below B a w) : Below B a w' := by
  obtain ⟨n, rfl⟩ := h; exact below_drewN hb n
end Go.Proofs.Ytfpjflghgmcgbaa
