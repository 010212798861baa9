/-
  Contracts of the program's DepthOf and FormalDegree. Conditions: what the slice holds is known.
-/
import Derived.Test.YtiahcaihmgnicaaFdg
import Derived.Deep.RegionHeld3
namespace Go.Proofs.Ytiahcaihmgnicaa
open Go.RowKit
/-- a block whose first sixty cells hold the numbers of a list, and 0 behind them -/
def ArrI (w : World) (g : Nat) (D : List Int) : Prop :=
  g < w.heap.size ∧ ∀ j : Nat, j < 60 → w.cell? ⟨g, j, none⟩ = some (.int .i64 (D.getD j 0)) ∧ w.frozen? ⟨g, j, none⟩ = false
theorem ArrI.below {w w' : World} {B g : Nat} {D : List Int} (h : ArrI w g D) (hb : Below B w w') (hg : g < B) : ArrI w' g D :=
  ⟨Nat.lt_of_lt_of_le h.1 hb.size, fun j hj => ⟨by rw [hb.cell (p := ⟨g, j, none⟩) hg]; exact (h.2 j hj).1, by rw [hb.frozen (p := ⟨g, j, none⟩) hg]; exact (h.2 j hj).2⟩⟩
theorem getD_snoc (D : List Int) (v : Int) (i : Nat) : (D ++ [v]).getD i 0 = if i = D.length then v else D.getD i 0 := by
  simp only [List.getD_eq_getElem?_getD]
  by_cases h : i < D.length
  · rw [List.getElem?_append_left h, if_neg (by omega)]
  · rw [List.getElem?_append_right (by omega)]
    by_cases e : i = D.length
    · rw [if_pos e, e]; simp
    · rw [if_neg e, List.getElem?_eq_none (by simp; omega), List.getElem?_eq_none (by omega)]
theorem ArrI.zero {w : World} {g : Nat} {D : List Int} (h : ArrI w g D) : ArrI w g (D ++ [0]) :=
  ⟨h.1, fun j hj => ⟨by rw [(h.2 j hj).1, getD_snoc]; split
                        · rename_i e; rw [List.getD_eq_getElem?_getD, List.getElem?_eq_none (by omega)]; rfl
                        · rfl, (h.2 j hj).2⟩⟩
theorem ArrI.set {w : World} {g k : Nat} {D : List Int} (h : ArrI w g D) (hl : D.length = k) (hk : k < 60) (v : Int) : ArrI (w.setCell ⟨g, k, none⟩ (.int .i64 v)) g (D ++ [v]) := by
  refine ⟨by simpa using h.1, fun j hj => ⟨?_, by rw [World.frozen?_setCell]; exact (h.2 j hj).2⟩⟩
  rw [getD_snoc]
  by_cases e : j = k
  · rw [if_pos (by omega), e]
    exact World.cell?_setCell_same _ _ _ (h.2 k hk).1
  · rw [if_neg (by omega), World.cell?_setCell_other _ _ _ _ (by simp <;> omega)]
    exact (h.2 j hj).1
theorem ArrI.new (w : World) (ty : TypeId) : ArrI (w.alloc (.cells (Array.replicate 60 (.int .i64 0)) ty)) w.heap.size [] := by
  refine ⟨by simp, fun j hj => ⟨?_, ?_⟩⟩
  · rw [World.cell?_alloc_new]; simp [hj]
  · rw [World.frozen?_alloc_new]
theorem addr_ne {b b' o o' : Nat} (h : b ≠ b' ∨ o ≠ o') : (⟨b, o, none⟩ : Addr) ≠ ⟨b', o', none⟩ := by
  intro e
  injection e with e1 e2
  omega
theorem iLast (a : Option Addr) (n cap m : Nat) (hn : n ≤ 1048576) (hm : (n : Int) - 1 = (m : Int)) (w : World) :
    Calls Try.prog 93 #[.slice a n cap] w fun e w' => e = .returned (.int .i64 m) ∧ w = w' := by
  have hw := IntWalk.i64_in ((n : Int) - 1) (by omega)
  rw [hm] at hw
  go_enter Try.func93, Try.ntmps93
  go_wp2
  go_ret
  exact ⟨rfl, rfl⟩
end Go.Proofs.Ytiahcaihmgnicaa
