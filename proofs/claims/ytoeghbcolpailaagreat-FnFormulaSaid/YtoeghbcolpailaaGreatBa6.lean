/-
  The program's reader of formulas: its stack of open pairs as a row of cells. Conditions: none.
-/
import Derived.Test.YtoeghbcolpailaaGreatBa5
import Derived.Test.YtoeghbcolpailaaGreatBa4
import Derived.WalkSmall
import Derived.OwnWalk
namespace Go.Proofs.YtoeghbcolpailaaGreat
open Go.RowKit
/-- a formula as a value behind the program's interface -/
def fmV : Fm → Value
  | .leaf k a => .iface 73 (.agg #[.int .i64 k, .int .i64 a, .int .i64 0])
  | .pair k f g => .iface 76 (.agg #[.int .i64 k, fmV f, fmV g])
def optV : Option Fm → Value
  | none => .nilIface
  | some f => fmV f
theorem fmV_one : ∀ f : Fm, (fmV f).oneCell' = true
  | .leaf _ _ => rfl
  | .pair _ _ _ => rfl
theorem optV_one : ∀ f : Option Fm, (optV f).oneCell' = true
  | none => rfl
  | some f => fmV_one f
def cellsP (x : Int × Option Fm) : List Value := [.int .i64 x.1, optV x.2, .nilIface]
/-- the cells of a stack, its last pair last -/
def flatP : Stk → List Value
  | [] => []
  | x :: O => flatP O ++ cellsP x
theorem flatP_len : ∀ O : Stk, (flatP O).length = O.length * 3
  | [] => rfl
  | x :: O => by simp [flatP, cellsP, flatP_len O]; omega
/-- a value that owns a stack of pairs, in a block from B on -/
def StkR (w : World) (B : Nat) (v : Value) (O : Stk) : Prop := w.ownsRow B 76 3 v O.length (flatP O)
theorem StkR.below {w w' : World} {B : Nat} {v : Value} {O : Stk} (h : StkR w B v O) (hb : Below w.heap.size w w') : StkR w' B v O :=
  World.ownsRow.kept (row := none) h ⟨hb.os, hb.tape, hb.output, hb.size, fun k hk _ => hb.block k hk⟩ (by cases v.ownBlock <;> simp)
theorem StkR.nil (w : World) (B : Nat) : StkR w B (.slice none 0 0) [] := World.ownsRow_nil w B _ _
theorem StkR.shape {w : World} {B : Nat} {v : Value} {O : Stk} (h : StkR w B v O) :
    (v = .slice none 0 0 ∧ O = []) ∨ ∃ g cap, v = .slice (some ⟨g, 0, none⟩) O.length cap ∧ B ≤ g ∧ g < w.heap.size ∧ O.length ≤ cap ∧ cap ≤ maxLen := by
  rcases h.2 with ⟨h1, h2⟩ | ⟨g, cap, cur, rfl, hb, hg, hn, hm, _⟩
  · exact .inl ⟨h1, List.length_eq_zero_iff.1 h2⟩
  · exact .inr ⟨g, cap, rfl, hb, (Array.getElem?_eq_some_iff.1 hg).1, hn, hm⟩
theorem StkR.push {w : World} {B : Nat} {v : Value} {O : Stk} {k : Int} (h : w.ownsRow B 76 3 v (O.length + 1) (flatP O ++ [.int .i64 k, .nilIface, .nilIface])) : StkR w B v ((k, none) :: O) := h
theorem StkR.top {w : World} {B : Nat} {g n cap : Nat} {O : Stk} {k : Int} {x : Option Fm} (h : StkR w B (.slice (some ⟨g, 0, none⟩) n cap) ((k, x) :: O)) (hn : n = O.length + 1) :
    w.cell? ⟨g, O.length * 3, none⟩ = some (.int .i64 k) ∧ w.cell? ⟨g, O.length * 3 + 1, none⟩ = some (optV x) ∧ w.cell? ⟨g, O.length * 3 + 2, none⟩ = some .nilIface := by
  subst hn
  have key : ∀ d, d < 3 → w.cell? ⟨g, O.length * 3 + d, none⟩ = (cellsP (k, x))[d]? := fun d hd => by
    rw [World.ownsRow.cellAt h (O.length * 3 + d) (by omega)]
    show (flatP O ++ cellsP (k, x))[_]? = _
    rw [List.getElem?_append_right (by rw [flatP_len]; omega), flatP_len, Nat.add_sub_cancel_left]
  exact ⟨key 0 (by omega), key 1 (by omega), key 2 (by omega)⟩
theorem StkR.frozen {w : World} {B : Nat} {g n cap : Nat} {O : Stk} (h : StkR w B (.slice (some ⟨g, 0, none⟩) n cap) O) (hn : n = O.length) (j : Nat) : w.frozen? ⟨g, j, none⟩ = false := by
  subst hn
  exact World.ownsRow.frozenAt h j
theorem StkR.first {w : World} {B : Nat} {g n cap : Nat} {O : Stk} {k : Int} (h : StkR w B (.slice (some ⟨g, 0, none⟩) n cap) ((k, none) :: O)) (hn : n = O.length + 1) (f : Fm) :
    StkR (w.setCell ⟨g, O.length * 3 + 1, none⟩ (fmV f)) B (.slice (some ⟨g, 0, none⟩) n cap) ((k, some f) :: O) := by
  subst hn
  have e := (World.ownsRow.stored h (O.length * 3 + 1) (fmV f)).1
  have : (flatP ((k, none) :: O)).set (O.length * 3 + 1) (fmV f) = flatP ((k, some f) :: O) := by
    show (flatP O ++ cellsP (k, none)).set _ _ = flatP O ++ cellsP (k, some f)
    rw [List.set_append_right _ _ (by rw [flatP_len]; omega), flatP_len, Nat.add_sub_cancel_left]
    rfl
  rw [this] at e
  exact e
theorem StkR.pop {w : World} {B : Nat} {g n cap : Nat} {O : Stk} {k : Int} {x : Option Fm} (h : StkR w B (.slice (some ⟨g, 0, none⟩) n cap) ((k, x) :: O)) (hn : n = O.length + 1) (f : Fm) :
    StkR (w.setCell ⟨g, O.length * 3 + 2, none⟩ (fmV f)) B (.slice (some ⟨g, 0, none⟩) O.length cap) O := by
  subst hn
  have e := (World.ownsRow.stored h (O.length * 3 + 2) (fmV f)).1
  have : (flatP ((k, x) :: O)).set (O.length * 3 + 2) (fmV f) = flatP O ++ [.int .i64 k, optV x, fmV f] := by
    show (flatP O ++ cellsP (k, x)).set _ _ = _
    rw [List.set_append_right _ _ (by rw [flatP_len]; omega), flatP_len, Nat.add_sub_cancel_left]
    rfl
  rw [this] at e
  exact ownsRow_pop (flatP_len O) e
theorem pair_ok (k : Int) (a b : Value) (ha : a.oneCell' = true) (hb : b.oneCell' = true) : ∀ u : Value, u ∈ [Value.int .i64 k, a, b] → u.oneCell' = true := by
  intro u hu
  simp at hu
  rcases hu with rfl | rfl | rfl
  · rfl
  · exact ha
  · exact hb
end Go.Proofs.YtoeghbcolpailaaGreat
