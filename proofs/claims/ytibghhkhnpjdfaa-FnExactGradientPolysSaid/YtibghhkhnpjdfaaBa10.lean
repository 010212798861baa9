/-
  Contracts of the exact laws' helpers on slices of numbers: eqIntS, markIntS, heldIntS, acSame. Conditions: what the slices hold is known.
  Rows of integers that a call owns. Conditions: none.
-/
import Derived.Test.YtibghhkhnpjdfaaBa9
import Derived.Test.YtibghhkhnpjdfaaChecked
import Derived.WalkKit
import Derived.Lib.Hide
import Derived.Outline
import Derived.BigQuiet
import Derived.Deep.QuietTactic
import Derived.OwnWalk
import Derived.Test.YtibghhkhnpjdfaaBa2
import Derived.Below
namespace Go.Proofs.Ytibghhkhnpjdfaa
open Go.RowKit
/-- a slice value that reads as a list of numbers in this world -/
def Ints (w : World) (v : Value) (L : List Int) : Prop :=
  L.length ≤ 281474976710656 ∧ ∃ a cap, v = .slice a L.length cap ∧ (L = [] ∨ ∃ g off, a = some ⟨g, off, none⟩ ∧ g < w.heap.size ∧ ∀ j, j < L.length → w.cell? ⟨g, off + j, none⟩ = some (.int .i64 (L.getD j 0)))
/-- only draws lie between two worlds -/
def Drawn (w w' : World) : Prop := ∃ n, w' = w.drewN n
theorem Drawn.refl (w : World) : Drawn w w := ⟨0, rfl⟩
theorem Drawn.more {w w' : World} (h : Drawn w w') (n : Nat) : Drawn w (w'.drewN n) := by
  obtain ⟨m, rfl⟩ := h; exact ⟨m + n, by simp⟩
theorem getD_ext {L M : List Int} (hl : L.length = M.length) (h : ∀ j : Nat, j < L.length → L.getD j 0 = M.getD j 0) : L = M := by
  apply List.ext_getElem hl
  intro j h1 h2
  have := h j h1
  simpa [h1, h2] using this
theorem getD_ne {L M : List Int} (j : Nat) (h : L.getD j 0 ≠ M.getD j 0) : L ≠ M := fun e => h (by rw [e])
theorem snoc_all {P : Nat → Prop} {k : Nat} (h : ∀ j : Nat, j < k → P j) (hk : P k) : ∀ j : Nat, j < k + 1 → P j := by
  intro j hj
  by_cases e : j = k
  · rw [e]; exact hk
  · exact h j (by omega)
theorem ret_bool' {a b : Bool} (h : a = b) : Ending.returned (.bool a) = .returned (.bool b) := by rw [h]
theorem ret_int' {a b : Int} (h : a = b) : Ending.returned (.int .i64 a) = .returned (.int .i64 b) := by rw [h]
/-- the numbers k, k + 1, .. -/
def counts (k : Int) (n : Nat) : List Int := (List.range n).map fun j => k + (j : Nat)
theorem counts_len (k : Int) (n : Nat) : (counts k n).length = n := by simp [counts]
theorem counts_getD (k : Int) (n j : Nat) (h : j < n) : (counts k n).getD j 0 = k + j := by simp [counts, h]
/-- the world inside markIntS, behind j rounds: block g bears the numbers, all else is as it was -/
structure MarkR (g off n : Nat) (k : Int) (j : Nat) (w wr : World) : Prop where
  done : ∀ i : Nat, i < j → wr.cell? ⟨g, off + i, none⟩ = some (.int .i64 (k + (i : Nat)))
  rest : ∀ i : Nat, j ≤ i → i < n → ∃ x, wr.cell? ⟨g, off + i, none⟩ = some x
  froz : ∀ a, wr.frozen? a = w.frozen? a
  far : ∀ b, b ≠ g → wr.heap[b]? = w.heap[b]?
  size : wr.heap.size = w.heap.size
  os : wr.os = w.os
  tape : wr.tape = w.tape
  output : wr.output = w.output
theorem MarkR.step {g off n : Nat} {k : Int} {j : Nat} {w wr : World} (h : MarkR g off n k j w wr) (hj : j < n) :
    MarkR g off n k (j + 1) w (wr.setCell ⟨g, off + j, none⟩ (.int .i64 (k + (j : Nat)))) := by
  obtain ⟨x, hx⟩ := h.rest j (Nat.le_refl _) hj
  constructor
  · intro i hi
    by_cases e : i = j
    · subst e; exact World.cell?_setCell_same _ _ _ hx
    · rw [World.cell?_setCell_other _ _ _ _ (by simp <;> omega)]; exact h.done i (by omega)
  · intro i hi hin
    obtain ⟨y, hy⟩ := h.rest i (by omega) hin
    exact ⟨y, by rw [World.cell?_setCell_other _ _ _ _ (by simp <;> omega)]; exact hy⟩
  · intro a; rw [World.frozen?_setCell]; exact h.froz a
  · intro b hb; rw [Below.heap_setCell _ _ _ _ hb]; exact h.far b hb
  · simpa using h.size
  · exact h.os
  · exact h.tape
  · exact h.output
theorem Drawn.below {w w' : World} (h : Drawn w w') (B : Nat) : Below B w w' := by
  obtain ⟨n, rfl⟩ := h
  exact ⟨rfl, rfl, rfl, Nat.le_refl _, fun _ _ => rfl⟩
theorem Drawn.size {w w' : World} (h : Drawn w w') : w'.heap.size = w.heap.size := by
  obtain ⟨n, rfl⟩ := h; rfl
theorem Ints.below {w w' : World} {v : Value} {L : List Int} (h : Ints w v L) (hb : Below w.heap.size w w') : Ints w' v L := by
  obtain ⟨h1, a, cap, hv, h2⟩ := h
  refine ⟨h1, a, cap, hv, ?_⟩
  rcases h2 with h2 | ⟨g, off, ha, hg, hc⟩
  · exact .inl h2
  · refine .inr ⟨g, off, ha, by have := hb.size; omega, fun j hj => ?_⟩
    rw [hb.cell (p := ⟨g, off + j, none⟩) hg]; exact hc j hj
/-- a slice value of n cells that hold k, k + 1, .., in a block from B on -/
def HeldBy (w : World) (B : Nat) (v : Value) (n : Nat) (k : Int) : Prop :=
  n ≤ 281474976710656 ∧ ∃ a cap, v = .slice a n cap ∧ (n = 0 ∨ ∃ g off, a = some ⟨g, off, none⟩ ∧ B ≤ g ∧ g < w.heap.size ∧ ∀ i : Nat, i < n → w.cell? ⟨g, off + i, none⟩ = some (.int .i64 (k + (i : Nat))))
theorem HeldBy.below {w w' : World} {B : Nat} {v : Value} {n : Nat} {k : Int} (h : HeldBy w B v n k) (hb : Below w.heap.size w w') : HeldBy w' B v n k := by
  obtain ⟨h1, a, cap, hv, h2⟩ := h
  refine ⟨h1, a, cap, hv, ?_⟩
  rcases h2 with h2 | ⟨g, off, ha, hB, hg, hc⟩
  · exact .inl h2
  · refine .inr ⟨g, off, ha, hB, by have := hb.size; omega, fun j hj => ?_⟩
    rw [hb.cell (p := ⟨g, off + j, none⟩) hg]; exact hc j hj
/-- a slice of the call's own, from block B on, that reads as a list of numbers -/
def OwnInts (w : World) (B : Nat) (v : Value) (L : List Int) : Prop :=
  L.length ≤ 281474976710656 ∧ ∃ a cap, v = .slice a L.length cap ∧ (L = [] ∨ ∃ g off, a = some ⟨g, off, none⟩ ∧ B ≤ g ∧ g < w.heap.size ∧ (∀ j, j < L.length → w.cell? ⟨g, off + j, none⟩ = some (.int .i64 (L.getD j 0))) ∧ ∀ j, j < L.length → w.frozen? ⟨g, off + j, none⟩ = false)
theorem OwnInts.ints {w : World} {B : Nat} {v : Value} {L : List Int} (h : OwnInts w B v L) : Ints w v L := by
  obtain ⟨h1, a, cap, hv, h2⟩ := h
  refine ⟨h1, a, cap, hv, ?_⟩
  rcases h2 with h2 | ⟨g, off, ha, _, hg, hc, _⟩
  · exact .inl h2
  · exact .inr ⟨g, off, ha, hg, hc⟩
theorem OwnInts.below {w w' : World} {B : Nat} {v : Value} {L : List Int} (h : OwnInts w B v L) (hb : Below w.heap.size w w') : OwnInts w' B v L := by
  obtain ⟨h1, a, cap, hv, h2⟩ := h
  refine ⟨h1, a, cap, hv, ?_⟩
  rcases h2 with h2 | ⟨g, off, ha, hB, hg, hc, hf⟩
  · exact .inl h2
  · refine .inr ⟨g, off, ha, hB, by have := hb.size; omega, fun j hj => ?_, fun j hj => ?_⟩
    · rw [hb.cell (p := ⟨g, off + j, none⟩) hg]; exact hc j hj
    · rw [hb.frozen (p := ⟨g, off + j, none⟩) hg]; exact hf j hj
theorem own_of_row {w : World} {B : Nat} {e : TypeId} {v : Value} {L : List Int} (h : w.ownsRow B e 1 v L.length (L.map (Value.int .i64))) (hle : L.length ≤ 281474976710656) : OwnInts w B v L := by
  have hl := h.lt
  have h0 := h
  obtain ⟨h1, h2⟩ := h
  rcases h2 with ⟨rfl, h2⟩ | ⟨g, cap, cur, rfl, hg, hh, hn, _, _, _⟩
  · refine ⟨hle, none, 0, by rw [h2], .inl (List.length_eq_zero_iff.1 h2)⟩
  · refine ⟨hle, _, cap, rfl, .inr ⟨g, 0, rfl, hg, (hl g rfl).2, fun j hj => ?_, fun j hj => ?_⟩⟩
    · rw [Nat.zero_add, h0.cellAt j (by omega)]; simp [hj]
    · rw [Nat.zero_add]; exact h0.frozenAt j
end Go.Proofs.Ytibghhkhnpjdfaa
namespace Go.Proofs.Ytibghhkhnpjdfaa
open Go.RowKit
theorem infoInt : (Try.prog.info? 3).map (fun i => (i.zero, i.size, i.bytes)) = some (some (.int .i64 0), 1, 8) := by kernel_rfl
/-- a value that owns a row of integers, in a block from B on -/
def RowI (w : World) (B : Nat) (v : Value) (L : List Int) : Prop := w.ownsRow B 3 1 v L.length (L.map (Value.int .i64))
theorem RowI.shape {w : World} {B : Nat} {v : Value} {L : List Int} (h : RowI w B v L) :
    (v = .slice none 0 0 ∧ L = []) ∨ ∃ g cap, v = .slice (some ⟨g, 0, none⟩) L.length cap ∧ B ≤ g ∧ g < w.heap.size ∧ L.length ≤ cap ∧ cap ≤ maxLen ∧ ∀ j : Nat, j < L.length → w.cell? ⟨g, j, none⟩ = some (.int .i64 (L.getD j 0)) := by
  have h0 := h
  rcases h.2 with ⟨h1, h2⟩ | ⟨g, cap, cur, rfl, hb, hg, hn, hm, _⟩
  · exact .inl ⟨h1, List.length_eq_zero_iff.1 h2⟩
  · exact .inr ⟨g, cap, rfl, hb, (Array.getElem?_eq_some_iff.1 hg).1, hn, hm, fun j hj => by rw [World.ownsRow.cellAt h0 j (by omega)]; simp [hj]⟩
theorem RowI.shape' {w : World} {B n : Nat} {v : Value} {L : List Int} (h : RowI w B v L) (hl : L.length = n) :
    (v = .slice none 0 0 ∧ n = 0) ∨ ∃ g cap, v = .slice (some ⟨g, 0, none⟩) n cap ∧ B ≤ g ∧ g < w.heap.size ∧ n ≤ cap ∧ cap ≤ maxLen ∧ ∀ j : Nat, j < n → w.cell? ⟨g, j, none⟩ = some (.int .i64 (L.getD j 0)) := by
  subst hl
  rcases h.shape with ⟨h1, h2⟩ | h
  · exact .inl ⟨h1, by rw [h2]; rfl⟩
  · exact .inr h
theorem RowI.form {w : World} {B n : Nat} {v : Value} {L : List Int} (h : RowI w B v L) (hl : L.length = n) : ∃ a cap, v = .slice a n cap := by
  rcases h.shape' hl with ⟨rfl, rfl⟩ | ⟨g, cap, rfl, _⟩
  · exact ⟨none, 0, rfl⟩
  · exact ⟨_, cap, rfl⟩
theorem RowI.below {w w' : World} {B : Nat} {v : Value} {L : List Int} (h : RowI w B v L) (hb : Below w.heap.size w w') : RowI w' B v L :=
  World.ownsRow.kept (row := none) h ⟨hb.os, hb.tape, hb.output, hb.size, fun k hk _ => hb.block k hk⟩ (by cases v.ownBlock <;> simp)
theorem RowI.nil (w : World) (B : Nat) : RowI w B (.slice none 0 0) [] := World.ownsRow_nil w B _ _
theorem RowI.lit0 (w : World) (B : Nat) (hb : B ≤ w.heap.size) : RowI (w.alloc (.cells #[] 3)) B (.slice (some ⟨w.heap.size, 0, none⟩) 0 0) [] :=
  World.ownsRow_lit (size := 1) w #[] 0 hb (by unfold maxLen; omega) rfl
theorem RowI.own {w : World} {B : Nat} {v : Value} {L : List Int} (h : RowI w B v L) (hle : L.length ≤ 281474976710656) : OwnInts w B v L := own_of_row h hle
theorem ownI_base {w : World} {B B' : Nat} {v : Value} {L : List Int} (h : OwnInts w B v L) (hB : B' ≤ B) : OwnInts w B' v L := by
  obtain ⟨h1, a, cap, hv, h2⟩ := h
  refine ⟨h1, a, cap, hv, ?_⟩
  rcases h2 with h2 | ⟨g, off, ha, hb, r⟩
  · exact .inl h2
  · exact .inr ⟨g, off, ha, by omega, r⟩
/-- growing a row leaves all below alone -/
theorem RowI.low {w w' : World} {B : Nat} {v : Value} {L : List Int} (h : RowI w B v L) (hb : B ≤ w.heap.size) (hg : w.grownBy w' v.ownBlock) : Below B w w' :=
  ⟨hg.os, hg.tape, hg.output, hg.size, fun k hk => hg.block k (by omega) (fun e => by have := (World.ownsRow.lt h k e.symm).1; omega)⟩
theorem RowI.snoc {w : World} {B : Nat} {v : Value} {L : List Int} {n : Int} (h : w.ownsRow B 3 1 v (L.length + 1) (L.map (Value.int .i64) ++ [.int .i64 n])) : RowI w B v (L ++ [n]) := by
  unfold RowI; simpa using h
theorem RowI.grow {w0 wr W w2 : World} {B : Nat} {v : Value} {L : List Int} (h : RowI wr B v L) (h0 : Below B w0 wr) (hB : B ≤ wr.heap.size) (hW : Below wr.heap.size wr W) (hg : W.grownBy w2 v.ownBlock) : Below B w0 w2 :=
  h0.trans ((hW.mono hB).trans (RowI.low (h.below hW) (Nat.le_trans hB hW.size) hg))
/-- the one integer of a new slice -/
theorem new_one (w : World) (n : Int) : ∀ (j : Nat) (u : Value), [Value.int .i64 n][j]? = some u → (w.alloc (Obj.cells #[.int .i64 n] 3)).cell? ((⟨w.heap.size, 0, none⟩ : Addr).add (j * 1)) = some u := by
  intro j u hj
  match j, hj with
  | 0, hj => simp at hj; subst hj; simp [Addr.add]
theorem one_ok (n : Int) : ∀ u : Value, u ∈ [Value.int .i64 n] → u.oneCell' = true := by
  intro u hu; simp at hu; subst hu; rfl
end Go.Proofs.Ytibghhkhnpjdfaa
