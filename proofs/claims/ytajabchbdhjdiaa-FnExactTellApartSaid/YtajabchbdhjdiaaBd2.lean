/-
  Rows of integers that a call owns. Conditions: none.
-/
import Derived.Test.YtajabchbdhjdiaaBa9
import Derived.Test.YtajabchbdhjdiaaBa2
import Derived.Below
import Derived.OwnWalk
namespace Go.Proofs.Ytajabchbdhjdiaa
open Go.RowKit
theorem infoInt : (Try.prog.info? 3).map (fun i => (i.zero, i.size, i.bytes)) = some (some (.int .i64 0), 1, 8) := by kernel_rfl
/-- a value that owns a row of integers, in a block from B on -/
def RowI (w : World) (B : Nat) (v : Value) (L : List Int) : Prop := w.ownsRow B 3 1 v L.length (L.map (Value.int .i64))
theorem RowI.shape {w : World} {B : Nat} {v : Value} {L : List Int} (h : RowI w B v L) :
    (v = .slice none 0 0 ∧ L = []) ∨ ∃ g cap, v = .slice (some ⟨g, 0, none⟩) L.length cap ∧ B ≤ g ∧ g < w.heap.size ∧ L.length ≤ cap ∧ cap ≤ maxLen ∧ ∀ j : Nat, j < L.length → w.cell? ⟨g, j, none⟩ = some (.int .i64 (L.getD j 0)) := by
  have h0 := h
  rcases h.2 with ⟨h1, h2⟩ | ⟨g, cap, cur, rfl, hb, hg, hn, hm, _⟩
  · exact .inl ⟨h1, List.length_eq_zero_iff.1 h2⟩
  · exact .inr ⟨g, cap, rfl, hb, (Array.getElem?_eq_some_iff.1 hg).1, hn, hm, fun j hj => by rw [World.ownsRow.cellAt h0 j (by omega)]; simp [hj]⟩
theorem RowI.shape' {w : World} {B n : Nat} {v : Value} {L : List Int} (h : RowI w B v L) (hl : L.length = n) :
    (v = .slice none 0 0 ∧ n = 0) ∨ ∃ g cap, v = .slice (some ⟨g, 0, none⟩) n cap ∧ B ≤ g ∧ g < w.heap.size ∧ n ≤ cap ∧ cap ≤ maxLen ∧ ∀ j : Nat, j < n → w.cell? ⟨g, j, none⟩ = some (.int .i64 (L.getD j 0)) := by
  subst hl
  rcases h.shape with ⟨h1, h2⟩ | h
  · exact .inl ⟨h1, by rw [h2]; rfl⟩
  · exact .inr h
theorem RowI.form {w : World} {B n : Nat} {v : Value} {L : List Int} (h : RowI w B v L) (hl : L.length = n) : ∃ a cap, v = .slice a n cap := by
  rcases h.shape' hl with ⟨rfl, rfl⟩ | ⟨g, cap, rfl, _⟩
  · exact ⟨none, 0, rfl⟩
  · exact ⟨_, cap, rfl⟩
theorem RowI.below {w w' : World} {B : Nat} {v : Value} {L : List Int} (h : RowI w B v L) (hb : Below w.heap.size w w') : RowI w' B v L :=
  World.ownsRow.kept (row := none) h ⟨hb.os, hb.tape, hb.output, hb.size, fun k hk _ => hb.block k hk⟩ (by cases v.ownBlock <;> simp)
theorem RowI.nil (w : World) (B : Nat) : RowI w B (.slice none 0 0) [] := World.ownsRow_nil w B _ _
theorem RowI.lit0 (w : World) (B : Nat) (hb : B ≤ w.heap.size) : RowI (w.alloc (.cells #[] 3)) B (.slice (some ⟨w.heap.size, 0, none⟩) 0 0) [] :=
  World.ownsRow_lit (size := 1) w #[] 0 hb (by unfold maxLen; omega) rfl
theorem RowI.own {w : World} {B : Nat} {v : Value} {L : List Int} (h : RowI w B v L) (hle : L.length ≤ 281474976710656) : OwnInts w B v L := own_of_row h hle
theorem ownI_base {w : World} {B B' : Nat} {v : Value} {L : List Int} (h : OwnInts w B v L) (hB : B' ≤ B) : OwnInts w B' v L := by
  obtain ⟨h1, a, cap, hv, h2⟩ := h
  refine ⟨h1, a, cap, hv, ?_⟩
  rcases h2 with h2 | ⟨g, off, ha, hb, r⟩
  · exact .inl h2
  · exact .inr ⟨g, off, ha, by omega, r⟩
/-- growing a row leaves all below alone -/
theorem RowI.low {w w' : World} {B : Nat} {v : Value} {L : List Int} (h : RowI w B v L) (hb : B ≤ w.heap.size) (hg : w.grownBy w' v.ownBlock) : Below B w w' :=
  ⟨hg.os, hg.tape, hg.output, hg.size, fun k hk => hg.block k (by omega) (fun e => by have := (World.ownsRow.lt h k e.symm).1; omega)⟩
theorem RowI.snoc {w : World} {B : Nat} {v : Value} {L : List Int} {n : Int} (h : w.ownsRow B 3 1 v (L.length + 1) (L.map (Value.int .i64) ++ [.int .i64 n])) : RowI w B v (L ++ [n]) := by
  unfold RowI; simpa using h
theorem RowI.grow {w0 wr W w2 : World} {B : Nat} {v : Value} {L : List Int} (h : RowI wr B v L) (h0 : Below B w0 wr) (hB : B ≤ wr.heap.size) (hW : Below wr.heap.size wr W) (hg : W.grownBy w2 v.ownBlock) : Below B w0 w2 :=
  h0.trans ((hW.mono hB).trans (RowI.low (h.below hW) (Nat.le_trans hB hW.size) hg))
/-- the one integer of a new slice -/
theorem new_one (w : World) (n : Int) : ∀ (j : Nat) (u : Value), [Value.int .i64 n][j]? = some u → (w.alloc (Obj.cells #[.int .i64 n] 3)).cell? ((⟨w.heap.size, 0, none⟩ : Addr).add (j * 1)) = some u := by
  intro j u hj
  match j, hj with
  | 0, hj => simp at hj; subst hj; simp [Addr.add]
theorem one_ok (n : Int) : ∀ u : Value, u ∈ [Value.int .i64 n] → u.oneCell' = true := by
  intro u hu; simp at hu; subst hu; rfl
end Go.Proofs.Ytajabchbdhjdiaa
