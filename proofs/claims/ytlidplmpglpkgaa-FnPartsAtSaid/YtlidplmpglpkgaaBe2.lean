/-
  Rows of gates that a call owns. Conditions: none.
-/
import Derived.Test.YtlidplmpglpkgaaBa4
import Derived.Test.YtlidplmpglpkgaaBa8
import Derived.OwnWalk
namespace Go.Proofs.Ytlidplmpglpkgaa
open Go.RowKit
def Gt.cs (x : Gt) : List Value := [.int .i64 x.k, .int .i64 x.a, .int .i64 x.b]
/-- the cells of a list of gates -/
def flatG : List Gt → List Value
  | [] => []
  | x :: r => x.cs ++ flatG r
theorem flatG_len : ∀ L : List Gt, (flatG L).length = L.length * 3
  | [] => rfl
  | x :: r => by simp [flatG, Gt.cs, flatG_len r]; omega
theorem flatG_app : ∀ A B : List Gt, flatG (A ++ B) = flatG A ++ flatG B
  | [], _ => rfl
  | x :: r, B => by simp [flatG, flatG_app r B]
theorem flatG_one (x : Gt) : flatG [x] = x.cs := by simp [flatG]
theorem flatG_at : ∀ (L : List Gt) (j d : Nat), j < L.length → d < 3 → (flatG L)[j * 3 + d]? = ((L.getD j default).cs)[d]?
  | [], j, d, h, _ => by simp at h
  | x :: r, 0, d, _, hd => by
    show (x.cs ++ flatG r)[0 * 3 + d]? = _
    rw [List.getElem?_append_left (by simp [Gt.cs]; omega)]
    simp
  | x :: r, j + 1, d, h, hd => by
    show (x.cs ++ flatG r)[(j + 1) * 3 + d]? = _
    rw [List.getElem?_append_right (by simp [Gt.cs]; omega), show (j + 1) * 3 + d - x.cs.length = j * 3 + d by simp [Gt.cs]; omega, flatG_at r j d (by simpa using h) hd]
    simp
theorem flatG_cell : ∀ (L : List Gt) (u : Value), u ∈ flatG L → u.oneCell' = true
  | [], u, h => by simp [flatG] at h
  | x :: r, u, h => by
    rcases List.mem_append.1 (show u ∈ x.cs ++ flatG r from h) with h | h
    · simp [Gt.cs] at h; rcases h with rfl | rfl | rfl <;> rfl
    · exact flatG_cell r u h
theorem flatG_take : ∀ (L : List Gt) (k : Nat), (flatG L).take (k * 3) = flatG (L.take k)
  | [], k => by simp [flatG]
  | x :: r, 0 => by simp [flatG]
  | x :: r, k + 1 => by
    show (x.cs ++ flatG r).take ((k + 1) * 3) = x.cs ++ flatG (r.take k)
    rw [List.take_append, ← flatG_take r k, List.take_of_length_le (by simp [Gt.cs]; omega), show (k + 1) * 3 - x.cs.length = k * 3 by simp [Gt.cs]; omega]
theorem flatG_drop : ∀ (L : List Gt) (k : Nat), (flatG L).drop (k * 3) = flatG (L.drop k)
  | [], k => by simp [flatG]
  | x :: r, 0 => by simp
  | x :: r, k + 1 => by
    show (x.cs ++ flatG r).drop ((k + 1) * 3) = flatG (r.drop k)
    rw [List.drop_append, ← flatG_drop r k, List.drop_of_length_le (by simp [Gt.cs]; omega), show (k + 1) * 3 - x.cs.length = k * 3 by simp [Gt.cs]; omega]
    rfl
/-- a value that owns a row of gates, in a block from B on -/
def RowGt (w : World) (B : Nat) (v : Value) (L : List Gt) : Prop := w.ownsRow B 137 3 v L.length (flatG L)
theorem RowGt.tat {w : World} {B g n cap : Nat} {L : List Gt} (h : RowGt w B (.slice (some ⟨g, 0, none⟩) n cap) L) (hn : n = L.length) {j : Nat} (hj : j < L.length) : GAt w g (j * 3) (L.getD j default) := by
  subst hn
  have key : ∀ d, d < 3 → w.cell? ⟨g, j * 3 + d, none⟩ = ((L.getD j default).cs)[d]? := fun d hd => by
    rw [World.ownsRow.cellAt h (j * 3 + d) (by omega), flatG_at L j d hj hd]
  exact ⟨key 0 (by omega), key 1 (by omega), key 2 (by omega)⟩
theorem RowGt.shape {w : World} {B : Nat} {v : Value} {L : List Gt} (h : RowGt w B v L) :
    (v = .slice none 0 0 ∧ L = []) ∨ ∃ g cap, v = .slice (some ⟨g, 0, none⟩) L.length cap ∧ B ≤ g ∧ g < w.heap.size ∧ L.length ≤ cap ∧ cap ≤ maxLen := by
  rcases h.2 with ⟨h1, h2⟩ | ⟨g, cap, cur, rfl, hb, hg, hn, hm, _⟩
  · exact .inl ⟨h1, List.length_eq_zero_iff.1 h2⟩
  · exact .inr ⟨g, cap, rfl, hb, (Array.getElem?_eq_some_iff.1 hg).1, hn, hm⟩
theorem RowGt.own {w : World} {B : Nat} {v : Value} {L : List Gt} (h : RowGt w B v L) (hl : L.length ≤ 1048576) : OwnGats w B v L := by
  rcases h.shape with ⟨rfl, rfl⟩ | ⟨g, cap, rfl, hb, hg, hn, hm⟩
  · exact ⟨by simp, none, 0, rfl, .inl rfl⟩
  · exact ⟨hl, _, cap, rfl, .inr ⟨g, 0, rfl, hb, hg, fun j hj => by rw [Nat.zero_add]; exact h.tat rfl hj, fun i _ => World.ownsRow.frozenAt h _⟩⟩
theorem RowGt.below {w w' : World} {B : Nat} {v : Value} {L : List Gt} (h : RowGt w B v L) (hb : Below w.heap.size w w') : RowGt w' B v L :=
  World.ownsRow.kept (row := none) h ⟨hb.os, hb.tape, hb.output, hb.size, fun k hk _ => hb.block k hk⟩ (by cases v.ownBlock <;> simp)
theorem RowGt.nil (w : World) (B : Nat) : RowGt w B (.slice none 0 0) [] := World.ownsRow_nil w B _ _
theorem RowGt.lit0 (w : World) (B : Nat) (hb : B ≤ w.heap.size) : RowGt (w.alloc (.cells #[] 137)) B (.slice (some ⟨w.heap.size, 0, none⟩) 0 0) [] :=
  World.ownsRow_lit (size := 3) w #[] 0 hb (by unfold maxLen; omega) rfl
/-- growing a row leaves all below alone -/
theorem RowGt.low {w w' : World} {B : Nat} {v : Value} {L : List Gt} (h : RowGt w B v L) (hb : B ≤ w.heap.size) (hg : w.grownBy w' v.ownBlock) : Below B w w' :=
  ⟨hg.os, hg.tape, hg.output, hg.size, fun k hk => hg.block k (by omega) (fun e => by have := (World.ownsRow.lt h k e.symm).1; omega)⟩
theorem RowGt.grow {w0 wr W w2 : World} {B : Nat} {v : Value} {L : List Gt} (h : RowGt wr B v L) (h0 : Below B w0 wr) (hB : B ≤ wr.heap.size) (hW : Below wr.heap.size wr W) (hg : W.grownBy w2 v.ownBlock) : Below B w0 w2 :=
  h0.trans ((hW.mono hB).trans (RowGt.low (h.below hW) (Nat.le_trans hB hW.size) hg))
theorem RowGt.snoc {w : World} {B : Nat} {v : Value} {L : List Gt} (x : Gt) (h : w.ownsRow B 137 3 v (L.length + 1) (flatG L ++ [.int .i64 x.k, .int .i64 x.a, .int .i64 x.b])) : RowGt w B v (L ++ [x]) := by
  unfold RowGt
  rw [flatG_app, flatG_one]
  simpa [Gt.cs] using h
theorem RowGt.app {w : World} {B n : Nat} {v : Value} {L M : List Gt} (hn : n = M.length) (h : w.ownsRow B 137 3 v (L.length + n) (flatG L ++ flatG M)) : RowGt w B v (L ++ M) := by
  unfold RowGt
  rw [flatG_app]
  subst hn
  simpa using h
theorem RowGt.slice {w : World} {B : Nat} {v : Value} {L : List Gt} {x : Gt} (h : RowGt w B v (L ++ [x])) : ∃ g cap, v = .slice (some ⟨g, 0, none⟩) (L.length + 1) cap ∧ B ≤ g ∧ g < w.heap.size := by
  rcases h.shape with ⟨_, h0⟩ | ⟨g, cap, rfl, h1, h2, _⟩
  · simp at h0
  · exact ⟨g, cap, by simp, h1, h2⟩
theorem RowGt.block {w : World} {B G : Nat} {v : Value} {L : List Gt} (h : RowGt w B v L) (hG : G < B) : v.ownBlock ≠ some G := fun e => by
  have := (World.ownsRow.lt h G e).1
  omega
theorem RowGt.setFar {w : World} {B G : Nat} {v : Value} {L : List Gt} (h : RowGt w B v L) (hG : G < B) (o : Nat) (u : Value) : RowGt (w.setCell ⟨G, o, none⟩ u) B v L :=
  World.ownsRow.kept (row := some G) h ⟨rfl, rfl, rfl, by simp, fun k hk hne => Below.heap_setCell _ _ _ _ (fun e => hne (by rw [e]))⟩ (.inr (fun e => h.block hG e))
theorem RowGt.mono {w : World} {B B' : Nat} {v : Value} {L : List Gt} (h : RowGt w B v L) (hb : B' ≤ B) : RowGt w B' v L := by
  refine ⟨h.1, ?_⟩
  rcases h.2 with h | ⟨g, cap, cur, hv, hg, r⟩
  · exact .inl h
  · exact .inr ⟨g, cap, cur, hv, by omega, r⟩
theorem gate_ok (k a b : Int) : ∀ u : Value, u ∈ [Value.int .i64 k, .int .i64 a, .int .i64 b] → u.oneCell' = true := by
  intro u hu; simp at hu; rcases hu with rfl | rfl | rfl <;> rfl
end Go.Proofs.Ytlidplmpglpkgaa
