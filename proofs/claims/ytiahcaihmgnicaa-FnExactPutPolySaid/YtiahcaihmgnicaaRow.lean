/-
  Rows of terms that a call owns. Conditions: none.
-/
import Derived.Test.YtiahcaihmgnicaaTrms
import Derived.OwnWalk
namespace Go.Proofs.Ytiahcaihmgnicaa
open Go.RowKit
def Trm.cs (x : Trm) : List Value := [.int .i64 x.a, .int .i64 x.b, .int .i64 x.c, .int .i64 x.t]
/-- the cells of a list of terms -/
def flat : List Trm → List Value
  | [] => []
  | x :: r => x.cs ++ flat r
theorem flat_len : ∀ L : List Trm, (flat L).length = L.length * 4
  | [] => rfl
  | x :: r => by simp [flat, Trm.cs, flat_len r]; omega
theorem flat_app : ∀ A B : List Trm, flat (A ++ B) = flat A ++ flat B
  | [], _ => rfl
  | x :: r, B => by simp [flat, flat_app r B]
theorem flat_one (x : Trm) : flat [x] = x.cs := by simp [flat]
theorem flat_at : ∀ (L : List Trm) (j d : Nat), j < L.length → d < 4 → (flat L)[j * 4 + d]? = ((L.getD j default).cs)[d]?
  | [], j, d, h, _ => by simp at h
  | x :: r, 0, d, _, hd => by
    show (x.cs ++ flat r)[0 * 4 + d]? = _
    rw [List.getElem?_append_left (by simp [Trm.cs]; omega)]
    simp
  | x :: r, j + 1, d, h, hd => by
    show (x.cs ++ flat r)[(j + 1) * 4 + d]? = _
    rw [List.getElem?_append_right (by simp [Trm.cs]; omega), show (j + 1) * 4 + d - x.cs.length = j * 4 + d by simp [Trm.cs]; omega, flat_at r j d (by simpa using h) hd]
    simp
theorem flat_cell : ∀ (L : List Trm) (u : Value), u ∈ flat L → u.oneCell' = true
  | [], u, h => by simp [flat] at h
  | x :: r, u, h => by
    rcases List.mem_append.1 (show u ∈ x.cs ++ flat r from h) with h | h
    · simp [Trm.cs] at h; rcases h with rfl | rfl | rfl | rfl <;> rfl
    · exact flat_cell r u h
theorem flat_take : ∀ (L : List Trm) (k : Nat), (flat L).take (k * 4) = flat (L.take k)
  | [], k => by simp [flat]
  | x :: r, 0 => by simp [flat]
  | x :: r, k + 1 => by
    show (x.cs ++ flat r).take ((k + 1) * 4) = x.cs ++ flat (r.take k)
    rw [List.take_append, ← flat_take r k, List.take_of_length_le (by simp [Trm.cs]; omega), show (k + 1) * 4 - x.cs.length = k * 4 by simp [Trm.cs]; omega]
theorem flat_drop : ∀ (L : List Trm) (k : Nat), (flat L).drop (k * 4) = flat (L.drop k)
  | [], k => by simp [flat]
  | x :: r, 0 => by simp
  | x :: r, k + 1 => by
    show (x.cs ++ flat r).drop ((k + 1) * 4) = flat (r.drop k)
    rw [List.drop_append, ← flat_drop r k, List.drop_of_length_le (by simp [Trm.cs]; omega), show (k + 1) * 4 - x.cs.length = k * 4 by simp [Trm.cs]; omega]
    rfl
/-- a value that owns a row of terms, in a block from B on -/
def Row (w : World) (B : Nat) (v : Value) (L : List Trm) : Prop := w.ownsRow B 68 4 v L.length (flat L)
theorem Row.tat {w : World} {B g n cap : Nat} {L : List Trm} (h : Row w B (.slice (some ⟨g, 0, none⟩) n cap) L) (hn : n = L.length) {j : Nat} (hj : j < L.length) : TAt w g (j * 4) (L.getD j default) := by
  subst hn
  have key : ∀ d, d < 4 → w.cell? ⟨g, j * 4 + d, none⟩ = ((L.getD j default).cs)[d]? := fun d hd => by
    rw [World.ownsRow.cellAt h (j * 4 + d) (by omega), flat_at L j d hj hd]
  exact ⟨key 0 (by omega), key 1 (by omega), key 2 (by omega), key 3 (by omega)⟩
theorem Row.shape {w : World} {B : Nat} {v : Value} {L : List Trm} (h : Row w B v L) :
    (v = .slice none 0 0 ∧ L = []) ∨ ∃ g cap, v = .slice (some ⟨g, 0, none⟩) L.length cap ∧ B ≤ g ∧ g < w.heap.size ∧ L.length ≤ cap ∧ cap ≤ maxLen := by
  rcases h.2 with ⟨h1, h2⟩ | ⟨g, cap, cur, rfl, hb, hg, hn, hm, _⟩
  · exact .inl ⟨h1, List.length_eq_zero_iff.1 h2⟩
  · exact .inr ⟨g, cap, rfl, hb, (Array.getElem?_eq_some_iff.1 hg).1, hn, hm⟩
theorem Row.own {w : World} {B : Nat} {v : Value} {L : List Trm} (h : Row w B v L) (hl : L.length ≤ 1048576) : OwnTrms w B v L := by
  rcases h.shape with ⟨rfl, rfl⟩ | ⟨g, cap, rfl, hb, hg, hn, hm⟩
  · exact ⟨by simp, none, 0, rfl, .inl rfl⟩
  · exact ⟨hl, _, cap, rfl, .inr ⟨g, 0, rfl, hb, hg, fun j hj => by rw [Nat.zero_add]; exact h.tat rfl hj, fun i _ => World.ownsRow.frozenAt h _⟩⟩
theorem Row.below {w w' : World} {B : Nat} {v : Value} {L : List Trm} (h : Row w B v L) (hb : Below w.heap.size w w') : Row w' B v L :=
  World.ownsRow.kept (row := none) h ⟨hb.os, hb.tape, hb.output, hb.size, fun k hk _ => hb.block k hk⟩ (by cases v.ownBlock <;> simp)
theorem Row.nil (w : World) (B : Nat) : Row w B (.slice none 0 0) [] := World.ownsRow_nil w B _ _
theorem Row.lit0 (w : World) (B : Nat) (hb : B ≤ w.heap.size) : Row (w.alloc (.cells #[] 68)) B (.slice (some ⟨w.heap.size, 0, none⟩) 0 0) [] :=
  World.ownsRow_lit (size := 4) w #[] 0 hb (by unfold maxLen; omega) rfl
/-- growing a row leaves all below alone -/
theorem Row.low {w w' : World} {B : Nat} {v : Value} {L : List Trm} (h : Row w B v L) (hb : B ≤ w.heap.size) (hg : w.grownBy w' v.ownBlock) : Below B w w' :=
  ⟨hg.os, hg.tape, hg.output, hg.size, fun k hk => hg.block k (by omega) (fun e => by have := (World.ownsRow.lt h k e.symm).1; omega)⟩
/-- a call hands back a slice of terms of its own, and a truth value -/
def GivesPB (R : List Trm) (b : Bool) (w : World) (e : Ending) (w' : World) : Prop :=
  ∃ v, e = .returned (.tuple #[v, .bool b]) ∧ OwnTrms w' w.heap.size v R ∧ Below w.heap.size w w'
end Go.Proofs.Ytiahcaihmgnicaa
