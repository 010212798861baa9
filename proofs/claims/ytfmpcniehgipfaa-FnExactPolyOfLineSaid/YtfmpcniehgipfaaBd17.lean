/-
  The comparison of powers as arrays; what put keeps. Conditions: none.
-/
import Derived.Test.YtfmpcniehgipfaaBd12
import Derived.Test.YtfmpcniehgipfaaBd3
import Derived.Test.YtfmpcniehgipfaaBd10
import Derived.Test.YtfmpcniehgipfaaBd9
import Derived.Test.YtfmpcniehgipfaaBd16
import Derived.Deep.RegionHeld3
import Derived.ChangeKeysEq
namespace Go.Proofs.Ytfmpcniehgipfaa
open Go.RowKit
theorem infoI : (Try.prog.info? 3).map (fun i => (i.zero, i.size, i.bytes)) = some (some (.int .i64 0), 1, 8) := by kernel_rfl
theorem cellsI : Try.prog.cellsOf 3 = 1 := by kernel_rfl
theorem runEqA (a b c d e f : Int) (w : World) : (Op.equalIn 10000 89 (.agg #[.int .i64 a, .int .i64 b, .int .i64 c]) (.agg #[.int .i64 d, .int .i64 e, .int .i64 f])).run Try.prog w = .ok (a == d && b == e && c == f) w := by
  obtain ⟨i, hi, _, _, _⟩ := info_parts infoI
  rw [show (10000 : Nat) = 9999 + 1 from rfl, run_equalIn_array w 9999 _ _ Try.underlying89 hi, cellsI]
  show (Op.eqItems 9999 3 1 _ _ [0, 1, 2]).run _ _ = _
  by_cases h1 : a = d <;> by_cases h2 : b = e <;> by_cases h3 : c = f <;> simp [Op.eqItems, go_sem, h1, h2, h3]
theorem runEqA_is (r : Bool) (a b c d e f : Int) (h : (a == d && b == e && c == f) = r) (w : World) : (Op.equalIn 10000 89 (.agg #[.int .i64 a, .int .i64 b, .int .i64 c]) (.agg #[.int .i64 d, .int .i64 e, .int .i64 f])).run Try.prog w = .ok r w := by
  rw [runEqA, h]
/-- a sum: the prime and its terms, in block S -/
structure SumW (w : World) (S : Nat) (p : Int) (v : Value) : Prop where
  c0 : w.cell? ⟨S, 0, none⟩ = some (.int .i64 p)
  c1 : w.cell? ⟨S, 1, none⟩ = some v
  f0 : w.frozen? ⟨S, 0, none⟩ = false
  f1 : w.frozen? ⟨S, 1, none⟩ = false
  sz : S < w.heap.size
theorem SumW.below {w w' : World} {S : Nat} {p : Int} {v : Value} (h : SumW w S p v) (hb : Below w.heap.size w w') : SumW w' S p v := by
  have sz := h.sz
  have e := hb.size
  exact ⟨by rw [hb.cell (p := ⟨S, 0, none⟩) sz]; exact h.c0, by rw [hb.cell (p := ⟨S, 1, none⟩) sz]; exact h.c1, by rw [hb.frozen (p := ⟨S, 0, none⟩) sz]; exact h.f0, by rw [hb.frozen (p := ⟨S, 1, none⟩) sz]; exact h.f1, by omega⟩
theorem SumW.grown {w w' : World} {S : Nat} {p : Int} {v u : Value} (h : SumW w S p v) (hb : w.grownBy w' u.ownBlock) (hne : u.ownBlock ≠ some S) : SumW w' S p v := by
  have sz := h.sz
  have hk := hb.block S sz (fun e => hne e.symm)
  exact ⟨by rw [World.cell?_of_block (a := ⟨S, 0, none⟩) hk]; exact h.c0, by rw [World.cell?_of_block (a := ⟨S, 1, none⟩) hk]; exact h.c1, by rw [World.frozen?_of_block (a := ⟨S, 0, none⟩) hk]; exact h.f0, by rw [World.frozen?_of_block (a := ⟨S, 1, none⟩) hk]; exact h.f1, by have := hb.size; omega⟩
theorem SumW.set {w : World} {S : Nat} {p : Int} {v : Value} (h : SumW w S p v) (u : Value) : SumW (w.setCell ⟨S, 1, none⟩ u) S p u := by
  refine ⟨?_, ?_, ?_, ?_, by simpa using h.sz⟩
  · rw [World.cell?_setCell_other _ _ _ _ (by simp)]; exact h.c0
  · exact World.cell?_setCell_same _ _ _ h.c1
  · rw [World.frozen?_setCell]; exact h.f0
  · rw [World.frozen?_setCell]; exact h.f1
/-- only the sum's block, the row's block and new ones have turned -/
structure Kept (K : Nat → Prop) (w w' : World) : Prop where
  os : w'.os = w.os
  tape : w'.tape = w.tape
  output : w'.output = w.output
  size : w.heap.size ≤ w'.heap.size
  block : ∀ k, k < w.heap.size → ¬ K k → w'.heap[k]? = w.heap[k]?
theorem Kept.refl (K : Nat → Prop) (w : World) : Kept K w w := ⟨rfl, rfl, rfl, Nat.le_refl _, fun _ _ _ => rfl⟩
theorem Kept.trans {K : Nat → Prop} {a b c : World} (h : Kept K a b) (k : Kept K b c) : Kept K a c :=
  ⟨k.os.trans h.os, k.tape.trans h.tape, k.output.trans h.output, Nat.le_trans h.size k.size, fun i hi hn => (k.block i (Nat.lt_of_lt_of_le hi h.size) hn).trans (h.block i hi hn)⟩
theorem Kept.of_below {K : Nat → Prop} {w w' : World} (h : Below w.heap.size w w') : Kept K w w' := ⟨h.os, h.tape, h.output, h.size, fun k hk _ => h.block k hk⟩
theorem Kept.of_grown {K : Nat → Prop} {w w' : World} {row : Option Nat} (h : w.grownBy w' row) (hr : ∀ k, row = some k → K k) : Kept K w w' := ⟨h.os, h.tape, h.output, h.size, fun k hk hn => h.block k hk (fun e => hn (hr k e.symm))⟩
theorem Kept.set {K : Nat → Prop} {a w : World} (h : Kept K a w) {p : Addr} (hp : K p.block ∨ a.heap.size ≤ p.block) (u : Value) : Kept K a (w.setCell p u) :=
  ⟨h.os, h.tape, h.output, by simpa using h.size, fun k hk hn => by rw [Below.heap_setCell _ _ _ _ (fun e => by rcases hp with hp | hp; exact hn (e ▸ hp); omega)]; exact h.block k hk hn⟩
theorem Kept.cell {K : Nat → Prop} {a w : World} (h : Kept K a w) {p : Addr} (hp : p.block < a.heap.size) (hk : ¬ K p.block) : w.cell? p = a.cell? p := World.cell?_of_block (h.block p.block hp hk)
theorem Kept.mono {K K' : Nat → Prop} {a w : World} (h : Kept K a w) (hk : ∀ k, k < a.heap.size → K k → K' k) : Kept K' a w :=
  ⟨h.os, h.tape, h.output, h.size, fun k hk' hn => h.block k hk' (fun x => hn (hk k hk' x))⟩
end Go.Proofs.Ytfmpcniehgipfaa
