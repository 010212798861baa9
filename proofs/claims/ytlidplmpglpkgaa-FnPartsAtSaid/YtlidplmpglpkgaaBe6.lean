/-
  The program's map with gates as keys: its entries, looking up, storing a new one. Conditions: none.
-/
import Derived.Test.YtlidplmpglpkgaaBe2
import Derived.DeepKeys4
import Derived.Maps.Own
namespace Go.Proofs.Ytlidplmpglpkgaa
open Go.RowKit
def eqGt (x y : Gt) : Bool := x.k == y.k && x.a == y.a && x.b == y.b
theorem eqGt_iff {x y : Gt} : eqGt x y = true ↔ x = y := by
  cases x; cases y
  simp [eqGt, and_assoc]
theorem run_eqGt (x y : Gt) (w : World) : (Op.equal 137 x.v y.v).run Try.prog w = .ok (eqGt x y) w := by
  unfold Op.equal Gt.v eqGt
  simp [go_sem, Op.maxDepth]
  cases h1 : x.k == y.k <;> cases h2 : x.a == y.a <;> cases h3 : x.b == y.b <;> simp_all
theorem run_checkI (em : Bool) (n : Nat) (a : Int) (w : World) : (Instr.checkKey em (n + 1) 3 (.int .i64 a)).run Try.prog w = .ok () w := by
  simp only [Instr.checkKey, Sem.run_bind, run_underlying Try.underlying3, Result.andThen_ok]
  rfl
theorem run_partI (xs : Array Value) (i : Nat) (v : Value) (h : xs[i]? = some v) (w : World) : (part 3 xs i).run Try.prog w = .ok v w :=
  run_part_plain w (by kernel_rfl) h
theorem run_checkGt (em : Bool) (x : Gt) (w : World) : (Instr.checkKey em 10000 137 x.v).run Try.prog w = .ok () w := by
  unfold Gt.v
  have p0 := fun w => run_partI #[.int .i64 x.k, .int .i64 x.a, .int .i64 x.b] 0 (.int .i64 x.k) rfl w
  have p1 := fun w => run_partI #[.int .i64 x.k, .int .i64 x.a, .int .i64 x.b] 1 (.int .i64 x.a) rfl w
  have p2 := fun w => run_partI #[.int .i64 x.k, .int .i64 x.a, .int .i64 x.b] 2 (.int .i64 x.b) rfl w
  rw [show (10000 : Nat) = 9998 + 1 + 1 from rfl]
  generalize hn : 9998 + 1 = n
  simp only [Instr.checkKey, Sem.run_bind, run_underlying Try.underlying137, Result.andThen_ok]
  subst hn
  simp only [List.forIn_toArray, List.forIn_cons, List.forIn_nil, ne_eq, String.reduceEq, not_false_eq_true, if_true, Sem.run_bind, p0, p1, p2, run_checkI, Result.andThen_ok, Sem.run_pure]
/-- the entries of the map: each gate with its number -/
def entsG : Nat → List Gt → List MapEntry
  | _, [] => []
  | i, x :: r => ⟨x.v, .int .i64 (i : Int), i⟩ :: entsG (i + 1) r
theorem entsG_snoc (x : Gt) : ∀ (C : List Gt) (i : Nat), entsG i (C ++ [x]) = entsG i C ++ [⟨x.v, .int .i64 ((i + C.length : Nat) : Int), i + C.length⟩]
  | [], i => by simp [entsG]
  | y :: r, i => by
    show _ :: entsG (i + 1) (r ++ [x]) = _ :: (entsG (i + 1) r ++ _)
    rw [entsG_snoc x r (i + 1)]
    simp only [List.length_cons]
    rw [show i + 1 + r.length = i + (r.length + 1) by omega]
/-- where a gate stands -/
def ixG (x : Gt) : List Gt → Option Nat
  | [] => none
  | y :: r => if eqGt x y = true then some 0 else (ixG x r).map (· + 1)
theorem run_findA (x : Gt) (w : World) : ∀ (C : List Gt) (i j : Nat), (Instr.findAsking 137 x.v (entsG i C) j).run Try.prog w = .ok ((ixG x C).map fun n => (j + n, .int .i64 ((i + n : Nat) : Int))) w
  | [], _, _ => rfl
  | y :: r, i, j => by
    show (Instr.findAsking 137 x.v (⟨y.v, .int .i64 (i : Int), i⟩ :: entsG (i + 1) r) j).run Try.prog w = _
    simp only [Instr.findAsking, Sem.run_bind, run_eqGt, Result.andThen_ok, ixG]
    cases h : eqGt x y
    · simp only [Bool.false_eq_true, if_false, run_findA x w r (i + 1) (j + 1), Option.map_map]
      congr 2
      funext n
      simp only [Function.comp]
      rw [show j + 1 + n = j + (n + 1) by omega, show i + 1 + n = i + (n + 1) by omega]
    · simp only [if_true, Sem.run_pure, Option.map_some, Nat.add_zero]
theorem run_findG (x : Gt) (C : List Gt) (w : World) : (Instr.findKey 137 x.v (entsG 0 C)).run Try.prog w = .ok ((ixG x C).map fun n => (n, .int .i64 (n : Int))) w := by
  have h := run_findA x w C 0 0
  simp only [Nat.zero_add] at h
  unfold Instr.findKey
  simp only [Sem.run_bind, run_underlying Try.underlying137, Result.andThen_ok]
  cases C with
  | nil => rfl
  | cons y r =>
    show (Instr.findAsking 137 x.v (entsG 0 (y :: r)) 0).run Try.prog w = _
    exact h
/-- block b holds the map of a list of gates -/
def MapG (w : World) (b : Nat) (C : List Gt) : Prop := w.heap[b]? = some (.map (entsG 0 C).toArray C.length)
theorem MapG.lookup {w : World} {b : Nat} {C : List Gt} (h : MapG w b C) (x : Gt) :
    (Instr.lookup 160 (.map (some b)) x.v true).run Try.prog w = .ok (.tuple #[.int .i64 (((ixG x C).getD 0 : Nat) : Int), .bool (ixG x C).isSome]) w := by
  have hz : (zeroValue 3).run Try.prog w = .ok (.int .i64 0) w := by kernel_rfl
  unfold Instr.lookup
  simp only [Sem.run_bind, run_underlying Try.underlying160, Result.andThen_ok, Go.MapKept.run_getObj_map h, Sem.run_pure, run_checkGt, run_findG]
  cases ixG x C with
  | none => simp only [Option.map_none, Sem.run_bind, hz, Result.andThen_ok, Sem.run_pure, if_true]; rfl
  | some n => simp only [Option.map_some, if_true]; rfl
theorem MapG.store {w : World} {b : Nat} {C : List Gt} (h : MapG w b C) (x : Gt) (hx : ixG x C = none) :
    ∃ w', (Instr.mapUpdate 160 (.map (some b)) x.v (.int .i64 (C.length : Int))).run Try.prog w = .ok () w' ∧ MapG w' b (C ++ [x]) ∧ w.grownBy w' (some b) := by
  have hlt : b < w.heap.size := (Array.getElem?_eq_some_iff.1 h).1
  refine ⟨{ w with heap := w.heap.setIfInBounds b (.map ((entsG 0 C).toArray.push ⟨x.v, .int .i64 (C.length : Int), C.length⟩) (C.length + 1)) }, ?_, ?_, ⟨rfl, rfl, rfl, by simp, fun i _ hi => ?_⟩⟩
  · unfold Instr.mapUpdate
    simp only [Sem.run_bind, run_underlying Try.underlying160, Result.andThen_ok, Go.MapKept.run_getObj_map h, run_checkGt, run_findG, hx, Option.map_none, Go.MapKept.run_setObj_map _ h]
  · unfold MapG
    simp only [Array.getElem?_setIfInBounds, if_true, hlt]
    rw [entsG_snoc]
    simp
  · have : b ≠ i := fun e => hi (by rw [e])
    simp only [Array.getElem?_setIfInBounds]
    rw [if_neg this]
end Go.Proofs.Ytlidplmpglpkgaa
