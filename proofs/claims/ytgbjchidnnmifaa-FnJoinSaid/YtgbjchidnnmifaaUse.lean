/-
  Which gates are used: an array of sixty truth values in a block; the model's l3Used. Conditions: what the slice holds is known.
-/
import Derived.Test.YtgbjchidnnmifaaDepI
import Derived.Deep.MidRow
import Derived.ChangeKeysEq
import Derived.Deep.CutRange
import Derived.Deep.Cut
namespace Go.Proofs.Ytgbjchidnnmifaa
open Go.RowKit
/-- one gate's turn: if it is used and joins two, these are used -/
def useStep (L : List Gt) (U : Nat → Bool) (i : Nat) : Nat → Bool :=
  if U i && joinsB (gAt L i) then fun j => (U j || (j : Int) == (gAt L i).a) || (j : Int) == (gAt L i).b else U
/-- behind m gates, from the last one down -/
def useM (L : List Gt) : Nat → Nat → Bool
  | 0 => fun j => j + 1 == L.length
  | m + 1 => useStep L (useM L m) (L.length - 1 - m)
def useF (L : List Gt) : Nat → Bool := useM L L.length
/-- a block whose first sixty cells hold truth values -/
def ArrB (w : World) (g : Nat) (U : Nat → Bool) : Prop :=
  g < w.heap.size ∧ ∀ j : Nat, j < 60 → w.cell? ⟨g, j, none⟩ = some (.bool (U j)) ∧ w.frozen? ⟨g, j, none⟩ = false
theorem ArrB.below {w w' : World} {B g : Nat} {U : Nat → Bool} (h : ArrB w g U) (hb : Below B w w') (hg : g < B) : ArrB w' g U :=
  ⟨Nat.lt_of_lt_of_le h.1 hb.size, fun j hj => ⟨by rw [hb.cell (p := ⟨g, j, none⟩) hg]; exact (h.2 j hj).1, by rw [hb.frozen (p := ⟨g, j, none⟩) hg]; exact (h.2 j hj).2⟩⟩
theorem ArrB.set {w : World} {g k : Nat} {U : Nat → Bool} (h : ArrB w g U) (hk : k < 60) (v : Bool) : ArrB (w.setCell ⟨g, k, none⟩ (.bool v)) g (fun j => if j = k then v else U j) := by
  refine ⟨by simpa using h.1, fun j hj => ⟨?_, by rw [World.frozen?_setCell]; exact (h.2 j hj).2⟩⟩
  by_cases e : j = k
  · subst e
    dsimp only
    rw [if_pos rfl]
    exact World.cell?_setCell_same _ _ _ (h.2 j hj).1
  · dsimp only
    rw [if_neg e, World.cell?_setCell_other _ _ _ _ (addr_ne (by omega))]
    exact (h.2 j hj).1
theorem ArrB.far {w : World} {g G k : Nat} {U : Nat → Bool} (h : ArrB w g U) (hg : g ≠ G) (v : Value) : ArrB (w.setCell ⟨G, k, none⟩ v) g U :=
  ⟨by simpa using h.1, fun j hj => ⟨by rw [World.cell?_setCell_other _ _ _ _ (addr_ne (by omega))]; exact (h.2 j hj).1, by rw [World.frozen?_setCell]; exact (h.2 j hj).2⟩⟩
theorem ArrB.new (w : World) (ty : TypeId) : ArrB (w.alloc (.cells (Array.replicate 60 (.bool false)) ty)) w.heap.size (fun _ => false) := by
  refine ⟨by simp, fun j hj => ⟨?_, ?_⟩⟩
  · rw [World.cell?_alloc_new]; simp [hj]
  · rw [World.frozen?_alloc_new]
theorem ArrB.ext {w : World} {g : Nat} {U V : Nat → Bool} (h : ArrB w g U) (e : ∀ j, j < 60 → U j = V j) : ArrB w g V :=
  ⟨h.1, fun j hj => by rw [← e j hj]; exact h.2 j hj⟩
/-- a result that lies in a cell's block -/
theorem results_cell_at {fn : Func} {t : Tmp} {ty : TypeId} (h : fn.results = #[.cell t ty]) (tmps : Array Value) (w : World) (b o : Nat) (hp : tmps.getD t undef = .pointer (some ⟨b, o, none⟩)) (v : Value)
    (hv : (loadVar ty ⟨b, o, none⟩).run Try.prog w = .ok v w) : (results fn tmps).run Try.prog w = .ok v w := by
  have hp' : tmps[t]?.getD undef = .pointer (some ⟨b, o, none⟩) := by simpa using hp
  simp [results, h, hp', asAddr, hv]
/-- the sixty values as cells -/
def useC (U : Nat → Bool) : List Value := (List.range 60).map fun j => .bool (U j)
theorem useC_len (U : Nat → Bool) : (useC U).length = 60 := by simp [useC]
theorem useC_at (U : Nat → Bool) (j : Nat) (h : j < 60) : (useC U)[j]? = some (.bool (U j)) := by simp [useC, h]
theorem useC_one (U : Nat → Bool) : ∀ v ∈ useC U, v.oneCell' = true := by
  intro v hv
  simp [useC] at hv
  obtain ⟨j, _, rfl⟩ := hv
  rfl
theorem ArrB.range {w : World} {g : Nat} {U : Nat → Bool} (h : ArrB w g U) : w.rangeAt g 0 (useC U) := by
  intro j v hv
  have hj : j < 60 := by
    rcases Nat.lt_or_ge j 60 with h | h
    · exact h
    · rw [List.getElem?_eq_none (by rw [useC_len]; exact h)] at hv; cases hv
  rw [useC_at U j hj] at hv
  cases hv
  rw [Nat.zero_add]; exact (h.2 j hj).1
theorem ArrB.there {w : World} {g : Nat} {U : Nat → Bool} (h : ArrB w g U) : w.there g 0 60 := by
  intro j hj
  rw [Nat.zero_add]
  obtain ⟨h1, h2⟩ := h.2 j hj
  exact ⟨by rw [h1]; rfl, h2⟩
theorem below_setCells {B : Nat} {a : World} (b : Nat) : ∀ (vs : List Value) (o : Nat) (w : World), Below B a w → B ≤ b → Below B a (w.setCells b o vs)
  | [], _, _, h, _ => h
  | v :: r, o, w, h, hb => by
    rw [World.setCells]
    exact below_setCells b r (o + 1) _ (h.setCell hb _) hb
theorem infoB : (Try.prog.info? 80).map (·.size) = some 60 := by kernel_rfl
/-- a value that is an array of sixty truth values, as far as indexing it goes -/
def UseV (V : Value) (U : Nat → Bool) : Prop := V = .agg (useC U).toArray
set_option maxRecDepth 100000 in
theorem UseV.index {V : Value} {U : Nat → Bool} (h : UseV V U) (k : Nat) (hk : k < 60) (w : World) : (Instr.index 80 V (.int .i64 k)).run Try.prog w = .ok (.bool (U k)) w := by
  subst h
  have hn : 0 ≤ (k : Int) ∧ (k : Int) < 60 := ⟨by omega, by omega⟩
  have hc : Try.prog.cellsOf 4 = 1 := by kernel_rfl
  have hs : (Try.prog.info? 4).isSome = true := by kernel_rfl
  obtain ⟨i, hi⟩ := Option.isSome_iff_exists.1 hs
  have hz := run_sizeOf (w := w) hi
  rw [hc] at hz
  have hx2 := useC_at U k hk
  simp [Instr.index, run_underlying Try.underlying80, asIntOf, hk, hz, hx2, go_sem]
end Go.Proofs.Ytgbjchidnnmifaa
