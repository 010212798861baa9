/-
  Circuits as lists of gates, of no program: which are circuits, which gates are used, depths, degrees, values. Conditions: none.
-/
import Derived.Test.YtajabchbdhjdiaaBa8
import Derived.Test.YtajabchbdhjdiaaBa3
namespace Go.Proofs.Ytajabchbdhjdiaa
def inB (n lo hi : Int) : Bool := decide (lo ≤ n) && decide (n ≤ hi)
/-- may a gate stand at an index; hi is the greatest element -/
def gOK (hi : Int) (x : Gt) (i : Int) : Bool :=
  if x.k == 0 then inB x.a 0 2 && x.b == 0
  else if x.k == 1 then inB x.a 0 hi && x.b == 0
  else if x.k == 2 || x.k == 3 then inB x.a 0 (i - 1) && inB x.b 0 (i - 1)
  else false
def gAt (L : List Gt) (k : Nat) : Gt := L.getD k default
def allG (hi : Int) (L : List Gt) : Bool := (List.range L.length).all fun k => gOK hi (gAt L k) k
def circB (p : Int) (L : List Gt) : Bool := isP p && ((decide (1 ≤ L.length) && decide (L.length ≤ 60)) && allG (p - 1) L)
theorem allG_no {hi : Int} {L : List Gt} {k : Nat} (hk : k < L.length) (h : gOK hi (gAt L k) k = false) : allG hi L = false := by
  unfold allG
  rw [List.all_eq_false]
  exact ⟨k, by simpa using hk, by simp [h]⟩
theorem allG_all {hi : Int} {L : List Gt} (h : ∀ j : Nat, j < L.length → gOK hi (gAt L j) j = true) : allG hi L = true := by
  unfold allG
  rw [List.all_eq_true]
  intro k hk
  exact h k (by simpa using hk)
theorem circB_iff {p : Int} {L : List Gt} : circB p L = true ↔ isP p = true ∧ 1 ≤ L.length ∧ L.length ≤ 60 ∧ ∀ j : Nat, j < L.length → gOK (p - 1) (gAt L j) j = true := by
  unfold circB
  constructor
  · intro h
    simp only [Bool.and_eq_true, decide_eq_true_eq] at h
    refine ⟨h.1, h.2.1.1, h.2.1.2, fun j hj => ?_⟩
    have := h.2.2
    unfold allG at this
    rw [List.all_eq_true] at this
    exact this j (by simpa using hj)
  · rintro ⟨h1, h2, h3, h4⟩
    simp [h1, h2, h3, allG_all h4]
/-- the four shapes of a gate that may stand at an index -/
theorem gOK_cases {hi : Int} {x : Gt} {i : Int} (h : gOK hi x i = true) :
    (x.k = 0 ∧ 0 ≤ x.a ∧ x.a ≤ 2 ∧ x.b = 0) ∨ (x.k = 1 ∧ 0 ≤ x.a ∧ x.a ≤ hi ∧ x.b = 0) ∨ ((x.k = 2 ∨ x.k = 3) ∧ 0 ≤ x.a ∧ x.a < i ∧ 0 ≤ x.b ∧ x.b < i) := by
  unfold gOK at h
  split at h
  · rename_i h0; simp [inB] at h h0; omega
  · split at h
    · rename_i h0; simp [inB] at h h0; omega
    · split at h
      · rename_i h0; simp [inB] at h h0; omega
      · simp at h
def joinsB (x : Gt) : Bool := x.k == 2 || x.k == 3
/-- which gates are used, behind m rounds from the last gate down -/
def usedK (L : List Gt) : Nat → Nat → Bool
  | 0 => fun j => j + 1 == L.length
  | m + 1 => fun j =>
    let i := L.length - 1 - m
    if usedK L m i && joinsB (gAt L i) then usedK L m j || (j : Int) == (gAt L i).a || (j : Int) == (gAt L i).b else usedK L m j
def usedF (L : List Gt) (j : Nat) : Bool := usedK L L.length j
/-- the numbers of the used gates below k -/
def usedTo (U : Nat → Bool) : Nat → List Nat
  | 0 => []
  | k + 1 => if U k then usedTo U k ++ [k] else usedTo U k
/-- depths of the gates below k -/
def depL (L : List Gt) : Nat → List Int
  | 0 => []
  | k + 1 => depL L k ++ [if joinsB (gAt L k) then 1 + max ((depL L k).getD (gAt L k).a.toNat 0) ((depL L k).getD (gAt L k).b.toNat 0) else 0]
theorem depL_len (L : List Gt) : ∀ k, (depL L k).length = k
  | 0 => rfl
  | k + 1 => by simp [depL, depL_len L k]
/-- formal degrees of the gates below k -/
def degL (L : List Gt) : Nat → List Int
  | 0 => []
  | k + 1 => degL L k ++ [let x := gAt L k
      if x.k == 0 then 1 else if x.k == 2 then max ((degL L k).getD x.a.toNat 0) ((degL L k).getD x.b.toNat 0)
      else if x.k == 3 then min ((degL L k).getD x.a.toNat 0 + (degL L k).getD x.b.toNat 0) 1000 else 0]
theorem degL_len (L : List Gt) : ∀ k, (degL L k).length = k
  | 0 => rfl
  | k + 1 => by simp [degL, degL_len L k]
end Go.Proofs.Ytajabchbdhjdiaa
