/-
  Circuits of formulas in which equal gates are one: as lists of gates; a maker's put of both. Conditions: what the maker's cells and its row of gates hold is known.
  CircuitOfFormula of the model. Conditions: none.
  CircuitOfFormula of the model, on. Conditions: none.
-/
import Derived.Test.YtoeghbcolpailaaGreatBa24
import Derived.Test.YtoeghbcolpailaaGreatBa17
import Derived.Test.YtoeghbcolpailaaGreatBa29
import Derived.Test.YtoeghbcolpailaaGreatBa41
namespace Go.Proofs.YtoeghbcolpailaaGreat
open Go.RowKit
theorem ixG_hit {x : Gt} : ∀ {C : List Gt} {k : Nat}, (∀ j, j < k → eqGt x (gAt C j) = false) → k < C.length → eqGt x (gAt C k) = true → ixG x C = some k
  | [], k, _, h, _ => by simp at h
  | y :: r, 0, _, _, h => by
    have h : eqGt x y = true := h
    unfold ixG
    rw [if_pos h]
  | y :: r, k + 1, hn, hk, h => by
    have h0 : eqGt x y = false := hn 0 (by omega)
    unfold ixG
    rw [if_neg (by simp [h0]), ixG_hit (C := r) (k := k) (fun j hj => hn (j + 1) (by omega)) (by simpa using hk) h]
    rfl
theorem ixG_none {x : Gt} : ∀ {C : List Gt}, (∀ j, j < C.length → eqGt x (gAt C j) = false) → ixG x C = none
  | [], _ => rfl
  | y :: r, hn => by
    have h0 : eqGt x y = false := hn 0 (by simp)
    unfold ixG
    rw [if_neg (by simp [h0]), ixG_none (C := r) (fun j hj => hn (j + 1) (by simpa using hj))]
    rfl
theorem ixG_lt {x : Gt} : ∀ {C : List Gt} {k : Nat}, ixG x C = some k → k < C.length
  | [], k, h => by cases h
  | y :: r, k, h => by
    unfold ixG at h
    split at h
    · injection h with h
      subst h
      simp
    · cases e : ixG x r with
      | none => rw [e] at h; cases h
      | some n =>
        rw [e] at h
        have h : n + 1 = k := by simpa using h
        have := ixG_lt e
        simp only [List.length_cons]
        omega
/-- a gate is put where there is none like it -/
def shr (x : Gt) (C : List Gt) : Nat × List Gt := match ixG x C with
  | some n => (n, C)
  | none => (C.length, C ++ [x])
theorem shr_hit {x : Gt} {C : List Gt} {n : Nat} (h : ixG x C = some n) : shr x C = (n, C) := by unfold shr; rw [h]
theorem shr_new {x : Gt} {C : List Gt} (h : ixG x C = none) : shr x C = (C.length, C ++ [x]) := by unfold shr; rw [h]
/-- the gates of a formula put behind others, and the place of the last one -/
def putF : Fm → List Gt → Nat × List Gt
  | .leaf k a, C => shr ⟨k, a, 0⟩ C
  | .pair k f g, C => shr ⟨k, ((putF f C).1 : Nat), ((putF g (putF f C).2).1 : Nat)⟩ (putF g (putF f C).2).2
/-- how many signs a formula has -/
def sizeF : Fm → Nat
  | .leaf _ _ => 1
  | .pair _ f g => 1 + sizeF f + sizeF g
theorem shr_facts (x : Gt) (C : List Gt) : (shr x C).1 < (shr x C).2.length ∧ C.length ≤ (shr x C).2.length ∧ (shr x C).2.length ≤ C.length + 1 := by
  cases h : ixG x C with
  | some n => rw [shr_hit h]; exact ⟨ixG_lt h, Nat.le_refl _, Nat.le_succ _⟩
  | none => rw [shr_new h]; simp
theorem putF_facts : ∀ (f : Fm) (C : List Gt), (putF f C).1 < (putF f C).2.length ∧ C.length ≤ (putF f C).2.length ∧ (putF f C).2.length ≤ C.length + sizeF f
  | .leaf k a, C => shr_facts _ _
  | .pair k f g, C => by
    have h1 := putF_facts f C
    have h2 := putF_facts g (putF f C).2
    have h3 := shr_facts ⟨k, ((putF f C).1 : Nat), ((putF g (putF f C).2).1 : Nat)⟩ (putF g (putF f C).2).2
    refine ⟨h3.1, ?_, ?_⟩
    · show C.length ≤ (shr _ _).2.length
      omega
    · show (shr _ _).2.length ≤ _
      unfold sizeF
      omega
theorem shr_ok {p : Int} {x : Gt} {C : List Gt} (h : AllOK p C) (hx : gOK (p - 1) x (C.length : Nat) = true) : AllOK p (shr x C).2 := by
  cases e : ixG x C with
  | some n => rw [shr_hit e]; exact h
  | none =>
    rw [shr_new e]
    intro j hj
    by_cases hjc : j < C.length
    · rw [gAt_left hjc]; exact h j hjc
    · have : j = C.length := by simp at hj; omega
      subst this
      rw [gAt_last]
      exact hx
theorem putF_ok {p : Int} : ∀ (f : Fm) (C : List Gt), okF p f → AllOK p C → AllOK p (putF f C).2
  | .leaf k a, C, ho, h => by
    refine shr_ok h ?_
    rcases ho with ⟨rfl, ho⟩ | ⟨rfl, h0, h1⟩
    · rcases ho with rfl | rfl | rfl <;> rfl
    · simp [gOK, inB]; omega
  | .pair k f g, C, ho, h => by
    obtain ⟨hk, hf, hg⟩ := ho
    have h1 := putF_facts f C
    have h2 := putF_facts g (putF f C).2
    refine shr_ok (putF_ok g _ hg (putF_ok f _ hf h)) ?_
    unfold gOK
    rw [if_neg (by simp only [beq_iff_eq]; omega), if_neg (by simp only [beq_iff_eq]; omega), if_pos (by simp only [Bool.or_eq_true, beq_iff_eq]; omega)]
    simp only [inB, Bool.and_eq_true, decide_eq_true_eq]
    omega
theorem parseF_size {p : Int} : ∀ {n : Nat} {t t1 : List UInt8} {f : Fm}, parseF p n t = some (f, t1) → t.length = sizeF f + t1.length
  | 0, _, _, _, h => by simp [parseF] at h
  | n + 1, [], _, _, h => by simp [parseF] at h
  | n + 1, c :: t, t1, f, h => by
    simp only [parseF] at h
    split at h
    · cases h1 : parseF p n t with
      | none => rw [h1] at h; simp at h
      | some r1 =>
        obtain ⟨f1, u1⟩ := r1
        rw [h1] at h
        simp only at h
        cases h2 : parseF p n u1 with
        | none => rw [h2] at h; simp at h
        | some r2 =>
          obtain ⟨f2, u2⟩ := r2
          rw [h2] at h
          simp at h
          obtain ⟨rfl, rfl⟩ := h
          have e1 := parseF_size h1
          have e2 := parseF_size h2
          simp only [sizeF, List.length_cons]
          omega
    · cases h1 : leafB p c with
      | none => rw [h1] at h; simp at h
      | some r1 =>
        rw [h1] at h
        simp at h
        obtain ⟨rfl, rfl⟩ := h
        simp only [sizeF, List.length_cons]
        omega
end Go.Proofs.YtoeghbcolpailaaGreat
namespace Go.Proofs.YtoeghbcolpailaaGreat
open Go.RowKit
end Go.Proofs.YtoeghbcolpailaaGreat
namespace Go.Proofs.YtoeghbcolpailaaGreat
open Go.RowKit
/-- what the model's reader leaves behind -/
def MkTo2 (B G : Nat) (n : Nat) (cs : Nat → Value) (C : List Gt) (v : Value) (r j : Int) (w : World) (e : Ending) (w' : World) : Prop :=
  ∃ v', e = .returned (.tuple #[.int .i64 r, .int .i64 j]) ∧ MkS w' G v' n cs C ∧ Below B w w' ∧ Apt G G v w w' ∧ Moves v v' w
/-- what CircuitOfFormula returns -/
def cofV (p : Int) (s : ByteArray) : List Gt := match foF p s with
  | none => []
  | some f => (putF f []).2
theorem foF_size {p : Int} {s : ByteArray} {f : Fm} (h : foF p s = some f) : sizeF f ≤ 60 := by
  obtain ⟨_, hs, hf⟩ := foF_some h
  unfold formF at hf
  rw [Array.length_toList] at hf
  cases h1 : parseF p s.data.size s.data.toList with
  | none => rw [h1] at hf; simp at hf
  | some r =>
    obtain ⟨g, u⟩ := r
    rw [h1] at hf
    cases u with
    | nil =>
      have hg : g = f := by simpa using hf
      subst hg
      have := parseF_size h1
      rw [Array.length_toList] at this
      have h2 : s.data.size = s.size := rfl
      simp at this
      omega
    | cons c u => simp at hf
theorem cofV_circ {p : Int} {s : ByteArray} {f : Fm} (h : foF p s = some f) : circB p (cofV p s) = true := by
  have hf := putF_facts f []
  have hz := foF_size h
  have hk := putF_ok (p := p) f [] (formF_ok (foF_some h).2.2) (fun j hj => by simp at hj)
  have e : cofV p s = (putF f []).2 := by unfold cofV; rw [h]
  rw [e]
  exact circB_iff.2 ⟨(foF_some h).1, by omega, by simpa using Nat.le_trans hf.2.2 (by simpa using hz), hk⟩
end Go.Proofs.YtoeghbcolpailaaGreat
