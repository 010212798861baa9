/-
  The polynomials of the gates of a circuit, as lists of terms. Conditions: the gates are a circuit.
-/
import Derived.Test.YtlidplmpglpkgaaBa27
import Derived.Test.YtlidplmpglpkgaaBa15
namespace Go.Proofs.Ytlidplmpglpkgaa
open Go.RowKit
/-- an unknown as a term -/
def onT (v : Int) : Trm := if v = 0 then ⟨1, 0, 0, 1⟩ else if v = 1 then ⟨0, 1, 0, 1⟩ else ⟨0, 0, 1, 1⟩
/-- an element as a polynomial -/
def cnL (a : Int) : List Trm := if a = 0 then [] else [⟨0, 0, 0, a⟩]
def pgV (p : Int) (x : Gt) (F : Nat → List Trm) : List Trm :=
  if x.k = 0 then [onT x.a] else if x.k = 2 then sumV p (F x.a.toNat) (F x.b.toNat) else if x.k = 3 then mulL p (F x.a.toNat) (F x.b.toNat) else cnL x.a
def pgB (p : Int) (x : Gt) (F : Nat → List Trm) : Bool :=
  if x.k = 0 then true else if x.k = 2 then addOk p (F x.a.toNat) (F x.b.toNat) else if x.k = 3 then mulOk p (F x.a.toNat) (F x.b.toNat) else true
/-- the polynomials of the first k gates -/
def pcF (p : Int) (L : List Gt) : Nat → Nat → List Trm
  | 0, _ => []
  | k + 1, j => if j = k then pgV p (gAt L k) (pcF p L k) else pcF p L k j
/-- the polynomial of a gate -/
def pcP (p : Int) (L : List Gt) (j : Nat) : List Trm := pcF p L (j + 1) j
theorem pcF_st (p : Int) (L : List Gt) (j : Nat) : ∀ k, j < k → pcF p L k j = pcP p L j
  | 0, h => by omega
  | k + 1, h => by
    by_cases e : j = k
    · subst e; rfl
    · show (if j = k then _ else pcF p L k j) = _
      rw [if_neg e]
      exact pcF_st p L j k (by omega)
theorem pcP_eq (p : Int) (L : List Gt) (j : Nat) : pcP p L j = pgV p (gAt L j) (pcF p L j) := by
  show (if j = j then _ else _) = _
  rw [if_pos rfl]
/-- has a gate a polynomial, if those that it joins have theirs -/
def pcO (p : Int) (L : List Gt) (j : Nat) : Bool := pgB p (gAt L j) (pcF p L j)
theorem pcP_in {p : Int} {L : List Gt} {j : Nat} (h : (gAt L j).k = 0) : pcP p L j = [onT (gAt L j).a] ∧ pcO p L j = true := by
  rw [pcP_eq]; unfold pcO pgV pgB; simp [h]
theorem pcP_cn {p : Int} {L : List Gt} {j : Nat} (h : (gAt L j).k = 1) : pcP p L j = cnL (gAt L j).a ∧ pcO p L j = true := by
  rw [pcP_eq]; unfold pcO pgV pgB; simp [h]
theorem pcP_sum {p : Int} {L : List Gt} (hv : circB p L = true) {j : Nat} (hj : j < L.length) (h : (gAt L j).k = 2) :
    pcP p L j = sumV p (pcP p L (gAt L j).a.toNat) (pcP p L (gAt L j).b.toNat) ∧ pcO p L j = addOk p (pcP p L (gAt L j).a.toNat) (pcP p L (gAt L j).b.toNat) := by
  have hc := gOK_cases ((circB_iff.1 hv).2.2.2 j hj)
  rw [pcP_eq]; unfold pcO pgV pgB
  rw [pcF_st p L (gAt L j).a.toNat j (by omega), pcF_st p L (gAt L j).b.toNat j (by omega)]
  simp [h]
theorem pcP_mul {p : Int} {L : List Gt} (hv : circB p L = true) {j : Nat} (hj : j < L.length) (h : (gAt L j).k = 3) :
    pcP p L j = mulL p (pcP p L (gAt L j).a.toNat) (pcP p L (gAt L j).b.toNat) ∧ pcO p L j = mulOk p (pcP p L (gAt L j).a.toNat) (pcP p L (gAt L j).b.toNat) := by
  have hc := gOK_cases ((circB_iff.1 hv).2.2.2 j hj)
  rw [pcP_eq]; unfold pcO pgV pgB
  rw [pcF_st p L (gAt L j).a.toNat j (by omega), pcF_st p L (gAt L j).b.toNat j (by omega)]
  simp [h]
/-- have all used gates a polynomial -/
def pcAll (p : Int) (L : List Gt) : Bool := (List.range L.length).all fun j => !useF L j || pcO p L j
def pcOk (p : Int) (L : List Gt) : Bool := circB p L && pcAll p L
def pcV (p : Int) (L : List Gt) : List Trm := if pcOk p L = true then pcP p L (L.length - 1) else []
theorem pc_bad {p : Int} {L : List Gt} {j : Nat} (hj : j < L.length) (hu : useF L j = true) (ho : pcO p L j = false) : pcOk p L = false := by
  unfold pcOk pcAll
  rw [Bool.and_eq_false_iff]
  right
  rw [List.all_eq_false]
  exact ⟨j, List.mem_range.2 hj, by simp [hu, ho]⟩
theorem pc_good {p : Int} {L : List Gt} (hv : circB p L = true) (h : ∀ j, j < L.length → useF L j = true → pcO p L j = true) : pcOk p L = true := by
  unfold pcOk pcAll
  rw [hv, Bool.true_and, List.all_eq_true]
  intro j hj
  cases hu : useF L j
  · simp
  · simp [h j (List.mem_range.1 hj) hu]
theorem pc_no {p : Int} {L : List Gt} (hv : circB p L = false) : pcOk p L = false ∧ pcV p L = [] := by
  have e : pcOk p L = false := by unfold pcOk; rw [hv]; rfl
  exact ⟨e, by unfold pcV; rw [e]; rfl⟩
theorem sumV_len {p : Int} {L M : List Trm} : (sumV p L M).length ≤ 60 := by
  unfold sumV addOk
  split
  · rename_i h
    simp only [Bool.and_eq_true] at h
    exact validB_len h.2
  · simp
theorem mulL_len {p : Int} {L M : List Trm} : (mulL p L M).length ≤ 60 := by
  unfold mulL mulOk
  split
  · rename_i h
    simp only [Bool.and_eq_true] at h
    exact validB_len h.2
  · simp
theorem pcP_len {p : Int} {L : List Gt} (j : Nat) : (pcP p L j).length ≤ 60 := by
  rw [pcP_eq]
  unfold pgV cnL
  repeat' split
  all_goals first | exact sumV_len | exact mulL_len | simp
end Go.Proofs.Ytlidplmpglpkgaa
