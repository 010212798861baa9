/-
  Matrices told by their elements: reading, setting. Conditions: none.
-/
import Derived.Test.YtlcmddghppdmgaaBh10
import Derived.Test.YtlcmddghppdmgaaBh15
namespace Go.Proofs.Ytlcmddghppdmgaa
set_option linter.unusedVariables false
open Go.RowKit
/-- an element -/
def el (M : List (List Int)) (i k : Nat) : Int := (rowM M i).getD k 0
theorem matF_ext {c : Nat} {E F : Nat → Nat → Int} {r : Nat} (h : ∀ i k, i < r → k < c → E i k = F i k) : matF c E r = matF c F r := by
  unfold matF
  apply List.map_congr_left
  intro i hi
  have hi : i < r := by simpa using hi
  apply List.map_congr_left
  intro k hk
  have hk : k < c := by simpa using hk
  exact h i k hi hk
theorem el_matF {c r i k : Nat} {E : Nat → Nat → Int} (hi : i < r) (hk : k < c) : el (matF c E r) i k = E i k := by
  unfold el; rw [matF_row hi]; simp [List.getD_eq_getElem?_getD, hk]
theorem zeroM_F (c r : Nat) : zeroM c r = matF c (fun _ _ => 0) r := by
  simp [zeroM, matF, List.map_const']
/-- one element turned -/
def upd (F : Nat → Nat → Int) (i k : Nat) (x : Int) : Nat → Nat → Int := fun a b => if a = i ∧ b = k then x else F a b
theorem matF_set {c r i k : Nat} {F : Nat → Nat → Int} (hi : i < r) (x : Int) : (matF c F r).set i ((rowM (matF c F r) i).set k x) = matF c (upd F i k x) r := by
  rw [matF_row hi]
  apply List.ext_getElem (by simp [matF])
  intro a h1 h2
  have ha : a < r := by simpa [matF] using h2
  rw [List.getElem_set]
  by_cases e : i = a
  · subst e
    rw [if_pos rfl]
    simp only [matF, List.getElem_map, List.getElem_range]
    apply List.ext_getElem (by simp)
    intro b h3 h4
    rw [List.getElem_set]
    by_cases e2 : k = b
    · subst e2; rw [if_pos rfl]; simp [upd]
    · have : ¬ b = k := fun h => e2 h.symm
      rw [if_neg e2]; simp [upd, this]
  · have : ¬ a = i := fun h => e h.symm
    rw [if_neg e]
    simp only [matF, List.getElem_map, List.getElem_range]
    apply List.map_congr_left
    intro b _
    simp [upd, this]
theorem OMat.setF {w : World} {B g off i k c r : Nat} {H O : Nat → Nat} {F : Nat → Nat → Int} (h : OMat w B g off H O (matF c F r)) (hi : i < r) (hk : k < c) (x : Int) :
    OMat (w.setCell ⟨H i, O i + k, none⟩ (.int .i64 x)) B g off H O (matF c (upd F i k x) r) := by
  have := h.set (i := i) (k := k) (by rw [matF_len]; exact hi) (by rw [matF_row hi]; simpa using hk) x
  rwa [matF_set hi] at this
theorem OMat.cellF {w : World} {B g off i c r : Nat} {H O : Nat → Nat} {F : Nat → Nat → Int} (h : OMat w B g off H O (matF c F r)) (hi : i < r) (hc : 0 < c) :
    ∃ cap, w.cell? ⟨g, off + i, none⟩ = some (.slice (some ⟨H i, O i, none⟩) c cap) ∧ (H i ≠ g ∧ c ≤ cap) ∧ B ≤ H i ∧ H i < w.heap.size ∧ ∀ k, k < c → w.cell? ⟨H i, O i + k, none⟩ = some (.int .i64 (F i k)) ∧ w.frozen? ⟨H i, O i + k, none⟩ = false := by
  obtain ⟨a, cap, h1, h2, h3⟩ := h.rd i (by rw [matF_len]; exact hi)
  have hl : (rowM (matF c F r) i).length = c := by rw [matF_row hi]; simp
  rcases h3 with h3 | ⟨rfl, hB, hl2, hn, h4, h5⟩
  · rw [h3] at hl; simp at hl; omega
  · rw [hl] at h1 h4 h5
    refine ⟨cap, h1, ⟨hn, by have := h2.2; omega⟩, hB, hl2, fun k hk => ⟨?_, h5 k hk⟩⟩
    rw [h4 k hk]
    have := el_matF (E := F) hi hk
    unfold el at this
    rw [this]
/-- a matrix of r rows and c columns that can be read, its heads at block g from off on -/
def MatC (w : World) (g off r c : Nat) (E : Nat → Nat → Int) : Prop :=
  g < w.heap.size ∧ ∀ i, i < r → ∃ h o cp, w.cell? ⟨g, off + i, none⟩ = some (.slice (some ⟨h, o, none⟩) c cp) ∧ (h < w.heap.size ∧ c ≤ cp) ∧ ∀ k, k < c → w.cell? ⟨h, o + k, none⟩ = some (.int .i64 (E i k))
theorem MatC.below {w w' : World} {g off r c : Nat} {E : Nat → Nat → Int} (h : MatC w g off r c E) (hb : Below w.heap.size w w') : MatC w' g off r c E := by
  refine ⟨Nat.lt_of_lt_of_le h.1 hb.size, fun i hi => ?_⟩
  obtain ⟨a, o, cp, h1, h2, h3⟩ := h.2 i hi
  exact ⟨a, o, cp, by rw [hb.cell (p := ⟨g, off + i, none⟩) h.1]; exact h1, ⟨Nat.lt_of_lt_of_le h2.1 hb.size, h2.2⟩, fun k hk => by rw [hb.cell (p := ⟨a, o + k, none⟩) h2.1]; exact h3 k hk⟩
theorem OMat.matC {w : World} {B g off c r : Nat} {H O : Nat → Nat} {F : Nat → Nat → Int} (h : OMat w B g off H O (matF c F r)) (hc : 0 < c) : MatC w g off r c F := by
  refine ⟨h.gl, fun i hi => ?_⟩
  obtain ⟨cap, h1, h4, _, h2, h3⟩ := h.cellF hi hc
  exact ⟨_, _, cap, h1, ⟨h2, h4.2⟩, fun k hk => (h3 k hk).1⟩
theorem rowM_get {M : List (List Int)} {i : Nat} (h : i < M.length) : rowM M i = M[i] := by simp [rowM, List.getD_eq_getElem?_getD, h]
theorem rowM_ext {M N : List (List Int)} (hl : M.length = N.length) (h : ∀ i, i < M.length → rowM M i = rowM N i) : M = N := by
  apply List.ext_getElem hl
  intro i h1 h2
  have := h i h1
  rwa [rowM_get h1, rowM_get h2] at this
/-- the sides of a valid matrix -/
theorem matB_side {p : Int} {M : List (List Int)} (h : matB p M = true) : ∃ r c, M.length = r ∧ 1 ≤ r ∧ r ≤ 4 ∧ (rowM M 0).length = c ∧ 1 ≤ c ∧ c ≤ 4 ∧ (∀ i, i < r → (rowM M i).length = c) ∧ (∀ i k, i < r → k < c → 0 ≤ el M i k ∧ el M i k < p) ∧ M = matF c (el M) r := by
  obtain ⟨hp, ⟨h1, h2⟩, ⟨h3, h4⟩, h5⟩ := matB_iff.1 h
  refine ⟨M.length, (rowM M 0).length, rfl, h1, h2, rfl, h3, h4, fun i hi => (rowB_iff.1 (h5 i hi)).1, fun i k hi hk => (rowB_iff.1 (h5 i hi)).2 k hk, ?_⟩
  refine rowM_ext (by rw [matF_len]) (fun i hi => ?_)
  rw [matF_row hi]
  have hl := (rowB_iff.1 (h5 i hi)).1
  apply getD_ext (by simp [hl])
  intro k hk
  rw [hl] at hk
  simp [el, List.getD_eq_getElem?_getD, hk]
/-- a valid matrix is read by its elements -/
theorem Mat.cells {w : World} {v : Value} {M : List (List Int)} {r c : Nat} (h : Mat w v M) (hr : M.length = r) (hr1 : 1 ≤ r) (hc1 : 1 ≤ c) (hrow : ∀ i, i < r → (rowM M i).length = c) :
    ∃ g off cap, v = .slice (some ⟨g, off, none⟩) r cap ∧ MatC w g off r c (el M) := by
  obtain ⟨_, _, a, cap, rfl, h3⟩ := h
  subst hr
  rcases h3 with h3 | ⟨g, off, rfl, hg, hc⟩
  · rw [h3] at hr1; simp at hr1
  · refine ⟨g, off, cap, rfl, hg, fun i hi => ?_⟩
    obtain ⟨u, hu, ⟨_, b, cp, rfl, hd⟩, hk⟩ := hc i hi
    rw [hrow i hi] at hu
    rcases hd with hd | ⟨gg, oo, rfl, hgg, hcc⟩
    · have := hrow i hi; rw [hd] at this; simp at this; omega
    · exact ⟨gg, oo, cp, hu, ⟨hgg, by have : (rowM M i).length ≤ cp := hk; rw [hrow i hi] at this; exact this⟩, fun k hk => hcc k (by rw [hrow i hi]; exact hk)⟩
theorem OMat.own {w : World} {B g off cap : Nat} {H O : Nat → Nat} {c r : Nat} {F : Nat → Nat → Int} (h : OMat w B g off H O (matF c F r)) (hr : r ≤ 5) (hc : c ≤ 5) : OwnMat w B (.slice (some ⟨g, off, none⟩) r cap) (matF c F r) := by
  have : r * c ≤ 5 * 5 := Nat.mul_le_mul hr hc
  exact ⟨by rw [matF_len]; omega, by rw [matF_cnt]; omega, _, cap, by rw [matF_len], .inr ⟨g, off, H, O, rfl, h⟩⟩
/-- the rows' heads, of a matrix built by append -/
theorem RowsW.formF {w : World} {B : Nat} {v : Value} {V : List Value} {H : Nat → Nat} {c r : Nat} {F : Nat → Nat → Int} (h : RowsW w B v (matF c F r) V H) (hr : 1 ≤ r) : ∃ g cap, v = .slice (some ⟨g, 0, none⟩) r cap ∧ OMat w B g 0 H (fun _ => 0) (matF c F r) := by
  have hl := h.len
  rw [matF_len] at hl
  obtain ⟨g, cap, rfl, _⟩ := h.row.form (by omega)
  exact ⟨g, cap, by rw [hl], h.omat rfl⟩
end Go.Proofs.Ytlcmddghppdmgaa
