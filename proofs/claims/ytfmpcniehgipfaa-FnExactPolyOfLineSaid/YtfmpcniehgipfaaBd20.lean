/-
  Of lists: a polynomial times an element, term by term. Conditions: none.
-/
import Derived.Test.YtfmpcniehgipfaaBd18
import Derived.Test.YtfmpcniehgipfaaBd10
import Derived.Test.YtfmpcniehgipfaaBd16
namespace Go.Proofs.Ytfmpcniehgipfaa
open Go.RowKit
theorem addAll_snoc (p : Int) (x : Trm) : ∀ (xs L : List Trm), addAll p (xs ++ [x]) L = addT p x (addAll p xs L)
  | [], L => rfl
  | y :: ys, L => by
    show addAll p (ys ++ [x]) (addT p y L) = _
    rw [addAll_snoc p x ys]
    rfl
/-- a term that stands behind all others is put at the end -/
theorem plc_end {x : Trm} : ∀ {L : List Trm}, (∀ y ∈ L, bef y x = true) → plc x L = L.length
  | [], _ => rfl
  | y :: r, h => by
    unfold plc
    rw [if_pos (h y (by simp)), plc_end (fun z hz => h z (by simp [hz]))]
    simp
theorem addT_end {p : Int} {x : Trm} {L : List Trm} (h : ∀ y ∈ L, bef y x = true) (hx : x.t ≠ 0) : addT p x L = L ++ [x] := by
  have hp := plc_end h
  unfold addT
  rw [if_neg hx, if_neg (by unfold hit; rw [hp]; simp), hp]
  simp
theorem addT_zero {p : Int} {x : Trm} {L : List Trm} (hx : x.t = 0) : addT p x L = L := by unfold addT; rw [if_pos hx]
theorem prime_mul {p a b : Int} (hp : isP p = true) (ha : 1 ≤ a ∧ a < p) (hb : 1 ≤ b ∧ b < p) : a * b % p ≠ 0 := by
  have key : ∀ q ∈ ([2, 3, 5, 7, 11, 13] : List Nat), ∀ x, x < q → ∀ y, y < q → x ≠ 0 → y ≠ 0 → (x * y) % q ≠ 0 := by decide +kernel
  obtain ⟨a', rfl⟩ := Int.eq_ofNat_of_zero_le (show 0 ≤ a by omega)
  obtain ⟨b', rfl⟩ := Int.eq_ofNat_of_zero_le (show 0 ≤ b by omega)
  have hbd := isP_bd hp
  obtain ⟨q, rfl⟩ := Int.eq_ofNat_of_zero_le (show 0 ≤ p by omega)
  have hq : q ∈ ([2, 3, 5, 7, 11, 13] : List Nat) := by
    have : q = 2 ∨ q = 3 ∨ q = 5 ∨ q = 7 ∨ q = 11 ∨ q = 13 := by have := isP_cases hp; omega
    rcases this with h | h | h | h | h | h <;> subst h <;> simp
  have := key q hq a' (by omega) b' (by omega) (by omega) (by omega)
  intro h
  apply this
  have h2 : ((a' * b' % q : Nat) : Int) = 0 := by push_cast; exact h
  exact_mod_cast h2
theorem validB_srt {p : Int} {L : List Trm} (h : validB p L = true) : Srt L := by
  show List.Pairwise _ L
  rw [List.pairwise_iff_getElem]
  have step : ∀ k, k + 1 < L.length → bef (L.getD k default) (L.getD (k + 1) default) = true := by
    intro k hk
    have h1 := validB_at h hk
    simp only [okAt, Bool.and_eq_true, Bool.or_eq_true] at h1
    have h2 := h1.2
    simpa using h2
  have all : ∀ d i, i + d + 1 < L.length → bef (L.getD i default) (L.getD (i + d + 1) default) = true := by
    intro d
    induction d with
    | zero => intro i hi; exact step i hi
    | succ d ih => intro i hi; exact bef_trans (ih i (by omega)) (step (i + d + 1) (by omega))
  intro i j hi hj hij
  have := all (j - i - 1) i (by omega)
  rw [show i + (j - i - 1) + 1 = j by omega] at this
  simpa [List.getD_eq_getElem?_getD, hi, hj] using this
theorem validB_els {p : Int} {L : List Trm} (h : validB p L = true) : Els p L := by
  intro y hy
  obtain ⟨k, hk, rfl⟩ := List.getElem_of_mem hy
  have := validB_el h hk rfl
  simpa [List.getD_eq_getElem?_getD, hk] using this
theorem validB_of {p : Int} {L : List Trm} (hs : Srt L) (he : Els p L) (hp : ∀ y ∈ L, powsB y.a y.b y.c = true) (hl : L.length ≤ 60) : validB p L = true := by
  unfold validB
  rw [Bool.and_eq_true]
  refine ⟨List.all_eq_true.2 fun k hk => ?_, by simpa using hl⟩
  have hk := List.mem_range.1 hk
  have hm : L.getD k default ∈ L := by simp [List.getD_eq_getElem?_getD, hk]
  have h1 := he _ hm
  unfold okAt tokB
  rw [hp _ hm]
  have e1 : (decide (1 ≤ (L.getD k default).t) && decide ((L.getD k default).t ≤ p - 1)) = true := by rw [Bool.and_eq_true, decide_eq_true_eq, decide_eq_true_eq]; omega
  rw [e1]
  cases k with
  | zero => simp
  | succ k => simpa using srt_getD hs (Nat.lt_succ_self k) hk
/-- a term times an element -/
def sclT (p a : Int) (x : Trm) : Trm := ⟨x.a, x.b, x.c, x.t * a % p⟩
/-- what a polynomial times an element is -/
def sclL (p a : Int) (L : List Trm) : List Trm := if a = 0 then [] else L.map (sclT p a)
theorem scl_addAll {p a : Int} {L : List Trm} (hp : isP p = true) (ha : isE p a = true) (hs : Srt L) (he : Els p L) : ∀ k, k ≤ L.length → addAll p ((L.take k).map (sclT p a)) [] = sclL p a (L.take k)
  | 0, _ => by simp [addAll, sclL]
  | k + 1, hk => by
    have hkl : k < L.length := by omega
    rw [List.take_succ_eq_append_getElem hkl, List.map_append, List.map_singleton, addAll_snoc, scl_addAll hp ha hs he k (by omega)]
    by_cases h0 : a = 0
    · rw [addT_zero (by simp [sclT, h0])]
      simp [sclL, h0]
    · have ha2 := isE_iff.1 ha
      have hel := he L[k] (List.getElem_mem hkl)
      unfold sclL
      rw [if_neg h0, if_neg h0, addT_end ?_ (prime_mul hp hel ⟨by omega, ha2.2⟩), List.map_append, List.map_singleton]
      intro y hy
      obtain ⟨z, hz, rfl⟩ := List.mem_map.1 hy
      obtain ⟨i, hi, rfl⟩ := List.getElem_of_mem hz
      simp only [List.length_take] at hi
      have := List.pairwise_iff_getElem.1 hs i k (by omega) hkl (by omega)
      rw [List.getElem_take]
      exact this
theorem scl_valid {p a : Int} {L : List Trm} (hp : isP p = true) (ha : isE p a = true) (hV : validB p L = true) : validB p (sclL p a L) = true := by
  unfold sclL
  by_cases h0 : a = 0
  · rw [if_pos h0]; rfl
  · rw [if_neg h0]
    have hs := validB_srt hV
    have he := validB_els hV
    have ha2 := isE_iff.1 ha
    have hb := isP_bd hp
    refine validB_of ?_ ?_ ?_ ?_
    · exact List.pairwise_map.2 (hs.imp fun h => h)
    · intro y hy
      obtain ⟨z, hz, rfl⟩ := List.mem_map.1 hy
      have h1 := prime_mul hp (he z hz) (show 1 ≤ a ∧ a < p by omega)
      have h2 := emod_bd (n := z.t * a) hb.1
      exact ⟨by show 1 ≤ z.t * a % p; omega, h2.2⟩
    · intro y hy
      obtain ⟨z, hz, rfl⟩ := List.mem_map.1 hy
      obtain ⟨k, hk, rfl⟩ := List.getElem_of_mem hz
      have := okAt_pows (validB_at hV hk)
      simpa [List.getD_eq_getElem?_getD, hk, sclT] using this
    · simpa using validB_len hV
end Go.Proofs.Ytfmpcniehgipfaa
