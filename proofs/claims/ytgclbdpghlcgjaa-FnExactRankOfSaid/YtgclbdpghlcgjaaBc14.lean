/-
  Parts of rows that are copied, and matrices without a row and a column. Conditions: none.
-/
import Derived.Test.YtgclbdpghlcgjaaBc12
import Derived.Laws.IdiomCopy
import Derived.Lib.SlBuf
namespace Go.Proofs.Ytgclbdpghlcgjaa
set_option linter.unusedVariables false
open Go.RowKit
/-- places of a matrix's rows, told once -/
theorem MatC.plc {w : World} {g off r c : Nat} {E : Nat → Nat → Int} (h : MatC w g off r c E) {i : Nat} (hi : i < r) : ∃ hh o cp, c ≤ cp ∧ (∀ w', Below w.heap.size w w' → w'.cell? ⟨g, off + i, none⟩ = some (.slice (some ⟨hh, o, none⟩) c cp)) ∧ ∀ w', Below w.heap.size w w' → ∀ k, k < c → w'.cell? ⟨hh, o + k, none⟩ = some (.int .i64 (E i k)) := by
  obtain ⟨hh, o, cp, h1, h2, h3⟩ := h.2 i hi
  exact ⟨hh, o, cp, h2.2, fun w' hb => by rw [hb.cell (p := ⟨g, off + i, none⟩) h.1]; exact h1, fun w' hb k hk => by rw [hb.cell (p := ⟨hh, o + k, none⟩) h2.1]; exact h3 k hk⟩
def vals (n : Nat) (G : Nat → Int) : List Value := (List.range n).map fun j => .int .i64 (G j)
theorem vals_len (n : Nat) (G : Nat → Int) : (vals n G).length = n := by simp [vals]
theorem vals_get {n : Nat} {G : Nat → Int} {j : Nat} {v : Value} (h : (vals n G)[j]? = some v) : j < n ∧ v = .int .i64 (G j) := by
  have hj : j < n := by
    rcases Nat.lt_or_ge j n with h1 | h1
    · exact h1
    · rw [List.getElem?_eq_none (by rw [vals_len]; exact h1)] at h; cases h
  refine ⟨hj, ?_⟩
  have : (vals n G)[j]? = some (.int .i64 (G j)) := by simp [vals, hj]
  rw [this] at h
  injection h with h
  exact h.symm
theorem copy_ints (w : World) (ty : TypeId) (b o dLen dCap h q sLen sCap n : Nat) (G : Nat → Int) (hn : n = Nat.min sLen dLen)
    (hsrc : ∀ j, j < n → w.cell? ⟨h, q + j, none⟩ = some (.int .i64 (G j))) (hc : ∀ j, j < n → ∃ x, w.cell? ⟨b, o + j, none⟩ = some x) (hf : ∀ j, j < n → w.frozen? ⟨b, o + j, none⟩ = false) :
    (Builtin.copy_ #[32, 32] ty #[.slice (some ⟨b, o, none⟩) dLen dCap, .slice (some ⟨h, q, none⟩) sLen sCap]).run Try.prog w = .ok (goInt n) (w.setCells b o (vals n G)) := by
  obtain ⟨i0, hi, hz0, hz1, hz2⟩ := info_parts infoIn
  have := run_copy_cells (P := Try.prog) w 32 32 ty 3 b o dLen dCap ⟨h, q, none⟩ sLen sCap (vals n G) Try.underlying32 (by rw [hi]; simp [hz1]) (by rw [vals_len, hn])
    (fun j v hv => by
      obtain ⟨hj, rfl⟩ := vals_get hv
      have hadd : (⟨h, q, none⟩ : Addr).add j = ⟨h, q + j, none⟩ := by unfold Addr.add; split <;> simp_all
      rw [hadd]; exact hsrc j hj)
    (fun j hj => by rw [vals_len] at hj; obtain ⟨x, hx⟩ := hc j hj; rw [hx]; rfl) (fun j hj => by rw [vals_len] at hj; exact hf j hj)
    (fun v hv => by
      unfold vals at hv
      obtain ⟨j, _, rfl⟩ := List.mem_map.1 hv
      rfl)
  rw [vals_len] at this
  exact this
/-- some elements of a row turned -/
def updR (F : Nat → Nat → Int) (i q n : Nat) (G : Nat → Int) : Nat → Nat → Int := fun a b => if a = i ∧ q ≤ b ∧ b < q + n then G (b - q) else F a b
theorem setCells_size (b o : Nat) : ∀ (vs : List Value) (w : World) (o : Nat), (w.setCells b o vs).heap.size = w.heap.size
  | [], _, _ => rfl
  | v :: vs, w, o => by show ((w.setCell ⟨b, o, none⟩ v).setCells b (o + 1) vs).heap.size = _; rw [setCells_size b o vs]; simp
theorem setCells_below {B b : Nat} (hb : B ≤ b) : ∀ (vs : List Value) (w : World) (o : Nat), Below B w (w.setCells b o vs)
  | [], _, _ => Below.refl _ _
  | v :: vs, w, o => by
    show Below B w ((w.setCell ⟨b, o, none⟩ v).setCells b (o + 1) vs)
    exact ((Below.refl _ _).setCell hb v).trans (setCells_below hb vs _ _)
theorem OMat.setsF {w : World} {B g off i q n c r : Nat} {H O : Nat → Nat} {F : Nat → Nat → Int} (h : OMat w B g off H O (matF c F r)) (hi : i < r) (hc : 0 < c) (hq : q + n ≤ c) (G : Nat → Int) :
    OMat (w.setCells (H i) (O i + q) (vals n G)) B g off H O (matF c (updR F i q n G) r) := by
  obtain ⟨cap, h1, h2, h3, h4, h5⟩ := h.cellF hi hc
  have hl : i < (matF c F r).length := by rw [matF_len]; exact hi
  have hrl : (rowM (matF c F r) i).length = c := by rw [matF_row hi]; simp
  have hin := World.cell?_setCells_in (H i) (vals n G) (O i + q) w (fun j hj => by
    rw [vals_len] at hj
    have := (h5 (q + j) (by omega)).1
    rw [← Nat.add_assoc] at this
    rw [this]; rfl)
  have key := h.row hl (w' := w.setCells (H i) (O i + q) (vals n G)) ((List.range c).map (updR F i q n G i)) (by rw [hrl]; simp) (setCells_size _ 0 _ _ _) (fun a => World.frozen?_setCells _ _ _ _ _)
    (fun j hj => by
      have hj : j < c := by simpa using hj
      have e : ((List.range c).map (updR F i q n G i)).getD j 0 = updR F i q n G i j := by simp [List.getD_eq_getElem?_getD, hj]
      rw [e]
      unfold updR
      by_cases hh : q ≤ j ∧ j < q + n
      · rw [if_pos ⟨rfl, hh⟩]
        have := hin (j - q) (by rw [vals_len]; omega)
        rw [show O i + q + (j - q) = O i + j by omega] at this
        rw [this]
        simp [vals]
      · rw [if_neg (fun h => hh h.2), World.cell?_setCells_out (H i) _ _ _ _ (fun _ _ => by rw [vals_len]; show O i + j < _ ∨ _ ≤ O i + j; omega)]
        exact (h5 j hj).1)
    (fun p hp => by
      refine World.cell?_setCells_out (H i) _ _ _ _ (fun hb hs => ?_)
      rw [vals_len]
      rcases Nat.lt_or_ge p.off (O i + q) with h6 | h6
      · exact .inl h6
      · rcases Nat.lt_or_ge p.off (O i + q + n) with h7 | h7
        · exfalso
          refine hp (p.off - O i) (by simp; omega) ?_
          obtain ⟨pb, po, ps⟩ := p
          simp only at hb hs h6 h7 ⊢
          subst hb; subst hs
          rw [show O i + (po - O i) = po by omega]
        · exact .inr h7)
  have e : (matF c F r).set i ((List.range c).map (updR F i q n G i)) = matF c (updR F i q n G) r := by
    refine rowM_ext (by simp [matF]) (fun a ha => ?_)
    have ha : a < r := by simpa [matF] using ha
    rw [matF_row ha]
    by_cases e : a = i
    · subst e; rw [rw_set_self hl]
    · rw [rw_set_ne e, matF_row ha]
      apply List.map_congr_left
      intro b _
      unfold updR
      rw [if_neg (fun h => e h.1)]
  rw [e] at key
  exact key
/-- an index past one that is left out -/
def sk (q i : Nat) : Nat := if i < q then i else i + 1
theorem sk_lt {q i n : Nat} (h : i < n - 1) : sk q i < n := by unfold sk; split <;> omega
/-- the elements without a row and a column -/
def minE (E : Nat → Nat → Int) (row col i k : Nat) : Int := E (sk row i) (sk col k)
def minB (p : Int) (M : List (List Int)) (row col : Int) : Bool :=
  matB p M && (decide (2 ≤ M.length) && (decide (2 ≤ (rowM M 0).length) && ((decide (0 ≤ row) && decide (row < (M.length : Int))) && (decide (0 ≤ col) && decide (col < ((rowM M 0).length : Int))))))
theorem minB_iff {p : Int} {M : List (List Int)} {row col : Int} : minB p M row col = true ↔ matB p M = true ∧ 2 ≤ M.length ∧ 2 ≤ (rowM M 0).length ∧ (0 ≤ row ∧ row < (M.length : Int)) ∧ 0 ≤ col ∧ col < ((rowM M 0).length : Int) := by
  simp [minB]
def mnrV (p : Int) (M : List (List Int)) (row col : Int) : List (List Int) := if minB p M row col = true then matF ((rowM M 0).length - 1) (minE (el M) row.toNat col.toNat) (M.length - 1) else []
theorem mnrV_rows (p : Int) (M : List (List Int)) (row col : Int) : (mnrV p M row col).length ≤ 100 ∧ ∀ i, i < (mnrV p M row col).length → 0 < (rowM (mnrV p M row col) i).length ∧ (rowM (mnrV p M row col) i).length ≤ 1000 := by
  unfold mnrV
  by_cases h : minB p M row col = true
  · obtain ⟨h0, h1, h2, _⟩ := minB_iff.1 h
    obtain ⟨_, h3, h4, _⟩ := matB_iff.1 h0
    rw [if_pos h, matF_len]
    refine ⟨by omega, fun i hi => ?_⟩
    rw [matF_row hi]; simp; omega
  · rw [if_neg h]; exact ⟨by simp, fun i hi => absurd hi (Nat.not_lt_zero i)⟩
/-- the rows that the program's MinorOf has behind it -/
def minF (E : Nat → Nat → Int) (row col n a b : Nat) : Int := if a < n then minE E row col a b else 0
theorem minF_step {E : Nat → Nat → Int} {row col n c a b : Nat} (hc : col < c) (hb : b < c - 1) :
    updR (updR (minF E row col n) n 0 col (fun j => E (sk row n) j)) n col (c - 1 - col) (fun j => E (sk row n) (col + 1 + j)) a b = minF E row col (n + 1) a b := by
  unfold updR minF
  by_cases e : a = n
  · subst e
    rw [if_pos (show a < a + 1 by omega)]
    by_cases h : b < col
    · rw [if_neg (by omega), if_pos ⟨rfl, by omega, by omega⟩]
      simp [minE, sk, h]
    · rw [if_pos ⟨rfl, by omega, by omega⟩]
      simp only [minE]
      rw [show sk col b = col + 1 + (b - col) by unfold sk; rw [if_neg h]; omega]
  · rw [if_neg (fun h => e h.1), if_neg (fun h => e h.1)]
    by_cases h : a < n
    · rw [if_pos h, if_pos (by omega)]
    · rw [if_neg h, if_neg (by omega)]
end Go.Proofs.Ytgclbdpghlcgjaa
