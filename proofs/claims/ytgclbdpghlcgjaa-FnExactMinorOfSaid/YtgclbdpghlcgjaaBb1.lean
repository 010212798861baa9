/-
  Parts of rows that are copied, and matrices without a row and a column. Conditions: none.
  MinorOf of the program. Conditions: none but that the slice reads as a matrix.
  MinorOf of the program: where there is one. Conditions: none but that the slice reads as a matrix.
  l8Minor of the model: a matrix without a row and a column. Conditions: the row and the column lie in it.
  MinorOf of the model. Conditions: none but that the slice reads as a matrix.
  The walk of the exact law of MinorOf. Conditions: none but that the slices read as lists.
-/
import Derived.Test.YtgclbdpghlcgjaaBa11
import Derived.Laws.IdiomCopy
import Derived.Lib.SlBuf
import Derived.Test.YtgclbdpghlcgjaaBa12
import Derived.Test.YtgclbdpghlcgjaaBa3
import Derived.Test.YtgclbdpghlcgjaaBa2
import Derived.Test.YtgclbdpghlcgjaaBa6
import Derived.Test.YtgclbdpghlcgjaaBa5
namespace Go.Proofs.Ytgclbdpghlcgjaa
set_option linter.unusedVariables false
open Go.RowKit
/-- places of a matrix's rows, told once -/
theorem MatC.plc {w : World} {g off r c : Nat} {E : Nat → Nat → Int} (h : MatC w g off r c E) {i : Nat} (hi : i < r) : ∃ hh o cp, c ≤ cp ∧ (∀ w', Below w.heap.size w w' → w'.cell? ⟨g, off + i, none⟩ = some (.slice (some ⟨hh, o, none⟩) c cp)) ∧ ∀ w', Below w.heap.size w w' → ∀ k, k < c → w'.cell? ⟨hh, o + k, none⟩ = some (.int .i64 (E i k)) := by
  obtain ⟨hh, o, cp, h1, h2, h3⟩ := h.2 i hi
  exact ⟨hh, o, cp, h2.2, fun w' hb => by rw [hb.cell (p := ⟨g, off + i, none⟩) h.1]; exact h1, fun w' hb k hk => by rw [hb.cell (p := ⟨hh, o + k, none⟩) h2.1]; exact h3 k hk⟩
def vals (n : Nat) (G : Nat → Int) : List Value := (List.range n).map fun j => .int .i64 (G j)
theorem vals_len (n : Nat) (G : Nat → Int) : (vals n G).length = n := by simp [vals]
theorem vals_get {n : Nat} {G : Nat → Int} {j : Nat} {v : Value} (h : (vals n G)[j]? = some v) : j < n ∧ v = .int .i64 (G j) := by
  have hj : j < n := by
    rcases Nat.lt_or_ge j n with h1 | h1
    · exact h1
    · rw [List.getElem?_eq_none (by rw [vals_len]; exact h1)] at h; cases h
  refine ⟨hj, ?_⟩
  have : (vals n G)[j]? = some (.int .i64 (G j)) := by simp [vals, hj]
  rw [this] at h
  injection h with h
  exact h.symm
theorem copy_ints (w : World) (ty : TypeId) (b o dLen dCap h q sLen sCap n : Nat) (G : Nat → Int) (hn : n = Nat.min sLen dLen)
    (hsrc : ∀ j, j < n → w.cell? ⟨h, q + j, none⟩ = some (.int .i64 (G j))) (hc : ∀ j, j < n → ∃ x, w.cell? ⟨b, o + j, none⟩ = some x) (hf : ∀ j, j < n → w.frozen? ⟨b, o + j, none⟩ = false) :
    (Builtin.copy_ #[32, 32] ty #[.slice (some ⟨b, o, none⟩) dLen dCap, .slice (some ⟨h, q, none⟩) sLen sCap]).run Try.prog w = .ok (goInt n) (w.setCells b o (vals n G)) := by
  obtain ⟨i0, hi, hz0, hz1, hz2⟩ := info_parts infoIn
  have := run_copy_cells (P := Try.prog) w 32 32 ty 3 b o dLen dCap ⟨h, q, none⟩ sLen sCap (vals n G) Try.underlying32 (by rw [hi]; simp [hz1]) (by rw [vals_len, hn])
    (fun j v hv => by
      obtain ⟨hj, rfl⟩ := vals_get hv
      have hadd : (⟨h, q, none⟩ : Addr).add j = ⟨h, q + j, none⟩ := by unfold Addr.add; split <;> simp_all
      rw [hadd]; exact hsrc j hj)
    (fun j hj => by rw [vals_len] at hj; obtain ⟨x, hx⟩ := hc j hj; rw [hx]; rfl) (fun j hj => by rw [vals_len] at hj; exact hf j hj)
    (fun v hv => by
      unfold vals at hv
      obtain ⟨j, _, rfl⟩ := List.mem_map.1 hv
      rfl)
  rw [vals_len] at this
  exact this
/-- some elements of a row turned -/
def updR (F : Nat → Nat → Int) (i q n : Nat) (G : Nat → Int) : Nat → Nat → Int := fun a b => if a = i ∧ q ≤ b ∧ b < q + n then G (b - q) else F a b
theorem setCells_size (b o : Nat) : ∀ (vs : List Value) (w : World) (o : Nat), (w.setCells b o vs).heap.size = w.heap.size
  | [], _, _ => rfl
  | v :: vs, w, o => by show ((w.setCell ⟨b, o, none⟩ v).setCells b (o + 1) vs).heap.size = _; rw [setCells_size b o vs]; simp
theorem setCells_below {B b : Nat} (hb : B ≤ b) : ∀ (vs : List Value) (w : World) (o : Nat), Below B w (w.setCells b o vs)
  | [], _, _ => Below.refl _ _
  | v :: vs, w, o => by
    show Below B w ((w.setCell ⟨b, o, none⟩ v).setCells b (o + 1) vs)
    exact ((Below.refl _ _).setCell hb v).trans (setCells_below hb vs _ _)
theorem OMat.setsF {w : World} {B g off i q n c r : Nat} {H O : Nat → Nat} {F : Nat → Nat → Int} (h : OMat w B g off H O (matF c F r)) (hi : i < r) (hc : 0 < c) (hq : q + n ≤ c) (G : Nat → Int) :
    OMat (w.setCells (H i) (O i + q) (vals n G)) B g off H O (matF c (updR F i q n G) r) := by
  obtain ⟨cap, h1, h2, h3, h4, h5⟩ := h.cellF hi hc
  have hl : i < (matF c F r).length := by rw [matF_len]; exact hi
  have hrl : (rowM (matF c F r) i).length = c := by rw [matF_row hi]; simp
  have hin := World.cell?_setCells_in (H i) (vals n G) (O i + q) w (fun j hj => by
    rw [vals_len] at hj
    have := (h5 (q + j) (by omega)).1
    rw [← Nat.add_assoc] at this
    rw [this]; rfl)
  have key := h.row hl (w' := w.setCells (H i) (O i + q) (vals n G)) ((List.range c).map (updR F i q n G i)) (by rw [hrl]; simp) (setCells_size _ 0 _ _ _) (fun a => World.frozen?_setCells _ _ _ _ _)
    (fun j hj => by
      have hj : j < c := by simpa using hj
      have e : ((List.range c).map (updR F i q n G i)).getD j 0 = updR F i q n G i j := by simp [List.getD_eq_getElem?_getD, hj]
      rw [e]
      unfold updR
      by_cases hh : q ≤ j ∧ j < q + n
      · rw [if_pos ⟨rfl, hh⟩]
        have := hin (j - q) (by rw [vals_len]; omega)
        rw [show O i + q + (j - q) = O i + j by omega] at this
        rw [this]
        simp [vals]
      · rw [if_neg (fun h => hh h.2), World.cell?_setCells_out (H i) _ _ _ _ (fun _ _ => by rw [vals_len]; show O i + j < _ ∨ _ ≤ O i + j; omega)]
        exact (h5 j hj).1)
    (fun p hp => by
      refine World.cell?_setCells_out (H i) _ _ _ _ (fun hb hs => ?_)
      rw [vals_len]
      rcases Nat.lt_or_ge p.off (O i + q) with h6 | h6
      · exact .inl h6
      · rcases Nat.lt_or_ge p.off (O i + q + n) with h7 | h7
        · exfalso
          refine hp (p.off - O i) (by simp; omega) ?_
          obtain ⟨pb, po, ps⟩ := p
          simp only at hb hs h6 h7 ⊢
          subst hb; subst hs
          rw [show O i + (po - O i) = po by omega]
        · exact .inr h7)
  have e : (matF c F r).set i ((List.range c).map (updR F i q n G i)) = matF c (updR F i q n G) r := by
    refine rowM_ext (by simp [matF]) (fun a ha => ?_)
    have ha : a < r := by simpa [matF] using ha
    rw [matF_row ha]
    by_cases e : a = i
    · subst e; rw [rw_set_self hl]
    · rw [rw_set_ne e, matF_row ha]
      apply List.map_congr_left
      intro b _
      unfold updR
      rw [if_neg (fun h => e h.1)]
  rw [e] at key
  exact key
/-- an index past one that is left out -/
def sk (q i : Nat) : Nat := if i < q then i else i + 1
theorem sk_lt {q i n : Nat} (h : i < n - 1) : sk q i < n := by unfold sk; split <;> omega
/-- the elements without a row and a column -/
def minE (E : Nat → Nat → Int) (row col i k : Nat) : Int := E (sk row i) (sk col k)
def minB (p : Int) (M : List (List Int)) (row col : Int) : Bool :=
  matB p M && (decide (2 ≤ M.length) && (decide (2 ≤ (rowM M 0).length) && ((decide (0 ≤ row) && decide (row < (M.length : Int))) && (decide (0 ≤ col) && decide (col < ((rowM M 0).length : Int))))))
theorem minB_iff {p : Int} {M : List (List Int)} {row col : Int} : minB p M row col = true ↔ matB p M = true ∧ 2 ≤ M.length ∧ 2 ≤ (rowM M 0).length ∧ (0 ≤ row ∧ row < (M.length : Int)) ∧ 0 ≤ col ∧ col < ((rowM M 0).length : Int) := by
  simp [minB]
def minV (p : Int) (M : List (List Int)) (row col : Int) : List (List Int) := if minB p M row col = true then matF ((rowM M 0).length - 1) (minE (el M) row.toNat col.toNat) (M.length - 1) else []
theorem minV_rows (p : Int) (M : List (List Int)) (row col : Int) : (minV p M row col).length ≤ 100 ∧ ∀ i, i < (minV p M row col).length → 0 < (rowM (minV p M row col) i).length ∧ (rowM (minV p M row col) i).length ≤ 1000 := by
  unfold minV
  by_cases h : minB p M row col = true
  · obtain ⟨h0, h1, h2, _⟩ := minB_iff.1 h
    obtain ⟨_, h3, h4, _⟩ := matB_iff.1 h0
    rw [if_pos h, matF_len]
    refine ⟨by omega, fun i hi => ?_⟩
    rw [matF_row hi]; simp; omega
  · rw [if_neg h]; exact ⟨by simp, fun i hi => absurd hi (Nat.not_lt_zero i)⟩
/-- the rows that the program's MinorOf has behind it -/
def minF (E : Nat → Nat → Int) (row col n a b : Nat) : Int := if a < n then minE E row col a b else 0
theorem minF_step {E : Nat → Nat → Int} {row col n c a b : Nat} (hc : col < c) (hb : b < c - 1) :
    updR (updR (minF E row col n) n 0 col (fun j => E (sk row n) j)) n col (c - 1 - col) (fun j => E (sk row n) (col + 1 + j)) a b = minF E row col (n + 1) a b := by
  unfold updR minF
  by_cases e : a = n
  · subst e
    rw [if_pos (show a < a + 1 by omega)]
    by_cases h : b < col
    · rw [if_neg (by omega), if_pos ⟨rfl, by omega, by omega⟩]
      simp [minE, sk, h]
    · rw [if_pos ⟨rfl, by omega, by omega⟩]
      simp only [minE]
      rw [show sk col b = col + 1 + (b - col) by unfold sk; rw [if_neg h]; omega]
  · rw [if_neg (fun h => e h.1), if_neg (fun h => e h.1)]
    by_cases h : a < n
    · rw [if_pos h, if_pos (by omega)]
    · rw [if_neg h, if_neg (by omega)]
end Go.Proofs.Ytgclbdpghlcgjaa
namespace Go.Proofs.Ytgclbdpghlcgjaa
set_option linter.unusedVariables false
open Go.RowKit Go.Shelf
theorem iMinor1 (i k : Nat) (W : World) : Calls Try.prog 90 #[.int .i64 i, .int .i64 k] W fun e w' => e = .returned (.int .i64 0) ∧ Below W.heap.size W w' := by
  go_enter Try.func90, Try.ntmps90
  go_wp2
  go_ret
  exact ⟨rfl, Below.refl _ _⟩
theorem enMinor (args : Array Value) (w : World) : (callFunc 90 args).run Try.prog w = .ok (.enter 90 args) w := enters_of Try.func90 (by kernel_rfl) rfl args w
/-- the second half of a row that is copied: its head and what it reads -/
theorem slice_off {b o n cap : Nat} (h : n < cap) : (if cap - n = 0 then (some ⟨b, o, none⟩ : Option Addr) else some ⟨b, o + n, none⟩) = some ⟨b, o + n, none⟩ := if_neg (by omega)
set_option maxRecDepth 100000 in
set_option maxHeartbeats 16000000 in
theorem iMinor_no (p : Int) (v : Value) (M : List (List Int)) (row col : Int) (w : World) (h : Mat w v M) (hno : minB p M row col = false) :
    Calls Try.prog 33 #[.int .i64 p, v, .int .i64 row, .int .i64 col] w fun e w' => ∃ u, e = .returned (.tuple #[u, .bool (minB p M row col)]) ∧ OwnMat w' w.heap.size u (minV p M row col) ∧ Below w.heap.size w w' := by
  have HMV := Lib.hid (iMV p v M w h)
  cases hB : matB p M
  · have HV := Lib.hid (show minB p M row col = false ∧ minV p M row col = [] by
      have : minB p M row col = false := by simp [minB, hB]
      exact ⟨this, by simp [minV, this]⟩)
    rw [hB] at HMV
    obtain ⟨_, _, a, cap, rfl, _⟩ := h
    clear hB
    go_enter Try.func33, Try.ntmps33
    go_wp2_with (go_at_call 31; refine HMV.out.mono ?_; rintro e w' ⟨rfl, rfl⟩)
    rw [HV.out.1, HV.out.2]
    refine bodyPost_ret (v := .tuple #[.slice none 0 0, .bool false]) (by simp [results, Try.results33, go_sem]) rfl ⟨_, rfl, OwnMat.nil _ _ _ _, Below.refl _ _⟩
  · obtain ⟨r, c, hr, hr1, hr4, hc, hc1, hc4, hrow, hel, hMF⟩ := matB_side hB
    obtain ⟨g, off, cap, rfl, hC⟩ := h.cells hr hr1 hc1 hrow
    rw [hB] at HMV
    obtain ⟨b0, o0, c0, _, hh0, _⟩ := hC.plc (show 0 < r by omega)
    have hh0 := hh0 w (Below.refl _ _)
    rw [Nat.add_zero] at hh0
    have hrp : 0 < r := by omega
    have hrpi : (0 : Int) < (r : Int) := by omega
    have HNO := Lib.hid (fun (hn : ¬ (2 ≤ r ∧ 2 ≤ c ∧ (0 ≤ row ∧ row < (r : Int)) ∧ 0 ≤ col ∧ col < (c : Int))) => show minB p M row col = false ∧ minV p M row col = [] by
      have : minB p M row col = false := by
        cases e : minB p M row col
        · rfl
        · have := minB_iff.1 e
          rw [hr, hc] at this
          exact absurd this.2 hn
      exact ⟨this, by simp [minV, this]⟩)
    have HYES := Lib.hid (fun (hn : 2 ≤ r ∧ 2 ≤ c ∧ (0 ≤ row ∧ row < (r : Int)) ∧ 0 ≤ col ∧ col < (c : Int)) => show minB p M row col = true ∧ minV p M row col = matF (c - 1) (minE (el M) row.toNat col.toNat) (r - 1) by
      have : minB p M row col = true := minB_iff.2 (by rw [hr, hc]; exact ⟨hB, hn⟩)
      exact ⟨this, by simp [minV, this, hr, hc]⟩)
    have HC := Lib.hid hC
    clear hB h hMF hel hrow hC
    by_cases h1 : r < 2
    · skip
      have h1i : (r : Int) < 2 := by omega
      go_enter Try.func33, Try.ntmps33
      go_wp2_with (go_at_call 31; refine HMV.out.mono ?_; rintro e w' ⟨rfl, rfl⟩)
      rw [(HNO.out (by omega)).1, (HNO.out (by omega)).2]
      refine bodyPost_ret (v := .tuple #[.slice none 0 0, .bool false]) (by simp [results, Try.results33, go_sem]) rfl ⟨_, rfl, OwnMat.nil _ _ _ _, Below.refl _ _⟩
    by_cases h2 : c < 2
    · skip
      have h1i : ¬ (r : Int) < 2 := by omega
      have h2i : (c : Int) < 2 := by omega
      go_enter Try.func33, Try.ntmps33
      go_wp2_with (go_at_call 31; refine HMV.out.mono ?_; rintro e w' ⟨rfl, rfl⟩)
      rw [(HNO.out (by omega)).1, (HNO.out (by omega)).2]
      refine bodyPost_ret (v := .tuple #[.slice none 0 0, .bool false]) (by simp [results, Try.results33, go_sem]) rfl ⟨_, rfl, OwnMat.nil _ _ _ _, Below.refl _ _⟩
    by_cases h3 : row < 0
    · skip
      have h1i : ¬ (r : Int) < 2 := by omega
      have h2i : ¬ (c : Int) < 2 := by omega
      go_enter Try.func33, Try.ntmps33
      go_wp2_with (go_at_call 31; refine HMV.out.mono ?_; rintro e w' ⟨rfl, rfl⟩)
      rw [(HNO.out (by omega)).1, (HNO.out (by omega)).2]
      refine bodyPost_ret (v := .tuple #[.slice none 0 0, .bool false]) (by simp [results, Try.results33, go_sem]) rfl ⟨_, rfl, OwnMat.nil _ _ _ _, Below.refl _ _⟩
    by_cases h4 : row ≥ (r : Int)
    · skip
      have h1i : ¬ (r : Int) < 2 := by omega
      have h2i : ¬ (c : Int) < 2 := by omega
      go_enter Try.func33, Try.ntmps33
      go_wp2_with (go_at_call 31; refine HMV.out.mono ?_; rintro e w' ⟨rfl, rfl⟩)
      rw [(HNO.out (by omega)).1, (HNO.out (by omega)).2]
      refine bodyPost_ret (v := .tuple #[.slice none 0 0, .bool false]) (by simp [results, Try.results33, go_sem]) rfl ⟨_, rfl, OwnMat.nil _ _ _ _, Below.refl _ _⟩
    by_cases h5 : col < 0
    · skip
      have h1i : ¬ (r : Int) < 2 := by omega
      have h2i : ¬ (c : Int) < 2 := by omega
      go_enter Try.func33, Try.ntmps33
      go_wp2_with (go_at_call 31; refine HMV.out.mono ?_; rintro e w' ⟨rfl, rfl⟩)
      rw [(HNO.out (by omega)).1, (HNO.out (by omega)).2]
      refine bodyPost_ret (v := .tuple #[.slice none 0 0, .bool false]) (by simp [results, Try.results33, go_sem]) rfl ⟨_, rfl, OwnMat.nil _ _ _ _, Below.refl _ _⟩
    by_cases h6 : col ≥ (c : Int)
    · skip
      have h1i : ¬ (r : Int) < 2 := by omega
      have h2i : ¬ (c : Int) < 2 := by omega
      go_enter Try.func33, Try.ntmps33
      go_wp2_with (go_at_call 31; refine HMV.out.mono ?_; rintro e w' ⟨rfl, rfl⟩)
      rw [(HNO.out (by omega)).1, (HNO.out (by omega)).2]
      refine bodyPost_ret (v := .tuple #[.slice none 0 0, .bool false]) (by simp [results, Try.results33, go_sem]) rfl ⟨_, rfl, OwnMat.nil _ _ _ _, Below.refl _ _⟩
    exfalso
    have := (HYES.out (by omega)).1
    rw [hno] at this
    cases this
end Go.Proofs.Ytgclbdpghlcgjaa
namespace Go.Proofs.Ytgclbdpghlcgjaa
set_option linter.unusedVariables false
open Go.RowKit Go.Shelf
theorem sk_lo {q i : Nat} (h : i < q) : sk q i = i := if_pos h
theorem sk_hi {q i : Nat} (h : ¬ i < q) : sk q i = i + 1 := if_neg h
set_option maxRecDepth 100000 in
set_option maxHeartbeats 16000000 in
theorem iMinor_yes (p : Int) (v : Value) (M : List (List Int)) (R L : Nat) (w : World) (h : Mat w v M) (hyes : minB p M (R : Int) (L : Int) = true) :
    Calls Try.prog 33 #[.int .i64 p, v, .int .i64 (R : Int), .int .i64 (L : Int)] w fun e w' => ∃ u, e = .returned (.tuple #[u, .bool true]) ∧ OwnMat w' w.heap.size u (minV p M (R : Int) (L : Int)) ∧ Below w.heap.size w w' := by
  have HMV := Lib.hid (iMV p v M w h)
  have HV0 := hyes
  obtain ⟨hB, e1, e2, e3, e4⟩ := minB_iff.1 hyes
  obtain ⟨r, c, hr, hr1, hr4, hc, hc1, hc4, hrow, hel, hMF⟩ := matB_side hB
  have HV := Lib.hid (show minV p M (R : Int) (L : Int) = matF (c - 1) (minE (el M) R L) (r - 1) by simp [minV, hyes, hr, hc])
  obtain ⟨g, off, cap, rfl, hC⟩ := h.cells hr hr1 hc1 hrow
  rw [hB] at HMV
  rw [hr] at e1 e3
  rw [hc] at e2 e4
  have h1i : ¬ (r : Int) < 2 := by omega
  have h2i : ¬ (c : Int) < 2 := by omega
  have h3 : ¬ (R : Int) < 0 := by omega
  have h4 : ¬ (R : Int) ≥ (r : Int) := by omega
  have h5 : ¬ (L : Int) < 0 := by omega
  have h6 : ¬ (L : Int) ≥ (c : Int) := by omega
  have hR : R < r := by omega
  have hL : L < c := by omega
  have hrp : 0 < r := by omega
  have hrpi : (0 : Int) < (r : Int) := by omega
  obtain ⟨r2, hr2⟩ : ∃ r2, r = r2 + 1 := ⟨r - 1, by omega⟩
  obtain ⟨c2, hc2⟩ : ∃ c2, c = c2 + 1 := ⟨c - 1, by omega⟩
  have hwr : IntKind.i64.wrap ((r : Int) - 1) = (r2 : Int) := by rw [IntWalk.i64_in _ (by omega)]; omega
  have hwc : IntKind.i64.wrap ((c : Int) - 1) = (c2 : Int) := by rw [IntWalk.i64_in _ (by omega)]; omega
  have HRC := Lib.hid (And.intro hr2 hc2)
  have HN := Lib.hid (fun w' => iNew r2 c2 (by omega) (by omega) (by omega) (by omega) (fun _ _ => 0) 90 #[] w' enMinor (fun W2 hb2 i k hi hk => iMinor1 i k W2))
  have HP := Lib.hid (fun i (hi : i < r) => hC.plc hi)
  obtain ⟨b0, o0, c0, _, hh0, _⟩ := hC.plc hrp
  have hh0 := hh0 w (Below.refl _ _)
  rw [Nat.add_zero] at hh0
  have hr5 : r2 ≤ 3 := by omega
  have hc5 : c2 ≤ 3 := by omega
  have hc51 : 1 ≤ c2 := by omega
  have hr51 : 1 ≤ r2 := by omega
  have hLc : L ≤ c2 := by omega
  have hLci : (L : Int) ≤ (c2 : Int) := by omega
  have hLc0 : (L : Int) ≤ (c : Int) := by omega
  have hLc1 : (L : Int) + 1 ≤ (c : Int) := by omega
  have hL0 : (0 : Int) ≤ (L : Int) := by omega
  have hwL : IntKind.i64.wrap ((L : Int) + 1) = (L : Int) + 1 := IntWalk.i64_in _ (by omega)
  obtain ⟨E, hE⟩ : ∃ E, E = el M := ⟨_, rfl⟩
  rw [← hE] at HV HP
  have HVV := Lib.hid (show minV p M (R : Int) (L : Int) = matF c2 (minE E R L) r2 by rw [HV.out, hr2, hc2]; rfl)
  clear hr2 hc2 hr hc HV0 hyes hB h e1 e2 e3 e4 hrow hel hMF hC hE HV
  go_enter Try.func33, Try.ntmps33
  go_wp2_with (go_at_call 31; refine HMV.out.mono ?_; rintro e w' ⟨rfl, rfl⟩)
  refine (HN.out _).mono ?_
  rintro e w1 ⟨u, rfl, ⟨_, _, ua, ucap, rfl, hd⟩, hb⟩
  rw [matF_len] at *
  rcases hd with hd | ⟨g2, off2, H, O, rfl, hm⟩
  · have := congrArg List.length hd
    rw [matF_len] at this
    simp at this; omega
  have HS := Lib.hid (show OMat w1 w.heap.size g2 off2 H O (matF c2 (minF E R L 0) r2) ∧ Below w.heap.size w w1 from ⟨by rw [matF_ext (F := fun _ _ => 0) (fun i k _ _ => by simp [minF])]; exact hm, hb⟩)
  clear hm hb hh0
  go_wp2_with fail
  go_loopw [60] (fun i wr => ∃ k : Nat, k ≤ r2 ∧ i = .int .i64 k ∧ OMat wr w.heap.size g2 off2 H O (matF c2 (minF E R L k) r2) ∧ Below w.heap.size w wr) (fun i _ => r2 - (intOf i).toNat)
  case atStart => exact ⟨0, by omega, rfl, HS.out⟩
  case round =>
    clear HS
    obtain ⟨i, hi, rfl, hm, hb⟩ := hrel
    by_cases hlt : i < r2
    · have hltp : (i : Int) < (r2 : Int) := by omega
      have hi0 : (0 : Int) ≤ (i : Int) := by omega
      have hir : (i : Int) < (r : Int) := by have := HRC.out.1; omega
      have hir1 : (i : Int) + 1 < (r : Int) := by have := HRC.out.1; omega
      have hwi : IntKind.i64.wrap ((i : Int) + 1) = (i : Int) + 1 := IntWalk.i64_in _ (by omega)
      obtain ⟨q0, q1, q2, _, q3, q4⟩ := HP.out i (by have := HRC.out.1; omega)
      obtain ⟨s0, s1, s2, hcap2, s3, s4⟩ := HP.out (sk R i) (by unfold sk; have := HRC.out.1; split <;> omega)
      have q3 := q3 _ hb
      have s3 := s3 _ hb
      have HS4 := Lib.hid s4
      obtain ⟨cp, k1, ⟨k2, k2c⟩, k3, k4, k5⟩ := hm.cellF hlt (by omega)
      have HF1 := Lib.hid (fun W (hW : Below wr.heap.size wr W) => show OMat (W.setCells (H i) (O i) (vals L (fun j => E (sk R i) j))) w.heap.size g2 off2 H O (matF c2 (updR (minF E R L i) i 0 L (fun j => E (sk R i) j)) r2) ∧ Below w.heap.size w (W.setCells (H i) (O i) (vals L (fun j => E (sk R i) j))) from by
        have := (hm.below hW).setsF hlt (by omega) (q := 0) (n := L) (by omega) (fun j => E (sk R i) j)
        rw [Nat.add_zero] at this
        exact ⟨this, (hb.trans (hW.mono hb.size)).trans (setCells_below k3 _ _ _)⟩)
      have HF2 := Lib.hid (fun W (hW : OMat W w.heap.size g2 off2 H O (matF c2 (updR (minF E R L i) i 0 L (fun j => E (sk R i) j)) r2) ∧ Below w.heap.size w W) => show OMat (W.setCells (H i) (O i + L) (vals (c2 - L) (fun j => E (sk R i) (L + 1 + j)))) w.heap.size g2 off2 H O (matF c2 (minF E R L (i + 1)) r2) ∧ Below w.heap.size w (W.setCells (H i) (O i + L) (vals (c2 - L) (fun j => E (sk R i) (L + 1 + j)))) from by
        have hcc := HRC.out.2
        have := hW.1.setsF hlt (by omega) (q := L) (n := c2 - L) (by omega) (fun j => E (sk R i) (L + 1 + j))
        refine ⟨?_, hW.2.trans (setCells_below k3 _ _ _)⟩
        rw [← matF_ext (fun a b _ hbk => minF_step (E := E) (row := R) (col := L) (n := i) (c := c) (a := a) hL (show b < c - 1 by omega)), show c - 1 - L = c2 - L by omega]
        exact this)
      have HCL := Lib.hid (fun w' (hw : Below wr.heap.size wr w') => show (w'.cell? ⟨g2, off2 + i, none⟩ = some (.slice (some ⟨H i, O i, none⟩) c2 cp) ∧ ∀ k, k < c2 → (∃ x, w'.cell? ⟨H i, O i + k, none⟩ = some x) ∧ w'.frozen? ⟨H i, O i + k, none⟩ = false) ∧ ∀ k, k < c → w'.cell? ⟨s0, s1 + k, none⟩ = some (.int .i64 (E (sk R i) k)) from
        ⟨⟨by rw [hw.cell (p := ⟨g2, off2 + i, none⟩) hm.gl]; exact k1, fun k hk => ⟨⟨_, by rw [hw.cell (p := ⟨H i, O i + k, none⟩) k4]; exact (k5 k hk).1⟩, by rw [hw.frozen (p := ⟨H i, O i + k, none⟩) k4]; exact (k5 k hk).2⟩⟩, fun k hk => HS4.out _ (hb.trans (hw.mono hb.size)) k hk⟩)
      have HK1 := Lib.hid (fun W (hW : Below wr.heap.size wr W) w' (hw : Below (W.setCells (H i) (O i) (vals L (fun j => E (sk R i) j))).heap.size (W.setCells (H i) (O i) (vals L (fun j => E (sk R i) j))) w') => show (w'.cell? ⟨g2, off2 + i, none⟩ = some (.slice (some ⟨H i, O i, none⟩) c2 cp) ∧ ∀ k, k < c2 → (∃ x, w'.cell? ⟨H i, O i + k, none⟩ = some x) ∧ w'.frozen? ⟨H i, O i + k, none⟩ = false) ∧ (∀ k, k < c → w'.cell? ⟨s0, s1 + k, none⟩ = some (.int .i64 (E (sk R i) k))) ∧ OMat w' w.heap.size g2 off2 H O (matF c2 (updR (minF E R L i) i 0 L (fun j => E (sk R i) j)) r2) ∧ Below w.heap.size w w' from by
        have h1 := HF1.out W hW
        have h2 := h1.1.below hw
        have h3 := h1.2.trans (hw.mono h1.2.size)
        obtain ⟨cp', j1, _, _, j4, j5⟩ := h2.cellF hlt (by omega)
        refine ⟨⟨?_, fun k hk => ⟨⟨_, (j5 k hk).1⟩, (j5 k hk).2⟩⟩, fun k hk => s4 _ h3 k hk, h2, h3⟩
        have hgl := hm.gl
        have hsz : (W.setCells (H i) (O i) (vals L (fun j => E (sk R i) j))).heap.size = W.heap.size := setCells_size (H i) 0 _ _ _
        rw [hw.cell (p := ⟨g2, off2 + i, none⟩) (by show g2 < _; rw [hsz]; have := hW.size; omega), World.cell?_setCells_out (H i) _ _ _ _ (fun h _ => absurd h.symm k2), hW.cell (p := ⟨g2, off2 + i, none⟩) hgl]
        exact k1)
      have hLs : L ≤ s2 := by omega
      have hL10 : (0 : Int) ≤ (L : Int) + 1 := by omega
      have HDS := Lib.hid (show ∃ d sd, (if cp = L then (some ⟨H i, O i, none⟩ : Option Addr) else some ⟨H i, O i + L, none⟩) = some ⟨H i, d, none⟩ ∧ (if s2 = L + 1 then (some ⟨s0, s1, none⟩ : Option Addr) else some ⟨s0, s1 + (L + 1), none⟩) = some ⟨s0, sd, none⟩ ∧ (L < c2 → d = O i + L ∧ sd = s1 + (L + 1)) from by
        have hcc := HRC.out.2
        by_cases e : L < c2
        · exact ⟨O i + L, s1 + (L + 1), if_neg (by omega), if_neg (by omega), fun _ => ⟨rfl, rfl⟩⟩
        · by_cases e1 : cp = L
          · by_cases e2 : s2 = L + 1
            · exact ⟨_, _, if_pos e1, if_pos e2, fun h => absurd h e⟩
            · exact ⟨_, _, if_pos e1, if_neg e2, fun h => absurd h e⟩
          · by_cases e2 : s2 = L + 1
            · exact ⟨_, _, if_neg e1, if_pos e2, fun h => absurd h e⟩
            · exact ⟨_, _, if_neg e1, if_neg e2, fun h => absurd h e⟩)
      clear hm hb s4 q4 k1 k5 HS4
      by_cases hRi : i < R
      · rw [sk_lo hRi] at s3
        clear q3
        have hge : ¬ (i : Int) ≥ (R : Int) := by omega
        go_wp2_with fail
        have hd1 : Below wr.heap.size wr wr.drew := Below.drew (Below.refl _ _)
        refine wp_region_seq [(0, true), (1, true), (2, true), (3, true), (4, true), (5, true), (6, true)] (fun w' => w'.cell? ⟨g2, off2 + i, none⟩ = some (.slice (some ⟨H i, O i, none⟩) c2 cp)) (by kernel_rfl) (by kernel_rfl) rfl (by intro c a d v w h; cases d <;> exact h) (HCL.out _ hd1).1.1 ?_
        iterate 7 (refine wpSeq_take (v := ?_) (List.getElem?_toArray.trans rfl) ?_ ?_; rotate_left; (intro w' hSw; (try dsimp only at hSw); go_simp; (try with_reducible rfl)); (try simp only [Act.put, List.setIfInBounds_toArray, List.set_cons_zero, List.set_cons_succ]))
        refine wpSeq_nil ?_
        simp only [Exit.then]
        have HC1 := Lib.hid (copy_ints wr.drew 3 (H i) (O i) c2 cp s0 s1 L s2 L (fun j => E (sk R i) j) (Nat.min_eq_left hLc).symm (fun j hj => (HCL.out _ hd1).2 j (by omega)) (fun j hj => ((HCL.out _ hd1).1.2 j (by omega)).1) (fun j hj => ((HCL.out _ hd1).1.2 j (by omega)).2))
        obtain ⟨W1, hW1⟩ : ∃ W1, W1 = wr.drew.setCells (H i) (O i) (vals L (fun j => E (sk R i) j)) := ⟨_, rfl⟩
        have H1 := Lib.hid (HF1.out wr.drew hd1)
        rw [← hW1] at HC1 H1
        have HD := Lib.hid (HK1.out wr.drew hd1)
        rw [← hW1] at HD
        clear hd1 hW1 s3
        refine Lib.wpList_copy_run _ rfl _ _ 32 32 rfl _ _ rfl rfl HC1.out ?_
        go_wp2_with fail
        have hd1 : Below W1.heap.size W1 W1.drew := Below.drew (Below.refl _ _)
        refine wp_region_seq [(0, true), (1, true), (2, true), (3, true), (4, true), (5, true), (6, true), (7, true), (8, true), (9, true)] (fun w' => w'.cell? ⟨g2, off2 + i, none⟩ = some (.slice (some ⟨H i, O i, none⟩) c2 cp)) (by kernel_rfl) (by kernel_rfl) rfl (by intro c a d v w h; cases d <;> exact h) (HD.out _ hd1).1.1 ?_
        iterate 10 (refine wpSeq_take (v := ?_) (List.getElem?_toArray.trans rfl) ?_ ?_; rotate_left; (intro w' hSw; (try dsimp only at hSw); go_simp; (try with_reducible rfl)); (try simp only [Act.put, List.setIfInBounds_toArray, List.set_cons_zero, List.set_cons_succ]))
        refine wpSeq_nil ?_
        simp only [Exit.then]
        obtain ⟨d, sd, hd9, hs9, hLd⟩ := HDS.out
        rw [hd9, hs9]
        have HC2 := Lib.hid (copy_ints W1.drew 3 (H i) d (c2 - L) (cp - L) s0 sd (c - (L + 1)) (s2 - (L + 1)) (c2 - L) (fun j => E (sk R i) (L + 1 + j)) (by have := HRC.out.2; rw [show c - (L + 1) = c2 - L by omega]; exact (Nat.min_self _).symm)
          (fun j hj => by
            have := HRC.out.2
            rw [(hLd (by omega)).2, show s1 + (L + 1) + j = s1 + (L + 1 + j) by omega]
            exact (HD.out _ hd1).2.1 (L + 1 + j) (by omega))
          (fun j hj => by rw [(hLd (by omega)).1, Nat.add_assoc]; exact ((HD.out _ hd1).1.2 (L + j) (by omega)).1)
          (fun j hj => by rw [(hLd (by omega)).1, Nat.add_assoc]; exact ((HD.out _ hd1).1.2 (L + j) (by omega)).2))
        have H2 := HF2.out W1.drew (HD.out _ hd1).2.2
        have eW : W1.drew.setCells (H i) (O i + L) (vals (c2 - L) (fun j => E (sk R i) (L + 1 + j))) = W1.drew.setCells (H i) d (vals (c2 - L) (fun j => E (sk R i) (L + 1 + j))) := by
          by_cases e : L < c2
          · rw [(hLd e).1]
          · rw [show c2 - L = 0 by omega]; rfl
        rw [eW] at H2
        obtain ⟨W2, hW2⟩ : ∃ W2, W2 = W1.drew.setCells (H i) d (vals (c2 - L) (fun j => E (sk R i) (L + 1 + j))) := ⟨_, rfl⟩
        rw [← hW2] at HC2 H2
        have HF := Lib.hid H2
        clear H2 eW hW2 hd1 hd9 hs9 hLd
        refine Lib.wpList_copy_run _ rfl _ _ 32 32 rfl _ _ rfl rfl HC2.out ?_
        go_wp2_with fail
        go_roundw
        case rel => exact ⟨i + 1, by omega, by go_num, HF.out⟩
        case measure => simp [intOf]; omega
      · rw [sk_hi hRi] at s3
        have hge : (i : Int) ≥ (R : Int) := by omega
        go_wp2_with fail
        have hd1 : Below wr.heap.size wr wr.drew := Below.drew (Below.refl _ _)
        refine wp_region_seq [(0, true), (1, true), (2, true), (3, true), (4, true), (5, true), (6, true)] (fun w' => w'.cell? ⟨g2, off2 + i, none⟩ = some (.slice (some ⟨H i, O i, none⟩) c2 cp)) (by kernel_rfl) (by kernel_rfl) rfl (by intro c a d v w h; cases d <;> exact h) (HCL.out _ hd1).1.1 ?_
        iterate 7 (refine wpSeq_take (v := ?_) (List.getElem?_toArray.trans rfl) ?_ ?_; rotate_left; (intro w' hSw; (try dsimp only at hSw); go_simp; (try with_reducible rfl)); (try simp only [Act.put, List.setIfInBounds_toArray, List.set_cons_zero, List.set_cons_succ]))
        refine wpSeq_nil ?_
        simp only [Exit.then]
        have HC1 := Lib.hid (copy_ints wr.drew 3 (H i) (O i) c2 cp s0 s1 L s2 L (fun j => E (sk R i) j) (Nat.min_eq_left hLc).symm (fun j hj => (HCL.out _ hd1).2 j (by omega)) (fun j hj => ((HCL.out _ hd1).1.2 j (by omega)).1) (fun j hj => ((HCL.out _ hd1).1.2 j (by omega)).2))
        obtain ⟨W1, hW1⟩ : ∃ W1, W1 = wr.drew.setCells (H i) (O i) (vals L (fun j => E (sk R i) j)) := ⟨_, rfl⟩
        have H1 := Lib.hid (HF1.out wr.drew hd1)
        rw [← hW1] at HC1 H1
        have HD := Lib.hid (HK1.out wr.drew hd1)
        rw [← hW1] at HD
        clear hd1 hW1 s3
        refine Lib.wpList_copy_run _ rfl _ _ 32 32 rfl _ _ rfl rfl HC1.out ?_
        go_wp2_with fail
        have hd1 : Below W1.heap.size W1 W1.drew := Below.drew (Below.refl _ _)
        refine wp_region_seq [(0, true), (1, true), (2, true), (3, true), (4, true), (5, true), (6, true), (7, true), (8, true), (9, true)] (fun w' => w'.cell? ⟨g2, off2 + i, none⟩ = some (.slice (some ⟨H i, O i, none⟩) c2 cp)) (by kernel_rfl) (by kernel_rfl) rfl (by intro c a d v w h; cases d <;> exact h) (HD.out _ hd1).1.1 ?_
        iterate 10 (refine wpSeq_take (v := ?_) (List.getElem?_toArray.trans rfl) ?_ ?_; rotate_left; (intro w' hSw; (try dsimp only at hSw); go_simp; (try with_reducible rfl)); (try simp only [Act.put, List.setIfInBounds_toArray, List.set_cons_zero, List.set_cons_succ]))
        refine wpSeq_nil ?_
        simp only [Exit.then]
        obtain ⟨d, sd, hd9, hs9, hLd⟩ := HDS.out
        rw [hd9, hs9]
        have HC2 := Lib.hid (copy_ints W1.drew 3 (H i) d (c2 - L) (cp - L) s0 sd (c - (L + 1)) (s2 - (L + 1)) (c2 - L) (fun j => E (sk R i) (L + 1 + j)) (by have := HRC.out.2; rw [show c - (L + 1) = c2 - L by omega]; exact (Nat.min_self _).symm)
          (fun j hj => by
            have := HRC.out.2
            rw [(hLd (by omega)).2, show s1 + (L + 1) + j = s1 + (L + 1 + j) by omega]
            exact (HD.out _ hd1).2.1 (L + 1 + j) (by omega))
          (fun j hj => by rw [(hLd (by omega)).1, Nat.add_assoc]; exact ((HD.out _ hd1).1.2 (L + j) (by omega)).1)
          (fun j hj => by rw [(hLd (by omega)).1, Nat.add_assoc]; exact ((HD.out _ hd1).1.2 (L + j) (by omega)).2))
        have H2 := HF2.out W1.drew (HD.out _ hd1).2.2
        have eW : W1.drew.setCells (H i) (O i + L) (vals (c2 - L) (fun j => E (sk R i) (L + 1 + j))) = W1.drew.setCells (H i) d (vals (c2 - L) (fun j => E (sk R i) (L + 1 + j))) := by
          by_cases e : L < c2
          · rw [(hLd e).1]
          · rw [show c2 - L = 0 by omega]; rfl
        rw [eW] at H2
        obtain ⟨W2, hW2⟩ : ∃ W2, W2 = W1.drew.setCells (H i) d (vals (c2 - L) (fun j => E (sk R i) (L + 1 + j))) := ⟨_, rfl⟩
        rw [← hW2] at HC2 H2
        have HF := Lib.hid H2
        clear H2 eW hW2 hd1 hd9 hs9 hLd
        refine Lib.wpList_copy_run _ rfl _ _ 32 32 rfl _ _ rfl rfl HC2.out ?_
        go_wp2_with fail
        go_roundw
        case rel => exact ⟨i + 1, by omega, by go_num, HF.out⟩
        case measure => simp [intOf]; omega
    · have hir : i = r2 := by omega
      subst hir
      have HF := Lib.hid (show OwnMat wr w.heap.size (.slice (some ⟨g2, off2, none⟩) i ucap) (matF c2 (minE E R L) i) ∧ Below w.heap.size w wr from by
        refine ⟨?_, hb⟩
        rw [matF_ext (E := minE E R L) (F := minF E R L i) (fun a b ha _ => (if_pos ha).symm)]
        exact hm.own (by omega) (by omega))
      clear hm hb
      go_wp2_with fail
      rw [HVV.out]
      refine bodyPost_ret (v := .tuple #[.slice (some ⟨g2, off2, none⟩) i ucap, .bool true]) (by simp [results, Try.results33, go_sem]) rfl ⟨_, rfl, HF.out⟩
theorem iMinorOf (p : Int) (v : Value) (M : List (List Int)) (row col : Int) (w : World) (h : Mat w v M) :
    Calls Try.prog 33 #[.int .i64 p, v, .int .i64 row, .int .i64 col] w fun e w' => ∃ u, e = .returned (.tuple #[u, .bool (minB p M row col)]) ∧ OwnMat w' w.heap.size u (minV p M row col) ∧ Below w.heap.size w w' := by
  cases hn : minB p M row col
  · refine (iMinor_no p v M row col w h hn).mono ?_
    rintro e w' ⟨u, rfl, h1, h2⟩
    exact ⟨u, by rw [hn], h1, h2⟩
  · obtain ⟨_, _, _, ⟨h1, _⟩, h2, _⟩ := minB_iff.1 hn
    obtain ⟨R, rfl⟩ := Int.eq_ofNat_of_zero_le h1
    obtain ⟨L, rfl⟩ := Int.eq_ofNat_of_zero_le h2
    exact iMinor_yes p v M R L w h hn
end Go.Proofs.Ytgclbdpghlcgjaa
namespace Go.Proofs.Ytgclbdpghlcgjaa
set_option linter.unusedVariables false
open Go.RowKit
/-- an append at a step of a region, of however many elements, onto a slice that lies somewhere -/
theorem wp_append_any {P : Program} (w : World) {o : Oper} {a : Act} {K : Act → World → Prop} {Q : Exit → Act → World → Prop} (s x : Operand) (t : TypeId)
    (ho : o.op = .call { callee := .builtin .append, args := #[s, x], argTypes := #[t, t] })
    (base : Nat) (e : TypeId) (i : TypeInfo) (z : Value) (size bytes : Nat) (ht : P.underlying t = some (.slice e)) (hi : P.info? e = some i) (hz : i.zero = some z)
    (hsize : i.size = size) (hby : i.bytes = bytes) (hzs : z.cells.size = size) (hsz : 0 < size)
    (g0 n c0 : Nat) (xs : List Value) (hs : a.eval s = .slice (some ⟨g0, 0, none⟩) n c0) (hown : w.ownsRow base e size (.slice (some ⟨g0, 0, none⟩) n c0) n xs)
    (ad : Addr) (m c : Nat) (news : List Value) (hx : a.eval x = .slice (some ad) m c) (hl : news.length = m * size) (hnews : ∀ j u, news[j]? = some u → w.cell? (ad.add j) = some u) (h1 : ∀ u ∈ news, u.oneCell' = true)
    (h63 : n + m ≤ maxLen) (hbytes : (n + m) * bytes ≤ 140737488355328) (hbase : base ≤ w.heap.size)
    (h : ∀ g cap w', w'.ownsRow base e size (.slice (some ⟨g, 0, none⟩) (n + m) cap) (n + m) (xs ++ news) → w.grownBy w' (some g0) → (g = g0 ∨ g = w.heap.size) → K (a.put o.dst (.slice (some ⟨g, 0, none⟩) (n + m) cap)) w') : o.wp P a w K Q := by
  obtain ⟨v', w', hr, h2, h3, h4, h5⟩ := run_append_own_at (P := P) w base t o.type e i z size bytes ht hi hz hsize hby hzs hsz _ n xs hown ad m c news hl hnews h1 h63 hbytes hbase
  have hn : v' ≠ .slice none 0 0 := fun e => by have := (h4.1 e).1; cases this
  obtain ⟨g, cap, rfl⟩ : ∃ g cap, v' = .slice (some ⟨g, 0, none⟩) (n + m) cap := by
    rcases h2.2 with ⟨h6, _⟩ | ⟨g, cap, cur, h6, _⟩
    · exact absurd h6 hn
    · exact ⟨g, cap, h6⟩
  have h7 : g = g0 ∨ g = w.heap.size := by
    rcases h5 with h5 | h5
    · left; simpa [Value.ownBlock] using h5
    · right; simpa [Value.ownBlock] using h5
  unfold Oper.wp execOp
  simp only [ho, resolve, invoke, builtin, Sem.run_bind, Sem.run_pure, Result.andThen_ok, List.map_toArray, List.map_cons, List.map_nil, hs, hx, hr]
  exact h g cap w' h2 h3 h7
theorem vals_one {n : Nat} {G : Nat → Int} : ∀ u ∈ vals n G, u.oneCell' = true := by
  intro v hv
  unfold vals at hv
  obtain ⟨j, _, rfl⟩ := List.mem_map.1 hv
  rfl
theorem vals_at {w : World} {h q n : Nat} {G : Nat → Int} (hsrc : ∀ j, j < n → w.cell? ⟨h, q + j, none⟩ = some (.int .i64 (G j))) : ∀ j u, (vals n G)[j]? = some u → w.cell? ((⟨h, q, none⟩ : Addr).add j) = some u := by
  intro j u hv
  obtain ⟨hj, rfl⟩ := vals_get hv
  have hadd : (⟨h, q, none⟩ : Addr).add j = ⟨h, q + j, none⟩ := by unfold Addr.add; split <;> simp_all
  rw [hadd]; exact hsrc j hj
theorem min_row {E : Nat → Nat → Int} {L c i : Nat} (hL : L < c) : vals L (fun j => E i j) ++ vals (c - (L + 1)) (fun j => E i (L + 1 + j)) = ((List.range (c - 1)).map (fun k => E i (sk L k))).map (Value.int .i64) := by
  apply List.ext_getElem (by simp [vals]; omega)
  intro k h1 h2
  have hk : k < c - 1 := by simpa using h2
  simp only [List.getElem_map, List.getElem_range]
  by_cases h : k < L
  · rw [List.getElem_append_left (by rw [vals_len]; exact h)]
    simp [vals, sk, h]
  · rw [List.getElem_append_right (by rw [vals_len]; omega)]
    simp only [vals, List.getElem_map, List.getElem_range, List.length_map, List.length_range]
    rw [show sk L k = L + 1 + (k - L) by unfold sk; rw [if_neg h]; omega]
/-- the rows that the model has made behind i rounds -/
def doneR (R i : Nat) : Nat := if i ≤ R then i else i - 1
theorem doneR_hit {R i : Nat} (h : i ≠ R) : doneR R (i + 1) = doneR R i + 1 ∧ sk R (doneR R i) = i := by
  unfold doneR sk
  by_cases h1 : i < R
  · rw [if_pos (show i ≤ R by omega), if_pos (show i + 1 ≤ R by omega), if_pos h1]
    exact ⟨rfl, rfl⟩
  · rw [if_neg (show ¬ i ≤ R by omega), if_neg (show ¬ i + 1 ≤ R by omega), if_neg (by omega)]
    omega
theorem doneR_miss (R : Nat) : doneR R (R + 1) = doneR R R := by
  unfold doneR; rw [if_neg (by omega), if_pos (by omega)]; omega
set_option maxRecDepth 100000 in
set_option maxHeartbeats 16000000 in
theorem sMinor (g off cap r c R L : Nat) (E : Nat → Nat → Int) (w : World) (hC : MatC w g off r c E) (hr1 : 1 ≤ r) (hr4 : r ≤ 4) (hc4 : c ≤ 4) (hR : R < r) (hL : L < c) :
    Calls Try.prog 124 #[.slice (some ⟨g, off, none⟩) r cap, .int .i64 R, .int .i64 L] w fun e w' => ∃ u V H, e = .returned u ∧ RowsW w' w.heap.size u (matF (c - 1) (minE E R L) (r - 1)) V H ∧ Below w.heap.size w w' := by
  obtain ⟨i0, hi, hz0, hz1, hz2⟩ := info_parts infoIn
  obtain ⟨is, his, hs0, hs1, hs2⟩ := info_parts infoIS
  have HP := Lib.hid (fun i (hi : i < r) => hC.plc hi)
  have hrp : 0 < r := by omega
  have hL0 : (0 : Int) ≤ (L : Int) := by omega
  have hL10 : (0 : Int) ≤ (L : Int) + 1 := by omega
  have hLc : (L : Int) ≤ (c : Int) := by omega
  have hLc1 : (L : Int) + 1 ≤ (c : Int) := by omega
  have hwL : IntKind.i64.wrap ((L : Int) + 1) = (L : Int) + 1 := IntWalk.i64_in _ (by omega)
  have HS := Lib.hid (show RowsW (w.alloc (.cells #[] 32)) w.heap.size (.slice (some ⟨w.heap.size, 0, none⟩) 0 0) (matF (c - 1) (minE E R L) (doneR R 0)) [] (fun _ => 0) ∧ Below w.heap.size w (w.alloc (.cells #[] 32)) from
    ⟨by rw [show doneR R 0 = 0 from rfl]; exact RowsW.lit w _ (Nat.le_refl _), Below.alloc (Below.refl _ _) (Nat.le_refl _) _⟩)
  clear hC
  go_enter Try.func124, Try.ntmps124
  go_wp2_with fail
  go_loopw [7, 13] (fun v i wr => ∃ (n : Nat) (V : List Value) (H : Nat → Nat), n ≤ r ∧ i = .int .i64 n ∧ RowsW wr w.heap.size v (matF (c - 1) (minE E R L) (doneR R n)) V H ∧ Below w.heap.size w wr) (fun _ i _ => r - (intOf i).toNat)
  case atStart => exact ⟨0, _, _, by omega, rfl, HS.out⟩
  case round =>
    clear HS
    obtain ⟨n, V, H, hn, rfl, hS, hb⟩ := hrel
    by_cases hlt : n < r
    · have hltp : (n : Int) < (r : Int) := by omega
      have hn0 : (0 : Int) ≤ (n : Int) := by omega
      obtain ⟨hh, ho, hcp, hcc, q3, q4⟩ := HP.out n hlt
      have q3 := q3 _ hb
      by_cases hnR : n = R
      · have hne : ((n : Int) != (R : Int)) = false := by simp [hnR]
        have e : doneR R (n + 1) = doneR R n := by rw [hnR]; exact doneR_miss R
        rw [← e] at hS
        have HF := Lib.hid (And.intro hS hb)
        clear hS hb q4 hnR e
        go_wp2_with fail
        go_roundw
        case rel => exact ⟨n + 1, _, _, by omega, by go_num, HF.out⟩
        case measure => simp [intOf]; omega
      · have hne : ((n : Int) != (R : Int)) = true := by simp; omega
        have hd := doneR_hit hnR
        obtain ⟨d, hde⟩ : ∃ d, d = doneR R n := ⟨_, rfl⟩
        rw [← hde] at hS hd
        have hdr : d < r - 1 := by
          have : doneR R (n + 1) ≤ r - 1 := by unfold doneR; split <;> omega
          omega
        have hwb : w.heap.size ≤ wr.heap.size := hb.size
        have hVl : V.length ≤ 5 := by rw [hS.len, matF_len]; omega
        have HE := Lib.hid hd
        have HB := Lib.hid hb
        have HS := Lib.hid hS
        have HQ := Lib.hid (fun w' (hw : Below wr.heap.size wr w') k (hk : k < c) => q4 w' (hb.trans (hw.mono hb.size)) k hk)
        have hLp : L ≤ hcp := by omega
        have hsl : (if hcp = L + 1 then (some ⟨hh, ho, none⟩ : Option Addr) else some ⟨hh, ho + (L + 1), none⟩) = (if hcp = L + 1 then (some ⟨hh, ho, none⟩ : Option Addr) else some ⟨hh, ho + (L + 1), none⟩) := rfl
        have HDS := Lib.hid (show ∃ sd, (if hcp = L + 1 then (some ⟨hh, ho, none⟩ : Option Addr) else some ⟨hh, ho + (L + 1), none⟩) = some ⟨hh, sd, none⟩ ∧ (L + 1 < c → sd = ho + (L + 1)) from by
          by_cases e2 : hcp = L + 1
          · exact ⟨_, if_pos e2, fun h => by omega⟩
          · exact ⟨_, if_neg e2, fun _ => rfl⟩)
        clear hS hb q4 hde hd hsl
        go_wp2_with fail
        refine wp_region_seq [(0, true), (2, true), (3, true), (4, true), (6, true), (7, true), (8, true), (9, true), (1, false), (5, false), (10, false), (11, false), (12, false)] (fun _ => True) (by kernel_rfl) (by kernel_rfl) rfl (by intro c a d v w h; cases d <;> exact h) trivial ?_
        iterate 8 (refine wpSeq_take (v := ?_) (List.getElem?_toArray.trans rfl) ?_ ?_; rotate_left; (intro w' hSw; (try dsimp only at hSw); go_simp; (try with_reducible rfl)); (try simp only [Act.put, List.setIfInBounds_toArray, List.set_cons_zero, List.set_cons_succ]))
        refine wpSeq_do (List.getElem?_toArray.trans rfl) (fun K hK => ?_)
        go_simp
        refine hK _ _ trivial ?_
        clear hK K
        obtain ⟨sd, hsd, hsL⟩ := HDS.out
        rw [hsd]
        obtain ⟨W0, hW0⟩ : ∃ W0, W0 = (wr.alloc (Obj.cells #[] 3)).drew := ⟨_, rfl⟩
        have hb0 : Below wr.heap.size wr W0 := by rw [hW0]; exact Below.drew (Below.alloc (Below.refl _ _) (Nat.le_refl _) _)
        have hE0 : W0.ownsRow wr.heap.size 3 1 (.slice (some ⟨wr.heap.size, 0, none⟩) 0 0) 0 [] := by
          rw [hW0]; exact (World.ownsRow_lit (size := 1) wr #[] 0 (Nat.le_refl _) (by unfold maxLen; omega) rfl).drew
        rw [← hW0]
        clear hW0 hsd
        refine wpSeq_do (List.getElem?_toArray.trans rfl) (fun K hK => ?_)
        refine wp_append_any _ _ _ 32 rfl wr.heap.size 3 i0 (.int .i64 0) 1 8 Try.underlying32 hi hz0 hz1 hz2 rfl (by decide) wr.heap.size 0 0 [] rfl hE0 ⟨hh, ho, none⟩ L hcp (vals L (fun j => E n j)) rfl (by rw [vals_len]; omega) (vals_at (fun j hj => HQ.out W0 hb0 j (by omega))) vals_one (by unfold maxLen; omega) (by omega) hb0.size ?_
        intro g5 c5 w5 hown5 hgrow5 hat5
        refine hK _ _ trivial ?_
        clear hK K
        have hb5 : Below wr.heap.size wr w5 := hb0.grown hgrow5 hb0.size (fun k hk => by
          have hk : wr.heap.size = k := by simpa using hk
          omega)
        clear hgrow5 hat5 hE0 hb0
        refine wpSeq_do (List.getElem?_toArray.trans rfl) (fun K hK => ?_)
        refine wp_append_any _ _ _ 32 rfl wr.heap.size 3 i0 (.int .i64 0) 1 8 Try.underlying32 hi hz0 hz1 hz2 rfl (by decide) g5 (0 + L) c5 ([] ++ vals L (fun j => E n j)) rfl hown5 ⟨hh, sd, none⟩ (c - (L + 1)) (hcp - (L + 1)) (vals (c - (L + 1)) (fun j => E n (L + 1 + j))) rfl (by rw [vals_len]; omega)
          (vals_at (fun j hj => by rw [hsL (by omega), show ho + (L + 1) + j = ho + (L + 1 + j) by omega]; exact HQ.out w5 hb5 (L + 1 + j) (by omega))) vals_one (by unfold maxLen; omega) (by omega) hb5.size ?_
        intro g6 c6 w6 hown6 hgrow6 hat6
        refine hK _ _ trivial ?_
        clear hK K
        have hg5 : wr.heap.size ≤ g5 := (hown5.lt g5 rfl).1
        have hb6 : Below wr.heap.size wr w6 := hb5.grown hgrow6 hb5.size (fun k hk => by
          have hk : g5 = k := by simpa using hk
          omega)
        rw [show 0 + L + (c - (L + 1)) = c - 1 by omega, List.nil_append, min_row hL] at hown6
        rw [show 0 + L + (c - (L + 1)) = c - 1 by omega]
        have hg6 : wr.heap.size ≤ g6 := (hown6.lt g6 rfl).1
        have hc6 := owns_cap hown6
        have hA6 := ArI.own hown6 (by simp)
        have hs6 : wr.heap.size ≤ w6.heap.size := hb6.size
        clear hown5 hown6 hgrow6 hat6 hb5 hg5
        refine wpSeq_do (List.getElem?_toArray.trans rfl) (fun K hK => ?_)
        go_simp
        refine hK _ _ trivial ?_
        clear hK K
        have hA7 : ∀ o, Below w6.heap.size w6 (w6.alloc o) := fun o => Below.alloc (Below.refl _ _) (Nat.le_refl _) _
        have HRW := Lib.hid (fun o => ((HS.out.below hb6).below (hA7 o)).row)
        refine wpSeq_do (List.getElem?_toArray.trans rfl) (fun K hK => ?_)
        refine wp_append_lies _ _ _ 24 rfl w.heap.size 32 is (.slice none 0 0) 1 24 Try.underlying24 his hs0 hs1 hs2 rfl (by decide) _ _ _ rfl (HRW.out _) ⟨w6.heap.size, 0, none⟩ 1 1 [.slice (some ⟨g6, 0, none⟩) (c - 1) c6] rfl rfl (by intro j u hj; match j, hj with | 0, hj => (simp at hj; subst hj; simp [Addr.add, go_sem])) (by intro u hu; simp at hu; subst hu; rfl) (by omega) (by unfold maxLen; omega) (by omega) (by simp; omega) _ rfl ?_
        intro g8 c8 w8 hown8 hgrow8 hat8 hlt8
        refine hK _ _ trivial ?_
        clear hK K
        have hrowl : ((List.range (c - 1)).map (fun k => E n (sk L k))).length = c - 1 := by simp
        have h8 := HS.out.push hb6 hA6 (by rw [hrowl]; omega) (c9 := c6) (by rw [hrowl]; exact hc6) hwb hg6 (hA7 _) (by rw [hrowl]; exact hown8) hgrow8 hat8 (by simp)
        have e8 : matF (c - 1) (minE E R L) d ++ [(List.range (c - 1)).map (fun k => E n (sk L k))] = matF (c - 1) (minE E R L) (doneR R (n + 1)) := by
          rw [HE.out.1, matF_succ]
          unfold minE
          rw [HE.out.2]
        rw [e8] at h8
        have H8 := Lib.hid h8
        have HB8 := Lib.hid (HB.out.trans H8.out.2)
        clear h8 e8 hown8 hgrow8 hat8 hlt8 HRW hA6 hA7 hb6 hrowl
        refine wpSeq_nil ?_
        simp only [Exit.then]
        go_wp2_with fail
        go_roundw
        case rel => exact ⟨n + 1, _, _, by omega, by go_num, H8.out.1, HB8.out⟩
        case measure => simp [intOf]; omega
    · have hnr : n = r := by omega
      subst hnr
      have e : doneR R n = n - 1 := by unfold doneR; rw [if_neg (by omega)]
      rw [e] at hS
      have HF := Lib.hid (And.intro hS hb)
      clear hS hb
      go_wp2_with fail
      go_ret
      exact ⟨_, _, _, rfl, HF.out⟩
end Go.Proofs.Ytgclbdpghlcgjaa
namespace Go.Proofs.Ytgclbdpghlcgjaa
set_option linter.unusedVariables false
open Go.RowKit Go.Shelf
theorem sInB (b : Bool) (n lo hi : Int) (h : (decide (lo ≤ n) && decide (n ≤ hi)) = b) (w : World) :
    Calls Try.prog 88 #[.int .i64 n, .int .i64 lo, .int .i64 hi] w fun e w' => e = .returned (.bool b) ∧ w = w' := by
  subst h; exact sIn n lo hi w
set_option maxRecDepth 100000 in
set_option maxHeartbeats 16000000 in
theorem sRawMinor (p : Int) (v : Value) (M : List (List Int)) (row col : Int) (w : World) (h : Mat w v M) :
    Calls Try.prog 117 #[.int .i64 p, v, .int .i64 row, .int .i64 col] w fun e w' => ∃ u, e = .returned (.tuple #[u, .bool (minB p M row col)]) ∧ OwnMat w' w.heap.size u (minV p M row col) ∧ Below w.heap.size w w' := by
  have HMV := Lib.hid (sMV p v M w h)
  have HNIL := Lib.hid (show OwnMat (w.alloc (.cells #[] 32)) w.heap.size (.slice (some ⟨w.heap.size, 0, none⟩) 0 0) [] ∧ Below w.heap.size w (w.alloc (.cells #[] 32)) from ⟨OwnMat.nil _ _ _ _, Below.alloc (Below.refl _ _) (Nat.le_refl _) _⟩)
  cases hB : matB p M
  · have HV := Lib.hid (show minB p M row col = false ∧ minV p M row col = [] by
      have : minB p M row col = false := by simp [minB, hB]
      exact ⟨this, by simp [minV, this]⟩)
    rw [hB] at HMV
    obtain ⟨_, _, a, cap, rfl, _⟩ := h
    clear hB
    go_enter Try.func117, Try.ntmps117
    go_wp2_with (go_at_call 32; refine HMV.out.mono ?_; rintro e w' ⟨rfl, rfl⟩)
    rw [HV.out.1, HV.out.2]
    refine bodyPost_ret (v := .tuple #[.slice (some ⟨w.heap.size, 0, none⟩) 0 0, .bool false]) (by simp [results, Try.results117, go_sem]) rfl ⟨_, rfl, HNIL.out⟩
  · obtain ⟨r, c, hr, hr1, hr4, hc, hc1, hc4, hrow, hel, hMF⟩ := matB_side hB
    obtain ⟨g, off, cap, rfl, hC⟩ := h.cells hr hr1 hc1 hrow
    rw [hB] at HMV
    obtain ⟨b0, o0, c0, _, hh0, _⟩ := hC.plc (show 0 < r by omega)
    have hh0 := hh0 w (Below.refl _ _)
    rw [Nat.add_zero] at hh0
    have hrp : 0 < r := by omega
    have hrpi : (0 : Int) < (r : Int) := by omega
    obtain ⟨r2, hr2⟩ : ∃ r2, r = r2 + 1 := ⟨r - 1, by omega⟩
    obtain ⟨c2, hc2⟩ : ∃ c2, c = c2 + 1 := ⟨c - 1, by omega⟩
    have hwr : IntKind.i64.wrap ((r : Int) - 1) = (r2 : Int) := by rw [IntWalk.i64_in _ (by omega)]; omega
    have hwc : IntKind.i64.wrap ((c : Int) - 1) = (c2 : Int) := by rw [IntWalk.i64_in _ (by omega)]; omega
    have HNO := Lib.hid (fun (hn : ¬ (2 ≤ r ∧ 2 ≤ c ∧ (0 ≤ row ∧ row < (r : Int)) ∧ 0 ≤ col ∧ col < (c : Int))) => show minB p M row col = false ∧ minV p M row col = [] by
      have : minB p M row col = false := by
        cases e : minB p M row col
        · rfl
        · have := minB_iff.1 e
          rw [hr, hc] at this
          exact absurd this.2 hn
      exact ⟨this, by simp [minV, this]⟩)
    have HYES := Lib.hid (fun (hn : 2 ≤ r ∧ 2 ≤ c ∧ (0 ≤ row ∧ row < (r : Int)) ∧ 0 ≤ col ∧ col < (c : Int)) => show minB p M row col = true ∧ minV p M row col = matF (c - 1) (minE (el M) row.toNat col.toNat) (r - 1) by
      have : minB p M row col = true := minB_iff.2 (by rw [hr, hc]; exact ⟨hB, hn⟩)
      exact ⟨this, by simp [minV, this, hr, hc]⟩)
    have HRC := Lib.hid (And.intro hr2 hc2)
    have HC := Lib.hid hC
    clear hB h hMF hel hrow hC
    by_cases h1 : r < 2
    · skip
      have h1i : (r : Int) < 2 := by omega
      have HV := Lib.hid (HNO.out (by omega))
      clear hr2 hc2 hr hc
      go_enter Try.func117, Try.ntmps117
      go_wp2_with fail
      refine HMV.out.mono ?_
      rintro e w' ⟨rfl, rfl⟩
      go_wp2_with fail
      rw [HV.out.1, HV.out.2]
      refine bodyPost_ret (v := .tuple #[.slice (some ⟨w.heap.size, 0, none⟩) 0 0, .bool false]) (by simp [results, Try.results117, go_sem]) rfl ⟨_, rfl, HNIL.out⟩
    by_cases h2 : c < 2
    · skip
      have h1i : ¬ (r : Int) < 2 := by omega
      have h2i : (c : Int) < 2 := by omega
      have HV := Lib.hid (HNO.out (by omega))
      clear hr2 hc2 hr hc
      go_enter Try.func117, Try.ntmps117
      go_wp2_with fail
      refine HMV.out.mono ?_
      rintro e w' ⟨rfl, rfl⟩
      go_wp2_with fail
      rw [HV.out.1, HV.out.2]
      refine bodyPost_ret (v := .tuple #[.slice (some ⟨w.heap.size, 0, none⟩) 0 0, .bool false]) (by simp [results, Try.results117, go_sem]) rfl ⟨_, rfl, HNIL.out⟩
    by_cases h3 : 0 ≤ row ∧ row ≤ (r2 : Int)
    · have HI1 := Lib.hid (sInB true row 0 (r2 : Int) (by simp; omega))
      by_cases h4 : 0 ≤ col ∧ col ≤ (c2 : Int)
      · have HI2 := Lib.hid (sInB true col 0 (c2 : Int) (by simp; omega))
        obtain ⟨R, rfl⟩ := Int.eq_ofNat_of_zero_le h3.1
        obtain ⟨L, rfl⟩ := Int.eq_ofNat_of_zero_le h4.1
        have HV := Lib.hid (HYES.out (by omega))
        simp only [Int.toNat_natCast] at HV
        have HM := Lib.hid (sMinor g off cap r c R L (el M) w HC.out (by omega) hr4 hc4 (by omega) (by omega))
        have h1i : ¬ (r : Int) < 2 := by omega
        have h2i : ¬ (c : Int) < 2 := by omega
        clear hr2 hc2 hr hc
        go_enter Try.func117, Try.ntmps117
        go_wp2_with fail
        refine HMV.out.mono ?_
        rintro e w' ⟨rfl, rfl⟩
        go_wp2_with fail
        refine (HI1.out _).mono ?_
        rintro e w' ⟨rfl, rfl⟩
        go_wp2_with fail
        refine (HI2.out _).mono ?_
        rintro e w' ⟨rfl, rfl⟩
        go_wp2_with fail
        refine HM.out.mono ?_
        rintro e w2 ⟨u, V, H, rfl, hR, hb⟩
        have HF := Lib.hid (show OwnMat w2 w.heap.size u (matF (c - 1) (minE (el M) R L) (r - 1)) ∧ Below w.heap.size w w2 from ⟨hR.own (by rw [matF_len]; omega), hb⟩)
        clear hR hb
        go_wp2_with fail
        rw [HV.out.1, HV.out.2]
        refine bodyPost_ret (v := .tuple #[u, .bool true]) (by simp [results, Try.results117, go_sem]) rfl ⟨_, rfl, HF.out⟩
      · have HI2 := Lib.hid (sInB false col 0 (c2 : Int) (by simp; omega))
        have h1i : ¬ (r : Int) < 2 := by omega
        have h2i : ¬ (c : Int) < 2 := by omega
        have HV := Lib.hid (HNO.out (by omega))
        clear hr2 hc2 hr hc
        go_enter Try.func117, Try.ntmps117
        go_wp2_with fail
        refine HMV.out.mono ?_
        rintro e w' ⟨rfl, rfl⟩
        go_wp2_with fail
        refine (HI1.out _).mono ?_
        rintro e w' ⟨rfl, rfl⟩
        go_wp2_with fail
        refine (HI2.out _).mono ?_
        rintro e w' ⟨rfl, rfl⟩
        go_wp2_with fail
        rw [HV.out.1, HV.out.2]
        refine bodyPost_ret (v := .tuple #[.slice (some ⟨w.heap.size, 0, none⟩) 0 0, .bool false]) (by simp [results, Try.results117, go_sem]) rfl ⟨_, rfl, HNIL.out⟩
    · have HI1 := Lib.hid (sInB false row 0 (r2 : Int) (by simp; omega))
      have h1i : ¬ (r : Int) < 2 := by omega
      have h2i : ¬ (c : Int) < 2 := by omega
      have HV := Lib.hid (HNO.out (by omega))
      clear hr2 hc2 hr hc
      go_enter Try.func117, Try.ntmps117
      go_wp2_with fail
      refine HMV.out.mono ?_
      rintro e w' ⟨rfl, rfl⟩
      go_wp2_with fail
      refine (HI1.out _).mono ?_
      rintro e w' ⟨rfl, rfl⟩
      go_wp2_with fail
      rw [HV.out.1, HV.out.2]
      refine bodyPost_ret (v := .tuple #[.slice (some ⟨w.heap.size, 0, none⟩) 0 0, .bool false]) (by simp [results, Try.results117, go_sem]) rfl ⟨_, rfl, HNIL.out⟩
set_option maxRecDepth 100000 in
set_option maxHeartbeats 4000000 in
theorem sMinorOf (p : Int) (v : Value) (M : List (List Int)) (row col : Int) (w : World) (h : Mat w v M) :
    Calls Try.prog 58 #[.int .i64 p, v, .int .i64 row, .int .i64 col] w fun e w' => ∃ u, e = .returned (.tuple #[u, .bool (minB p M row col)]) ∧ OwnMat w' w.heap.size u (minV p M row col) ∧ Below w.heap.size w w' := by
  have HR := Lib.hid (minV_rows p M row col)
  have HS := Lib.hid (sRawMinor p v M row col w h)
  obtain ⟨b, hb⟩ : ∃ b, b = minB p M row col := ⟨_, rfl⟩
  obtain ⟨R, hM⟩ : ∃ R, R = minV p M row col := ⟨_, rfl⟩
  rw [← hb, ← hM] at HS ⊢
  rw [← hM] at HR
  obtain ⟨_, _, a, cap, rfl, _⟩ := h
  clear hb hM
  go_enter Try.func58, Try.ntmps58
  go_wp2_with fail
  refine HS.out.mono ?_
  rintro e w1 ⟨u, rfl, ho, hb1⟩
  have HO := Lib.hid (sOwnMo u R w1 ho.mat HR.out.1 HR.out.2)
  have HW := Lib.hid (And.intro ho hb1)
  clear ho hb1
  go_wp2_with fail
  refine HO.out.mono ?_
  rintro e w2 ⟨u2, rfl, ho2, hb2⟩
  have HF := Lib.hid (wrapOwn HW.out.1 HW.out.2 ho2 hb2)
  clear ho2 hb2
  go_wp2_with fail
  refine bodyPost_ret (v := .tuple #[u2, .bool b]) (by simp [results, Try.results58, go_sem]) rfl ⟨_, rfl, HF.out⟩
end Go.Proofs.Ytgclbdpghlcgjaa
namespace Go.Proofs.Ytgclbdpghlcgjaa
set_option linter.unusedVariables false
open Go.RowKit
set_option maxRecDepth 100000 in
set_option maxHeartbeats 8000000 in
theorem xMinorOf_in (a0 : Int) (a1 : Option Addr) (L1 : List (List Int)) (c1 : Nat) (a2 : Int) (a3 : Int) (r0 : List (List Int)) (r1 : Bool) (w : World) (h1 : Mat w (.slice a1 L1.length c1) L1) (hl : (L1.length + cnt L1) ≤ 1048576)
    (hS : ∀ f1, ∀ w, Mat w f1 L1 → Calls Try.prog 58 #[.int .i64 a0, f1, .int .i64 a2, .int .i64 a3] w fun e w' => ∃ u0, e = .returned (.tuple #[u0, .bool r1]) ∧ OwnMat w' w.heap.size u0 r0 ∧ Below w.heap.size w w')
    (hI : ∀ f1, ∀ w, Mat w f1 L1 → Calls Try.prog 33 #[.int .i64 a0, f1, .int .i64 a2, .int .i64 a3] w fun e w' => ∃ u0, e = .returned (.tuple #[u0, .bool r1]) ∧ OwnMat w' w.heap.size u0 r0 ∧ Below w.heap.size w w') :
    Calls Try.prog 11 #[.int .i64 a0, .slice a1 L1.length c1, .int .i64 a2, .int .i64 a3] w fun e w' => e = .returned (.bool true) ∧ Below w.heap.size w w' := by
  have m1 : (1048576 : Int) - ((L1.length : Int) + (cnt L1 : Int)) ≥ 0 := by omega
  have HS1 := Lib.hid (szM_at a1 L1 c1 (1048576) w h1 (by omega) (by omega) (by omega))
  have Q1 := Lib.hid h1
  have n1 : (L1.length : Int) ≤ 1048576 := by omega
  have nn1 : (cnt L1 : Int) ≤ 1048576 := by omega
  clear h1
  have HSP := Lib.hid hS
  have HIM := Lib.hid hI
  clear hS hI
  have bb1 := bne_self2 r1
  go_enter Try.func11, Try.ntmps11
  go_wp2_with fail
  refine HS1.out.mono ?_
  rintro e w' ⟨rfl, rfl⟩
  have B := Lib.hid (Below.refl w.heap.size w)
  go_wp2_with fail
  refine (toM _ L1 _ (Q1.out.below B.out)).mono ?_
  rintro e W1 ⟨s1, rfl, ho, hb⟩
  have Z1 := Lib.hid hb.size
  replace B := Lib.hid (B.out.trans (hb.mono B.out.size))
  clear hb
  have S1 := Lib.hid ho.mat
  clear ho
  go_wp2_with fail
  refine (HSP.out _ _ S1.out).mono ?_
  rintro e W2 ⟨v0, rfl, hv0, hb⟩
  have Z2 := Lib.hid hb.size
  replace B := Lib.hid (B.out.trans (hb.mono B.out.size))
  replace S1 := Lib.hid (S1.out.below hb)
  clear hb
  clear S1
  have V0 := Lib.hid hv0.mat
  have z0 : (cnt r0 : Int) ≤ 1048576 := by have := hv0.2.1; omega
  clear hv0
  have X := Lib.hid (Below.refl W2.heap.size W2)
  go_wp2_with fail
  refine (toM _ L1 _ (Q1.out.below B.out)).mono ?_
  rintro e W3 ⟨x1, rfl, ho, hb⟩
  have Z3 := Lib.hid hb.size
  replace B := Lib.hid (B.out.trans (hb.mono B.out.size))
  replace X := Lib.hid (X.out.trans (hb.mono X.out.size))
  clear hb
  have O1 := Lib.hid ho
  clear ho
  have Y1 := Lib.hid (Below.refl W3.heap.size W3)
  go_wp2_with fail
  refine (HIM.out _ _ (O1.out.mat.below Y1.out)).mono ?_
  rintro e W4 ⟨g0, rfl, hg0, hb⟩
  have P1 := Lib.hid (show w.heap.size ≤ W2.heap.size ∧ W2.heap.size ≤ W2.heap.size ∧ W3.heap.size ≤ W3.heap.size by have := B.out.size; have := X.out.size; have := Z1.out; have := Z2.out; have := Z3.out; first | omega | (refine ⟨?_, ?_, ?_⟩ <;> omega))
  have PG := Lib.hid (show w.heap.size ≤ W3.heap.size ∧ W2.heap.size ≤ W3.heap.size by have := Z1.out; have := Z2.out; have := Z3.out; first | omega | (refine ⟨?_, ?_⟩ <;> omega))
  replace B := Lib.hid (B.out.trans (hb.mono B.out.size))
  replace X := Lib.hid (X.out.trans (hb.mono X.out.size))
  replace Y1 := Lib.hid (Y1.out.trans (hb.mono Y1.out.size))
  clear hb
  have G0 := Lib.hid hg0
  clear hg0
  go_wp2_with fail
  refine (eqM g0 v0 r0 _ G0.out.mat (V0.out.below X.out)).mono ?_
  rintro e W5 ⟨rfl, hb⟩
  replace B := Lib.hid (B.out.trans (hb.mono B.out.size))
  replace X := Lib.hid (X.out.trans (hb.mono X.out.size))
  replace Y1 := Lib.hid (Y1.out.trans (hb.mono Y1.out.size))
  replace G0 := Lib.hid (G0.out.below hb)
  clear hb
  go_wp2_with fail
  refine (toM _ L1 _ (Q1.out.below B.out)).mono ?_
  rintro e W6 ⟨y1, rfl, ho, hb⟩
  replace B := Lib.hid (B.out.trans (hb.mono B.out.size))
  replace X := Lib.hid (X.out.trans (hb.mono X.out.size))
  replace Y1 := Lib.hid (Y1.out.trans (hb.mono Y1.out.size))
  replace G0 := Lib.hid (G0.out.below hb)
  clear hb
  have S1 := Lib.hid ho.mat
  clear ho
  go_wp2_with fail
  refine (eqM x1 y1 L1 _ (O1.out.mat.below Y1.out) S1.out).mono ?_
  rintro e W7 ⟨rfl, hb⟩
  clear S1
  replace B := Lib.hid (B.out.trans (hb.mono B.out.size))
  replace X := Lib.hid (X.out.trans (hb.mono X.out.size))
  replace Y1 := Lib.hid (Y1.out.trans (hb.mono Y1.out.size))
  replace G0 := Lib.hid (G0.out.below hb)
  clear hb
  go_wp2_with fail
  refine (markMsame x1 L1 _ (1) W3 _ O1.out (same_of Y1.out) (by omega) (by omega)).mono ?_
  rintro e W8 ⟨rfl, hb⟩
  replace B := Lib.hid (B.out.trans (hb.low.mono P1.out.1))
  replace X := Lib.hid (X.out.trans (hb.low.mono P1.out.2.1))
  replace G0 := Lib.hid (G0.out.betw' P1.out.2.2 hb)
  clear hb
  go_wp2_with fail
  refine (eqM g0 v0 r0 _ G0.out.mat (V0.out.below X.out)).mono ?_
  rintro e W9 ⟨rfl, hb⟩
  replace B := Lib.hid (B.out.trans (hb.mono B.out.size))
  replace X := Lib.hid (X.out.trans (hb.mono X.out.size))
  replace G0 := Lib.hid (G0.out.below hb)
  clear hb
  go_wp2_with fail
  refine (markMown g0 r0 _ (1) _ G0.out (by omega) (by omega)).mono ?_
  rintro e W10 ⟨rfl, hh, hb, hs⟩
  replace B := Lib.hid (B.out.trans (hb.mono PG.out.1))
  replace X := Lib.hid (X.out.trans (hb.mono PG.out.2))
  have D0 := Lib.hid hh
  clear hh hb hs
  go_wp2_with fail
  refine (heldMown g0 r0 _ 1 _ D0.out (by omega) (by omega)).mono ?_
  rintro e W11 ⟨rfl, rfl⟩
  go_wp2_with fail
  refine (toM _ L1 _ (Q1.out.below B.out)).mono ?_
  rintro e W12 ⟨t1, rfl, ho, hb⟩
  replace B := Lib.hid (B.out.trans (hb.mono B.out.size))
  replace X := Lib.hid (X.out.trans (hb.mono X.out.size))
  replace D0 := Lib.hid (D0.out.below hb)
  clear hb
  have S1 := Lib.hid ho.mat
  clear ho
  go_wp2_with fail
  refine (HIM.out _ _ S1.out).mono ?_
  rintro e W13 ⟨t0, rfl, ht0, hb⟩
  replace B := Lib.hid (B.out.trans (hb.mono B.out.size))
  replace X := Lib.hid (X.out.trans (hb.mono X.out.size))
  replace D0 := Lib.hid (D0.out.below hb)
  replace S1 := Lib.hid (S1.out.below hb)
  clear hb
  clear S1
  have T0 := Lib.hid ht0.mat
  clear ht0
  go_wp2_with fail
  refine (eqM t0 v0 r0 _ T0.out (V0.out.below X.out)).mono ?_
  rintro e W14 ⟨rfl, hb⟩
  replace B := Lib.hid (B.out.trans (hb.mono B.out.size))
  replace X := Lib.hid (X.out.trans (hb.mono X.out.size))
  replace D0 := Lib.hid (D0.out.below hb)
  replace T0 := Lib.hid (T0.out.below hb)
  clear hb
  go_wp2_with fail
  refine (heldMown g0 r0 _ 1 _ D0.out (by omega) (by omega)).mono ?_
  rintro e W15 ⟨rfl, rfl⟩
  go_wp2_with fail
  go_ret
  exact ⟨rfl, B.out⟩
set_option maxHeartbeats 1000000 in
theorem xMinorOf_long0 (a0 : Int) (a1 : Option Addr) (n1 c1 : Nat) (L1 : List (List Int)) (a2 : Int) (a3 : Int) (w : World) (rr1 : RowM w a1 n1 L1) (h1 : 1048576 < (n1 + cnt L1)) (h2 : n1 ≤ 9223372036854775807) :
    Calls Try.prog 11 #[.int .i64 a0, .slice a1 n1 c1, .int .i64 a2, .int .i64 a3] w fun e w' => e = .returned (.bool true) ∧ Below w.heap.size w w' := by
  have HS1 := Lib.hid (szM_over a1 n1 c1 L1 (1048576) w rr1 (by omega) (by omega) (by omega))
  clear h1 h2
  go_enter Try.func11, Try.ntmps11
  go_wp2_with fail
  refine HS1.out.mono ?_
  rintro e w' ⟨rfl, rfl⟩
  go_wp2_with fail
  go_ret
  exact ⟨rfl, Below.refl _ _⟩

theorem xMinorOf (a0 : Int) (a1 : Option Addr) (len1 c1 : Nat) (L1 : List (List Int)) (a2 : Int) (a3 : Int) (w : World) (h1 : RowM w a1 len1 L1) :
    Calls Try.prog 11 #[.int .i64 a0, .slice a1 len1 c1, .int .i64 a2, .int .i64 a3] w fun e w' => e = .returned (.bool true) ∧ Below w.heap.size w w' := by
  by_cases q1 : (len1 + cnt L1) ≤ 1048576
  · skip
    have e1 := h1.1
    subst e1
    exact xMinorOf_in a0 a1 L1 c1 a2 a3 (minV a0 L1 a2 a3) (minB a0 L1 a2 a3) w (h1.mat (by omega)) (by omega) (fun f1 w k1 => sMinorOf a0 f1 L1 a2 a3 w k1) (fun f1 w k1 => iMinorOf a0 f1 L1 a2 a3 w k1)
  · exact xMinorOf_long0 a0 a1 len1 c1 L1 a2 a3 w h1 (by omega) h1.2.1
end Go.Proofs.Ytgclbdpghlcgjaa
