/-
  MatrixValid, of both. Conditions: none but that the slices read as a matrix.
  MatrixValid of the model. Conditions: none but that the slice reads as a matrix.
-/
import Derived.Test.YtlcmddghppdmgaaBh7
import Derived.Test.YtlcmddghppdmgaaBh13
namespace Go.Proofs.Ytlcmddghppdmgaa
set_option linter.unusedVariables false
open Go.RowKit
/-- a row is one of c elements -/
def rowB (p : Int) (c : Nat) (r : List Int) : Bool := decide (r.length = c) && r.all (isE p)
/-- a matrix over the field of p -/
def matB (p : Int) (M : List (List Int)) : Bool :=
  isP p && (decide (1 ≤ M.length) && decide (M.length ≤ 4)) && (decide (1 ≤ (rowM M 0).length) && decide ((rowM M 0).length ≤ 4)) && M.all (rowB p (rowM M 0).length)
theorem rowM_mem {M : List (List Int)} {i : Nat} (h : i < M.length) : rowM M i ∈ M := by
  simp [rowM, List.getD_eq_getElem?_getD, h]
theorem matB_no {p : Int} {M : List (List Int)} {i : Nat} (h : i < M.length) (hr : rowB p (rowM M 0).length (rowM M i) = false) : matB p M = false := by
  have : M.all (rowB p (rowM M 0).length) = false := List.all_eq_false.2 ⟨_, rowM_mem h, by simp [hr]⟩
  simp [matB, this]
theorem matB_iff {p : Int} {M : List (List Int)} : matB p M = true ↔ isP p = true ∧ (1 ≤ M.length ∧ M.length ≤ 4) ∧ (1 ≤ (rowM M 0).length ∧ (rowM M 0).length ≤ 4) ∧ ∀ i, i < M.length → rowB p (rowM M 0).length (rowM M i) = true := by
  have : (∀ i, i < M.length → rowB p (rowM M 0).length (rowM M i) = true) ↔ M.all (rowB p (rowM M 0).length) = true := by
    rw [List.all_eq_true]
    constructor
    · intro h r hr
      obtain ⟨i, hi, rfl⟩ := List.getElem_of_mem hr
      have := h i hi
      simpa [rowM, List.getD_eq_getElem?_getD, hi] using this
    · exact fun h i hi => h _ (rowM_mem hi)
  rw [this]
  simp [matB, and_assoc]
theorem rowB_iff {p : Int} {c : Nat} {r : List Int} : rowB p c r = true ↔ r.length = c ∧ ∀ k, k < c → 0 ≤ r.getD k 0 ∧ r.getD k 0 < p := by
  constructor
  · intro h
    simp only [rowB, Bool.and_eq_true, decide_eq_true_eq, List.all_eq_true] at h
    refine ⟨h.1, fun k hk => ?_⟩
    have hk' : k < r.length := by omega
    have := h.2 r[k] (List.getElem_mem hk')
    have e : r.getD k 0 = r[k] := by simp [List.getD_eq_getElem?_getD, hk']
    rw [e]
    exact isE_iff.1 this
  · rintro ⟨h1, h2⟩
    simp only [rowB, Bool.and_eq_true, decide_eq_true_eq, List.all_eq_true]
    refine ⟨h1, fun x hx => ?_⟩
    obtain ⟨k, hk, rfl⟩ := List.getElem_of_mem hx
    have := h2 k (by omega)
    have e : r.getD k 0 = r[k] := by simp [List.getD_eq_getElem?_getD, hk]
    rw [e] at this
    exact isE_iff.2 this
set_option maxHeartbeats 400000 in
theorem iAEr (p : Int) (hp0 : isP p = true) (v : Value) (zs : List Int) (w : World) (h : Ints w v zs) (hl : zs.length ≤ 1048576) :
    Calls Try.prog 140 #[.int .i64 p, v] w fun e w' => e = .returned (.bool (zs.all (isE p))) ∧ w = w' := by
  obtain ⟨_, a, cap, rfl, hd⟩ := h
  have hp := Lib.hid hp0
  have HD := Lib.hid hd
  clear hp0 hd
  go_enter Try.func140, Try.ntmps140
  go_wp2_with (go_at_call 81; refine (iPV_yes _ _ hp.out).mono ?_; rintro e w' ⟨rfl, rfl⟩)
  go_loop [12] (fun i => ∃ k : Nat, k ≤ zs.length ∧ i = .int .i64 k ∧ (zs.take k).all (isE p) = true) (fun i => zs.length - (intOf i).toNat)
  case atStart => exact ⟨0, Nat.zero_le _, rfl, by simp⟩
  case round =>
    obtain ⟨k, hk, rfl, hall⟩ := hrel
    have Hall := Lib.hid hall
    clear hall
    by_cases hlt : k < zs.length
    · rcases HD.out with h | ⟨b, off, rfl, _, hc⟩
      · rw [h] at hlt; simp at hlt
      have hck := hc k hlt
      clear hc
      have hz1 := all_take_no p zs k hlt
      have hz2 := all_snoc p zs k hlt
      generalize zs.getD k 0 = z at hck hz1 hz2
      cases hE : isE p z
      · have hz := Lib.hid (hz1 hE)
        clear hz1 hz2
        rcases isE_no hE with h1 | ⟨h1, h2⟩
        all_goals
          clear hE
          go_wp2
          go_ret
          exact ⟨ret_bool hz.out.symm, rfl⟩
      · obtain ⟨h1, h2⟩ := isE_iff.1 hE
        have hz := Lib.hid hz2
        clear hz1 hz2
        have hE' := Lib.hid hE
        clear hE
        go_wp2
        go_round
        case rel => exact ⟨k + 1, by omega, by go_num, by rw [hz.out, Hall.out, hE'.out]; rfl⟩
        case measure => simp [intOf]; omega
    · go_wp2
      go_ret
      exact ⟨ret_bool (by rw [← Hall.out, List.take_of_length_le (by omega)]), rfl⟩
set_option maxHeartbeats 400000 in
theorem sElr (p : Int) (hp0 : isP p = true) (v : Value) (zs : List Int) (w : World) (h : Ints w v zs) (hl : zs.length ≤ 1048576) :
    Calls Try.prog 144 #[.int .i64 p, v] w fun e w' => e = .returned (.bool (zs.all (isE p))) ∧ w = w' := by
  obtain ⟨_, a, cap, rfl, hd⟩ := h
  have HD := Lib.hid hd
  have hp := Lib.hid hp0
  have hb := isP_bd hp0
  obtain ⟨hb1, hb2⟩ := hb
  clear hd hp0
  go_enter Try.func144, Try.ntmps144
  go_wp2_with fail
  go_loop [9] (fun i => ∃ k : Nat, k ≤ zs.length ∧ i = .int .i64 k ∧ (zs.take k).all (isE p) = true) (fun i => zs.length - (intOf i).toNat)
  case atStart => exact ⟨0, Nat.zero_le _, rfl, by simp⟩
  case round =>
    obtain ⟨k, hk, rfl, hall⟩ := hrel
    have Hall := Lib.hid hall
    clear hall
    by_cases hlt : k < zs.length
    · rcases HD.out with h | ⟨b, off, rfl, _, hc⟩
      · rw [h] at hlt; simp at hlt
      have hck := hc k hlt
      clear hc
      have hz1 := all_take_no p zs k hlt
      have hz2 := all_snoc p zs k hlt
      generalize zs.getD k 0 = z at hck hz1 hz2
      cases hE : isE p z
      · have hz := Lib.hid (hz1 hE)
        have hB := Lib.hid (show (decide (0 ≤ z) && decide (z ≤ p - 1)) = false by have := isE_no hE; simp; omega)
        clear hz1 hz2 hE
        go_wp2_with (go_at_call 78; refine (sIn _ _ _ _).mono ?_; rw [hB.out]; rintro e w' ⟨rfl, rfl⟩)
        go_ret
        exact ⟨ret_bool hz.out.symm, rfl⟩
      · have hB := Lib.hid (show (decide (0 ≤ z) && decide (z ≤ p - 1)) = true by have := isE_iff.1 hE; simp; omega)
        have hz := Lib.hid hz2
        clear hz1 hz2
        have hE' := Lib.hid hE
        clear hE
        go_wp2_with (go_at_call 78; refine (sIn _ _ _ _).mono ?_; rw [hB.out]; rintro e w' ⟨rfl, rfl⟩)
        go_round
        case rel => exact ⟨k + 1, by omega, by go_num, by rw [hz.out, Hall.out, hE'.out]; rfl⟩
        case measure => simp [intOf]; omega
    · go_wp2_with (go_at_call 77; refine (sPV_yes _ _ hp.out).mono ?_; rintro e w' ⟨rfl, rfl⟩)
      go_ret
      exact ⟨ret_bool (by rw [← Hall.out, List.take_of_length_le (by omega)]), rfl⟩
theorem mat_row {w : World} {a : Option Addr} {cap : Nat} {M : List (List Int)} {i : Nat} (h : M = [] ∨ ∃ g off, a = some ⟨g, off, none⟩ ∧ g < w.heap.size ∧ ∀ i, i < M.length → ∃ u, w.cell? ⟨g, off + i, none⟩ = some u ∧ Ints w u (rowM M i) ∧ CapOK u) (hi : 0 < M.length) :
    ∃ g off, a = some ⟨g, off, none⟩ ∧ g < w.heap.size ∧ ∀ i, i < M.length → ∃ b c, w.cell? ⟨g, off + i, none⟩ = some (.slice b (rowM M i).length c) ∧ Ints w (.slice b (rowM M i).length c) (rowM M i) := by
  rcases h with h | ⟨g, off, ha, hg, hc⟩
  · rw [h] at hi; simp at hi
  · refine ⟨g, off, ha, hg, fun i hi => ?_⟩
    obtain ⟨u, hu, hr, _⟩ := hc i hi
    obtain ⟨h1, b, c, rfl, h2⟩ := hr
    exact ⟨b, c, hu, h1, b, c, rfl, h2⟩
set_option maxRecDepth 100000 in
set_option maxHeartbeats 4000000 in
theorem iMV (p : Int) (v : Value) (M : List (List Int)) (w : World) (h : Mat w v M) :
    Calls Try.prog 62 #[.int .i64 p, v] w fun e w' => e = .returned (.bool (matB p M)) ∧ w = w' := by
  obtain ⟨b1, b2, a, cap, rfl, h3⟩ := h
  cases hp : isP p
  · have hB := Lib.hid (show matB p M = false by simp [matB, hp])
    have HP := Lib.hid hp
    clear hp h3
    go_enter Try.func62, Try.ntmps62
    go_wp2_with (go_at_call 81; refine (iPV_no _ _ HP.out).mono ?_; rintro e w' ⟨rfl, rfl⟩)
    go_ret
    exact ⟨ret_bool hB.out.symm, rfl⟩
  · have HP := Lib.hid hp
    by_cases hl : 1 ≤ M.length ∧ M.length ≤ 4
    · obtain ⟨g, off, rfl, hg, hr⟩ := mat_row (cap := cap) (i := 0) h3 (by omega)
      obtain ⟨hl1, hl2⟩ := hl
      have hn1 : ¬ (M.length : Int) < 1 := by omega
      have hn2 : ¬ (M.length : Int) > 4 := by omega
      have hn0 : (0 : Int) < (M.length : Int) := by omega
      obtain ⟨b0, c0, hc0, _⟩ := hr 0 (by omega)
      rw [Nat.add_zero] at hc0
      have hrl := row_le (M := M) (i := 0) (by omega)
      obtain ⟨c, hc⟩ : ∃ c, c = (rowM M 0).length := ⟨_, rfl⟩
      rw [← hc] at hc0 hrl
      by_cases hcl : 1 ≤ c ∧ c ≤ 4
      · have HNO := Lib.hid (fun i (hi : i < M.length) (hb : rowB p c (rowM M i) = false) => matB_no hi (by rw [← hc]; exact hb))
        have HYES := Lib.hid (fun (ha : ∀ i, i < M.length → rowB p c (rowM M i) = true) => matB_iff.2 ⟨hp, ⟨hl1, hl2⟩, by rw [← hc]; exact hcl, by rw [← hc]; exact ha⟩)
        obtain ⟨hcl1, hcl2⟩ := hcl
        have HR := Lib.hid hr
        clear hp hr hc h3
        go_enter Try.func62, Try.ntmps62
        go_wp2_with (go_at_call 81; refine (iPV_yes _ _ HP.out).mono ?_; rintro e w' ⟨rfl, rfl⟩)
        go_loop [33] (fun i => ∃ k : Nat, k ≤ M.length ∧ i = .int .i64 k ∧ ∀ i, i < k → rowB p c (rowM M i) = true) (fun i => M.length - (intOf i).toNat)
        case atStart => exact ⟨0, by omega, rfl, fun i hi => by omega⟩
        case round =>
          obtain ⟨k, hk, rfl, hall⟩ := hrel
          have Hall := Lib.hid hall
          clear hall
          by_cases hlt : k < M.length
          · have hltp : (k : Int) < (M.length : Int) := by omega
            have hk0 : (0 : Int) ≤ (k : Int) := by omega
            obtain ⟨b, cc, hcell, hint⟩ := HR.out k hlt
            have hkl := row_le hlt
            by_cases he : (rowM M k).length = c
            · rw [he] at hcell hint
              have HAE := iAEr p HP.out (.slice b c cc) (rowM M k) w hint (by omega)
              have hne : ((c : Int) != (c : Int)) = false := by simp
              cases hE : (rowM M k).all (isE p)
              · rw [hE] at HAE
                have HA := Lib.hid HAE
                have HF := Lib.hid (HNO.out k hlt (by simp [rowB, hE]))
                clear HAE hE hint he hkl
                go_wp2_with (go_at_call 140; refine HA.out.mono ?_; rintro e w' ⟨rfl, rfl⟩)
                go_ret
                exact ⟨ret_bool HF.out.symm, rfl⟩
              · rw [hE] at HAE
                have HA := Lib.hid HAE
                have HT := Lib.hid (show rowB p c (rowM M k) = true by simp [rowB, hE, he])
                clear HAE hE hint he hkl
                go_wp2_with (go_at_call 140; refine HA.out.mono ?_; rintro e w' ⟨rfl, rfl⟩)
                go_round
                case rel => exact ⟨k + 1, by omega, by go_num, snoc_all Hall.out HT.out⟩
                case measure => simp [intOf]; omega
            · have HF := Lib.hid (HNO.out k hlt (by simp [rowB, he]))
              obtain ⟨m, hm⟩ : ∃ m, m = (rowM M k).length := ⟨_, rfl⟩
              rw [← hm] at hcell he
              have hne : ((m : Int) != (c : Int)) = true := by simp; omega
              clear hint hm he hkl
              go_wp2
              go_ret
              exact ⟨ret_bool HF.out.symm, rfl⟩
          · have HT := Lib.hid (HYES.out (fun i hi => Hall.out i (by omega)))
            go_wp2
            go_ret
            exact ⟨ret_bool HT.out.symm, rfl⟩
      · have HB := Lib.hid (show matB p M = false by
          cases e : matB p M
          · rfl
          · have := (matB_iff.1 e).2.2.1; omega)
        clear hp hr hc h3
        by_cases h1 : c < 1
        · have h1' : (c : Int) < 1 := by omega
          go_enter Try.func62, Try.ntmps62
          go_wp2_with (go_at_call 81; refine (iPV_yes _ _ HP.out).mono ?_; rintro e w' ⟨rfl, rfl⟩)
          go_ret
          exact ⟨ret_bool HB.out.symm, rfl⟩
        · have h1' : ¬ (c : Int) < 1 := by omega
          have h2' : (c : Int) > 4 := by omega
          go_enter Try.func62, Try.ntmps62
          go_wp2_with (go_at_call 81; refine (iPV_yes _ _ HP.out).mono ?_; rintro e w' ⟨rfl, rfl⟩)
          go_ret
          exact ⟨ret_bool HB.out.symm, rfl⟩
    · have HB := Lib.hid (show matB p M = false by
        cases e : matB p M
        · rfl
        · have := (matB_iff.1 e).2.1; omega)
      clear hp h3
      by_cases h1 : M.length < 1
      · have h1' : (M.length : Int) < 1 := by omega
        go_enter Try.func62, Try.ntmps62
        go_wp2_with (go_at_call 81; refine (iPV_yes _ _ HP.out).mono ?_; rintro e w' ⟨rfl, rfl⟩)
        go_ret
        exact ⟨ret_bool HB.out.symm, rfl⟩
      · have h1' : ¬ (M.length : Int) < 1 := by omega
        have h2' : (M.length : Int) > 4 := by omega
        go_enter Try.func62, Try.ntmps62
        go_wp2_with (go_at_call 81; refine (iPV_yes _ _ HP.out).mono ?_; rintro e w' ⟨rfl, rfl⟩)
        go_ret
        exact ⟨ret_bool HB.out.symm, rfl⟩
end Go.Proofs.Ytlcmddghppdmgaa
namespace Go.Proofs.Ytlcmddghppdmgaa
set_option linter.unusedVariables false
open Go.RowKit
set_option maxRecDepth 100000 in
set_option maxHeartbeats 4000000 in
theorem sMV (p : Int) (v : Value) (M : List (List Int)) (w : World) (h : Mat w v M) :
    Calls Try.prog 63 #[.int .i64 p, v] w fun e w' => e = .returned (.bool (matB p M)) ∧ w = w' := by
  obtain ⟨b1, b2, a, cap, rfl, h3⟩ := h
  cases hp : isP p
  · have hB := Lib.hid (show matB p M = false by simp [matB, hp])
    have HP := Lib.hid hp
    clear hp h3
    go_enter Try.func63, Try.ntmps63
    go_wp2_with (go_at_call 77; refine (sPV_no _ _ HP.out).mono ?_; rintro e w' ⟨rfl, rfl⟩)
    go_ret
    exact ⟨ret_bool hB.out.symm, rfl⟩
  · have HP := Lib.hid hp
    cases hin : (decide ((1 : Int) ≤ (M.length : Int)) && decide ((M.length : Int) ≤ 4))
    · have HB := Lib.hid (show matB p M = false by
        cases e : matB p M
        · rfl
        · have h1 := (matB_iff.1 e).2.1
          simp at hin; omega)
      have HI := Lib.hid hin
      clear hp h3 hin
      go_enter Try.func63, Try.ntmps63
      go_wp2_with (first | (go_at_call 77; refine (sPV_yes _ _ HP.out).mono ?_; rintro e w' ⟨rfl, rfl⟩) | (go_at_call 78; refine (sIn _ _ _ _).mono ?_; rw [HI.out]; rintro e w' ⟨rfl, rfl⟩))
      go_ret
      exact ⟨ret_bool HB.out.symm, rfl⟩
    · have hl : 1 ≤ M.length ∧ M.length ≤ 4 := by simp at hin; omega
      have HI := Lib.hid hin
      obtain ⟨g, off, rfl, hg, hr⟩ := mat_row (cap := cap) (i := 0) h3 (by omega)
      obtain ⟨hl1, hl2⟩ := hl
      have hn0 : (0 : Int) < (M.length : Int) := by omega
      obtain ⟨b0, c0, hc0, _⟩ := hr 0 (by omega)
      rw [Nat.add_zero] at hc0
      have hrl := row_le (M := M) (i := 0) (by omega)
      obtain ⟨c, hc⟩ : ∃ c, c = (rowM M 0).length := ⟨_, rfl⟩
      rw [← hc] at hc0 hrl
      have HNO := Lib.hid (fun i (hi : i < M.length) (hb : rowB p c (rowM M i) = false) => matB_no hi (by rw [← hc]; exact hb))
      have HNC := Lib.hid (fun (hcl : ¬ (1 ≤ c ∧ c ≤ 4)) => show matB p M = false by
          cases e : matB p M
          · rfl
          · have := (matB_iff.1 e).2.2.1; omega)
      have HYES := Lib.hid (fun (hcl : 1 ≤ c ∧ c ≤ 4) (ha : ∀ i, i < M.length → rowB p c (rowM M i) = true) => matB_iff.2 ⟨hp, ⟨hl1, hl2⟩, by rw [← hc]; exact hcl, by rw [← hc]; exact ha⟩)
      have HR := Lib.hid hr
      clear hp hr hc h3 hin
      go_enter Try.func63, Try.ntmps63
      go_wp2_with (first | (go_at_call 77; refine (sPV_yes _ _ HP.out).mono ?_; rintro e w' ⟨rfl, rfl⟩) | (go_at_call 78; refine (sIn _ _ _ _).mono ?_; rw [HI.out]; rintro e w' ⟨rfl, rfl⟩))
      go_loop [18] (fun i => ∃ k : Nat, k ≤ M.length ∧ i = .int .i64 k ∧ (0 < k → 1 ≤ c ∧ c ≤ 4) ∧ ∀ i, i < k → rowB p c (rowM M i) = true) (fun i => M.length - (intOf i).toNat)
      case atStart => exact ⟨0, by omega, rfl, by omega, fun i hi => by omega⟩
      case round =>
        obtain ⟨k, hk, rfl, hcc, hall⟩ := hrel
        have Hall := Lib.hid hall
        have Hcc := Lib.hid hcc
        clear hall hcc
        by_cases hlt : k < M.length
        · have hltp : (k : Int) < (M.length : Int) := by omega
          have hk0 : (0 : Int) ≤ (k : Int) := by omega
          obtain ⟨b, cc, hcell, hint⟩ := HR.out k hlt
          have hkl := row_le hlt
          by_cases he : (rowM M k).length = c
          · rw [he] at hcell hint
            have hne : ((c : Int) != (c : Int)) = false := by simp
            cases hin2 : (decide ((1 : Int) ≤ (c : Int)) && decide ((c : Int) ≤ 4))
            · have HF := Lib.hid (HNC.out (by simp at hin2; omega))
              have HI2 := Lib.hid hin2
              clear hin2 hint he hkl
              go_wp2_with (go_at_call 78; refine (sIn _ _ _ _).mono ?_; rw [HI2.out]; rintro e w' ⟨rfl, rfl⟩)
              go_ret
              exact ⟨ret_bool HF.out.symm, rfl⟩
            · have hcl : 1 ≤ c ∧ c ≤ 4 := by simp at hin2; omega
              have HCL := Lib.hid hcl
              have HI2 := Lib.hid hin2
              have HAE := sElr p HP.out (.slice b c cc) (rowM M k) w hint (by omega)
              clear hin2 hcl
              cases hE : (rowM M k).all (isE p)
              · rw [hE] at HAE
                have HA := Lib.hid HAE
                have HF := Lib.hid (HNO.out k hlt (by simp [rowB, hE]))
                clear HAE hE hint he hkl
                go_wp2_with (first | (go_at_call 78; refine (sIn _ _ _ _).mono ?_; rw [HI2.out]; rintro e w' ⟨rfl, rfl⟩) | (go_at_call 144; refine HA.out.mono ?_; rintro e w' ⟨rfl, rfl⟩))
                go_ret
                exact ⟨ret_bool HF.out.symm, rfl⟩
              · rw [hE] at HAE
                have HA := Lib.hid HAE
                have HT := Lib.hid (show rowB p c (rowM M k) = true by simp [rowB, hE, he])
                clear HAE hE hint he hkl
                go_wp2_with (first | (go_at_call 78; refine (sIn _ _ _ _).mono ?_; rw [HI2.out]; rintro e w' ⟨rfl, rfl⟩) | (go_at_call 144; refine HA.out.mono ?_; rintro e w' ⟨rfl, rfl⟩))
                go_round
                case rel => exact ⟨k + 1, by omega, by go_num, fun _ => HCL.out, snoc_all Hall.out HT.out⟩
                case measure => simp [intOf]; omega
          · have HF := Lib.hid (HNO.out k hlt (by simp [rowB, he]))
            obtain ⟨m, hm⟩ : ∃ m, m = (rowM M k).length := ⟨_, rfl⟩
            rw [← hm] at hcell he
            have hne : ((m : Int) != (c : Int)) = true := by simp; omega
            clear hint hm he hkl
            go_wp2
            go_ret
            exact ⟨ret_bool HF.out.symm, rfl⟩
        · have HT := Lib.hid (HYES.out (Hcc.out (by omega)) (fun i hi => Hall.out i (by omega)))
          go_wp2
          go_ret
          exact ⟨ret_bool HT.out.symm, rfl⟩
theorem sMVb (p : Int) (v : Value) (M : List (List Int)) (w : World) (h : Mat w v M) :
    Calls Try.prog 63 #[.int .i64 p, v] w fun e w' => e = .returned (.bool (matB p M)) ∧ Below w.heap.size w w' :=
  (sMV p v M w h).mono fun e w' ⟨he, hw⟩ => ⟨he, hw ▸ Below.refl _ _⟩
theorem iMVb (p : Int) (v : Value) (M : List (List Int)) (w : World) (h : Mat w v M) :
    Calls Try.prog 62 #[.int .i64 p, v] w fun e w' => e = .returned (.bool (matB p M)) ∧ Below w.heap.size w w' :=
  (iMV p v M w h).mono fun e w' ⟨he, hw⟩ => ⟨he, hw ▸ Below.refl _ _⟩
end Go.Proofs.Ytlcmddghppdmgaa
