/-
  DetOf and PermanentOf of both: the answers, told of the elements. Conditions: none but that the slice reads as a matrix.
  AdjugateOf of both. Conditions: none but that the slice reads as a matrix.
  A matrix times its adjugate, over the integers. Conditions: at most four rows.
-/
import Derived.Test.YtlcmddghppdmgaaBh18
import Derived.Test.YtlcmddghppdmgaaBh21
import Derived.Test.YtlcmddghppdmgaaBh15
import Derived.Test.YtlcmddghppdmgaaBh19
import Derived.Test.YtlcmddghppdmgaaBh22
namespace Go.Proofs.Ytlcmddghppdmgaa
set_option linter.unusedVariables false
open Go.RowKit Go.Shelf
/-- a square matrix -/
def sqB (p : Int) (M : List (List Int)) : Bool := matB p M && decide (M.length = (rowM M 0).length)
/-- the determinant, or without signs the permanent -/
def detV (s : Bool) (p : Int) (M : List (List Int)) : Int := if sqB p M = true then lapZ s M.length (el M) % p else -1
theorem sqB_side {p : Int} {M : List (List Int)} (h : sqB p M = true) : matB p M = true ∧ M.length = (rowM M 0).length := by
  simpa [sqB] using h
theorem sum_lap (s : Bool) (n : Nat) (h1 : 1 ≤ n) (h4 : n ≤ 4) (f : Nat → Nat → Int) : sumZ (if s then -1 else 1) f (permsL n) = lapZ s n f := by
  rcases (show n = 1 ∨ n = 2 ∨ n = 3 ∨ n = 4 by omega) with rfl | rfl | rfl | rfl
  · exact eq1 s f
  · exact eq2 s f
  · exact eq3 s f
  · exact eq4 s f
theorem smP_lap {p t : Int} (hp : 2 ≤ p) (s : Bool) (ht : t % p = (if s then -1 else 1) % p) (n : Nat) (h1 : 1 ≤ n) (h4 : n ≤ 4) (f : Nat → Nat → Int) : smP p t f (permsL n) 0 = lapZ s n f % p := by
  obtain ⟨a, b⟩ := smP_bd hp t f (permsL n) 0 ⟨by omega, by omega⟩
  rw [← Int.emod_eq_of_lt a b, smP_mod p t _ ht, sum_lap s n h1 h4, Int.zero_add]
set_option maxRecDepth 100000 in
set_option maxHeartbeats 1000000 in
theorem iSq (p : Int) (v : Value) (M : List (List Int)) (w : World) (h : Mat w v M) :
    Calls Try.prog 110 #[.int .i64 p, v] w fun e w' => e = .returned (.bool (sqB p M)) ∧ w = w' := by
  have HMV := Lib.hid (iMV p v M w h)
  cases hB : matB p M
  · have HV := Lib.hid (show false = sqB p M from by simp [sqB, hB])
    rw [hB] at HMV
    obtain ⟨_, _, a, cap, rfl, _⟩ := h
    clear hB
    go_enter Try.func110, Try.ntmps110
    go_wp2_with fail
    refine HMV.out.mono ?_
    rintro e w' ⟨rfl, rfl⟩
    go_wp2_with fail
    go_ret
    exact ⟨ret_bool2 HV.out, rfl⟩
  · obtain ⟨r, c, hr, hr1, hr4, hc, hc1, hc4, hrow, hel, hMF⟩ := matB_side hB
    obtain ⟨g, off, cap, rfl, hC⟩ := h.cells hr hr1 hc1 hrow
    rw [hB] at HMV
    obtain ⟨b0, o0, c0, _, hh0, _⟩ := hC.plc (show 0 < r by omega)
    have hh0 := hh0 w (Below.refl _ _)
    rw [Nat.add_zero] at hh0
    have hrp : 0 < r := by omega
    have HV := Lib.hid (show decide (r = c) = sqB p M from by simp [sqB, hB, hr, hc])
    clear hB h hMF hel hrow hC hr hc
    by_cases he : r = c
    · have HV := Lib.hid (show true = sqB p M from by rw [← HV.out]; simp [he])
      subst he
      go_enter Try.func110, Try.ntmps110
      go_wp2_with fail
      refine HMV.out.mono ?_
      rintro e w' ⟨rfl, rfl⟩
      go_wp2_with fail
      go_ret
      exact ⟨ret_bool2 HV.out, rfl⟩
    · have heb : ((r : Int) == (c : Int)) = false := by simp; omega
      have hei : ¬ (r : Int) = (c : Int) := by omega
      have HV := Lib.hid (show false = sqB p M from by rw [← HV.out]; simp [he])
      go_enter Try.func110, Try.ntmps110
      go_wp2_with fail
      refine HMV.out.mono ?_
      rintro e w' ⟨rfl, rfl⟩
      go_wp2_with fail
      go_ret
      exact ⟨ret_bool2 HV.out, rfl⟩
set_option maxRecDepth 100000 in
set_option maxHeartbeats 1000000 in
theorem sSq (p : Int) (v : Value) (M : List (List Int)) (w : World) (h : Mat w v M) :
    Calls Try.prog 108 #[.int .i64 p, v] w fun e w' => e = .returned (.bool (sqB p M)) ∧ w = w' := by
  have HMV := Lib.hid (sMV p v M w h)
  cases hB : matB p M
  · have HV := Lib.hid (show false = sqB p M from by simp [sqB, hB])
    rw [hB] at HMV
    obtain ⟨_, _, a, cap, rfl, _⟩ := h
    clear hB
    go_enter Try.func108, Try.ntmps108
    go_wp2_with fail
    refine HMV.out.mono ?_
    rintro e w' ⟨rfl, rfl⟩
    go_wp2_with fail
    go_ret
    exact ⟨ret_bool2 HV.out, rfl⟩
  · obtain ⟨r, c, hr, hr1, hr4, hc, hc1, hc4, hrow, hel, hMF⟩ := matB_side hB
    obtain ⟨g, off, cap, rfl, hC⟩ := h.cells hr hr1 hc1 hrow
    rw [hB] at HMV
    obtain ⟨b0, o0, c0, _, hh0, _⟩ := hC.plc (show 0 < r by omega)
    have hh0 := hh0 w (Below.refl _ _)
    rw [Nat.add_zero] at hh0
    have hrp : 0 < r := by omega
    have HV := Lib.hid (show decide (r = c) = sqB p M from by simp [sqB, hB, hr, hc])
    clear hB h hMF hel hrow hC hr hc
    by_cases he : r = c
    · have HV := Lib.hid (show true = sqB p M from by rw [← HV.out]; simp [he])
      subst he
      go_enter Try.func108, Try.ntmps108
      go_wp2_with fail
      refine HMV.out.mono ?_
      rintro e w' ⟨rfl, rfl⟩
      go_wp2_with fail
      go_ret
      exact ⟨ret_bool2 HV.out, rfl⟩
    · have heb : ((r : Int) == (c : Int)) = false := by simp; omega
      have hei : ¬ (r : Int) = (c : Int) := by omega
      have HV := Lib.hid (show false = sqB p M from by rw [← HV.out]; simp [he])
      go_enter Try.func108, Try.ntmps108
      go_wp2_with fail
      refine HMV.out.mono ?_
      rintro e w' ⟨rfl, rfl⟩
      go_wp2_with fail
      go_ret
      exact ⟨ret_bool2 HV.out, rfl⟩
set_option maxRecDepth 100000 in
set_option maxHeartbeats 1000000 in
theorem iDet (p : Int) (v : Value) (M : List (List Int)) (w : World) (h : Mat w v M) :
    Calls Try.prog 40 #[.int .i64 p, v] w fun e w' => e = .returned (.int .i64 (detV true p M)) ∧ Below w.heap.size w w' := by
  cases hB : sqB p M
  · have HV := Lib.hid (show -1 = detV true p M from by simp [detV, hB])
    have HS := Lib.hid (iSq p v M w h)
    rw [hB] at HS
    obtain ⟨_, _, a, cap, rfl, _⟩ := h
    clear hB
    go_enter Try.func40, Try.ntmps40
    go_wp2_with fail
    refine HS.out.mono ?_
    rintro e w' ⟨rfl, rfl⟩
    go_wp2_with fail
    go_ret
    exact ⟨ret_int HV.out, Below.refl _ _⟩
  · have HS := Lib.hid (iSq p v M w h)
    rw [hB] at HS
    obtain ⟨hM, hsq⟩ := sqB_side hB
    obtain ⟨r, c, hr, hr1, hr4, hc, hc1, hc4, hrow, hel, hMF⟩ := matB_side hM
    obtain ⟨g, off, cap, rfl, hC⟩ := h.cells hr hr1 hc1 hrow
    have hp := (matB_iff.1 hM).1
    have hpb := isP_bd hp
    have hrc : c = r := by omega
    subst hrc
    have HV := Lib.hid (show lapZ true c (el M) % p = detV true p M from by simp [detV, hB, hr])
    have hmv : minV p 1 = (-1) % p := by unfold minV; rw [if_pos (by simp [isE1, isE, hp]; omega)]
    have ht0 : 0 ≤ minV p 1 ∧ minV p 1 < p := by rw [hmv]; exact ⟨Int.emod_nonneg _ (by omega), Int.emod_lt_of_pos _ (by omega)⟩
    have HT := Lib.hid (fun w1 (hb : Below w.heap.size w w1) => iSop p (minV p 1) hp ht0 g off c cap (el M) w1 (hC.below hb) hr1 hr4 hel)
    have HE := Lib.hid (smP_lap (p := p) (t := minV p 1) (by omega) true (by rw [hmv, Int.emod_emod]; rfl) c hr1 hr4 (el M))
    rw [HE.out, HV.out] at HT
    clear hB hM hsq hr hc hrow hel hMF hC h hp hmv ht0 HE
    go_enter Try.func40, Try.ntmps40
    go_wp2_with fail
    refine HS.out.mono ?_
    rintro e w' ⟨rfl, rfl⟩
    go_wp2_with fail
    refine (iMin p 1 _).mono ?_
    rintro e w1 ⟨rfl, hb1⟩
    have HB1 := Lib.hid hb1
    clear hb1
    go_wp2_with fail
    refine (HT.out _ HB1.out).mono ?_
    rintro e w2 ⟨rfl, hb2⟩
    have hb3 := HB1.out.trans (hb2.mono HB1.out.size)
    go_wp2_with fail
    go_ret
    exact ⟨rfl, hb3⟩
set_option maxRecDepth 100000 in
set_option maxHeartbeats 1000000 in
theorem iPermt (p : Int) (v : Value) (M : List (List Int)) (w : World) (h : Mat w v M) :
    Calls Try.prog 42 #[.int .i64 p, v] w fun e w' => e = .returned (.int .i64 (detV false p M)) ∧ Below w.heap.size w w' := by
  cases hB : sqB p M
  · have HV := Lib.hid (show -1 = detV false p M from by simp [detV, hB])
    have HS := Lib.hid (iSq p v M w h)
    rw [hB] at HS
    obtain ⟨_, _, a, cap, rfl, _⟩ := h
    clear hB
    go_enter Try.func42, Try.ntmps42
    go_wp2_with fail
    refine HS.out.mono ?_
    rintro e w' ⟨rfl, rfl⟩
    go_wp2_with fail
    go_ret
    exact ⟨ret_int HV.out, Below.refl _ _⟩
  · have HS := Lib.hid (iSq p v M w h)
    rw [hB] at HS
    obtain ⟨hM, hsq⟩ := sqB_side hB
    obtain ⟨r, c, hr, hr1, hr4, hc, hc1, hc4, hrow, hel, hMF⟩ := matB_side hM
    obtain ⟨g, off, cap, rfl, hC⟩ := h.cells hr hr1 hc1 hrow
    have hp := (matB_iff.1 hM).1
    have hpb := isP_bd hp
    have hrc : c = r := by omega
    subst hrc
    have HV := Lib.hid (show lapZ false c (el M) % p = detV false p M from by simp [detV, hB, hr])
    have HT := Lib.hid (iSop p 1 hp ⟨by omega, by omega⟩ g off c cap (el M) w hC hr1 hr4 hel)
    have HE := Lib.hid (smP_lap (p := p) (t := 1) (by omega) false rfl c hr1 hr4 (el M))
    rw [HE.out, HV.out] at HT
    clear hB hM hsq hr hc hrow hel hMF hC h hp HE
    go_enter Try.func42, Try.ntmps42
    go_wp2_with fail
    refine HS.out.mono ?_
    rintro e w' ⟨rfl, rfl⟩
    go_wp2_with fail
    refine HT.out.mono ?_
    rintro e w2 ⟨rfl, hb2⟩
    go_wp2_with fail
    go_ret
    exact ⟨rfl, hb2⟩
set_option maxRecDepth 100000 in
set_option maxHeartbeats 1000000 in
theorem sDet (p : Int) (v : Value) (M : List (List Int)) (w : World) (h : Mat w v M) :
    Calls Try.prog 38 #[.int .i64 p, v] w fun e w' => e = .returned (.int .i64 (detV true p M)) ∧ Below w.heap.size w w' := by
  cases hB : sqB p M
  · have HV := Lib.hid (show -1 = detV true p M from by simp [detV, hB])
    have HS := Lib.hid (sSq p v M w h)
    rw [hB] at HS
    obtain ⟨_, _, a, cap, rfl, _⟩ := h
    clear hB
    go_enter Try.func38, Try.ntmps38
    go_wp2_with fail
    refine HS.out.mono ?_
    rintro e w' ⟨rfl, rfl⟩
    go_wp2_with fail
    go_ret
    exact ⟨ret_int HV.out, Below.refl _ _⟩
  · have HS := Lib.hid (sSq p v M w h)
    rw [hB] at HS
    obtain ⟨hM, hsq⟩ := sqB_side hB
    obtain ⟨r, c, hr, hr1, hr4, hc, hc1, hc4, hrow, hel, hMF⟩ := matB_side hM
    obtain ⟨g, off, cap, rfl, hC⟩ := h.cells hr hr1 hc1 hrow
    have hp := (matB_iff.1 hM).1
    have hpb := isP_bd hp
    have hrc : c = r := by omega
    subst hrc
    have HV := Lib.hid (show lapZ true c (el M) % p = detV true p M from by simp [detV, hB, hr])
    have HT := Lib.hid (sExpand p hp true c hr4 _ (el M) w (.inr ⟨hr1, g, off, cap, rfl, hC⟩) hel)
    rw [HV.out] at HT
    clear hB hM hsq hr hc hrow hel hMF hC h hp
    go_enter Try.func38, Try.ntmps38
    go_wp2_with fail
    refine HS.out.mono ?_
    rintro e w' ⟨rfl, rfl⟩
    go_wp2_with fail
    refine HT.out.mono ?_
    rintro e w2 ⟨rfl, hb2⟩
    go_wp2_with fail
    go_ret
    exact ⟨rfl, hb2⟩
set_option maxRecDepth 100000 in
set_option maxHeartbeats 1000000 in
theorem sPermt (p : Int) (v : Value) (M : List (List Int)) (w : World) (h : Mat w v M) :
    Calls Try.prog 41 #[.int .i64 p, v] w fun e w' => e = .returned (.int .i64 (detV false p M)) ∧ Below w.heap.size w w' := by
  cases hB : sqB p M
  · have HV := Lib.hid (show -1 = detV false p M from by simp [detV, hB])
    have HS := Lib.hid (sSq p v M w h)
    rw [hB] at HS
    obtain ⟨_, _, a, cap, rfl, _⟩ := h
    clear hB
    go_enter Try.func41, Try.ntmps41
    go_wp2_with fail
    refine HS.out.mono ?_
    rintro e w' ⟨rfl, rfl⟩
    go_wp2_with fail
    go_ret
    exact ⟨ret_int HV.out, Below.refl _ _⟩
  · have HS := Lib.hid (sSq p v M w h)
    rw [hB] at HS
    obtain ⟨hM, hsq⟩ := sqB_side hB
    obtain ⟨r, c, hr, hr1, hr4, hc, hc1, hc4, hrow, hel, hMF⟩ := matB_side hM
    obtain ⟨g, off, cap, rfl, hC⟩ := h.cells hr hr1 hc1 hrow
    have hp := (matB_iff.1 hM).1
    have hpb := isP_bd hp
    have hrc : c = r := by omega
    subst hrc
    have HV := Lib.hid (show lapZ false c (el M) % p = detV false p M from by simp [detV, hB, hr])
    have HT := Lib.hid (sExpand p hp false c hr4 _ (el M) w (.inr ⟨hr1, g, off, cap, rfl, hC⟩) hel)
    rw [HV.out] at HT
    clear hB hM hsq hr hc hrow hel hMF hC h hp
    go_enter Try.func41, Try.ntmps41
    go_wp2_with fail
    refine HS.out.mono ?_
    rintro e w' ⟨rfl, rfl⟩
    go_wp2_with fail
    refine HT.out.mono ?_
    rintro e w2 ⟨rfl, hb2⟩
    go_wp2_with fail
    go_ret
    exact ⟨rfl, hb2⟩
end Go.Proofs.Ytlcmddghppdmgaa
namespace Go.Proofs.Ytlcmddghppdmgaa
set_option linter.unusedVariables false
open Go.RowKit Go.Shelf
theorem lapZ_ext (s : Bool) : ∀ (n : Nat) (f g : Nat → Nat → Int), (∀ i k, i < n → k < n → f i k = g i k) → lapZ s n f = lapZ s n g
  | 0, f, g, _ => by rw [lapZ, lapZ]
  | n + 1, f, g, h => by
    rw [lapZ, lapZ]
    have aux : ∀ k, k ≤ n + 1 → lapS s n f k = lapS s n g k := by
      intro k
      induction k with
      | zero => intro _; rw [lapS, lapS]
      | succ k ih =>
        intro hk
        rw [lapS, lapS, ih (by omega), h 0 k (by omega) (by omega), lapZ_ext s n (mnfZ f k) (mnfZ g k) (fun i j hi hj => by
          unfold mnfZ
          split
          · exact h _ _ (by omega) (by omega)
          · exact h _ _ (by omega) (by omega))]
    exact aux (n + 1) (Nat.le_refl _)
/-- the determinant without a row and a column, with a minus at every other place -/
def cofE (p : Int) (n : Nat) (E : Nat → Nat → Int) (r c : Nat) : Int := if (r + c) % 2 = 1 then (-(lapZ true (n - 1) (minE E r c) % p)) % p else lapZ true (n - 1) (minE E r c) % p
theorem cofE_bd {p : Int} (hp : 2 ≤ p) (n : Nat) (E : Nat → Nat → Int) (r c : Nat) : 0 ≤ cofE p n E r c ∧ cofE p n E r c < p := by
  unfold cofE
  split
  · exact ⟨Int.emod_nonneg _ (by omega), Int.emod_lt_of_pos _ (by omega)⟩
  · exact ⟨Int.emod_nonneg _ (by omega), Int.emod_lt_of_pos _ (by omega)⟩
def adjV (p : Int) (M : List (List Int)) : List (List Int) := if sqB p M = true then matF M.length (fun a b => cofE p M.length (el M) b a) M.length else []
theorem sqB_len {p : Int} {M : List (List Int)} (h : sqB p M = true) : 1 ≤ M.length ∧ M.length ≤ 4 := by
  obtain ⟨_, h1, _⟩ := matB_iff.1 (sqB_side h).1
  exact h1
theorem adjV_rows (p : Int) (M : List (List Int)) : (adjV p M).length ≤ 100 ∧ ∀ i, i < (adjV p M).length → 0 < (rowM (adjV p M) i).length ∧ (rowM (adjV p M) i).length ≤ 1000 := by
  unfold adjV
  by_cases h : sqB p M = true
  · have := sqB_len h
    rw [if_pos h, matF_len]
    refine ⟨by omega, fun i hi => ?_⟩
    rw [matF_row hi]; simp; omega
  · rw [if_neg h]; exact ⟨by simp, fun i hi => absurd hi (Nat.not_lt_zero i)⟩
theorem minE_bd {p : Int} {n : Nat} {E : Nat → Nat → Int} (h : ∀ i k, i < n → k < n → 0 ≤ E i k ∧ E i k < p) (r c : Nat) : ∀ i k, i < n - 1 → k < n - 1 → 0 ≤ minE E r c i k ∧ minE E r c i k < p :=
  fun i k hi hk => h _ _ (sk_lt hi) (sk_lt hk)
theorem tm2 (i k : Nat) : ((i : Int) + (k : Int)).tmod 2 = (((i + k) % 2 : Nat) : Int) := by
  rw [show (i : Int) + (k : Int) = ((i + k : Nat) : Int) by omega, show (2 : Int) = ((2 : Nat) : Int) from rfl, ← Int.ofNat_tmod]
/-- a minor of a square matrix is one -/
theorem sq_minor {p : Int} {M : List (List Int)} (h : sqB p M = true) {n r c : Nat} (hn : M.length = n) (hn2 : 2 ≤ n) (hr : r < n) (hc : c < n) : minB p M r c = true ∧ detV true p (mnrV p M r c) = lapZ true (n - 1) (minE (el M) r c) % p := by
  obtain ⟨hM, hsq⟩ := sqB_side h
  have hm : minB p M r c = true := minB_iff.2 ⟨hM, by omega, by omega, ⟨by omega, by omega⟩, by omega, by omega⟩
  obtain ⟨r1, c1, e1, e2, e3, e4, e5, e6, e7, e8, _⟩ := matB_side hM
  have hp := (matB_iff.1 hM).1
  obtain ⟨_, q2⟩ := sqB_len h
  have ev : mnrV p M r c = matF (n - 1) (minE (el M) r c) (n - 1) := by
    unfold mnrV; rw [if_pos hm, ← hsq, hn]; simp
  have hel : ∀ i k, i < n → k < n → 0 ≤ el M i k ∧ el M i k < p := fun i k hi hk => e8 i k (by omega) (by omega)
  have h0 : (rowM (matF (n - 1) (minE (el M) r c) (n - 1)) 0).length = n - 1 := by rw [matF_row (by omega)]; simp
  have hB : matB p (matF (n - 1) (minE (el M) r c) (n - 1)) = true := by
    refine matB_iff.2 ⟨hp, ⟨by rw [matF_len]; omega, by rw [matF_len]; omega⟩, ⟨by rw [h0]; omega, by rw [h0]; omega⟩, fun i hi => ?_⟩
    rw [matF_len] at hi
    refine rowB_iff.2 ⟨by rw [h0, matF_row hi]; simp, fun k hk => ?_⟩
    rw [h0] at hk
    have := minE_bd hel r c i k hi hk
    rw [matF_row hi]
    simpa [List.getD_eq_getElem?_getD, hk] using this
  have hS : sqB p (matF (n - 1) (minE (el M) r c) (n - 1)) = true := by simp [sqB, hB, h0, matF_len]
  refine ⟨hm, ?_⟩
  rw [ev]
  unfold detV
  rw [if_pos hS, matF_len, lapZ_ext true (n - 1) (el (matF (n - 1) (minE (el M) r c) (n - 1))) (minE (el M) r c) (fun i k hi hk => el_matF hi hk)]
set_option maxRecDepth 100000 in
set_option maxHeartbeats 1000000 in
theorem iCof (p : Int) (v : Value) (M : List (List Int)) (n r c : Nat) (w : World) (h : Mat w v M) (hs : sqB p M = true) (hn : M.length = n) (hr : r < n) (hc : c < n) :
    Calls Try.prog 114 #[v, .int .i64 p, .int .i64 r, .int .i64 c] w fun e w' => e = .returned (.int .i64 (cofE p n (el M) r c)) ∧ Below w.heap.size w w' := by
  have HM := Lib.hid (iMinorOf p v M r c w h)
  obtain ⟨q1, q2⟩ := sqB_len hs
  have hp := (matB_iff.1 (sqB_side hs).1).1
  obtain ⟨hp1, hp2⟩ := isP_bd hp
  obtain ⟨_, _, a, cap, rfl, _⟩ := h
  rw [hn] at HM ⊢
  by_cases h1 : n = 1
  · have hb : minB p M r c = false := by
      cases e : minB p M r c
      · rfl
      · have := (minB_iff.1 e).2.1
        omega
    have HV := Lib.hid (show (1 : Int) = cofE p n (el M) r c from by
      unfold cofE
      rw [if_neg (by omega), h1, show (1 : Nat) - 1 = 0 from rfl, lapZ, Int.emod_eq_of_lt (by omega) (by omega)])
    rw [hb] at HM
    clear hb hs h1 hn
    go_enter Try.func114, Try.ntmps114
    go_wp2_with fail
    refine HM.out.mono ?_
    rintro e w1 ⟨u, rfl, _, hb1⟩
    go_wp2_with fail
    go_ret
    exact ⟨ret_int HV.out, hb1⟩
  · obtain ⟨hm, hd⟩ := sq_minor hs hn (by omega) hr hc
    rw [hm] at HM
    have HD := Lib.hid (fun u w1 (ho : OwnMat w1 w.heap.size u (mnrV p M r c)) => iDet p u (mnrV p M r c) w1 ho.mat)
    rw [hd] at HD
    obtain ⟨y, hy⟩ : ∃ y, y = lapZ true (n - 1) (minE (el M) r c) % p := ⟨_, rfl⟩
    have y0 : 0 ≤ y := by rw [hy]; exact Int.emod_nonneg _ (by omega)
    have y1 : y < p := by rw [hy]; exact Int.emod_lt_of_pos _ (by omega)
    rw [← hy] at HD
    have hrc0 : IntKind.i64.wrap ((r : Int) + (c : Int)) = (r : Int) + (c : Int) := IntWalk.i64_in _ (by omega)
    have htm := tm2 r c
    by_cases ho : (r + c) % 2 = 1
    · have HV := Lib.hid (show minV p y = cofE p n (el M) r c from by
        unfold cofE minV; rw [if_pos ho, ← hy, if_pos (isE1_iff.2 ⟨hp, y0, y1⟩)])
      rw [ho] at htm
      have ht2 : ((r : Int) + (c : Int)).tmod 2 = 1 := htm
      clear hy hd hm hs htm hn
      go_enter Try.func114, Try.ntmps114
      go_wp2_with fail
      refine HM.out.mono ?_
      rintro e w1 ⟨u, rfl, ho1, hb1⟩
      have HD1 := Lib.hid (HD.out u w1 ho1)
      have HB1 := Lib.hid hb1
      clear ho1 hb1
      go_wp2_with fail
      refine HD1.out.mono ?_
      rintro e w2 ⟨rfl, hb2⟩
      have HB2 := Lib.hid (HB1.out.trans (hb2.mono HB1.out.size))
      clear hb2
      go_wp2_with fail
      refine (iMin p y _).mono ?_
      rintro e w3 ⟨rfl, hb3⟩
      have HB3 := Lib.hid (HB2.out.trans (hb3.mono HB2.out.size))
      clear hb3
      go_wp2_with fail
      go_ret
      exact ⟨ret_int HV.out, HB3.out⟩
    · have HV := Lib.hid (show y = cofE p n (el M) r c from by unfold cofE; rw [if_neg ho, ← hy])
      rw [show (r + c) % 2 = 0 by omega] at htm
      have ht2 : ((r : Int) + (c : Int)).tmod 2 = 0 := htm
      clear hy hd hm hs htm hn
      go_enter Try.func114, Try.ntmps114
      go_wp2_with fail
      refine HM.out.mono ?_
      rintro e w1 ⟨u, rfl, ho1, hb1⟩
      have HD1 := Lib.hid (HD.out u w1 ho1)
      have HB1 := Lib.hid hb1
      clear ho1 hb1
      go_wp2_with fail
      refine HD1.out.mono ?_
      rintro e w2 ⟨rfl, hb2⟩
      have HB2 := Lib.hid (HB1.out.trans (hb2.mono HB1.out.size))
      clear hb2
      go_wp2_with fail
      go_ret
      exact ⟨ret_int HV.out, HB2.out⟩
set_option maxHeartbeats 1000000 in
theorem iAdj1 (p : Int) (v : Value) (M : List (List Int)) (n bm bp : Nat) (W : World) (h0 : W.cell? ⟨bm, 0, none⟩ = some v) (h1 : W.cell? ⟨bp, 0, none⟩ = some (.int .i64 p)) (h : Mat W v M) (hs : sqB p M = true) (hn : M.length = n) (i k : Nat) (hi : i < n) (hk : k < n) :
    Calls Try.prog 113 #[.int .i64 i, .int .i64 k, .pointer (some ⟨bm, 0, none⟩), .pointer (some ⟨bp, 0, none⟩)] W fun e w' => e = .returned (.int .i64 (cofE p n (el M) k i)) ∧ Below W.heap.size W w' := by
  have HC := Lib.hid (iCof p v M n k i W h hs hn hk hi)
  obtain ⟨_, _, a, cap, rfl, _⟩ := h
  rw [hn] at HC h0
  clear hs hn
  go_enter Try.func113, Try.ntmps113
  go_wp2_with fail
  refine HC.out.mono ?_
  rintro e w1 ⟨rfl, hb1⟩
  go_wp2_with fail
  go_ret
  exact ⟨rfl, hb1⟩
theorem enAdj (args : Array Value) (w : World) : (callFunc 113 args).run Try.prog w = .ok (.enter 113 args) w := enters_of Try.func113 (by kernel_rfl) rfl args w
set_option maxRecDepth 100000 in
set_option maxHeartbeats 1000000 in
theorem iAdj (p : Int) (v : Value) (M : List (List Int)) (w : World) (h : Mat w v M) :
    Calls Try.prog 44 #[.int .i64 p, v] w fun e w' => ∃ u, e = .returned (.tuple #[u, .bool (sqB p M)]) ∧ OwnMat w' w.heap.size u (adjV p M) ∧ Below w.heap.size w w' := by
  obtain ⟨W, hW⟩ : ∃ W, W = (w.alloc (.cells #[.int .i64 p] 3)).alloc (.cells #[v] 35) := ⟨_, rfl⟩
  have hbW : Below w.heap.size w W := by rw [hW]; exact Below.alloc (Below.alloc (Below.refl _ _) (Nat.le_refl _) _) (by simp) _
  have hWs : W.heap.size = w.heap.size + 2 := by rw [hW]; simp
  have HSQ := Lib.hid (iSq p v M W (h.below hbW))
  obtain ⟨_, _, a, cap, rfl, _⟩ := id h
  obtain ⟨m, hm⟩ : ∃ m, m = M.length := ⟨_, rfl⟩
  rw [← hm] at HSQ hW h ⊢
  have hW1 : W.cell? ⟨w.heap.size + 1, 0, none⟩ = some (.slice a m cap) := by rw [hW]; exact World.cell?_alloc_at _ _ _ _ (by simp)
  have hW0 : W.cell? ⟨w.heap.size, 0, none⟩ = some (.int .i64 p) := by rw [hW, World.cell?_alloc_past _ _ _ (by simp)]; exact World.cell?_alloc_at _ _ _ _ rfl
  have HWE := Lib.hid hW
  have HBW := Lib.hid hbW
  cases hB : sqB p M
  · have HV := Lib.hid (show adjV p M = [] by simp [adjV, hB])
    rw [hB] at HSQ
    clear hB h hW hbW hm
    go_enter Try.func44, Try.ntmps44
    go_wp2_with fail
    rw [← HWE.out]
    go_wp2_with fail
    refine HSQ.out.mono ?_
    rintro e w' ⟨rfl, rfl⟩
    go_wp2_with fail
    rw [HV.out]
    refine bodyPost_ret (v := .tuple #[.slice none 0 0, .bool false]) (by simp [results, Try.results44, go_sem]) rfl ⟨_, rfl, OwnMat.nil _ _ _ _, HBW.out⟩
  · have HV := Lib.hid (show adjV p M = matF m (fun a b => cofE p m (el M) b a) m by simp [adjV, hB, hm])
    obtain ⟨q1, q2⟩ := sqB_len hB
    rw [hB] at HSQ
    have HN := Lib.hid (iNew m m (by omega) (by omega) (by omega) (by omega) (fun a b => cofE p m (el M) b a) 113 #[.pointer (some ⟨w.heap.size + 1, 0, none⟩), .pointer (some ⟨w.heap.size, 0, none⟩)] W enAdj
      (fun W2 hb2 i k hi hk => iAdj1 p (.slice a m cap) M m (w.heap.size + 1) w.heap.size W2 ((hb2.cell (p := ⟨w.heap.size + 1, 0, none⟩) (by show w.heap.size + 1 < _; omega)).trans hW1) ((hb2.cell (p := ⟨w.heap.size, 0, none⟩) (by show w.heap.size < _; omega)).trans hW0) ((h.below hbW).below hb2) hB hm.symm i k hi hk))
    clear hB h hW hbW hm
    go_enter Try.func44, Try.ntmps44
    go_wp2_with fail
    rw [← HWE.out]
    go_wp2_with fail
    refine HSQ.out.mono ?_
    rintro e w' ⟨rfl, rfl⟩
    go_wp2_with fail
    refine HN.out.mono ?_
    rintro e w6 ⟨u6, rfl, ho, hb6⟩
    have HF := Lib.hid (show OwnMat w6 w.heap.size u6 (matF m (fun a b => cofE p m (el M) b a) m) ∧ Below w.heap.size w w6 from
      ⟨ho.base (by omega), HBW.out.trans (hb6.mono (by omega))⟩)
    clear ho hb6
    go_wp2_with fail
    rw [HV.out]
    refine bodyPost_ret (v := .tuple #[u6, .bool true]) (by simp [results, Try.results44, go_sem]) rfl ⟨_, rfl, HF.out⟩
set_option maxRecDepth 100000 in
set_option maxHeartbeats 4000000 in
theorem sAdjG (p : Int) (hp : isP p = true) (g off n cap : Nat) (E : Nat → Nat → Int) (w : World) (hC : MatC w g off n n E) (hn1 : 1 ≤ n) (hn4 : n ≤ 4) (hE : ∀ i k, i < n → k < n → 0 ≤ E i k ∧ E i k < p) :
    Calls Try.prog 167 #[.int .i64 p, .slice (some ⟨g, off, none⟩) n cap] w fun e w' => ∃ g2 cap2 H, e = .returned (.slice (some ⟨g2, 0, none⟩) n cap2) ∧ OMat w' w.heap.size g2 0 H (fun _ => 0) (matF n (fun a b => cofE p n E b a) n) ∧ Below w.heap.size w w' := by
  obtain ⟨hp1, hp2⟩ := isP_bd hp
  have HN := Lib.hid (fun w => sNew n n (by omega) (by omega) w)
  have HI := Lib.hid (fun i k (hi : i < n) (hk : k < n) w1 (hb : Below w.heap.size w w1) => show Calls Try.prog 165 #[.slice (some ⟨g, off, none⟩) n cap, .int .i64 i, .int .i64 k] w1 fun e w' => ∃ u, e = .returned u ∧ Below w1.heap.size w1 w' ∧
      Calls Try.prog 105 #[.int .i64 p, u, .bool true] w' fun e w2 => e = .returned (.int .i64 (lapZ true (n - 1) (minE E i k) % p)) ∧ Below w'.heap.size w' w2 from
    (sMinor g off cap n n i k E w1 (hC.below hb) (by omega) (by omega) (by omega) hi hk).mono fun e w' ⟨u, V, H, he, hR, hb'⟩ =>
      ⟨u, he, hb', sExpand p hp true (n - 1) (by omega) u (minE E i k) w' (hR.matX (by omega)) (minE_bd hE i k)⟩)
  have HP := Lib.hid hp
  have hrp : 0 < n := by omega
  obtain ⟨F, hF⟩ : ∃ F, F = cofE p n E := ⟨_, rfl⟩
  have HFE := Lib.hid (fun i k => show F i k = (if (i + k) % 2 = 1 then (-(lapZ true (n - 1) (minE E i k) % p)) % p else lapZ true (n - 1) (minE E i k) % p) from by rw [hF]; rfl)
  rw [← hF]
  clear hC hE hp hF
  go_enter Try.func167, Try.ntmps167
  go_wp2_with fail
  refine (HN.out _).mono ?_
  rintro e w1 ⟨u, V, H, rfl, hR, hb⟩
  rw [zeroM_F] at hR
  obtain ⟨g2, cap2, rfl, hm⟩ := hR.formF hn1
  have HS := Lib.hid (show OMat w1 w.heap.size g2 0 H (fun _ => 0) (matF n (turF F 0 0) n) ∧ Below w.heap.size w w1 from ⟨by rw [matF_ext (F := fun _ _ => 0) (fun i k _ _ => by simp [turF])]; exact hm, hb⟩)
  clear hR hm hb
  go_wp2_with fail
  go_loopw [16] (fun i wr => ∃ k : Nat, k ≤ n ∧ i = .int .i64 k ∧ OMat wr w.heap.size g2 0 H (fun _ => 0) (matF n (turF F k 0) n) ∧ Below w.heap.size w wr) (fun i _ => n - (intOf i).toNat)
  case atStart => exact ⟨0, by omega, rfl, HS.out⟩
  case round =>
    clear HS
    obtain ⟨i, hi, rfl, hm, hb⟩ := hrel
    by_cases hlt : i < n
    · have hltp : (i : Int) < (n : Int) := by omega
      have hi0 : (0 : Int) ≤ (i : Int) := by omega
      have HS := Lib.hid (And.intro hm hb)
      clear hm hb
      go_wp2_with fail
      go_loopw [21] (fun i2 wr => ∃ k : Nat, k ≤ n ∧ i2 = .int .i64 k ∧ OMat wr w.heap.size g2 0 H (fun _ => 0) (matF n (turF F i k) n) ∧ Below w.heap.size w wr) (fun i2 _ => n - (intOf i2).toNat)
      case atStart => exact ⟨0, by omega, rfl, HS.out⟩
      case round =>
        clear HS
        obtain ⟨k, hk, rfl, hm, hb⟩ := hrel
        by_cases hlk : k < n
        · have hlkp : (k : Int) < (n : Int) := by omega
          have hk0 : (0 : Int) ≤ (k : Int) := by omega
          have HI1 := Lib.hid (HI.out i k hlt hlk wr hb)
          have HFX := Lib.hid (HFE.out i k)
          obtain ⟨y, hy⟩ : ∃ y, y = lapZ true (n - 1) (minE E i k) % p := ⟨_, rfl⟩
          have y0 : 0 ≤ y := by rw [hy]; exact Int.emod_nonneg _ (by omega)
          have y1 : y < p := by rw [hy]; exact Int.emod_lt_of_pos _ (by omega)
          rw [← hy] at HI1 HFX
          have hwn : IntKind.i64.wrap (-y) = -y := IntWalk.i64_in _ (by omega)
          have hrc0 : IntKind.i64.wrap ((i : Int) + (k : Int)) = (i : Int) + (k : Int) := IntWalk.i64_in _ (by omega)
          have htm := tm2 i k
          have HS := Lib.hid (And.intro hm hb)
          clear hy hm hb
          by_cases ho : (i + k) % 2 = 1
          · rw [ho] at htm
            have ht2 : ((i : Int) + (k : Int)).tmod 2 = 1 := htm
            obtain ⟨y2, hy2⟩ : ∃ y2, y2 = (-y) % p := ⟨_, rfl⟩
            have HYV := Lib.hid (show y2 = F i k from by rw [HFX.out, if_pos ho, hy2])
            have HSM := Lib.hid (fun w => (by rw [hy2]; exact sMod p (-y) w HP.out : Calls Try.prog 106 #[.int .i64 p, .int .i64 (-y)] w fun e w' => e = .returned (.int .i64 y2) ∧ w = w'))
            have HF := Lib.hid (fun w4 (hb4 : Below wr.heap.size wr w4) => show OMat (w4.setCell ⟨H k, i, none⟩ (.int .i64 y2)) w.heap.size g2 0 H (fun _ => 0) (matF n (turF F i (k + 1)) n) ∧ Below w.heap.size w (w4.setCell ⟨H k, i, none⟩ (.int .i64 y2)) from by
              obtain ⟨hm, hb⟩ := HS.out
              have hm4 := hm.below hb4
              obtain ⟨cp, h1, h2, h3, h4, h5⟩ := hm4.cellF hlk hrp
              refine ⟨?_, (hb.trans (hb4.mono hb.size)).setCell h3 _⟩
              have := hm4.setF hlk hlt y2
              rw [Nat.zero_add] at this
              rw [← matF_ext (fun a b _ _ => turF_upd F i k a b), ← HYV.out]
              exact this)
            have HCL := Lib.hid (fun w4 (hb4 : Below wr.heap.size wr w4) => show ∃ cp, w4.cell? ⟨g2, k, none⟩ = some (.slice (some ⟨H k, 0, none⟩) n cp) ∧ (∃ x, w4.cell? ⟨H k, i, none⟩ = some (.int .i64 x)) ∧ w4.frozen? ⟨H k, i, none⟩ = false from by
              obtain ⟨cp, h1, h2, h3, h4, h5⟩ := (HS.out.1.below hb4).cellF hlk hrp
              obtain ⟨c1, c2⟩ := h5 i hlt
              rw [Nat.zero_add] at h1 c1 c2
              exact ⟨cp, h1, ⟨_, c1⟩, c2⟩)
            clear htm hy2
            go_wp2_with fail
            refine HI1.out.mono ?_
            rintro e w3 ⟨u, rfl, hb3, hX⟩
            have HB3 := Lib.hid hb3
            have HX := Lib.hid hX
            clear hb3 hX
            go_wp2_with fail
            refine HX.out.mono ?_
            rintro e w4 ⟨rfl, hb4⟩
            have HB4 := Lib.hid (HB3.out.trans (hb4.mono HB3.out.size))
            clear hb4
            obtain ⟨cp, d1, ⟨x, d2⟩, d3⟩ := HCL.out w4 HB4.out
            go_wp2_with fail
            refine (HSM.out _).mono ?_
            rintro e w5 ⟨rfl, rfl⟩
            go_wp2_with fail
            go_roundw
            case rel => exact ⟨k + 1, by omega, by go_num, HF.out w4 HB4.out⟩
            case measure => simp [intOf]; omega
          · rw [show (i + k) % 2 = 0 by omega] at htm
            have ht2 : ((i : Int) + (k : Int)).tmod 2 = 0 := htm
            have HYV := Lib.hid (show y = F i k from by rw [HFX.out, if_neg ho])
            have HF := Lib.hid (fun w4 (hb4 : Below wr.heap.size wr w4) => show OMat (w4.setCell ⟨H k, i, none⟩ (.int .i64 y)) w.heap.size g2 0 H (fun _ => 0) (matF n (turF F i (k + 1)) n) ∧ Below w.heap.size w (w4.setCell ⟨H k, i, none⟩ (.int .i64 y)) from by
              obtain ⟨hm, hb⟩ := HS.out
              have hm4 := hm.below hb4
              obtain ⟨cp, h1, h2, h3, h4, h5⟩ := hm4.cellF hlk hrp
              refine ⟨?_, (hb.trans (hb4.mono hb.size)).setCell h3 _⟩
              have := hm4.setF hlk hlt y
              rw [Nat.zero_add] at this
              rw [← matF_ext (fun a b _ _ => turF_upd F i k a b), ← HYV.out]
              exact this)
            have HCL := Lib.hid (fun w4 (hb4 : Below wr.heap.size wr w4) => show ∃ cp, w4.cell? ⟨g2, k, none⟩ = some (.slice (some ⟨H k, 0, none⟩) n cp) ∧ (∃ x, w4.cell? ⟨H k, i, none⟩ = some (.int .i64 x)) ∧ w4.frozen? ⟨H k, i, none⟩ = false from by
              obtain ⟨cp, h1, h2, h3, h4, h5⟩ := (HS.out.1.below hb4).cellF hlk hrp
              obtain ⟨c1, c2⟩ := h5 i hlt
              rw [Nat.zero_add] at h1 c1 c2
              exact ⟨cp, h1, ⟨_, c1⟩, c2⟩)
            clear htm
            go_wp2_with fail
            refine HI1.out.mono ?_
            rintro e w3 ⟨u, rfl, hb3, hX⟩
            have HB3 := Lib.hid hb3
            have HX := Lib.hid hX
            clear hb3 hX
            go_wp2_with fail
            refine HX.out.mono ?_
            rintro e w4 ⟨rfl, hb4⟩
            have HB4 := Lib.hid (HB3.out.trans (hb4.mono HB3.out.size))
            clear hb4
            obtain ⟨cp, d1, ⟨x, d2⟩, d3⟩ := HCL.out w4 HB4.out
            go_wp2_with fail
            go_roundw
            case rel => exact ⟨k + 1, by omega, by go_num, HF.out w4 HB4.out⟩
            case measure => simp [intOf]; omega
        · have hkc : k = n := by omega
          subst hkc
          have HF := Lib.hid (show OMat wr w.heap.size g2 0 H (fun _ => 0) (matF k (turF F (i + 1) 0) k) ∧ Below w.heap.size w wr from ⟨by rw [← matF_ext (fun a b ha _ => turF_next ha)]; exact hm, hb⟩)
          clear hm hb
          go_wp2_with fail
          go_roundw
          case rel => exact ⟨i + 1, by omega, by go_num, HF.out⟩
          case measure => simp [intOf]; omega
    · have hir : i = n := by omega
      subst hir
      have HF := Lib.hid (show OMat wr w.heap.size g2 0 H (fun _ => 0) (matF i (fun a b => F b a) i) ∧ Below w.heap.size w wr from by
        refine ⟨?_, hb⟩
        rw [← matF_ext (fun a b _ hb => turF_all (E := F) (a := a) hb)]
        exact hm)
      clear hm hb
      go_wp2_with fail
      go_ret
      exact ⟨_, _, _, rfl, HF.out⟩
set_option maxRecDepth 100000 in
set_option maxHeartbeats 1000000 in
theorem sRawAdj (p : Int) (v : Value) (M : List (List Int)) (w : World) (h : Mat w v M) :
    Calls Try.prog 112 #[.int .i64 p, v] w fun e w' => ∃ u, e = .returned (.tuple #[u, .bool (sqB p M)]) ∧ OwnMat w' w.heap.size u (adjV p M) ∧ Below w.heap.size w w' := by
  have HS := Lib.hid (sSq p v M w h)
  cases hB : sqB p M
  · have HV := Lib.hid (show adjV p M = [] by simp [adjV, hB])
    rw [hB] at HS
    obtain ⟨_, _, a, cap, rfl, _⟩ := h
    clear hB
    go_enter Try.func112, Try.ntmps112
    go_wp2_with fail
    refine HS.out.mono ?_
    rintro e w' ⟨rfl, rfl⟩
    go_wp2_with fail
    rw [HV.out]
    refine bodyPost_ret (v := .tuple #[.slice (some ⟨w.heap.size, 0, none⟩) 0 0, .bool false]) (by simp [results, Try.results112, go_sem]) rfl ⟨_, rfl, OwnMat.nil _ _ _ _, Below.alloc (Below.refl _ _) (Nat.le_refl _) _⟩
  · rw [hB] at HS
    obtain ⟨hM, hsq⟩ := sqB_side hB
    obtain ⟨r, c, hr, hr1, hr4, hc, hc1, hc4, hrow, hel, hMF⟩ := matB_side hM
    obtain ⟨g, off, cap, rfl, hC⟩ := h.cells hr hr1 hc1 hrow
    have hp := (matB_iff.1 hM).1
    have hrc : c = r := by omega
    subst hrc
    have HV := Lib.hid (show adjV p M = matF c (fun a b => cofE p c (el M) b a) c from by simp [adjV, hB, hr])
    have HG := Lib.hid (sAdjG p hp g off c cap (el M) w hC hr1 hr4 hel)
    clear hB hM hsq hr hc hrow hel hMF hC h hp
    go_enter Try.func112, Try.ntmps112
    go_wp2_with fail
    refine HS.out.mono ?_
    rintro e w' ⟨rfl, rfl⟩
    go_wp2_with fail
    refine HG.out.mono ?_
    rintro e w2 ⟨g2, cap2, H, rfl, ho, hb2⟩
    have HF := Lib.hid (And.intro (ho.own (cap := cap2) (by omega) (by omega)) hb2)
    clear ho hb2
    go_wp2_with fail
    rw [HV.out]
    refine bodyPost_ret (v := .tuple #[.slice (some ⟨g2, 0, none⟩) c cap2, .bool true]) (by simp [results, Try.results112, go_sem]) rfl ⟨_, rfl, HF.out⟩
set_option maxRecDepth 100000 in
set_option maxHeartbeats 4000000 in
theorem sAdj (p : Int) (v : Value) (M : List (List Int)) (w : World) (h : Mat w v M) :
    Calls Try.prog 43 #[.int .i64 p, v] w fun e w' => ∃ u, e = .returned (.tuple #[u, .bool (sqB p M)]) ∧ OwnMat w' w.heap.size u (adjV p M) ∧ Below w.heap.size w w' := by
  have HR := Lib.hid (adjV_rows p M)
  have HS := Lib.hid (sRawAdj p v M w h)
  obtain ⟨b, hb⟩ : ∃ b, b = sqB p M := ⟨_, rfl⟩
  obtain ⟨R, hM⟩ : ∃ R, R = adjV p M := ⟨_, rfl⟩
  rw [← hb, ← hM] at HS ⊢
  rw [← hM] at HR
  obtain ⟨_, _, a, cap, rfl, _⟩ := h
  clear hb hM
  go_enter Try.func43, Try.ntmps43
  go_wp2_with fail
  refine HS.out.mono ?_
  rintro e w1 ⟨u, rfl, ho, hb1⟩
  have HO := Lib.hid (sOwnMo u R w1 ho.mat HR.out.1 HR.out.2)
  have HW := Lib.hid (And.intro ho hb1)
  clear ho hb1
  go_wp2_with fail
  refine HO.out.mono ?_
  rintro e w2 ⟨u2, rfl, ho2, hb2⟩
  have HF := Lib.hid (wrapOwn HW.out.1 HW.out.2 ho2 hb2)
  clear ho2 hb2
  go_wp2_with fail
  refine bodyPost_ret (v := .tuple #[u2, .bool b]) (by simp [results, Try.results43, go_sem]) rfl ⟨_, rfl, HF.out⟩
end Go.Proofs.Ytlcmddghppdmgaa
namespace Go.Proofs.Ytlcmddghppdmgaa
set_option linter.unusedVariables false
set_option linter.unusedSimpArgs false
/-- a cofactor, over the integers -/
def cofZ (n : Nat) (f : Nat → Nat → Int) (r c : Nat) : Int := (if (r + c) % 2 = 1 then -1 else 1) * lapZ true (n - 1) (minE f r c)
def rowZ (n : Nat) (f g : Nat → Nat → Int) (i k : Nat) : Nat → Int
  | 0 => 0
  | q + 1 => rowZ n f g i k q + f i q * g q k
theorem adjR1 (f : Nat → Nat → Int) (i k : Nat) (hi : i < 1) (hk : k < 1) : rowZ 1 f (fun a b => cofZ 1 f b a) i k 1 = if i = k then lapZ true 1 f else 0 := by
  have : i = 0 := by omega
  have : k = 0 := by omega
  subst_vars
  simp [rowZ, cofZ, lapZ, lapS, sgZ, mnfZ, minE, sk]
theorem adjR2 (f : Nat → Nat → Int) (i k : Nat) (hi : i < 2) (hk : k < 2) : rowZ 2 f (fun a b => cofZ 2 f b a) i k 2 = if i = k then lapZ true 2 f else 0 := by
  have h1 : i = 0 ∨ i = 1 := by omega
  have h2 : k = 0 ∨ k = 1 := by omega
  rcases h1 with rfl | rfl <;> rcases h2 with rfl | rfl <;> simp [rowZ, cofZ, lapZ, lapS, sgZ, mnfZ, minE, sk] <;> grind
theorem adjR3 (f : Nat → Nat → Int) (i k : Nat) (hi : i < 3) (hk : k < 3) : rowZ 3 f (fun a b => cofZ 3 f b a) i k 3 = if i = k then lapZ true 3 f else 0 := by
  have h1 : i = 0 ∨ i = 1 ∨ i = 2 := by omega
  have h2 : k = 0 ∨ k = 1 ∨ k = 2 := by omega
  rcases h1 with rfl | rfl | rfl <;> rcases h2 with rfl | rfl | rfl <;> simp [rowZ, cofZ, lapZ, lapS, sgZ, mnfZ, minE, sk] <;> grind
set_option maxHeartbeats 8000000 in
theorem adjR4 (f : Nat → Nat → Int) (i k : Nat) (hi : i < 4) (hk : k < 4) : rowZ 4 f (fun a b => cofZ 4 f b a) i k 4 = if i = k then lapZ true 4 f else 0 := by
  have h1 : i = 0 ∨ i = 1 ∨ i = 2 ∨ i = 3 := by omega
  have h2 : k = 0 ∨ k = 1 ∨ k = 2 ∨ k = 3 := by omega
  rcases h1 with rfl | rfl | rfl | rfl <;> rcases h2 with rfl | rfl | rfl | rfl <;> simp [rowZ, cofZ, lapZ, lapS, sgZ, mnfZ, minE, sk] <;> grind
theorem adjL1 (f : Nat → Nat → Int) (i k : Nat) (hi : i < 1) (hk : k < 1) : rowZ 1 (fun a b => cofZ 1 f b a) f i k 1 = if i = k then lapZ true 1 f else 0 := by
  have : i = 0 := by omega
  have : k = 0 := by omega
  subst_vars
  simp [rowZ, cofZ, lapZ, lapS, sgZ, mnfZ, minE, sk]
theorem adjL2 (f : Nat → Nat → Int) (i k : Nat) (hi : i < 2) (hk : k < 2) : rowZ 2 (fun a b => cofZ 2 f b a) f i k 2 = if i = k then lapZ true 2 f else 0 := by
  have h1 : i = 0 ∨ i = 1 := by omega
  have h2 : k = 0 ∨ k = 1 := by omega
  rcases h1 with rfl | rfl <;> rcases h2 with rfl | rfl <;> simp [rowZ, cofZ, lapZ, lapS, sgZ, mnfZ, minE, sk] <;> grind
theorem adjL3 (f : Nat → Nat → Int) (i k : Nat) (hi : i < 3) (hk : k < 3) : rowZ 3 (fun a b => cofZ 3 f b a) f i k 3 = if i = k then lapZ true 3 f else 0 := by
  have h1 : i = 0 ∨ i = 1 ∨ i = 2 := by omega
  have h2 : k = 0 ∨ k = 1 ∨ k = 2 := by omega
  rcases h1 with rfl | rfl | rfl <;> rcases h2 with rfl | rfl | rfl <;> simp [rowZ, cofZ, lapZ, lapS, sgZ, mnfZ, minE, sk] <;> grind
set_option maxHeartbeats 8000000 in
theorem adjL4 (f : Nat → Nat → Int) (i k : Nat) (hi : i < 4) (hk : k < 4) : rowZ 4 (fun a b => cofZ 4 f b a) f i k 4 = if i = k then lapZ true 4 f else 0 := by
  have h1 : i = 0 ∨ i = 1 ∨ i = 2 ∨ i = 3 := by omega
  have h2 : k = 0 ∨ k = 1 ∨ k = 2 ∨ k = 3 := by omega
  rcases h1 with rfl | rfl | rfl | rfl <;> rcases h2 with rfl | rfl | rfl | rfl <;> simp [rowZ, cofZ, lapZ, lapS, sgZ, mnfZ, minE, sk] <;> grind
end Go.Proofs.Ytlcmddghppdmgaa
