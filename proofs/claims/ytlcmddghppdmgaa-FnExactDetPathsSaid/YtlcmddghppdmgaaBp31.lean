/-
  DetPaths of both. Conditions: none but that the slices read as arrows.
-/
import Derived.Test.YtlcmddghppdmgaaBp30
import Derived.Test.YtlcmddghppdmgaaBp27
namespace Go.Proofs.Ytlcmddghppdmgaa
set_option linter.unusedVariables false
open Go.RowKit Go.Shelf
theorem sqB_matF {p : Int} {m : Nat} {F : Nat → Nat → Int} (hp : isP p = true) (h1 : 1 ≤ m) (h4 : m ≤ 4) (hF : ∀ i k, 0 ≤ F i k ∧ F i k < p) : sqB p (matF m F m) = true := by
  have h0 : (rowM (matF m F m) 0).length = m := by rw [matF_row (by omega)]; simp
  have hB : matB p (matF m F m) = true := by
    refine matB_iff.2 ⟨hp, ⟨by rw [matF_len]; omega, by rw [matF_len]; omega⟩, ⟨by rw [h0]; omega, by rw [h0]; omega⟩, fun i hi => ?_⟩
    rw [matF_len] at hi
    refine rowB_iff.2 ⟨by rw [h0, matF_row hi]; simp, fun k hk => ?_⟩
    rw [h0] at hk
    have := hF i k
    rw [matF_row hi]
    simpa [List.getD_eq_getElem?_getD, hk] using this
  simp [sqB, hB, h0, matF_len]
def dpV (p n : Int) (A : List Arr) (x y z : Int) : Int := if maB p n A x y z = true then (if n % 2 = 0 then (-(detV true p (maV p n A x y z))) % p else detV true p (maV p n A x y z)) else -1
theorem maV_sq {p n : Int} {A : List Arr} {x y z : Int} (h : maB p n A x y z = true) : sqB p (maV p n A x y z) = true ∧ (2 ≤ n ∧ n ≤ 5) := by
  have hp : prgB p n A = true := by
    unfold maB at h
    rw [Bool.and_eq_true] at h
    exact h.1
  obtain ⟨h1, h2, _⟩ := prgB_iff.1 hp
  unfold maV
  rw [if_pos h]
  exact ⟨sqB_matF h1 (by omega) (by omega) (fun i k => elP_bd h1 _ A i k A.length), h2⟩
theorem sExpM (p : Int) (v : Value) (M : List (List Int)) (w : World) (h : Mat w v M) (hs : sqB p M = true) :
    Calls Try.prog 105 #[.int .i64 p, v, .bool true] w fun e w' => e = .returned (.int .i64 (detV true p M)) ∧ Below w.heap.size w w' := by
  obtain ⟨hM, hsq⟩ := sqB_side hs
  obtain ⟨r, c, hr, hr1, hr4, hc, hc1, hc4, hrow, hel, hMF⟩ := matB_side hM
  obtain ⟨g, off, cap, rfl, hC⟩ := h.cells hr hr1 hc1 hrow
  have hp := (matB_iff.1 hM).1
  have hrc : c = r := by omega
  subst hrc
  have e : detV true p M = lapZ true c (el M) % p := by simp [detV, hs, hr]
  rw [e]
  exact sExpand p hp true c hr4 _ (el M) w (.inr ⟨hr1, g, off, cap, rfl, hC⟩) hel
theorem detV_bdA {p : Int} {M : List (List Int)} (h : sqB p M = true) : isP p = true ∧ 0 ≤ detV true p M ∧ detV true p M < p := by
  have hp := (matB_iff.1 (sqB_side h).1).1
  have := isP_bd hp
  unfold detV
  rw [if_pos h]
  exact ⟨hp, Int.emod_nonneg _ (by omega), Int.emod_lt_of_pos _ (by omega)⟩
set_option maxRecDepth 100000 in
set_option maxHeartbeats 2000000 in
theorem iDpA (p n : Int) (v : Value) (A : List Arr) (x y z : Int) (w : World) (h : Arrs w v A) :
    Calls Try.prog 36 #[.int .i64 p, .agg #[.int .i64 n, v], .agg #[.int .i64 x, .int .i64 y, .int .i64 z]] w fun e w' => e = .returned (.int .i64 (dpV p n A x y z)) ∧ Below w.heap.size w w' := by
  obtain ⟨W, hW⟩ : ∃ W, W = (w.alloc (Obj.cells #[.int .i64 n, v] 29)).alloc (Obj.cells #[.int .i64 x, .int .i64 y, .int .i64 z] 33) := ⟨_, rfl⟩
  have hbW : Below w.heap.size w W := by rw [hW]; exact (by repeat (first | exact Below.refl _ _ | apply Below.drew | apply below_drewN | (refine Below.alloc ?_ (by first | omega | (simp <;> omega)) _)))
  have HM := Lib.hid (iMatAt p n v A x y z W (h.below hbW))
  have hs : w.heap.size < W.heap.size := by rw [hW]; simp; omega
  have kn : W.cell? ⟨w.heap.size, 0, none⟩ = some (.int .i64 n) := by rw [hW]; simp [go_sem]
  have HKN := Lib.hid (fun w' (hb : Below W.heap.size W w') => (hb.cell (p := ⟨w.heap.size, 0, none⟩) hs).trans kn)
  obtain ⟨_, _, a, cap, rfl, _⟩ := h
  obtain ⟨m, hm⟩ : ∃ m, m = A.length := ⟨_, rfl⟩
  have HW := Lib.hid hW
  rw [← hm] at HM HW ⊢
  have HBW := Lib.hid hbW
  cases hB : maB p n A x y z
  · have HV := Lib.hid (show -1 = dpV p n A x y z from by simp [dpV, hB])
    rw [hB] at HM
    clear hB hW hm hbW kn HKN
    go_enter Try.func36, Try.ntmps36
    go_wp2_with fail
    rw [← HW.out]
    refine HM.out.mono ?_
    rintro e w1 ⟨u, rfl, ho, hb1⟩
    have HB := Lib.hid (HBW.out.trans (hb1.mono HBW.out.size))
    clear ho hb1
    go_wp2_with fail
    go_ret
    exact ⟨ret_int HV.out, HB.out⟩
  · obtain ⟨hsq, hn2, hn5⟩ := maV_sq hB
    obtain ⟨hp, hd0, hd1⟩ := detV_bdA hsq
    obtain ⟨hp1, hp2⟩ := isP_bd hp
    have HV := Lib.hid (show (if n % 2 = 0 then (-(detV true p (maV p n A x y z))) % p else detV true p (maV p n A x y z)) = dpV p n A x y z from by simp [dpV, hB])
    have HP := Lib.hid hp
    rw [hB] at HM
    obtain ⟨M, hMe⟩ : ∃ M, M = maV p n A x y z := ⟨_, rfl⟩
    rw [← hMe] at HM HV hsq hd0 hd1
    have HD := Lib.hid (fun u w1 (ho : Mat w1 u M) => iDet p u M w1 ho)
    obtain ⟨d, hd⟩ : ∃ d, d = detV true p M := ⟨_, rfl⟩
    rw [← hd] at HV hd0 hd1 HD
    have htm : n.tmod 2 = n % 2 := Int.tmod_eq_emod_of_nonneg (by omega)
    have hwd : IntKind.i64.wrap (-d) = -d := IntWalk.i64_in _ (by omega)
    clear hB hW hm hbW kn hsq hMe hd hp
    by_cases he : n % 2 = 0
    · rw [he] at htm
      have HV := Lib.hid (show (-d) % p = dpV p n A x y z from by rw [← HV.out, if_pos he])
      go_enter Try.func36, Try.ntmps36
      go_wp2_with fail
      rw [← HW.out]
      refine HM.out.mono ?_
      rintro e w1 ⟨u, rfl, ho, hb1⟩
      have HD1 := Lib.hid (HD.out u w1 ho.mat)
      have HB1 := Lib.hid hb1
      obtain ⟨_, _, a1, c1, rfl, _⟩ := ho
      obtain ⟨m1, hm1⟩ : ∃ m1, m1 = M.length := ⟨_, rfl⟩
      rw [← hm1] at HD1 ⊢
      have k1 := HKN.out w1 hb1
      clear hb1 hm1
      go_wp2_with fail
      refine HD1.out.mono ?_
      rintro e w2 ⟨rfl, hb2⟩
      have hb3 := HB1.out.trans (hb2.mono HB1.out.size)
      have k2 := HKN.out w2 hb3
      have HB3 := Lib.hid hb3
      clear hb2 hb3 k1
      go_wp2_with fail
      refine (iMin p d _).mono ?_
      rintro e w4 ⟨rfl, hb4⟩
      have HB4 := Lib.hid (HBW.out.trans ((HB3.out.trans (hb4.mono HB3.out.size)).mono HBW.out.size))
      clear hb4
      go_wp2_with fail
      go_ret
      have e : minV p d = (-d) % p := by unfold minV; rw [if_pos (isE1_iff.2 ⟨HP.out, hd0, hd1⟩)]
      exact ⟨ret_int (e.trans HV.out), HB4.out⟩
    · have he1 : n % 2 = 1 := by omega
      rw [he1] at htm
      have HV := Lib.hid (show d = dpV p n A x y z from by rw [← HV.out, if_neg he])
      clear he
      go_enter Try.func36, Try.ntmps36
      go_wp2_with fail
      rw [← HW.out]
      refine HM.out.mono ?_
      rintro e w1 ⟨u, rfl, ho, hb1⟩
      have HD1 := Lib.hid (HD.out u w1 ho.mat)
      have HB1 := Lib.hid hb1
      obtain ⟨_, _, a1, c1, rfl, _⟩ := ho
      obtain ⟨m1, hm1⟩ : ∃ m1, m1 = M.length := ⟨_, rfl⟩
      rw [← hm1] at HD1 ⊢
      have k1 := HKN.out w1 hb1
      clear hb1 hm1
      go_wp2_with fail
      refine HD1.out.mono ?_
      rintro e w2 ⟨rfl, hb2⟩
      have hb3 := HB1.out.trans (hb2.mono HB1.out.size)
      have k2 := HKN.out w2 hb3
      have HB3 := Lib.hid (HBW.out.trans (hb3.mono HBW.out.size))
      clear hb2 hb3 k1
      go_wp2_with fail
      go_ret
      exact ⟨ret_int HV.out, HB3.out⟩
set_option maxRecDepth 100000 in
set_option maxHeartbeats 2000000 in
theorem sDpA (p n : Int) (v : Value) (A : List Arr) (x y z : Int) (w : World) (h : Arrs w v A) :
    Calls Try.prog 35 #[.int .i64 p, .agg #[.int .i64 n, v], .agg #[.int .i64 x, .int .i64 y, .int .i64 z]] w fun e w' => e = .returned (.int .i64 (dpV p n A x y z)) ∧ Below w.heap.size w w' := by
  obtain ⟨W, hW⟩ : ∃ W, W = (w.alloc (Obj.cells #[.int .i64 n, v] 29)).alloc (Obj.cells #[.int .i64 x, .int .i64 y, .int .i64 z] 33) := ⟨_, rfl⟩
  have hbW : Below w.heap.size w W := by rw [hW]; exact (by repeat (first | exact Below.refl _ _ | apply Below.drew | apply below_drewN | (refine Below.alloc ?_ (by first | omega | (simp <;> omega)) _)))
  have HM := Lib.hid (sMatAt p n v A x y z W (h.below hbW))
  have hs : w.heap.size < W.heap.size := by rw [hW]; simp; omega
  have kn : W.cell? ⟨w.heap.size, 0, none⟩ = some (.int .i64 n) := by rw [hW]; simp [go_sem]
  have HKN := Lib.hid (fun w' (hb : Below W.heap.size W w') => (hb.cell (p := ⟨w.heap.size, 0, none⟩) hs).trans kn)
  obtain ⟨_, _, a, cap, rfl, _⟩ := h
  obtain ⟨m, hm⟩ : ∃ m, m = A.length := ⟨_, rfl⟩
  have HW := Lib.hid hW
  rw [← hm] at HM HW ⊢
  have HBW := Lib.hid hbW
  cases hB : maB p n A x y z
  · have HV := Lib.hid (show -1 = dpV p n A x y z from by simp [dpV, hB])
    rw [hB] at HM
    clear hB hW hm hbW kn HKN
    go_enter Try.func35, Try.ntmps35
    go_wp2_with fail
    rw [← HW.out]
    refine HM.out.mono ?_
    rintro e w1 ⟨u, rfl, ho, hb1⟩
    have HB := Lib.hid (HBW.out.trans (hb1.mono HBW.out.size))
    clear ho hb1
    go_wp2_with fail
    go_ret
    exact ⟨ret_int HV.out, HB.out⟩
  · obtain ⟨hsq, hn2, hn5⟩ := maV_sq hB
    obtain ⟨hp, hd0, hd1⟩ := detV_bdA hsq
    obtain ⟨hp1, hp2⟩ := isP_bd hp
    have HV := Lib.hid (show (if n % 2 = 0 then (-(detV true p (maV p n A x y z))) % p else detV true p (maV p n A x y z)) = dpV p n A x y z from by simp [dpV, hB])
    have HP := Lib.hid hp
    rw [hB] at HM
    obtain ⟨M, hMe⟩ : ∃ M, M = maV p n A x y z := ⟨_, rfl⟩
    rw [← hMe] at HM HV hsq hd0 hd1
    have HD := Lib.hid (fun u w1 (ho : Mat w1 u M) => sExpM p u M w1 ho hsq)
    obtain ⟨d, hd⟩ : ∃ d, d = detV true p M := ⟨_, rfl⟩
    rw [← hd] at HV hd0 hd1 HD
    have htm : n.tmod 2 = n % 2 := Int.tmod_eq_emod_of_nonneg (by omega)
    have hwd : IntKind.i64.wrap (-d) = -d := IntWalk.i64_in _ (by omega)
    clear hB hW hm hbW kn hsq hMe hd hp
    by_cases he : n % 2 = 0
    · rw [he] at htm
      have HV := Lib.hid (show (-d) % p = dpV p n A x y z from by rw [← HV.out, if_pos he])
      go_enter Try.func35, Try.ntmps35
      go_wp2_with fail
      rw [← HW.out]
      refine HM.out.mono ?_
      rintro e w1 ⟨u, rfl, ho, hb1⟩
      have HD1 := Lib.hid (HD.out u w1 ho.mat)
      have HB1 := Lib.hid hb1
      obtain ⟨_, _, a1, c1, rfl, _⟩ := ho
      obtain ⟨m1, hm1⟩ : ∃ m1, m1 = M.length := ⟨_, rfl⟩
      rw [← hm1] at HD1 ⊢
      have k1 := HKN.out w1 hb1
      clear hb1 hm1
      go_wp2_with fail
      refine HD1.out.mono ?_
      rintro e w2 ⟨rfl, hb2⟩
      have hb3 := HB1.out.trans (hb2.mono HB1.out.size)
      have k2 := HKN.out w2 hb3
      have HB3 := Lib.hid hb3
      clear hb2 hb3 k1
      go_wp2_with fail
      refine (sMod p (-d) _ HP.out).mono ?_
      rintro e w4 ⟨rfl, rfl⟩
      have HB4 := Lib.hid (HBW.out.trans (HB3.out.mono HBW.out.size))
      go_wp2_with fail
      go_ret
      exact ⟨ret_int HV.out, HB4.out⟩
    · have he1 : n % 2 = 1 := by omega
      rw [he1] at htm
      have HV := Lib.hid (show d = dpV p n A x y z from by rw [← HV.out, if_neg he])
      clear he
      go_enter Try.func35, Try.ntmps35
      go_wp2_with fail
      rw [← HW.out]
      refine HM.out.mono ?_
      rintro e w1 ⟨u, rfl, ho, hb1⟩
      have HD1 := Lib.hid (HD.out u w1 ho.mat)
      have HB1 := Lib.hid hb1
      obtain ⟨_, _, a1, c1, rfl, _⟩ := ho
      obtain ⟨m1, hm1⟩ : ∃ m1, m1 = M.length := ⟨_, rfl⟩
      rw [← hm1] at HD1 ⊢
      have k1 := HKN.out w1 hb1
      clear hb1 hm1
      go_wp2_with fail
      refine HD1.out.mono ?_
      rintro e w2 ⟨rfl, hb2⟩
      have hb3 := HB1.out.trans (hb2.mono HB1.out.size)
      have k2 := HKN.out w2 hb3
      have HB3 := Lib.hid (HBW.out.trans (hb3.mono HBW.out.size))
      clear hb2 hb3 k1
      go_wp2_with fail
      go_ret
      exact ⟨ret_int HV.out, HB3.out⟩
end Go.Proofs.Ytlcmddghppdmgaa
