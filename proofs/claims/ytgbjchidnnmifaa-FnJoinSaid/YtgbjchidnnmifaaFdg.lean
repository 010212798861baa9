/-
  Contracts of the model's FormalDegree. Conditions: what the slice holds is known.
-/
import Derived.Test.YtgbjchidnnmifaaDep
namespace Go.Proofs.Ytgbjchidnnmifaa
open Go.RowKit
theorem degL_bd (L : List Gt) : ∀ k j : Nat, 0 ≤ (degL L k).getD j 0 ∧ (degL L k).getD j 0 ≤ 1000
  | 0, j => by simp [degL]
  | k + 1, j => by
    have ih := degL_bd L k
    simp only [degL, List.getD_eq_getElem?_getD] at ih ⊢
    by_cases hj : j < (degL L k).length
    · rw [List.getElem?_append_left hj]
      exact ih j
    · rw [List.getElem?_append_right (by omega)]
      by_cases he : j - (degL L k).length = 0
      · rw [he]
        simp only [List.getElem?_cons_zero, Option.getD_some]
        have h1 := ih (gAt L k).a.toNat
        have h2 := ih (gAt L k).b.toNat
        split
        · omega
        · split
          · omega
          · split <;> omega
      · rw [List.getElem?_eq_none (by simp; omega)]
        simp
/-- what FormalDegree returns -/
def degV (p : Int) (L : List Gt) : Int := if circB p L = true then (degL L L.length).getD (L.length - 1) 0 else -1
set_option maxRecDepth 100000 in
set_option maxHeartbeats 4000000 in
theorem sFdg_some (p : Int) (L : List Gt) (hv : circB p L = true) (g off cap : Nat) (r : Int) (hr : (degL L L.length).getD (L.length - 1) 0 = r) (w : World) (hg : g < w.heap.size)
    (hc : ∀ j : Nat, j < L.length → GAt w g (off + j * 3) (L.getD j default)) :
    Calls Try.prog 16 #[.int .i64 p, .slice (some ⟨g, off, none⟩) L.length cap] w fun e w' => e = .returned (.int .i64 r) ∧ Below w.heap.size w w' := by
  obtain ⟨i0, hi, hz0, hz1, hz2⟩ := info_parts infoInt
  obtain ⟨hp, hl1, hl2, hall⟩ := circB_iff.1 hv
  have HC := Lib.hid hc
  have HV := Lib.hid hv
  have HR := Lib.hid hr
  clear hr
  have HA := Lib.hid hall
  have hG : Gats (w.alloc (.cells #[] 3)) (.slice (some ⟨g, off, none⟩) L.length cap) L :=
    Gats.below ⟨by omega, _, _, rfl, .inr ⟨g, off, rfl, hg, hc⟩⟩ (Below.alloc (Below.refl _ _) (Nat.le_refl _) _)
  have HG := Lib.hid hG
  clear hc hv hall hp hG
  go_enter Try.func16, Try.ntmps16
  go_wp2_with fail
  refine (sCircuitValid p _ L _ HG.out).mono ?_
  rintro e w1 ⟨he, hb1⟩
  rw [HV.out] at he
  subst he
  have hR0 := (RowI.lit0 w w.heap.size (Nat.le_refl _)).below hb1
  have hB0 : Below w.heap.size w w1 := (Below.alloc (Below.refl _ _) (Nat.le_refl _) _ : Below w.heap.size w (w.alloc (.cells #[] 3))).trans (hb1.mono (by simp))
  clear hb1
  go_wp2_with fail
  go_loopw [5, 16] (fun v i wr => ∃ k : Nat, k ≤ L.length ∧ i = .int .i64 k ∧ RowI wr w.heap.size v (degL L k) ∧ Below w.heap.size w wr) (fun _ i _ => L.length - (intOf i).toNat)
  case atStart => exact ⟨0, by omega, rfl, hR0, hB0⟩
  case round =>
    clear hR0 hB0
    obtain ⟨k, hk, rfl, hR, hb⟩ := hrel
    by_cases hlt : k < L.length
    · have hltp : (k : Int) < (L.length : Int) := by omega
      have hk0 : (0 : Int) ≤ (k : Int) := by omega
      obtain ⟨a0, a1, a2⟩ := (HC.out k hlt).below hb hg
      have hx0 := HA.out k hlt
      obtain ⟨x, hx⟩ : ∃ x, x = L.getD k default := ⟨_, rfl⟩
      rw [← hx] at a0 a1 a2
      rw [← gat_mk hx] at hx0
      have hcs := gOK_cases hx0
      simp only at hcs
      have HW := Lib.hid hR
      have Hb := Lib.hid hb
      have hs := hb.size
      have hlen : (degL L k).length = k := degL_len L k
      obtain ⟨xk, xa, xb⟩ := x
      simp only at a0 a1 a2 hcs
      by_cases hk2 : xk = 2
      · subst hk2
        obtain ⟨ja, rfl⟩ := Int.eq_ofNat_of_zero_le (show 0 ≤ xa by omega)
        obtain ⟨jb, rfl⟩ := Int.eq_ofNat_of_zero_le (show 0 ≤ xb by omega)
        have hja : ja < k := by omega
        have hjb : jb < k := by omega
        obtain ⟨da, hda⟩ : ∃ d, d = (degL L k).getD ja 0 := ⟨_, rfl⟩
        obtain ⟨db, hdb⟩ : ∃ d, d = (degL L k).getD jb 0 := ⟨_, rfl⟩
        have b1 := degL_bd L k ja
        have b2 := degL_bd L k jb
        rw [← hda] at b1
        rw [← hdb] at b2
        obtain ⟨m, hm⟩ : ∃ m, (if da < db then db else da) = m := ⟨_, rfl⟩
        have hmm : max da db = m := by rw [← hm]; split <;> omega
        have hm0 : 0 ≤ m ∧ m ≤ 1000 := by rw [← hm]; split <;> omega
        have HE := Lib.hid (show degL L (k + 1) = degL L k ++ [m] by
          have e : gAt L k = ⟨2, ja, jb⟩ := (gat_mk hx).symm
          rw [← hmm, hda, hdb]
          simp [degL, e])
        rcases hR.shape' hlen with ⟨_, h0⟩ | ⟨g2, cap2, rfl, hg0, hg2, hn2, hm2, hcell⟩
        · omega
        have d0 := hcell ja (by omega)
        have d1 := hcell jb (by omega)
        rw [← hda] at d0
        rw [← hdb] at d1
        clear hx hR hb hx0 hcs hcell hda hdb hmm
        go_wp2_with fail
        go_quiet (fail)
        go_wp2_with (at_builtin; refine wpList_append_own _ rfl _ _ 28 rfl (w.heap.size) 3 i0 (.int .i64 0) 1 8 Try.underlying28 hi hz0 hz1 hz2 rfl (by decide) _ _ _ rfl (RowI.below HW.out (by repeat (first | exact Below.refl _ _ | apply Below.drew | apply below_drewN | (refine Below.alloc ?_ (by first | omega | (simp <;> omega)) _)))) _ 1 1 [.int .i64 (m)] rfl rfl (by intro j u hj; match j, hj with | 0, hj => (simp at hj; subst hj; simp [Addr.add, go_sem])) (one_ok _) (by unfold maxLen; omega) (by omega) (by first | omega | (simp; omega)) ?_)
        intro v' w2 hown' hgrow _
        have hR2 := RowI.snoc (L := degL L k) (by rw [hlen]; exact hown')
        have hb2 := HW.out.grow Hb.out hs (by repeat (first | exact Below.refl _ _ | apply Below.drew | apply below_drewN | (refine Below.alloc ?_ (by first | omega | (simp <;> omega)) _))) hgrow
        rw [← HE.out] at hR2
        clear hown' hgrow
        go_wp2_with fail
        go_roundw
        case rel => exact ⟨k + 1, by omega, by go_num, hR2, hb2⟩
        case measure => simp [intOf]; omega
      by_cases hk3 : xk = 3
      · subst hk3
        obtain ⟨ja, rfl⟩ := Int.eq_ofNat_of_zero_le (show 0 ≤ xa by omega)
        obtain ⟨jb, rfl⟩ := Int.eq_ofNat_of_zero_le (show 0 ≤ xb by omega)
        have hja : ja < k := by omega
        have hjb : jb < k := by omega
        obtain ⟨da, hda⟩ : ∃ d, d = (degL L k).getD ja 0 := ⟨_, rfl⟩
        obtain ⟨db, hdb⟩ : ∃ d, d = (degL L k).getD jb 0 := ⟨_, rfl⟩
        have b1 := degL_bd L k ja
        have b2 := degL_bd L k jb
        rw [← hda] at b1
        rw [← hdb] at b2
        obtain ⟨m, hm⟩ : ∃ m, (if 1000 < da + db then 1000 else da + db) = m := ⟨_, rfl⟩
        have hmm : min (da + db) 1000 = m := by rw [← hm]; split <;> omega
        have hm0 : 0 ≤ m ∧ m ≤ 1000 := by rw [← hm]; split <;> omega
        have HE := Lib.hid (show degL L (k + 1) = degL L k ++ [m] by
          have e : gAt L k = ⟨3, ja, jb⟩ := (gat_mk hx).symm
          rw [← hmm, hda, hdb]
          simp [degL, e])
        rcases hR.shape' hlen with ⟨_, h0⟩ | ⟨g2, cap2, rfl, hg0, hg2, hn2, hm2, hcell⟩
        · omega
        have d0 := hcell ja (by omega)
        have d1 := hcell jb (by omega)
        rw [← hda] at d0
        rw [← hdb] at d1
        clear hx hR hb hx0 hcs hcell hda hdb hmm
        go_wp2_with fail
        go_quiet (fail)
        go_wp2_with (at_builtin; refine wpList_append_own _ rfl _ _ 28 rfl (w.heap.size) 3 i0 (.int .i64 0) 1 8 Try.underlying28 hi hz0 hz1 hz2 rfl (by decide) _ _ _ rfl (RowI.below HW.out (by repeat (first | exact Below.refl _ _ | apply Below.drew | apply below_drewN | (refine Below.alloc ?_ (by first | omega | (simp <;> omega)) _)))) _ 1 1 [.int .i64 (m)] rfl rfl (by intro j u hj; match j, hj with | 0, hj => (simp at hj; subst hj; simp [Addr.add, go_sem])) (one_ok _) (by unfold maxLen; omega) (by omega) (by first | omega | (simp; omega)) ?_)
        intro v' w2 hown' hgrow _
        have hR2 := RowI.snoc (L := degL L k) (by rw [hlen]; exact hown')
        have hb2 := HW.out.grow Hb.out hs (by repeat (first | exact Below.refl _ _ | apply Below.drew | apply below_drewN | (refine Below.alloc ?_ (by first | omega | (simp <;> omega)) _))) hgrow
        rw [← HE.out] at hR2
        clear hown' hgrow
        go_wp2_with fail
        go_roundw
        case rel => exact ⟨k + 1, by omega, by go_num, hR2, hb2⟩
        case measure => simp [intOf]; omega
      by_cases hk0' : xk = 0
      · subst hk0'
        have HE := Lib.hid (show degL L (k + 1) = degL L k ++ [1] by
          have e : gAt L k = ⟨0, xa, xb⟩ := (gat_mk hx).symm
          simp [degL, e])
        clear hx hR hb hx0 hcs
        go_wp2_with (at_builtin; refine wpList_append_own _ rfl _ _ 28 rfl (w.heap.size) 3 i0 (.int .i64 0) 1 8 Try.underlying28 hi hz0 hz1 hz2 rfl (by decide) _ _ _ rfl (RowI.below HW.out (by repeat (first | exact Below.refl _ _ | apply Below.drew | apply below_drewN | (refine Below.alloc ?_ (by first | omega | (simp <;> omega)) _)))) _ 1 1 [.int .i64 (1)] rfl rfl (by intro j u hj; match j, hj with | 0, hj => (simp at hj; subst hj; simp [Addr.add, go_sem])) (one_ok _) (by unfold maxLen; omega) (by omega) (by first | omega | (simp; omega)) ?_)
        intro v' w2 hown' hgrow _
        have hR2 := RowI.snoc (L := degL L k) (by rw [hlen]; exact hown')
        have hb2 := HW.out.grow Hb.out hs (by repeat (first | exact Below.refl _ _ | apply Below.drew | apply below_drewN | (refine Below.alloc ?_ (by first | omega | (simp <;> omega)) _))) hgrow
        rw [← HE.out] at hR2
        clear hown' hgrow
        go_wp2_with fail
        go_roundw
        case rel => exact ⟨k + 1, by omega, by go_num, hR2, hb2⟩
        case measure => simp [intOf]; omega
      · have hk1' : xk = 1 := by omega
        subst hk1'
        have HE := Lib.hid (show degL L (k + 1) = degL L k ++ [0] by
          have e : gAt L k = ⟨1, xa, xb⟩ := (gat_mk hx).symm
          simp [degL, e])
        clear hx hR hb hx0 hcs
        go_wp2_with (at_builtin; refine wpList_append_own _ rfl _ _ 28 rfl (w.heap.size) 3 i0 (.int .i64 0) 1 8 Try.underlying28 hi hz0 hz1 hz2 rfl (by decide) _ _ _ rfl (RowI.below HW.out (by repeat (first | exact Below.refl _ _ | apply Below.drew | apply below_drewN | (refine Below.alloc ?_ (by first | omega | (simp <;> omega)) _)))) _ 1 1 [.int .i64 (0)] rfl rfl (by intro j u hj; match j, hj with | 0, hj => (simp at hj; subst hj; simp [Addr.add, go_sem])) (one_ok _) (by unfold maxLen; omega) (by omega) (by first | omega | (simp; omega)) ?_)
        intro v' w2 hown' hgrow _
        have hR2 := RowI.snoc (L := degL L k) (by rw [hlen]; exact hown')
        have hb2 := HW.out.grow Hb.out hs (by repeat (first | exact Below.refl _ _ | apply Below.drew | apply below_drewN | (refine Below.alloc ?_ (by first | omega | (simp <;> omega)) _))) hgrow
        rw [← HE.out] at hR2
        clear hown' hgrow
        go_wp2_with fail
        go_roundw
        case rel => exact ⟨k + 1, by omega, by go_num, hR2, hb2⟩
        case measure => simp [intOf]; omega
    · have hkl : k = L.length := by omega
      subst hkl
      have hlen := degL_len L L.length
      rcases hR.shape' hlen with ⟨_, h0⟩ | ⟨g2, cap2, rfl, hg0, hg2, hn2, hm2, hcell⟩
      · omega
      have d0 := hcell (L.length - 1) (by omega)
      rw [HR.out] at d0
      obtain ⟨n, hn⟩ : ∃ n, L.length = n + 1 := ⟨L.length - 1, by omega⟩
      rw [hn] at d0
      simp only [Nat.add_sub_cancel] at d0
      have hnn : (L.length : Int) - 1 = (n : Int) := by omega
      have hn1 : (n : Int) < (L.length : Int) := by omega
      clear hR hcell
      go_wp2_with fail
      go_ret
      exact ⟨rfl, hb⟩
end Go.Proofs.Ytgbjchidnnmifaa
