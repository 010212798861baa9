/-
  Contracts of the model's EvalGates. Conditions: what the slice holds is known.
-/
import Derived.Test.YtgbjchidnnmifaaCirB
import Derived.Test.YtgbjchidnnmifaaRowI
import Derived.Test.YtgbjchidnnmifaaPt
import Derived.BigQuiet
import Derived.Deep.QuietTactic
namespace Go.Proofs.Ytgbjchidnnmifaa
open Go.RowKit
def coord (x y z a : Int) : Int := if a == 0 then x else if a == 1 then y else z
/-- the values of the gates below k -/
def evL (p x y z : Int) (L : List Gt) : Nat → List Int
  | 0 => []
  | k + 1 => evL p x y z L k ++ [let g := gAt L k
      if g.k == 0 then coord x y z g.a
      else if g.k == 2 then ((evL p x y z L k).getD g.a.toNat 0 + (evL p x y z L k).getD g.b.toNat 0) % p
      else if g.k == 3 then ((evL p x y z L k).getD g.a.toNat 0 * (evL p x y z L k).getD g.b.toNat 0) % p
      else g.a]
theorem evL_len (p x y z : Int) (L : List Gt) : ∀ k, (evL p x y z L k).length = k
  | 0 => rfl
  | k + 1 => by simp [evL, evL_len p x y z L k]
theorem isE3_iff {p x y z : Int} : isE3 p x y z = true ↔ (0 ≤ x ∧ x < p) ∧ (0 ≤ y ∧ y < p) ∧ (0 ≤ z ∧ z < p) := by simp [isE3, isE]
theorem evL_bd {p x y z : Int} {L : List Gt} (hv : circB p L = true) (he : isE3 p x y z = true) : ∀ k : Nat, k ≤ L.length → ∀ j : Nat, j < k → 0 ≤ (evL p x y z L k).getD j 0 ∧ (evL p x y z L k).getD j 0 < p
  | 0, _, j, h => by omega
  | k + 1, hk, j, hj => by
    have ih := evL_bd hv he k (by omega)
    obtain ⟨hp, _, _, hall⟩ := circB_iff.1 hv
    obtain ⟨p0, p1⟩ := isP_bd hp
    obtain ⟨hx, hy, hz⟩ := isE3_iff.1 he
    have hl := evL_len p x y z L k
    simp only [evL, List.getD_eq_getElem?_getD] at ih ⊢
    by_cases hjk : j < k
    · rw [List.getElem?_append_left (by omega)]
      exact ih j hjk
    · have : j = k := by omega
      subst this
      rw [List.getElem?_append_right (by omega), hl, Nat.sub_self]
      simp only [List.getElem?_cons_zero, Option.getD_some]
      have h := gOK_cases (hall j (by omega))
      generalize gAt L j = g at h
      obtain ⟨gk, ga, gb⟩ := g
      simp only at h ⊢
      split
      · unfold coord; split
        · exact hx
        · split
          · exact hy
          · exact hz
      · split
        · exact ⟨Int.emod_nonneg _ (by omega), Int.emod_lt_of_pos _ (by omega)⟩
        · split
          · exact ⟨Int.emod_nonneg _ (by omega), Int.emod_lt_of_pos _ (by omega)⟩
          · rename_i h0 h2 h3; simp at h0 h2 h3; omega
/-- what EvalGates returns -/
def evV2 (p x y z : Int) (L : List Gt) : List Int := if circB p L && isE3 p x y z then evL p x y z L L.length else []
/-- the values fit the gate -/
theorem evL_step {p x y z : Int} {L : List Gt} {k : Nat} {g : Gt} (hg : gAt L k = g) {v : Int}
    (h : (if g.k == 0 then coord x y z g.a else if g.k == 2 then ((evL p x y z L k).getD g.a.toNat 0 + (evL p x y z L k).getD g.b.toNat 0) % p
      else if g.k == 3 then ((evL p x y z L k).getD g.a.toNat 0 * (evL p x y z L k).getD g.b.toNat 0) % p else g.a) = v) : evL p x y z L (k + 1) = evL p x y z L k ++ [v] := by
  simp only [evL, hg, h]
set_option maxRecDepth 100000 in
set_option maxHeartbeats 4000000 in
theorem sEval_some (p x y z : Int) (L : List Gt) (hv : circB p L = true) (he : isE3 p x y z = true) (g off cap : Nat) (w : World) (hg : g < w.heap.size)
    (hc : ∀ j : Nat, j < L.length → GAt w g (off + j * 3) (L.getD j default)) :
    Calls Try.prog 31 #[.int .i64 p, .slice (some ⟨g, off, none⟩) L.length cap, .agg #[.int .i64 x, .int .i64 y, .int .i64 z]] w fun e w' => ∃ v, e = .returned v ∧ OwnInts w' w.heap.size v (evL p x y z L L.length) ∧ Below w.heap.size w w' := by
  obtain ⟨i0, hi, hz0, hz1, hz2⟩ := info_parts infoInt
  obtain ⟨hp, hl1, hl2, hall⟩ := circB_iff.1 hv
  obtain ⟨p0, p1⟩ := isP_bd hp
  obtain ⟨⟨x0, x1⟩, ⟨y0, y1⟩, ⟨z0, z1⟩⟩ := isE3_iff.1 he
  have HC := Lib.hid hc
  have HA := Lib.hid hall
  have HBD := Lib.hid (evL_bd hv he)
  obtain ⟨W, hW⟩ : ∃ W, W = (w.alloc (Obj.cells #[.int .i64 x, .int .i64 y, .int .i64 z] 25)).alloc (.cells #[] 3) := ⟨_, rfl⟩
  have hPt : PtAt W w.heap.size x y z := by rw [hW]; refine ⟨?_, ?_, ?_⟩ <;> simp [go_sem]
  have B0 : Below w.heap.size w W := by rw [hW]; exact (by repeat (first | exact Below.refl _ _ | apply Below.drew | apply below_drewN | (refine Below.alloc ?_ (by first | omega | (simp <;> omega)) _)))
  have hsW : w.heap.size < W.heap.size := by rw [hW]; simp; omega
  have R0 : RowI W (w.heap.size + 1) (.slice (some ⟨w.heap.size + 1, 0, none⟩) 0 0) [] := by
    rw [hW]
    have := RowI.lit0 (w.alloc (Obj.cells #[.int .i64 x, .int .i64 y, .int .i64 z] 25)) (w.heap.size + 1) (by simp)
    simpa using this
  have HW := Lib.hid hW
  have hpn : ¬ p = 0 := by omega
  have hpb : (p == 0) = false := by simp; omega
  clear hc hv hall hp hW he
  go_enter Try.func31, Try.ntmps31
  go_wp2_with fail
  rw [← HW.out]
  clear HW
  go_loopw [7, 14] (fun v i wr => ∃ k : Nat, k ≤ L.length ∧ i = .int .i64 k ∧ RowI wr (w.heap.size + 1) v (evL p x y z L k) ∧ PtAt wr w.heap.size x y z ∧ Below w.heap.size w wr ∧ w.heap.size < wr.heap.size) (fun _ i _ => L.length - (intOf i).toNat)
  case atStart => exact ⟨0, by omega, rfl, R0, hPt, B0, hsW⟩
  case round =>
    clear R0 hPt B0 hsW
    obtain ⟨k, hk, rfl, hR, hP, hb, hsz⟩ := hrel
    by_cases hlt : k < L.length
    · have hltp : (k : Int) < (L.length : Int) := by omega
      have hk0 : (0 : Int) ≤ (k : Int) := by omega
      obtain ⟨a0, a1, a2⟩ := (HC.out k hlt).below hb hg
      have hx0 := HA.out k hlt
      obtain ⟨x', hx⟩ : ∃ x, x = L.getD k default := ⟨_, rfl⟩
      rw [← hx] at a0 a1 a2
      rw [← gat_mk hx] at hx0
      have hcs := gOK_cases hx0
      simp only at hcs
      have HGA := Lib.hid (gat_mk hx).symm
      have HW := Lib.hid hR
      have Hb := Lib.hid hb
      have HP := Lib.hid hP
      have hs := hb.size
      have hs1 : w.heap.size + 1 ≤ wr.heap.size := hsz
      have hlen : (evL p x y z L k).length = k := evL_len p x y z L k
      obtain ⟨xk, xa, xb⟩ := x'
      simp only at a0 a1 a2 hcs HGA
      by_cases hk0' : xk = 0
      · subst hk0'
        have hxa : xa = 0 ∨ xa = 1 ∨ xa = 2 := by omega
        rcases hxa with rfl | rfl | rfl
        · have HE := Lib.hid (evL_step (p := p) (x := x) (y := y) (z := z) HGA.out (v := x) (by simp [coord]))
          obtain ⟨q0, q1, q2⟩ := hP
          clear hx hR hb hx0 hcs
          go_wp2_with (at_builtin; refine wpList_append_own _ rfl _ _ 28 rfl (w.heap.size + 1) 3 i0 (.int .i64 0) 1 8 Try.underlying28 hi hz0 hz1 hz2 rfl (by decide) _ _ _ rfl (RowI.below HW.out (by repeat (first | exact Below.refl _ _ | apply Below.drew | apply below_drewN | (refine Below.alloc ?_ (by first | omega | (simp <;> omega)) _)))) _ 1 1 [.int .i64 (x)] rfl rfl (by intro j u hj; match j, hj with | 0, hj => (simp at hj; subst hj; simp [Addr.add, go_sem])) (one_ok _) (by unfold maxLen; omega) (by omega) (by first | omega | (simp; omega)) ?_)
          intro v' w3 hown' hgrow _
          have hR2 := RowI.snoc (L := evL p x y z L k) (by rw [hlen]; exact hown')
          have bb := HW.out.grow (Below.refl (w.heap.size + 1) wr) hs1 (by repeat (first | exact Below.refl _ _ | apply Below.drew | apply below_drewN | (refine Below.alloc ?_ (by first | omega | (simp <;> omega)) _))) hgrow
          have hP2 := HP.out.below bb (by omega)
          have hb2 := Hb.out.trans (bb.mono (by omega))
          have hs2 : w.heap.size < w3.heap.size := by have := bb.size; omega
          rw [← HE.out] at hR2
          clear hown' hgrow bb
          go_wp2_with fail
          go_roundw
          case rel => exact ⟨k + 1, by omega, by go_num, hR2, hP2, hb2, hs2⟩
          case measure => simp [intOf]; omega
        · have HE := Lib.hid (evL_step (p := p) (x := x) (y := y) (z := z) HGA.out (v := y) (by simp [coord]))
          obtain ⟨q0, q1, q2⟩ := hP
          clear hx hR hb hx0 hcs
          go_wp2_with (at_builtin; refine wpList_append_own _ rfl _ _ 28 rfl (w.heap.size + 1) 3 i0 (.int .i64 0) 1 8 Try.underlying28 hi hz0 hz1 hz2 rfl (by decide) _ _ _ rfl (RowI.below HW.out (by repeat (first | exact Below.refl _ _ | apply Below.drew | apply below_drewN | (refine Below.alloc ?_ (by first | omega | (simp <;> omega)) _)))) _ 1 1 [.int .i64 (y)] rfl rfl (by intro j u hj; match j, hj with | 0, hj => (simp at hj; subst hj; simp [Addr.add, go_sem])) (one_ok _) (by unfold maxLen; omega) (by omega) (by first | omega | (simp; omega)) ?_)
          intro v' w3 hown' hgrow _
          have hR2 := RowI.snoc (L := evL p x y z L k) (by rw [hlen]; exact hown')
          have bb := HW.out.grow (Below.refl (w.heap.size + 1) wr) hs1 (by repeat (first | exact Below.refl _ _ | apply Below.drew | apply below_drewN | (refine Below.alloc ?_ (by first | omega | (simp <;> omega)) _))) hgrow
          have hP2 := HP.out.below bb (by omega)
          have hb2 := Hb.out.trans (bb.mono (by omega))
          have hs2 : w.heap.size < w3.heap.size := by have := bb.size; omega
          rw [← HE.out] at hR2
          clear hown' hgrow bb
          go_wp2_with fail
          go_roundw
          case rel => exact ⟨k + 1, by omega, by go_num, hR2, hP2, hb2, hs2⟩
          case measure => simp [intOf]; omega
        · have HE := Lib.hid (evL_step (p := p) (x := x) (y := y) (z := z) HGA.out (v := z) (by simp [coord]))
          obtain ⟨q0, q1, q2⟩ := hP
          clear hx hR hb hx0 hcs
          go_wp2_with (at_builtin; refine wpList_append_own _ rfl _ _ 28 rfl (w.heap.size + 1) 3 i0 (.int .i64 0) 1 8 Try.underlying28 hi hz0 hz1 hz2 rfl (by decide) _ _ _ rfl (RowI.below HW.out (by repeat (first | exact Below.refl _ _ | apply Below.drew | apply below_drewN | (refine Below.alloc ?_ (by first | omega | (simp <;> omega)) _)))) _ 1 1 [.int .i64 (z)] rfl rfl (by intro j u hj; match j, hj with | 0, hj => (simp at hj; subst hj; simp [Addr.add, go_sem])) (one_ok _) (by unfold maxLen; omega) (by omega) (by first | omega | (simp; omega)) ?_)
          intro v' w3 hown' hgrow _
          have hR2 := RowI.snoc (L := evL p x y z L k) (by rw [hlen]; exact hown')
          have bb := HW.out.grow (Below.refl (w.heap.size + 1) wr) hs1 (by repeat (first | exact Below.refl _ _ | apply Below.drew | apply below_drewN | (refine Below.alloc ?_ (by first | omega | (simp <;> omega)) _))) hgrow
          have hP2 := HP.out.below bb (by omega)
          have hb2 := Hb.out.trans (bb.mono (by omega))
          have hs2 : w.heap.size < w3.heap.size := by have := bb.size; omega
          rw [← HE.out] at hR2
          clear hown' hgrow bb
          go_wp2_with fail
          go_roundw
          case rel => exact ⟨k + 1, by omega, by go_num, hR2, hP2, hb2, hs2⟩
          case measure => simp [intOf]; omega
      by_cases hk2 : xk = 2
      · subst hk2
        obtain ⟨ja, rfl⟩ := Int.eq_ofNat_of_zero_le (show 0 ≤ xa by omega)
        obtain ⟨jb, rfl⟩ := Int.eq_ofNat_of_zero_le (show 0 ≤ xb by omega)
        have hja : ja < k := by omega
        have hjb : jb < k := by omega
        obtain ⟨da, hda⟩ : ∃ d, d = (evL p x y z L k).getD ja 0 := ⟨_, rfl⟩
        obtain ⟨db, hdb⟩ : ∃ d, d = (evL p x y z L k).getD jb 0 := ⟨_, rfl⟩
        obtain ⟨b1, b2⟩ := HBD.out k hk ja hja
        obtain ⟨b3, b4⟩ := HBD.out k hk jb hjb
        rw [← hda] at b1 b2
        rw [← hdb] at b3 b4
        have hbd : 0 ≤ da + db ∧ da + db ≤ 169 := ⟨by omega, by omega⟩
        obtain ⟨m, hm⟩ : ∃ m, (da + db) % p = m := ⟨_, rfl⟩
        have hm0 : 0 ≤ m ∧ m < p := by rw [← hm]; exact ⟨Int.emod_nonneg _ (by omega), Int.emod_lt_of_pos _ (by omega)⟩
        have HE := Lib.hid (evL_step (p := p) (x := x) (y := y) (z := z) HGA.out (v := m) (by simp [← hm, hda, hdb]))
        have hw1 : IntKind.i64.wrap (da + db) = da + db := IntWalk.i64_in _ (by omega)
        have htm : (da + db).tmod p = m := by rw [Int.tmod_eq_emod_of_nonneg hbd.1]; exact hm
        have hwm : IntKind.i64.wrap m = m := IntWalk.i64_in _ (by omega)
        rcases hR.shape' hlen with ⟨_, h0⟩ | ⟨g2, cap2, rfl, hg0, hg2, hn2, hm2, hcell⟩
        · omega
        have d0 := hcell ja (by omega)
        have d1 := hcell jb (by omega)
        rw [← hda] at d0
        rw [← hdb] at d1
        clear hx hR hb hx0 hcs hcell hda hdb hm hP
        go_wp2_with fail
        go_quiet (fail)
        go_wp2_with (at_builtin; refine wpList_append_own _ rfl _ _ 28 rfl (w.heap.size + 1) 3 i0 (.int .i64 0) 1 8 Try.underlying28 hi hz0 hz1 hz2 rfl (by decide) _ _ _ rfl (RowI.below HW.out (by repeat (first | exact Below.refl _ _ | apply Below.drew | apply below_drewN | (refine Below.alloc ?_ (by first | omega | (simp <;> omega)) _)))) _ 1 1 [.int .i64 (m)] rfl rfl (by intro j u hj; match j, hj with | 0, hj => (simp at hj; subst hj; simp [Addr.add, go_sem])) (one_ok _) (by unfold maxLen; omega) (by omega) (by first | omega | (simp; omega)) ?_)
        intro v' w3 hown' hgrow _
        have hR2 := RowI.snoc (L := evL p x y z L k) (by rw [hlen]; exact hown')
        have bb := HW.out.grow (Below.refl (w.heap.size + 1) wr) hs1 (by repeat (first | exact Below.refl _ _ | apply Below.drew | apply below_drewN | (refine Below.alloc ?_ (by first | omega | (simp <;> omega)) _))) hgrow
        have hP2 := HP.out.below bb (by omega)
        have hb2 := Hb.out.trans (bb.mono (by omega))
        have hs2 : w.heap.size < w3.heap.size := by have := bb.size; omega
        rw [← HE.out] at hR2
        clear hown' hgrow bb
        go_wp2_with fail
        go_roundw
        case rel => exact ⟨k + 1, by omega, by go_num, hR2, hP2, hb2, hs2⟩
        case measure => simp [intOf]; omega
      by_cases hk3 : xk = 3
      · subst hk3
        obtain ⟨ja, rfl⟩ := Int.eq_ofNat_of_zero_le (show 0 ≤ xa by omega)
        obtain ⟨jb, rfl⟩ := Int.eq_ofNat_of_zero_le (show 0 ≤ xb by omega)
        have hja : ja < k := by omega
        have hjb : jb < k := by omega
        obtain ⟨da, hda⟩ : ∃ d, d = (evL p x y z L k).getD ja 0 := ⟨_, rfl⟩
        obtain ⟨db, hdb⟩ : ∃ d, d = (evL p x y z L k).getD jb 0 := ⟨_, rfl⟩
        obtain ⟨b1, b2⟩ := HBD.out k hk ja hja
        obtain ⟨b3, b4⟩ := HBD.out k hk jb hjb
        rw [← hda] at b1 b2
        rw [← hdb] at b3 b4
        have hbd : 0 ≤ da * db ∧ da * db ≤ 169 := ⟨Int.mul_nonneg b1 b3, by
          have h1 : da * db ≤ 13 * 13 := Int.mul_le_mul (by omega) (by omega) b3 (by omega)
          omega⟩
        obtain ⟨m, hm⟩ : ∃ m, (da * db) % p = m := ⟨_, rfl⟩
        have hm0 : 0 ≤ m ∧ m < p := by rw [← hm]; exact ⟨Int.emod_nonneg _ (by omega), Int.emod_lt_of_pos _ (by omega)⟩
        have HE := Lib.hid (evL_step (p := p) (x := x) (y := y) (z := z) HGA.out (v := m) (by simp [← hm, hda, hdb]))
        have hw1 : IntKind.i64.wrap (da * db) = da * db := IntWalk.i64_in _ (by omega)
        have htm : (da * db).tmod p = m := by rw [Int.tmod_eq_emod_of_nonneg hbd.1]; exact hm
        have hwm : IntKind.i64.wrap m = m := IntWalk.i64_in _ (by omega)
        rcases hR.shape' hlen with ⟨_, h0⟩ | ⟨g2, cap2, rfl, hg0, hg2, hn2, hm2, hcell⟩
        · omega
        have d0 := hcell ja (by omega)
        have d1 := hcell jb (by omega)
        rw [← hda] at d0
        rw [← hdb] at d1
        clear hx hR hb hx0 hcs hcell hda hdb hm hP
        go_wp2_with fail
        go_quiet (fail)
        go_wp2_with (at_builtin; refine wpList_append_own _ rfl _ _ 28 rfl (w.heap.size + 1) 3 i0 (.int .i64 0) 1 8 Try.underlying28 hi hz0 hz1 hz2 rfl (by decide) _ _ _ rfl (RowI.below HW.out (by repeat (first | exact Below.refl _ _ | apply Below.drew | apply below_drewN | (refine Below.alloc ?_ (by first | omega | (simp <;> omega)) _)))) _ 1 1 [.int .i64 (m)] rfl rfl (by intro j u hj; match j, hj with | 0, hj => (simp at hj; subst hj; simp [Addr.add, go_sem])) (one_ok _) (by unfold maxLen; omega) (by omega) (by first | omega | (simp; omega)) ?_)
        intro v' w3 hown' hgrow _
        have hR2 := RowI.snoc (L := evL p x y z L k) (by rw [hlen]; exact hown')
        have bb := HW.out.grow (Below.refl (w.heap.size + 1) wr) hs1 (by repeat (first | exact Below.refl _ _ | apply Below.drew | apply below_drewN | (refine Below.alloc ?_ (by first | omega | (simp <;> omega)) _))) hgrow
        have hP2 := HP.out.below bb (by omega)
        have hb2 := Hb.out.trans (bb.mono (by omega))
        have hs2 : w.heap.size < w3.heap.size := by have := bb.size; omega
        rw [← HE.out] at hR2
        clear hown' hgrow bb
        go_wp2_with fail
        go_roundw
        case rel => exact ⟨k + 1, by omega, by go_num, hR2, hP2, hb2, hs2⟩
        case measure => simp [intOf]; omega
      have hk1' : xk = 1 := by omega
      subst hk1'
      have HE := Lib.hid (evL_step (p := p) (x := x) (y := y) (z := z) HGA.out (v := xa) (by simp))
      clear hx hR hb hx0 hcs hP
      go_wp2_with (at_builtin; refine wpList_append_own _ rfl _ _ 28 rfl (w.heap.size + 1) 3 i0 (.int .i64 0) 1 8 Try.underlying28 hi hz0 hz1 hz2 rfl (by decide) _ _ _ rfl (RowI.below HW.out (by repeat (first | exact Below.refl _ _ | apply Below.drew | apply below_drewN | (refine Below.alloc ?_ (by first | omega | (simp <;> omega)) _)))) _ 1 1 [.int .i64 (xa)] rfl rfl (by intro j u hj; match j, hj with | 0, hj => (simp at hj; subst hj; simp [Addr.add, go_sem])) (one_ok _) (by unfold maxLen; omega) (by omega) (by first | omega | (simp; omega)) ?_)
      intro v' w3 hown' hgrow _
      have hR2 := RowI.snoc (L := evL p x y z L k) (by rw [hlen]; exact hown')
      have bb := HW.out.grow (Below.refl (w.heap.size + 1) wr) hs1 (by repeat (first | exact Below.refl _ _ | apply Below.drew | apply below_drewN | (refine Below.alloc ?_ (by first | omega | (simp <;> omega)) _))) hgrow
      have hP2 := HP.out.below bb (by omega)
      have hb2 := Hb.out.trans (bb.mono (by omega))
      have hs2 : w.heap.size < w3.heap.size := by have := bb.size; omega
      rw [← HE.out] at hR2
      clear hown' hgrow bb
      go_wp2_with fail
      go_roundw
      case rel => exact ⟨k + 1, by omega, by go_num, hR2, hP2, hb2, hs2⟩
      case measure => simp [intOf]; omega
    · have hkl : k = L.length := by omega
      subst hkl
      have hlen := evL_len p x y z L L.length
      go_wp2_with fail
      go_ret
      exact ⟨_, rfl, ownI_base (hR.own (by omega)) (by omega), hb⟩
end Go.Proofs.Ytgbjchidnnmifaa
