/-
  Slopes of gates as lists; ForwardAt of the model. Conditions: what the slice holds is known.
  ForwardAt, of the model for all arguments, and of the program: the slope of a gate. Conditions: what the slices hold is known.
  ForwardAt of the program. Conditions: what the slice holds is known.
-/
import Derived.Test.YtfpjflghgmcgbaaBb1
import Derived.Test.YtfpjflghgmcgbaaBb2
import Derived.Test.YtfpjflghgmcgbaaBc1
import Derived.Deep.Cut
import Derived.Test.YtfpjflghgmcgbaaBa12
import Derived.Deep.RegionHeld3
namespace Go.Proofs.Ytfpjflghgmcgbaa
open Go.RowKit
/-- the slopes of the gates below k by an unknown -/
def slL (p v : Int) (V : List Int) (L : List Gt) : Nat → List Int
  | 0 => []
  | k + 1 => slL p v V L k ++ [let g := gAt L k
      if g.k == 0 then (if g.a == v then 1 else 0)
      else if g.k == 2 then ((slL p v V L k).getD g.a.toNat 0 + (slL p v V L k).getD g.b.toNat 0) % p
      else if g.k == 3 then ((slL p v V L k).getD g.a.toNat 0 * V.getD g.b.toNat 0 + V.getD g.a.toNat 0 * (slL p v V L k).getD g.b.toNat 0) % p
      else 0]
theorem slL_len (p v : Int) (V : List Int) (L : List Gt) : ∀ k, (slL p v V L k).length = k
  | 0 => rfl
  | k + 1 => by simp [slL, slL_len p v V L k]
theorem slL_step {p v : Int} {V : List Int} {L : List Gt} {k : Nat} {g : Gt} (hg : gAt L k = g) {d : Int}
    (h : (if g.k == 0 then (if g.a == v then 1 else 0) else if g.k == 2 then ((slL p v V L k).getD g.a.toNat 0 + (slL p v V L k).getD g.b.toNat 0) % p
      else if g.k == 3 then ((slL p v V L k).getD g.a.toNat 0 * V.getD g.b.toNat 0 + V.getD g.a.toNat 0 * (slL p v V L k).getD g.b.toNat 0) % p else 0) = d) : slL p v V L (k + 1) = slL p v V L k ++ [d] := by
  simp only [slL, hg, h]
theorem slL_bd {p v : Int} {V : List Int} {L : List Gt} (hp : isP p = true) : ∀ k j : Nat, 0 ≤ (slL p v V L k).getD j 0 ∧ (slL p v V L k).getD j 0 < p
  | 0, j => by have := isP_bd hp; simp [slL]; omega
  | k + 1, j => by
    have ih := slL_bd (v := v) (V := V) (L := L) hp k
    have hb := isP_bd hp
    have hl := slL_len p v V L k
    obtain ⟨d, hd⟩ : ∃ d, slL p v V L (k + 1) = slL p v V L k ++ [d] := ⟨_, rfl⟩
    have hdb : 0 ≤ d ∧ d < p := by
      have e := List.append_cancel_left (show slL p v V L k ++ [_] = slL p v V L k ++ [d] from hd)
      injection e with e _
      rw [← e]
      simp only
      split
      · split <;> omega
      · split
        · exact ⟨Int.emod_nonneg _ (by omega), Int.emod_lt_of_pos _ (by omega)⟩
        · split
          · exact ⟨Int.emod_nonneg _ (by omega), Int.emod_lt_of_pos _ (by omega)⟩
          · omega
    rw [hd, List.getD_eq_getElem?_getD]
    by_cases h : j < k
    · rw [List.getElem?_append_left (by omega)]
      have := ih j
      rw [List.getD_eq_getElem?_getD] at this
      exact this
    · by_cases h2 : j = k
      · subst h2
        rw [List.getElem?_append_right (by omega), hl, Nat.sub_self]
        exact hdb
      · rw [List.getElem?_eq_none (by simp; omega)]
        simp
        omega
def faB (p : Int) (L : List Gt) (v x y z : Int) : Bool := circB p L && (isE3 p x y z && inB v 0 2)
def faV (p : Int) (L : List Gt) (v x y z : Int) : Int := if faB p L v x y z = true then (evL p x y z L L.length).getD (L.length - 1) 0 else -1
def faS (p : Int) (L : List Gt) (v x y z : Int) : Int := if faB p L v x y z = true then (slL p v (evL p x y z L L.length) L L.length).getD (L.length - 1) 0 else -1
theorem faB_no {p : Int} {L : List Gt} {v x y z : Int} (h : faB p L v x y z = false) : faV p L v x y z = -1 ∧ faS p L v x y z = -1 := by
  unfold faV faS
  rw [h]
  exact ⟨rfl, rfl⟩
set_option maxRecDepth 100000 in
set_option maxHeartbeats 16000000 in
theorem sFwAt_some (p v x y z : Int) (L : List Gt) (hv : circB p L = true) (he : isE3 p x y z = true) (hu : inB v 0 2 = true) (g off cap : Nat) (w : World) (hg : g < w.heap.size)
    (hc : ∀ j : Nat, j < L.length → GAt w g (off + j * 3) (L.getD j default)) :
    Calls Try.prog 25 #[.int .i64 p, .slice (some ⟨g, off, none⟩) L.length cap, .int .i64 v, .agg #[.int .i64 x, .int .i64 y, .int .i64 z]] w fun e w' => e = .returned (.tuple #[.int .i64 (faV p L v x y z), .int .i64 (faS p L v x y z)]) ∧ Below w.heap.size w w' := by
  obtain ⟨i0, hi, hz0, hz1, hz2⟩ := info_parts infoInt
  obtain ⟨hp, hl1, hl2, hall⟩ := circB_iff.1 hv
  obtain ⟨p0, p1⟩ := isP_bd hp
  obtain ⟨n, hn⟩ : ∃ n, n = w.heap.size := ⟨_, rfl⟩
  obtain ⟨V, hV⟩ : ∃ V, V = evL p x y z L L.length := ⟨_, rfl⟩
  have HRES := Lib.hid (show faV p L v x y z = V.getD (L.length - 1) 0 ∧ faS p L v x y z = (slL p v V L L.length).getD (L.length - 1) 0 by
    have hb : faB p L v x y z = true := by unfold faB; rw [hv, he, hu]; rfl
    unfold faV faS
    rw [if_pos hb, if_pos hb, ← hV]
    exact ⟨rfl, rfl⟩)
  obtain ⟨W, hW⟩ : ∃ W, W = w.alloc (Obj.cells #[.int .i64 x, .int .i64 y, .int .i64 z] 27) := ⟨_, rfl⟩
  have hP : PtAt W n x y z := by rw [hW, hn]; refine ⟨?_, ?_, ?_⟩ <;> simp [go_sem]
  have bW : Below n w W := by rw [hW, hn]; exact (by repeat (first | exact Below.refl _ _ | apply Below.drew | apply below_drewN | (refine Below.alloc ?_ (by first | omega | (simp <;> omega)) _)))
  have hsW : n < W.heap.size := by rw [hW, hn]; simp
  have hcW : ∀ j : Nat, j < L.length → GAt W g (off + j * 3) (L.getD j default) := fun j hj => (hc j hj).below (hn ▸ bW) hg
  have hgW : g < W.heap.size := Nat.lt_of_lt_of_le hg bW.size
  have HC := Lib.hid hcW
  have HA := Lib.hid hall
  have HBD := Lib.hid (fun j (hj : j < L.length) => hV ▸ evL_bd hv he L.length (Nat.le_refl _) j hj)
  have HSB := Lib.hid (slL_bd (v := v) (V := V) (L := L) hp)
  have HVL := Lib.hid (show V.length = L.length by rw [hV]; exact evL_len _ _ _ _ _ _)
  have HCV := Lib.hid (show ∀ w', Below W.heap.size W w' → Calls Try.prog 62 #[.int .i64 p, .slice (some ⟨g, off, none⟩) L.length cap] w' fun e w'' => e = .returned (.bool true) ∧ Below w'.heap.size w' w'' from fun w' hb => by
    have h := sCircuitValid p _ L w' (show Gats w' (.slice (some ⟨g, off, none⟩) L.length cap) L from ⟨by omega, _, _, rfl, .inr ⟨g, off, rfl, Nat.lt_of_lt_of_le hgW hb.size, fun j hj => (hcW j hj).below hb hgW⟩⟩)
    rw [hv] at h
    exact h)
  have HEV := Lib.hid (fun w' (hb : Below W.heap.size W w') => hV ▸ sEval_some p x y z L hv he g off cap w' (Nat.lt_of_lt_of_le hgW hb.size) (fun j hj => (hcW j hj).below hb hgW))
  have HIN := Lib.hid (fun w => sIn_at true v 0 2 hu w)
  have HEL := Lib.hid (fun w' (h : PtAt w' n x y z) => sEl3 true p x y z hp he n w' h)
  have HP := Lib.hid hP
  have HB := Lib.hid bW
  have HL := Lib.hid hsW
  have HG := Lib.hid hgW
  have R := Lib.hid (Below.refl W.heap.size W)
  have HW := Lib.hid hW
  have hpn : ¬ p = 0 := by omega
  have hpb : (p == 0) = false := by simp; omega
  rw [← hn]
  clear hc hv hall hp hW he hu hV hP bW hsW hcW hgW hg
  go_enter Try.func25, Try.ntmps25
  go_wp2_with fail
  rw [← HW.out, ← hn]
  clear HW hn
  refine (HCV.out _ R.out).mono ?_
  rintro e w1 ⟨rfl, hb⟩
  replace R := Lib.hid (R.out.trans (hb.mono R.out.size))
  clear hb
  go_wp2_with fail
  refine (HIN.out _).mono ?_
  rintro e w2 ⟨rfl, rfl⟩
  go_wp2_with fail
  refine (HEL.out _ (HP.out.below R.out HL.out)).mono ?_
  rintro e w2 ⟨rfl, rfl⟩
  obtain ⟨q0, q1, q2⟩ := HP.out.below R.out HL.out
  go_wp2_with fail
  refine (HEV.out _ R.out).mono ?_
  rintro e w3 ⟨u3, rfl, ho, hb⟩
  obtain ⟨gv, ov, cv, rfl, hgB, hgl, hcell⟩ := ownI_at ho HVL.out (by omega)
  replace R := Lib.hid (R.out.trans (hb.mono R.out.size))
  have HCE := Lib.hid hcell
  obtain ⟨B, hB⟩ : ∃ B, B = w3.heap.size := ⟨_, rfl⟩
  obtain ⟨W4, hW4⟩ : ∃ W4, W4 = w3.alloc (.cells #[] 3) := ⟨_, rfl⟩
  have b4 : Below B w3 W4 := by rw [hW4, hB]; exact Below.alloc (Below.refl _ _) (Nat.le_refl _) _
  have R0 : RowI W4 B (.slice (some ⟨B, 0, none⟩) 0 0) [] := by rw [hW4, hB]; exact RowI.lit0 w3 w3.heap.size (Nat.le_refl _)
  have hnB : W.heap.size ≤ B := by rw [hB]; exact R.out.size
  have hgB4 : gv < B := by omega
  have hB4 : B < W4.heap.size := by rw [hW4, hB]; simp
  have RB := Lib.hid (show Below W.heap.size W W4 from R.out.trans (b4.mono hnB))
  have HC4 := Lib.hid (show ∀ j, j < L.length → W4.cell? ⟨gv, ov + j, none⟩ = some (.int .i64 (V.getD j 0)) from fun j hj => by rw [b4.cell (p := ⟨gv, ov + j, none⟩) hgB4]; exact HCE.out j hj)
  have HG4 := Lib.hid (show ∀ j : Nat, j < L.length → GAt W4 g (off + j * 3) (L.getD j default) from fun j hj => (HC.out j hj).below RB.out HG.out)
  have hgB5 : g < B := Nat.lt_of_lt_of_le HG.out hnB
  have HW4 := Lib.hid hW4
  have HBe := Lib.hid hB
  clear ho hb hcell HCE q0 q1 q2 hW4 hB b4 hgB hgl R HEL HIN HEV HCV HC HP
  go_upto_region 5 with fail
  rw [← HW4.out, ← HBe.out]
  clear HW4 HBe
  go_wp2_with fail
  go_loopw [11, 37] (fun s i wr => ∃ k : Nat, k ≤ L.length ∧ i = .int .i64 k ∧ RowI wr B s (slL p v V L k) ∧ Below B W4 wr) (fun _ i _ => L.length - (intOf i).toNat)
  case atStart => exact ⟨0, by omega, rfl, R0, Below.refl _ _⟩
  case round =>
    clear R0
    obtain ⟨k, hk, rfl, hR, hb⟩ := hrel
    by_cases hlt : k < L.length
    · have hltp : (k : Int) < (L.length : Int) := by omega
      have hk0 : (0 : Int) ≤ (k : Int) := by omega
      obtain ⟨a0, a1, a2⟩ := (HG4.out k hlt).below hb hgB5
      have hx0 := HA.out k hlt
      obtain ⟨x', hx⟩ : ∃ x, x = L.getD k default := ⟨_, rfl⟩
      rw [← hx] at a0 a1 a2
      rw [← gat_mk hx] at hx0
      have hcs := gOK_cases hx0
      simp only at hcs
      have HGA := Lib.hid (gat_mk hx).symm
      have HWR := Lib.hid hR
      have Hb := Lib.hid hb
      have hs := hb.size
      have hs1 : B ≤ wr.heap.size := by omega
      have hlen : (slL p v V L k).length = k := slL_len p v V L k
      obtain ⟨xk, xa, xb⟩ := x'
      simp only at a0 a1 a2 hcs HGA
      by_cases hk0' : xk = 0
      · subst hk0'
        by_cases hav : xa = v
        · have HE := Lib.hid (slL_step (p := p) (v := v) (V := V) HGA.out (d := 1) (by simp [hav]))
          have hav2 : (xa == v) = true := by simpa using hav
          clear hx hR hb hx0 hcs
          go_wp2_with (at_builtin; refine wpList_append_own _ rfl _ _ 49 rfl (B) 3 i0 (.int .i64 0) 1 8 Try.underlying49 hi hz0 hz1 hz2 rfl (by decide) _ _ _ rfl (RowI.below HWR.out (by repeat (first | exact Below.refl _ _ | apply Below.drew | apply below_drewN | (refine Below.alloc ?_ (by first | omega | (simp <;> omega)) _)))) _ 1 1 [.int .i64 (1)] rfl rfl (by intro j u hj; match j, hj with | 0, hj => (simp at hj; subst hj; simp [Addr.add, go_sem])) (one_ok _) (by unfold maxLen; omega) (by omega) (by first | omega | (simp; omega)) ?_)
          intro v' w5 hown' hgrow _
          have hR2 := RowI.snoc (L := slL p v V L k) (by rw [hlen]; exact hown')
          have bb := HWR.out.grow (Below.refl B wr) hs1 (by repeat (first | exact Below.refl _ _ | apply Below.drew | apply below_drewN | (refine Below.alloc ?_ (by first | omega | (simp <;> omega)) _))) hgrow
          have hb2 := Hb.out.trans bb
          rw [← HE.out] at hR2
          clear hown' hgrow bb
          go_wp2_with fail
          go_roundw
          case rel => exact ⟨k + 1, by omega, by go_num, hR2, hb2⟩
          case measure => simp [intOf]; omega
        · have HE := Lib.hid (slL_step (p := p) (v := v) (V := V) HGA.out (d := 0) (by simp [hav]))
          have hav2 : (xa == v) = false := by simpa using hav
          clear hx hR hb hx0 hcs
          go_wp2_with (at_builtin; refine wpList_append_own _ rfl _ _ 49 rfl (B) 3 i0 (.int .i64 0) 1 8 Try.underlying49 hi hz0 hz1 hz2 rfl (by decide) _ _ _ rfl (RowI.below HWR.out (by repeat (first | exact Below.refl _ _ | apply Below.drew | apply below_drewN | (refine Below.alloc ?_ (by first | omega | (simp <;> omega)) _)))) _ 1 1 [.int .i64 (0)] rfl rfl (by intro j u hj; match j, hj with | 0, hj => (simp at hj; subst hj; simp [Addr.add, go_sem])) (one_ok _) (by unfold maxLen; omega) (by omega) (by first | omega | (simp; omega)) ?_)
          intro v' w5 hown' hgrow _
          have hR2 := RowI.snoc (L := slL p v V L k) (by rw [hlen]; exact hown')
          have bb := HWR.out.grow (Below.refl B wr) hs1 (by repeat (first | exact Below.refl _ _ | apply Below.drew | apply below_drewN | (refine Below.alloc ?_ (by first | omega | (simp <;> omega)) _))) hgrow
          have hb2 := Hb.out.trans bb
          rw [← HE.out] at hR2
          clear hown' hgrow bb
          go_wp2_with fail
          go_roundw
          case rel => exact ⟨k + 1, by omega, by go_num, hR2, hb2⟩
          case measure => simp [intOf]; omega
      by_cases hk2 : xk = 2
      · subst hk2
        obtain ⟨ja, rfl⟩ := Int.eq_ofNat_of_zero_le (show 0 ≤ xa by omega)
        obtain ⟨jb, rfl⟩ := Int.eq_ofNat_of_zero_le (show 0 ≤ xb by omega)
        have hja : ja < k := by omega
        have hjb : jb < k := by omega
        obtain ⟨da, hda⟩ : ∃ d, d = (slL p v V L k).getD ja 0 := ⟨_, rfl⟩
        obtain ⟨db, hdb⟩ : ∃ d, d = (slL p v V L k).getD jb 0 := ⟨_, rfl⟩
        obtain ⟨b1, b2⟩ := HSB.out k ja
        obtain ⟨b3, b4⟩ := HSB.out k jb
        rw [← hda] at b1 b2
        rw [← hdb] at b3 b4
        have hbd : 0 ≤ da + db ∧ da + db ≤ 169 := ⟨by omega, by omega⟩
        obtain ⟨m, hm⟩ : ∃ m, (da + db) % p = m := ⟨_, rfl⟩
        have hm0 : 0 ≤ m ∧ m < p := by rw [← hm]; exact ⟨Int.emod_nonneg _ (by omega), Int.emod_lt_of_pos _ (by omega)⟩
        have HE := Lib.hid (slL_step (p := p) (v := v) (V := V) HGA.out (d := m) (by simp [← hm, hda, hdb]))
        have hw1 : IntKind.i64.wrap (da + db) = da + db := IntWalk.i64_in _ (by omega)
        have htm : (da + db).tmod p = m := by rw [Int.tmod_eq_emod_of_nonneg hbd.1]; exact hm
        have hwm : IntKind.i64.wrap m = m := IntWalk.i64_in _ (by omega)
        rcases hR.shape' hlen with ⟨_, h0⟩ | ⟨g2, cap2, rfl, hg0, hg2, hn2, hm2, hcell⟩
        · omega
        have d0 := hcell ja (by omega)
        have d1 := hcell jb (by omega)
        rw [← hda] at d0
        rw [← hdb] at d1
        clear hx hR hb hx0 hcs hcell hda hdb hm
        go_wp2_with fail
        go_quiet (fail)
        go_wp2_with (at_builtin; refine wpList_append_own _ rfl _ _ 49 rfl (B) 3 i0 (.int .i64 0) 1 8 Try.underlying49 hi hz0 hz1 hz2 rfl (by decide) _ _ _ rfl (RowI.below HWR.out (by repeat (first | exact Below.refl _ _ | apply Below.drew | apply below_drewN | (refine Below.alloc ?_ (by first | omega | (simp <;> omega)) _)))) _ 1 1 [.int .i64 (m)] rfl rfl (by intro j u hj; match j, hj with | 0, hj => (simp at hj; subst hj; simp [Addr.add, go_sem])) (one_ok _) (by unfold maxLen; omega) (by omega) (by first | omega | (simp; omega)) ?_)
        intro v' w5 hown' hgrow _
        have hR2 := RowI.snoc (L := slL p v V L k) (by rw [hlen]; exact hown')
        have bb := HWR.out.grow (Below.refl B wr) hs1 (by repeat (first | exact Below.refl _ _ | apply Below.drew | apply below_drewN | (refine Below.alloc ?_ (by first | omega | (simp <;> omega)) _))) hgrow
        have hb2 := Hb.out.trans bb
        rw [← HE.out] at hR2
        clear hown' hgrow bb
        go_wp2_with fail
        go_roundw
        case rel => exact ⟨k + 1, by omega, by go_num, hR2, hb2⟩
        case measure => simp [intOf]; omega
      by_cases hk3 : xk = 3
      · subst hk3
        obtain ⟨ja, rfl⟩ := Int.eq_ofNat_of_zero_le (show 0 ≤ xa by omega)
        obtain ⟨jb, rfl⟩ := Int.eq_ofNat_of_zero_le (show 0 ≤ xb by omega)
        have hja : ja < k := by omega
        have hjb : jb < k := by omega
        obtain ⟨da, hda⟩ : ∃ d, d = (slL p v V L k).getD ja 0 := ⟨_, rfl⟩
        obtain ⟨db, hdb⟩ : ∃ d, d = (slL p v V L k).getD jb 0 := ⟨_, rfl⟩
        obtain ⟨va, hva⟩ : ∃ d, d = V.getD ja 0 := ⟨_, rfl⟩
        obtain ⟨vb, hvb⟩ : ∃ d, d = V.getD jb 0 := ⟨_, rfl⟩
        obtain ⟨b1, b2⟩ := HSB.out k ja
        obtain ⟨b3, b4⟩ := HSB.out k jb
        obtain ⟨b5, b6⟩ := HBD.out ja (by omega)
        obtain ⟨b7, b8⟩ := HBD.out jb (by omega)
        rw [← hda] at b1 b2
        rw [← hdb] at b3 b4
        rw [← hva] at b5 b6
        rw [← hvb] at b7 b8
        have hb1 : 0 ≤ da * vb ∧ da * vb ≤ 169 := ⟨Int.mul_nonneg b1 b7, by
          have h1 : da * vb ≤ 13 * 13 := Int.mul_le_mul (by omega) (by omega) b7 (by omega)
          omega⟩
        have hb3 : 0 ≤ va * db ∧ va * db ≤ 169 := ⟨Int.mul_nonneg b5 b3, by
          have h1 : va * db ≤ 13 * 13 := Int.mul_le_mul (by omega) (by omega) b3 (by omega)
          omega⟩
        obtain ⟨m, hm⟩ : ∃ m, (da * vb + va * db) % p = m := ⟨_, rfl⟩
        have hm0 : 0 ≤ m ∧ m < p := by rw [← hm]; exact ⟨Int.emod_nonneg _ (by omega), Int.emod_lt_of_pos _ (by omega)⟩
        have HE := Lib.hid (slL_step (p := p) (v := v) (V := V) HGA.out (d := m) (by simp [← hm, hda, hdb, hva, hvb]))
        obtain ⟨r1, hr1⟩ : ∃ r, da * vb = r := ⟨_, rfl⟩
        obtain ⟨r2, hr2⟩ : ∃ r, va * db = r := ⟨_, rfl⟩
        rw [hr1] at hb1
        rw [hr2] at hb3
        have hw1 : IntKind.i64.wrap (da * vb) = r1 := by rw [hr1]; exact IntWalk.i64_in _ (by omega)
        have hw2 : IntKind.i64.wrap (va * db) = r2 := by rw [hr2]; exact IntWalk.i64_in _ (by omega)
        have hw3 : IntKind.i64.wrap (r1 + r2) = r1 + r2 := IntWalk.i64_in _ (by omega)
        have htm : (r1 + r2).tmod p = m := by rw [Int.tmod_eq_emod_of_nonneg (by omega), ← hr1, ← hr2]; exact hm
        have hwm : IntKind.i64.wrap m = m := IntWalk.i64_in _ (by omega)
        rcases hR.shape' hlen with ⟨_, h0⟩ | ⟨g2, cap2, rfl, hg0, hg2, hn2, hm2, hcell⟩
        · omega
        have d0 := hcell ja (by omega)
        have d1 := hcell jb (by omega)
        rw [← hda] at d0
        rw [← hdb] at d1
        have e0 : wr.cell? ⟨gv, ov + ja, none⟩ = some (.int .i64 va) := by rw [hb.cell (p := ⟨gv, ov + ja, none⟩) hgB4, HC4.out ja (by omega), ← hva]
        have e1 : wr.cell? ⟨gv, ov + jb, none⟩ = some (.int .i64 vb) := by rw [hb.cell (p := ⟨gv, ov + jb, none⟩) hgB4, HC4.out jb (by omega), ← hvb]
        have jal : (ja : Int) < (L.length : Int) := by omega
        have jbl : (jb : Int) < (L.length : Int) := by omega
        have ja0 : (0 : Int) ≤ (ja : Int) := by omega
        have jb0 : (0 : Int) ≤ (jb : Int) := by omega
        obtain ⟨t, ht⟩ : ∃ t, t = wr.heap.size := ⟨_, rfl⟩
        obtain ⟨W6, hW6⟩ : ∃ W6, W6 = wr.alloc (Obj.cells #[.int .i64 3, .int .i64 ja, .int .i64 jb] 99) := ⟨_, rfl⟩
        have b6 : Below wr.heap.size wr W6 := by rw [hW6]; exact (by repeat (first | exact Below.refl _ _ | apply Below.drew | apply below_drewN | (refine Below.alloc ?_ (by first | omega | (simp <;> omega)) _)))
        have t1 : W6.cell? ⟨t, 1, none⟩ = some (.int .i64 ja) := by rw [hW6, ht]; simp [go_sem]
        have t2 : W6.cell? ⟨t, 2, none⟩ = some (.int .i64 jb) := by rw [hW6, ht]; simp [go_sem]
        have tl : t < W6.heap.size := by rw [hW6, ht]; simp
        have hgw : gv < wr.heap.size := by omega
        have HF := Lib.hid (fun w' (hw : Below W6.heap.size W6 w') => show w'.cell? ⟨t, 1, none⟩ = some (.int .i64 ja) ∧ w'.cell? ⟨t, 2, none⟩ = some (.int .i64 jb) ∧ w'.cell? ⟨g2, ja, none⟩ = some (.int .i64 da) ∧ w'.cell? ⟨g2, jb, none⟩ = some (.int .i64 db) ∧ w'.cell? ⟨gv, ov + ja, none⟩ = some (.int .i64 va) ∧ w'.cell? ⟨gv, ov + jb, none⟩ = some (.int .i64 vb) from by
          have hq : W6.heap.size ≥ wr.heap.size := b6.size
          refine ⟨?_, ?_, ?_, ?_, ?_, ?_⟩
          · rw [hw.cell (p := ⟨t, 1, none⟩) tl]; exact t1
          · rw [hw.cell (p := ⟨t, 2, none⟩) tl]; exact t2
          · rw [hw.cell (p := ⟨g2, ja, none⟩) (Nat.lt_of_lt_of_le hg2 hq), b6.cell (p := ⟨g2, ja, none⟩) hg2]; exact d0
          · rw [hw.cell (p := ⟨g2, jb, none⟩) (Nat.lt_of_lt_of_le hg2 hq), b6.cell (p := ⟨g2, jb, none⟩) hg2]; exact d1
          · rw [hw.cell (p := ⟨gv, ov + ja, none⟩) (Nat.lt_of_lt_of_le hgw hq), b6.cell (p := ⟨gv, ov + ja, none⟩) hgw]; exact e0
          · rw [hw.cell (p := ⟨gv, ov + jb, none⟩) (Nat.lt_of_lt_of_le hgw hq), b6.cell (p := ⟨gv, ov + jb, none⟩) hgw]; exact e1)
        have HW6 := Lib.hid hW6
        have HT := Lib.hid ht
        have HB6 := Lib.hid b6
        clear hx hR hb hx0 hcs hcell hda hdb hm hva hvb hr1 hr2 hW6 ht b6 t1 t2 tl d0 d1 e0 e1
        go_upto_region 14 with fail
        rw [← HW6.out, ← HT.out]
        refine wp_region_below (by kernel_rfl) (by kernel_rfl) ?_
        (with_reducible refine wpQuiet_yes ?_ ?_; (focus (kernel_rfl)); intro K hK; go_simp; refine ⟨_, fun _ _ => rfl, ?_⟩; with_reducible refine hK _ ?_; clear hK K)
        (with_reducible refine wpQuiet_yes ?_ ?_; (focus (kernel_rfl)); intro K hK; go_simp; refine ⟨_, fun _ _ => rfl, ?_⟩; with_reducible refine hK _ ?_; clear hK K)
        (with_reducible refine wpQuiet_yes ?_ ?_; (focus (kernel_rfl)); intro K hK; go_simp; refine ⟨(.int .i64 ja), ?_, ?_⟩; rotate_left; with_reducible refine hK _ ?_; clear hK K; rotate_left)
        · intro w' hw
          simp only [(HF.out w' hw).1, go_sem, Result.andThen, and_self]
        (with_reducible refine wpQuiet_yes ?_ ?_; (focus (kernel_rfl)); intro K hK; go_simp; refine ⟨_, fun _ _ => rfl, ?_⟩; with_reducible refine hK _ ?_; clear hK K)
        (with_reducible refine wpQuiet_yes ?_ ?_; (focus (kernel_rfl)); intro K hK; go_simp; refine ⟨(.int .i64 da), ?_, ?_⟩; rotate_left; with_reducible refine hK _ ?_; clear hK K; rotate_left)
        · intro w' hw
          simp only [(HF.out w' hw).2.2.1, go_sem, Result.andThen, and_self]
        (with_reducible refine wpQuiet_yes ?_ ?_; (focus (kernel_rfl)); intro K hK; go_simp; refine ⟨_, fun _ _ => rfl, ?_⟩; with_reducible refine hK _ ?_; clear hK K)
        (with_reducible refine wpQuiet_yes ?_ ?_; (focus (kernel_rfl)); intro K hK; go_simp; refine ⟨_, fun _ _ => rfl, ?_⟩; with_reducible refine hK _ ?_; clear hK K)
        (with_reducible refine wpQuiet_yes ?_ ?_; (focus (kernel_rfl)); intro K hK; go_simp; refine ⟨(.int .i64 jb), ?_, ?_⟩; rotate_left; with_reducible refine hK _ ?_; clear hK K; rotate_left)
        · intro w' hw
          simp only [(HF.out w' hw).2.1, go_sem, Result.andThen, and_self]
        (with_reducible refine wpQuiet_yes ?_ ?_; (focus (kernel_rfl)); intro K hK; go_simp; refine ⟨_, fun _ _ => rfl, ?_⟩; with_reducible refine hK _ ?_; clear hK K)
        (with_reducible refine wpQuiet_yes ?_ ?_; (focus (kernel_rfl)); intro K hK; go_simp; refine ⟨(.int .i64 vb), ?_, ?_⟩; rotate_left; with_reducible refine hK _ ?_; clear hK K; rotate_left)
        · intro w' hw
          simp only [(HF.out w' hw).2.2.2.2.2, go_sem, Result.andThen, and_self]
        (with_reducible refine wpQuiet_yes ?_ ?_; (focus (kernel_rfl)); intro K hK; go_simp; refine ⟨(.int .i64 r1), ?_, ?_⟩; rotate_left; with_reducible refine hK _ ?_; clear hK K; rotate_left)
        · intro w' hw
          simp [go_sem, *]
        (with_reducible refine wpQuiet_yes ?_ ?_; (focus (kernel_rfl)); intro K hK; go_simp; refine ⟨_, fun _ _ => rfl, ?_⟩; with_reducible refine hK _ ?_; clear hK K)
        (with_reducible refine wpQuiet_yes ?_ ?_; (focus (kernel_rfl)); intro K hK; go_simp; refine ⟨_, fun _ _ => rfl, ?_⟩; with_reducible refine hK _ ?_; clear hK K)
        (with_reducible refine wpQuiet_yes ?_ ?_; (focus (kernel_rfl)); intro K hK; go_simp; refine ⟨(.int .i64 ja), ?_, ?_⟩; rotate_left; with_reducible refine hK _ ?_; clear hK K; rotate_left)
        · intro w' hw
          simp only [(HF.out w' hw).1, go_sem, Result.andThen, and_self]
        (with_reducible refine wpQuiet_yes ?_ ?_; (focus (kernel_rfl)); intro K hK; go_simp; refine ⟨_, fun _ _ => rfl, ?_⟩; with_reducible refine hK _ ?_; clear hK K)
        (with_reducible refine wpQuiet_yes ?_ ?_; (focus (kernel_rfl)); intro K hK; go_simp; refine ⟨(.int .i64 va), ?_, ?_⟩; rotate_left; with_reducible refine hK _ ?_; clear hK K; rotate_left)
        · intro w' hw
          simp only [(HF.out w' hw).2.2.2.2.1, go_sem, Result.andThen, and_self]
        (with_reducible refine wpQuiet_yes ?_ ?_; (focus (kernel_rfl)); intro K hK; go_simp; refine ⟨_, fun _ _ => rfl, ?_⟩; with_reducible refine hK _ ?_; clear hK K)
        (with_reducible refine wpQuiet_yes ?_ ?_; (focus (kernel_rfl)); intro K hK; go_simp; refine ⟨_, fun _ _ => rfl, ?_⟩; with_reducible refine hK _ ?_; clear hK K)
        (with_reducible refine wpQuiet_yes ?_ ?_; (focus (kernel_rfl)); intro K hK; go_simp; refine ⟨(.int .i64 jb), ?_, ?_⟩; rotate_left; with_reducible refine hK _ ?_; clear hK K; rotate_left)
        · intro w' hw
          simp only [(HF.out w' hw).2.1, go_sem, Result.andThen, and_self]
        (with_reducible refine wpQuiet_yes ?_ ?_; (focus (kernel_rfl)); intro K hK; go_simp; refine ⟨_, fun _ _ => rfl, ?_⟩; with_reducible refine hK _ ?_; clear hK K)
        (with_reducible refine wpQuiet_yes ?_ ?_; (focus (kernel_rfl)); intro K hK; go_simp; refine ⟨(.int .i64 db), ?_, ?_⟩; rotate_left; with_reducible refine hK _ ?_; clear hK K; rotate_left)
        · intro w' hw
          simp only [(HF.out w' hw).2.2.2.1, go_sem, Result.andThen, and_self]
        (with_reducible refine wpQuiet_yes ?_ ?_; (focus (kernel_rfl)); intro K hK; go_simp; refine ⟨(.int .i64 r2), ?_, ?_⟩; rotate_left; with_reducible refine hK _ ?_; clear hK K; rotate_left)
        · intro w' hw
          simp [go_sem, *]
        (with_reducible refine wpQuiet_yes ?_ ?_; (focus (kernel_rfl)); intro K hK; go_simp; refine ⟨(.int .i64 (r1 + r2)), ?_, ?_⟩; rotate_left; with_reducible refine hK _ ?_; clear hK K; rotate_left)
        · intro w' hw
          simp [go_sem, *]
        (with_reducible refine wpQuiet_yes ?_ ?_; (focus (kernel_rfl)); intro K hK; go_simp; refine ⟨_, fun _ _ => rfl, ?_⟩; with_reducible refine hK _ ?_; clear hK K)
        (with_reducible refine wpQuiet_yes ?_ ?_; (focus (kernel_rfl)); intro K hK; go_simp; refine ⟨(.int .i64 m), ?_, ?_⟩; rotate_left; with_reducible refine hK _ ?_; clear hK K; rotate_left)
        · intro w' hw
          simp [go_sem, *]
        (with_reducible refine wpQuiet_yes ?_ ?_; (focus (kernel_rfl)); intro K hK; go_simp; refine ⟨_, fun _ _ => rfl, ?_⟩; with_reducible refine hK _ ?_; clear hK K)
        refine wpQuiet_nil fun w7 hb7 => ?_
        have HB7 := Lib.hid (show Below wr.heap.size wr w7 from HB6.out.trans (hb7.mono HB6.out.size))
        clear hb7
        (try simp only [Exit.then])
        have HWR7 := Lib.hid (HWR.out.below HB7.out)
        have hs7 : B ≤ w7.heap.size := by have := HB7.out.size; omega
        go_wp2_with (at_builtin; refine wpList_append_own _ rfl _ _ 49 rfl (B) 3 i0 (.int .i64 0) 1 8 Try.underlying49 hi hz0 hz1 hz2 rfl (by decide) _ _ _ rfl (RowI.below HWR7.out (by repeat (first | exact Below.refl _ _ | apply Below.drew | apply below_drewN | (refine Below.alloc ?_ (by first | omega | (simp <;> omega)) _)))) _ 1 1 [.int .i64 (m)] rfl rfl (by intro j u hj; match j, hj with | 0, hj => (simp at hj; subst hj; simp [Addr.add, go_sem])) (one_ok _) (by unfold maxLen; omega) (by omega) (by first | omega | (simp; omega)) ?_)
        intro v' w5 hown' hgrow _
        have hR2 := RowI.snoc (L := slL p v V L k) (by rw [hlen]; exact hown')
        have bb := HWR7.out.grow (Below.refl B w7) hs7 (by repeat (first | exact Below.refl _ _ | apply Below.drew | apply below_drewN | (refine Below.alloc ?_ (by first | omega | (simp <;> omega)) _))) hgrow
        have hb2 := (Hb.out.trans (HB7.out.mono hs1)).trans bb
        rw [← HE.out] at hR2
        clear hown' hgrow bb
        go_wp2_with fail
        go_roundw
        case rel => exact ⟨k + 1, by omega, by go_num, hR2, hb2⟩
        case measure => simp [intOf]; omega
      have hk1' : xk = 1 := by omega
      subst hk1'
      have HE := Lib.hid (slL_step (p := p) (v := v) (V := V) HGA.out (d := 0) (by simp))
      clear hx hR hb hx0 hcs
      go_wp2_with (at_builtin; refine wpList_append_own _ rfl _ _ 49 rfl (B) 3 i0 (.int .i64 0) 1 8 Try.underlying49 hi hz0 hz1 hz2 rfl (by decide) _ _ _ rfl (RowI.below HWR.out (by repeat (first | exact Below.refl _ _ | apply Below.drew | apply below_drewN | (refine Below.alloc ?_ (by first | omega | (simp <;> omega)) _)))) _ 1 1 [.int .i64 (0)] rfl rfl (by intro j u hj; match j, hj with | 0, hj => (simp at hj; subst hj; simp [Addr.add, go_sem])) (one_ok _) (by unfold maxLen; omega) (by omega) (by first | omega | (simp; omega)) ?_)
      intro v' w5 hown' hgrow _
      have hR2 := RowI.snoc (L := slL p v V L k) (by rw [hlen]; exact hown')
      have bb := HWR.out.grow (Below.refl B wr) hs1 (by repeat (first | exact Below.refl _ _ | apply Below.drew | apply below_drewN | (refine Below.alloc ?_ (by first | omega | (simp <;> omega)) _))) hgrow
      have hb2 := Hb.out.trans bb
      rw [← HE.out] at hR2
      clear hown' hgrow bb
      go_wp2_with fail
      go_roundw
      case rel => exact ⟨k + 1, by omega, by go_num, hR2, hb2⟩
      case measure => simp [intOf]; omega
    · have hkl : k = L.length := by omega
      subst hkl
      have hlen := slL_len p v V L L.length
      obtain ⟨m, hm⟩ : ∃ m, L.length = m + 1 := ⟨L.length - 1, by omega⟩
      rcases hR.shape' hlen with ⟨_, h0⟩ | ⟨g2, cap2, rfl, hg0, hg2, hn2, hm2, hcell⟩
      · omega
      have d0 := hcell m (by omega)
      have e0 : wr.cell? ⟨gv, ov + m, none⟩ = some (.int .i64 (V.getD m 0)) := by rw [hb.cell (p := ⟨gv, ov + m, none⟩) hgB4, HC4.out m (by omega)]
      have hr := HRES.out
      rw [show L.length - 1 = m by omega] at hr
      obtain ⟨va, hva⟩ : ∃ d, d = V.getD m 0 := ⟨_, rfl⟩
      obtain ⟨sa, hsa⟩ : ∃ d, d = (slL p v V L L.length).getD m 0 := ⟨_, rfl⟩
      rw [← hva] at e0 hr
      rw [← hsa] at d0 hr
      have HRR := Lib.hid hr
      have hww : IntKind.i64.wrap ((L.length : Int) - 1) = (m : Int) := by rw [IntWalk.i64_in _ (by omega)]; omega
      have hml : (m : Int) < (L.length : Int) := by omega
      have hm0 : (0 : Int) ≤ (m : Int) := by omega
      have HE := Lib.hid (show Below n w wr from HB.out.trans ((RB.out.trans (hb.mono hnB)).mono (Nat.le_of_lt HL.out)))
      clear hcell hva hsa hr hm hR hb HRES
      go_wp2_with fail
      go_quiet (fail)
      go_wp2_with fail
      refine bodyPost_ret (v := .tuple #[.int .i64 va, .int .i64 sa]) (by simp [results, Try.results25, go_sem]) rfl ⟨by rw [HRR.out.1, HRR.out.2], ?_⟩
      repeat (first | exact HE.out | apply Below.drew | apply below_drewN)
end Go.Proofs.Ytfpjflghgmcgbaa
namespace Go.Proofs.Ytfpjflghgmcgbaa
open Go.RowKit
set_option maxRecDepth 100000 in
set_option maxHeartbeats 4000000 in
theorem sForwardAt (p v x y z : Int) (f : Value) (L : List Gt) (w : World) (h : Gats w f L) :
    Calls Try.prog 25 #[.int .i64 p, f, .int .i64 v, .agg #[.int .i64 x, .int .i64 y, .int .i64 z]] w fun e w' => e = .returned (.tuple #[.int .i64 (faV p L v x y z), .int .i64 (faS p L v x y z)]) ∧ Below w.heap.size w w' := by
  obtain ⟨W, hW⟩ : ∃ W, W = w.alloc (Obj.cells #[.int .i64 x, .int .i64 y, .int .i64 z] 27) := ⟨_, rfl⟩
  have hPt : PtAt W w.heap.size x y z := by rw [hW]; refine ⟨?_, ?_, ?_⟩ <;> simp [go_sem]
  have B0 : Below w.heap.size w W := by rw [hW]; exact (by repeat (first | exact Below.refl _ _ | apply Below.drew | apply below_drewN | (refine Below.alloc ?_ (by first | omega | (simp <;> omega)) _)))
  have hsW : w.heap.size < W.heap.size := by rw [hW]; simp
  have HG := Lib.hid (h.below B0)
  have HW := Lib.hid hW
  have HB := Lib.hid B0
  clear hW
  cases hv : circB p L
  · have HE := Lib.hid (faB_no (p := p) (L := L) (v := v) (x := x) (y := y) (z := z) (by unfold faB; rw [hv]; rfl))
    have HC := Lib.hid (hv ▸ sCircuitValid p f L W HG.out)
    obtain ⟨nL, a, cap, rfl, _⟩ := h
    clear hv B0 hPt hsW
    go_enter Try.func25, Try.ntmps25
    go_wp2_with fail
    rw [← HW.out]
    refine HC.out.mono ?_
    rintro e w1 ⟨rfl, hb⟩
    have HB1 := Lib.hid (HB.out.trans (hb.mono HB.out.size))
    clear hb
    go_wp2_with fail
    refine bodyPost_ret (v := .tuple #[.int .i64 (-1), .int .i64 (-1)]) (by simp [results, Try.results25, go_sem]) rfl ⟨by rw [HE.out.1, HE.out.2], HB1.out⟩
  · have hp := (circB_iff.1 hv).1
    cases hu : inB v 0 2
    · have HE := Lib.hid (faB_no (p := p) (L := L) (v := v) (x := x) (y := y) (z := z) (by unfold faB; rw [hu]; simp))
      have HC := Lib.hid (hv ▸ sCircuitValid p f L W HG.out)
      have HU := Lib.hid (fun w => sIn_at false v 0 2 hu w)
      obtain ⟨nL, a, cap, rfl, _⟩ := h
      clear hv B0 hPt hsW hu hp
      go_enter Try.func25, Try.ntmps25
      go_wp2_with fail
      rw [← HW.out]
      refine HC.out.mono ?_
      rintro e w1 ⟨rfl, hb⟩
      have HB1 := Lib.hid (HB.out.trans (hb.mono HB.out.size))
      clear hb
      go_wp2_with fail
      refine (HU.out _).mono ?_
      rintro e w2 ⟨rfl, rfl⟩
      go_wp2_with fail
      refine bodyPost_ret (v := .tuple #[.int .i64 (-1), .int .i64 (-1)]) (by simp [results, Try.results25, go_sem]) rfl ⟨by rw [HE.out.1, HE.out.2], HB1.out⟩
    · cases he : isE3 p x y z
      · have HE := Lib.hid (faB_no (p := p) (L := L) (v := v) (x := x) (y := y) (z := z) (by unfold faB; rw [he]; simp))
        have HC := Lib.hid (hv ▸ sCircuitValid p f L W HG.out)
        have HU := Lib.hid (fun w => sIn_at true v 0 2 hu w)
        have HL := Lib.hid (fun w' (hb : Below W.heap.size W w') => sEl3 false p x y z hp he w.heap.size w' (hPt.below hb hsW))
        obtain ⟨nL, a, cap, rfl, _⟩ := h
        clear hv B0 hPt hu hp he
        go_enter Try.func25, Try.ntmps25
        go_wp2_with fail
        rw [← HW.out]
        refine HC.out.mono ?_
        rintro e w1 ⟨rfl, hb⟩
        have HB1 := Lib.hid (HB.out.trans (hb.mono HB.out.size))
        have HX := Lib.hid hb
        clear hb
        go_wp2_with fail
        refine (HU.out _).mono ?_
        rintro e w2 ⟨rfl, rfl⟩
        go_wp2_with fail
        refine (HL.out _ HX.out).mono ?_
        rintro e w2 ⟨rfl, rfl⟩
        go_wp2_with fail
        refine bodyPost_ret (v := .tuple #[.int .i64 (-1), .int .i64 (-1)]) (by simp [results, Try.results25, go_sem]) rfl ⟨by rw [HE.out.1, HE.out.2], HB1.out⟩
      · obtain ⟨g, off, cap, rfl, hg, hc⟩ := gats_slice h hv
        exact sFwAt_some p v x y z L hv he hu g off cap w hg hc
set_option maxHeartbeats 4000000 in
theorem iSl0 (p v xa xb : Int) (a b : Option Addr) (n c m d : Nat) (w : World) :
    Calls Try.prog 73 #[.agg #[.int .i64 0, .int .i64 xa, .int .i64 xb], .int .i64 p, .int .i64 v, .slice a n c, .slice b m d] w fun e w' => e = .returned (.int .i64 (if xa == v then 1 else 0)) ∧ Below w.heap.size w w' := by
  cases h : (xa == v)
  · have HH := Lib.hid h
    go_enter Try.func73, Try.ntmps73
    go_wp2
    go_ret
    exact ⟨rfl, (by repeat (first | exact Below.refl _ _ | apply Below.drew | apply below_drewN | (refine Below.alloc ?_ (by first | omega | (simp <;> omega)) _)))⟩
  · have HH := Lib.hid h
    go_enter Try.func73, Try.ntmps73
    go_wp2
    go_ret
    exact ⟨rfl, (by repeat (first | exact Below.refl _ _ | apply Below.drew | apply below_drewN | (refine Below.alloc ?_ (by first | omega | (simp <;> omega)) _)))⟩
set_option maxHeartbeats 4000000 in
theorem iSl1 (p v xa xb : Int) (a b : Option Addr) (n c m d : Nat) (w : World) :
    Calls Try.prog 73 #[.agg #[.int .i64 1, .int .i64 xa, .int .i64 xb], .int .i64 p, .int .i64 v, .slice a n c, .slice b m d] w fun e w' => e = .returned (.int .i64 0) ∧ Below w.heap.size w w' := by
  go_enter Try.func73, Try.ntmps73
  go_wp2
  go_ret
  exact ⟨rfl, (by repeat (first | exact Below.refl _ _ | apply Below.drew | apply below_drewN | (refine Below.alloc ?_ (by first | omega | (simp <;> omega)) _)))⟩
set_option maxRecDepth 100000 in
set_option maxHeartbeats 4000000 in
theorem iSl2 (p v : Int) (hp : isP p = true) (ja jb n : Nat) (hja : ja < n) (hjb : jb < n) (hn : n ≤ 60) (g cap c : Nat) (a : Option Addr) (m : Nat) (da db : Int) (b1 : 0 ≤ da ∧ da < p) (b2 : 0 ≤ db ∧ db < p) (w : World) (hg : g < w.heap.size)
    (h0 : w.cell? ⟨g, ja, none⟩ = some (.int .i64 da)) (h1 : w.cell? ⟨g, jb, none⟩ = some (.int .i64 db)) :
    Calls Try.prog 73 #[.agg #[.int .i64 2, .int .i64 ja, .int .i64 jb], .int .i64 p, .int .i64 v, .slice a m c, .slice (some ⟨g, 0, none⟩) n cap] w fun e w' => e = .returned (.int .i64 ((da + db) % p)) ∧ Below w.heap.size w w' := by
  have HE := Lib.hid (addV_at hp b1.1 b1.2 b2.1 b2.2)
  obtain ⟨r, hr⟩ : ∃ r, addV p da db = r := ⟨_, rfl⟩
  rw [hr] at HE
  rw [← HE.out]
  obtain ⟨W, hW⟩ : ∃ W, W = w.alloc (Obj.cells #[.int .i64 2, .int .i64 ja, .int .i64 jb] 99) := ⟨_, rfl⟩
  have bW : Below w.heap.size w W := by rw [hW]; exact (by repeat (first | exact Below.refl _ _ | apply Below.drew | apply below_drewN | (refine Below.alloc ?_ (by first | omega | (simp <;> omega)) _)))
  have c1 : W.cell? ⟨w.heap.size, 1, none⟩ = some (.int .i64 ja) := by rw [hW]; simp [go_sem]
  have c2 : W.cell? ⟨w.heap.size, 2, none⟩ = some (.int .i64 jb) := by rw [hW]; simp [go_sem]
  have ht : w.heap.size < W.heap.size := by rw [hW]; simp
  have d0 := bW.cell (p := ⟨g, ja, none⟩) hg
  have d1 := bW.cell (p := ⟨g, jb, none⟩) hg
  rw [h0] at d0
  rw [h1] at d1
  have hg2 : g < W.heap.size := by omega
  have ja0 : (0 : Int) ≤ ja := by omega
  have jb0 : (0 : Int) ≤ jb := by omega
  have jan : (ja : Int) < (n : Int) := by omega
  have jbn : (jb : Int) < (n : Int) := by omega
  have hn0 : (n : Int) ≤ 60 := by omega
  have HR := Lib.hid hr
  have HW := Lib.hid hW
  have HB := Lib.hid bW
  clear hr hW bW hp h0 h1 b1 b2
  go_enter Try.func73, Try.ntmps73
  go_wp2_with fail
  rw [← HW.out]
  clear HW
  go_region_held3 (fun w' => w'.cell? ⟨w.heap.size, 1, none⟩ = some (.int .i64 ja) ∧ w'.cell? ⟨w.heap.size, 2, none⟩ = some (.int .i64 jb) ∧ w'.cell? ⟨g, ja, none⟩ = some (.int .i64 da) ∧ w'.cell? ⟨g, jb, none⟩ = some (.int .i64 db)) (first | exact keepVal hb1 (by simpa using hg2) (by simpa using ht) (by assumption) | go_keep)
    (first | (go_at_call 38; refine (iAdd p da db _).mono ?_; rintro e w1 ⟨he, hb1⟩; rw [HR.out] at he; subst he))
  all_goals
    have B1 : Below w.heap.size w w1 := HB.out.trans (((Below.drew (Below.refl _ _) : Below W.heap.size W W.drew).trans (by simpa using hb1)).mono (by omega))
    go_wp2_with fail
    go_ret
    exact ⟨rfl, B1⟩
theorem keepSl {W w1 : World} {t s g ja jb ia ib : Nat} {a b da db va vb : Value} (hb : Below W.heap.size W w1) (ht : t < W.heap.size) (hs : s < W.heap.size) (hg : g < W.heap.size)
    (h : W.cell? ⟨t, 1, none⟩ = some a ∧ W.cell? ⟨t, 2, none⟩ = some b ∧ W.cell? ⟨s, ja, none⟩ = some da ∧ W.cell? ⟨s, jb, none⟩ = some db ∧ W.cell? ⟨g, ia, none⟩ = some va ∧ W.cell? ⟨g, ib, none⟩ = some vb) :
    w1.cell? ⟨t, 1, none⟩ = some a ∧ w1.cell? ⟨t, 2, none⟩ = some b ∧ w1.cell? ⟨s, ja, none⟩ = some da ∧ w1.cell? ⟨s, jb, none⟩ = some db ∧ w1.cell? ⟨g, ia, none⟩ = some va ∧ w1.cell? ⟨g, ib, none⟩ = some vb := by
  obtain ⟨h1, h2, h3, h4, h5, h6⟩ := h
  refine ⟨?_, ?_, ?_, ?_, ?_, ?_⟩
  · rw [hb.cell (p := ⟨t, 1, none⟩) ht]; exact h1
  · rw [hb.cell (p := ⟨t, 2, none⟩) ht]; exact h2
  · rw [hb.cell (p := ⟨s, ja, none⟩) hs]; exact h3
  · rw [hb.cell (p := ⟨s, jb, none⟩) hs]; exact h4
  · rw [hb.cell (p := ⟨g, ia, none⟩) hg]; exact h5
  · rw [hb.cell (p := ⟨g, ib, none⟩) hg]; exact h6
set_option maxRecDepth 100000 in
set_option maxHeartbeats 8000000 in
theorem iSl3 (p v : Int) (hp : isP p = true) (ja jb n : Nat) (hja : ja < n) (hjb : jb < n) (s cap c m gv ov : Nat) (hm : m ≤ n) (hjam : ja < m) (hjbm : jb < m) (hn : n ≤ 60) (da db va vb : Int) (b1 : 0 ≤ da ∧ da < p) (b2 : 0 ≤ db ∧ db < p) (b3 : 0 ≤ va ∧ va < p) (b4 : 0 ≤ vb ∧ vb < p) (w : World) (hs : s < w.heap.size) (hg : gv < w.heap.size)
    (h0 : w.cell? ⟨s, ja, none⟩ = some (.int .i64 da)) (h1 : w.cell? ⟨s, jb, none⟩ = some (.int .i64 db)) (h2 : w.cell? ⟨gv, ov + ja, none⟩ = some (.int .i64 va)) (h3 : w.cell? ⟨gv, ov + jb, none⟩ = some (.int .i64 vb)) :
    Calls Try.prog 73 #[.agg #[.int .i64 3, .int .i64 ja, .int .i64 jb], .int .i64 p, .int .i64 v, .slice (some ⟨gv, ov, none⟩) m c, .slice (some ⟨s, 0, none⟩) n cap] w fun e w' => e = .returned (.int .i64 ((da * vb + va * db) % p)) ∧ Below w.heap.size w w' := by
  have hpb := isP_bd hp
  obtain ⟨r1, hr1⟩ : ∃ r, r = (da * vb) % p := ⟨_, rfl⟩
  obtain ⟨r2, hr2⟩ : ∃ r, r = (db * va) % p := ⟨_, rfl⟩
  have q1 : 0 ≤ r1 ∧ r1 < p := by rw [hr1]; exact ⟨Int.emod_nonneg _ (by omega), Int.emod_lt_of_pos _ (by omega)⟩
  have q2 : 0 ≤ r2 ∧ r2 < p := by rw [hr2]; exact ⟨Int.emod_nonneg _ (by omega), Int.emod_lt_of_pos _ (by omega)⟩
  have HM1 := Lib.hid (show mulV p da vb = r1 by rw [hr1]; exact mulV_at hp b1.1 b1.2 b4.1 b4.2)
  have HM2 := Lib.hid (show mulV p db va = r2 by rw [hr2]; exact mulV_at hp b2.1 b2.2 b3.1 b3.2)
  obtain ⟨r, hr⟩ : ∃ r, r = (da * vb + va * db) % p := ⟨_, rfl⟩
  have HR := Lib.hid (show addV p r1 r2 = r by
    rw [addV_at hp q1.1 q1.2 q2.1 q2.2, hr, hr1, hr2, Int.mul_comm va db, ← Int.add_emod])
  rw [← hr]
  obtain ⟨W, hW⟩ : ∃ W, W = w.alloc (Obj.cells #[.int .i64 3, .int .i64 ja, .int .i64 jb] 99) := ⟨_, rfl⟩
  have bW : Below w.heap.size w W := by rw [hW]; exact (by repeat (first | exact Below.refl _ _ | apply Below.drew | apply below_drewN | (refine Below.alloc ?_ (by first | omega | (simp <;> omega)) _)))
  have c1 : W.cell? ⟨w.heap.size, 1, none⟩ = some (.int .i64 ja) := by rw [hW]; simp [go_sem]
  have c2 : W.cell? ⟨w.heap.size, 2, none⟩ = some (.int .i64 jb) := by rw [hW]; simp [go_sem]
  have ht : w.heap.size < W.heap.size := by rw [hW]; simp
  have d0 := bW.cell (p := ⟨s, ja, none⟩) hs
  have d1 := bW.cell (p := ⟨s, jb, none⟩) hs
  have d2 := bW.cell (p := ⟨gv, ov + ja, none⟩) hg
  have d3 := bW.cell (p := ⟨gv, ov + jb, none⟩) hg
  rw [h0] at d0
  rw [h1] at d1
  rw [h2] at d2
  rw [h3] at d3
  have hs2 : s < W.heap.size := by omega
  have hg2 : gv < W.heap.size := by omega
  have ja0 : (0 : Int) ≤ ja := by omega
  have jb0 : (0 : Int) ≤ jb := by omega
  have jan : (ja : Int) < (n : Int) := by omega
  have jbn : (jb : Int) < (n : Int) := by omega
  have jam : (ja : Int) < (m : Int) := by omega
  have jbm : (jb : Int) < (m : Int) := by omega
  have hn0 : (n : Int) ≤ 60 := by omega
  have hm0 : (m : Int) ≤ 60 := by omega
  have HW := Lib.hid hW
  have HB := Lib.hid bW
  clear hr hr1 hr2 hW bW hp h0 h1 h2 h3 b1 b2 b3 b4 q1 q2 hpb
  go_enter Try.func73, Try.ntmps73
  go_wp2_with fail
  rw [← HW.out]
  clear HW
  go_region_held3 (fun w' => w'.cell? ⟨w.heap.size, 1, none⟩ = some (.int .i64 ja) ∧ w'.cell? ⟨w.heap.size, 2, none⟩ = some (.int .i64 jb) ∧ w'.cell? ⟨s, ja, none⟩ = some (.int .i64 da) ∧ w'.cell? ⟨s, jb, none⟩ = some (.int .i64 db) ∧ w'.cell? ⟨gv, ov + ja, none⟩ = some (.int .i64 va) ∧ w'.cell? ⟨gv, ov + jb, none⟩ = some (.int .i64 vb))
    (first | (with_reducible refine keepSl hb3 ?_ ?_ ?_ (by assumption); all_goals (have q1 := hb1.size; have q2 := hb2.size; (try simp at q1); (try simp at q2); omega)) | (with_reducible refine keepSl hb2 ?_ ?_ ?_ (by assumption); all_goals (have q1 := hb1.size; (try simp at q1); omega)) | (with_reducible refine keepSl hb1 ?_ ?_ ?_ (by assumption); all_goals (first | omega | (simp; omega))) | go_keep)
    (first
      | (go_at_call 120; with_reducible refine (iMul p da vb _).mono ?_; rintro e w1 ⟨he, hb1⟩; rw [HM1.out] at he; subst he)
      | (go_at_call 120; with_reducible refine (iMul p db va _).mono ?_; rintro e w2 ⟨he, hb2⟩; rw [HM2.out] at he; subst he)
      | (go_at_call 38; refine (iAdd p r1 r2 _).mono ?_; rintro e w3 ⟨he, hb3⟩; rw [HR.out] at he; subst he))
  all_goals
    have B1 : Below W.heap.size W w1 := (Below.drew (Below.refl _ _) : Below W.heap.size W W.drew).trans (by simpa using hb1)
    have B2 : Below W.heap.size W w2 := B1.trans (hb2.mono B1.size)
    have B3 : Below w.heap.size w w3 := HB.out.trans ((B2.trans (hb3.mono B2.size)).mono (by omega))
    clear hb1 hb2 hb3 B1 B2
    go_wp2_with fail
    go_ret
    exact ⟨rfl, B3⟩
end Go.Proofs.Ytfpjflghgmcgbaa
namespace Go.Proofs.Ytfpjflghgmcgbaa
open Go.RowKit
theorem keepG3 {W w1 : World} {t : Nat} {a b c : Value} (hb : Below W.heap.size W w1) (ht : t < W.heap.size) (h : W.cell? ⟨t, 0, none⟩ = some a ∧ W.cell? ⟨t, 1, none⟩ = some b ∧ W.cell? ⟨t, 2, none⟩ = some c) :
    w1.cell? ⟨t, 0, none⟩ = some a ∧ w1.cell? ⟨t, 1, none⟩ = some b ∧ w1.cell? ⟨t, 2, none⟩ = some c := by
  obtain ⟨h1, h2, h3⟩ := h
  refine ⟨?_, ?_, ?_⟩
  · rw [hb.cell (p := ⟨t, 0, none⟩) ht]; exact h1
  · rw [hb.cell (p := ⟨t, 1, none⟩) ht]; exact h2
  · rw [hb.cell (p := ⟨t, 2, none⟩) ht]; exact h3
theorem keepG3s {W : World} {t G k : Nat} {u : Value} {a b c : Value} (ht : t ≠ G) (h : W.cell? ⟨t, 0, none⟩ = some a ∧ W.cell? ⟨t, 1, none⟩ = some b ∧ W.cell? ⟨t, 2, none⟩ = some c) :
    (W.setCell ⟨G, k, none⟩ u).cell? ⟨t, 0, none⟩ = some a ∧ (W.setCell ⟨G, k, none⟩ u).cell? ⟨t, 1, none⟩ = some b ∧ (W.setCell ⟨G, k, none⟩ u).cell? ⟨t, 2, none⟩ = some c := by
  rw [World.cell?_setCell_other _ _ _ _ (addr_ne (by omega)), World.cell?_setCell_other _ _ _ _ (addr_ne (by omega)), World.cell?_setCell_other _ _ _ _ (addr_ne (by omega))]
  exact h
/-- the slope of a gate is found, whatever its kind -/
theorem slope_any {p v x y z : Int} {V : List Int} {L : List Gt} (hv : circB p L = true) (he : isE3 p x y z = true) (hV : V = evL p x y z L L.length) {k G gv ov cv : Nat} {xk xa xb : Int} (hk : k < L.length) (hx : gAt L k = ⟨xk, xa, xb⟩) {wr : World} (hA : ArrI wr G (slL p v V L k)) (hgv : gv < wr.heap.size)
    (hc : ∀ j : Nat, j < L.length → wr.cell? ⟨gv, ov + j, none⟩ = some (.int .i64 (V.getD j 0))) :
    ∃ d, slL p v V L (k + 1) = slL p v V L k ++ [d] ∧ ∀ W', Below wr.heap.size wr W' → Calls Try.prog 73 #[.agg #[.int .i64 xk, .int .i64 xa, .int .i64 xb], .int .i64 p, .int .i64 v, .slice (some ⟨gv, ov, none⟩) L.length cv, .slice (some ⟨G, 0, none⟩) 60 60] W' fun e w' => e = .returned (.int .i64 d) ∧ Below W'.heap.size W' w' := by
  obtain ⟨hp, hl1, hl2, hall⟩ := circB_iff.1 hv
  have hx0 := hall k hk
  rw [hx] at hx0
  have hcs := gOK_cases hx0
  simp only at hcs
  have sb := slL_bd (v := v) (V := V) (L := L) hp k
  have vb := fun j (hj : j < L.length) => hV ▸ evL_bd hv he L.length (Nat.le_refl _) j hj
  by_cases h0 : xk = 0
  · subst h0
    exact ⟨_, slL_step hx rfl, fun W' _ => (iSl0 p v xa xb _ _ _ _ _ _ W').mono fun e w' h => ⟨by rw [h.1]; simp, h.2⟩⟩
  · by_cases h1 : xk = 1
    · subst h1
      exact ⟨_, slL_step hx rfl, fun W' _ => (iSl1 p v xa xb _ _ _ _ _ _ W').mono fun e w' h => ⟨by rw [h.1]; simp, h.2⟩⟩
    · obtain ⟨ja, rfl⟩ := Int.eq_ofNat_of_zero_le (show 0 ≤ xa by omega)
      obtain ⟨jb, rfl⟩ := Int.eq_ofNat_of_zero_le (show 0 ≤ xb by omega)
      by_cases h2 : xk = 2
      · subst h2
        refine ⟨_, slL_step hx rfl, fun W' hW => ?_⟩
        have A1 := hA.below hW hA.1
        refine (iSl2 p v hp ja jb 60 (by omega) (by omega) (by omega) G 60 cv _ _ _ _ (sb ja) (sb jb) W' A1.1 (A1.2 ja (by omega)).1 (A1.2 jb (by omega)).1).mono fun e w' h => ⟨by rw [h.1]; simp, h.2⟩
      · have h3 : xk = 3 := by omega
        subst h3
        refine ⟨_, slL_step hx rfl, fun W' hW => ?_⟩
        have A1 := hA.below hW hA.1
        refine (iSl3 p v hp ja jb 60 (by omega) (by omega) G 60 cv L.length gv ov (by omega) (by omega) (by omega) (by omega) _ _ _ _ (sb ja) (sb jb) (vb ja (by omega)) (vb jb (by omega)) W' A1.1 (Nat.lt_of_lt_of_le hgv hW.size) (A1.2 ja (by omega)).1 (A1.2 jb (by omega)).1
          (by rw [hW.cell (p := ⟨gv, ov + ja, none⟩) hgv]; exact hc ja (by omega)) (by rw [hW.cell (p := ⟨gv, ov + jb, none⟩) hgv]; exact hc jb (by omega))).mono fun e w' h => ⟨by rw [h.1]; simp, h.2⟩
set_option maxRecDepth 100000 in
set_option maxHeartbeats 8000000 in
theorem iForwardAt (p v x y z : Int) (f : Value) (L : List Gt) (w : World) (h : Gats w f L) :
    Calls Try.prog 24 #[.int .i64 p, f, .int .i64 v, .agg #[.int .i64 x, .int .i64 y, .int .i64 z]] w fun e w' => e = .returned (.tuple #[.int .i64 (faV p L v x y z), .int .i64 (faS p L v x y z)]) ∧ Below w.heap.size w w' := by
  obtain ⟨n, hn⟩ : ∃ n, n = w.heap.size := ⟨_, rfl⟩
  obtain ⟨W, hW⟩ : ∃ W, W = w.alloc (Obj.cells #[.int .i64 x, .int .i64 y, .int .i64 z] 27) := ⟨_, rfl⟩
  have hP : PtAt W n x y z := by rw [hW, hn]; refine ⟨?_, ?_, ?_⟩ <;> simp [go_sem]
  have bW : Below n w W := by rw [hW, hn]; exact (by repeat (first | exact Below.refl _ _ | apply Below.drew | apply below_drewN | (refine Below.alloc ?_ (by first | omega | (simp <;> omega)) _)))
  have hsW : n < W.heap.size := by rw [hW, hn]; simp
  have HQ := Lib.hid (h.below (hn ▸ bW))
  have HEV := Lib.hid (iEvalGates p x y z f L W HQ.out)
  have HB := Lib.hid bW
  have HW := Lib.hid hW
  obtain ⟨q0, q1, q2⟩ := hP
  rw [← hn]
  cases hve : circB p L && isE3 p x y z
  · have HE := Lib.hid (faB_no (p := p) (L := L) (v := v) (x := x) (y := y) (z := z) (by
      unfold faB
      cases h1 : circB p L
      · rfl
      · rw [h1] at hve
        have : isE3 p x y z = false := by simpa using hve
        rw [this]; simp))
    have HE2 := Lib.hid (show evV2 p x y z L = [] by unfold evV2; rw [hve]; rfl)
    obtain ⟨nL, a, cap, rfl, _⟩ := h
    clear hve hW bW
    go_enter Try.func24, Try.ntmps24
    go_wp2_with fail
    rw [← HW.out, ← hn]
    clear HW hn
    refine HEV.out.mono ?_
    rintro e w1 ⟨u, rfl, ho, hb⟩
    obtain ⟨_, a0, c0, rfl, _⟩ := ho
    have HB1 := Lib.hid (HB.out.trans (hb.mono (Nat.le_of_lt hsW)))
    rw [HE2.out]
    clear hb HEV q0 q1 q2
    go_wp2_with fail
    refine bodyPost_ret (v := .tuple #[.int .i64 (-1), .int .i64 (-1)]) (by simp [results, Try.results24, go_sem]) rfl ⟨by rw [HE.out.1, HE.out.2], HB1.out⟩
  · simp only [Bool.and_eq_true] at hve
    obtain ⟨hv, he⟩ := hve
    obtain ⟨V, hV⟩ : ∃ V, V = evL p x y z L L.length := ⟨_, rfl⟩
    have HE2 := Lib.hid (show evV2 p x y z L = V by unfold evV2; rw [hv, he, hV]; rfl)
    have hVl : V.length = L.length := by rw [hV]; exact evL_len _ _ _ _ _ _
    obtain ⟨hp, hl1, hl2, hall⟩ := circB_iff.1 hv
    obtain ⟨g, off, cap, rfl, hg, hc⟩ := gats_slice HQ.out hv
    have HC := Lib.hid hc
    cases hu : inB v 0 2
    · have HE := Lib.hid (faB_no (p := p) (L := L) (v := v) (x := x) (y := y) (z := z) (by unfold faB; rw [hu]; simp))
      have HU := Lib.hid (fun w => iUnkG false v hu w)
      have hVp : ¬ (L.length : Int) = 0 := by omega
      have hVb : ((L.length : Int) == 0) = false := beq_eq_false_iff_ne.2 (by omega)
      have hVl2 := Lib.hid hVl
      clear hW bW hu hall hv he hV hp h hc hVl
      go_enter Try.func24, Try.ntmps24
      go_wp2_with fail
      rw [← HW.out, ← hn]
      clear HW hn
      refine HEV.out.mono ?_
      rintro e w1 ⟨u, rfl, ho, hb⟩
      obtain ⟨_, a0, c0, rfl, _⟩ := ho
      have HB1 := Lib.hid (HB.out.trans (hb.mono (Nat.le_of_lt hsW)))
      rw [HE2.out, hVl2.out]
      clear hb HEV q0 q1 q2
      go_wp2_with fail
      refine (HU.out _).mono ?_
      rintro e w2 ⟨rfl, rfl⟩
      go_wp2_with fail
      refine bodyPost_ret (v := .tuple #[.int .i64 (-1), .int .i64 (-1)]) (by simp [results, Try.results24, go_sem]) rfl ⟨by rw [HE.out.1, HE.out.2], HB1.out⟩
    · have HRES := Lib.hid (show faV p L v x y z = V.getD (L.length - 1) 0 ∧ faS p L v x y z = (slL p v V L L.length).getD (L.length - 1) 0 by
        have hb : faB p L v x y z = true := by unfold faB; rw [hv, he, hu]; rfl
        unfold faV faS
        rw [if_pos hb, if_pos hb, ← hV]
        exact ⟨rfl, rfl⟩)
      have HU := Lib.hid (fun w => iUnkG true v hu w)
      have hVp : ¬ (L.length : Int) = 0 := by omega
      have hVb : ((L.length : Int) == 0) = false := beq_eq_false_iff_ne.2 (by omega)
      have HVL := Lib.hid hVl
      have HV := Lib.hid hv
      have HE := Lib.hid he
      have HVV := Lib.hid hV
      have hgW : g < W.heap.size := hg
      clear hW bW hu hall hv he hV hp h hc hVl
      go_enter Try.func24, Try.ntmps24
      go_wp2_with fail
      rw [← HW.out, ← hn]
      clear HW hn
      refine HEV.out.mono ?_
      rintro e w1 ⟨u, rfl, ho, hb⟩
      rw [HE2.out] at ho
      obtain ⟨gv, ov, cv, rfl, hgB, hgl, hcell⟩ := ownI_at ho HVL.out (by omega)
      have R := Lib.hid hb
      have HCE := Lib.hid hcell
      clear hb ho hcell HEV q0 q1 q2
      go_wp2_with fail
      refine (HU.out _).mono ?_
      rintro e w2 ⟨rfl, rfl⟩
      obtain ⟨G, hG⟩ : ∃ G, G = w1.heap.size := ⟨_, rfl⟩
      obtain ⟨W4, hW4⟩ : ∃ W4, W4 = w1.alloc (.cells (Array.replicate 60 (.int .i64 0)) 90) := ⟨_, rfl⟩
      have A0 : ArrI W4 G [] := by rw [hW4, hG]; exact ArrI.new w1 _
      have b4 : Below G w1 W4 := by rw [hW4, hG]; exact Below.alloc (Below.refl _ _) (Nat.le_refl _) _
      have hWG : W.heap.size ≤ G := by rw [hG]; exact R.out.size
      have hgvG : gv < G := by rw [hG]; exact hgl
      have HC4 := Lib.hid (show ∀ j : Nat, j < L.length → GAt W4 g (off + j * 3) (L.getD j default) from fun j hj => ((HC.out j hj).below R.out hgW).below b4 (Nat.lt_of_lt_of_le hgW hWG))
      have HV4 := Lib.hid (show ∀ j : Nat, j < L.length → W4.cell? ⟨gv, ov + j, none⟩ = some (.int .i64 (V.getD j 0)) from fun j hj => by rw [b4.cell (p := ⟨gv, ov + j, none⟩) hgvG]; exact HCE.out j hj)
      have HB4 := Lib.hid (show Below n w W4 from (HB.out.trans (R.out.mono (Nat.le_of_lt hsW))).trans (b4.mono (by omega)))
      have HW4 := Lib.hid hW4
      have HGe := Lib.hid hG
      have hgG : g < G := Nat.lt_of_lt_of_le hgW hWG
      have hnG : n < G := Nat.lt_of_lt_of_le hsW hWG
      clear hW4 hG b4 hgB hgl hg HU HE2
      go_upto_region 5 with fail
      change Code.wp _ _ _ _ (w1.alloc (.cells (Array.replicate 60 (.int .i64 0)) 90))
      rw [← HW4.out, ← HGe.out]
      clear HW4 HGe
      go_wp2_with fail
      go_loopw [28] (fun i wr => ∃ k : Nat, k ≤ L.length ∧ i = .int .i64 k ∧ ArrI wr G (slL p v V L k) ∧ Below G W4 wr) (fun i _ => L.length - (intOf i).toNat)
      case atStart => exact ⟨0, by omega, rfl, A0, Below.refl _ _⟩
      case round =>
        clear A0
        obtain ⟨k, hk, rfl, hA, hb⟩ := hrel
        by_cases hlt : k < L.length
        · have hltp : (k : Int) < (L.length : Int) := by omega
          have hk0 : (0 : Int) ≤ (k : Int) := by omega
          have hk60 : (k : Int) < 60 := by omega
          obtain ⟨a0, a1, a2⟩ := (HC4.out k hlt).below hb hgG
          obtain ⟨x', hx⟩ : ∃ x, x = L.getD k default := ⟨_, rfl⟩
          rw [← hx] at a0 a1 a2
          have hlen : (slL p v V L k).length = k := slL_len p v V L k
          obtain ⟨xk, xa, xb⟩ := x'
          simp only at a0 a1 a2
          have hGr := hA.1
          obtain ⟨d, hd, hcall⟩ := slope_any (v := v) (cv := cv) HV.out HE.out HVV.out hlt (gat_mk hx).symm hA (Nat.lt_trans hgvG hGr) (fun j hj => by rw [hb.cell (p := ⟨gv, ov + j, none⟩) hgvG]; exact HV4.out j hj)
          have HCA := Lib.hid hcall
          have HD := Lib.hid hd
          have HA := Lib.hid hA
          have Hb := Lib.hid hb
          obtain ⟨t, ht⟩ : ∃ t, t = wr.heap.size := ⟨_, rfl⟩
          obtain ⟨W6, hW6⟩ : ∃ W6, W6 = wr.alloc (Obj.cells #[.int .i64 xk, .int .i64 xa, .int .i64 xb] 99) := ⟨_, rfl⟩
          have b6 : Below wr.heap.size wr W6 := by rw [hW6]; exact (by repeat (first | exact Below.refl _ _ | apply Below.drew | apply below_drewN | (refine Below.alloc ?_ (by first | omega | (simp <;> omega)) _)))
          have t0 : W6.cell? ⟨t, 0, none⟩ = some (.int .i64 xk) := by rw [hW6, ht]; simp [go_sem]
          have t1 : W6.cell? ⟨t, 1, none⟩ = some (.int .i64 xa) := by rw [hW6, ht]; simp [go_sem]
          have t2 : W6.cell? ⟨t, 2, none⟩ = some (.int .i64 xb) := by rw [hW6, ht]; simp [go_sem]
          have tl : t < W6.heap.size := by rw [hW6, ht]; simp
          have htG : t ≠ G := by omega
          have HB6 := Lib.hid b6
          have HW6 := Lib.hid hW6
          have HT := Lib.hid ht
          clear hx hA hb hcall hd hW6 ht b6
          go_upto_region 8 with fail
          rw [← HW6.out, ← HT.out]
          clear a0 a1 a2 HW6 HT
          go_region_held3 (fun w' => w'.cell? ⟨t, 0, none⟩ = some (.int .i64 xk) ∧ w'.cell? ⟨t, 1, none⟩ = some (.int .i64 xa) ∧ w'.cell? ⟨t, 2, none⟩ = some (.int .i64 xb))
            (first | (with_reducible refine keepG3s htG (by assumption)) | (with_reducible refine keepG3 hb1 ?_ (by assumption); first | omega | (simp; omega)) | go_keep)
            (first
              | (go_at_call 73; refine (HCA.out _ (HB6.out.trans (Below.drew (Below.refl _ _)))).mono ?_; rintro e w7 ⟨rfl, hb1⟩; have hb7 : Below wr.heap.size wr w7 := HB6.out.trans ((show Below W6.heap.size W6 w7 from (Below.drew (Below.refl _ _)).trans (by simpa using hb1)).mono HB6.out.size); have HA7 := Lib.hid (HA.out.below hb7 hGr); obtain ⟨dk, fk⟩ := HA7.out.2 k (by omega)))
          all_goals
            have hR2 : ArrI (w7.setCell ⟨G, k, none⟩ (.int .i64 d)) G (slL p v V L (k + 1)) := by
              rw [HD.out]
              exact HA7.out.set hlen (by omega) d
            have hb2 : Below G W4 (w7.setCell ⟨G, k, none⟩ (.int .i64 d)) := (Hb.out.trans (hb7.mono (Nat.le_of_lt hGr))).setCell (Nat.le_refl _) _
            clear t0 t1 t2 dk fk hb1 hb7
            go_wp2_with fail
            go_roundw
            case rel => exact ⟨k + 1, by omega, by go_num, hR2, hb2⟩
            case measure => simp [intOf]; omega
        · have hkl : k = L.length := by omega
          subst hkl
          obtain ⟨m, hm⟩ : ∃ m, L.length = m + 1 := ⟨L.length - 1, by omega⟩
          obtain ⟨d0, _⟩ := hA.2 m (by omega)
          have e0 : wr.cell? ⟨gv, ov + m, none⟩ = some (.int .i64 (V.getD m 0)) := by rw [hb.cell (p := ⟨gv, ov + m, none⟩) hgvG, HV4.out m (by omega)]
          have hr := HRES.out
          rw [show L.length - 1 = m by omega] at hr
          obtain ⟨va, hva⟩ : ∃ d, d = V.getD m 0 := ⟨_, rfl⟩
          obtain ⟨sa, hsa⟩ : ∃ d, d = (slL p v V L L.length).getD m 0 := ⟨_, rfl⟩
          rw [← hva] at e0 hr
          rw [← hsa] at d0 hr
          have HRR := Lib.hid hr
          have HLM := Lib.hid (show (L.length : Int) - 1 = (m : Int) by omega)
          have hml : (m : Int) < (L.length : Int) := by omega
          have hm60 : (m : Int) < 60 := by omega
          have hm0 : (0 : Int) ≤ (m : Int) := by omega
          have HF := Lib.hid (show Below n w wr from HB4.out.trans (hb.mono (Nat.le_of_lt hnG)))
          clear hva hsa hr hm hA hb HRES
          go_wp2_with fail
          go_region_held3 (fun w' => w'.cell? ⟨gv, ov + m, none⟩ = some (.int .i64 va) ∧ w'.cell? ⟨G, m, none⟩ = some (.int .i64 sa)) (first | go_keep | assumption) (first | (go_at_call 65; refine (iLast _ L.length _ m (by omega) HLM.out _).mono ?_; rintro e w' ⟨rfl, rfl⟩))
          go_wp2_with fail
          refine bodyPost_ret (v := .tuple #[.int .i64 va, .int .i64 sa]) (by simp [results, Try.results24, go_sem]) rfl ⟨by rw [HRR.out.1, HRR.out.2], ?_⟩
          repeat (first | exact HF.out | apply Below.drew | apply below_drewN)
end Go.Proofs.Ytfpjflghgmcgbaa
