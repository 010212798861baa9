/-
  The walk of the law FnEvalGates: it returns true. Conditions: the bytes can be read.
-/
import Derived.Test.YtgbjchidnnmifaaDri
import Derived.Test.YtgbjchidnnmifaaSame
import Derived.Test.YtgbjchidnnmifaaEvM
namespace Go.Proofs.Ytgbjchidnnmifaa
open Go.RowKit
/-- what the rounds keep: the point, the gates, their values -/
structure ESt (w0 : World) (g g2 AB : Nat) (x y z : Int) (L : List Gt) (V : List Int) (wr : World) : Prop where
  pt : PtAt wr AB x y z
  ga : ∀ j : Nat, j < L.length → GAt wr g (0 + j * 3) (L.getD j default)
  va : ∀ j : Nat, j < V.length → wr.cell? ⟨g2, 0 + j, none⟩ = some (.int .i64 (V.getD j 0))
  low : Below w0.heap.size w0 wr
  la : AB < wr.heap.size
  lg : g < wr.heap.size
  lv : g2 < wr.heap.size
theorem ESt.on {w0 wr w' : World} {g g2 AB : Nat} {x y z : Int} {L : List Gt} {V : List Int} (h : ESt w0 g g2 AB x y z L V wr) (hb : Below wr.heap.size wr w') : ESt w0 g g2 AB x y z L V w' :=
  ⟨h.pt.below hb h.la, fun j hj => (h.ga j hj).below hb h.lg, fun j hj => by rw [hb.cell (p := ⟨g2, 0 + j, none⟩) h.lv]; exact h.va j hj, h.low.trans (hb.mono h.low.size), Nat.lt_of_lt_of_le h.la hb.size, Nat.lt_of_lt_of_le h.lg hb.size, Nat.lt_of_lt_of_le h.lv hb.size⟩
theorem ESt.gats {w0 wr : World} {g g2 AB : Nat} {x y z : Int} {L : List Gt} {V : List Int} (h : ESt w0 g g2 AB x y z L V wr) (hl : L.length ≤ 1048576) (cap : Nat) : Gats wr (.slice (some ⟨g, 0, none⟩) L.length cap) L :=
  ⟨hl, _, _, rfl, .inr ⟨g, 0, rfl, h.lg, h.ga⟩⟩
theorem ESt.ints {w0 wr : World} {g g2 AB : Nat} {x y z : Int} {L : List Gt} {V : List Int} (h : ESt w0 g g2 AB x y z L V wr) {n : Nat} (hn : V.length = n) (hl : n ≤ 1048576) (cap : Nat) : Ints wr (.slice (some ⟨g2, 0, none⟩) n cap) V := by
  subst hn
  exact ⟨by omega, _, _, rfl, .inr ⟨g2, 0, rfl, h.lv, h.va⟩⟩
theorem iEval_n (p x y z : Int) (M : List Gt) (n : Nat) (hn : M.length = n) (hv : circB p M = true) (he : isE3 p x y z = true) (g cap : Nat) (w : World) (hg : g < w.heap.size)
    (hc : ∀ j : Nat, j < M.length → GAt w g (0 + j * 3) (M.getD j default)) (V : List Int) (hV : evL p x y z M n = V) :
    Calls Try.prog 7 #[.int .i64 p, .slice (some ⟨g, 0, none⟩) n cap, .agg #[.int .i64 x, .int .i64 y, .int .i64 z]] w fun e w' => ∃ v, e = .returned v ∧ Ints w' v V ∧ Below w.heap.size w w' := by
  subst hn
  subst hV
  refine (iEval_row p x y z M hv he g 0 cap w hg hc).mono ?_
  rintro e w' ⟨v, rfl, hR, hb⟩
  have hl := (circB_iff.1 hv).2.2.1
  exact ⟨v, rfl, (hR.own (by rw [evL_len]; omega)).ints, hb⟩
set_option maxRecDepth 100000 in
set_option maxHeartbeats 16000000 in
theorem wEval_in (a : Option Addr) (len cap : Nat) (w : World) (h : ByteRow w a len cap) (hl : len ≤ 1048576) :
    Calls Try.prog 3 #[.slice a len cap] w fun e w' => e = .returned (.bool true) ∧ Below w.heap.size w w' := by
  have hh := Lib.hid h
  have hlp : (len : Int) ≤ 1048576 := by omega
  clear h
  go_enter Try.func3, Try.ntmps3
  go_wp2_with fail
  refine (drawEvalGates a len cap w hh.out).mono ?_
  rintro e w1 ⟨p, v, L, x, y, z, rfl, hL, hR, hn, hb⟩
  obtain ⟨g, cap1, rfl, hcap⟩ : ∃ g c, v = .slice (some ⟨g, 0, none⟩) L.length c ∧ L.length ≤ c := by
    rcases hR.shape with ⟨h1, _⟩ | ⟨g, c, rfl, _, _, h2, _⟩
    · exact absurd h1 hn
    · exact ⟨g, c, rfl, h2⟩
  obtain ⟨W1, hW1⟩ : ∃ W, W = w1.alloc (Obj.cells #[.int .i64 x, .int .i64 y, .int .i64 z] 25) := ⟨_, rfl⟩
  have bW : Below w1.heap.size w1 W1 := by rw [hW1]; exact Below.alloc (Below.refl _ _) (Nat.le_refl _) _
  have P1 : PtAt W1 w1.heap.size x y z := by rw [hW1]; refine ⟨?_, ?_, ?_⟩ <;> simp [go_sem]
  have hAB : w1.heap.size < W1.heap.size := by rw [hW1]; simp
  have B1 := hb.trans (bW.mono hb.size)
  have HR := Lib.hid (hR.below bW)
  have HG := Lib.hid ((hR.below bW).own (by omega)).gats
  have HW1 := Lib.hid hW1
  have HPT := Lib.hid P1
  obtain ⟨AB, hA⟩ : ∃ A, A = w1.heap.size := ⟨_, rfl⟩
  rw [← hA] at hAB HPT
  obtain ⟨c0, c1, c2⟩ := HPT.out
  have HA := Lib.hid hA
  clear hW1 bW P1 hR hn hb hA
  cases hv : (circB p L && isE3 p x y z)
  · have E1 := Lib.hid (show evV2 p x y z L = [] by simp [evV2, hv])
    clear hv
    go_wp2_with fail
    rw [← HW1.out, ← HA.out]
    refine (iEvalGates p x y z _ L _ HG.out).mono ?_
    rw [E1.out]
    rintro e w2 ⟨u, rfl, hO, hb2⟩
    have P2 := HPT.out.below hb2 hAB
    have G2 := Gats.below HG.out hb2
    have I2 := hO.ints
    have B2 := B1.trans (hb2.mono B1.size)
    have s2 := hb2.size
    obtain ⟨_, ua, uc, rfl, _⟩ := hO
    obtain ⟨c0, c1, c2⟩ := P2
    have HI2 := Lib.hid I2
    have HB2 := Lib.hid B2
    clear hb2 I2 B1 B2
    go_wp2_with fail
    refine (sEvalGates p x y z _ L _ G2).mono ?_
    rw [E1.out]
    rintro e w3 ⟨u', rfl, hO3, hb3⟩
    have I3 := Ints.below HI2.out hb3
    have P3 : PtAt w3 AB x y z := PtAt.below ⟨c0, c1, c2⟩ hb3 (by omega)
    have G3 := Gats.below G2 hb3
    have B3 := HB2.out.trans (hb3.mono HB2.out.size)
    have s3 := hb3.size
    have J3 := hO3.ints
    clear hb3 hO3 G2 c0 c1 c2
    go_wp2_with fail
    refine (sameInts _ _ [] _ I3 J3).mono ?_
    rintro e w4 ⟨rfl, hd4⟩
    have hb4 := hd4.below w3.heap.size
    have I4 := Ints.below I3 hb4
    have P4 := P3.below hb4 (by omega)
    have HG4 := Lib.hid (Gats.below G3 hb4)
    have HB4 := Lib.hid (B3.trans (hb4.mono B3.size))
    have HI4 := Lib.hid I4
    obtain ⟨c0, c1, c2⟩ := P4
    clear hb4 hd4 I4 I3 J3 P3 G3 B3 HG HR
    go_wp2_with fail
    refine (sEvalGates p x y z _ L _ HG4.out).mono ?_
    rw [E1.out]
    rintro e w5 ⟨u5, rfl, hO5, hb5⟩
    have I5 := Ints.below HI4.out hb5
    have J5 := hO5.ints
    have HB5 := Lib.hid (HB4.out.trans (hb5.mono HB4.out.size))
    clear hb5 hO5 c0 c1 c2
    go_wp2_with fail
    refine (sameInts _ _ [] _ I5 J5).mono ?_
    rintro e w6 ⟨rfl, hd6⟩
    have HB6 := Lib.hid (HB5.out.trans (hd6.below w.heap.size))
    clear hd6 I5 J5
    go_wp2_with fail
    go_ret
    exact ⟨rfl, HB6.out⟩
  · simp only [Bool.and_eq_true] at hv
    obtain ⟨hvc, hve⟩ := hv
    have HVC := Lib.hid hvc
    have HVE := Lib.hid hve
    obtain ⟨hp, hl1, hl2, hall⟩ := circB_iff.1 hvc
    have hg1 : g < W1.heap.size := by
      rcases HR.out.shape with ⟨h1, _⟩ | ⟨g', c', h1, _, h2, _⟩
      · cases h1
      · injection h1 with h1; injection h1 with h1; injection h1 with h1; omega
    have HC := Lib.hid (fun (j : Nat) (hj : j < L.length) => by rw [Nat.zero_add]; exact HR.out.tat rfl hj : ∀ j : Nat, j < L.length → GAt W1 g (0 + j * 3) (L.getD j default))
    have E1 := Lib.hid (show evV2 p x y z L = evL p x y z L L.length by simp [evV2, hvc, hve])
    have HAL := Lib.hid hall
    clear hvc hve hp hall
    go_wp2_with fail
    rw [← HW1.out, ← HA.out]
    refine (iEval_row p x y z L HVC.out HVE.out g 0 cap1 W1 hg1 HC.out).mono ?_
    rintro e w2 ⟨u, rfl, hR2, hb2⟩
    obtain ⟨g2, uc, rfl, hg2, hcap2⟩ : ∃ g c, u = .slice (some ⟨g, 0, none⟩) L.length c ∧ g < w2.heap.size ∧ L.length ≤ c := by
      rcases hR2.shape' (evL_len p x y z L L.length) with ⟨_, h1⟩ | ⟨g, c, rfl, _, h1, h2, _⟩
      · have := evL_len p x y z L L.length; rw [h1] at this; simp at this; omega
      · exact ⟨g, c, rfl, h1, h2⟩
    have hVl := evL_len p x y z L L.length
    have E2 : ESt w g g2 AB x y z L (evL p x y z L L.length) w2 := by
      refine ⟨HPT.out.below hb2 hAB, fun j hj => (HC.out j hj).below hb2 hg1, fun j hj => ?_, B1.trans (hb2.mono B1.size), Nat.lt_of_lt_of_le hAB hb2.size, Nat.lt_of_lt_of_le hg1 hb2.size, hg2⟩
      rcases hR2.shape with ⟨h1, _⟩ | ⟨g', c', h1, _, _, _, _, h2⟩
      · cases h1
      · injection h1 with h1; injection h1 with h1; injection h1 with h1
        rw [Nat.zero_add, h1]; exact h2 j hj
    obtain ⟨c0, c1, c2⟩ := E2.pt
    have HE2 := Lib.hid E2
    have HVl := Lib.hid hVl
    clear hb2 hR2 B1 HR HG HC E2 hVl HPT hAB hg1 hg2
    go_wp2_with fail
    refine (sEvalGates p x y z _ L _ (HE2.out.gats (by omega) _)).mono ?_
    rw [E1.out]
    rintro e w3 ⟨u3, rfl, hO3, hb3⟩
    have HE3 := Lib.hid (HE2.out.on hb3)
    have J3 := hO3.ints
    clear hb3 hO3 c0 c1 c2
    go_wp2_with fail
    refine (sameInts _ _ _ _ (HE3.out.ints HVl.out (by omega) _) J3).mono ?_
    rintro e w4 ⟨rfl, hd4⟩
    have HE4 := Lib.hid (HE3.out.on (hd4.below _))
    have hl0 : ((L.length : Int) == 0) = false := by rw [beq_eq_false_iff_ne]; omega
    clear hd4 J3 HE2 HE3 E1
    go_wp2_with fail
    go_loopw [44] (fun i wr => ∃ k : Nat, k ≤ L.length ∧ i = .int .i64 k ∧ ESt w g g2 AB x y z L (evL p x y z L L.length) wr) (fun i _ => L.length - (intOf i).toNat)
    case atStart => exact ⟨0, by omega, rfl, HE4.out⟩
    case round =>
      clear HE4
      rename_i K' hK'
      have HK' := Lib.hid hK'
      clear hK'
      obtain ⟨k, hk, rfl, hS⟩ := hrel
      have HS := Lib.hid hS
      clear hS
      by_cases hlt : k < L.length
      · have hltp : (k : Int) < (L.length : Int) := by omega
        have hk0 : (0 : Int) ≤ (k : Int) := by omega
        have hkc : (k : Int) + 1 ≤ (cap1 : Int) := by omega
        have hkc2 : (k : Int) + 1 ≤ (uc : Int) := by omega
        have hk1 : (0 : Int) ≤ (k : Int) + 1 := by omega
        have hkw : IntKind.i64.wrap ((k : Int) + 1) = (k : Int) + 1 := IntWalk.i64_in _ (by omega)
        obtain ⟨a0, a1, a2⟩ := HS.out.ga k hlt
        rw [Nat.zero_add] at a0 a1 a2
        have hx0 := HAL.out k hlt
        obtain ⟨gx, hx⟩ : ∃ gx, gx = L.getD k default := ⟨_, rfl⟩
        rw [← hx] at a0 a1 a2
        rw [← gat_mk hx] at hx0
        have hcs := gOK_cases hx0
        simp only at hcs
        have HX := Lib.hid (gat_mk hx).symm
        have HAT := Lib.hid (evL_at (x := x) (y := y) (z := z) HVC.out hlt HX.out)
        obtain ⟨xk, xa, xb⟩ := gx
        simp only at a0 a1 a2 hcs HAT
        obtain ⟨W3, hW3⟩ : ∃ W, W = wr.alloc (Obj.cells #[.int .i64 xk, .int .i64 xa, .int .i64 xb] 32) := ⟨_, rfl⟩
        have HE3 := Lib.hid (HS.out.on (w' := W3) (by rw [hW3]; exact Below.alloc (Below.refl _ _) (Nat.le_refl _) _))
        have HW3 := Lib.hid hW3
        obtain ⟨c0, c1, c2⟩ := HS.out.pt
        have hlA := HS.out.la
        have v0 := HS.out.va k (by rw [HVl.out]; exact hlt)
        rw [Nat.zero_add] at v0
        clear hx hx0 hW3
        by_cases h1 : xk = 1
        · subst h1
          go_wp2_with fail
          rw [← HW3.out]
          clear HW3 a0 a1 a2 hcs v0 hlA c0 c1 c2
          obtain ⟨c0, c1, c2⟩ := HE3.out.pt
          have hA8 := HE3.out.la
          have HRV := Lib.hid (show (evL p x y z L L.length).getD k 0 = xa by rw [HAT.out]; simp)
          have HE9 := Lib.hid (HE3.out.on (w' := W3.drew) (Below.drew (Below.refl _ _)))
          have HCT := Lib.hid (show ∀ j : Nat, j < (L.take (k + 1)).length → GAt W3.drew g (0 + j * 3) ((L.take (k + 1)).getD j default) from fun j hj => by
            have hj' : j < k + 1 := by simp at hj; omega
            have := HE9.out.ga j (by omega)
            rwa [← show (L.take (k + 1)).getD j default = L.getD j default from gAt_take hj'] at this)
          have HPR := Lib.hid (show ∀ j : Nat, j < k + 1 → (evL p x y z L (k + 1)).getD j 0 = (evL p x y z L L.length).getD j 0 from fun j hj => by
            rw [evL_st p x y z L j (k + 1) hj, evL_st p x y z L j L.length (by omega)])
          go_region_held3 (fun w' => w'.cell? ⟨AB, 0, none⟩ = some (.int .i64 x) ∧ w'.cell? ⟨AB, 1, none⟩ = some (.int .i64 y) ∧ w'.cell? ⟨AB, 2, none⟩ = some (.int .i64 z)) (first | exact keepPt hb9 (by simpa using hA8) (by assumption) | go_keep)
            (first | (go_at_call 7; refine (iEval_n p x y z (L.take (k + 1)) (k + 1) (by simp; omega) (circB_take HVC.out (by omega) (by omega)) HVE.out g cap1 _ HE9.out.lg HCT.out (evL p x y z L (k + 1)) (evL_take p x y z L (k + 1) (k + 1) (Nat.le_refl _))).mono ?_; rintro e w9 ⟨u9, rfl, hI9, hb9⟩))
          all_goals
            have E9 := HE9.out.on hb9
            have HE10 := Lib.hid E9
            have v0 := E9.va k (by rw [HVl.out]; exact hlt)
            rw [Nat.zero_add, HRV.out] at v0
            have J9 : Ints w9 (.slice (some ⟨g2, 0, none⟩) (k + 1) uc) (evL p x y z L (k + 1)) :=
              ⟨by rw [evL_len]; omega, _, _, by rw [evL_len], .inr ⟨g2, 0, rfl, E9.lv, fun j hj => by rw [evL_len] at hj; rw [HPR.out j hj]; exact E9.va j (by rw [HVl.out]; omega)⟩⟩
            have HI9 := Lib.hid hI9
            have HJ9 := Lib.hid J9
            clear hb9 hI9 J9 E9 c0 c1 c2 HCT HPR HE9
            go_wp2_with fail
            refine (sameInts _ _ _ _ HI9.out HJ9.out).mono ?_
            rintro e w10 ⟨rfl, hd10⟩
            have HE11 := Lib.hid (HE10.out.on (hd10.below _))
            clear hd10 HI9 HJ9 HE10 v0
            go_wp2_with fail
            go_roundw
            case rel => exact ⟨k + 1, by omega, by go_num, HE11.out⟩
            case measure => simp [intOf]; omega
        · by_cases h0 : xk = 0
          · subst h0
            have hx3 : xa = 0 ∨ xa = 1 ∨ xa = 2 := by omega
            rcases hx3 with rfl | rfl | rfl
            · go_wp2_with fail
              rw [← HW3.out]
              clear HW3 a0 a1 a2 hcs v0 hlA c0 c1 c2
              obtain ⟨c0, c1, c2⟩ := HE3.out.pt
              have hA8 := HE3.out.la
              have HRV := Lib.hid (show (evL p x y z L L.length).getD k 0 = x by rw [HAT.out]; simp [coord])
              have HE9 := Lib.hid (HE3.out.on (w' := W3.drew) (Below.drew (Below.refl _ _)))
              have HCT := Lib.hid (show ∀ j : Nat, j < (L.take (k + 1)).length → GAt W3.drew g (0 + j * 3) ((L.take (k + 1)).getD j default) from fun j hj => by
                have hj' : j < k + 1 := by simp at hj; omega
                have := HE9.out.ga j (by omega)
                rwa [← show (L.take (k + 1)).getD j default = L.getD j default from gAt_take hj'] at this)
              have HPR := Lib.hid (show ∀ j : Nat, j < k + 1 → (evL p x y z L (k + 1)).getD j 0 = (evL p x y z L L.length).getD j 0 from fun j hj => by
                rw [evL_st p x y z L j (k + 1) hj, evL_st p x y z L j L.length (by omega)])
              go_region_held3 (fun w' => w'.cell? ⟨AB, 0, none⟩ = some (.int .i64 x) ∧ w'.cell? ⟨AB, 1, none⟩ = some (.int .i64 y) ∧ w'.cell? ⟨AB, 2, none⟩ = some (.int .i64 z)) (first | exact keepPt hb9 (by simpa using hA8) (by assumption) | go_keep)
                (first | (go_at_call 7; refine (iEval_n p x y z (L.take (k + 1)) (k + 1) (by simp; omega) (circB_take HVC.out (by omega) (by omega)) HVE.out g cap1 _ HE9.out.lg HCT.out (evL p x y z L (k + 1)) (evL_take p x y z L (k + 1) (k + 1) (Nat.le_refl _))).mono ?_; rintro e w9 ⟨u9, rfl, hI9, hb9⟩))
              all_goals
                have E9 := HE9.out.on hb9
                have HE10 := Lib.hid E9
                have v0 := E9.va k (by rw [HVl.out]; exact hlt)
                rw [Nat.zero_add, HRV.out] at v0
                have J9 : Ints w9 (.slice (some ⟨g2, 0, none⟩) (k + 1) uc) (evL p x y z L (k + 1)) :=
                  ⟨by rw [evL_len]; omega, _, _, by rw [evL_len], .inr ⟨g2, 0, rfl, E9.lv, fun j hj => by rw [evL_len] at hj; rw [HPR.out j hj]; exact E9.va j (by rw [HVl.out]; omega)⟩⟩
                have HI9 := Lib.hid hI9
                have HJ9 := Lib.hid J9
                clear hb9 hI9 J9 E9 c0 c1 c2 HCT HPR HE9
                go_wp2_with fail
                refine (sameInts _ _ _ _ HI9.out HJ9.out).mono ?_
                rintro e w10 ⟨rfl, hd10⟩
                have HE11 := Lib.hid (HE10.out.on (hd10.below _))
                clear hd10 HI9 HJ9 HE10 v0
                go_wp2_with fail
                go_roundw
                case rel => exact ⟨k + 1, by omega, by go_num, HE11.out⟩
                case measure => simp [intOf]; omega
            · go_wp2_with fail
              rw [← HW3.out]
              clear HW3 a0 a1 a2 hcs v0 hlA c0 c1 c2
              obtain ⟨c0, c1, c2⟩ := HE3.out.pt
              have hA8 := HE3.out.la
              have HRV := Lib.hid (show (evL p x y z L L.length).getD k 0 = y by rw [HAT.out]; simp [coord])
              have HE9 := Lib.hid (HE3.out.on (w' := W3.drew) (Below.drew (Below.refl _ _)))
              have HCT := Lib.hid (show ∀ j : Nat, j < (L.take (k + 1)).length → GAt W3.drew g (0 + j * 3) ((L.take (k + 1)).getD j default) from fun j hj => by
                have hj' : j < k + 1 := by simp at hj; omega
                have := HE9.out.ga j (by omega)
                rwa [← show (L.take (k + 1)).getD j default = L.getD j default from gAt_take hj'] at this)
              have HPR := Lib.hid (show ∀ j : Nat, j < k + 1 → (evL p x y z L (k + 1)).getD j 0 = (evL p x y z L L.length).getD j 0 from fun j hj => by
                rw [evL_st p x y z L j (k + 1) hj, evL_st p x y z L j L.length (by omega)])
              go_region_held3 (fun w' => w'.cell? ⟨AB, 0, none⟩ = some (.int .i64 x) ∧ w'.cell? ⟨AB, 1, none⟩ = some (.int .i64 y) ∧ w'.cell? ⟨AB, 2, none⟩ = some (.int .i64 z)) (first | exact keepPt hb9 (by simpa using hA8) (by assumption) | go_keep)
                (first | (go_at_call 7; refine (iEval_n p x y z (L.take (k + 1)) (k + 1) (by simp; omega) (circB_take HVC.out (by omega) (by omega)) HVE.out g cap1 _ HE9.out.lg HCT.out (evL p x y z L (k + 1)) (evL_take p x y z L (k + 1) (k + 1) (Nat.le_refl _))).mono ?_; rintro e w9 ⟨u9, rfl, hI9, hb9⟩))
              all_goals
                have E9 := HE9.out.on hb9
                have HE10 := Lib.hid E9
                have v0 := E9.va k (by rw [HVl.out]; exact hlt)
                rw [Nat.zero_add, HRV.out] at v0
                have J9 : Ints w9 (.slice (some ⟨g2, 0, none⟩) (k + 1) uc) (evL p x y z L (k + 1)) :=
                  ⟨by rw [evL_len]; omega, _, _, by rw [evL_len], .inr ⟨g2, 0, rfl, E9.lv, fun j hj => by rw [evL_len] at hj; rw [HPR.out j hj]; exact E9.va j (by rw [HVl.out]; omega)⟩⟩
                have HI9 := Lib.hid hI9
                have HJ9 := Lib.hid J9
                clear hb9 hI9 J9 E9 c0 c1 c2 HCT HPR HE9
                go_wp2_with fail
                refine (sameInts _ _ _ _ HI9.out HJ9.out).mono ?_
                rintro e w10 ⟨rfl, hd10⟩
                have HE11 := Lib.hid (HE10.out.on (hd10.below _))
                clear hd10 HI9 HJ9 HE10 v0
                go_wp2_with fail
                go_roundw
                case rel => exact ⟨k + 1, by omega, by go_num, HE11.out⟩
                case measure => simp [intOf]; omega
            · go_wp2_with fail
              rw [← HW3.out]
              clear HW3 a0 a1 a2 hcs v0 hlA c0 c1 c2
              obtain ⟨c0, c1, c2⟩ := HE3.out.pt
              have hA8 := HE3.out.la
              have HRV := Lib.hid (show (evL p x y z L L.length).getD k 0 = z by rw [HAT.out]; simp [coord])
              have HE9 := Lib.hid (HE3.out.on (w' := W3.drew) (Below.drew (Below.refl _ _)))
              have HCT := Lib.hid (show ∀ j : Nat, j < (L.take (k + 1)).length → GAt W3.drew g (0 + j * 3) ((L.take (k + 1)).getD j default) from fun j hj => by
                have hj' : j < k + 1 := by simp at hj; omega
                have := HE9.out.ga j (by omega)
                rwa [← show (L.take (k + 1)).getD j default = L.getD j default from gAt_take hj'] at this)
              have HPR := Lib.hid (show ∀ j : Nat, j < k + 1 → (evL p x y z L (k + 1)).getD j 0 = (evL p x y z L L.length).getD j 0 from fun j hj => by
                rw [evL_st p x y z L j (k + 1) hj, evL_st p x y z L j L.length (by omega)])
              go_region_held3 (fun w' => w'.cell? ⟨AB, 0, none⟩ = some (.int .i64 x) ∧ w'.cell? ⟨AB, 1, none⟩ = some (.int .i64 y) ∧ w'.cell? ⟨AB, 2, none⟩ = some (.int .i64 z)) (first | exact keepPt hb9 (by simpa using hA8) (by assumption) | go_keep)
                (first | (go_at_call 7; refine (iEval_n p x y z (L.take (k + 1)) (k + 1) (by simp; omega) (circB_take HVC.out (by omega) (by omega)) HVE.out g cap1 _ HE9.out.lg HCT.out (evL p x y z L (k + 1)) (evL_take p x y z L (k + 1) (k + 1) (Nat.le_refl _))).mono ?_; rintro e w9 ⟨u9, rfl, hI9, hb9⟩))
              all_goals
                have E9 := HE9.out.on hb9
                have HE10 := Lib.hid E9
                have v0 := E9.va k (by rw [HVl.out]; exact hlt)
                rw [Nat.zero_add, HRV.out] at v0
                have J9 : Ints w9 (.slice (some ⟨g2, 0, none⟩) (k + 1) uc) (evL p x y z L (k + 1)) :=
                  ⟨by rw [evL_len]; omega, _, _, by rw [evL_len], .inr ⟨g2, 0, rfl, E9.lv, fun j hj => by rw [evL_len] at hj; rw [HPR.out j hj]; exact E9.va j (by rw [HVl.out]; omega)⟩⟩
                have HI9 := Lib.hid hI9
                have HJ9 := Lib.hid J9
                clear hb9 hI9 J9 E9 c0 c1 c2 HCT HPR HE9
                go_wp2_with fail
                refine (sameInts _ _ _ _ HI9.out HJ9.out).mono ?_
                rintro e w10 ⟨rfl, hd10⟩
                have HE11 := Lib.hid (HE10.out.on (hd10.below _))
                clear hd10 HI9 HJ9 HE10 v0
                go_wp2_with fail
                go_roundw
                case rel => exact ⟨k + 1, by omega, by go_num, HE11.out⟩
                case measure => simp [intOf]; omega
          · have hk23 : xk = 2 ∨ xk = 3 := by omega
            obtain ⟨ja, rfl⟩ := Int.eq_ofNat_of_zero_le (show 0 ≤ xa by omega)
            obtain ⟨jb, rfl⟩ := Int.eq_ofNat_of_zero_le (show 0 ≤ xb by omega)
            have hja : ja < k := by omega
            have hjb : jb < k := by omega
            clear h0 h1
            rcases hk23 with rfl | rfl
            · have HRR := Lib.hid (show addV p ((evL p x y z L L.length).getD ja 0) ((evL p x y z L L.length).getD jb 0) = (evL p x y z L L.length).getD k 0 by
                have b1 := evL_bd HVC.out HVE.out L.length (Nat.le_refl _) ja (by omega)
                have b2 := evL_bd HVC.out HVE.out L.length (Nat.le_refl _) jb (by omega)
                rw [addV_at (circB_iff.1 HVC.out).1 b1.1 b1.2 b2.1 b2.2, HAT.out]
                simp)
              have d0 := HE3.out.va ja (by rw [HVl.out]; omega)
              have d1 := HE3.out.va jb (by rw [HVl.out]; omega)
              rw [Nat.zero_add] at d0 d1
              have t1 : W3.cell? ⟨wr.heap.size, 1, none⟩ = some (.int .i64 ja) := by rw [HW3.out]; simp [go_sem]
              have t2 : W3.cell? ⟨wr.heap.size, 2, none⟩ = some (.int .i64 jb) := by rw [HW3.out]; simp [go_sem]
              have ht3 : wr.heap.size < W3.heap.size := by rw [HW3.out]; simp
              have hv3 : g2 < W3.heap.size := HE3.out.lv
              obtain ⟨da, hda⟩ : ∃ d, d = (evL p x y z L L.length).getD ja 0 := ⟨_, rfl⟩
              obtain ⟨db, hdb⟩ : ∃ d, d = (evL p x y z L L.length).getD jb 0 := ⟨_, rfl⟩
              rw [← hda, ← hdb] at HRR
              rw [← hda] at d0
              rw [← hdb] at d1
              have ja0 : (0 : Int) ≤ ja := by omega
              have jb0 : (0 : Int) ≤ jb := by omega
              have jan : (ja : Int) < (L.length : Int) := by omega
              have jbn : (jb : Int) < (L.length : Int) := by omega
              obtain ⟨r, hr⟩ : ∃ r, addV p da db = r := ⟨_, rfl⟩
              rw [hr] at HRR
              have HR := Lib.hid hr
              clear hr hda hdb
              go_wp2_with fail
              rw [← HW3.out]
              clear HW3 a0 a1 a2 hcs HAT v0 hlA c0 c1 c2
              go_region_held3 (fun w' => w'.cell? ⟨wr.heap.size, 1, none⟩ = some (.int .i64 ja) ∧ w'.cell? ⟨wr.heap.size, 2, none⟩ = some (.int .i64 jb) ∧ w'.cell? ⟨g2, ja, none⟩ = some (.int .i64 da) ∧ w'.cell? ⟨g2, jb, none⟩ = some (.int .i64 db)) (first | exact keepVal hb8 (by simpa using hv3) (by simpa using ht3) (by assumption) | go_keep)
                (first | (go_at_call 10; refine (iAdd p da db _).mono ?_; rintro e w8 ⟨he, hb8⟩; rw [HR.out] at he; subst he))
              all_goals
                have HE8 := Lib.hid ((HE3.out.on (w' := W3.drew) (Below.drew (Below.refl _ _))).on hb8)
                clear hb8 t1 t2 d0 d1
                go_wp2_with fail
                obtain ⟨c0, c1, c2⟩ := HE8.out.pt
                have hA8 := HE8.out.la
                have HRV := Lib.hid (show (evL p x y z L L.length).getD k 0 = r by exact HRR.out.symm)
                have HE9 := Lib.hid (HE8.out.on (w' := w8.drew) (Below.drew (Below.refl _ _)))
                have HCT := Lib.hid (show ∀ j : Nat, j < (L.take (k + 1)).length → GAt w8.drew g (0 + j * 3) ((L.take (k + 1)).getD j default) from fun j hj => by
                  have hj' : j < k + 1 := by simp at hj; omega
                  have := HE9.out.ga j (by omega)
                  rwa [← show (L.take (k + 1)).getD j default = L.getD j default from gAt_take hj'] at this)
                have HPR := Lib.hid (show ∀ j : Nat, j < k + 1 → (evL p x y z L (k + 1)).getD j 0 = (evL p x y z L L.length).getD j 0 from fun j hj => by
                  rw [evL_st p x y z L j (k + 1) hj, evL_st p x y z L j L.length (by omega)])
                go_region_held3 (fun w' => w'.cell? ⟨AB, 0, none⟩ = some (.int .i64 x) ∧ w'.cell? ⟨AB, 1, none⟩ = some (.int .i64 y) ∧ w'.cell? ⟨AB, 2, none⟩ = some (.int .i64 z)) (first | exact keepPt hb9 (by simpa using hA8) (by assumption) | go_keep)
                  (first | (go_at_call 7; refine (iEval_n p x y z (L.take (k + 1)) (k + 1) (by simp; omega) (circB_take HVC.out (by omega) (by omega)) HVE.out g cap1 _ HE9.out.lg HCT.out (evL p x y z L (k + 1)) (evL_take p x y z L (k + 1) (k + 1) (Nat.le_refl _))).mono ?_; rintro e w9 ⟨u9, rfl, hI9, hb9⟩))
                all_goals
                  have E9 := HE9.out.on hb9
                  have HE10 := Lib.hid E9
                  have v0 := E9.va k (by rw [HVl.out]; exact hlt)
                  rw [Nat.zero_add, HRV.out] at v0
                  have J9 : Ints w9 (.slice (some ⟨g2, 0, none⟩) (k + 1) uc) (evL p x y z L (k + 1)) :=
                    ⟨by rw [evL_len]; omega, _, _, by rw [evL_len], .inr ⟨g2, 0, rfl, E9.lv, fun j hj => by rw [evL_len] at hj; rw [HPR.out j hj]; exact E9.va j (by rw [HVl.out]; omega)⟩⟩
                  have HI9 := Lib.hid hI9
                  have HJ9 := Lib.hid J9
                  clear hb9 hI9 J9 E9 c0 c1 c2 HCT HPR HE9
                  go_wp2_with fail
                  refine (sameInts _ _ _ _ HI9.out HJ9.out).mono ?_
                  rintro e w10 ⟨rfl, hd10⟩
                  have HE11 := Lib.hid (HE10.out.on (hd10.below _))
                  clear hd10 HI9 HJ9 HE10 v0
                  go_wp2_with fail
                  go_roundw
                  case rel => exact ⟨k + 1, by omega, by go_num, HE11.out⟩
                  case measure => simp [intOf]; omega
            · have HRR := Lib.hid (show mulV p ((evL p x y z L L.length).getD ja 0) ((evL p x y z L L.length).getD jb 0) = (evL p x y z L L.length).getD k 0 by
                have b1 := evL_bd HVC.out HVE.out L.length (Nat.le_refl _) ja (by omega)
                have b2 := evL_bd HVC.out HVE.out L.length (Nat.le_refl _) jb (by omega)
                rw [mulV_at (circB_iff.1 HVC.out).1 b1.1 b1.2 b2.1 b2.2, HAT.out]
                simp)
              have d0 := HE3.out.va ja (by rw [HVl.out]; omega)
              have d1 := HE3.out.va jb (by rw [HVl.out]; omega)
              rw [Nat.zero_add] at d0 d1
              have t1 : W3.cell? ⟨wr.heap.size, 1, none⟩ = some (.int .i64 ja) := by rw [HW3.out]; simp [go_sem]
              have t2 : W3.cell? ⟨wr.heap.size, 2, none⟩ = some (.int .i64 jb) := by rw [HW3.out]; simp [go_sem]
              have ht3 : wr.heap.size < W3.heap.size := by rw [HW3.out]; simp
              have hv3 : g2 < W3.heap.size := HE3.out.lv
              obtain ⟨da, hda⟩ : ∃ d, d = (evL p x y z L L.length).getD ja 0 := ⟨_, rfl⟩
              obtain ⟨db, hdb⟩ : ∃ d, d = (evL p x y z L L.length).getD jb 0 := ⟨_, rfl⟩
              rw [← hda, ← hdb] at HRR
              rw [← hda] at d0
              rw [← hdb] at d1
              have ja0 : (0 : Int) ≤ ja := by omega
              have jb0 : (0 : Int) ≤ jb := by omega
              have jan : (ja : Int) < (L.length : Int) := by omega
              have jbn : (jb : Int) < (L.length : Int) := by omega
              obtain ⟨r, hr⟩ : ∃ r, mulV p da db = r := ⟨_, rfl⟩
              rw [hr] at HRR
              have HR := Lib.hid hr
              clear hr hda hdb
              go_wp2_with fail
              rw [← HW3.out]
              clear HW3 a0 a1 a2 hcs HAT v0 hlA c0 c1 c2
              go_region_held3 (fun w' => w'.cell? ⟨wr.heap.size, 1, none⟩ = some (.int .i64 ja) ∧ w'.cell? ⟨wr.heap.size, 2, none⟩ = some (.int .i64 jb) ∧ w'.cell? ⟨g2, ja, none⟩ = some (.int .i64 da) ∧ w'.cell? ⟨g2, jb, none⟩ = some (.int .i64 db)) (first | exact keepVal hb8 (by simpa using hv3) (by simpa using ht3) (by assumption) | go_keep)
                (first | (go_at_call 11; refine (iMul p da db _).mono ?_; rintro e w8 ⟨he, hb8⟩; rw [HR.out] at he; subst he))
              all_goals
                have HE8 := Lib.hid ((HE3.out.on (w' := W3.drew) (Below.drew (Below.refl _ _))).on hb8)
                clear hb8 t1 t2 d0 d1
                go_wp2_with fail
                obtain ⟨c0, c1, c2⟩ := HE8.out.pt
                have hA8 := HE8.out.la
                have HRV := Lib.hid (show (evL p x y z L L.length).getD k 0 = r by exact HRR.out.symm)
                have HE9 := Lib.hid (HE8.out.on (w' := w8.drew) (Below.drew (Below.refl _ _)))
                have HCT := Lib.hid (show ∀ j : Nat, j < (L.take (k + 1)).length → GAt w8.drew g (0 + j * 3) ((L.take (k + 1)).getD j default) from fun j hj => by
                  have hj' : j < k + 1 := by simp at hj; omega
                  have := HE9.out.ga j (by omega)
                  rwa [← show (L.take (k + 1)).getD j default = L.getD j default from gAt_take hj'] at this)
                have HPR := Lib.hid (show ∀ j : Nat, j < k + 1 → (evL p x y z L (k + 1)).getD j 0 = (evL p x y z L L.length).getD j 0 from fun j hj => by
                  rw [evL_st p x y z L j (k + 1) hj, evL_st p x y z L j L.length (by omega)])
                go_region_held3 (fun w' => w'.cell? ⟨AB, 0, none⟩ = some (.int .i64 x) ∧ w'.cell? ⟨AB, 1, none⟩ = some (.int .i64 y) ∧ w'.cell? ⟨AB, 2, none⟩ = some (.int .i64 z)) (first | exact keepPt hb9 (by simpa using hA8) (by assumption) | go_keep)
                  (first | (go_at_call 7; refine (iEval_n p x y z (L.take (k + 1)) (k + 1) (by simp; omega) (circB_take HVC.out (by omega) (by omega)) HVE.out g cap1 _ HE9.out.lg HCT.out (evL p x y z L (k + 1)) (evL_take p x y z L (k + 1) (k + 1) (Nat.le_refl _))).mono ?_; rintro e w9 ⟨u9, rfl, hI9, hb9⟩))
                all_goals
                  have E9 := HE9.out.on hb9
                  have HE10 := Lib.hid E9
                  have v0 := E9.va k (by rw [HVl.out]; exact hlt)
                  rw [Nat.zero_add, HRV.out] at v0
                  have J9 : Ints w9 (.slice (some ⟨g2, 0, none⟩) (k + 1) uc) (evL p x y z L (k + 1)) :=
                    ⟨by rw [evL_len]; omega, _, _, by rw [evL_len], .inr ⟨g2, 0, rfl, E9.lv, fun j hj => by rw [evL_len] at hj; rw [HPR.out j hj]; exact E9.va j (by rw [HVl.out]; omega)⟩⟩
                  have HI9 := Lib.hid hI9
                  have HJ9 := Lib.hid J9
                  clear hb9 hI9 J9 E9 c0 c1 c2 HCT HPR HE9
                  go_wp2_with fail
                  refine (sameInts _ _ _ _ HI9.out HJ9.out).mono ?_
                  rintro e w10 ⟨rfl, hd10⟩
                  have HE11 := Lib.hid (HE10.out.on (hd10.below _))
                  clear hd10 HI9 HJ9 HE10 v0
                  go_wp2_with fail
                  go_roundw
                  case rel => exact ⟨k + 1, by omega, by go_num, HE11.out⟩
                  case measure => simp [intOf]; omega
      · have hkl : k = L.length := by omega
        subst hkl
        have hK' := HK'.out
        go_wp2_with fail
        go_ret
        exact ⟨rfl, HS.out.low⟩
theorem wEval_long (a : Option Addr) (len cap : Nat) (w : World) (h : len ≤ cap ∧ cap ≤ 9223372036854775807) (hl : ¬ len ≤ 1048576) :
    Calls Try.prog 3 #[.slice a len cap] w fun e w' => e = .returned (.bool true) ∧ Below w.heap.size w w' := by
  obtain ⟨h1, h2⟩ := h
  go_enter Try.func3, Try.ntmps3
  go_wp2_with fail
  go_ret
  exact ⟨rfl, Below.refl _ _⟩
theorem wEval (a : Option Addr) (len cap : Nat) (w : World) (h : ByteRow w a len cap) :
    Calls Try.prog 3 #[.slice a len cap] w fun e w' => e = .returned (.bool true) ∧ Below w.heap.size w w' := by
  by_cases hl : len ≤ 1048576
  · exact wEval_in a len cap w h hl
  · exact wEval_long a len cap w ⟨h.1, h.2.1⟩ hl
end Go.Proofs.Ytgbjchidnnmifaa
