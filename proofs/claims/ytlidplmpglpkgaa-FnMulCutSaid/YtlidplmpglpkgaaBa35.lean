/-
  The walk of the law of MulCut. Conditions: none but that the bytes can be read.
-/
import Derived.Test.YtlidplmpglpkgaaBa34
import Derived.Test.YtlidplmpglpkgaaBa28
import Derived.Test.YtlidplmpglpkgaaBa27
import Derived.Test.YtlidplmpglpkgaaBa12
import Derived.Test.YtlidplmpglpkgaaBa33
namespace Go.Proofs.Ytlidplmpglpkgaa
open Go.RowKit
set_option maxRecDepth 100000 in
set_option maxHeartbeats 16000000 in
theorem wMulCut_in (a : Option Addr) (len cap : Nat) (w : World) (h : ByteRow w a len cap) (hl : len ≤ 1048576) :
    Calls Try.prog 11 #[.slice a len cap] w fun e w' => e = .returned (.bool true) ∧ Below w.heap.size w w' := by
  have hlp : (len : Int) ≤ 1048576 := by omega
  have HD := Lib.hid (drawMulCut a len cap w h)
  clear h
  go_enter Try.func11, Try.ntmps11
  go_wp2_with fail
  refine HD.out.mono ?_
  rintro e w1 ⟨p, f, g, L, M, k, rfl, hL, hM, hk, hr1, hr2, hb1⟩
  have HK1 := Lib.hid (show PK w [(f, L), (g, M)] w1 from ⟨hb1, fun z hz => by
    rcases List.mem_cons.1 hz with rfl | hz
    · exact (hr1.own (by omega)).trms
    · rcases List.mem_cons.1 hz with rfl | hz
      · exact (hr2.own (by omega)).trms
      · cases hz⟩)
  clear hr1 hr2 hb1 HD
  go_wp2_with fail
  refine (iMulCut p f g L M k w1 (HK1.out.g (by simp)) (HK1.out.g (by simp))).mono ?_
  rintro e w2 ⟨hv, rfl, ho, hb⟩
  have HK2 := Lib.hid ((HK1.out.on hb).add ho.trms)
  clear ho hb HK1
  go_wp2_with fail
  refine (sMulCut p f g L M k w2 (HK2.out.g (by simp)) (HK2.out.g (by simp))).mono ?_
  rintro e w3 ⟨wv, rfl, ho, hb⟩
  have HK3 := Lib.hid ((HK2.out.on hb).add ho.trms)
  clear ho hb HK2
  obtain ⟨ok, hok⟩ : ∃ ok, ok = mcOk p k L M := ⟨_, rfl⟩
  have HOK := Lib.hid hok
  rw [← hok]
  clear hok
  have hbb : (ok != ok) = false := by cases ok <;> rfl
  go_wp2_with fail
  refine (acP hv wv (mcL p k L M) w3 (HK3.out.g (by simp)) (HK3.out.g (by simp))).mono ?_
  rintro e w4 ⟨rfl, hb⟩
  have HK4 := Lib.hid (HK3.out.on hb)
  clear hb HK3
  cases ok
  · go_wp2_with fail
    refine (acP hv wv (mcL p k L M) w4 (HK4.out.g (by simp)) (HK4.out.g (by simp))).mono ?_
    rintro e w5 ⟨rfl, hb⟩
    have HK5 := Lib.hid (HK4.out.on hb)
    clear hb HK4
    go_wp2_with fail
    go_ret
    exact ⟨rfl, HK5.out.low⟩
  · have hF := mcF HOK.out.symm
    generalize mcL p k L M = S at HK4 hF
    generalize cutL k L = A0 at hF
    generalize cutL k M = B0 at hF
    have HF := Lib.hid hF
    clear hF
    go_wp2_with fail
    refine (iCutPoly p f L k w4 (HK4.out.g (by simp))).mono ?_
    rintro e w5 ⟨av, rfl, ho, hb⟩
    rw [HF.out.ca] at ho
    have HK5 := Lib.hid ((HK4.out.on hb).add ho.trms)
    clear ho hb HK4
    go_wp2_with fail
    refine (sCutPoly p f L k w5 (HK5.out.g (by simp))).mono ?_
    rintro e w6 ⟨wa, rfl, ho, hb⟩
    rw [HF.out.ca] at ho
    have HK6 := Lib.hid ((HK5.out.on hb).add ho.trms)
    clear ho hb HK5
    go_wp2_with fail
    refine (iCutPoly p g M k w6 (HK6.out.g (by simp))).mono ?_
    rintro e w7 ⟨bv, rfl, ho, hb⟩
    rw [HF.out.cb] at ho
    have HK7 := Lib.hid ((HK6.out.on hb).add ho.trms)
    clear ho hb HK6
    go_wp2_with fail
    refine (iMulCut p av bv A0 B0 k w7 (HK7.out.g (by simp)) (HK7.out.g (by simp))).mono ?_
    rintro e w8 ⟨tv, rfl, ho, hb⟩
    rw [HF.out.bo] at ho
    rw [HF.out.bb]
    have HK8 := Lib.hid ((HK7.out.on hb).add ho.trms)
    clear ho hb HK7
    go_wp2_with fail
    refine (iMulPoly p f g L M w8 (HK8.out.g (by simp)) (HK8.out.g (by simp))).mono ?_
    rintro e w9 ⟨uv, rfl, ho, hb⟩
    have HK9 := Lib.hid ((HK8.out.on hb).add ho.trms)
    clear ho hb HK8
    obtain ⟨good, hgd⟩ : ∃ b, b = mulOk p L M := ⟨_, rfl⟩
    have HG := Lib.hid hgd
    rw [← hgd]
    clear hgd
    cases good
    · go_wp2_with fail
      refine (acP av wa A0 w9 (HK9.out.g (by simp)) (HK9.out.g (by simp))).mono ?_
      rintro e w11 ⟨rfl, hb⟩
      have HK11 := Lib.hid (HK9.out.on hb)
      clear hb HK9
      go_wp2_with fail
      refine (acP tv hv S w11 (HK11.out.g (by simp)) (HK11.out.g (by simp))).mono ?_
      rintro e w12 ⟨rfl, hb⟩
      have HK12 := Lib.hid (HK11.out.on hb)
      clear hb HK11
      go_wp2_with fail
      refine (iDegreeOf p hv S w12 (HK12.out.g (by simp))).mono ?_
      rintro e w13 ⟨rfl, hb⟩
      have HK13 := Lib.hid (HK12.out.on hb)
      clear hb HK12
      have hdg := HF.out.dg
      go_wp2_with fail
      go_ret
      exact ⟨by simp, HK13.out.low⟩
    · go_wp2_with fail
      refine (iCutPoly p uv (mulL p L M) k w9 (HK9.out.g (by simp))).mono ?_
      rintro e w10 ⟨cv, rfl, ho, hb⟩
      rw [HF.out.wh HG.out.symm] at ho
      have HK10 := Lib.hid ((HK9.out.on hb).add ho.trms)
      clear ho hb HK9
      go_wp2_with fail
      refine (acP cv hv S w10 (HK10.out.g (by simp)) (HK10.out.g (by simp))).mono ?_
      rintro e w10' ⟨rfl, hb⟩
      have HK10' := Lib.hid (HK10.out.on hb)
      clear hb HK10
      go_wp2_with fail
      refine (acP av wa A0 w10' (HK10'.out.g (by simp)) (HK10'.out.g (by simp))).mono ?_
      rintro e w11 ⟨rfl, hb⟩
      have HK11 := Lib.hid (HK10'.out.on hb)
      clear hb HK10'
      go_wp2_with fail
      refine (acP tv hv S w11 (HK11.out.g (by simp)) (HK11.out.g (by simp))).mono ?_
      rintro e w12 ⟨rfl, hb⟩
      have HK12 := Lib.hid (HK11.out.on hb)
      clear hb HK11
      go_wp2_with fail
      refine (iDegreeOf p hv S w12 (HK12.out.g (by simp))).mono ?_
      rintro e w13 ⟨rfl, hb⟩
      have HK13 := Lib.hid (HK12.out.on hb)
      clear hb HK12
      have hdg := HF.out.dg
      go_wp2_with fail
      go_ret
      exact ⟨by simp, HK13.out.low⟩
set_option maxHeartbeats 2000000 in
theorem wMulCut_long (a : Option Addr) (len cap : Nat) (w : World) (h1 : len ≤ 9223372036854775807) (hl : ¬ len ≤ 1048576) :
    Calls Try.prog 11 #[.slice a len cap] w fun e w' => e = .returned (.bool true) ∧ Below w.heap.size w w' := by
  have hp : (1048576 : Int) < (len : Int) := by omega
  go_enter Try.func11, Try.ntmps11
  go_wp2_with fail
  go_ret
  exact ⟨rfl, Below.refl _ _⟩
theorem wMulCut (a : Option Addr) (len cap : Nat) (w : World) (h : ByteRow w a len cap) :
    Calls Try.prog 11 #[.slice a len cap] w fun e w' => e = .returned (.bool true) ∧ Below w.heap.size w w' := by
  by_cases hl : len ≤ 1048576
  · exact wMulCut_in a len cap w h hl
  · exact wMulCut_long a len cap w (Nat.le_trans h.1 h.2.1) hl
end Go.Proofs.Ytlidplmpglpkgaa
