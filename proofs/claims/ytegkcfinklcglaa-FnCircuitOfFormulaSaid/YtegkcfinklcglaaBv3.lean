/-
  The walk of the law of CircuitOfFormula. Conditions: none but that the bytes can be read.
-/
import Derived.Test.YtegkcfinklcglaaBv2
import Derived.Test.YtegkcfinklcglaaBv1
import Derived.Test.YtegkcfinklcglaaBo45
import Derived.Test.YtegkcfinklcglaaBo39
import Derived.Test.YtegkcfinklcglaaBo46
import Derived.Test.YtegkcfinklcglaaBq2
import Derived.Test.YtegkcfinklcglaaBo19
import Derived.Test.YtegkcfinklcglaaBo10
namespace Go.Proofs.Ytegkcfinklcglaa
open Go.RowKit
set_option maxRecDepth 100000 in
set_option maxHeartbeats 16000000 in
theorem wCoF_in (a : Option Addr) (len cap : Nat) (w : World) (h : ByteRow w a len cap) (hl : len ≤ 1048576) :
    Calls Try.prog 12 #[.slice a len cap] w fun e w' => e = .returned (.bool true) ∧ Below w.heap.size w w' := by
  have hlp : (len : Int) ≤ 1048576 := by omega
  have HD := Lib.hid (drawCoF a len cap w h)
  clear h
  go_enter Try.func12, Try.ntmps12
  go_wp2_with fail
  refine HD.out.mono ?_
  rintro e w1 ⟨p, s, rfl, hs70, hb1⟩
  have HB1 := Lib.hid hb1
  clear hb1 HD
  go_wp2_with fail
  refine (iCircuitOfFormula p s w1).mono ?_
  rintro e w2 ⟨cv, rfl, ho, hb⟩
  have HK2 := Lib.hid (NK.one (HB1.out.trans (hb.mono HB1.out.size)) ho.gats)
  clear ho hb HB1
  go_wp2_with fail
  refine (sCircuitOfFormula p s w2).mono ?_
  rintro e w3 ⟨wv, rfl, ho, hb⟩
  have HK3 := Lib.hid ((HK2.out.on hb).addG ho.gats)
  clear ho hb HK2
  obtain ⟨ok, hok⟩ : ∃ ok, ok = (foF p s).isSome := ⟨_, rfl⟩
  have HOK := Lib.hid hok
  rw [← hok]
  clear hok
  have hbb : (ok != ok) = false := by cases ok <;> rfl
  go_wp2_with fail
  refine (sameGats cv wv (cofV p s) w3 (HK3.out.gg (by simp)) (HK3.out.gg (by simp))).mono ?_
  rintro e w4 ⟨rfl, hd⟩
  have HK4 := Lib.hid (HK3.out.on (drawn_low hd))
  clear hd HK3
  cases ok
  · go_wp2_with fail
    refine (sameGats cv wv (cofV p s) w4 (HK4.out.gg (by simp)) (HK4.out.gg (by simp))).mono ?_
    rintro e w5 ⟨rfl, hd⟩
    have HK5 := Lib.hid (HK4.out.on (drawn_low hd))
    clear hd HK4
    go_wp2_with fail
    go_ret
    exact ⟨rfl, HK5.out.low⟩
  · have hF := cofF HOK.out.symm
    generalize cofV p s = D at HK4 hF
    have hds : (D.length : Int) ≤ (s.size : Int) := by have := hF.le; omega
    have HF := Lib.hid hF
    clear hF HOK hbb
    obtain ⟨_, ca, cc, rfl, hcl⟩ := HK4.out.gg (v := cv) (L := D) (by simp)
    have H1 := Lib.hid hcl
    clear hcl
    go_wp2_with fail
    go_loopw [60] (fun i wr => ∃ k : Nat, k ≤ D.length ∧ i = .int .i64 k ∧ Drawn w4 wr) (fun i _ => D.length - (intOf i).toNat)
    case atStart => exact ⟨0, by omega, rfl, Drawn.refl _⟩
    case round =>
      obtain ⟨i, hi, rfl, hR⟩ := hrel
      by_cases hlt : i < D.length
      · have hltp : (i : Int) < (D.length : Int) := by omega
        have hlen60 : (D.length : Int) ≤ 60 := by have := (circB_iff.1 HF.out.cb).2.2.1; omega
        have HR := Lib.hid hR
        clear hR
        go_wp2_with fail
        go_loopw [64] (fun j wr2 => ∃ m : Nat, m ≤ i ∧ j = .int .i64 m ∧ Drawn w4 wr2) (fun j _ => i - (intOf j).toNat)
        case atStart => exact ⟨0, by omega, rfl, HR.out⟩
        case round =>
          obtain ⟨m, hm, rfl, hR2⟩ := hrel
          by_cases hmi : m < i
          · obtain ⟨n, rfl⟩ := hR2
            rcases H1.out with h1 | ⟨g1, off1, rfl, hg1, hc1⟩
            · exact absurd hlt (by rw [h1]; simp)
            obtain ⟨c0, c1, c2⟩ := hc1 i hlt
            obtain ⟨d0, d1, d2⟩ := hc1 m (by omega)
            have hmip : (m : Int) < (i : Int) := by omega
            have hmD : (m : Int) < (D.length : Int) := by omega
            have hk0 : (0 : Int) ≤ (i : Int) := by omega
            have hm0 : (0 : Int) ≤ (m : Int) := by omega
            have hne : D.getD i default ≠ D.getD m default := fun e => by
              have := HF.out.nt i m hlt (by omega) e
              omega
            generalize D.getD i default = x at c0 c1 c2 hne
            generalize D.getD m default = y at d0 d1 d2 hne
            obtain ⟨xk, xa, xb⟩ := x
            obtain ⟨yk, ya, yb⟩ := y
            simp only at c0 c1 c2 d0 d1 d2
            simp only [ne_eq, Gt.mk.injEq, not_and] at hne
            clear hc1 H1 HR
            by_cases ek : xk = yk
            · by_cases ea : xa = ya
              · have eb := hne ek ea
                clear hne
                go_wp2_with fail
                go_quiet (fail)
                go_wp2
                go_roundw
                case rel => exact ⟨m + 1, by omega, by go_num, ⟨n + nq, by simp⟩⟩
                case measure => simp [intOf]; omega
              · clear hne
                go_wp2_with fail
                go_quiet (fail)
                go_wp2
                go_roundw
                case rel => exact ⟨m + 1, by omega, by go_num, ⟨n + nq, by simp⟩⟩
                case measure => simp [intOf]; omega
            · clear hne
              go_wp2_with fail
              go_quiet (fail)
              go_wp2
              go_roundw
              case rel => exact ⟨m + 1, by omega, by go_num, ⟨n + nq, by simp⟩⟩
              case measure => simp [intOf]; omega
          · have hge : (i : Int) ≤ (m : Int) := by omega
            have HR2 := Lib.hid hR2
            clear hR2 HR
            go_wp2_with fail
            go_roundw
            case rel => exact ⟨i + 1, by omega, by go_num, HR2.out⟩
            case measure => simp [intOf]; omega
      · have hge : (D.length : Int) ≤ (i : Int) := by omega
        have HK5 := Lib.hid (HK4.out.on (drawn_low hR))
        clear hR HK4 H1
        go_wp2_with fail
        refine (iPolyOfFormula p s _).mono ?_
        rw [HF.out.ok, HF.out.po]
        rintro e w6 ⟨fv, rfl, ho, hb⟩
        have HK6 := Lib.hid ((HK5.out.on hb).addT ho.trms)
        clear ho hb HK5
        go_wp2_with fail
        refine (iPolyOfCircuit p _ D w6 (HK6.out.gg (by simp))).mono ?_
        rintro e w7 ⟨gv, rfl, ho, hb⟩
        have HK7 := Lib.hid ((HK6.out.on hb).addT ho.trms)
        clear ho hb HK6
        generalize pcV p D = P at HK7
        generalize pcOk p D = one
        have hoo : (one == one) = true := by cases one <;> rfl
        go_wp2_with fail
        refine (iFoC p _ D w7 (HK7.out.gg (by simp))).mono ?_
        rw [HF.out.fb, HF.out.fs]
        rintro e w8 ⟨rfl, hb⟩
        have HK8 := Lib.hid (HK7.out.on hb)
        clear hb HK7
        go_wp2_with fail
        refine (acP fv gv P w8 (HK8.out.tt (by simp)) (HK8.out.tt (by simp))).mono ?_
        rintro e w9 ⟨rfl, hb⟩
        have HK9 := Lib.hid (HK8.out.on hb)
        clear hb HK8
        go_wp2_with fail
        refine (iUsedGates p _ D w9 (HK9.out.gg (by simp))).mono ?_
        rintro e w10 ⟨uv, rfl, ho, hb⟩
        have HK10 := Lib.hid (HK9.out.on hb)
        clear hb HK9
        obtain ⟨_, ua, uc, rfl, _⟩ := ho.ints
        rw [HF.out.us]
        clear ho
        go_wp2_with fail
        go_ret
        exact ⟨rfl, HK10.out.low⟩
set_option maxRecDepth 100000 in
set_option maxHeartbeats 4000000 in
theorem wCoF (a : Option Addr) (len cap : Nat) (w : World) (h : ByteRow w a len cap) :
    Calls Try.prog 12 #[.slice a len cap] w fun e w' => e = .returned (.bool true) ∧ Below w.heap.size w w' := by
  by_cases hl : len ≤ 1048576
  · exact wCoF_in a len cap w h hl
  · have hp : (1048576 : Int) < (len : Int) := by omega
    have h1 := Nat.le_trans h.1 h.2.1
    clear h
    go_enter Try.func12, Try.ntmps12
    go_wp2_with fail
    go_ret
    exact ⟨rfl, Below.refl _ _⟩
end Go.Proofs.Ytegkcfinklcglaa
