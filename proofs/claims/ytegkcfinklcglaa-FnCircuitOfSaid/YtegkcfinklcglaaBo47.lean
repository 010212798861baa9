/-
  The walk of the law of CircuitOf. Conditions: none but that the bytes can be read.
-/
import Derived.Test.YtegkcfinklcglaaBo43
import Derived.Test.YtegkcfinklcglaaBo40
import Derived.Test.YtegkcfinklcglaaBo38
import Derived.Test.YtegkcfinklcglaaBo41
import Derived.Test.YtegkcfinklcglaaBo39
import Derived.Test.YtegkcfinklcglaaBo46
import Derived.Test.YtegkcfinklcglaaBo15
import Derived.Test.YtegkcfinklcglaaBo19
import Derived.Test.YtegkcfinklcglaaBo10
import Derived.Test.YtegkcfinklcglaaBo14
namespace Go.Proofs.Ytegkcfinklcglaa
open Go.RowKit
def DrawTO (w : World) (e : Ending) (w' : World) : Prop :=
  ∃ (p : Int) (v : Value) (L : List Trm), e = .returned (.tuple #[.int .i64 p, v]) ∧ L.length ≤ 121 ∧ Row w' w.heap.size v L ∧ Below w.heap.size w w'
set_option maxHeartbeats 1000000 in
theorem drawCircuitOf (a : Option Addr) (len cap : Nat) (w : World) (h : ByteRow w a len cap) :
    Calls Try.prog 63 #[.slice a len cap] w (DrawTO w) := by
  go_enter Try.func63, Try.ntmps63
  go_wp2_with fail
  refine (open_any a len cap w h).mono ?_
  rintro e w1 ⟨a1, l1, c1, rfl, hR1, hb1⟩
  go_wp2_with fail
  refine (poly_any w.heap.size a1 l1 c1 0 w1 hR1 (by omega)).mono ?_
  rintro e w2 ⟨p, v, M, q1, rfl, hp, hM, hq1, hR2, hr2, hg2⟩
  have hO := Lib.hid (row_base hr2 hb1.size)
  have hB := Lib.hid (below_readerT hb1 hg2)
  clear hR1 hR2 hr2 hb1 hg2
  go_wp2_with fail
  refine bodyPost_ret (v := .tuple #[.int .i64 p, v]) (by simp [results, Try.results63, go_sem]) rfl ⟨p, v, M, rfl, hM, hO.out, hB.out⟩
theorem coB_is {p : Int} {L : List Trm} (h : coB p L = true) : isP p = true ∧ validB p L = true ∧ (coG L).length ≤ 60 ∧ coV p L = coG L := by
  have e : coV p L = coG L := by unfold coV; rw [if_pos h]
  unfold coB at h
  simp only [Bool.and_eq_true, decide_eq_true_eq] at h
  exact ⟨h.1.1, h.1.2, h.2, e⟩
set_option maxRecDepth 100000 in
set_option maxHeartbeats 16000000 in
theorem wCircuitOf_in (a : Option Addr) (len cap : Nat) (w : World) (h : ByteRow w a len cap) (hl : len ≤ 1048576) :
    Calls Try.prog 11 #[.slice a len cap] w fun e w' => e = .returned (.bool true) ∧ Below w.heap.size w w' := by
  have hlp : (len : Int) ≤ 1048576 := by omega
  have HD := Lib.hid (drawCircuitOf a len cap w h)
  clear h
  go_enter Try.func11, Try.ntmps11
  go_wp2_with fail
  refine HD.out.mono ?_
  rintro e w1 ⟨p, f, L, rfl, hL, hr1, hb1⟩
  have HK1 := Lib.hid (show NK w [] [] [(f, L)] w1 from ⟨hb1, (fun q hq => by cases hq), (fun q hq => by cases hq), (fun q hq => by rw [List.mem_singleton.1 hq]; exact (hr1.own (by omega)).trms)⟩)
  clear hr1 hb1 HD
  go_wp2_with fail
  refine (iCircuitOf p f L w1 (HK1.out.tt (by simp))).mono ?_
  rintro e w2 ⟨cv, rfl, ho, hb⟩
  have HK2 := Lib.hid ((HK1.out.on hb).addG ho.gats)
  clear ho hb HK1
  go_wp2_with fail
  refine (sCircuitOf p f L w2 (HK2.out.tt (by simp))).mono ?_
  rintro e w3 ⟨wv, rfl, ho, hb⟩
  have HK3 := Lib.hid ((HK2.out.on hb).addG ho.gats)
  clear ho hb HK2
  obtain ⟨ok, hok⟩ : ∃ ok, ok = coB p L := ⟨_, rfl⟩
  have HOK := Lib.hid hok
  rw [← hok]
  clear hok
  have hbb : (ok != ok) = false := by cases ok <;> rfl
  go_wp2_with fail
  refine (sameGats cv wv (coV p L) w3 (HK3.out.gg (by simp)) (HK3.out.gg (by simp))).mono ?_
  rintro e w4 ⟨rfl, hd⟩
  have HK4 := Lib.hid (HK3.out.on (drawn_low hd))
  clear hd HK3
  cases ok
  · go_wp2_with fail
    refine (sameGats cv wv (coV p L) w4 (HK4.out.gg (by simp)) (HK4.out.gg (by simp))).mono ?_
    rintro e w5 ⟨rfl, hd⟩
    have HK5 := Lib.hid (HK4.out.on (drawn_low hd))
    clear hd HK4
    go_wp2_with fail
    go_ret
    exact ⟨rfl, HK5.out.low⟩
  · obtain ⟨hp, hV, hl60, e0⟩ := coB_is HOK.out.symm
    have hF := coF hp hV hl60
    rw [e0] at HK4
    generalize coG L = C at HK4 hF hl60
    have hlc : (C.length : Int) ≤ 60 := by omega
    obtain ⟨Z, hZ⟩ : ∃ Z, Z = useV p C := ⟨_, rfl⟩
    have HZ := Lib.hid (And.intro hZ (show Z.length = C.length by rw [hZ]; exact hF.us))
    have HF := Lib.hid hF
    have hdl : degV p L ≤ 1000 ∧ -2 ≤ degV p L := by
      have h1 := validB_len hV
      unfold degV
      rw [hp, hV]
      simp only [Bool.and_self, if_true]
      rw [topK_deg]
      refine ⟨topK_le (by omega) (fun y hy => ?_) _ (Nat.le_refl _), by have := topK_min degT L L.length; omega⟩
      have := validB_mem hV hy
      unfold degT
      omega
    clear hF hZ e0 HOK hbb hp hV hl60
    obtain ⟨_, ca, cc, rfl, hcl⟩ := HK4.out.gg (v := cv) (L := C) (by simp)
    obtain ⟨_, fa, fc, rfl, hfl⟩ := HK4.out.tt (v := f) (L := L) (by simp)
    clear hcl hfl
    go_wp2_with fail
    refine (iPolyOfCircuit p _ C w4 (HK4.out.gg (by simp))).mono ?_
    rw [HF.out.ok, HF.out.po]
    rintro e w5 ⟨gv, rfl, ho, hb⟩
    have HK5 := Lib.hid ((HK4.out.on hb).addT ho.trms)
    clear ho hb HK4
    go_wp2_with fail
    refine (iCostOf p _ C w5 (HK5.out.gg (by simp))).mono ?_
    rw [HF.out.su]
    rintro e w6 ⟨rfl, hb⟩
    have HK6 := Lib.hid (HK5.out.on hb)
    clear hb HK5
    generalize costV p C 3 = k3
    obtain ⟨m, hm⟩ : ∃ m, m = max ((L.length : Int) - 1) 0 := ⟨_, rfl⟩
    have HM := Lib.hid hm
    rw [← hm]
    clear hm
    go_wp2_with fail
    refine (acP gv _ L w6 (HK6.out.tt (by simp)) (HK6.out.tt (by simp))).mono ?_
    rintro e w7 ⟨rfl, hb⟩
    have HK7 := Lib.hid (HK6.out.on hb)
    clear hb HK6
    go_wp2_with fail
    refine (iUsedGates p _ C w7 (HK7.out.gg (by simp))).mono ?_
    rintro e w8 ⟨uv, rfl, ho, hb⟩
    have HK8 := Lib.hid (HK7.out.on hb)
    clear hb HK7
    rw [← HZ.out.1] at ho
    obtain ⟨_, ua, uc, rfl, _⟩ := ho.ints
    rw [HZ.out.2]
    clear ho
    have hw1 : IntKind.i64.wrap ((L.length : Int) - 1) = (L.length : Int) - 1 := IntWalk.i64_in _ (by omega)
    rw [HM.out]
    go_wp2_with fail
    refine (iFormalDegree p _ C w8 (HK8.out.gg (by simp))).mono ?_
    rw [HF.out.fd]
    rintro e w9 ⟨rfl, hb⟩
    have HK9 := Lib.hid (HK8.out.on hb)
    clear hb HK8
    go_wp2_with fail
    refine (iDegreeOf p _ L w9 (HK9.out.tt (by simp))).mono ?_
    rintro e w10 ⟨rfl, hb⟩
    have HK10 := Lib.hid (HK9.out.on hb)
    clear hb HK9
    generalize degV p L = dg at *
    go_wp2_with fail
    go_ret
    exact ⟨rfl, HK10.out.low⟩
set_option maxRecDepth 100000 in
set_option maxHeartbeats 4000000 in
theorem wCircuitOf (a : Option Addr) (len cap : Nat) (w : World) (h : ByteRow w a len cap) :
    Calls Try.prog 11 #[.slice a len cap] w fun e w' => e = .returned (.bool true) ∧ Below w.heap.size w w' := by
  by_cases hl : len ≤ 1048576
  · exact wCircuitOf_in a len cap w h hl
  · have hp : (1048576 : Int) < (len : Int) := by omega
    have h1 := Nat.le_trans h.1 h.2.1
    clear h
    go_enter Try.func11, Try.ntmps11
    go_wp2_with fail
    go_ret
    exact ⟨rfl, Below.refl _ _⟩
end Go.Proofs.Ytegkcfinklcglaa
