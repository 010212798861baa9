/-
  The walk of the law of FormulaOfCircuit. Conditions: none but that the bytes can be read.
-/
import Derived.Test.YtegkcfinklcglaaBq5
import Derived.Test.YtegkcfinklcglaaBo45
import Derived.Test.YtegkcfinklcglaaBq1
import Derived.Test.YtegkcfinklcglaaBo39
import Derived.Test.YtegkcfinklcglaaBo46
import Derived.Test.YtegkcfinklcglaaBq2
import Derived.Test.YtegkcfinklcglaaBo17
namespace Go.Proofs.Ytegkcfinklcglaa
open Go.RowKit
set_option maxHeartbeats 1000000 in
theorem drawFoC (a : Option Addr) (len cap : Nat) (w : World) (h : ByteRow w a len cap) :
    Calls Try.prog 71 #[.slice a len cap] w (DrawC w) := by
  go_enter Try.func71, Try.ntmps71
  go_wp2_with fail
  refine (open_any a len cap w h).mono ?_
  rintro e w1 ⟨a1, l1, c1, rfl, hR1, hb1⟩
  go_wp2_with fail
  refine (circ_any w.heap.size a1 l1 c1 0 w1 hR1 (by omega)).mono ?_
  rintro e w2 ⟨p, v, M, q, rfl, hp, hM, hq, hR2, hr2, hn2, hg2⟩
  have hO := Lib.hid ((hr2.mono hb1.size).own (by omega))
  have hB := Lib.hid (below_reader' hb1 hg2)
  clear hR1 hR2 hr2 hb1 hg2
  go_wp2_with fail
  refine bodyPost_ret (v := .tuple #[.int .i64 p, v]) (by simp [results, Try.results71, go_sem]) rfl ⟨p, v, M, rfl, hp, hM, hO.out, hn2, hB.out⟩
theorem foc_cases (p : Int) (L : List Gt) : (sprV p L < 0 ∧ focB p L = false) ∨ ((0 ≤ sprV p L ∧ sprV p L ≤ 60) ∧ focB p L = true) ∨ ((0 ≤ sprV p L ∧ 60 < sprV p L) ∧ focB p L = false) := by
  unfold focB
  cases hv : circB p L
  · refine .inl ⟨?_, rfl⟩
    unfold sprV
    rw [hv]
    simp
  · have h0 : 0 ≤ szAt L (L.length - 1) := (sizL_bd L _ _).1
    rw [sprV_at hv, Bool.true_and]
    by_cases h : szAt L (L.length - 1) ≤ 60
    · exact .inr (.inl ⟨⟨h0, h⟩, decide_eq_true h⟩)
    · exact .inr (.inr ⟨⟨h0, by omega⟩, decide_eq_false h⟩)
set_option maxRecDepth 100000 in
set_option maxHeartbeats 16000000 in
theorem wFoC_in (a : Option Addr) (len cap : Nat) (w : World) (h : ByteRow w a len cap) (hl : len ≤ 1048576) :
    Calls Try.prog 13 #[.slice a len cap] w fun e w' => e = .returned (.bool true) ∧ Below w.heap.size w w' := by
  have hlp : (len : Int) ≤ 1048576 := by omega
  have HD := Lib.hid (drawFoC a len cap w h)
  clear h
  go_enter Try.func13, Try.ntmps13
  go_wp2_with fail
  refine HD.out.mono ?_
  rintro e w1 ⟨p, c, G, rfl, -, hG, ho1, -, hb1⟩
  have HK1 := Lib.hid (show NK w [(c, G)] [] [] w1 from NK.one hb1 ho1.gats)
  clear ho1 hb1 HD
  have key := foc_cases p G
  obtain ⟨z, hz⟩ : ∃ z, z = sprV p G := ⟨_, rfl⟩
  obtain ⟨b, hbe⟩ : ∃ b, b = focB p G := ⟨_, rfl⟩
  obtain ⟨S, hS⟩ : ∃ S, S = focS p G := ⟨_, rfl⟩
  have HZ := Lib.hid hz
  have HBE := Lib.hid hbe
  have HSE := Lib.hid hS
  rw [← hz, ← hbe] at key
  clear hz hbe hS
  go_wp2_with fail
  refine (iFoC p c G w1 (HK1.out.gg (by simp))).mono ?_
  rw [← HBE.out, ← HSE.out]
  rintro e w2 ⟨rfl, hb⟩
  have HK2 := Lib.hid (HK1.out.on hb)
  clear hb HK1
  go_wp2_with fail
  refine (sFoC p c G w2 (HK2.out.gg (by simp))).mono ?_
  rw [← HBE.out, ← HSE.out]
  rintro e w3 ⟨rfl, hb⟩
  have HK3 := Lib.hid (HK2.out.on hb)
  clear hb HK2
  go_wp2_with fail
  refine (iSpreadSize p c G w3 (HK3.out.gg (by simp))).mono ?_
  rw [← HZ.out]
  rintro e w4 ⟨rfl, hb⟩
  have HK4 := Lib.hid (HK3.out.on hb)
  clear hb HK3
  have hbb : (b != b) = false := by cases b <;> rfl
  go_wp2_with fail
  refine (sSpreadSize p c G w4 (HK4.out.gg (by simp))).mono ?_
  rw [← HZ.out]
  rintro e w5 ⟨rfl, hb⟩
  have HK5 := Lib.hid (HK4.out.on hb)
  clear hb HK4
  rcases key with ⟨h1, rfl⟩ | ⟨⟨h0, h1⟩, rfl⟩ | ⟨⟨h0, h1⟩, rfl⟩
  · go_wp2_with fail
    refine (sSpreadSize p c G w5 (HK5.out.gg (by simp))).mono ?_
    rw [← HZ.out]
    rintro e w6 ⟨rfl, hb⟩
    have HK6 := Lib.hid (HK5.out.on hb)
    clear hb HK5
    go_wp2_with fail
    go_ret
    exact ⟨rfl, HK6.out.low⟩
  · obtain ⟨e0, hF⟩ := focF HBE.out.symm
    rw [← HSE.out] at e0
    rw [← e0] at hF
    have hsz : (S.size : Int) = z := by rw [hF.sz]; exact HZ.out.symm
    have HF := Lib.hid hF
    have hn0 : ¬ z < 0 := by omega
    obtain ⟨D, hD⟩ : ∃ D, D = cofV p S := ⟨_, rfl⟩
    have hdl : (D.length : Int) ≤ (G.length : Int) := by have := hF.le; rw [hD]; omega
    have HDD := Lib.hid hD
    clear hF e0 hbb hD
    obtain ⟨_, ca, cc, rfl, hcl⟩ := HK5.out.gg (v := c) (L := G) (by simp)
    clear hcl
    go_wp2_with fail
    refine (iPolyOfFormula p S w5).mono ?_
    rw [HF.out.ok, HF.out.po]
    rintro e w6 ⟨fv, rfl, ho, hb⟩
    have HK6 := Lib.hid ((HK5.out.on hb).addT ho.trms)
    clear ho hb HK5
    go_wp2_with fail
    refine (iPolyOfCircuit p _ G w6 (HK6.out.gg (by simp))).mono ?_
    rintro e w7 ⟨gv, rfl, ho, hb⟩
    have HK7 := Lib.hid ((HK6.out.on hb).addT ho.trms)
    clear ho hb HK6
    generalize pcV p G = P at HK7
    generalize pcOk p G = one
    have hoo : (one == one) = true := by cases one <;> rfl
    go_wp2_with fail
    refine (iCircuitOfFormula p S w7).mono ?_
    rw [HF.out.fo, ← HDD.out]
    rintro e w8 ⟨dv, rfl, ho, hb⟩
    have HK8 := Lib.hid ((HK7.out.on hb).addG ho.gats)
    clear ho hb HK7
    obtain ⟨_, da, dc, rfl, hdd⟩ := HK8.out.gg (v := dv) (L := D) (by simp)
    clear hdd
    go_wp2_with fail
    refine (acP fv gv P w8 (HK8.out.tt (by simp)) (HK8.out.tt (by simp))).mono ?_
    rintro e w9 ⟨rfl, hb⟩
    have HK9 := Lib.hid (HK8.out.on hb)
    clear hb HK8
    go_wp2_with fail
    refine (iFormulaValid p S w9).mono ?_
    rw [fokB_some, HF.out.fo]
    rintro e w10 ⟨rfl, hb⟩
    have HK10 := Lib.hid (HK9.out.on hb)
    clear hb HK9
    go_wp2_with fail
    go_ret
    exact ⟨rfl, HK10.out.low⟩
  · have hn0 : ¬ z < 0 := by omega
    have hn6 : ¬ z ≤ 60 := by omega
    go_wp2_with fail
    go_ret
    exact ⟨by show Ending.returned (Value.bool (!decide (z ≤ 60))) = _; rw [decide_eq_false (by omega)]; rfl, HK5.out.low⟩
set_option maxRecDepth 100000 in
set_option maxHeartbeats 4000000 in
theorem wFoC (a : Option Addr) (len cap : Nat) (w : World) (h : ByteRow w a len cap) :
    Calls Try.prog 13 #[.slice a len cap] w fun e w' => e = .returned (.bool true) ∧ Below w.heap.size w w' := by
  by_cases hl : len ≤ 1048576
  · exact wFoC_in a len cap w h hl
  · have hp : (1048576 : Int) < (len : Int) := by omega
    have h1 := Nat.le_trans h.1 h.2.1
    clear h
    go_enter Try.func13, Try.ntmps13
    go_wp2_with fail
    go_ret
    exact ⟨rfl, Below.refl _ _⟩
end Go.Proofs.Ytegkcfinklcglaa
