/-
  The walk of the law of PolyOfValues. Conditions: none but that the bytes can be read.
-/
import Derived.Test.YtajabchbdhjdiaaBh2
import Derived.Test.YtajabchbdhjdiaaBc3
import Derived.Test.YtajabchbdhjdiaaBh1
import Derived.Test.YtajabchbdhjdiaaBe2
import Derived.Test.YtajabchbdhjdiaaBg2
namespace Go.Proofs.Ytajabchbdhjdiaa
set_option linter.unusedVariables false
open Go.RowKit
set_option maxRecDepth 100000 in
set_option maxHeartbeats 16000000 in
theorem wPolyOfValues_in (a : Option Addr) (len cap : Nat) (w : World) (h : ByteRow w a len cap) (hl : len ≤ 1048576) :
    Calls Try.prog 10 #[.slice a len cap] w fun e w' => e = .returned (.bool true) ∧ Below w.heap.size w w' := by
  have hlp : (len : Int) ≤ 1048576 := by omega
  have HD := Lib.hid (drawPolyOfValues a len cap w h)
  clear h
  go_enter Try.func10, Try.ntmps10
  go_wp2_with fail
  refine HD.out.mono ?_
  rintro e w1 ⟨p, v, V, rfl, hL, hu1, hb1⟩
  have HK1 := Lib.hid (show PK w [] w1 from ⟨hb1, fun z hz => by cases hz⟩)
  have HU1 := Lib.hid hu1
  have hVl : V.length ≤ 1048576 := by omega
  clear hu1 hb1 HD
  obtain ⟨F, hF⟩ : ∃ F, F = pvV p V := ⟨_, rfl⟩
  obtain ⟨ok, hok⟩ : ∃ ok, ok = pvB p V := ⟨_, rfl⟩
  have HI := Lib.hid (fun w h => (show Calls Try.prog 28 #[.int .i64 p, v] w fun e w' => ∃ u, e = .returned (.tuple #[u, .bool ok]) ∧ OwnTrms w' w.heap.size u F ∧ Below w.heap.size w w' by rw [hF, hok]; exact iPolyOfValues p v V w h hVl))
  have HS := Lib.hid (fun w h => (show Calls Try.prog 26 #[.int .i64 p, v] w fun e w' => ∃ u, e = .returned (.tuple #[u, .bool ok]) ∧ OwnTrms w' w.heap.size u F ∧ Below w.heap.size w w' by rw [hF, hok]; exact sPolyOfValues p v V w h hVl))
  have HFO := Lib.hid (And.intro hF hok)
  have hbb : (ok != ok) = false := by cases ok <;> rfl
  have hbe : (ok == ok) = true := by cases ok <;> rfl
  clear hF hok
  go_wp2_with fail
  refine (HI.out _ HU1.out).mono ?_
  rintro e w2 ⟨gv, rfl, ho, hb⟩
  have HK2 := Lib.hid ((HK1.out.on hb).add ho.trms)
  have HU2 := Lib.hid (HU1.out.below hb)
  clear ho hb HK1 HU1
  go_wp2_with fail
  refine (HS.out _ HU2.out).mono ?_
  rintro e w3 ⟨wv, rfl, ho, hb⟩
  have HK3 := Lib.hid ((HK2.out.on hb).add ho.trms)
  have HU3 := Lib.hid (HU2.out.below hb)
  clear ho hb HK2 HU2
  go_wp2_with fail
  refine (acP gv wv F w3 (HK3.out.g (by simp)) (HK3.out.g (by simp))).mono ?_
  rintro e w4 ⟨rfl, hb⟩
  have HK4 := Lib.hid (HK3.out.on hb)
  have HU4 := Lib.hid (HU3.out.below hb)
  clear hb HK3 HU3
  cases ok
  · go_wp2_with fail
    refine (acP gv wv F w4 (HK4.out.g (by simp)) (HK4.out.g (by simp))).mono ?_
    rintro e w5 ⟨rfl, hb⟩
    have HK5 := Lib.hid (HK4.out.on hb)
    clear hb HK4
    go_wp2_with fail
    go_ret
    exact ⟨rfl, HK5.out.low⟩
  · obtain ⟨hp, hV, hr, hv⟩ := pv_back HFO.out.2.symm
    rw [← HFO.out.1] at hV hr hv
    have hrd := rd_is hp hV
    have HRV := Lib.hid (show rdV p F = F ∧ vlV p F = V from ⟨by rw [hrd.2]; exact hr, hv⟩)
    clear hp hV hr hv hrd
    go_wp2_with fail
    refine (iReducePoly p gv F w4 (HK4.out.g (by simp))).mono ?_
    rintro e w5 ⟨rv, rfl, ho, hb⟩
    rw [HRV.out.1] at ho
    have HK5 := Lib.hid ((HK4.out.on hb).add ho.trms)
    have HU5 := Lib.hid (HU4.out.below hb)
    clear ho hb HK4 HU4
    go_wp2_with fail
    refine (iValuesOfO p gv F w5 (HK5.out.g (by simp))).mono ?_
    rintro e w6 ⟨u, rfl, hu, hb⟩
    rw [HRV.out.2] at hu
    have HK6 := Lib.hid (HK5.out.on hb)
    have HU6 := Lib.hid (HU5.out.below hb)
    have HW6 := Lib.hid hu.ints
    clear hu hb HK5 HU5
    go_wp2_with fail
    refine (acS u v V V w6 HW6.out HU6.out rfl).mono ?_
    rintro e w7 ⟨rfl, hdr⟩
    have HK7 := Lib.hid (HK6.out.on (hdr.below w6.heap.size))
    clear hdr HK6
    go_wp2_with fail
    refine (acP rv gv F w7 (HK7.out.g (by simp)) (HK7.out.g (by simp))).mono ?_
    rintro e w8 ⟨rfl, hb⟩
    have HK8 := Lib.hid (HK7.out.on hb)
    clear hb HK7
    go_wp2_with fail
    go_ret
    exact ⟨rfl, HK8.out.low⟩
theorem wPolyOfValues_long (a : Option Addr) (len cap : Nat) (w : World) (hl : 1048576 < len) :
    Calls Try.prog 10 #[.slice a len cap] w fun e w' => e = .returned (.bool true) ∧ Below w.heap.size w w' := by
  have hgt : (len : Int) > 1048576 := by omega
  clear hl
  go_enter Try.func10, Try.ntmps10
  go_wp2_with fail
  go_ret
  exact ⟨rfl, Below.refl _ _⟩
theorem wPolyOfValues (a : Option Addr) (len cap : Nat) (w : World) (h : ByteRow w a len cap) :
    Calls Try.prog 10 #[.slice a len cap] w fun e w' => e = .returned (.bool true) ∧ Below w.heap.size w w' := by
  by_cases q : len ≤ 1048576
  · exact wPolyOfValues_in a len cap w h q
  · exact wPolyOfValues_long a len cap w (by omega)
end Go.Proofs.Ytajabchbdhjdiaa
