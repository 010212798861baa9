/-
  The walk of the law of SameValues. Conditions: none but that the bytes can be read.
-/
import Derived.Test.YtajabchbdhjdiaaBf3
import Derived.Test.YtajabchbdhjdiaaBf4
import Derived.Test.YtajabchbdhjdiaaBf2
import Derived.Test.YtajabchbdhjdiaaBa24
namespace Go.Proofs.Ytajabchbdhjdiaa
set_option linter.unusedVariables false
open Go.RowKit
theorem sameB_symm (p : Int) (L M : List Trm) : sameB p M L = sameB p L M := by
  unfold sameB
  rw [Bool.and_comm (okB p (vt0.1, M))]
  congr 1
  by_cases h : redV p L = redV p M
  · rw [decide_eq_true h, decide_eq_true h.symm]
  · rw [decide_eq_false h, decide_eq_false (fun e => h e.symm)]
set_option maxRecDepth 100000 in
set_option maxHeartbeats 16000000 in
theorem wSameValues_in (a : Option Addr) (len cap : Nat) (w : World) (h : ByteRow w a len cap) (hl : len ≤ 1048576) :
    Calls Try.prog 16 #[.slice a len cap] w fun e w' => e = .returned (.bool true) ∧ Below w.heap.size w w' := by
  have hlp : (len : Int) ≤ 1048576 := by omega
  have HD := Lib.hid (drawSameValues a len cap w h)
  clear h
  go_enter Try.func16, Try.ntmps16
  go_wp2_with fail
  refine HD.out.mono ?_
  rintro e w1 ⟨p, f, g, L, M, rfl, hL, hM, hf1, hg1, hb1⟩
  have HK1 := Lib.hid (show PK w [(f, L), (g, M)] w1 from ⟨hb1, fun z hz => by
    rcases List.mem_cons.1 hz with rfl | hz
    · exact hf1
    · rcases List.mem_cons.1 hz with rfl | hz
      · exact hg1
      · cases hz⟩)
  clear hf1 hg1 hb1 HD
  obtain ⟨s, hs⟩ : ∃ s, s = sameB p L M := ⟨_, rfl⟩
  have HI := Lib.hid (fun w h1 h2 => (show Calls Try.prog 59 #[.int .i64 p, f, g] w fun e w' => e = .returned (.bool s) ∧ Below w.heap.size w w' by rw [hs]; exact iSameValues p f g L M w h1 h2))
  have HS := Lib.hid (fun w h1 h2 => (show Calls Try.prog 60 #[.int .i64 p, f, g] w fun e w' => e = .returned (.bool s) ∧ Below w.heap.size w w' by rw [hs]; exact sSameValues p f g L M w h1 h2))
  have HT := Lib.hid (fun w h1 h2 => (show Calls Try.prog 59 #[.int .i64 p, g, f] w fun e w' => e = .returned (.bool s) ∧ Below w.heap.size w w' by rw [hs, ← sameB_symm]; exact iSameValues p g f M L w h1 h2))
  have HSE := Lib.hid hs
  have hss : (s != s) = false := by cases s <;> rfl
  have hse : (s == s) = true := by cases s <;> rfl
  clear hs
  go_wp2_with fail
  refine (HI.out _ (HK1.out.g (by simp)) (HK1.out.g (by simp))).mono ?_
  rintro e w2 ⟨rfl, hb⟩
  have HK2 := Lib.hid (HK1.out.on hb)
  clear hb HK1
  go_wp2_with fail
  refine (HS.out _ (HK2.out.g (by simp)) (HK2.out.g (by simp))).mono ?_
  rintro e w3 ⟨rfl, hb⟩
  have HK3 := Lib.hid (HK2.out.on hb)
  clear hb HK2
  have HVL := Lib.hid (fun w' (h : PK w [(f, L), (g, M)] w') => iPolyValid p f L w' (h.g (by simp)))
  have HVM := Lib.hid (fun w' (h : PK w [(f, L), (g, M)] w') => iPolyValid p g M w' (h.g (by simp)))
  cases hVL : (isP p && validB p L)
  · have hs0 : s = false := by rw [HSE.out]; unfold sameB okB; simp only [hVL]; rfl
    rw [hVL] at HVL
    subst hs0
    clear hVL
    go_wp2_with fail
    refine (HVL.out _ HK3.out).mono ?_
    rintro e w4 ⟨rfl, hb⟩
    have HK4 := Lib.hid (HK3.out.on hb)
    clear hb HK3
    go_wp2_with fail
    refine (HS.out _ (HK4.out.g (by simp)) (HK4.out.g (by simp))).mono ?_
    rintro e w5 ⟨rfl, hb⟩
    have HK5 := Lib.hid (HK4.out.on hb)
    clear hb HK4
    go_wp2_with fail
    go_ret
    exact ⟨rfl, HK5.out.low⟩
  · cases hVM : (isP p && validB p M)
    · have hs0 : s = false := by rw [HSE.out]; unfold sameB okB; simp only [hVL, hVM]; rfl
      rw [hVL] at HVL
      rw [hVM] at HVM
      subst hs0
      clear hVL hVM
      go_wp2_with fail
      refine (HVL.out _ HK3.out).mono ?_
      rintro e w4 ⟨rfl, hb⟩
      have HK4 := Lib.hid (HK3.out.on hb)
      clear hb HK3
      go_wp2_with fail
      refine (HVM.out _ HK4.out).mono ?_
      rintro e w5 ⟨rfl, hb⟩
      have HK5 := Lib.hid (HK4.out.on hb)
      clear hb HK4
      go_wp2_with fail
      refine (HS.out _ (HK5.out.g (by simp)) (HK5.out.g (by simp))).mono ?_
      rintro e w6 ⟨rfl, hb⟩
      have HK6 := Lib.hid (HK5.out.on hb)
      clear hb HK5
      go_wp2_with fail
      go_ret
      exact ⟨rfl, HK6.out.low⟩
    · have hvl : isP p = true ∧ validB p L = true := by simpa using hVL
      have hvm : isP p = true ∧ validB p M = true := by simpa using hVM
      have hpb := isP_bd hvl.1
      have hw1 : IntKind.i64.wrap (p - 1) = p - 1 := IntWalk.i64_in _ (by omega)
      have HR := Lib.hid (show s = decide (rdV p L = rdV p M) from by
        rw [(rd_is hvl.1 hvl.2).2, (rd_is hvm.1 hvm.2).2, HSE.out]
        unfold sameB okB
        simp only [hVL, hVM, Bool.true_and])
      have HDF := Lib.hid (fun (ho : addOk p L (sclV p (p - 1) M) = true) => show fnB p (sumV p L (sclV p (p - 1) M)) = !s from by
        rw [diff_is hvl.1 hvl.2 hvm.2 ho, HR.out, (rd_is hvl.1 hvl.2).2, (rd_is hvm.1 hvm.2).2])
      rw [hVL] at HVL
      rw [hVM] at HVM
      clear hVL hVM hvl hvm hpb
      go_wp2_with fail
      refine (HVL.out _ HK3.out).mono ?_
      rintro e w4 ⟨rfl, hb⟩
      have HK4 := Lib.hid (HK3.out.on hb)
      clear hb HK3
      go_wp2_with fail
      refine (HVM.out _ HK4.out).mono ?_
      rintro e w5 ⟨rfl, hb⟩
      have HK5 := Lib.hid (HK4.out.on hb)
      clear hb HK4
      go_wp2_with fail
      refine (iReducePoly p f L w5 (HK5.out.g (by simp))).mono ?_
      rintro e w6 ⟨av, rfl, ho, hb⟩
      have HK6 := Lib.hid ((HK5.out.on hb).add ho.trms)
      clear ho hb HK5
      go_wp2_with fail
      refine (iReducePoly p g M w6 (HK6.out.g (by simp))).mono ?_
      rintro e w7 ⟨bv, rfl, ho, hb⟩
      have HK7 := Lib.hid ((HK6.out.on hb).add ho.trms)
      clear ho hb HK6
      go_wp2_with fail
      refine (iScalePoly p g M (p - 1) w7 (HK7.out.g (by simp))).mono ?_
      rintro e w8 ⟨mv, rfl, ho, hb⟩
      have HK8 := Lib.hid ((HK7.out.on hb).add ho.trms)
      clear ho hb HK7
      go_wp2_with fail
      refine (iAddPoly p f mv L (sclV p (p - 1) M) w8 (HK8.out.g (by simp)) (HK8.out.g (by simp))).mono ?_
      rintro e w9 ⟨hv, rfl, ho, hb⟩
      have HK9 := Lib.hid ((HK8.out.on hb).add ho.trms)
      clear ho hb HK8
      obtain ⟨ok, hok⟩ : ∃ ok, ok = addOk p L (sclV p (p - 1) M) := ⟨_, rfl⟩
      rw [← hok] at HDF ⊢
      generalize sclV p (p - 1) M = N at *
      obtain ⟨t, ht⟩ : ∃ t, t = fnT p (sumV p L N) := ⟨_, rfl⟩
      obtain ⟨r, hr⟩ : ∃ r, r = fnB p (sumV p L N) := ⟨_, rfl⟩
      have HFN := Lib.hid (fun w h => (show Calls Try.prog 50 #[.int .i64 p, hv] w fun e w' => e = .returned (.tuple #[encP t, .bool r]) ∧ Below w.heap.size w w' by rw [ht, hr]; exact iFirstNonzero p hv (sumV p L N) w h))
      rw [← hr] at HDF
      obtain ⟨x, y, z⟩ := t
      simp only [encP] at HFN
      clear ht hr hok
      go_wp2_with fail
      refine (HFN.out _ (HK9.out.g (by simp))).mono ?_
      rintro e w10 ⟨rfl, hb⟩
      have HK10 := Lib.hid (HK9.out.on hb)
      clear hb HK9
      go_upto_region 12 with fail
      obtain ⟨WA, hWA⟩ : ∃ WA, WA = w10.alloc (Obj.cells #[.int .i64 x, .int .i64 y, .int .i64 z] 48) := ⟨_, rfl⟩
      have HKA := Lib.hid (HK10.out.on (w' := WA) (by rw [hWA]; exact Below.alloc (Below.refl _ _) (Nat.le_refl _) _))
      rw [← hWA]
      clear hWA HK10
      have HAC := Lib.hid (fun w h1 h2 => (show Calls Try.prog 41 #[av, bv] w fun e w' => e = .returned (.bool s) ∧ Below w.heap.size w w' by rw [HR.out]; exact acN av bv (rdV p L) (rdV p M) w h1 h2))
      cases ok
      · clear HDF
        go_wp2_with fail
        refine (HAC.out _ (HKA.out.g (by simp)) (HKA.out.g (by simp))).mono ?_
        rintro e w11 ⟨rfl, hb⟩
        have HK11 := Lib.hid (HKA.out.on hb)
        clear hb HKA
        go_wp2_with fail
        refine (HT.out _ (HK11.out.g (by simp)) (HK11.out.g (by simp))).mono ?_
        rintro e w12 ⟨rfl, hb⟩
        have HK12 := Lib.hid (HK11.out.on hb)
        clear hb HK11
        go_wp2_with fail
        go_ret
        exact ⟨rfl, HK12.out.low⟩
      · cases s
        · have hr0 : r = true := HDF.out rfl
          subst hr0
          clear HDF
          go_wp2_with fail
          refine (HAC.out _ (HKA.out.g (by simp)) (HKA.out.g (by simp))).mono ?_
          rintro e w11 ⟨rfl, hb⟩
          have HK11 := Lib.hid (HKA.out.on hb)
          clear hb HKA
          go_wp2_with fail
          refine (HT.out _ (HK11.out.g (by simp)) (HK11.out.g (by simp))).mono ?_
          rintro e w12 ⟨rfl, hb⟩
          have HK12 := Lib.hid (HK11.out.on hb)
          clear hb HK11
          go_wp2_with fail
          go_ret
          exact ⟨rfl, HK12.out.low⟩
        · have hr0 : r = false := HDF.out rfl
          subst hr0
          clear HDF
          go_wp2_with fail
          refine (HAC.out _ (HKA.out.g (by simp)) (HKA.out.g (by simp))).mono ?_
          rintro e w11 ⟨rfl, hb⟩
          have HK11 := Lib.hid (HKA.out.on hb)
          clear hb HKA
          go_wp2_with fail
          refine (HT.out _ (HK11.out.g (by simp)) (HK11.out.g (by simp))).mono ?_
          rintro e w12 ⟨rfl, hb⟩
          have HK12 := Lib.hid (HK11.out.on hb)
          clear hb HK11
          go_wp2_with fail
          go_ret
          exact ⟨rfl, HK12.out.low⟩
theorem wSameValues_long (a : Option Addr) (len cap : Nat) (w : World) (hl : 1048576 < len) :
    Calls Try.prog 16 #[.slice a len cap] w fun e w' => e = .returned (.bool true) ∧ Below w.heap.size w w' := by
  have hgt : (len : Int) > 1048576 := by omega
  clear hl
  go_enter Try.func16, Try.ntmps16
  go_wp2_with fail
  go_ret
  exact ⟨rfl, Below.refl _ _⟩
theorem wSameValues (a : Option Addr) (len cap : Nat) (w : World) (h : ByteRow w a len cap) :
    Calls Try.prog 16 #[.slice a len cap] w fun e w' => e = .returned (.bool true) ∧ Below w.heap.size w w' := by
  by_cases q : len ≤ 1048576
  · exact wSameValues_in a len cap w h q
  · exact wSameValues_long a len cap w (by omega)
end Go.Proofs.Ytajabchbdhjdiaa
