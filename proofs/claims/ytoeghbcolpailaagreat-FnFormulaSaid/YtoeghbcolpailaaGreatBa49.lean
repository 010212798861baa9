/-
  The walk of the law of formulas. Conditions: none but that the bytes can be read.
-/
import Derived.Test.YtoeghbcolpailaaGreatBa48
import Derived.Test.YtoeghbcolpailaaGreatBa23
import Derived.Test.YtoeghbcolpailaaGreatBa36
import Derived.Test.YtoeghbcolpailaaGreatBa35
import Derived.Test.YtoeghbcolpailaaGreatBa29
namespace Go.Proofs.YtoeghbcolpailaaGreat
open Go.RowKit
def DrawFP (w : World) (e : Ending) (w' : World) : Prop :=
  ∃ (p : Int) (s : ByteArray) (x y z : Int), e = .returned (.tuple #[.int .i64 p, .string s, .agg #[.int .i64 x, .int .i64 y, .int .i64 z]]) ∧ s.size ≤ 70 ∧ Below w.heap.size w w'
set_option maxHeartbeats 4000000 in
theorem drawEvF (a : Option Addr) (len cap : Nat) (w : World) (h : ByteRow w a len cap) :
    Calls Tryz.prog 4 #[.slice a len cap] w (DrawFP w) := by
  have T0 := ThreeT.new w 23
  have hB0 : Below w.heap.size w (w.alloc (.cells #[.int .i64 0, .int .i64 0, .int .i64 0] 23)) := Below.alloc (Below.refl _ _) (Nat.le_refl _) _
  have hh := h.below hB0
  obtain ⟨W0, hW0⟩ : ∃ W, W = w.alloc (.cells #[.int .i64 0, .int .i64 0, .int .i64 0] 23) := ⟨_, rfl⟩
  have hs0 : W0.heap.size = w.heap.size + 1 := by rw [hW0]; simp
  rw [← hW0] at T0 hB0 hh
  have HW0 := Lib.hid hW0
  clear hW0 h
  go_enter Tryz.func4, Tryz.ntmps4
  go_wp2_with fail
  rw [← HW0.out]
  refine (open_any a len cap W0 hh).mono ?_
  rintro e w1 ⟨a1, l1, c1, rfl, hR1, hb1⟩
  have hs1 := hR1.sz
  obtain ⟨R, hR⟩ : ∃ R, R = W0.heap.size := ⟨_, rfl⟩
  rw [← hR] at hR1 hs1 ⊢
  have hwR : w.heap.size < R := by omega
  have hne : some w.heap.size ≠ some R := fun e => by injection e with e; omega
  have T1 := T0.same hb1.size (hb1.block _ T0.1)
  have hB1 := hB0.trans (hb1.mono hB0.size)
  clear T0 hb1 hB0 hh hs0 HW0 hR
  go_wp2_with fail
  refine (form_any R a1 l1 c1 0 w1 hR1 (by omega)).mono ?_
  rintro e w2 ⟨p, s, q, rfl, ⟨hp0, hp1⟩, hs, hq, hR2, hg2⟩
  have T2 := T1.same hg2.size (hg2.block _ T1.1 hne)
  have hB2 := hB1.grown hg2 hB1.size (fun k hk => by cases hk; omega)
  have hw1 : w.heap.size < w1.heap.size := T1.1
  clear T1 hg2 hR1 hB1
  go_wp2_with fail
  refine (pointT_any R a1 l1 c1 q p hp0 hp1 w2 hR2 (by omega)).mono ?_
  rintro e w3 ⟨x, y, z, q3, rfl, hq3, hR3, hg3⟩
  have T3 := T2.same hg3.size (hg3.block _ T2.1 hne)
  have hB3 := hB2.grown hg3 hB2.size (fun k hk => by cases hk; omega)
  obtain ⟨_, ⟨u0, t0⟩, ⟨u1, t1⟩, ⟨u2, t2⟩, f0, f1, f2⟩ := T3
  have HB := Lib.hid (Below.setCell (Below.setCell (Below.setCell hB3 (Nat.le_refl w.heap.size) (.int .i64 x)) (Nat.le_refl w.heap.size) (.int .i64 y)) (Nat.le_refl w.heap.size) (.int .i64 z) : Below w.heap.size w (((w3.setCell ⟨w.heap.size, 0, none⟩ (.int .i64 x)).setCell ⟨w.heap.size, 1, none⟩ (.int .i64 y)).setCell ⟨w.heap.size, 2, none⟩ (.int .i64 z)))
  clear T2 hR2 hR3 hg3 hB2 hB3 hne
  go_wp2_with fail
  refine bodyPost_ret (v := .tuple #[.int .i64 p, .string s, .agg #[.int .i64 x, .int .i64 y, .int .i64 z]]) (by simp [results, Tryz.results4, go_sem, t0, t1, t2]) rfl ⟨p, s, x, y, z, rfl, hs, HB.out⟩
theorem evf_cases (p x y z : Int) (s : ByteArray) : evfV p x y z s = -1 ∨ (0 ≤ evfV p x y z s ∧ isE3 p x y z = true ∧ fokB p s = true ∧ ForF p s) := by
  cases h : foF p s with
  | none => left; unfold evfV; rw [h]
  | some f =>
    have hF := forF h
    by_cases hE : isE3 p x y z = true
    · exact .inr ⟨hF.nn x y z hE, hE, by rw [fokB_some, h]; rfl, hF⟩
    · left; unfold evfV; rw [h]; simp [hE]
set_option maxRecDepth 100000 in
set_option maxHeartbeats 16000000 in
theorem wFor_in (a : Option Addr) (len cap : Nat) (w : World) (h : ByteRow w a len cap) (hl : len ≤ 1048576) :
    Calls Tryz.prog 3 #[.slice a len cap] w fun e w' => e = .returned (.bool true) ∧ Below w.heap.size w w' := by
  have hlp : (len : Int) ≤ 1048576 := by omega
  have HD := Lib.hid (drawEvF a len cap w h)
  clear h
  go_enter Tryz.func3, Tryz.ntmps3
  go_wp2_with fail
  refine HD.out.mono ?_
  rintro e w1 ⟨p, s, x, y, z, rfl, hs70, hb1⟩
  obtain ⟨n, hn⟩ : ∃ n, n = w1.heap.size := ⟨_, rfl⟩
  obtain ⟨W, hW⟩ : ∃ W, W = w1.alloc (Obj.cells #[.int .i64 x, .int .i64 y, .int .i64 z] 23) := ⟨_, rfl⟩
  have HP := Lib.hid (show PtAt W n x y z by rw [hW, hn]; refine ⟨?_, ?_, ?_⟩ <;> simp [go_sem])
  have HL := Lib.hid (show n < W.heap.size by rw [hW, hn]; simp)
  have HB0 := Lib.hid (show Below w.heap.size w W by rw [hW]; exact Below.alloc hb1 hb1.size _)
  have R := Lib.hid (Below.refl W.heap.size W)
  have HW := Lib.hid hW
  have HN := Lib.hid hn
  have key := evf_cases p x y z s
  obtain ⟨ev, hev⟩ : ∃ v, v = evfV p x y z s := ⟨_, rfl⟩
  obtain ⟨fk, hfk⟩ : ∃ v, v = fokB p s := ⟨_, rfl⟩
  have IE := Lib.hid (fun w => hev ▸ iEvalFormula p x y z s w)
  have SE := Lib.hid (fun w => hev ▸ sEvalFormula p x y z s w)
  have IV := Lib.hid (fun w => hfk ▸ iFormulaValid p s w)
  have SV := Lib.hid (fun w => hfk ▸ sFormulaValid p s w)
  have HEV := Lib.hid hev
  rw [← hev, ← hfk] at key
  have bf := bne_self2 fk
  have KEY := Lib.hid key
  clear hb1 HD hn hW hev hfk key
  go_upto_region 4 with fail
  rw [← HW.out, ← HN.out]
  clear HW HN
  obtain ⟨p0, p1, p2⟩ := HP.out
  go_wp2_with fail
  refine (IE.out _).mono ?_
  rintro e w2 ⟨rfl, hb⟩
  replace R := Lib.hid (R.out.trans (hb.mono R.out.size))
  obtain ⟨p0, p1, p2⟩ := HP.out.below R.out HL.out
  clear hb
  go_wp2_with fail
  refine (SE.out _).mono ?_
  rintro e w3 ⟨rfl, hb⟩
  replace R := Lib.hid (R.out.trans (hb.mono R.out.size))
  obtain ⟨p0, p1, p2⟩ := HP.out.below R.out HL.out
  clear hb
  go_wp2_with fail
  refine (IV.out _).mono ?_
  rintro e w4 ⟨rfl, hb⟩
  replace R := Lib.hid (R.out.trans (hb.mono R.out.size))
  clear hb
  go_wp2_with fail
  refine (SV.out _).mono ?_
  rintro e w5 ⟨rfl, hb⟩
  replace R := Lib.hid (R.out.trans (hb.mono R.out.size))
  obtain ⟨p0, p1, p2⟩ := HP.out.below R.out HL.out
  clear hb
  rcases KEY.out with h1 | ⟨h0, hE, hfk, hF⟩
  · subst h1
    clear KEY
    have bf2 : (fk == fk) = true := by simp
    go_wp2_with fail
    refine (SE.out _).mono ?_
    rintro e w6 ⟨rfl, hb⟩
    replace R := Lib.hid (R.out.trans (hb.mono R.out.size))
    clear hb
    go_wp2_with fail
    refine (IV.out _).mono ?_
    rintro e w7 ⟨rfl, hb⟩
    replace R := Lib.hid (R.out.trans (hb.mono R.out.size))
    clear hb
    go_wp2_with fail
    refine (SV.out _).mono ?_
    rintro e w8 ⟨rfl, hb⟩
    have HE := Lib.hid (HB0.out.trans ((R.out.trans (hb.mono R.out.size)).mono HB0.out.size))
    clear hb
    go_wp2_with fail
    go_ret
    exact ⟨rfl, HE.out⟩
  · have h0' : ¬ ev < 0 := by omega
    have HF := Lib.hid hF
    have HE3 := Lib.hid hE
    obtain ⟨pl, hpl⟩ : ∃ v, v = pffV p s := ⟨_, rfl⟩
    obtain ⟨pb, hpb⟩ : ∃ v, v = pffB p s := ⟨_, rfl⟩
    have IP := Lib.hid (fun w => hpl ▸ hpb ▸ iPolyOfFormula p s w)
    have SP := Lib.hid (fun w => hpl ▸ hpb ▸ sPolyOfFormula p s w)
    have HEP := Lib.hid (show pb = true → evV p x y z pl = ev by rw [hpl, hpb, HEV.out]; exact hF.ev x y z hE)
    have IEP := Lib.hid (fun f w h => iEvalPoly p x y z f pl w h)
    obtain ⟨lv, hlv⟩ : ∃ v, v = lvsV p s := ⟨_, rfl⟩
    have IL := Lib.hid (fun w => hlv ▸ iLeavesOf p s w)
    have hl2 : (2 : Int) * lv = (s.size : Int) + 1 := by rw [hlv]; exact hF.lv
    have IM := Lib.hid (show ∀ w, Calls Tryz.prog 7 #[.int .i64 p, .string (s ++ ByteArray.mk #[120])] w fun e w' => e = .returned (.bool false) ∧ Below w.heap.size w w' from fun w => by
      have h := iFormulaValid p (s ++ ByteArray.mk #[120]) w
      rw [hF.mo] at h
      exact h)
    have hs0 : (s.size : Int) ≤ 70 := by omega
    have hs00 : (0 : Int) ≤ (s.size : Int) := by omega
    have q1 : ((s.size : Int) + 1).tdiv 2 = lv := by rw [← hl2, Int.mul_comm]; exact Int.mul_tdiv_cancel _ (by decide)
    have q2 : IntKind.i64.wrap ((s.size : Int) + 1) = (s.size : Int) + 1 := IntWalk.i64_in _ (by omega)
    have q3 : IntKind.i64.wrap lv = lv := IntWalk.i64_in _ (by omega)
    have n1 : ¬ 9223372036854775807 < s.size + (ByteArray.mk #[120]).size := by show ¬ 9223372036854775807 < s.size + 1; omega
    have HS := Lib.hid hl2
    clear KEY hF hE hpl hpb hlv hfk hl2 h0
    go_wp2_with fail
    refine (IP.out _).mono ?_
    rintro e w6 ⟨f1, rfl, ho, hb⟩
    replace R := Lib.hid (R.out.trans (hb.mono R.out.size))
    have T1 := Lib.hid ho.trms
    clear ho hb
    go_wp2_with fail
    refine (SP.out _).mono ?_
    rintro e w7 ⟨f2, rfl, ho, hb⟩
    replace R := Lib.hid (R.out.trans (hb.mono R.out.size))
    replace T1 := Lib.hid (T1.out.below hb)
    have T2 := Lib.hid ho.trms
    clear ho hb
    go_wp2_with fail
    refine (acP f1 f2 pl _ T1.out T2.out).mono ?_
    rintro e w8 ⟨rfl, hb⟩
    replace R := Lib.hid (R.out.trans (hb.mono R.out.size))
    replace T1 := Lib.hid (T1.out.below hb)
    obtain ⟨p0, p1, p2⟩ := HP.out.below R.out HL.out
    clear hb
    have bl : (lv == lv) = true := by simp
    have be : (ev == ev) = true := by simp
    cases pb
    · go_wp2_with fail
      refine (IL.out _).mono ?_
      rintro e w9 ⟨rfl, hb⟩
      replace R := Lib.hid (R.out.trans (hb.mono R.out.size))
      clear hb
      go_wp2_with fail
      refine (IM.out _).mono ?_
      rintro e w10 ⟨rfl, hb⟩
      have HE := Lib.hid (HB0.out.trans ((R.out.trans (hb.mono R.out.size)).mono HB0.out.size))
      clear hb
      go_wp2_with fail
      go_ret
      exact ⟨rfl, HE.out⟩
    · go_wp2_with fail
      refine (show Calls Tryz.prog 12 #[.int .i64 p, f1, .agg #[.int .i64 x, .int .i64 y, .int .i64 z]] _ (fun e w' => e = .returned (.int .i64 ev) ∧ Below _ _ w') from by
        have h := IEP.out _ _ T1.out
        rw [HEP.out (by trivial)] at h
        exact h).mono ?_
      rintro e w9 ⟨rfl, hb⟩
      replace R := Lib.hid (R.out.trans (hb.mono R.out.size))
      clear hb
      go_wp2_with fail
      refine (IL.out _).mono ?_
      rintro e w10 ⟨rfl, hb⟩
      replace R := Lib.hid (R.out.trans (hb.mono R.out.size))
      clear hb
      go_wp2_with fail
      refine (IM.out _).mono ?_
      rintro e w11 ⟨rfl, hb⟩
      have HE := Lib.hid (HB0.out.trans ((R.out.trans (hb.mono R.out.size)).mono HB0.out.size))
      clear hb
      go_wp2_with fail
      go_ret
      exact ⟨rfl, HE.out⟩
set_option maxRecDepth 100000 in
set_option maxHeartbeats 4000000 in
theorem wFor (a : Option Addr) (len cap : Nat) (w : World) (h : ByteRow w a len cap) :
    Calls Tryz.prog 3 #[.slice a len cap] w fun e w' => e = .returned (.bool true) ∧ Below w.heap.size w w' := by
  by_cases hl : len ≤ 1048576
  · exact wFor_in a len cap w h hl
  · have hp : (1048576 : Int) < (len : Int) := by omega
    have h1 := Nat.le_trans h.1 h.2.1
    clear h
    go_enter Tryz.func3, Tryz.ntmps3
    go_wp2_with fail
    go_ret
    exact ⟨rfl, Below.refl _ _⟩
end Go.Proofs.YtoeghbcolpailaaGreat
