/-
  The walks of the exact laws of InverseIn, PowerIn, OrderIn, GeneratorIn, RootsIn: each returns true. Conditions: none.
-/
import Derived.Test.YtpoemcigklanoaaFldJ
import Derived.Test.YtpoemcigklanoaaIntS
namespace Go.Proofs.Ytpoemcigklanoaa
open Go.RowKit
set_option linter.unusedVariables false
theorem wf_hi {n : Int} (h : (Lit.int .i64 n).wf = true) : -9223372036854775808 ≤ n ∧ n ≤ 9223372036854775807 := by
  simp [Lit.wf, IntKind.min, IntKind.max, IntKind.signed, IntKind.bits] at h
  omega
theorem xInverseIn (p a : Int) (w0 : (Lit.int .i64 p).wf = true) (w1 : (Lit.int .i64 a).wf = true) (w : World) :
    Calls Try.prog 14 #[.int .i64 p, .int .i64 a] w fun e w' => e = .returned (.bool true) ∧ Below w.heap.size w w' := by
  go_enter Try.func14, Try.ntmps14
  go_wp2_with fail
  refine (sInverse p a _).mono ?_
  rintro e W1 ⟨rfl, hb1⟩
  go_wp2_with fail
  refine (iInverse p a _).mono ?_
  rintro e W2 ⟨rfl, hb2⟩
  go_wp2
  go_ret
  exact ⟨rfl, hb1.trans (hb2.mono hb1.size)⟩
theorem xPowerIn (p a n : Int) (w0 : (Lit.int .i64 p).wf = true) (w1 : (Lit.int .i64 a).wf = true) (w2 : (Lit.int .i64 n).wf = true) (w : World) :
    Calls Try.prog 15 #[.int .i64 p, .int .i64 a, .int .i64 n] w fun e w' => e = .returned (.bool true) ∧ Below w.heap.size w w' := by
  obtain ⟨hn0, hn1⟩ := wf_hi w2
  go_enter Try.func15, Try.ntmps15
  go_wp2_with fail
  refine (sPowerIn p a n hn1 _).mono ?_
  rintro e W1 ⟨rfl, hb1⟩
  go_wp2_with fail
  refine (iPowerIn p a n hn1 _).mono ?_
  rintro e W2 ⟨rfl, hb2⟩
  go_wp2
  go_ret
  exact ⟨rfl, hb1.trans (hb2.mono hb1.size)⟩
theorem xOrderIn (p a : Int) (w0 : (Lit.int .i64 p).wf = true) (w1 : (Lit.int .i64 a).wf = true) (w : World) :
    Calls Try.prog 16 #[.int .i64 p, .int .i64 a] w fun e w' => e = .returned (.bool true) ∧ Below w.heap.size w w' := by
  go_enter Try.func16, Try.ntmps16
  go_wp2_with fail
  refine (sOrder p a _).mono ?_
  rintro e W1 ⟨rfl, hb1⟩
  go_wp2_with fail
  refine (iOrder p a _).mono ?_
  rintro e W2 ⟨rfl, hb2⟩
  go_wp2
  go_ret
  exact ⟨rfl, hb1.trans (hb2.mono hb1.size)⟩
theorem xGeneratorIn (p : Int) (w0 : (Lit.int .i64 p).wf = true) (w : World) :
    Calls Try.prog 17 #[.int .i64 p] w fun e w' => e = .returned (.bool true) ∧ Below w.heap.size w w' := by
  obtain ⟨hn0, hn1⟩ := wf_hi w0
  go_enter Try.func17, Try.ntmps17
  go_wp2_with fail
  refine (sGen p _ hn1).mono ?_
  rintro e W1 ⟨rfl, hb1⟩
  go_wp2_with fail
  refine (iGen p _).mono ?_
  rintro e W2 ⟨rfl, hb2⟩
  go_wp2
  go_ret
  exact ⟨rfl, hb1.trans (hb2.mono hb1.size)⟩
theorem rootsL_le (p a n : Int) (h : isP p = true ∨ isP p = false) : (rootsL p a n).length ≤ 13 := by
  unfold rootsL
  split
  · rename_i hE
    have hp := isP_bd (isE1_iff.1 hE.1).1
    have := rootsK_le p a n.toNat p.toNat
    omega
  · simp
set_option maxHeartbeats 1000000 in
theorem xRootsIn (p a n : Int) (w0 : (Lit.int .i64 p).wf = true) (w1 : (Lit.int .i64 a).wf = true) (w2 : (Lit.int .i64 n).wf = true) (w : World) :
    Calls Try.prog 18 #[.int .i64 p, .int .i64 a, .int .i64 n] w fun e w' => e = .returned (.bool true) ∧ Below w.heap.size w w' := by
  obtain ⟨hn0, hn1⟩ := wf_hi w2
  have hL := rootsL_le p a n (by cases isP p <;> simp)
  go_enter Try.func18, Try.ntmps18
  go_wp2_with fail
  refine (sRoots p a n hn1 _).mono ?_
  rintro e W1 ⟨v1, rfl, own1, low1⟩
  have o1 := own_of_row own1 (by omega)
  clear own1
  go_wp2_with fail
  refine (iRoots p a n hn1 _).mono ?_
  rintro e W2 ⟨v2, rfl, own2, hb2⟩
  have o2 := own_of_row own2 (by omega)
  have o12 := o1.below hb2
  clear own2
  go_wp2_with fail
  refine (eqInts v2 v1 _ _ _ o2.ints o12.ints).mono ?_
  rintro e W3 ⟨rfl, hd3⟩
  have o23 := o2.below (hd3.below _)
  have hb3 := hb2.trans (hd3.below _)
  clear o12 o2 hd3 hb2
  go_wp2_with fail
  refine (markOwn v2 _ _ 1 _ o23 (by omega) (by omega)).mono ?_
  rintro e W4 ⟨rfl, h4, hb34, hs4⟩
  have hb4 := hb3.trans hb34
  clear o23 hb3 hb34 hs4
  go_wp2_with fail
  refine (heldOwn v2 _ _ 1 _ h4 (by omega) (by omega)).mono ?_
  rintro e W' ⟨rfl, rfl⟩
  have hne : ((1 : Int) + ((rootsL p a n).length : Int) != 1 + ((rootsL p a n).length : Int)) = false := by simp
  go_wp2_with fail
  refine (iRoots p a n hn1 _).mono ?_
  rintro e W5 ⟨v3, rfl, own3, hb5⟩
  have o3 := own_of_row own3 (by omega)
  have h5 := h4.below hb5
  have hb15 := hb4.trans (hb5.mono hb4.size)
  have o15 := o1.below hb15
  clear own3 hb5 h4 hb4
  go_wp2_with fail
  refine (eqInts v3 v1 _ _ _ o3.ints o15.ints).mono ?_
  rintro e W6 ⟨rfl, hd6⟩
  have h6 := h5.below (hd6.below _)
  have hb6 := hb15.trans (hd6.below _)
  clear o3 o15 hb15 h5 hd6
  go_wp2_with fail
  refine (heldOwn v2 _ _ 1 _ h6 (by omega) (by omega)).mono ?_
  rintro e W' ⟨rfl, rfl⟩
  go_wp2
  go_ret
  exact ⟨rfl, low1.trans (hb6.mono low1.size)⟩
end Go.Proofs.Ytpoemcigklanoaa
