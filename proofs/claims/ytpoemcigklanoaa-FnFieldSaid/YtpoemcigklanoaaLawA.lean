/-
  The walk of the law FnField: it returns true. Conditions: the bytes can be read.
-/
import Derived.Test.YtpoemcigklanoaaDrw2
import Derived.Test.YtpoemcigklanoaaFldLaw
namespace Go.Proofs.Ytpoemcigklanoaa
open Go.RowKit
set_option maxRecDepth 100000 in
set_option maxHeartbeats 4000000 in
theorem wField_no (a : Option Addr) (len cap : Nat) (w : World) (h : ByteRow w a len cap) (hl : len ≤ 1048576) :
    Calls Try.prog 3 #[.slice a len cap] w fun e w' => e = .returned (.bool true) ∧ Below w.heap.size w w' := by
  have hcap := h.2.1
  have hlc := h.1
  have hh := Lib.hid h
  clear h
  go_enter Try.func3, Try.ntmps3
  go_wp2_with fail
  refine (drawMulIn a len cap w hh.out).mono ?_
  rintro e w0 ⟨p, x, y, rfl, hp, hx, hy, hb⟩
  cases hE : isE2 p x y
  · obtain ⟨m1, m2⟩ := mulV_no hE
    have M1 : mulV p x y < 0 := by omega
    have M2 : (addV p x y == -1) = true := by rw [m2]; rfl
    clear m1 m2 hE
    go_wp2_with (first
      | (go_at_call 20; refine (iMul _ _ _ _).mono ?_; rintro e w1 ⟨rfl, hb1⟩; replace hb := hb.trans (hb1.mono hb.size); clear hb1)
      | (go_at_call 21; refine (iAdd _ _ _ _).mono ?_; rintro e w1 ⟨rfl, hb1⟩; replace hb := hb.trans (hb1.mono hb.size); clear hb1)
      | (go_at_call 22; refine (sMul _ _ _ _).mono ?_; rintro e w1 ⟨rfl, hb1⟩; replace hb := hb.trans (hb1.mono hb.size); clear hb1)
      | (go_at_call 23; refine (sAdd _ _ _ _).mono ?_; rintro e w1 ⟨rfl, hb1⟩; replace hb := hb.trans (hb1.mono hb.size); clear hb1)
      | (go_at_call 24; refine (iPV _ _).mono ?_; rintro e w1 ⟨rfl, rfl⟩)
      | (go_at_call 25; refine (sPV _ _).mono ?_; rintro e w1 ⟨rfl, rfl⟩))
    go_ret
    exact ⟨rfl, hb⟩
  · obtain ⟨m1, m2, m3, m4⟩ := mulV_bd hE
    obtain ⟨hp, ⟨x0, x1⟩, ⟨y0, y1⟩⟩ := isE2_iff.1 hE
    obtain ⟨p0, p1⟩ := isP_bd hp
    have hP := Lib.hid hp
    clear hE hp
    go_wp2_with (first
      | (go_at_call 20; refine (iMul _ _ _ _).mono ?_; rintro e w1 ⟨rfl, hb1⟩; replace hb := hb.trans (hb1.mono hb.size); clear hb1)
      | (go_at_call 21; refine (iAdd _ _ _ _).mono ?_; rintro e w1 ⟨rfl, hb1⟩; replace hb := hb.trans (hb1.mono hb.size); clear hb1)
      | (go_at_call 26; refine (iMin _ _ _).mono ?_; rintro e w1 ⟨rfl, hb1⟩; replace hb := hb.trans (hb1.mono hb.size); clear hb1)
      | (go_at_call 22; refine (sMul _ _ _ _).mono ?_; rintro e w1 ⟨rfl, hb1⟩; replace hb := hb.trans (hb1.mono hb.size); clear hb1)
      | (go_at_call 23; refine (sAdd _ _ _ _).mono ?_; rintro e w1 ⟨rfl, hb1⟩; replace hb := hb.trans (hb1.mono hb.size); clear hb1)
      | (go_at_call 24; refine (iPV _ _).mono ?_; rintro e w1 ⟨rfl, rfl⟩)
      | (go_at_call 25; refine (sPV _ _).mono ?_; rintro e w1 ⟨rfl, rfl⟩))
    go_loopw [8] (fun i wr => ∃ k : Nat, (k : Int) ≤ p ∧ i = .int .i64 k ∧ Below w.heap.size w wr) (fun i _ => p.toNat - (intOf i).toNat)
    case atStart => exact ⟨0, by omega, rfl, hb⟩
    case round =>
      clear hb
      obtain ⟨k, hk, rfl, hb⟩ := hrel
      by_cases hlt : (k : Int) < p
      · have t1 : (mulV p k (addV p x y) != addV p (mulV p k x) (mulV p k y)) = false := by
          rw [law_dist hP.out x0 x1 y0 y1 (by omega) hlt]; simp
        have t2 : (mulV p k (mulV p x y) != mulV p (mulV p k x) y) = false := by
          rw [law_assoc hP.out x0 x1 y0 y1 (by omega) hlt]; simp
        have t3 : (addV p k (addV p x y) != addV p (addV p k x) y) = false := by
          rw [law_addassoc hP.out x0 x1 y0 y1 (by omega) hlt]; simp
        go_wp2_with (first
      | (go_at_call 20; refine (iMul _ _ _ _).mono ?_; rintro e w1 ⟨rfl, hb1⟩; replace hb := hb.trans (hb1.mono hb.size); clear hb1)
      | (go_at_call 21; refine (iAdd _ _ _ _).mono ?_; rintro e w1 ⟨rfl, hb1⟩; replace hb := hb.trans (hb1.mono hb.size); clear hb1)
      | (go_at_call 26; refine (iMin _ _ _).mono ?_; rintro e w1 ⟨rfl, hb1⟩; replace hb := hb.trans (hb1.mono hb.size); clear hb1)
      | (go_at_call 22; refine (sMul _ _ _ _).mono ?_; rintro e w1 ⟨rfl, hb1⟩; replace hb := hb.trans (hb1.mono hb.size); clear hb1)
      | (go_at_call 23; refine (sAdd _ _ _ _).mono ?_; rintro e w1 ⟨rfl, hb1⟩; replace hb := hb.trans (hb1.mono hb.size); clear hb1)
      | (go_at_call 24; refine (iPV _ _).mono ?_; rintro e w1 ⟨rfl, rfl⟩)
      | (go_at_call 25; refine (sPV _ _).mono ?_; rintro e w1 ⟨rfl, rfl⟩))
        go_roundw
        case rel => exact ⟨k + 1, by omega, by go_num, hb⟩
        case measure => simp [intOf]; omega
      · obtain ⟨c1, c2⟩ := law_comm p x y
        have t1 : (mulV p y x == mulV p x y) = true := by rw [c1]; simp
        have t2 : (addV p y x == addV p x y) = true := by rw [c2]; simp
        have t3 : (addV p x (minV p x) == 0) = true := by rw [law_minus hP.out x0 x1]; rfl
        have t4 := law_zero hP.out x0 x1 y0 y1
        clear c1 c2
        cases u1 : (x == 0)
        · cases u2 : (y == 0)
          · have t5 : (mulV p x y == 0) = false := by rw [t4, u1, u2]; rfl
            clear t4
            go_wp2_with (first
      | (go_at_call 20; refine (iMul _ _ _ _).mono ?_; rintro e w1 ⟨rfl, hb1⟩; replace hb := hb.trans (hb1.mono hb.size); clear hb1)
      | (go_at_call 21; refine (iAdd _ _ _ _).mono ?_; rintro e w1 ⟨rfl, hb1⟩; replace hb := hb.trans (hb1.mono hb.size); clear hb1)
      | (go_at_call 26; refine (iMin _ _ _).mono ?_; rintro e w1 ⟨rfl, hb1⟩; replace hb := hb.trans (hb1.mono hb.size); clear hb1)
      | (go_at_call 22; refine (sMul _ _ _ _).mono ?_; rintro e w1 ⟨rfl, hb1⟩; replace hb := hb.trans (hb1.mono hb.size); clear hb1)
      | (go_at_call 23; refine (sAdd _ _ _ _).mono ?_; rintro e w1 ⟨rfl, hb1⟩; replace hb := hb.trans (hb1.mono hb.size); clear hb1)
      | (go_at_call 24; refine (iPV _ _).mono ?_; rintro e w1 ⟨rfl, rfl⟩)
      | (go_at_call 25; refine (sPV _ _).mono ?_; rintro e w1 ⟨rfl, rfl⟩))
            go_ret
            exact ⟨rfl, hb⟩
          · have t5 : (mulV p x y == 0) = true := by rw [t4, u1, u2]; rfl
            clear t4
            go_wp2_with (first
      | (go_at_call 20; refine (iMul _ _ _ _).mono ?_; rintro e w1 ⟨rfl, hb1⟩; replace hb := hb.trans (hb1.mono hb.size); clear hb1)
      | (go_at_call 21; refine (iAdd _ _ _ _).mono ?_; rintro e w1 ⟨rfl, hb1⟩; replace hb := hb.trans (hb1.mono hb.size); clear hb1)
      | (go_at_call 26; refine (iMin _ _ _).mono ?_; rintro e w1 ⟨rfl, hb1⟩; replace hb := hb.trans (hb1.mono hb.size); clear hb1)
      | (go_at_call 22; refine (sMul _ _ _ _).mono ?_; rintro e w1 ⟨rfl, hb1⟩; replace hb := hb.trans (hb1.mono hb.size); clear hb1)
      | (go_at_call 23; refine (sAdd _ _ _ _).mono ?_; rintro e w1 ⟨rfl, hb1⟩; replace hb := hb.trans (hb1.mono hb.size); clear hb1)
      | (go_at_call 24; refine (iPV _ _).mono ?_; rintro e w1 ⟨rfl, rfl⟩)
      | (go_at_call 25; refine (sPV _ _).mono ?_; rintro e w1 ⟨rfl, rfl⟩))
            go_ret
            exact ⟨rfl, hb⟩
        · have t5 : (mulV p x y == 0) = true := by rw [t4, u1]; rfl
          clear t4
          go_wp2_with (first
      | (go_at_call 20; refine (iMul _ _ _ _).mono ?_; rintro e w1 ⟨rfl, hb1⟩; replace hb := hb.trans (hb1.mono hb.size); clear hb1)
      | (go_at_call 21; refine (iAdd _ _ _ _).mono ?_; rintro e w1 ⟨rfl, hb1⟩; replace hb := hb.trans (hb1.mono hb.size); clear hb1)
      | (go_at_call 26; refine (iMin _ _ _).mono ?_; rintro e w1 ⟨rfl, hb1⟩; replace hb := hb.trans (hb1.mono hb.size); clear hb1)
      | (go_at_call 22; refine (sMul _ _ _ _).mono ?_; rintro e w1 ⟨rfl, hb1⟩; replace hb := hb.trans (hb1.mono hb.size); clear hb1)
      | (go_at_call 23; refine (sAdd _ _ _ _).mono ?_; rintro e w1 ⟨rfl, hb1⟩; replace hb := hb.trans (hb1.mono hb.size); clear hb1)
      | (go_at_call 24; refine (iPV _ _).mono ?_; rintro e w1 ⟨rfl, rfl⟩)
      | (go_at_call 25; refine (sPV _ _).mono ?_; rintro e w1 ⟨rfl, rfl⟩))
          go_ret
          exact ⟨rfl, hb⟩
theorem wField_long (a : Option Addr) (len cap : Nat) (w : World) (h : ByteRow w a len cap) (hl : ¬ len ≤ 1048576) :
    Calls Try.prog 3 #[.slice a len cap] w fun e w' => e = .returned (.bool true) ∧ Below w.heap.size w w' := by
  have hcap := h.2.1
  have hlc := h.1
  clear h
  go_enter Try.func3, Try.ntmps3
  go_wp2_with fail
  go_ret
  exact ⟨rfl, Below.refl _ _⟩
theorem wField (a : Option Addr) (len cap : Nat) (w : World) (h : ByteRow w a len cap) :
    Calls Try.prog 3 #[.slice a len cap] w fun e w' => e = .returned (.bool true) ∧ Below w.heap.size w w' := by
  by_cases hl : len ≤ 1048576
  · exact wField_no a len cap w h hl
  · exact wField_long a len cap w h hl
end Go.Proofs.Ytpoemcigklanoaa
