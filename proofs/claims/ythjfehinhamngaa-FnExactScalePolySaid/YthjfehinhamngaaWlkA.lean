/-
  The walks of the exact laws of PolyValid, DegreeOf and DegreeIn. Conditions: none but that the slice reads as a list of terms.
-/
import Derived.Test.YthjfehinhamngaaImD
import Derived.Test.YthjfehinhamngaaIn

namespace Go.Proofs.Ythjfehinhamngaa
open Go.RowKit
/-- szPoly of a slice that is longer than 2^20 -/
theorem szP_long (a : Option Addr) (n cap : Nat) (w : World) (h1 : 1048576 < n) (h2 : n ≤ 9223372036854775807) :
    Calls Try.prog 14 #[.slice a n cap, .int .i64 1048576] w fun e w' => e = .returned (.int .i64 (-1)) ∧ w = w' :=
  (szP a n cap 1048576 w (by omega) (by omega) (by omega)).mono fun e w' h => by rw [if_pos (by omega)] at h; exact h
theorem szP_ok (a : Option Addr) (n cap : Nat) (w : World) (h1 : n ≤ 1048576) :
    Calls Try.prog 14 #[.slice a n cap, .int .i64 1048576] w fun e w' => e = .returned (.int .i64 (1048576 - (n : Int))) ∧ w = w' :=
  (szP a n cap 1048576 w (by omega) (by omega) (by omega)).mono fun e w' h => by rw [if_neg (by omega)] at h; exact h
set_option maxHeartbeats 4000000 in
theorem xPolyValid_in (p : Int) (a : Option Addr) (L : List Trm) (cap : Nat) (w : World) (hl : L.length ≤ 1048576) (h : Trms w (.slice a L.length cap) L) :
    Calls Try.prog 3 #[.int .i64 p, .slice a L.length cap] w fun e w' => e = .returned (.bool true) ∧ Below w.heap.size w w' := by
  have hlp : (L.length : Int) ≤ 1048576 := by omega
  have hm : (1048576 : Int) - L.length ≥ 0 := by omega
  have HT := Lib.hid h
  clear h
  have HS := Lib.hid (fun w => szP_ok a L.length cap w hl)
  go_enter Try.func3, Try.ntmps3
  go_wp2_with (go_at_call 14; refine (HS.out _).mono ?_; rintro e w' ⟨rfl, rfl⟩)
  refine (toP _ L _ HT.out).mono ?_
  rintro e W1 ⟨v1, rfl, ho1, hb1⟩
  have H1 := Lib.hid (And.intro ho1.trms hb1)
  clear ho1 hb1
  go_wp2_with fail
  refine (sPolyValid p v1 L _ H1.out.1).mono ?_
  rintro e W2 ⟨rfl, hb2⟩
  have H2 := Lib.hid (H1.out.2.trans (hb2.mono H1.out.2.size))
  clear hb2
  go_wp2_with fail
  refine (toP _ L _ (HT.out.below H2.out)).mono ?_
  rintro e W3 ⟨v3, rfl, ho3, hb3⟩
  have H3 := Lib.hid (And.intro ho3.trms (H2.out.trans (hb3.mono H2.out.size)))
  clear ho3 hb3
  go_wp2_with fail
  refine (iPolyValid p v3 L _ H3.out.1).mono ?_
  rintro e W4 ⟨rfl, hb4⟩
  have H4 := Lib.hid (And.intro (H3.out.1.below hb4) (H3.out.2.trans (hb4.mono H3.out.2.size)))
  clear hb4
  go_wp2_with fail
  refine (toP _ L _ (HT.out.below H4.out.2)).mono ?_
  rintro e W5 ⟨v5, rfl, ho5, hb5⟩
  have H5 := Lib.hid (And.intro (H4.out.1.below hb5) (And.intro ho5.trms (H4.out.2.trans (hb5.mono H4.out.2.size))))
  clear ho5 hb5
  go_wp2_with fail
  refine (eqP v3 v5 L _ H5.out.1 H5.out.2.1).mono ?_
  rintro e W6 ⟨rfl, hb6⟩
  have H6 := Lib.hid (H5.out.2.2.trans (hb6.mono H5.out.2.2.size))
  clear hb6
  go_wp2_with fail
  go_ret
  exact ⟨rfl, H6.out⟩
set_option maxHeartbeats 1000000 in
theorem xPolyValid_long (p : Int) (a : Option Addr) (n cap : Nat) (w : World) (h1 : 1048576 < n) (h2 : n ≤ 9223372036854775807) :
    Calls Try.prog 3 #[.int .i64 p, .slice a n cap] w fun e w' => e = .returned (.bool true) ∧ Below w.heap.size w w' := by
  have HS := Lib.hid (fun w => szP_long a n cap w h1 h2)
  clear h1 h2
  go_enter Try.func3, Try.ntmps3
  go_wp2_with (go_at_call 14; refine (HS.out _).mono ?_; rintro e w' ⟨rfl, rfl⟩)
  go_ret
  exact ⟨rfl, Below.refl _ _⟩
theorem xPolyValid (p : Int) (a : Option Addr) (len cap : Nat) (L : List Trm) (w : World) (h : RowT w a len L) :
    Calls Try.prog 3 #[.int .i64 p, .slice a len cap] w fun e w' => e = .returned (.bool true) ∧ Below w.heap.size w w' := by
  by_cases hl : len ≤ 1048576
  · have := h.1
    subst this
    exact xPolyValid_in p a L cap w hl (h.trms hl)
  · exact xPolyValid_long p a len cap w (by omega) h.2.1
set_option maxHeartbeats 4000000 in
theorem xDegreeOf_in (p : Int) (a : Option Addr) (L : List Trm) (cap : Nat) (w : World) (hl : L.length ≤ 1048576) (h : Trms w (.slice a L.length cap) L) :
    Calls Try.prog 9 #[.int .i64 p, .slice a L.length cap] w fun e w' => e = .returned (.bool true) ∧ Below w.heap.size w w' := by
  have hlp : (L.length : Int) ≤ 1048576 := by omega
  have hm : (1048576 : Int) - L.length ≥ 0 := by omega
  have HT := Lib.hid h
  clear h
  have HS := Lib.hid (fun w => szP_ok a L.length cap w hl)
  go_enter Try.func9, Try.ntmps9
  go_wp2_with (go_at_call 14; refine (HS.out _).mono ?_; rintro e w' ⟨rfl, rfl⟩)
  refine (toP _ L _ HT.out).mono ?_
  rintro e W1 ⟨v1, rfl, ho1, hb1⟩
  have H1 := Lib.hid (And.intro ho1.trms hb1)
  clear ho1 hb1
  go_wp2_with fail
  refine (sDegreeOf p v1 L _ H1.out.1).mono ?_
  rintro e W2 ⟨rfl, hb2⟩
  have H2 := Lib.hid (H1.out.2.trans (hb2.mono H1.out.2.size))
  clear hb2
  go_wp2_with fail
  refine (toP _ L _ (HT.out.below H2.out)).mono ?_
  rintro e W3 ⟨v3, rfl, ho3, hb3⟩
  have H3 := Lib.hid (And.intro ho3.trms (H2.out.trans (hb3.mono H2.out.size)))
  clear ho3 hb3
  go_wp2_with fail
  refine (iDegreeOf p v3 L _ H3.out.1).mono ?_
  rintro e W4 ⟨rfl, hb4⟩
  have H4 := Lib.hid (And.intro (H3.out.1.below hb4) (H3.out.2.trans (hb4.mono H3.out.2.size)))
  clear hb4
  go_wp2_with fail
  refine (toP _ L _ (HT.out.below H4.out.2)).mono ?_
  rintro e W5 ⟨v5, rfl, ho5, hb5⟩
  have H5 := Lib.hid (And.intro (H4.out.1.below hb5) (And.intro ho5.trms (H4.out.2.trans (hb5.mono H4.out.2.size))))
  clear ho5 hb5
  go_wp2_with fail
  refine (eqP v3 v5 L _ H5.out.1 H5.out.2.1).mono ?_
  rintro e W6 ⟨rfl, hb6⟩
  have H6 := Lib.hid (H5.out.2.2.trans (hb6.mono H5.out.2.2.size))
  clear hb6
  go_wp2_with fail
  go_ret
  exact ⟨rfl, H6.out⟩
set_option maxHeartbeats 1000000 in
theorem xDegreeOf_long (p : Int) (a : Option Addr) (n cap : Nat) (w : World) (h1 : 1048576 < n) (h2 : n ≤ 9223372036854775807) :
    Calls Try.prog 9 #[.int .i64 p, .slice a n cap] w fun e w' => e = .returned (.bool true) ∧ Below w.heap.size w w' := by
  have HS := Lib.hid (fun w => szP_long a n cap w h1 h2)
  clear h1 h2
  go_enter Try.func9, Try.ntmps9
  go_wp2_with (go_at_call 14; refine (HS.out _).mono ?_; rintro e w' ⟨rfl, rfl⟩)
  go_ret
  exact ⟨rfl, Below.refl _ _⟩
theorem xDegreeOf (p : Int) (a : Option Addr) (len cap : Nat) (L : List Trm) (w : World) (h : RowT w a len L) :
    Calls Try.prog 9 #[.int .i64 p, .slice a len cap] w fun e w' => e = .returned (.bool true) ∧ Below w.heap.size w w' := by
  by_cases hl : len ≤ 1048576
  · have := h.1
    subst this
    exact xDegreeOf_in p a L cap w hl (h.trms hl)
  · exact xDegreeOf_long p a len cap w (by omega) h.2.1
set_option maxHeartbeats 4000000 in
theorem xDegreeIn_in (p : Int) (a : Option Addr) (L : List Trm) (cap : Nat) (v : Int) (w : World) (hl : L.length ≤ 1048576) (h : Trms w (.slice a L.length cap) L) :
    Calls Try.prog 10 #[.int .i64 p, .slice a L.length cap, .int .i64 v] w fun e w' => e = .returned (.bool true) ∧ Below w.heap.size w w' := by
  have hlp : (L.length : Int) ≤ 1048576 := by omega
  have hm : (1048576 : Int) - L.length ≥ 0 := by omega
  have HT := Lib.hid h
  clear h
  have HS := Lib.hid (fun w => szP_ok a L.length cap w hl)
  go_enter Try.func10, Try.ntmps10
  go_wp2_with (go_at_call 14; refine (HS.out _).mono ?_; rintro e w' ⟨rfl, rfl⟩)
  refine (toP _ L _ HT.out).mono ?_
  rintro e W1 ⟨v1, rfl, ho1, hb1⟩
  have H1 := Lib.hid (And.intro ho1.trms hb1)
  clear ho1 hb1
  go_wp2_with fail
  refine (sDegreeIn p v1 L v _ H1.out.1).mono ?_
  rintro e W2 ⟨rfl, hb2⟩
  have H2 := Lib.hid (H1.out.2.trans (hb2.mono H1.out.2.size))
  clear hb2
  go_wp2_with fail
  refine (toP _ L _ (HT.out.below H2.out)).mono ?_
  rintro e W3 ⟨v3, rfl, ho3, hb3⟩
  have H3 := Lib.hid (And.intro ho3.trms (H2.out.trans (hb3.mono H2.out.size)))
  clear ho3 hb3
  go_wp2_with fail
  refine (iDegreeIn p v3 L v _ H3.out.1).mono ?_
  rintro e W4 ⟨rfl, hb4⟩
  have H4 := Lib.hid (And.intro (H3.out.1.below hb4) (H3.out.2.trans (hb4.mono H3.out.2.size)))
  clear hb4
  go_wp2_with fail
  refine (toP _ L _ (HT.out.below H4.out.2)).mono ?_
  rintro e W5 ⟨v5, rfl, ho5, hb5⟩
  have H5 := Lib.hid (And.intro (H4.out.1.below hb5) (And.intro ho5.trms (H4.out.2.trans (hb5.mono H4.out.2.size))))
  clear ho5 hb5
  go_wp2_with fail
  refine (eqP v3 v5 L _ H5.out.1 H5.out.2.1).mono ?_
  rintro e W6 ⟨rfl, hb6⟩
  have H6 := Lib.hid (H5.out.2.2.trans (hb6.mono H5.out.2.2.size))
  clear hb6
  go_wp2_with fail
  go_ret
  exact ⟨rfl, H6.out⟩
set_option maxHeartbeats 1000000 in
theorem xDegreeIn_long (p : Int) (a : Option Addr) (n cap : Nat) (v : Int) (w : World) (h1 : 1048576 < n) (h2 : n ≤ 9223372036854775807) :
    Calls Try.prog 10 #[.int .i64 p, .slice a n cap, .int .i64 v] w fun e w' => e = .returned (.bool true) ∧ Below w.heap.size w w' := by
  have HS := Lib.hid (fun w => szP_long a n cap w h1 h2)
  clear h1 h2
  go_enter Try.func10, Try.ntmps10
  go_wp2_with (go_at_call 14; refine (HS.out _).mono ?_; rintro e w' ⟨rfl, rfl⟩)
  go_ret
  exact ⟨rfl, Below.refl _ _⟩
theorem xDegreeIn (p : Int) (a : Option Addr) (len cap : Nat) (L : List Trm) (v : Int) (w : World) (h : RowT w a len L) :
    Calls Try.prog 10 #[.int .i64 p, .slice a len cap, .int .i64 v] w fun e w' => e = .returned (.bool true) ∧ Below w.heap.size w w' := by
  by_cases hl : len ≤ 1048576
  · have := h.1
    subst this
    exact xDegreeIn_in p a L cap v w hl (h.trms hl)
  · exact xDegreeIn_long p a len cap v w (by omega) h.2.1
end Go.Proofs.Ythjfehinhamngaa
