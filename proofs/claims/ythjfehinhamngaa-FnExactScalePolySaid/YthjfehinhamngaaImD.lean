/-
  Contracts of both DegreeIn.
-/
import Derived.Test.YthjfehinhamngaaImC

namespace Go.Proofs.Ythjfehinhamngaa
open Go.RowKit
/-- the exponent of the unknown v -/
def pw (v : Int) (x : Trm) : Int := if v = 0 then x.a else if v = 1 then x.b else x.c
def inV (v : Int) : Bool := decide (0 ≤ v) && decide (v ≤ 2)
theorem inV_cases {v : Int} (h : inV v = true) : v = 0 ∨ v = 1 ∨ v = 2 := by
  simp only [inV, Bool.and_eq_true, decide_eq_true_eq] at h; omega
/-- the greatest exponent of v in the first k terms; -1 of none -/
def degI (L : List Trm) (v : Int) : Nat → Int
  | 0 => -1
  | k + 1 => if degI L v k < pw v (L.getD k default) then pw v (L.getD k default) else degI L v k
def degIV (p : Int) (L : List Trm) (v : Int) : Int := if (isP p && validB p L) && inV v then degI L v L.length else -2
theorem iUnk (r : Bool) (v : Int) (h : inV v = r) (w : World) :
    Calls Try.prog 74 #[.int .i64 v] w fun e w' => e = .returned (.bool r) ∧ w = w' := by
  unfold inV at h
  by_cases h0 : 0 ≤ v
  · by_cases h2 : v < 3
    · have hr := Lib.hid (show r = true by rw [← h]; simp; omega)
      clear h
      go_enter Try.func74, Try.ntmps74
      go_wp2
      go_ret
      exact ⟨ret_bool hr.out.symm, rfl⟩
    · have hr := Lib.hid (show r = false by rw [← h]; simp; omega)
      clear h
      go_enter Try.func74, Try.ntmps74
      go_wp2
      go_ret
      exact ⟨ret_bool hr.out.symm, rfl⟩
  · have hr := Lib.hid (show r = false by rw [← h]; simp; omega)
    clear h
    go_enter Try.func74, Try.ntmps74
    go_wp2
    go_ret
    exact ⟨ret_bool hr.out.symm, rfl⟩
theorem sUnk (r : Bool) (v : Int) (h : inV v = r) (w : World) :
    Calls Try.prog 66 #[.int .i64 v, .int .i64 0, .int .i64 2] w fun e w' => e = .returned (.bool r) ∧ w = w' := sIn_is r v 0 2 h w
set_option maxHeartbeats 8000000 in
theorem sDegreeIn_some (p : Int) (g off cap : Nat) (L : List Trm) (v : Int) (w : World) (hL : isP p = true) (hV : validB p L = true) (hv : inV v = true) (hg : g < w.heap.size)
    (hc : ∀ j : Nat, j < L.length → TAt w g (off + j * 4) (L.getD j default)) :
    Calls Try.prog 38 #[.int .i64 p, .slice (some ⟨g, off, none⟩) L.length cap, .int .i64 v] w fun e w' => e = .returned (.int .i64 (degI L v L.length)) ∧ Below w.heap.size w w' := by
  have hl := validB_len hV
  have HB := Lib.hid (show ∀ w', Below w.heap.size w w' → Calls Try.prog 15 #[.int .i64 p, .slice (some ⟨g, off, none⟩) L.length cap] w' fun e w'' => e = .returned (.bool true) ∧ Below w'.heap.size w' w'' from
    fun w' hb => (sPolyValid p _ L w' ⟨by omega, _, cap, rfl, .inr ⟨g, off, rfl, Nat.lt_of_lt_of_le hg hb.size, fun j hj => (hc j hj).below hb hg⟩⟩).mono fun e w'' h => by rw [hL, hV] at h; exact h)
  have HC := Lib.hid hc
  clear hc hV
  have HU := Lib.hid (fun w => sUnk true v hv w)
  rcases inV_cases hv with rfl | rfl | rfl
  · clear hv
    go_enter Try.func38, Try.ntmps38
    go_wp2_with fail
    refine (HB.out _ (Below.refl _ _)).mono ?_
    rintro e w1 ⟨rfl, hb1⟩
    go_wp2_with (go_at_call 66; refine (HU.out _).mono ?_; rintro e w2 ⟨rfl, rfl⟩)
    go_loopw [7, 21] (fun n i wr => ∃ k : Nat, k ≤ L.length ∧ i = .int .i64 k ∧ n = .int .i64 (degI L 0 k) ∧ Below w.heap.size w wr) (fun _ i _ => L.length - (intOf i).toNat)
    case atStart => exact ⟨0, by omega, rfl, rfl, hb1⟩
    case round =>
      obtain ⟨k, hk, rfl, rfl, hb⟩ := hrel
      by_cases hlt : k < L.length
      · have hltp : (k : Int) < (L.length : Int) := by omega
        have hk0 : (0 : Int) ≤ (k : Int) := by omega
        obtain ⟨a0, a1, a2, a3⟩ := (HC.out k hlt).below hb hg
        obtain ⟨x, hx⟩ : ∃ x, x = L.getD k default := ⟨_, rfl⟩
        rw [← hx] at a0 a1 a2 a3
        have HD := Lib.hid (show (if degI L 0 k < x.a then x.a else degI L 0 k) = degI L 0 (k + 1) by rw [hx]; rfl)
        have Hb := Lib.hid hb
        clear hx hb hb1
        go_wp2_with fail
        go_roundw
        case rel => exact ⟨k + 1, by omega, by go_num, congrArg (Value.int .i64) HD.out, Below.alloc Hb.out Hb.out.size _⟩
        case measure => simp [intOf]; omega
      · have hkl : k = L.length := by omega
        subst hkl
        go_wp2
        go_ret
        exact ⟨rfl, hb⟩
  · clear hv
    go_enter Try.func38, Try.ntmps38
    go_wp2_with fail
    refine (HB.out _ (Below.refl _ _)).mono ?_
    rintro e w1 ⟨rfl, hb1⟩
    go_wp2_with (go_at_call 66; refine (HU.out _).mono ?_; rintro e w2 ⟨rfl, rfl⟩)
    go_loopw [7, 21] (fun n i wr => ∃ k : Nat, k ≤ L.length ∧ i = .int .i64 k ∧ n = .int .i64 (degI L 1 k) ∧ Below w.heap.size w wr) (fun _ i _ => L.length - (intOf i).toNat)
    case atStart => exact ⟨0, by omega, rfl, rfl, hb1⟩
    case round =>
      obtain ⟨k, hk, rfl, rfl, hb⟩ := hrel
      by_cases hlt : k < L.length
      · have hltp : (k : Int) < (L.length : Int) := by omega
        have hk0 : (0 : Int) ≤ (k : Int) := by omega
        obtain ⟨a0, a1, a2, a3⟩ := (HC.out k hlt).below hb hg
        obtain ⟨x, hx⟩ : ∃ x, x = L.getD k default := ⟨_, rfl⟩
        rw [← hx] at a0 a1 a2 a3
        have HD := Lib.hid (show (if degI L 1 k < x.b then x.b else degI L 1 k) = degI L 1 (k + 1) by rw [hx]; rfl)
        have Hb := Lib.hid hb
        clear hx hb hb1
        go_wp2_with fail
        go_roundw
        case rel => exact ⟨k + 1, by omega, by go_num, congrArg (Value.int .i64) HD.out, Below.alloc Hb.out Hb.out.size _⟩
        case measure => simp [intOf]; omega
      · have hkl : k = L.length := by omega
        subst hkl
        go_wp2
        go_ret
        exact ⟨rfl, hb⟩
  · clear hv
    go_enter Try.func38, Try.ntmps38
    go_wp2_with fail
    refine (HB.out _ (Below.refl _ _)).mono ?_
    rintro e w1 ⟨rfl, hb1⟩
    go_wp2_with (go_at_call 66; refine (HU.out _).mono ?_; rintro e w2 ⟨rfl, rfl⟩)
    go_loopw [7, 21] (fun n i wr => ∃ k : Nat, k ≤ L.length ∧ i = .int .i64 k ∧ n = .int .i64 (degI L 2 k) ∧ Below w.heap.size w wr) (fun _ i _ => L.length - (intOf i).toNat)
    case atStart => exact ⟨0, by omega, rfl, rfl, hb1⟩
    case round =>
      obtain ⟨k, hk, rfl, rfl, hb⟩ := hrel
      by_cases hlt : k < L.length
      · have hltp : (k : Int) < (L.length : Int) := by omega
        have hk0 : (0 : Int) ≤ (k : Int) := by omega
        obtain ⟨a0, a1, a2, a3⟩ := (HC.out k hlt).below hb hg
        obtain ⟨x, hx⟩ : ∃ x, x = L.getD k default := ⟨_, rfl⟩
        rw [← hx] at a0 a1 a2 a3
        have HD := Lib.hid (show (if degI L 2 k < x.c then x.c else degI L 2 k) = degI L 2 (k + 1) by rw [hx]; rfl)
        have Hb := Lib.hid hb
        clear hx hb hb1
        go_wp2_with fail
        go_roundw
        case rel => exact ⟨k + 1, by omega, by go_num, congrArg (Value.int .i64) HD.out, Below.alloc Hb.out Hb.out.size _⟩
        case measure => simp [intOf]; omega
      · have hkl : k = L.length := by omega
        subst hkl
        go_wp2
        go_ret
        exact ⟨rfl, hb⟩
set_option maxHeartbeats 2000000 in
theorem sDegreeIn_nil (p : Int) (a : Option Addr) (cap : Nat) (v : Int) (w : World) (hp : isP p = true) (hv : inV v = true) :
    Calls Try.prog 38 #[.int .i64 p, .slice a 0 cap, .int .i64 v] w fun e w' => e = .returned (.int .i64 (-1)) ∧ Below w.heap.size w w' := by
  have HB := Lib.hid (show Calls Try.prog 15 #[.int .i64 p, .slice a 0 cap] w fun e w' => e = .returned (.bool true) ∧ Below w.heap.size w w' from
    (sPolyValid p (.slice a 0 cap) [] w ⟨by simp, a, cap, rfl, .inl rfl⟩).mono fun e w' h => by rw [hp] at h; exact h)
  have HU := Lib.hid (fun w => sUnk true v hv w)
  clear hp hv
  go_enter Try.func38, Try.ntmps38
  go_wp2_with fail
  refine HB.out.mono ?_
  rintro e w1 ⟨rfl, hb1⟩
  go_wp2_with (go_at_call 66; refine (HU.out _).mono ?_; rintro e w2 ⟨rfl, rfl⟩)
  go_loop [7, 21] (fun n i => n = .int .i64 (-1) ∧ i = .int .i64 0) (fun _ _ => 0)
  case atStart => exact ⟨rfl, rfl⟩
  case round =>
    obtain ⟨rfl, rfl⟩ := hrel
    go_wp2_with fail
    go_ret
    exact ⟨rfl, hb1⟩
set_option maxHeartbeats 2000000 in
theorem sDegreeIn_no (p : Int) (f : Value) (L : List Trm) (v : Int) (w : World) (h : Trms w f L) (hn : (isP p && validB p L) = false) :
    Calls Try.prog 38 #[.int .i64 p, f, .int .i64 v] w fun e w' => e = .returned (.int .i64 (-2)) ∧ Below w.heap.size w w' := by
  have HB := Lib.hid (show Calls Try.prog 15 #[.int .i64 p, f] w fun e w' => e = .returned (.bool false) ∧ Below w.heap.size w w' from
    (sPolyValid p f L w h).mono fun e w' h => by rw [hn] at h; exact h)
  clear hn h
  go_enter Try.func38, Try.ntmps38
  go_wp2_with fail
  refine HB.out.mono ?_
  rintro e w1 ⟨rfl, hb1⟩
  go_wp2_with fail
  go_ret
  exact ⟨rfl, hb1⟩
set_option maxHeartbeats 2000000 in
theorem sDegreeIn_noV (p : Int) (f : Value) (L : List Trm) (v : Int) (w : World) (h : Trms w f L) (hn : (isP p && validB p L) = true) (hv : inV v = false) :
    Calls Try.prog 38 #[.int .i64 p, f, .int .i64 v] w fun e w' => e = .returned (.int .i64 (-2)) ∧ Below w.heap.size w w' := by
  have HB := Lib.hid (show Calls Try.prog 15 #[.int .i64 p, f] w fun e w' => e = .returned (.bool true) ∧ Below w.heap.size w w' from
    (sPolyValid p f L w h).mono fun e w' h => by rw [hn] at h; exact h)
  have HU := Lib.hid (fun w => sUnk false v hv w)
  clear hn h hv
  go_enter Try.func38, Try.ntmps38
  go_wp2_with fail
  refine HB.out.mono ?_
  rintro e w1 ⟨rfl, hb1⟩
  go_wp2_with (go_at_call 66; refine (HU.out _).mono ?_; rintro e w2 ⟨rfl, rfl⟩)
  go_ret
  exact ⟨rfl, hb1⟩
theorem sDegreeIn (p : Int) (f : Value) (L : List Trm) (v : Int) (w : World) (h : Trms w f L) :
    Calls Try.prog 38 #[.int .i64 p, f, .int .i64 v] w fun e w' => e = .returned (.int .i64 (degIV p L v)) ∧ Below w.heap.size w w' := by
  unfold degIV
  cases hn : isP p && validB p L
  · exact sDegreeIn_no p f L v w h hn
  · cases hv : inV v
    · exact sDegreeIn_noV p f L v w h hn hv
    · have hn2 := hn
      simp only [Bool.and_eq_true] at hn2
      obtain ⟨hl, a, cap, rfl, h2⟩ := h
      rcases h2 with rfl | ⟨g, off, rfl, hg, hc⟩
      · exact sDegreeIn_nil p a cap v w hn2.1 hv
      · exact sDegreeIn_some p g off cap L v w hn2.1 hn2.2 hv hg hc
set_option maxHeartbeats 8000000 in
theorem iDegreeIn_some (p : Int) (g off cap : Nat) (L : List Trm) (v : Int) (w : World) (hL : isP p = true) (hV : validB p L = true) (hv : inV v = true) (hg : g < w.heap.size)
    (hc : ∀ j : Nat, j < L.length → TAt w g (off + j * 4) (L.getD j default)) :
    Calls Try.prog 39 #[.int .i64 p, .slice (some ⟨g, off, none⟩) L.length cap, .int .i64 v] w fun e w' => e = .returned (.int .i64 (degI L v L.length)) ∧ Below w.heap.size w w' := by
  have hl := validB_len hV
  have HB := Lib.hid (show ∀ w', Below w.heap.size w w' → Calls Try.prog 17 #[.int .i64 p, .slice (some ⟨g, off, none⟩) L.length cap] w' fun e w'' => e = .returned (.bool true) ∧ Below w'.heap.size w' w'' from
    fun w' hb => (iPolyValid p _ L w' ⟨by omega, _, cap, rfl, .inr ⟨g, off, rfl, Nat.lt_of_lt_of_le hg hb.size, fun j hj => (hc j hj).below hb hg⟩⟩).mono fun e w'' h => by rw [hL, hV] at h; exact h)
  have HC := Lib.hid hc
  clear hc hV
  have HU := Lib.hid (fun w => iUnk true v hv w)
  rcases inV_cases hv with rfl | rfl | rfl
  · clear hv
    go_enter Try.func39, Try.ntmps39
    go_wp2_with fail
    refine (HB.out _ (Below.refl _ _)).mono ?_
    rintro e w1 ⟨rfl, hb1⟩
    go_wp2_with (go_at_call 74; refine (HU.out _).mono ?_; rintro e w2 ⟨rfl, rfl⟩)
    go_loopw [7, 21] (fun n i wr => ∃ k : Nat, k ≤ L.length ∧ i = .int .i64 k ∧ n = .int .i64 (degI L 0 k) ∧ Below w.heap.size w wr) (fun _ i _ => L.length - (intOf i).toNat)
    case atStart => exact ⟨0, by omega, rfl, rfl, hb1⟩
    case round =>
      obtain ⟨k, hk, rfl, rfl, hb⟩ := hrel
      by_cases hlt : k < L.length
      · have hltp : (k : Int) < (L.length : Int) := by omega
        have hk0 : (0 : Int) ≤ (k : Int) := by omega
        obtain ⟨a0, a1, a2, a3⟩ := (HC.out k hlt).below hb hg
        obtain ⟨x, hx⟩ : ∃ x, x = L.getD k default := ⟨_, rfl⟩
        rw [← hx] at a0 a1 a2 a3
        have HD := Lib.hid (show (if degI L 0 k < x.a then x.a else degI L 0 k) = degI L 0 (k + 1) by rw [hx]; rfl)
        have Hb := Lib.hid hb
        clear hx hb hb1
        go_wp2_with fail
        go_roundw
        case rel => exact ⟨k + 1, by omega, by go_num, congrArg (Value.int .i64) HD.out, Below.alloc Hb.out Hb.out.size _⟩
        case measure => simp [intOf]; omega
      · have hkl : k = L.length := by omega
        subst hkl
        go_wp2
        go_ret
        exact ⟨rfl, hb⟩
  · clear hv
    go_enter Try.func39, Try.ntmps39
    go_wp2_with fail
    refine (HB.out _ (Below.refl _ _)).mono ?_
    rintro e w1 ⟨rfl, hb1⟩
    go_wp2_with (go_at_call 74; refine (HU.out _).mono ?_; rintro e w2 ⟨rfl, rfl⟩)
    go_loopw [7, 21] (fun n i wr => ∃ k : Nat, k ≤ L.length ∧ i = .int .i64 k ∧ n = .int .i64 (degI L 1 k) ∧ Below w.heap.size w wr) (fun _ i _ => L.length - (intOf i).toNat)
    case atStart => exact ⟨0, by omega, rfl, rfl, hb1⟩
    case round =>
      obtain ⟨k, hk, rfl, rfl, hb⟩ := hrel
      by_cases hlt : k < L.length
      · have hltp : (k : Int) < (L.length : Int) := by omega
        have hk0 : (0 : Int) ≤ (k : Int) := by omega
        obtain ⟨a0, a1, a2, a3⟩ := (HC.out k hlt).below hb hg
        obtain ⟨x, hx⟩ : ∃ x, x = L.getD k default := ⟨_, rfl⟩
        rw [← hx] at a0 a1 a2 a3
        have HD := Lib.hid (show (if degI L 1 k < x.b then x.b else degI L 1 k) = degI L 1 (k + 1) by rw [hx]; rfl)
        have Hb := Lib.hid hb
        clear hx hb hb1
        go_wp2_with fail
        go_roundw
        case rel => exact ⟨k + 1, by omega, by go_num, congrArg (Value.int .i64) HD.out, Below.alloc Hb.out Hb.out.size _⟩
        case measure => simp [intOf]; omega
      · have hkl : k = L.length := by omega
        subst hkl
        go_wp2
        go_ret
        exact ⟨rfl, hb⟩
  · clear hv
    go_enter Try.func39, Try.ntmps39
    go_wp2_with fail
    refine (HB.out _ (Below.refl _ _)).mono ?_
    rintro e w1 ⟨rfl, hb1⟩
    go_wp2_with (go_at_call 74; refine (HU.out _).mono ?_; rintro e w2 ⟨rfl, rfl⟩)
    go_loopw [7, 21] (fun n i wr => ∃ k : Nat, k ≤ L.length ∧ i = .int .i64 k ∧ n = .int .i64 (degI L 2 k) ∧ Below w.heap.size w wr) (fun _ i _ => L.length - (intOf i).toNat)
    case atStart => exact ⟨0, by omega, rfl, rfl, hb1⟩
    case round =>
      obtain ⟨k, hk, rfl, rfl, hb⟩ := hrel
      by_cases hlt : k < L.length
      · have hltp : (k : Int) < (L.length : Int) := by omega
        have hk0 : (0 : Int) ≤ (k : Int) := by omega
        obtain ⟨a0, a1, a2, a3⟩ := (HC.out k hlt).below hb hg
        obtain ⟨x, hx⟩ : ∃ x, x = L.getD k default := ⟨_, rfl⟩
        rw [← hx] at a0 a1 a2 a3
        have HD := Lib.hid (show (if degI L 2 k < x.c then x.c else degI L 2 k) = degI L 2 (k + 1) by rw [hx]; rfl)
        have Hb := Lib.hid hb
        clear hx hb hb1
        go_wp2_with fail
        go_roundw
        case rel => exact ⟨k + 1, by omega, by go_num, congrArg (Value.int .i64) HD.out, Below.alloc Hb.out Hb.out.size _⟩
        case measure => simp [intOf]; omega
      · have hkl : k = L.length := by omega
        subst hkl
        go_wp2
        go_ret
        exact ⟨rfl, hb⟩
set_option maxHeartbeats 2000000 in
theorem iDegreeIn_nil (p : Int) (a : Option Addr) (cap : Nat) (v : Int) (w : World) (hp : isP p = true) (hv : inV v = true) :
    Calls Try.prog 39 #[.int .i64 p, .slice a 0 cap, .int .i64 v] w fun e w' => e = .returned (.int .i64 (-1)) ∧ Below w.heap.size w w' := by
  have HB := Lib.hid (show Calls Try.prog 17 #[.int .i64 p, .slice a 0 cap] w fun e w' => e = .returned (.bool true) ∧ Below w.heap.size w w' from
    (iPolyValid p (.slice a 0 cap) [] w ⟨by simp, a, cap, rfl, .inl rfl⟩).mono fun e w' h => by rw [hp] at h; exact h)
  have HU := Lib.hid (fun w => iUnk true v hv w)
  clear hp hv
  go_enter Try.func39, Try.ntmps39
  go_wp2_with fail
  refine HB.out.mono ?_
  rintro e w1 ⟨rfl, hb1⟩
  go_wp2_with (go_at_call 74; refine (HU.out _).mono ?_; rintro e w2 ⟨rfl, rfl⟩)
  go_loop [7, 21] (fun n i => n = .int .i64 (-1) ∧ i = .int .i64 0) (fun _ _ => 0)
  case atStart => exact ⟨rfl, rfl⟩
  case round =>
    obtain ⟨rfl, rfl⟩ := hrel
    go_wp2_with fail
    go_ret
    exact ⟨rfl, hb1⟩
set_option maxHeartbeats 2000000 in
theorem iDegreeIn_no (p : Int) (f : Value) (L : List Trm) (v : Int) (w : World) (h : Trms w f L) (hn : (isP p && validB p L) = false) :
    Calls Try.prog 39 #[.int .i64 p, f, .int .i64 v] w fun e w' => e = .returned (.int .i64 (-2)) ∧ Below w.heap.size w w' := by
  have HB := Lib.hid (show Calls Try.prog 17 #[.int .i64 p, f] w fun e w' => e = .returned (.bool false) ∧ Below w.heap.size w w' from
    (iPolyValid p f L w h).mono fun e w' h => by rw [hn] at h; exact h)
  clear hn h
  go_enter Try.func39, Try.ntmps39
  go_wp2_with fail
  refine HB.out.mono ?_
  rintro e w1 ⟨rfl, hb1⟩
  go_wp2_with fail
  go_ret
  exact ⟨rfl, hb1⟩
set_option maxHeartbeats 2000000 in
theorem iDegreeIn_noV (p : Int) (f : Value) (L : List Trm) (v : Int) (w : World) (h : Trms w f L) (hn : (isP p && validB p L) = true) (hv : inV v = false) :
    Calls Try.prog 39 #[.int .i64 p, f, .int .i64 v] w fun e w' => e = .returned (.int .i64 (-2)) ∧ Below w.heap.size w w' := by
  have HB := Lib.hid (show Calls Try.prog 17 #[.int .i64 p, f] w fun e w' => e = .returned (.bool true) ∧ Below w.heap.size w w' from
    (iPolyValid p f L w h).mono fun e w' h => by rw [hn] at h; exact h)
  have HU := Lib.hid (fun w => iUnk false v hv w)
  clear hn h hv
  go_enter Try.func39, Try.ntmps39
  go_wp2_with fail
  refine HB.out.mono ?_
  rintro e w1 ⟨rfl, hb1⟩
  go_wp2_with (go_at_call 74; refine (HU.out _).mono ?_; rintro e w2 ⟨rfl, rfl⟩)
  go_ret
  exact ⟨rfl, hb1⟩
theorem iDegreeIn (p : Int) (f : Value) (L : List Trm) (v : Int) (w : World) (h : Trms w f L) :
    Calls Try.prog 39 #[.int .i64 p, f, .int .i64 v] w fun e w' => e = .returned (.int .i64 (degIV p L v)) ∧ Below w.heap.size w w' := by
  unfold degIV
  cases hn : isP p && validB p L
  · exact iDegreeIn_no p f L v w h hn
  · cases hv : inV v
    · exact iDegreeIn_noV p f L v w h hn hv
    · have hn2 := hn
      simp only [Bool.and_eq_true] at hn2
      obtain ⟨hl, a, cap, rfl, h2⟩ := h
      rcases h2 with rfl | ⟨g, off, rfl, hg, hc⟩
      · exact iDegreeIn_nil p a cap v w hn2.1 hv
      · exact iDegreeIn_some p g off cap L v w hn2.1 hn2.2 hv hg hc
end Go.Proofs.Ythjfehinhamngaa
