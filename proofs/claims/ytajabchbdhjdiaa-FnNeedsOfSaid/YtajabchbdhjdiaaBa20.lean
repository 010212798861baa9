/-
  Contracts of both EvalPoly. Conditions: what the slice holds is known.
  Contracts of both EvalPoly, on. Conditions: what the slice holds is known.
-/
import Derived.Test.YtajabchbdhjdiaaBa17
import Derived.Test.YtajabchbdhjdiaaBa16
import Derived.Test.YtajabchbdhjdiaaBa19
namespace Go.Proofs.Ytajabchbdhjdiaa
open Go.RowKit
/-- the value of a term at a point -/
def valT (p x y z : Int) (T : Trm) : Int := T.t * (x ^ T.a.toNat % p) % p * (y ^ T.b.toNat % p) % p * (z ^ T.c.toNat % p) % p
def evK (p x y z : Int) (L : List Trm) : Nat → Int
  | 0 => 0
  | k + 1 => (evK p x y z L k + valT p x y z (L.getD k default)) % p
theorem emod_bd {n p : Int} (h : 2 ≤ p) : 0 ≤ n % p ∧ n % p < p := ⟨Int.emod_nonneg _ (by omega), Int.emod_lt_of_pos _ (by omega)⟩
theorem powV_is {p a n : Int} (hp : isP p = true) (ha : isE p a = true) (hn : 0 ≤ n) : powV p a n = a ^ n.toNat % p := by
  have : isE1 p a = true := by simp [isE1, hp, ha]
  simp [powV, this, hn]
theorem mulV_is {p a c : Int} (hp : isP p = true) (ha : isE p a = true) (hc : isE p c = true) : mulV p a c = a * c % p := by
  have : isE2 p a c = true := by simp [isE2, hp, ha, hc]
  simp [mulV, this]
theorem addV_is {p a c : Int} (hp : isP p = true) (ha : isE p a = true) (hc : isE p c = true) : addV p a c = (a + c) % p := by
  have : isE2 p a c = true := by simp [isE2, hp, ha, hc]
  simp [addV, this]
theorem isE_mod {p n : Int} (hp : isP p = true) : isE p (n % p) = true := by
  have := isP_bd hp
  exact isE_iff.2 (emod_bd (by omega))
theorem val_is {p x y z : Int} {T : Trm} (hp : isP p = true) (ht : isE p T.t = true) (hx : isE p x = true) (hy : isE p y = true) (hz : isE p z = true) (h : (0 ≤ T.a ∧ T.a ≤ 9) ∧ (0 ≤ T.b ∧ T.b ≤ 9) ∧ (0 ≤ T.c ∧ T.c ≤ 9)) :
    mulV p (mulV p (mulV p T.t (powV p x T.a)) (powV p y T.b)) (powV p z T.c) = valT p x y z T := by
  rw [powV_is hp hx h.1.1, powV_is hp hy h.2.1.1, powV_is hp hz h.2.2.1, mulV_is hp ht (isE_mod hp), mulV_is hp (isE_mod hp) (isE_mod hp), mulV_is hp (isE_mod hp) (isE_mod hp)]
  rfl
set_option maxHeartbeats 4000000 in
theorem iVal (p x y z : Int) (T : Trm) (w : World) (h : (0 ≤ T.a ∧ T.a ≤ 9) ∧ (0 ≤ T.b ∧ T.b ≤ 9) ∧ (0 ≤ T.c ∧ T.c ≤ 9)) :
    Calls Try.prog 93 #[.agg #[.int .i64 T.a, .int .i64 T.b, .int .i64 T.c, .int .i64 T.t], .int .i64 p, .agg #[.int .i64 x, .int .i64 y, .int .i64 z]] w
      fun e w' => e = .returned (.int .i64 (mulV p (mulV p (mulV p T.t (powV p x T.a)) (powV p y T.b)) (powV p z T.c))) ∧ Below w.heap.size w w' := by
  have HH := Lib.hid h
  obtain ⟨⟨A0, A1⟩, ⟨B0, B1⟩, ⟨C0, C1⟩⟩ := h
  have k0 := idx0
  have k1 := idx1
  have k2 := idx2
  go_enter Try.func93, Try.ntmps93
  go_wp2_with fail
  refine wp_loop_rounds 4 ?_
  obtain ⟨W, hW⟩ : ∃ W, W = (w.alloc (Obj.cells #[.int .i64 T.a, .int .i64 T.b, .int .i64 T.c, .int .i64 T.t] 69)).alloc (Obj.cells #[.int .i64 x, .int .i64 y, .int .i64 z] 48) := ⟨_, rfl⟩
  have hP : PtAt W (w.heap.size + 1) x y z := by rw [hW]; refine ⟨?_, ?_, ?_⟩ <;> simp [go_sem]
  have hs : w.heap.size + 1 < W.heap.size := by rw [hW]; simp
  have HB := Lib.hid (show Below w.heap.size w W by rw [hW]; exact Below.alloc (Below.alloc (Below.refl _ _) (Nat.le_refl _) _) (by simp) _)
  rw [← hW]
  clear hW
  obtain ⟨q0, q1, q2⟩ := hP
  rw [rounds_succ]
  go_wp2_with fail
  refine (iPowerIn p x T.a (by have := HH.out; omega) _).mono ?_
  rintro e V0 ⟨rfl, hb⟩
  have hP := PtAt.below ⟨q0, q1, q2⟩ hb hs
  have HB := Lib.hid (HB.out.trans (hb.mono HB.out.size))
  have hs := Nat.lt_of_lt_of_le hs hb.size
  clear hb q0 q1 q2
  obtain ⟨q0, q1, q2⟩ := hP
  go_wp2_with fail
  refine (iMul p T.t (powV p x T.a) _).mono ?_
  rintro e W0 ⟨rfl, hb⟩
  have hP := PtAt.below ⟨q0, q1, q2⟩ hb hs
  have HB := Lib.hid (HB.out.trans (hb.mono HB.out.size))
  have hs := Nat.lt_of_lt_of_le hs hb.size
  clear hb q0 q1 q2
  go_wp2_with fail
  obtain ⟨q0, q1, q2⟩ := hP
  rw [rounds_succ]
  go_wp2_with fail
  refine (iPowerIn p y T.b (by have := HH.out; omega) _).mono ?_
  rintro e V1 ⟨rfl, hb⟩
  have hP := PtAt.below ⟨q0, q1, q2⟩ hb hs
  have HB := Lib.hid (HB.out.trans (hb.mono HB.out.size))
  have hs := Nat.lt_of_lt_of_le hs hb.size
  clear hb q0 q1 q2
  obtain ⟨q0, q1, q2⟩ := hP
  go_wp2_with fail
  refine (iMul p (mulV p T.t (powV p x T.a)) (powV p y T.b) _).mono ?_
  rintro e W1 ⟨rfl, hb⟩
  have hP := PtAt.below ⟨q0, q1, q2⟩ hb hs
  have HB := Lib.hid (HB.out.trans (hb.mono HB.out.size))
  have hs := Nat.lt_of_lt_of_le hs hb.size
  clear hb q0 q1 q2
  go_wp2_with fail
  obtain ⟨q0, q1, q2⟩ := hP
  rw [rounds_succ]
  go_wp2_with fail
  refine (iPowerIn p z T.c (by have := HH.out; omega) _).mono ?_
  rintro e V2 ⟨rfl, hb⟩
  have hP := PtAt.below ⟨q0, q1, q2⟩ hb hs
  have HB := Lib.hid (HB.out.trans (hb.mono HB.out.size))
  have hs := Nat.lt_of_lt_of_le hs hb.size
  clear hb q0 q1 q2
  obtain ⟨q0, q1, q2⟩ := hP
  go_wp2_with fail
  refine (iMul p (mulV p (mulV p T.t (powV p x T.a)) (powV p y T.b)) (powV p z T.c) _).mono ?_
  rintro e W2 ⟨rfl, hb⟩
  have hP := PtAt.below ⟨q0, q1, q2⟩ hb hs
  have HB := Lib.hid (HB.out.trans (hb.mono HB.out.size))
  have hs := Nat.lt_of_lt_of_le hs hb.size
  clear hb q0 q1 q2
  go_wp2_with fail
  rw [rounds_succ]
  go_wp2_with fail
  go_ret
  exact ⟨rfl, HB.out⟩
theorem validB_el {p : Int} {L : List Trm} (h : validB p L = true) {k : Nat} (hk : k < L.length) {x : Trm} (hx : x = L.getD k default) : 1 ≤ x.t ∧ x.t < p := by
  have h1 := validB_at h hk
  rw [hx]
  simp only [okAt, tokB, Bool.and_eq_true, decide_eq_true_eq] at h1
  omega
theorem evK_bd {p : Int} (hp : isP p = true) (x y z : Int) (L : List Trm) (k : Nat) : 0 ≤ evK p x y z L k ∧ evK p x y z L k < p := by
  have := isP_bd hp
  cases k with
  | zero => exact ⟨Int.le_refl 0, show (0 : Int) < p by omega⟩
  | succ k => exact emod_bd (by omega)
set_option maxRecDepth 100000 in
set_option maxHeartbeats 8000000 in
theorem sAt_some (p x y z : Int) (g off cap : Nat) (L : List Trm) (w : World) (hp : isP p = true) (hx : isE p x = true) (hy : isE p y = true) (hz : isE p z = true) (hV : validB p L = true) (hg : g < w.heap.size)
    (hc : ∀ j : Nat, j < L.length → TAt w g (off + j * 4) (L.getD j default)) :
    Calls Try.prog 82 #[.int .i64 p, .slice (some ⟨g, off, none⟩) L.length cap, .agg #[.int .i64 x, .int .i64 y, .int .i64 z]] w fun e w' => e = .returned (.int .i64 (evK p x y z L L.length)) ∧ Below w.heap.size w w' := by
  have hl := validB_len hV
  have HC := Lib.hid hc
  have HV := Lib.hid hV
  have HP := Lib.hid hp
  obtain ⟨p0, p1⟩ := isP_bd hp
  obtain ⟨x0, x1⟩ := isE_iff.1 hx
  obtain ⟨y0, y1⟩ := isE_iff.1 hy
  obtain ⟨z0, z1⟩ := isE_iff.1 hz
  have k0 := idx0
  have k1 := idx1
  have k2 := idx2
  clear hc hV hp hx hy hz
  go_enter Try.func82, Try.ntmps82
  go_wp2_with fail
  obtain ⟨W, hW⟩ : ∃ W, W = w.alloc (Obj.cells #[.int .i64 x, .int .i64 y, .int .i64 z] 48) := ⟨_, rfl⟩
  have hPt : PtAt W w.heap.size x y z := by rw [hW]; refine ⟨?_, ?_, ?_⟩ <;> simp [go_sem]
  have hsW : w.heap.size < W.heap.size := by rw [hW]; simp
  have HW := Lib.hid (show Below w.heap.size w W by rw [hW]; exact Below.alloc (Below.refl _ _) (Nat.le_refl _) _)
  rw [← hW]
  clear hW
  have HPt := Lib.hid hPt
  clear hPt
  go_loopw [7, 15] (fun n i wr => ∃ k : Nat, k ≤ L.length ∧ i = .int .i64 k ∧ n = .int .i64 (evK p x y z L k) ∧ Below W.heap.size W wr) (fun _ i _ => L.length - (intOf i).toNat)
  case atStart => exact ⟨0, by omega, rfl, rfl, Below.refl _ _⟩
  case round =>
    obtain ⟨k, hk, rfl, rfl, hb⟩ := hrel
    have HWr := Lib.hid (HW.out.trans (hb.mono HW.out.size))
    by_cases hlt : k < L.length
    · have hltp : (k : Int) < (L.length : Int) := by omega
      have hk0 : (0 : Int) ≤ (k : Int) := by omega
      obtain ⟨a0, a1, a2, a3⟩ := (HC.out k hlt).below HWr.out hg
      obtain ⟨c0, c1, c2⟩ := HPt.out.below hb hsW
      have hgr : w.heap.size < wr.heap.size := Nat.lt_of_lt_of_le hsW hb.size
      obtain ⟨T, hT⟩ : ∃ x, x = L.getD k default := ⟨_, rfl⟩
      rw [← hT] at a0 a1 a2 a3
      obtain ⟨⟨A0, A1⟩, ⟨B0, B1⟩, ⟨C0, C1⟩⟩ := validB_pows HV.out hlt hT
      obtain ⟨t0, t1⟩ := validB_el HV.out hlt hT
      obtain ⟨qa, hqa⟩ : ∃ q, q = x ^ T.a.toNat % p := ⟨_, rfl⟩
      obtain ⟨qb, hqb⟩ : ∃ q, q = y ^ T.b.toNat % p := ⟨_, rfl⟩
      obtain ⟨qc, hqc⟩ : ∃ q, q = z ^ T.c.toNat % p := ⟨_, rfl⟩
      obtain ⟨qa0, qa1⟩ : 0 ≤ qa ∧ qa < p := by rw [hqa]; exact emod_bd p0
      obtain ⟨qb0, qb1⟩ : 0 ≤ qb ∧ qb < p := by rw [hqb]; exact emod_bd p0
      obtain ⟨qc0, qc1⟩ : 0 ≤ qc ∧ qc < p := by rw [hqc]; exact emod_bd p0
      have HA := Lib.hid (fun w => by have := sPowLoop p x T.a HP.out x0 x1 A0 (by omega) w; rw [← hqa] at this; exact this)
      have HB := Lib.hid (fun w => by have := sPowLoop p y T.b HP.out y0 y1 B0 (by omega) w; rw [← hqb] at this; exact this)
      have HC' := Lib.hid (fun w => by have := sPowLoop p z T.c HP.out z0 z1 C0 (by omega) w; rw [← hqc] at this; exact this)
      obtain ⟨m0, m0'⟩ := mul_bd HP.out (show 0 ≤ T.t by omega) t1 qa0 qa1
      obtain ⟨e0, e0'⟩ := emod_bd (n := T.t * qa) p0
      obtain ⟨m1, m1'⟩ := mul_bd HP.out e0 e0' qb0 qb1
      obtain ⟨e1, e1'⟩ := emod_bd (n := T.t * qa % p * qb) p0
      obtain ⟨m2, m2'⟩ := mul_bd HP.out e1 e1' qc0 qc1
      obtain ⟨e2, e2'⟩ := emod_bd (n := T.t * qa % p * qb % p * qc) p0
      obtain ⟨s0, s1⟩ := evK_bd HP.out x y z L k
      have HF := Lib.hid (show (evK p x y z L k + T.t * qa % p * qb % p * qc % p) % p = evK p x y z L (k + 1) by rw [hqa, hqb, hqc, hT]; rfl)
      obtain ⟨ev, hev⟩ : ∃ s, s = evK p x y z L k := ⟨_, rfl⟩
      rw [← hev] at s0 s1 HF ⊢
      have Hb := Lib.hid hb
      clear hT hqa hqb hqc hev hb
      go_wp2_with fail
      refine wp_loop_rounds 4 ?_
      rw [rounds_succ]
      go_wp2_with fail
      refine (HA.out _).mono ?_
      rintro e w' ⟨rfl, rfl⟩
      go_wp2_with fail
      rw [rounds_succ]
      go_wp2_with fail
      refine (HB.out _).mono ?_
      rintro e w' ⟨rfl, rfl⟩
      go_wp2_with fail
      rw [rounds_succ]
      go_wp2_with fail
      refine (HC'.out _).mono ?_
      rintro e w' ⟨rfl, rfl⟩
      go_wp2_with fail
      rw [rounds_succ]
      go_wp2_with fail
      go_roundw
      case rel => exact ⟨k + 1, by omega, by go_num, congrArg (Value.int .i64) HF.out, Below.alloc Hb.out Hb.out.size _⟩
      case measure => simp [intOf]; omega
    · have hkl : k = L.length := by omega
      subst hkl
      go_wp2
      go_ret
      exact ⟨rfl, HWr.out⟩
end Go.Proofs.Ytajabchbdhjdiaa
namespace Go.Proofs.Ytajabchbdhjdiaa
open Go.RowKit
/-- what EvalPoly hands back, for all arguments -/
def evV (p x y z : Int) (L : List Trm) : Int := if (isP p && validB p L) && isE3 p x y z then evK p x y z L L.length else -1
theorem sAt_nil (p x y z : Int) (a : Option Addr) (cap : Nat) (w : World) :
    Calls Try.prog 82 #[.int .i64 p, .slice a 0 cap, .agg #[.int .i64 x, .int .i64 y, .int .i64 z]] w fun e w' => e = .returned (.int .i64 0) ∧ Below w.heap.size w w' := by
  go_enter Try.func82, Try.ntmps82
  go_wp2_with fail
  go_loop [7, 15] (fun n i => n = .int .i64 0 ∧ i = .int .i64 0) (fun _ _ => 0)
  case atStart => exact ⟨rfl, rfl⟩
  case round =>
    obtain ⟨rfl, rfl⟩ := hrel
    go_wp2_with fail
    go_ret
    exact ⟨rfl, Below.alloc (Below.refl _ _) (Nat.le_refl _) _⟩
theorem sAt (p x y z : Int) (f : Value) (L : List Trm) (w : World) (hp : isP p = true) (hV : validB p L = true) (hE : isE3 p x y z = true) (h : Trms w f L) :
    Calls Try.prog 82 #[.int .i64 p, f, .agg #[.int .i64 x, .int .i64 y, .int .i64 z]] w fun e w' => e = .returned (.int .i64 (evK p x y z L L.length)) ∧ Below w.heap.size w w' := by
  simp only [isE3, Bool.and_eq_true] at hE
  obtain ⟨hl, a, cap, rfl, h2⟩ := h
  rcases h2 with rfl | ⟨g, off, rfl, hg, hc⟩
  · exact sAt_nil p x y z a cap w
  · exact sAt_some p x y z g off cap L w hp hE.1 hE.2.1 hE.2.2 hV hg hc
set_option maxHeartbeats 2000000 in
theorem iEvalPoly_no (p x y z : Int) (f : Value) (L : List Trm) (w : World) (h : Trms w f L) (hn : (isP p && validB p L) = false) :
    Calls Try.prog 46 #[.int .i64 p, f, .agg #[.int .i64 x, .int .i64 y, .int .i64 z]] w fun e w' => e = .returned (.int .i64 (-1)) ∧ Below w.heap.size w w' := by
  have HB := Lib.hid (show ∀ w', Below w.heap.size w w' → Calls Try.prog 48 #[.int .i64 p, f] w' fun e w'' => e = .returned (.bool false) ∧ Below w'.heap.size w' w'' from
    fun w' hb => (iPolyValid p f L w' (h.below hb)).mono fun e w'' h => by rw [hn] at h; exact h)
  clear hn h
  go_enter Try.func46, Try.ntmps46
  go_wp2_with fail
  refine (HB.out _ (Below.alloc (Below.refl _ _) (Nat.le_refl _) _)).mono ?_
  rintro e w1 ⟨rfl, hb1⟩
  go_wp2_with fail
  go_ret
  exact ⟨rfl, (Below.alloc (Below.refl _ _) (Nat.le_refl _) _).trans (hb1.mono (by simp))⟩
set_option maxHeartbeats 2000000 in
theorem iEvalPoly_noE (p x y z : Int) (f : Value) (L : List Trm) (w : World) (h : Trms w f L) (hn : (isP p && validB p L) = true) (hE : isE3 p x y z = false) :
    Calls Try.prog 46 #[.int .i64 p, f, .agg #[.int .i64 x, .int .i64 y, .int .i64 z]] w fun e w' => e = .returned (.int .i64 (-1)) ∧ Below w.heap.size w w' := by
  have HP := Lib.hid (show isP p = true by simp only [Bool.and_eq_true] at hn; exact hn.1)
  have HE := Lib.hid hE
  have HB := Lib.hid (show ∀ w', Below w.heap.size w w' → Calls Try.prog 48 #[.int .i64 p, f] w' fun e w'' => e = .returned (.bool true) ∧ Below w'.heap.size w' w'' from
    fun w' hb => (iPolyValid p f L w' (h.below hb)).mono fun e w'' h => by rw [hn] at h; exact h)
  clear hn h hE
  go_enter Try.func46, Try.ntmps46
  go_wp2_with fail
  obtain ⟨W, hW⟩ : ∃ W, W = w.alloc (Obj.cells #[.int .i64 x, .int .i64 y, .int .i64 z] 48) := ⟨_, rfl⟩
  have hPt : PtAt W w.heap.size x y z := by rw [hW]; refine ⟨?_, ?_, ?_⟩ <;> simp [go_sem]
  have hsW : w.heap.size < W.heap.size := by rw [hW]; simp
  have HW := Lib.hid (show Below w.heap.size w W by rw [hW]; exact Below.alloc (Below.refl _ _) (Nat.le_refl _) _)
  rw [← hW]
  clear hW
  refine (HB.out _ HW.out).mono ?_
  rintro e w1 ⟨rfl, hb1⟩
  have hPt := hPt.below hb1 hsW
  have HW := Lib.hid (HW.out.trans (hb1.mono HW.out.size))
  have HPt := Lib.hid hPt
  obtain ⟨c0, c1, c2⟩ := hPt
  go_wp2_with fail
  refine (iAE3 false p x y z HP.out HE.out _ _ HPt.out).mono ?_
  rintro e w2 ⟨rfl, rfl⟩
  go_wp2_with fail
  go_ret
  exact ⟨rfl, HW.out⟩
set_option maxRecDepth 100000 in
set_option maxHeartbeats 8000000 in
theorem iEvalPoly_some (p x y z : Int) (g off cap : Nat) (L : List Trm) (w : World) (hp : isP p = true) (hV : validB p L = true) (hE : isE3 p x y z = true) (hg : g < w.heap.size)
    (hc : ∀ j : Nat, j < L.length → TAt w g (off + j * 4) (L.getD j default)) :
    Calls Try.prog 46 #[.int .i64 p, .slice (some ⟨g, off, none⟩) L.length cap, .agg #[.int .i64 x, .int .i64 y, .int .i64 z]] w fun e w' => e = .returned (.int .i64 (evK p x y z L L.length)) ∧ Below w.heap.size w w' := by
  have hl := validB_len hV
  have HP := Lib.hid hp
  have HV := Lib.hid hV
  have HE := Lib.hid hE
  have HE2 := Lib.hid (show isE p x = true ∧ isE p y = true ∧ isE p z = true by simpa only [isE3, Bool.and_eq_true] using hE)
  obtain ⟨p0, p1⟩ := isP_bd hp
  have HB := Lib.hid (show ∀ w', Below w.heap.size w w' → Calls Try.prog 48 #[.int .i64 p, .slice (some ⟨g, off, none⟩) L.length cap] w' fun e w'' => e = .returned (.bool true) ∧ Below w'.heap.size w' w'' from
    fun w' hb => (iPolyValid p _ L w' ⟨by omega, _, cap, rfl, .inr ⟨g, off, rfl, Nat.lt_of_lt_of_le hg hb.size, fun j hj => (hc j hj).below hb hg⟩⟩).mono fun e w'' h => by rw [hp, hV] at h; exact h)
  have HC := Lib.hid hc
  clear hc hV hp hE
  go_enter Try.func46, Try.ntmps46
  go_wp2_with fail
  obtain ⟨W, hW⟩ : ∃ W, W = w.alloc (Obj.cells #[.int .i64 x, .int .i64 y, .int .i64 z] 48) := ⟨_, rfl⟩
  have hPt : PtAt W w.heap.size x y z := by rw [hW]; refine ⟨?_, ?_, ?_⟩ <;> simp [go_sem]
  have hsW : w.heap.size < W.heap.size := by rw [hW]; simp
  have HW := Lib.hid (show Below w.heap.size w W by rw [hW]; exact Below.alloc (Below.refl _ _) (Nat.le_refl _) _)
  rw [← hW]
  clear hW
  refine (HB.out _ HW.out).mono ?_
  rintro e w1 ⟨rfl, hb1⟩
  have hPt := hPt.below hb1 hsW
  have HW := Lib.hid (HW.out.trans (hb1.mono HW.out.size))
  have hsW := Nat.lt_of_lt_of_le hsW hb1.size
  clear hb1
  have HPt := Lib.hid hPt
  obtain ⟨c0, c1, c2⟩ := hPt
  go_wp2_with fail
  refine (iAE3 true p x y z HP.out HE.out _ _ HPt.out).mono ?_
  rintro e w2 ⟨rfl, rfl⟩
  go_wp2_with fail
  clear c0 c1 c2
  go_loopw [7, 22] (fun n i wr => ∃ k : Nat, k ≤ L.length ∧ i = .int .i64 k ∧ n = .int .i64 (evK p x y z L k) ∧ Below w1.heap.size w1 wr) (fun _ i _ => L.length - (intOf i).toNat)
  case atStart => exact ⟨0, by omega, rfl, rfl, Below.refl _ _⟩
  case round =>
    obtain ⟨k, hk, rfl, rfl, hb⟩ := hrel
    have HWr := Lib.hid (HW.out.trans (hb.mono HW.out.size))
    by_cases hlt : k < L.length
    · have hltp : (k : Int) < (L.length : Int) := by omega
      have hk0 : (0 : Int) ≤ (k : Int) := by omega
      obtain ⟨a0, a1, a2, a3⟩ := (HC.out k hlt).below HWr.out hg
      obtain ⟨c0, c1, c2⟩ := HPt.out.below hb hsW
      have hgr : w.heap.size < wr.heap.size := Nat.lt_of_lt_of_le hsW hb.size
      obtain ⟨T, hT⟩ : ∃ x, x = L.getD k default := ⟨_, rfl⟩
      rw [← hT] at a0 a1 a2 a3
      have HX := Lib.hid (validB_pows HV.out hlt hT)
      have ht := validB_el HV.out hlt hT
      have HVal := Lib.hid (val_is HP.out (isE_iff.2 (by omega)) HE2.out.1 HE2.out.2.1 HE2.out.2.2 HX.out)
      have HF := Lib.hid (show addV p (evK p x y z L k) (mulV p (mulV p (mulV p T.t (powV p x T.a)) (powV p y T.b)) (powV p z T.c)) = evK p x y z L (k + 1) by
        rw [HVal.out, addV_is HP.out (isE_iff.2 (evK_bd HP.out x y z L k)) (show isE p (valT p x y z T) = true from isE_mod HP.out), hT]; rfl)
      clear hT ht
      have Hb := Lib.hid hb
      clear hb
      go_wp2_with fail
      refine (iVal p x y z T _ HX.out).mono ?_
      rintro e w3 ⟨rfl, hb3⟩
      have H3 := Lib.hid (Hb.out.trans (((Below.alloc (Below.refl _ _) (Nat.le_refl _) _).trans (hb3.mono (by simp))).mono Hb.out.size))
      clear hb3
      go_wp2_with fail
      refine (iAdd p (evK p x y z L k) _ _).mono ?_
      rintro e w4 ⟨rfl, hb4⟩
      have H4 := Lib.hid (H3.out.trans (hb4.mono H3.out.size))
      clear hb4
      go_wp2_with fail
      go_roundw
      case rel => exact ⟨k + 1, by omega, by go_num, congrArg (Value.int .i64) HF.out, H4.out⟩
      case measure => simp [intOf]; omega
    · have hkl : k = L.length := by omega
      subst hkl
      go_wp2
      go_ret
      exact ⟨rfl, HWr.out⟩
set_option maxHeartbeats 4000000 in
theorem iEvalPoly_nil (p x y z : Int) (a : Option Addr) (cap : Nat) (w : World) (hp : isP p = true) (hE : isE3 p x y z = true) :
    Calls Try.prog 46 #[.int .i64 p, .slice a 0 cap, .agg #[.int .i64 x, .int .i64 y, .int .i64 z]] w fun e w' => e = .returned (.int .i64 0) ∧ Below w.heap.size w w' := by
  have HP := Lib.hid hp
  have HE := Lib.hid hE
  have HB := Lib.hid (show ∀ w', Below w.heap.size w w' → Calls Try.prog 48 #[.int .i64 p, .slice a 0 cap] w' fun e w'' => e = .returned (.bool true) ∧ Below w'.heap.size w' w'' from
    fun w' hb => (iPolyValid p _ [] w' ⟨by simp, _, cap, rfl, .inl rfl⟩).mono fun e w'' h => by rw [hp] at h; exact h)
  clear hp hE
  go_enter Try.func46, Try.ntmps46
  go_wp2_with fail
  obtain ⟨W, hW⟩ : ∃ W, W = w.alloc (Obj.cells #[.int .i64 x, .int .i64 y, .int .i64 z] 48) := ⟨_, rfl⟩
  have hPt : PtAt W w.heap.size x y z := by rw [hW]; refine ⟨?_, ?_, ?_⟩ <;> simp [go_sem]
  have hsW : w.heap.size < W.heap.size := by rw [hW]; simp
  have HW := Lib.hid (show Below w.heap.size w W by rw [hW]; exact Below.alloc (Below.refl _ _) (Nat.le_refl _) _)
  rw [← hW]
  clear hW
  refine (HB.out _ HW.out).mono ?_
  rintro e w1 ⟨rfl, hb1⟩
  have hPt := hPt.below hb1 hsW
  have HW := Lib.hid (HW.out.trans (hb1.mono HW.out.size))
  have HPt := Lib.hid hPt
  obtain ⟨c0, c1, c2⟩ := hPt
  go_wp2_with fail
  refine (iAE3 true p x y z HP.out HE.out _ _ HPt.out).mono ?_
  rintro e w2 ⟨rfl, rfl⟩
  go_wp2_with fail
  go_loop [7, 22] (fun n i => n = .int .i64 0 ∧ i = .int .i64 0) (fun _ _ => 0)
  case atStart => exact ⟨rfl, rfl⟩
  case round =>
    obtain ⟨rfl, rfl⟩ := hrel
    go_wp2_with fail
    go_ret
    exact ⟨rfl, HW.out⟩
theorem iEvalPoly_yes (p x y z : Int) (f : Value) (L : List Trm) (w : World) (h : Trms w f L) (hn : (isP p && validB p L) = true) (hE : isE3 p x y z = true) :
    Calls Try.prog 46 #[.int .i64 p, f, .agg #[.int .i64 x, .int .i64 y, .int .i64 z]] w fun e w' => e = .returned (.int .i64 (evK p x y z L L.length)) ∧ Below w.heap.size w w' := by
  simp only [Bool.and_eq_true] at hn
  obtain ⟨hl, a, cap, rfl, h2⟩ := h
  rcases h2 with rfl | ⟨g, off, rfl, hg, hc⟩
  · exact iEvalPoly_nil p x y z a cap w hn.1 hE
  · exact iEvalPoly_some p x y z g off cap L w hn.1 hn.2 hE hg hc
theorem iEvalPoly (p x y z : Int) (f : Value) (L : List Trm) (w : World) (h : Trms w f L) :
    Calls Try.prog 46 #[.int .i64 p, f, .agg #[.int .i64 x, .int .i64 y, .int .i64 z]] w fun e w' => e = .returned (.int .i64 (evV p x y z L)) ∧ Below w.heap.size w w' := by
  unfold evV
  cases hn : isP p && validB p L
  · exact iEvalPoly_no p x y z f L w h hn
  · cases hE : isE3 p x y z
    · exact iEvalPoly_noE p x y z f L w h hn hE
    · exact iEvalPoly_yes p x y z f L w h hn hE
end Go.Proofs.Ytajabchbdhjdiaa
