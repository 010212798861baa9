/-
  Contracts of both EvalPoly. Conditions: what the slice holds is known.
-/
import Derived.Test.YtibghhkhnpjdfaaBa25
import Derived.Test.YtibghhkhnpjdfaaBb2
import Derived.Test.YtibghhkhnpjdfaaBb9
namespace Go.Proofs.Ytibghhkhnpjdfaa
open Go.RowKit
/-- the value of a term at a point -/
def valT (p x y z : Int) (T : Trm) : Int := T.t * (x ^ T.a.toNat % p) % p * (y ^ T.b.toNat % p) % p * (z ^ T.c.toNat % p) % p
def evK (p x y z : Int) (L : List Trm) : Nat → Int
  | 0 => 0
  | k + 1 => (evK p x y z L k + valT p x y z (L.getD k default)) % p
theorem emod_bd {n p : Int} (h : 2 ≤ p) : 0 ≤ n % p ∧ n % p < p := ⟨Int.emod_nonneg _ (by omega), Int.emod_lt_of_pos _ (by omega)⟩
theorem powV_is {p a n : Int} (hp : isP p = true) (ha : isE p a = true) (hn : 0 ≤ n) : powV p a n = a ^ n.toNat % p := by
  have : isE1 p a = true := by simp [isE1, hp, ha]
  simp [powV, this, hn]
theorem mulV_is {p a c : Int} (hp : isP p = true) (ha : isE p a = true) (hc : isE p c = true) : mulV p a c = a * c % p := by
  have : isE2 p a c = true := by simp [isE2, hp, ha, hc]
  simp [mulV, this]
theorem addV_is {p a c : Int} (hp : isP p = true) (ha : isE p a = true) (hc : isE p c = true) : addV p a c = (a + c) % p := by
  have : isE2 p a c = true := by simp [isE2, hp, ha, hc]
  simp [addV, this]
theorem isE_mod {p n : Int} (hp : isP p = true) : isE p (n % p) = true := by
  have := isP_bd hp
  exact isE_iff.2 (emod_bd (by omega))
theorem val_is {p x y z : Int} {T : Trm} (hp : isP p = true) (ht : isE p T.t = true) (hx : isE p x = true) (hy : isE p y = true) (hz : isE p z = true) (h : (0 ≤ T.a ∧ T.a ≤ 9) ∧ (0 ≤ T.b ∧ T.b ≤ 9) ∧ (0 ≤ T.c ∧ T.c ≤ 9)) :
    mulV p (mulV p (mulV p T.t (powV p x T.a)) (powV p y T.b)) (powV p z T.c) = valT p x y z T := by
  rw [powV_is hp hx h.1.1, powV_is hp hy h.2.1.1, powV_is hp hz h.2.2.1, mulV_is hp ht (isE_mod hp), mulV_is hp (isE_mod hp) (isE_mod hp), mulV_is hp (isE_mod hp) (isE_mod hp)]
  rfl
set_option maxHeartbeats 4000000 in
theorem iVal (p x y z : Int) (T : Trm) (w : World) (h : (0 ≤ T.a ∧ T.a ≤ 9) ∧ (0 ≤ T.b ∧ T.b ≤ 9) ∧ (0 ≤ T.c ∧ T.c ≤ 9)) :
    Calls Try.prog 108 #[.agg #[.int .i64 T.a, .int .i64 T.b, .int .i64 T.c, .int .i64 T.t], .int .i64 p, .agg #[.int .i64 x, .int .i64 y, .int .i64 z]] w
      fun e w' => e = .returned (.int .i64 (mulV p (mulV p (mulV p T.t (powV p x T.a)) (powV p y T.b)) (powV p z T.c))) ∧ Below w.heap.size w w' := by
  have HH := Lib.hid h
  obtain ⟨⟨A0, A1⟩, ⟨B0, B1⟩, ⟨C0, C1⟩⟩ := h
  have k0 := idx0
  have k1 := idx1
  have k2 := idx2
  go_enter Try.func108, Try.ntmps108
  go_wp2_with fail
  refine wp_loop_rounds 4 ?_
  obtain ⟨W, hW⟩ : ∃ W, W = (w.alloc (Obj.cells #[.int .i64 T.a, .int .i64 T.b, .int .i64 T.c, .int .i64 T.t] 63)).alloc (Obj.cells #[.int .i64 x, .int .i64 y, .int .i64 z] 35) := ⟨_, rfl⟩
  have hP : PtAt W (w.heap.size + 1) x y z := by rw [hW]; refine ⟨?_, ?_, ?_⟩ <;> simp [go_sem]
  have hs : w.heap.size + 1 < W.heap.size := by rw [hW]; simp
  have HB := Lib.hid (show Below w.heap.size w W by rw [hW]; exact Below.alloc (Below.alloc (Below.refl _ _) (Nat.le_refl _) _) (by simp) _)
  rw [← hW]
  clear hW
  obtain ⟨q0, q1, q2⟩ := hP
  rw [rounds_succ]
  go_wp2_with fail
  refine (iPowerIn p x T.a (by have := HH.out; omega) _).mono ?_
  rintro e V0 ⟨rfl, hb⟩
  have hP := PtAt.below ⟨q0, q1, q2⟩ hb hs
  have HB := Lib.hid (HB.out.trans (hb.mono HB.out.size))
  have hs := Nat.lt_of_lt_of_le hs hb.size
  clear hb q0 q1 q2
  obtain ⟨q0, q1, q2⟩ := hP
  go_wp2_with fail
  refine (iMul p T.t (powV p x T.a) _).mono ?_
  rintro e W0 ⟨rfl, hb⟩
  have hP := PtAt.below ⟨q0, q1, q2⟩ hb hs
  have HB := Lib.hid (HB.out.trans (hb.mono HB.out.size))
  have hs := Nat.lt_of_lt_of_le hs hb.size
  clear hb q0 q1 q2
  go_wp2_with fail
  obtain ⟨q0, q1, q2⟩ := hP
  rw [rounds_succ]
  go_wp2_with fail
  refine (iPowerIn p y T.b (by have := HH.out; omega) _).mono ?_
  rintro e V1 ⟨rfl, hb⟩
  have hP := PtAt.below ⟨q0, q1, q2⟩ hb hs
  have HB := Lib.hid (HB.out.trans (hb.mono HB.out.size))
  have hs := Nat.lt_of_lt_of_le hs hb.size
  clear hb q0 q1 q2
  obtain ⟨q0, q1, q2⟩ := hP
  go_wp2_with fail
  refine (iMul p (mulV p T.t (powV p x T.a)) (powV p y T.b) _).mono ?_
  rintro e W1 ⟨rfl, hb⟩
  have hP := PtAt.below ⟨q0, q1, q2⟩ hb hs
  have HB := Lib.hid (HB.out.trans (hb.mono HB.out.size))
  have hs := Nat.lt_of_lt_of_le hs hb.size
  clear hb q0 q1 q2
  go_wp2_with fail
  obtain ⟨q0, q1, q2⟩ := hP
  rw [rounds_succ]
  go_wp2_with fail
  refine (iPowerIn p z T.c (by have := HH.out; omega) _).mono ?_
  rintro e V2 ⟨rfl, hb⟩
  have hP := PtAt.below ⟨q0, q1, q2⟩ hb hs
  have HB := Lib.hid (HB.out.trans (hb.mono HB.out.size))
  have hs := Nat.lt_of_lt_of_le hs hb.size
  clear hb q0 q1 q2
  obtain ⟨q0, q1, q2⟩ := hP
  go_wp2_with fail
  refine (iMul p (mulV p (mulV p T.t (powV p x T.a)) (powV p y T.b)) (powV p z T.c) _).mono ?_
  rintro e W2 ⟨rfl, hb⟩
  have hP := PtAt.below ⟨q0, q1, q2⟩ hb hs
  have HB := Lib.hid (HB.out.trans (hb.mono HB.out.size))
  have hs := Nat.lt_of_lt_of_le hs hb.size
  clear hb q0 q1 q2
  go_wp2_with fail
  rw [rounds_succ]
  go_wp2_with fail
  go_ret
  exact ⟨rfl, HB.out⟩
theorem validB_el {p : Int} {L : List Trm} (h : validB p L = true) {k : Nat} (hk : k < L.length) {x : Trm} (hx : x = L.getD k default) : 1 ≤ x.t ∧ x.t < p := by
  have h1 := validB_at h hk
  rw [hx]
  simp only [okAt, tokB, Bool.and_eq_true, decide_eq_true_eq] at h1
  omega
theorem evK_bd {p : Int} (hp : isP p = true) (x y z : Int) (L : List Trm) (k : Nat) : 0 ≤ evK p x y z L k ∧ evK p x y z L k < p := by
  have := isP_bd hp
  cases k with
  | zero => exact ⟨Int.le_refl 0, show (0 : Int) < p by omega⟩
  | succ k => exact emod_bd (by omega)
end Go.Proofs.Ytibghhkhnpjdfaa
