/-
  Contracts of the model's draws of chapter 1, on: pairs and triples, and the draws of each function's arguments. Conditions: the bytes can be read.
-/
import Derived.Test.YtpoemcigklanoaaDrw
namespace Go.Proofs.Ytpoemcigklanoaa
open Go.RowKit
def I64 (x : Int) : Prop := -9223372036854775808 ≤ x ∧ x ≤ 9223372036854775807
def Pair (R : Nat) (a : Option Addr) (len cap p c : Nat) (w : World) (e : Ending) (w' : World) : Prop :=
  ∃ x y : Int, ∃ q : Nat, e = .returned (.tuple #[.int .i64 x, .int .i64 y]) ∧ I64 x ∧ I64 y ∧ q ≤ p + c ∧ Rd w' R a len cap q ∧ w.grownBy w' (some R)
def Triple (R : Nat) (a : Option Addr) (len cap p c : Nat) (w : World) (e : Ending) (w' : World) : Prop :=
  ∃ x y z : Int, ∃ q : Nat, e = .returned (.tuple #[.int .i64 x, .int .i64 y, .int .i64 z]) ∧ I64 x ∧ I64 y ∧ I64 z ∧ q ≤ p + c ∧ Rd w' R a len cap q ∧ w.grownBy w' (some R)
set_option maxHeartbeats 1000000 in
theorem one_any (R : Nat) (a : Option Addr) (len cap p : Nat) (w : World) (h : Rd w R a len cap p) (hp : p ≤ 900000) :
    Calls Try.prog 61 #[.pointer (some ⟨R, 0, none⟩)] w (Pair R a len cap p 4 w) := by
  go_enter Try.func61, Try.ntmps61
  go_wp2_with fail
  refine (some_any R a len cap p w h (by omega)).mono ?_
  rintro e w1 ⟨x, q, rfl, x0, x1, hq, hR1, hg1⟩
  go_wp2_with fail
  refine (element_any R a len cap q x x0 x1 w1 hR1 (by omega)).mono ?_
  rintro e w2 ⟨y, q2, rfl, y0, y1, hq2, hR2, hg2⟩
  go_wp2
  go_ret2
  exact ⟨x, y, q2, rfl, ⟨x0, x1⟩, ⟨y0, y1⟩, by omega, hR2, grown_trans hg1 hg2⟩
set_option maxHeartbeats 1000000 in
theorem two_any (R : Nat) (a : Option Addr) (len cap p : Nat) (w : World) (h : Rd w R a len cap p) (hp : p ≤ 900000) :
    Calls Try.prog 50 #[.pointer (some ⟨R, 0, none⟩)] w (Triple R a len cap p 6 w) := by
  go_enter Try.func50, Try.ntmps50
  go_wp2_with fail
  refine (some_any R a len cap p w h (by omega)).mono ?_
  rintro e w1 ⟨x, q, rfl, x0, x1, hq, hR1, hg1⟩
  go_wp2_with fail
  refine (element_any R a len cap q x x0 x1 w1 hR1 (by omega)).mono ?_
  rintro e w2 ⟨y, q2, rfl, y0, y1, hq2, hR2, hg2⟩
  go_wp2_with fail
  refine (element_any R a len cap q2 x x0 x1 w2 hR2 (by omega)).mono ?_
  rintro e w3 ⟨z, q3, rfl, z0, z1, hq3, hR3, hg3⟩
  go_wp2
  go_ret3
  exact ⟨x, y, z, q3, rfl, ⟨x0, x1⟩, ⟨y0, y1⟩, ⟨z0, z1⟩, by omega, hR3, grown_trans hg1 (grown_trans hg2 hg3)⟩
def Draw1 (w : World) (e : Ending) (w' : World) : Prop := ∃ x : Int, e = .returned (.int .i64 x) ∧ I64 x ∧ Below w.heap.size w w'
def Draw2 (w : World) (e : Ending) (w' : World) : Prop := ∃ x y : Int, e = .returned (.tuple #[.int .i64 x, .int .i64 y]) ∧ I64 x ∧ I64 y ∧ Below w.heap.size w w'
def Draw3 (w : World) (e : Ending) (w' : World) : Prop := ∃ x y z : Int, e = .returned (.tuple #[.int .i64 x, .int .i64 y, .int .i64 z]) ∧ I64 x ∧ I64 y ∧ I64 z ∧ Below w.heap.size w w'
theorem below_reader {w w1 w2 : World} (h : Below w.heap.size w w1) (hg : w1.grownBy w2 (some w.heap.size)) : Below w.heap.size w w2 :=
  h.grown hg h.size (fun k hk => by cases hk; exact Nat.le_refl _)
set_option maxHeartbeats 1000000 in
theorem drawMulIn (a : Option Addr) (len cap : Nat) (w : World) (h : ByteRow w a len cap) :
    Calls Try.prog 19 #[.slice a len cap] w (Draw3 w) := by
  go_enter Try.func19, Try.ntmps19
  go_wp2_with fail
  refine (open_any a len cap w h).mono ?_
  rintro e w1 ⟨a1, l1, c1, rfl, hR1, hb1⟩
  go_wp2_with fail
  refine (two_any w.heap.size a1 l1 c1 0 w1 hR1 (by omega)).mono ?_
  rintro e w2 ⟨x, y, z, q, rfl, x0, y0, z0, hq, hR2, hg2⟩
  go_wp2
  go_ret3
  exact ⟨x, y, z, rfl, x0, y0, z0, below_reader hb1 hg2⟩
set_option maxHeartbeats 1000000 in
theorem drawMinusIn (a : Option Addr) (len cap : Nat) (w : World) (h : ByteRow w a len cap) :
    Calls Try.prog 30 #[.slice a len cap] w (Draw2 w) := by
  go_enter Try.func30, Try.ntmps30
  go_wp2_with fail
  refine (open_any a len cap w h).mono ?_
  rintro e w1 ⟨a1, l1, c1, rfl, hR1, hb1⟩
  go_wp2_with fail
  refine (one_any w.heap.size a1 l1 c1 0 w1 hR1 (by omega)).mono ?_
  rintro e w2 ⟨x, y, q, rfl, x0, y0, hq, hR2, hg2⟩
  go_wp2
  go_ret2
  exact ⟨x, y, rfl, x0, y0, below_reader hb1 hg2⟩
set_option maxHeartbeats 1000000 in
theorem drawInverseIn (a : Option Addr) (len cap : Nat) (w : World) (h : ByteRow w a len cap) :
    Calls Try.prog 32 #[.slice a len cap] w (Draw2 w) := by
  go_enter Try.func32, Try.ntmps32
  go_wp2_with fail
  refine (open_any a len cap w h).mono ?_
  rintro e w1 ⟨a1, l1, c1, rfl, hR1, hb1⟩
  go_wp2_with fail
  refine (one_any w.heap.size a1 l1 c1 0 w1 hR1 (by omega)).mono ?_
  rintro e w2 ⟨x, y, q, rfl, x0, y0, hq, hR2, hg2⟩
  go_wp2
  go_ret2
  exact ⟨x, y, rfl, x0, y0, below_reader hb1 hg2⟩
set_option maxHeartbeats 1000000 in
theorem drawGeneratorIn (a : Option Addr) (len cap : Nat) (w : World) (h : ByteRow w a len cap) :
    Calls Try.prog 40 #[.slice a len cap] w (Draw1 w) := by
  go_enter Try.func40, Try.ntmps40
  go_wp2_with fail
  refine (open_any a len cap w h).mono ?_
  rintro e w1 ⟨a1, l1, c1, rfl, hR1, hb1⟩
  go_wp2_with fail
  refine (some_any w.heap.size a1 l1 c1 0 w1 hR1 (by omega)).mono ?_
  rintro e w2 ⟨x, q, rfl, x0, x1, hq, hR2, hg2⟩
  go_wp2
  go_ret
  exact ⟨x, rfl, ⟨x0, x1⟩, below_reader hb1 hg2⟩
def roots7 : List Int := [2, 3, 1, 2, 6, 0, -1]
set_option maxHeartbeats 1000000 in
theorem drawRootsIn (a : Option Addr) (len cap : Nat) (w : World) (h : ByteRow w a len cap) :
    Calls Try.prog 43 #[.slice a len cap] w (Draw3 w) := by
  go_enter Try.func43, Try.ntmps43
  go_wp2_with fail
  refine (open_any a len cap w h).mono ?_
  rintro e w1 ⟨a1, l1, c1, rfl, hR1, hb1⟩
  go_wp2_with fail
  refine (one_any w.heap.size a1 l1 c1 0 w1 hR1 (by omega)).mono ?_
  rintro e w2 ⟨x, y, q, rfl, x0, y0, hq, hR2, hg2⟩
  go_wp2_with fail
  refine (num_new w.heap.size a1 l1 c1 q roots7 7 rfl _ w2 hR2 (by omega) (by decide) (by decide) ?_).mono ?_
  · intro j hj
    have : j = 0 ∨ j = 1 ∨ j = 2 ∨ j = 3 ∨ j = 4 ∨ j = 5 ∨ j = 6 := by simp [roots7] at hj; omega
    rcases this with rfl | rfl | rfl | rfl | rfl | rfl | rfl
    all_goals rfl
  rintro e w3 ⟨z, rfl, hz, hR3, hg3⟩
  obtain ⟨z0, z1⟩ := mem_bd hz (by decide)
  go_wp2
  go_ret3
  exact ⟨x, y, z, rfl, x0, y0, ⟨z0, z1⟩, below_reader hb1 (grown_trans hg2 (grown_trans (grown_alloc _ _ _) hg3))⟩
set_option maxHeartbeats 1000000 in
theorem drawPowerIn (a : Option Addr) (len cap : Nat) (w : World) (h : ByteRow w a len cap) :
    Calls Try.prog 36 #[.slice a len cap] w (Draw3 w) := by
  go_enter Try.func36, Try.ntmps36
  go_wp2_with fail
  refine (open_any a len cap w h).mono ?_
  rintro e w1 ⟨a1, l1, c1, rfl, hR1, hb1⟩
  go_wp2_with fail
  refine (one_any w.heap.size a1 l1 c1 0 w1 hR1 (by omega)).mono ?_
  rintro e w2 ⟨x, y, q, rfl, x0, y0, hq, hR2, hg2⟩
  go_wp2_with fail
  refine (pick_any w.heap.size a1 l1 c1 q 20 w2 hR2 (by omega)).mono ?_
  rintro e w3 ⟨t, rfl, t0, t1, hR3, hg3, hs3⟩
  have t2 : t ≤ 20 := by omega
  clear t1 hs3
  go_wp2_with fail
  refine (num_new w.heap.size a1 l1 c1 (q + 1) [t, 2, 0, 1, -1, 9223372036854775807] 6 rfl _ w3 hR3 (by omega) (by simp) (by simp) ?_).mono ?_
  · intro j hj
    have : j = 0 ∨ j = 1 ∨ j = 2 ∨ j = 3 ∨ j = 4 ∨ j = 5 := by simp at hj; omega
    rcases this with rfl | rfl | rfl | rfl | rfl | rfl
    all_goals rfl
  rintro e w4 ⟨z, rfl, hz, hR4, hg4⟩
  obtain ⟨z0, z1⟩ := mem_bd hz (by simp; omega)
  go_wp2
  go_ret3
  exact ⟨x, y, z, rfl, x0, y0, ⟨z0, z1⟩, below_reader hb1 (grown_trans hg2 (grown_trans hg3 (grown_trans (grown_alloc _ _ _) hg4)))⟩
set_option maxHeartbeats 1000000 in
theorem drawReduce (a : Option Addr) (len cap : Nat) (w : World) (h : ByteRow w a len cap) :
    Calls Try.prog 27 #[.slice a len cap] w (Draw2 w) := by
  go_enter Try.func27, Try.ntmps27
  go_wp2_with fail
  refine (open_any a len cap w h).mono ?_
  rintro e w1 ⟨a1, l1, c1, rfl, hR1, hb1⟩
  go_wp2_with fail
  refine (some_any w.heap.size a1 l1 c1 0 w1 hR1 (by omega)).mono ?_
  rintro e w2 ⟨x, q, rfl, x0, x1, hq, hR2, hg2⟩
  go_wp2_with fail
  refine (pick_any w.heap.size a1 l1 c1 q 30 w2 hR2 (by omega)).mono ?_
  rintro e w3 ⟨t, rfl, t0, t1, hR3, hg3, hs3⟩
  have t2 : t ≤ 30 := by omega
  clear t1 hs3
  go_wp2_with fail
  refine (pick_any w.heap.size a1 l1 c1 (q + 1) 30 w3 hR3 (by omega)).mono ?_
  rintro e w4 ⟨s, rfl, s0, s1, hR4, hg4, hs4⟩
  have s2 : s ≤ 30 := by omega
  clear s1 hs4
  go_wp2_with fail
  refine (num_new w.heap.size a1 l1 c1 (q + 1 + 1) [t, -s, 0, -1, 9223372036854775807, -9223372036854775808] 6 rfl _ w4 hR4 (by omega) (by simp) (by simp) ?_).mono ?_
  · intro j hj
    have : j = 0 ∨ j = 1 ∨ j = 2 ∨ j = 3 ∨ j = 4 ∨ j = 5 := by simp at hj; omega
    rcases this with rfl | rfl | rfl | rfl | rfl | rfl
    all_goals rfl
  rintro e w5 ⟨z, rfl, hz, hR5, hg5⟩
  obtain ⟨z0, z1⟩ := mem_bd hz (by simp; omega)
  go_wp2
  go_ret2
  exact ⟨x, z, rfl, ⟨x0, x1⟩, ⟨z0, z1⟩, below_reader hb1 (grown_trans hg2 (grown_trans hg3 (grown_trans hg4 (grown_trans (grown_alloc _ _ _) hg5))))⟩
end Go.Proofs.Ytpoemcigklanoaa
