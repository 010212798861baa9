/- own texts -/
import Derived.Test.YtlidplmpglpkgaaBe17
import Derived.Test.YtlidplmpglpkgaaBa28
namespace Go.Proofs.Ytlidplmpglpkgaa
open Go.RowKit
def sizes6 : List Int := [4, 3, 5, 1, 6, 2]
set_option maxHeartbeats 4000000 in
theorem circ7_any (R : Nat) (a : Option Addr) (len cap q : Nat) (w : World) (h : Rd w R a len cap q) (hq : q ≤ 800000) :
    Calls Try.prog 149 #[.pointer (some ⟨R, 0, none⟩)] w (Both R a len cap q w) := by
  go_enter Try.func149, Try.ntmps149
  go_wp2_with fail
  refine (some_any R a len cap q w h (by omega)).mono ?_
  rintro e w1 ⟨p, q1, rfl, p0, p1, hq1, hR1, hg1⟩
  go_wp2_with fail
  refine (field_any p w1).mono ?_
  rintro e w2 ⟨f, rfl, f0, f1, hb2⟩
  have hR2 := hR1.far hb2.size (B := w1.heap.size) (fun k hk => hb2.block k hk) hR1.sz hR1.la
  have hg2 := grown_trans hg1 (grown_of hb2)
  clear hb2 hR1 hg1
  go_wp2_with fail
  refine (num_new R a len cap q1 sizes6 6 rfl _ w2 hR2 (by omega) (by decide) (by decide) ?_).mono ?_
  · intro j hj
    have : j = 0 ∨ j = 1 ∨ j = 2 ∨ j = 3 ∨ j = 4 ∨ j = 5 := by simp [sizes6] at hj; omega
    rcases this with rfl | rfl | rfl | rfl | rfl | rfl
    all_goals rfl
  rintro e w3 ⟨y, rfl, hy, hR3, hg3⟩
  have hy9 : 0 ≤ y ∧ y ≤ 9 := by simp [sizes6] at hy; omega
  obtain ⟨n, rfl⟩ := Int.eq_ofNat_of_zero_le hy9.1
  have hg3' := grown_trans hg2 (grown_trans (grown_alloc _ _ _) hg3)
  clear hy hg2 hg3 hR2
  go_wp2_with fail
  refine (gates_any R a len cap (q1 + 1) f n f0 f1 (by omega) w3 hR3 (by omega)).mono ?_
  rintro e w4 ⟨v, M, q4, rfl, hM, hq4, hS4⟩
  obtain ⟨g4, c4, rfl⟩ := hS4.sl
  have hR4 := hS4.rd
  have hr4 := hS4.row.mono (Nat.zero_le _)
  have hg4 := grown_trans hg3' hS4.gr
  clear hS4 hR3 hg3'
  go_wp2_with fail
  refine (bad_any R a len cap q4 g4 c4 M hM w4 hR4 hr4 (by omega)).mono ?_
  rintro e w5 ⟨v5, M5, q5, rfl, hM5, hq5, hS5⟩
  have hg5 := grown_trans hg4 hS5.gr
  have HS5 := Lib.hid hS5
  clear hS5 hR4 hr4
  have hsz := hg4.size
  go_wp2_with fail
  refine bodyPost_ret (v := .tuple #[.int .i64 p, v5]) (by simp [results, Try.results149, go_sem]) rfl ⟨p, v5, M5, q5, rfl, ⟨p0, p1⟩, hM5, by omega, HS5.out.rd, HS5.out.row.mono hsz, HS5.out.nn, hg5⟩
def DrawPK (w : World) (e : Ending) (w' : World) : Prop :=
  ∃ (p : Int) (v : Value) (L : List Gt) (k x y z : Int), e = .returned (.tuple #[.int .i64 p, v, .int .i64 k, .agg #[.int .i64 x, .int .i64 y, .int .i64 z]]) ∧ (-9 ≤ k ∧ k ≤ 99) ∧ L.length ≤ 61 ∧ RowGt w' w.heap.size v L ∧ v ≠ .slice none 0 0 ∧ Below w.heap.size w w'
set_option maxHeartbeats 4000000 in
theorem drawPartsAt (a : Option Addr) (len cap : Nat) (w : World) (h : ByteRow w a len cap) :
    Calls Try.prog 61 #[.slice a len cap] w (DrawPK w) := by
  have T0 := Three.new w 33
  have hB0 : Below w.heap.size w (w.alloc (.cells #[.int .i64 0, .int .i64 0, .int .i64 0] 33)) := Below.alloc (Below.refl _ _) (Nat.le_refl _) _
  have hh := h.below hB0
  obtain ⟨W0, hW0⟩ : ∃ W, W = w.alloc (.cells #[.int .i64 0, .int .i64 0, .int .i64 0] 33) := ⟨_, rfl⟩
  have hs0 : W0.heap.size = w.heap.size + 1 := by rw [hW0]; simp
  rw [← hW0] at T0 hB0 hh
  have HW0 := Lib.hid hW0
  clear hW0 h
  go_enter Try.func61, Try.ntmps61
  go_wp2_with fail
  rw [← HW0.out]
  refine (open_any a len cap W0 hh).mono ?_
  rintro e w1 ⟨a1, l1, c1, rfl, hR1, hb1⟩
  have hs1 := hR1.sz
  obtain ⟨R, hR⟩ : ∃ R, R = W0.heap.size := ⟨_, rfl⟩
  rw [← hR] at hR1 hs1 ⊢
  have hwR : w.heap.size < R := by omega
  have hne : some w.heap.size ≠ some R := fun e => by injection e with e; omega
  have T1 := T0.same hb1.size (hb1.block _ T0.1)
  have hB1 := hB0.trans (hb1.mono hB0.size)
  clear T0 hb1 hB0 hh hs0 HW0 hR
  go_wp2_with fail
  refine (circ7_any R a1 l1 c1 0 w1 hR1 (by omega)).mono ?_
  rintro e w2 ⟨p, v, M, q, rfl, ⟨hp0, hp1⟩, hM, hq, hR2, hr2, hn2, hg2⟩
  have T2 := T1.same hg2.size (hg2.block _ T1.1 hne)
  have hB2 := hB1.grown hg2 hB1.size (fun k hk => by cases hk; omega)
  clear T1 hg2 hR1 hB1
  have HB2 := Lib.hid hB2
  have HT2 := Lib.hid T2
  clear hB2 T2
  go_wp2_with fail
  refine (degree_any R a1 l1 c1 q w2 hR2 (by omega)).mono ?_
  rintro e w2' ⟨k, rfl, hk, hR2', hg2'⟩
  have hr2' : RowGt w2' w1.heap.size v M := World.ownsRow.kept (row := some R) hr2 hg2' (.inr (hr2.block hs1))
  have T2 := HT2.out.same hg2'.size (hg2'.block _ HT2.out.1 hne)
  have hB2 := HB2.out.grown hg2' HB2.out.size (fun k hk => by cases hk; omega)
  clear hg2' hR2 hr2 HB2 HT2
  go_wp2_with fail
  refine (point_any R a1 l1 c1 (q + 1) p hp0 hp1 w2' hR2' (by omega)).mono ?_
  rintro e w3 ⟨x, y, z, q3, rfl, hq3, hR3, hg3⟩
  have T3 := T2.same hg3.size (hg3.block _ T2.1 hne)
  have hB3 := hB2.grown hg3 hB2.size (fun k hk => by cases hk; omega)
  have hr3 : RowGt w3 w1.heap.size v M := World.ownsRow.kept (row := some R) hr2' hg3 (.inr (hr2'.block hs1))
  have hw1 : w.heap.size < w1.heap.size := by omega
  obtain ⟨_, ⟨u0, t0⟩, ⟨u1, t1⟩, ⟨u2, t2⟩, f0, f1, f2⟩ := T3
  have HO := Lib.hid ((((hr3.setFar hw1 0 (.int .i64 x)).setFar hw1 1 (.int .i64 y)).setFar hw1 2 (.int .i64 z)).mono (Nat.le_of_lt hw1))
  have HB := Lib.hid (Below.setCell (Below.setCell (Below.setCell hB3 (Nat.le_refl w.heap.size) (.int .i64 x)) (Nat.le_refl w.heap.size) (.int .i64 y)) (Nat.le_refl w.heap.size) (.int .i64 z) : Below w.heap.size w (((w3.setCell ⟨w.heap.size, 0, none⟩ (.int .i64 x)).setCell ⟨w.heap.size, 1, none⟩ (.int .i64 y)).setCell ⟨w.heap.size, 2, none⟩ (.int .i64 z)))
  clear T2 hR2' hr2' hR3 hg3 hB2 hB3 hr3 hne
  go_wp2_with fail
  refine bodyPost_ret (v := .tuple #[.int .i64 p, v, .int .i64 k, .agg #[.int .i64 x, .int .i64 y, .int .i64 z]]) (by simp [results, Try.results61, go_sem, t0, t1, t2]) rfl ⟨p, v, M, k, x, y, z, rfl, hk, hM, HO.out, hn2, HB.out⟩
end Go.Proofs.Ytlidplmpglpkgaa
