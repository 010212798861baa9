/-
  Contracts of the model's draws of a point and of EvalGates' arguments. Conditions: the bytes can be read.
-/
import Derived.Test.YtgbjchidnnmifaaDrh
namespace Go.Proofs.Ytgbjchidnnmifaa
open Go.RowKit
theorem grown_low {w w1 w2 : World} {R : Nat} (h : w.grownBy w1 (some R)) (hb : Below w.heap.size w1 w2) : w.grownBy w2 (some R) :=
  ⟨hb.os.trans h.os, hb.tape.trans h.tape, hb.output.trans h.output, Nat.le_trans h.size hb.size, fun k hk hne => (hb.block k hk).trans (h.block k hk hne)⟩
/-- three cells that may be written -/
def Three (w : World) (g : Nat) : Prop := g < w.heap.size ∧ (∃ u, w.cell? ⟨g, 0, none⟩ = some u) ∧ (∃ u, w.cell? ⟨g, 1, none⟩ = some u) ∧ (∃ u, w.cell? ⟨g, 2, none⟩ = some u) ∧ w.frozen? ⟨g, 0, none⟩ = false ∧ w.frozen? ⟨g, 1, none⟩ = false ∧ w.frozen? ⟨g, 2, none⟩ = false
theorem Three.same {w w' : World} {g : Nat} (h : Three w g) (hs : w.heap.size ≤ w'.heap.size) (e : w'.heap[g]? = w.heap[g]?) : Three w' g := by
  obtain ⟨h1, h2, h3, h4, h5, h6, h7⟩ := h
  exact ⟨Nat.lt_of_lt_of_le h1 hs, by rw [World.cell?_of_block (a := ⟨g, 0, none⟩) e]; exact h2, by rw [World.cell?_of_block (a := ⟨g, 1, none⟩) e]; exact h3, by rw [World.cell?_of_block (a := ⟨g, 2, none⟩) e]; exact h4, by rw [World.frozen?_of_block (a := ⟨g, 0, none⟩) e]; exact h5, by rw [World.frozen?_of_block (a := ⟨g, 1, none⟩) e]; exact h6, by rw [World.frozen?_of_block (a := ⟨g, 2, none⟩) e]; exact h7⟩
theorem Three.new (w : World) (ty : TypeId) : Three (w.alloc (.cells #[.int .i64 0, .int .i64 0, .int .i64 0] ty)) w.heap.size := by
  refine ⟨by simp, ⟨_, by simp [go_sem]; rfl⟩, ⟨_, by simp [go_sem]; rfl⟩, ⟨_, by simp [go_sem]; rfl⟩, ?_, ?_, ?_⟩ <;> simp [go_sem]
def Points (R : Nat) (a : Option Addr) (len cap q : Nat) (w : World) (e : Ending) (w' : World) : Prop :=
  ∃ x y z : Int, ∃ q' : Nat, e = .returned (.agg #[.int .i64 x, .int .i64 y, .int .i64 z]) ∧ q' ≤ q + 6 ∧ Rd w' R a len cap q' ∧ w.grownBy w' (some R)
set_option maxHeartbeats 4000000 in
theorem point_any (R : Nat) (a : Option Addr) (len cap q : Nat) (p : Int) (hp0 : -9223372036854775808 ≤ p) (hp1 : p ≤ 9223372036854775807) (w : World) (h : Rd w R a len cap q) (hq : q ≤ 900000) :
    Calls Try.prog 25 #[.pointer (some ⟨R, 0, none⟩), .int .i64 p] w (Points R a len cap q w) := by
  have hRB := h.sz
  have hla := h.la
  have T0 := Three.new w 25
  have hR0 := h.alloc (.cells #[.int .i64 0, .int .i64 0, .int .i64 0] 25)
  have hg0 := grown_alloc w (.cells #[.int .i64 0, .int .i64 0, .int .i64 0] 25) (some R)
  have hne : some w.heap.size ≠ some R := fun e => by injection e with e; omega
  go_enter Try.func25, Try.ntmps25
  go_wp2_with fail
  refine (element_any R a len cap q p hp0 hp1 _ hR0 (by omega)).mono ?_
  rintro e w1 ⟨x, q1, rfl, _, _, hq1, hR1, hg1⟩
  have T1 := T0.same hg1.size (hg1.block _ T0.1 hne)
  have G1 := grown_trans hg0 hg1
  clear hR0 hg0 hg1 T0
  go_wp2_with fail
  refine (element_any R a len cap q1 p hp0 hp1 _ hR1 (by omega)).mono ?_
  rintro e w2 ⟨y, q2, rfl, _, _, hq2, hR2, hg2⟩
  have T2 := T1.same hg2.size (hg2.block _ T1.1 hne)
  have G2 := grown_trans G1 hg2
  clear hR1 hg2 T1 G1
  go_wp2_with fail
  refine (element_any R a len cap q2 p hp0 hp1 _ hR2 (by omega)).mono ?_
  rintro e w3 ⟨z, q3, rfl, _, _, hq3, hR3, hg3⟩
  have T3 := T2.same hg3.size (hg3.block _ T2.1 hne)
  have G3 := grown_trans G2 hg3
  obtain ⟨_, ⟨u0, t0⟩, ⟨u1, t1⟩, ⟨u2, t2⟩, f0, f1, f2⟩ := T3
  have B3 : Below w.heap.size w3 (((w3.setCell ⟨w.heap.size, 0, none⟩ (.int .i64 x)).setCell ⟨w.heap.size, 1, none⟩ (.int .i64 y)).setCell ⟨w.heap.size, 2, none⟩ (.int .i64 z)) :=
    Below.setCell (Below.setCell (Below.setCell ⟨rfl, rfl, rfl, Nat.le_refl _, fun _ _ => rfl⟩ (Nat.le_refl w.heap.size) _) (Nat.le_refl w.heap.size) _) (Nat.le_refl w.heap.size) _
  have HB := Lib.hid B3
  have HR3 := Lib.hid (hR3.far B3.size (fun k hk => B3.block k hk) hRB hla)
  have HG := Lib.hid (grown_low G3 B3)
  clear hR2 hR3 hg3 T2 G2 G3 B3 h hla hne
  go_wp2_with fail
  refine bodyPost_ret (v := .agg #[.int .i64 x, .int .i64 y, .int .i64 z]) (by simp [results, Try.results25, go_sem, t0, t1, t2]) rfl ⟨x, y, z, q3, rfl, by omega, HR3.out, HG.out⟩
def DrawP (w : World) (e : Ending) (w' : World) : Prop :=
  ∃ (p : Int) (v : Value) (L : List Gt) (x y z : Int), e = .returned (.tuple #[.int .i64 p, v, .agg #[.int .i64 x, .int .i64 y, .int .i64 z]]) ∧ L.length ≤ 61 ∧ RowGt w' w.heap.size v L ∧ v ≠ .slice none 0 0 ∧ Below w.heap.size w w'
set_option maxHeartbeats 4000000 in
theorem drawEvalGates (a : Option Addr) (len cap : Nat) (w : World) (h : ByteRow w a len cap) :
    Calls Try.prog 6 #[.slice a len cap] w (DrawP w) := by
  have T0 := Three.new w 25
  have hB0 : Below w.heap.size w (w.alloc (.cells #[.int .i64 0, .int .i64 0, .int .i64 0] 25)) := Below.alloc (Below.refl _ _) (Nat.le_refl _) _
  have hh := h.below hB0
  obtain ⟨W0, hW0⟩ : ∃ W, W = w.alloc (.cells #[.int .i64 0, .int .i64 0, .int .i64 0] 25) := ⟨_, rfl⟩
  have hs0 : W0.heap.size = w.heap.size + 1 := by rw [hW0]; simp
  rw [← hW0] at T0 hB0 hh
  have HW0 := Lib.hid hW0
  clear hW0 h
  go_enter Try.func6, Try.ntmps6
  go_wp2_with fail
  rw [← HW0.out]
  refine (open_any a len cap W0 hh).mono ?_
  rintro e w1 ⟨a1, l1, c1, rfl, hR1, hb1⟩
  have hs1 := hR1.sz
  obtain ⟨R, hR⟩ : ∃ R, R = W0.heap.size := ⟨_, rfl⟩
  rw [← hR] at hR1 hs1 ⊢
  have hwR : w.heap.size < R := by omega
  have hne : some w.heap.size ≠ some R := fun e => by injection e with e; omega
  have T1 := T0.same hb1.size (hb1.block _ T0.1)
  have hB1 := hB0.trans (hb1.mono hB0.size)
  clear T0 hb1 hB0 hh hs0 HW0 hR
  go_wp2_with fail
  refine (circ_any R a1 l1 c1 0 w1 hR1 (by omega)).mono ?_
  rintro e w2 ⟨p, v, M, q, rfl, ⟨hp0, hp1⟩, hM, hq, hR2, hr2, hn2, hg2⟩
  have T2 := T1.same hg2.size (hg2.block _ T1.1 hne)
  have hB2 := hB1.grown hg2 hB1.size (fun k hk => by cases hk; omega)
  clear T1 hg2 hR1 hB1
  go_wp2_with fail
  refine (point_any R a1 l1 c1 q p hp0 hp1 w2 hR2 (by omega)).mono ?_
  rintro e w3 ⟨x, y, z, q3, rfl, hq3, hR3, hg3⟩
  have T3 := T2.same hg3.size (hg3.block _ T2.1 hne)
  have hB3 := hB2.grown hg3 hB2.size (fun k hk => by cases hk; omega)
  have hr3 : RowGt w3 w1.heap.size v M := World.ownsRow.kept (row := some R) hr2 hg3 (.inr (hr2.block hs1))
  have hw1 : w.heap.size < w1.heap.size := by omega
  obtain ⟨_, ⟨u0, t0⟩, ⟨u1, t1⟩, ⟨u2, t2⟩, f0, f1, f2⟩ := T3
  have HO := Lib.hid ((((hr3.setFar hw1 0 (.int .i64 x)).setFar hw1 1 (.int .i64 y)).setFar hw1 2 (.int .i64 z)).mono (Nat.le_of_lt hw1))
  have HB := Lib.hid (Below.setCell (Below.setCell (Below.setCell hB3 (Nat.le_refl w.heap.size) (.int .i64 x)) (Nat.le_refl w.heap.size) (.int .i64 y)) (Nat.le_refl w.heap.size) (.int .i64 z) : Below w.heap.size w (((w3.setCell ⟨w.heap.size, 0, none⟩ (.int .i64 x)).setCell ⟨w.heap.size, 1, none⟩ (.int .i64 y)).setCell ⟨w.heap.size, 2, none⟩ (.int .i64 z)))
  clear T2 hR2 hr2 hR3 hg3 hB2 hB3 hr3 hne
  go_wp2_with fail
  refine bodyPost_ret (v := .tuple #[.int .i64 p, v, .agg #[.int .i64 x, .int .i64 y, .int .i64 z]]) (by simp [results, Try.results6, go_sem, t0, t1, t2]) rfl ⟨p, v, M, x, y, z, rfl, hM, HO.out, hn2, HB.out⟩
end Go.Proofs.Ytgbjchidnnmifaa
