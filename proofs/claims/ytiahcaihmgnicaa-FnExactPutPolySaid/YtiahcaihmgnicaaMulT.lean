/-
  Contracts of the product of two terms and of the sum as a polynomial. Conditions: exponents are small.
-/
import Derived.Test.YtiahcaihmgnicaaPutB
import Derived.Test.YtiahcaihmgnicaaEvA
import Derived.Test.YtiahcaihmgnicaaLast
namespace Go.Proofs.Ytiahcaihmgnicaa
open Go.RowKit
/-- the world inside multiplied: the first term lies in block n, the other in n + 1, the result in n + 2 -/
structure MulW (n : Nat) (T U : Trm) (w wr : World) : Prop where
  t : TAt wr n 0 T
  u : TAt wr (n + 1) 0 U
  r : ∀ i, i < 4 → ∃ x, wr.cell? ⟨n + 2, i, none⟩ = some x
  ft : ∀ i, wr.frozen? ⟨n, i, none⟩ = false
  fr : ∀ i, wr.frozen? ⟨n + 2, i, none⟩ = false
  sz : n + 2 < wr.heap.size
  low : Below w.heap.size w wr
theorem MulW.below {n : Nat} {T U : Trm} {w wr w1 : World} (h : MulW n T U w wr) (hb : Below wr.heap.size wr w1) : MulW n T U w w1 := by
  have sz := h.sz
  have e := hb.size
  refine ⟨h.t.below hb (by omega), h.u.below hb (by omega), fun i hi => ?_, fun i => ?_, fun i => ?_, by omega, h.low.trans (hb.mono h.low.size)⟩
  · obtain ⟨x, hx⟩ := h.r i hi
    exact ⟨x, by rw [hb.cell (p := ⟨n + 2, i, none⟩) sz]; exact hx⟩
  · rw [hb.frozen (p := ⟨n, i, none⟩) (show n < wr.heap.size by omega)]; exact h.ft i
  · rw [hb.frozen (p := ⟨n + 2, i, none⟩) sz]; exact h.fr i
theorem MulW.other {n i : Nat} {T U : Trm} {w wr : World} (h : MulW n T U w wr) (hn : w.heap.size ≤ n) (v : Value) {T' : Trm} (ht : TAt (wr.setCell ⟨n, i, none⟩ v) n 0 T') : MulW n T' U w (wr.setCell ⟨n, i, none⟩ v) := by
  obtain ⟨u0, u1, u2, u3⟩ := h.u
  refine ⟨ht, ⟨?_, ?_, ?_, ?_⟩, fun j hj => ?_, fun j => ?_, fun j => ?_, by simpa using h.sz, h.low.setCell hn _⟩
  · rw [World.cell?_setCell_other _ _ _ _ (by simp)]; exact u0
  · rw [World.cell?_setCell_other _ _ _ _ (by simp)]; exact u1
  · rw [World.cell?_setCell_other _ _ _ _ (by simp)]; exact u2
  · rw [World.cell?_setCell_other _ _ _ _ (by simp)]; exact u3
  · obtain ⟨x, hx⟩ := h.r j hj
    exact ⟨x, by rw [World.cell?_setCell_other _ _ _ _ (by simp)]; exact hx⟩
  · rw [World.frozen?_setCell]; exact h.ft j
  · rw [World.frozen?_setCell]; exact h.fr j
theorem MulW.s0 {n : Nat} {T U : Trm} {w wr : World} (h : MulW n T U w wr) (hn : w.heap.size ≤ n) (z : Int) : MulW n ⟨z, T.b, T.c, T.t⟩ U w (wr.setCell ⟨n, 0, none⟩ (.int .i64 z)) := by
  obtain ⟨t0, t1, t2, t3⟩ := h.t
  refine h.other hn _ ⟨World.cell?_setCell_same _ _ _ t0, ?_, ?_, ?_⟩
  · rw [World.cell?_setCell_other _ _ _ _ (by simp)]; exact t1
  · rw [World.cell?_setCell_other _ _ _ _ (by simp)]; exact t2
  · rw [World.cell?_setCell_other _ _ _ _ (by simp)]; exact t3
theorem MulW.s1 {n : Nat} {T U : Trm} {w wr : World} (h : MulW n T U w wr) (hn : w.heap.size ≤ n) (z : Int) : MulW n ⟨T.a, z, T.c, T.t⟩ U w (wr.setCell ⟨n, 1, none⟩ (.int .i64 z)) := by
  obtain ⟨t0, t1, t2, t3⟩ := h.t
  refine h.other hn _ ⟨?_, World.cell?_setCell_same _ _ _ t1, ?_, ?_⟩
  · rw [World.cell?_setCell_other _ _ _ _ (by simp)]; exact t0
  · rw [World.cell?_setCell_other _ _ _ _ (by simp)]; exact t2
  · rw [World.cell?_setCell_other _ _ _ _ (by simp)]; exact t3
theorem MulW.s2 {n : Nat} {T U : Trm} {w wr : World} (h : MulW n T U w wr) (hn : w.heap.size ≤ n) (z : Int) : MulW n ⟨T.a, T.b, z, T.t⟩ U w (wr.setCell ⟨n, 2, none⟩ (.int .i64 z)) := by
  obtain ⟨t0, t1, t2, t3⟩ := h.t
  refine h.other hn _ ⟨?_, ?_, World.cell?_setCell_same _ _ _ t2, ?_⟩
  · rw [World.cell?_setCell_other _ _ _ _ (by simp)]; exact t0
  · rw [World.cell?_setCell_other _ _ _ _ (by simp)]; exact t1
  · rw [World.cell?_setCell_other _ _ _ _ (by simp)]; exact t3
theorem MulW.drew {n : Nat} {T U : Trm} {w wr : World} (h : MulW n T U w wr) : MulW n T U w wr.drew := h.below (Below.drew (Below.refl _ _))
set_option maxRecDepth 100000 in
set_option maxHeartbeats 8000000 in
theorem iMulT (p : Int) (T U : Trm) (w : World) (h : (0 ≤ T.a ∧ T.a ≤ 9) ∧ (0 ≤ T.b ∧ T.b ≤ 9) ∧ (0 ≤ T.c ∧ T.c ≤ 9)) (k : (0 ≤ U.a ∧ U.a ≤ 9) ∧ (0 ≤ U.b ∧ U.b ≤ 9) ∧ (0 ≤ U.c ∧ U.c ≤ 9)) :
    Calls Try.prog 75 #[.agg #[.int .i64 T.a, .int .i64 T.b, .int .i64 T.c, .int .i64 T.t], .int .i64 p, .agg #[.int .i64 U.a, .int .i64 U.b, .int .i64 U.c, .int .i64 U.t]] w
      fun e w' => e = .returned (.agg #[.int .i64 (T.a + U.a), .int .i64 (T.b + U.b), .int .i64 (T.c + U.c), .int .i64 (mulV p T.t U.t)]) ∧ Below w.heap.size w w' := by
  obtain ⟨⟨A0, A1⟩, ⟨B0, B1⟩, ⟨C0, C1⟩⟩ := h
  obtain ⟨⟨a0, a1⟩, ⟨b0, b1⟩, ⟨c0, c1⟩⟩ := k
  have wa : IntKind.i64.wrap (T.a + U.a) = T.a + U.a := IntWalk.i64_in _ (by omega)
  have wb : IntKind.i64.wrap (T.b + U.b) = T.b + U.b := IntWalk.i64_in _ (by omega)
  have wc : IntKind.i64.wrap (T.c + U.c) = T.c + U.c := IntWalk.i64_in _ (by omega)
  go_enter Try.func75, Try.ntmps75
  go_wp2_with fail
  obtain ⟨W, hW⟩ : ∃ W, W = ((w.alloc (Obj.cells #[.int .i64 T.a, .int .i64 T.b, .int .i64 T.c, .int .i64 T.t] 68)).alloc (Obj.cells #[.int .i64 U.a, .int .i64 U.b, .int .i64 U.c, .int .i64 U.t] 68)).alloc (Obj.cells #[.int .i64 0, .int .i64 0, .int .i64 0, .int .i64 0] 68) := ⟨_, rfl⟩
  have H := Lib.hid (show MulW w.heap.size T U w W by
    rw [hW]
    refine ⟨⟨?_, ?_, ?_, ?_⟩, ⟨?_, ?_, ?_, ?_⟩, fun i hi => ?_, fun i => ?_, fun i => ?_, by simp, Below.alloc (Below.alloc (Below.alloc (Below.refl _ _) (Nat.le_refl _) _) (by simp) _) (by simp; omega) _⟩
    all_goals first
      | (simp [go_sem]; done)
      | (have : i = 0 ∨ i = 1 ∨ i = 2 ∨ i = 3 := by omega
         rcases this with rfl | rfl | rfl | rfl <;> exact ⟨_, by simp [go_sem]; rfl⟩)
      | (simp [World.frozen?, World.alloc]; done)
      | skip)
  rw [← hW]
  clear hW
  refine wp_loop_rounds 4 ?_
  obtain ⟨⟨t0, t1, t2, t3⟩, ⟨u0, u1, u2, u3⟩, _, ft, _, sz, _⟩ := H.out
  have ft0 := ft 0
  simp only [Nat.zero_add] at t0 t1 t2 t3 u0 u1 u2 u3
  rw [rounds_succ]
  go_wp2_with fail
  refine wp_region_quiet_last (C := fun w' => ∃ n, w' = W.drewN n) (by kernel_rfl) (by kernel_rfl) ⟨1, rfl⟩ ?_
  repeat (refine wpQL_step (fun K hK => ?_); go_simp; refine hK _ ?_; clear hK K)
  refine wpQL_one ?_
  rintro _ ⟨n0, rfl⟩
  go_wp2_with fail
  have H := Lib.hid ((H.out.below (below_drewN (Below.refl _ _) n0)).s0 (Nat.le_refl _) (T.a + U.a))
  clear t0 t1 t2 t3 u0 u1 u2 u3 ft ft0 sz
  generalize ((W.drewN n0).setCell ⟨w.heap.size, 0, none⟩ (.int .i64 (T.a + U.a))) = W1 at H ⊢
  obtain ⟨⟨t0, t1, t2, t3⟩, ⟨u0, u1, u2, u3⟩, _, ft, _, sz, _⟩ := H.out
  have ft1 := ft 1
  simp only [Nat.zero_add] at t0 t1 t2 t3 u0 u1 u2 u3
  rw [rounds_succ]
  go_wp2_with fail
  refine wp_region_quiet_last (C := fun w' => ∃ n, w' = W1.drewN n) (by kernel_rfl) (by kernel_rfl) ⟨1, rfl⟩ ?_
  repeat (refine wpQL_step (fun K hK => ?_); go_simp; refine hK _ ?_; clear hK K)
  refine wpQL_one ?_
  rintro _ ⟨n1, rfl⟩
  go_wp2_with fail
  have H := Lib.hid ((H.out.below (below_drewN (Below.refl _ _) n1)).s1 (Nat.le_refl _) (T.b + U.b))
  clear t0 t1 t2 t3 u0 u1 u2 u3 ft ft1 sz
  generalize ((W1.drewN n1).setCell ⟨w.heap.size, 1, none⟩ (.int .i64 (T.b + U.b))) = W2 at H ⊢
  obtain ⟨⟨t0, t1, t2, t3⟩, ⟨u0, u1, u2, u3⟩, _, ft, _, sz, _⟩ := H.out
  have ft2 := ft 2
  simp only [Nat.zero_add] at t0 t1 t2 t3 u0 u1 u2 u3
  rw [rounds_succ]
  go_wp2_with fail
  refine wp_region_quiet_last (C := fun w' => ∃ n, w' = W2.drewN n) (by kernel_rfl) (by kernel_rfl) ⟨1, rfl⟩ ?_
  repeat (refine wpQL_step (fun K hK => ?_); go_simp; refine hK _ ?_; clear hK K)
  refine wpQL_one ?_
  rintro _ ⟨n2, rfl⟩
  go_wp2_with fail
  have H := Lib.hid ((H.out.below (below_drewN (Below.refl _ _) n2)).s2 (Nat.le_refl _) (T.c + U.c))
  clear t0 t1 t2 t3 u0 u1 u2 u3 ft ft2 sz
  generalize ((W2.drewN n2).setCell ⟨w.heap.size, 2, none⟩ (.int .i64 (T.c + U.c))) = W3 at H ⊢
  obtain ⟨⟨t0, t1, t2, t3⟩, ⟨u0, u1, u2, u3⟩, _, _, _, sz, _⟩ := H.out
  simp only [Nat.zero_add] at t0 t1 t2 t3 u0 u1 u2 u3
  rw [rounds_succ]
  go_wp2_with fail
  refine (iMul p T.t U.t _).mono ?_
  rintro e w4 ⟨rfl, hb4⟩
  clear t0 t1 t2 t3 u0 u1 u2 u3 sz
  have H4 := Lib.hid (H.out.below hb4)
  clear hb4 H
  obtain ⟨⟨t0, t1, t2, t3⟩, _, r, ft, fr, sz, _⟩ := H4.out
  simp only [Nat.zero_add] at t0 t1 t2 t3
  obtain ⟨r0, hr0⟩ := r 0 (by omega)
  obtain ⟨r1, hr1⟩ := r 1 (by omega)
  obtain ⟨r2, hr2⟩ := r 2 (by omega)
  obtain ⟨r3, hr3⟩ := r 3 (by omega)
  have ft3 := ft 3
  have fr0 := fr 0
  have fr1 := fr 1
  have fr2 := fr 2
  have fr3 := fr 3
  clear r ft fr
  go_wp2_with fail
  refine bodyPost_ret (v := .agg #[.int .i64 (T.a + U.a), .int .i64 (T.b + U.b), .int .i64 (T.c + U.c), .int .i64 (mulV p T.t U.t)]) (by simp [results, Try.results75, go_sem, *]) rfl ⟨rfl, ?_⟩
  repeat (first | exact H4.out.low | apply Below.drew | apply below_drewN | (refine Below.setCell ?_ (by first | omega | (simp; done) | (simp; omega)) _))
end Go.Proofs.Ytiahcaihmgnicaa
