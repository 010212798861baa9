/-
  Contract of the model's product of two polynomials. Conditions: both are polynomials over a field that is one.
  The exact law of MulPoly: the model's and the program's products of two polynomials, and the walk. Conditions: none but that the slices read as lists of terms.
  MakePoly, of the model and of the program. Conditions: what the slice holds is known.
  Of lists: the terms up to a degree, of a sum and of a product; terms times what their degrees have. Conditions: none.
  The laws' comparison of polynomials, at equal lists. Conditions: what the slices hold is known.
-/
import Derived.Test.YtlidplmpglpkgaaBa26
import Derived.Test.YtlidplmpglpkgaaBa22
namespace Go.Proofs.Ytlidplmpglpkgaa
open Go.RowKit
/-- the world inside the model's product: one term in block n, the other in block m, the result in m + 1 -/
structure ZSt (n m : Nat) (x y z : Trm) (w wr : World) : Prop where
  tx : TAt wr n 0 x
  ty : TAt wr m 0 y
  tz : TAt wr (m + 1) 0 z
  fz : ∀ i, wr.frozen? ⟨m + 1, i, none⟩ = false
  nm : n < m
  sz : m + 1 < wr.heap.size
  bm : w.heap.size = m
  low : Below w.heap.size w wr
theorem ZSt.below {n m : Nat} {x y z : Trm} {w wr w1 : World} (h : ZSt n m x y z w wr) (hb : Below wr.heap.size wr w1) : ZSt n m x y z w w1 := by
  have sz := h.sz
  have nm := h.nm
  have e := hb.size
  exact ⟨h.tx.below hb (by omega), h.ty.below hb (by omega), h.tz.below hb sz, fun i => by rw [hb.frozen (p := ⟨m + 1, i, none⟩) sz]; exact h.fz i, nm, by omega, h.bm, h.low.trans (hb.mono h.low.size)⟩
theorem ZSt.other {n m i : Nat} {x y z z' : Trm} {w wr : World} (h : ZSt n m x y z w wr) (v : Value) (ht : TAt (wr.setCell ⟨m + 1, i, none⟩ v) (m + 1) 0 z') : ZSt n m x y z' w (wr.setCell ⟨m + 1, i, none⟩ v) := by
  have nm := h.nm
  obtain ⟨u0, u1, u2, u3⟩ := h.tx
  obtain ⟨q0, q1, q2, q3⟩ := h.ty
  have en : ∀ j, (⟨m + 1, i, none⟩ : Addr) ≠ ⟨n, j, none⟩ := fun j e => by have := congrArg Addr.block e; simp at this; omega
  have em : ∀ j, (⟨m + 1, i, none⟩ : Addr) ≠ ⟨m, j, none⟩ := fun j e => by have := congrArg Addr.block e; simp at this
  refine ⟨⟨?_, ?_, ?_, ?_⟩, ⟨?_, ?_, ?_, ?_⟩, ht, fun j => ?_, nm, by simpa using h.sz, h.bm, h.low.setCell (show w.heap.size ≤ m + 1 by have := h.bm; omega) _⟩
  · rw [World.cell?_setCell_other _ _ _ _ (en _)]; exact u0
  · rw [World.cell?_setCell_other _ _ _ _ (en _)]; exact u1
  · rw [World.cell?_setCell_other _ _ _ _ (en _)]; exact u2
  · rw [World.cell?_setCell_other _ _ _ _ (en _)]; exact u3
  · rw [World.cell?_setCell_other _ _ _ _ (em _)]; exact q0
  · rw [World.cell?_setCell_other _ _ _ _ (em _)]; exact q1
  · rw [World.cell?_setCell_other _ _ _ _ (em _)]; exact q2
  · rw [World.cell?_setCell_other _ _ _ _ (em _)]; exact q3
  · rw [World.frozen?_setCell]; exact h.fz j
theorem ZSt.s0 {n m : Nat} {x y z : Trm} {w wr : World} (h : ZSt n m x y z w wr) (v : Int) : ZSt n m x y ⟨v, z.b, z.c, z.t⟩ w (wr.setCell ⟨m + 1, 0, none⟩ (.int .i64 v)) := by
  obtain ⟨t0, t1, t2, t3⟩ := h.tz
  refine h.other _ ⟨World.cell?_setCell_same _ _ _ t0, ?_, ?_, ?_⟩
  · rw [World.cell?_setCell_other _ _ _ _ (by simp)]; exact t1
  · rw [World.cell?_setCell_other _ _ _ _ (by simp)]; exact t2
  · rw [World.cell?_setCell_other _ _ _ _ (by simp)]; exact t3
theorem ZSt.s1 {n m : Nat} {x y z : Trm} {w wr : World} (h : ZSt n m x y z w wr) (v : Int) : ZSt n m x y ⟨z.a, v, z.c, z.t⟩ w (wr.setCell ⟨m + 1, 1, none⟩ (.int .i64 v)) := by
  obtain ⟨t0, t1, t2, t3⟩ := h.tz
  refine h.other _ ⟨?_, World.cell?_setCell_same _ _ _ t1, ?_, ?_⟩
  · rw [World.cell?_setCell_other _ _ _ _ (by simp)]; exact t0
  · rw [World.cell?_setCell_other _ _ _ _ (by simp)]; exact t2
  · rw [World.cell?_setCell_other _ _ _ _ (by simp)]; exact t3
theorem ZSt.s2 {n m : Nat} {x y z : Trm} {w wr : World} (h : ZSt n m x y z w wr) (v : Int) : ZSt n m x y ⟨z.a, z.b, v, z.t⟩ w (wr.setCell ⟨m + 1, 2, none⟩ (.int .i64 v)) := by
  obtain ⟨t0, t1, t2, t3⟩ := h.tz
  refine h.other _ ⟨?_, ?_, World.cell?_setCell_same _ _ _ t2, ?_⟩
  · rw [World.cell?_setCell_other _ _ _ _ (by simp)]; exact t0
  · rw [World.cell?_setCell_other _ _ _ _ (by simp)]; exact t1
  · rw [World.cell?_setCell_other _ _ _ _ (by simp)]; exact t3
theorem wp_name {P : Program} {c : Code} {Q : Exit → Act → World → Prop} {a : Act} {w : World} (h : ∀ Q', Q' = Q → c.wp P Q' a w) : c.wp P Q a w := h Q rfl
set_option maxRecDepth 100000 in
set_option maxHeartbeats 8000000 in
theorem sProduct (p : Int) (a a2 : Option Addr) (cap cap2 : Nat) (L M : List Trm) (w : World) (hp : isP p = true) (hL : Trms w (.slice a L.length cap) L) (hM : Trms w (.slice a2 M.length cap2) M) (hVL : validB p L = true) (hVM : validB p M = true) :
    Calls Try.prog 156 #[.int .i64 p, .slice a L.length cap, .slice a2 M.length cap2] w fun e w' => ∃ v', e = .returned (.agg #[v']) ∧ Row w' w.heap.size v' (addAll p (prodT p L M) []) ∧ Below w.heap.size w w' := by
  have HP := Lib.hid hp
  have HVL := Lib.hid hVL
  have HVM := Lib.hid hVM
  have HL := Lib.hid hL
  have HM := Lib.hid hM
  have hl1 := validB_len hVL
  have hm1 := validB_len hVM
  obtain ⟨R, hRe⟩ : ∃ R, R = addAll p (prodT p L M) [] := ⟨_, rfl⟩
  rw [← hRe]
  have HRE := Lib.hid hRe
  clear hp hVL hVM hRe hL hM
  go_enter Try.func156, Try.ntmps156
  go_upto_region 1 with fail
  obtain ⟨W0, hW0⟩ : ∃ W, W = w.alloc (Obj.cells #[.slice none 0 0] 105) := ⟨_, rfl⟩
  have hb0 : Below w.heap.size w W0 := by rw [hW0]; exact Below.alloc (Below.refl _ _) (Nat.le_refl _) _
  have HS0 := Lib.hid (show W0.cell? ⟨w.heap.size, 0, none⟩ = some (.slice none 0 0) ∧ W0.frozen? ⟨w.heap.size, 0, none⟩ = false ∧ w.heap.size < W0.heap.size by rw [hW0]; exact ⟨by simp [go_sem], World.frozen?_alloc_at _ _ _ 0 (by simp), by simp⟩)
  have HB0 := Lib.hid hb0
  rw [← hW0]
  clear hW0 hb0
  go_wp2_with fail
  obtain ⟨W, hW⟩ : ∃ W, W = W0.alloc (Obj.cells #[.slice none 0 0] 105) := ⟨_, rfl⟩
  have HW := Lib.hid (show ModW W W0.heap.size (.slice none 0 0) ∧ Row W W0.heap.size (.slice none 0 0) (prodK p L M 0 0) ∧ Value.ownBlock (.slice none 0 0) ≠ some W0.heap.size ∧ Below W0.heap.size W0 W by
    rw [hW, prodK_zero]
    exact ⟨⟨by simp [go_sem], World.frozen?_alloc_at _ _ _ 0 rfl, by simp⟩, Row.nil _ _, by simp [Value.ownBlock], Below.alloc (Below.refl _ _) (Nat.le_refl _) _⟩)
  rw [← hW]
  obtain ⟨S, hSe⟩ : ∃ S, S = W0.heap.size := ⟨_, rfl⟩
  have hSB : W0.heap.size ≤ S := by rw [hSe]; exact Nat.le_refl _
  rw [show ModW W W0.heap.size (.slice none 0 0) = ModW W S (.slice none 0 0) by rw [hSe], show (Value.ownBlock (.slice none 0 0) ≠ some W0.heap.size) = (Value.ownBlock (.slice none 0 0) ≠ some S) by rw [hSe]] at HW
  rw [← hSe]
  clear hSe hW
  go_loopw [17] (fun i wr => ∃ (k : Nat) (v : Value), k ≤ L.length ∧ i = .int .i64 k ∧ ModW wr S v ∧ Row wr W0.heap.size v (prodK p L M k 0) ∧ v.ownBlock ≠ some S ∧ Below W0.heap.size W0 wr) (fun i _ => L.length - (intOf i).toNat)
  case atStart => exact ⟨0, _, by omega, rfl, HW.out⟩
  case round =>
    clear HW
    obtain ⟨k, v, hk, rfl, hS, hR, hv, hb⟩ := hrel
    by_cases hlt : k < L.length
    · have hltp : (k : Int) < (L.length : Int) := by omega
      have hk0 : (0 : Int) ≤ (k : Int) := by omega
      obtain ⟨x, hx⟩ : ∃ x, x = L.getD k default := ⟨_, rfl⟩
      have HX := Lib.hid hx
      have HEX := Lib.hid (validB_el HVL.out hlt hx)
      have HPX := Lib.hid (validB_pows HVL.out hlt hx)
      obtain ⟨g, off, rfl, hg, hc⟩ : ∃ g off, a = some ⟨g, off, none⟩ ∧ g < w.heap.size ∧ ∀ j : Nat, j < L.length → TAt w g (off + j * 4) (L.getD j default) := by
        obtain ⟨_, a', cap', he, h⟩ := HL.out
        injection he with e1 e2 e3
        subst e1
        rcases h with h | h
        · rw [h] at hlt; simp at hlt
        · exact h
      obtain ⟨b0, b1, b2, b3⟩ := ((hc k hlt).below HB0.out hg).below hb (Nat.lt_of_lt_of_le hg HB0.out.size)
      rw [← hx] at b0 b1 b2 b3
      have hn : v.ownBlock ≠ some wr.heap.size := fun e => by have := (World.ownsRow.lt hR _ e).2; omega
      have HIN := Lib.hid (show ∀ W, W = wr.alloc (Obj.cells #[.int .i64 x.a, .int .i64 x.b, .int .i64 x.c, .int .i64 x.t] 87) → ModW W S v ∧ Row W W0.heap.size v (prodK p L M k 0) ∧ v.ownBlock ≠ some S ∧ v.ownBlock ≠ some wr.heap.size ∧ TAt W wr.heap.size 0 x ∧ wr.heap.size < W.heap.size ∧ Below W0.heap.size W0 W from fun W hW => by
        have hb2 : Below wr.heap.size wr W := by rw [hW]; exact Below.alloc (Below.refl _ _) (Nat.le_refl _) _
        exact ⟨hS.below hb2, hR.below hb2, hv, hn, by rw [hW]; refine ⟨?_, ?_, ?_, ?_⟩ <;> simp [go_sem], by rw [hW]; simp, hb.trans (hb2.mono hb.size)⟩)
      have hSn : S < wr.heap.size := hS.sz
      clear hx hS hR hv hb hc hn
      go_wp2_with fail
      obtain ⟨W1, hW1⟩ : ∃ W, W = wr.alloc (Obj.cells #[.int .i64 x.a, .int .i64 x.b, .int .i64 x.c, .int .i64 x.t] 87) := ⟨_, rfl⟩
      have HI1 := Lib.hid (HIN.out W1 hW1)
      rw [← hW1]
      obtain ⟨n, hne⟩ : ∃ n, n = wr.heap.size := ⟨_, rfl⟩
      rw [← hne] at HI1 hSn ⊢
      clear hW1 hne HIN b0 b1 b2 b3
      go_loopw [23] (fun i wr => ∃ (j : Nat) (v : Value), j ≤ M.length ∧ i = .int .i64 j ∧ ModW wr S v ∧ Row wr W0.heap.size v (prodK p L M k j) ∧ v.ownBlock ≠ some S ∧ v.ownBlock ≠ some n ∧ TAt wr n 0 x ∧ n < wr.heap.size ∧ Below W0.heap.size W0 wr) (fun i _ => M.length - (intOf i).toNat)
      case atStart => exact ⟨0, _, by omega, rfl, HI1.out⟩
      case round =>
        clear HI1
        obtain ⟨j, v, hj, rfl, hS, hR, hv, hvn, hT, hnw, hb⟩ := hrel
        by_cases hjt : j < M.length
        · have hjtp : (j : Int) < (M.length : Int) := by omega
          have hj0 : (0 : Int) ≤ (j : Int) := by omega
          obtain ⟨y, hy⟩ : ∃ y, y = M.getD j default := ⟨_, rfl⟩
          have hely := validB_el HVM.out hjt hy
          have hpy := validB_pows HVM.out hjt hy
          obtain ⟨g2, off2, rfl, hg2, hc⟩ : ∃ g off, a2 = some ⟨g, off, none⟩ ∧ g < w.heap.size ∧ ∀ j : Nat, j < M.length → TAt w g (off + j * 4) (M.getD j default) := by
            obtain ⟨_, a', cap', he, h⟩ := HM.out
            injection he with e1 e2 e3
            subst e1
            rcases h with h | h
            · rw [h] at hjt; simp at hjt
            · exact h
          obtain ⟨b0, b1, b2, b3⟩ := ((hc j hjt).below HB0.out hg2).below hb (Nat.lt_of_lt_of_le hg2 HB0.out.size)
          rw [← hy] at b0 b1 b2 b3
          have hex := HEX.out
          have HXK := Lib.hid (show addT p (mulTT p x y) (prodK p L M k j) = prodK p L M k (j + 1) by rw [HX.out, hy, prodK_next hjt])
          have HS := Lib.hid hS
          have HR := Lib.hid hR
          have HV2 := Lib.hid hv
          have HV3 := Lib.hid hvn
          have HT := Lib.hid hT
          have Hb := Lib.hid hb
          have Ha := Lib.hid (Below.alloc (Below.refl wr.heap.size wr) (Nat.le_refl _) (Obj.cells #[.int .i64 y.a, .int .i64 y.b, .int .i64 y.c, .int .i64 y.t] 87))
          obtain ⟨t0, t1, t2, t3⟩ := hT
          simp only [Nat.zero_add] at t0 t1 t2 t3
          clear hy hS hR hv hvn hb hc
          obtain ⟨p2, p13⟩ := isP_bd HP.out
          have hq0 : 0 ≤ x.t * y.t := Int.mul_nonneg (by omega) (by omega)
          have hq1 : x.t * y.t ≤ 13 * 13 := Int.mul_le_mul (by omega) (by omega) (by omega) (by omega)
          have hw : IntKind.i64.wrap (x.t * y.t) = x.t * y.t := IntWalk.i64_in _ (by omega)
          obtain ⟨⟨xa0, xa1⟩, ⟨xb0, xb1⟩, ⟨xc0, xc1⟩⟩ := HPX.out
          obtain ⟨⟨ya0, ya1⟩, ⟨yb0, yb1⟩, ⟨yc0, yc1⟩⟩ := hpy
          have wa : IntKind.i64.wrap (x.a + y.a) = x.a + y.a := IntWalk.i64_in _ (by omega)
          have wb : IntKind.i64.wrap (x.b + y.b) = x.b + y.b := IntWalk.i64_in _ (by omega)
          have wcc : IntKind.i64.wrap (x.c + y.c) = x.c + y.c := IntWalk.i64_in _ (by omega)
          go_wp2_with fail
          obtain ⟨W, hW⟩ : ∃ W, W = (wr.alloc (Obj.cells #[.int .i64 y.a, .int .i64 y.b, .int .i64 y.c, .int .i64 y.t] 87)).alloc (Obj.cells #[.int .i64 0, .int .i64 0, .int .i64 0, .int .i64 (x.t * y.t % p)] 87) := ⟨_, rfl⟩
          have H := Lib.hid (show ZSt n wr.heap.size x y ⟨0, 0, 0, x.t * y.t % p⟩ wr W by
            have hbW : Below wr.heap.size wr W := by rw [hW]; exact Below.alloc (Below.alloc (Below.refl _ _) (Nat.le_refl _) _) (by simp) _
            refine ⟨HT.out.below hbW hnw, ?_, ?_, fun i => ?_, hnw, by rw [hW]; simp, rfl, hbW⟩
            · rw [hW]; refine ⟨?_, ?_, ?_, ?_⟩ <;> simp [go_sem]
            · rw [hW]; refine ⟨?_, ?_, ?_, ?_⟩ <;> simp [go_sem]
            · rw [hW]; exact World.frozen?_alloc_at (w := wr.alloc _) _ _ _ i (by simp))
          rw [← hW]
          obtain ⟨m, hme⟩ : ∃ m, m = wr.heap.size := ⟨_, rfl⟩
          rw [← hme] at H ⊢
          clear hW hme t0 t1 t2 t3 b0 b1 b2 b3
          refine wp_loop_rounds 4 ?_
          obtain ⟨⟨t0, t1, t2, t3⟩, ⟨u0, u1, u2, u3⟩, ⟨z0, z1, z2, z3⟩, fz, -, sz, -, -⟩ := H.out
          have fz0 := fz 0
          simp only [Nat.zero_add] at t0 t1 t2 t3 u0 u1 u2 u3 z0 z1 z2 z3
          clear hltp hk0 hjtp hj0 hely p2 p13 hq0 hq1 hw xa0 xa1 xb0 xb1 xc0 xc1 ya0 ya1 yb0 yb1 yc0 yc1 hl1 hm1 hex
          rw [rounds_succ]
          go_wp2_with fail
          refine wp_name (fun Q0 hQ0 => ?_)
          have HQ0 := Lib.hid hQ0
          clear hQ0
          refine wp_region_quiet_last (C := fun w' => ∃ n, w' = W.drewN n) (by kernel_rfl) (by kernel_rfl) ⟨1, rfl⟩ ?_
          repeat (refine wpQL_step (fun K hK => ?_); go_simp; refine hK _ ?_; clear hK K)
          refine wpQL_one ?_
          rintro _ ⟨n0, rfl⟩
          go_wp2_with fail
          rw [HQ0.out]
          go_wp2_with fail
          have H := Lib.hid ((H.out.below (below_drewN (Below.refl _ _) n0)).s0 (x.a + y.a))
          clear t0 t1 t2 t3 u0 u1 u2 u3 z0 z1 z2 z3 fz fz0 sz
          generalize ((W.drewN n0).setCell ⟨m + 1, 0, none⟩ (.int .i64 (x.a + y.a))) = W1 at H ⊢
          obtain ⟨⟨t0, t1, t2, t3⟩, ⟨u0, u1, u2, u3⟩, ⟨z0, z1, z2, z3⟩, fz, -, sz, -, -⟩ := H.out
          have fz1 := fz 1
          simp only [Nat.zero_add] at t0 t1 t2 t3 u0 u1 u2 u3 z0 z1 z2 z3
          rw [rounds_succ]
          go_wp2_with fail
          refine wp_name (fun Q1 hQ1 => ?_)
          have HQ1 := Lib.hid hQ1
          clear hQ1
          refine wp_region_quiet_last (C := fun w' => ∃ n, w' = W1.drewN n) (by kernel_rfl) (by kernel_rfl) ⟨1, rfl⟩ ?_
          repeat (refine wpQL_step (fun K hK => ?_); go_simp; refine hK _ ?_; clear hK K)
          refine wpQL_one ?_
          rintro _ ⟨n1, rfl⟩
          go_wp2_with fail
          rw [HQ1.out]
          go_wp2_with fail
          have H := Lib.hid ((H.out.below (below_drewN (Below.refl _ _) n1)).s1 (x.b + y.b))
          clear t0 t1 t2 t3 u0 u1 u2 u3 z0 z1 z2 z3 fz fz1 sz
          generalize ((W1.drewN n1).setCell ⟨m + 1, 1, none⟩ (.int .i64 (x.b + y.b))) = W2 at H ⊢
          obtain ⟨⟨t0, t1, t2, t3⟩, ⟨u0, u1, u2, u3⟩, ⟨z0, z1, z2, z3⟩, fz, -, sz, -, -⟩ := H.out
          have fz2 := fz 2
          simp only [Nat.zero_add] at t0 t1 t2 t3 u0 u1 u2 u3 z0 z1 z2 z3
          rw [rounds_succ]
          go_wp2_with fail
          refine wp_name (fun Q2 hQ2 => ?_)
          have HQ2 := Lib.hid hQ2
          clear hQ2
          refine wp_region_quiet_last (C := fun w' => ∃ n, w' = W2.drewN n) (by kernel_rfl) (by kernel_rfl) ⟨1, rfl⟩ ?_
          repeat (refine wpQL_step (fun K hK => ?_); go_simp; refine hK _ ?_; clear hK K)
          refine wpQL_one ?_
          rintro _ ⟨n2, rfl⟩
          go_wp2_with fail
          rw [HQ2.out]
          go_wp2_with fail
          have H := Lib.hid ((H.out.below (below_drewN (Below.refl _ _) n2)).s2 (x.c + y.c))
          clear t0 t1 t2 t3 u0 u1 u2 u3 z0 z1 z2 z3 fz fz2 sz
          generalize ((W2.drewN n2).setCell ⟨m + 1, 2, none⟩ (.int .i64 (x.c + y.c))) = W3 at H ⊢
          obtain ⟨⟨t0, t1, t2, t3⟩, ⟨u0, u1, u2, u3⟩, ⟨z0, z1, z2, z3⟩, fz, -, sz, -, -⟩ := H.out
          have fz3 := fz 3
          simp only [Nat.zero_add] at t0 t1 t2 t3 u0 u1 u2 u3 z0 z1 z2 z3
          rw [rounds_succ]
          go_wp2_with fail
          have hlow := H.out.low
          have hnW : n < _ := Nat.lt_of_lt_of_le hnw hlow.size
          have hf := prodK_facts HP.out (Nat.le_of_lt hlt) hj (validB_len HVL.out) (validB_len HVM.out)
          have H3 := Lib.hid (Hb.out.trans (hlow.mono Hb.out.size))
          have hpb := isP_bd HP.out
          refine (sAdd W0.heap.size S p (prodK p L M k j) (mulTT p x y) v _ (HS.out.below hlow) (HR.out.below hlow) (by omega) hf.1 HV2.out HP.out hf.2.1 ⟨Int.emod_nonneg _ (by omega), Int.emod_lt_of_pos _ (by omega)⟩ H3.out.size).mono ?_
          rintro e w4 hP4
          have hlw := hP4.low (HR.out.below hlow) hSB H3.out.size
          obtain ⟨rfl, v', hS', hR', hv', hK, hor⟩ := hP4
          rw [HXK.out] at hR'
          have hvn' : v'.ownBlock ≠ some n := by
            rcases hor with e | ⟨g, e, hg⟩
            · rw [e]; exact HV3.out
            · rw [e]; intro h; injection h with h; omega
          have hT' : TAt w4 n 0 x := by
            obtain ⟨q0, q1, q2, q3⟩ := H.out.tx
            have hc : ∀ i, w4.cell? ⟨n, i, none⟩ = W3.cell? ⟨n, i, none⟩ := fun i => hK.cell (p := ⟨n, i, none⟩) hnW (fun h => h.elim (fun h => absurd h (show n ≠ S by omega)) (fun h => HV3.out h))
            exact ⟨by rw [hc]; exact q0, by rw [hc]; exact q1, by rw [hc]; exact q2, by rw [hc]; exact q3⟩
          have hn4 : n < w4.heap.size := Nat.lt_of_lt_of_le hnW hlw.size
          have HQ := Lib.hid (And.intro hS' (And.intro hR' (And.intro hv' (And.intro hvn' (And.intro hT' (And.intro hn4 (H3.out.trans hlw)))))))
          clear hS' hR' hv' hvn' hT' hn4 hlw hK hor hf hlow hnW hpb t0 t1 t2 t3 u0 u1 u2 u3 z0 z1 z2 z3 fz fz3 sz
          have hm1 := validB_len HVM.out
          go_wp2_with fail
          go_roundw
          case rel => exact ⟨j + 1, v', by omega, by go_num, HQ.out⟩
          case measure => simp [intOf]; omega
        · have hjl : j = M.length := by omega
          subst hjl
          rw [prodK_row hlt] at hR
          have HQ := Lib.hid (And.intro hS (And.intro hR (And.intro hv hb)))
          clear hS hR hv hvn hT hb
          go_wp2_with fail
          go_roundw
          case rel => exact ⟨k + 1, v, by omega, by go_num, HQ.out⟩
          case measure => simp [intOf]; omega
    · have hkl : k = L.length := by omega
      subst hkl
      rw [prodK_end, ← HRE.out] at hR
      obtain ⟨q0, q1, q2⟩ := HS0.out
      have r0 : wr.cell? ⟨w.heap.size, 0, none⟩ = some (.slice none 0 0) := by rw [hb.cell (p := ⟨w.heap.size, 0, none⟩) q2]; exact q0
      have r1 : wr.frozen? ⟨w.heap.size, 0, none⟩ = false := by rw [hb.frozen (p := ⟨w.heap.size, 0, none⟩) q2]; exact q1
      obtain ⟨s0, sf, _⟩ := hS
      obtain ⟨a3, c3, rfl⟩ : ∃ a c, v = .slice a R.length c := by
        rcases hR.shape with ⟨rfl, h⟩ | ⟨g, c, rfl, _⟩
        · exact ⟨none, 0, by rw [h]; rfl⟩
        · exact ⟨_, c, rfl⟩
      have HQ := Lib.hid (show Row (wr.setCell ⟨w.heap.size, 0, none⟩ (.slice a3 R.length c3)) w.heap.size (.slice a3 R.length c3) R ∧ Below w.heap.size w (wr.setCell ⟨w.heap.size, 0, none⟩ (.slice a3 R.length c3)) from
        ⟨row_base (World.ownsRow.kept (row := some w.heap.size) hR ⟨rfl, rfl, rfl, by simp, fun k hk hne => Below.heap_setCell _ _ _ _ (fun e => hne (by rw [e]))⟩ (.inr (fun e => by have := (World.ownsRow.lt hR _ e).1; omega))) HB0.out.size,
         Below.setCell (HB0.out.trans (hb.mono HB0.out.size)) (Nat.le_refl _) _⟩)
      clear hR hb hv
      have hq := World.cell?_setCell_same wr ⟨w.heap.size, 0, none⟩ (.slice a3 R.length c3) r0
      go_wp2_with fail
      refine bodyPost_ret (v := .agg #[.slice a3 R.length c3]) (by simp [results, Try.results156, go_sem, hq]) rfl ⟨_, rfl, HQ.out⟩
end Go.Proofs.Ytlidplmpglpkgaa
namespace Go.Proofs.Ytlidplmpglpkgaa
open Go.RowKit
set_option maxRecDepth 100000 in
set_option maxHeartbeats 4000000 in
theorem sMulPoly_no (p : Int) (fv gv : Value) (L M : List Trm) (w : World) (hL : Trms w fv L) (hM : Trms w gv M) (hr : (okB p (fv, L) && okB p (gv, M)) = false) :
    Calls Try.prog 214 #[.int .i64 p, fv, gv] w (GivesPB [] false w) := by
  have HB := Lib.hid (bothAt p fv gv L M w hL hM false hr)
  clear hr
  obtain ⟨_, a, cap, rfl, _⟩ := hL
  obtain ⟨_, a2, cap2, rfl, _⟩ := hM
  go_enter Try.func214, Try.ntmps214
  go_wp2_with (go_at_call 98; refine HB.out.mono ?_; rintro e w2 ⟨rfl, hb2⟩)
  refine bodyPost_ret (v := .tuple #[.slice (some ⟨w2.heap.size, 0, none⟩) 0 0, .bool false]) (by simp [results, Try.results214, go_sem]) rfl ⟨_, rfl, (Row.lit0 w2 w.heap.size hb2.size).own (by simp), Below.alloc hb2 hb2.size _⟩
set_option maxRecDepth 100000 in
set_option maxHeartbeats 4000000 in
theorem sMulPoly_yes (p : Int) (fv gv : Value) (L M : List Trm) (w : World) (hL : Trms w fv L) (hM : Trms w gv M) (hp : isP p = true) (hVL : validB p L = true) (hVM : validB p M = true) :
    Calls Try.prog 214 #[.int .i64 p, fv, gv] w (GivesPB (if validB p (addAll p (prodT p L M) []) = true then addAll p (prodT p L M) [] else []) (validB p (addAll p (prodT p L M) [])) w) := by
  have HB := Lib.hid (bothAt p fv gv L M w hL hM true (by unfold okB; dsimp only; rw [hp, hVL, hVM]; rfl))
  obtain ⟨m0, a2, cap2, rfl, m1⟩ := hM
  obtain ⟨l0, a, cap, rfl, l1⟩ := hL
  have HS := Lib.hid (fun (w' : World) (hb : Below w.heap.size w w') => sProduct p a a2 cap cap2 L M w' hp (Trms.below ⟨l0, a, cap, rfl, l1⟩ hb) (Trms.below ⟨m0, a2, cap2, rfl, m1⟩ hb) hVL hVM)
  have HT := Lib.hid (fun (B : Nat) (v : Value) (w' : World) (hR : Row w' B v (addAll p (prodT p L M) [])) => sTold B p hp (addAll p (prodT p L M) []) v w' hR (by
    have h := (prodK_facts hp (k := L.length) (j := 0) (Nat.le_refl _) (Nat.zero_le _) (validB_len hVL) (validB_len hVM)).2.2
    rw [prodK_end] at h
    omega))
  clear m1 l1
  obtain ⟨R, hR⟩ : ∃ R, R = addAll p (prodT p L M) [] := ⟨_, rfl⟩
  rw [← hR] at HS HT ⊢
  obtain ⟨b, hb⟩ : ∃ b, b = validB p R := ⟨_, rfl⟩
  rw [← hb] at HT ⊢
  obtain ⟨R2, hR2⟩ : ∃ R2, R2 = (if b = true then R else []) := ⟨_, rfl⟩
  rw [← hR2] at HT ⊢
  clear hR hb hR2 hp hVL hVM
  go_enter Try.func214, Try.ntmps214
  go_wp2_with first
    | (go_at_call 98; refine HB.out.mono ?_; rintro e w2 ⟨rfl, hb2⟩)
    | (go_at_call 156; refine (HS.out _ hb2).mono ?_; rintro e w3 ⟨v3, rfl, hR3, hb3⟩)
    | (go_at_call 158; refine (HT.out _ _ _ hR3).mono ?_; rintro e w4 ⟨v4, rfl, ho4, hb4⟩)
  have h3 := hb2.trans (hb3.mono hb2.size)
  refine bodyPost_ret (v := .tuple #[v4, .bool b]) (by simp [results, Try.results214, go_sem]) rfl ⟨_, rfl, ownTrms_mono ho4 h3.size, h3.trans (hb4.mono h3.size)⟩
def mulOk (p : Int) (L M : List Trm) : Bool := ((isP p && validB p L) && (isP p && validB p M)) && validB p (addAll p (prodT p L M) [])
def mulL (p : Int) (L M : List Trm) : List Trm := if mulOk p L M = true then addAll p (prodT p L M) [] else []
theorem mulOk_no {p : Int} {L M : List Trm} (h : ((isP p && validB p L) && (isP p && validB p M)) = false) : mulOk p L M = false ∧ mulL p L M = [] := by
  have e : mulOk p L M = false := by unfold mulOk; rw [h]; rfl
  exact ⟨e, by unfold mulL; rw [e]; rfl⟩
theorem mulOk_yes {p : Int} {L M : List Trm} (h : ((isP p && validB p L) && (isP p && validB p M)) = true) : mulOk p L M = validB p (addAll p (prodT p L M) []) ∧ mulL p L M = (if validB p (addAll p (prodT p L M) []) = true then addAll p (prodT p L M) [] else []) := by
  have e : mulOk p L M = validB p (addAll p (prodT p L M) []) := by unfold mulOk; rw [h, Bool.true_and]
  exact ⟨e, by unfold mulL; rw [e]⟩
theorem sMulPoly (p : Int) (f g : Value) (L M : List Trm) (w : World) (hL : Trms w f L) (hM : Trms w g M) :
    Calls Try.prog 214 #[.int .i64 p, f, g] w (GivesPB (mulL p L M) (mulOk p L M) w) := by
  cases h : ((isP p && validB p L) && (isP p && validB p M))
  · rw [(mulOk_no h).1, (mulOk_no h).2]
    exact sMulPoly_no p f g L M w hL hM h
  · rw [(mulOk_yes h).1, (mulOk_yes h).2]
    simp only [Bool.and_eq_true] at h
    exact sMulPoly_yes p f g L M w hL hM h.1.1 h.1.2 h.2.2
theorem iMulPoly (p : Int) (f g : Value) (L M : List Trm) (w : World) (hL : Trms w f L) (hM : Trms w g M) :
    Calls Try.prog 70 #[.int .i64 p, f, g] w (GivesPB (mulL p L M) (mulOk p L M) w) := by
  cases h : ((isP p && validB p L) && (isP p && validB p M))
  · rw [(mulOk_no h).1, (mulOk_no h).2]
    exact iMulPoly_no p f g L M w hL hM h
  · rw [(mulOk_yes h).1, (mulOk_yes h).2]
    simp only [Bool.and_eq_true] at h
    exact iMulPoly_yes p f g L M w hL hM h.1.1 h.1.2 h.2.2
end Go.Proofs.Ytlidplmpglpkgaa
namespace Go.Proofs.Ytlidplmpglpkgaa
open Go.RowKit
/-- a term whose coefficient is made an element -/
def mkT (p : Int) (x : Trm) : Trm := ⟨x.a, x.b, x.c, x.t % p⟩
/-- the sum of the first k terms of a list -/
def mkK (p : Int) (L : List Trm) (k : Nat) : List Trm := addAll p ((L.take k).map (mkT p)) []
def pwB (x : Trm) : Bool := powsB x.a x.b x.c
theorem mkK_zero (p : Int) (L : List Trm) : mkK p L 0 = [] := by simp [mkK, addAll]
theorem mkK_next {p : Int} {L : List Trm} {k : Nat} (hk : k < L.length) : addT p (mkT p (L.getD k default)) (mkK p L k) = mkK p L (k + 1) := by
  unfold mkK
  rw [List.take_succ_eq_append_getElem hk, List.map_append, List.map_singleton, addAll_snoc]
  simp [List.getD_eq_getElem?_getD, hk]
theorem mkK_facts {p : Int} {L : List Trm} (hp : isP p = true) {k : Nat} (hk : k ≤ L.length) (hL : L.length ≤ 60) : Srt (mkK p L k) ∧ Els p (mkK p L k) ∧ (mkK p L k).length ≤ 60 := by
  have hb := isP_bd hp
  refine ⟨addAll_srt _ _ List.Pairwise.nil, addAll_els (by omega) _ _ (fun x hx => ?_) (fun y hy => by cases hy), ?_⟩
  · obtain ⟨z, _, rfl⟩ := List.mem_map.1 hx
    exact emod_bd hb.1
  · have := addAll_len (p := p) ((L.take k).map (mkT p)) []
    rw [List.length_map, List.length_take, List.length_nil] at this
    unfold mkK
    omega
theorem pw_snoc {L : List Trm} {k : Nat} (h : k < L.length) : (L.take (k + 1)).all pwB = ((L.take k).all pwB && pwB (L.getD k default)) := by
  rw [List.take_succ_eq_append_getElem h, List.all_append]
  simp [List.getD_eq_getElem?_getD, h]
theorem pw_no {L : List Trm} {k : Nat} (h : k < L.length) (hn : pwB (L.getD k default) = false) : L.all pwB = false := by
  rw [List.getD_eq_getElem?_getD, List.getElem?_eq_getElem h] at hn
  exact List.all_eq_false.2 ⟨_, List.getElem_mem h, by simpa using hn⟩
def makeOk (p : Int) (L : List Trm) : Bool := (isP p && decide (L.length ≤ 60)) && (L.all pwB && validB p (mkK p L L.length))
def makeV (p : Int) (L : List Trm) : List Trm := if makeOk p L = true then mkK p L L.length else []
set_option maxRecDepth 100000 in
set_option maxHeartbeats 4000000 in
theorem iMakePoly_no (p : Int) (a : Option Addr) (n cap : Nat) (w : World) (hr : (isP p && decide (n ≤ 60)) = false) :
    Calls Try.prog 105 #[.int .i64 p, .slice a n cap] w (GivesPB [] false w) := by
  cases hp : isP p
  · have HP := Lib.hid hp
    clear hr hp
    go_enter Try.func105, Try.ntmps105
    go_wp2_with (go_at_call 100; refine (iPV_no p _ HP.out).mono ?_; rintro e w' ⟨rfl, rfl⟩)
    refine bodyPost_ret (v := .tuple #[.slice none 0 0, .bool false]) (by simp [results, Try.results105, go_sem]) rfl ⟨_, rfl, (Row.nil w w.heap.size).own (by simp), Below.refl _ _⟩
  · have HP := Lib.hid hp
    have hn2 : (60 : Int) < (n : Int) := by rw [hp] at hr; simp at hr; omega
    clear hr hp
    go_enter Try.func105, Try.ntmps105
    go_wp2_with (go_at_call 100; refine (iPV_yes p _ HP.out).mono ?_; rintro e w' ⟨rfl, rfl⟩)
    refine bodyPost_ret (v := .tuple #[.slice none 0 0, .bool false]) (by simp [results, Try.results105, go_sem]) rfl ⟨_, rfl, (Row.nil w w.heap.size).own (by simp), Below.refl _ _⟩
set_option maxRecDepth 100000 in
set_option maxHeartbeats 8000000 in
theorem iMakePoly_yes (p : Int) (a : Option Addr) (cap : Nat) (L : List Trm) (w : World) (hp : isP p = true) (hl : L.length ≤ 60) (hL : Trms w (.slice a L.length cap) L) (R : List Trm) (b : Bool) (hR : R = makeV p L) (hb : b = makeOk p L) :
    Calls Try.prog 105 #[.int .i64 p, .slice a L.length cap] w (GivesPB R b w) := by
  have HP := Lib.hid hp
  have HL := Lib.hid hL
  have HRE := Lib.hid hR
  have HBE := Lib.hid hb
  have hl1 : (L.length : Int) ≤ 60 := by omega
  clear hp hL hR hb
  go_enter Try.func105, Try.ntmps105
  go_wp2_with (go_at_call 100; refine (iPV_yes p _ HP.out).mono ?_; rintro e w' ⟨rfl, rfl⟩)
  obtain ⟨W, hW⟩ : ∃ W, W = w.alloc (Obj.cells #[.int .i64 p, .slice none 0 0] 114) := ⟨_, rfl⟩
  obtain ⟨S, hSe⟩ : ∃ S, S = w.heap.size := ⟨_, rfl⟩
  have hSB : w.heap.size ≤ S := by rw [hSe]; exact Nat.le_refl _
  have HW := Lib.hid (show SumW W S p (.slice none 0 0) ∧ Row W w.heap.size (.slice none 0 0) (mkK p L 0) ∧ Value.ownBlock (.slice none 0 0) ≠ some S ∧ Below w.heap.size w W by
    rw [hW, hSe, mkK_zero]
    exact ⟨⟨by simp [go_sem], by simp [go_sem], World.frozen?_alloc_at _ _ _ 0 rfl, World.frozen?_alloc_at _ _ _ 1 rfl, by simp⟩, Row.nil _ _, by simp [Value.ownBlock], Below.alloc (Below.refl _ _) (Nat.le_refl _) _⟩)
  rw [← hW, ← hSe]
  clear hSe hW
  go_loopw [21] (fun i wr => ∃ (k : Nat) (v : Value), k ≤ L.length ∧ i = .int .i64 k ∧ (L.take k).all pwB = true ∧ SumW wr S p v ∧ Row wr w.heap.size v (mkK p L k) ∧ v.ownBlock ≠ some S ∧ Below w.heap.size w wr) (fun i _ => L.length - (intOf i).toNat)
  case atStart => exact ⟨0, _, by omega, rfl, by simp, HW.out⟩
  case round =>
    clear HW
    obtain ⟨k, v, hk, rfl, hpw, hS, hR, hv, hb⟩ := hrel
    by_cases hlt : k < L.length
    · have hltp : (k : Int) < (L.length : Int) := by omega
      have hk0 : (0 : Int) ≤ (k : Int) := by omega
      obtain ⟨x, hx⟩ : ∃ x, x = L.getD k default := ⟨_, rfl⟩
      obtain ⟨g, off, rfl, hg, hc⟩ : ∃ g off, a = some ⟨g, off, none⟩ ∧ g < w.heap.size ∧ ∀ j : Nat, j < L.length → TAt w g (off + j * 4) (L.getD j default) := by
        obtain ⟨_, a', cap', he, h⟩ := HL.out
        injection he with e1 e2 e3
        subst e1
        rcases h with h | h
        · rw [h] at hlt; simp at hlt
        · exact h
      obtain ⟨b0, b1, b2, b3⟩ := (hc k hlt).below hb hg
      rw [← hx] at b0 b1 b2 b3
      have HV2 := Lib.hid hv
      obtain ⟨n, hne⟩ : ∃ n, n = wr.heap.size := ⟨_, rfl⟩
      obtain ⟨W1, hW1⟩ : ∃ W1, W1 = wr.alloc (Obj.cells #[.int .i64 x.a, .int .i64 x.b, .int .i64 x.c, .int .i64 x.t] 87) := ⟨_, rfl⟩
      have hr1 : Below wr.heap.size wr W1 := by rw [hW1]; exact Below.alloc (Below.refl _ _) (Nat.le_refl _) _
      have hT1 : TAt W1 n 0 x := by rw [hW1, hne]; refine ⟨?_, ?_, ?_, ?_⟩ <;> simp [go_sem]
      have hn1 : n < W1.heap.size := by rw [hW1, hne]; simp
      have hf1 : ∀ i, W1.frozen? ⟨n, i, none⟩ = false := fun i => by rw [hW1, hne]; exact World.frozen?_alloc_at _ _ _ i rfl
      have hnv : v.ownBlock ≠ some n := fun e => by have := (World.ownsRow.lt hR _ e).2; omega
      have hSn : S < n := by rw [hne]; exact hS.sz
      have hwn : w.heap.size ≤ n := by rw [hne]; exact hb.size
      have HF := Lib.hid (fun W' (hb' : Below W1.heap.size W1 W') => show TAt W' n 0 x ∧ W'.frozen? ⟨n, 3, none⟩ = false ∧ n < W'.heap.size ∧ SumW W' S p v ∧ Row W' w.heap.size v (mkK p L k) ∧ Below w.heap.size w W' from
        ⟨hT1.below hb' hn1, by rw [hb'.frozen (p := ⟨n, 3, none⟩) hn1]; exact hf1 3, Nat.lt_of_lt_of_le hn1 hb'.size, (hS.below hr1).below hb', (hR.below hr1).below hb', (hb.trans (hr1.mono hb.size)).trans (hb'.mono (Nat.le_trans hb.size hr1.size))⟩)
      have HW1 := Lib.hid hW1
      have HNV := Lib.hid (And.intro hnv (And.intro hSn hwn))
      obtain ⟨t0, t1, t2, t3⟩ := hT1
      simp only [Nat.zero_add] at t0 t1 t2 t3
      have HFit := Lib.hid (fun w => iFit x.a x.b x.c x.t w)
      cases hpx : pwB x
      · rw [show powsB x.a x.b x.c = false from hpx] at HFit
        have HE := Lib.hid (show makeOk p L = false by unfold makeOk; rw [pw_no hlt (by rw [← hx]; exact hpx)]; simp)
        have hz : b = false := by rw [HBE.out, HE.out]
        have hz2 : R = [] := by rw [HRE.out]; unfold makeV; rw [HE.out]; rfl
        subst hz hz2
        clear hx hS hR hv hb hc hpw hpx hr1 hW1 hf1 hn1 hnv hSn hwn
        go_wp2_with fail
        rw [← HW1.out, ← hne]
        clear hne
        go_wp2_with fail
        refine (HFit.out _).mono ?_
        rintro e w2 ⟨rfl, hb2⟩
        have HQ := Lib.hid (HF.out w2 hb2).2.2.2.2.2
        clear hb2 t0 t1 t2 t3
        go_wp2_with fail
        refine bodyPost_ret (v := .tuple #[.slice none 0 0, .bool false]) (by simp [results, Try.results105, go_sem]) rfl ⟨_, rfl, (Row.nil w2 w.heap.size).own (by simp), HQ.out⟩
      · rw [show powsB x.a x.b x.c = true from hpx] at HFit
        have HXK := Lib.hid (show addT p (mkT p x) (mkK p L k) = mkK p L (k + 1) by rw [hx, mkK_next hlt])
        have HPK := Lib.hid (show (L.take (k + 1)).all pwB = true by rw [pw_snoc hlt, hpw, ← hx, hpx]; rfl)
        clear hx hS hR hv hb hc hpw hpx hr1 hW1 hf1 hn1 hnv hSn hwn
        go_wp2_with fail
        rw [← HW1.out, ← hne]
        clear hne
        go_wp2_with fail
        refine (HFit.out _).mono ?_
        rintro e w2 ⟨rfl, hb2⟩
        clear t0 t1 t2 t3
        obtain ⟨⟨t0, t1, t2, t3⟩, f3, hn2, -, -, -⟩ := HF.out w2 hb2
        simp only [Nat.zero_add] at t0 t1 t2 t3
        have HB2 := Lib.hid hb2
        clear hb2
        go_wp2_with fail
        refine (iRed p x.t _ HP.out).mono ?_
        rintro e w3 ⟨rfl, rfl⟩
        go_wp2_with fail
        obtain ⟨hT2, -, hn2', hS2, hR2, hB2⟩ := HF.out w2 HB2.out
        obtain ⟨hv0, hSn, hwn⟩ := HNV.out
        obtain ⟨W3, hW3⟩ : ∃ W3, W3 = w2.setCell ⟨n, 3, none⟩ (.int .i64 (x.t % p)) := ⟨_, rfl⟩
        have hS3 : SumW W3 S p v := by
          rw [hW3]
          have ne : ∀ i, (⟨n, 3, none⟩ : Addr) ≠ ⟨S, i, none⟩ := fun i e => by have := congrArg Addr.block e; simp at this; omega
          exact ⟨by rw [World.cell?_setCell_other _ _ _ _ (ne 0)]; exact hS2.c0, by rw [World.cell?_setCell_other _ _ _ _ (ne 1)]; exact hS2.c1, by rw [World.frozen?_setCell]; exact hS2.f0, by rw [World.frozen?_setCell]; exact hS2.f1, by simpa using hS2.sz⟩
        have hR3 : Row W3 w.heap.size v (mkK p L k) := by
          rw [hW3]
          exact World.ownsRow.kept (row := some n) hR2 ⟨rfl, rfl, rfl, by simp, fun k hk hne => Below.heap_setCell _ _ _ _ (fun e => hne (by rw [e]))⟩ (.inr hv0)
        have hB3 : Below w.heap.size w W3 := by rw [hW3]; exact hB2.setCell hwn _
        have hc3 : W3.cell? ⟨n, 0, none⟩ = some (.int .i64 x.a) ∧ W3.cell? ⟨n, 1, none⟩ = some (.int .i64 x.b) ∧ W3.cell? ⟨n, 2, none⟩ = some (.int .i64 x.c) ∧ W3.cell? ⟨n, 3, none⟩ = some (.int .i64 (x.t % p)) := by
          rw [hW3]
          refine ⟨?_, ?_, ?_, World.cell?_setCell_same _ _ _ t3⟩
          · rw [World.cell?_setCell_other _ _ _ _ (by simp)]; exact t0
          · rw [World.cell?_setCell_other _ _ _ _ (by simp)]; exact t1
          · rw [World.cell?_setCell_other _ _ _ _ (by simp)]; exact t2
        have H3 := Lib.hid (And.intro hS3 (And.intro hR3 hB3))
        rw [← hW3]
        clear t0 t1 t2 t3 f3 hT2 hS2 hR2 hB2 hS3 hR3 hB3 hW3 hv0
        obtain ⟨t0, t1, t2, t3⟩ := hc3
        go_wp2_with fail
        have hf := mkK_facts (p := p) (L := L) HP.out hk hl
        have hpb := isP_bd HP.out
        refine (iPut w.heap.size S p v (mkK p L k) (mkT p x) W3 H3.out.1 H3.out.2.1 H3.out.2.2.size HP.out hf.1 hf.2.1 (isE_iff.2 (emod_bd hpb.1)) (by omega) HV2.out).mono ?_
        rintro e w4 hP4
        have hlow := hP4.low H3.out.2.1 hSB H3.out.2.2.size
        obtain ⟨rfl, v', hS', hR', hv', _, _⟩ := hP4
        rw [HXK.out] at hR'
        have HQ := Lib.hid (And.intro HPK.out (And.intro hS' (And.intro hR' (And.intro hv' (H3.out.2.2.trans hlow)))))
        clear hS' hR' hv' hlow hf hpb t0 t1 t2 t3
        go_wp2_with fail
        go_roundw
        case rel => exact ⟨k + 1, v', by omega, by go_num, HQ.out⟩
        case measure => simp [intOf]; omega
    · have hkl : k = L.length := by omega
      subst hkl
      rw [List.take_length] at hpw
      have hok : makeOk p L = validB p (mkK p L L.length) := by unfold makeOk; rw [HP.out, hpw, decide_eq_true hl]; rfl
      have hb1 : b = validB p (mkK p L L.length) := by rw [HBE.out, hok]
      have hR1 : R = if b = true then mkK p L L.length else [] := by rw [HRE.out]; unfold makeV; rw [hok, hb1]
      have hf := mkK_facts (p := p) (L := L) HP.out (Nat.le_refl _) hl
      have hown := hR.own (by omega)
      obtain ⟨M, hM⟩ : ∃ M, M = mkK p L L.length := ⟨_, rfl⟩
      rw [← hM] at hown hb1 hR1
      obtain ⟨hl2, ao, co, rfl, _⟩ := hown.trms
      have HO := Lib.hid hown
      have Hb := Lib.hid hb
      have HT := Lib.hid (iPolyOf S p ao co M wr hS hown.trms)
      rw [HP.out, ← hb1] at HT
      clear hown hS hb hR hf hv hpw hok hM
      cases b
      · have hz : R = [] := by rw [hR1]; rfl
        subst hz
        clear hb1 hR1
        go_wp2_with (go_at_call 108; refine HT.out.mono ?_; rintro e w5 ⟨rfl, hb5⟩)
        have H5 := Lib.hid (Hb.out.trans (hb5.mono Hb.out.size))
        refine bodyPost_ret (v := .tuple #[.slice none 0 0, .bool false]) (by simp [results, Try.results105, go_sem]) rfl ⟨_, rfl, (Row.nil _ w.heap.size).own (by simp), H5.out⟩
      · have hz : R = M := by rw [hR1]; rfl
        subst hz
        clear hb1 hR1
        go_wp2_with (go_at_call 108; refine HT.out.mono ?_; rintro e w5 ⟨rfl, hb5⟩)
        have H5 := Lib.hid (And.intro (HO.out.below hb5) (Hb.out.trans (hb5.mono Hb.out.size)))
        refine bodyPost_ret (v := .tuple #[.slice ao R.length co, .bool true]) (by simp [results, Try.results105, go_sem]) rfl ⟨_, rfl, H5.out.1, H5.out.2⟩
theorem makeOk_no {p : Int} {L : List Trm} (h : (isP p && decide (L.length ≤ 60)) = false) : makeOk p L = false ∧ makeV p L = [] := by
  have e : makeOk p L = false := by unfold makeOk; rw [h]; rfl
  exact ⟨e, by unfold makeV; rw [e]; rfl⟩
theorem iMakePoly (p : Int) (f : Value) (L : List Trm) (w : World) (hL : Trms w f L) : Calls Try.prog 105 #[.int .i64 p, f] w (GivesPB (makeV p L) (makeOk p L) w) := by
  obtain ⟨l0, a, cap, rfl, l1⟩ := hL
  cases h : (isP p && decide (L.length ≤ 60))
  · rw [(makeOk_no h).1, (makeOk_no h).2]
    exact iMakePoly_no p a L.length cap w h
  · simp only [Bool.and_eq_true, decide_eq_true_eq] at h
    exact iMakePoly_yes p a cap L w h.1 h.2 ⟨l0, a, cap, rfl, l1⟩ _ _ rfl rfl
end Go.Proofs.Ytlidplmpglpkgaa
namespace Go.Proofs.Ytlidplmpglpkgaa
open Go.RowKit
/-- the terms of which something that hangs on the powers alone says yes -/
def fl (q : Int → Int → Int → Bool) (L : List Trm) : List Trm := L.filter fun x => q x.a x.b x.c
theorem fl_srt {q : Int → Int → Int → Bool} {L : List Trm} (h : Srt L) : Srt (fl q L) := List.Pairwise.sublist List.filter_sublist h
theorem fl_els {p : Int} {q : Int → Int → Int → Bool} {L : List Trm} (h : Els p L) : Els p (fl q L) := fun y hy => h y (List.mem_filter.1 hy).1
theorem wS_fl (m : Int → Int → Int → Int) (q : Int → Int → Int → Bool) : ∀ L : List Trm, wS m (fl q L) = wS (fun a b c => if q a b c = true then m a b c else 0) L
  | [] => rfl
  | x :: r => by
    have ih := wS_fl m q r
    unfold fl at ih ⊢
    rw [List.filter_cons]
    show _ = x.t * (if q x.a x.b x.c = true then m x.a x.b x.c else 0) + wS _ r
    by_cases h : q x.a x.b x.c = true
    · rw [if_pos h, if_pos h, ← ih]; rfl
    · rw [if_neg h, if_neg h, ih]; omega
/-- what is added and then cut is what is cut and then added -/
theorem fmap_congr {α β : Type} {f g : α → List β} : ∀ {l : List α}, (∀ x ∈ l, f x = g x) → l.flatMap f = l.flatMap g
  | [], _ => rfl
  | x :: r, h => by
    rw [List.flatMap_cons, List.flatMap_cons, h x (by simp), fmap_congr fun y hy => h y (by simp [hy])]
theorem fl_addAll {p : Int} (hp : 0 < p) (q : Int → Int → Int → Bool) {xs : List Trm} (hx : ∀ x ∈ xs, 0 ≤ x.t ∧ x.t < p) : fl q (addAll p xs []) = addAll p (fl q xs) [] := by
  have s0 : Srt ([] : List Trm) := List.Pairwise.nil
  have e0 : Els p [] := fun y hy => by cases hy
  refine ind_inj (fl_srt (addAll_srt _ _ s0)) (addAll_srt _ _ s0) (fl_els (addAll_els hp _ _ hx e0)) (addAll_els hp _ _ (fun y hy => hx y (List.mem_filter.1 hy).1) e0) fun a b c => ?_
  rw [wS_fl]
  refine (wS_addAll _ _ _).trans ?_
  refine Cg.trans ?_ (wS_addAll _ _ _).symm
  rw [wS_fl]
  exact Cg.refl _ _
theorem fl_valid {p : Int} {q : Int → Int → Int → Bool} {L : List Trm} (h : validB p L = true) : validB p (fl q L) = true := by
  refine validB_of (fl_srt (validB_srt h)) (fl_els (validB_els h)) (fun y hy => ?_) (Nat.le_trans (List.length_filter_le _ _) (validB_len h))
  have h := validB_mem h (List.mem_filter.1 hy).1
  simp only [powsB, powB, Bool.and_eq_true]
  refine ⟨⟨?_, ?_⟩, ?_⟩ <;> simp <;> omega
/-- powers up to a degree -/
def upB (k : Int) (a b c : Int) : Bool := decide (a + b + c ≤ k)
/-- the terms up to a degree -/
def cutL (k : Int) (L : List Trm) : List Trm := fl (upB k) L
theorem prod_bd {p : Int} (hp : 2 ≤ p) {L M : List Trm} : ∀ x ∈ prodT p L M, 0 ≤ x.t ∧ x.t < p := by
  intro x hx
  obtain ⟨y, _, hx⟩ := List.mem_flatMap.1 hx
  obtain ⟨z, _, rfl⟩ := List.mem_map.1 hx
  exact emod_bd hp
theorem cut_prod {p k : Int} (hp : isP p = true) (L M : List Trm) : cutL k (addAll p (prodT p L M) []) = addAll p (cutL k (prodT p L M)) [] := by
  have hb := isP_bd hp
  exact fl_addAll (by omega) _ (prod_bd (by omega))
/-- the cut products of all terms with 1 are the terms of the polynomial up to a degree -/
def one1 : Trm := ⟨0, 0, 0, 1⟩
theorem cut_one {p k : Int} {L : List Trm} (hp : isP p = true) (hV : validB p L = true) : addAll p (cutL k (prodT p L [one1])) [] = cutL k L := by
  have hb := isP_bd hp
  rw [← cut_prod hp]
  have e : prodT p L [one1] = L := by
    unfold prodT
    have : ∀ x ∈ L, [one1].map (mulTT p x) = [x] := fun x hx => by
      have h1 := validB_els hV x hx
      show [mulTT p x one1] = [x]
      unfold mulTT one1
      simp only [Int.add_zero, Int.mul_one]
      rw [Int.emod_eq_of_lt (by omega) (by omega)]
    rw [fmap_congr this]
    simp
  rw [e]
  congr 1
  have := addAll_is (p := p) (xs := L) (L := []) (M := L) (by omega) List.Pairwise.nil (validB_srt hV) (fun y hy => by cases hy) (validB_els hV) (els_in (validB_els hV)) (fun m => Cg.of_eq (by show 0 + wS m L = wS m L; omega))
  exact this
/-- a term times what a number has that hangs on it -/
def tmT (p : Int) (h : Trm → Int) (x : Trm) : Trm := ⟨x.a, x.b, x.c, x.t * h x % p⟩
/-- those that do not fall away -/
def tmL (p : Int) (h : Trm → Int) (L : List Trm) : List Trm := (L.map (tmT p h)).filter fun y => decide (0 < y.t)
theorem tm_snoc (p : Int) (h : Trm → Int) (L : List Trm) (x : Trm) : tmL p h (L ++ [x]) = if 0 < x.t * h x % p then tmL p h L ++ [tmT p h x] else tmL p h L := by
  unfold tmL
  rw [List.map_append, List.filter_append, List.map_singleton]
  by_cases h0 : 0 < x.t * h x % p
  · rw [if_pos h0, List.filter_cons_of_pos (by show decide (0 < x.t * h x % p) = true; rw [decide_eq_true_eq]; exact h0)]; rfl
  · rw [if_neg h0, List.filter_cons_of_neg (by show ¬ decide (0 < x.t * h x % p) = true; rw [decide_eq_true_eq]; exact h0)]; simp
theorem tm_srt {p : Int} {h : Trm → Int} {L : List Trm} (hs : Srt L) : Srt (tmL p h L) :=
  List.Pairwise.sublist List.filter_sublist (List.pairwise_map.2 (hs.imp fun h => h))
theorem tm_mem {p : Int} {h : Trm → Int} {L : List Trm} {y : Trm} (hy : y ∈ tmL p h L) : ∃ z ∈ L, y = tmT p h z ∧ 0 < y.t := by
  obtain ⟨h1, h2⟩ := List.mem_filter.1 hy
  obtain ⟨z, hz, rfl⟩ := List.mem_map.1 h1
  exact ⟨z, hz, rfl, by simpa using h2⟩
theorem tm_valid {p : Int} {h : Trm → Int} {L : List Trm} (hp : isP p = true) (hV : validB p L = true) : validB p (tmL p h L) = true := by
  have hb := isP_bd hp
  refine validB_of (tm_srt (validB_srt hV)) (fun y hy => ?_) (fun y hy => ?_) (Nat.le_trans (List.length_filter_le _ _) (by simpa using validB_len hV))
  · obtain ⟨z, _, rfl, h0⟩ := tm_mem hy
    have := emod_bd (n := z.t * h z) hb.1
    exact ⟨by omega, this.2⟩
  · obtain ⟨z, hz, rfl, _⟩ := tm_mem hy
    have h9 := validB_mem hV hz
    show powsB z.a z.b z.c = true
    simp only [powsB, powB, Bool.and_eq_true]
    refine ⟨⟨?_, ?_⟩, ?_⟩ <;> simp <;> omega
/-- the sum of what was multiplied so, of the first k terms -/
def tmK (p : Int) (h : Trm → Int) (L : List Trm) (k : Nat) : List Trm := addAll p ((L.take k).map (tmT p h)) []
theorem tmK_succ {p : Int} {h : Trm → Int} {L : List Trm} {k : Nat} (hk : k < L.length) : tmK p h L (k + 1) = addT p (tmT p h (L.getD k default)) (tmK p h L k) := by
  unfold tmK
  rw [List.take_succ_eq_append_getElem hk, List.map_append, List.map_singleton, addAll_snoc]
  simp [List.getD_eq_getElem?_getD, hk]
theorem tmK_facts {p : Int} {h : Trm → Int} {L : List Trm} (hp : isP p = true) (k : Nat) : Srt (tmK p h L k) ∧ Els p (tmK p h L k) ∧ (tmK p h L k).length ≤ k := by
  have hb := isP_bd hp
  refine ⟨addAll_srt _ _ List.Pairwise.nil, addAll_els (by omega) _ _ (fun x hx => ?_) (fun y hy => by cases hy), ?_⟩
  · obtain ⟨z, _, rfl⟩ := List.mem_map.1 hx
    exact emod_bd hb.1
  · have := addAll_len (p := p) ((L.take k).map (tmT p h)) []
    simp only [List.length_nil, List.length_map, List.length_take, Nat.zero_add] at this
    unfold tmK
    omega
theorem tmK_is {p : Int} {h : Trm → Int} {L : List Trm} (hp : isP p = true) (hs : Srt L) : ∀ k, k ≤ L.length → tmK p h L k = tmL p h (L.take k)
  | 0, _ => by simp [tmK, tmL, addAll]
  | k + 1, hk => by
    have hb := isP_bd hp
    have hkl : k < L.length := by omega
    rw [tmK_succ hkl, tmK_is hp hs k (by omega), List.take_succ_eq_append_getElem hkl, tm_snoc]
    have e : L.getD k default = L[k] := by simp [List.getD_eq_getElem?_getD, hkl]
    rw [e]
    have hbd := emod_bd (n := L[k].t * h L[k]) hb.1
    by_cases h0 : 0 < L[k].t * h L[k] % p
    · rw [if_pos h0, addT_end ?_ (by show L[k].t * h L[k] % p ≠ 0; omega)]
      intro y hy
      obtain ⟨z, hz, rfl, _⟩ := tm_mem hy
      obtain ⟨i, hi, rfl⟩ := List.getElem_of_mem hz
      simp only [List.length_take] at hi
      have := List.pairwise_iff_getElem.1 hs i k (by omega) hkl (by omega)
      rw [List.getElem_take]
      exact this
    · rw [if_neg h0, addT_zero (by show L[k].t * h L[k] % p = 0; omega)]
theorem tmK_all {p : Int} {h : Trm → Int} {L : List Trm} (hp : isP p = true) (hs : Srt L) : tmK p h L L.length = tmL p h L := by
  rw [tmK_is hp hs _ (Nat.le_refl _), List.take_length]
end Go.Proofs.Ytlidplmpglpkgaa
namespace Go.Proofs.Ytlidplmpglpkgaa
open Go.RowKit
set_option maxRecDepth 100000 in
set_option maxHeartbeats 4000000 in
theorem acP_some (g1 o1 c1 g2 o2 c2 : Nat) (A : List Trm) (w : World) (hA : A.length ≤ 1048576) (hg1 : g1 < w.heap.size) (hg2 : g2 < w.heap.size)
    (h1 : ∀ j : Nat, j < A.length → TAt w g1 (o1 + j * 4) (A.getD j default)) (h2 : ∀ j : Nat, j < A.length → TAt w g2 (o2 + j * 4) (A.getD j default)) :
    Calls Try.prog 25 #[.slice (some ⟨g1, o1, none⟩) A.length c1, .slice (some ⟨g2, o2, none⟩) A.length c2] w fun e w' => e = .returned (.bool true) ∧ Below w.heap.size w w' := by
  have H1 := Lib.hid h1
  have H2 := Lib.hid h2
  have hle : (A.length : Int) ≤ (A.length : Int) := Int.le_refl _
  clear h1 h2
  go_enter Try.func25, Try.ntmps25
  go_wp2_with fail
  go_loopw [11] (fun i wr => ∃ k : Nat, k ≤ A.length ∧ i = .int .i64 k ∧ Below w.heap.size w wr) (fun i _ => A.length - (intOf i).toNat)
  case atStart => exact ⟨0, by omega, rfl, Below.refl _ _⟩
  case round =>
    obtain ⟨k, hk, rfl, hb⟩ := hrel
    by_cases hlt : k < A.length
    · have hltp : (k : Int) < (A.length : Int) := by omega
      have hk0 : (0 : Int) ≤ (k : Int) := by omega
      obtain ⟨a0, a1, a2, a3⟩ := (H1.out k hlt).below hb hg1
      obtain ⟨b0, b1, b2, b3⟩ := (H2.out k hlt).below hb hg2
      have hq := fun w => runEqT (A.getD k default) (A.getD k default) w
      obtain ⟨x, hx⟩ : ∃ x, x = A.getD k default := ⟨_, rfl⟩
      rw [← hx] at a0 a1 a2 a3 b0 b1 b2 b3 hq
      unfold Trm.v at hq
      rw [decide_eq_true rfl] at hq
      have HB := Lib.hid hb
      clear hx hb
      go_wp2_with fail
      go_quiet (fail)
      go_wp2_with fail
      go_roundw
      case rel => exact ⟨k + 1, by omega, by go_num, below_drewN HB.out _⟩
      case measure => simp [intOf]; omega
    · have hkl : k = A.length := by omega
      have hbe : ((A.length : Int) == (A.length : Int)) = true := by simp
      subst hkl
      go_wp2_with fail
      go_ret
      exact ⟨rfl, hb⟩
theorem acP_nil (a1 a2 : Option Addr) (c1 c2 : Nat) (w : World) :
    Calls Try.prog 25 #[.slice a1 0 c1, .slice a2 0 c2] w fun e w' => e = .returned (.bool true) ∧ Below w.heap.size w w' := by
  go_enter Try.func25, Try.ntmps25
  go_wp2_with fail
  go_loopw [11] (fun i wr => i = .int .i64 0 ∧ Below w.heap.size w wr) (fun _ _ => 0)
  case atStart => exact ⟨rfl, Below.refl _ _⟩
  case round =>
    obtain ⟨rfl, hb⟩ := hrel
    go_wp2_with fail
    go_ret
    exact ⟨rfl, hb⟩
theorem acP (v1 v2 : Value) (A : List Trm) (w : World) (h1 : Trms w v1 A) (h2 : Trms w v2 A) :
    Calls Try.prog 25 #[v1, v2] w fun e w' => e = .returned (.bool true) ∧ Below w.heap.size w w' := by
  obtain ⟨l1, a1, c1, rfl, h1⟩ := h1
  obtain ⟨l2, a2, c2, rfl, h2⟩ := h2
  rcases h1 with rfl | ⟨g1, o1, rfl, hg1, hc1⟩
  · exact acP_nil a1 a2 c1 c2 w
  · rcases h2 with rfl | ⟨g2, o2, rfl, hg2, hc2⟩
    · exact acP_nil _ a2 c1 c2 w
    · exact acP_some g1 o1 c1 g2 o2 c2 A w l1 hg1 hg2 hc1 hc2
/-- polynomials that read behind a world -/
structure PK (w0 : World) (zs : List VT) (wr : World) : Prop where
  low : Below w0.heap.size w0 wr
  rd : ∀ z ∈ zs, Trms wr z.1 z.2
theorem PK.on {w0 wr w' : World} {zs : List VT} (h : PK w0 zs wr) (hb : Below wr.heap.size wr w') : PK w0 zs w' :=
  ⟨h.low.trans (hb.mono h.low.size), fun z hz => (h.rd z hz).below hb⟩
theorem PK.add {w0 wr : World} {zs : List VT} (h : PK w0 zs wr) {v : Value} {L : List Trm} (hv : Trms wr v L) : PK w0 ((v, L) :: zs) wr :=
  ⟨h.low, fun z hz => by
    rcases List.mem_cons.1 hz with rfl | hz
    · exact hv
    · exact h.rd z hz⟩
theorem PK.g {w0 wr : World} {zs : List VT} (h : PK w0 zs wr) {v : Value} {L : List Trm} (hm : (v, L) ∈ zs) : Trms wr v L := h.rd _ hm
end Go.Proofs.Ytlidplmpglpkgaa
