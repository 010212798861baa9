/-
  Contract of the model's product of two polynomials. Conditions: both are polynomials over a field that is one.
  PutPoly, of the model and of the program, and the walk of its exact law (with the products that it is made of). Conditions: none but that the slices read as lists of terms.
  What it means to put a polynomial in the place of an unknown: values, and an unknown in its own place. No world.
-/
import Derived.Test.YtegkcfinklcglaaBp22
namespace Go.Proofs.Ytegkcfinklcglaa
open Go.RowKit
/-- the world inside the model's product: one term in block n, the other in block m, the result in m + 1 -/
structure ZSt (n m : Nat) (x y z : Trm) (w wr : World) : Prop where
  tx : TAt wr n 0 x
  ty : TAt wr m 0 y
  tz : TAt wr (m + 1) 0 z
  fz : ∀ i, wr.frozen? ⟨m + 1, i, none⟩ = false
  nm : n < m
  sz : m + 1 < wr.heap.size
  bm : w.heap.size = m
  low : Below w.heap.size w wr
theorem ZSt.below {n m : Nat} {x y z : Trm} {w wr w1 : World} (h : ZSt n m x y z w wr) (hb : Below wr.heap.size wr w1) : ZSt n m x y z w w1 := by
  have sz := h.sz
  have nm := h.nm
  have e := hb.size
  exact ⟨h.tx.below hb (by omega), h.ty.below hb (by omega), h.tz.below hb sz, fun i => by rw [hb.frozen (p := ⟨m + 1, i, none⟩) sz]; exact h.fz i, nm, by omega, h.bm, h.low.trans (hb.mono h.low.size)⟩
theorem ZSt.other {n m i : Nat} {x y z z' : Trm} {w wr : World} (h : ZSt n m x y z w wr) (v : Value) (ht : TAt (wr.setCell ⟨m + 1, i, none⟩ v) (m + 1) 0 z') : ZSt n m x y z' w (wr.setCell ⟨m + 1, i, none⟩ v) := by
  have nm := h.nm
  obtain ⟨u0, u1, u2, u3⟩ := h.tx
  obtain ⟨q0, q1, q2, q3⟩ := h.ty
  have en : ∀ j, (⟨m + 1, i, none⟩ : Addr) ≠ ⟨n, j, none⟩ := fun j e => by have := congrArg Addr.block e; simp at this; omega
  have em : ∀ j, (⟨m + 1, i, none⟩ : Addr) ≠ ⟨m, j, none⟩ := fun j e => by have := congrArg Addr.block e; simp at this
  refine ⟨⟨?_, ?_, ?_, ?_⟩, ⟨?_, ?_, ?_, ?_⟩, ht, fun j => ?_, nm, by simpa using h.sz, h.bm, h.low.setCell (show w.heap.size ≤ m + 1 by have := h.bm; omega) _⟩
  · rw [World.cell?_setCell_other _ _ _ _ (en _)]; exact u0
  · rw [World.cell?_setCell_other _ _ _ _ (en _)]; exact u1
  · rw [World.cell?_setCell_other _ _ _ _ (en _)]; exact u2
  · rw [World.cell?_setCell_other _ _ _ _ (en _)]; exact u3
  · rw [World.cell?_setCell_other _ _ _ _ (em _)]; exact q0
  · rw [World.cell?_setCell_other _ _ _ _ (em _)]; exact q1
  · rw [World.cell?_setCell_other _ _ _ _ (em _)]; exact q2
  · rw [World.cell?_setCell_other _ _ _ _ (em _)]; exact q3
  · rw [World.frozen?_setCell]; exact h.fz j
theorem ZSt.s0 {n m : Nat} {x y z : Trm} {w wr : World} (h : ZSt n m x y z w wr) (v : Int) : ZSt n m x y ⟨v, z.b, z.c, z.t⟩ w (wr.setCell ⟨m + 1, 0, none⟩ (.int .i64 v)) := by
  obtain ⟨t0, t1, t2, t3⟩ := h.tz
  refine h.other _ ⟨World.cell?_setCell_same _ _ _ t0, ?_, ?_, ?_⟩
  · rw [World.cell?_setCell_other _ _ _ _ (by simp)]; exact t1
  · rw [World.cell?_setCell_other _ _ _ _ (by simp)]; exact t2
  · rw [World.cell?_setCell_other _ _ _ _ (by simp)]; exact t3
theorem ZSt.s1 {n m : Nat} {x y z : Trm} {w wr : World} (h : ZSt n m x y z w wr) (v : Int) : ZSt n m x y ⟨z.a, v, z.c, z.t⟩ w (wr.setCell ⟨m + 1, 1, none⟩ (.int .i64 v)) := by
  obtain ⟨t0, t1, t2, t3⟩ := h.tz
  refine h.other _ ⟨?_, World.cell?_setCell_same _ _ _ t1, ?_, ?_⟩
  · rw [World.cell?_setCell_other _ _ _ _ (by simp)]; exact t0
  · rw [World.cell?_setCell_other _ _ _ _ (by simp)]; exact t2
  · rw [World.cell?_setCell_other _ _ _ _ (by simp)]; exact t3
theorem ZSt.s2 {n m : Nat} {x y z : Trm} {w wr : World} (h : ZSt n m x y z w wr) (v : Int) : ZSt n m x y ⟨z.a, z.b, v, z.t⟩ w (wr.setCell ⟨m + 1, 2, none⟩ (.int .i64 v)) := by
  obtain ⟨t0, t1, t2, t3⟩ := h.tz
  refine h.other _ ⟨?_, ?_, World.cell?_setCell_same _ _ _ t2, ?_⟩
  · rw [World.cell?_setCell_other _ _ _ _ (by simp)]; exact t0
  · rw [World.cell?_setCell_other _ _ _ _ (by simp)]; exact t1
  · rw [World.cell?_setCell_other _ _ _ _ (by simp)]; exact t3
theorem wp_name {P : Program} {c : Code} {Q : Exit → Act → World → Prop} {a : Act} {w : World} (h : ∀ Q', Q' = Q → c.wp P Q' a w) : c.wp P Q a w := h Q rfl
set_option maxRecDepth 100000 in
set_option maxHeartbeats 8000000 in
theorem sProduct (p : Int) (a a2 : Option Addr) (cap cap2 : Nat) (L M : List Trm) (w : World) (hp : isP p = true) (hL : Trms w (.slice a L.length cap) L) (hM : Trms w (.slice a2 M.length cap2) M) (hVL : validB p L = true) (hVM : validB p M = true) :
    Calls Try.prog 113 #[.int .i64 p, .slice a L.length cap, .slice a2 M.length cap2] w fun e w' => ∃ v', e = .returned (.agg #[v']) ∧ Row w' w.heap.size v' (addAll p (prodT p L M) []) ∧ Below w.heap.size w w' := by
  have HP := Lib.hid hp
  have HVL := Lib.hid hVL
  have HVM := Lib.hid hVM
  have HL := Lib.hid hL
  have HM := Lib.hid hM
  have hl1 := validB_len hVL
  have hm1 := validB_len hVM
  obtain ⟨R, hRe⟩ : ∃ R, R = addAll p (prodT p L M) [] := ⟨_, rfl⟩
  rw [← hRe]
  have HRE := Lib.hid hRe
  clear hp hVL hVM hRe hL hM
  go_enter Try.func113, Try.ntmps113
  go_upto_region 1 with fail
  obtain ⟨W0, hW0⟩ : ∃ W, W = w.alloc (Obj.cells #[.slice none 0 0] 99) := ⟨_, rfl⟩
  have hb0 : Below w.heap.size w W0 := by rw [hW0]; exact Below.alloc (Below.refl _ _) (Nat.le_refl _) _
  have HS0 := Lib.hid (show W0.cell? ⟨w.heap.size, 0, none⟩ = some (.slice none 0 0) ∧ W0.frozen? ⟨w.heap.size, 0, none⟩ = false ∧ w.heap.size < W0.heap.size by rw [hW0]; exact ⟨by simp [go_sem], World.frozen?_alloc_at _ _ _ 0 (by simp), by simp⟩)
  have HB0 := Lib.hid hb0
  rw [← hW0]
  clear hW0 hb0
  go_wp2_with fail
  obtain ⟨W, hW⟩ : ∃ W, W = W0.alloc (Obj.cells #[.slice none 0 0] 99) := ⟨_, rfl⟩
  have HW := Lib.hid (show ModW W W0.heap.size (.slice none 0 0) ∧ Row W W0.heap.size (.slice none 0 0) (prodK p L M 0 0) ∧ Value.ownBlock (.slice none 0 0) ≠ some W0.heap.size ∧ Below W0.heap.size W0 W by
    rw [hW, prodK_zero]
    exact ⟨⟨by simp [go_sem], World.frozen?_alloc_at _ _ _ 0 rfl, by simp⟩, Row.nil _ _, by simp [Value.ownBlock], Below.alloc (Below.refl _ _) (Nat.le_refl _) _⟩)
  rw [← hW]
  obtain ⟨S, hSe⟩ : ∃ S, S = W0.heap.size := ⟨_, rfl⟩
  have hSB : W0.heap.size ≤ S := by rw [hSe]; exact Nat.le_refl _
  rw [show ModW W W0.heap.size (.slice none 0 0) = ModW W S (.slice none 0 0) by rw [hSe], show (Value.ownBlock (.slice none 0 0) ≠ some W0.heap.size) = (Value.ownBlock (.slice none 0 0) ≠ some S) by rw [hSe]] at HW
  rw [← hSe]
  clear hSe hW
  go_loopw [17] (fun i wr => ∃ (k : Nat) (v : Value), k ≤ L.length ∧ i = .int .i64 k ∧ ModW wr S v ∧ Row wr W0.heap.size v (prodK p L M k 0) ∧ v.ownBlock ≠ some S ∧ Below W0.heap.size W0 wr) (fun i _ => L.length - (intOf i).toNat)
  case atStart => exact ⟨0, _, by omega, rfl, HW.out⟩
  case round =>
    clear HW
    obtain ⟨k, v, hk, rfl, hS, hR, hv, hb⟩ := hrel
    by_cases hlt : k < L.length
    · have hltp : (k : Int) < (L.length : Int) := by omega
      have hk0 : (0 : Int) ≤ (k : Int) := by omega
      obtain ⟨x, hx⟩ : ∃ x, x = L.getD k default := ⟨_, rfl⟩
      have HX := Lib.hid hx
      have HEX := Lib.hid (validB_el HVL.out hlt hx)
      have HPX := Lib.hid (validB_pows HVL.out hlt hx)
      obtain ⟨g, off, rfl, hg, hc⟩ : ∃ g off, a = some ⟨g, off, none⟩ ∧ g < w.heap.size ∧ ∀ j : Nat, j < L.length → TAt w g (off + j * 4) (L.getD j default) := by
        obtain ⟨_, a', cap', he, h⟩ := HL.out
        injection he with e1 e2 e3
        subst e1
        rcases h with h | h
        · rw [h] at hlt; simp at hlt
        · exact h
      obtain ⟨b0, b1, b2, b3⟩ := ((hc k hlt).below HB0.out hg).below hb (Nat.lt_of_lt_of_le hg HB0.out.size)
      rw [← hx] at b0 b1 b2 b3
      have hn : v.ownBlock ≠ some wr.heap.size := fun e => by have := (World.ownsRow.lt hR _ e).2; omega
      have HIN := Lib.hid (show ∀ W, W = wr.alloc (Obj.cells #[.int .i64 x.a, .int .i64 x.b, .int .i64 x.c, .int .i64 x.t] 32) → ModW W S v ∧ Row W W0.heap.size v (prodK p L M k 0) ∧ v.ownBlock ≠ some S ∧ v.ownBlock ≠ some wr.heap.size ∧ TAt W wr.heap.size 0 x ∧ wr.heap.size < W.heap.size ∧ Below W0.heap.size W0 W from fun W hW => by
        have hb2 : Below wr.heap.size wr W := by rw [hW]; exact Below.alloc (Below.refl _ _) (Nat.le_refl _) _
        exact ⟨hS.below hb2, hR.below hb2, hv, hn, by rw [hW]; refine ⟨?_, ?_, ?_, ?_⟩ <;> simp [go_sem], by rw [hW]; simp, hb.trans (hb2.mono hb.size)⟩)
      have hSn : S < wr.heap.size := hS.sz
      clear hx hS hR hv hb hc hn
      go_wp2_with fail
      obtain ⟨W1, hW1⟩ : ∃ W, W = wr.alloc (Obj.cells #[.int .i64 x.a, .int .i64 x.b, .int .i64 x.c, .int .i64 x.t] 32) := ⟨_, rfl⟩
      have HI1 := Lib.hid (HIN.out W1 hW1)
      rw [← hW1]
      obtain ⟨n, hne⟩ : ∃ n, n = wr.heap.size := ⟨_, rfl⟩
      rw [← hne] at HI1 hSn ⊢
      clear hW1 hne HIN b0 b1 b2 b3
      go_loopw [23] (fun i wr => ∃ (j : Nat) (v : Value), j ≤ M.length ∧ i = .int .i64 j ∧ ModW wr S v ∧ Row wr W0.heap.size v (prodK p L M k j) ∧ v.ownBlock ≠ some S ∧ v.ownBlock ≠ some n ∧ TAt wr n 0 x ∧ n < wr.heap.size ∧ Below W0.heap.size W0 wr) (fun i _ => M.length - (intOf i).toNat)
      case atStart => exact ⟨0, _, by omega, rfl, HI1.out⟩
      case round =>
        clear HI1
        obtain ⟨j, v, hj, rfl, hS, hR, hv, hvn, hT, hnw, hb⟩ := hrel
        by_cases hjt : j < M.length
        · have hjtp : (j : Int) < (M.length : Int) := by omega
          have hj0 : (0 : Int) ≤ (j : Int) := by omega
          obtain ⟨y, hy⟩ : ∃ y, y = M.getD j default := ⟨_, rfl⟩
          have hely := validB_el HVM.out hjt hy
          have hpy := validB_pows HVM.out hjt hy
          obtain ⟨g2, off2, rfl, hg2, hc⟩ : ∃ g off, a2 = some ⟨g, off, none⟩ ∧ g < w.heap.size ∧ ∀ j : Nat, j < M.length → TAt w g (off + j * 4) (M.getD j default) := by
            obtain ⟨_, a', cap', he, h⟩ := HM.out
            injection he with e1 e2 e3
            subst e1
            rcases h with h | h
            · rw [h] at hjt; simp at hjt
            · exact h
          obtain ⟨b0, b1, b2, b3⟩ := ((hc j hjt).below HB0.out hg2).below hb (Nat.lt_of_lt_of_le hg2 HB0.out.size)
          rw [← hy] at b0 b1 b2 b3
          have hex := HEX.out
          have HXK := Lib.hid (show addT p (mulTT p x y) (prodK p L M k j) = prodK p L M k (j + 1) by rw [HX.out, hy, prodK_next hjt])
          have HS := Lib.hid hS
          have HR := Lib.hid hR
          have HV2 := Lib.hid hv
          have HV3 := Lib.hid hvn
          have HT := Lib.hid hT
          have Hb := Lib.hid hb
          have Ha := Lib.hid (Below.alloc (Below.refl wr.heap.size wr) (Nat.le_refl _) (Obj.cells #[.int .i64 y.a, .int .i64 y.b, .int .i64 y.c, .int .i64 y.t] 32))
          obtain ⟨t0, t1, t2, t3⟩ := hT
          simp only [Nat.zero_add] at t0 t1 t2 t3
          clear hy hS hR hv hvn hb hc
          obtain ⟨p2, p13⟩ := isP_bd HP.out
          have hq0 : 0 ≤ x.t * y.t := Int.mul_nonneg (by omega) (by omega)
          have hq1 : x.t * y.t ≤ 13 * 13 := Int.mul_le_mul (by omega) (by omega) (by omega) (by omega)
          have hw : IntKind.i64.wrap (x.t * y.t) = x.t * y.t := IntWalk.i64_in _ (by omega)
          obtain ⟨⟨xa0, xa1⟩, ⟨xb0, xb1⟩, ⟨xc0, xc1⟩⟩ := HPX.out
          obtain ⟨⟨ya0, ya1⟩, ⟨yb0, yb1⟩, ⟨yc0, yc1⟩⟩ := hpy
          have wa : IntKind.i64.wrap (x.a + y.a) = x.a + y.a := IntWalk.i64_in _ (by omega)
          have wb : IntKind.i64.wrap (x.b + y.b) = x.b + y.b := IntWalk.i64_in _ (by omega)
          have wcc : IntKind.i64.wrap (x.c + y.c) = x.c + y.c := IntWalk.i64_in _ (by omega)
          go_wp2_with fail
          obtain ⟨W, hW⟩ : ∃ W, W = (wr.alloc (Obj.cells #[.int .i64 y.a, .int .i64 y.b, .int .i64 y.c, .int .i64 y.t] 32)).alloc (Obj.cells #[.int .i64 0, .int .i64 0, .int .i64 0, .int .i64 (x.t * y.t % p)] 32) := ⟨_, rfl⟩
          have H := Lib.hid (show ZSt n wr.heap.size x y ⟨0, 0, 0, x.t * y.t % p⟩ wr W by
            have hbW : Below wr.heap.size wr W := by rw [hW]; exact Below.alloc (Below.alloc (Below.refl _ _) (Nat.le_refl _) _) (by simp) _
            refine ⟨HT.out.below hbW hnw, ?_, ?_, fun i => ?_, hnw, by rw [hW]; simp, rfl, hbW⟩
            · rw [hW]; refine ⟨?_, ?_, ?_, ?_⟩ <;> simp [go_sem]
            · rw [hW]; refine ⟨?_, ?_, ?_, ?_⟩ <;> simp [go_sem]
            · rw [hW]; exact World.frozen?_alloc_at (w := wr.alloc _) _ _ _ i (by simp))
          rw [← hW]
          obtain ⟨m, hme⟩ : ∃ m, m = wr.heap.size := ⟨_, rfl⟩
          rw [← hme] at H ⊢
          clear hW hme t0 t1 t2 t3 b0 b1 b2 b3
          refine wp_loop_rounds 4 ?_
          obtain ⟨⟨t0, t1, t2, t3⟩, ⟨u0, u1, u2, u3⟩, ⟨z0, z1, z2, z3⟩, fz, -, sz, -, -⟩ := H.out
          have fz0 := fz 0
          simp only [Nat.zero_add] at t0 t1 t2 t3 u0 u1 u2 u3 z0 z1 z2 z3
          clear hltp hk0 hjtp hj0 hely p2 p13 hq0 hq1 hw xa0 xa1 xb0 xb1 xc0 xc1 ya0 ya1 yb0 yb1 yc0 yc1 hl1 hm1 hex
          rw [rounds_succ]
          go_wp2_with fail
          refine wp_name (fun Q0 hQ0 => ?_)
          have HQ0 := Lib.hid hQ0
          clear hQ0
          refine wp_region_quiet_last (C := fun w' => ∃ n, w' = W.drewN n) (by kernel_rfl) (by kernel_rfl) ⟨1, rfl⟩ ?_
          repeat (refine wpQL_step (fun K hK => ?_); go_simp; refine hK _ ?_; clear hK K)
          refine wpQL_one ?_
          rintro _ ⟨n0, rfl⟩
          go_wp2_with fail
          rw [HQ0.out]
          go_wp2_with fail
          have H := Lib.hid ((H.out.below (below_drewN (Below.refl _ _) n0)).s0 (x.a + y.a))
          clear t0 t1 t2 t3 u0 u1 u2 u3 z0 z1 z2 z3 fz fz0 sz
          generalize ((W.drewN n0).setCell ⟨m + 1, 0, none⟩ (.int .i64 (x.a + y.a))) = W1 at H ⊢
          obtain ⟨⟨t0, t1, t2, t3⟩, ⟨u0, u1, u2, u3⟩, ⟨z0, z1, z2, z3⟩, fz, -, sz, -, -⟩ := H.out
          have fz1 := fz 1
          simp only [Nat.zero_add] at t0 t1 t2 t3 u0 u1 u2 u3 z0 z1 z2 z3
          rw [rounds_succ]
          go_wp2_with fail
          refine wp_name (fun Q1 hQ1 => ?_)
          have HQ1 := Lib.hid hQ1
          clear hQ1
          refine wp_region_quiet_last (C := fun w' => ∃ n, w' = W1.drewN n) (by kernel_rfl) (by kernel_rfl) ⟨1, rfl⟩ ?_
          repeat (refine wpQL_step (fun K hK => ?_); go_simp; refine hK _ ?_; clear hK K)
          refine wpQL_one ?_
          rintro _ ⟨n1, rfl⟩
          go_wp2_with fail
          rw [HQ1.out]
          go_wp2_with fail
          have H := Lib.hid ((H.out.below (below_drewN (Below.refl _ _) n1)).s1 (x.b + y.b))
          clear t0 t1 t2 t3 u0 u1 u2 u3 z0 z1 z2 z3 fz fz1 sz
          generalize ((W1.drewN n1).setCell ⟨m + 1, 1, none⟩ (.int .i64 (x.b + y.b))) = W2 at H ⊢
          obtain ⟨⟨t0, t1, t2, t3⟩, ⟨u0, u1, u2, u3⟩, ⟨z0, z1, z2, z3⟩, fz, -, sz, -, -⟩ := H.out
          have fz2 := fz 2
          simp only [Nat.zero_add] at t0 t1 t2 t3 u0 u1 u2 u3 z0 z1 z2 z3
          rw [rounds_succ]
          go_wp2_with fail
          refine wp_name (fun Q2 hQ2 => ?_)
          have HQ2 := Lib.hid hQ2
          clear hQ2
          refine wp_region_quiet_last (C := fun w' => ∃ n, w' = W2.drewN n) (by kernel_rfl) (by kernel_rfl) ⟨1, rfl⟩ ?_
          repeat (refine wpQL_step (fun K hK => ?_); go_simp; refine hK _ ?_; clear hK K)
          refine wpQL_one ?_
          rintro _ ⟨n2, rfl⟩
          go_wp2_with fail
          rw [HQ2.out]
          go_wp2_with fail
          have H := Lib.hid ((H.out.below (below_drewN (Below.refl _ _) n2)).s2 (x.c + y.c))
          clear t0 t1 t2 t3 u0 u1 u2 u3 z0 z1 z2 z3 fz fz2 sz
          generalize ((W2.drewN n2).setCell ⟨m + 1, 2, none⟩ (.int .i64 (x.c + y.c))) = W3 at H ⊢
          obtain ⟨⟨t0, t1, t2, t3⟩, ⟨u0, u1, u2, u3⟩, ⟨z0, z1, z2, z3⟩, fz, -, sz, -, -⟩ := H.out
          have fz3 := fz 3
          simp only [Nat.zero_add] at t0 t1 t2 t3 u0 u1 u2 u3 z0 z1 z2 z3
          rw [rounds_succ]
          go_wp2_with fail
          have hlow := H.out.low
          have hnW : n < _ := Nat.lt_of_lt_of_le hnw hlow.size
          have hf := prodK_facts HP.out (Nat.le_of_lt hlt) hj (validB_len HVL.out) (validB_len HVM.out)
          have H3 := Lib.hid (Hb.out.trans (hlow.mono Hb.out.size))
          have hpb := isP_bd HP.out
          refine (sAdd W0.heap.size S p (prodK p L M k j) (mulTT p x y) v _ (HS.out.below hlow) (HR.out.below hlow) (by omega) hf.1 HV2.out HP.out hf.2.1 ⟨Int.emod_nonneg _ (by omega), Int.emod_lt_of_pos _ (by omega)⟩ H3.out.size).mono ?_
          rintro e w4 hP4
          have hlw := hP4.low (HR.out.below hlow) hSB H3.out.size
          obtain ⟨rfl, v', hS', hR', hv', hK, hor⟩ := hP4
          rw [HXK.out] at hR'
          have hvn' : v'.ownBlock ≠ some n := by
            rcases hor with e | ⟨g, e, hg⟩
            · rw [e]; exact HV3.out
            · rw [e]; intro h; injection h with h; omega
          have hT' : TAt w4 n 0 x := by
            obtain ⟨q0, q1, q2, q3⟩ := H.out.tx
            have hc : ∀ i, w4.cell? ⟨n, i, none⟩ = W3.cell? ⟨n, i, none⟩ := fun i => hK.cell (p := ⟨n, i, none⟩) hnW (fun h => h.elim (fun h => absurd h (show n ≠ S by omega)) (fun h => HV3.out h))
            exact ⟨by rw [hc]; exact q0, by rw [hc]; exact q1, by rw [hc]; exact q2, by rw [hc]; exact q3⟩
          have hn4 : n < w4.heap.size := Nat.lt_of_lt_of_le hnW hlw.size
          have HQ := Lib.hid (And.intro hS' (And.intro hR' (And.intro hv' (And.intro hvn' (And.intro hT' (And.intro hn4 (H3.out.trans hlw)))))))
          clear hS' hR' hv' hvn' hT' hn4 hlw hK hor hf hlow hnW hpb t0 t1 t2 t3 u0 u1 u2 u3 z0 z1 z2 z3 fz fz3 sz
          have hm1 := validB_len HVM.out
          go_wp2_with fail
          go_roundw
          case rel => exact ⟨j + 1, v', by omega, by go_num, HQ.out⟩
          case measure => simp [intOf]; omega
        · have hjl : j = M.length := by omega
          subst hjl
          rw [prodK_row hlt] at hR
          have HQ := Lib.hid (And.intro hS (And.intro hR (And.intro hv hb)))
          clear hS hR hv hvn hT hb
          go_wp2_with fail
          go_roundw
          case rel => exact ⟨k + 1, v, by omega, by go_num, HQ.out⟩
          case measure => simp [intOf]; omega
    · have hkl : k = L.length := by omega
      subst hkl
      rw [prodK_end, ← HRE.out] at hR
      obtain ⟨q0, q1, q2⟩ := HS0.out
      have r0 : wr.cell? ⟨w.heap.size, 0, none⟩ = some (.slice none 0 0) := by rw [hb.cell (p := ⟨w.heap.size, 0, none⟩) q2]; exact q0
      have r1 : wr.frozen? ⟨w.heap.size, 0, none⟩ = false := by rw [hb.frozen (p := ⟨w.heap.size, 0, none⟩) q2]; exact q1
      obtain ⟨s0, sf, _⟩ := hS
      obtain ⟨a3, c3, rfl⟩ : ∃ a c, v = .slice a R.length c := by
        rcases hR.shape with ⟨rfl, h⟩ | ⟨g, c, rfl, _⟩
        · exact ⟨none, 0, by rw [h]; rfl⟩
        · exact ⟨_, c, rfl⟩
      have HQ := Lib.hid (show Row (wr.setCell ⟨w.heap.size, 0, none⟩ (.slice a3 R.length c3)) w.heap.size (.slice a3 R.length c3) R ∧ Below w.heap.size w (wr.setCell ⟨w.heap.size, 0, none⟩ (.slice a3 R.length c3)) from
        ⟨row_base (World.ownsRow.kept (row := some w.heap.size) hR ⟨rfl, rfl, rfl, by simp, fun k hk hne => Below.heap_setCell _ _ _ _ (fun e => hne (by rw [e]))⟩ (.inr (fun e => by have := (World.ownsRow.lt hR _ e).1; omega))) HB0.out.size,
         Below.setCell (HB0.out.trans (hb.mono HB0.out.size)) (Nat.le_refl _) _⟩)
      clear hR hb hv
      have hq := World.cell?_setCell_same wr ⟨w.heap.size, 0, none⟩ (.slice a3 R.length c3) r0
      go_wp2_with fail
      refine bodyPost_ret (v := .agg #[.slice a3 R.length c3]) (by simp [results, Try.results113, go_sem, hq]) rfl ⟨_, rfl, HQ.out⟩
end Go.Proofs.Ytegkcfinklcglaa
namespace Go.Proofs.Ytegkcfinklcglaa
open Go.RowKit
set_option maxRecDepth 100000 in
set_option maxHeartbeats 4000000 in
theorem sMulPoly_no (p : Int) (fv gv : Value) (L M : List Trm) (w : World) (hL : Trms w fv L) (hM : Trms w gv M) (hr : (okB p (fv, L) && okB p (gv, M)) = false) :
    Calls Try.prog 33 #[.int .i64 p, fv, gv] w (GivesPB [] false w) := by
  have HB := Lib.hid (bothAt p fv gv L M w hL hM false hr)
  clear hr
  obtain ⟨_, a, cap, rfl, _⟩ := hL
  obtain ⟨_, a2, cap2, rfl, _⟩ := hM
  go_enter Try.func33, Try.ntmps33
  go_wp2_with (go_at_call 105; refine HB.out.mono ?_; rintro e w2 ⟨rfl, hb2⟩)
  refine bodyPost_ret (v := .tuple #[.slice (some ⟨w2.heap.size, 0, none⟩) 0 0, .bool false]) (by simp [results, Try.results33, go_sem]) rfl ⟨_, rfl, (Row.lit0 w2 w.heap.size hb2.size).own (by simp), Below.alloc hb2 hb2.size _⟩
set_option maxRecDepth 100000 in
set_option maxHeartbeats 4000000 in
theorem sMulPoly_yes (p : Int) (fv gv : Value) (L M : List Trm) (w : World) (hL : Trms w fv L) (hM : Trms w gv M) (hp : isP p = true) (hVL : validB p L = true) (hVM : validB p M = true) :
    Calls Try.prog 33 #[.int .i64 p, fv, gv] w (GivesPB (if validB p (addAll p (prodT p L M) []) = true then addAll p (prodT p L M) [] else []) (validB p (addAll p (prodT p L M) [])) w) := by
  have HB := Lib.hid (bothAt p fv gv L M w hL hM true (by unfold okB; dsimp only; rw [hp, hVL, hVM]; rfl))
  obtain ⟨m0, a2, cap2, rfl, m1⟩ := hM
  obtain ⟨l0, a, cap, rfl, l1⟩ := hL
  have HS := Lib.hid (fun (w' : World) (hb : Below w.heap.size w w') => sProduct p a a2 cap cap2 L M w' hp (Trms.below ⟨l0, a, cap, rfl, l1⟩ hb) (Trms.below ⟨m0, a2, cap2, rfl, m1⟩ hb) hVL hVM)
  have HT := Lib.hid (fun (B : Nat) (v : Value) (w' : World) (hR : Row w' B v (addAll p (prodT p L M) [])) => sTold B p hp (addAll p (prodT p L M) []) v w' hR (by
    have h := (prodK_facts hp (k := L.length) (j := 0) (Nat.le_refl _) (Nat.zero_le _) (validB_len hVL) (validB_len hVM)).2.2
    rw [prodK_end] at h
    omega))
  clear m1 l1
  obtain ⟨R, hR⟩ : ∃ R, R = addAll p (prodT p L M) [] := ⟨_, rfl⟩
  rw [← hR] at HS HT ⊢
  obtain ⟨b, hb⟩ : ∃ b, b = validB p R := ⟨_, rfl⟩
  rw [← hb] at HT ⊢
  obtain ⟨R2, hR2⟩ : ∃ R2, R2 = (if b = true then R else []) := ⟨_, rfl⟩
  rw [← hR2] at HT ⊢
  clear hR hb hR2 hp hVL hVM
  go_enter Try.func33, Try.ntmps33
  go_wp2_with first
    | (go_at_call 105; refine HB.out.mono ?_; rintro e w2 ⟨rfl, hb2⟩)
    | (go_at_call 113; refine (HS.out _ hb2).mono ?_; rintro e w3 ⟨v3, rfl, hR3, hb3⟩)
    | (go_at_call 100; refine (HT.out _ _ _ hR3).mono ?_; rintro e w4 ⟨v4, rfl, ho4, hb4⟩)
  have h3 := hb2.trans (hb3.mono hb2.size)
  refine bodyPost_ret (v := .tuple #[v4, .bool b]) (by simp [results, Try.results33, go_sem]) rfl ⟨_, rfl, ownTrms_mono ho4 h3.size, h3.trans (hb4.mono h3.size)⟩
def mulOk (p : Int) (L M : List Trm) : Bool := ((isP p && validB p L) && (isP p && validB p M)) && validB p (addAll p (prodT p L M) [])
def mulL (p : Int) (L M : List Trm) : List Trm := if mulOk p L M = true then addAll p (prodT p L M) [] else []
theorem mulOk_no {p : Int} {L M : List Trm} (h : ((isP p && validB p L) && (isP p && validB p M)) = false) : mulOk p L M = false ∧ mulL p L M = [] := by
  have e : mulOk p L M = false := by unfold mulOk; rw [h]; rfl
  exact ⟨e, by unfold mulL; rw [e]; rfl⟩
theorem mulOk_yes {p : Int} {L M : List Trm} (h : ((isP p && validB p L) && (isP p && validB p M)) = true) : mulOk p L M = validB p (addAll p (prodT p L M) []) ∧ mulL p L M = (if validB p (addAll p (prodT p L M) []) = true then addAll p (prodT p L M) [] else []) := by
  have e : mulOk p L M = validB p (addAll p (prodT p L M) []) := by unfold mulOk; rw [h, Bool.true_and]
  exact ⟨e, by unfold mulL; rw [e]⟩
theorem sMulPoly (p : Int) (f g : Value) (L M : List Trm) (w : World) (hL : Trms w f L) (hM : Trms w g M) :
    Calls Try.prog 33 #[.int .i64 p, f, g] w (GivesPB (mulL p L M) (mulOk p L M) w) := by
  cases h : ((isP p && validB p L) && (isP p && validB p M))
  · rw [(mulOk_no h).1, (mulOk_no h).2]
    exact sMulPoly_no p f g L M w hL hM h
  · rw [(mulOk_yes h).1, (mulOk_yes h).2]
    simp only [Bool.and_eq_true] at h
    exact sMulPoly_yes p f g L M w hL hM h.1.1 h.1.2 h.2.2
theorem iMulPoly (p : Int) (f g : Value) (L M : List Trm) (w : World) (hL : Trms w f L) (hM : Trms w g M) :
    Calls Try.prog 32 #[.int .i64 p, f, g] w (GivesPB (mulL p L M) (mulOk p L M) w) := by
  cases h : ((isP p && validB p L) && (isP p && validB p M))
  · rw [(mulOk_no h).1, (mulOk_no h).2]
    exact iMulPoly_no p f g L M w hL hM h
  · rw [(mulOk_yes h).1, (mulOk_yes h).2]
    simp only [Bool.and_eq_true] at h
    exact iMulPoly_yes p f g L M w hL hM h.1.1 h.1.2 h.2.2
/-- the power of an unknown in a term -/
def pwr (v : Int) (x : Trm) : Int := if v = 0 then x.a else if v = 1 then x.b else x.c
def setp (v m : Int) (x : Trm) : Trm := if v = 0 then ⟨m, x.b, x.c, x.t⟩ else if v = 1 then ⟨x.a, m, x.c, x.t⟩ else ⟨x.a, x.b, m, x.t⟩
def vB (v : Int) : Bool := decide (0 ≤ v) && decide (v ≤ 2)
theorem vB_cases {v : Int} (h : vB v = true) : v = 0 ∨ v = 1 ∨ v = 2 := by simp [vB] at h; omega
theorem iUnk2 (v : Int) (w : World) : Calls Try.prog 115 #[.int .i64 v] w fun e w' => e = .returned (.bool (vB v)) ∧ w = w' := by
  unfold vB
  by_cases h0 : 0 ≤ v
  · have hb : decide (v < 3) = decide (v ≤ 2) := by by_cases h : v < 3 <;> simp <;> omega
    rw [decide_eq_true h0, Bool.true_and, ← hb]
    clear hb
    go_enter Try.func115, Try.ntmps115
    go_wp2_with fail
    go_ret
    exact ⟨rfl, rfl⟩
  · rw [decide_eq_false h0, Bool.false_and]
    go_enter Try.func115, Try.ntmps115
    go_wp2_with fail
    go_ret
    exact ⟨rfl, rfl⟩
/-- a polynomial times another one, some times -/
def partK (p : Int) (M P0 : List Trm) : Nat → Option (List Trm)
  | 0 => some P0
  | k + 1 => match partK p M P0 k with
    | none => none
    | some P => if mulOk p P M = true then some (mulL p P M) else none
/-- the sum of what the first terms become -/
def sumK (p v : Int) (L M : List Trm) : Nat → Option (List Trm)
  | 0 => some []
  | k + 1 => match sumK p v L M k with
    | none => none
    | some s => match partK p M [setp v 0 (L.getD k default)] (pwr v (L.getD k default)).toNat with
      | none => none
      | some q => if addOk p s q = true then some (sumV p s q) else none
theorem partK_none {p : Int} {M P0 : List Trm} {k : Nat} (h : partK p M P0 k = none) : ∀ d, partK p M P0 (k + d) = none
  | 0 => h
  | d + 1 => by show (match partK p M P0 (k + d) with | none => none | some P => _) = none; rw [partK_none h d]
theorem sumK_none {p v : Int} {L M : List Trm} {k : Nat} (h : sumK p v L M k = none) : ∀ d, sumK p v L M (k + d) = none
  | 0 => h
  | d + 1 => by show (match sumK p v L M (k + d) with | none => none | some P => _) = none; rw [sumK_none h d]
theorem partK_step {p : Int} {M P0 P : List Trm} {k : Nat} (h : partK p M P0 k = some P) : partK p M P0 (k + 1) = if mulOk p P M = true then some (mulL p P M) else none := by
  show (match partK p M P0 k with | none => none | some P => _) = _
  rw [h]
theorem sumK_step {p v : Int} {L M s q : List Trm} {k : Nat} (h : sumK p v L M k = some s) (h2 : partK p M [setp v 0 (L.getD k default)] (pwr v (L.getD k default)).toNat = some q) : sumK p v L M (k + 1) = if addOk p s q = true then some (sumV p s q) else none := by
  show (match sumK p v L M k with | none => none | some s => _) = _
  rw [h]
  simp only [h2]
theorem sumK_stop {p v : Int} {L M s : List Trm} {k : Nat} (h : sumK p v L M k = some s) (h2 : partK p M [setp v 0 (L.getD k default)] (pwr v (L.getD k default)).toNat = none) : sumK p v L M (k + 1) = none := by
  show (match sumK p v L M k with | none => none | some s => _) = _
  rw [h]
  simp only [h2]
def putC (p : Int) (L : List Trm) (v : Int) (M : List Trm) : Bool := (okB p (default, L) && okB p (default, M)) && vB v
def putOk (p : Int) (L : List Trm) (v : Int) (M : List Trm) : Bool := putC p L v M && (sumK p v L M L.length).isSome
def putV (p : Int) (L : List Trm) (v : Int) (M : List Trm) : List Trm := if putC p L v M = true then (sumK p v L M L.length).getD [] else []
theorem putC_no {p v : Int} {L M : List Trm} (h : putC p L v M = false) : putOk p L v M = false ∧ putV p L v M = [] := by
  exact ⟨by unfold putOk; rw [h]; rfl, by unfold putV; rw [h]; rfl⟩
theorem putC_yes {p v : Int} {L M : List Trm} (h : putC p L v M = true) : putOk p L v M = (sumK p v L M L.length).isSome ∧ putV p L v M = (sumK p v L M L.length).getD [] := by
  exact ⟨by unfold putOk; rw [h, Bool.true_and], by unfold putV; rw [h]; rfl⟩
theorem one_trms {w : World} {n : Nat} {x : Trm} (h : TAt w n 0 x) (hs : n < w.heap.size) : Trms w (.slice (some ⟨n, 0, none⟩) 1 1) [x] := by
  refine ⟨by simp, _, _, rfl, .inr ⟨n, 0, rfl, hs, fun j hj => ?_⟩⟩
  have : j = 0 := by simpa using hj
  subst this
  simpa using h
set_option maxRecDepth 100000 in
set_option maxHeartbeats 8000000 in
theorem sPut_yes0 (p : Int) (a : Option Addr) (cap : Nat) (gv : Value) (L M : List Trm) (w : World) (hp : isP p = true) (hV : validB p L = true) (hVM : validB p M = true) (hL : Trms w (.slice a L.length cap) L) (hM : Trms w gv M) (R : List Trm) (b : Bool) (hR : R = (sumK p 0 L M L.length).getD []) (hb : b = (sumK p 0 L M L.length).isSome) :
    Calls Try.prog 46 #[.int .i64 p, .slice a L.length cap, .int .i64 0, gv] w (GivesPB R b w) := by
  have HB := Lib.hid (bothAt p (.slice a L.length cap) gv L M w hL hM true (by unfold okB; dsimp only; rw [hp, hV, hVM]; rfl))
  have HV := Lib.hid hV
  have HL := Lib.hid hL
  have HM := Lib.hid hM
  have HRE := Lib.hid hR
  have HBE := Lib.hid hb
  have hl := validB_len hV
  have HIN := Lib.hid (sIn 0 0 2)
  rw [show (decide ((0 : Int) ≤ 0) && decide ((0 : Int) ≤ 2)) = true by decide] at HIN
  obtain ⟨_, a2, cap2, rfl, _⟩ := hM
  clear hp hV hVM hL hR hb
  go_enter Try.func46, Try.ntmps46
  go_wp2_with fail
  refine HB.out.mono ?_
  rintro e w2 ⟨rfl, hb2⟩
  have HB2 := Lib.hid hb2
  clear hb2 HB
  go_wp2_with fail
  refine (HIN.out _).mono ?_
  rintro e w3 ⟨rfl, rfl⟩
  go_wp2_with fail
  obtain ⟨W, hW⟩ : ∃ W, W = w2.alloc (Obj.cells #[] 32) := ⟨_, rfl⟩
  have HW := Lib.hid (show OwnTrms W w.heap.size (.slice (some ⟨w2.heap.size, 0, none⟩) 0 0) [] ∧ Below w.heap.size w W by
    rw [hW]
    exact ⟨(Row.lit0 w2 w.heap.size HB2.out.size).own (by simp), Below.alloc HB2.out HB2.out.size _⟩)
  rw [← hW]
  generalize (Value.slice (some ⟨w2.heap.size, 0, none⟩) 0 0) = vo0 at HW ⊢
  clear hW
  go_loopw [10, 34] (fun u i wr => ∃ (vo : Value) (k : Nat) (s : List Trm), vo = u ∧ k ≤ L.length ∧ i = .int .i64 k ∧ sumK p 0 L M k = some s ∧ OwnTrms wr w.heap.size vo s ∧ Below w.heap.size w wr) (fun _ i _ => L.length - (intOf i).toNat)
  case atStart => exact ⟨_, 0, [], rfl, by omega, rfl, rfl, HW.out⟩
  case round =>
    clear HW
    obtain ⟨vo, k, s, rfl, hk, rfl, hsk, hO, hb⟩ := hrel
    by_cases hlt : k < L.length
    · have hltp : (k : Int) < (L.length : Int) := by omega
      have hk0 : (0 : Int) ≤ (k : Int) := by omega
      obtain ⟨x, hx⟩ : ∃ x, x = L.getD k default := ⟨_, rfl⟩
      obtain ⟨ha, hbb, hcc⟩ := validB_pows HV.out hlt hx
      have hxn : (x.a.toNat : Int) = x.a := by omega
      obtain ⟨c, hcn⟩ : ∃ c, c = x.a.toNat := ⟨_, rfl⟩
      have hc9 : c ≤ 9 := by omega
      rw [← hcn] at hxn
      obtain ⟨g, off, rfl, hg, hc⟩ : ∃ g off, a = some ⟨g, off, none⟩ ∧ g < w.heap.size ∧ ∀ j : Nat, j < L.length → TAt w g (off + j * 4) (L.getD j default) := by
        obtain ⟨_, a', cap', he, h⟩ := HL.out
        injection he with e1 e2 e3
        subst e1
        rcases h with h | h
        · rw [h] at hlt; simp at hlt
        · exact h
      obtain ⟨b0, b1, b2, b3⟩ := (hc k hlt).below hb hg
      rw [← hx] at b0 b1 b2 b3
      have HX := Lib.hid (show setp 0 0 (L.getD k default) = ⟨0, x.b, x.c, x.t⟩ ∧ (pwr 0 (L.getD k default)).toNat = c by rw [← hx, hcn]; exact ⟨rfl, rfl⟩)
      obtain ⟨W1, hW1⟩ : ∃ W1, W1 = (wr.alloc (Obj.cells #[.int .i64 0, .int .i64 x.b, .int .i64 x.c, .int .i64 x.t] 32)).alloc (Obj.cells #[.int .i64 0, .int .i64 x.b, .int .i64 x.c, .int .i64 x.t] 32) := ⟨_, rfl⟩
      have h01 : Below wr.heap.size wr W1 := by rw [hW1]; exact Below.alloc (Below.alloc (Below.refl _ _) (Nat.le_refl _) _) (by simp) _
      have H1 := Lib.hid (show Trms W1 (.slice (some ⟨wr.heap.size + 1, 0, none⟩) 1 1) [⟨0, x.b, x.c, x.t⟩] ∧ OwnTrms W1 w.heap.size vo s ∧ Below w.heap.size w W1 from
        ⟨one_trms (by rw [hW1]; refine ⟨?_, ?_, ?_, ?_⟩ <;> simp [go_sem]) (by rw [hW1]; simp), hO.below h01, hb.trans (h01.mono hb.size)⟩)
      have HW1 := Lib.hid hW1
      have HSK := Lib.hid hsk
      clear hx hsk hO hb hc hcn h01 hW1 ha hbb hcc
      go_wp2_with fail
      rw [← HW1.out]
      clear HW1 b0 b1 b2 b3
      generalize (Value.slice (some ⟨wr.heap.size + 1, 0, none⟩) 1 1) = vp0 at H1 ⊢
      rw [← hxn]
      clear hxn
      go_loopw [14, 48] (fun u i wr => ∃ (vp : Value) (m : Nat) (q : List Trm), vp = u ∧ m ≤ c ∧ i = .int .i64 m ∧ partK p M [⟨0, x.b, x.c, x.t⟩] m = some q ∧ Trms wr vp q ∧ OwnTrms wr w.heap.size vo s ∧ Below w.heap.size w wr) (fun _ i _ => c - (intOf i).toNat)
      case atStart => exact ⟨_, 0, _, rfl, by omega, rfl, rfl, H1.out⟩
      case round =>
        clear H1
        obtain ⟨vp, m, q, rfl, hm, rfl, hpk, hT, hO, hb⟩ := hrel
        by_cases hmt : m < c
        · have hmtp : (m : Int) < (c : Int) := by omega
          have HMUL := Lib.hid (sMulPoly p vp (.slice a2 M.length cap2) q M wr hT (HM.out.below hb))
          have HPS := Lib.hid (partK_step hpk)
          have HO := Lib.hid hO
          have Hb := Lib.hid hb
          obtain ⟨_, ap, cp, rfl, _⟩ := hT
          obtain ⟨r, hr⟩ : ∃ r, r = mulOk p q M := ⟨_, rfl⟩
          rw [← hr] at HMUL HPS
          clear hpk hO hb hr
          go_wp2_with fail
          refine HMUL.out.mono ?_
          rintro e w4 ⟨v4, rfl, hown, hb4⟩
          have H4 := Lib.hid (And.intro hown.trms (And.intro (HO.out.below hb4) (Hb.out.trans (hb4.mono Hb.out.size))))
          clear hown hb4
          cases r
          · have HN := Lib.hid (show sumK p 0 L M L.length = none by
              have e := sumK_stop HSK.out (by rw [HX.out.1, HX.out.2]; have := partK_none HPS.out (c - (m + 1)); rwa [show m + 1 + (c - (m + 1)) = c by omega] at this)
              have := sumK_none e (L.length - (k + 1))
              rwa [show k + 1 + (L.length - (k + 1)) = L.length by omega] at this)
            have hz : b = false := by rw [HBE.out, HN.out]; rfl
            have hz2 : R = [] := by rw [HRE.out, HN.out]; rfl
            subst hz hz2
            go_wp2_with fail
            refine bodyPost_ret (v := .tuple #[.slice (some ⟨w4.heap.size, 0, none⟩) 0 0, .bool false]) (by simp [results, Try.results46, go_sem]) rfl ⟨_, rfl, (Row.lit0 w4 w.heap.size H4.out.2.2.size).own (by simp), Below.alloc H4.out.2.2 H4.out.2.2.size _⟩
          · rw [if_pos rfl] at HPS
            go_wp2_with fail
            go_roundw
            case rel => exact ⟨_, m + 1, _, rfl, by omega, by go_num, HPS.out, H4.out⟩
            case measure => simp [intOf]; omega
        · have hml : m = c := by omega
          subst hml
          have HADD := Lib.hid (sAddPoly p vo vp s q wr hO.trms hT)
          have HSS := Lib.hid (sumK_step HSK.out (by rw [HX.out.1, HX.out.2]; exact hpk))
          have Hb := Lib.hid hb
          obtain ⟨_, ap, cp, rfl, _⟩ := hT
          obtain ⟨_, ao, co, rfl, _⟩ := hO.trms
          obtain ⟨r, hr⟩ : ∃ r, r = addOk p s q := ⟨_, rfl⟩
          rw [← hr] at HADD HSS
          clear hpk hO hb hr
          go_wp2_with fail
          refine HADD.out.mono ?_
          rintro e w4 ⟨v4, rfl, hown, hb4⟩
          have H4 := Lib.hid (And.intro (ownTrms_mono hown Hb.out.size) (Hb.out.trans (hb4.mono Hb.out.size)))
          clear hown hb4
          cases r
          · have HN := Lib.hid (show sumK p 0 L M L.length = none by
              have := sumK_none HSS.out (L.length - (k + 1))
              rwa [show k + 1 + (L.length - (k + 1)) = L.length by omega] at this)
            have hz : b = false := by rw [HBE.out, HN.out]; rfl
            have hz2 : R = [] := by rw [HRE.out, HN.out]; rfl
            subst hz hz2
            go_wp2_with fail
            refine bodyPost_ret (v := .tuple #[.slice (some ⟨w4.heap.size, 0, none⟩) 0 0, .bool false]) (by simp [results, Try.results46, go_sem]) rfl ⟨_, rfl, (Row.lit0 w4 w.heap.size H4.out.2.size).own (by simp), Below.alloc H4.out.2 H4.out.2.size _⟩
          · rw [if_pos rfl] at HSS
            go_wp2_with fail
            go_roundw
            case rel => exact ⟨_, k + 1, _, rfl, by omega, by go_num, HSS.out, H4.out⟩
            case measure => simp [intOf]; omega
    · have hkl : k = L.length := by omega
      subst hkl
      have hz : b = true := by rw [HBE.out, hsk]; rfl
      have hz2 : R = s := by rw [HRE.out, hsk]; rfl
      subst hz hz2
      have HQ := Lib.hid (And.intro hO hb)
      clear hO hb hsk
      go_wp2_with fail
      refine bodyPost_ret (v := .tuple #[vo, .bool true]) (by simp [results, Try.results46, go_sem]) rfl ⟨_, rfl, HQ.out⟩
set_option maxRecDepth 100000 in
set_option maxHeartbeats 8000000 in
theorem sPut_yes1 (p : Int) (a : Option Addr) (cap : Nat) (gv : Value) (L M : List Trm) (w : World) (hp : isP p = true) (hV : validB p L = true) (hVM : validB p M = true) (hL : Trms w (.slice a L.length cap) L) (hM : Trms w gv M) (R : List Trm) (b : Bool) (hR : R = (sumK p 1 L M L.length).getD []) (hb : b = (sumK p 1 L M L.length).isSome) :
    Calls Try.prog 46 #[.int .i64 p, .slice a L.length cap, .int .i64 1, gv] w (GivesPB R b w) := by
  have HB := Lib.hid (bothAt p (.slice a L.length cap) gv L M w hL hM true (by unfold okB; dsimp only; rw [hp, hV, hVM]; rfl))
  have HV := Lib.hid hV
  have HL := Lib.hid hL
  have HM := Lib.hid hM
  have HRE := Lib.hid hR
  have HBE := Lib.hid hb
  have hl := validB_len hV
  have HIN := Lib.hid (sIn 1 0 2)
  rw [show (decide ((0 : Int) ≤ 1) && decide ((1 : Int) ≤ 2)) = true by decide] at HIN
  obtain ⟨_, a2, cap2, rfl, _⟩ := hM
  clear hp hV hVM hL hR hb
  go_enter Try.func46, Try.ntmps46
  go_wp2_with fail
  refine HB.out.mono ?_
  rintro e w2 ⟨rfl, hb2⟩
  have HB2 := Lib.hid hb2
  clear hb2 HB
  go_wp2_with fail
  refine (HIN.out _).mono ?_
  rintro e w3 ⟨rfl, rfl⟩
  go_wp2_with fail
  obtain ⟨W, hW⟩ : ∃ W, W = w2.alloc (Obj.cells #[] 32) := ⟨_, rfl⟩
  have HW := Lib.hid (show OwnTrms W w.heap.size (.slice (some ⟨w2.heap.size, 0, none⟩) 0 0) [] ∧ Below w.heap.size w W by
    rw [hW]
    exact ⟨(Row.lit0 w2 w.heap.size HB2.out.size).own (by simp), Below.alloc HB2.out HB2.out.size _⟩)
  rw [← hW]
  generalize (Value.slice (some ⟨w2.heap.size, 0, none⟩) 0 0) = vo0 at HW ⊢
  clear hW
  go_loopw [10, 34] (fun u i wr => ∃ (vo : Value) (k : Nat) (s : List Trm), vo = u ∧ k ≤ L.length ∧ i = .int .i64 k ∧ sumK p 1 L M k = some s ∧ OwnTrms wr w.heap.size vo s ∧ Below w.heap.size w wr) (fun _ i _ => L.length - (intOf i).toNat)
  case atStart => exact ⟨_, 0, [], rfl, by omega, rfl, rfl, HW.out⟩
  case round =>
    clear HW
    obtain ⟨vo, k, s, rfl, hk, rfl, hsk, hO, hb⟩ := hrel
    by_cases hlt : k < L.length
    · have hltp : (k : Int) < (L.length : Int) := by omega
      have hk0 : (0 : Int) ≤ (k : Int) := by omega
      obtain ⟨x, hx⟩ : ∃ x, x = L.getD k default := ⟨_, rfl⟩
      obtain ⟨ha, hbb, hcc⟩ := validB_pows HV.out hlt hx
      have hxn : (x.b.toNat : Int) = x.b := by omega
      obtain ⟨c, hcn⟩ : ∃ c, c = x.b.toNat := ⟨_, rfl⟩
      have hc9 : c ≤ 9 := by omega
      rw [← hcn] at hxn
      obtain ⟨g, off, rfl, hg, hc⟩ : ∃ g off, a = some ⟨g, off, none⟩ ∧ g < w.heap.size ∧ ∀ j : Nat, j < L.length → TAt w g (off + j * 4) (L.getD j default) := by
        obtain ⟨_, a', cap', he, h⟩ := HL.out
        injection he with e1 e2 e3
        subst e1
        rcases h with h | h
        · rw [h] at hlt; simp at hlt
        · exact h
      obtain ⟨b0, b1, b2, b3⟩ := (hc k hlt).below hb hg
      rw [← hx] at b0 b1 b2 b3
      have HX := Lib.hid (show setp 1 0 (L.getD k default) = ⟨x.a, 0, x.c, x.t⟩ ∧ (pwr 1 (L.getD k default)).toNat = c by rw [← hx, hcn]; exact ⟨rfl, rfl⟩)
      obtain ⟨W1, hW1⟩ : ∃ W1, W1 = (wr.alloc (Obj.cells #[.int .i64 x.a, .int .i64 0, .int .i64 x.c, .int .i64 x.t] 32)).alloc (Obj.cells #[.int .i64 x.a, .int .i64 0, .int .i64 x.c, .int .i64 x.t] 32) := ⟨_, rfl⟩
      have h01 : Below wr.heap.size wr W1 := by rw [hW1]; exact Below.alloc (Below.alloc (Below.refl _ _) (Nat.le_refl _) _) (by simp) _
      have H1 := Lib.hid (show Trms W1 (.slice (some ⟨wr.heap.size + 1, 0, none⟩) 1 1) [⟨x.a, 0, x.c, x.t⟩] ∧ OwnTrms W1 w.heap.size vo s ∧ Below w.heap.size w W1 from
        ⟨one_trms (by rw [hW1]; refine ⟨?_, ?_, ?_, ?_⟩ <;> simp [go_sem]) (by rw [hW1]; simp), hO.below h01, hb.trans (h01.mono hb.size)⟩)
      have HW1 := Lib.hid hW1
      have HSK := Lib.hid hsk
      clear hx hsk hO hb hc hcn h01 hW1 ha hbb hcc
      go_wp2_with fail
      rw [← HW1.out]
      clear HW1 b0 b1 b2 b3
      generalize (Value.slice (some ⟨wr.heap.size + 1, 0, none⟩) 1 1) = vp0 at H1 ⊢
      rw [← hxn]
      clear hxn
      go_loopw [14, 48] (fun u i wr => ∃ (vp : Value) (m : Nat) (q : List Trm), vp = u ∧ m ≤ c ∧ i = .int .i64 m ∧ partK p M [⟨x.a, 0, x.c, x.t⟩] m = some q ∧ Trms wr vp q ∧ OwnTrms wr w.heap.size vo s ∧ Below w.heap.size w wr) (fun _ i _ => c - (intOf i).toNat)
      case atStart => exact ⟨_, 0, _, rfl, by omega, rfl, rfl, H1.out⟩
      case round =>
        clear H1
        obtain ⟨vp, m, q, rfl, hm, rfl, hpk, hT, hO, hb⟩ := hrel
        by_cases hmt : m < c
        · have hmtp : (m : Int) < (c : Int) := by omega
          have HMUL := Lib.hid (sMulPoly p vp (.slice a2 M.length cap2) q M wr hT (HM.out.below hb))
          have HPS := Lib.hid (partK_step hpk)
          have HO := Lib.hid hO
          have Hb := Lib.hid hb
          obtain ⟨_, ap, cp, rfl, _⟩ := hT
          obtain ⟨r, hr⟩ : ∃ r, r = mulOk p q M := ⟨_, rfl⟩
          rw [← hr] at HMUL HPS
          clear hpk hO hb hr
          go_wp2_with fail
          refine HMUL.out.mono ?_
          rintro e w4 ⟨v4, rfl, hown, hb4⟩
          have H4 := Lib.hid (And.intro hown.trms (And.intro (HO.out.below hb4) (Hb.out.trans (hb4.mono Hb.out.size))))
          clear hown hb4
          cases r
          · have HN := Lib.hid (show sumK p 1 L M L.length = none by
              have e := sumK_stop HSK.out (by rw [HX.out.1, HX.out.2]; have := partK_none HPS.out (c - (m + 1)); rwa [show m + 1 + (c - (m + 1)) = c by omega] at this)
              have := sumK_none e (L.length - (k + 1))
              rwa [show k + 1 + (L.length - (k + 1)) = L.length by omega] at this)
            have hz : b = false := by rw [HBE.out, HN.out]; rfl
            have hz2 : R = [] := by rw [HRE.out, HN.out]; rfl
            subst hz hz2
            go_wp2_with fail
            refine bodyPost_ret (v := .tuple #[.slice (some ⟨w4.heap.size, 0, none⟩) 0 0, .bool false]) (by simp [results, Try.results46, go_sem]) rfl ⟨_, rfl, (Row.lit0 w4 w.heap.size H4.out.2.2.size).own (by simp), Below.alloc H4.out.2.2 H4.out.2.2.size _⟩
          · rw [if_pos rfl] at HPS
            go_wp2_with fail
            go_roundw
            case rel => exact ⟨_, m + 1, _, rfl, by omega, by go_num, HPS.out, H4.out⟩
            case measure => simp [intOf]; omega
        · have hml : m = c := by omega
          subst hml
          have HADD := Lib.hid (sAddPoly p vo vp s q wr hO.trms hT)
          have HSS := Lib.hid (sumK_step HSK.out (by rw [HX.out.1, HX.out.2]; exact hpk))
          have Hb := Lib.hid hb
          obtain ⟨_, ap, cp, rfl, _⟩ := hT
          obtain ⟨_, ao, co, rfl, _⟩ := hO.trms
          obtain ⟨r, hr⟩ : ∃ r, r = addOk p s q := ⟨_, rfl⟩
          rw [← hr] at HADD HSS
          clear hpk hO hb hr
          go_wp2_with fail
          refine HADD.out.mono ?_
          rintro e w4 ⟨v4, rfl, hown, hb4⟩
          have H4 := Lib.hid (And.intro (ownTrms_mono hown Hb.out.size) (Hb.out.trans (hb4.mono Hb.out.size)))
          clear hown hb4
          cases r
          · have HN := Lib.hid (show sumK p 1 L M L.length = none by
              have := sumK_none HSS.out (L.length - (k + 1))
              rwa [show k + 1 + (L.length - (k + 1)) = L.length by omega] at this)
            have hz : b = false := by rw [HBE.out, HN.out]; rfl
            have hz2 : R = [] := by rw [HRE.out, HN.out]; rfl
            subst hz hz2
            go_wp2_with fail
            refine bodyPost_ret (v := .tuple #[.slice (some ⟨w4.heap.size, 0, none⟩) 0 0, .bool false]) (by simp [results, Try.results46, go_sem]) rfl ⟨_, rfl, (Row.lit0 w4 w.heap.size H4.out.2.size).own (by simp), Below.alloc H4.out.2 H4.out.2.size _⟩
          · rw [if_pos rfl] at HSS
            go_wp2_with fail
            go_roundw
            case rel => exact ⟨_, k + 1, _, rfl, by omega, by go_num, HSS.out, H4.out⟩
            case measure => simp [intOf]; omega
    · have hkl : k = L.length := by omega
      subst hkl
      have hz : b = true := by rw [HBE.out, hsk]; rfl
      have hz2 : R = s := by rw [HRE.out, hsk]; rfl
      subst hz hz2
      have HQ := Lib.hid (And.intro hO hb)
      clear hO hb hsk
      go_wp2_with fail
      refine bodyPost_ret (v := .tuple #[vo, .bool true]) (by simp [results, Try.results46, go_sem]) rfl ⟨_, rfl, HQ.out⟩
set_option maxRecDepth 100000 in
set_option maxHeartbeats 8000000 in
theorem sPut_yes2 (p : Int) (a : Option Addr) (cap : Nat) (gv : Value) (L M : List Trm) (w : World) (hp : isP p = true) (hV : validB p L = true) (hVM : validB p M = true) (hL : Trms w (.slice a L.length cap) L) (hM : Trms w gv M) (R : List Trm) (b : Bool) (hR : R = (sumK p 2 L M L.length).getD []) (hb : b = (sumK p 2 L M L.length).isSome) :
    Calls Try.prog 46 #[.int .i64 p, .slice a L.length cap, .int .i64 2, gv] w (GivesPB R b w) := by
  have HB := Lib.hid (bothAt p (.slice a L.length cap) gv L M w hL hM true (by unfold okB; dsimp only; rw [hp, hV, hVM]; rfl))
  have HV := Lib.hid hV
  have HL := Lib.hid hL
  have HM := Lib.hid hM
  have HRE := Lib.hid hR
  have HBE := Lib.hid hb
  have hl := validB_len hV
  have HIN := Lib.hid (sIn 2 0 2)
  rw [show (decide ((0 : Int) ≤ 2) && decide ((2 : Int) ≤ 2)) = true by decide] at HIN
  obtain ⟨_, a2, cap2, rfl, _⟩ := hM
  clear hp hV hVM hL hR hb
  go_enter Try.func46, Try.ntmps46
  go_wp2_with fail
  refine HB.out.mono ?_
  rintro e w2 ⟨rfl, hb2⟩
  have HB2 := Lib.hid hb2
  clear hb2 HB
  go_wp2_with fail
  refine (HIN.out _).mono ?_
  rintro e w3 ⟨rfl, rfl⟩
  go_wp2_with fail
  obtain ⟨W, hW⟩ : ∃ W, W = w2.alloc (Obj.cells #[] 32) := ⟨_, rfl⟩
  have HW := Lib.hid (show OwnTrms W w.heap.size (.slice (some ⟨w2.heap.size, 0, none⟩) 0 0) [] ∧ Below w.heap.size w W by
    rw [hW]
    exact ⟨(Row.lit0 w2 w.heap.size HB2.out.size).own (by simp), Below.alloc HB2.out HB2.out.size _⟩)
  rw [← hW]
  generalize (Value.slice (some ⟨w2.heap.size, 0, none⟩) 0 0) = vo0 at HW ⊢
  clear hW
  go_loopw [10, 34] (fun u i wr => ∃ (vo : Value) (k : Nat) (s : List Trm), vo = u ∧ k ≤ L.length ∧ i = .int .i64 k ∧ sumK p 2 L M k = some s ∧ OwnTrms wr w.heap.size vo s ∧ Below w.heap.size w wr) (fun _ i _ => L.length - (intOf i).toNat)
  case atStart => exact ⟨_, 0, [], rfl, by omega, rfl, rfl, HW.out⟩
  case round =>
    clear HW
    obtain ⟨vo, k, s, rfl, hk, rfl, hsk, hO, hb⟩ := hrel
    by_cases hlt : k < L.length
    · have hltp : (k : Int) < (L.length : Int) := by omega
      have hk0 : (0 : Int) ≤ (k : Int) := by omega
      obtain ⟨x, hx⟩ : ∃ x, x = L.getD k default := ⟨_, rfl⟩
      obtain ⟨ha, hbb, hcc⟩ := validB_pows HV.out hlt hx
      have hxn : (x.c.toNat : Int) = x.c := by omega
      obtain ⟨c, hcn⟩ : ∃ c, c = x.c.toNat := ⟨_, rfl⟩
      have hc9 : c ≤ 9 := by omega
      rw [← hcn] at hxn
      obtain ⟨g, off, rfl, hg, hc⟩ : ∃ g off, a = some ⟨g, off, none⟩ ∧ g < w.heap.size ∧ ∀ j : Nat, j < L.length → TAt w g (off + j * 4) (L.getD j default) := by
        obtain ⟨_, a', cap', he, h⟩ := HL.out
        injection he with e1 e2 e3
        subst e1
        rcases h with h | h
        · rw [h] at hlt; simp at hlt
        · exact h
      obtain ⟨b0, b1, b2, b3⟩ := (hc k hlt).below hb hg
      rw [← hx] at b0 b1 b2 b3
      have HX := Lib.hid (show setp 2 0 (L.getD k default) = ⟨x.a, x.b, 0, x.t⟩ ∧ (pwr 2 (L.getD k default)).toNat = c by rw [← hx, hcn]; exact ⟨rfl, rfl⟩)
      obtain ⟨W1, hW1⟩ : ∃ W1, W1 = (wr.alloc (Obj.cells #[.int .i64 x.a, .int .i64 x.b, .int .i64 0, .int .i64 x.t] 32)).alloc (Obj.cells #[.int .i64 x.a, .int .i64 x.b, .int .i64 0, .int .i64 x.t] 32) := ⟨_, rfl⟩
      have h01 : Below wr.heap.size wr W1 := by rw [hW1]; exact Below.alloc (Below.alloc (Below.refl _ _) (Nat.le_refl _) _) (by simp) _
      have H1 := Lib.hid (show Trms W1 (.slice (some ⟨wr.heap.size + 1, 0, none⟩) 1 1) [⟨x.a, x.b, 0, x.t⟩] ∧ OwnTrms W1 w.heap.size vo s ∧ Below w.heap.size w W1 from
        ⟨one_trms (by rw [hW1]; refine ⟨?_, ?_, ?_, ?_⟩ <;> simp [go_sem]) (by rw [hW1]; simp), hO.below h01, hb.trans (h01.mono hb.size)⟩)
      have HW1 := Lib.hid hW1
      have HSK := Lib.hid hsk
      clear hx hsk hO hb hc hcn h01 hW1 ha hbb hcc
      go_wp2_with fail
      rw [← HW1.out]
      clear HW1 b0 b1 b2 b3
      generalize (Value.slice (some ⟨wr.heap.size + 1, 0, none⟩) 1 1) = vp0 at H1 ⊢
      rw [← hxn]
      clear hxn
      go_loopw [14, 48] (fun u i wr => ∃ (vp : Value) (m : Nat) (q : List Trm), vp = u ∧ m ≤ c ∧ i = .int .i64 m ∧ partK p M [⟨x.a, x.b, 0, x.t⟩] m = some q ∧ Trms wr vp q ∧ OwnTrms wr w.heap.size vo s ∧ Below w.heap.size w wr) (fun _ i _ => c - (intOf i).toNat)
      case atStart => exact ⟨_, 0, _, rfl, by omega, rfl, rfl, H1.out⟩
      case round =>
        clear H1
        obtain ⟨vp, m, q, rfl, hm, rfl, hpk, hT, hO, hb⟩ := hrel
        by_cases hmt : m < c
        · have hmtp : (m : Int) < (c : Int) := by omega
          have HMUL := Lib.hid (sMulPoly p vp (.slice a2 M.length cap2) q M wr hT (HM.out.below hb))
          have HPS := Lib.hid (partK_step hpk)
          have HO := Lib.hid hO
          have Hb := Lib.hid hb
          obtain ⟨_, ap, cp, rfl, _⟩ := hT
          obtain ⟨r, hr⟩ : ∃ r, r = mulOk p q M := ⟨_, rfl⟩
          rw [← hr] at HMUL HPS
          clear hpk hO hb hr
          go_wp2_with fail
          refine HMUL.out.mono ?_
          rintro e w4 ⟨v4, rfl, hown, hb4⟩
          have H4 := Lib.hid (And.intro hown.trms (And.intro (HO.out.below hb4) (Hb.out.trans (hb4.mono Hb.out.size))))
          clear hown hb4
          cases r
          · have HN := Lib.hid (show sumK p 2 L M L.length = none by
              have e := sumK_stop HSK.out (by rw [HX.out.1, HX.out.2]; have := partK_none HPS.out (c - (m + 1)); rwa [show m + 1 + (c - (m + 1)) = c by omega] at this)
              have := sumK_none e (L.length - (k + 1))
              rwa [show k + 1 + (L.length - (k + 1)) = L.length by omega] at this)
            have hz : b = false := by rw [HBE.out, HN.out]; rfl
            have hz2 : R = [] := by rw [HRE.out, HN.out]; rfl
            subst hz hz2
            go_wp2_with fail
            refine bodyPost_ret (v := .tuple #[.slice (some ⟨w4.heap.size, 0, none⟩) 0 0, .bool false]) (by simp [results, Try.results46, go_sem]) rfl ⟨_, rfl, (Row.lit0 w4 w.heap.size H4.out.2.2.size).own (by simp), Below.alloc H4.out.2.2 H4.out.2.2.size _⟩
          · rw [if_pos rfl] at HPS
            go_wp2_with fail
            go_roundw
            case rel => exact ⟨_, m + 1, _, rfl, by omega, by go_num, HPS.out, H4.out⟩
            case measure => simp [intOf]; omega
        · have hml : m = c := by omega
          subst hml
          have HADD := Lib.hid (sAddPoly p vo vp s q wr hO.trms hT)
          have HSS := Lib.hid (sumK_step HSK.out (by rw [HX.out.1, HX.out.2]; exact hpk))
          have Hb := Lib.hid hb
          obtain ⟨_, ap, cp, rfl, _⟩ := hT
          obtain ⟨_, ao, co, rfl, _⟩ := hO.trms
          obtain ⟨r, hr⟩ : ∃ r, r = addOk p s q := ⟨_, rfl⟩
          rw [← hr] at HADD HSS
          clear hpk hO hb hr
          go_wp2_with fail
          refine HADD.out.mono ?_
          rintro e w4 ⟨v4, rfl, hown, hb4⟩
          have H4 := Lib.hid (And.intro (ownTrms_mono hown Hb.out.size) (Hb.out.trans (hb4.mono Hb.out.size)))
          clear hown hb4
          cases r
          · have HN := Lib.hid (show sumK p 2 L M L.length = none by
              have := sumK_none HSS.out (L.length - (k + 1))
              rwa [show k + 1 + (L.length - (k + 1)) = L.length by omega] at this)
            have hz : b = false := by rw [HBE.out, HN.out]; rfl
            have hz2 : R = [] := by rw [HRE.out, HN.out]; rfl
            subst hz hz2
            go_wp2_with fail
            refine bodyPost_ret (v := .tuple #[.slice (some ⟨w4.heap.size, 0, none⟩) 0 0, .bool false]) (by simp [results, Try.results46, go_sem]) rfl ⟨_, rfl, (Row.lit0 w4 w.heap.size H4.out.2.size).own (by simp), Below.alloc H4.out.2 H4.out.2.size _⟩
          · rw [if_pos rfl] at HSS
            go_wp2_with fail
            go_roundw
            case rel => exact ⟨_, k + 1, _, rfl, by omega, by go_num, HSS.out, H4.out⟩
            case measure => simp [intOf]; omega
    · have hkl : k = L.length := by omega
      subst hkl
      have hz : b = true := by rw [HBE.out, hsk]; rfl
      have hz2 : R = s := by rw [HRE.out, hsk]; rfl
      subst hz hz2
      have HQ := Lib.hid (And.intro hO hb)
      clear hO hb hsk
      go_wp2_with fail
      refine bodyPost_ret (v := .tuple #[vo, .bool true]) (by simp [results, Try.results46, go_sem]) rfl ⟨_, rfl, HQ.out⟩
set_option maxRecDepth 100000 in
set_option maxHeartbeats 4000000 in
theorem sPut_no (p v : Int) (fv gv : Value) (L M : List Trm) (w : World) (hL : Trms w fv L) (hM : Trms w gv M) (hr : putC p L v M = false) :
    Calls Try.prog 46 #[.int .i64 p, fv, .int .i64 v, gv] w (GivesPB [] false w) := by
  have HIN := Lib.hid (sIn v 0 2)
  rw [show (decide (0 ≤ v) && decide (v ≤ 2)) = vB v from rfl] at HIN
  obtain ⟨r, hr1⟩ : ∃ r, (okB p (fv, L) && okB p (gv, M)) = r := ⟨_, rfl⟩
  have HB := Lib.hid (bothAt p fv gv L M w hL hM r hr1)
  rw [show putC p L v M = ((okB p (fv, L) && okB p (gv, M)) && vB v) from rfl, hr1] at hr
  obtain ⟨q, hq⟩ : ∃ q, q = vB v := ⟨_, rfl⟩
  rw [← hq] at HIN hr
  obtain ⟨_, a, cap, rfl, _⟩ := hL
  obtain ⟨_, a2, cap2, rfl, _⟩ := hM
  clear hr1 hq
  cases r
  · clear hr
    go_enter Try.func46, Try.ntmps46
    go_wp2_with fail
    refine HB.out.mono ?_
    rintro e w2 ⟨rfl, hb2⟩
    have HQ := Lib.hid hb2
    clear hb2
    go_wp2_with fail
    refine bodyPost_ret (v := .tuple #[.slice (some ⟨w2.heap.size, 0, none⟩) 0 0, .bool false]) (by simp [results, Try.results46, go_sem]) rfl ⟨_, rfl, (Row.lit0 w2 w.heap.size HQ.out.size).own (by simp), Below.alloc HQ.out HQ.out.size _⟩
  · rw [Bool.true_and] at hr
    subst hr
    go_enter Try.func46, Try.ntmps46
    go_wp2_with fail
    refine HB.out.mono ?_
    rintro e w2 ⟨rfl, hb2⟩
    have HQ := Lib.hid hb2
    clear hb2
    go_wp2_with fail
    refine (HIN.out _).mono ?_
    rintro e w3 ⟨rfl, rfl⟩
    go_wp2_with fail
    refine bodyPost_ret (v := .tuple #[.slice (some ⟨w2.heap.size, 0, none⟩) 0 0, .bool false]) (by simp [results, Try.results46, go_sem]) rfl ⟨_, rfl, (Row.lit0 w2 w.heap.size HQ.out.size).own (by simp), Below.alloc HQ.out HQ.out.size _⟩
set_option maxRecDepth 100000 in
set_option maxHeartbeats 4000000 in
theorem iPut_no (p v : Int) (fv gv : Value) (L M : List Trm) (w : World) (hL : Trms w fv L) (hM : Trms w gv M) (hr : putC p L v M = false) :
    Calls Try.prog 45 #[.int .i64 p, fv, .int .i64 v, gv] w (GivesPB [] false w) := by
  have HIN := Lib.hid (iUnk2 v)
  obtain ⟨r, hr1⟩ : ∃ r, (okB p (fv, L) && okB p (gv, M)) = r := ⟨_, rfl⟩
  have HB := Lib.hid (iBothAt p fv gv L M w hL hM r hr1)
  rw [show putC p L v M = ((okB p (fv, L) && okB p (gv, M)) && vB v) from rfl, hr1] at hr
  obtain ⟨q, hq⟩ : ∃ q, q = vB v := ⟨_, rfl⟩
  rw [← hq] at HIN hr
  obtain ⟨_, a, cap, rfl, _⟩ := hL
  obtain ⟨_, a2, cap2, rfl, _⟩ := hM
  clear hr1 hq
  cases r
  · clear hr
    go_enter Try.func45, Try.ntmps45
    go_wp2_with fail
    refine HB.out.mono ?_
    rintro e w2 ⟨rfl, hb2⟩
    have HQ := Lib.hid hb2
    clear hb2
    go_wp2_with fail
    refine bodyPost_ret (v := .tuple #[.slice none 0 0, .bool false]) (by simp [results, Try.results45, go_sem]) rfl ⟨_, rfl, (Row.nil w2 w.heap.size).own (by simp), HQ.out⟩
  · rw [Bool.true_and] at hr
    subst hr
    go_enter Try.func45, Try.ntmps45
    go_wp2_with fail
    refine HB.out.mono ?_
    rintro e w2 ⟨rfl, hb2⟩
    have HQ := Lib.hid hb2
    clear hb2
    go_wp2_with fail
    refine (HIN.out _).mono ?_
    rintro e w3 ⟨rfl, rfl⟩
    go_wp2_with fail
    refine bodyPost_ret (v := .tuple #[.slice none 0 0, .bool false]) (by simp [results, Try.results45, go_sem]) rfl ⟨_, rfl, (Row.nil w2 w.heap.size).own (by simp), HQ.out⟩
/-- what substituted hands back -/
def SubTo (o : Option (List Trm)) (w : World) (e : Ending) (w' : World) : Prop := ∃ v', e = .returned (.tuple #[v', .bool o.isSome]) ∧ (∀ q, o = some q → Trms w' v' q) ∧ Below w.heap.size w w'
set_option maxRecDepth 100000 in
set_option maxHeartbeats 8000000 in
theorem iSubst0 (p : Int) (x : Trm) (gv : Value) (M : List Trm) (w : World) (hf : 0 ≤ x.a ∧ x.a ≤ 9) (hM : Trms w gv M) :
    Calls Try.prog 124 #[.agg #[.int .i64 x.a, .int .i64 x.b, .int .i64 x.c, .int .i64 x.t], .int .i64 p, .int .i64 0, gv] w (SubTo (partK p M [setp 0 0 x] (pwr 0 x).toNat) w) := by
  have HM := Lib.hid hM
  obtain ⟨_, a2, cap2, rfl, _⟩ := hM
  have hxn : (x.a.toNat : Int) = x.a := by omega
  obtain ⟨c, hcn⟩ : ∃ c, c = x.a.toNat := ⟨_, rfl⟩
  have hc9 : c ≤ 9 := by omega
  rw [← hcn] at hxn
  rw [show setp 0 0 x = ⟨0, x.b, x.c, x.t⟩ from rfl, show (pwr 0 x).toNat = c by rw [hcn]; rfl]
  obtain ⟨o, ho⟩ : ∃ o, o = partK p M [⟨0, x.b, x.c, x.t⟩] c := ⟨_, rfl⟩
  rw [← ho]
  have HOE := Lib.hid ho
  obtain ⟨W1, hW1⟩ : ∃ W1, W1 = (w.alloc (Obj.cells #[.int .i64 0, .int .i64 x.b, .int .i64 x.c, .int .i64 x.t] 32)).alloc (Obj.cells #[.int .i64 0, .int .i64 x.b, .int .i64 x.c, .int .i64 x.t] 32) := ⟨_, rfl⟩
  have h01 : Below w.heap.size w W1 := by rw [hW1]; exact Below.alloc (Below.alloc (Below.refl _ _) (Nat.le_refl _) _) (by simp) _
  have H1 := Lib.hid (show Trms W1 (.slice (some ⟨w.heap.size + 1, 0, none⟩) 1 1) [⟨0, x.b, x.c, x.t⟩] ∧ Below w.heap.size w W1 from
    ⟨one_trms (by rw [hW1]; refine ⟨?_, ?_, ?_, ?_⟩ <;> simp [go_sem]) (by rw [hW1]; simp), h01⟩)
  have HW1 := Lib.hid hW1
  clear hcn ho h01 hW1 hf
  go_enter Try.func124, Try.ntmps124
  go_wp2_with fail
  rw [← HW1.out]
  clear HW1
  generalize (Value.slice (some ⟨w.heap.size + 1, 0, none⟩) 1 1) = vp0 at H1 ⊢
  rw [← hxn]
  clear hxn
  go_loopw [11, 23] (fun u i wr => ∃ (vp : Value) (m : Nat) (q : List Trm), vp = u ∧ m ≤ c ∧ i = .int .i64 m ∧ partK p M [⟨0, x.b, x.c, x.t⟩] m = some q ∧ Trms wr vp q ∧ Below w.heap.size w wr) (fun _ i _ => c - (intOf i).toNat)
  case atStart => exact ⟨_, 0, _, rfl, by omega, rfl, rfl, H1.out⟩
  case round =>
    clear H1
    obtain ⟨vp, m, q, rfl, hm, rfl, hpk, hT, hb⟩ := hrel
    by_cases hmt : m < c
    · have hmtp : (m : Int) < (c : Int) := by omega
      have HMUL := Lib.hid (iMulPoly p vp (.slice a2 M.length cap2) q M wr hT (HM.out.below hb))
      have HPS := Lib.hid (partK_step hpk)
      have Hb := Lib.hid hb
      obtain ⟨_, ap, cp, rfl, _⟩ := hT
      obtain ⟨r, hr⟩ : ∃ r, r = mulOk p q M := ⟨_, rfl⟩
      rw [← hr] at HMUL HPS
      clear hpk hb hr
      go_wp2_with fail
      refine HMUL.out.mono ?_
      rintro e w4 ⟨v4, rfl, hown, hb4⟩
      have H4 := Lib.hid (And.intro hown.trms (Hb.out.trans (hb4.mono Hb.out.size)))
      clear hown hb4
      cases r
      · have hz : o = none := by
          rw [HOE.out]
          have := partK_none HPS.out (c - (m + 1))
          rwa [show m + 1 + (c - (m + 1)) = c by omega] at this
        subst hz
        go_wp2_with fail
        refine bodyPost_ret (v := .tuple #[.slice none 0 0, .bool false]) (by simp [results, Try.results124, go_sem]) rfl ⟨_, rfl, ?_, H4.out.2⟩
        intro q hq
        cases hq
      · rw [if_pos rfl] at HPS
        go_wp2_with fail
        go_roundw
        case rel => exact ⟨_, m + 1, _, rfl, by omega, by go_num, HPS.out, H4.out⟩
        case measure => simp [intOf]; omega
    · have hml : m = c := by omega
      subst hml
      have hz : o = some q := by rw [HOE.out]; exact hpk
      subst hz
      have HQ := Lib.hid (And.intro hT hb)
      clear hpk hT hb
      go_wp2_with fail
      refine bodyPost_ret (v := .tuple #[vp, .bool true]) (by simp [results, Try.results124, go_sem]) rfl ⟨_, rfl, ?_, HQ.out.2⟩
      intro q' hq
      injection hq with hq
      subst hq
      exact HQ.out.1
set_option maxRecDepth 100000 in
set_option maxHeartbeats 8000000 in
theorem iSubst1 (p : Int) (x : Trm) (gv : Value) (M : List Trm) (w : World) (hf : 0 ≤ x.b ∧ x.b ≤ 9) (hM : Trms w gv M) :
    Calls Try.prog 124 #[.agg #[.int .i64 x.a, .int .i64 x.b, .int .i64 x.c, .int .i64 x.t], .int .i64 p, .int .i64 1, gv] w (SubTo (partK p M [setp 1 0 x] (pwr 1 x).toNat) w) := by
  have HM := Lib.hid hM
  obtain ⟨_, a2, cap2, rfl, _⟩ := hM
  have hxn : (x.b.toNat : Int) = x.b := by omega
  obtain ⟨c, hcn⟩ : ∃ c, c = x.b.toNat := ⟨_, rfl⟩
  have hc9 : c ≤ 9 := by omega
  rw [← hcn] at hxn
  rw [show setp 1 0 x = ⟨x.a, 0, x.c, x.t⟩ from rfl, show (pwr 1 x).toNat = c by rw [hcn]; rfl]
  obtain ⟨o, ho⟩ : ∃ o, o = partK p M [⟨x.a, 0, x.c, x.t⟩] c := ⟨_, rfl⟩
  rw [← ho]
  have HOE := Lib.hid ho
  obtain ⟨W1, hW1⟩ : ∃ W1, W1 = (w.alloc (Obj.cells #[.int .i64 x.a, .int .i64 0, .int .i64 x.c, .int .i64 x.t] 32)).alloc (Obj.cells #[.int .i64 x.a, .int .i64 0, .int .i64 x.c, .int .i64 x.t] 32) := ⟨_, rfl⟩
  have h01 : Below w.heap.size w W1 := by rw [hW1]; exact Below.alloc (Below.alloc (Below.refl _ _) (Nat.le_refl _) _) (by simp) _
  have H1 := Lib.hid (show Trms W1 (.slice (some ⟨w.heap.size + 1, 0, none⟩) 1 1) [⟨x.a, 0, x.c, x.t⟩] ∧ Below w.heap.size w W1 from
    ⟨one_trms (by rw [hW1]; refine ⟨?_, ?_, ?_, ?_⟩ <;> simp [go_sem]) (by rw [hW1]; simp), h01⟩)
  have HW1 := Lib.hid hW1
  clear hcn ho h01 hW1 hf
  go_enter Try.func124, Try.ntmps124
  go_wp2_with fail
  rw [← HW1.out]
  clear HW1
  generalize (Value.slice (some ⟨w.heap.size + 1, 0, none⟩) 1 1) = vp0 at H1 ⊢
  rw [← hxn]
  clear hxn
  go_loopw [11, 23] (fun u i wr => ∃ (vp : Value) (m : Nat) (q : List Trm), vp = u ∧ m ≤ c ∧ i = .int .i64 m ∧ partK p M [⟨x.a, 0, x.c, x.t⟩] m = some q ∧ Trms wr vp q ∧ Below w.heap.size w wr) (fun _ i _ => c - (intOf i).toNat)
  case atStart => exact ⟨_, 0, _, rfl, by omega, rfl, rfl, H1.out⟩
  case round =>
    clear H1
    obtain ⟨vp, m, q, rfl, hm, rfl, hpk, hT, hb⟩ := hrel
    by_cases hmt : m < c
    · have hmtp : (m : Int) < (c : Int) := by omega
      have HMUL := Lib.hid (iMulPoly p vp (.slice a2 M.length cap2) q M wr hT (HM.out.below hb))
      have HPS := Lib.hid (partK_step hpk)
      have Hb := Lib.hid hb
      obtain ⟨_, ap, cp, rfl, _⟩ := hT
      obtain ⟨r, hr⟩ : ∃ r, r = mulOk p q M := ⟨_, rfl⟩
      rw [← hr] at HMUL HPS
      clear hpk hb hr
      go_wp2_with fail
      refine HMUL.out.mono ?_
      rintro e w4 ⟨v4, rfl, hown, hb4⟩
      have H4 := Lib.hid (And.intro hown.trms (Hb.out.trans (hb4.mono Hb.out.size)))
      clear hown hb4
      cases r
      · have hz : o = none := by
          rw [HOE.out]
          have := partK_none HPS.out (c - (m + 1))
          rwa [show m + 1 + (c - (m + 1)) = c by omega] at this
        subst hz
        go_wp2_with fail
        refine bodyPost_ret (v := .tuple #[.slice none 0 0, .bool false]) (by simp [results, Try.results124, go_sem]) rfl ⟨_, rfl, ?_, H4.out.2⟩
        intro q hq
        cases hq
      · rw [if_pos rfl] at HPS
        go_wp2_with fail
        go_roundw
        case rel => exact ⟨_, m + 1, _, rfl, by omega, by go_num, HPS.out, H4.out⟩
        case measure => simp [intOf]; omega
    · have hml : m = c := by omega
      subst hml
      have hz : o = some q := by rw [HOE.out]; exact hpk
      subst hz
      have HQ := Lib.hid (And.intro hT hb)
      clear hpk hT hb
      go_wp2_with fail
      refine bodyPost_ret (v := .tuple #[vp, .bool true]) (by simp [results, Try.results124, go_sem]) rfl ⟨_, rfl, ?_, HQ.out.2⟩
      intro q' hq
      injection hq with hq
      subst hq
      exact HQ.out.1
set_option maxRecDepth 100000 in
set_option maxHeartbeats 8000000 in
theorem iSubst2 (p : Int) (x : Trm) (gv : Value) (M : List Trm) (w : World) (hf : 0 ≤ x.c ∧ x.c ≤ 9) (hM : Trms w gv M) :
    Calls Try.prog 124 #[.agg #[.int .i64 x.a, .int .i64 x.b, .int .i64 x.c, .int .i64 x.t], .int .i64 p, .int .i64 2, gv] w (SubTo (partK p M [setp 2 0 x] (pwr 2 x).toNat) w) := by
  have HM := Lib.hid hM
  obtain ⟨_, a2, cap2, rfl, _⟩ := hM
  have hxn : (x.c.toNat : Int) = x.c := by omega
  obtain ⟨c, hcn⟩ : ∃ c, c = x.c.toNat := ⟨_, rfl⟩
  have hc9 : c ≤ 9 := by omega
  rw [← hcn] at hxn
  rw [show setp 2 0 x = ⟨x.a, x.b, 0, x.t⟩ from rfl, show (pwr 2 x).toNat = c by rw [hcn]; rfl]
  obtain ⟨o, ho⟩ : ∃ o, o = partK p M [⟨x.a, x.b, 0, x.t⟩] c := ⟨_, rfl⟩
  rw [← ho]
  have HOE := Lib.hid ho
  obtain ⟨W1, hW1⟩ : ∃ W1, W1 = (w.alloc (Obj.cells #[.int .i64 x.a, .int .i64 x.b, .int .i64 0, .int .i64 x.t] 32)).alloc (Obj.cells #[.int .i64 x.a, .int .i64 x.b, .int .i64 0, .int .i64 x.t] 32) := ⟨_, rfl⟩
  have h01 : Below w.heap.size w W1 := by rw [hW1]; exact Below.alloc (Below.alloc (Below.refl _ _) (Nat.le_refl _) _) (by simp) _
  have H1 := Lib.hid (show Trms W1 (.slice (some ⟨w.heap.size + 1, 0, none⟩) 1 1) [⟨x.a, x.b, 0, x.t⟩] ∧ Below w.heap.size w W1 from
    ⟨one_trms (by rw [hW1]; refine ⟨?_, ?_, ?_, ?_⟩ <;> simp [go_sem]) (by rw [hW1]; simp), h01⟩)
  have HW1 := Lib.hid hW1
  clear hcn ho h01 hW1 hf
  go_enter Try.func124, Try.ntmps124
  go_wp2_with fail
  rw [← HW1.out]
  clear HW1
  generalize (Value.slice (some ⟨w.heap.size + 1, 0, none⟩) 1 1) = vp0 at H1 ⊢
  rw [← hxn]
  clear hxn
  go_loopw [11, 23] (fun u i wr => ∃ (vp : Value) (m : Nat) (q : List Trm), vp = u ∧ m ≤ c ∧ i = .int .i64 m ∧ partK p M [⟨x.a, x.b, 0, x.t⟩] m = some q ∧ Trms wr vp q ∧ Below w.heap.size w wr) (fun _ i _ => c - (intOf i).toNat)
  case atStart => exact ⟨_, 0, _, rfl, by omega, rfl, rfl, H1.out⟩
  case round =>
    clear H1
    obtain ⟨vp, m, q, rfl, hm, rfl, hpk, hT, hb⟩ := hrel
    by_cases hmt : m < c
    · have hmtp : (m : Int) < (c : Int) := by omega
      have HMUL := Lib.hid (iMulPoly p vp (.slice a2 M.length cap2) q M wr hT (HM.out.below hb))
      have HPS := Lib.hid (partK_step hpk)
      have Hb := Lib.hid hb
      obtain ⟨_, ap, cp, rfl, _⟩ := hT
      obtain ⟨r, hr⟩ : ∃ r, r = mulOk p q M := ⟨_, rfl⟩
      rw [← hr] at HMUL HPS
      clear hpk hb hr
      go_wp2_with fail
      refine HMUL.out.mono ?_
      rintro e w4 ⟨v4, rfl, hown, hb4⟩
      have H4 := Lib.hid (And.intro hown.trms (Hb.out.trans (hb4.mono Hb.out.size)))
      clear hown hb4
      cases r
      · have hz : o = none := by
          rw [HOE.out]
          have := partK_none HPS.out (c - (m + 1))
          rwa [show m + 1 + (c - (m + 1)) = c by omega] at this
        subst hz
        go_wp2_with fail
        refine bodyPost_ret (v := .tuple #[.slice none 0 0, .bool false]) (by simp [results, Try.results124, go_sem]) rfl ⟨_, rfl, ?_, H4.out.2⟩
        intro q hq
        cases hq
      · rw [if_pos rfl] at HPS
        go_wp2_with fail
        go_roundw
        case rel => exact ⟨_, m + 1, _, rfl, by omega, by go_num, HPS.out, H4.out⟩
        case measure => simp [intOf]; omega
    · have hml : m = c := by omega
      subst hml
      have hz : o = some q := by rw [HOE.out]; exact hpk
      subst hz
      have HQ := Lib.hid (And.intro hT hb)
      clear hpk hT hb
      go_wp2_with fail
      refine bodyPost_ret (v := .tuple #[vp, .bool true]) (by simp [results, Try.results124, go_sem]) rfl ⟨_, rfl, ?_, HQ.out.2⟩
      intro q' hq
      injection hq with hq
      subst hq
      exact HQ.out.1
theorem iSubst (p v : Int) (x : Trm) (gv : Value) (M : List Trm) (w : World) (hv : vB v = true) (hf : (0 ≤ x.a ∧ x.a ≤ 9) ∧ (0 ≤ x.b ∧ x.b ≤ 9) ∧ (0 ≤ x.c ∧ x.c ≤ 9)) (hM : Trms w gv M) :
    Calls Try.prog 124 #[.agg #[.int .i64 x.a, .int .i64 x.b, .int .i64 x.c, .int .i64 x.t], .int .i64 p, .int .i64 v, gv] w (SubTo (partK p M [setp v 0 x] (pwr v x).toNat) w) := by
  rcases vB_cases hv with rfl | rfl | rfl
  · exact iSubst0 p x gv M w hf.1 hM
  · exact iSubst1 p x gv M w hf.2.1 hM
  · exact iSubst2 p x gv M w hf.2.2 hM
set_option maxRecDepth 100000 in
set_option maxHeartbeats 8000000 in
theorem iPut_yes (p v : Int) (a : Option Addr) (cap : Nat) (gv : Value) (L M : List Trm) (w : World) (hv : vB v = true) (hp : isP p = true) (hV : validB p L = true) (hVM : validB p M = true) (hL : Trms w (.slice a L.length cap) L) (hM : Trms w gv M) (R : List Trm) (b : Bool) (hR : R = (sumK p v L M L.length).getD []) (hb : b = (sumK p v L M L.length).isSome) :
    Calls Try.prog 45 #[.int .i64 p, .slice a L.length cap, .int .i64 v, gv] w (GivesPB R b w) := by
  have HB := Lib.hid (iBothAt p (.slice a L.length cap) gv L M w hL hM true (by unfold okB; dsimp only; rw [hp, hV, hVM]; rfl))
  have HV := Lib.hid hV
  have HVB := Lib.hid hv
  have HL := Lib.hid hL
  have HM := Lib.hid hM
  have HRE := Lib.hid hR
  have HBE := Lib.hid hb
  have hl := validB_len hV
  have HIN := Lib.hid (iUnk2 v)
  rw [hv] at HIN
  obtain ⟨_, a2, cap2, rfl, _⟩ := hM
  clear hp hV hVM hL hR hb hv
  go_enter Try.func45, Try.ntmps45
  go_wp2_with fail
  refine HB.out.mono ?_
  rintro e w2 ⟨rfl, hb2⟩
  have HW := Lib.hid (show OwnTrms w2 w.heap.size (.slice none 0 0) [] ∧ Below w.heap.size w w2 from ⟨(Row.nil w2 w.heap.size).own (by simp), hb2⟩)
  clear hb2 HB
  go_wp2_with fail
  refine (HIN.out _).mono ?_
  rintro e w3 ⟨rfl, rfl⟩
  go_wp2_with fail
  go_loopw [10, 28] (fun u i wr => ∃ (vo : Value) (k : Nat) (s : List Trm), vo = u ∧ k ≤ L.length ∧ i = .int .i64 k ∧ sumK p v L M k = some s ∧ OwnTrms wr w.heap.size vo s ∧ Below w.heap.size w wr) (fun _ i _ => L.length - (intOf i).toNat)
  case atStart => exact ⟨_, 0, [], rfl, by omega, rfl, rfl, HW.out⟩
  case round =>
    clear HW
    obtain ⟨vo, k, s, rfl, hk, rfl, hsk, hO, hb⟩ := hrel
    by_cases hlt : k < L.length
    · have hltp : (k : Int) < (L.length : Int) := by omega
      have hk0 : (0 : Int) ≤ (k : Int) := by omega
      obtain ⟨x, hx⟩ : ∃ x, x = L.getD k default := ⟨_, rfl⟩
      have hpw := validB_pows HV.out hlt hx
      obtain ⟨g, off, rfl, hg, hc⟩ : ∃ g off, a = some ⟨g, off, none⟩ ∧ g < w.heap.size ∧ ∀ j : Nat, j < L.length → TAt w g (off + j * 4) (L.getD j default) := by
        obtain ⟨_, a', cap', he, h⟩ := HL.out
        injection he with e1 e2 e3
        subst e1
        rcases h with h | h
        · rw [h] at hlt; simp at hlt
        · exact h
      obtain ⟨b0, b1, b2, b3⟩ := (hc k hlt).below hb hg
      rw [← hx] at b0 b1 b2 b3
      have h01 : Below wr.heap.size wr (wr.alloc (Obj.cells #[.int .i64 x.a, .int .i64 x.b, .int .i64 x.c, .int .i64 x.t] 32)) := Below.alloc (Below.refl _ _) (Nat.le_refl _) _
      have HS := Lib.hid (iSubst p v x (.slice a2 M.length cap2) M (wr.alloc (Obj.cells #[.int .i64 x.a, .int .i64 x.b, .int .i64 x.c, .int .i64 x.t] 32)) HVB.out hpw ((HM.out.below hb).below h01))
      have HX := Lib.hid hx
      obtain ⟨o, ho⟩ : ∃ o, o = partK p M [setp v 0 x] (pwr v x).toNat := ⟨_, rfl⟩
      rw [← ho] at HS
      have HOE := Lib.hid ho
      have HSK := Lib.hid hsk
      have HO := Lib.hid (hO.below h01)
      have Hb := Lib.hid (hb.trans (h01.mono hb.size))
      clear hx hpw hsk hO hb hc ho h01
      go_wp2_with fail
      refine HS.out.mono ?_
      rintro e w4 ⟨v4, rfl, hq4, hb4⟩
      cases o with
      | none =>
        have HN := Lib.hid (show sumK p v L M L.length = none by
          have e := sumK_stop HSK.out (by rw [← HX.out]; exact HOE.out.symm)
          have := sumK_none e (L.length - (k + 1))
          rwa [show k + 1 + (L.length - (k + 1)) = L.length by omega] at this)
        have hz : b = false := by rw [HBE.out, HN.out]; rfl
        have hz2 : R = [] := by rw [HRE.out, HN.out]; rfl
        subst hz hz2
        have HQ := Lib.hid (Hb.out.trans (hb4.mono Hb.out.size))
        clear hq4 hb4
        simp only [Option.isSome]
        go_wp2_with fail
        refine bodyPost_ret (v := .tuple #[.slice none 0 0, .bool false]) (by simp [results, Try.results45, go_sem]) rfl ⟨_, rfl, (Row.nil _ w.heap.size).own (by simp), HQ.out⟩
      | some q =>
        have hT := hq4 q rfl
        have hO4 := HO.out.below hb4
        have HADD := Lib.hid (iAddPoly p vo v4 s q w4 hO4.trms hT)
        have HSS := Lib.hid (sumK_step HSK.out (by rw [← HX.out]; exact HOE.out.symm))
        have H3 := Lib.hid (Hb.out.trans (hb4.mono Hb.out.size))
        obtain ⟨_, ap, cp, rfl, _⟩ := hT
        obtain ⟨_, ao, co, rfl, _⟩ := hO4.trms
        obtain ⟨r, hr⟩ : ∃ r, r = addOk p s q := ⟨_, rfl⟩
        rw [← hr] at HADD HSS
        clear hq4 hb4 hO4 hr
        simp only [Option.isSome]
        go_wp2_with fail
        refine HADD.out.mono ?_
        rintro e w5 ⟨v5, rfl, hown, hb5⟩
        have H4 := Lib.hid (And.intro (ownTrms_mono hown H3.out.size) (H3.out.trans (hb5.mono H3.out.size)))
        clear hown hb5
        cases r
        · have HN := Lib.hid (show sumK p v L M L.length = none by
            have := sumK_none HSS.out (L.length - (k + 1))
            rwa [show k + 1 + (L.length - (k + 1)) = L.length by omega] at this)
          have hz : b = false := by rw [HBE.out, HN.out]; rfl
          have hz2 : R = [] := by rw [HRE.out, HN.out]; rfl
          subst hz hz2
          go_wp2_with fail
          refine bodyPost_ret (v := .tuple #[.slice none 0 0, .bool false]) (by simp [results, Try.results45, go_sem]) rfl ⟨_, rfl, (Row.nil _ w.heap.size).own (by simp), H4.out.2⟩
        · rw [if_pos rfl] at HSS
          go_wp2_with fail
          go_roundw
          case rel => exact ⟨_, k + 1, _, rfl, by omega, by go_num, HSS.out, H4.out⟩
          case measure => simp [intOf]; omega
    · have hkl : k = L.length := by omega
      subst hkl
      have hz : b = true := by rw [HBE.out, hsk]; rfl
      have hz2 : R = s := by rw [HRE.out, hsk]; rfl
      subst hz hz2
      have HQ := Lib.hid (And.intro hO hb)
      clear hO hb hsk
      go_wp2_with fail
      refine bodyPost_ret (v := .tuple #[vo, .bool true]) (by simp [results, Try.results45, go_sem]) rfl ⟨_, rfl, HQ.out⟩
theorem sPutPoly (p v : Int) (f g : Value) (L M : List Trm) (w : World) (hL : Trms w f L) (hM : Trms w g M) : Calls Try.prog 46 #[.int .i64 p, f, .int .i64 v, g] w (GivesPB (putV p L v M) (putOk p L v M) w) := by
  cases h : putC p L v M
  · rw [(putC_no h).1, (putC_no h).2]
    exact sPut_no p v f g L M w hL hM h
  · rw [(putC_yes h).1, (putC_yes h).2]
    simp only [putC, okB, Bool.and_eq_true] at h
    obtain ⟨l0, a, cap, rfl, l1⟩ := hL
    rcases vB_cases h.2 with rfl | rfl | rfl
    · exact sPut_yes0 p a cap g L M w h.1.1.1 h.1.1.2 h.1.2.2 ⟨l0, a, cap, rfl, l1⟩ hM _ _ rfl rfl
    · exact sPut_yes1 p a cap g L M w h.1.1.1 h.1.1.2 h.1.2.2 ⟨l0, a, cap, rfl, l1⟩ hM _ _ rfl rfl
    · exact sPut_yes2 p a cap g L M w h.1.1.1 h.1.1.2 h.1.2.2 ⟨l0, a, cap, rfl, l1⟩ hM _ _ rfl rfl
theorem iPutPoly (p v : Int) (f g : Value) (L M : List Trm) (w : World) (hL : Trms w f L) (hM : Trms w g M) : Calls Try.prog 45 #[.int .i64 p, f, .int .i64 v, g] w (GivesPB (putV p L v M) (putOk p L v M) w) := by
  cases h : putC p L v M
  · rw [(putC_no h).1, (putC_no h).2]
    exact iPut_no p v f g L M w hL hM h
  · rw [(putC_yes h).1, (putC_yes h).2]
    simp only [putC, okB, Bool.and_eq_true] at h
    obtain ⟨l0, a, cap, rfl, l1⟩ := hL
    exact iPut_yes p v a cap g L M w h.2 h.1.1.1 h.1.1.2 h.1.2.2 ⟨l0, a, cap, rfl, l1⟩ hM _ _ rfl rfl
end Go.Proofs.Ytegkcfinklcglaa
namespace Go.Proofs.Ytegkcfinklcglaa
open Go.RowKit
theorem mulOk_isP {p : Int} {L M : List Trm} (h : mulOk p L M = true) : isP p = true ∧ validB p L = true ∧ validB p M = true ∧ validB p (addAll p (prodT p L M) []) = true ∧ mulL p L M = addAll p (prodT p L M) [] := by
  have e : mulL p L M = addAll p (prodT p L M) [] := by unfold mulL; rw [if_pos h]
  unfold mulOk at h
  simp only [Bool.and_eq_true] at h
  exact ⟨h.1.1.1, h.1.1.2, h.1.2.2, h.2, e⟩
theorem mulOk_ofP {p : Int} {L M : List Trm} (hp : isP p = true) (hL : validB p L = true) (hM : validB p M = true) (hS : validB p (addAll p (prodT p L M) []) = true) : mulOk p L M = true ∧ mulL p L M = addAll p (prodT p L M) [] := by
  have h : mulOk p L M = true := by unfold mulOk; rw [hp, hL, hM, hS]; rfl
  exact ⟨h, (mulOk_isP h).2.2.2.2⟩
theorem part_ev {p e x y z : Int} (hp : isP p = true) {M P0 : List Trm} (hM : validB p M = true) (he : evK p x y z M M.length = e) : ∀ n q, partK p M P0 n = some q → Cg p (evK p x y z q q.length) (evK p x y z P0 P0.length * e ^ n)
  | 0, q, h => by
    injection h with h
    subst h
    exact Cg.of_eq (by simp)
  | n + 1, q, h => by
    cases hP : partK p M P0 n with
    | none => rw [partK_none hP 1] at h; cases h
    | some P =>
      rw [partK_step hP] at h
      split at h
      · rename_i hm
        injection h with h
        subst h
        obtain ⟨_, hVP, _, _, e1⟩ := mulOk_isP hm
        rw [e1, mul_ev hp hVP hM, he]
        refine (Cg.mod p _).trans (((part_ev hp hM he n P hP).mul (Cg.refl p e)).trans (Cg.of_eq ?_))
        rw [Int.pow_succ, Int.mul_assoc]
      · cases h
/-- a term's power, whatever the unknown -/
theorem mon_set {v e x y z : Int} (hv : v = 0 ∨ v = 1 ∨ v = 2) (T : Trm) :
    mon x y z (setp v 0 T).a (setp v 0 T).b (setp v 0 T).c * e ^ (pwr v T).toNat = mon (if v = 0 then e else x) (if v = 1 then e else y) (if v = 2 then e else z) T.a T.b T.c := by
  rcases hv with rfl | rfl | rfl <;> simp [mon, setp, pwr] <;> grind
theorem setp_t (v m : Int) (T : Trm) : (setp v m T).t = T.t := by unfold setp; split <;> (try split) <;> rfl
theorem take_snoc {L : List Trm} {k : Nat} (hk : k < L.length) : L.take (k + 1) = L.take k ++ [L.getD k default] := by
  rw [List.take_succ_eq_append_getElem hk, List.getD_eq_getElem?_getD, List.getElem?_eq_getElem hk, Option.getD_some]
theorem sum_ev {p v e x y z : Int} (hp : isP p = true) (hv : v = 0 ∨ v = 1 ∨ v = 2) {L M : List Trm} (hM : validB p M = true) (he : evK p x y z M M.length = e) : ∀ k s, k ≤ L.length → sumK p v L M k = some s →
    Cg p (evK p x y z s s.length) (wS (mon (if v = 0 then e else x) (if v = 1 then e else y) (if v = 2 then e else z)) (L.take k))
  | 0, s, _, h => by
    injection h with h
    subst h
    exact Cg.of_eq (by simp [evK, wS])
  | k + 1, s, hk, h => by
    cases hS : sumK p v L M k with
    | none => rw [sumK_none hS 1] at h; cases h
    | some r =>
      cases hQ : partK p M [setp v 0 (L.getD k default)] (pwr v (L.getD k default)).toNat with
      | none => rw [sumK_stop hS hQ] at h; cases h
      | some q =>
        rw [sumK_step hS hQ] at h
        split at h
        · rename_i ha
          injection h with h
          subst h
          obtain ⟨_, _, _, _, e1⟩ := addOk_is ha
          rw [e1, add_ev hp]
          refine (Cg.mod p _).trans ?_
          rw [take_snoc (by omega), wS_app]
          refine (sum_ev hp hv hM he k r (by omega) hS).add ((part_ev hp hM he _ _ hQ).trans ((((evK_all p x y z _).mul (Cg.refl p _))).trans (Cg.of_eq ?_)))
          simp only [wS, setp_t]
          rw [← mon_set hv, Int.add_zero, Int.add_zero, Int.mul_assoc]
        · cases h
/-- the value of a polynomial with another one put in -/
theorem put_ev {p v e x y z : Int} (hp : isP p = true) (hv : v = 0 ∨ v = 1 ∨ v = 2) {L M s : List Trm} (hM : validB p M = true) (he : evK p x y z M M.length = e) (h : sumK p v L M L.length = some s) :
    evK p (if v = 0 then e else x) (if v = 1 then e else y) (if v = 2 then e else z) L L.length = evK p x y z s s.length := by
  have := sum_ev hp hv hM he L.length s (Nat.le_refl _) h
  rw [List.take_length] at this
  exact evK_is hp this.symm (evK_bd hp x y z s s.length)
/-- an unknown alone -/
def unkT (v : Int) : Trm := setp v 1 ⟨0, 0, 0, 1⟩
theorem setp_pw {v m : Int} {T : Trm} (hT : (0 ≤ T.a ∧ T.a ≤ 9) ∧ (0 ≤ T.b ∧ T.b ≤ 9) ∧ (0 ≤ T.c ∧ T.c ≤ 9)) (hm : 0 ≤ m ∧ m ≤ 9) : (0 ≤ (setp v m T).a ∧ (setp v m T).a ≤ 9) ∧ (0 ≤ (setp v m T).b ∧ (setp v m T).b ≤ 9) ∧ (0 ≤ (setp v m T).c ∧ (setp v m T).c ≤ 9) := by
  unfold setp
  split
  · exact ⟨hm, hT.2⟩
  · split
    · exact ⟨hT.1, hm, hT.2.2⟩
    · exact ⟨hT.1, hT.2.1, hm⟩
theorem one_ok {p : Int} {T : Trm} (hT : (0 ≤ T.a ∧ T.a ≤ 9) ∧ (0 ≤ T.b ∧ T.b ≤ 9) ∧ (0 ≤ T.c ∧ T.c ≤ 9)) (ht : 1 ≤ T.t ∧ T.t < p) : validB p [T] = true :=
  validB_of (List.pairwise_singleton _ _) (fun y hy => by rw [List.mem_singleton.1 hy]; exact ht) (fun y hy => by
    rw [List.mem_singleton.1 hy]
    simp only [powsB, powB, Bool.and_eq_true, decide_eq_true_eq]
    exact ⟨⟨hT.1, hT.2.1⟩, hT.2.2⟩) (by simp)
theorem mul_unk {p v m : Int} (hv : v = 0 ∨ v = 1 ∨ v = 2) {T : Trm} (ht : 1 ≤ T.t ∧ T.t < p) : addAll p (prodT p [setp v m T] [unkT v]) [] = [setp v (m + 1) T] := by
  have hm : T.t % p = T.t := Int.emod_eq_of_lt (by omega) ht.2
  have e : prodT p [setp v m T] [unkT v] = [setp v (m + 1) T] := by
    rcases hv with rfl | rfl | rfl <;> simp [prodT, mulTT, setp, unkT, hm]
  have hp : 0 < p := by omega
  have ht' : 1 ≤ (setp v (m + 1) T).t ∧ (setp v (m + 1) T).t < p := by rw [setp_t]; exact ht
  rw [e]
  refine addAll_is hp List.Pairwise.nil (List.pairwise_singleton _ _) (fun _ h => by cases h) (fun y hy => by rw [List.mem_singleton.1 hy]; exact ht') (fun y hy => by rw [List.mem_singleton.1 hy]; omega) fun m => Cg.of_eq ?_
  simp [wS]
theorem part_unk {p v : Int} (hp : isP p = true) (hv : v = 0 ∨ v = 1 ∨ v = 2) {T : Trm} (hT : (0 ≤ T.a ∧ T.a ≤ 9) ∧ (0 ≤ T.b ∧ T.b ≤ 9) ∧ (0 ≤ T.c ∧ T.c ≤ 9)) (ht : 1 ≤ T.t ∧ T.t < p) : ∀ n : Nat, n ≤ 9 → partK p [unkT v] [setp v 0 T] n = some [setp v n T]
  | 0, _ => rfl
  | n + 1, hn => by
    have hu : validB p [unkT v] = true := one_ok (setp_pw (by decide) (by decide)) (by unfold unkT; rw [setp_t]; have := isP_bd hp; simp only; omega)
    have h1 : validB p [setp v n T] = true := one_ok (setp_pw hT (by omega)) (by rw [setp_t]; exact ht)
    have h2 : validB p [setp v ((n : Int) + 1) T] = true := one_ok (setp_pw hT (by omega)) (by rw [setp_t]; exact ht)
    have hm := mulOk_ofP (p := p) (L := [setp v n T]) (M := [unkT v]) hp h1 hu (by rw [mul_unk hv ht]; exact h2)
    rw [partK_step (part_unk hp hv hT ht n (by omega)), if_pos hm.1, hm.2, mul_unk hv ht]
    simp
theorem setp_own {v : Int} (hv : v = 0 ∨ v = 1 ∨ v = 2) (T : Trm) : setp v (pwr v T) T = T := by rcases hv with rfl | rfl | rfl <;> rfl
theorem pwr_in {v : Int} {T : Trm} (hT : (0 ≤ T.a ∧ T.a ≤ 9) ∧ (0 ≤ T.b ∧ T.b ≤ 9) ∧ (0 ≤ T.c ∧ T.c ≤ 9)) : 0 ≤ pwr v T ∧ pwr v T ≤ 9 := by
  unfold pwr; split
  · exact hT.1
  · split
    · exact hT.2.1
    · exact hT.2.2
theorem take_ok {p : Int} {L : List Trm} (hV : validB p L = true) (k : Nat) : validB p (L.take k) = true := by
  have hl := validB_len hV
  refine validB_of ((validB_srt hV).sublist (List.take_sublist _ _)) (fun y hy => validB_els hV y (List.mem_of_mem_take hy)) (fun y hy => ?_) (by rw [List.length_take]; omega)
  have h := validB_mem hV (List.mem_of_mem_take hy)
  simp only [powsB, powB, Bool.and_eq_true, decide_eq_true_eq]
  exact ⟨⟨h.1, h.2.1⟩, h.2.2⟩
theorem sum_unk {p v : Int} (hp : isP p = true) (hv : v = 0 ∨ v = 1 ∨ v = 2) {L : List Trm} (hV : validB p L = true) : ∀ k : Nat, k ≤ L.length → sumK p v L [unkT v] k = some (L.take k)
  | 0, _ => rfl
  | k + 1, hk => by
    have hb := isP_bd hp
    have hm : L.getD k default ∈ L := by rw [List.getD_eq_getElem?_getD, List.getElem?_eq_getElem (by omega), Option.getD_some]; exact List.getElem_mem _
    have hT := validB_mem hV hm
    have ht := validB_els hV _ hm
    have hw := pwr_in (v := v) hT
    have hn : (((pwr v (L.getD k default)).toNat : Nat) : Int) = pwr v (L.getD k default) := Int.toNat_of_nonneg hw.1
    have hq := part_unk hp hv hT ht (pwr v (L.getD k default)).toNat (by omega)
    rw [hn, setp_own hv] at hq
    have hs : addAll p [L.getD k default] (L.take k) = L.take (k + 1) := by
      have v1 := take_ok hV k
      have v2 := take_ok hV (k + 1)
      refine addAll_is (by omega) (validB_srt v1) (validB_srt v2) (validB_els v1) (validB_els v2) (fun y hy => by rw [List.mem_singleton.1 hy]; omega) fun m => Cg.of_eq ?_
      rw [take_snoc (by omega), wS_app]
    have ha := addOk_of (p := p) (L := L.take k) (M := [L.getD k default]) hp (take_ok hV k) (one_ok hT ht) (by rw [hs]; exact take_ok hV (k + 1))
    rw [sumK_step (sum_unk hp hv hV k (by omega)) hq, if_pos ha.1, ha.2, hs]
theorem unk_ok {p v : Int} (hp : isP p = true) : validB p [unkT v] = true := one_ok (setp_pw (by decide) (by decide)) (by unfold unkT; rw [setp_t]; have := isP_bd hp; simp only; omega)
/-- all that the law of PutPoly asks -/
structure PutF (p v : Int) (L M S : List Trm) : Prop where
  hp : isP p = true
  vL : validB p L = true
  vM : validB p M = true
  hv : v = 0 ∨ v = 1 ∨ v = 2
  sb : putOk p L v [unkT v] = true
  sv : putV p L v [unkT v] = L
  ev : ∀ x y z : Int, isE3 p x y z = true → ∀ e, e = evV p x y z M → isE3 p (if v = 0 then e else x) (if v = 1 then e else y) (if v = 2 then e else z) = true ∧ evV p x y z S = evV p (if v = 0 then e else x) (if v = 1 then e else y) (if v = 2 then e else z) L
theorem sum_valid {p v : Int} {L M : List Trm} : ∀ k s, sumK p v L M k = some s → validB p s = true
  | 0, s, h => by
    injection h with h
    subst h
    rfl
  | k + 1, s, h => by
    cases hS : sumK p v L M k with
    | none => rw [sumK_none hS 1] at h; cases h
    | some r =>
      cases hQ : partK p M [setp v 0 (L.getD k default)] (pwr v (L.getD k default)).toNat with
      | none => rw [sumK_stop hS hQ] at h; cases h
      | some q =>
        rw [sumK_step hS hQ] at h
        split at h
        · rename_i ha
          injection h with h
          subst h
          obtain ⟨_, _, _, hs, e1⟩ := addOk_is ha
          rw [e1]
          exact hs
        · cases h
theorem putF {p v : Int} {L M : List Trm} (h : putOk p L v M = true) : PutF p v L M (putV p L v M) := by
  have hc : putC p L v M = true := by unfold putOk at h; simp only [Bool.and_eq_true] at h; exact h.1
  obtain ⟨e1, e2⟩ := putC_yes hc
  rw [e1] at h
  obtain ⟨s, hs⟩ := Option.isSome_iff_exists.1 h
  rw [hs, Option.getD_some] at e2
  have hc' := hc
  unfold putC okB at hc'
  simp only [Bool.and_eq_true] at hc'
  obtain ⟨⟨⟨hp, vL⟩, ⟨_, vM⟩⟩, hv⟩ := hc'
  have hv3 := vB_cases hv
  have hc2 : putC p L v [unkT v] = true := by unfold putC okB; dsimp only; rw [hp, vL, unk_ok hp, hv]; rfl
  have h2 := putC_yes hc2
  have hu := sum_unk hp hv3 vL L.length (Nat.le_refl _)
  rw [List.take_length] at hu
  rw [hu] at h2
  have vS := sum_valid _ _ hs
  rw [e2]
  refine ⟨hp, vL, vM, hv3, h2.1, h2.2, fun x y z hE e he => ?_⟩
  have he2 : e = evK p x y z M M.length := by rw [he]; unfold evV; rw [hp, vM, hE]; rfl
  have hbe : isE p e = true := by rw [he2]; exact isE_iff.2 (evK_bd hp x y z M M.length)
  have hE3 : isE3 p (if v = 0 then e else x) (if v = 1 then e else y) (if v = 2 then e else z) = true := by
    unfold isE3 at hE ⊢
    simp only [Bool.and_eq_true] at hE ⊢
    rcases hv3 with rfl | rfl | rfl <;> simp [hbe, hE.1, hE.2.1, hE.2.2]
  refine ⟨hE3, ?_⟩
  unfold evV
  rw [hp, vL, vS, hE, hE3]
  simp only [Bool.and_self, if_true]
  exact (put_ev hp hv3 vM he2.symm hs).symm
end Go.Proofs.Ytegkcfinklcglaa
