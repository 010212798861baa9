/-
  DivideLine of both: the program finds out by a panic that the divisor is 0, and recovers. Conditions: what the slices hold is known.
  DivideLine of the model. Conditions: what the slices hold is known.
  Marks in two results of a law, the second one above the first one. Conditions: none.
  The walk of the exact law of DivideLine. Conditions: none but that the slices read as lists.
-/
import Derived.Test.YtfmpcniehgipfaaBc15
import Derived.Recover
import Derived.Test.YtfmpcniehgipfaaBc4
namespace Go.Proofs.Ytfmpcniehgipfaa
set_option linter.unusedVariables false
open Go.RowKit
def dlB (p : Int) (L1 L2 : List Int) : Bool := lineB p L1 && (lineB p L2 && decide (L2.length ≠ 0))
def dlQ (p : Int) (L1 L2 : List Int) : List Int := if dlB p L1 L2 = true then divQ p L1 L2 (ivL p L2) else []
def dlR (p : Int) (L1 L2 : List Int) : List Int := if dlB p L1 L2 = true then divR p L1 L2 (ivL p L2) else []
/-- a slice whose block lies below a bound -/
def LieI (v : Value) (L : List Int) (C : Nat) : Prop := L = [] ∨ ∀ g off n c, v = .slice (some ⟨g, off, none⟩) n c → g < C
/-- a call hands back two slices of numbers of its own, the second one above the first one, and a truth value -/
def GivesI2 (A B : List Int) (b : Bool) (w : World) (e : Ending) (w' : World) : Prop :=
  ∃ u r C, e = .returned (.tuple #[u, r, .bool b]) ∧ OwnInts w' w.heap.size u A ∧ LieI u A C ∧ OwnInts w' C r B ∧ w.heap.size ≤ C ∧ Below w.heap.size w w'
theorem RowN.lie {w : World} {B : Nat} {v : Value} {L : List Int} (h : RowN w B v L) {C : Nat} (hC : w.heap.size ≤ C) : LieI v L C := by
  rcases h.shape with ⟨_, h0⟩ | ⟨g, cap, rfl, _, hg, _⟩
  · exact .inl h0
  · refine .inr fun g' off n c e => ?_
    simp only [Value.slice.injEq, Option.some.injEq, Addr.mk.injEq] at e
    omega
set_option maxRecDepth 100000 in
set_option maxHeartbeats 4000000 in
theorem iDividedNo (v1 : Value) (a2 : Option Addr) (c2 : Nat) (w : World) :
    Calls Try.prog 76 #[v1, .slice a2 0 c2] w fun e w' => (∃ u pv, e = .panicked [{ v := .iface u pv, recovered := false }]) ∧ Below w.heap.size w w' := by
  go_enter Try.func76, Try.ntmps76
  go_wp2_with fail
  exact ⟨rfl, ⟨_, _, rfl⟩, (by repeat (first | exact Below.refl _ _ | apply Below.drew | apply below_drewN | (refine Below.alloc ?_ (by first | omega | (simp <;> omega)) _)))⟩
theorem dl_catch (r : Nat) (u : TypeId) (pv : Value) (older : List PanicEntry) (x0 x1 x2 : Value) (w : World) (hc0 : w.cell? ⟨r, 0, none⟩ = some x0) (hz0 : w.frozen? ⟨r, 0, none⟩ = false) (hc1 : w.cell? ⟨r + 1, 0, none⟩ = some x1) (hz1 : w.frozen? ⟨r + 1, 0, none⟩ = false) (hc2 : w.cell? ⟨r + 2, 0, none⟩ = some x2) (hz2 : w.frozen? ⟨r + 2, 0, none⟩ = false) :
    CallsD Try.prog 75 #[.pointer (some ⟨r, 0, none⟩), .pointer (some ⟨r + 1, 0, none⟩), .pointer (some ⟨r + 2, 0, none⟩)] (.panicking ({ v := .iface u pv, recovered := false } :: older)) w fun e u' w' =>
      e = .returned (.tuple #[]) ∧ u' = .panicking ({ v := .iface u pv, recovered := true } :: older) ∧ w' = ((w.setCell ⟨r, 0, none⟩ (.slice none 0 0)).setCell ⟨r + 1, 0, none⟩ (.slice none 0 0)).setCell ⟨r + 2, 0, none⟩ (.bool false) := by
  refine callsD_of_wpS Try.func75 rfl fun c₀ cs hu => ?_
  apply wpS_seq
  apply wpS_region
  simp [wpOpsS, go_sem, recoverD, hu, Try.ntmps75, Exit.thenS]
  refine wpS_cond (t := true) (by simp [Act.eval, Array.replicate]) ?_
  simp only [if_true]
  apply wpS_region
  simp [wpOpsS, go_sem, hc0, hz0, hc1, hz1, hc2, hz2, bodyPostS, results, Try.results75]
theorem dl_idle (r : Nat) (w : World) :
    CallsD Try.prog 75 #[.pointer (some ⟨r, 0, none⟩), .pointer (some ⟨r + 1, 0, none⟩), .pointer (some ⟨r + 2, 0, none⟩)] .returning w fun e u' w' => e = .returned (.tuple #[]) ∧ u' = .returning ∧ w' = w := by
  refine callsD_of_wpS Try.func75 rfl fun c₀ cs hu => ?_
  apply wpS_seq
  apply wpS_region
  simp [wpOpsS, go_sem, recoverD, hu, Try.ntmps75, Exit.thenS]
  refine wpS_cond (t := false) (by simp [Act.eval, Array.replicate]) ?_
  simp only [Bool.false_eq_true, if_false]
  refine wpS_of_wp (wp_skip ?_)
  cases c₀
  simp_all [bodyPostS, results, Try.results75]
/-- the three results' cells -/
structure Res3 (r : Nat) (x0 x1 x2 : Value) (W : World) : Prop where
  c0 : W.cell? ⟨r, 0, none⟩ = some x0
  c1 : W.cell? ⟨r + 1, 0, none⟩ = some x1
  c2 : W.cell? ⟨r + 2, 0, none⟩ = some x2
  f0 : W.frozen? ⟨r, 0, none⟩ = false
  f1 : W.frozen? ⟨r + 1, 0, none⟩ = false
  f2 : W.frozen? ⟨r + 2, 0, none⟩ = false
theorem Res3.lt {r : Nat} {x0 x1 x2 : Value} {W : World} (h : Res3 r x0 x1 x2 W) : r + 2 < W.heap.size := World.block_lt_of_cell? _ ⟨r + 2, 0, none⟩ h.c2
theorem Res3.below {r : Nat} {x0 x1 x2 : Value} {W W' : World} (h : Res3 r x0 x1 x2 W) (hb : Below W.heap.size W W') : Res3 r x0 x1 x2 W' := by
  have hl := h.lt
  refine ⟨(hb.cell (p := ⟨r, 0, none⟩) (by show r < _; omega)).trans h.c0, (hb.cell (p := ⟨r + 1, 0, none⟩) (by show r + 1 < _; omega)).trans h.c1, (hb.cell (p := ⟨r + 2, 0, none⟩) hl).trans h.c2, (hb.frozen (p := ⟨r, 0, none⟩) (by show r < _; omega)).trans h.f0, (hb.frozen (p := ⟨r + 1, 0, none⟩) (by show r + 1 < _; omega)).trans h.f1, (hb.frozen (p := ⟨r + 2, 0, none⟩) hl).trans h.f2⟩
/-- the results are laid -/
def set3 (W : World) (r : Nat) (y0 y1 y2 : Value) : World := ((W.setCell ⟨r, 0, none⟩ y0).setCell ⟨r + 1, 0, none⟩ y1).setCell ⟨r + 2, 0, none⟩ y2
theorem Res3.set {r : Nat} {x0 x1 x2 : Value} {W : World} (h : Res3 r x0 x1 x2 W) (y0 y1 y2 : Value) : Res3 r y0 y1 y2 (set3 W r y0 y1 y2) := by
  have ne : ∀ a b : Nat, a ≠ b → (⟨a, 0, none⟩ : Addr) ≠ ⟨b, 0, none⟩ := fun a b q e => q (congrArg Addr.block e)
  have a1 : (W.setCell ⟨r, 0, none⟩ y0).cell? ⟨r + 1, 0, none⟩ = some x1 := (World.cell?_setCell_other _ _ _ _ (ne _ _ (by omega))).trans h.c1
  have a2 : ((W.setCell ⟨r, 0, none⟩ y0).setCell ⟨r + 1, 0, none⟩ y1).cell? ⟨r + 2, 0, none⟩ = some x2 := (World.cell?_setCell_other _ _ _ _ (ne _ _ (by omega))).trans ((World.cell?_setCell_other _ _ _ _ (ne _ _ (by omega))).trans h.c2)
  unfold set3
  refine ⟨?_, ?_, World.cell?_setCell_same _ _ _ a2, ?_, ?_, ?_⟩
  · rw [World.cell?_setCell_other _ _ _ _ (ne _ _ (by omega)), World.cell?_setCell_other _ _ _ _ (ne _ _ (by omega))]
    exact World.cell?_setCell_same _ _ _ h.c0
  · rw [World.cell?_setCell_other _ _ _ _ (ne _ _ (by omega))]
    exact World.cell?_setCell_same _ _ _ a1
  · rw [World.frozen?_setCell, World.frozen?_setCell, World.frozen?_setCell]; exact h.f0
  · rw [World.frozen?_setCell, World.frozen?_setCell, World.frozen?_setCell]; exact h.f1
  · rw [World.frozen?_setCell, World.frozen?_setCell, World.frozen?_setCell]; exact h.f2
theorem below_set3 {B r : Nat} {w W : World} {y0 y1 y2 : Value} (h : Below B w W) (hr : B ≤ r) : Below B w (set3 W r y0 y1 y2) :=
  ((h.setCell (p := ⟨r, 0, none⟩) hr _).setCell (p := ⟨r + 1, 0, none⟩) (by show B ≤ r + 1; omega) _).setCell (p := ⟨r + 2, 0, none⟩) (by show B ≤ r + 2; omega) _
theorem ownI_set3 {B r : Nat} {W : World} {v : Value} {L : List Int} (h : OwnInts W B v L) (hr : r + 2 < B) (y0 y1 y2 : Value) : OwnInts (set3 W r y0 y1 y2) B v L := by
  obtain ⟨h1, a, cap, hv, h2⟩ := h
  refine ⟨h1, a, cap, hv, ?_⟩
  rcases h2 with h2 | ⟨g, off, ha, hB, hg, hc, hf⟩
  · exact .inl h2
  · have e : (set3 W r y0 y1 y2).heap[g]? = W.heap[g]? := by
      unfold set3
      rw [Below.heap_setCell _ _ _ _ (show g ≠ r + 2 by omega), Below.heap_setCell _ _ _ _ (show g ≠ r + 1 by omega), Below.heap_setCell _ _ _ _ (show g ≠ r by omega)]
    exact .inr ⟨g, off, ha, hB, by simpa [set3] using hg, fun j hj => (cell_of_heap (p := ⟨g, off + j, none⟩) e).trans (hc j hj), fun j hj => (frozen_of_heap (p := ⟨g, off + j, none⟩) e).trans (hf j hj)⟩
theorem ownI_down {w : World} {B B' : Nat} {v : Value} {L : List Int} (h : OwnInts w B v L) (hB : B' ≤ B) : OwnInts w B' v L := by
  obtain ⟨h1, a, cap, hv, h2⟩ := h
  refine ⟨h1, a, cap, hv, ?_⟩
  rcases h2 with h2 | ⟨g, off, ha, hb, r⟩
  · exact .inl h2
  · exact .inr ⟨g, off, ha, by omega, r⟩
theorem gives_no {w W : World} (hb : Below w.heap.size w W) : GivesI2 [] [] false w (.returned (.tuple #[.slice none 0 0, .slice none 0 0, .bool false])) (set3 W w.heap.size (.slice none 0 0) (.slice none 0 0) (.bool false)) :=
  ⟨_, _, w.heap.size, rfl, ⟨by simp, none, 0, rfl, .inl rfl⟩, .inl rfl, ⟨by simp, none, 0, rfl, .inl rfl⟩, Nat.le_refl _, below_set3 hb (Nat.le_refl _)⟩
set_option maxRecDepth 100000 in
set_option maxHeartbeats 4000000 in
theorem iDivideLine (p : Int) (v1 v2 : Value) (L1 L2 : List Int) (w : World) (h1 : Ints w v1 L1) (h2 : Ints w v2 L2) (hl1 : L1.length ≤ 1048576) (hl2 : L2.length ≤ 1048576) :
    Calls Try.prog 31 #[.int .i64 p, v1, v2] w (GivesI2 (dlQ p L1 L2) (dlR p L1 L2) (dlB p L1 L2) w) := by
  have hmf : ∀ (fn : Fn) (first cap : Array Value) (w : World), (Instr.makeFunc fn first cap).run Try.prog w = .ok (.func fn first cap) w := fun _ _ _ _ => rfl
  obtain ⟨W0, hW0⟩ : ∃ W0, W0 = (((w.alloc (Obj.cells #[.slice none 0 0] 22)).alloc (Obj.cells #[.slice none 0 0] 22)).alloc (Obj.cells #[.bool false] 4)) := ⟨_, rfl⟩
  have hb0 : Below w.heap.size w W0 := by rw [hW0]; exact (by repeat (first | exact Below.refl _ _ | apply Below.drew | apply below_drewN | (refine Below.alloc ?_ (by first | omega | (simp <;> omega)) _)))
  have HB0 := Lib.hid hb0
  have HR0 := Lib.hid (show Res3 w.heap.size (.slice none 0 0) (.slice none 0 0) (.bool false) W0 from by rw [hW0]; constructor <;> simp [go_sem])
  have HV1 := Lib.hid (iLineValid p v1 L1 W0 (h1.below hb0) hl1)
  have HV2 := Lib.hid (iLineValid p v2 L2 W0 (h2.below hb0) hl2)
  have fail0 : dlB p L1 L2 = false → dlQ p L1 L2 = [] ∧ dlR p L1 L2 = [] := fun h => by unfold dlQ dlR; rw [h]; exact ⟨rfl, rfl⟩
  cases hB1 : lineB p L1
  · have hdl : dlB p L1 L2 = false := by unfold dlB; rw [hB1]; rfl
    have HV := Lib.hid (fail0 hdl)
    rw [hB1] at HV1
    rw [HV.out.1, HV.out.2, hdl]
    obtain ⟨c0, c1, c2, f0, f1, f2⟩ := HR0.out
    have HW := Lib.hid hW0
    clear hB1 h1 h2 hb0 hdl hW0 fail0
    go_enter_defers Try.func31, Try.ntmps31
    go_wp2_with fail
    rw [← HW.out]
    refine HV1.out.mono ?_
    rintro e w2 ⟨rfl, rfl⟩
    go_wp2_with fail
    have hQ := HR0.out.set (.slice none 0 0) (.slice none 0 0) (.bool false)
    show bodyPostD Try.prog Try.f31 _ Exit.ret _ (set3 W0 w.heap.size (.slice none 0 0) (.slice none 0 0) (.bool false))
    obtain ⟨d0, d1, d2, _, _, _⟩ := hQ
    refine ⟨.tuple #[.slice none 0 0, .slice none 0 0, .bool false], ?_, gives_no HB0.out⟩
    simp [results, Try.results31, go_sem, d0, d1, d2]
  · cases hB2 : lineB p L2
    · have hdl : dlB p L1 L2 = false := by unfold dlB; rw [hB1, hB2]; rfl
      have HV := Lib.hid (fail0 hdl)
      rw [hB1] at HV1
      rw [hB2] at HV2
      rw [HV.out.1, HV.out.2, hdl]
      obtain ⟨c0, c1, c2, f0, f1, f2⟩ := HR0.out
      have HW := Lib.hid hW0
      clear hB1 hB2 h1 h2 hb0 hdl hW0 fail0
      go_enter_defers Try.func31, Try.ntmps31
      go_wp2_with fail
      rw [← HW.out]
      refine HV1.out.mono ?_
      rintro e w2 ⟨rfl, rfl⟩
      go_wp2_with fail
      refine HV2.out.mono ?_
      rintro e w2 ⟨rfl, rfl⟩
      go_wp2_with fail
      have hQ := HR0.out.set (.slice none 0 0) (.slice none 0 0) (.bool false)
      show bodyPostD Try.prog Try.f31 _ Exit.ret _ (set3 W0 w.heap.size (.slice none 0 0) (.slice none 0 0) (.bool false))
      obtain ⟨d0, d1, d2, _, _, _⟩ := hQ
      refine ⟨.tuple #[.slice none 0 0, .slice none 0 0, .bool false], ?_, gives_no HB0.out⟩
      simp [results, Try.results31, go_sem, d0, d1, d2]
    · obtain ⟨hp, e1, l1, k1⟩ := lineB_iff.1 hB1
      obtain ⟨_, e2, l2, k2⟩ := lineB_iff.1 hB2
      obtain ⟨hpb1, hpb2⟩ := isP_bd hp
      have HO1 := Lib.hid (fun w' (hb : Below W0.heap.size W0 w') => iLineOf p v1 L1 w' ((h1.below hb0).below hb) (by omega))
      have HO2 := Lib.hid (fun w' (hb : Below W0.heap.size W0 w') => iLineOf p v2 L2 w' ((h2.below hb0).below hb) (by omega))
      have HLN := Lib.hid (And.intro l1 l2)
      rw [hB1] at HV1
      rw [hB2] at HV2
      by_cases h20 : L2.length = 0
      · have hdl : dlB p L1 L2 = false := by unfold dlB; rw [hB1, hB2]; simp [h20]
        have HV := Lib.hid (fail0 hdl)
        rw [HV.out.1, HV.out.2, hdl]
        have HLZ := Lib.hid h20
        have HW := Lib.hid hW0
        obtain ⟨c0, c1, c2, f0, f1, f2⟩ := HR0.out
        clear hB1 hB2 h1 h2 hb0 hdl hW0 fail0 hp e1 e2 k1 k2 l1 l2 h20 c0 c1 c2 f0 f1 f2
        go_enter_defers Try.func31, Try.ntmps31
        go_wp2_with fail
        rw [← HW.out]
        refine HV1.out.mono ?_
        rintro e w2 ⟨rfl, rfl⟩
        go_wp2_with fail
        refine HV2.out.mono ?_
        rintro e w2 ⟨rfl, rfl⟩
        go_wp2_with fail
        refine (HO1.out _ (Below.refl _ _)).mono ?_
        rintro e w3 ⟨u3, rfl, hu3, hb3⟩
        have HB3 := Lib.hid hb3
        clear hu3 hb3
        go_wp2_with fail
        refine (HO2.out _ HB3.out).mono ?_
        rintro e w4 ⟨u4, rfl, hu4, hb4⟩
        have HB4 := Lib.hid (show Below W0.heap.size W0 w4 from HB3.out.trans (hb4.mono HB3.out.size))
        obtain ⟨a4, c4, rfl⟩ := (hu4.elr (by have := HLN.out; omega)).form
        clear hu4 hb4
        rw [HLZ.out]
        go_wp2_with fail
        refine (iDividedNo u3 a4 c4 w4).mono ?_
        rintro e w5 ⟨⟨u, pv, rfl⟩, hb5⟩
        have HB5 := Lib.hid (show Below W0.heap.size W0 w5 from HB4.out.trans (hb5.mono HB4.out.size))
        clear hb5
        go_wp2_with fail
        have HR5 := Lib.hid (HR0.out.below HB5.out)
        refine leaves_cons (f := 75) (args := #[.pointer (some ⟨w.heap.size, 0, none⟩), .pointer (some ⟨w.heap.size + 1, 0, none⟩), .pointer (some ⟨w.heap.size + 2, 0, none⟩)]) (by simp) (by simp [go_sem]) ?_
        refine (dl_catch w.heap.size u pv [] _ _ _ w5 HR5.out.c0 HR5.out.f0 HR5.out.c1 HR5.out.f1 HR5.out.c2 HR5.out.f2).mono ?_
        rintro e u' w'' ⟨rfl, rfl, rfl⟩
        have hQ := HR5.out.set (.slice none 0 0) (.slice none 0 0) (.bool false)
        have HBW := HB0.out.trans (HB5.out.mono HB0.out.size)
        obtain ⟨d0, d1, d2, _, _, _⟩ := hQ
        refine ⟨.tuple #[.slice none 0 0, .slice none 0 0, .bool false], ?_, gives_no HBW⟩
        show (results Try.f31 _).run Try.prog (set3 w5 w.heap.size (.slice none 0 0) (.slice none 0 0) (.bool false)) = _
        simp [results, Try.results31, go_sem, d0, d1, d2]
        rfl
      · have hdl : dlB p L1 L2 = true := by unfold dlB; rw [hB1, hB2]; simp; intro e; rw [e] at h20; exact h20 rfl
        have HV := Lib.hid (show dlQ p L1 L2 = divQ p L1 L2 (ivL p L2) ∧ dlR p L1 L2 = divR p L1 L2 (ivL p L2) from by unfold dlQ dlR; rw [hdl]; exact ⟨rfl, rfl⟩)
        rw [HV.out.1, HV.out.2, hdl]
        have HDV := Lib.hid (fun x1 x2 w' (q1 : Elr w' x1 p L1) (q2 : Elr w' x2 p L2) => iDivided p x1 x2 L1 L2 w' hp q1 q2 e1 e2 k2 (by omega) (by omega) (by omega))
        have hq : (divQ p L1 L2 (ivL p L2)).length ≤ 100 := by rw [divQ_len]; unfold dvN; omega
        have hr : (divR p L1 L2 (ivL p L2)).length ≤ 100 := by
          have := divR_len (show 1 < p by omega) e1 (iv_ok hp k2 e2 (by omega))
          omega
        have HLQ := Lib.hid (And.intro hq hr)
        obtain ⟨Q, hQ⟩ : ∃ Q, Q = divQ p L1 L2 (ivL p L2) := ⟨_, rfl⟩
        obtain ⟨R, hR⟩ : ∃ R, R = divR p L1 L2 (ivL p L2) := ⟨_, rfl⟩
        rw [← hQ, ← hR] at HDV HLQ ⊢
        have HW := Lib.hid hW0
        clear hB1 hB2 h1 h2 hb0 hdl hW0 fail0 hp e1 e2 k1 k2 l1 l2 h20 hq hr hQ hR HV
        go_enter_defers Try.func31, Try.ntmps31
        go_wp2_with fail
        rw [← HW.out]
        refine HV1.out.mono ?_
        rintro e w2 ⟨rfl, rfl⟩
        go_wp2_with fail
        refine HV2.out.mono ?_
        rintro e w2 ⟨rfl, rfl⟩
        go_wp2_with fail
        refine (HO1.out _ (Below.refl _ _)).mono ?_
        rintro e w3 ⟨u3, rfl, hu3, hb3⟩
        have HB3 := Lib.hid hb3
        have HU3 := Lib.hid (hu3.elr (by have := HLN.out; omega))
        clear hu3 hb3
        go_wp2_with fail
        refine (HO2.out _ HB3.out).mono ?_
        rintro e w4 ⟨u4, rfl, hu4, hb4⟩
        have HB4 := Lib.hid (show Below W0.heap.size W0 w4 from HB3.out.trans (hb4.mono HB3.out.size))
        have HU4 := Lib.hid (And.intro (HU3.out.below hb4) (hu4.elr (by have := HLN.out; omega)))
        clear hu4 hb4
        go_wp2_with fail
        refine (HDV.out _ _ _ HU4.out.1 HU4.out.2).mono ?_
        rintro e w5 ⟨u5, r5, rfl, hq5, hr5, hb5⟩
        have HB5 := Lib.hid (show Below W0.heap.size W0 w5 from HB4.out.trans (hb5.mono HB4.out.size))
        have HQ5 := Lib.hid (And.intro hq5 hr5)
        clear hq5 hr5 hb5
        go_wp2_with fail
        refine (iNumbersOf p _ Q _ HQ5.out.1 (by have := HLQ.out; omega)).mono ?_
        rintro e w6 ⟨u6, rfl, hu6, hb6⟩
        have HB6 := Lib.hid (show Below W0.heap.size W0 w6 from HB5.out.trans (hb6.mono HB5.out.size))
        have HU6 := Lib.hid (And.intro (hu6.base HB5.out.size) (HQ5.out.2.below hb6))
        clear hu6 hb6
        go_wp2_with fail
        refine (iNumbersOf p _ R _ HU6.out.2 (by have := HLQ.out; omega)).mono ?_
        rintro e w7 ⟨u7, rfl, hu7, hb7⟩
        have HB7 := Lib.hid (show Below W0.heap.size W0 w7 from HB6.out.trans (hb7.mono HB6.out.size))
        have HU7 := Lib.hid (show OwnInts w7 W0.heap.size u6 Q ∧ LieI u6 Q w6.heap.size ∧ OwnInts w7 w6.heap.size u7 R from ⟨(HU6.out.1.own (by have := HLQ.out; omega)).below hb7, HU6.out.1.lie (Nat.le_refl _), hu7.own (by have := HLQ.out; omega)⟩)
        have HZ6 := Lib.hid HB6.out.size
        clear hu7 hb7
        obtain ⟨a6, c6, rfl⟩ : ∃ a c, u6 = .slice a Q.length c := by obtain ⟨_, a, c, h, _⟩ := HU7.out.1; exact ⟨a, c, h⟩
        obtain ⟨a7, c7, rfl⟩ : ∃ a c, u7 = .slice a R.length c := by obtain ⟨_, a, c, h, _⟩ := HU7.out.2.2; exact ⟨a, c, h⟩
        have HR7 := Lib.hid (HR0.out.below HB7.out)
        obtain ⟨c0, c1, c2, f0, f1, f2⟩ := HR7.out
        go_wp2_with fail
        clear c0 c1 c2 f0 f1 f2
        have hlt0 := HR0.out.lt
        have HSET := Lib.hid (show GivesI2 Q R true w (.returned (.tuple #[.slice a6 Q.length c6, .slice a7 R.length c7, .bool true])) (set3 w7 w.heap.size (.slice a6 Q.length c6) (.slice a7 R.length c7) (.bool true)) from
          ⟨_, _, w6.heap.size, rfl, ownI_down (ownI_set3 HU7.out.1 hlt0 _ _ _) HB0.out.size, HU7.out.2.1, ownI_set3 HU7.out.2.2 (Nat.lt_of_lt_of_le hlt0 HZ6.out) _ _ _, Nat.le_trans HB0.out.size HZ6.out, below_set3 (HB0.out.trans (HB7.out.mono HB0.out.size)) (Nat.le_refl _)⟩)
        refine leaves_cons (f := 75) (args := #[.pointer (some ⟨w.heap.size, 0, none⟩), .pointer (some ⟨w.heap.size + 1, 0, none⟩), .pointer (some ⟨w.heap.size + 2, 0, none⟩)]) (by simp) (by simp [go_sem]) ?_
        refine (dl_idle w.heap.size _).mono ?_
        rintro e u' w'' ⟨rfl, rfl, rfl⟩
        have hQ := HR7.out.set (.slice a6 Q.length c6) (.slice a7 R.length c7) (.bool true)
        obtain ⟨d0, d1, d2, _, _, _⟩ := hQ
        refine ⟨.tuple #[.slice a6 Q.length c6, .slice a7 R.length c7, .bool true], ?_, HSET.out⟩
        show (results Try.f31 _).run Try.prog (set3 w7 w.heap.size (.slice a6 Q.length c6) (.slice a7 R.length c7) (.bool true)) = _
        simp [results, Try.results31, go_sem, d0, d1, d2]
        rfl
end Go.Proofs.Ytfmpcniehgipfaa
namespace Go.Proofs.Ytfmpcniehgipfaa
set_option linter.unusedVariables false
open Go.RowKit
set_option maxRecDepth 100000 in
set_option maxHeartbeats 4000000 in
theorem sDivideLine (p : Int) (v1 v2 : Value) (L1 L2 : List Int) (w : World) (h1 : Ints w v1 L1) (h2 : Ints w v2 L2) (hl1 : L1.length ≤ 1048576) (hl2 : L2.length ≤ 1048576) :
    Calls Try.prog 30 #[.int .i64 p, v1, v2] w (GivesI2 (dlQ p L1 L2) (dlR p L1 L2) (dlB p L1 L2) w) := by
  have HV1 := Lib.hid (sLineValid p v1 L1 w h1 hl1)
  have HV2 := Lib.hid (sLineValid p v2 L2 w h2 hl2)
  have fail0 : dlB p L1 L2 = false → dlQ p L1 L2 = [] ∧ dlR p L1 L2 = [] := fun h => by unfold dlQ dlR; rw [h]; exact ⟨rfl, rfl⟩
  have HE1 := Lib.hid (show Below w.heap.size w ((w.alloc (Obj.cells #[] 3)).alloc (Obj.cells #[] 3)) from (by repeat (first | exact Below.refl _ _ | apply Below.drew | apply below_drewN | (refine Below.alloc ?_ (by first | omega | (simp <;> omega)) _))))
  have HNO := Lib.hid (show GivesI2 [] [] false w (.returned (.tuple #[.slice (some ⟨w.heap.size, 0, none⟩) 0 0, .slice (some ⟨w.heap.size + 1, 0, none⟩) 0 0, .bool false])) ((w.alloc (Obj.cells #[] 3)).alloc (Obj.cells #[] 3)) from
    ⟨_, _, w.heap.size, rfl, ⟨by simp, _, 0, rfl, .inl rfl⟩, .inl rfl, ⟨by simp, _, 0, rfl, .inl rfl⟩, Nat.le_refl _, HE1.out⟩)
  cases hB1 : lineB p L1
  · have hdl : dlB p L1 L2 = false := by unfold dlB; rw [hB1]; rfl
    have HV := Lib.hid (fail0 hdl)
    rw [hB1] at HV1
    rw [HV.out.1, HV.out.2, hdl]
    clear hB1 h1 h2 hdl fail0
    go_enter Try.func30, Try.ntmps30
    go_wp2_with fail
    refine HV1.out.mono ?_
    rintro e w2 ⟨rfl, rfl⟩
    go_wp2_with fail
    refine bodyPost_ret (v := .tuple #[.slice (some ⟨w.heap.size, 0, none⟩) 0 0, .slice (some ⟨w.heap.size + 1, 0, none⟩) 0 0, .bool false]) (by simp [results, Try.results30, go_sem]) rfl HNO.out
  · cases hB2 : lineB p L2
    · have hdl : dlB p L1 L2 = false := by unfold dlB; rw [hB1, hB2]; rfl
      have HV := Lib.hid (fail0 hdl)
      rw [hB1] at HV1
      rw [hB2] at HV2
      rw [HV.out.1, HV.out.2, hdl]
      clear hB1 hB2 h1 h2 hdl fail0
      go_enter Try.func30, Try.ntmps30
      go_wp2_with fail
      refine HV1.out.mono ?_
      rintro e w2 ⟨rfl, rfl⟩
      go_wp2_with fail
      refine HV2.out.mono ?_
      rintro e w2 ⟨rfl, rfl⟩
      go_wp2_with fail
      refine bodyPost_ret (v := .tuple #[.slice (some ⟨w.heap.size, 0, none⟩) 0 0, .slice (some ⟨w.heap.size + 1, 0, none⟩) 0 0, .bool false]) (by simp [results, Try.results30, go_sem]) rfl HNO.out
    · obtain ⟨hp, e1, l1, k1⟩ := lineB_iff.1 hB1
      obtain ⟨_, e2, l2, k2⟩ := lineB_iff.1 hB2
      obtain ⟨hpb1, hpb2⟩ := isP_bd hp
      rw [hB1] at HV1
      rw [hB2] at HV2
      have hv2 := h2
      obtain ⟨_, a2, c2, rfl, _⟩ := hv2
      by_cases h20 : L2.length = 0
      · have hdl : dlB p L1 L2 = false := by unfold dlB; rw [hB1, hB2]; simp [h20]
        have HV := Lib.hid (fail0 hdl)
        rw [HV.out.1, HV.out.2, hdl]
        rw [h20] at HV2 ⊢
        clear hB1 hB2 h1 h2 hdl fail0 hp e1 e2 k1 k2 l1 l2 h20 hl2
        go_enter Try.func30, Try.ntmps30
        go_wp2_with fail
        refine HV1.out.mono ?_
        rintro e w2 ⟨rfl, rfl⟩
        go_wp2_with fail
        refine HV2.out.mono ?_
        rintro e w2 ⟨rfl, rfl⟩
        go_wp2_with fail
        refine bodyPost_ret (v := .tuple #[.slice (some ⟨w.heap.size, 0, none⟩) 0 0, .slice (some ⟨w.heap.size + 1, 0, none⟩) 0 0, .bool false]) (by simp [results, Try.results30, go_sem]) rfl HNO.out
      · have hdl : dlB p L1 L2 = true := by unfold dlB; rw [hB1, hB2]; simp; intro e; rw [e] at h20; exact h20 rfl
        have HV := Lib.hid (show dlQ p L1 L2 = divQ p L1 L2 (ivL p L2) ∧ dlR p L1 L2 = divR p L1 L2 (ivL p L2) from by unfold dlQ dlR; rw [hdl]; exact ⟨rfl, rfl⟩)
        rw [HV.out.1, HV.out.2, hdl]
        have HDV := Lib.hid (sDivide p v1 (.slice a2 L2.length c2) L1 L2 w hp h1 h2 e1 e2 k1 k2 (by omega) (by omega) (by omega))
        have hq : (divQ p L1 L2 (ivL p L2)).length ≤ 100 := by rw [divQ_len]; unfold dvN; omega
        have hr : (divR p L1 L2 (ivL p L2)).length ≤ 100 := by
          have := divR_len (show 1 < p by omega) e1 (iv_ok hp k2 e2 (by omega))
          omega
        have HLQ := Lib.hid (And.intro hq hr)
        obtain ⟨Q, hQ⟩ : ∃ Q, Q = divQ p L1 L2 (ivL p L2) := ⟨_, rfl⟩
        obtain ⟨R, hR⟩ : ∃ R, R = divR p L1 L2 (ivL p L2) := ⟨_, rfl⟩
        rw [← hQ, ← hR] at HDV HLQ ⊢
        have hne0 : ((L2.length : Int) == 0) = false := beq_eq_false_iff_ne.2 (by omega)
        clear hB1 hB2 h1 h2 hdl fail0 hp e1 e2 k1 k2 l1 l2 h20 hq hr hQ hR HV
        go_enter Try.func30, Try.ntmps30
        go_wp2_with fail
        refine HV1.out.mono ?_
        rintro e w2 ⟨rfl, rfl⟩
        go_wp2_with fail
        refine HV2.out.mono ?_
        rintro e w2 ⟨rfl, rfl⟩
        go_wp2_with fail
        refine HDV.out.mono ?_
        rintro e w3 ⟨u3, r3, rfl, hu3, hr3, hb3⟩
        have HU3 := Lib.hid (And.intro hu3 (And.intro hr3 hb3))
        obtain ⟨_, ar, cr, rfl, _⟩ := hr3
        have HE3 := Lib.hid (RowN.empty w3 (Nat.le_refl _))
        have HBE := Lib.hid (show Below w3.heap.size w3 (w3.alloc (Obj.cells #[] 3)) from Below.alloc (Below.refl _ _) (Nat.le_refl _) _)
        have HRD := Lib.hid (rd_past HU3.out.2.1.rd HBE.out)
        clear hu3 hb3
        go_wp2_with (at_builtin; refine wpL_copyN _ rfl _ _ rfl w3.heap.size _ rfl HE3.out _ _ R rfl (by have := HLQ.out; omega) HRD.out (by simp) ?_)
        intro v5 w5 hr5 hg5
        have hb5 : Below w3.heap.size w3 w5 := HBE.out.grown hg5 HBE.out.size (fun j hj => (HE3.out.lt j hj).1)
        have H5 := Lib.hid (show GivesI2 Q R true w (.returned (.tuple #[u3, v5, .bool true])) w5 from
          ⟨_, _, w3.heap.size, rfl, (HU3.out.1.own (by have := HLQ.out; omega)).below hb5, HU3.out.1.lie (Nat.le_refl _), hr5.own (by have := HLQ.out; omega), HU3.out.2.2.size, HU3.out.2.2.trans (hb5.mono HU3.out.2.2.size)⟩)
        clear hr5 hg5 hb5
        go_wp2_with fail
        refine bodyPost_ret (v := .tuple #[u3, v5, .bool true]) (by simp [results, Try.results30, go_sem]) rfl H5.out
end Go.Proofs.Ytfmpcniehgipfaa
namespace Go.Proofs.Ytfmpcniehgipfaa
set_option linter.unusedVariables false
open Go.RowKit
theorem markIkeep (v : Value) (L : List Int) (B C : Nat) (k : Int) (w : World) (h : OwnInts w B v L) (hC : LieI v L C) (hk0 : 0 ≤ k) (hk1 : k ≤ 1000000000000) :
    Calls Try.prog 28 #[v, .int .i64 k] w fun e w' => e = .returned (.int .i64 (k + (L.length : Nat))) ∧ HeldBy w' B v L.length k ∧ Betw B C w w' := by
  obtain ⟨h1, a, cap, rfl, h2⟩ := h
  have hn : L = [] → Calls Try.prog 28 #[.slice a L.length cap, .int .i64 k] w fun e w' => e = .returned (.int .i64 (k + (L.length : Nat))) ∧ HeldBy w' B (.slice a L.length cap) L.length k ∧ Betw B C w w' := by
    rintro rfl
    refine (markNil a cap k w).mono ?_
    rintro e w' ⟨rfl, rfl⟩
    exact ⟨by simp, ⟨by simp, a, cap, rfl, .inl rfl⟩, rfl, rfl, rfl, rfl, fun _ _ => rfl⟩
  rcases h2 with h2 | ⟨g, off, rfl, hB, hg, hc, hf⟩
  · exact hn h2
  · rcases hC with hC | hC
    · exact hn hC
    · have hgC := hC g off _ _ rfl
      refine (markInts g off L.length cap k w h1 hk0 (by omega) (fun i hi => ⟨_, hc i hi⟩) hf).mono ?_
      rintro e w' ⟨rfl, hM⟩
      exact ⟨rfl, ⟨h1, _, cap, rfl, .inr ⟨g, off, rfl, hB, by rw [hM.size]; exact hg, hM.done⟩⟩, hM.os, hM.tape, hM.output, hM.size, fun b hb => hM.far b (by omega)⟩
theorem HeldBy.lowC {w w' : World} {B C : Nat} {v : Value} {L : List Int} {k : Int} (h : HeldBy w B v L.length k) (hl : LieI v L C) (hb : Below C w w') : HeldBy w' B v L.length k := by
  obtain ⟨h1, a, cap, hv, h2⟩ := h
  refine ⟨h1, a, cap, hv, ?_⟩
  rcases h2 with h2 | ⟨g, off, ha, hB, hg, hc⟩
  · exact .inl h2
  · rcases hl with hl | hl
    · exact .inl (by rw [hl]; rfl)
    · have hgC := hl g off _ _ (by rw [hv, ha])
      exact .inr ⟨g, off, ha, hB, Nat.lt_of_lt_of_le hg hb.size, fun i hi => (hb.cell (p := ⟨g, off + i, none⟩) hgC).trans (hc i hi)⟩
end Go.Proofs.Ytfmpcniehgipfaa
namespace Go.Proofs.Ytfmpcniehgipfaa
set_option linter.unusedVariables false
open Go.RowKit
set_option maxRecDepth 100000 in
set_option maxHeartbeats 8000000 in
theorem xDivideLine_in (a0 : Int) (a1 : Option Addr) (L1 : List Int) (c1 : Nat) (a2 : Option Addr) (L2 : List Int) (c2 : Nat) (r0 r1 : List Int) (r2 : Bool) (w : World) (h1 : Ints w (.slice a1 L1.length c1) L1) (h2 : Ints w (.slice a2 L2.length c2) L2) (hl1 : L1.length ≤ 1048576) (hl2 : L2.length ≤ 1048576)
    (hS : ∀ f1, ∀ f2, ∀ w, Ints w f1 L1 → Ints w f2 L2 → Calls Try.prog 30 #[.int .i64 a0, f1, f2] w (GivesI2 r0 r1 r2 w))
    (hI : ∀ f1, ∀ f2, ∀ w, Ints w f1 L1 → Ints w f2 L2 → Calls Try.prog 31 #[.int .i64 a0, f1, f2] w (GivesI2 r0 r1 r2 w)) :
    Calls Try.prog 6 #[.int .i64 a0, .slice a1 L1.length c1, .slice a2 L2.length c2] w fun e w' => e = .returned (.bool true) ∧ Below w.heap.size w w' := by
  have hng1 : ¬ (L1.length : Int) > 1048576 := by omega
  have Q1 := Lib.hid h1
  have hng2 : ¬ (L2.length : Int) > 1048576 := by omega
  have Q2 := Lib.hid h2
  have n1 : (L1.length : Int) ≤ 1048576 := by omega
  have n2 : (L2.length : Int) ≤ 1048576 := by omega
  clear h1 h2
  have HSP := Lib.hid hS
  have HIM := Lib.hid hI
  clear hS hI
  have bb2 := bne_self2 r2
  go_enter Try.func6, Try.ntmps6
  have B := Lib.hid (Below.refl w.heap.size w)
  go_wp2_with fail
  refine (toIv _ L1 _ (Q1.out.below B.out) hl1).mono ?_
  rintro e W1 ⟨s1, rfl, ho, hb⟩
  have Z1 := Lib.hid hb.size
  replace B := Lib.hid (B.out.trans (hb.mono B.out.size))
  clear hb
  have S1 := Lib.hid ho.ints
  clear ho
  go_wp2_with fail
  refine (toIv _ L2 _ (Q2.out.below B.out) hl2).mono ?_
  rintro e W2 ⟨s2, rfl, ho, hb⟩
  have Z2 := Lib.hid hb.size
  replace B := Lib.hid (B.out.trans (hb.mono B.out.size))
  replace S1 := Lib.hid (S1.out.below hb)
  clear hb
  have S2 := Lib.hid ho.ints
  clear ho
  go_wp2_with fail
  refine (HSP.out _ _ _ S1.out S2.out).mono ?_
  rintro e W3 ⟨v0, v1, Cs, rfl, hv0, _, hv1, _, hb⟩
  have Z3 := Lib.hid hb.size
  replace B := Lib.hid (B.out.trans (hb.mono B.out.size))
  replace S1 := Lib.hid (S1.out.below hb)
  replace S2 := Lib.hid (S2.out.below hb)
  clear hb
  clear S1
  clear S2
  have V0 := Lib.hid hv0.ints
  have V1 := Lib.hid hv1.ints
  have z0 : (r0.length : Int) ≤ 281474976710656 := by have := hv0.1; omega
  have z1 : (r1.length : Int) ≤ 281474976710656 := by have := hv1.1; omega
  clear hv1
  clear hv0
  have X := Lib.hid (Below.refl W3.heap.size W3)
  go_wp2_with fail
  refine (toIv _ L1 _ (Q1.out.below B.out) hl1).mono ?_
  rintro e W4 ⟨x1, rfl, ho, hb⟩
  have Z4 := Lib.hid hb.size
  replace B := Lib.hid (B.out.trans (hb.mono B.out.size))
  replace X := Lib.hid (X.out.trans (hb.mono X.out.size))
  clear hb
  have O1 := Lib.hid ho
  clear ho
  have Y1 := Lib.hid (Below.refl W4.heap.size W4)
  go_wp2_with fail
  refine (toIv _ L2 _ (Q2.out.below B.out) hl2).mono ?_
  rintro e W5 ⟨x2, rfl, ho, hb⟩
  have Z5 := Lib.hid hb.size
  replace B := Lib.hid (B.out.trans (hb.mono B.out.size))
  replace X := Lib.hid (X.out.trans (hb.mono X.out.size))
  replace Y1 := Lib.hid (Y1.out.trans (hb.mono Y1.out.size))
  clear hb
  have O2 := Lib.hid ho
  clear ho
  have Y2 := Lib.hid (Below.refl W5.heap.size W5)
  go_wp2_with fail
  refine (HIM.out _ _ _ (O1.out.ints.below Y1.out) (O2.out.ints.below Y2.out)).mono ?_
  rintro e W6 ⟨g0, g1, CC, rfl, hg0, hlie, hg1, hcc, hb⟩
  have P1 := Lib.hid (show w.heap.size ≤ W3.heap.size ∧ W3.heap.size ≤ W3.heap.size ∧ W4.heap.size ≤ W5.heap.size by have := B.out.size; have := X.out.size; have := Z1.out; have := Z2.out; have := Z3.out; have := Z4.out; have := Z5.out; first | omega | (refine ⟨?_, ?_, ?_⟩ <;> omega))
  have P2 := Lib.hid (show w.heap.size ≤ W4.heap.size ∧ W3.heap.size ≤ W4.heap.size ∧ W5.heap.size ≤ W5.heap.size by have := B.out.size; have := X.out.size; have := Z1.out; have := Z2.out; have := Z3.out; have := Z4.out; have := Z5.out; first | omega | (refine ⟨?_, ?_, ?_⟩ <;> omega))
  have PG := Lib.hid (show w.heap.size ≤ W5.heap.size ∧ W3.heap.size ≤ W5.heap.size by have := Z1.out; have := Z2.out; have := Z3.out; have := Z4.out; have := Z5.out; first | omega | (refine ⟨?_, ?_⟩ <;> omega))
  replace B := Lib.hid (B.out.trans (hb.mono B.out.size))
  replace X := Lib.hid (X.out.trans (hb.mono X.out.size))
  replace Y1 := Lib.hid (Y1.out.trans (hb.mono Y1.out.size))
  replace Y2 := Lib.hid (Y2.out.trans (hb.mono Y2.out.size))
  clear hb
  have G0 := Lib.hid hg0
  have G1 := Lib.hid hg1
  have HCC := Lib.hid hcc
  have LIE := Lib.hid hlie
  clear hg1 hcc hlie
  clear hg0
  go_wp2_with fail
  refine (eqIS g0 v0 r0 _ G0.out.ints (V0.out.below X.out)).mono ?_
  rintro e W7 ⟨rfl, hb⟩
  replace B := Lib.hid (B.out.trans (hb.mono B.out.size))
  replace X := Lib.hid (X.out.trans (hb.mono X.out.size))
  replace Y1 := Lib.hid (Y1.out.trans (hb.mono Y1.out.size))
  replace Y2 := Lib.hid (Y2.out.trans (hb.mono Y2.out.size))
  replace G0 := Lib.hid (G0.out.below hb)
  replace G1 := Lib.hid (G1.out.below hb)
  clear hb
  go_wp2_with fail
  refine (eqIS g1 v1 r1 _ (G1.out.ints) (V1.out.below X.out)).mono ?_
  rintro e W901 ⟨rfl, hb⟩
  replace B := Lib.hid (B.out.trans (hb.mono B.out.size))
  replace X := Lib.hid (X.out.trans (hb.mono X.out.size))
  replace Y1 := Lib.hid (Y1.out.trans (hb.mono Y1.out.size))
  replace Y2 := Lib.hid (Y2.out.trans (hb.mono Y2.out.size))
  replace G0 := Lib.hid (G0.out.below hb)
  replace G1 := Lib.hid (G1.out.below hb)
  clear hb
  go_wp2_with fail
  refine (toIv _ L1 _ (Q1.out.below B.out) hl1).mono ?_
  rintro e W8 ⟨y1, rfl, ho, hb⟩
  replace B := Lib.hid (B.out.trans (hb.mono B.out.size))
  replace X := Lib.hid (X.out.trans (hb.mono X.out.size))
  replace Y1 := Lib.hid (Y1.out.trans (hb.mono Y1.out.size))
  replace Y2 := Lib.hid (Y2.out.trans (hb.mono Y2.out.size))
  replace G0 := Lib.hid (G0.out.below hb)
  replace G1 := Lib.hid (G1.out.below hb)
  clear hb
  have S1 := Lib.hid ho.ints
  clear ho
  go_wp2_with fail
  refine (eqIS x1 y1 L1 _ (O1.out.ints.below Y1.out) S1.out).mono ?_
  rintro e W9 ⟨rfl, hb⟩
  clear S1
  replace B := Lib.hid (B.out.trans (hb.mono B.out.size))
  replace X := Lib.hid (X.out.trans (hb.mono X.out.size))
  replace Y1 := Lib.hid (Y1.out.trans (hb.mono Y1.out.size))
  replace Y2 := Lib.hid (Y2.out.trans (hb.mono Y2.out.size))
  replace G0 := Lib.hid (G0.out.below hb)
  replace G1 := Lib.hid (G1.out.below hb)
  clear hb
  go_wp2_with fail
  refine (toIv _ L2 _ (Q2.out.below B.out) hl2).mono ?_
  rintro e W10 ⟨y2, rfl, ho, hb⟩
  replace B := Lib.hid (B.out.trans (hb.mono B.out.size))
  replace X := Lib.hid (X.out.trans (hb.mono X.out.size))
  replace Y1 := Lib.hid (Y1.out.trans (hb.mono Y1.out.size))
  replace Y2 := Lib.hid (Y2.out.trans (hb.mono Y2.out.size))
  replace G0 := Lib.hid (G0.out.below hb)
  replace G1 := Lib.hid (G1.out.below hb)
  clear hb
  have S2 := Lib.hid ho.ints
  clear ho
  go_wp2_with fail
  refine (eqIS x2 y2 L2 _ (O2.out.ints.below Y2.out) S2.out).mono ?_
  rintro e W11 ⟨rfl, hb⟩
  clear S2
  replace B := Lib.hid (B.out.trans (hb.mono B.out.size))
  replace X := Lib.hid (X.out.trans (hb.mono X.out.size))
  replace Y1 := Lib.hid (Y1.out.trans (hb.mono Y1.out.size))
  replace Y2 := Lib.hid (Y2.out.trans (hb.mono Y2.out.size))
  replace G0 := Lib.hid (G0.out.below hb)
  replace G1 := Lib.hid (G1.out.below hb)
  clear hb
  go_wp2_with fail
  refine (markIsame x1 L1 _ (1) W4 _ O1.out (same_of Y1.out) (by omega) (by omega)).mono ?_
  rintro e W12 ⟨rfl, hb⟩
  have E1 := Lib.hid hb
  replace B := Lib.hid (B.out.trans (hb.low.mono P1.out.1))
  replace X := Lib.hid (X.out.trans (hb.low.mono P1.out.2.1))
  replace G0 := Lib.hid (G0.out.betw' P1.out.2.2 hb)
  replace G1 := Lib.hid (G1.out.betw' (Nat.le_trans P1.out.2.2 HCC.out) hb)
  clear hb
  go_wp2_with fail
  refine (markIsame x2 L2 _ (1 + (L1.length : Nat)) W5 _ O2.out ((same_of Y2.out).betw E1.out) (by omega) (by omega)).mono ?_
  rintro e W13 ⟨rfl, hb⟩
  replace B := Lib.hid (B.out.trans (hb.low.mono P2.out.1))
  replace X := Lib.hid (X.out.trans (hb.low.mono P2.out.2.1))
  replace G0 := Lib.hid (G0.out.betw' P2.out.2.2 hb)
  replace G1 := Lib.hid (G1.out.betw' (Nat.le_trans P2.out.2.2 HCC.out) hb)
  clear hb
  go_wp2_with fail
  refine (eqIS g0 v0 r0 _ G0.out.ints (V0.out.below X.out)).mono ?_
  rintro e W14 ⟨rfl, hb⟩
  replace B := Lib.hid (B.out.trans (hb.mono B.out.size))
  replace X := Lib.hid (X.out.trans (hb.mono X.out.size))
  replace G0 := Lib.hid (G0.out.below hb)
  replace G1 := Lib.hid (G1.out.below hb)
  clear hb
  go_wp2_with fail
  refine (eqIS g1 v1 r1 _ (G1.out.ints) (V1.out.below X.out)).mono ?_
  rintro e W902 ⟨rfl, hb⟩
  replace B := Lib.hid (B.out.trans (hb.mono B.out.size))
  replace X := Lib.hid (X.out.trans (hb.mono X.out.size))
  replace G0 := Lib.hid (G0.out.below hb)
  replace G1 := Lib.hid (G1.out.below hb)
  clear hb
  go_wp2_with fail
  refine (markIkeep g0 r0 _ CC (1) _ G0.out LIE.out (by omega) (by omega)).mono ?_
  rintro e W15 ⟨rfl, hh, hb⟩
  replace B := Lib.hid (B.out.trans (hb.low.mono PG.out.1))
  replace X := Lib.hid (X.out.trans (hb.low.mono PG.out.2))
  replace G1 := Lib.hid (G1.out.betw' (Nat.le_refl _) hb)
  have D0 := Lib.hid hh
  clear hh hb
  go_wp2_with fail
  refine (markOwn g1 r1 _ (1 + (r0.length : Nat)) _ G1.out (by omega) (by omega)).mono ?_
  rintro e W800 ⟨rfl, hh, hb, hs⟩
  replace B := Lib.hid (B.out.trans (hb.mono (Nat.le_trans PG.out.1 HCC.out)))
  replace X := Lib.hid (X.out.trans (hb.mono (Nat.le_trans PG.out.2 HCC.out)))
  replace D0 := Lib.hid (D0.out.lowC LIE.out hb)
  have D1 := Lib.hid hh
  clear hh hb hs
  go_wp2_with fail
  refine (heldIown g0 r0.length _ 1 _ D0.out (by omega) (by omega)).mono ?_
  rintro e W16 ⟨rfl, rfl⟩
  go_wp2_with fail
  refine (heldOwn g1 r1.length _ (1 + (r0.length : Nat)) _ D1.out (by omega) (by omega)).mono ?_
  rintro e W701 ⟨rfl, rfl⟩
  go_wp2_with fail
  refine (toIv _ L1 _ (Q1.out.below B.out) hl1).mono ?_
  rintro e W17 ⟨t1, rfl, ho, hb⟩
  replace B := Lib.hid (B.out.trans (hb.mono B.out.size))
  replace X := Lib.hid (X.out.trans (hb.mono X.out.size))
  replace D0 := Lib.hid (D0.out.below hb)
  replace D1 := Lib.hid (D1.out.below hb)
  clear hb
  have S1 := Lib.hid ho.ints
  clear ho
  go_wp2_with fail
  refine (toIv _ L2 _ (Q2.out.below B.out) hl2).mono ?_
  rintro e W18 ⟨t2, rfl, ho, hb⟩
  replace B := Lib.hid (B.out.trans (hb.mono B.out.size))
  replace X := Lib.hid (X.out.trans (hb.mono X.out.size))
  replace D0 := Lib.hid (D0.out.below hb)
  replace D1 := Lib.hid (D1.out.below hb)
  replace S1 := Lib.hid (S1.out.below hb)
  clear hb
  have S2 := Lib.hid ho.ints
  clear ho
  go_wp2_with fail
  refine (HIM.out _ _ _ S1.out S2.out).mono ?_
  rintro e W19 ⟨t0, t1', Ct, rfl, ht0, _, ht1, _, hb⟩
  replace B := Lib.hid (B.out.trans (hb.mono B.out.size))
  replace X := Lib.hid (X.out.trans (hb.mono X.out.size))
  replace D0 := Lib.hid (D0.out.below hb)
  replace D1 := Lib.hid (D1.out.below hb)
  replace S1 := Lib.hid (S1.out.below hb)
  replace S2 := Lib.hid (S2.out.below hb)
  clear hb
  clear S1
  clear S2
  have T0 := Lib.hid ht0.ints
  have T1' := Lib.hid ht1.ints
  clear ht1
  clear ht0
  go_wp2_with fail
  refine (eqIS t0 v0 r0 _ T0.out (V0.out.below X.out)).mono ?_
  rintro e W20 ⟨rfl, hb⟩
  replace B := Lib.hid (B.out.trans (hb.mono B.out.size))
  replace X := Lib.hid (X.out.trans (hb.mono X.out.size))
  replace D0 := Lib.hid (D0.out.below hb)
  replace D1 := Lib.hid (D1.out.below hb)
  replace T0 := Lib.hid (T0.out.below hb)
  replace T1' := Lib.hid (T1'.out.below hb)
  clear hb
  go_wp2_with fail
  refine (eqIS t1' v1 r1 _ (T1'.out) (V1.out.below X.out)).mono ?_
  rintro e W903 ⟨rfl, hb⟩
  replace B := Lib.hid (B.out.trans (hb.mono B.out.size))
  replace X := Lib.hid (X.out.trans (hb.mono X.out.size))
  replace D0 := Lib.hid (D0.out.below hb)
  replace D1 := Lib.hid (D1.out.below hb)
  replace T0 := Lib.hid (T0.out.below hb)
  replace T1' := Lib.hid (T1'.out.below hb)
  clear hb
  go_wp2_with fail
  refine (heldIown g0 r0.length _ 1 _ D0.out (by omega) (by omega)).mono ?_
  rintro e W21 ⟨rfl, rfl⟩
  go_wp2_with fail
  refine (heldOwn g1 r1.length _ (1 + (r0.length : Nat)) _ D1.out (by omega) (by omega)).mono ?_
  rintro e W702 ⟨rfl, rfl⟩
  go_wp2_with fail
  go_ret
  exact ⟨rfl, B.out⟩
set_option maxHeartbeats 1000000 in
theorem xDivideLine_long0 (a0 : Int) (a1 : Option Addr) (n1 c1 : Nat) (a2 : Option Addr) (n2 c2 : Nat) (w : World) (h1 : 1048576 < n1) :
    Calls Try.prog 6 #[.int .i64 a0, .slice a1 n1 c1, .slice a2 n2 c2] w fun e w' => e = .returned (.bool true) ∧ Below w.heap.size w w' := by
  have hgt : (n1 : Int) > 1048576 := by omega
  clear h1
  go_enter Try.func6, Try.ntmps6
  go_wp2_with fail
  go_ret
  exact ⟨rfl, Below.refl _ _⟩
set_option maxHeartbeats 1000000 in
theorem xDivideLine_long1 (a0 : Int) (a1 : Option Addr) (n1 c1 : Nat) (a2 : Option Addr) (n2 c2 : Nat) (w : World) (k1 : n1 ≤ 1048576) (h1 : 1048576 < n2) :
    Calls Try.prog 6 #[.int .i64 a0, .slice a1 n1 c1, .slice a2 n2 c2] w fun e w' => e = .returned (.bool true) ∧ Below w.heap.size w w' := by
  have hng1 : ¬ (n1 : Int) > 1048576 := by omega
  have hgt : (n2 : Int) > 1048576 := by omega
  clear h1
  go_enter Try.func6, Try.ntmps6
  go_wp2_with fail
  go_ret
  exact ⟨rfl, Below.refl _ _⟩

theorem xDivideLine (a0 : Int) (a1 : Option Addr) (len1 c1 : Nat) (L1 : List Int) (a2 : Option Addr) (len2 c2 : Nat) (L2 : List Int) (w : World) (h1 : RowL w a1 len1 L1) (h2 : RowL w a2 len2 L2) :
    Calls Try.prog 6 #[.int .i64 a0, .slice a1 len1 c1, .slice a2 len2 c2] w fun e w' => e = .returned (.bool true) ∧ Below w.heap.size w w' := by
  by_cases q1 : len1 ≤ 1048576
  · skip
    by_cases q2 : len2 ≤ 1048576
    · skip
      have e1 := h1.1
      have e2 := h2.1
      subst e1 e2
      exact xDivideLine_in a0 a1 L1 c1 a2 L2 c2 (dlQ a0 L1 L2) (dlR a0 L1 L2) (dlB a0 L1 L2) w (h1.ints (by omega)) (h2.ints (by omega)) q1 q2 (fun f1 f2 w k1 k2 => sDivideLine a0 f1 f2 L1 L2 w k1 k2 q1 q2) (fun f1 f2 w k1 k2 => iDivideLine a0 f1 f2 L1 L2 w k1 k2 q1 q2)
    · exact xDivideLine_long1 a0 a1 len1 c1 a2 len2 c2 w q1 (by omega)
  · exact xDivideLine_long0 a0 a1 len1 c1 a2 len2 c2 w (by omega)
end Go.Proofs.Ytfmpcniehgipfaa
