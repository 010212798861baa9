/-
  Gradients as values; GradientValid, of the model and of the program. Conditions: what the slice holds is known.
-/
import Derived.Test.YtibghhkhnpjdfaaBa15
import Derived.Test.YtibghhkhnpjdfaaBa25
import Derived.Test.YtibghhkhnpjdfaaBa11
import Derived.Test.YtibghhkhnpjdfaaBa24
namespace Go.Proofs.Ytibghhkhnpjdfaa
open Go.RowKit
/-- a gradient as a value -/
def gV (v : Value) (x y z : Int) : Value := .agg #[v, .int .i64 x, .int .i64 y, .int .i64 z]
/-- a box of a gradient -/
structure GrAt (w : World) (b : Nat) (v : Value) (x y z : Int) : Prop where
  c0 : w.cell? ⟨b, 0, none⟩ = some v
  c1 : w.cell? ⟨b, 1, none⟩ = some (.int .i64 x)
  c2 : w.cell? ⟨b, 2, none⟩ = some (.int .i64 y)
  c3 : w.cell? ⟨b, 3, none⟩ = some (.int .i64 z)
theorem GrAt.below {w w' : World} {B b : Nat} {v : Value} {x y z : Int} (h : GrAt w b v x y z) (hb : Below B w w') (hl : b < B) : GrAt w' b v x y z :=
  ⟨by rw [hb.cell (p := ⟨b, 0, none⟩) hl]; exact h.c0, by rw [hb.cell (p := ⟨b, 1, none⟩) hl]; exact h.c1, by rw [hb.cell (p := ⟨b, 2, none⟩) hl]; exact h.c2, by rw [hb.cell (p := ⟨b, 3, none⟩) hl]; exact h.c3⟩
def plB (n : Nat) (x : Int) : Bool := inB x (-1) ((n : Int) - 1)
def gvB (p : Int) (L : List Gt) (x y z : Int) : Bool := (plB L.length x && (plB L.length y && plB L.length z)) && circB p L
theorem gats_len {w : World} {v : Value} {L : List Gt} (h : Gats w v L) : L.length ≤ 1048576 ∧ ∃ a cap, v = .slice a L.length cap := by
  obtain ⟨hl, a, cap, e, _⟩ := h
  exact ⟨hl, a, cap, e⟩
set_option maxRecDepth 100000 in
set_option maxHeartbeats 4000000 in
theorem sGrValid (p : Int) (v : Value) (L : List Gt) (x y z : Int) (w : World) (h : Gats w v L) :
    Calls Try.prog 82 #[.int .i64 p, .agg #[v, .int .i64 x, .int .i64 y, .int .i64 z]] w fun e w' => e = .returned (.bool (gvB p L x y z)) ∧ Below w.heap.size w w' := by
  obtain ⟨hl, a, cap, rfl⟩ := gats_len h
  obtain ⟨W, hW⟩ : ∃ W, W = w.alloc (Obj.cells #[.slice a L.length cap, .int .i64 x, .int .i64 y, .int .i64 z] 78) := ⟨_, rfl⟩
  have hG : GrAt W w.heap.size (.slice a L.length cap) x y z := by rw [hW]; refine ⟨?_, ?_, ?_, ?_⟩ <;> simp [go_sem]
  have bW : Below w.heap.size w W := by rw [hW]; exact Below.alloc (Below.refl _ _) (Nat.le_refl _) _
  have hsW : w.heap.size < W.heap.size := by rw [hW]; simp
  have HC := Lib.hid (sCircuitValid p _ L W (h.below bW))
  obtain ⟨c0, c1, c2, c3⟩ := hG
  have HB := Lib.hid bW
  have k0 := idx0
  have k1 := idx1
  have k2 := idx2
  have hlp : (L.length : Int) ≤ 1048576 := by omega
  have hww : IntKind.i64.wrap ((L.length : Int) - 1) = (L.length : Int) - 1 := IntWalk.i64_in _ (by omega)
  have hsw := hsW
  have HW := Lib.hid hW
  clear hW bW hsW h
  go_enter Try.func82, Try.ntmps82
  go_wp2_with fail
  rw [← HW.out]
  refine wp_loop_rounds 4 ?_
  rw [rounds_succ]
  have bx : inB x (-1) ((L.length : Int) - 1) = plB L.length x := rfl
  have bY : inB y (-1) ((L.length : Int) - 1) = plB L.length y := rfl
  have bz : inB z (-1) ((L.length : Int) - 1) = plB L.length z := rfl
  rcases Bool.eq_false_or_eq_true (plB L.length x) with h1 | h1
  · rcases Bool.eq_false_or_eq_true (plB L.length y) with h2 | h2
    · rcases Bool.eq_false_or_eq_true (plB L.length z) with h3 | h3
      · have HX := Lib.hid (bx.trans h1)
        have HY := Lib.hid (bY.trans h2)
        have HZ := Lib.hid (bz.trans h3)
        have HE := Lib.hid (show gvB p L x y z = circB p L by unfold gvB; rw [h1, h2, h3]; simp)
        clear bx bY bz h1 h2 h3 hl
        go_wp2_with (go_at_call 94; refine (sIn_at true _ _ _ HX.out _).mono ?_; rintro e w' ⟨rfl, rfl⟩)
        rw [rounds_succ]
        go_wp2_with (go_at_call 94; refine (sIn_at true _ _ _ HY.out _).mono ?_; rintro e w' ⟨rfl, rfl⟩)
        rw [rounds_succ]
        go_wp2_with (go_at_call 94; refine (sIn_at true _ _ _ HZ.out _).mono ?_; rintro e w' ⟨rfl, rfl⟩)
        rw [rounds_succ]
        go_wp2_with fail
        refine HC.out.mono ?_
        rintro e w2 ⟨rfl, hb⟩
        have HB2 := Lib.hid (HB.out.trans (hb.mono (by omega)))
        clear hb
        go_wp2_with fail
        go_ret
        exact ⟨ret_bool HE.out.symm, HB2.out⟩
      · have HX := Lib.hid (bx.trans h1)
        have HY := Lib.hid (bY.trans h2)
        have HZ := Lib.hid (bz.trans h3)
        have HE := Lib.hid (show gvB p L x y z = false by unfold gvB; rw [h3]; simp)
        clear bx bY bz h1 h2 h3 hl HC
        go_wp2_with (go_at_call 94; refine (sIn_at true _ _ _ HX.out _).mono ?_; rintro e w' ⟨rfl, rfl⟩)
        rw [rounds_succ]
        go_wp2_with (go_at_call 94; refine (sIn_at true _ _ _ HY.out _).mono ?_; rintro e w' ⟨rfl, rfl⟩)
        rw [rounds_succ]
        go_wp2_with (go_at_call 94; refine (sIn_at false _ _ _ HZ.out _).mono ?_; rintro e w' ⟨rfl, rfl⟩)
        go_ret
        exact ⟨ret_bool HE.out.symm, HB.out⟩
    · have HX := Lib.hid (bx.trans h1)
      have HY := Lib.hid (bY.trans h2)
      have HE := Lib.hid (show gvB p L x y z = false by unfold gvB; rw [h2]; simp)
      clear bx bY bz h1 h2 hl HC
      go_wp2_with (go_at_call 94; refine (sIn_at true _ _ _ HX.out _).mono ?_; rintro e w' ⟨rfl, rfl⟩)
      rw [rounds_succ]
      go_wp2_with (go_at_call 94; refine (sIn_at false _ _ _ HY.out _).mono ?_; rintro e w' ⟨rfl, rfl⟩)
      go_ret
      exact ⟨ret_bool HE.out.symm, HB.out⟩
  · have HX := Lib.hid (bx.trans h1)
    have HE := Lib.hid (show gvB p L x y z = false by unfold gvB; rw [h1]; simp)
    clear bx bY bz h1 hl HC
    go_wp2_with (go_at_call 94; refine (sIn_at false _ _ _ HX.out _).mono ?_; rintro e w' ⟨rfl, rfl⟩)
    go_ret
    exact ⟨ret_bool HE.out.symm, HB.out⟩
/-- the two tests of a place -/
theorem pl_two {n : Nat} {x : Int} : (plB n x = true → decide (x < -1) = false ∧ decide (x > (n : Int) - 1) = false) ∧ (plB n x = false → decide (x < -1) = true ∨ (decide (x < -1) = false ∧ decide (x > (n : Int) - 1) = true)) := by
  unfold plB inB
  constructor
  · intro h
    simp at h
    exact ⟨by simp; omega, by simp; omega⟩
  · intro h
    by_cases h1 : x < -1
    · exact .inl (by simpa using h1)
    · refine .inr ⟨by simpa using h1, ?_⟩
      by_cases h2 : x > (n : Int) - 1
      · simpa using h2
      · exfalso
        simp at h
        omega
set_option maxRecDepth 100000 in
set_option maxHeartbeats 8000000 in
theorem iGrValid (p : Int) (v : Value) (L : List Gt) (x y z : Int) (w : World) (h : Gats w v L) :
    Calls Try.prog 76 #[.int .i64 p, .agg #[v, .int .i64 x, .int .i64 y, .int .i64 z]] w fun e w' => e = .returned (.bool (gvB p L x y z)) ∧ Below w.heap.size w w' := by
  obtain ⟨hl, a, cap, rfl⟩ := gats_len h
  obtain ⟨W, hW⟩ : ∃ W, W = w.alloc (Obj.cells #[.slice a L.length cap, .int .i64 x, .int .i64 y, .int .i64 z] 78) := ⟨_, rfl⟩
  have hG : GrAt W w.heap.size (.slice a L.length cap) x y z := by rw [hW]; refine ⟨?_, ?_, ?_, ?_⟩ <;> simp [go_sem]
  have bW : Below w.heap.size w W := by rw [hW]; exact Below.alloc (Below.refl _ _) (Nat.le_refl _) _
  have hsW : w.heap.size < W.heap.size := by rw [hW]; simp
  have HC := Lib.hid (iCircuitValid p _ L W (h.below bW))
  have HLZ := Lib.hid (fun w => iLastZ a L.length cap hl w)
  obtain ⟨c0, c1, c2, c3⟩ := hG
  have HB := Lib.hid bW
  have k0 := idx0
  have k1 := idx1
  have k2 := idx2
  have hsw := hsW
  have HW := Lib.hid hW
  obtain ⟨tx, fx⟩ := pl_two (n := L.length) (x := x)
  obtain ⟨ty, fy⟩ := pl_two (n := L.length) (x := y)
  obtain ⟨tz, fz⟩ := pl_two (n := L.length) (x := z)
  obtain ⟨m, hm⟩ : ∃ m, m = (L.length : Int) - 1 := ⟨_, rfl⟩
  rw [← hm] at tx fx ty fy tz fz
  have HLZ := Lib.hid (show ∀ w, Calls Try.prog 91 #[.slice a L.length cap] w fun e w' => e = .returned (.int .i64 m) ∧ w = w' from hm ▸ HLZ.out)
  clear hW bW hsW h hl hm
  have HBd : ∀ {q : Bool}, q = false ∨ q = true := fun {q} => by cases q <;> simp
  clear HBd
  go_enter Try.func76, Try.ntmps76
  go_wp2_with fail
  rw [← HW.out]
  refine wp_loop_rounds 4 ?_
  rw [rounds_succ]
  rcases Bool.eq_false_or_eq_true (plB L.length x) with h1 | h1
  · obtain ⟨x1, x2⟩ := tx h1
    have x1 := of_decide_eq_false x1
    have x2 := of_decide_eq_false x2
    rcases Bool.eq_false_or_eq_true (plB L.length y) with h2 | h2
    · obtain ⟨y1, y2⟩ := ty h2
      have y1 := of_decide_eq_false y1
      have y2 := of_decide_eq_false y2
      rcases Bool.eq_false_or_eq_true (plB L.length z) with h3 | h3
      · obtain ⟨z1, z2⟩ := tz h3
        have z1 := of_decide_eq_false z1
        have z2 := of_decide_eq_false z2
        have HE := Lib.hid (show gvB p L x y z = circB p L by unfold gvB; rw [h1, h2, h3]; simp)
        clear h1 h2 h3 tx fx ty fy tz fz
        go_wp2_with (go_at_call 91; refine (HLZ.out _).mono ?_; rintro e w' ⟨rfl, rfl⟩)
        rw [rounds_succ]
        go_wp2_with (go_at_call 91; refine (HLZ.out _).mono ?_; rintro e w' ⟨rfl, rfl⟩)
        rw [rounds_succ]
        go_wp2_with (go_at_call 91; refine (HLZ.out _).mono ?_; rintro e w' ⟨rfl, rfl⟩)
        rw [rounds_succ]
        go_wp2_with fail
        refine HC.out.mono ?_
        rintro e w2 ⟨rfl, hb⟩
        have HB2 := Lib.hid (HB.out.trans (hb.mono (by omega)))
        clear hb
        go_wp2_with fail
        go_ret
        exact ⟨ret_bool HE.out.symm, HB2.out⟩
      · have HE := Lib.hid (show gvB p L x y z = false by unfold gvB; rw [h3]; simp)
        have h4 := fz h3
        clear h1 h2 h3 tx fx ty fy tz fz HC
        rcases h4 with h4 | ⟨h4, h5⟩
        · have h4 := of_decide_eq_true h4
          go_wp2_with (go_at_call 91; refine (HLZ.out _).mono ?_; rintro e w' ⟨rfl, rfl⟩)
          rw [rounds_succ]
          go_wp2_with (go_at_call 91; refine (HLZ.out _).mono ?_; rintro e w' ⟨rfl, rfl⟩)
          rw [rounds_succ]
          go_wp2_with fail
          go_ret
          exact ⟨ret_bool HE.out.symm, HB.out⟩
        · have h4 := of_decide_eq_false h4
          have h5 := of_decide_eq_true h5
          go_wp2_with (go_at_call 91; refine (HLZ.out _).mono ?_; rintro e w' ⟨rfl, rfl⟩)
          rw [rounds_succ]
          go_wp2_with (go_at_call 91; refine (HLZ.out _).mono ?_; rintro e w' ⟨rfl, rfl⟩)
          rw [rounds_succ]
          go_wp2_with (go_at_call 91; refine (HLZ.out _).mono ?_; rintro e w' ⟨rfl, rfl⟩)
          go_ret
          exact ⟨ret_bool HE.out.symm, HB.out⟩
    · have HE := Lib.hid (show gvB p L x y z = false by unfold gvB; rw [h2]; simp)
      have h4 := fy h2
      clear h1 h2 tx fx ty fy tz fz HC
      rcases h4 with h4 | ⟨h4, h5⟩
      · have h4 := of_decide_eq_true h4
        go_wp2_with (go_at_call 91; refine (HLZ.out _).mono ?_; rintro e w' ⟨rfl, rfl⟩)
        rw [rounds_succ]
        go_wp2_with fail
        go_ret
        exact ⟨ret_bool HE.out.symm, HB.out⟩
      · have h4 := of_decide_eq_false h4
        have h5 := of_decide_eq_true h5
        go_wp2_with (go_at_call 91; refine (HLZ.out _).mono ?_; rintro e w' ⟨rfl, rfl⟩)
        rw [rounds_succ]
        go_wp2_with (go_at_call 91; refine (HLZ.out _).mono ?_; rintro e w' ⟨rfl, rfl⟩)
        go_ret
        exact ⟨ret_bool HE.out.symm, HB.out⟩
  · have HE := Lib.hid (show gvB p L x y z = false by unfold gvB; rw [h1]; simp)
    have h4 := fx h1
    clear h1 tx fx ty fy tz fz HC
    rcases h4 with h4 | ⟨h4, h5⟩
    · have h4 := of_decide_eq_true h4
      go_wp2_with fail
      go_ret
      exact ⟨ret_bool HE.out.symm, HB.out⟩
    · have h4 := of_decide_eq_false h4
      have h5 := of_decide_eq_true h5
      go_wp2_with (go_at_call 91; refine (HLZ.out _).mono ?_; rintro e w' ⟨rfl, rfl⟩)
      go_ret
      exact ⟨ret_bool HE.out.symm, HB.out⟩
end Go.Proofs.Ytibghhkhnpjdfaa
