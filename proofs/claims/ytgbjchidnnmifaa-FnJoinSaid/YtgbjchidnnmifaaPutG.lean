/-
  Contracts of the program's maker of circuits: put, moved, made. Conditions: what the maker's cells and its row of gates hold is known.
-/
import Derived.Test.YtgbjchidnnmifaaJoi
import Derived.Test.YtgbjchidnnmifaaStep
import Derived.Test.YtgbjchidnnmifaaDepI
namespace Go.Proofs.Ytgbjchidnnmifaa
open Go.RowKit
/-- a maker's two cells: the slice of its gates, whose block is another one, and the prime -/
structure MakW (w : World) (G : Nat) (p : Int) (v : Value) : Prop where
  c0 : w.cell? ⟨G, 0, none⟩ = some v
  c1 : w.cell? ⟨G, 1, none⟩ = some (.int .i64 p)
  f0 : w.frozen? ⟨G, 0, none⟩ = false
  lt : G < w.heap.size
theorem MakW.below {w w' : World} {G : Nat} {p : Int} {v : Value} (h : MakW w G p v) (hb : Below w.heap.size w w') : MakW w' G p v := by
  have hl := h.lt
  exact ⟨by rw [hb.cell (p := ⟨G, 0, none⟩) hl]; exact h.c0, by rw [hb.cell (p := ⟨G, 1, none⟩) hl]; exact h.c1, by rw [hb.frozen (p := ⟨G, 0, none⟩) hl]; exact h.f0, Nat.lt_of_lt_of_le hl hb.size⟩
theorem MakW.set {w : World} {G : Nat} {p : Int} {v : Value} (h : MakW w G p v) (u : Value) : MakW (w.setCell ⟨G, 0, none⟩ u) G p u := by
  refine ⟨World.cell?_setCell_same _ _ _ h.c0, ?_, by rw [World.frozen?_setCell]; exact h.f0, by simpa using h.lt⟩
  rw [World.cell?_setCell_other _ _ _ _ (addr_ne (by omega))]; exact h.c1
theorem MakW.grown {w w' : World} {G : Nat} {p : Int} {v u : Value} (h : MakW w G p v) (hb : w.grownBy w' u.ownBlock) (hne : u.ownBlock ≠ some G) :
    w'.cell? ⟨G, 0, none⟩ = some v ∧ w'.cell? ⟨G, 1, none⟩ = some (.int .i64 p) ∧ w'.frozen? ⟨G, 0, none⟩ = false ∧ G < w'.heap.size := by
  have e := hb.block G h.lt (fun e => hne e.symm)
  exact ⟨by rw [World.cell?_of_block (a := ⟨G, 0, none⟩) e]; exact h.c0, by rw [World.cell?_of_block (a := ⟨G, 1, none⟩) e]; exact h.c1, by rw [World.frozen?_of_block (a := ⟨G, 0, none⟩) e]; exact h.f0, Nat.lt_of_lt_of_le h.lt hb.size⟩
set_option maxRecDepth 100000 in
set_option maxHeartbeats 8000000 in
theorem iPutG (B G : Nat) (p : Int) (v : Value) (L : List Gt) (x : Gt) (w : World) (hl : L.length ≤ 1000) (hBG : B ≤ G) (h : MakW w G p v) (hr : RowGt w (G + 1) v L) :
    Calls Try.prog 41 #[.pointer (some ⟨G, 0, none⟩), .agg #[.int .i64 x.k, .int .i64 x.a, .int .i64 x.b]] w fun e w' =>
      ∃ v', e = .returned (.int .i64 L.length) ∧ RowGt w' (G + 1) v' (L ++ [x]) ∧ MakW w' G p v' ∧ Below B w w' := by
  obtain ⟨i0, hi, hz0, hz1, hz2⟩ := info_parts infoG
  obtain ⟨W, hW⟩ : ∃ W, W = w.alloc (Obj.cells #[.int .i64 x.k, .int .i64 x.a, .int .i64 x.b] 32) := ⟨_, rfl⟩
  have bW : Below w.heap.size w W := by rw [hW]; exact Below.alloc (Below.refl _ _) (Nat.le_refl _) _
  have e0 : W.cell? ⟨w.heap.size, 0, none⟩ = some (.int .i64 x.k) := by rw [hW]; simp [go_sem]
  have e1 : W.cell? ⟨w.heap.size, 1, none⟩ = some (.int .i64 x.a) := by rw [hW]; simp [go_sem]
  have e2 : W.cell? ⟨w.heap.size, 2, none⟩ = some (.int .i64 x.b) := by rw [hW]; simp [go_sem]
  have hM := h.below bW
  have hR := hr.below bW
  have hsW : w.heap.size < W.heap.size := by rw [hW]; simp
  have HW := Lib.hid hW
  have c0 := hM.c0
  have c1 := hM.c1
  have f0 := hM.f0
  have hG := hM.lt
  have HM := Lib.hid hM
  have HR := Lib.hid hR
  have HbW := Lib.hid bW
  have hGw : G + 1 ≤ w.heap.size := h.lt
  clear hW hM hR bW h hr
  go_enter Try.func41, Try.ntmps41
  go_wp2_with fail
  rw [← HW.out]
  clear HW
  go_region_law (refine step_append_own rfl _ _ 24 rfl (G + 1) 32 i0 (.agg #[.int .i64 0, .int .i64 0, .int .i64 0]) 3 24 Try.underlying24 hi hz0 hz1 hz2 rfl (by decide) v L.length (flatG L) (by simp [Act.eval]) (RowGt.below HR.out (by repeat (first | exact Below.refl _ _ | apply Below.drew | apply below_drewN | (refine Below.alloc ?_ (by first | omega | (simp <;> omega)) _)))) _ 1 1 [.int .i64 x.k, .int .i64 x.a, .int .i64 x.b] (by simp [Act.eval]; rfl) rfl (by intro j u hj; match j, hj with | 0, hj => (simp at hj; subst hj; simp [Addr.add, go_sem]) | 1, hj => (simp at hj; subst hj; simp [Addr.add, go_sem]) | 2, hj => (simp at hj; subst hj; simp [Addr.add, go_sem])) (gate_ok _ _ _) (by unfold maxLen; omega) (by omega) (by first | omega | (simp; omega)) ?_; intro v' w3 hown' hgrow; obtain ⟨k0, k1, k2, k3⟩ := (MakW.below HM.out (by repeat (first | exact Below.refl _ _ | apply Below.drew | apply below_drewN | (refine Below.alloc ?_ (by first | omega | (simp <;> omega)) _)))).grown hgrow (HR.out.block (Nat.lt_succ_self G)); obtain ⟨gv, cv, rfl, hg1, hg2⟩ := (RowGt.snoc x hown').slice)
  all_goals
    have hR3 : RowGt w3 (G + 1) (.slice (some ⟨gv, 0, none⟩) (L.length + 1) cv) (L ++ [x]) := RowGt.snoc x hown'
    have hR4 := hR3.setFar (Nat.lt_succ_self G) 0 (.slice (some ⟨gv, 0, none⟩) (L.length + 1) cv)
    have hM4 : MakW (w3.setCell ⟨G, 0, none⟩ (.slice (some ⟨gv, 0, none⟩) (L.length + 1) cv)) G p (.slice (some ⟨gv, 0, none⟩) (L.length + 1) cv) := MakW.set ⟨k0, k1, k2, k3⟩ _
    have hB4 : Below B w (w3.setCell ⟨G, 0, none⟩ (.slice (some ⟨gv, 0, none⟩) (L.length + 1) cv)) :=
      ((HR.out.grow (HbW.out.mono hGw) (by omega) (by repeat (first | exact Below.refl _ _ | apply Below.drew | apply below_drewN | (refine Below.alloc ?_ (by first | omega | (simp <;> omega)) _))) hgrow).mono (by omega)).setCell hBG _
    have HL := Lib.hid (show (((L.length + 1 : Nat) : Int) - 1 = ((L.length : Nat) : Int)) by omega)
    clear hown' hgrow hR3 c0 c1 f0 e0 e1 e2
    go_wp2_with (go_at_call 35; refine (iLast _ (L.length + 1) _ L.length (by omega) HL.out _).mono ?_; rintro e w' ⟨rfl, rfl⟩)
    go_ret
    exact ⟨_, rfl, hR4, hM4, hB4⟩
set_option maxHeartbeats 4000000 in
theorem iMoved (k a b : Int) (n : Nat) (w : World) (hn : n ≤ 1000) (ha : 0 ≤ a ∧ a ≤ 1000) (hb : 0 ≤ b ∧ b ≤ 1000) :
    Calls Try.prog 42 #[.agg #[.int .i64 k, .int .i64 a, .int .i64 b], .int .i64 n] w fun e w' => e = .returned (.agg #[.int .i64 (movG n ⟨k, a, b⟩).k, .int .i64 (movG n ⟨k, a, b⟩).a, .int .i64 (movG n ⟨k, a, b⟩).b]) ∧ Below w.heap.size w w' := by
  obtain ⟨W, hW⟩ : ∃ W, W = (w.alloc (Obj.cells #[.int .i64 k, .int .i64 a, .int .i64 b] 32)).alloc (Obj.cells #[.int .i64 0, .int .i64 0, .int .i64 0] 32) := ⟨_, rfl⟩
  have bW : Below w.heap.size w W := by rw [hW]; exact (by repeat (first | exact Below.refl _ _ | apply Below.drew | apply below_drewN | (refine Below.alloc ?_ (by first | omega | (simp <;> omega)) _)))
  have hsW : W.heap.size = w.heap.size + 2 := by rw [hW]; simp
  have e0 : W.cell? ⟨w.heap.size, 0, none⟩ = some (.int .i64 k) := by rw [hW]; simp [go_sem]
  have e1 : W.cell? ⟨w.heap.size, 1, none⟩ = some (.int .i64 a) := by rw [hW]; simp [go_sem]
  have e2 : W.cell? ⟨w.heap.size, 2, none⟩ = some (.int .i64 b) := by rw [hW]; simp [go_sem]
  have r0 : W.cell? ⟨w.heap.size + 1, 0, none⟩ = some (.int .i64 0) := by rw [hW]; simp [go_sem]
  have r1 : W.cell? ⟨w.heap.size + 1, 1, none⟩ = some (.int .i64 0) := by rw [hW]; simp [go_sem]
  have r2 : W.cell? ⟨w.heap.size + 1, 2, none⟩ = some (.int .i64 0) := by rw [hW]; simp [go_sem]
  have fz : ∀ g o : Nat, w.heap.size ≤ g → g < W.heap.size → W.frozen? ⟨g, o, none⟩ = false := by
    intro g o h1 h2
    rw [hsW] at h2
    have : g = w.heap.size ∨ g = w.heap.size + 1 := by omega
    rcases this with rfl | rfl <;> (rw [hW]; simp [go_sem])
  have w1 : IntKind.i64.wrap (a + (n : Int)) = a + n := IntWalk.i64_in _ (by omega)
  have w2 : IntKind.i64.wrap (b + (n : Int)) = b + n := IntWalk.i64_in _ (by omega)
  have hlt0 : w.heap.size < W.heap.size := by omega
  have hlt1 : w.heap.size + 1 < W.heap.size := by omega
  have HW := Lib.hid hW
  cases hj : joinsB ⟨k, a, b⟩
  · have hm : movG n ⟨k, a, b⟩ = ⟨k, a, b⟩ := by simp [movG, hj]
    rw [hm]
    have HJ := Lib.hid hj
    clear hj hm hW
    go_enter Try.func42, Try.ntmps42
    go_wp2_with fail
    rw [← HW.out]
    clear HW
    refine (iJoins_is false k a b HJ.out _).mono ?_
    rintro e W2 ⟨rfl, hb2⟩
    have q0 := hb2.cell (p := ⟨w.heap.size, 0, none⟩) hlt0
    have q1 := hb2.cell (p := ⟨w.heap.size, 1, none⟩) hlt0
    have q2 := hb2.cell (p := ⟨w.heap.size, 2, none⟩) hlt0
    have s0 := hb2.cell (p := ⟨w.heap.size + 1, 0, none⟩) hlt1
    have s1 := hb2.cell (p := ⟨w.heap.size + 1, 1, none⟩) hlt1
    have s2 := hb2.cell (p := ⟨w.heap.size + 1, 2, none⟩) hlt1
    have z0 := hb2.frozen (p := ⟨w.heap.size + 1, 0, none⟩) hlt1
    have z1 := hb2.frozen (p := ⟨w.heap.size + 1, 1, none⟩) hlt1
    have z2 := hb2.frozen (p := ⟨w.heap.size + 1, 2, none⟩) hlt1
    rw [e0] at q0; rw [e1] at q1; rw [e2] at q2; rw [r0] at s0; rw [r1] at s1; rw [r2] at s2
    rw [fz _ _ (by omega) (by omega)] at z0 z1 z2
    have B2 := Lib.hid (bW.trans (hb2.mono bW.size))
    clear hb2 e0 e1 e2 r0 r1 r2 fz bW hsW
    go_wp2_with fail
    refine bodyPost_ret (v := .agg #[.int .i64 k, .int .i64 a, .int .i64 b]) (by simp [results, Try.results42, go_sem, *]) rfl ⟨rfl, ?_⟩
    repeat (first | exact B2.out | apply Below.drew | (refine Below.setCell ?_ (by first | omega | (simp <;> omega)) _))
  · have hm : movG n ⟨k, a, b⟩ = ⟨k, a + n, b + n⟩ := by simp [movG, hj]
    rw [hm]
    have HJ := Lib.hid hj
    clear hj hm hW
    go_enter Try.func42, Try.ntmps42
    go_wp2_with fail
    rw [← HW.out]
    clear HW
    refine (iJoins_is true k a b HJ.out _).mono ?_
    rintro e W2 ⟨rfl, hb2⟩
    have q0 := hb2.cell (p := ⟨w.heap.size, 0, none⟩) hlt0
    have q1 := hb2.cell (p := ⟨w.heap.size, 1, none⟩) hlt0
    have q2 := hb2.cell (p := ⟨w.heap.size, 2, none⟩) hlt0
    have s0 := hb2.cell (p := ⟨w.heap.size + 1, 0, none⟩) hlt1
    have s1 := hb2.cell (p := ⟨w.heap.size + 1, 1, none⟩) hlt1
    have s2 := hb2.cell (p := ⟨w.heap.size + 1, 2, none⟩) hlt1
    have z0 := hb2.frozen (p := ⟨w.heap.size + 1, 0, none⟩) hlt1
    have z1 := hb2.frozen (p := ⟨w.heap.size + 1, 1, none⟩) hlt1
    have z2 := hb2.frozen (p := ⟨w.heap.size + 1, 2, none⟩) hlt1
    rw [e0] at q0; rw [e1] at q1; rw [e2] at q2; rw [r0] at s0; rw [r1] at s1; rw [r2] at s2
    have y1 := hb2.frozen (p := ⟨w.heap.size, 1, none⟩) hlt0
    have y2 := hb2.frozen (p := ⟨w.heap.size, 2, none⟩) hlt0
    rw [fz _ _ (by omega) (by omega)] at z0 z1 z2 y1 y2
    have B2 := Lib.hid (bW.trans (hb2.mono bW.size))
    clear hb2 e0 e1 e2 r0 r1 r2 fz bW hsW
    go_wp2_with fail
    refine bodyPost_ret (v := .agg #[.int .i64 k, .int .i64 (a + n), .int .i64 (b + n)]) (by simp [results, Try.results42, go_sem, *]) rfl ⟨rfl, ?_⟩
    repeat (first | exact B2.out | apply Below.drew | (refine Below.setCell ?_ (by first | omega | (simp <;> omega)) _))
end Go.Proofs.Ytgbjchidnnmifaa
