/-
  PointAt, of the model and of the program, and the walk of its exact law. Conditions: none.
-/
import Derived.Test.YtmndcdcjjihecaaFldA
import Derived.Test.YtmndcdcjjihecaaTrm
import Derived.Test.YtmndcdcjjihecaaLast
import Derived.Test.YtmndcdcjjihecaaSeq
namespace Go.Proofs.Ytmndcdcjjihecaa
open Go.RowKit
/-- whether a number is that of a point -/
def ptB (p n : Int) : Bool := isP p && (decide (0 ≤ n) && decide (n < p * p * p))
theorem pp_bd {p : Int} (h : isP p = true) : 4 ≤ p * p ∧ p * p ≤ 169 ∧ 8 ≤ p * p * p ∧ p * p * p ≤ 2197 := by
  rcases isP_cases h with rfl | rfl | rfl | rfl | rfl | rfl <;> decide
/-- the quotients and rests that a point is made of -/
structure PtQ (p n q x y z : Int) : Prop where
  q0 : n.tdiv p = q
  q1 : n / p = q
  x0 : q.tdiv p = x
  x1 : q / p = x
  x2 : n.tdiv (p * p) = x
  x3 : n / (p * p) = x
  y0 : q.tmod p = y
  y1 : q % p = y
  z0 : n.tmod p = z
  z1 : n % p = z
  bq : 0 ≤ q ∧ q ≤ n
  bx : 0 ≤ x ∧ x ≤ n
  bn : 0 ≤ n ∧ n ≤ 2196
theorem ptQ {p n : Int} (hp : isP p = true) (h0 : 0 ≤ n) (h1 : n < p * p * p) : PtQ p n (n / p) (n / p / p) (n / p % p) (n % p) := by
  have hb := isP_bd hp
  have hpp := pp_bd hp
  have hq : 0 ≤ n / p := Int.ediv_nonneg h0 (by omega)
  have hq2 : n / p ≤ n := Int.ediv_le_self _ h0
  have hx : 0 ≤ n / p / p := Int.ediv_nonneg hq (by omega)
  have hx2 : n / p / p ≤ n / p := Int.ediv_le_self _ hq
  have e : n / (p * p) = n / p / p := by rw [Int.ediv_ediv, if_neg (by omega)]; omega
  exact ⟨Int.tdiv_eq_ediv_of_nonneg h0, rfl, Int.tdiv_eq_ediv_of_nonneg hq, rfl, by rw [Int.tdiv_eq_ediv_of_nonneg h0, e], e, Int.tmod_eq_emod_of_nonneg hq, rfl, Int.tmod_eq_emod_of_nonneg h0, rfl, ⟨hq, hq2⟩, ⟨hx, by omega⟩, ⟨h0, by omega⟩⟩
def pt3 (x y z : Int) : Value := .agg #[.int .i64 x, .int .i64 y, .int .i64 z]
def ptX (p n : Int) : Int := if ptB p n = true then n / p / p else 0
def ptY (p n : Int) : Int := if ptB p n = true then n / p % p else 0
def ptZ (p n : Int) : Int := if ptB p n = true then n % p else 0
set_option maxHeartbeats 1000000 in
theorem sPoints (p : Int) (hp : isP p = true) (w : World) :
    Calls Try.prog 42 #[.int .i64 p] w fun e w' => e = .returned (.int .i64 (p * p * p)) ∧ w = w' := by
  have hpp := pp_bd hp
  obtain ⟨a, ha⟩ : ∃ a, a = p * p := ⟨_, rfl⟩
  obtain ⟨b, hb⟩ : ∃ b, b = p * p * p := ⟨_, rfl⟩
  have e1 : IntKind.i64.wrap (p * p) = a := by rw [ha]; exact IntWalk.i64_in _ (by omega)
  have e2 : IntKind.i64.wrap (a * p) = b := by rw [ha, hb]; exact IntWalk.i64_in _ (by omega)
  rw [← hb]
  clear ha hb hpp
  go_enter Try.func42, Try.ntmps42
  go_wp2
  go_ret
  exact ⟨rfl, rfl⟩
set_option maxHeartbeats 4000000 in
theorem sPoint (p n q x y z : Int) (hp : isP p = true) (h : PtQ p n q x y z) (w : World) :
    Calls Try.prog 43 #[.int .i64 p, .int .i64 n] w fun e w' => e = .returned (.agg #[.int .i64 x, .int .i64 y, .int .i64 z]) ∧ Below w.heap.size w w' := by
  obtain ⟨q0, q1, x0, x1, x2, x3, y0, y1, z0, z1, bq, bx, bn⟩ := h
  have hb := isP_bd hp
  have hpb : (p == 0) = false := by simp; omega
  have e1 : IntKind.i64.wrap q = q := IntWalk.i64_in _ (by omega)
  have e2 : IntKind.i64.wrap x = x := IntWalk.i64_in _ (by omega)
  have hp0 : p ≠ 0 := by omega
  clear hb bq bx bn hp
  go_enter Try.func43, Try.ntmps43
  go_wp2_with fail
  obtain ⟨W, hW⟩ : ∃ W, W = w.alloc (Obj.cells #[.int .i64 0, .int .i64 0, .int .i64 0] 35) := ⟨_, rfl⟩
  have c0 : W.cell? ⟨w.heap.size, 0, none⟩ = some (.int .i64 0) := by rw [hW]; simp [go_sem]
  have c1 : W.cell? ⟨w.heap.size, 1, none⟩ = some (.int .i64 0) := by rw [hW]; simp [go_sem]
  have c2 : W.cell? ⟨w.heap.size, 2, none⟩ = some (.int .i64 0) := by rw [hW]; simp [go_sem]
  have f0 : ∀ i, W.frozen? ⟨w.heap.size, i, none⟩ = false := fun i => by rw [hW]; exact World.frozen?_alloc_at _ _ _ i rfl
  have g0 := f0 0
  have g1 := f0 1
  have g2 := f0 2
  have HB := Lib.hid (show Below w.heap.size w W by rw [hW]; exact Below.alloc (Below.refl _ _) (Nat.le_refl _) _)
  rw [← hW]
  clear hW f0
  refine wp_region_quiet_last (C := fun w' => ∃ n, w' = W.drewN n) (by kernel_rfl) (by kernel_rfl) ⟨1, rfl⟩ ?_
  repeat (refine wpQL_step (fun K hK => ?_); go_simp; refine hK _ ?_; clear hK K)
  refine wpQL_one ?_
  rintro _ ⟨n0, rfl⟩
  go_wp2_with fail
  refine bodyPost_ret (v := .agg #[.int .i64 x, .int .i64 y, .int .i64 z]) (by simp [results, Try.results43, go_sem, c0, c1, c2]) rfl ⟨rfl, ?_⟩
  repeat (first | exact HB.out | apply Below.drew | apply below_drewN | (refine Below.setCell ?_ (by simp <;> omega) _))
set_option maxHeartbeats 4000000 in
theorem iPointAt_yes (p n q x y z : Int) (hp : isP p = true) (h1 : n < p * p * p) (h : PtQ p n q x y z) (w : World) :
    Calls Try.prog 29 #[.int .i64 p, .int .i64 n] w fun e w' => e = .returned (.tuple #[.agg #[.int .i64 x, .int .i64 y, .int .i64 z], .bool true]) ∧ Below w.heap.size w w' := by
  have hpp := pp_bd hp
  obtain ⟨a, ha⟩ : ∃ a, a = p * p := ⟨_, rfl⟩
  obtain ⟨b, hb2⟩ : ∃ b, b = p * p * p := ⟨_, rfl⟩
  have f1 : IntKind.i64.wrap (p * p) = a := by rw [ha]; exact IntWalk.i64_in _ (by omega)
  have f2 : IntKind.i64.wrap (a * p) = b := by rw [ha, hb2]; exact IntWalk.i64_in _ (by omega)
  obtain ⟨q0, q1, x0, x1, x2, x3, y0, y1, z0, z1, bq, bx, bn⟩ := h
  rw [← ha] at x2 x3
  rw [← hb2] at h1
  have hb := isP_bd hp
  have hpb : (p == 0) = false := by simp; omega
  have hab : (a == 0) = false := by simp; omega
  have e1 : IntKind.i64.wrap q = q := IntWalk.i64_in _ (by omega)
  have e2 : IntKind.i64.wrap x = x := IntWalk.i64_in _ (by omega)
  have hp0 : p ≠ 0 := by omega
  have ha0 : a ≠ 0 := by omega
  have hn0 : 0 ≤ n := bn.1
  have HP := Lib.hid hp
  clear hb bq bx bn hp ha hb2 hpp
  go_enter Try.func29, Try.ntmps29
  go_wp2_with (go_at_call 57; refine (iPV_yes p _ HP.out).mono ?_; rintro e w' ⟨rfl, rfl⟩)
  obtain ⟨W, hW⟩ : ∃ W, W = w.alloc (Obj.cells #[.int .i64 0, .int .i64 0, .int .i64 0] 35) := ⟨_, rfl⟩
  have c0 : W.cell? ⟨w.heap.size, 0, none⟩ = some (.int .i64 0) := by rw [hW]; simp [go_sem]
  have c1 : W.cell? ⟨w.heap.size, 1, none⟩ = some (.int .i64 0) := by rw [hW]; simp [go_sem]
  have c2 : W.cell? ⟨w.heap.size, 2, none⟩ = some (.int .i64 0) := by rw [hW]; simp [go_sem]
  have f0 : ∀ i, W.frozen? ⟨w.heap.size, i, none⟩ = false := fun i => by rw [hW]; exact World.frozen?_alloc_at _ _ _ i rfl
  have g0 := f0 0
  have g1 := f0 1
  have g2 := f0 2
  have HB := Lib.hid (show Below w.heap.size w W by rw [hW]; exact Below.alloc (Below.refl _ _) (Nat.le_refl _) _)
  rw [← hW]
  clear hW f0
  refine wp_region_seq [(0, true), (1, true), (2, true), (3, true), (4, true), (5, true), (6, true), (7, true), (8, true), (9, true), (10, true), (11, true), (12, true), (13, true), (14, false)] (fun _ => True) (by kernel_rfl) (by kernel_rfl) rfl (by intro c a d v w h; cases d <;> exact h) trivial ?_
  iterate 14 (refine wpSeq_take (v := ?_) (List.getElem?_toArray.trans rfl) ?_ ?_; rotate_left; (intro w' hSw; (try dsimp only at hSw); go_simp; (try with_reducible rfl)); (try simp only [Act.put, List.setIfInBounds_toArray, List.set_cons_zero, List.set_cons_succ]))
  refine wpSeq_do (List.getElem?_toArray.trans rfl) (fun K hK => ?_)
  go_simp
  refine hK _ _ trivial ?_
  clear hK K
  refine wpSeq_nil ?_
  simp only [Exit.then]
  go_wp2
  refine bodyPost_ret (v := .tuple #[.agg #[.int .i64 x, .int .i64 y, .int .i64 z], .bool true]) (by simp [results, Try.results29, go_sem, c0, c1, c2]) rfl ⟨rfl, ?_⟩
  repeat (first | exact HB.out | apply Below.drew | apply below_drewN | (refine Below.setCell ?_ (by simp <;> omega) _))
set_option maxHeartbeats 4000000 in
theorem iPointAt_no (p n : Int) (h : ptB p n = false) (w : World) :
    Calls Try.prog 29 #[.int .i64 p, .int .i64 n] w fun e w' => e = .returned (.tuple #[.agg #[.int .i64 0, .int .i64 0, .int .i64 0], .bool false]) ∧ Below w.heap.size w w' := by
  cases hp : isP p
  · have HP := Lib.hid hp
    clear hp h
    go_enter Try.func29, Try.ntmps29
    go_wp2_with (go_at_call 57; refine (iPV_no p _ HP.out).mono ?_; rintro e w' ⟨rfl, rfl⟩)
    refine bodyPost_ret (v := .tuple #[.agg #[.int .i64 0, .int .i64 0, .int .i64 0], .bool false]) (by simp [results, Try.results29, go_sem]) rfl ⟨rfl, ?_⟩
    repeat (first | exact Below.refl _ _ | (refine Below.setCell ?_ (by simp <;> omega) _) | (refine Below.alloc ?_ (by simp <;> omega) _))
  · have hpp := pp_bd hp
    obtain ⟨a, ha⟩ : ∃ a, a = p * p := ⟨_, rfl⟩
    obtain ⟨b, hb2⟩ : ∃ b, b = p * p * p := ⟨_, rfl⟩
    have f1 : IntKind.i64.wrap (p * p) = a := by rw [ha]; exact IntWalk.i64_in _ (by omega)
    have f2 : IntKind.i64.wrap (a * p) = b := by rw [ha, hb2]; exact IntWalk.i64_in _ (by omega)
    have hd : n < 0 ∨ (0 ≤ n ∧ b ≤ n) := by
      rw [hb2]
      have := h
      simp only [ptB, hp, Bool.true_and, Bool.and_eq_false_iff, decide_eq_false_iff_not] at this
      omega
    have HP := Lib.hid hp
    clear hp ha hb2 hpp h
    rcases hd with h0 | ⟨h0, h1⟩
    · go_enter Try.func29, Try.ntmps29
      go_wp2_with (go_at_call 57; refine (iPV_yes p _ HP.out).mono ?_; rintro e w' ⟨rfl, rfl⟩)
      refine bodyPost_ret (v := .tuple #[.agg #[.int .i64 0, .int .i64 0, .int .i64 0], .bool false]) (by simp [results, Try.results29, go_sem]) rfl ⟨rfl, ?_⟩
      repeat (first | exact Below.refl _ _ | (refine Below.setCell ?_ (by simp <;> omega) _) | (refine Below.alloc ?_ (by simp <;> omega) _))
    · go_enter Try.func29, Try.ntmps29
      go_wp2_with (go_at_call 57; refine (iPV_yes p _ HP.out).mono ?_; rintro e w' ⟨rfl, rfl⟩)
      refine bodyPost_ret (v := .tuple #[.agg #[.int .i64 0, .int .i64 0, .int .i64 0], .bool false]) (by simp [results, Try.results29, go_sem]) rfl ⟨rfl, ?_⟩
      repeat (first | exact Below.refl _ _ | (refine Below.setCell ?_ (by simp <;> omega) _) | (refine Below.alloc ?_ (by simp <;> omega) _))
theorem ptB_yes {p n : Int} (h : ptB p n = true) : isP p = true ∧ 0 ≤ n ∧ n < p * p * p := by
  simp only [ptB, Bool.and_eq_true, decide_eq_true_eq] at h; exact ⟨h.1, h.2.1, h.2.2⟩
theorem iPointAt (p n : Int) (w : World) :
    Calls Try.prog 29 #[.int .i64 p, .int .i64 n] w fun e w' => e = .returned (.tuple #[.agg #[.int .i64 (ptX p n), .int .i64 (ptY p n), .int .i64 (ptZ p n)], .bool (ptB p n)]) ∧ Below w.heap.size w w' := by
  cases h : ptB p n
  · simp only [ptX, ptY, ptZ, h]
    exact iPointAt_no p n h w
  · obtain ⟨h1, h2, h3⟩ := ptB_yes h
    simp only [ptX, ptY, ptZ, h]
    exact iPointAt_yes p n _ _ _ _ h1 h3 (ptQ h1 h2 h3) w
set_option maxHeartbeats 4000000 in
theorem sPointAt (p n : Int) (w : World) :
    Calls Try.prog 28 #[.int .i64 p, .int .i64 n] w fun e w' => e = .returned (.tuple #[.agg #[.int .i64 (ptX p n), .int .i64 (ptY p n), .int .i64 (ptZ p n)], .bool (ptB p n)]) ∧ Below w.heap.size w w' := by
  cases hp : isP p
  · have hB : ptB p n = false := by simp [ptB, hp]
    simp only [ptX, ptY, ptZ, hB]
    have HP := Lib.hid hp
    clear hp hB
    go_enter Try.func28, Try.ntmps28
    go_wp2_with (go_at_call 55; refine (sPV_no p _ HP.out).mono ?_; rintro e w' ⟨rfl, rfl⟩)
    refine bodyPost_ret (v := .tuple #[.agg #[.int .i64 0, .int .i64 0, .int .i64 0], .bool false]) (by simp [results, Try.results28, go_sem]) rfl ⟨rfl, ?_⟩
    repeat (first | exact Below.refl _ _ | (refine Below.setCell ?_ (by simp <;> omega) _) | (refine Below.alloc ?_ (by simp <;> omega) _))
  · have hpp := pp_bd hp
    obtain ⟨b, hb2⟩ : ∃ b, b = p * p * p := ⟨_, rfl⟩
    have f2 : IntKind.i64.wrap (b - 1) = b - 1 := IntWalk.i64_in _ (by omega)
    have HI := Lib.hid (show (decide ((0 : Int) ≤ n) && decide (n ≤ b - 1)) = ptB p n by
      rw [hb2]
      simp only [ptB, hp, Bool.true_and]
      congr 1
      simp only [decide_eq_decide]
      omega)
    have HPs := Lib.hid (fun w => sPoints p hp w)
    rw [← hb2] at HPs
    have HP := Lib.hid hp
    cases hB : ptB p n
    · simp only [ptX, ptY, ptZ, hB]
      rw [hB] at HI
      clear hp hb2 hpp hB
      go_enter Try.func28, Try.ntmps28
      go_wp2_with (first
        | (go_at_call 55; refine (sPV_yes p _ HP.out).mono ?_; rintro e w' ⟨rfl, rfl⟩)
        | (go_at_call 42; refine (HPs.out _).mono ?_; rintro e w' ⟨rfl, rfl⟩)
        | (go_at_call 56; refine ((HI.out ▸ sIn _ _ _ _)).mono ?_; rintro e w' ⟨rfl, rfl⟩))
      refine bodyPost_ret (v := .tuple #[.agg #[.int .i64 0, .int .i64 0, .int .i64 0], .bool false]) (by simp [results, Try.results28, go_sem]) rfl ⟨rfl, ?_⟩
      repeat (first | exact Below.refl _ _ | (refine Below.setCell ?_ (by simp <;> omega) _) | (refine Below.alloc ?_ (by simp <;> omega) _))
    · obtain ⟨h1, h2, h3⟩ := ptB_yes hB
      have HQ := Lib.hid (ptQ h1 h2 h3)
      simp only [ptX, ptY, ptZ, hB]
      rw [hB] at HI
      clear hp hb2 hpp hB h1 h2 h3
      go_enter Try.func28, Try.ntmps28
      go_wp2_with (first
        | (go_at_call 55; refine (sPV_yes p _ HP.out).mono ?_; rintro e w' ⟨rfl, rfl⟩)
        | (go_at_call 42; refine (HPs.out _).mono ?_; rintro e w' ⟨rfl, rfl⟩)
        | (go_at_call 56; refine ((HI.out ▸ sIn _ _ _ _)).mono ?_; rintro e w' ⟨rfl, rfl⟩))
      refine (sPoint p n _ _ _ _ HP.out HQ.out _).mono ?_
      rintro e w2 ⟨rfl, hb⟩
      have hb' : Below w.heap.size w w2 := (Below.alloc (Below.refl _ _) (Nat.le_refl _) _).trans (hb.mono (by simp))
      have c0 : w2.cell? ⟨w.heap.size, 0, none⟩ = some (.int .i64 0) := by rw [hb.cell (p := ⟨w.heap.size, 0, none⟩) (by simp)]; simp [go_sem]
      have c1 : w2.cell? ⟨w.heap.size, 1, none⟩ = some (.int .i64 0) := by rw [hb.cell (p := ⟨w.heap.size, 1, none⟩) (by simp)]; simp [go_sem]
      have c2 : w2.cell? ⟨w.heap.size, 2, none⟩ = some (.int .i64 0) := by rw [hb.cell (p := ⟨w.heap.size, 2, none⟩) (by simp)]; simp [go_sem]
      have f0 : ∀ i, w2.frozen? ⟨w.heap.size, i, none⟩ = false := fun i => by rw [hb.frozen (p := ⟨w.heap.size, i, none⟩) (by simp)]; exact World.frozen?_alloc_at _ _ _ i rfl
      have g0 := f0 0
      have g1 := f0 1
      have g2 := f0 2
      have HB := Lib.hid hb'
      clear hb hb' f0
      go_wp2_with fail
      refine bodyPost_ret (v := .tuple #[.agg #[.int .i64 (n / p / p), .int .i64 (n / p % p), .int .i64 (n % p)], .bool true]) (by simp [results, Try.results28, go_sem, c0, c1, c2]) rfl ⟨rfl, ?_⟩
      repeat (first | exact HB.out | (refine Below.setCell ?_ (by simp <;> omega) _))
set_option maxHeartbeats 4000000 in
/-- the walk of the law: for every number and every number of a point -/
theorem xPointAt (p n : Int) (w : World) :
    Calls Try.prog 8 #[.int .i64 p, .int .i64 n] w fun e w' => e = .returned (.bool true) ∧ Below w.heap.size w w' := by
  have HS := Lib.hid (fun w => sPointAt p n w)
  have HI := Lib.hid (fun w => iPointAt p n w)
  generalize ptX p n = x at *
  generalize ptY p n = y at *
  generalize ptZ p n = z at *
  generalize ptB p n = b at *
  have hbb : (b != b) = false := by cases b <;> rfl
  have HE := Lib.hid (show (x == x && y == y && z == z) = true by simp)
  go_enter Try.func8, Try.ntmps8
  go_wp2_with fail
  refine (HS.out _).mono ?_
  rintro e w1 ⟨rfl, hb1⟩
  go_wp2_with fail
  refine (HI.out _).mono ?_
  rintro e w2 ⟨rfl, hb2⟩
  have c0 : w2.cell? ⟨w1.heap.size, 0, none⟩ = some (.int .i64 x) := by rw [hb2.cell (p := ⟨w1.heap.size, 0, none⟩) (by simp)]; simp [go_sem]
  have c1 : w2.cell? ⟨w1.heap.size, 1, none⟩ = some (.int .i64 y) := by rw [hb2.cell (p := ⟨w1.heap.size, 1, none⟩) (by simp)]; simp [go_sem]
  have c2 : w2.cell? ⟨w1.heap.size, 2, none⟩ = some (.int .i64 z) := by rw [hb2.cell (p := ⟨w1.heap.size, 2, none⟩) (by simp)]; simp [go_sem]
  have hs2 := hb2.size
  rw [World.size_alloc] at hs2
  have hs1 := hb1.size
  have d0 : (w2.alloc (Obj.cells #[.int .i64 x, .int .i64 y, .int .i64 z] 35)).cell? ⟨w1.heap.size, 0, none⟩ = some (.int .i64 x) := by rw [(Below.alloc (Below.refl w2.heap.size w2) (Nat.le_refl _) _).cell (p := ⟨w1.heap.size, 0, none⟩) (by show w1.heap.size < _; omega)]; exact c0
  have d1 : (w2.alloc (Obj.cells #[.int .i64 x, .int .i64 y, .int .i64 z] 35)).cell? ⟨w1.heap.size, 1, none⟩ = some (.int .i64 y) := by rw [(Below.alloc (Below.refl w2.heap.size w2) (Nat.le_refl _) _).cell (p := ⟨w1.heap.size, 1, none⟩) (by show w1.heap.size < _; omega)]; exact c1
  have d2 : (w2.alloc (Obj.cells #[.int .i64 x, .int .i64 y, .int .i64 z] 35)).cell? ⟨w1.heap.size, 2, none⟩ = some (.int .i64 z) := by rw [(Below.alloc (Below.refl w2.heap.size w2) (Nat.le_refl _) _).cell (p := ⟨w1.heap.size, 2, none⟩) (by show w1.heap.size < _; omega)]; exact c2
  have HB := Lib.hid (show Below w.heap.size w w2 from (Below.alloc hb1 hb1.size _).trans (hb2.mono (by simp; omega)))
  clear hb1 hb2
  go_wp2_with (go_at_call 22; refine (eqA3_is _ x y z x y z HE.out _).mono ?_; rintro e w3 ⟨rfl, n, rfl⟩)
  go_ret
  exact ⟨rfl, by repeat (first | exact HB.out | apply Below.drew | apply below_drewN | (refine Below.alloc ?_ (by have := HB.out.size; simp <;> omega) _))⟩
end Go.Proofs.Ytmndcdcjjihecaa
