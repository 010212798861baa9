/-
  DerivePoly, of the program: the derivative of a term. Conditions: the power is from 0 to 9.
  DerivePoly, of the program, and the walk of its exact law. Conditions: none but that the slice reads as a list of terms.
-/
import Derived.Test.YtlidplmpglpkgaaBc1
namespace Go.Proofs.Ytlidplmpglpkgaa
open Go.RowKit
theorem mul_mod_in (a n p : Int) : a * (n % p) % p = a * n % p := by rw [Int.mul_emod, Int.emod_emod_of_dvd _ (Int.dvd_refl p), ← Int.mul_emod]
theorem iUnk2 (v : Int) (w : World) : Calls Try.prog 128 #[.int .i64 v] w fun e w' => e = .returned (.bool (vB v)) ∧ w = w' := by
  unfold vB
  by_cases h0 : 0 ≤ v
  · have hb : decide (v < 3) = decide (v ≤ 2) := by by_cases h : v < 3 <;> simp <;> omega
    rw [decide_eq_true h0, Bool.true_and, ← hb]
    clear hb
    go_enter Try.func128, Try.ntmps128
    go_wp2_with fail
    go_ret
    exact ⟨rfl, rfl⟩
  · rw [decide_eq_false h0, Bool.false_and]
    go_enter Try.func128, Try.ntmps128
    go_wp2_with fail
    go_ret
    exact ⟨rfl, rfl⟩
set_option maxRecDepth 100000 in
set_option maxHeartbeats 4000000 in
theorem iDerive_no (p v : Int) (f : Value) (L : List Trm) (w : World) (h : Trms w f L) (hr : ((isP p && validB p L) && vB v) = false) :
    Calls Try.prog 37 #[.int .i64 p, f, .int .i64 v] w (GivesPB [] false w) := by
  have HPV := Lib.hid (iPolyValid p f L w h)
  have HIN := Lib.hid (iUnk2 v)
  obtain ⟨_, a, cap, rfl, _⟩ := h
  obtain ⟨r, hr1⟩ : ∃ r, r = (isP p && validB p L) := ⟨_, rfl⟩
  obtain ⟨q, hq⟩ : ∃ q, q = vB v := ⟨_, rfl⟩
  rw [← hr1] at HPV hr
  rw [← hq] at HIN hr
  clear hr1 hq
  cases r
  · clear hr
    go_enter Try.func37, Try.ntmps37
    go_wp2_with fail
    refine HPV.out.mono ?_
    rintro e w2 ⟨rfl, hb2⟩
    have HQ := Lib.hid hb2
    clear hb2
    go_wp2_with fail
    refine bodyPost_ret (v := .tuple #[.slice none 0 0, .bool false]) (by simp [results, Try.results37, go_sem]) rfl ⟨_, rfl, (Row.nil w2 w.heap.size).own (by simp), HQ.out⟩
  · rw [Bool.true_and] at hr
    subst hr
    go_enter Try.func37, Try.ntmps37
    go_wp2_with fail
    refine HPV.out.mono ?_
    rintro e w2 ⟨rfl, hb2⟩
    have HQ := Lib.hid hb2
    clear hb2
    go_wp2_with fail
    refine (HIN.out _).mono ?_
    rintro e w3 ⟨rfl, rfl⟩
    go_wp2_with fail
    refine bodyPost_ret (v := .tuple #[.slice none 0 0, .bool false]) (by simp [results, Try.results37, go_sem]) rfl ⟨_, rfl, (Row.nil w2 w.heap.size).own (by simp), HQ.out⟩
set_option maxRecDepth 100000 in
set_option maxHeartbeats 8000000 in
theorem iDerived0 (p : Int) (x : Trm) (w : World) (hp : isP p = true) (ht : isE p x.t = true) (hf : 0 ≤ x.a ∧ x.a ≤ 9) :
    Calls Try.prog 129 #[.agg #[.int .i64 x.a, .int .i64 x.b, .int .i64 x.c, .int .i64 x.t], .int .i64 p, .int .i64 0] w
      fun e w' => e = .returned (.agg #[.int .i64 (x.a - 1), .int .i64 x.b, .int .i64 x.c, .int .i64 (x.t * x.a % p)]) ∧ Below w.heap.size w w' := by
  have HP := Lib.hid hp
  have hpb := isP_bd hp
  have hm := mulV_is hp ht (isE_iff.2 (emod_bd (n := x.a) hpb.1))
  rw [mul_mod_in] at hm
  have HM := Lib.hid (fun w => (hm ▸ iMul p x.t (x.a % p) w : Calls Try.prog 84 #[.int .i64 p, .int .i64 x.t, .int .i64 (x.a % p)] w fun e w' => e = .returned (.int .i64 (x.t * x.a % p)) ∧ Below w.heap.size w w'))
  have hw1 : IntKind.i64.wrap (x.a - 1) = x.a - 1 := IntWalk.i64_in _ (by omega)
  obtain ⟨n, hn⟩ : ∃ n, n = w.heap.size := ⟨_, rfl⟩
  obtain ⟨W, hW⟩ : ∃ W, W = (w.alloc (Obj.cells #[.int .i64 x.a, .int .i64 x.b, .int .i64 x.c, .int .i64 x.t] 87)).alloc (Obj.cells #[.int .i64 0, .int .i64 0, .int .i64 0, .int .i64 0] 87) := ⟨_, rfl⟩
  have hc : W.cell? ⟨n, 0, none⟩ = some (.int .i64 x.a) ∧ W.cell? ⟨n, 1, none⟩ = some (.int .i64 x.b) ∧ W.cell? ⟨n, 2, none⟩ = some (.int .i64 x.c) ∧ W.cell? ⟨n, 3, none⟩ = some (.int .i64 x.t) := by
    rw [hW, hn]; refine ⟨?_, ?_, ?_, ?_⟩ <;> simp [go_sem]
  have hd : ∀ i, i < 4 → ∃ u, W.cell? ⟨n + 1, i, none⟩ = some u := fun i hi => by
    rw [hW, hn]
    have : i = 0 ∨ i = 1 ∨ i = 2 ∨ i = 3 := by omega
    rcases this with rfl | rfl | rfl | rfl <;> exact ⟨_, by simp [go_sem]; rfl⟩
  have hB : Below n w W := by rw [hW, hn]; exact Below.alloc (Below.alloc (Below.refl _ _) (Nat.le_refl _) _) (by simp) _
  have hs : n + 1 < W.heap.size := by rw [hW, hn]; simp
  have hfr : ∀ g i, g = n ∨ g = n + 1 → W.frozen? ⟨g, i, none⟩ = false := fun g i hg => by
    rw [hW]
    rcases hg with rfl | rfl
    · rw [(Below.alloc (Below.refl (w.alloc (Obj.cells #[.int .i64 x.a, .int .i64 x.b, .int .i64 x.c, .int .i64 x.t] 87)).heap.size _) (Nat.le_refl _) _).frozen (p := ⟨g, i, none⟩) (by rw [hn]; simp), hn]
      exact World.frozen?_alloc_at _ _ _ i rfl
    · rw [show n + 1 = (w.alloc (Obj.cells #[.int .i64 x.a, .int .i64 x.b, .int .i64 x.c, .int .i64 x.t] 87)).heap.size by rw [hn]; simp]
      exact World.frozen?_alloc_at _ _ _ i rfl
  have HF := Lib.hid (fun W' (hb' : Below W.heap.size W W') => show (W'.cell? ⟨n, 0, none⟩ = some (.int .i64 x.a) ∧ W'.cell? ⟨n, 1, none⟩ = some (.int .i64 x.b) ∧ W'.cell? ⟨n, 2, none⟩ = some (.int .i64 x.c) ∧ W'.cell? ⟨n, 3, none⟩ = some (.int .i64 x.t)) ∧ (∀ i, i < 4 → ∃ u, W'.cell? ⟨n + 1, i, none⟩ = some u) ∧ (∀ g i, g = n ∨ g = n + 1 → W'.frozen? ⟨g, i, none⟩ = false) ∧ n + 1 < W'.heap.size ∧ Below n w W' from
    ⟨⟨by rw [hb'.cell (p := ⟨n, 0, none⟩) (show n < W.heap.size by omega)]; exact hc.1, by rw [hb'.cell (p := ⟨n, 1, none⟩) (show n < W.heap.size by omega)]; exact hc.2.1, by rw [hb'.cell (p := ⟨n, 2, none⟩) (show n < W.heap.size by omega)]; exact hc.2.2.1, by rw [hb'.cell (p := ⟨n, 3, none⟩) (show n < W.heap.size by omega)]; exact hc.2.2.2⟩,
     fun i hi => by obtain ⟨u, hu⟩ := hd i hi; exact ⟨u, by rw [hb'.cell (p := ⟨n + 1, i, none⟩) hs]; exact hu⟩,
     fun g i hg => by rw [hb'.frozen (p := ⟨g, i, none⟩) (show g < W.heap.size by rcases hg with rfl | rfl <;> omega)]; exact hfr g i hg,
     Nat.lt_of_lt_of_le hs hb'.size, hB.trans (hb'.mono (by omega))⟩)
  have HW := Lib.hid hW
  have HN := Lib.hid hn
  obtain ⟨t0, t1, t2, t3⟩ := hc
  clear hd hB hs hfr hp ht hm hW
  go_enter Try.func129, Try.ntmps129
  go_wp2_with fail
  rw [← HW.out, ← hn]
  clear hn
  refine wp_region_seq [(0, true), (1, true), (2, true), (3, true), (4, true), (5, true), (6, true), (7, true), (8, false), (9, false), (10, true)] (fun w' => w'.cell? ⟨n, 0, none⟩ = some (.int .i64 x.a) ∧ w'.cell? ⟨n, 1, none⟩ = some (.int .i64 x.b) ∧ w'.cell? ⟨n, 2, none⟩ = some (.int .i64 x.c) ∧ w'.cell? ⟨n, 3, none⟩ = some (.int .i64 x.t)) (by kernel_rfl) (by kernel_rfl) rfl (by intro c a d v w h; cases d <;> exact h) ⟨t0, t1, t2, t3⟩ ?_
  iterate 8 (refine wpSeq_take (v := ?_) (List.getElem?_toArray.trans rfl) ?_ ?_; rotate_left; (intro w' hSw; (try dsimp only at hSw); go_simp; (try with_reducible rfl)); (try simp only [Act.put, List.setIfInBounds_toArray, List.set_cons_zero, List.set_cons_succ]))
  refine wpSeq_do (List.getElem?_toArray.trans rfl) (fun K hK => ?_)
  go_simp
  refine (iRed p x.a _ HP.out).mono ?_
  rintro e w3 ⟨rfl, rfl⟩
  refine hK _ _ ⟨t0, t1, t2, t3⟩ ?_
  clear hK K
  refine wpSeq_do (List.getElem?_toArray.trans rfl) (fun K hK => ?_)
  go_simp
  refine (HM.out _).mono ?_
  rintro e w4 ⟨rfl, hb4⟩
  have hb5 : Below W.heap.size W w4 := (Below.drew (Below.refl _ _)).trans (hb4.mono (by simp))
  obtain ⟨hc5, -, -, -, -⟩ := HF.out w4 hb5
  refine hK _ _ hc5 ?_
  clear hK K t0 t1 t2 t3 hc5 hb4
  (refine wpSeq_take (v := ?_) (List.getElem?_toArray.trans rfl) ?_ ?_; rotate_left; (intro w' hSw; (try dsimp only at hSw); go_simp; (try with_reducible rfl)); (try simp only [Act.put, List.setIfInBounds_toArray, List.set_cons_zero, List.set_cons_succ]))
  refine wpSeq_nil ?_
  simp only [Exit.then]
  obtain ⟨⟨t0, t1, t2, t3⟩, hd5, hf5, hs5, hB5⟩ := HF.out w4 hb5
  obtain ⟨d0, e0⟩ := hd5 0 (by omega)
  obtain ⟨d1, e1⟩ := hd5 1 (by omega)
  obtain ⟨d2, e2⟩ := hd5 2 (by omega)
  obtain ⟨d3, e3⟩ := hd5 3 (by omega)
  have g3 := hf5 n 3 (.inl rfl)
  have gj := hf5 n 0 (.inl rfl)
  have k0 := hf5 (n + 1) 0 (.inr rfl)
  have k1 := hf5 (n + 1) 1 (.inr rfl)
  have k2 := hf5 (n + 1) 2 (.inr rfl)
  have k3 := hf5 (n + 1) 3 (.inr rfl)
  have HB5 := Lib.hid hB5
  clear hd5 hf5 hB5 hb5
  go_wp2_with fail
  refine bodyPost_ret (v := .agg #[.int .i64 (x.a - 1), .int .i64 x.b, .int .i64 x.c, .int .i64 (x.t * x.a % p)]) (by simp [results, Try.results129, go_sem, e0, e1, e2, e3]) rfl ⟨rfl, ?_⟩
  rw [← HN.out]
  repeat (first | exact HB5.out | (refine Below.setCell ?_ (by first | omega | (simp; done) | (simp; omega)) _))
set_option maxRecDepth 100000 in
set_option maxHeartbeats 8000000 in
theorem iDerived1 (p : Int) (x : Trm) (w : World) (hp : isP p = true) (ht : isE p x.t = true) (hf : 0 ≤ x.b ∧ x.b ≤ 9) :
    Calls Try.prog 129 #[.agg #[.int .i64 x.a, .int .i64 x.b, .int .i64 x.c, .int .i64 x.t], .int .i64 p, .int .i64 1] w
      fun e w' => e = .returned (.agg #[.int .i64 x.a, .int .i64 (x.b - 1), .int .i64 x.c, .int .i64 (x.t * x.b % p)]) ∧ Below w.heap.size w w' := by
  have HP := Lib.hid hp
  have hpb := isP_bd hp
  have hm := mulV_is hp ht (isE_iff.2 (emod_bd (n := x.b) hpb.1))
  rw [mul_mod_in] at hm
  have HM := Lib.hid (fun w => (hm ▸ iMul p x.t (x.b % p) w : Calls Try.prog 84 #[.int .i64 p, .int .i64 x.t, .int .i64 (x.b % p)] w fun e w' => e = .returned (.int .i64 (x.t * x.b % p)) ∧ Below w.heap.size w w'))
  have hw1 : IntKind.i64.wrap (x.b - 1) = x.b - 1 := IntWalk.i64_in _ (by omega)
  obtain ⟨n, hn⟩ : ∃ n, n = w.heap.size := ⟨_, rfl⟩
  obtain ⟨W, hW⟩ : ∃ W, W = (w.alloc (Obj.cells #[.int .i64 x.a, .int .i64 x.b, .int .i64 x.c, .int .i64 x.t] 87)).alloc (Obj.cells #[.int .i64 0, .int .i64 0, .int .i64 0, .int .i64 0] 87) := ⟨_, rfl⟩
  have hc : W.cell? ⟨n, 0, none⟩ = some (.int .i64 x.a) ∧ W.cell? ⟨n, 1, none⟩ = some (.int .i64 x.b) ∧ W.cell? ⟨n, 2, none⟩ = some (.int .i64 x.c) ∧ W.cell? ⟨n, 3, none⟩ = some (.int .i64 x.t) := by
    rw [hW, hn]; refine ⟨?_, ?_, ?_, ?_⟩ <;> simp [go_sem]
  have hd : ∀ i, i < 4 → ∃ u, W.cell? ⟨n + 1, i, none⟩ = some u := fun i hi => by
    rw [hW, hn]
    have : i = 0 ∨ i = 1 ∨ i = 2 ∨ i = 3 := by omega
    rcases this with rfl | rfl | rfl | rfl <;> exact ⟨_, by simp [go_sem]; rfl⟩
  have hB : Below n w W := by rw [hW, hn]; exact Below.alloc (Below.alloc (Below.refl _ _) (Nat.le_refl _) _) (by simp) _
  have hs : n + 1 < W.heap.size := by rw [hW, hn]; simp
  have hfr : ∀ g i, g = n ∨ g = n + 1 → W.frozen? ⟨g, i, none⟩ = false := fun g i hg => by
    rw [hW]
    rcases hg with rfl | rfl
    · rw [(Below.alloc (Below.refl (w.alloc (Obj.cells #[.int .i64 x.a, .int .i64 x.b, .int .i64 x.c, .int .i64 x.t] 87)).heap.size _) (Nat.le_refl _) _).frozen (p := ⟨g, i, none⟩) (by rw [hn]; simp), hn]
      exact World.frozen?_alloc_at _ _ _ i rfl
    · rw [show n + 1 = (w.alloc (Obj.cells #[.int .i64 x.a, .int .i64 x.b, .int .i64 x.c, .int .i64 x.t] 87)).heap.size by rw [hn]; simp]
      exact World.frozen?_alloc_at _ _ _ i rfl
  have HF := Lib.hid (fun W' (hb' : Below W.heap.size W W') => show (W'.cell? ⟨n, 0, none⟩ = some (.int .i64 x.a) ∧ W'.cell? ⟨n, 1, none⟩ = some (.int .i64 x.b) ∧ W'.cell? ⟨n, 2, none⟩ = some (.int .i64 x.c) ∧ W'.cell? ⟨n, 3, none⟩ = some (.int .i64 x.t)) ∧ (∀ i, i < 4 → ∃ u, W'.cell? ⟨n + 1, i, none⟩ = some u) ∧ (∀ g i, g = n ∨ g = n + 1 → W'.frozen? ⟨g, i, none⟩ = false) ∧ n + 1 < W'.heap.size ∧ Below n w W' from
    ⟨⟨by rw [hb'.cell (p := ⟨n, 0, none⟩) (show n < W.heap.size by omega)]; exact hc.1, by rw [hb'.cell (p := ⟨n, 1, none⟩) (show n < W.heap.size by omega)]; exact hc.2.1, by rw [hb'.cell (p := ⟨n, 2, none⟩) (show n < W.heap.size by omega)]; exact hc.2.2.1, by rw [hb'.cell (p := ⟨n, 3, none⟩) (show n < W.heap.size by omega)]; exact hc.2.2.2⟩,
     fun i hi => by obtain ⟨u, hu⟩ := hd i hi; exact ⟨u, by rw [hb'.cell (p := ⟨n + 1, i, none⟩) hs]; exact hu⟩,
     fun g i hg => by rw [hb'.frozen (p := ⟨g, i, none⟩) (show g < W.heap.size by rcases hg with rfl | rfl <;> omega)]; exact hfr g i hg,
     Nat.lt_of_lt_of_le hs hb'.size, hB.trans (hb'.mono (by omega))⟩)
  have HW := Lib.hid hW
  have HN := Lib.hid hn
  obtain ⟨t0, t1, t2, t3⟩ := hc
  clear hd hB hs hfr hp ht hm hW
  go_enter Try.func129, Try.ntmps129
  go_wp2_with fail
  rw [← HW.out, ← hn]
  clear hn
  refine wp_region_seq [(0, true), (1, true), (2, true), (3, true), (4, true), (5, true), (6, true), (7, true), (8, false), (9, false), (10, true)] (fun w' => w'.cell? ⟨n, 0, none⟩ = some (.int .i64 x.a) ∧ w'.cell? ⟨n, 1, none⟩ = some (.int .i64 x.b) ∧ w'.cell? ⟨n, 2, none⟩ = some (.int .i64 x.c) ∧ w'.cell? ⟨n, 3, none⟩ = some (.int .i64 x.t)) (by kernel_rfl) (by kernel_rfl) rfl (by intro c a d v w h; cases d <;> exact h) ⟨t0, t1, t2, t3⟩ ?_
  iterate 8 (refine wpSeq_take (v := ?_) (List.getElem?_toArray.trans rfl) ?_ ?_; rotate_left; (intro w' hSw; (try dsimp only at hSw); go_simp; (try with_reducible rfl)); (try simp only [Act.put, List.setIfInBounds_toArray, List.set_cons_zero, List.set_cons_succ]))
  refine wpSeq_do (List.getElem?_toArray.trans rfl) (fun K hK => ?_)
  go_simp
  refine (iRed p x.b _ HP.out).mono ?_
  rintro e w3 ⟨rfl, rfl⟩
  refine hK _ _ ⟨t0, t1, t2, t3⟩ ?_
  clear hK K
  refine wpSeq_do (List.getElem?_toArray.trans rfl) (fun K hK => ?_)
  go_simp
  refine (HM.out _).mono ?_
  rintro e w4 ⟨rfl, hb4⟩
  have hb5 : Below W.heap.size W w4 := (Below.drew (Below.refl _ _)).trans (hb4.mono (by simp))
  obtain ⟨hc5, -, -, -, -⟩ := HF.out w4 hb5
  refine hK _ _ hc5 ?_
  clear hK K t0 t1 t2 t3 hc5 hb4
  (refine wpSeq_take (v := ?_) (List.getElem?_toArray.trans rfl) ?_ ?_; rotate_left; (intro w' hSw; (try dsimp only at hSw); go_simp; (try with_reducible rfl)); (try simp only [Act.put, List.setIfInBounds_toArray, List.set_cons_zero, List.set_cons_succ]))
  refine wpSeq_nil ?_
  simp only [Exit.then]
  obtain ⟨⟨t0, t1, t2, t3⟩, hd5, hf5, hs5, hB5⟩ := HF.out w4 hb5
  obtain ⟨d0, e0⟩ := hd5 0 (by omega)
  obtain ⟨d1, e1⟩ := hd5 1 (by omega)
  obtain ⟨d2, e2⟩ := hd5 2 (by omega)
  obtain ⟨d3, e3⟩ := hd5 3 (by omega)
  have g3 := hf5 n 3 (.inl rfl)
  have gj := hf5 n 1 (.inl rfl)
  have k0 := hf5 (n + 1) 0 (.inr rfl)
  have k1 := hf5 (n + 1) 1 (.inr rfl)
  have k2 := hf5 (n + 1) 2 (.inr rfl)
  have k3 := hf5 (n + 1) 3 (.inr rfl)
  have HB5 := Lib.hid hB5
  clear hd5 hf5 hB5 hb5
  go_wp2_with fail
  refine bodyPost_ret (v := .agg #[.int .i64 x.a, .int .i64 (x.b - 1), .int .i64 x.c, .int .i64 (x.t * x.b % p)]) (by simp [results, Try.results129, go_sem, e0, e1, e2, e3]) rfl ⟨rfl, ?_⟩
  rw [← HN.out]
  repeat (first | exact HB5.out | (refine Below.setCell ?_ (by first | omega | (simp; done) | (simp; omega)) _))
set_option maxRecDepth 100000 in
set_option maxHeartbeats 8000000 in
theorem iDerived2 (p : Int) (x : Trm) (w : World) (hp : isP p = true) (ht : isE p x.t = true) (hf : 0 ≤ x.c ∧ x.c ≤ 9) :
    Calls Try.prog 129 #[.agg #[.int .i64 x.a, .int .i64 x.b, .int .i64 x.c, .int .i64 x.t], .int .i64 p, .int .i64 2] w
      fun e w' => e = .returned (.agg #[.int .i64 x.a, .int .i64 x.b, .int .i64 (x.c - 1), .int .i64 (x.t * x.c % p)]) ∧ Below w.heap.size w w' := by
  have HP := Lib.hid hp
  have hpb := isP_bd hp
  have hm := mulV_is hp ht (isE_iff.2 (emod_bd (n := x.c) hpb.1))
  rw [mul_mod_in] at hm
  have HM := Lib.hid (fun w => (hm ▸ iMul p x.t (x.c % p) w : Calls Try.prog 84 #[.int .i64 p, .int .i64 x.t, .int .i64 (x.c % p)] w fun e w' => e = .returned (.int .i64 (x.t * x.c % p)) ∧ Below w.heap.size w w'))
  have hw1 : IntKind.i64.wrap (x.c - 1) = x.c - 1 := IntWalk.i64_in _ (by omega)
  obtain ⟨n, hn⟩ : ∃ n, n = w.heap.size := ⟨_, rfl⟩
  obtain ⟨W, hW⟩ : ∃ W, W = (w.alloc (Obj.cells #[.int .i64 x.a, .int .i64 x.b, .int .i64 x.c, .int .i64 x.t] 87)).alloc (Obj.cells #[.int .i64 0, .int .i64 0, .int .i64 0, .int .i64 0] 87) := ⟨_, rfl⟩
  have hc : W.cell? ⟨n, 0, none⟩ = some (.int .i64 x.a) ∧ W.cell? ⟨n, 1, none⟩ = some (.int .i64 x.b) ∧ W.cell? ⟨n, 2, none⟩ = some (.int .i64 x.c) ∧ W.cell? ⟨n, 3, none⟩ = some (.int .i64 x.t) := by
    rw [hW, hn]; refine ⟨?_, ?_, ?_, ?_⟩ <;> simp [go_sem]
  have hd : ∀ i, i < 4 → ∃ u, W.cell? ⟨n + 1, i, none⟩ = some u := fun i hi => by
    rw [hW, hn]
    have : i = 0 ∨ i = 1 ∨ i = 2 ∨ i = 3 := by omega
    rcases this with rfl | rfl | rfl | rfl <;> exact ⟨_, by simp [go_sem]; rfl⟩
  have hB : Below n w W := by rw [hW, hn]; exact Below.alloc (Below.alloc (Below.refl _ _) (Nat.le_refl _) _) (by simp) _
  have hs : n + 1 < W.heap.size := by rw [hW, hn]; simp
  have hfr : ∀ g i, g = n ∨ g = n + 1 → W.frozen? ⟨g, i, none⟩ = false := fun g i hg => by
    rw [hW]
    rcases hg with rfl | rfl
    · rw [(Below.alloc (Below.refl (w.alloc (Obj.cells #[.int .i64 x.a, .int .i64 x.b, .int .i64 x.c, .int .i64 x.t] 87)).heap.size _) (Nat.le_refl _) _).frozen (p := ⟨g, i, none⟩) (by rw [hn]; simp), hn]
      exact World.frozen?_alloc_at _ _ _ i rfl
    · rw [show n + 1 = (w.alloc (Obj.cells #[.int .i64 x.a, .int .i64 x.b, .int .i64 x.c, .int .i64 x.t] 87)).heap.size by rw [hn]; simp]
      exact World.frozen?_alloc_at _ _ _ i rfl
  have HF := Lib.hid (fun W' (hb' : Below W.heap.size W W') => show (W'.cell? ⟨n, 0, none⟩ = some (.int .i64 x.a) ∧ W'.cell? ⟨n, 1, none⟩ = some (.int .i64 x.b) ∧ W'.cell? ⟨n, 2, none⟩ = some (.int .i64 x.c) ∧ W'.cell? ⟨n, 3, none⟩ = some (.int .i64 x.t)) ∧ (∀ i, i < 4 → ∃ u, W'.cell? ⟨n + 1, i, none⟩ = some u) ∧ (∀ g i, g = n ∨ g = n + 1 → W'.frozen? ⟨g, i, none⟩ = false) ∧ n + 1 < W'.heap.size ∧ Below n w W' from
    ⟨⟨by rw [hb'.cell (p := ⟨n, 0, none⟩) (show n < W.heap.size by omega)]; exact hc.1, by rw [hb'.cell (p := ⟨n, 1, none⟩) (show n < W.heap.size by omega)]; exact hc.2.1, by rw [hb'.cell (p := ⟨n, 2, none⟩) (show n < W.heap.size by omega)]; exact hc.2.2.1, by rw [hb'.cell (p := ⟨n, 3, none⟩) (show n < W.heap.size by omega)]; exact hc.2.2.2⟩,
     fun i hi => by obtain ⟨u, hu⟩ := hd i hi; exact ⟨u, by rw [hb'.cell (p := ⟨n + 1, i, none⟩) hs]; exact hu⟩,
     fun g i hg => by rw [hb'.frozen (p := ⟨g, i, none⟩) (show g < W.heap.size by rcases hg with rfl | rfl <;> omega)]; exact hfr g i hg,
     Nat.lt_of_lt_of_le hs hb'.size, hB.trans (hb'.mono (by omega))⟩)
  have HW := Lib.hid hW
  have HN := Lib.hid hn
  obtain ⟨t0, t1, t2, t3⟩ := hc
  clear hd hB hs hfr hp ht hm hW
  go_enter Try.func129, Try.ntmps129
  go_wp2_with fail
  rw [← HW.out, ← hn]
  clear hn
  refine wp_region_seq [(0, true), (1, true), (2, true), (3, true), (4, true), (5, true), (6, true), (7, true), (8, false), (9, false), (10, true)] (fun w' => w'.cell? ⟨n, 0, none⟩ = some (.int .i64 x.a) ∧ w'.cell? ⟨n, 1, none⟩ = some (.int .i64 x.b) ∧ w'.cell? ⟨n, 2, none⟩ = some (.int .i64 x.c) ∧ w'.cell? ⟨n, 3, none⟩ = some (.int .i64 x.t)) (by kernel_rfl) (by kernel_rfl) rfl (by intro c a d v w h; cases d <;> exact h) ⟨t0, t1, t2, t3⟩ ?_
  iterate 8 (refine wpSeq_take (v := ?_) (List.getElem?_toArray.trans rfl) ?_ ?_; rotate_left; (intro w' hSw; (try dsimp only at hSw); go_simp; (try with_reducible rfl)); (try simp only [Act.put, List.setIfInBounds_toArray, List.set_cons_zero, List.set_cons_succ]))
  refine wpSeq_do (List.getElem?_toArray.trans rfl) (fun K hK => ?_)
  go_simp
  refine (iRed p x.c _ HP.out).mono ?_
  rintro e w3 ⟨rfl, rfl⟩
  refine hK _ _ ⟨t0, t1, t2, t3⟩ ?_
  clear hK K
  refine wpSeq_do (List.getElem?_toArray.trans rfl) (fun K hK => ?_)
  go_simp
  refine (HM.out _).mono ?_
  rintro e w4 ⟨rfl, hb4⟩
  have hb5 : Below W.heap.size W w4 := (Below.drew (Below.refl _ _)).trans (hb4.mono (by simp))
  obtain ⟨hc5, -, -, -, -⟩ := HF.out w4 hb5
  refine hK _ _ hc5 ?_
  clear hK K t0 t1 t2 t3 hc5 hb4
  (refine wpSeq_take (v := ?_) (List.getElem?_toArray.trans rfl) ?_ ?_; rotate_left; (intro w' hSw; (try dsimp only at hSw); go_simp; (try with_reducible rfl)); (try simp only [Act.put, List.setIfInBounds_toArray, List.set_cons_zero, List.set_cons_succ]))
  refine wpSeq_nil ?_
  simp only [Exit.then]
  obtain ⟨⟨t0, t1, t2, t3⟩, hd5, hf5, hs5, hB5⟩ := HF.out w4 hb5
  obtain ⟨d0, e0⟩ := hd5 0 (by omega)
  obtain ⟨d1, e1⟩ := hd5 1 (by omega)
  obtain ⟨d2, e2⟩ := hd5 2 (by omega)
  obtain ⟨d3, e3⟩ := hd5 3 (by omega)
  have g3 := hf5 n 3 (.inl rfl)
  have gj := hf5 n 2 (.inl rfl)
  have k0 := hf5 (n + 1) 0 (.inr rfl)
  have k1 := hf5 (n + 1) 1 (.inr rfl)
  have k2 := hf5 (n + 1) 2 (.inr rfl)
  have k3 := hf5 (n + 1) 3 (.inr rfl)
  have HB5 := Lib.hid hB5
  clear hd5 hf5 hB5 hb5
  go_wp2_with fail
  refine bodyPost_ret (v := .agg #[.int .i64 x.a, .int .i64 x.b, .int .i64 (x.c - 1), .int .i64 (x.t * x.c % p)]) (by simp [results, Try.results129, go_sem, e0, e1, e2, e3]) rfl ⟨rfl, ?_⟩
  rw [← HN.out]
  repeat (first | exact HB5.out | (refine Below.setCell ?_ (by first | omega | (simp; done) | (simp; omega)) _))
end Go.Proofs.Ytlidplmpglpkgaa
namespace Go.Proofs.Ytlidplmpglpkgaa
open Go.RowKit
set_option maxRecDepth 100000 in
set_option maxHeartbeats 8000000 in
theorem iDerive_yes0 (p : Int) (a : Option Addr) (cap : Nat) (L : List Trm) (w : World) (hp : isP p = true) (hV : validB p L = true) (hL : Trms w (.slice a L.length cap) L) (R : List Trm) (b : Bool) (hR : R = if b = true then derK p 0 L L.length else []) (hb : b = validB p (derK p 0 L L.length)) :
    Calls Try.prog 37 #[.int .i64 p, .slice a L.length cap, .int .i64 0] w (GivesPB R b w) := by
  have HP := Lib.hid hp
  have HV := Lib.hid hV
  have HRE := Lib.hid hR
  have HBE := Lib.hid hb
  have hl := validB_len hV
  have HIN := Lib.hid (iUnk2 0)
  rw [show vB 0 = true by decide] at HIN
  have HPV := Lib.hid (iPolyValid p _ L w hL)
  rw [hp, hV, show (true && true) = true from rfl] at HPV
  have HL := Lib.hid hL
  clear hp hV hL hR hb
  go_enter Try.func37, Try.ntmps37
  go_wp2_with fail
  refine HPV.out.mono ?_
  rintro e w2 ⟨rfl, hb2⟩
  have HB2 := Lib.hid hb2
  clear hb2
  go_wp2_with fail
  refine (HIN.out _).mono ?_
  rintro e w3 ⟨rfl, rfl⟩
  go_wp2_with fail
  obtain ⟨W, hW⟩ : ∃ W, W = w2.alloc (Obj.cells #[.int .i64 p, .slice none 0 0] 114) := ⟨_, rfl⟩
  obtain ⟨S, hSe⟩ : ∃ S, S = w2.heap.size := ⟨_, rfl⟩
  have hSB : w.heap.size ≤ S := by rw [hSe]; exact HB2.out.size
  have HW := Lib.hid (show SumW W S p (.slice none 0 0) ∧ Row W w.heap.size (.slice none 0 0) (derK p 0 L 0) ∧ Value.ownBlock (.slice none 0 0) ≠ some S ∧ Below w.heap.size w W by
    rw [hW, hSe, derK_zero]
    exact ⟨⟨by simp [go_sem], by simp [go_sem], World.frozen?_alloc_at _ _ _ 0 rfl, World.frozen?_alloc_at _ _ _ 1 rfl, by simp⟩, Row.nil _ _, by simp [Value.ownBlock], Below.alloc HB2.out HB2.out.size _⟩)
  rw [← hW, ← hSe]
  clear hSe hW
  go_loopw [24] (fun i wr => ∃ (k : Nat) (v : Value), k ≤ L.length ∧ i = .int .i64 k ∧ SumW wr S p v ∧ Row wr w.heap.size v (derK p 0 L k) ∧ v.ownBlock ≠ some S ∧ Below w.heap.size w wr) (fun i _ => L.length - (intOf i).toNat)
  case atStart => exact ⟨0, _, by omega, rfl, HW.out⟩
  case round =>
    clear HW
    obtain ⟨k, v, hk, rfl, hS, hR, hv, hb⟩ := hrel
    by_cases hlt : k < L.length
    · have hltp : (k : Int) < (L.length : Int) := by omega
      have hk0 : (0 : Int) ≤ (k : Int) := by omega
      obtain ⟨x, hx⟩ : ∃ x, x = L.getD k default := ⟨_, rfl⟩
      have hel := validB_el HV.out hlt hx
      obtain ⟨ha, hbb, hcc⟩ := validB_pows HV.out hlt hx
      have HD := Lib.hid (fun w => iDerived0 p x w HP.out (isE_iff.2 (by omega)) ha)
      have HXK := Lib.hid (show addT p ⟨x.a - 1, x.b, x.c, x.t * x.a % p⟩ (derK p 0 L k) = derK p 0 L (k + 1) by
        rw [← derK_next hlt, ← hx]
        by_cases hz : x.a = 0
        · rw [derT_z0 p x hz, addT_zero0 (by show x.t * x.a % p = 0; rw [hz]; simp), addT_zero0 (by show x.t * x.a % p = 0; rw [hz]; simp)]
        · rw [derT_at0 p x hz])
      obtain ⟨g, off, rfl, hg, hc⟩ : ∃ g off, a = some ⟨g, off, none⟩ ∧ g < w.heap.size ∧ ∀ j : Nat, j < L.length → TAt w g (off + j * 4) (L.getD j default) := by
        obtain ⟨_, a', cap', he, h⟩ := HL.out
        injection he with e1 e2 e3
        subst e1
        rcases h with h | h
        · rw [h] at hlt; simp at hlt
        · exact h
      obtain ⟨b0, b1, b2, b3⟩ := (hc k hlt).below hb hg
      rw [← hx] at b0 b1 b2 b3
      have HV2 := Lib.hid hv
      have HS := Lib.hid hS
      have HR := Lib.hid hR
      have Hb := Lib.hid hb
      have H0 := Lib.hid (Below.alloc (Below.refl wr.heap.size wr) (Nat.le_refl _) (Obj.cells #[.int .i64 x.a, .int .i64 x.b, .int .i64 x.c, .int .i64 x.t] 87))
      clear hx hS hR hv hb hc hel ha hbb hcc
      go_wp2_with fail
      refine (HD.out _).mono ?_
      rintro e w3 ⟨rfl, hb3⟩
      have H3 := Lib.hid (H0.out.trans (hb3.mono H0.out.size))
      have H4 := Lib.hid (Hb.out.trans (H3.out.mono Hb.out.size))
      clear hb3
      go_wp2_with fail
      have hf := derK_facts (p := p) (v := 0) (L := L) HP.out hk hl
      have hpb := isP_bd HP.out
      refine (iPut w.heap.size S p v (derK p 0 L k) ⟨x.a - 1, x.b, x.c, x.t * x.a % p⟩ w3 (HS.out.below H3.out) (HR.out.below H3.out) H4.out.size HP.out hf.1 hf.2.1 (isE_iff.2 (emod_bd hpb.1)) (by omega) HV2.out).mono ?_
      rintro e w4 hP4
      have hlow := hP4.low (HR.out.below H3.out) hSB H4.out.size
      obtain ⟨rfl, v', hS', hR', hv', _, _⟩ := hP4
      rw [HXK.out] at hR'
      have HQ := Lib.hid (And.intro hS' (And.intro hR' (And.intro hv' (H4.out.trans hlow))))
      clear hS' hR' hv' hlow hf hpb
      go_wp2_with fail
      go_roundw
      case rel => exact ⟨k + 1, v', by omega, by go_num, HQ.out⟩
      case measure => simp [intOf]; omega
    · have hkl : k = L.length := by omega
      subst hkl
      have hb1 := HBE.out
      have hR1 := HRE.out
      have hf := derK_facts (p := p) (v := 0) (L := L) HP.out (Nat.le_refl _) hl
      have hown := hR.own (by omega)
      obtain ⟨M, hM⟩ : ∃ M, M = derK p 0 L L.length := ⟨_, rfl⟩
      rw [← hM] at hown hb1 hR1
      obtain ⟨hl2, ao, co, rfl, _⟩ := hown.trms
      have HO := Lib.hid hown
      have Hb := Lib.hid hb
      have HT := Lib.hid (iPolyOf S p ao co M wr hS hown.trms)
      rw [HP.out, ← hb1] at HT
      clear hown hS hb hR hf hv hM
      cases b
      · have hz : R = [] := by rw [hR1]; rfl
        subst hz
        clear hb1 hR1
        go_wp2_with (go_at_call 108; refine HT.out.mono ?_; rintro e w5 ⟨rfl, hb5⟩)
        have H5 := Lib.hid (Hb.out.trans (hb5.mono Hb.out.size))
        refine bodyPost_ret (v := .tuple #[.slice none 0 0, .bool false]) (by simp [results, Try.results37, go_sem]) rfl ⟨_, rfl, (Row.nil _ w.heap.size).own (by simp), H5.out⟩
      · have hz : R = M := by rw [hR1]; rfl
        subst hz
        clear hb1 hR1
        go_wp2_with (go_at_call 108; refine HT.out.mono ?_; rintro e w5 ⟨rfl, hb5⟩)
        have H5 := Lib.hid (And.intro (HO.out.below hb5) (Hb.out.trans (hb5.mono Hb.out.size)))
        refine bodyPost_ret (v := .tuple #[.slice ao R.length co, .bool true]) (by simp [results, Try.results37, go_sem]) rfl ⟨_, rfl, H5.out.1, H5.out.2⟩
set_option maxRecDepth 100000 in
set_option maxHeartbeats 8000000 in
theorem iDerive_yes1 (p : Int) (a : Option Addr) (cap : Nat) (L : List Trm) (w : World) (hp : isP p = true) (hV : validB p L = true) (hL : Trms w (.slice a L.length cap) L) (R : List Trm) (b : Bool) (hR : R = if b = true then derK p 1 L L.length else []) (hb : b = validB p (derK p 1 L L.length)) :
    Calls Try.prog 37 #[.int .i64 p, .slice a L.length cap, .int .i64 1] w (GivesPB R b w) := by
  have HP := Lib.hid hp
  have HV := Lib.hid hV
  have HRE := Lib.hid hR
  have HBE := Lib.hid hb
  have hl := validB_len hV
  have HIN := Lib.hid (iUnk2 1)
  rw [show vB 1 = true by decide] at HIN
  have HPV := Lib.hid (iPolyValid p _ L w hL)
  rw [hp, hV, show (true && true) = true from rfl] at HPV
  have HL := Lib.hid hL
  clear hp hV hL hR hb
  go_enter Try.func37, Try.ntmps37
  go_wp2_with fail
  refine HPV.out.mono ?_
  rintro e w2 ⟨rfl, hb2⟩
  have HB2 := Lib.hid hb2
  clear hb2
  go_wp2_with fail
  refine (HIN.out _).mono ?_
  rintro e w3 ⟨rfl, rfl⟩
  go_wp2_with fail
  obtain ⟨W, hW⟩ : ∃ W, W = w2.alloc (Obj.cells #[.int .i64 p, .slice none 0 0] 114) := ⟨_, rfl⟩
  obtain ⟨S, hSe⟩ : ∃ S, S = w2.heap.size := ⟨_, rfl⟩
  have hSB : w.heap.size ≤ S := by rw [hSe]; exact HB2.out.size
  have HW := Lib.hid (show SumW W S p (.slice none 0 0) ∧ Row W w.heap.size (.slice none 0 0) (derK p 1 L 0) ∧ Value.ownBlock (.slice none 0 0) ≠ some S ∧ Below w.heap.size w W by
    rw [hW, hSe, derK_zero]
    exact ⟨⟨by simp [go_sem], by simp [go_sem], World.frozen?_alloc_at _ _ _ 0 rfl, World.frozen?_alloc_at _ _ _ 1 rfl, by simp⟩, Row.nil _ _, by simp [Value.ownBlock], Below.alloc HB2.out HB2.out.size _⟩)
  rw [← hW, ← hSe]
  clear hSe hW
  go_loopw [24] (fun i wr => ∃ (k : Nat) (v : Value), k ≤ L.length ∧ i = .int .i64 k ∧ SumW wr S p v ∧ Row wr w.heap.size v (derK p 1 L k) ∧ v.ownBlock ≠ some S ∧ Below w.heap.size w wr) (fun i _ => L.length - (intOf i).toNat)
  case atStart => exact ⟨0, _, by omega, rfl, HW.out⟩
  case round =>
    clear HW
    obtain ⟨k, v, hk, rfl, hS, hR, hv, hb⟩ := hrel
    by_cases hlt : k < L.length
    · have hltp : (k : Int) < (L.length : Int) := by omega
      have hk0 : (0 : Int) ≤ (k : Int) := by omega
      obtain ⟨x, hx⟩ : ∃ x, x = L.getD k default := ⟨_, rfl⟩
      have hel := validB_el HV.out hlt hx
      obtain ⟨ha, hbb, hcc⟩ := validB_pows HV.out hlt hx
      have HD := Lib.hid (fun w => iDerived1 p x w HP.out (isE_iff.2 (by omega)) hbb)
      have HXK := Lib.hid (show addT p ⟨x.a, x.b - 1, x.c, x.t * x.b % p⟩ (derK p 1 L k) = derK p 1 L (k + 1) by
        rw [← derK_next hlt, ← hx]
        by_cases hz : x.b = 0
        · rw [derT_z1 p x hz, addT_zero0 (by show x.t * x.b % p = 0; rw [hz]; simp), addT_zero0 (by show x.t * x.b % p = 0; rw [hz]; simp)]
        · rw [derT_at1 p x hz])
      obtain ⟨g, off, rfl, hg, hc⟩ : ∃ g off, a = some ⟨g, off, none⟩ ∧ g < w.heap.size ∧ ∀ j : Nat, j < L.length → TAt w g (off + j * 4) (L.getD j default) := by
        obtain ⟨_, a', cap', he, h⟩ := HL.out
        injection he with e1 e2 e3
        subst e1
        rcases h with h | h
        · rw [h] at hlt; simp at hlt
        · exact h
      obtain ⟨b0, b1, b2, b3⟩ := (hc k hlt).below hb hg
      rw [← hx] at b0 b1 b2 b3
      have HV2 := Lib.hid hv
      have HS := Lib.hid hS
      have HR := Lib.hid hR
      have Hb := Lib.hid hb
      have H0 := Lib.hid (Below.alloc (Below.refl wr.heap.size wr) (Nat.le_refl _) (Obj.cells #[.int .i64 x.a, .int .i64 x.b, .int .i64 x.c, .int .i64 x.t] 87))
      clear hx hS hR hv hb hc hel ha hbb hcc
      go_wp2_with fail
      refine (HD.out _).mono ?_
      rintro e w3 ⟨rfl, hb3⟩
      have H3 := Lib.hid (H0.out.trans (hb3.mono H0.out.size))
      have H4 := Lib.hid (Hb.out.trans (H3.out.mono Hb.out.size))
      clear hb3
      go_wp2_with fail
      have hf := derK_facts (p := p) (v := 1) (L := L) HP.out hk hl
      have hpb := isP_bd HP.out
      refine (iPut w.heap.size S p v (derK p 1 L k) ⟨x.a, x.b - 1, x.c, x.t * x.b % p⟩ w3 (HS.out.below H3.out) (HR.out.below H3.out) H4.out.size HP.out hf.1 hf.2.1 (isE_iff.2 (emod_bd hpb.1)) (by omega) HV2.out).mono ?_
      rintro e w4 hP4
      have hlow := hP4.low (HR.out.below H3.out) hSB H4.out.size
      obtain ⟨rfl, v', hS', hR', hv', _, _⟩ := hP4
      rw [HXK.out] at hR'
      have HQ := Lib.hid (And.intro hS' (And.intro hR' (And.intro hv' (H4.out.trans hlow))))
      clear hS' hR' hv' hlow hf hpb
      go_wp2_with fail
      go_roundw
      case rel => exact ⟨k + 1, v', by omega, by go_num, HQ.out⟩
      case measure => simp [intOf]; omega
    · have hkl : k = L.length := by omega
      subst hkl
      have hb1 := HBE.out
      have hR1 := HRE.out
      have hf := derK_facts (p := p) (v := 1) (L := L) HP.out (Nat.le_refl _) hl
      have hown := hR.own (by omega)
      obtain ⟨M, hM⟩ : ∃ M, M = derK p 1 L L.length := ⟨_, rfl⟩
      rw [← hM] at hown hb1 hR1
      obtain ⟨hl2, ao, co, rfl, _⟩ := hown.trms
      have HO := Lib.hid hown
      have Hb := Lib.hid hb
      have HT := Lib.hid (iPolyOf S p ao co M wr hS hown.trms)
      rw [HP.out, ← hb1] at HT
      clear hown hS hb hR hf hv hM
      cases b
      · have hz : R = [] := by rw [hR1]; rfl
        subst hz
        clear hb1 hR1
        go_wp2_with (go_at_call 108; refine HT.out.mono ?_; rintro e w5 ⟨rfl, hb5⟩)
        have H5 := Lib.hid (Hb.out.trans (hb5.mono Hb.out.size))
        refine bodyPost_ret (v := .tuple #[.slice none 0 0, .bool false]) (by simp [results, Try.results37, go_sem]) rfl ⟨_, rfl, (Row.nil _ w.heap.size).own (by simp), H5.out⟩
      · have hz : R = M := by rw [hR1]; rfl
        subst hz
        clear hb1 hR1
        go_wp2_with (go_at_call 108; refine HT.out.mono ?_; rintro e w5 ⟨rfl, hb5⟩)
        have H5 := Lib.hid (And.intro (HO.out.below hb5) (Hb.out.trans (hb5.mono Hb.out.size)))
        refine bodyPost_ret (v := .tuple #[.slice ao R.length co, .bool true]) (by simp [results, Try.results37, go_sem]) rfl ⟨_, rfl, H5.out.1, H5.out.2⟩
set_option maxRecDepth 100000 in
set_option maxHeartbeats 8000000 in
theorem iDerive_yes2 (p : Int) (a : Option Addr) (cap : Nat) (L : List Trm) (w : World) (hp : isP p = true) (hV : validB p L = true) (hL : Trms w (.slice a L.length cap) L) (R : List Trm) (b : Bool) (hR : R = if b = true then derK p 2 L L.length else []) (hb : b = validB p (derK p 2 L L.length)) :
    Calls Try.prog 37 #[.int .i64 p, .slice a L.length cap, .int .i64 2] w (GivesPB R b w) := by
  have HP := Lib.hid hp
  have HV := Lib.hid hV
  have HRE := Lib.hid hR
  have HBE := Lib.hid hb
  have hl := validB_len hV
  have HIN := Lib.hid (iUnk2 2)
  rw [show vB 2 = true by decide] at HIN
  have HPV := Lib.hid (iPolyValid p _ L w hL)
  rw [hp, hV, show (true && true) = true from rfl] at HPV
  have HL := Lib.hid hL
  clear hp hV hL hR hb
  go_enter Try.func37, Try.ntmps37
  go_wp2_with fail
  refine HPV.out.mono ?_
  rintro e w2 ⟨rfl, hb2⟩
  have HB2 := Lib.hid hb2
  clear hb2
  go_wp2_with fail
  refine (HIN.out _).mono ?_
  rintro e w3 ⟨rfl, rfl⟩
  go_wp2_with fail
  obtain ⟨W, hW⟩ : ∃ W, W = w2.alloc (Obj.cells #[.int .i64 p, .slice none 0 0] 114) := ⟨_, rfl⟩
  obtain ⟨S, hSe⟩ : ∃ S, S = w2.heap.size := ⟨_, rfl⟩
  have hSB : w.heap.size ≤ S := by rw [hSe]; exact HB2.out.size
  have HW := Lib.hid (show SumW W S p (.slice none 0 0) ∧ Row W w.heap.size (.slice none 0 0) (derK p 2 L 0) ∧ Value.ownBlock (.slice none 0 0) ≠ some S ∧ Below w.heap.size w W by
    rw [hW, hSe, derK_zero]
    exact ⟨⟨by simp [go_sem], by simp [go_sem], World.frozen?_alloc_at _ _ _ 0 rfl, World.frozen?_alloc_at _ _ _ 1 rfl, by simp⟩, Row.nil _ _, by simp [Value.ownBlock], Below.alloc HB2.out HB2.out.size _⟩)
  rw [← hW, ← hSe]
  clear hSe hW
  go_loopw [24] (fun i wr => ∃ (k : Nat) (v : Value), k ≤ L.length ∧ i = .int .i64 k ∧ SumW wr S p v ∧ Row wr w.heap.size v (derK p 2 L k) ∧ v.ownBlock ≠ some S ∧ Below w.heap.size w wr) (fun i _ => L.length - (intOf i).toNat)
  case atStart => exact ⟨0, _, by omega, rfl, HW.out⟩
  case round =>
    clear HW
    obtain ⟨k, v, hk, rfl, hS, hR, hv, hb⟩ := hrel
    by_cases hlt : k < L.length
    · have hltp : (k : Int) < (L.length : Int) := by omega
      have hk0 : (0 : Int) ≤ (k : Int) := by omega
      obtain ⟨x, hx⟩ : ∃ x, x = L.getD k default := ⟨_, rfl⟩
      have hel := validB_el HV.out hlt hx
      obtain ⟨ha, hbb, hcc⟩ := validB_pows HV.out hlt hx
      have HD := Lib.hid (fun w => iDerived2 p x w HP.out (isE_iff.2 (by omega)) hcc)
      have HXK := Lib.hid (show addT p ⟨x.a, x.b, x.c - 1, x.t * x.c % p⟩ (derK p 2 L k) = derK p 2 L (k + 1) by
        rw [← derK_next hlt, ← hx]
        by_cases hz : x.c = 0
        · rw [derT_z2 p x hz, addT_zero0 (by show x.t * x.c % p = 0; rw [hz]; simp), addT_zero0 (by show x.t * x.c % p = 0; rw [hz]; simp)]
        · rw [derT_at2 p x hz])
      obtain ⟨g, off, rfl, hg, hc⟩ : ∃ g off, a = some ⟨g, off, none⟩ ∧ g < w.heap.size ∧ ∀ j : Nat, j < L.length → TAt w g (off + j * 4) (L.getD j default) := by
        obtain ⟨_, a', cap', he, h⟩ := HL.out
        injection he with e1 e2 e3
        subst e1
        rcases h with h | h
        · rw [h] at hlt; simp at hlt
        · exact h
      obtain ⟨b0, b1, b2, b3⟩ := (hc k hlt).below hb hg
      rw [← hx] at b0 b1 b2 b3
      have HV2 := Lib.hid hv
      have HS := Lib.hid hS
      have HR := Lib.hid hR
      have Hb := Lib.hid hb
      have H0 := Lib.hid (Below.alloc (Below.refl wr.heap.size wr) (Nat.le_refl _) (Obj.cells #[.int .i64 x.a, .int .i64 x.b, .int .i64 x.c, .int .i64 x.t] 87))
      clear hx hS hR hv hb hc hel ha hbb hcc
      go_wp2_with fail
      refine (HD.out _).mono ?_
      rintro e w3 ⟨rfl, hb3⟩
      have H3 := Lib.hid (H0.out.trans (hb3.mono H0.out.size))
      have H4 := Lib.hid (Hb.out.trans (H3.out.mono Hb.out.size))
      clear hb3
      go_wp2_with fail
      have hf := derK_facts (p := p) (v := 2) (L := L) HP.out hk hl
      have hpb := isP_bd HP.out
      refine (iPut w.heap.size S p v (derK p 2 L k) ⟨x.a, x.b, x.c - 1, x.t * x.c % p⟩ w3 (HS.out.below H3.out) (HR.out.below H3.out) H4.out.size HP.out hf.1 hf.2.1 (isE_iff.2 (emod_bd hpb.1)) (by omega) HV2.out).mono ?_
      rintro e w4 hP4
      have hlow := hP4.low (HR.out.below H3.out) hSB H4.out.size
      obtain ⟨rfl, v', hS', hR', hv', _, _⟩ := hP4
      rw [HXK.out] at hR'
      have HQ := Lib.hid (And.intro hS' (And.intro hR' (And.intro hv' (H4.out.trans hlow))))
      clear hS' hR' hv' hlow hf hpb
      go_wp2_with fail
      go_roundw
      case rel => exact ⟨k + 1, v', by omega, by go_num, HQ.out⟩
      case measure => simp [intOf]; omega
    · have hkl : k = L.length := by omega
      subst hkl
      have hb1 := HBE.out
      have hR1 := HRE.out
      have hf := derK_facts (p := p) (v := 2) (L := L) HP.out (Nat.le_refl _) hl
      have hown := hR.own (by omega)
      obtain ⟨M, hM⟩ : ∃ M, M = derK p 2 L L.length := ⟨_, rfl⟩
      rw [← hM] at hown hb1 hR1
      obtain ⟨hl2, ao, co, rfl, _⟩ := hown.trms
      have HO := Lib.hid hown
      have Hb := Lib.hid hb
      have HT := Lib.hid (iPolyOf S p ao co M wr hS hown.trms)
      rw [HP.out, ← hb1] at HT
      clear hown hS hb hR hf hv hM
      cases b
      · have hz : R = [] := by rw [hR1]; rfl
        subst hz
        clear hb1 hR1
        go_wp2_with (go_at_call 108; refine HT.out.mono ?_; rintro e w5 ⟨rfl, hb5⟩)
        have H5 := Lib.hid (Hb.out.trans (hb5.mono Hb.out.size))
        refine bodyPost_ret (v := .tuple #[.slice none 0 0, .bool false]) (by simp [results, Try.results37, go_sem]) rfl ⟨_, rfl, (Row.nil _ w.heap.size).own (by simp), H5.out⟩
      · have hz : R = M := by rw [hR1]; rfl
        subst hz
        clear hb1 hR1
        go_wp2_with (go_at_call 108; refine HT.out.mono ?_; rintro e w5 ⟨rfl, hb5⟩)
        have H5 := Lib.hid (And.intro (HO.out.below hb5) (Hb.out.trans (hb5.mono Hb.out.size)))
        refine bodyPost_ret (v := .tuple #[.slice ao R.length co, .bool true]) (by simp [results, Try.results37, go_sem]) rfl ⟨_, rfl, H5.out.1, H5.out.2⟩
theorem iDerivePoly (p v : Int) (f : Value) (L : List Trm) (w : World) (hL : Trms w f L) : Calls Try.prog 37 #[.int .i64 p, f, .int .i64 v] w (GivesPB (derV p L v) (derOk p L v) w) := by
  cases h : ((isP p && validB p L) && vB v)
  · rw [(derOk_no h).1, (derOk_no h).2]
    exact iDerive_no p v f L w hL h
  · rw [(derOk_yes h).1, (derOk_yes h).2]
    simp only [Bool.and_eq_true] at h
    obtain ⟨l0, a, cap, rfl, l1⟩ := hL
    rcases vB_cases h.2 with rfl | rfl | rfl
    · exact iDerive_yes0 p a cap L w h.1.1 h.1.2 ⟨l0, a, cap, rfl, l1⟩ _ _ rfl rfl
    · exact iDerive_yes1 p a cap L w h.1.1 h.1.2 ⟨l0, a, cap, rfl, l1⟩ _ _ rfl rfl
    · exact iDerive_yes2 p a cap L w h.1.1 h.1.2 ⟨l0, a, cap, rfl, l1⟩ _ _ rfl rfl
end Go.Proofs.Ytlidplmpglpkgaa
