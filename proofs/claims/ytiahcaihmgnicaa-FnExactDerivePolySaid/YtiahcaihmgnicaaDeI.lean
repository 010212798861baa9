/-
  DerivePoly, of the program: the derivative of a term. Conditions: the power is from 0 to 9.
-/
import Derived.Test.YtiahcaihmgnicaaDer
namespace Go.Proofs.Ytiahcaihmgnicaa
open Go.RowKit
theorem mul_mod_in (a n p : Int) : a * (n % p) % p = a * n % p := by rw [Int.mul_emod, Int.emod_emod_of_dvd _ (Int.dvd_refl p), ← Int.mul_emod]
theorem iUnk2 (v : Int) (w : World) : Calls Try.prog 79 #[.int .i64 v] w fun e w' => e = .returned (.bool (vB v)) ∧ w = w' := by
  unfold vB
  by_cases h0 : 0 ≤ v
  · have hb : decide (v < 3) = decide (v ≤ 2) := by by_cases h : v < 3 <;> simp <;> omega
    rw [decide_eq_true h0, Bool.true_and, ← hb]
    clear hb
    go_enter Try.func79, Try.ntmps79
    go_wp2_with fail
    go_ret
    exact ⟨rfl, rfl⟩
  · rw [decide_eq_false h0, Bool.false_and]
    go_enter Try.func79, Try.ntmps79
    go_wp2_with fail
    go_ret
    exact ⟨rfl, rfl⟩
set_option maxRecDepth 100000 in
set_option maxHeartbeats 4000000 in
theorem iDerive_no (p v : Int) (f : Value) (L : List Trm) (w : World) (h : Trms w f L) (hr : ((isP p && validB p L) && vB v) = false) :
    Calls Try.prog 31 #[.int .i64 p, f, .int .i64 v] w (GivesPB [] false w) := by
  have HPV := Lib.hid (iPolyValid p f L w h)
  have HIN := Lib.hid (iUnk2 v)
  obtain ⟨_, a, cap, rfl, _⟩ := h
  obtain ⟨r, hr1⟩ : ∃ r, r = (isP p && validB p L) := ⟨_, rfl⟩
  obtain ⟨q, hq⟩ : ∃ q, q = vB v := ⟨_, rfl⟩
  rw [← hr1] at HPV hr
  rw [← hq] at HIN hr
  clear hr1 hq
  cases r
  · clear hr
    go_enter Try.func31, Try.ntmps31
    go_wp2_with fail
    refine HPV.out.mono ?_
    rintro e w2 ⟨rfl, hb2⟩
    have HQ := Lib.hid hb2
    clear hb2
    go_wp2_with fail
    refine bodyPost_ret (v := .tuple #[.slice none 0 0, .bool false]) (by simp [results, Try.results31, go_sem]) rfl ⟨_, rfl, (Row.nil w2 w.heap.size).own (by simp), HQ.out⟩
  · rw [Bool.true_and] at hr
    subst hr
    go_enter Try.func31, Try.ntmps31
    go_wp2_with fail
    refine HPV.out.mono ?_
    rintro e w2 ⟨rfl, hb2⟩
    have HQ := Lib.hid hb2
    clear hb2
    go_wp2_with fail
    refine (HIN.out _).mono ?_
    rintro e w3 ⟨rfl, rfl⟩
    go_wp2_with fail
    refine bodyPost_ret (v := .tuple #[.slice none 0 0, .bool false]) (by simp [results, Try.results31, go_sem]) rfl ⟨_, rfl, (Row.nil w2 w.heap.size).own (by simp), HQ.out⟩
set_option maxRecDepth 100000 in
set_option maxHeartbeats 8000000 in
theorem iDerived0 (p : Int) (x : Trm) (w : World) (hp : isP p = true) (ht : isE p x.t = true) (hf : 0 ≤ x.a ∧ x.a ≤ 9) :
    Calls Try.prog 80 #[.agg #[.int .i64 x.a, .int .i64 x.b, .int .i64 x.c, .int .i64 x.t], .int .i64 p, .int .i64 0] w
      fun e w' => e = .returned (.agg #[.int .i64 (x.a - 1), .int .i64 x.b, .int .i64 x.c, .int .i64 (x.t * x.a % p)]) ∧ Below w.heap.size w w' := by
  have HP := Lib.hid hp
  have hpb := isP_bd hp
  have hm := mulV_is hp ht (isE_iff.2 (emod_bd (n := x.a) hpb.1))
  rw [mul_mod_in] at hm
  have HM := Lib.hid (fun w => (hm ▸ iMul p x.t (x.a % p) w : Calls Try.prog 125 #[.int .i64 p, .int .i64 x.t, .int .i64 (x.a % p)] w fun e w' => e = .returned (.int .i64 (x.t * x.a % p)) ∧ Below w.heap.size w w'))
  have hw1 : IntKind.i64.wrap (x.a - 1) = x.a - 1 := IntWalk.i64_in _ (by omega)
  obtain ⟨n, hn⟩ : ∃ n, n = w.heap.size := ⟨_, rfl⟩
  obtain ⟨W, hW⟩ : ∃ W, W = (w.alloc (Obj.cells #[.int .i64 x.a, .int .i64 x.b, .int .i64 x.c, .int .i64 x.t] 68)).alloc (Obj.cells #[.int .i64 0, .int .i64 0, .int .i64 0, .int .i64 0] 68) := ⟨_, rfl⟩
  have hc : W.cell? ⟨n, 0, none⟩ = some (.int .i64 x.a) ∧ W.cell? ⟨n, 1, none⟩ = some (.int .i64 x.b) ∧ W.cell? ⟨n, 2, none⟩ = some (.int .i64 x.c) ∧ W.cell? ⟨n, 3, none⟩ = some (.int .i64 x.t) := by
    rw [hW, hn]; refine ⟨?_, ?_, ?_, ?_⟩ <;> simp [go_sem]
  have hd : ∀ i, i < 4 → ∃ u, W.cell? ⟨n + 1, i, none⟩ = some u := fun i hi => by
    rw [hW, hn]
    have : i = 0 ∨ i = 1 ∨ i = 2 ∨ i = 3 := by omega
    rcases this with rfl | rfl | rfl | rfl <;> exact ⟨_, by simp [go_sem]; rfl⟩
  have hB : Below n w W := by rw [hW, hn]; exact Below.alloc (Below.alloc (Below.refl _ _) (Nat.le_refl _) _) (by simp) _
  have hs : n + 1 < W.heap.size := by rw [hW, hn]; simp
  have hfr : ∀ g i, g = n ∨ g = n + 1 → W.frozen? ⟨g, i, none⟩ = false := fun g i hg => by
    rw [hW]
    rcases hg with rfl | rfl
    · rw [(Below.alloc (Below.refl (w.alloc (Obj.cells #[.int .i64 x.a, .int .i64 x.b, .int .i64 x.c, .int .i64 x.t] 68)).heap.size _) (Nat.le_refl _) _).frozen (p := ⟨g, i, none⟩) (by rw [hn]; simp), hn]
      exact World.frozen?_alloc_at _ _ _ i rfl
    · rw [show n + 1 = (w.alloc (Obj.cells #[.int .i64 x.a, .int .i64 x.b, .int .i64 x.c, .int .i64 x.t] 68)).heap.size by rw [hn]; simp]
      exact World.frozen?_alloc_at _ _ _ i rfl
  have HF := Lib.hid (fun W' (hb' : Below W.heap.size W W') => show (W'.cell? ⟨n, 0, none⟩ = some (.int .i64 x.a) ∧ W'.cell? ⟨n, 1, none⟩ = some (.int .i64 x.b) ∧ W'.cell? ⟨n, 2, none⟩ = some (.int .i64 x.c) ∧ W'.cell? ⟨n, 3, none⟩ = some (.int .i64 x.t)) ∧ (∀ i, i < 4 → ∃ u, W'.cell? ⟨n + 1, i, none⟩ = some u) ∧ (∀ g i, g = n ∨ g = n + 1 → W'.frozen? ⟨g, i, none⟩ = false) ∧ n + 1 < W'.heap.size ∧ Below n w W' from
    ⟨⟨by rw [hb'.cell (p := ⟨n, 0, none⟩) (show n < W.heap.size by omega)]; exact hc.1, by rw [hb'.cell (p := ⟨n, 1, none⟩) (show n < W.heap.size by omega)]; exact hc.2.1, by rw [hb'.cell (p := ⟨n, 2, none⟩) (show n < W.heap.size by omega)]; exact hc.2.2.1, by rw [hb'.cell (p := ⟨n, 3, none⟩) (show n < W.heap.size by omega)]; exact hc.2.2.2⟩,
     fun i hi => by obtain ⟨u, hu⟩ := hd i hi; exact ⟨u, by rw [hb'.cell (p := ⟨n + 1, i, none⟩) hs]; exact hu⟩,
     fun g i hg => by rw [hb'.frozen (p := ⟨g, i, none⟩) (show g < W.heap.size by rcases hg with rfl | rfl <;> omega)]; exact hfr g i hg,
     Nat.lt_of_lt_of_le hs hb'.size, hB.trans (hb'.mono (by omega))⟩)
  have HW := Lib.hid hW
  have HN := Lib.hid hn
  obtain ⟨t0, t1, t2, t3⟩ := hc
  clear hd hB hs hfr hp ht hm hW
  go_enter Try.func80, Try.ntmps80
  go_wp2_with fail
  rw [← HW.out, ← hn]
  clear hn
  refine wp_region_seq [(0, true), (1, true), (2, true), (3, true), (4, true), (5, true), (6, true), (7, true), (8, false), (9, false), (10, true)] (fun w' => w'.cell? ⟨n, 0, none⟩ = some (.int .i64 x.a) ∧ w'.cell? ⟨n, 1, none⟩ = some (.int .i64 x.b) ∧ w'.cell? ⟨n, 2, none⟩ = some (.int .i64 x.c) ∧ w'.cell? ⟨n, 3, none⟩ = some (.int .i64 x.t)) (by kernel_rfl) (by kernel_rfl) rfl (by intro c a d v w h; cases d <;> exact h) ⟨t0, t1, t2, t3⟩ ?_
  iterate 8 (refine wpSeq_take (v := ?_) (List.getElem?_toArray.trans rfl) ?_ ?_; rotate_left; (intro w' hSw; (try dsimp only at hSw); go_simp; (try with_reducible rfl)); (try simp only [Act.put, List.setIfInBounds_toArray, List.set_cons_zero, List.set_cons_succ]))
  refine wpSeq_do (List.getElem?_toArray.trans rfl) (fun K hK => ?_)
  go_simp
  refine (iRed p x.a _ HP.out).mono ?_
  rintro e w3 ⟨rfl, rfl⟩
  refine hK _ _ ⟨t0, t1, t2, t3⟩ ?_
  clear hK K
  refine wpSeq_do (List.getElem?_toArray.trans rfl) (fun K hK => ?_)
  go_simp
  refine (HM.out _).mono ?_
  rintro e w4 ⟨rfl, hb4⟩
  have hb5 : Below W.heap.size W w4 := (Below.drew (Below.refl _ _)).trans (hb4.mono (by simp))
  obtain ⟨hc5, -, -, -, -⟩ := HF.out w4 hb5
  refine hK _ _ hc5 ?_
  clear hK K t0 t1 t2 t3 hc5 hb4
  (refine wpSeq_take (v := ?_) (List.getElem?_toArray.trans rfl) ?_ ?_; rotate_left; (intro w' hSw; (try dsimp only at hSw); go_simp; (try with_reducible rfl)); (try simp only [Act.put, List.setIfInBounds_toArray, List.set_cons_zero, List.set_cons_succ]))
  refine wpSeq_nil ?_
  simp only [Exit.then]
  obtain ⟨⟨t0, t1, t2, t3⟩, hd5, hf5, hs5, hB5⟩ := HF.out w4 hb5
  obtain ⟨d0, e0⟩ := hd5 0 (by omega)
  obtain ⟨d1, e1⟩ := hd5 1 (by omega)
  obtain ⟨d2, e2⟩ := hd5 2 (by omega)
  obtain ⟨d3, e3⟩ := hd5 3 (by omega)
  have g3 := hf5 n 3 (.inl rfl)
  have gj := hf5 n 0 (.inl rfl)
  have k0 := hf5 (n + 1) 0 (.inr rfl)
  have k1 := hf5 (n + 1) 1 (.inr rfl)
  have k2 := hf5 (n + 1) 2 (.inr rfl)
  have k3 := hf5 (n + 1) 3 (.inr rfl)
  have HB5 := Lib.hid hB5
  clear hd5 hf5 hB5 hb5
  go_wp2_with fail
  refine bodyPost_ret (v := .agg #[.int .i64 (x.a - 1), .int .i64 x.b, .int .i64 x.c, .int .i64 (x.t * x.a % p)]) (by simp [results, Try.results80, go_sem, e0, e1, e2, e3]) rfl ⟨rfl, ?_⟩
  rw [← HN.out]
  repeat (first | exact HB5.out | (refine Below.setCell ?_ (by first | omega | (simp; done) | (simp; omega)) _))
set_option maxRecDepth 100000 in
set_option maxHeartbeats 8000000 in
theorem iDerived1 (p : Int) (x : Trm) (w : World) (hp : isP p = true) (ht : isE p x.t = true) (hf : 0 ≤ x.b ∧ x.b ≤ 9) :
    Calls Try.prog 80 #[.agg #[.int .i64 x.a, .int .i64 x.b, .int .i64 x.c, .int .i64 x.t], .int .i64 p, .int .i64 1] w
      fun e w' => e = .returned (.agg #[.int .i64 x.a, .int .i64 (x.b - 1), .int .i64 x.c, .int .i64 (x.t * x.b % p)]) ∧ Below w.heap.size w w' := by
  have HP := Lib.hid hp
  have hpb := isP_bd hp
  have hm := mulV_is hp ht (isE_iff.2 (emod_bd (n := x.b) hpb.1))
  rw [mul_mod_in] at hm
  have HM := Lib.hid (fun w => (hm ▸ iMul p x.t (x.b % p) w : Calls Try.prog 125 #[.int .i64 p, .int .i64 x.t, .int .i64 (x.b % p)] w fun e w' => e = .returned (.int .i64 (x.t * x.b % p)) ∧ Below w.heap.size w w'))
  have hw1 : IntKind.i64.wrap (x.b - 1) = x.b - 1 := IntWalk.i64_in _ (by omega)
  obtain ⟨n, hn⟩ : ∃ n, n = w.heap.size := ⟨_, rfl⟩
  obtain ⟨W, hW⟩ : ∃ W, W = (w.alloc (Obj.cells #[.int .i64 x.a, .int .i64 x.b, .int .i64 x.c, .int .i64 x.t] 68)).alloc (Obj.cells #[.int .i64 0, .int .i64 0, .int .i64 0, .int .i64 0] 68) := ⟨_, rfl⟩
  have hc : W.cell? ⟨n, 0, none⟩ = some (.int .i64 x.a) ∧ W.cell? ⟨n, 1, none⟩ = some (.int .i64 x.b) ∧ W.cell? ⟨n, 2, none⟩ = some (.int .i64 x.c) ∧ W.cell? ⟨n, 3, none⟩ = some (.int .i64 x.t) := by
    rw [hW, hn]; refine ⟨?_, ?_, ?_, ?_⟩ <;> simp [go_sem]
  have hd : ∀ i, i < 4 → ∃ u, W.cell? ⟨n + 1, i, none⟩ = some u := fun i hi => by
    rw [hW, hn]
    have : i = 0 ∨ i = 1 ∨ i = 2 ∨ i = 3 := by omega
    rcases this with rfl | rfl | rfl | rfl <;> exact ⟨_, by simp [go_sem]; rfl⟩
  have hB : Below n w W := by rw [hW, hn]; exact Below.alloc (Below.alloc (Below.refl _ _) (Nat.le_refl _) _) (by simp) _
  have hs : n + 1 < W.heap.size := by rw [hW, hn]; simp
  have hfr : ∀ g i, g = n ∨ g = n + 1 → W.frozen? ⟨g, i, none⟩ = false := fun g i hg => by
    rw [hW]
    rcases hg with rfl | rfl
    · rw [(Below.alloc (Below.refl (w.alloc (Obj.cells #[.int .i64 x.a, .int .i64 x.b, .int .i64 x.c, .int .i64 x.t] 68)).heap.size _) (Nat.le_refl _) _).frozen (p := ⟨g, i, none⟩) (by rw [hn]; simp), hn]
      exact World.frozen?_alloc_at _ _ _ i rfl
    · rw [show n + 1 = (w.alloc (Obj.cells #[.int .i64 x.a, .int .i64 x.b, .int .i64 x.c, .int .i64 x.t] 68)).heap.size by rw [hn]; simp]
      exact World.frozen?_alloc_at _ _ _ i rfl
  have HF := Lib.hid (fun W' (hb' : Below W.heap.size W W') => show (W'.cell? ⟨n, 0, none⟩ = some (.int .i64 x.a) ∧ W'.cell? ⟨n, 1, none⟩ = some (.int .i64 x.b) ∧ W'.cell? ⟨n, 2, none⟩ = some (.int .i64 x.c) ∧ W'.cell? ⟨n, 3, none⟩ = some (.int .i64 x.t)) ∧ (∀ i, i < 4 → ∃ u, W'.cell? ⟨n + 1, i, none⟩ = some u) ∧ (∀ g i, g = n ∨ g = n + 1 → W'.frozen? ⟨g, i, none⟩ = false) ∧ n + 1 < W'.heap.size ∧ Below n w W' from
    ⟨⟨by rw [hb'.cell (p := ⟨n, 0, none⟩) (show n < W.heap.size by omega)]; exact hc.1, by rw [hb'.cell (p := ⟨n, 1, none⟩) (show n < W.heap.size by omega)]; exact hc.2.1, by rw [hb'.cell (p := ⟨n, 2, none⟩) (show n < W.heap.size by omega)]; exact hc.2.2.1, by rw [hb'.cell (p := ⟨n, 3, none⟩) (show n < W.heap.size by omega)]; exact hc.2.2.2⟩,
     fun i hi => by obtain ⟨u, hu⟩ := hd i hi; exact ⟨u, by rw [hb'.cell (p := ⟨n + 1, i, none⟩) hs]; exact hu⟩,
     fun g i hg => by rw [hb'.frozen (p := ⟨g, i, none⟩) (show g < W.heap.size by rcases hg with rfl | rfl <;> omega)]; exact hfr g i hg,
     Nat.lt_of_lt_of_le hs hb'.size, hB.trans (hb'.mono (by omega))⟩)
  have HW := Lib.hid hW
  have HN := Lib.hid hn
  obtain ⟨t0, t1, t2, t3⟩ := hc
  clear hd hB hs hfr hp ht hm hW
  go_enter Try.func80, Try.ntmps80
  go_wp2_with fail
  rw [← HW.out, ← hn]
  clear hn
  refine wp_region_seq [(0, true), (1, true), (2, true), (3, true), (4, true), (5, true), (6, true), (7, true), (8, false), (9, false), (10, true)] (fun w' => w'.cell? ⟨n, 0, none⟩ = some (.int .i64 x.a) ∧ w'.cell? ⟨n, 1, none⟩ = some (.int .i64 x.b) ∧ w'.cell? ⟨n, 2, none⟩ = some (.int .i64 x.c) ∧ w'.cell? ⟨n, 3, none⟩ = some (.int .i64 x.t)) (by kernel_rfl) (by kernel_rfl) rfl (by intro c a d v w h; cases d <;> exact h) ⟨t0, t1, t2, t3⟩ ?_
  iterate 8 (refine wpSeq_take (v := ?_) (List.getElem?_toArray.trans rfl) ?_ ?_; rotate_left; (intro w' hSw; (try dsimp only at hSw); go_simp; (try with_reducible rfl)); (try simp only [Act.put, List.setIfInBounds_toArray, List.set_cons_zero, List.set_cons_succ]))
  refine wpSeq_do (List.getElem?_toArray.trans rfl) (fun K hK => ?_)
  go_simp
  refine (iRed p x.b _ HP.out).mono ?_
  rintro e w3 ⟨rfl, rfl⟩
  refine hK _ _ ⟨t0, t1, t2, t3⟩ ?_
  clear hK K
  refine wpSeq_do (List.getElem?_toArray.trans rfl) (fun K hK => ?_)
  go_simp
  refine (HM.out _).mono ?_
  rintro e w4 ⟨rfl, hb4⟩
  have hb5 : Below W.heap.size W w4 := (Below.drew (Below.refl _ _)).trans (hb4.mono (by simp))
  obtain ⟨hc5, -, -, -, -⟩ := HF.out w4 hb5
  refine hK _ _ hc5 ?_
  clear hK K t0 t1 t2 t3 hc5 hb4
  (refine wpSeq_take (v := ?_) (List.getElem?_toArray.trans rfl) ?_ ?_; rotate_left; (intro w' hSw; (try dsimp only at hSw); go_simp; (try with_reducible rfl)); (try simp only [Act.put, List.setIfInBounds_toArray, List.set_cons_zero, List.set_cons_succ]))
  refine wpSeq_nil ?_
  simp only [Exit.then]
  obtain ⟨⟨t0, t1, t2, t3⟩, hd5, hf5, hs5, hB5⟩ := HF.out w4 hb5
  obtain ⟨d0, e0⟩ := hd5 0 (by omega)
  obtain ⟨d1, e1⟩ := hd5 1 (by omega)
  obtain ⟨d2, e2⟩ := hd5 2 (by omega)
  obtain ⟨d3, e3⟩ := hd5 3 (by omega)
  have g3 := hf5 n 3 (.inl rfl)
  have gj := hf5 n 1 (.inl rfl)
  have k0 := hf5 (n + 1) 0 (.inr rfl)
  have k1 := hf5 (n + 1) 1 (.inr rfl)
  have k2 := hf5 (n + 1) 2 (.inr rfl)
  have k3 := hf5 (n + 1) 3 (.inr rfl)
  have HB5 := Lib.hid hB5
  clear hd5 hf5 hB5 hb5
  go_wp2_with fail
  refine bodyPost_ret (v := .agg #[.int .i64 x.a, .int .i64 (x.b - 1), .int .i64 x.c, .int .i64 (x.t * x.b % p)]) (by simp [results, Try.results80, go_sem, e0, e1, e2, e3]) rfl ⟨rfl, ?_⟩
  rw [← HN.out]
  repeat (first | exact HB5.out | (refine Below.setCell ?_ (by first | omega | (simp; done) | (simp; omega)) _))
set_option maxRecDepth 100000 in
set_option maxHeartbeats 8000000 in
theorem iDerived2 (p : Int) (x : Trm) (w : World) (hp : isP p = true) (ht : isE p x.t = true) (hf : 0 ≤ x.c ∧ x.c ≤ 9) :
    Calls Try.prog 80 #[.agg #[.int .i64 x.a, .int .i64 x.b, .int .i64 x.c, .int .i64 x.t], .int .i64 p, .int .i64 2] w
      fun e w' => e = .returned (.agg #[.int .i64 x.a, .int .i64 x.b, .int .i64 (x.c - 1), .int .i64 (x.t * x.c % p)]) ∧ Below w.heap.size w w' := by
  have HP := Lib.hid hp
  have hpb := isP_bd hp
  have hm := mulV_is hp ht (isE_iff.2 (emod_bd (n := x.c) hpb.1))
  rw [mul_mod_in] at hm
  have HM := Lib.hid (fun w => (hm ▸ iMul p x.t (x.c % p) w : Calls Try.prog 125 #[.int .i64 p, .int .i64 x.t, .int .i64 (x.c % p)] w fun e w' => e = .returned (.int .i64 (x.t * x.c % p)) ∧ Below w.heap.size w w'))
  have hw1 : IntKind.i64.wrap (x.c - 1) = x.c - 1 := IntWalk.i64_in _ (by omega)
  obtain ⟨n, hn⟩ : ∃ n, n = w.heap.size := ⟨_, rfl⟩
  obtain ⟨W, hW⟩ : ∃ W, W = (w.alloc (Obj.cells #[.int .i64 x.a, .int .i64 x.b, .int .i64 x.c, .int .i64 x.t] 68)).alloc (Obj.cells #[.int .i64 0, .int .i64 0, .int .i64 0, .int .i64 0] 68) := ⟨_, rfl⟩
  have hc : W.cell? ⟨n, 0, none⟩ = some (.int .i64 x.a) ∧ W.cell? ⟨n, 1, none⟩ = some (.int .i64 x.b) ∧ W.cell? ⟨n, 2, none⟩ = some (.int .i64 x.c) ∧ W.cell? ⟨n, 3, none⟩ = some (.int .i64 x.t) := by
    rw [hW, hn]; refine ⟨?_, ?_, ?_, ?_⟩ <;> simp [go_sem]
  have hd : ∀ i, i < 4 → ∃ u, W.cell? ⟨n + 1, i, none⟩ = some u := fun i hi => by
    rw [hW, hn]
    have : i = 0 ∨ i = 1 ∨ i = 2 ∨ i = 3 := by omega
    rcases this with rfl | rfl | rfl | rfl <;> exact ⟨_, by simp [go_sem]; rfl⟩
  have hB : Below n w W := by rw [hW, hn]; exact Below.alloc (Below.alloc (Below.refl _ _) (Nat.le_refl _) _) (by simp) _
  have hs : n + 1 < W.heap.size := by rw [hW, hn]; simp
  have hfr : ∀ g i, g = n ∨ g = n + 1 → W.frozen? ⟨g, i, none⟩ = false := fun g i hg => by
    rw [hW]
    rcases hg with rfl | rfl
    · rw [(Below.alloc (Below.refl (w.alloc (Obj.cells #[.int .i64 x.a, .int .i64 x.b, .int .i64 x.c, .int .i64 x.t] 68)).heap.size _) (Nat.le_refl _) _).frozen (p := ⟨g, i, none⟩) (by rw [hn]; simp), hn]
      exact World.frozen?_alloc_at _ _ _ i rfl
    · rw [show n + 1 = (w.alloc (Obj.cells #[.int .i64 x.a, .int .i64 x.b, .int .i64 x.c, .int .i64 x.t] 68)).heap.size by rw [hn]; simp]
      exact World.frozen?_alloc_at _ _ _ i rfl
  have HF := Lib.hid (fun W' (hb' : Below W.heap.size W W') => show (W'.cell? ⟨n, 0, none⟩ = some (.int .i64 x.a) ∧ W'.cell? ⟨n, 1, none⟩ = some (.int .i64 x.b) ∧ W'.cell? ⟨n, 2, none⟩ = some (.int .i64 x.c) ∧ W'.cell? ⟨n, 3, none⟩ = some (.int .i64 x.t)) ∧ (∀ i, i < 4 → ∃ u, W'.cell? ⟨n + 1, i, none⟩ = some u) ∧ (∀ g i, g = n ∨ g = n + 1 → W'.frozen? ⟨g, i, none⟩ = false) ∧ n + 1 < W'.heap.size ∧ Below n w W' from
    ⟨⟨by rw [hb'.cell (p := ⟨n, 0, none⟩) (show n < W.heap.size by omega)]; exact hc.1, by rw [hb'.cell (p := ⟨n, 1, none⟩) (show n < W.heap.size by omega)]; exact hc.2.1, by rw [hb'.cell (p := ⟨n, 2, none⟩) (show n < W.heap.size by omega)]; exact hc.2.2.1, by rw [hb'.cell (p := ⟨n, 3, none⟩) (show n < W.heap.size by omega)]; exact hc.2.2.2⟩,
     fun i hi => by obtain ⟨u, hu⟩ := hd i hi; exact ⟨u, by rw [hb'.cell (p := ⟨n + 1, i, none⟩) hs]; exact hu⟩,
     fun g i hg => by rw [hb'.frozen (p := ⟨g, i, none⟩) (show g < W.heap.size by rcases hg with rfl | rfl <;> omega)]; exact hfr g i hg,
     Nat.lt_of_lt_of_le hs hb'.size, hB.trans (hb'.mono (by omega))⟩)
  have HW := Lib.hid hW
  have HN := Lib.hid hn
  obtain ⟨t0, t1, t2, t3⟩ := hc
  clear hd hB hs hfr hp ht hm hW
  go_enter Try.func80, Try.ntmps80
  go_wp2_with fail
  rw [← HW.out, ← hn]
  clear hn
  refine wp_region_seq [(0, true), (1, true), (2, true), (3, true), (4, true), (5, true), (6, true), (7, true), (8, false), (9, false), (10, true)] (fun w' => w'.cell? ⟨n, 0, none⟩ = some (.int .i64 x.a) ∧ w'.cell? ⟨n, 1, none⟩ = some (.int .i64 x.b) ∧ w'.cell? ⟨n, 2, none⟩ = some (.int .i64 x.c) ∧ w'.cell? ⟨n, 3, none⟩ = some (.int .i64 x.t)) (by kernel_rfl) (by kernel_rfl) rfl (by intro c a d v w h; cases d <;> exact h) ⟨t0, t1, t2, t3⟩ ?_
  iterate 8 (refine wpSeq_take (v := ?_) (List.getElem?_toArray.trans rfl) ?_ ?_; rotate_left; (intro w' hSw; (try dsimp only at hSw); go_simp; (try with_reducible rfl)); (try simp only [Act.put, List.setIfInBounds_toArray, List.set_cons_zero, List.set_cons_succ]))
  refine wpSeq_do (List.getElem?_toArray.trans rfl) (fun K hK => ?_)
  go_simp
  refine (iRed p x.c _ HP.out).mono ?_
  rintro e w3 ⟨rfl, rfl⟩
  refine hK _ _ ⟨t0, t1, t2, t3⟩ ?_
  clear hK K
  refine wpSeq_do (List.getElem?_toArray.trans rfl) (fun K hK => ?_)
  go_simp
  refine (HM.out _).mono ?_
  rintro e w4 ⟨rfl, hb4⟩
  have hb5 : Below W.heap.size W w4 := (Below.drew (Below.refl _ _)).trans (hb4.mono (by simp))
  obtain ⟨hc5, -, -, -, -⟩ := HF.out w4 hb5
  refine hK _ _ hc5 ?_
  clear hK K t0 t1 t2 t3 hc5 hb4
  (refine wpSeq_take (v := ?_) (List.getElem?_toArray.trans rfl) ?_ ?_; rotate_left; (intro w' hSw; (try dsimp only at hSw); go_simp; (try with_reducible rfl)); (try simp only [Act.put, List.setIfInBounds_toArray, List.set_cons_zero, List.set_cons_succ]))
  refine wpSeq_nil ?_
  simp only [Exit.then]
  obtain ⟨⟨t0, t1, t2, t3⟩, hd5, hf5, hs5, hB5⟩ := HF.out w4 hb5
  obtain ⟨d0, e0⟩ := hd5 0 (by omega)
  obtain ⟨d1, e1⟩ := hd5 1 (by omega)
  obtain ⟨d2, e2⟩ := hd5 2 (by omega)
  obtain ⟨d3, e3⟩ := hd5 3 (by omega)
  have g3 := hf5 n 3 (.inl rfl)
  have gj := hf5 n 2 (.inl rfl)
  have k0 := hf5 (n + 1) 0 (.inr rfl)
  have k1 := hf5 (n + 1) 1 (.inr rfl)
  have k2 := hf5 (n + 1) 2 (.inr rfl)
  have k3 := hf5 (n + 1) 3 (.inr rfl)
  have HB5 := Lib.hid hB5
  clear hd5 hf5 hB5 hb5
  go_wp2_with fail
  refine bodyPost_ret (v := .agg #[.int .i64 x.a, .int .i64 x.b, .int .i64 (x.c - 1), .int .i64 (x.t * x.c % p)]) (by simp [results, Try.results80, go_sem, e0, e1, e2, e3]) rfl ⟨rfl, ?_⟩
  rw [← HN.out]
  repeat (first | exact HB5.out | (refine Below.setCell ?_ (by first | omega | (simp; done) | (simp; omega)) _))
end Go.Proofs.Ytiahcaihmgnicaa
