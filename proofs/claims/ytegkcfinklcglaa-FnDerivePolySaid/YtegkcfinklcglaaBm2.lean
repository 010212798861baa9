/-
  The walk of the law of MulPoly. Conditions: none but that the bytes can be read.
-/
import Derived.Test.YtegkcfinklcglaaBp25
import Derived.Test.YtegkcfinklcglaaBm1
import Derived.Test.YtegkcfinklcglaaBp11
namespace Go.Proofs.Ytegkcfinklcglaa
open Go.RowKit
theorem mulOk_is {p : Int} {L M : List Trm} (h : mulOk p L M = true) : isP p = true ∧ validB p L = true ∧ validB p M = true ∧ validB p (addAll p (prodT p L M) []) = true ∧ mulL p L M = addAll p (prodT p L M) [] := by
  have e : mulL p L M = addAll p (prodT p L M) [] := by unfold mulL; rw [if_pos h]
  unfold mulOk at h
  simp only [Bool.and_eq_true] at h
  exact ⟨h.1.1.1, h.1.1.2, h.1.2.2, h.2, e⟩
theorem mulOk_of {p : Int} {L M : List Trm} (hp : isP p = true) (hL : validB p L = true) (hM : validB p M = true) (hS : validB p (addAll p (prodT p L M) []) = true) : mulOk p L M = true ∧ mulL p L M = addAll p (prodT p L M) [] := by
  have e : mulOk p L M = true := by unfold mulOk; rw [hp, hL, hM, hS]; rfl
  exact ⟨e, by unfold mulL; rw [if_pos e]⟩
theorem pw_bd {p : Int} {L : List Trm} (hV : validB p L = true) (v : Int) : ∀ y ∈ L, 0 ≤ pw v y ∧ pw v y ≤ 9 := fun y hy => by
  have h := validB_mem hV hy
  unfold pw
  split
  · exact h.1
  · split
    · exact h.2.1
    · exact h.2.2
theorem degT_bd {p : Int} {L : List Trm} (hV : validB p L = true) : ∀ y ∈ L, 0 ≤ degT y ∧ degT y ≤ 27 := fun y hy => by
  have h := validB_mem hV hy
  unfold degT
  omega
theorem degV_bd {p : Int} {L : List Trm} (hp : isP p = true) (hV : validB p L = true) : -1 ≤ degV p L ∧ degV p L ≤ 27 := by
  unfold degV
  rw [hp, hV]
  simp only [Bool.and_self, if_true]
  rw [topK_deg]
  exact ⟨topK_min _ _ _, topK_le (by omega) (fun y hy => (degT_bd hV y hy).2) _ (Nat.le_refl _)⟩
theorem degIV_bd {p : Int} {L : List Trm} (hp : isP p = true) (hV : validB p L = true) {v : Int} (hv : inV v = true) : -1 ≤ degIV p L v ∧ degIV p L v ≤ 9 := by
  unfold degIV
  rw [hp, hV, hv]
  simp only [Bool.and_self, if_true]
  rw [topK_in]
  exact ⟨topK_min _ _ _, topK_le (by omega) (fun y hy => (pw_bd hV v y hy).2) _ (Nat.le_refl _)⟩
/-- all that the law of products asks -/
structure MulF (p : Int) (L M S : List Trm) : Prop where
  hp : isP p = true
  tu : mulL p M L = S
  vL : validB p L = true
  vM : validB p M = true
  ev : ∀ x y z : Int, isE3 p x y z = true → evV p x y z S = mulV p (evV p x y z L) (evV p x y z M)
  ni : L = [] ∨ M = [] → S = []
  dg : L ≠ [] → M ≠ [] → degV p S = degV p L + degV p M
  di : L ≠ [] → M ≠ [] → ∀ v, inV v = true → degIV p S v = degIV p L v + degIV p M v
theorem mulF {p : Int} {L M : List Trm} (h : mulOk p L M = true) : MulF p L M (mulL p L M) := by
  obtain ⟨hp, hL, hM, hS, hs⟩ := mulOk_is h
  have hb := isP_bd hp
  have hc := mul_comm' (p := p) hp (L := L) (M := M)
  have h1 := mulOk_of (p := p) (L := M) (M := L) hp hM hL (by rw [hc]; exact hS)
  rw [hs]
  refine ⟨hp, by rw [h1.2, hc], hL, hM, fun x y z he => ?_, fun h => mul_nil p L M h, fun nL nM => ?_, fun nL nM v hv => ?_⟩
  · have b1 := evK_bd hp x y z L L.length
    have b2 := evK_bd hp x y z M M.length
    unfold evV mulV
    rw [hp, hL, hM, hS, he]
    simp only [Bool.and_self, if_true]
    rw [if_pos (isE2_iff.2 ⟨hp, b1, b2⟩), mul_ev hp hL hM]
  · unfold degV
    rw [hp, hL, hM, hS]
    simp only [Bool.and_self, if_true]
    rw [topK_deg, topK_deg, topK_deg]
    exact mul_top hp (degT_mul p) degT_eq hL hM (fun y hy => (degT_bd hL y hy).1) (fun y hy => (degT_bd hM y hy).1) nL nM
  · unfold degIV
    rw [hp, hL, hM, hS, hv]
    simp only [Bool.and_self, if_true]
    rw [topK_in, topK_in, topK_in]
    exact mul_top hp (pw_mul p v) (pw_eq v) hL hM (fun y hy => (pw_bd hL v y hy).1) (fun y hy => (pw_bd hM v y hy).1) nL nM
set_option maxRecDepth 100000 in
set_option maxHeartbeats 16000000 in
theorem wMulPoly_in (a : Option Addr) (len cap : Nat) (a' : Option Addr) (len' cap' : Nat) (w : World) (h : ByteRow w a len cap) (h' : ByteRow w a' len' cap') (hl : len ≤ 1048576) (hl' : len' ≤ 1048576) :
    Calls Try.prog 5 #[.slice a len cap, .slice a' len' cap'] w fun e w' => e = .returned (.bool true) ∧ Below w.heap.size w w' := by
  have hlp : (len : Int) ≤ 1048576 := by omega
  have hlp' : (len' : Int) ≤ 1048576 := by omega
  have HB' := Lib.hid h'
  have HD := Lib.hid (drawMulPoly a len cap w h)
  clear h h'
  go_enter Try.func5, Try.ntmps5
  go_wp2_with fail
  refine HD.out.mono ?_
  rintro e w1 ⟨p, f, g, L, M, rfl, hL, hM, hr1, hr2, hb1⟩
  have HK1 := Lib.hid (show PK w [(f, L), (g, M)] w1 from ⟨hb1, fun z hz => by
    rcases List.mem_cons.1 hz with rfl | hz
    · exact (hr1.own (by omega)).trms
    · rcases List.mem_cons.1 hz with rfl | hz
      · exact (hr2.own (by omega)).trms
      · cases hz⟩)
  clear hr1 hr2 hb1 HD
  go_wp2_with fail
  refine (iMulPoly p f g L M w1 (HK1.out.g (by simp)) (HK1.out.g (by simp))).mono ?_
  rintro e w2 ⟨hv, rfl, ho, hb⟩
  have HK2 := Lib.hid ((HK1.out.on hb).add ho.trms)
  clear ho hb HK1
  go_wp2_with fail
  refine (sMulPoly p f g L M w2 (HK2.out.g (by simp)) (HK2.out.g (by simp))).mono ?_
  rintro e w3 ⟨wv, rfl, ho, hb⟩
  have HK3 := Lib.hid ((HK2.out.on hb).add ho.trms)
  clear ho hb HK2
  obtain ⟨ok, hok⟩ : ∃ ok, ok = mulOk p L M := ⟨_, rfl⟩
  have HOK := Lib.hid hok
  rw [← hok]
  clear hok
  have hbb : (ok != ok) = false := by cases ok <;> rfl
  go_wp2_with fail
  refine (acP hv wv (mulL p L M) w3 (HK3.out.g (by simp)) (HK3.out.g (by simp))).mono ?_
  rintro e w4 ⟨rfl, hb⟩
  have HK4 := Lib.hid (HK3.out.on hb)
  clear hb HK3
  cases ok
  · go_wp2_with fail
    refine (acP hv wv (mulL p L M) w4 (HK4.out.g (by simp)) (HK4.out.g (by simp))).mono ?_
    rintro e w5 ⟨rfl, hb⟩
    have HK5 := Lib.hid (HK4.out.on hb)
    clear hb HK4
    go_wp2_with fail
    go_ret
    exact ⟨rfl, HK5.out.low⟩
  · have hF := mulF HOK.out.symm
    generalize mulL p L M = S at HK4 hF
    have HF := Lib.hid hF
    have hpb := isP_bd hF.hp
    clear hF
    go_wp2_with fail
    refine (iMulPoly p g f M L w4 (HK4.out.g (by simp)) (HK4.out.g (by simp))).mono ?_
    rintro e w7 ⟨tv, rfl, ho, hb⟩
    rw [HF.out.tu] at ho
    have HK7 := Lib.hid ((HK4.out.on hb).add ho.trms)
    clear ho hb HK4
    go_wp2_with fail
    refine (drawEvalPoly a' len' cap' w7 (HB'.out.below HK7.out.low)).mono ?_
    rintro e w8 ⟨p', f', L', x, y, z, rfl, hL', hr', hb⟩
    have HK8 := Lib.hid (PX.new (HK7.out.on hb) x y z)
    clear hr' hb HK7
    obtain ⟨X, hX⟩ : ∃ X, X = w8.heap.size := ⟨_, rfl⟩
    obtain ⟨W8, hW8⟩ : ∃ W, W = w8.alloc (Obj.cells #[.int .i64 x, .int .i64 y, .int .i64 z] 30) := ⟨_, rfl⟩
    rw [← hX, ← hW8] at HK8
    have HW8 := Lib.hid (And.intro hX hW8)
    clear hX hW8
    go_upto_region 10 with fail
    rw [← HW8.out.2, ← HW8.out.1]
    clear HW8
    go_wp2_with fail
    refine wp_loop_rounds 4 ?_
    rw [rounds_succ]
    have c0 := HK8.out.pt.c0
    have f0 := HK8.out.pt.f 0
    go_wp2_with fail
    refine (iRed p x _ HF.out.hp).mono ?_
    rintro e w9 ⟨rfl, rfl⟩
    have HK9 := Lib.hid (HK8.out.st (HK8.out.pt.s0 (x % p)))
    clear HK8
    go_wp2_with fail
    generalize W8.setCell ⟨X, 0, none⟩ (.int .i64 (x % p)) = W9 at *
    clear c0 f0
    rw [rounds_succ]
    have c1 := HK9.out.pt.c1
    have f1 := HK9.out.pt.f 1
    go_wp2_with fail
    refine (iRed p y _ HF.out.hp).mono ?_
    rintro e w10 ⟨rfl, rfl⟩
    have HK10 := Lib.hid (HK9.out.st (HK9.out.pt.s1 (y % p)))
    clear HK9
    go_wp2_with fail
    generalize W9.setCell ⟨X, 1, none⟩ (.int .i64 (y % p)) = W10 at *
    clear c1 f1
    rw [rounds_succ]
    have c2 := HK10.out.pt.c2
    have f2 := HK10.out.pt.f 2
    go_wp2_with fail
    refine (iRed p z _ HF.out.hp).mono ?_
    rintro e w11 ⟨rfl, rfl⟩
    have HK11 := Lib.hid (HK10.out.st (HK10.out.pt.s2 (z % p)))
    clear HK10
    go_wp2_with fail
    generalize W10.setCell ⟨X, 2, none⟩ (.int .i64 (z % p)) = W11 at *
    clear c2 f2
    rw [rounds_succ]
    have HE := Lib.hid (red3 HF.out.hp x y z)
    generalize x % p = x at *
    generalize y % p = y at *
    generalize z % p = z at *
    have HEv := Lib.hid (HF.out.ev x y z HE.out)
    have HI1 := Lib.hid (fun w' (hb : Below W11.heap.size W11 w') => iEvalPoly p x y z hv S w' ((HK11.out.on hb).g (by simp)))
    have HI2 := Lib.hid (fun w' (hb : Below W11.heap.size W11 w') => iEvalPoly p x y z f L w' ((HK11.out.on hb).g (by simp)))
    have HI3 := Lib.hid (fun w' (hb : Below W11.heap.size W11 w') => iEvalPoly p x y z g M w' ((HK11.out.on hb).g (by simp)))
    have HP := Lib.hid (fun w' (hb : Below W11.heap.size W11 w') => (HK11.out.on hb).pt)
    have HA1 := Lib.hid (fun w' (hb : Below W11.heap.size W11 w') => acP tv hv S w' ((HK11.out.on hb).g (by simp)) ((HK11.out.on hb).g (by simp)))
    generalize evV p x y z S = es at *
    generalize evV p x y z L = el at *
    generalize evV p x y z M = em at *
    go_upto_region 15 with fail
    refine wp_region_below (by kernel_rfl) (by kernel_rfl) ?_
    iterate 2 (with_reducible refine wpQuiet_yes ?_ ?_; (focus (kernel_rfl)); intro K hK; go_simp; refine ⟨_, fun _ _ => rfl, ?_⟩; with_reducible refine hK _ ?_; clear hK K)
    (with_reducible refine wpQuiet_yes ?_ ?_; (focus (kernel_rfl)); intro K hK; go_simp; refine ⟨(.agg #[.int .i64 x, .int .i64 y, .int .i64 z]), ?_, ?_⟩; rotate_left; with_reducible refine hK _ ?_; clear hK K; rotate_left)
    · intro w' hw
      obtain ⟨c0, c1, c2, _, _⟩ := HP.out w' hw
      simp only [c0, c1, c2, go_sem, Result.andThen, and_self]
    (with_reducible refine wpQuiet_yes ?_ ?_; (focus (kernel_rfl)); intro K hK; go_simp; refine ⟨(.int .i64 es), ?_, ?_⟩; rotate_left; with_reducible refine hK _ ?_; clear hK K; rotate_left)
    · intro w' hw
      exact (HI1.out w' hw).mono fun e w'' ⟨he, h⟩ => ⟨he, hw.trans (h.mono hw.size)⟩
    iterate 3 (with_reducible refine wpQuiet_yes ?_ ?_; (focus (kernel_rfl)); intro K hK; go_simp; refine ⟨_, fun _ _ => rfl, ?_⟩; with_reducible refine hK _ ?_; clear hK K)
    (with_reducible refine wpQuiet_yes ?_ ?_; (focus (kernel_rfl)); intro K hK; go_simp; refine ⟨(.agg #[.int .i64 x, .int .i64 y, .int .i64 z]), ?_, ?_⟩; rotate_left; with_reducible refine hK _ ?_; clear hK K; rotate_left)
    · intro w' hw
      obtain ⟨c0, c1, c2, _, _⟩ := HP.out w' hw
      simp only [c0, c1, c2, go_sem, Result.andThen, and_self]
    (with_reducible refine wpQuiet_yes ?_ ?_; (focus (kernel_rfl)); intro K hK; go_simp; refine ⟨(.int .i64 el), ?_, ?_⟩; rotate_left; with_reducible refine hK _ ?_; clear hK K; rotate_left)
    · intro w' hw
      exact (HI2.out w' hw).mono fun e w'' ⟨he, h⟩ => ⟨he, hw.trans (h.mono hw.size)⟩
    iterate 2 (with_reducible refine wpQuiet_yes ?_ ?_; (focus (kernel_rfl)); intro K hK; go_simp; refine ⟨_, fun _ _ => rfl, ?_⟩; with_reducible refine hK _ ?_; clear hK K)
    (with_reducible refine wpQuiet_yes ?_ ?_; (focus (kernel_rfl)); intro K hK; go_simp; refine ⟨(.agg #[.int .i64 x, .int .i64 y, .int .i64 z]), ?_, ?_⟩; rotate_left; with_reducible refine hK _ ?_; clear hK K; rotate_left)
    · intro w' hw
      obtain ⟨c0, c1, c2, _, _⟩ := HP.out w' hw
      simp only [c0, c1, c2, go_sem, Result.andThen, and_self]
    (with_reducible refine wpQuiet_yes ?_ ?_; (focus (kernel_rfl)); intro K hK; go_simp; refine ⟨(.int .i64 em), ?_, ?_⟩; rotate_left; with_reducible refine hK _ ?_; clear hK K; rotate_left)
    · intro w' hw
      exact (HI3.out w' hw).mono fun e w'' ⟨he, h⟩ => ⟨he, hw.trans (h.mono hw.size)⟩
    (with_reducible refine wpQuiet_yes ?_ ?_; (focus (kernel_rfl)); intro K hK; go_simp; refine ⟨(.int .i64 es), ?_, ?_⟩; rotate_left; with_reducible refine hK _ ?_; clear hK K; rotate_left)
    · intro w' hw
      rw [HEv.out]
      exact (iMul p el em w').mono fun e w'' ⟨he, h⟩ => ⟨he, hw.trans (h.mono hw.size)⟩
    (with_reducible refine wpQuiet_yes ?_ ?_; (focus (kernel_rfl)); intro K hK; go_simp; refine ⟨(.bool false), ?_, ?_⟩; rotate_left; with_reducible refine hK _ ?_; clear hK K; rotate_left)
    · intro w' hw
      simp
    iterate 3 (with_reducible refine wpQuiet_yes ?_ ?_; (focus (kernel_rfl)); intro K hK; go_simp; refine ⟨_, fun _ _ => rfl, ?_⟩; with_reducible refine hK _ ?_; clear hK K)
    (with_reducible refine wpQuiet_yes ?_ ?_; (focus (kernel_rfl)); intro K hK; go_simp; refine ⟨(.bool true), ?_, ?_⟩; rotate_left; with_reducible refine hK _ ?_; clear hK K; rotate_left)
    · intro w' hw
      exact (HA1.out w' hw).mono fun e w'' ⟨he, h⟩ => ⟨he, hw.trans (h.mono hw.size)⟩
    iterate 2 (with_reducible refine wpQuiet_yes ?_ ?_; (focus (kernel_rfl)); intro K hK; go_simp; refine ⟨_, fun _ _ => rfl, ?_⟩; with_reducible refine hK _ ?_; clear hK K)
    refine wpQuiet_nil fun w2 hb2 => ?_
    have HK12 := Lib.hid (HK11.out.on hb2)
    clear hb2 HI1 HI2 HI3 HP HA1 HK11 HEv HE
    simp only [Exit.then]
    obtain ⟨_, fa, fc, rfl, _⟩ := HK12.out.g (v := f) (L := L) (by simp)
    obtain ⟨_, ga, gc, rfl, _⟩ := HK12.out.g (v := g) (L := M) (by simp)
    obtain ⟨_, ha, hc, rfl, _⟩ := HK12.out.g (v := hv) (L := S) (by simp)
    by_cases hL0 : L = []
    · have b0 : ((L.length : Int) == 0) = true := by rw [hL0]; rfl
      have b1 : ((S.length : Int) == 0) = true := by rw [HF.out.ni (.inl hL0)]; rfl
      clear hL0
      go_wp2_with fail
      go_ret
      exact ⟨rfl, HK12.out.low⟩
    · have b0 : ((L.length : Int) == 0) = false := by
        have : L.length ≠ 0 := fun e => hL0 (List.length_eq_zero_iff.1 e)
        simp; omega
      by_cases hM0 : M = []
      · have b1 : ((M.length : Int) == 0) = true := by rw [hM0]; rfl
        have b2 : ((S.length : Int) == 0) = true := by rw [HF.out.ni (.inr hM0)]; rfl
        clear hL0 hM0
        go_wp2_with fail
        go_ret
        exact ⟨rfl, HK12.out.low⟩
      · have b1 : ((M.length : Int) == 0) = false := by
          have : M.length ≠ 0 := fun e => hM0 (List.length_eq_zero_iff.1 e)
          simp; omega
        have HD := Lib.hid (fun v hv => And.intro (HF.out.di hL0 hM0 v hv) (And.intro (degIV_bd HF.out.hp HF.out.vL hv) (degIV_bd HF.out.hp HF.out.vM hv)))
        have HT := Lib.hid (And.intro (HF.out.dg hL0 hM0) (And.intro (degV_bd HF.out.hp HF.out.vL) (degV_bd HF.out.hp HF.out.vM)))
        clear hL0 hM0
        go_wp2_with fail
        refine wp_loop_rounds 4 ?_
        rw [rounds_succ]
        obtain ⟨d0, l0, m0⟩ := HD.out 0 (by rfl)
        have HSx := Lib.hid (show degIV p S 0 = degIV p S 0 from rfl)
        generalize hs0 : degIV p S 0 = s0 at d0
        generalize hl0 : degIV p L 0 = t0 at d0 l0
        generalize hm0 : degIV p M 0 = u0 at d0 m0
        have Hs0 := Lib.hid hs0
        have Ht0 := Lib.hid hl0
        have Hu0 := Lib.hid hm0
        have e0 : IntKind.i64.wrap (t0 + u0) = t0 + u0 := IntWalk.i64_in _ (by omega)
        have n0 : (s0 != t0 + u0) = false := by rw [d0]; simp
        clear hs0 hl0 hm0 d0 l0 m0 HSx
        go_wp2_with fail
        refine (iDegreeIn p _ S 0 _ (HK12.out.g (by simp))).mono ?_
        rw [Hs0.out]
        rintro e v1 ⟨rfl, hb⟩
        have HK13 := Lib.hid (HK12.out.on hb)
        clear hb HK12
        go_wp2_with fail
        refine (iDegreeIn p _ L 0 _ (HK13.out.g (by simp))).mono ?_
        rw [Ht0.out]
        rintro e v2 ⟨rfl, hb⟩
        have HK14 := Lib.hid (HK13.out.on hb)
        clear hb HK13
        go_wp2_with fail
        refine (iDegreeIn p _ M 0 _ (HK14.out.g (by simp))).mono ?_
        rw [Hu0.out]
        rintro e v3 ⟨rfl, hb⟩
        have HK15 := Lib.hid (HK14.out.on hb)
        clear hb HK14
        go_wp2_with fail
        clear e0 n0
        rw [rounds_succ]
        obtain ⟨d1, l1, m1⟩ := HD.out 1 (by rfl)
        have HSx := Lib.hid (show degIV p S 1 = degIV p S 1 from rfl)
        generalize hs1 : degIV p S 1 = s1 at d1
        generalize hl1 : degIV p L 1 = t1 at d1 l1
        generalize hm1 : degIV p M 1 = u1 at d1 m1
        have Hs1 := Lib.hid hs1
        have Ht1 := Lib.hid hl1
        have Hu1 := Lib.hid hm1
        have e1 : IntKind.i64.wrap (t1 + u1) = t1 + u1 := IntWalk.i64_in _ (by omega)
        have n1 : (s1 != t1 + u1) = false := by rw [d1]; simp
        clear hs1 hl1 hm1 d1 l1 m1 HSx
        go_wp2_with fail
        refine (iDegreeIn p _ S 1 _ (HK15.out.g (by simp))).mono ?_
        rw [Hs1.out]
        rintro e v4 ⟨rfl, hb⟩
        have HK16 := Lib.hid (HK15.out.on hb)
        clear hb HK15
        go_wp2_with fail
        refine (iDegreeIn p _ L 1 _ (HK16.out.g (by simp))).mono ?_
        rw [Ht1.out]
        rintro e v5 ⟨rfl, hb⟩
        have HK17 := Lib.hid (HK16.out.on hb)
        clear hb HK16
        go_wp2_with fail
        refine (iDegreeIn p _ M 1 _ (HK17.out.g (by simp))).mono ?_
        rw [Hu1.out]
        rintro e v6 ⟨rfl, hb⟩
        have HK18 := Lib.hid (HK17.out.on hb)
        clear hb HK17
        go_wp2_with fail
        clear e1 n1
        rw [rounds_succ]
        obtain ⟨d2, l2, m2⟩ := HD.out 2 (by rfl)
        have HSx := Lib.hid (show degIV p S 2 = degIV p S 2 from rfl)
        generalize hs2 : degIV p S 2 = s2 at d2
        generalize hl2 : degIV p L 2 = t2 at d2 l2
        generalize hm2 : degIV p M 2 = u2 at d2 m2
        have Hs2 := Lib.hid hs2
        have Ht2 := Lib.hid hl2
        have Hu2 := Lib.hid hm2
        have e2 : IntKind.i64.wrap (t2 + u2) = t2 + u2 := IntWalk.i64_in _ (by omega)
        have n2 : (s2 != t2 + u2) = false := by rw [d2]; simp
        clear hs2 hl2 hm2 d2 l2 m2 HSx
        go_wp2_with fail
        refine (iDegreeIn p _ S 2 _ (HK18.out.g (by simp))).mono ?_
        rw [Hs2.out]
        rintro e v7 ⟨rfl, hb⟩
        have HK19 := Lib.hid (HK18.out.on hb)
        clear hb HK18
        go_wp2_with fail
        refine (iDegreeIn p _ L 2 _ (HK19.out.g (by simp))).mono ?_
        rw [Ht2.out]
        rintro e v8 ⟨rfl, hb⟩
        have HK20 := Lib.hid (HK19.out.on hb)
        clear hb HK19
        go_wp2_with fail
        refine (iDegreeIn p _ M 2 _ (HK20.out.g (by simp))).mono ?_
        rw [Hu2.out]
        rintro e v9 ⟨rfl, hb⟩
        have HK21 := Lib.hid (HK20.out.on hb)
        clear hb HK20
        go_wp2_with fail
        clear e2 n2
        rw [rounds_succ]
        obtain ⟨dd, ll, mm⟩ := HT.out
        generalize hs9 : degV p S = s9 at dd
        generalize hl9 : degV p L = t9 at dd ll
        generalize hm9 : degV p M = u9 at dd mm
        have Hs9 := Lib.hid hs9
        have Ht9 := Lib.hid hl9
        have Hu9 := Lib.hid hm9
        have e9 : IntKind.i64.wrap (t9 + u9) = t9 + u9 := IntWalk.i64_in _ (by omega)
        have n9 : (s9 == t9 + u9) = true := by rw [dd]; simp
        clear hs9 hl9 hm9 dd ll mm
        go_wp2_with fail
        refine (iDegreeOf p _ S _ (HK21.out.g (by simp))).mono ?_
        rw [Hs9.out]
        rintro e v10 ⟨rfl, hb⟩
        have HK22 := Lib.hid (HK21.out.on hb)
        clear hb HK21
        go_wp2_with fail
        refine (iDegreeOf p _ L _ (HK22.out.g (by simp))).mono ?_
        rw [Ht9.out]
        rintro e v11 ⟨rfl, hb⟩
        have HK23 := Lib.hid (HK22.out.on hb)
        clear hb HK22
        go_wp2_with fail
        refine (iDegreeOf p _ M _ (HK23.out.g (by simp))).mono ?_
        rw [Hu9.out]
        rintro e v12 ⟨rfl, hb⟩
        have HK24 := Lib.hid (HK23.out.on hb)
        clear hb HK23
        go_wp2_with fail
        go_ret
        exact ⟨rfl, HK24.out.low⟩
set_option maxHeartbeats 2000000 in
theorem wMulPoly_long (a : Option Addr) (len cap : Nat) (a' : Option Addr) (len' cap' : Nat) (w : World) (h1 : len ≤ 9223372036854775807) (h2 : len' ≤ 9223372036854775807) (hl : ¬ (len ≤ 1048576 ∧ len' ≤ 1048576)) :
    Calls Try.prog 5 #[.slice a len cap, .slice a' len' cap'] w fun e w' => e = .returned (.bool true) ∧ Below w.heap.size w w' := by
  by_cases h : len ≤ 1048576
  · have hp : (len : Int) ≤ 1048576 := by omega
    have hq : (1048576 : Int) < (len' : Int) := by omega
    go_enter Try.func5, Try.ntmps5
    go_wp2_with fail
    go_ret
    exact ⟨rfl, Below.refl _ _⟩
  · have hp : (1048576 : Int) < (len : Int) := by omega
    go_enter Try.func5, Try.ntmps5
    go_wp2_with fail
    go_ret
    exact ⟨rfl, Below.refl _ _⟩
theorem wMulPoly (a : Option Addr) (len cap : Nat) (a' : Option Addr) (len' cap' : Nat) (w : World) (h : ByteRow w a len cap) (h' : ByteRow w a' len' cap') :
    Calls Try.prog 5 #[.slice a len cap, .slice a' len' cap'] w fun e w' => e = .returned (.bool true) ∧ Below w.heap.size w w' := by
  by_cases hl : len ≤ 1048576 ∧ len' ≤ 1048576
  · exact wMulPoly_in a len cap a' len' cap' w h h' hl.1 hl.2
  · exact wMulPoly_long a len cap a' len' cap' w (Nat.le_trans h.1 h.2.1) (Nat.le_trans h'.1 h'.2.1) hl
end Go.Proofs.Ytegkcfinklcglaa
