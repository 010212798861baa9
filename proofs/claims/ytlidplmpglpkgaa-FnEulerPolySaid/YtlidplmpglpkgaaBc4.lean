/-
  What the law on the unknowns times the derivatives says, of the contracts' values. Conditions: none.
  The walk of the law of EulerPoly. Conditions: none but that the bytes can be read.
-/
import Derived.Test.YtlidplmpglpkgaaBc3
import Derived.Test.YtlidplmpglpkgaaBa29
import Derived.Test.YtlidplmpglpkgaaBa33
import Derived.Test.YtlidplmpglpkgaaBc2
import Derived.Test.YtlidplmpglpkgaaBa27
import Derived.Test.YtlidplmpglpkgaaBa25
namespace Go.Proofs.Ytlidplmpglpkgaa
open Go.RowKit
theorem onV {p : Int} (hp : isP p = true) (v : Int) : validB p [onT v] = true := by
  have hb := isP_bd hp
  refine validB_of (List.pairwise_singleton _ _) (fun y hy => ?_) (fun y hy => ?_) (by simp)
  · have := List.mem_singleton.1 hy
    subst this
    unfold onT
    repeat' split
    all_goals exact ⟨by decide, by show (1 : Int) < p; omega⟩
  · have := List.mem_singleton.1 hy
    subst this
    unfold onT
    repeat' split
    all_goals rfl
theorem dM_on {v : Int} (hv : v = 0 ∨ v = 1 ∨ v = 2) (m : Int → Int → Int → Int) (x : Trm) : dM v (nM m [onT v]) x.a x.b x.c = pwr v x * m x.a x.b x.c := by
  rcases hv with rfl | rfl | rfl
  · simp [dM, nM, onT, pwr, sumI]
  · simp [dM, nM, onT, pwr, sumI]
  · simp [dM, nM, onT, pwr, sumI]
/-- an unknown times the derivative by it -/
theorem on_der {p v : Int} (hp : isP p = true) {L : List Trm} (hV : validB p L = true) (hv : v = 0 ∨ v = 1 ∨ v = 2) : mulOk p (derV p L v) [onT v] = true ∧ mulL p (derV p L v) [onT v] = tmL p (pwr v) L := by
  have hb := isP_bd hp
  have e : addAll p (prodT p (dL p v L) [onT v]) [] = tmL p (pwr v) L := by
    have vT := tm_valid (h := pwr v) hp hV
    refine addAll_is (by omega) List.Pairwise.nil (validB_srt vT) (fun y hy => by cases hy) (validB_els vT) (prod_in (by omega)) fun m => ?_
    refine Cg.trans (wS_addAll m _ _).symm ?_
    refine (prod_nM m (dL p v L) [onT v]).trans ?_
    refine (dL_wS hv _ L).trans ?_
    refine Cg.trans (Cg.of_eq ?_) (tm_wS hp (validB_srt hV) m).symm
    rw [wS_sum]
    refine sumI_congr fun x _ => ?_
    rw [dM_on hv]
    grind
  rw [(dL_is hp hV hv).2]
  have hk : mulOk p (dL p v L) [onT v] = true := by
    unfold mulOk
    rw [e, hp, dL_valid hp hV hv, onV hp, tm_valid hp hV]
    rfl
  exact ⟨hk, by unfold mulL; rw [if_pos hk, e]⟩
theorem tm_sum {p : Int} (hp : isP p = true) {L : List Trm} (hV : validB p L = true) (h g k : Trm → Int) (hk : ∀ x ∈ L, h x + g x = k x) : addOk p (tmL p h L) (tmL p g L) = true ∧ sumV p (tmL p h L) (tmL p g L) = tmL p k L := by
  have hb := isP_bd hp
  have v1 := tm_valid (h := h) hp hV
  have v2 := tm_valid (h := g) hp hV
  have v3 := tm_valid (h := k) hp hV
  have e : addAll p (tmL p g L) (tmL p h L) = tmL p k L := by
    refine addAll_is (by omega) (validB_srt v1) (validB_srt v3) (validB_els v1) (validB_els v3) (els_in (validB_els v2)) fun m => ?_
    refine ((tm_wS hp (validB_srt hV) m).add (tm_wS hp (validB_srt hV) m)).trans ?_
    refine Cg.trans (Cg.of_eq ?_) (tm_wS hp (validB_srt hV) m).symm
    rw [← sumI_add]
    refine sumI_congr fun x hx => ?_
    rw [← hk x hx]
    grind
  have h1 := addOk_of (p := p) (L := tmL p h L) (M := tmL p g L) hp v1 v2 (by rw [e]; exact v3)
  exact ⟨h1.1, by rw [h1.2, e]⟩
theorem tm_zero (p : Int) (L : List Trm) : tmL p (fun _ => 0) L = [] := by
  unfold tmL
  refine List.filter_eq_nil_iff.2 fun y hy => ?_
  obtain ⟨x, _, rfl⟩ := List.mem_map.1 hy
  simp [tmT]
/-- an unknown times the derivative by it, as the contracts tell it -/
def euP (p : Int) (L : List Trm) (v : Int) : List Trm := mulL p (derV p L v) [onT v]
/-- all that the law asks -/
structure EuF (p : Int) (L : List Trm) : Prop where
  hp : isP p = true
  vL : validB p L = true
  dr : ∀ v : Int, v = 0 ∨ v = 1 ∨ v = 2 → derOk p L v = true
  mo : ∀ v : Int, v = 0 ∨ v = 1 ∨ v = 2 → mulOk p (derV p L v) [onT v] = true
  a0 : addOk p [] (euP p L 0) = true
  a1 : addOk p (sumV p [] (euP p L 0)) (euP p L 1) = true
  a2 : addOk p (sumV p (sumV p [] (euP p L 0)) (euP p L 1)) (euP p L 2) = true
  su : sumV p (sumV p (sumV p [] (euP p L 0)) (euP p L 1)) (euP p L 2) = eulV p L
  ho : homV p L = true → sclV p (max (degV p L) 0 % p) L = eulV p L
theorem euF {p : Int} {L : List Trm} (hp : isP p = true) (hV : validB p L = true) : EuF p L := by
  have hb := isP_bd hp
  have e : ∀ v : Int, v = 0 ∨ v = 1 ∨ v = 2 → euP p L v = tmL p (pwr v) L := fun v hv => (on_der hp hV hv).2
  have eE : eulV p L = tmL p hDeg L := by unfold eulV; rw [hp, hV]; rfl
  have s0 := tm_sum hp hV (fun _ => 0) (pwr 0) (pwr 0) (fun x _ => by simp)
  rw [tm_zero] at s0
  have s1 := tm_sum hp hV (pwr 0) (pwr 1) (fun x => x.a + x.b) (fun x _ => by simp [pwr])
  have s2 := tm_sum hp hV (fun x => x.a + x.b) (pwr 2) hDeg (fun x _ => by simp [pwr, hDeg, degT])
  have e0 := e 0 (by simp)
  have e1 := e 1 (by simp)
  have e2 := e 2 (by simp)
  refine ⟨hp, hV, fun v hv => (dL_is hp hV hv).1, fun v hv => (on_der hp hV hv).1, by rw [e0]; exact s0.1, by rw [e0, e1, s0.2]; exact s1.1, by rw [e0, e1, e2, s0.2, s1.2]; exact s2.1, by rw [e0, e1, e2, s0.2, s1.2, s2.2, eE], fun hh => ?_⟩
  rw [eE]
  have vE := tm_valid (h := hDeg) hp hV
  have hE : isE p (max (degV p L) 0 % p) = true := isE_mod hp
  have vS := scl_valid hp hE hV
  unfold sclV
  rw [hp, hV, hE]
  simp only [Bool.and_self, if_true]
  refine ind_inj (validB_srt vS) (validB_srt vE) (validB_els vS) (validB_els vE) fun A B C => ?_
  refine (scl_wS _).trans ?_
  refine Cg.trans ?_ (tm_wS hp (validB_srt hV) _).symm
  rw [wS_sum, ← sumI_mul]
  refine sumI_cg fun x hx => ?_
  have hd : degV p L = topK degT L L.length := by
    unfold degV
    rw [hp, hV, ← topK_deg]
    rfl
  have hx0 : degT x = max (degV p L) 0 := by
    unfold homV homB at hh
    simp only [Bool.and_eq_true, List.all_eq_true] at hh
    have hall : ∀ y ∈ L, degT y = degT x := fun y hy => by
      have h1 := hh.1 y hy
      have h2 := hh.1 x hx
      have h1 := eq_of_beq h1
      have h2 := eq_of_beq h2
      rw [degW_is (validB_mem hV hy)] at h1
      rw [degW_is (validB_mem hV hx)] at h2
      omega
    have g1 := topK_ge (f := degT) hx
    have x0 : 0 ≤ degT x := by
      obtain ⟨⟨a0, _⟩, ⟨b0, _⟩, ⟨c0, _⟩⟩ := validB_mem hV hx
      unfold degT
      omega
    have g2 := topK_le (f := degT) (L := L) (d := degT x) (by omega) (fun y hy => by rw [hall y hy]; exact Int.le_refl _) L.length (Nat.le_refl _)
    rw [hd]
    omega
  rw [← hx0]
  refine ((Cg.mod p _).mul (Cg.refl _ _)).trans (Cg.of_eq ?_)
  unfold hDeg
  grind
end Go.Proofs.Ytlidplmpglpkgaa
namespace Go.Proofs.Ytlidplmpglpkgaa
open Go.RowKit
theorem onX0 (w : World) : Trms (w.alloc (Obj.cells #[.int .i64 1, .int .i64 0, .int .i64 0, .int .i64 1] 87)) (.slice (some ⟨w.heap.size, 0, none⟩) 1 1) [onT 0] := by
  refine ⟨by simp, _, _, rfl, .inr ⟨w.heap.size, 0, rfl, by simp, fun j hj => ?_⟩⟩
  obtain rfl : j = 0 := by simp at hj; omega
  exact ⟨by simp [go_sem, onT], by simp [go_sem, onT], by simp [go_sem, onT], by simp [go_sem, onT]⟩
theorem onXb0 (w : World) : Below w.heap.size w (w.alloc (Obj.cells #[.int .i64 1, .int .i64 0, .int .i64 0, .int .i64 1] 87)) := Below.alloc (Below.refl _ _) (Nat.le_refl _) _
theorem onX1 (w : World) : Trms (w.alloc (Obj.cells #[.int .i64 0, .int .i64 1, .int .i64 0, .int .i64 1] 87)) (.slice (some ⟨w.heap.size, 0, none⟩) 1 1) [onT 1] := by
  refine ⟨by simp, _, _, rfl, .inr ⟨w.heap.size, 0, rfl, by simp, fun j hj => ?_⟩⟩
  obtain rfl : j = 0 := by simp at hj; omega
  exact ⟨by simp [go_sem, onT], by simp [go_sem, onT], by simp [go_sem, onT], by simp [go_sem, onT]⟩
theorem onXb1 (w : World) : Below w.heap.size w (w.alloc (Obj.cells #[.int .i64 0, .int .i64 1, .int .i64 0, .int .i64 1] 87)) := Below.alloc (Below.refl _ _) (Nat.le_refl _) _
theorem onX2 (w : World) : Trms (w.alloc (Obj.cells #[.int .i64 0, .int .i64 0, .int .i64 1, .int .i64 1] 87)) (.slice (some ⟨w.heap.size, 0, none⟩) 1 1) [onT 2] := by
  refine ⟨by simp, _, _, rfl, .inr ⟨w.heap.size, 0, rfl, by simp, fun j hj => ?_⟩⟩
  obtain rfl : j = 0 := by simp at hj; omega
  exact ⟨by simp [go_sem, onT], by simp [go_sem, onT], by simp [go_sem, onT], by simp [go_sem, onT]⟩
theorem onXb2 (w : World) : Below w.heap.size w (w.alloc (Obj.cells #[.int .i64 0, .int .i64 0, .int .i64 1, .int .i64 1] 87)) := Below.alloc (Below.refl _ _) (Nat.le_refl _) _
set_option maxRecDepth 100000 in
set_option maxHeartbeats 16000000 in
theorem wEulerPoly_in (a : Option Addr) (len cap : Nat) (w : World) (h : ByteRow w a len cap) (hl : len ≤ 1048576) :
    Calls Try.prog 13 #[.slice a len cap] w fun e w' => e = .returned (.bool true) ∧ Below w.heap.size w w' := by
  have hlp : (len : Int) ≤ 1048576 := by omega
  have HD := Lib.hid (drawEulerPoly a len cap w h)
  clear h
  go_enter Try.func13, Try.ntmps13
  go_wp2_with fail
  refine HD.out.mono ?_
  rintro e w1 ⟨p, f, L, rfl, ht, hb1⟩
  have HK1 := Lib.hid (show PK w [(f, L)] w1 from ⟨hb1, fun z hz => by
    rcases List.mem_cons.1 hz with rfl | hz
    · exact ht
    · cases hz⟩)
  clear ht hb1 HD
  go_wp2_with fail
  refine (iEulerPoly p f L w1 (HK1.out.g (by simp))).mono ?_
  rintro e w2 ⟨hv, rfl, ho, hb⟩
  have HK2 := Lib.hid ((HK1.out.on hb).add ho.trms)
  clear ho hb HK1
  go_wp2_with fail
  refine (sEulerPoly p f L w2 (HK2.out.g (by simp))).mono ?_
  rintro e w3 ⟨wv, rfl, ho, hb⟩
  have HK3 := Lib.hid ((HK2.out.on hb).add ho.trms)
  clear ho hb HK2
  have HIH := Lib.hid (fun w' => iIsHomogeneous p f L w')
  have HSH := Lib.hid (fun w' => sIsHomogeneous p f L w')
  have HHO := Lib.hid (fun h : (isP p && validB p L) = true => (euF (p := p) (L := L) (by simp only [Bool.and_eq_true] at h; exact h.1) (by simp only [Bool.and_eq_true] at h; exact h.2)))
  obtain ⟨hm, hhm⟩ : ∃ b, b = homV p L := ⟨_, rfl⟩
  rw [← hhm] at HIH HSH
  have HHM := Lib.hid hhm
  clear hhm
  have hmm : (hm != hm) = false := by cases hm <;> rfl
  have hme : (hm == hm) = true := by cases hm <;> rfl
  obtain ⟨ok, hok⟩ : ∃ ok, ok = (isP p && validB p L) := ⟨_, rfl⟩
  have HOK := Lib.hid hok
  rw [← hok]
  clear hok
  have hbb : (ok != ok) = false := by cases ok <;> rfl
  go_wp2_with fail
  refine (acP hv wv (eulV p L) w3 (HK3.out.g (by simp)) (HK3.out.g (by simp))).mono ?_
  rintro e w4 ⟨rfl, hb⟩
  have HK4 := Lib.hid (HK3.out.on hb)
  clear hb HK3
  go_wp2_with fail
  refine (HIH.out w4 (HK4.out.g (by simp))).mono ?_
  rintro e w5 ⟨rfl, hb⟩
  have HK5 := Lib.hid (HK4.out.on hb)
  clear hb HK4
  go_wp2_with fail
  refine (HSH.out w5 (HK5.out.g (by simp))).mono ?_
  rintro e w6 ⟨rfl, hb⟩
  have HK6 := Lib.hid (HK5.out.on hb)
  clear hb HK5
  cases ok
  · go_wp2_with fail
    refine (acP hv wv (eulV p L) w6 (HK6.out.g (by simp)) (HK6.out.g (by simp))).mono ?_
    rintro e w7 ⟨rfl, hb⟩
    have HK7 := Lib.hid (HK6.out.on hb)
    clear hb HK6
    go_wp2_with fail
    refine (HIH.out w7 (HK7.out.g (by simp))).mono ?_
    rintro e w8 ⟨rfl, hb⟩
    have HK8 := Lib.hid (HK7.out.on hb)
    clear hb HK7
    go_wp2_with fail
    refine (HSH.out w8 (HK8.out.g (by simp))).mono ?_
    rintro e w9 ⟨rfl, hb⟩
    have HK9 := Lib.hid (HK8.out.on hb)
    clear hb HK8
    go_wp2_with fail
    go_ret
    exact ⟨rfl, HK9.out.low⟩
  · have HF := Lib.hid (HHO.out HOK.out.symm)
    clear HHO HOK
    go_wp2_with fail
    have HK := Lib.hid ((HK6.out.on (w' := w6.alloc (Obj.cells #[] 87)) (Below.alloc (Below.refl _ _) (Nat.le_refl _) _)).add (v := .slice (some ⟨w6.heap.size, 0, none⟩) 0 0) (L := []) ⟨by simp, _, _, rfl, .inl rfl⟩)
    clear HK6
    generalize Value.slice (some ⟨w6.heap.size, 0, none⟩) 0 0 = sv0 at *
    generalize w6.alloc (Obj.cells #[] 87) = wz at *
    refine wp_loop_rounds 4 ?_
    rw [rounds_succ]
    go_wp2_with fail
    refine (iDerivePoly p 0 f L _ (HK.out.g (by simp))).mono ?_
    rintro e wa0 ⟨dv0, rfl, ho, hb⟩
    rw [HF.out.dr 0 (by simp)]
    replace HK := Lib.hid ((HK.out.on hb).add ho.trms)
    clear ho hb
    go_wp2_with fail
    refine (iMulPoly p dv0 _ (derV p L 0) [onT 0] _ ((HK.out.on (onXb0 wa0)).g (by simp)) (onX0 wa0)).mono ?_
    rintro e wb0 ⟨mv0, rfl, ho, hb⟩
    rw [HF.out.mo 0 (by simp)]
    replace HK := Lib.hid (((HK.out.on (onXb0 wa0)).on hb).add (show Trms wb0 mv0 (euP p L 0) from ho.trms))
    clear ho hb
    go_wp2_with fail
    refine (iAddPoly p sv0 mv0 [] (euP p L 0) _ (HK.out.g (by simp)) (HK.out.g (by simp))).mono ?_
    rintro e wc0 ⟨sv1, rfl, ho, hb⟩
    rw [HF.out.a0]
    replace HK := Lib.hid ((HK.out.on hb).add ho.trms)
    clear ho hb
    go_wp2_with fail
    rw [rounds_succ]
    go_wp2_with fail
    refine (iDerivePoly p 1 f L _ (HK.out.g (by simp))).mono ?_
    rintro e wa1 ⟨dv1, rfl, ho, hb⟩
    rw [HF.out.dr 1 (by simp)]
    replace HK := Lib.hid ((HK.out.on hb).add ho.trms)
    clear ho hb
    go_wp2_with fail
    refine (iMulPoly p dv1 _ (derV p L 1) [onT 1] _ ((HK.out.on (onXb1 wa1)).g (by simp)) (onX1 wa1)).mono ?_
    rintro e wb1 ⟨mv1, rfl, ho, hb⟩
    rw [HF.out.mo 1 (by simp)]
    replace HK := Lib.hid (((HK.out.on (onXb1 wa1)).on hb).add (show Trms wb1 mv1 (euP p L 1) from ho.trms))
    clear ho hb
    go_wp2_with fail
    refine (iAddPoly p sv1 mv1 (sumV p [] (euP p L 0)) (euP p L 1) _ (HK.out.g (by simp)) (HK.out.g (by simp))).mono ?_
    rintro e wc1 ⟨sv2, rfl, ho, hb⟩
    rw [HF.out.a1]
    replace HK := Lib.hid ((HK.out.on hb).add ho.trms)
    clear ho hb
    go_wp2_with fail
    rw [rounds_succ]
    go_wp2_with fail
    refine (iDerivePoly p 2 f L _ (HK.out.g (by simp))).mono ?_
    rintro e wa2 ⟨dv2, rfl, ho, hb⟩
    rw [HF.out.dr 2 (by simp)]
    replace HK := Lib.hid ((HK.out.on hb).add ho.trms)
    clear ho hb
    go_wp2_with fail
    refine (iMulPoly p dv2 _ (derV p L 2) [onT 2] _ ((HK.out.on (onXb2 wa2)).g (by simp)) (onX2 wa2)).mono ?_
    rintro e wb2 ⟨mv2, rfl, ho, hb⟩
    rw [HF.out.mo 2 (by simp)]
    replace HK := Lib.hid (((HK.out.on (onXb2 wa2)).on hb).add (show Trms wb2 mv2 (euP p L 2) from ho.trms))
    clear ho hb
    go_wp2_with fail
    refine (iAddPoly p sv2 mv2 (sumV p (sumV p [] (euP p L 0)) (euP p L 1)) (euP p L 2) _ (HK.out.g (by simp)) (HK.out.g (by simp))).mono ?_
    rintro e wc2 ⟨sv3, rfl, ho, hb⟩
    rw [HF.out.a2]
    replace HK := Lib.hid ((HK.out.on hb).add ho.trms)
    clear ho hb
    go_wp2_with fail
    rw [rounds_succ]
    have HS := Lib.hid HF.out.su
    have HK' := Lib.hid (show PK w [(sv3, eulV p L), (hv, eulV p L), (f, L)] wc2 from ⟨HK.out.low, fun z hz => by
      rcases List.mem_cons.1 hz with rfl | hz
      · have := HK.out.g (v := sv3) (L := sumV p (sumV p (sumV p [] (euP p L 0)) (euP p L 1)) (euP p L 2)) (by simp)
        rw [HS.out] at this
        exact this
      · rcases List.mem_cons.1 hz with rfl | hz
        · exact HK.out.g (by simp)
        · rcases List.mem_cons.1 hz with rfl | hz
          · exact HK.out.g (by simp)
          · cases hz⟩)
    clear HK HS
    go_wp2_with fail
    refine (acP sv3 hv (eulV p L) wc2 (HK'.out.g (by simp)) (HK'.out.g (by simp))).mono ?_
    rintro e wd ⟨rfl, hb⟩
    replace HK' := Lib.hid (HK'.out.on hb)
    clear hb
    go_wp2_with fail
    refine (HIH.out wd (HK'.out.g (by simp))).mono ?_
    rintro e we ⟨rfl, hb⟩
    replace HK' := Lib.hid (HK'.out.on hb)
    clear hb
    cases hm
    · go_wp2_with fail
      go_ret
      exact ⟨rfl, HK'.out.low⟩
    · have HH := Lib.hid (HF.out.ho HHM.out.symm)
      go_wp2_with fail
      refine (iDegreeOf p f L we (HK'.out.g (by simp))).mono ?_
      rintro e wf ⟨rfl, hb⟩
      replace HK' := Lib.hid (HK'.out.on hb)
      clear hb
      generalize degV p L = d at HH
      go_wp2_with fail
      refine (iRed p (max d 0) wf HF.out.hp).mono ?_
      rintro e wg ⟨rfl, rfl⟩
      go_wp2_with fail
      refine (iScalePoly p f L (max d 0 % p) wf (HK'.out.g (by simp))).mono ?_
      rintro e wh ⟨tv, rfl, ho, hb⟩
      rw [HH.out] at ho
      replace HK' := Lib.hid ((HK'.out.on hb).add ho.trms)
      clear ho hb
      go_wp2_with fail
      refine (acP tv hv (eulV p L) wh (HK'.out.g (by simp)) (HK'.out.g (by simp))).mono ?_
      rintro e wi ⟨rfl, hb⟩
      replace HK' := Lib.hid (HK'.out.on hb)
      clear hb
      go_wp2_with fail
      go_ret
      exact ⟨rfl, HK'.out.low⟩
set_option maxHeartbeats 2000000 in
theorem wEulerPoly_long (a : Option Addr) (len cap : Nat) (w : World) (h1 : len ≤ 9223372036854775807) (hl : ¬ len ≤ 1048576) :
    Calls Try.prog 13 #[.slice a len cap] w fun e w' => e = .returned (.bool true) ∧ Below w.heap.size w w' := by
  have hp : (1048576 : Int) < (len : Int) := by omega
  go_enter Try.func13, Try.ntmps13
  go_wp2_with fail
  go_ret
  exact ⟨rfl, Below.refl _ _⟩
theorem wEulerPoly (a : Option Addr) (len cap : Nat) (w : World) (h : ByteRow w a len cap) :
    Calls Try.prog 13 #[.slice a len cap] w fun e w' => e = .returned (.bool true) ∧ Below w.heap.size w w' := by
  by_cases hl : len ≤ 1048576
  · exact wEulerPoly_in a len cap w h hl
  · exact wEulerPoly_long a len cap w (Nat.le_trans h.1 h.2.1) hl
end Go.Proofs.Ytlidplmpglpkgaa
