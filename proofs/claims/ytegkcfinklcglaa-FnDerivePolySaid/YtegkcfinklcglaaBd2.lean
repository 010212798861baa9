/-
  The derivative of a product. Mathematics alone. Conditions: the lists are polynomials over one field.
  The walk of the law of DerivePoly. Conditions: none but that the bytes can be read.
-/
import Derived.Test.YtegkcfinklcglaaBm2
import Derived.Test.YtegkcfinklcglaaBd1
namespace Go.Proofs.Ytegkcfinklcglaa
/-- what the derivative does to a number for powers -/
def dM (v : Int) (m : Int → Int → Int → Int) : Int → Int → Int → Int := fun a b c => if v = 0 then a * m (a - 1) b c else if v = 1 then b * m a (b - 1) c else c * m a b (c - 1)
/-- the numbers for powers, times a list -/
def nM (m : Int → Int → Int → Int) (G : List Trm) : Int → Int → Int → Int := fun a b c => sumI (fun y => y.t * m (a + y.a) (b + y.b) (c + y.c)) G
theorem derT_cg {p v : Int} (hv : v = 0 ∨ v = 1 ∨ v = 2) (m : Int → Int → Int → Int) (x : Trm) : Cg p ((derT p v x).t * m (derT p v x).a (derT p v x).b (derT p v x).c) (x.t * dM v m x.a x.b x.c) := by
  rcases hv with rfl | rfl | rfl
  · unfold dM
    rw [if_pos rfl]
    by_cases h : x.a = 0
    · rw [derT_z0 p x h]
      simp only [h, Int.mul_zero, Int.zero_emod, Int.zero_mul]
      exact Cg.refl _ _
    · rw [derT_at0 p x h]
      exact Cg.trans ((Cg.mod p _).mul (Cg.refl _ _)) (Cg.of_eq (by simp only; rw [Int.mul_assoc]))
  · unfold dM
    rw [if_neg (by decide), if_pos rfl]
    by_cases h : x.b = 0
    · rw [derT_z1 p x h]
      simp only [h, Int.mul_zero, Int.zero_emod, Int.zero_mul]
      exact Cg.refl _ _
    · rw [derT_at1 p x h]
      exact Cg.trans ((Cg.mod p _).mul (Cg.refl _ _)) (Cg.of_eq (by simp only; rw [Int.mul_assoc]))
  · unfold dM
    rw [if_neg (by decide), if_neg (by decide)]
    by_cases h : x.c = 0
    · rw [derT_z2 p x h]
      simp only [h, Int.mul_zero, Int.zero_emod, Int.zero_mul]
      exact Cg.refl _ _
    · rw [derT_at2 p x h]
      exact Cg.trans ((Cg.mod p _).mul (Cg.refl _ _)) (Cg.of_eq (by simp only; rw [Int.mul_assoc]))
/-- the derivative of a list -/
def dL (p v : Int) (L : List Trm) : List Trm := derK p v L L.length
theorem dL_wS {p v : Int} (hv : v = 0 ∨ v = 1 ∨ v = 2) (m : Int → Int → Int → Int) (L : List Trm) : Cg p (wS m (dL p v L)) (wS (dM v m) L) := by
  unfold dL derK
  rw [List.take_length]
  refine (wS_addAll m _ _).trans ?_
  rw [wS_map, wS_sum (dM v m) L]
  simp only [wS, Int.zero_add]
  exact sumI_cg fun x _ => derT_cg hv m x
theorem prod_nM {p : Int} (m : Int → Int → Int → Int) (D G : List Trm) : Cg p (wS m (addAll p (prodT p D G) [])) (wS (nM m G) D) := by
  refine (wS_addAll m _ _).trans ?_
  simp only [wS, Int.zero_add]
  refine (prod_wS m D G).trans (Cg.of_eq ?_)
  rw [wS_sum]
  refine sumI_congr fun x _ => ?_
  unfold nM
  rw [← sumI_mul]
  exact sumI_congr fun y _ => by rw [Int.mul_assoc]
theorem rule_sum {v : Int} (hv : v = 0 ∨ v = 1 ∨ v = 2) (m : Int → Int → Int → Int) (L G : List Trm) : wS (nM (dM v m) G) L = wS (dM v (nM m G)) L + wS (dM v (nM m L)) G := by
  have e1 : wS (nM (dM v m) G) L = sumI (fun x => sumI (fun y => x.t * (y.t * dM v m (x.a + y.a) (x.b + y.b) (x.c + y.c))) G) L := by
    rw [wS_sum]
    refine sumI_congr fun x _ => ?_
    unfold nM
    rw [← sumI_mul]
  rw [e1]
  rcases hv with rfl | rfl | rfl
  · have e2 : wS (dM 0 (nM m G)) L = sumI (fun x => sumI (fun y => x.t * x.a * (y.t * m (x.a - 1 + y.a) (x.b + y.b) (x.c + y.c))) G) L := by
      rw [wS_sum]
      refine sumI_congr fun x _ => ?_
      unfold dM nM
      rw [if_pos rfl, ← Int.mul_assoc, ← sumI_mul]
    have e3 : wS (dM 0 (nM m L)) G = sumI (fun x => sumI (fun y => y.t * y.a * (x.t * m (y.a - 1 + x.a) (y.b + x.b) (y.c + x.c))) G) L := by
      rw [wS_sum, ← sumI_swap]
      refine sumI_congr fun y _ => ?_
      unfold dM nM
      rw [if_pos rfl, ← Int.mul_assoc, ← sumI_mul]
    rw [e2, e3, ← sumI_add]
    refine sumI_congr fun x _ => ?_
    rw [← sumI_add]
    refine sumI_congr fun y _ => ?_
    unfold dM
    rw [if_pos rfl, show x.a - 1 + y.a = x.a + y.a - 1 by omega, show y.a - 1 + x.a = x.a + y.a - 1 by omega, Int.add_comm y.b, Int.add_comm y.c]
    grind
  · have e2 : wS (dM 1 (nM m G)) L = sumI (fun x => sumI (fun y => x.t * x.b * (y.t * m (x.a + y.a) (x.b - 1 + y.b) (x.c + y.c))) G) L := by
      rw [wS_sum]
      refine sumI_congr fun x _ => ?_
      unfold dM nM
      rw [if_neg (by decide), if_pos rfl, ← Int.mul_assoc, ← sumI_mul]
    have e3 : wS (dM 1 (nM m L)) G = sumI (fun x => sumI (fun y => y.t * y.b * (x.t * m (y.a + x.a) (y.b - 1 + x.b) (y.c + x.c))) G) L := by
      rw [wS_sum, ← sumI_swap]
      refine sumI_congr fun y _ => ?_
      unfold dM nM
      rw [if_neg (by decide), if_pos rfl, ← Int.mul_assoc, ← sumI_mul]
    rw [e2, e3, ← sumI_add]
    refine sumI_congr fun x _ => ?_
    rw [← sumI_add]
    refine sumI_congr fun y _ => ?_
    unfold dM
    rw [if_neg (by decide), if_pos rfl, show x.b - 1 + y.b = x.b + y.b - 1 by omega, show y.b - 1 + x.b = x.b + y.b - 1 by omega, Int.add_comm y.a, Int.add_comm y.c]
    grind
  · have e2 : wS (dM 2 (nM m G)) L = sumI (fun x => sumI (fun y => x.t * x.c * (y.t * m (x.a + y.a) (x.b + y.b) (x.c - 1 + y.c))) G) L := by
      rw [wS_sum]
      refine sumI_congr fun x _ => ?_
      unfold dM nM
      rw [if_neg (by decide), if_neg (by decide), ← Int.mul_assoc, ← sumI_mul]
    have e3 : wS (dM 2 (nM m L)) G = sumI (fun x => sumI (fun y => y.t * y.c * (x.t * m (y.a + x.a) (y.b + x.b) (y.c - 1 + x.c))) G) L := by
      rw [wS_sum, ← sumI_swap]
      refine sumI_congr fun y _ => ?_
      unfold dM nM
      rw [if_neg (by decide), if_neg (by decide), ← Int.mul_assoc, ← sumI_mul]
    rw [e2, e3, ← sumI_add]
    refine sumI_congr fun x _ => ?_
    rw [← sumI_add]
    refine sumI_congr fun y _ => ?_
    unfold dM
    rw [if_neg (by decide), if_neg (by decide), show x.c - 1 + y.c = x.c + y.c - 1 by omega, show y.c - 1 + x.c = x.c + y.c - 1 by omega, Int.add_comm y.a, Int.add_comm y.b]
    grind
/-- the derivative of a polynomial is one -/
theorem dL_valid {p v : Int} (hp : isP p = true) {L : List Trm} (hV : validB p L = true) (hv : v = 0 ∨ v = 1 ∨ v = 2) : validB p (dL p v L) = true := by
  have hf := derK_facts (p := p) (v := v) hp (Nat.le_refl L.length) (validB_len hV)
  refine validB_of hf.1 hf.2.1 (fun y hy => ?_) hf.2.2
  unfold dL derK at hy
  rw [List.take_length] at hy
  rcases addAll_mem hy with h | ⟨x, hx, _, h1, h2, h3⟩
  · cases h
  · obtain ⟨z, hz, rfl⟩ := List.mem_map.1 hx
    have hm := validB_mem hV hz
    rw [h1, h2, h3]
    have hb : ∀ n : Int, 0 ≤ n ∧ n ≤ 9 → powB n = true := fun n hn => by simp only [powB]; rw [decide_eq_true hn.1, decide_eq_true hn.2]; rfl
    have hq : ∀ n : Int, 0 ≤ n ∧ n ≤ 9 → 0 ≤ (if n = 0 then 0 else n - 1) ∧ (if n = 0 then 0 else n - 1) ≤ 9 := fun n hn => by split <;> omega
    unfold powsB
    rcases hv with rfl | rfl | rfl
    · rw [show (derT p 0 z).a = (if z.a = 0 then 0 else z.a - 1) from rfl, show (derT p 0 z).b = z.b from rfl, show (derT p 0 z).c = z.c from rfl, hb _ (hq _ hm.1), hb _ hm.2.1, hb _ ⟨hm.2.2.1, hm.2.2.2⟩]; rfl
    · rw [show (derT p 1 z).a = z.a from rfl, show (derT p 1 z).b = (if z.b = 0 then 0 else z.b - 1) from rfl, show (derT p 1 z).c = z.c from rfl, hb _ hm.1, hb _ (hq _ hm.2.1), hb _ ⟨hm.2.2.1, hm.2.2.2⟩]; rfl
    · rw [show (derT p 2 z).a = z.a from rfl, show (derT p 2 z).b = z.b from rfl, show (derT p 2 z).c = (if z.c = 0 then 0 else z.c - 1) from rfl, hb _ hm.1, hb _ hm.2.1, hb _ (hq _ ⟨hm.2.2.1, hm.2.2.2⟩)]; rfl
theorem dL_is {p v : Int} (hp : isP p = true) {L : List Trm} (hV : validB p L = true) (hv : v = 0 ∨ v = 1 ∨ v = 2) : derOk p L v = true ∧ derV p L v = dL p v L := by
  have hvB : vB v = true := by unfold vB; rw [decide_eq_true (by omega), decide_eq_true (by omega)]; rfl
  obtain ⟨h1, h2⟩ := derOk_yes (p := p) (v := v) (L := L) (by rw [hp, hV, hvB]; rfl)
  have h3 : validB p (derK p v L L.length) = true := dL_valid hp hV hv
  rw [h1, h2, h3]
  exact ⟨rfl, rfl⟩
theorem derOk_is {p v : Int} {L : List Trm} (h : derOk p L v = true) : isP p = true ∧ validB p L = true ∧ (v = 0 ∨ v = 1 ∨ v = 2) := by
  unfold derOk at h
  simp only [Bool.and_eq_true] at h
  exact ⟨h.1.1.1, h.1.1.2, vB_cases h.1.2⟩
/-- the rule for products -/
theorem rule {p v : Int} (hp : isP p = true) {L G : List Trm} (hv : v = 0 ∨ v = 1 ∨ v = 2) :
    addAll p (addAll p (prodT p L (dL p v G)) []) (addAll p (prodT p (dL p v L) G) []) = dL p v (addAll p (prodT p L G) []) := by
  have hb := isP_bd hp
  have els : ∀ X Y : List Trm, Els p (addAll p (prodT p X Y) []) := fun X Y => addAll_els (by omega) _ _ (prod_in (by omega)) (fun _ h => by cases h)
  have srt : ∀ X Y : List Trm, Srt (addAll p (prodT p X Y) []) := fun X Y => addAll_srt _ _ List.Pairwise.nil
  have hd : Srt (dL p v (addAll p (prodT p L G) [])) ∧ Els p (dL p v (addAll p (prodT p L G) [])) := by
    unfold dL derK
    refine ⟨addAll_srt _ _ List.Pairwise.nil, addAll_els (by omega) _ _ (fun x hx => ?_) (fun _ h => by cases h)⟩
    obtain ⟨z, _, rfl⟩ := List.mem_map.1 hx
    rw [derT_t]
    exact emod_bd hb.1
  refine addAll_is (by omega) (srt _ _) hd.1 (els _ _) hd.2 (els_in (els _ _)) fun m => ?_
  have hA := (prod_nM (p := p) m (dL p v L) G).trans (dL_wS hv (nM m G) L)
  have hB := (prod_nM (p := p) m (dL p v G) L).trans (dL_wS hv (nM m L) G)
  rw [mul_comm' hp] at hB
  have hH := (dL_wS (p := p) hv m (addAll p (prodT p L G) [])).trans (prod_nM (dM v m) L G)
  exact (hA.add hB).trans ((Cg.of_eq (rule_sum hv m L G).symm).trans hH.symm)
theorem dL_deg {p v : Int} (hp : isP p = true) {L : List Trm} (hV : validB p L = true) (hv : v = 0 ∨ v = 1 ∨ v = 2) : degIV p (dL p v L) v < max (degIV p L v) 1 := by
  have hiv : inV v = true := by unfold inV; rw [decide_eq_true (by omega), decide_eq_true (by omega)]; rfl
  unfold degIV
  rw [hp, hV, dL_valid hp hV hv, hiv]
  simp only [Bool.and_self, if_true]
  rw [topK_in, topK_in]
  have := topK_le (f := pw v) (L := dL p v L) (d := max (topK (pw v) L L.length) 1 - 1) (by omega) (fun y hy => ?_) _ (Nat.le_refl _)
  · omega
  · unfold dL derK at hy
    rw [List.take_length] at hy
    rcases addAll_mem hy with h | ⟨x, hx, _, h1, h2, h3⟩
    · cases h
    · obtain ⟨z, hz, rfl⟩ := List.mem_map.1 hx
      have ht := topK_ge (f := pw v) hz
      have hm := pw_bd hV v z hz
      have e : pw v y = (if pw v z = 0 then 0 else pw v z - 1) := by
        rcases hv with rfl | rfl | rfl
        · show y.a = _; rw [h1]; rfl
        · show y.b = _; rw [h2]; rfl
        · show y.c = _; rw [h3]; rfl
      rw [e]
      split <;> omega
end Go.Proofs.Ytegkcfinklcglaa
namespace Go.Proofs.Ytegkcfinklcglaa
open Go.RowKit
set_option maxRecDepth 100000 in
set_option maxHeartbeats 16000000 in
theorem wDerivePoly_in (a : Option Addr) (len cap : Nat) (a' : Option Addr) (len' cap' : Nat) (w : World) (h : ByteRow w a len cap) (h' : ByteRow w a' len' cap') (hl : len ≤ 1048576) (hl' : len' ≤ 1048576) :
    Calls Try.prog 6 #[.slice a len cap, .slice a' len' cap'] w fun e w' => e = .returned (.bool true) ∧ Below w.heap.size w w' := by
  have hlp : (len : Int) ≤ 1048576 := by omega
  have hlp' : (len' : Int) ≤ 1048576 := by omega
  have HB' := Lib.hid h'
  have HD := Lib.hid (drawDerivePoly a len cap w h)
  clear h h'
  go_enter Try.func6, Try.ntmps6
  go_wp2_with fail
  refine HD.out.mono ?_
  rintro e w1 ⟨p, f, L, v, rfl, hL, hv9, hr1, hb1⟩
  have HK1 := Lib.hid (show PK w [(f, L)] w1 from ⟨hb1, fun z hz => by
    rcases List.mem_cons.1 hz with rfl | hz
    · exact (hr1.own (by omega)).trms
    · cases hz⟩)
  clear hr1 hb1 HD
  go_wp2_with fail
  refine (iDerivePoly p v f L w1 (HK1.out.g (by simp))).mono ?_
  rintro e w2 ⟨hv, rfl, ho, hb⟩
  have HK2 := Lib.hid ((HK1.out.on hb).add ho.trms)
  clear ho hb HK1
  go_wp2_with fail
  refine (sDerivePoly p v f L w2 (HK2.out.g (by simp))).mono ?_
  rintro e w3 ⟨wv, rfl, ho, hb⟩
  have HK3 := Lib.hid ((HK2.out.on hb).add ho.trms)
  clear ho hb HK2
  obtain ⟨ok, hok⟩ : ∃ ok, ok = derOk p L v := ⟨_, rfl⟩
  have HOK := Lib.hid hok
  rw [← hok]
  clear hok
  have hbb : (ok != ok) = false := by cases ok <;> rfl
  go_wp2_with fail
  refine (acP hv wv (derV p L v) w3 (HK3.out.g (by simp)) (HK3.out.g (by simp))).mono ?_
  rintro e w4 ⟨rfl, hb⟩
  have HK4 := Lib.hid (HK3.out.on hb)
  clear hb HK3
  obtain ⟨df, hdf⟩ : ∃ df, df = degIV p L v := ⟨_, rfl⟩
  have HDf := Lib.hid hdf.symm
  clear hdf
  have hdd : (df != df) = false := by simp
  have hde : (df == df) = true := by simp
  go_wp2_with fail
  refine (iDegreeIn p f L v w4 (HK4.out.g (by simp))).mono ?_
  rw [HDf.out]
  rintro e w5 ⟨rfl, hb⟩
  have HK5 := Lib.hid (HK4.out.on hb)
  clear hb HK4
  go_wp2_with fail
  refine (sDegreeIn p f L v w5 (HK5.out.g (by simp))).mono ?_
  rw [HDf.out]
  rintro e w6 ⟨rfl, hb⟩
  have HK6 := Lib.hid (HK5.out.on hb)
  clear hb HK5
  cases ok
  · go_wp2_with fail
    refine (acP hv wv (derV p L v) w6 (HK6.out.g (by simp)) (HK6.out.g (by simp))).mono ?_
    rintro e w7 ⟨rfl, hb⟩
    have HK7 := Lib.hid (HK6.out.on hb)
    clear hb HK6
    go_wp2_with fail
    refine (iDegreeIn p f L v w7 (HK7.out.g (by simp))).mono ?_
    rw [HDf.out]
    rintro e w8 ⟨rfl, hb⟩
    have HK8 := Lib.hid (HK7.out.on hb)
    clear hb HK7
    go_wp2_with fail
    refine (sDegreeIn p f L v w8 (HK8.out.g (by simp))).mono ?_
    rw [HDf.out]
    rintro e w9 ⟨rfl, hb⟩
    have HK9 := Lib.hid (HK8.out.on hb)
    clear hb HK8
    go_wp2_with fail
    go_ret
    exact ⟨rfl, HK9.out.low⟩
  · obtain ⟨hp, hVL, hv3⟩ := derOk_is HOK.out.symm
    rw [(dL_is hp hVL hv3).2] at HK6
    have hdg := dL_deg hp hVL hv3
    rw [HDf.out] at hdg
    obtain ⟨dd, hdd'⟩ : ∃ dd, dd = degIV p (dL p v L) v := ⟨_, rfl⟩
    rw [← hdd'] at hdg
    have HDd := Lib.hid hdd'.symm
    have HLt := Lib.hid hdg
    have HV := Lib.hid (And.intro hp (And.intro hVL hv3))
    clear hp hVL hv3 hdg hdd' hdd hde
    go_wp2_with fail
    refine (drawMulPoly a' len' cap' w6 (HB'.out.below HK6.out.low)).mono ?_
    rintro e w7 ⟨p', f', g, L', G, rfl, hL', hG, _, hr2, hb⟩
    have HK7 := Lib.hid ((HK6.out.on hb).add (hr2.own (by omega)).trms)
    clear hr2 hb HK6
    go_wp2_with fail
    refine (iDerivePoly p v g G w7 (HK7.out.g (by simp))).mono ?_
    rintro e w8 ⟨ev, rfl, ho, hb⟩
    have HK8 := Lib.hid ((HK7.out.on hb).add ho.trms)
    clear ho hb HK7
    obtain ⟨fine, hfi⟩ : ∃ b, b = derOk p G v := ⟨_, rfl⟩
    have HFI := Lib.hid hfi
    rw [← hfi]
    clear hfi
    go_wp2_with fail
    refine (iMulPoly p f g L G w8 (HK8.out.g (by simp)) (HK8.out.g (by simp))).mono ?_
    rintro e w9 ⟨mv, rfl, ho, hb⟩
    have HK9 := Lib.hid ((HK8.out.on hb).add ho.trms)
    clear ho hb HK8
    obtain ⟨told, hto⟩ : ∃ b, b = mulOk p L G := ⟨_, rfl⟩
    have HTO := Lib.hid hto
    rw [← hto]
    clear hto
    cases fine
    · go_wp2_with fail
      refine (iDegreeIn p _ (dL p v L) v _ (HK9.out.g (by simp))).mono ?_
      rw [HDd.out]
      rintro e wa ⟨rfl, hb⟩
      have HKa := Lib.hid (HK9.out.on hb)
      clear hb
      go_wp2_with fail
      refine (iDegreeIn p f L v _ (HKa.out.g (by simp))).mono ?_
      rw [HDf.out]
      rintro e wb ⟨rfl, hb⟩
      have HKb := Lib.hid (HKa.out.on hb)
      clear hb HKa
      go_wp2_with fail
      go_ret
      exact ⟨ret_bool (decide_eq_true HLt.out), HKb.out.low⟩
    · cases told
      · go_wp2_with fail
        refine (iDegreeIn p _ (dL p v L) v _ (HK9.out.g (by simp))).mono ?_
        rw [HDd.out]
        rintro e wa ⟨rfl, hb⟩
        have HKa := Lib.hid (HK9.out.on hb)
        clear hb
        go_wp2_with fail
        refine (iDegreeIn p f L v _ (HKa.out.g (by simp))).mono ?_
        rw [HDf.out]
        rintro e wb ⟨rfl, hb⟩
        have HKb := Lib.hid (HKa.out.on hb)
        clear hb HKa
        go_wp2_with fail
        go_ret
        exact ⟨ret_bool (decide_eq_true HLt.out), HKb.out.low⟩
      · obtain ⟨_, _, hVG, hVH, hmH⟩ := mulOk_is HTO.out.symm
        have heG := (dL_is HV.out.1 hVG HV.out.2.2).2
        have hdH := (dL_is HV.out.1 hVH HV.out.2.2).2
        have hru := rule (p := p) HV.out.1 (L := L) (G := G) HV.out.2.2
        rw [heG, hmH] at HK9
        have HdH := Lib.hid hdH
        have HRu := Lib.hid hru
        have HVG := Lib.hid (And.intro hVG hVH)
        clear hVG hVH hmH heG hdH hru
        go_wp2_with fail
        refine (iDerivePoly p v mv (addAll p (prodT p L G) []) w9 (HK9.out.g (by simp))).mono ?_
        rintro e w10 ⟨bv, rfl, ho, hb⟩
        rw [HdH.out] at ho
        have HK10 := Lib.hid ((HK9.out.on hb).add ho.trms)
        clear ho hb HK9
        go_wp2_with fail
        refine (iMulPoly p hv g (dL p v L) G w10 (HK10.out.g (by simp)) (HK10.out.g (by simp))).mono ?_
        rintro e w11 ⟨av, rfl, ho, hb⟩
        have HK11 := Lib.hid ((HK10.out.on hb).add ho.trms)
        clear ho hb HK10
        go_wp2_with fail
        refine (iMulPoly p f ev L (dL p v G) w11 (HK11.out.g (by simp)) (HK11.out.g (by simp))).mono ?_
        rintro e w12 ⟨cv, rfl, ho, hb⟩
        have HK12 := Lib.hid ((HK11.out.on hb).add ho.trms)
        clear ho hb HK11
        go_wp2_with fail
        refine (iAddPoly p av cv (mulL p (dL p v L) G) (mulL p L (dL p v G)) w12 (HK12.out.g (by simp)) (HK12.out.g (by simp))).mono ?_
        rintro e w13 ⟨sv, rfl, ho, hb⟩
        have HK13 := Lib.hid ((HK12.out.on hb).add ho.trms)
        clear ho hb HK12
        obtain ⟨b1, h1⟩ : ∃ b, b = mulOk p (dL p v L) G := ⟨_, rfl⟩
        obtain ⟨b2, h2⟩ : ∃ b, b = mulOk p L (dL p v G) := ⟨_, rfl⟩
        obtain ⟨b3, h3⟩ : ∃ b, b = addOk p (mulL p (dL p v L) G) (mulL p L (dL p v G)) := ⟨_, rfl⟩
        have H1 := Lib.hid h1
        have H2 := Lib.hid h2
        have H3 := Lib.hid h3
        rw [← h1, ← h2, ← h3]
        clear h1 h2 h3
        cases b1
        · go_wp2_with fail
          refine (iDegreeIn p _ (dL p v L) v _ (HK13.out.g (by simp))).mono ?_
          rw [HDd.out]
          rintro e wa ⟨rfl, hb⟩
          have HKa := Lib.hid (HK13.out.on hb)
          clear hb
          go_wp2_with fail
          refine (iDegreeIn p f L v _ (HKa.out.g (by simp))).mono ?_
          rw [HDf.out]
          rintro e wb ⟨rfl, hb⟩
          have HKb := Lib.hid (HKa.out.on hb)
          clear hb HKa
          go_wp2_with fail
          go_ret
          exact ⟨ret_bool (decide_eq_true HLt.out), HKb.out.low⟩
        · cases b2
          · go_wp2_with fail
            refine (iDegreeIn p _ (dL p v L) v _ (HK13.out.g (by simp))).mono ?_
            rw [HDd.out]
            rintro e wa ⟨rfl, hb⟩
            have HKa := Lib.hid (HK13.out.on hb)
            clear hb
            go_wp2_with fail
            refine (iDegreeIn p f L v _ (HKa.out.g (by simp))).mono ?_
            rw [HDf.out]
            rintro e wb ⟨rfl, hb⟩
            have HKb := Lib.hid (HKa.out.on hb)
            clear hb HKa
            go_wp2_with fail
            go_ret
            exact ⟨ret_bool (decide_eq_true HLt.out), HKb.out.low⟩
          · cases b3
            · go_wp2_with fail
              refine (iDegreeIn p _ (dL p v L) v _ (HK13.out.g (by simp))).mono ?_
              rw [HDd.out]
              rintro e wa ⟨rfl, hb⟩
              have HKa := Lib.hid (HK13.out.on hb)
              clear hb
              go_wp2_with fail
              refine (iDegreeIn p f L v _ (HKa.out.g (by simp))).mono ?_
              rw [HDf.out]
              rintro e wb ⟨rfl, hb⟩
              have HKb := Lib.hid (HKa.out.on hb)
              clear hb HKa
              go_wp2_with fail
              go_ret
              exact ⟨ret_bool (decide_eq_true HLt.out), HKb.out.low⟩
            · have hs : sumV p (mulL p (dL p v L) G) (mulL p L (dL p v G)) = dL p v (addAll p (prodT p L G) []) := by
                rw [(addOk_is H3.out.symm).2.2.2.2, (mulOk_is H1.out.symm).2.2.2.2, (mulOk_is H2.out.symm).2.2.2.2, HRu.out]
              rw [hs] at HK13
              clear hs
              go_wp2_with fail
              refine (acP sv bv (dL p v (addAll p (prodT p L G) [])) w13 (HK13.out.g (by simp)) (HK13.out.g (by simp))).mono ?_
              rintro e w14 ⟨rfl, hb⟩
              have HK14 := Lib.hid (HK13.out.on hb)
              clear hb HK13
              go_wp2_with fail
              refine (iDegreeIn p _ (dL p v L) v _ (HK14.out.g (by simp))).mono ?_
              rw [HDd.out]
              rintro e wa ⟨rfl, hb⟩
              have HKa := Lib.hid (HK14.out.on hb)
              clear hb
              go_wp2_with fail
              refine (iDegreeIn p f L v _ (HKa.out.g (by simp))).mono ?_
              rw [HDf.out]
              rintro e wb ⟨rfl, hb⟩
              have HKb := Lib.hid (HKa.out.on hb)
              clear hb HKa
              go_wp2_with fail
              go_ret
              exact ⟨ret_bool (decide_eq_true HLt.out), HKb.out.low⟩
set_option maxRecDepth 100000 in
set_option maxHeartbeats 2000000 in
theorem wDerivePoly_long (a : Option Addr) (len cap : Nat) (a' : Option Addr) (len' cap' : Nat) (w : World) (h1 : len ≤ 9223372036854775807) (h2 : len' ≤ 9223372036854775807) (hl : ¬ (len ≤ 1048576 ∧ len' ≤ 1048576)) :
    Calls Try.prog 6 #[.slice a len cap, .slice a' len' cap'] w fun e w' => e = .returned (.bool true) ∧ Below w.heap.size w w' := by
  by_cases h : len ≤ 1048576
  · have hp : (len : Int) ≤ 1048576 := by omega
    have hq : (1048576 : Int) < (len' : Int) := by omega
    go_enter Try.func6, Try.ntmps6
    go_wp2_with fail
    go_ret
    exact ⟨rfl, Below.refl _ _⟩
  · have hp : (1048576 : Int) < (len : Int) := by omega
    go_enter Try.func6, Try.ntmps6
    go_wp2_with fail
    go_ret
    exact ⟨rfl, Below.refl _ _⟩
theorem wDerivePoly (a : Option Addr) (len cap : Nat) (a' : Option Addr) (len' cap' : Nat) (w : World) (h : ByteRow w a len cap) (h' : ByteRow w a' len' cap') :
    Calls Try.prog 6 #[.slice a len cap, .slice a' len' cap'] w fun e w' => e = .returned (.bool true) ∧ Below w.heap.size w w' := by
  by_cases hl : len ≤ 1048576 ∧ len' ≤ 1048576
  · exact wDerivePoly_in a len cap a' len' cap' w h h' hl.1 hl.2
  · exact wDerivePoly_long a len cap a' len' cap' w (Nat.le_trans h.1 h.2.1) (Nat.le_trans h'.1 h'.2.1) hl
end Go.Proofs.Ytegkcfinklcglaa
