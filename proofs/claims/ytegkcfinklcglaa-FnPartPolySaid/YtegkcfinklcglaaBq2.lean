/-
  The walk of the law of PartPoly. Conditions: none but that the bytes can be read.
-/
import Derived.Test.YtegkcfinklcglaaBm2
import Derived.Test.YtegkcfinklcglaaBq1
namespace Go.Proofs.Ytegkcfinklcglaa
open Go.RowKit
theorem partK_filter (L : List Trm) (n : Int) : ∀ k, k ≤ L.length → partK L n k = (L.take k).filter (fun x => decide (degT x = n))
  | 0, _ => by simp [partK]
  | k + 1, h => by
    have hk : k < L.length := by omega
    have hx : L.getD k default = L[k] := by simp [List.getD_eq_getElem?_getD, hk]
    rw [partK, partK_filter L n k (by omega), List.take_succ_eq_append_getElem hk, List.filter_append, hx]
    by_cases e : degT L[k] = n
    · simp [e]
    · simp [e]
def prt (L : List Trm) (n : Int) : List Trm := L.filter (fun x => decide (degT x = n))
def lowD (L : List Trm) (n : Int) : List Trm := L.filter (fun x => decide (degT x < n))
theorem filter_valid {p : Int} {L : List Trm} (hV : validB p L = true) (q : Trm → Bool) : validB p (L.filter q) = true := by
  refine validB_of ((validB_srt hV).sublist List.filter_sublist) (fun y hy => validB_els hV y (List.mem_filter.1 hy).1) (fun y hy => ?_) (Nat.le_trans (List.length_filter_le _ _) (validB_len hV))
  have h := validB_mem hV (List.mem_filter.1 hy).1
  simp only [powsB, powB, Bool.and_eq_true]
  exact ⟨⟨⟨decide_eq_true h.1.1, decide_eq_true h.1.2⟩, ⟨decide_eq_true h.2.1.1, decide_eq_true h.2.1.2⟩⟩, ⟨decide_eq_true h.2.2.1, decide_eq_true h.2.2.2⟩⟩
theorem low_next (m : Int → Int → Int → Int) (n : Int) : ∀ L : List Trm, wS m (lowD L n) + wS m (prt L n) = wS m (lowD L (n + 1))
  | [] => rfl
  | x :: r => by
    have ih := low_next m n r
    unfold lowD prt at *
    by_cases h1 : degT x < n
    · rw [List.filter_cons_of_pos (by simpa using h1), List.filter_cons_of_neg (by simp; omega), List.filter_cons_of_pos (by simp; omega)]
      simp only [wS]
      omega
    · by_cases h2 : degT x = n
      · rw [List.filter_cons_of_neg (by simpa using h1), List.filter_cons_of_pos (by simpa using h2), List.filter_cons_of_pos (by simp; omega)]
        simp only [wS]
        omega
      · rw [List.filter_cons_of_neg (by simpa using h1), List.filter_cons_of_neg (by simpa using h2), List.filter_cons_of_neg (by simp; omega)]
        exact ih
theorem part_sum {p : Int} {L : List Trm} (hp : isP p = true) (hV : validB p L = true) (n : Int) : addOk p (lowD L n) (prt L n) = true ∧ sumV p (lowD L n) (prt L n) = lowD L (n + 1) := by
  have hb := isP_bd hp
  have v1 : validB p (lowD L n) = true := filter_valid hV _
  have v2 : validB p (prt L n) = true := filter_valid hV _
  have v3 : validB p (lowD L (n + 1)) = true := filter_valid hV _
  have e : addAll p (prt L n) (lowD L n) = lowD L (n + 1) := addAll_is (by omega) (validB_srt v1) (validB_srt v3) (validB_els v1) (validB_els v3) (els_in (validB_els v2)) fun m => Cg.of_eq (low_next m n L)
  have h := addOk_of (p := p) (L := lowD L n) (M := prt L n) hp v1 v2 (by rw [e]; exact v3)
  exact ⟨h.1, by rw [h.2, e]⟩
/-- all that the law of parts asks -/
structure PrtF (p : Int) (L : List Trm) (k n : Int) (P H : List Trm) : Prop where
  hp : isP p = true
  hV : validB p L = true
  hn : degV p L = n
  nb : -1 ≤ n ∧ n ≤ 27
  low0 : lowD L 0 = []
  lowN : lowD L (n + 1) = L
  pk : partL p L k = P
  ph : partL p L n = H
  pd : P ≠ [] → degV p P = k
  hi : L = [] ↔ H = []
theorem partL_is {p : Int} {L : List Trm} (hp : isP p = true) (hV : validB p L = true) (n : Int) : partL p L n = prt L n := by
  unfold partL prt
  rw [hp, hV, partK_filter L n L.length (Nat.le_refl _), List.take_length]
  rfl
theorem prtF {p : Int} {L : List Trm} (hp : isP p = true) (hV : validB p L = true) (k : Int) : PrtF p L k (degV p L) (partL p L k) (partL p L (degV p L)) := by
  have hd : degV p L = topK degT L L.length := by
    unfold degV
    rw [hp, hV]
    simp only [Bool.and_self, if_true]
    exact topK_deg L _
  refine ⟨hp, hV, rfl, degV_bd hp hV, ?_, ?_, rfl, rfl, fun hne => ?_, ?_⟩
  · unfold lowD
    rw [List.filter_eq_nil_iff]
    intro y hy
    have := (degT_bd hV y hy).1
    simp; omega
  · unfold lowD
    rw [List.filter_eq_self]
    intro y hy
    have := topK_ge (f := degT) hy
    rw [hd]
    simp; omega
  · rw [partL_is hp hV] at hne ⊢
    have hv2 : validB p (prt L k) = true := filter_valid hV _
    unfold degV
    rw [hp, hv2]
    simp only [Bool.and_self, if_true]
    rw [topK_deg]
    obtain ⟨y, hy⟩ := List.exists_mem_of_ne_nil _ hne
    have hall : ∀ z ∈ prt L k, degT z = k := fun z hz => by simpa using (List.mem_filter.1 hz).2
    have h1 := topK_ge (f := degT) hy
    have h0 := (degT_bd hv2 y hy).1
    have hk := hall y hy
    have h2 := topK_le (f := degT) (L := prt L k) (d := k) (by omega) (fun z hz => by rw [hall z hz]; omega) _ (Nat.le_refl _)
    omega
  · rw [partL_is hp hV]
    constructor
    · rintro rfl
      rfl
    · intro h
      by_cases hL : L = []
      · exact hL
      · obtain ⟨y, hy⟩ := List.exists_mem_of_ne_nil _ hL
        have h0 := (degT_bd hV y hy).1
        have h1 := topK_ge (f := degT) hy
        obtain ⟨z, hz, hzt⟩ := topK_at (f := degT) (L := L) L.length (Nat.le_refl _) (by omega)
        have : z ∈ prt L (degV p L) := List.mem_filter.2 ⟨hz, by rw [hd, hzt]; simp⟩
        rw [h] at this
        cases this
theorem PK.drop {w0 wr : World} {zs ys : List VT} (h : PK w0 zs wr) (hs : ∀ z ∈ ys, z ∈ zs) : PK w0 ys wr := ⟨h.low, fun z hz => h.rd z (hs z hz)⟩
set_option maxRecDepth 100000 in
set_option maxHeartbeats 16000000 in
theorem wPartPoly_in (a : Option Addr) (len cap : Nat) (w : World) (h : ByteRow w a len cap) (hl : len ≤ 1048576) :
    Calls Try.prog 7 #[.slice a len cap] w fun e w' => e = .returned (.bool true) ∧ Below w.heap.size w w' := by
  have hlp : (len : Int) ≤ 1048576 := by omega
  have HD := Lib.hid (drawPartPoly a len cap w h)
  clear h
  go_enter Try.func7, Try.ntmps7
  go_wp2_with fail
  refine HD.out.mono ?_
  rintro e w1 ⟨p, f, L, k, rfl, hL, hk9, hr1, hb1⟩
  have HK1 := Lib.hid (show PK w [(f, L)] w1 from ⟨hb1, fun z hz => by
    rcases List.mem_cons.1 hz with rfl | hz
    · exact (hr1.own (by omega)).trms
    · cases hz⟩)
  clear hr1 hb1 HD
  go_wp2_with fail
  refine (iPartPoly p f L k w1 (HK1.out.g (by simp))).mono ?_
  rintro e w2 ⟨hv, rfl, ho, hb⟩
  have HK2 := Lib.hid ((HK1.out.on hb).add ho.trms)
  clear ho hb HK1
  go_wp2_with fail
  refine (sPartPoly p f L k w2 (HK2.out.g (by simp))).mono ?_
  rintro e w3 ⟨wv, rfl, ho, hb⟩
  have HK3 := Lib.hid ((HK2.out.on hb).add ho.trms)
  clear ho hb HK2
  obtain ⟨ok, hok⟩ : ∃ ok, ok = (isP p && validB p L) := ⟨_, rfl⟩
  have HOK := Lib.hid hok
  rw [← hok]
  clear hok
  have hbb : (ok != ok) = false := by cases ok <;> rfl
  go_wp2_with fail
  refine (iDegreeOf p f L w3 (HK3.out.g (by simp))).mono ?_
  rintro e w4 ⟨rfl, hb⟩
  have HK4 := Lib.hid (HK3.out.on hb)
  clear hb HK3
  have hdd : (degV p L != degV p L) = false := by simp
  go_wp2_with fail
  refine (acP hv wv (partL p L k) w4 (HK4.out.g (by simp)) (HK4.out.g (by simp))).mono ?_
  rintro e w5 ⟨rfl, hb⟩
  have HK5 := Lib.hid (HK4.out.on hb)
  clear hb HK4
  go_wp2_with fail
  refine (sDegreeOf p f L w5 (HK5.out.g (by simp))).mono ?_
  rintro e w6 ⟨rfl, hb⟩
  have HK6 := Lib.hid (HK5.out.on hb)
  clear hb HK5
  cases ok
  · go_wp2_with fail
    refine (acP hv wv (partL p L k) w6 (HK6.out.g (by simp)) (HK6.out.g (by simp))).mono ?_
    rintro e w7 ⟨rfl, hb⟩
    have HK7 := Lib.hid (HK6.out.on hb)
    clear hb HK6
    go_wp2_with fail
    refine (sDegreeOf p f L w7 (HK7.out.g (by simp))).mono ?_
    rintro e w8 ⟨rfl, hb⟩
    have HK8 := Lib.hid (HK7.out.on hb)
    clear hb HK7
    have hde : (degV p L == degV p L) = true := by simp
    go_wp2_with fail
    go_ret
    exact ⟨rfl, HK8.out.low⟩
  · have hF : PrtF p L k (degV p L) (partL p L k) (partL p L (degV p L)) := by
      have := HOK.out
      simp only [Bool.true_eq, Bool.and_eq_true] at this
      exact prtF this.1 this.2 k
    clear hdd
    have HDI := Lib.hid (hF.hn)
    generalize hH : partL p L (degV p L) = H at hF
    generalize hP : partL p L k = P at HK6 hF
    generalize hn : degV p L = n at *
    have HF := Lib.hid hF
    obtain ⟨n0, n1⟩ := hF.nb
    clear hF hH hP
    have HK7 := Lib.hid ((HK6.out.on (w' := w6.alloc (.cells #[] 32)) (Below.alloc (Below.refl _ _) (Nat.le_refl _) _)).add ((Row.lit0 w6 w6.heap.size (Nat.le_refl _)).own (by simp)).trms)
    have HL0 := Lib.hid (show ([] : List Trm) = lowD L 0 from HF.out.low0.symm)
    clear HK6
    go_wp2_with fail
    go_loopw [11, 12] (fun v i wr => ∃ j : Nat, (j : Int) ≤ n + 1 ∧ i = .int .i64 j ∧ PK w [(v, lowD L j), (hv, P), (f, L)] wr) (fun _ i _ => (n + 1 - intOf i).toNat)
    case atStart => exact ⟨0, by omega, rfl, by
      have := HK7.out.drop (ys := [(_, _), (hv, P), (f, L)]) (fun z hz => by
        simp only [List.mem_cons, List.mem_nil_iff, or_false] at hz
        rcases hz with rfl | rfl | rfl
        · exact List.mem_cons_self
        · simp
        · simp)
      rw [HL0.out] at this
      exact this⟩
    case round =>
      clear HK7
      obtain ⟨j, hj, rfl, hK⟩ := hrel
      have HK := Lib.hid hK
      clear hK
      by_cases hlt : (j : Int) ≤ n
      · have hwj : IntKind.i64.wrap ((j : Int) + 1) = (j : Int) + 1 := IntWalk.i64_in _ (by omega)
        go_wp2_with fail
        refine (iPartPoly p f L j _ (HK.out.g (by simp))).mono ?_
        rintro e w8 ⟨ov, rfl, ho, hb⟩
        rw [partL_is HF.out.hp HF.out.hV] at ho
        have HK8 := Lib.hid ((HK.out.on hb).add ho.trms)
        clear ho hb HK
        go_wp2_with fail
        refine (iAddPoly p _ ov (lowD L j) (prt L j) w8 (HK8.out.g (by simp)) (HK8.out.g (by simp))).mono ?_
        rintro e w9 ⟨sv, rfl, ho, hb⟩
        rw [(part_sum HF.out.hp HF.out.hV j).2] at ho
        have HK9 := Lib.hid (((HK8.out.on hb).add ho.trms).drop (ys := [(sv, lowD L ((j : Int) + 1)), (hv, P), (f, L)]) (fun z hz => by
          simp only [List.mem_cons, List.mem_nil_iff, or_false] at hz
          rcases hz with rfl | rfl | rfl <;> simp))
        clear ho hb HK8
        go_wp2_with fail
        go_roundw
        case rel => exact ⟨j + 1, by omega, by go_num, by rw [show ((j + 1 : Nat) : Int) = (j : Int) + 1 from by omega]; exact HK9.out⟩
        case measure => simp [intOf]; omega
      · have hlt2 : n < (j : Int) := by omega
        have hje : (j : Int) = n + 1 := by omega
        have hK2 := HK.out
        rw [hje, HF.out.lowN] at hK2
        have HKL := Lib.hid hK2
        clear HK hje hK2
        go_wp2_with fail
        refine (iPartPoly p f L n _ (HKL.out.g (by simp))).mono ?_
        rintro e w8 ⟨gv, rfl, ho, hb⟩
        rw [HF.out.ph] at ho
        have HK8 := Lib.hid ((HKL.out.on hb).add ho.trms)
        clear ho hb HKL
        go_wp2_with fail
        refine (acP _ f L w8 (HK8.out.g (by simp)) (HK8.out.g (by simp))).mono ?_
        rintro e w9 ⟨rfl, hb⟩
        have HK9 := Lib.hid (HK8.out.on hb)
        clear hb HK8
        obtain ⟨_, fa, fc, rfl, _⟩ := HK9.out.g (v := f) (L := L) (by simp)
        obtain ⟨_, ga, gc, rfl, _⟩ := HK9.out.g (v := gv) (L := H) (by simp)
        obtain ⟨_, ha, hc, rfl, _⟩ := HK9.out.g (v := hv) (L := P) (by simp)
        clear hn
        have hfin : (decide (0 < H.length) == decide (0 < L.length)) = true := by
          by_cases hL0 : L = []
          · rw [HF.out.hi.1 hL0, hL0]; rfl
          · have hH0 : H ≠ [] := fun e => hL0 (HF.out.hi.2 e)
            have l1 : L.length ≠ 0 := fun e => hL0 (List.length_eq_zero_iff.1 e)
            have l2 : H.length ≠ 0 := fun e => hH0 (List.length_eq_zero_iff.1 e)
            rw [decide_eq_true (by omega), decide_eq_true (by omega)]; rfl
        have HFin := Lib.hid hfin
        clear hfin
        by_cases hP0 : P = []
        · have b0 : ((P.length : Int) == 0) = true := by rw [hP0]; rfl
          clear hP0
          go_wp2_with fail
          go_ret
          exact ⟨ret_bool HFin.out, HK9.out.low⟩
        · have b0 : ((P.length : Int) == 0) = false := by
            have : P.length ≠ 0 := fun e => hP0 (List.length_eq_zero_iff.1 e)
            simp; omega
          have HPD := Lib.hid (HF.out.pd hP0)
          have hkk : (k == k) = true := by simp
          clear hP0
          go_wp2_with fail
          refine (iDegreeOf p _ P w9 (HK9.out.g (by simp))).mono ?_
          rw [HPD.out]
          rintro e w10 ⟨rfl, hb⟩
          have HK10 := Lib.hid (HK9.out.on hb)
          clear hb HK9
          go_wp2_with fail
          go_ret
          exact ⟨ret_bool HFin.out, HK10.out.low⟩
set_option maxHeartbeats 2000000 in
theorem wPartPoly (a : Option Addr) (len cap : Nat) (w : World) (h : ByteRow w a len cap) :
    Calls Try.prog 7 #[.slice a len cap] w fun e w' => e = .returned (.bool true) ∧ Below w.heap.size w w' := by
  by_cases hl : len ≤ 1048576
  · exact wPartPoly_in a len cap w h hl
  · have hp : (1048576 : Int) < (len : Int) := by omega
    have h1 := Nat.le_trans h.1 h.2.1
    clear h
    go_enter Try.func7, Try.ntmps7
    go_wp2_with fail
    go_ret
    exact ⟨rfl, Below.refl _ _⟩
end Go.Proofs.Ytegkcfinklcglaa
