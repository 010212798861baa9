/-
  l11Divide of the model, and where the rest lies: in the first slice or in memory of its own. Conditions: what the slices hold is known.
  What Euclid's rows keep in their boxes: slices that read as numbers away from some blocks, boxes of three slices. Conditions: none.
  MulLine of both. Conditions: what the slices hold is known.
  DivideLine of both: the program finds out by a panic that the divisor is 0, and recovers. Conditions: what the slices hold is known.
  Marks in two results of a law, the second one above the first one. Conditions: none.
-/
import Derived.Test.YtfmpcniehgipfaaBf15
import Derived.Test.YtfmpcniehgipfaaBf4
import Derived.Test.YtfmpcniehgipfaaBf14
import Derived.Test.YtfmpcniehgipfaaBf13
import Derived.Test.YtfmpcniehgipfaaBf7
import Derived.Recover
namespace Go.Proofs.Ytfmpcniehgipfaa
set_option linter.unusedVariables false
open Go.RowKit
/-- a slice lies in new memory or in the block of another one -/
def SrcV (B : Nat) (v1 f : Value) : Prop := ∀ g off n c, f = .slice (some ⟨g, off, none⟩) n c → B ≤ g ∨ ∃ o n' c', v1 = .slice (some ⟨g, o, none⟩) n' c'
set_option maxRecDepth 100000 in
set_option maxHeartbeats 8000000 in
theorem sDivideF (p : Int) (v1 v2 : Value) (L1 L2 : List Int) (w : World) (hp : isP p = true) (h1 : Ints w v1 L1) (h2 : Ints w v2 L2) (hE1 : AllE p L1) (hE2 : AllE p L2) (hc1 : Can L1) (hc2 : Can L2) (hl1 : L1.length ≤ 50) (hl2 : L2.length ≤ 50) (h20 : 0 < L2.length) :
    Calls Try.prog 74 #[.int .i64 p, v1, v2] w fun e w' => ∃ u r, e = .returned (.tuple #[u, r]) ∧ RowN w' w.heap.size u (divQ p L1 L2 (ivL p L2)) ∧ Ints w' r (divR p L1 L2 (ivL p L2)) ∧ Below w.heap.size w w' ∧ (divR p L1 L2 (ivL p L2) = [] ∨ SrcV w.heap.size v1 r) := by
  obtain ⟨q1, q2⟩ := isP_bd hp
  obtain ⟨i0, hi, hz0, hz1, hz2⟩ := info_parts infoN
  have hiv := iv_ok hp hc2 hE2 h20
  have hlast := can_last hc2 hE2 h20
  have HIVC := Lib.hid (fun w => sInvV p (cf L2 (L2.length - 1)) w hp (by omega) hlast.2)
  have HL0 := Lib.hid (dvL_zero (p := p) (g := L2) (iv := ivL p L2) hc1)
  have HQC := Lib.hid (divQ_can (iv := ivL p L2) hp hc1 hE1 hiv)
  have HST := Lib.hid (fun d q (hd : d ≤ dvN L1 L2) (hq : (dvL p L1 L2 (ivL p L2) d).length = L2.length + q) => div_step (show 1 < p by omega) hE1 hiv hd hq)
  have HSTOP := Lib.hid (fun d (hd : d ≤ dvN L1 L2) (hs : (dvL p L1 L2 (ivL p L2) d).length < L2.length) => div_stop (show 1 < p by omega) hE1 hiv hd hs)
  have HLLEN := Lib.hid (fun d (hd : d ≤ dvN L1 L2) => show (dvL p L1 L2 (ivL p L2) d).length ≤ 50 from by
    have h := trim_len (lsU L1.length (dvU p L1 L2 (ivL p L2) (dvN L1 L2) d))
    rw [lsU_len] at h
    exact Nat.le_trans h hl1)
  have HLT0 := Lib.hid (fun d (hd : d ≤ dvN L1 L2) => dvL_len (show 1 < p by omega) hE1 hiv hd)
  have HLE := Lib.hid (fun d (hd : d ≤ dvN L1 L2) => dvL_allE (show 1 < p by omega) hE1 hiv hd)
  have HQB := Lib.hid (fun q => dvQ_bd (show 0 < p by omega) L1 L2 (ivL p L2) (dvN L1 L2) q)
  have HIVB := Lib.hid (show 0 ≤ ivL p L2 ∧ ivL p L2 < p from hiv.2.2)
  have HP := Lib.hid hp
  have HE2 := Lib.hid hE2
  have HG1 := Lib.hid h1
  have HG2 := Lib.hid h2
  obtain ⟨n, hn⟩ : ∃ n, n = dvN L1 L2 := ⟨_, rfl⟩
  have hn50 : n ≤ 50 := by unfold dvN at hn; omega
  have HNN := Lib.hid hn
  obtain ⟨_, a1, cap1, rfl, _⟩ := h1
  obtain ⟨_, a2, cap2, rfl, _⟩ := h2
  obtain ⟨g2, off2, rfl, hg2, hcc⟩ := HG2.out.cell h20
  obtain ⟨m2, hm2⟩ : ∃ m2, L2.length = m2 + 1 := ⟨L2.length - 1, by omega⟩
  have hlc := hcc m2 (by omega)
  have HLC := Lib.hid (show cf L2 m2 = cf L2 (L2.length - 1) from by rw [show L2.length - 1 = m2 by omega])
  obtain ⟨z2, hz2'⟩ : ∃ z2, z2 = cf L2 m2 := ⟨_, rfl⟩
  have HIV2 := Lib.hid (show ∀ w, Calls Try.prog 81 #[.int .i64 p, .int .i64 z2] w fun e w' => e = .returned (.int .i64 (ivL p L2)) ∧ w = w' from by
    intro w
    have := HIVC.out w
    rw [hz2', HLC.out]
    exact this)
  rw [← hz2'] at hlc
  obtain ⟨iv, hivv⟩ : ∃ iv, iv = ivL p L2 := ⟨_, rfl⟩
  rw [← hivv] at HIV2 HL0 HQC HST HSTOP HLLEN HLT0 HLE HQB HIVB ⊢
  have HLT := Lib.hid (fun d (hd : d ≤ dvN L1 L2) => show (dvL p L1 L2 iv d).length ≤ dvN L1 L2 - d + (L2.length - 1) from HLT0.out d hd)
  obtain ⟨H, hH⟩ : ∃ H, H = w.heap.size := ⟨_, rfl⟩
  have HHH := Lib.hid hH
  have HNE1 := Lib.hid (show L1 = [] ∨ (BlkNe (.slice a1 L1.length cap1) H ∧ SrcV w.heap.size (.slice a1 L1.length cap1) (.slice a1 L1.length cap1)) from by
    rcases HG1.out.rd with h | ⟨g, off, ha, hg, _⟩
    · exact .inl h
    · refine .inr ⟨fun g' off' n' c' e => ?_, fun g' off' n' c' e => .inr ⟨off', n', c', e⟩⟩
      simp only [Value.slice.injEq] at e
      rw [ha] at e
      have : g' = g := by have := e.1; simp at this; exact this.1.symm
      omega)
  have hwi1 : IntKind.i64.wrap ((L1.length : Int) - (L2.length : Int)) = (L1.length : Int) - (L2.length : Int) := IntWalk.i64_in _ (by omega)
  have hwi2 : IntKind.i64.wrap ((L1.length : Int) - (L2.length : Int) + 1) = (L1.length : Int) - (L2.length : Int) + 1 := IntWalk.i64_in _ (by omega)
  have hsub2 : (L2.length : Int) - 1 = (m2 : Int) := by omega
  have hm20 : (0 : Int) ≤ (m2 : Int) := by omega
  have hm2lt : (m2 : Int) < (L2.length : Int) := by omega
  have HM2 := Lib.hid hm2
  have hmaxn : (0 ≤ (L1.length : Int) - (L2.length : Int) + 1 ∧ (L1.length : Int) - (L2.length : Int) + 1 = (n : Int)) ∨ (¬ 0 ≤ (L1.length : Int) - (L2.length : Int) + 1 ∧ n = 0) := by
    unfold dvN at hn; omega
  clear hp hE1 hE2 hc1 hc2 hiv hlast HIVC hcc hz2' hivv hm2 HLC hn
  rcases hmaxn with ⟨hge, hneq⟩ | ⟨hlt, hn0⟩
  · skip
    go_enter Try.func74, Try.ntmps74
    go_wp2_with (at_make; refine wpList_make_full _ rfl _ _ 22 rfl w.heap.size 3 i0 (.int .i64 0) 1 Try.underlying22 hi hz0 hz1 .i64 .i64 ((n : Int)) ((n : Int)) n rfl rfl rfl rfl ?c2 ?c3 ?c4 ?_)
    case c2 => rw [hz2]; omega
    case c3 => unfold maxLen; omega
    case c4 => exact Nat.le_refl _
    rw [← hH]
    intro w2 hown hgr
    have HR0 := Lib.hid (show RowN w2 w.heap.size (.slice (some ⟨H, 0, none⟩) n n) (dvO p L1 L2 iv 0) from by rw [dvO_zero, ← HNN.out, ← hH]; exact rowN_make hown)
    have HB2 := Lib.hid (show Below w.heap.size w w2 from (Below.refl w.heap.size w).grown hgr (Nat.le_refl _) (fun k hk => by cases hk))
    have hlc2 : w2.cell? ⟨g2, off2 + m2, none⟩ = some (.int .i64 z2) := (HB2.out.cell (p := ⟨g2, off2 + m2, none⟩) hg2).trans hlc
    have HGI := Lib.hid (HG1.out.below (show Below w.heap.size w w2 from HB2.out))
    clear hown hgr hH
    go_wp2_with fail
    refine (HIV2.out _).mono ?_
    rintro e w3 ⟨rfl, rfl⟩
    go_wp2_with fail
    clear hlc2
    go_loopw [1] (fun f wr => ∃ d : Nat, d ≤ n ∧ Ints wr f (dvL p L1 L2 iv d) ∧ (dvL p L1 L2 iv d = [] ∨ (BlkNe f H ∧ SrcV w.heap.size (.slice a1 L1.length cap1) f)) ∧ RowN wr w.heap.size (.slice (some ⟨H, 0, none⟩) n n) (dvO p L1 L2 iv d) ∧ Below w.heap.size w wr) (fun f _ => lenV f)
    case atStart => exact ⟨0, by omega, by rw [HL0.out]; exact HGI.out, by rw [HL0.out]; exact HNE1.out, HR0.out, HB2.out⟩
    case round =>
      clear HR0 HGI HB2
      obtain ⟨d, hd, hf, hne, hr, hb⟩ := hrel
      have HNE := Lib.hid hne
      clear hne
      have HF := Lib.hid hf
      have HR := Lib.hid hr
      have HB := Lib.hid hb
      have hd2 : d ≤ dvN L1 L2 := by rw [← HNN.out]; exact hd
      have hml := HLLEN.out d hd2
      obtain ⟨m, hm⟩ : ∃ m, m = (dvL p L1 L2 iv d).length := ⟨_, rfl⟩
      obtain ⟨_, af, cf', rfl, _⟩ := hf
      rw [← hm] at HF hml ⊢
      have HM := Lib.hid hm
      clear hr hb hm
      by_cases hge2 : L2.length ≤ m
      · obtain ⟨q, hq⟩ : ∃ q, m = L2.length + q := ⟨m - L2.length, by omega⟩
        obtain ⟨s1, s2, s3, s4⟩ := HST.out d q hd2 (by rw [← HM.out]; exact hq)
        obtain ⟨gf, offf, rfl, hgf, hcf⟩ := (show Ints wr (.slice af (dvL p L1 L2 iv d).length cf') (dvL p L1 L2 iv d) from by rw [← HM.out]; exact HF.out).cell (by rw [← HM.out]; omega)
        have hcx := hcf (L2.length + q - 1) (by rw [← HM.out]; omega)
        have hxb := HLE.out d hd2 (L2.length + q - 1)
        obtain ⟨x, hx⟩ : ∃ x, x = cf (dvL p L1 L2 iv d) (L2.length + q - 1) := ⟨_, rfl⟩
        rw [← hx] at hcx hxb s2
        obtain ⟨t, ht⟩ : ∃ t, t = dvQ p L1 L2 iv (dvN L1 L2) q := ⟨_, rfl⟩
        have htb := HQB.out q
        rw [← ht] at s2 s3 s4 htb
        have HL2 := Lib.hid (fun w' (hbb : Below wr.heap.size wr w') (hh : Ints w' (.slice (some ⟨gf, offf, none⟩) m cf') (dvL p L1 L2 iv d)) (hg : Ints w' (.slice (some ⟨g2, off2, none⟩) L2.length cap2) L2) => sLess p t q _ _ (dvL p L1 L2 iv d) L2 w' HP.out hh hg (HLE.out d hd2) HE2.out htb.1 htb.2 (by rw [← HM.out]; omega) (by omega) (by omega))
        have HS3 := Lib.hid (show lesL p (dvL p L1 L2 iv d) L2 t q = dvL p L1 L2 iv (n - q) from by unfold lesL; rw [s3, HNN.out])
        rw [HS3.out] at HL2
        have hqn : q < n := by have := HNN.out; omega
        have hqI : (q : Int) < (n : Int) := by omega
        have hq0 : (0 : Int) ≤ (q : Int) := by omega
        have hmgeI : (m : Int) ≥ (L2.length : Int) := by omega
        have hwq : (m : Int) - (L2.length : Int) = (q : Int) := by omega
        have hm1 : (m : Int) - 1 = ((L2.length + q - 1 : Nat) : Int) := by omega
        obtain ⟨r, hrr⟩ : ∃ r, r = L2.length + q - 1 := ⟨_, rfl⟩
        rw [← hrr] at hcx hm1
        have hr0 : (0 : Int) ≤ (r : Int) := by omega
        have hr100 : (r : Int) ≤ 100 := by omega
        have hq100 : (q : Int) ≤ 100 := by omega
        have hrm : (r : Int) < (m : Int) := by omega
        have hxi := mul_bd HP.out hxb.1 hxb.2 HIVB.out.1 HIVB.out.2
        have hw1 : IntKind.i64.wrap (x * iv) = x * iv := IntWalk.i64_in _ (by omega)
        have htm : (x * iv).tmod p = t := by rw [← s2]; exact Int.tmod_eq_emod_of_nonneg (by omega)
        have hpn : ¬ p = 0 := by omega
        have hw3 : IntKind.i64.wrap t = t := IntWalk.i64_in _ (by omega)
        have HLN := Lib.hid (show (dvO p L1 L2 iv d).length = n from by unfold dvO; rw [lsU_len]; exact HNN.out.symm)
        have HN := Lib.hid (show (dvO p L1 L2 iv d).set q t = dvO p L1 L2 iv (n - q) from by rw [s4, HNN.out])
        have HRR := Lib.hid (show RowN wr w.heap.size (.slice (some ⟨H, 0, none⟩) (dvO p L1 L2 iv d).length n) (dvO p L1 L2 iv d) from by rw [HLN.out]; exact HR.out)
        have hHs := (HRR.out.lt H rfl).2
        obtain ⟨x0, e0⟩ : ∃ x0, wr.cell? ⟨H, q, none⟩ = some x0 := ⟨_, HRR.out.cell (by rw [HLN.out]; omega)⟩
        have f0 := HRR.out.froz rfl q
        obtain ⟨Ws, hWs⟩ : ∃ Ws, Ws = wr.setCell ⟨H, q, none⟩ (.int .i64 t) := ⟨_, rfl⟩
        have HRS := Lib.hid (show RowN Ws w.heap.size (.slice (some ⟨H, 0, none⟩) n n) (dvO p L1 L2 iv (n - q)) from by
          have := HRR.out.set q t
          rw [HN.out, HLN.out, ← hWs] at this
          exact this)
        have HBS := Lib.hid (show Below w.heap.size w Ws from by rw [hWs]; exact HB.out.setCell (by rw [HHH.out]; exact Nat.le_refl _) _)
        have hcS : Ws.cell? ⟨H, q, none⟩ = some (.int .i64 t) := by rw [hWs]; exact World.cell?_setCell_same _ _ _ e0
        have hgne : gf ≠ H := (HNE.out.resolve_left (fun e => by have := HM.out; rw [e] at this; simp at this; omega)).1 gf offf _ cf' rfl
        have hFS : Ints Ws (.slice (some ⟨gf, offf, none⟩) m cf') (dvL p L1 L2 iv d) := by
          refine ⟨by rw [← HM.out]; omega, _, cf', by rw [← HM.out], .inr ⟨gf, offf, rfl, by rw [hWs]; simpa using hgf, fun j hj => ?_⟩⟩
          rw [hWs, World.cell?_setCell_other _ _ _ _ (fun e => hgne (congrArg Addr.block e).symm)]
          exact hcf j hj
        have HFS := Lib.hid hFS
        have hGS : Below w.heap.size w Ws := HBS.out
        have HFL := Lib.hid (sLess p t q _ _ (dvL p L1 L2 iv d) L2 Ws HP.out hFS (HG2.out.below hGS) (HLE.out d hd2) HE2.out htb.1 htb.2 (by rw [← HM.out]; omega) (by omega) (by omega))
        rw [HS3.out] at HFL
        have HWS := Lib.hid hWs
        clear hcf hx ht s1 s2 s3 s4 hrr hxi htb hxb hFS hGS hq hd2 hml hgne
        go_wp2_with fail
        rw [← HWS.out]
        go_wp2_with fail
        refine HFL.out.mono ?_
        rintro e w5 ⟨u5, rfl, hu5, hb5⟩
        have hlf : (dvL p L1 L2 iv (n - q)).length ≤ 50 := HLLEN.out _ (by have := HNN.out; omega)
        obtain ⟨a5, c5, rfl⟩ := hu5.form
        have H5 := Lib.hid (show Ints w5 (.slice a5 (dvL p L1 L2 iv (n - q)).length c5) (dvL p L1 L2 iv (n - q)) ∧ (dvL p L1 L2 iv (n - q) = [] ∨ (BlkNe (.slice a5 (dvL p L1 L2 iv (n - q)).length c5) H ∧ SrcV w.heap.size (.slice a1 L1.length cap1) (.slice a5 (dvL p L1 L2 iv (n - q)).length c5))) ∧ RowN w5 w.heap.size (.slice (some ⟨H, 0, none⟩) n n) (dvO p L1 L2 iv (n - q)) ∧ Below w.heap.size w w5 from by
          refine ⟨(hu5.ilr (by omega)).ints, .inr ⟨fun g' off' n' c' e => ?_, fun g' off' n' c' e => .inl ?_⟩, HRS.out.below hb5, HBS.out.trans (hb5.mono HBS.out.size)⟩
          · simp only [Value.slice.injEq] at e
            have h1 := (World.ownsRow.lt hu5 g' (by rw [e.1]; rfl)).1
            have h2 := (World.ownsRow.lt HRS.out H rfl).2
            omega
          · simp only [Value.slice.injEq] at e
            have h1 := (World.ownsRow.lt hu5 g' (by rw [e.1]; rfl)).1
            have h2 := HBS.out.size
            omega)
        have hlt5 : (dvL p L1 L2 iv (n - q)).length < m := by
          have h1 := HLT.out (n - q) (by have := HNN.out; omega)
          have h2 := HNN.out
          omega
        clear hu5 hb5 hlf
        go_wp2_with fail
        go_roundw
        case rel => exact ⟨n - q, by omega, H5.out⟩
        case measure => simp [lenV]; omega
      · obtain ⟨s1, s2⟩ := HSTOP.out d hd2 (by rw [← HM.out]; omega)
        have hnl : ¬ (m : Int) ≥ (L2.length : Int) := by omega
        rw [s2] at HR
        have HS1 := Lib.hid s1
        clear s1 s2 hd2 hml
        have HDQ := Lib.hid (show (divQ p L1 L2 iv).length = n from by rw [divQ_len]; exact HNN.out.symm)
        have HT := Lib.hid (sTrim _ _ wr (HR.out.ilr (by rw [HDQ.out]; omega)) (by rw [HDQ.out]; omega))
        rw [trim_of HQC.out] at HT
        have HF2 := Lib.hid (show Ints wr (.slice af m cf') (divR p L1 L2 iv) from by rw [← HS1.out]; exact HF.out)
        go_wp2_with fail
        refine HT.out.mono ?_
        rintro e w5 ⟨u5, rfl, hu5, hb5⟩
        have H5 := Lib.hid (show RowN w5 w.heap.size u5 (divQ p L1 L2 iv) ∧ Ints w5 (.slice af m cf') (divR p L1 L2 iv) ∧ Below w.heap.size w w5 ∧ (divR p L1 L2 iv = [] ∨ SrcV w.heap.size (.slice a1 L1.length cap1) (.slice af m cf')) from ⟨hu5.base HB.out.size, HF2.out.below hb5, HB.out.trans (hb5.mono HB.out.size), by rw [← HS1.out, HM.out]; exact HNE.out.imp id And.right⟩)
        clear hu5 hb5
        go_wp2_with fail
        refine bodyPost_ret (v := .tuple #[u5, .slice af m cf']) (by simp [results, Try.results74, go_sem]) rfl ⟨_, _, rfl, H5.out⟩
  · subst hn0
    go_enter Try.func74, Try.ntmps74
    go_wp2_with (at_make; refine wpList_make_full _ rfl _ _ 22 rfl w.heap.size 3 i0 (.int .i64 0) 1 Try.underlying22 hi hz0 hz1 .i64 .i64 (0) (0) 0 rfl rfl rfl rfl ?c2 ?c3 ?c4 ?_)
    rw [← hH]
    intro w2 hown hgr
    have HR0 := Lib.hid (show RowN w2 w.heap.size (.slice (some ⟨H, 0, none⟩) 0 0) (dvO p L1 L2 iv 0) from by rw [dvO_zero, ← HNN.out, ← hH]; exact rowN_make hown)
    have HB2 := Lib.hid (show Below w.heap.size w w2 from (Below.refl w.heap.size w).grown hgr (Nat.le_refl _) (fun k hk => by cases hk))
    have hlc2 : w2.cell? ⟨g2, off2 + m2, none⟩ = some (.int .i64 z2) := (HB2.out.cell (p := ⟨g2, off2 + m2, none⟩) hg2).trans hlc
    have HGI := Lib.hid (HG1.out.below (show Below w.heap.size w w2 from HB2.out))
    clear hown hgr hH
    go_wp2_with fail
    refine (HIV2.out _).mono ?_
    rintro e w3 ⟨rfl, rfl⟩
    go_wp2_with fail
    clear hlc2
    go_loopw [1] (fun f wr => ∃ d : Nat, d ≤ 0 ∧ Ints wr f (dvL p L1 L2 iv d) ∧ (dvL p L1 L2 iv d = [] ∨ (BlkNe f H ∧ SrcV w.heap.size (.slice a1 L1.length cap1) f)) ∧ RowN wr w.heap.size (.slice (some ⟨H, 0, none⟩) 0 0) (dvO p L1 L2 iv d) ∧ Below w.heap.size w wr) (fun f _ => lenV f)
    case atStart => exact ⟨0, by omega, by rw [HL0.out]; exact HGI.out, by rw [HL0.out]; exact HNE1.out, HR0.out, HB2.out⟩
    case round =>
      clear HR0 HGI HB2
      obtain ⟨d, hd, hf, hne, hr, hb⟩ := hrel
      have HNE := Lib.hid hne
      clear hne
      have HF := Lib.hid hf
      have HR := Lib.hid hr
      have HB := Lib.hid hb
      have hd2 : d ≤ dvN L1 L2 := by rw [← HNN.out]; exact hd
      have hml := HLLEN.out d hd2
      obtain ⟨m, hm⟩ : ∃ m, m = (dvL p L1 L2 iv d).length := ⟨_, rfl⟩
      obtain ⟨_, af, cf', rfl, _⟩ := hf
      rw [← hm] at HF hml ⊢
      have HM := Lib.hid hm
      clear hr hb hm
      by_cases hge2 : L2.length ≤ m
      · obtain ⟨q, hq⟩ : ∃ q, m = L2.length + q := ⟨m - L2.length, by omega⟩
        obtain ⟨s1, s2, s3, s4⟩ := HST.out d q hd2 (by rw [← HM.out]; exact hq)
        exact absurd s1 (by have := HNN.out; omega)
      · obtain ⟨s1, s2⟩ := HSTOP.out d hd2 (by rw [← HM.out]; omega)
        have hnl : ¬ (m : Int) ≥ (L2.length : Int) := by omega
        rw [s2] at HR
        have HS1 := Lib.hid s1
        clear s1 s2 hd2 hml
        have HDQ := Lib.hid (show (divQ p L1 L2 iv).length = 0 from by rw [divQ_len]; exact HNN.out.symm)
        have HT := Lib.hid (sTrim _ _ wr (HR.out.ilr (by rw [HDQ.out]; omega)) (by rw [HDQ.out]; omega))
        rw [trim_of HQC.out] at HT
        have HF2 := Lib.hid (show Ints wr (.slice af m cf') (divR p L1 L2 iv) from by rw [← HS1.out]; exact HF.out)
        go_wp2_with fail
        refine HT.out.mono ?_
        rintro e w5 ⟨u5, rfl, hu5, hb5⟩
        have H5 := Lib.hid (show RowN w5 w.heap.size u5 (divQ p L1 L2 iv) ∧ Ints w5 (.slice af m cf') (divR p L1 L2 iv) ∧ Below w.heap.size w w5 ∧ (divR p L1 L2 iv = [] ∨ SrcV w.heap.size (.slice a1 L1.length cap1) (.slice af m cf')) from ⟨hu5.base HB.out.size, HF2.out.below hb5, HB.out.trans (hb5.mono HB.out.size), by rw [← HS1.out, HM.out]; exact HNE.out.imp id And.right⟩)
        clear hu5 hb5
        go_wp2_with fail
        refine bodyPost_ret (v := .tuple #[u5, .slice af m cf']) (by simp [results, Try.results74, go_sem]) rfl ⟨_, _, rfl, H5.out⟩
end Go.Proofs.Ytfmpcniehgipfaa
namespace Go.Proofs.Ytfmpcniehgipfaa
set_option linter.unusedVariables false
open Go.RowKit
/-- a slice that reads as numbers, in a block that is none of some -/
def Off (K : Nat → Prop) (w : World) (v : Value) (L : List Int) : Prop :=
  L.length ≤ 1000 ∧ ∃ a cap, v = .slice a L.length cap ∧ (L = [] ∨ ∃ g off, a = some ⟨g, off, none⟩ ∧ ¬ K g ∧ g < w.heap.size ∧ ∀ j, j < L.length → w.cell? ⟨g, off + j, none⟩ = some (.int .i64 (L.getD j 0)))
theorem Off.ints {K : Nat → Prop} {w : World} {v : Value} {L : List Int} (h : Off K w v L) : Ints w v L := by
  obtain ⟨h1, a, cap, hv, h2⟩ := h
  refine ⟨by omega, a, cap, hv, ?_⟩
  rcases h2 with h2 | ⟨g, off, ha, _, hg, hc⟩
  · exact .inl h2
  · exact .inr ⟨g, off, ha, hg, hc⟩
theorem Off.form {K : Nat → Prop} {w : World} {v : Value} {L : List Int} (h : Off K w v L) : ∃ a c, v = .slice a L.length c := by
  obtain ⟨_, a, cap, hv, _⟩ := h
  exact ⟨a, cap, hv⟩
theorem Off.below {K : Nat → Prop} {w w' : World} {v : Value} {L : List Int} (h : Off K w v L) (hb : Below w.heap.size w w') : Off K w' v L := by
  obtain ⟨h1, a, cap, hv, h2⟩ := h
  refine ⟨h1, a, cap, hv, ?_⟩
  rcases h2 with h2 | ⟨g, off, ha, hk, hg, hc⟩
  · exact .inl h2
  · exact .inr ⟨g, off, ha, hk, Nat.lt_of_lt_of_le hg hb.size, fun j hj => (hb.cell (p := ⟨g, off + j, none⟩) hg).trans (hc j hj)⟩
theorem Off.mono {K K' : Nat → Prop} {w : World} {v : Value} {L : List Int} (h : Off K w v L) (hk : ∀ g, K' g → K g) : Off K' w v L := by
  obtain ⟨h1, a, cap, hv, h2⟩ := h
  refine ⟨h1, a, cap, hv, ?_⟩
  rcases h2 with h2 | ⟨g, off, ha, h3, hg, hc⟩
  · exact .inl h2
  · exact .inr ⟨g, off, ha, fun e => h3 (hk g e), hg, hc⟩
theorem Off.setCell {K : Nat → Prop} {w : World} {v u : Value} {L : List Int} {n i : Nat} (h : Off K w v L) (hn : K n) : Off K (w.setCell ⟨n, i, none⟩ u) v L := by
  obtain ⟨h1, a, cap, hv, h2⟩ := h
  refine ⟨h1, a, cap, hv, ?_⟩
  rcases h2 with h2 | ⟨g, off, ha, hk, hg, hc⟩
  · exact .inl h2
  · refine .inr ⟨g, off, ha, hk, by simpa using hg, fun j hj => ?_⟩
    rw [World.cell?_setCell_other _ _ _ _ (fun e => hk (by have := congrArg Addr.block e; simp at this; rw [← this]; exact hn))]
    exact hc j hj
theorem Off.past {K : Nat → Prop} {w : World} {v : Value} {L : List Int} (h : Off K w v L) : Off (fun g => K g ∨ w.heap.size ≤ g) w v L := by
  obtain ⟨h1, a, cap, hv, h2⟩ := h
  refine ⟨h1, a, cap, hv, ?_⟩
  rcases h2 with h2 | ⟨g, off, ha, hk, hg, hc⟩
  · exact .inl h2
  · exact .inr ⟨g, off, ha, fun e => e.elim hk (fun e => by omega), hg, hc⟩
theorem Ints.off {w : World} {v : Value} {L : List Int} (h : Ints w v L) (hl : L.length ≤ 1000) {K : Nat → Prop} (hK : ∀ g, g < w.heap.size → ¬ K g) : Off K w v L := by
  obtain ⟨_, a, cap, hv, h2⟩ := h
  refine ⟨hl, a, cap, hv, ?_⟩
  rcases h2 with h2 | ⟨g, off, ha, hg, hc⟩
  · exact .inl h2
  · exact .inr ⟨g, off, ha, hK g hg, hg, hc⟩
theorem RowN.off {w : World} {B : Nat} {v : Value} {L : List Int} (h : RowN w B v L) (hl : L.length ≤ 1000) {K : Nat → Prop} (hK : ∀ g, B ≤ g → g < w.heap.size → ¬ K g) : Off K w v L := by
  rcases h.shape with ⟨rfl, rfl⟩ | ⟨g, cap, rfl, hb, hg, hn, hm⟩
  · exact ⟨by simp, _, _, rfl, .inl rfl⟩
  · exact ⟨hl, _, cap, rfl, .inr ⟨g, 0, rfl, hK g hb hg, hg, fun j hj => by rw [Nat.zero_add]; exact h.cell hj⟩⟩
/-- a box of three values that may be written -/
structure Bx3 (w : World) (R : Nat) (x y z : Value) : Prop where
  c0 : w.cell? ⟨R, 0, none⟩ = some x
  c1 : w.cell? ⟨R, 1, none⟩ = some y
  c2 : w.cell? ⟨R, 2, none⟩ = some z
  f0 : w.frozen? ⟨R, 0, none⟩ = false
  f1 : w.frozen? ⟨R, 1, none⟩ = false
  f2 : w.frozen? ⟨R, 2, none⟩ = false
  sz : R < w.heap.size
theorem Bx3.below {w w' : World} {R : Nat} {x y z : Value} (h : Bx3 w R x y z) (hb : Below w.heap.size w w') : Bx3 w' R x y z :=
  ⟨(hb.cell (p := ⟨R, 0, none⟩) h.sz).trans h.c0, (hb.cell (p := ⟨R, 1, none⟩) h.sz).trans h.c1, (hb.cell (p := ⟨R, 2, none⟩) h.sz).trans h.c2,
   (hb.frozen (p := ⟨R, 0, none⟩) h.sz).trans h.f0, (hb.frozen (p := ⟨R, 1, none⟩) h.sz).trans h.f1, (hb.frozen (p := ⟨R, 2, none⟩) h.sz).trans h.f2, Nat.lt_of_lt_of_le h.sz hb.size⟩
theorem Bx3.other {w : World} {R n i : Nat} {x y z u : Value} (h : Bx3 w R x y z) (hn : n ≠ R) : Bx3 (w.setCell ⟨n, i, none⟩ u) R x y z := by
  have ne : ∀ d, (⟨n, i, none⟩ : Addr) ≠ ⟨R, d, none⟩ := fun d e => hn (congrArg Addr.block e)
  exact ⟨by rw [World.cell?_setCell_other _ _ _ _ (ne _)]; exact h.c0, by rw [World.cell?_setCell_other _ _ _ _ (ne _)]; exact h.c1, by rw [World.cell?_setCell_other _ _ _ _ (ne _)]; exact h.c2,
    by rw [World.frozen?_setCell]; exact h.f0, by rw [World.frozen?_setCell]; exact h.f1, by rw [World.frozen?_setCell]; exact h.f2, by simpa using h.sz⟩
theorem Bx3.put {w : World} {R : Nat} {x y z : Value} (h : Bx3 w R x y z) (a b c : Value) : Bx3 (((w.setCell ⟨R, 0, none⟩ a).setCell ⟨R, 1, none⟩ b).setCell ⟨R, 2, none⟩ c) R a b c := by
  have n01 : (⟨R, 1, none⟩ : Addr) ≠ ⟨R, 0, none⟩ := fun e => by have := congrArg Addr.off e; simp at this
  have n02 : (⟨R, 2, none⟩ : Addr) ≠ ⟨R, 0, none⟩ := fun e => by have := congrArg Addr.off e; simp at this
  have n12 : (⟨R, 2, none⟩ : Addr) ≠ ⟨R, 1, none⟩ := fun e => by have := congrArg Addr.off e; simp at this
  have e1 : (w.setCell ⟨R, 0, none⟩ a).cell? ⟨R, 1, none⟩ = some y := by rw [World.cell?_setCell_other _ _ _ _ n01.symm]; exact h.c1
  have e2 : ((w.setCell ⟨R, 0, none⟩ a).setCell ⟨R, 1, none⟩ b).cell? ⟨R, 2, none⟩ = some z := by
    rw [World.cell?_setCell_other _ _ _ _ n12.symm, World.cell?_setCell_other _ _ _ _ n02.symm]; exact h.c2
  refine ⟨?_, ?_, World.cell?_setCell_same _ _ _ e2, ?_, ?_, ?_, by simpa using h.sz⟩
  · rw [World.cell?_setCell_other _ _ _ _ n02, World.cell?_setCell_other _ _ _ _ n01]; exact World.cell?_setCell_same _ _ _ h.c0
  · rw [World.cell?_setCell_other _ _ _ _ n12]; exact World.cell?_setCell_same _ _ _ e1
  · simp only [World.frozen?_setCell]; exact h.f0
  · simp only [World.frozen?_setCell]; exact h.f1
  · simp only [World.frozen?_setCell]; exact h.f2
/-- three slices that read as numbers, in a box -/
def TriB (K : Nat → Prop) (w : World) (R : Nat) (x y z : Value) (T : Tri) : Prop := Bx3 w R x y z ∧ Off K w x T.a ∧ Off K w y T.b ∧ Off K w z T.c
theorem TriB.below {K : Nat → Prop} {w w' : World} {R : Nat} {x y z : Value} {T : Tri} (h : TriB K w R x y z T) (hb : Below w.heap.size w w') : TriB K w' R x y z T :=
  ⟨h.1.below hb, h.2.1.below hb, h.2.2.1.below hb, h.2.2.2.below hb⟩
end Go.Proofs.Ytfmpcniehgipfaa
namespace Go.Proofs.Ytfmpcniehgipfaa
set_option linter.unusedVariables false
open Go.RowKit
def mlB (p : Int) (L1 L2 : List Int) : Bool := lineB p L1 && (lineB p L2 && decide ((mlU p L1 L2).length ≤ 10))
def mlV (p : Int) (L1 L2 : List Int) : List Int := if mlB p L1 L2 = true then mlU p L1 L2 else []
/-- a call hands back numbers of its own, and a truth value -/
def GivesIB (R : List Int) (b : Bool) (w : World) (e : Ending) (w' : World) : Prop := ∃ v, e = .returned (.tuple #[v, .bool b]) ∧ OwnInts w' w.heap.size v R ∧ Below w.heap.size w w'
set_option maxRecDepth 100000 in
set_option maxHeartbeats 4000000 in
theorem sMulLine (p : Int) (v1 v2 : Value) (L1 L2 : List Int) (w : World) (h1 : Ints w v1 L1) (h2 : Ints w v2 L2) (hl1 : L1.length ≤ 1048576) (hl2 : L2.length ≤ 1048576) :
    Calls Try.prog 26 #[.int .i64 p, v1, v2] w (GivesIB (mlV p L1 L2) (mlB p L1 L2) w) := by
  have HV1 := Lib.hid (sLineValid p v1 L1 w h1 hl1)
  have HV2 := Lib.hid (sLineValid p v2 L2 w h2 hl2)
  have HE := Lib.hid (RowN.empty w (Nat.le_refl _))
  have HBE := Lib.hid (show Below w.heap.size w (w.alloc (Obj.cells #[] 3)) from Below.alloc (Below.refl _ _) (Nat.le_refl _) _)
  cases hB1 : lineB p L1
  · have HV := Lib.hid (show mlV p L1 L2 = [] ∧ mlB p L1 L2 = false by unfold mlV mlB; rw [hB1]; exact ⟨rfl, rfl⟩)
    rw [hB1] at HV1
    rw [HV.out.1, HV.out.2]
    clear hB1 h1 h2
    go_enter Try.func26, Try.ntmps26
    go_wp2_with fail
    refine HV1.out.mono ?_
    rintro e w2 ⟨rfl, rfl⟩
    go_wp2_with fail
    refine bodyPost_ret (v := .tuple #[.slice (some ⟨w.heap.size, 0, none⟩) 0 0, .bool false]) (by simp [results, Try.results26, go_sem]) rfl ⟨_, rfl, HE.out.own (by simp), HBE.out⟩
  · cases hB2 : lineB p L2
    · have HV := Lib.hid (show mlV p L1 L2 = [] ∧ mlB p L1 L2 = false by unfold mlV mlB; rw [hB1, hB2]; exact ⟨rfl, rfl⟩)
      rw [hB1] at HV1
      rw [hB2] at HV2
      rw [HV.out.1, HV.out.2]
      clear hB1 hB2 h1 h2
      go_enter Try.func26, Try.ntmps26
      go_wp2_with fail
      refine HV1.out.mono ?_
      rintro e w2 ⟨rfl, rfl⟩
      go_wp2_with fail
      refine HV2.out.mono ?_
      rintro e w2 ⟨rfl, rfl⟩
      go_wp2_with fail
      refine bodyPost_ret (v := .tuple #[.slice (some ⟨w.heap.size, 0, none⟩) 0 0, .bool false]) (by simp [results, Try.results26, go_sem]) rfl ⟨_, rfl, HE.out.own (by simp), HBE.out⟩
    · obtain ⟨hp, e1, l1, k1⟩ := lineB_iff.1 hB1
      obtain ⟨_, e2, l2, k2⟩ := lineB_iff.1 hB2
      have HM := Lib.hid (fun w' (hb : Below w.heap.size w w') => sMulL p v1 v2 L1 L2 w' hp (h1.below hb) (h2.below hb) e1 e2 (by omega) (by omega))
      rw [lmL_eq hp k1 k2 e1 e2] at HM
      have hlen : (mlU p L1 L2).length ≤ 20 := by rw [mlU_len]; split <;> omega
      have HLEN := Lib.hid hlen
      rw [hB1] at HV1
      rw [hB2] at HV2
      by_cases h10 : (mlU p L1 L2).length ≤ 10
      · have HV := Lib.hid (show mlV p L1 L2 = mlU p L1 L2 ∧ mlB p L1 L2 = true by unfold mlV mlB; rw [hB1, hB2]; simp [h10])
        rw [HV.out.1, HV.out.2]
        have hn10 : ¬ ((mlU p L1 L2).length : Int) > 10 := by omega
        obtain ⟨M, hM⟩ : ∃ M, M = mlU p L1 L2 := ⟨_, rfl⟩
        rw [← hM] at HM hn10 HLEN ⊢
        clear hB1 hB2 h1 h2 hM hlen h10 HV hp e1 e2 k1 k2
        go_enter Try.func26, Try.ntmps26
        go_wp2_with fail
        refine HV1.out.mono ?_
        rintro e w2 ⟨rfl, rfl⟩
        go_wp2_with fail
        refine HV2.out.mono ?_
        rintro e w2 ⟨rfl, rfl⟩
        go_wp2_with fail
        refine (HM.out _ (Below.refl _ _)).mono ?_
        rintro e w3 ⟨u3, rfl, hu3, hb3⟩
        obtain ⟨a3, c3, rfl⟩ := (hu3.ilr (by have := HLEN.out; omega)).form
        have HB3 := Lib.hid hb3
        clear hu3 hb3
        go_wp2_with fail
        refine (HM.out _ HB3.out).mono ?_
        rintro e w4 ⟨u4, rfl, hu4, hb4⟩
        have H4 := Lib.hid (show OwnInts w4 w.heap.size u4 M ∧ Below w.heap.size w w4 from ⟨(hu4.base HB3.out.size).own (by have := HLEN.out; omega), HB3.out.trans (hb4.mono HB3.out.size)⟩)
        clear hu4 hb4
        go_wp2_with fail
        refine bodyPost_ret (v := .tuple #[u4, .bool true]) (by simp [results, Try.results26, go_sem]) rfl ⟨_, rfl, H4.out⟩
      · have HV := Lib.hid (show mlV p L1 L2 = [] ∧ mlB p L1 L2 = false by unfold mlV mlB; rw [hB1, hB2]; simp [h10])
        rw [HV.out.1, HV.out.2]
        have hn10 : ((mlU p L1 L2).length : Int) > 10 := by omega
        obtain ⟨M, hM⟩ : ∃ M, M = mlU p L1 L2 := ⟨_, rfl⟩
        rw [← hM] at HM hn10 HLEN
        clear hB1 hB2 h1 h2 hM hlen h10 HV hp e1 e2 k1 k2
        go_enter Try.func26, Try.ntmps26
        go_wp2_with fail
        refine HV1.out.mono ?_
        rintro e w2 ⟨rfl, rfl⟩
        go_wp2_with fail
        refine HV2.out.mono ?_
        rintro e w2 ⟨rfl, rfl⟩
        go_wp2_with fail
        refine (HM.out _ (Below.refl _ _)).mono ?_
        rintro e w3 ⟨u3, rfl, hu3, hb3⟩
        obtain ⟨a3, c3, rfl⟩ := (hu3.ilr (by have := HLEN.out; omega)).form
        have HB3 := Lib.hid hb3
        have HE3 := Lib.hid (RowN.empty w3 hb3.size)
        clear hu3 hb3
        go_wp2_with fail
        refine bodyPost_ret (v := .tuple #[.slice (some ⟨w3.heap.size, 0, none⟩) 0 0, .bool false]) (by simp [results, Try.results26, go_sem]) rfl ⟨_, rfl, HE3.out.own (by simp), HB3.out.alloc HB3.out.size _⟩
set_option maxRecDepth 100000 in
set_option maxHeartbeats 4000000 in
theorem iMulLine (p : Int) (v1 v2 : Value) (L1 L2 : List Int) (w : World) (h1 : Ints w v1 L1) (h2 : Ints w v2 L2) (hl1 : L1.length ≤ 1048576) (hl2 : L2.length ≤ 1048576) :
    Calls Try.prog 27 #[.int .i64 p, v1, v2] w (GivesIB (mlV p L1 L2) (mlB p L1 L2) w) := by
  have HV1 := Lib.hid (iLineValid p v1 L1 w h1 hl1)
  have HV2 := Lib.hid (iLineValid p v2 L2 w h2 hl2)
  cases hB1 : lineB p L1
  · have HV := Lib.hid (show mlV p L1 L2 = [] ∧ mlB p L1 L2 = false by unfold mlV mlB; rw [hB1]; exact ⟨rfl, rfl⟩)
    rw [hB1] at HV1
    rw [HV.out.1, HV.out.2]
    clear hB1 h1 h2
    go_enter Try.func27, Try.ntmps27
    go_wp2_with fail
    refine HV1.out.mono ?_
    rintro e w2 ⟨rfl, rfl⟩
    go_wp2_with fail
    refine bodyPost_ret (v := .tuple #[.slice none 0 0, .bool false]) (by simp [results, Try.results27, go_sem]) rfl ⟨_, rfl, (RowN.nil _ _).own (by simp), Below.refl _ _⟩
  · cases hB2 : lineB p L2
    · have HV := Lib.hid (show mlV p L1 L2 = [] ∧ mlB p L1 L2 = false by unfold mlV mlB; rw [hB1, hB2]; exact ⟨rfl, rfl⟩)
      rw [hB1] at HV1
      rw [hB2] at HV2
      rw [HV.out.1, HV.out.2]
      clear hB1 hB2 h1 h2
      go_enter Try.func27, Try.ntmps27
      go_wp2_with fail
      refine HV1.out.mono ?_
      rintro e w2 ⟨rfl, rfl⟩
      go_wp2_with fail
      refine HV2.out.mono ?_
      rintro e w2 ⟨rfl, rfl⟩
      go_wp2_with fail
      refine bodyPost_ret (v := .tuple #[.slice none 0 0, .bool false]) (by simp [results, Try.results27, go_sem]) rfl ⟨_, rfl, (RowN.nil _ _).own (by simp), Below.refl _ _⟩
    · obtain ⟨hp, e1, l1, k1⟩ := lineB_iff.1 hB1
      obtain ⟨_, e2, l2, k2⟩ := lineB_iff.1 hB2
      have HO1 := Lib.hid (fun w' (hb : Below w.heap.size w w') => iLineOf p v1 L1 w' (h1.below hb) (by omega))
      have HO2 := Lib.hid (fun w' (hb : Below w.heap.size w w') => iLineOf p v2 L2 w' (h2.below hb) (by omega))
      have HM := Lib.hid (fun x1 x2 w' (q1 : Elr w' x1 p L1) (q2 : Elr w' x2 p L2) => iTimesL p x1 x2 L1 L2 w' hp q1 q2 e1 e2 (by omega) (by omega))
      have hlen : (mlU p L1 L2).length ≤ 20 := by rw [mlU_len]; split <;> omega
      have HLEN := Lib.hid (And.intro hlen (And.intro l1 l2))
      rw [hB1] at HV1
      rw [hB2] at HV2
      by_cases h10 : (mlU p L1 L2).length ≤ 10
      all_goals
        first
        | (have HV := Lib.hid (show mlV p L1 L2 = mlU p L1 L2 ∧ mlB p L1 L2 = true by unfold mlV mlB; rw [hB1, hB2]; simp [h10])
           have hn10 : ¬ ((mlU p L1 L2).length : Int) > 10 := by omega
           rw [HV.out.1, HV.out.2])
        | (have HV := Lib.hid (show mlV p L1 L2 = [] ∧ mlB p L1 L2 = false by unfold mlV mlB; rw [hB1, hB2]; simp [h10])
           have hn10 : ((mlU p L1 L2).length : Int) > 10 := by omega
           rw [HV.out.1, HV.out.2])
        obtain ⟨M, hM⟩ : ∃ M, M = mlU p L1 L2 := ⟨_, rfl⟩
        rw [← hM] at HM hn10 HLEN
        try rw [← hM]
        clear hB1 hB2 h1 h2 hM hlen h10 HV hp e1 e2 k1 k2 l1 l2
        go_enter Try.func27, Try.ntmps27
        go_wp2_with fail
        refine HV1.out.mono ?_
        rintro e w2 ⟨rfl, rfl⟩
        go_wp2_with fail
        refine HV2.out.mono ?_
        rintro e w2 ⟨rfl, rfl⟩
        go_wp2_with fail
        refine (HO1.out _ (Below.refl _ _)).mono ?_
        rintro e w3 ⟨u3, rfl, hu3, hb3⟩
        have HB3 := Lib.hid hb3
        have HU3 := Lib.hid (hu3.elr (by have := HLEN.out; omega))
        clear hu3 hb3
        go_wp2_with fail
        refine (HO2.out _ HB3.out).mono ?_
        rintro e w4 ⟨u4, rfl, hu4, hb4⟩
        have HB4 := Lib.hid (HB3.out.trans (hb4.mono HB3.out.size))
        have HU4 := Lib.hid (And.intro (HU3.out.below hb4) (hu4.elr (by have := HLEN.out; omega)))
        clear hu4 hb4
        go_wp2_with fail
        refine (HM.out _ _ _ HU4.out.1 HU4.out.2).mono ?_
        rintro e w5 ⟨u5, rfl, hu5, hb5⟩
        have HB5 := Lib.hid (HB4.out.trans (hb5.mono HB4.out.size))
        have HU5 := Lib.hid (hu5.elr (by have := HLEN.out; omega))
        obtain ⟨a5, c5, rfl⟩ := (hu5.elr (by have := HLEN.out; omega)).form
        clear hu5 hb5
        go_wp2_with fail
      · refine (iNumbersOf p _ M _ HU5.out (by have := HLEN.out; omega)).mono ?_
        rintro e w6 ⟨u6, rfl, hu6, hb6⟩
        have H6 := Lib.hid (show OwnInts w6 w.heap.size u6 M ∧ Below w.heap.size w w6 from ⟨(hu6.base HB5.out.size).own (by have := HLEN.out; omega), HB5.out.trans (hb6.mono HB5.out.size)⟩)
        clear hu6 hb6
        go_wp2_with fail
        refine bodyPost_ret (v := .tuple #[u6, .bool true]) (by simp [results, Try.results27, go_sem]) rfl ⟨_, rfl, H6.out⟩
      · refine bodyPost_ret (v := .tuple #[.slice none 0 0, .bool false]) (by simp [results, Try.results27, go_sem]) rfl ⟨_, rfl, (RowN.nil _ _).own (by simp), HB5.out⟩
end Go.Proofs.Ytfmpcniehgipfaa
namespace Go.Proofs.Ytfmpcniehgipfaa
set_option linter.unusedVariables false
open Go.RowKit
def dlB (p : Int) (L1 L2 : List Int) : Bool := lineB p L1 && (lineB p L2 && decide (L2.length ≠ 0))
def dlQ (p : Int) (L1 L2 : List Int) : List Int := if dlB p L1 L2 = true then divQ p L1 L2 (ivL p L2) else []
def dlR (p : Int) (L1 L2 : List Int) : List Int := if dlB p L1 L2 = true then divR p L1 L2 (ivL p L2) else []
/-- a slice whose block lies below a bound -/
def LieI (v : Value) (L : List Int) (C : Nat) : Prop := L = [] ∨ ∀ g off n c, v = .slice (some ⟨g, off, none⟩) n c → g < C
/-- a call hands back two slices of numbers of its own, the second one above the first one, and a truth value -/
def GivesI2 (A B : List Int) (b : Bool) (w : World) (e : Ending) (w' : World) : Prop :=
  ∃ u r C, e = .returned (.tuple #[u, r, .bool b]) ∧ OwnInts w' w.heap.size u A ∧ LieI u A C ∧ OwnInts w' C r B ∧ w.heap.size ≤ C ∧ Below w.heap.size w w'
theorem RowN.lie {w : World} {B : Nat} {v : Value} {L : List Int} (h : RowN w B v L) {C : Nat} (hC : w.heap.size ≤ C) : LieI v L C := by
  rcases h.shape with ⟨_, h0⟩ | ⟨g, cap, rfl, _, hg, _⟩
  · exact .inl h0
  · refine .inr fun g' off n c e => ?_
    simp only [Value.slice.injEq, Option.some.injEq, Addr.mk.injEq] at e
    omega
set_option maxRecDepth 100000 in
set_option maxHeartbeats 4000000 in
theorem iDividedNo (v1 : Value) (a2 : Option Addr) (c2 : Nat) (w : World) :
    Calls Try.prog 76 #[v1, .slice a2 0 c2] w fun e w' => (∃ u pv, e = .panicked [{ v := .iface u pv, recovered := false }]) ∧ Below w.heap.size w w' := by
  go_enter Try.func76, Try.ntmps76
  go_wp2_with fail
  exact ⟨rfl, ⟨_, _, rfl⟩, (by repeat (first | exact Below.refl _ _ | apply Below.drew | apply below_drewN | (refine Below.alloc ?_ (by first | omega | (simp <;> omega)) _)))⟩
theorem dl_catch (r : Nat) (u : TypeId) (pv : Value) (older : List PanicEntry) (x0 x1 x2 : Value) (w : World) (hc0 : w.cell? ⟨r, 0, none⟩ = some x0) (hz0 : w.frozen? ⟨r, 0, none⟩ = false) (hc1 : w.cell? ⟨r + 1, 0, none⟩ = some x1) (hz1 : w.frozen? ⟨r + 1, 0, none⟩ = false) (hc2 : w.cell? ⟨r + 2, 0, none⟩ = some x2) (hz2 : w.frozen? ⟨r + 2, 0, none⟩ = false) :
    CallsD Try.prog 75 #[.pointer (some ⟨r, 0, none⟩), .pointer (some ⟨r + 1, 0, none⟩), .pointer (some ⟨r + 2, 0, none⟩)] (.panicking ({ v := .iface u pv, recovered := false } :: older)) w fun e u' w' =>
      e = .returned (.tuple #[]) ∧ u' = .panicking ({ v := .iface u pv, recovered := true } :: older) ∧ w' = ((w.setCell ⟨r, 0, none⟩ (.slice none 0 0)).setCell ⟨r + 1, 0, none⟩ (.slice none 0 0)).setCell ⟨r + 2, 0, none⟩ (.bool false) := by
  refine callsD_of_wpS Try.func75 rfl fun c₀ cs hu => ?_
  apply wpS_seq
  apply wpS_region
  simp [wpOpsS, go_sem, recoverD, hu, Try.ntmps75, Exit.thenS]
  refine wpS_cond (t := true) (by simp [Act.eval, Array.replicate]) ?_
  simp only [if_true]
  apply wpS_region
  simp [wpOpsS, go_sem, hc0, hz0, hc1, hz1, hc2, hz2, bodyPostS, results, Try.results75]
theorem dl_idle (r : Nat) (w : World) :
    CallsD Try.prog 75 #[.pointer (some ⟨r, 0, none⟩), .pointer (some ⟨r + 1, 0, none⟩), .pointer (some ⟨r + 2, 0, none⟩)] .returning w fun e u' w' => e = .returned (.tuple #[]) ∧ u' = .returning ∧ w' = w := by
  refine callsD_of_wpS Try.func75 rfl fun c₀ cs hu => ?_
  apply wpS_seq
  apply wpS_region
  simp [wpOpsS, go_sem, recoverD, hu, Try.ntmps75, Exit.thenS]
  refine wpS_cond (t := false) (by simp [Act.eval, Array.replicate]) ?_
  simp only [Bool.false_eq_true, if_false]
  refine wpS_of_wp (wp_skip ?_)
  cases c₀
  simp_all [bodyPostS, results, Try.results75]
/-- the three results' cells -/
structure Res3 (r : Nat) (x0 x1 x2 : Value) (W : World) : Prop where
  c0 : W.cell? ⟨r, 0, none⟩ = some x0
  c1 : W.cell? ⟨r + 1, 0, none⟩ = some x1
  c2 : W.cell? ⟨r + 2, 0, none⟩ = some x2
  f0 : W.frozen? ⟨r, 0, none⟩ = false
  f1 : W.frozen? ⟨r + 1, 0, none⟩ = false
  f2 : W.frozen? ⟨r + 2, 0, none⟩ = false
theorem Res3.lt {r : Nat} {x0 x1 x2 : Value} {W : World} (h : Res3 r x0 x1 x2 W) : r + 2 < W.heap.size := World.block_lt_of_cell? _ ⟨r + 2, 0, none⟩ h.c2
theorem Res3.below {r : Nat} {x0 x1 x2 : Value} {W W' : World} (h : Res3 r x0 x1 x2 W) (hb : Below W.heap.size W W') : Res3 r x0 x1 x2 W' := by
  have hl := h.lt
  refine ⟨(hb.cell (p := ⟨r, 0, none⟩) (by show r < _; omega)).trans h.c0, (hb.cell (p := ⟨r + 1, 0, none⟩) (by show r + 1 < _; omega)).trans h.c1, (hb.cell (p := ⟨r + 2, 0, none⟩) hl).trans h.c2, (hb.frozen (p := ⟨r, 0, none⟩) (by show r < _; omega)).trans h.f0, (hb.frozen (p := ⟨r + 1, 0, none⟩) (by show r + 1 < _; omega)).trans h.f1, (hb.frozen (p := ⟨r + 2, 0, none⟩) hl).trans h.f2⟩
/-- the results are laid -/
def set3 (W : World) (r : Nat) (y0 y1 y2 : Value) : World := ((W.setCell ⟨r, 0, none⟩ y0).setCell ⟨r + 1, 0, none⟩ y1).setCell ⟨r + 2, 0, none⟩ y2
theorem Res3.set {r : Nat} {x0 x1 x2 : Value} {W : World} (h : Res3 r x0 x1 x2 W) (y0 y1 y2 : Value) : Res3 r y0 y1 y2 (set3 W r y0 y1 y2) := by
  have ne : ∀ a b : Nat, a ≠ b → (⟨a, 0, none⟩ : Addr) ≠ ⟨b, 0, none⟩ := fun a b q e => q (congrArg Addr.block e)
  have a1 : (W.setCell ⟨r, 0, none⟩ y0).cell? ⟨r + 1, 0, none⟩ = some x1 := (World.cell?_setCell_other _ _ _ _ (ne _ _ (by omega))).trans h.c1
  have a2 : ((W.setCell ⟨r, 0, none⟩ y0).setCell ⟨r + 1, 0, none⟩ y1).cell? ⟨r + 2, 0, none⟩ = some x2 := (World.cell?_setCell_other _ _ _ _ (ne _ _ (by omega))).trans ((World.cell?_setCell_other _ _ _ _ (ne _ _ (by omega))).trans h.c2)
  unfold set3
  refine ⟨?_, ?_, World.cell?_setCell_same _ _ _ a2, ?_, ?_, ?_⟩
  · rw [World.cell?_setCell_other _ _ _ _ (ne _ _ (by omega)), World.cell?_setCell_other _ _ _ _ (ne _ _ (by omega))]
    exact World.cell?_setCell_same _ _ _ h.c0
  · rw [World.cell?_setCell_other _ _ _ _ (ne _ _ (by omega))]
    exact World.cell?_setCell_same _ _ _ a1
  · rw [World.frozen?_setCell, World.frozen?_setCell, World.frozen?_setCell]; exact h.f0
  · rw [World.frozen?_setCell, World.frozen?_setCell, World.frozen?_setCell]; exact h.f1
  · rw [World.frozen?_setCell, World.frozen?_setCell, World.frozen?_setCell]; exact h.f2
theorem below_set3 {B r : Nat} {w W : World} {y0 y1 y2 : Value} (h : Below B w W) (hr : B ≤ r) : Below B w (set3 W r y0 y1 y2) :=
  ((h.setCell (p := ⟨r, 0, none⟩) hr _).setCell (p := ⟨r + 1, 0, none⟩) (by show B ≤ r + 1; omega) _).setCell (p := ⟨r + 2, 0, none⟩) (by show B ≤ r + 2; omega) _
theorem ownI_set3 {B r : Nat} {W : World} {v : Value} {L : List Int} (h : OwnInts W B v L) (hr : r + 2 < B) (y0 y1 y2 : Value) : OwnInts (set3 W r y0 y1 y2) B v L := by
  obtain ⟨h1, a, cap, hv, h2⟩ := h
  refine ⟨h1, a, cap, hv, ?_⟩
  rcases h2 with h2 | ⟨g, off, ha, hB, hg, hc, hf⟩
  · exact .inl h2
  · have e : (set3 W r y0 y1 y2).heap[g]? = W.heap[g]? := by
      unfold set3
      rw [Below.heap_setCell _ _ _ _ (show g ≠ r + 2 by omega), Below.heap_setCell _ _ _ _ (show g ≠ r + 1 by omega), Below.heap_setCell _ _ _ _ (show g ≠ r by omega)]
    exact .inr ⟨g, off, ha, hB, by simpa [set3] using hg, fun j hj => (cell_of_heap (p := ⟨g, off + j, none⟩) e).trans (hc j hj), fun j hj => (frozen_of_heap (p := ⟨g, off + j, none⟩) e).trans (hf j hj)⟩
theorem ownI_down {w : World} {B B' : Nat} {v : Value} {L : List Int} (h : OwnInts w B v L) (hB : B' ≤ B) : OwnInts w B' v L := by
  obtain ⟨h1, a, cap, hv, h2⟩ := h
  refine ⟨h1, a, cap, hv, ?_⟩
  rcases h2 with h2 | ⟨g, off, ha, hb, r⟩
  · exact .inl h2
  · exact .inr ⟨g, off, ha, by omega, r⟩
theorem gives_no {w W : World} (hb : Below w.heap.size w W) : GivesI2 [] [] false w (.returned (.tuple #[.slice none 0 0, .slice none 0 0, .bool false])) (set3 W w.heap.size (.slice none 0 0) (.slice none 0 0) (.bool false)) :=
  ⟨_, _, w.heap.size, rfl, ⟨by simp, none, 0, rfl, .inl rfl⟩, .inl rfl, ⟨by simp, none, 0, rfl, .inl rfl⟩, Nat.le_refl _, below_set3 hb (Nat.le_refl _)⟩
set_option maxRecDepth 100000 in
set_option maxHeartbeats 4000000 in
theorem iDivideLine (p : Int) (v1 v2 : Value) (L1 L2 : List Int) (w : World) (h1 : Ints w v1 L1) (h2 : Ints w v2 L2) (hl1 : L1.length ≤ 1048576) (hl2 : L2.length ≤ 1048576) :
    Calls Try.prog 31 #[.int .i64 p, v1, v2] w (GivesI2 (dlQ p L1 L2) (dlR p L1 L2) (dlB p L1 L2) w) := by
  have hmf : ∀ (fn : Fn) (first cap : Array Value) (w : World), (Instr.makeFunc fn first cap).run Try.prog w = .ok (.func fn first cap) w := fun _ _ _ _ => rfl
  obtain ⟨W0, hW0⟩ : ∃ W0, W0 = (((w.alloc (Obj.cells #[.slice none 0 0] 22)).alloc (Obj.cells #[.slice none 0 0] 22)).alloc (Obj.cells #[.bool false] 4)) := ⟨_, rfl⟩
  have hb0 : Below w.heap.size w W0 := by rw [hW0]; exact (by repeat (first | exact Below.refl _ _ | apply Below.drew | apply below_drewN | (refine Below.alloc ?_ (by first | omega | (simp <;> omega)) _)))
  have HB0 := Lib.hid hb0
  have HR0 := Lib.hid (show Res3 w.heap.size (.slice none 0 0) (.slice none 0 0) (.bool false) W0 from by rw [hW0]; constructor <;> simp [go_sem])
  have HV1 := Lib.hid (iLineValid p v1 L1 W0 (h1.below hb0) hl1)
  have HV2 := Lib.hid (iLineValid p v2 L2 W0 (h2.below hb0) hl2)
  have fail0 : dlB p L1 L2 = false → dlQ p L1 L2 = [] ∧ dlR p L1 L2 = [] := fun h => by unfold dlQ dlR; rw [h]; exact ⟨rfl, rfl⟩
  cases hB1 : lineB p L1
  · have hdl : dlB p L1 L2 = false := by unfold dlB; rw [hB1]; rfl
    have HV := Lib.hid (fail0 hdl)
    rw [hB1] at HV1
    rw [HV.out.1, HV.out.2, hdl]
    obtain ⟨c0, c1, c2, f0, f1, f2⟩ := HR0.out
    have HW := Lib.hid hW0
    clear hB1 h1 h2 hb0 hdl hW0 fail0
    go_enter_defers Try.func31, Try.ntmps31
    go_wp2_with fail
    rw [← HW.out]
    refine HV1.out.mono ?_
    rintro e w2 ⟨rfl, rfl⟩
    go_wp2_with fail
    have hQ := HR0.out.set (.slice none 0 0) (.slice none 0 0) (.bool false)
    show bodyPostD Try.prog Try.f31 _ Exit.ret _ (set3 W0 w.heap.size (.slice none 0 0) (.slice none 0 0) (.bool false))
    obtain ⟨d0, d1, d2, _, _, _⟩ := hQ
    refine ⟨.tuple #[.slice none 0 0, .slice none 0 0, .bool false], ?_, gives_no HB0.out⟩
    simp [results, Try.results31, go_sem, d0, d1, d2]
  · cases hB2 : lineB p L2
    · have hdl : dlB p L1 L2 = false := by unfold dlB; rw [hB1, hB2]; rfl
      have HV := Lib.hid (fail0 hdl)
      rw [hB1] at HV1
      rw [hB2] at HV2
      rw [HV.out.1, HV.out.2, hdl]
      obtain ⟨c0, c1, c2, f0, f1, f2⟩ := HR0.out
      have HW := Lib.hid hW0
      clear hB1 hB2 h1 h2 hb0 hdl hW0 fail0
      go_enter_defers Try.func31, Try.ntmps31
      go_wp2_with fail
      rw [← HW.out]
      refine HV1.out.mono ?_
      rintro e w2 ⟨rfl, rfl⟩
      go_wp2_with fail
      refine HV2.out.mono ?_
      rintro e w2 ⟨rfl, rfl⟩
      go_wp2_with fail
      have hQ := HR0.out.set (.slice none 0 0) (.slice none 0 0) (.bool false)
      show bodyPostD Try.prog Try.f31 _ Exit.ret _ (set3 W0 w.heap.size (.slice none 0 0) (.slice none 0 0) (.bool false))
      obtain ⟨d0, d1, d2, _, _, _⟩ := hQ
      refine ⟨.tuple #[.slice none 0 0, .slice none 0 0, .bool false], ?_, gives_no HB0.out⟩
      simp [results, Try.results31, go_sem, d0, d1, d2]
    · obtain ⟨hp, e1, l1, k1⟩ := lineB_iff.1 hB1
      obtain ⟨_, e2, l2, k2⟩ := lineB_iff.1 hB2
      obtain ⟨hpb1, hpb2⟩ := isP_bd hp
      have HO1 := Lib.hid (fun w' (hb : Below W0.heap.size W0 w') => iLineOf p v1 L1 w' ((h1.below hb0).below hb) (by omega))
      have HO2 := Lib.hid (fun w' (hb : Below W0.heap.size W0 w') => iLineOf p v2 L2 w' ((h2.below hb0).below hb) (by omega))
      have HLN := Lib.hid (And.intro l1 l2)
      rw [hB1] at HV1
      rw [hB2] at HV2
      by_cases h20 : L2.length = 0
      · have hdl : dlB p L1 L2 = false := by unfold dlB; rw [hB1, hB2]; simp [h20]
        have HV := Lib.hid (fail0 hdl)
        rw [HV.out.1, HV.out.2, hdl]
        have HLZ := Lib.hid h20
        have HW := Lib.hid hW0
        obtain ⟨c0, c1, c2, f0, f1, f2⟩ := HR0.out
        clear hB1 hB2 h1 h2 hb0 hdl hW0 fail0 hp e1 e2 k1 k2 l1 l2 h20 c0 c1 c2 f0 f1 f2
        go_enter_defers Try.func31, Try.ntmps31
        go_wp2_with fail
        rw [← HW.out]
        refine HV1.out.mono ?_
        rintro e w2 ⟨rfl, rfl⟩
        go_wp2_with fail
        refine HV2.out.mono ?_
        rintro e w2 ⟨rfl, rfl⟩
        go_wp2_with fail
        refine (HO1.out _ (Below.refl _ _)).mono ?_
        rintro e w3 ⟨u3, rfl, hu3, hb3⟩
        have HB3 := Lib.hid hb3
        clear hu3 hb3
        go_wp2_with fail
        refine (HO2.out _ HB3.out).mono ?_
        rintro e w4 ⟨u4, rfl, hu4, hb4⟩
        have HB4 := Lib.hid (show Below W0.heap.size W0 w4 from HB3.out.trans (hb4.mono HB3.out.size))
        obtain ⟨a4, c4, rfl⟩ := (hu4.elr (by have := HLN.out; omega)).form
        clear hu4 hb4
        rw [HLZ.out]
        go_wp2_with fail
        refine (iDividedNo u3 a4 c4 w4).mono ?_
        rintro e w5 ⟨⟨u, pv, rfl⟩, hb5⟩
        have HB5 := Lib.hid (show Below W0.heap.size W0 w5 from HB4.out.trans (hb5.mono HB4.out.size))
        clear hb5
        go_wp2_with fail
        have HR5 := Lib.hid (HR0.out.below HB5.out)
        refine leaves_cons (f := 75) (args := #[.pointer (some ⟨w.heap.size, 0, none⟩), .pointer (some ⟨w.heap.size + 1, 0, none⟩), .pointer (some ⟨w.heap.size + 2, 0, none⟩)]) (by simp) (by simp [go_sem]) ?_
        refine (dl_catch w.heap.size u pv [] _ _ _ w5 HR5.out.c0 HR5.out.f0 HR5.out.c1 HR5.out.f1 HR5.out.c2 HR5.out.f2).mono ?_
        rintro e u' w'' ⟨rfl, rfl, rfl⟩
        have hQ := HR5.out.set (.slice none 0 0) (.slice none 0 0) (.bool false)
        have HBW := HB0.out.trans (HB5.out.mono HB0.out.size)
        obtain ⟨d0, d1, d2, _, _, _⟩ := hQ
        refine ⟨.tuple #[.slice none 0 0, .slice none 0 0, .bool false], ?_, gives_no HBW⟩
        show (results Try.f31 _).run Try.prog (set3 w5 w.heap.size (.slice none 0 0) (.slice none 0 0) (.bool false)) = _
        simp [results, Try.results31, go_sem, d0, d1, d2]
        rfl
      · have hdl : dlB p L1 L2 = true := by unfold dlB; rw [hB1, hB2]; simp; intro e; rw [e] at h20; exact h20 rfl
        have HV := Lib.hid (show dlQ p L1 L2 = divQ p L1 L2 (ivL p L2) ∧ dlR p L1 L2 = divR p L1 L2 (ivL p L2) from by unfold dlQ dlR; rw [hdl]; exact ⟨rfl, rfl⟩)
        rw [HV.out.1, HV.out.2, hdl]
        have HDV := Lib.hid (fun x1 x2 w' (q1 : Elr w' x1 p L1) (q2 : Elr w' x2 p L2) => iDivided p x1 x2 L1 L2 w' hp q1 q2 e1 e2 k2 (by omega) (by omega) (by omega))
        have hq : (divQ p L1 L2 (ivL p L2)).length ≤ 100 := by rw [divQ_len]; unfold dvN; omega
        have hr : (divR p L1 L2 (ivL p L2)).length ≤ 100 := by
          have := divR_len (show 1 < p by omega) e1 (iv_ok hp k2 e2 (by omega))
          omega
        have HLQ := Lib.hid (And.intro hq hr)
        obtain ⟨Q, hQ⟩ : ∃ Q, Q = divQ p L1 L2 (ivL p L2) := ⟨_, rfl⟩
        obtain ⟨R, hR⟩ : ∃ R, R = divR p L1 L2 (ivL p L2) := ⟨_, rfl⟩
        rw [← hQ, ← hR] at HDV HLQ ⊢
        have HW := Lib.hid hW0
        clear hB1 hB2 h1 h2 hb0 hdl hW0 fail0 hp e1 e2 k1 k2 l1 l2 h20 hq hr hQ hR HV
        go_enter_defers Try.func31, Try.ntmps31
        go_wp2_with fail
        rw [← HW.out]
        refine HV1.out.mono ?_
        rintro e w2 ⟨rfl, rfl⟩
        go_wp2_with fail
        refine HV2.out.mono ?_
        rintro e w2 ⟨rfl, rfl⟩
        go_wp2_with fail
        refine (HO1.out _ (Below.refl _ _)).mono ?_
        rintro e w3 ⟨u3, rfl, hu3, hb3⟩
        have HB3 := Lib.hid hb3
        have HU3 := Lib.hid (hu3.elr (by have := HLN.out; omega))
        clear hu3 hb3
        go_wp2_with fail
        refine (HO2.out _ HB3.out).mono ?_
        rintro e w4 ⟨u4, rfl, hu4, hb4⟩
        have HB4 := Lib.hid (show Below W0.heap.size W0 w4 from HB3.out.trans (hb4.mono HB3.out.size))
        have HU4 := Lib.hid (And.intro (HU3.out.below hb4) (hu4.elr (by have := HLN.out; omega)))
        clear hu4 hb4
        go_wp2_with fail
        refine (HDV.out _ _ _ HU4.out.1 HU4.out.2).mono ?_
        rintro e w5 ⟨u5, r5, rfl, hq5, hr5, hb5⟩
        have HB5 := Lib.hid (show Below W0.heap.size W0 w5 from HB4.out.trans (hb5.mono HB4.out.size))
        have HQ5 := Lib.hid (And.intro hq5 hr5)
        clear hq5 hr5 hb5
        go_wp2_with fail
        refine (iNumbersOf p _ Q _ HQ5.out.1 (by have := HLQ.out; omega)).mono ?_
        rintro e w6 ⟨u6, rfl, hu6, hb6⟩
        have HB6 := Lib.hid (show Below W0.heap.size W0 w6 from HB5.out.trans (hb6.mono HB5.out.size))
        have HU6 := Lib.hid (And.intro (hu6.base HB5.out.size) (HQ5.out.2.below hb6))
        clear hu6 hb6
        go_wp2_with fail
        refine (iNumbersOf p _ R _ HU6.out.2 (by have := HLQ.out; omega)).mono ?_
        rintro e w7 ⟨u7, rfl, hu7, hb7⟩
        have HB7 := Lib.hid (show Below W0.heap.size W0 w7 from HB6.out.trans (hb7.mono HB6.out.size))
        have HU7 := Lib.hid (show OwnInts w7 W0.heap.size u6 Q ∧ LieI u6 Q w6.heap.size ∧ OwnInts w7 w6.heap.size u7 R from ⟨(HU6.out.1.own (by have := HLQ.out; omega)).below hb7, HU6.out.1.lie (Nat.le_refl _), hu7.own (by have := HLQ.out; omega)⟩)
        have HZ6 := Lib.hid HB6.out.size
        clear hu7 hb7
        obtain ⟨a6, c6, rfl⟩ : ∃ a c, u6 = .slice a Q.length c := by obtain ⟨_, a, c, h, _⟩ := HU7.out.1; exact ⟨a, c, h⟩
        obtain ⟨a7, c7, rfl⟩ : ∃ a c, u7 = .slice a R.length c := by obtain ⟨_, a, c, h, _⟩ := HU7.out.2.2; exact ⟨a, c, h⟩
        have HR7 := Lib.hid (HR0.out.below HB7.out)
        obtain ⟨c0, c1, c2, f0, f1, f2⟩ := HR7.out
        go_wp2_with fail
        clear c0 c1 c2 f0 f1 f2
        have hlt0 := HR0.out.lt
        have HSET := Lib.hid (show GivesI2 Q R true w (.returned (.tuple #[.slice a6 Q.length c6, .slice a7 R.length c7, .bool true])) (set3 w7 w.heap.size (.slice a6 Q.length c6) (.slice a7 R.length c7) (.bool true)) from
          ⟨_, _, w6.heap.size, rfl, ownI_down (ownI_set3 HU7.out.1 hlt0 _ _ _) HB0.out.size, HU7.out.2.1, ownI_set3 HU7.out.2.2 (Nat.lt_of_lt_of_le hlt0 HZ6.out) _ _ _, Nat.le_trans HB0.out.size HZ6.out, below_set3 (HB0.out.trans (HB7.out.mono HB0.out.size)) (Nat.le_refl _)⟩)
        refine leaves_cons (f := 75) (args := #[.pointer (some ⟨w.heap.size, 0, none⟩), .pointer (some ⟨w.heap.size + 1, 0, none⟩), .pointer (some ⟨w.heap.size + 2, 0, none⟩)]) (by simp) (by simp [go_sem]) ?_
        refine (dl_idle w.heap.size _).mono ?_
        rintro e u' w'' ⟨rfl, rfl, rfl⟩
        have hQ := HR7.out.set (.slice a6 Q.length c6) (.slice a7 R.length c7) (.bool true)
        obtain ⟨d0, d1, d2, _, _, _⟩ := hQ
        refine ⟨.tuple #[.slice a6 Q.length c6, .slice a7 R.length c7, .bool true], ?_, HSET.out⟩
        show (results Try.f31 _).run Try.prog (set3 w7 w.heap.size (.slice a6 Q.length c6) (.slice a7 R.length c7) (.bool true)) = _
        simp [results, Try.results31, go_sem, d0, d1, d2]
        rfl
end Go.Proofs.Ytfmpcniehgipfaa
namespace Go.Proofs.Ytfmpcniehgipfaa
set_option linter.unusedVariables false
open Go.RowKit
theorem markIkeep (v : Value) (L : List Int) (B C : Nat) (k : Int) (w : World) (h : OwnInts w B v L) (hC : LieI v L C) (hk0 : 0 ≤ k) (hk1 : k ≤ 1000000000000) :
    Calls Try.prog 28 #[v, .int .i64 k] w fun e w' => e = .returned (.int .i64 (k + (L.length : Nat))) ∧ HeldBy w' B v L.length k ∧ Betw B C w w' := by
  obtain ⟨h1, a, cap, rfl, h2⟩ := h
  have hn : L = [] → Calls Try.prog 28 #[.slice a L.length cap, .int .i64 k] w fun e w' => e = .returned (.int .i64 (k + (L.length : Nat))) ∧ HeldBy w' B (.slice a L.length cap) L.length k ∧ Betw B C w w' := by
    rintro rfl
    refine (markNil a cap k w).mono ?_
    rintro e w' ⟨rfl, rfl⟩
    exact ⟨by simp, ⟨by simp, a, cap, rfl, .inl rfl⟩, rfl, rfl, rfl, rfl, fun _ _ => rfl⟩
  rcases h2 with h2 | ⟨g, off, rfl, hB, hg, hc, hf⟩
  · exact hn h2
  · rcases hC with hC | hC
    · exact hn hC
    · have hgC := hC g off _ _ rfl
      refine (markInts g off L.length cap k w h1 hk0 (by omega) (fun i hi => ⟨_, hc i hi⟩) hf).mono ?_
      rintro e w' ⟨rfl, hM⟩
      exact ⟨rfl, ⟨h1, _, cap, rfl, .inr ⟨g, off, rfl, hB, by rw [hM.size]; exact hg, hM.done⟩⟩, hM.os, hM.tape, hM.output, hM.size, fun b hb => hM.far b (by omega)⟩
theorem HeldBy.lowC {w w' : World} {B C : Nat} {v : Value} {L : List Int} {k : Int} (h : HeldBy w B v L.length k) (hl : LieI v L C) (hb : Below C w w') : HeldBy w' B v L.length k := by
  obtain ⟨h1, a, cap, hv, h2⟩ := h
  refine ⟨h1, a, cap, hv, ?_⟩
  rcases h2 with h2 | ⟨g, off, ha, hB, hg, hc⟩
  · exact .inl h2
  · rcases hl with hl | hl
    · exact .inl (by rw [hl]; rfl)
    · have hgC := hl g off _ _ (by rw [hv, ha])
      exact .inr ⟨g, off, ha, hB, Nat.lt_of_lt_of_le hg hb.size, fun i hi => (hb.cell (p := ⟨g, off + i, none⟩) hgC).trans (hc i hi)⟩
end Go.Proofs.Ytfmpcniehgipfaa
