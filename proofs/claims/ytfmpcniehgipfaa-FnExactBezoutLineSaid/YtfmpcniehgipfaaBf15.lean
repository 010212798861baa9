/-
  The model's division of lines. Conditions: what the slices hold is known.
  The program's division of lines, the walk. Conditions: what the slices hold is known; the divisor is not 0.
  Differences and multiples of the model's lines. Conditions: what the slices hold is known, elements of a prime.
-/
import Derived.Test.YtfmpcniehgipfaaBf14
import Derived.Test.YtfmpcniehgipfaaBf2
namespace Go.Proofs.Ytfmpcniehgipfaa
set_option linter.unusedVariables false
open Go.RowKit
theorem inv_one : ∀ q ∈ [2, 3, 5, 7, 11, 13], ∀ b, b < q → b ≠ 0 → b * (invO (q : Nat) (b : Nat)).getD 0 % q = 1 := by
  decide +kernel
/-- the field's inverse is one -/
theorem invF_iv {p : Int} (hp : isP p = true) : InvF p (ivV p) := by
  intro a h0 h1
  have hv : ivV p a = (((invO p a).getD 0 : Nat) : Int) := by unfold ivV; rw [if_pos (isE1_iff.2 ⟨hp, by omega, h1⟩)]
  obtain ⟨_, f2⟩ := inv_fact hp (by omega) h1
  rw [hv]
  refine ⟨?_, by omega, f2⟩
  obtain ⟨b, rfl⟩ := Int.eq_ofNat_of_zero_le (show 0 ≤ a by omega)
  obtain ⟨q, rfl⟩ := Int.eq_ofNat_of_zero_le (show 0 ≤ p by have := isP_bd hp; omega)
  have hq : q ∈ [2, 3, 5, 7, 11, 13] := by
    have := isP_cases hp
    simp only [List.mem_cons, List.not_mem_nil, or_false]
    omega
  have := inv_one q hq b (by omega) (by omega)
  exact_mod_cast this
/-- a slice that lies elsewhere -/
def BlkNe (f : Value) (H : Nat) : Prop := ∀ g off n c, f = .slice (some ⟨g, off, none⟩) n c → g ≠ H
/-- the inverse of the last element -/
def ivL (p : Int) (g : List Int) : Int := ivV p (cf g (g.length - 1))
theorem can_last {p : Int} {g : List Int} (hc : Can g) (he : AllE p g) (h0 : 0 < g.length) : 0 < cf g (g.length - 1) ∧ cf g (g.length - 1) < p := by
  have h1 := he (g.length - 1)
  rcases hc with hc | hc <;> omega
theorem iv_ok {p : Int} (hp : isP p = true) {g : List Int} (hc : Can g) (he : AllE p g) (h0 : 0 < g.length) : Iv p g (ivL p g) := by
  obtain ⟨h1, h2⟩ := can_last hc he h0
  obtain ⟨i1, i2, i3⟩ := invF_iv hp _ h1 h2
  exact ⟨h0, i1, i2, i3⟩
theorem sInvV (p a : Int) (w : World) (hp : isP p = true) (h0 : 0 ≤ a) (h1 : a < p) : Calls Try.prog 81 #[.int .i64 p, .int .i64 a] w fun e w' => e = .returned (.int .i64 (ivV p a)) ∧ w = w' := by
  have hv : ivV p a = (((invO p a).getD 0 : Nat) : Int) := by unfold ivV; rw [if_pos (isE1_iff.2 ⟨hp, h0, h1⟩)]
  rw [hv]
  exact sInvLoop p a hp h0 h1 w
set_option maxRecDepth 100000 in
set_option maxHeartbeats 8000000 in
theorem sDivide (p : Int) (v1 v2 : Value) (L1 L2 : List Int) (w : World) (hp : isP p = true) (h1 : Ints w v1 L1) (h2 : Ints w v2 L2) (hE1 : AllE p L1) (hE2 : AllE p L2) (hc1 : Can L1) (hc2 : Can L2) (hl1 : L1.length ≤ 50) (hl2 : L2.length ≤ 50) (h20 : 0 < L2.length) :
    Calls Try.prog 74 #[.int .i64 p, v1, v2] w fun e w' => ∃ u r, e = .returned (.tuple #[u, r]) ∧ RowN w' w.heap.size u (divQ p L1 L2 (ivL p L2)) ∧ Ints w' r (divR p L1 L2 (ivL p L2)) ∧ Below w.heap.size w w' := by
  obtain ⟨q1, q2⟩ := isP_bd hp
  obtain ⟨i0, hi, hz0, hz1, hz2⟩ := info_parts infoN
  have hiv := iv_ok hp hc2 hE2 h20
  have hlast := can_last hc2 hE2 h20
  have HIVC := Lib.hid (fun w => sInvV p (cf L2 (L2.length - 1)) w hp (by omega) hlast.2)
  have HL0 := Lib.hid (dvL_zero (p := p) (g := L2) (iv := ivL p L2) hc1)
  have HQC := Lib.hid (divQ_can (iv := ivL p L2) hp hc1 hE1 hiv)
  have HST := Lib.hid (fun d q (hd : d ≤ dvN L1 L2) (hq : (dvL p L1 L2 (ivL p L2) d).length = L2.length + q) => div_step (show 1 < p by omega) hE1 hiv hd hq)
  have HSTOP := Lib.hid (fun d (hd : d ≤ dvN L1 L2) (hs : (dvL p L1 L2 (ivL p L2) d).length < L2.length) => div_stop (show 1 < p by omega) hE1 hiv hd hs)
  have HLLEN := Lib.hid (fun d (hd : d ≤ dvN L1 L2) => show (dvL p L1 L2 (ivL p L2) d).length ≤ 50 from by
    have h := trim_len (lsU L1.length (dvU p L1 L2 (ivL p L2) (dvN L1 L2) d))
    rw [lsU_len] at h
    exact Nat.le_trans h hl1)
  have HLT0 := Lib.hid (fun d (hd : d ≤ dvN L1 L2) => dvL_len (show 1 < p by omega) hE1 hiv hd)
  have HLE := Lib.hid (fun d (hd : d ≤ dvN L1 L2) => dvL_allE (show 1 < p by omega) hE1 hiv hd)
  have HQB := Lib.hid (fun q => dvQ_bd (show 0 < p by omega) L1 L2 (ivL p L2) (dvN L1 L2) q)
  have HIVB := Lib.hid (show 0 ≤ ivL p L2 ∧ ivL p L2 < p from hiv.2.2)
  have HP := Lib.hid hp
  have HE2 := Lib.hid hE2
  have HG1 := Lib.hid h1
  have HG2 := Lib.hid h2
  obtain ⟨n, hn⟩ : ∃ n, n = dvN L1 L2 := ⟨_, rfl⟩
  have hn50 : n ≤ 50 := by unfold dvN at hn; omega
  have HNN := Lib.hid hn
  obtain ⟨_, a1, cap1, rfl, _⟩ := h1
  obtain ⟨_, a2, cap2, rfl, _⟩ := h2
  obtain ⟨g2, off2, rfl, hg2, hcc⟩ := HG2.out.cell h20
  obtain ⟨m2, hm2⟩ : ∃ m2, L2.length = m2 + 1 := ⟨L2.length - 1, by omega⟩
  have hlc := hcc m2 (by omega)
  have HLC := Lib.hid (show cf L2 m2 = cf L2 (L2.length - 1) from by rw [show L2.length - 1 = m2 by omega])
  obtain ⟨z2, hz2'⟩ : ∃ z2, z2 = cf L2 m2 := ⟨_, rfl⟩
  have HIV2 := Lib.hid (show ∀ w, Calls Try.prog 81 #[.int .i64 p, .int .i64 z2] w fun e w' => e = .returned (.int .i64 (ivL p L2)) ∧ w = w' from by
    intro w
    have := HIVC.out w
    rw [hz2', HLC.out]
    exact this)
  rw [← hz2'] at hlc
  obtain ⟨iv, hivv⟩ : ∃ iv, iv = ivL p L2 := ⟨_, rfl⟩
  rw [← hivv] at HIV2 HL0 HQC HST HSTOP HLLEN HLT0 HLE HQB HIVB ⊢
  have HLT := Lib.hid (fun d (hd : d ≤ dvN L1 L2) => show (dvL p L1 L2 iv d).length ≤ dvN L1 L2 - d + (L2.length - 1) from HLT0.out d hd)
  obtain ⟨H, hH⟩ : ∃ H, H = w.heap.size := ⟨_, rfl⟩
  have HHH := Lib.hid hH
  have HNE1 := Lib.hid (show L1 = [] ∨ BlkNe (.slice a1 L1.length cap1) H from by
    rcases HG1.out.rd with h | ⟨g, off, ha, hg, _⟩
    · exact .inl h
    · refine .inr fun g' off' n' c' e => ?_
      simp only [Value.slice.injEq] at e
      rw [ha] at e
      have : g' = g := by have := e.1; simp at this; exact this.1.symm
      omega)
  have hwi1 : IntKind.i64.wrap ((L1.length : Int) - (L2.length : Int)) = (L1.length : Int) - (L2.length : Int) := IntWalk.i64_in _ (by omega)
  have hwi2 : IntKind.i64.wrap ((L1.length : Int) - (L2.length : Int) + 1) = (L1.length : Int) - (L2.length : Int) + 1 := IntWalk.i64_in _ (by omega)
  have hsub2 : (L2.length : Int) - 1 = (m2 : Int) := by omega
  have hm20 : (0 : Int) ≤ (m2 : Int) := by omega
  have hm2lt : (m2 : Int) < (L2.length : Int) := by omega
  have HM2 := Lib.hid hm2
  have hmaxn : (0 ≤ (L1.length : Int) - (L2.length : Int) + 1 ∧ (L1.length : Int) - (L2.length : Int) + 1 = (n : Int)) ∨ (¬ 0 ≤ (L1.length : Int) - (L2.length : Int) + 1 ∧ n = 0) := by
    unfold dvN at hn; omega
  clear hp hE1 hE2 hc1 hc2 hiv hlast HIVC hcc hz2' hivv hm2 HLC hn
  rcases hmaxn with ⟨hge, hneq⟩ | ⟨hlt, hn0⟩
  · skip
    go_enter Try.func74, Try.ntmps74
    go_wp2_with (at_make; refine wpList_make_full _ rfl _ _ 22 rfl w.heap.size 3 i0 (.int .i64 0) 1 Try.underlying22 hi hz0 hz1 .i64 .i64 ((n : Int)) ((n : Int)) n rfl rfl rfl rfl ?c2 ?c3 ?c4 ?_)
    case c2 => rw [hz2]; omega
    case c3 => unfold maxLen; omega
    case c4 => exact Nat.le_refl _
    rw [← hH]
    intro w2 hown hgr
    have HR0 := Lib.hid (show RowN w2 w.heap.size (.slice (some ⟨H, 0, none⟩) n n) (dvO p L1 L2 iv 0) from by rw [dvO_zero, ← HNN.out, ← hH]; exact rowN_make hown)
    have HB2 := Lib.hid (show Below w.heap.size w w2 from (Below.refl w.heap.size w).grown hgr (Nat.le_refl _) (fun k hk => by cases hk))
    have hlc2 : w2.cell? ⟨g2, off2 + m2, none⟩ = some (.int .i64 z2) := (HB2.out.cell (p := ⟨g2, off2 + m2, none⟩) hg2).trans hlc
    have HGI := Lib.hid (HG1.out.below (show Below w.heap.size w w2 from HB2.out))
    clear hown hgr hH
    go_wp2_with fail
    refine (HIV2.out _).mono ?_
    rintro e w3 ⟨rfl, rfl⟩
    go_wp2_with fail
    clear hlc2
    go_loopw [1] (fun f wr => ∃ d : Nat, d ≤ n ∧ Ints wr f (dvL p L1 L2 iv d) ∧ (dvL p L1 L2 iv d = [] ∨ BlkNe f H) ∧ RowN wr w.heap.size (.slice (some ⟨H, 0, none⟩) n n) (dvO p L1 L2 iv d) ∧ Below w.heap.size w wr) (fun f _ => lenV f)
    case atStart => exact ⟨0, by omega, by rw [HL0.out]; exact HGI.out, by rw [HL0.out]; exact HNE1.out, HR0.out, HB2.out⟩
    case round =>
      clear HR0 HGI HB2
      obtain ⟨d, hd, hf, hne, hr, hb⟩ := hrel
      have HNE := Lib.hid hne
      clear hne
      have HF := Lib.hid hf
      have HR := Lib.hid hr
      have HB := Lib.hid hb
      have hd2 : d ≤ dvN L1 L2 := by rw [← HNN.out]; exact hd
      have hml := HLLEN.out d hd2
      obtain ⟨m, hm⟩ : ∃ m, m = (dvL p L1 L2 iv d).length := ⟨_, rfl⟩
      obtain ⟨_, af, cf', rfl, _⟩ := hf
      rw [← hm] at HF hml ⊢
      have HM := Lib.hid hm
      clear hr hb hm
      by_cases hge2 : L2.length ≤ m
      · obtain ⟨q, hq⟩ : ∃ q, m = L2.length + q := ⟨m - L2.length, by omega⟩
        obtain ⟨s1, s2, s3, s4⟩ := HST.out d q hd2 (by rw [← HM.out]; exact hq)
        obtain ⟨gf, offf, rfl, hgf, hcf⟩ := (show Ints wr (.slice af (dvL p L1 L2 iv d).length cf') (dvL p L1 L2 iv d) from by rw [← HM.out]; exact HF.out).cell (by rw [← HM.out]; omega)
        have hcx := hcf (L2.length + q - 1) (by rw [← HM.out]; omega)
        have hxb := HLE.out d hd2 (L2.length + q - 1)
        obtain ⟨x, hx⟩ : ∃ x, x = cf (dvL p L1 L2 iv d) (L2.length + q - 1) := ⟨_, rfl⟩
        rw [← hx] at hcx hxb s2
        obtain ⟨t, ht⟩ : ∃ t, t = dvQ p L1 L2 iv (dvN L1 L2) q := ⟨_, rfl⟩
        have htb := HQB.out q
        rw [← ht] at s2 s3 s4 htb
        have HL2 := Lib.hid (fun w' (hbb : Below wr.heap.size wr w') (hh : Ints w' (.slice (some ⟨gf, offf, none⟩) m cf') (dvL p L1 L2 iv d)) (hg : Ints w' (.slice (some ⟨g2, off2, none⟩) L2.length cap2) L2) => sLess p t q _ _ (dvL p L1 L2 iv d) L2 w' HP.out hh hg (HLE.out d hd2) HE2.out htb.1 htb.2 (by rw [← HM.out]; omega) (by omega) (by omega))
        have HS3 := Lib.hid (show lesL p (dvL p L1 L2 iv d) L2 t q = dvL p L1 L2 iv (n - q) from by unfold lesL; rw [s3, HNN.out])
        rw [HS3.out] at HL2
        have hqn : q < n := by have := HNN.out; omega
        have hqI : (q : Int) < (n : Int) := by omega
        have hq0 : (0 : Int) ≤ (q : Int) := by omega
        have hmgeI : (m : Int) ≥ (L2.length : Int) := by omega
        have hwq : (m : Int) - (L2.length : Int) = (q : Int) := by omega
        have hm1 : (m : Int) - 1 = ((L2.length + q - 1 : Nat) : Int) := by omega
        obtain ⟨r, hrr⟩ : ∃ r, r = L2.length + q - 1 := ⟨_, rfl⟩
        rw [← hrr] at hcx hm1
        have hr0 : (0 : Int) ≤ (r : Int) := by omega
        have hr100 : (r : Int) ≤ 100 := by omega
        have hq100 : (q : Int) ≤ 100 := by omega
        have hrm : (r : Int) < (m : Int) := by omega
        have hxi := mul_bd HP.out hxb.1 hxb.2 HIVB.out.1 HIVB.out.2
        have hw1 : IntKind.i64.wrap (x * iv) = x * iv := IntWalk.i64_in _ (by omega)
        have htm : (x * iv).tmod p = t := by rw [← s2]; exact Int.tmod_eq_emod_of_nonneg (by omega)
        have hpn : ¬ p = 0 := by omega
        have hw3 : IntKind.i64.wrap t = t := IntWalk.i64_in _ (by omega)
        have HLN := Lib.hid (show (dvO p L1 L2 iv d).length = n from by unfold dvO; rw [lsU_len]; exact HNN.out.symm)
        have HN := Lib.hid (show (dvO p L1 L2 iv d).set q t = dvO p L1 L2 iv (n - q) from by rw [s4, HNN.out])
        have HRR := Lib.hid (show RowN wr w.heap.size (.slice (some ⟨H, 0, none⟩) (dvO p L1 L2 iv d).length n) (dvO p L1 L2 iv d) from by rw [HLN.out]; exact HR.out)
        have hHs := (HRR.out.lt H rfl).2
        obtain ⟨x0, e0⟩ : ∃ x0, wr.cell? ⟨H, q, none⟩ = some x0 := ⟨_, HRR.out.cell (by rw [HLN.out]; omega)⟩
        have f0 := HRR.out.froz rfl q
        obtain ⟨Ws, hWs⟩ : ∃ Ws, Ws = wr.setCell ⟨H, q, none⟩ (.int .i64 t) := ⟨_, rfl⟩
        have HRS := Lib.hid (show RowN Ws w.heap.size (.slice (some ⟨H, 0, none⟩) n n) (dvO p L1 L2 iv (n - q)) from by
          have := HRR.out.set q t
          rw [HN.out, HLN.out, ← hWs] at this
          exact this)
        have HBS := Lib.hid (show Below w.heap.size w Ws from by rw [hWs]; exact HB.out.setCell (by rw [HHH.out]; exact Nat.le_refl _) _)
        have hcS : Ws.cell? ⟨H, q, none⟩ = some (.int .i64 t) := by rw [hWs]; exact World.cell?_setCell_same _ _ _ e0
        have hgne : gf ≠ H := (HNE.out.resolve_left (fun e => by have := HM.out; rw [e] at this; simp at this; omega)) gf offf _ cf' rfl
        have hFS : Ints Ws (.slice (some ⟨gf, offf, none⟩) m cf') (dvL p L1 L2 iv d) := by
          refine ⟨by rw [← HM.out]; omega, _, cf', by rw [← HM.out], .inr ⟨gf, offf, rfl, by rw [hWs]; simpa using hgf, fun j hj => ?_⟩⟩
          rw [hWs, World.cell?_setCell_other _ _ _ _ (fun e => hgne (congrArg Addr.block e).symm)]
          exact hcf j hj
        have HFS := Lib.hid hFS
        have hGS : Below w.heap.size w Ws := HBS.out
        have HFL := Lib.hid (sLess p t q _ _ (dvL p L1 L2 iv d) L2 Ws HP.out hFS (HG2.out.below hGS) (HLE.out d hd2) HE2.out htb.1 htb.2 (by rw [← HM.out]; omega) (by omega) (by omega))
        rw [HS3.out] at HFL
        have HWS := Lib.hid hWs
        clear hcf hx ht s1 s2 s3 s4 hrr hxi htb hxb hFS hGS hq hd2 hml hgne
        go_wp2_with fail
        rw [← HWS.out]
        go_wp2_with fail
        refine HFL.out.mono ?_
        rintro e w5 ⟨u5, rfl, hu5, hb5⟩
        have hlf : (dvL p L1 L2 iv (n - q)).length ≤ 50 := HLLEN.out _ (by have := HNN.out; omega)
        obtain ⟨a5, c5, rfl⟩ := hu5.form
        have H5 := Lib.hid (show Ints w5 (.slice a5 (dvL p L1 L2 iv (n - q)).length c5) (dvL p L1 L2 iv (n - q)) ∧ (dvL p L1 L2 iv (n - q) = [] ∨ BlkNe (.slice a5 (dvL p L1 L2 iv (n - q)).length c5) H) ∧ RowN w5 w.heap.size (.slice (some ⟨H, 0, none⟩) n n) (dvO p L1 L2 iv (n - q)) ∧ Below w.heap.size w w5 from by
          refine ⟨(hu5.ilr (by omega)).ints, .inr fun g' off' n' c' e => ?_, HRS.out.below hb5, HBS.out.trans (hb5.mono HBS.out.size)⟩
          simp only [Value.slice.injEq] at e
          have h1 := (World.ownsRow.lt hu5 g' (by rw [e.1]; rfl)).1
          have h2 := (World.ownsRow.lt HRS.out H rfl).2
          omega)
        have hlt5 : (dvL p L1 L2 iv (n - q)).length < m := by
          have h1 := HLT.out (n - q) (by have := HNN.out; omega)
          have h2 := HNN.out
          omega
        clear hu5 hb5 hlf
        go_wp2_with fail
        go_roundw
        case rel => exact ⟨n - q, by omega, H5.out⟩
        case measure => simp [lenV]; omega
      · obtain ⟨s1, s2⟩ := HSTOP.out d hd2 (by rw [← HM.out]; omega)
        have hnl : ¬ (m : Int) ≥ (L2.length : Int) := by omega
        rw [s2] at HR
        have HS1 := Lib.hid s1
        clear s1 s2 hd2 hml
        have HDQ := Lib.hid (show (divQ p L1 L2 iv).length = n from by rw [divQ_len]; exact HNN.out.symm)
        have HT := Lib.hid (sTrim _ _ wr (HR.out.ilr (by rw [HDQ.out]; omega)) (by rw [HDQ.out]; omega))
        rw [trim_of HQC.out] at HT
        have HF2 := Lib.hid (show Ints wr (.slice af m cf') (divR p L1 L2 iv) from by rw [← HS1.out]; exact HF.out)
        go_wp2_with fail
        refine HT.out.mono ?_
        rintro e w5 ⟨u5, rfl, hu5, hb5⟩
        have H5 := Lib.hid (show RowN w5 w.heap.size u5 (divQ p L1 L2 iv) ∧ Ints w5 (.slice af m cf') (divR p L1 L2 iv) ∧ Below w.heap.size w w5 from ⟨hu5.base HB.out.size, HF2.out.below hb5, HB.out.trans (hb5.mono HB.out.size)⟩)
        clear hu5 hb5
        go_wp2_with fail
        refine bodyPost_ret (v := .tuple #[u5, .slice af m cf']) (by simp [results, Try.results74, go_sem]) rfl ⟨_, _, rfl, H5.out⟩
  · subst hn0
    go_enter Try.func74, Try.ntmps74
    go_wp2_with (at_make; refine wpList_make_full _ rfl _ _ 22 rfl w.heap.size 3 i0 (.int .i64 0) 1 Try.underlying22 hi hz0 hz1 .i64 .i64 (0) (0) 0 rfl rfl rfl rfl ?c2 ?c3 ?c4 ?_)
    rw [← hH]
    intro w2 hown hgr
    have HR0 := Lib.hid (show RowN w2 w.heap.size (.slice (some ⟨H, 0, none⟩) 0 0) (dvO p L1 L2 iv 0) from by rw [dvO_zero, ← HNN.out, ← hH]; exact rowN_make hown)
    have HB2 := Lib.hid (show Below w.heap.size w w2 from (Below.refl w.heap.size w).grown hgr (Nat.le_refl _) (fun k hk => by cases hk))
    have hlc2 : w2.cell? ⟨g2, off2 + m2, none⟩ = some (.int .i64 z2) := (HB2.out.cell (p := ⟨g2, off2 + m2, none⟩) hg2).trans hlc
    have HGI := Lib.hid (HG1.out.below (show Below w.heap.size w w2 from HB2.out))
    clear hown hgr hH
    go_wp2_with fail
    refine (HIV2.out _).mono ?_
    rintro e w3 ⟨rfl, rfl⟩
    go_wp2_with fail
    clear hlc2
    go_loopw [1] (fun f wr => ∃ d : Nat, d ≤ 0 ∧ Ints wr f (dvL p L1 L2 iv d) ∧ (dvL p L1 L2 iv d = [] ∨ BlkNe f H) ∧ RowN wr w.heap.size (.slice (some ⟨H, 0, none⟩) 0 0) (dvO p L1 L2 iv d) ∧ Below w.heap.size w wr) (fun f _ => lenV f)
    case atStart => exact ⟨0, by omega, by rw [HL0.out]; exact HGI.out, by rw [HL0.out]; exact HNE1.out, HR0.out, HB2.out⟩
    case round =>
      clear HR0 HGI HB2
      obtain ⟨d, hd, hf, hne, hr, hb⟩ := hrel
      have HNE := Lib.hid hne
      clear hne
      have HF := Lib.hid hf
      have HR := Lib.hid hr
      have HB := Lib.hid hb
      have hd2 : d ≤ dvN L1 L2 := by rw [← HNN.out]; exact hd
      have hml := HLLEN.out d hd2
      obtain ⟨m, hm⟩ : ∃ m, m = (dvL p L1 L2 iv d).length := ⟨_, rfl⟩
      obtain ⟨_, af, cf', rfl, _⟩ := hf
      rw [← hm] at HF hml ⊢
      have HM := Lib.hid hm
      clear hr hb hm
      by_cases hge2 : L2.length ≤ m
      · obtain ⟨q, hq⟩ : ∃ q, m = L2.length + q := ⟨m - L2.length, by omega⟩
        obtain ⟨s1, s2, s3, s4⟩ := HST.out d q hd2 (by rw [← HM.out]; exact hq)
        exact absurd s1 (by have := HNN.out; omega)
      · obtain ⟨s1, s2⟩ := HSTOP.out d hd2 (by rw [← HM.out]; omega)
        have hnl : ¬ (m : Int) ≥ (L2.length : Int) := by omega
        rw [s2] at HR
        have HS1 := Lib.hid s1
        clear s1 s2 hd2 hml
        have HDQ := Lib.hid (show (divQ p L1 L2 iv).length = 0 from by rw [divQ_len]; exact HNN.out.symm)
        have HT := Lib.hid (sTrim _ _ wr (HR.out.ilr (by rw [HDQ.out]; omega)) (by rw [HDQ.out]; omega))
        rw [trim_of HQC.out] at HT
        have HF2 := Lib.hid (show Ints wr (.slice af m cf') (divR p L1 L2 iv) from by rw [← HS1.out]; exact HF.out)
        go_wp2_with fail
        refine HT.out.mono ?_
        rintro e w5 ⟨u5, rfl, hu5, hb5⟩
        have H5 := Lib.hid (show RowN w5 w.heap.size u5 (divQ p L1 L2 iv) ∧ Ints w5 (.slice af m cf') (divR p L1 L2 iv) ∧ Below w.heap.size w w5 from ⟨hu5.base HB.out.size, HF2.out.below hb5, HB.out.trans (hb5.mono HB.out.size)⟩)
        clear hu5 hb5
        go_wp2_with fail
        refine bodyPost_ret (v := .tuple #[u5, .slice af m cf']) (by simp [results, Try.results74, go_sem]) rfl ⟨_, _, rfl, H5.out⟩
end Go.Proofs.Ytfmpcniehgipfaa
namespace Go.Proofs.Ytfmpcniehgipfaa
set_option linter.unusedVariables false
open Go.RowKit Go.Shelf
attribute [local go_sem] Oper.semAt_some
set_option maxRecDepth 100000 in
set_option maxHeartbeats 16000000 in
theorem iDivided (p : Int) (v1 v2 : Value) (L1 L2 : List Int) (w : World) (hp : isP p = true) (h1 : Elr w v1 p L1) (h2 : Elr w v2 p L2) (hE1 : AllE p L1) (hE2 : AllE p L2) (hc2 : Can L2) (hl1 : L1.length ≤ 400) (hl2 : L2.length ≤ 400) (h20 : 0 < L2.length) :
    Calls Try.prog 76 #[v1, v2] w fun e w' => ∃ u r, e = .returned (.tuple #[u, r]) ∧ Elr w' u p (divQ p L1 L2 (ivL p L2)) ∧ Elr w' r p (divR p L1 L2 (ivL p L2)) ∧ Below w.heap.size w w' := by
  obtain ⟨hpb1, hpb2⟩ := isP_bd hp
  obtain ⟨i0, hi, hz0, hz1, hz2⟩ := info_parts infoE
  have hlast := can_last hc2 hE2 h20
  obtain ⟨iv, hivv⟩ : ∃ iv, iv = ivL p L2 := ⟨_, rfl⟩
  have hIT : ∀ a, a = cf L2 (L2.length - 1) → invT p a = .tuple #[(.agg #[.int .i64 (p), .int .i64 (iv)]), .bool true] := fun a ha => by
    subst ha; exact invT_ok hp hlast.1 hlast.2 hivv
  have hivb : 0 ≤ iv ∧ iv < p := by rw [hivv]; exact (invF_iv hp _ hlast.1 hlast.2).2
  rw [← hivv]
  have HP := Lib.hid hp
  have HE1 := Lib.hid hE1
  have HE2 := Lib.hid hE2
  have HG1 := Lib.hid h1
  have HG2 := Lib.hid h2
  have HIVB := Lib.hid hivb
  have HCL := Lib.hid (fun w' (hb : Below w.heap.size w w') => iCloneE p v1 L1 w' (h1.below hb))
  obtain ⟨a1, cap1, rfl⟩ := h1.form
  obtain ⟨g2, off2, cap2, rfl, _, hg2, hcc⟩ := h2.some h20
  obtain ⟨m2, hm2⟩ : ∃ m2, L2.length = m2 + 1 := ⟨L2.length - 1, by omega⟩
  obtain ⟨lc0, lc1⟩ := hcc m2 (by omega)
  obtain ⟨z2, hz2'⟩ : ∃ z2, z2 = cf L2 m2 := ⟨_, rfl⟩
  have hzl : z2 = cf L2 (L2.length - 1) := by rw [hz2', show L2.length - 1 = m2 by omega]
  have HINV := Lib.hid (show ∀ w, Calls Try.prog 86 #[(.agg #[.int .i64 (p), .int .i64 (z2)])] w fun e w' => e = .returned (.tuple #[(.agg #[.int .i64 (p), .int .i64 (iv)]), .bool true]) ∧ Below w.heap.size w w' from by
    intro w
    rw [← hIT z2 hzl]
    exact iInv p z2 hp (by rw [hzl]; exact Int.le_of_lt hlast.1) (by rw [hzl]; exact hlast.2) w)
  rw [← hz2'] at lc1
  obtain ⟨n, hn⟩ : ∃ n, n = dvN L1 L2 := ⟨_, rfl⟩
  have hn50 : n ≤ 400 := by unfold dvN at hn; omega
  have HNN := Lib.hid hn
  have hsub2 : (L2.length : Int) - 1 = (m2 : Int) := by omega
  have hm20 : (0 : Int) ≤ (m2 : Int) := by omega
  have hm2lt : (m2 : Int) < (L2.length : Int) := by omega
  have hne0 : ((L2.length : Int) == 0) = false := beq_eq_false_iff_ne.2 (by omega)
  have hwi1 : IntKind.i64.wrap ((L1.length : Int) - (m2 : Int)) = (L1.length : Int) - (m2 : Int) := IntWalk.i64_in _ (by omega)
  have hmaxn : ((L1.length : Int) - (m2 : Int) ≤ 0 ∧ n = 0) ∨ (¬ (L1.length : Int) - (m2 : Int) ≤ 0 ∧ (L1.length : Int) - (m2 : Int) = (n : Int)) := by
    unfold dvN at hn; omega
  have HM2 := Lib.hid hm2
  have HCC := Lib.hid hcc
  clear hp h1 h2 hE1 hE2 hc2 hlast hIT hivb hcc hz2' hzl hm2 hn hivv
  refine (callsIn_wide (n := 40)).1 ?_
  refine callsIn_of_wp_marks Try.func76 rfl trivial ?_ rfl
  simp only [Try.ntmps76, List.size_toArray, List.length_cons, List.length_nil, Nat.reduceAdd, Nat.reduceSub, Array.replicate_succ, Array.replicate_zero, List.push_toArray, List.append_toArray, List.nil_append, List.cons_append]
  refine wpIn_wide.2 ?_
  rcases hmaxn with ⟨hmle, hn0⟩ | ⟨hmle, hneq⟩
  · subst hn0
    have HD0 := Lib.hid (show divQ p L1 L2 iv = [] ∧ divR p L1 L2 iv = trimL L1 from by
      refine ⟨?_, ?_⟩
      · unfold divQ; rw [← HNN.out]; rfl
      · unfold divR; rw [← HNN.out]; show trimL (lsU L1.length (cf L1)) = _; rw [lsU_of])
    go_wp2_with fail
    refine (HINV.out _).mono ?_
    rintro e w3 ⟨rfl, hb3⟩
    have hz3 : w.heap.size + 2 ≤ w3.heap.size := by have := hb3.size; simp at this; omega
    have k0 : w3.cell? ⟨w.heap.size, 0, none⟩ = some (.slice (some ⟨g2, off2, none⟩) L2.length cap2) := by
      rw [hb3.cell (p := ⟨w.heap.size, 0, none⟩) (by simp <;> omega)]; simp [go_sem]
    have k1 : w3.cell? ⟨w.heap.size + 1, 0, none⟩ = some (.int .i64 m2) := by
      rw [hb3.cell (p := ⟨w.heap.size + 1, 0, none⟩) (by simp <;> omega)]; simp [go_sem]
    have HB3 := Lib.hid (show Below w.heap.size w w3 from (show Below w.heap.size w ((w.alloc (Obj.cells #[.slice (some ⟨g2, off2, none⟩) L2.length cap2] 63)).alloc (Obj.cells #[.int .i64 m2] 3)) from (by repeat (first | exact Below.refl _ _ | apply Below.drew | apply below_drewN | (refine Below.alloc ?_ (by first | omega | (simp <;> omega)) _)))).trans (hb3.mono (by simp <;> omega)))
    have hgb3 : w.heap.size < w3.heap.size := by omega
    have hgb4 : w.heap.size + 1 < w3.heap.size := by omega
    have hgb5 : w.heap.size < w3.heap.size + 1 := by omega
    have hgb6 : w.heap.size + 1 < w3.heap.size + 1 := by omega
    clear hb3 lc0 lc1
    go_wp2_with (at_make; refine wpList_make_full _ rfl _ _ 63 rfl w.heap.size 61 i0 (.agg #[.int .i64 0, .int .i64 0]) 2 Try.underlying63 hi hz0 hz1 .i64 .i64 0 0 0 rfl rfl rfl rfl ?c2 ?c3 ?c4 ?_)
    case c2 => rw [hz2]; omega
    case c3 => unfold maxLen; omega
    case c4 => simp; omega
    intro w4 hown hgr
    obtain ⟨W1, hW1⟩ : ∃ W1, W1 = w3.alloc (Obj.cells #[.int .i64 p, .int .i64 iv] 61) := ⟨_, rfl⟩
    have hsW1 : W1.heap.size = w3.heap.size + 1 := by rw [hW1]; simp
    have hown2 : w4.ownsRow w.heap.size 61 2 (.slice (some ⟨w3.heap.size + 1, 0, none⟩) 0 0) 0 (madeCells #[.int .i64 0, .int .i64 0] (0 * 2)).toList := by
      exact hown
    have hb4 : Below w3.heap.size w3 w4 := (Below.alloc (Below.refl w3.heap.size w3) (Nat.le_refl _) _).grown hgr (by simp) (fun k hk => by cases hk)
    have hI4 : BoxE w3.heap.size p iv w4 := by
      have h := BoxE.new w3 p iv 61
      exact h.heap (hgr.block _ h.lt (fun e => by cases e))
    have hQ4 := elc_make hown2
    have hB4 : Below w.heap.size w w4 := HB3.out.trans (hb4.mono HB3.out.size)
    have k0' : w4.cell? ⟨w.heap.size, 0, none⟩ = some (.slice (some ⟨g2, off2, none⟩) L2.length cap2) := (hb4.cell (p := ⟨w.heap.size, 0, none⟩) (by show w.heap.size < _; omega)).trans k0
    have k1' : w4.cell? ⟨w.heap.size + 1, 0, none⟩ = some (.int .i64 m2) := (hb4.cell (p := ⟨w.heap.size + 1, 0, none⟩) (by show w.heap.size + 1 < _; omega)).trans k1
    have hs4 : w3.heap.size + 2 ≤ w4.heap.size := by have := hQ4.lt; omega
    have H4 := Lib.hid (And.intro hI4 (And.intro hQ4 (And.intro hB4 (And.intro k0' k1'))))
    obtain ⟨ib, hib⟩ : ∃ ib, ib = w3.heap.size := ⟨_, rfl⟩
    have hqb : w3.heap.size + 1 = ib + 1 := by omega
    rw [← hib] at H4 ⊢
    have hib3 : w.heap.size + 2 ≤ ib := by omega
    have hib4 : ib + 2 ≤ w4.heap.size := by omega
    clear hW1 hsW1 hown hown2 hgr hb4 hI4 hQ4 hB4 k0 k1 k0' k1' hs4 hib hqb hz3 hgb3 hgb4 hgb5 hgb6 HB3
    go_wp2_with fail
    refine (HCL.out _ (H4.out.2.2.1.alloc H4.out.2.2.1.size _)).mono ?_
    rintro e w5 ⟨u, rfl, hu, hb5⟩
    have HUE := Lib.hid (hu.elr (by omega))
    obtain ⟨ua, uc, rfl⟩ := (hu.elr (by omega)).form
    have hsz5 : w4.heap.size + 1 ≤ w5.heap.size := by have := hb5.size; simp at this; omega
    obtain ⟨qx, hqx⟩ : ∃ qx, qx = w4.heap.size := ⟨_, rfl⟩
    have hq5 : w5.cell? ⟨qx, 0, none⟩ = some (.slice (some ⟨ib + 1, 0, none⟩) 0 0) := by
      rw [hqx, hb5.cell (p := ⟨w4.heap.size, 0, none⟩) (by simp)]; simp [go_sem]
    have hb45 : Below w4.heap.size w4 w5 := (Below.alloc (Below.refl w4.heap.size w4) (Nat.le_refl _) _).trans (hb5.mono (by simp))
    have hB5 : Below w.heap.size w w5 := H4.out.2.2.1.trans (hb45.mono H4.out.2.2.1.size)
    have hqx5 : qx < w5.heap.size := by omega
    have hibq : ib + 1 < qx := by have := H4.out.2.1.lt; omega
    have H5 := Lib.hid (And.intro hB5 hq5)
    rw [← hqx]
    clear hu hb5 hb45 hB5 hqx H4 hib4
    go_wp2_with fail
    refine (bke_valP _ _ _ _).mono ?_
    rintro e w6 ⟨rfl, rfl⟩
    go_wp2_with fail
    refine (wpIn_wide (n := 40)).1 ?_
    obtain ⟨rx, hrx⟩ : ∃ rx, rx = w5.heap.size := ⟨_, rfl⟩
    obtain ⟨W0, hW0⟩ : ∃ W0, W0 = ((w5.alloc (Obj.cells #[Value.slice ua L1.length uc] 63)).alloc (Obj.cells #[Value.slice (some ⟨ib + 1, 0, none⟩) 0 0] 63)) := ⟨_, rfl⟩
    rw [← hW0, ← hrx]
    have s0 : W0.heap.size = rx + 2 := by rw [hW0, hrx]; simp
    have b0 : Below w5.heap.size w5 W0 := by rw [hW0]; exact (by repeat (first | exact Below.refl _ _ | apply Below.drew | apply below_drewN | (refine Below.alloc ?_ (by first | omega | (simp <;> omega)) _)))
    have cR : W0.cell? ⟨rx, 0, none⟩ = some (.slice ua L1.length uc) := by rw [hW0, World.cell?_alloc_past _ _ _ (by rw [hrx]; simp), hrx]; exact World.cell?_alloc_at _ _ _ _ rfl
    have cS : W0.cell? ⟨rx + 1, 0, none⟩ = some (.slice (some ⟨ib + 1, 0, none⟩) 0 0) := by rw [hW0, hrx]; exact World.cell?_alloc_at _ _ _ _ (by simp)
    have cQ : W0.cell? ⟨qx, 0, none⟩ = some (.slice (some ⟨ib + 1, 0, none⟩) 0 0) := (b0.cell (p := ⟨qx, 0, none⟩) hqx5).trans H5.out.2
    have HW := Lib.hid (show Elr W0 (.slice ua L1.length uc) p L1 ∧ Below w.heap.size w W0 ∧ W0.cell? ⟨rx, 0, none⟩ = some (.slice ua L1.length uc) ∧ W0.cell? ⟨rx + 1, 0, none⟩ = some (.slice (some ⟨ib + 1, 0, none⟩) 0 0) ∧ W0.cell? ⟨qx, 0, none⟩ = some (.slice (some ⟨ib + 1, 0, none⟩) 0 0) from ⟨HUE.out.below b0, H5.out.1.trans (b0.mono H5.out.1.size), cR, cS, cQ⟩)
    have HORD := Lib.hid (show ib + 1 < qx ∧ qx < rx ∧ w.heap.size + 2 ≤ ib ∧ W0.heap.size = rx + 2 from by omega)
    have HKB := Lib.hid (fun (Wx : World) (hx : KpV (fun _ _ => False) W0 Wx) => show Below W0.heap.size W0 Wx from ⟨hx.os, hx.tape, hx.output, hx.size, fun k hk => hx.same k hk (fun q => q.elim)⟩)
    clear hW0 b0 cR cS cQ hq5 H5 HUE hrx hsz5 hib3
    refine wpIn_rangeVals2 (enc := encB) (S := bkS 0 (fun _ => (0, 0)) 0) rfl (by omega) (gf := 141) (lb := #[.pointer (some ⟨rx + 1, 0, none⟩)]) rfl trivial (enters_of Try.func141 (by kernel_rfl) rfl)
      (bke_seq (40 - 1) (rx + 1) 0 (ib + 1) 0 0 (some ⟨ib + 1, 0, none⟩) (fun _ => (0, 0)) (by omega) (by omega) (.inl rfl)) (fun x => rfl) (fun _ _ => False) (fun A k hk => hk.elim)
      (fun pre Wc => KpV (fun _ _ => False) W0 Wc)
      (fun s A C k hs hgr q => q)
      (fun s A C hs hgr => hs.grow (Nat.le_refl _) hgr (fun k q => q))
      (fun pre Wc hs => ⟨((HKB.out Wc hs).cell (p := ⟨rx + 1, 0, none⟩) (by have := HORD.out; show rx + 1 < _; omega)).trans HW.out.2.2.2.1, fun i hi => by omega⟩)
      (fun c pre Wc => False) (fun c s A C hs hgr => hs) (fun c s A C k hs => hs.elim)
      (KpV.refl _ _)
      (fun t a' Wc => True)
      (fun t a' _ A C hs hgr => hs) ?assign ?body ?done ?stop
    case assign =>
      rintro l2 pre t post Wc K q4 hS hs hK
      simp [bkS] at hS
    case stop =>
      rintro D c pre t post0 Wd hD hS hF hKD
      exact hF.elim
    case body =>
      rintro l2 pre t post a' Wc q4 _ hS hs
      simp [bkS] at hS
    case done =>
      rintro D Wd hD hnD q4 hKD
      have hBd := HKB.out Wd q4
      have HBD := Lib.hid (show Below w.heap.size w Wd from HW.out.2.1.trans (hBd.mono HW.out.2.1.size))
      have HRD := Lib.hid (HW.out.1.below hBd)
      have cqx : Wd.cell? ⟨qx, 0, none⟩ = some (.slice (some ⟨ib + 1, 0, none⟩) 0 0) := (hBd.cell (p := ⟨qx, 0, none⟩) (by have := HORD.out; show qx < _; omega)).trans HW.out.2.2.2.2
      have crx : Wd.cell? ⟨rx, 0, none⟩ = some (.slice ua L1.length uc) := (hBd.cell (p := ⟨rx, 0, none⟩) (by have := HORD.out; show rx < _; omega)).trans HW.out.2.2.1
      have hibd : ib + 1 < Wd.heap.size := by have := HORD.out; have := hBd.size; omega
      have HKD := Lib.hid hKD
      clear hKD hBd
      simp only [Exit.inBlock]
      rename_i hcont
      refine hcont _ _ ?_
      have HTT := Lib.hid (fun w' (hb : Below Wd.heap.size Wd w') => iTrimmed p (.slice ua L1.length uc) L1 w' HP.out (HRD.out.below hb) HE1.out (by omega))
      have HCX := Lib.hid (fun w' (hb : Below Wd.heap.size Wd w') => show w'.cell? ⟨qx, 0, none⟩ = some (.slice (some ⟨ib + 1, 0, none⟩) 0 0) ∧ w'.cell? ⟨rx, 0, none⟩ = some (.slice ua L1.length uc) from
        ⟨(hb.cell (p := ⟨qx, 0, none⟩) (World.block_lt_of_cell? _ ⟨qx, 0, none⟩ cqx)).trans cqx, (hb.cell (p := ⟨rx, 0, none⟩) (World.block_lt_of_cell? _ ⟨rx, 0, none⟩ crx)).trans crx⟩)
      have HIBD := Lib.hid hibd
      clear cqx crx hibd
      go_wp2_with fail
      rename_i KK hKK
      refine Go.wp_mono (Q := fun e a w => e = Exit.normal ∧ KK a w) ?_ (by rintro e a w ⟨rfl, h⟩; exact h)
      refine wp_region_seq [(0, true), (1, true), (2, false), (3, true)] (fun w' => w'.cell? ⟨qx, 0, none⟩ = some (.slice (some ⟨ib + 1, 0, none⟩) 0 0) ∧ w'.cell? ⟨rx, 0, none⟩ = some (.slice ua L1.length uc)) (by kernel_rfl) (by kernel_rfl) rfl (by rintro c a d v w ⟨h, _⟩; cases h) (HCX.out _ (Below.drew (Below.refl _ _))) ?_
      iterate 2 (refine wpSeq_take (v := ?_) (List.getElem?_toArray.trans rfl) ?_ ?_; rotate_left; (intro w' hSw; (try dsimp only at hSw); go_simp; (try with_reducible rfl)); (try simp only [Act.put, List.setIfInBounds_toArray, List.set_cons_zero, List.set_cons_succ]))
      refine wpSeq_do (List.getElem?_toArray.trans rfl) (fun K hK => ?_)
      go_simp
      refine (HTT.out _ (Below.drew (Below.refl _ _))).mono ?_
      rintro e w7 ⟨u7, rfl, hu7, hb7⟩
      have hb7' : Below Wd.heap.size Wd w7 := (Below.drew (Below.refl _ _)).trans (hb7.mono (by simp))
      have hrl : (trimL L1).length ≤ 1048576 := by
        have := trim_len L1
        omega
      have H7 := Lib.hid (show Elr w7 (.slice (some ⟨ib + 1, 0, none⟩) 0 0) p (divQ p L1 L2 iv) ∧ Elr w7 u7 p (divR p L1 L2 iv) ∧ Below w.heap.size w w7 ∧ w7.heap[D]? = some (.deferred (some [])) from by
        refine ⟨?_, by rw [HD0.out.2]; exact hu7.elr hrl, HBD.out.trans (hb7'.mono HBD.out.size), (hb7'.block D (Array.getElem?_eq_some_iff.1 HKD.out).1).trans HKD.out⟩
        rw [HD0.out.1]
        exact ⟨by simp, _, 0, rfl, ⟨Nat.le_refl _, by unfold maxLen; omega⟩, .inr ⟨ib + 1, 0, rfl, Nat.lt_of_lt_of_le HIBD.out hb7'.size, fun j hj => by simp at hj⟩⟩)
      refine hK _ _ (HCX.out _ hb7') ?_
      clear hK K hu7 hb7 hb7' hrl
      (refine wpSeq_take (v := ?_) (List.getElem?_toArray.trans rfl) ?_ ?_; rotate_left; (intro w' hSw; (try dsimp only at hSw); go_simp; (try with_reducible rfl)); (try simp only [Act.put, List.setIfInBounds_toArray, List.set_cons_zero, List.set_cons_succ]))
      refine wpSeq_nil ?_
      simp only [Exit.then]
      go_wp2_with fail
      obtain ⟨f1, f2, f3, f4⟩ := H7.out
      have hg := GrowB.putObj (B := w.heap.size) (.deferred none) (show w.heap.size ≤ D by have := HORD.out; omega) f4 rfl
      have hput := belowK_b (w := w) (Nat.le_refl _) w7 D _ (.deferred none) (by have := HORD.out; omega) f4 rfl rfl
      refine ⟨by simp, .inl ⟨_, _, rfl, run_takeDeferred f4, ?_⟩⟩
      exact ⟨.tuple #[.slice (some ⟨ib + 1, 0, none⟩) 0 0, u7], (by simp [results, Try.results76, go_sem]), _, _, rfl, f1.grow hg, f2.grow hg, f3.trans hput⟩
  · have HNE := Lib.hid hneq
    go_wp2_with fail
    refine (HINV.out _).mono ?_
    rintro e w3 ⟨rfl, hb3⟩
    have hz3 : w.heap.size + 2 ≤ w3.heap.size := by have := hb3.size; simp at this; omega
    have k0 : w3.cell? ⟨w.heap.size, 0, none⟩ = some (.slice (some ⟨g2, off2, none⟩) L2.length cap2) := by
      rw [hb3.cell (p := ⟨w.heap.size, 0, none⟩) (by simp <;> omega)]; simp [go_sem]
    have k1 : w3.cell? ⟨w.heap.size + 1, 0, none⟩ = some (.int .i64 m2) := by
      rw [hb3.cell (p := ⟨w.heap.size + 1, 0, none⟩) (by simp <;> omega)]; simp [go_sem]
    have HB3 := Lib.hid (show Below w.heap.size w w3 from (show Below w.heap.size w ((w.alloc (Obj.cells #[.slice (some ⟨g2, off2, none⟩) L2.length cap2] 63)).alloc (Obj.cells #[.int .i64 m2] 3)) from (by repeat (first | exact Below.refl _ _ | apply Below.drew | apply below_drewN | (refine Below.alloc ?_ (by first | omega | (simp <;> omega)) _)))).trans (hb3.mono (by simp <;> omega)))
    have hgb3 : w.heap.size < w3.heap.size := by omega
    have hgb4 : w.heap.size + 1 < w3.heap.size := by omega
    have hgb5 : w.heap.size < w3.heap.size + 1 := by omega
    have hgb6 : w.heap.size + 1 < w3.heap.size + 1 := by omega
    clear hb3 lc0 lc1
    go_wp2_with (at_make; refine wpList_make_full _ rfl _ _ 63 rfl w.heap.size 61 i0 (.agg #[.int .i64 0, .int .i64 0]) 2 Try.underlying63 hi hz0 hz1 .i64 .i64 (n : Int) (n : Int) n rfl rfl rfl rfl ?c2 ?c3 ?c4 ?_)
    case c2 => rw [hz2]; omega
    case c3 => unfold maxLen; omega
    case c4 => simp; omega
    intro w4 hown hgr
    obtain ⟨W1, hW1⟩ : ∃ W1, W1 = w3.alloc (Obj.cells #[.int .i64 p, .int .i64 iv] 61) := ⟨_, rfl⟩
    have hsW1 : W1.heap.size = w3.heap.size + 1 := by rw [hW1]; simp
    have hown2 : w4.ownsRow w.heap.size 61 2 (.slice (some ⟨w3.heap.size + 1, 0, none⟩) n n) n (madeCells #[.int .i64 0, .int .i64 0] (n * 2)).toList := by
      exact hown
    have hb4 : Below w3.heap.size w3 w4 := (Below.alloc (Below.refl w3.heap.size w3) (Nat.le_refl _) _).grown hgr (by simp) (fun k hk => by cases hk)
    have hI4 : BoxE w3.heap.size p iv w4 := by
      have h := BoxE.new w3 p iv 61
      exact h.heap (hgr.block _ h.lt (fun e => by cases e))
    have hQ4 := elc_make hown2
    have hB4 : Below w.heap.size w w4 := HB3.out.trans (hb4.mono HB3.out.size)
    have k0' : w4.cell? ⟨w.heap.size, 0, none⟩ = some (.slice (some ⟨g2, off2, none⟩) L2.length cap2) := (hb4.cell (p := ⟨w.heap.size, 0, none⟩) (by show w.heap.size < _; omega)).trans k0
    have k1' : w4.cell? ⟨w.heap.size + 1, 0, none⟩ = some (.int .i64 m2) := (hb4.cell (p := ⟨w.heap.size + 1, 0, none⟩) (by show w.heap.size + 1 < _; omega)).trans k1
    have hs4 : w3.heap.size + 2 ≤ w4.heap.size := by have := hQ4.lt; omega
    have H4 := Lib.hid (And.intro hI4 (And.intro hQ4 (And.intro hB4 (And.intro k0' k1'))))
    obtain ⟨ib, hib⟩ : ∃ ib, ib = w3.heap.size := ⟨_, rfl⟩
    have hqb : w3.heap.size + 1 = ib + 1 := by omega
    rw [← hib] at H4 ⊢
    have hib3 : w.heap.size + 2 ≤ ib := by omega
    have hib4 : ib + 2 ≤ w4.heap.size := by omega
    clear hW1 hsW1 hown hown2 hgr hb4 hI4 hQ4 hB4 k0 k1 k0' k1' hs4 hib hqb hz3 hgb3 hgb4 hgb5 hgb6 HB3
    have hL1 : 0 < L1.length := by have := HNE.out; omega
    go_wp2_with fail
    refine (HCL.out _ (H4.out.2.2.1.alloc H4.out.2.2.1.size _)).mono ?_
    rintro e w5 ⟨u, rfl, hu, hb5⟩
    obtain ⟨rb, C, rfl, hC1, hC2, hrb, hR5⟩ := hu.elc hL1
    have hsz5 : w4.heap.size + 1 ≤ w5.heap.size := by have := hb5.size; simp at this; omega
    have hrb2 : w4.heap.size + 1 ≤ rb := by simpa using hrb
    obtain ⟨qx, hqx⟩ : ∃ qx, qx = w4.heap.size := ⟨_, rfl⟩
    have hq5 : w5.cell? ⟨qx, 0, none⟩ = some (.slice (some ⟨ib + 1, 0, none⟩) n n) := by
      rw [hqx, hb5.cell (p := ⟨w4.heap.size, 0, none⟩) (by simp)]; simp [go_sem]
    have hb45 : Below w4.heap.size w4 w5 := (Below.alloc (Below.refl w4.heap.size w4) (Nat.le_refl _) _).trans (hb5.mono (by simp))
    have hI5 : BoxE ib p iv w5 := H4.out.1.heap (hb45.block _ (by omega))
    have hQ5 : ElC (ib + 1) n (fun _ => (0, 0)) w5 := H4.out.2.1.heap (by omega) (hb45.block _ (by omega))
    have hB5 : Below w.heap.size w w5 := H4.out.2.2.1.trans (hb45.mono H4.out.2.2.1.size)
    have g5 : w5.cell? ⟨w.heap.size, 0, none⟩ = some (.slice (some ⟨g2, off2, none⟩) L2.length cap2) := (hb45.cell (p := ⟨w.heap.size, 0, none⟩) (by show w.heap.size < _; omega)).trans H4.out.2.2.2.1
    have l5 : w5.cell? ⟨w.heap.size + 1, 0, none⟩ = some (.int .i64 m2) := (hb45.cell (p := ⟨w.heap.size + 1, 0, none⟩) (by show w.heap.size + 1 < _; omega)).trans H4.out.2.2.2.2
    have hrl5 : rb < w5.heap.size := hR5.lt
    have hord : ib + 1 < qx ∧ qx < rb ∧ rb < w5.heap.size ∧ w.heap.size + 2 ≤ ib := by omega
    have H5 := Lib.hid (And.intro hI5 (And.intro hQ5 (And.intro hR5 (And.intro hB5 (And.intro g5 l5)))))
    have hqx5 : qx < w5.heap.size := by omega
    rw [← hqx]
    clear hu hb5 hrb hrb2 hb45 hI5 hQ5 hB5 g5 l5 hrl5 hqx H4 hR5 hib4
    go_wp2_with fail
    refine (bke_valP _ _ _ _).mono ?_
    rintro e w6 ⟨rfl, rfl⟩
    go_wp2_with fail
    refine (wpIn_wide (n := 40)).1 ?_
    obtain ⟨rx, hrx⟩ : ∃ rx, rx = w5.heap.size := ⟨_, rfl⟩
    obtain ⟨W0, hW0⟩ : ∃ W0, W0 = ((w5.alloc (Obj.cells #[Value.slice (some ⟨rb, 0, none⟩) L1.length C] 63)).alloc (Obj.cells #[Value.slice (some ⟨ib + 1, 0, none⟩) n n] 63)) := ⟨_, rfl⟩
    rw [← hW0, ← hrx]
    have s0 : W0.heap.size = rx + 2 := by rw [hW0, hrx]; simp
    have b0 : Below w5.heap.size w5 W0 := by rw [hW0]; exact (by repeat (first | exact Below.refl _ _ | apply Below.drew | apply below_drewN | (refine Below.alloc ?_ (by first | omega | (simp <;> omega)) _)))
    have cR : W0.cell? ⟨rx, 0, none⟩ = some (.slice (some ⟨rb, 0, none⟩) L1.length C) := by rw [hW0, World.cell?_alloc_past _ _ _ (by rw [hrx]; simp), hrx]; exact World.cell?_alloc_at _ _ _ _ rfl
    have cS : W0.cell? ⟨rx + 1, 0, none⟩ = some (.slice (some ⟨ib + 1, 0, none⟩) n n) := by rw [hW0, hrx]; exact World.cell?_alloc_at _ _ _ _ (by simp)
    obtain ⟨hI5, hQ5, hR5, hB5, g5, l5⟩ := H5.out
    have HI0 := Lib.hid (hI5.below b0)
    have HQ0 := Lib.hid (hQ5.below b0)
    have HR0 := Lib.hid (hR5.below b0)
    have HB0 := Lib.hid (hB5.trans (b0.mono hB5.size))
    have HCELLS := Lib.hid (show W0.cell? ⟨w.heap.size, 0, none⟩ = some (.slice (some ⟨g2, off2, none⟩) L2.length cap2) ∧ W0.cell? ⟨w.heap.size + 1, 0, none⟩ = some (.int .i64 m2) ∧ W0.cell? ⟨qx, 0, none⟩ = some (.slice (some ⟨ib + 1, 0, none⟩) n n) ∧ W0.cell? ⟨rx, 0, none⟩ = some (.slice (some ⟨rb, 0, none⟩) L1.length C) ∧ W0.cell? ⟨rx + 1, 0, none⟩ = some (.slice (some ⟨ib + 1, 0, none⟩) n n) from
      ⟨(b0.cell (p := ⟨w.heap.size, 0, none⟩) (by show w.heap.size < _; omega)).trans g5, (b0.cell (p := ⟨w.heap.size + 1, 0, none⟩) (by show w.heap.size + 1 < _; omega)).trans l5, (b0.cell (p := ⟨qx, 0, none⟩) hqx5).trans hq5, cR, cS⟩)
    have HGC := Lib.hid (show ∀ j, j < L2.length → W0.cell? ⟨g2, off2 + j * 2, none⟩ = some (.int .i64 p) ∧ W0.cell? ⟨g2, off2 + j * 2 + 1, none⟩ = some (.int .i64 (cf L2 j)) from fun j hj =>
      ⟨(HB0.out.cell (p := ⟨g2, off2 + j * 2, none⟩) hg2).trans (HCC.out j hj).1, (HB0.out.cell (p := ⟨g2, off2 + j * 2 + 1, none⟩) hg2).trans (HCC.out j hj).2⟩)
    have hordx : ib + 1 < qx ∧ qx < rb ∧ rb < rx ∧ w.heap.size + 2 ≤ ib ∧ W0.heap.size = rx + 2 := by omega
    have HORD := Lib.hid hordx
    have HKC := Lib.hid (fun (Wx : World) (hx : KpV (T2v (ib + 1) rb) W0 Wx) => show (Wx.cell? ⟨w.heap.size, 0, none⟩ = some (.slice (some ⟨g2, off2, none⟩) L2.length cap2) ∧ Wx.cell? ⟨w.heap.size + 1, 0, none⟩ = some (.int .i64 m2) ∧ Wx.cell? ⟨qx, 0, none⟩ = some (.slice (some ⟨ib + 1, 0, none⟩) n n) ∧ Wx.cell? ⟨rx, 0, none⟩ = some (.slice (some ⟨rb, 0, none⟩) L1.length C) ∧ Wx.cell? ⟨rx + 1, 0, none⟩ = some (.slice (some ⟨ib + 1, 0, none⟩) n n)) ∧ BoxE ib p iv Wx ∧ (∀ j, j < L2.length → Wx.cell? ⟨g2, off2 + j * 2, none⟩ = some (.int .i64 p) ∧ Wx.cell? ⟨g2, off2 + j * 2 + 1, none⟩ = some (.int .i64 (cf L2 j))) ∧ Below w.heap.size w Wx from by
      have hk : ∀ k, k < rx + 2 → k ≠ ib + 1 → k ≠ rb → Wx.heap[k]? = W0.heap[k]? := fun k h1 h2 h3 => hx.keep2 (by omega) h2 h3
      obtain ⟨c1, c2, c3, c4, c5⟩ := HCELLS.out
      refine ⟨⟨(cell_of_heap (p := ⟨w.heap.size, 0, none⟩) (hk w.heap.size (by omega) (by omega) (by omega))).trans c1, (cell_of_heap (p := ⟨w.heap.size + 1, 0, none⟩) (hk (w.heap.size + 1) (by omega) (by omega) (by omega))).trans c2, (cell_of_heap (p := ⟨qx, 0, none⟩) (hk qx (by omega) (by omega) (by omega))).trans c3, (cell_of_heap (p := ⟨rx, 0, none⟩) (hk rx (by omega) (by omega) (by omega))).trans c4, (cell_of_heap (p := ⟨rx + 1, 0, none⟩) (hk (rx + 1) (by omega) (by omega) (by omega))).trans c5⟩, HI0.out.heap (hk ib (by omega) (by omega) (by omega)), fun j hj => ?_, ?_⟩
      · have e := hk g2 (by omega) (by omega) (by omega)
        exact ⟨(cell_of_heap (p := ⟨g2, off2 + j * 2, none⟩) e).trans (HGC.out j hj).1, (cell_of_heap (p := ⟨g2, off2 + j * 2 + 1, none⟩) e).trans (HGC.out j hj).2⟩
      · exact ⟨hx.os.trans HB0.out.os, hx.tape.trans HB0.out.tape, hx.output.trans HB0.out.output, Nat.le_trans HB0.out.size hx.size, fun k hk2 => (hk k (by omega) (by omega) (by omega)).trans (HB0.out.block k hk2)⟩)
    clear hW0 b0 cR cS hI5 hQ5 hR5 hB5 g5 l5 H5 hrx hq5 HCELLS HGC HI0 hsz5 hord hib3 hordx
    refine wpIn_rangeVals2 (enc := encB) (S := bkS n (fun _ => (0, 0)) n) rfl (by omega) (gf := 141) (lb := #[.pointer (some ⟨rx + 1, 0, none⟩)]) rfl trivial (enters_of Try.func141 (by kernel_rfl) rfl)
      (bke_seq (40 - 1) (rx + 1) n (ib + 1) 0 n (some ⟨ib + 1, 0, none⟩) (fun _ => (0, 0)) (by omega) (by omega) (.inr rfl)) (fun x => rfl) (T2v (ib + 1) rb) (fun A k hk => hk.1)
      (fun pre Wc => ElC (ib + 1) n (fun i => if n - pre.length ≤ i then (p, dvQ p L1 L2 iv n i) else (0, 0)) Wc ∧ ElC rb L1.length (fun i => (p, dvU p L1 L2 iv n pre.length i)) Wc ∧ KpV (T2v (ib + 1) rb) W0 Wc)
      (fun s A C k hs hgr q => q.of hs.1.lt hs.2.1.lt)
      (fun s A C hs hgr => ⟨hs.1.grow hgr, hs.2.1.grow hgr, hs.2.2.grow (Nat.le_refl _) hgr (fun k q => q.of hs.1.lt hs.2.1.lt)⟩)
      (fun pre Wc hs => ⟨(HKC.out Wc hs.2.2).1.2.2.2.2, fun i hi => by
        have h0 := hs.1.c0 i (by omega)
        have h1 := hs.1.c1 i (by omega)
        simp only [if_neg (show ¬ n - pre.length ≤ i by omega)] at h0 h1
        rw [Nat.zero_add]
        exact ⟨h0, h1⟩⟩)
      (fun c pre Wc => False) (fun c s A C hs hgr => hs) (fun c s A C k hs => hs.elim)
      ⟨HQ0.out.ext (fun i hi => by simp only [List.length_nil]; rw [if_neg (by omega)]), HR0.out.ext (fun i hi => rfl), KpV.refl _ _⟩
      (fun t a' Wc => a' = { tmps := #[Value.slice a1 L1.length cap1, Value.slice (some ⟨g2, off2, none⟩) L2.length cap2, undef, Value.pointer (some ⟨w.heap.size, 0, none⟩), Value.slice none 0 0, Value.slice none 0 0, Value.pointer (some ⟨w.heap.size + 1, 0, none⟩), Value.pointer (some ⟨ib, 0, none⟩), Value.bool true, Value.pointer (some ⟨qx, 0, none⟩), Value.pointer (some ⟨rx, 0, none⟩), .int .i64 (t.1 : Nat), undef, undef,
            Value.slice (some ⟨g2, off2, none⟩) L2.length cap2, Value.int IntKind.i64 (L2.length : Nat), Value.bool false, undef, Value.slice (some ⟨g2, off2, none⟩) L2.length cap2, Value.int IntKind.i64 (L2.length : Nat), Value.int IntKind.i64 (m2 : Nat), Value.tuple #[Value.agg #[Value.int IntKind.i64 p, Value.int IntKind.i64 iv], Value.bool true],
            Value.slice (some ⟨g2, off2, none⟩) L2.length cap2, Value.int IntKind.i64 (m2 : Nat), Value.pointer (some ⟨g2, off2 + m2 * 2, none⟩), Value.agg #[Value.int IntKind.i64 p, Value.int IntKind.i64 z2], Value.iface 61 (Value.agg #[Value.int IntKind.i64 p, Value.int IntKind.i64 z2]), Value.tuple #[Value.agg #[Value.int IntKind.i64 p, Value.int IntKind.i64 iv], Value.bool true],
            Value.agg #[Value.int IntKind.i64 p, Value.int IntKind.i64 iv], Value.bool true, Value.slice a1 L1.length cap1, Value.int IntKind.i64 (L1.length : Nat), Value.int IntKind.i64 (m2 : Nat), Value.int IntKind.i64 (n : Nat), Value.int IntKind.i64 (n : Nat), Value.slice (some ⟨ib + 1, 0, none⟩) n n, Value.slice a1 L1.length cap1, Value.slice (some ⟨rb, 0, none⟩) L1.length C, Value.slice (some ⟨ib + 1, 0, none⟩) n n,
            Value.func (Fn.func 141) #[] #[Value.pointer (some ⟨rx + 1, 0, none⟩)], .int .i64 (t.1 : Nat), .agg #[.int .i64 t.2.1, .int .i64 t.2.2], undef, undef, undef, undef, undef, undef, undef, undef, undef, undef, undef, undef, undef, undef, undef, undef, undef, undef, undef, undef, undef, undef, undef, undef, undef, undef, undef, undef, undef, undef, undef, undef, undef, undef, undef, undef, undef, undef, undef, undef, undef, undef, undef, undef, undef], defers := [] })
      (fun t a' _ A C hs hgr => hs) ?assign ?body ?done ?stop
    case assign =>
      rintro l2 pre t post Wc K ⟨q1, q2, q4⟩ hS hs hK
      simp only [encB]
      gi_wp2_with fail
      exact hK _ _ (Below.refl _ _) rfl
    case stop =>
      rintro D c pre t post0 Wd hD hS hF hKD
      exact hF.elim
    case done =>
      rintro D Wd hD hnD ⟨q1, q2, q4⟩ hKD
      rw [bkS_len] at q1 q2
      have cqx := (HKC.out Wd q4).1.2.2.1
      have crx := (HKC.out Wd q4).1.2.2.2.1
      have kB := (HKC.out Wd q4).2.2.2
      have HDQ := Lib.hid (show (divQ p L1 L2 iv).length = n from by rw [divQ_len]; exact HNN.out.symm)
      have HQD := Lib.hid (show Elr Wd (.slice (some ⟨ib + 1, 0, none⟩) n n) p (divQ p L1 L2 iv) from by
        refine ElC.elr HDQ.out (q1.ext (fun j hj => ?_)) ⟨Nat.le_refl _, by unfold maxLen; omega⟩ (by omega)
        rw [if_pos (by omega), divQ_cf, if_pos (by rw [← HNN.out]; exact hj), HNN.out])
      obtain ⟨M, hM⟩ : ∃ M, M = lsU L1.length (dvU p L1 L2 iv n n) := ⟨_, rfl⟩
      have HLM := Lib.hid (show M.length = L1.length from by rw [hM, lsU_len])
      have HRD := Lib.hid (show Elr Wd (.slice (some ⟨rb, 0, none⟩) L1.length C) p M from by
        refine ElC.elr HLM.out (q2.ext (fun j hj => ?_)) ⟨hC1, hC2⟩ (by omega)
        rw [hM, lsU_cf hj])
      have HTR := Lib.hid (show trimL M = divR p L1 L2 iv from by rw [hM]; unfold divR; rw [← HNN.out])
      have HEM := Lib.hid (show AllE p M from by rw [hM]; exact allE_lst (by omega) (fun j _ => dvU_bd (by omega) HE1.out n n j))
      have HBD := Lib.hid kB
      have HKD := Lib.hid hKD
      clear q1 q2 hM kB hKD
      simp only [Exit.inBlock]
      rename_i hcont
      refine hcont _ _ ?_
      have HTT := Lib.hid (fun w' (hb : Below Wd.heap.size Wd w') => iTrimmed p (.slice (some ⟨rb, 0, none⟩) L1.length C) M w' HP.out (HRD.out.below hb) HEM.out (by rw [HLM.out]; omega))
      rw [HTR.out] at HTT
      have HCX := Lib.hid (fun w' (hb : Below Wd.heap.size Wd w') => show w'.cell? ⟨qx, 0, none⟩ = some (.slice (some ⟨ib + 1, 0, none⟩) n n) ∧ w'.cell? ⟨rx, 0, none⟩ = some (.slice (some ⟨rb, 0, none⟩) L1.length C) from
        ⟨(hb.cell (p := ⟨qx, 0, none⟩) (World.block_lt_of_cell? _ ⟨qx, 0, none⟩ cqx)).trans cqx, (hb.cell (p := ⟨rx, 0, none⟩) (World.block_lt_of_cell? _ ⟨rx, 0, none⟩ crx)).trans crx⟩)
      clear cqx crx
      go_wp2_with fail
      rename_i KK hKK
      refine Go.wp_mono (Q := fun e a w => e = Exit.normal ∧ KK a w) ?_ (by rintro e a w ⟨rfl, h⟩; exact h)
      refine wp_region_seq [(0, true), (1, true), (2, false), (3, true)] (fun w' => w'.cell? ⟨qx, 0, none⟩ = some (.slice (some ⟨ib + 1, 0, none⟩) n n) ∧ w'.cell? ⟨rx, 0, none⟩ = some (.slice (some ⟨rb, 0, none⟩) L1.length C)) (by kernel_rfl) (by kernel_rfl) rfl (by rintro c a d v w ⟨h, _⟩; cases h) (HCX.out _ (Below.drew (Below.refl _ _))) ?_
      iterate 2 (refine wpSeq_take (v := ?_) (List.getElem?_toArray.trans rfl) ?_ ?_; rotate_left; (intro w' hSw; (try dsimp only at hSw); go_simp; (try with_reducible rfl)); (try simp only [Act.put, List.setIfInBounds_toArray, List.set_cons_zero, List.set_cons_succ]))
      refine wpSeq_do (List.getElem?_toArray.trans rfl) (fun K hK => ?_)
      go_simp
      refine (HTT.out _ (Below.drew (Below.refl _ _))).mono ?_
      rintro e w7 ⟨u7, rfl, hu7, hb7⟩
      have hb7' : Below Wd.heap.size Wd w7 := (Below.drew (Below.refl _ _)).trans (hb7.mono (by simp))
      have hrl : (divR p L1 L2 iv).length ≤ 1048576 := by
        have := trim_len M
        rw [HTR.out, HLM.out] at this
        omega
      have H7 := Lib.hid (show Elr w7 (.slice (some ⟨ib + 1, 0, none⟩) n n) p (divQ p L1 L2 iv) ∧ Elr w7 u7 p (divR p L1 L2 iv) ∧ Below w.heap.size w w7 ∧ w7.heap[D]? = some (.deferred (some [])) from
        ⟨HQD.out.below hb7', hu7.elr hrl, HBD.out.trans (hb7'.mono HBD.out.size), (hb7'.block D (Array.getElem?_eq_some_iff.1 HKD.out).1).trans HKD.out⟩)
      refine hK _ _ (HCX.out _ hb7') ?_
      clear hK K hu7 hb7 hb7' hrl
      (refine wpSeq_take (v := ?_) (List.getElem?_toArray.trans rfl) ?_ ?_; rotate_left; (intro w' hSw; (try dsimp only at hSw); go_simp; (try with_reducible rfl)); (try simp only [Act.put, List.setIfInBounds_toArray, List.set_cons_zero, List.set_cons_succ]))
      refine wpSeq_nil ?_
      simp only [Exit.then]
      go_wp2_with fail
      obtain ⟨f1, f2, f3, f4⟩ := H7.out
      have hg := GrowB.putObj (B := w.heap.size) (.deferred none) (show w.heap.size ≤ D by have := HORD.out; omega) f4 rfl
      have hput := belowK_b (w := w) (Nat.le_refl _) w7 D _ (.deferred none) (by have := HORD.out; omega) f4 rfl rfl
      refine ⟨by simp, .inl ⟨_, _, rfl, run_takeDeferred f4, ?_⟩⟩
      exact ⟨.tuple #[.slice (some ⟨ib + 1, 0, none⟩) n n, u7], (by simp [results, Try.results76, go_sem]), _, _, rfl, f1.grow hg, f2.grow hg, f3.trans hput⟩
    case body =>
      rintro l2 pre t0 post a' Wc ⟨q1, q2, q4⟩ rfl hS hs
      obtain ⟨e1, e2, hlt⟩ := bkS_pre hS
      obtain ⟨d, hd⟩ : ∃ d, d = pre.length := ⟨_, rfl⟩
      obtain ⟨i, hi⟩ : ∃ i, i = n - 1 - d := ⟨_, rfl⟩
      rw [← hd] at q1 q2 hlt
      rw [← hd, ← hi] at e2
      subst e2
      have hin : i < n := by omega
      have hnd : n - d = i + 1 := by omega
      have hnd1 : n - (d + 1) = i := by omega
      have him : i + m2 < L1.length := by have := HNE.out; omega
      have hm2' := HM2.out
      have HPL := Lib.hid (show (pre ++ [(i, (0 : Int), (0 : Int))]).length = d + 1 from by rw [List.length_append, ← hd]; rfl)
      obtain ⟨x, hx⟩ : ∃ x, x = dvU p L1 L2 iv n d (i + m2) := ⟨_, rfl⟩
      have hxb := dvU_bd (show 0 < p by omega) (g := L2) (iv := iv) HE1.out n d (i + m2)
      rw [← hx] at hxb
      obtain ⟨t, ht⟩ : ∃ t, t = x * iv % p := ⟨_, rfl⟩
      have htb := emod_bdU (show 0 < p by omega) (x * iv)
      rw [← ht] at htb
      have htq : t = dvQ p L1 L2 iv n i := by
        rw [ht, hx]
        unfold dvQ dvT
        rw [show n - 1 - i = d by omega, show L2.length - 1 = m2 by omega]
      have HTM := Lib.hid (fun w => iTimes p x iv HP.out hxb.1 hxb.2 HIVB.out.1 HIVB.out.2 w)
      rw [← ht] at HTM
      have HQ1 := Lib.hid q1
      have HQ2 := Lib.hid q2
      have HQ4 := Lib.hid q4
      have HORDC := Lib.hid (show rx + 2 ≤ Wc.heap.size from by have := q4.size; have := HORD.out; omega)
      have HSS := Lib.hid (fun w' (hb : Below Wc.heap.size Wc w') => show w'.cell? ⟨qx, 0, none⟩ = some (.slice (some ⟨ib + 1, 0, none⟩) n n) ∧ w'.cell? ⟨rx, 0, none⟩ = some (.slice (some ⟨rb, 0, none⟩) L1.length C) ∧ w'.cell? ⟨w.heap.size + 1, 0, none⟩ = some (.int .i64 m2) ∧ w'.cell? ⟨rb, (i + m2) * 2, none⟩ = some (.int .i64 p) ∧ w'.cell? ⟨rb, (i + m2) * 2 + 1, none⟩ = some (.int .i64 x) ∧ w'.cell? ⟨ib, 0, none⟩ = some (.int .i64 p) ∧ w'.cell? ⟨ib, 1, none⟩ = some (.int .i64 iv) from by
        obtain ⟨⟨k1, k2, k3, k4, k5⟩, kI, _, _⟩ := HKC.out Wc HQ4.out
        have lt : ∀ {b o v}, Wc.cell? ⟨b, o, none⟩ = some v → b < Wc.heap.size := fun h => World.block_lt_of_cell? _ _ h
        have r0 := HQ2.out.c0 (i + m2) him
        have r1 := HQ2.out.c1 (i + m2) him
        simp only [← hx] at r0 r1
        exact ⟨(hb.cell (p := ⟨qx, 0, none⟩) (lt k3)).trans k3, (hb.cell (p := ⟨rx, 0, none⟩) (lt k4)).trans k4, (hb.cell (p := ⟨w.heap.size + 1, 0, none⟩) (lt k2)).trans k2, (hb.cell (p := ⟨rb, (i + m2) * 2, none⟩) (lt r0)).trans r0, (hb.cell (p := ⟨rb, (i + m2) * 2 + 1, none⟩) (lt r1)).trans r1, (hb.cell (p := ⟨ib, 0, none⟩) kI.lt).trans kI.c0, (hb.cell (p := ⟨ib, 1, none⟩) kI.lt).trans kI.c1⟩)
      have hikm : (i : Int) + (m2 : Int) < (L1.length : Int) := by omega
      have hik0 : (0 : Int) ≤ (i : Int) + (m2 : Int) := by omega
      have hikN : ((i : Int) + (m2 : Int)).toNat = i + m2 := by omega
      have hwik : IntKind.i64.wrap ((i : Int) + (m2 : Int)) = (i : Int) + (m2 : Int) := IntWalk.i64_in _ (by omega)
      have hinI : (i : Int) < (n : Int) := by omega
      have hi0I : (0 : Int) ≤ (i : Int) := by omega
      have HD := Lib.hid (And.intro hnd (And.intro hnd1 (And.intro htq (And.intro hi (And.intro hlt hxb)))))
      have HXX := Lib.hid (And.intro hx ht)
      clear q1 q2 q4 hS hd hi hx ht htq e1 hlt hnd hnd1 hxb hm2'
      gi_wp2_with fail
      rename_i KK hKK
      refine Go.wpIn_mono (Q := fun e a w => e = Exit.normal ∧ KK a w) ?_ (by rintro e a w ⟨rfl, h⟩; exact h)
      refine wpIn_region_seq_round [(0, true), (1, true), (2, true), (3, true), (4, true), (5, true), (6, true), (7, true), (8, true), (9, true), (10, false), (11, true)] (fun w' => w'.cell? ⟨qx, 0, none⟩ = some (.slice (some ⟨ib + 1, 0, none⟩) n n) ∧ w'.cell? ⟨rx, 0, none⟩ = some (.slice (some ⟨rb, 0, none⟩) L1.length C) ∧ w'.cell? ⟨w.heap.size + 1, 0, none⟩ = some (.int .i64 m2) ∧ w'.cell? ⟨rb, (i + m2) * 2, none⟩ = some (.int .i64 p) ∧ w'.cell? ⟨rb, (i + m2) * 2 + 1, none⟩ = some (.int .i64 x) ∧ w'.cell? ⟨ib, 0, none⟩ = some (.int .i64 p) ∧ w'.cell? ⟨ib, 1, none⟩ = some (.int .i64 iv)) (by kernel_rfl) (by kernel_rfl) (by kernel_rfl) rfl (by rintro ⟨a, w, h, _⟩; cases h) (by rintro c a d v w ⟨h, _⟩; cases h) (HSS.out _ (Below.drew (Below.refl _ _))) ?_
      iterate 10 (refine wpSeq_take (v := ?_) (List.getElem?_toArray.trans rfl) ?_ ?_; rotate_left; (intro w' hSw; (try dsimp only at hSw); go_simp; (try with_reducible rfl)); (try simp only [Act.put, List.setIfInBounds_toArray, List.set_cons_zero, List.set_cons_succ]))
      refine wpSeq_do (List.getElem?_toArray.trans rfl) (fun K hK => ?_)
      go_simp
      refine (HTM.out _).mono ?_
      rintro e w7 ⟨rfl, hb7⟩
      have HB7 := Lib.hid (show Below Wc.heap.size Wc w7 from (Below.drew (Below.refl _ _)).trans (hb7.mono (by simp)))
      refine hK _ _ (HSS.out _ HB7.out) ?_
      clear hK K hb7
      (refine wpSeq_take (v := ?_) (List.getElem?_toArray.trans rfl) ?_ ?_; rotate_left; (intro w' hSw; (try dsimp only at hSw); go_simp; (try with_reducible rfl)); (try simp only [Act.put, List.setIfInBounds_toArray, List.set_cons_zero, List.set_cons_succ]))
      refine wpSeq_nil ?_
      simp only [Exit.then]
      have HQ7 := Lib.hid (HQ1.out.below HB7.out)
      have e0' : ∃ v0, w7.cell? ⟨ib + 1, i * 2, none⟩ = some v0 := ⟨_, HQ7.out.c0 i hin⟩
      have e1' : ∃ v1, w7.cell? ⟨ib + 1, i * 2 + 1, none⟩ = some v1 := ⟨_, HQ7.out.c1 i hin⟩
      have f0 := HQ7.out.fz (i * 2) (by omega)
      have f1 := HQ7.out.fz (i * 2 + 1) (by omega)
      obtain ⟨W8, hW8⟩ : ∃ W8, W8 = ((w7.setCell ⟨ib + 1, i * 2, none⟩ (.int .i64 p)).setCell ⟨ib + 1, i * 2 + 1, none⟩ (.int .i64 t)) := ⟨_, rfl⟩
      have hib7 : ib + 1 < w7.heap.size := HQ7.out.lt
      have hrb7 : rb < w7.heap.size := Nat.lt_of_lt_of_le HQ2.out.lt HB7.out.size
      have HQ8 := Lib.hid (show ElC (ib + 1) n (fun j => if n - (d + 1) ≤ j then (p, dvQ p L1 L2 iv n j) else (0, 0)) W8 from by
        rw [hW8]
        refine (HQ7.out.set hin p t).ext (fun j hj => ?_)
        obtain ⟨hnd, hnd1, htq, _⟩ := HD.out
        by_cases e : j = i
        · subst e
          rw [if_pos (by omega), if_pos rfl, htq]
        · rw [if_neg e]
          by_cases h2 : n - d ≤ j
          · rw [if_pos h2, if_pos (by omega)]
          · rw [if_neg h2, if_neg (by omega)])
      have HR8 := Lib.hid (show ElC rb L1.length (fun j => (p, dvS p L2 t (dvU p L1 L2 iv n d) i 0 j)) W8 from by
        rw [hW8]
        have hr := HORD.out
        exact (((HQ2.out.below HB7.out).far (show ib + 1 ≠ rb by omega) _).far (show ib + 1 ≠ rb by omega) _).ext (fun j hj => by rw [dvS_zero]))
      have HK8 := Lib.hid (show KpV (T2v (ib + 1) rb) Wc W8 from by
        rw [hW8]
        have hk6 : KpV (T2v (ib + 1) rb) Wc w7 := KpV.of_below HB7.out (fun k q => .inl (q.of HQ1.out.lt HQ2.out.lt))
        exact hk6.trans (kpV2_set (.inl rfl) hib7 hrb7))
      obtain ⟨v0, e0⟩ := e0'
      obtain ⟨v1, e1⟩ := e1'
      have HW8 := Lib.hid hW8
      clear hW8
      go_wp2_with fail
      rw [← HW8.out]
      have HK08 := Lib.hid (HQ4.out.trans HK8.out)
      obtain ⟨⟨cg, _⟩, _⟩ := HKC.out W8 HK08.out
      clear e0 e1 f0 f1 hib7 hrb7 HW8 HQ7 HSS
      gi_wp2_with fail
      clear cg
      gi_loopw [56] (fun kk ws => ∃ k : Nat, k ≤ L2.length ∧ kk = .int .i64 k ∧ ElC (ib + 1) n (fun j => if n - (d + 1) ≤ j then (p, dvQ p L1 L2 iv n j) else (0, 0)) ws ∧ ElC rb L1.length (fun j => (p, dvS p L2 t (dvU p L1 L2 iv n d) i k j)) ws ∧ KpV (T2v (ib + 1) rb) Wc ws) (fun kk _ => L2.length - (intOf kk).toNat)
      case atStart => exact ⟨0, by omega, rfl, HQ8.out, HR8.out, HK8.out⟩
      case round =>
        clear HQ8 HR8 HK8 HK08
        obtain ⟨k, hkl, rfl, hf1, hf2, hf3⟩ := hrel
        have HF1 := Lib.hid hf1
        have HF2 := Lib.hid hf2
        have HF3 := Lib.hid hf3
        clear hf1 hf2 hf3
        by_cases hk2 : k < L2.length
        · obtain ⟨⟨cg, _, cqx, crx, _⟩, _, cgc, _⟩ := HKC.out wr (HQ4.out.trans HF3.out)
          obtain ⟨d0, d1⟩ := cgc k hk2
          have hyb := HE2.out k
          obtain ⟨y, hy⟩ : ∃ y, y = cf L2 k := ⟨_, rfl⟩
          rw [← hy] at d1 hyb
          have hkI : (k : Int) < (L2.length : Int) := by omega
          have hk0 : (0 : Int) ≤ (k : Int) := by omega
          have hm2' := HM2.out
          have hne' := HNE.out
          have hik : i + k < L1.length := by omega
          have hikm2 : (i : Int) + (k : Int) < (L1.length : Int) := by omega
          have hik02 : (0 : Int) ≤ (i : Int) + (k : Int) := by omega
          have hikN2 : ((i : Int) + (k : Int)).toNat = i + k := by omega
          have hwik2 : IntKind.i64.wrap ((i : Int) + (k : Int)) = (i : Int) + (k : Int) := IntWalk.i64_in _ (by omega)
          have hzb := dvS_bd (show 0 < p by omega) (g := L2) (t := t) (dvU_bd (show 0 < p by omega) (g := L2) (iv := iv) HE1.out n d) i k (i + k)
          obtain ⟨z, hz⟩ : ∃ z, z = dvS p L2 t (dvU p L1 L2 iv n d) i k (i + k) := ⟨_, rfl⟩
          rw [← hz] at hzb
          obtain ⟨a, ha⟩ : ∃ a, a = y * t % p := ⟨_, rfl⟩
          have hab0 := emod_bdU (show 0 < p by omega) (y * t)
          rw [← ha] at hab0
          obtain ⟨b, hb⟩ : ∃ b, b = (-a) % p := ⟨_, rfl⟩
          have hbb0 := emod_bdU (show 0 < p by omega) (-a)
          rw [← hb] at hbb0
          obtain ⟨s, hs⟩ : ∃ s, s = (z + b) % p := ⟨_, rfl⟩
          have HT1 := Lib.hid (fun w => iTimes p y t HP.out hyb.1 hyb.2 htb.1 htb.2 w)
          rw [← ha] at HT1
          have HT2 := Lib.hid (fun w => iMinus p a HP.out hab0.1 hab0.2 w)
          rw [← hb] at HT2
          have HT3 := Lib.hid (fun w => iPlus p z b HP.out hzb.1 hzb.2 hbb0.1 hbb0.2 w)
          rw [← hs] at HT3
          have HSV := Lib.hid (show s = (z - y * t) % p from by
            rw [hs, hb, ha]
            refine Cg.emod ?_
            have h1 := (Cg.mod p (-(y * t % p))).trans (Cg.mod p (y * t)).neg
            have := (Cg.refl p z).add h1
            rwa [← Int.sub_eq_add_neg] at this)
          obtain ⟨ab, hab⟩ : ∃ ab, ab = wr.heap.size := ⟨_, rfl⟩
          obtain ⟨W2, hW2⟩ : ∃ W2, W2 = wr.alloc (Obj.cells #[.int .i64 p, .int .i64 y] 61) := ⟨_, rfl⟩
          have HBY := Lib.hid (show BoxE ab p y W2 from by rw [hW2, hab]; exact BoxE.new wr p y _)
          have HBW2 := Lib.hid (show Below wr.heap.size wr W2 from by rw [hW2]; exact Below.alloc (Below.refl _ _) (Nat.le_refl _) _)
          have HSS := Lib.hid (fun w' (hbx : Below W2.heap.size W2 w') => show w'.cell? ⟨qx, 0, none⟩ = some (.slice (some ⟨ib + 1, 0, none⟩) n n) ∧ w'.cell? ⟨rx, 0, none⟩ = some (.slice (some ⟨rb, 0, none⟩) L1.length C) ∧ w'.cell? ⟨rb, (i + k) * 2, none⟩ = some (.int .i64 p) ∧ w'.cell? ⟨rb, (i + k) * 2 + 1, none⟩ = some (.int .i64 z) ∧ w'.cell? ⟨ab, 0, none⟩ = some (.int .i64 p) ∧ w'.cell? ⟨ab, 1, none⟩ = some (.int .i64 y) ∧ w'.cell? ⟨ib + 1, i * 2, none⟩ = some (.int .i64 p) ∧ w'.cell? ⟨ib + 1, i * 2 + 1, none⟩ = some (.int .i64 t) from by
            have hbb := HBW2.out.trans (hbx.mono HBW2.out.size)
            obtain ⟨⟨_, _, k3, k4, _⟩, _, _, _⟩ := HKC.out wr (HQ4.out.trans HF3.out)
            have lt : ∀ {b o v}, wr.cell? ⟨b, o, none⟩ = some v → b < wr.heap.size := fun h => World.block_lt_of_cell? _ _ h
            have r0 := HF2.out.c0 (i + k) hik
            have r1 := HF2.out.c1 (i + k) hik
            simp only [← hz] at r0 r1
            have t0 := HF1.out.c0 i hin
            have t1 := HF1.out.c1 i hin
            obtain ⟨_, hnd1, htq, _⟩ := HD.out
            rw [if_pos (by omega)] at t0 t1
            simp only [← htq] at t0 t1
            have hy := HBY.out.below hbx
            exact ⟨(hbb.cell (p := ⟨qx, 0, none⟩) (lt k3)).trans k3, (hbb.cell (p := ⟨rx, 0, none⟩) (lt k4)).trans k4, (hbb.cell (p := ⟨rb, (i + k) * 2, none⟩) (lt r0)).trans r0, (hbb.cell (p := ⟨rb, (i + k) * 2 + 1, none⟩) (lt r1)).trans r1, hy.c0, hy.c1, (hbb.cell (p := ⟨ib + 1, i * 2, none⟩) (lt t0)).trans t0, (hbb.cell (p := ⟨ib + 1, i * 2 + 1, none⟩) (lt t1)).trans t1⟩)
          have HZY := Lib.hid (And.intro hz hy)
          have HIK := Lib.hid hik
          have HAB := Lib.hid hab
          clear hy hz ha hb hs hm2' hne' cgc cqx crx cg hyb hzb hab0 hbb0 hik
          gi_wp2_with fail
          rw [← hW2, ← hab]
          clear hW2 hab d0 d1
          rename_i KK hKK
          refine Go.wpIn_mono (Q := fun e a w => e = Exit.normal ∧ KK a w) ?_ (by rintro e a w ⟨rfl, h⟩; exact h)
          refine wpIn_region_seq_round [(0, true), (1, true), (2, true), (3, true), (4, true), (5, true), (6, true), (7, true), (8, true), (9, true), (10, true), (11, true), (12, true), (13, true), (14, true), (15, true), (16, true), (17, false), (18, true), (19, false), (20, false), (21, true)] (fun w' => w'.cell? ⟨qx, 0, none⟩ = some (.slice (some ⟨ib + 1, 0, none⟩) n n) ∧ w'.cell? ⟨rx, 0, none⟩ = some (.slice (some ⟨rb, 0, none⟩) L1.length C) ∧ w'.cell? ⟨rb, (i + k) * 2, none⟩ = some (.int .i64 p) ∧ w'.cell? ⟨rb, (i + k) * 2 + 1, none⟩ = some (.int .i64 z) ∧ w'.cell? ⟨ab, 0, none⟩ = some (.int .i64 p) ∧ w'.cell? ⟨ab, 1, none⟩ = some (.int .i64 y) ∧ w'.cell? ⟨ib + 1, i * 2, none⟩ = some (.int .i64 p) ∧ w'.cell? ⟨ib + 1, i * 2 + 1, none⟩ = some (.int .i64 t)) (by kernel_rfl) (by kernel_rfl) (by kernel_rfl) rfl (by rintro ⟨a, w, h, _⟩; cases h) (by rintro c a d v w ⟨h, _⟩; cases h) (HSS.out _ (Below.drew (Below.refl _ _))) ?_
          iterate 17 (refine wpSeq_take (v := ?_) (List.getElem?_toArray.trans rfl) ?_ ?_; rotate_left; (intro w' hSw; (try dsimp only at hSw); go_simp; (try with_reducible rfl)); (try simp only [Act.put, List.setIfInBounds_toArray, List.set_cons_zero, List.set_cons_succ]))
          refine wpSeq_do (List.getElem?_toArray.trans rfl) (fun K hK => ?_)
          go_simp
          refine (HT1.out _).mono ?_
          rintro e w7 ⟨rfl, hb7⟩
          have HB7 := Lib.hid (show Below W2.heap.size W2 w7 from (Below.drew (Below.refl _ _)).trans (hb7.mono (by simp)))
          refine hK _ _ (HSS.out _ HB7.out) ?_
          clear hK K hb7
          (refine wpSeq_take (v := ?_) (List.getElem?_toArray.trans rfl) ?_ ?_; rotate_left; (intro w' hSw; (try dsimp only at hSw); go_simp; (try with_reducible rfl)); (try simp only [Act.put, List.setIfInBounds_toArray, List.set_cons_zero, List.set_cons_succ]))
          refine wpSeq_do (List.getElem?_toArray.trans rfl) (fun K hK => ?_)
          go_simp
          refine (HT2.out _).mono ?_
          rintro e w8 ⟨rfl, hb8⟩
          have HB8 := Lib.hid (show Below W2.heap.size W2 w8 from HB7.out.trans (hb8.mono HB7.out.size))
          refine hK _ _ (HSS.out _ HB8.out) ?_
          clear hK K hb8
          refine wpSeq_do (List.getElem?_toArray.trans rfl) (fun K hK => ?_)
          go_simp
          refine (HT3.out _).mono ?_
          rintro e w9 ⟨rfl, hb9⟩
          have HB9 := Lib.hid (show Below W2.heap.size W2 w9 from HB8.out.trans (hb9.mono HB8.out.size))
          refine hK _ _ (HSS.out _ HB9.out) ?_
          clear hK K hb9
          (refine wpSeq_take (v := ?_) (List.getElem?_toArray.trans rfl) ?_ ?_; rotate_left; (intro w' hSw; (try dsimp only at hSw); go_simp; (try with_reducible rfl)); (try simp only [Act.put, List.setIfInBounds_toArray, List.set_cons_zero, List.set_cons_succ]))
          refine wpSeq_nil ?_
          simp only [Exit.then]
          have HBr := Lib.hid (show Below wr.heap.size wr w9 from HBW2.out.trans (HB9.out.mono HBW2.out.size))
          have HF29 := Lib.hid (HF2.out.below HBr.out)
          obtain ⟨v0, e0⟩ : ∃ v0, w9.cell? ⟨rb, (i + k) * 2, none⟩ = some v0 := ⟨_, HF29.out.c0 _ HIK.out⟩
          obtain ⟨v1, e1⟩ : ∃ v1, w9.cell? ⟨rb, (i + k) * 2 + 1, none⟩ = some v1 := ⟨_, HF29.out.c1 _ HIK.out⟩
          have f0 := HF29.out.fz ((i + k) * 2) (by have := HIK.out; omega)
          have f1 := HF29.out.fz ((i + k) * 2 + 1) (by have := HIK.out; omega)
          have HEND := Lib.hid (show ElC (ib + 1) n (fun j => if n - (d + 1) ≤ j then (p, dvQ p L1 L2 iv n j) else (0, 0)) ((w9.setCell ⟨rb, (i + k) * 2, none⟩ (.int .i64 p)).setCell ⟨rb, (i + k) * 2 + 1, none⟩ (.int .i64 s)) ∧ ElC rb L1.length (fun j => (p, dvS p L2 t (dvU p L1 L2 iv n d) i (k + 1) j)) ((w9.setCell ⟨rb, (i + k) * 2, none⟩ (.int .i64 p)).setCell ⟨rb, (i + k) * 2 + 1, none⟩ (.int .i64 s)) ∧ KpV (T2v (ib + 1) rb) Wc ((w9.setCell ⟨rb, (i + k) * 2, none⟩ (.int .i64 p)).setCell ⟨rb, (i + k) * 2 + 1, none⟩ (.int .i64 s)) from by
            have hr := HORD.out
            refine ⟨((HF1.out.below HBr.out).far (show rb ≠ ib + 1 by omega) _).far (show rb ≠ ib + 1 by omega) _, ?_, ?_⟩
            · refine (HF29.out.set HIK.out p s).ext (fun j hj => ?_)
              rw [dvS_step]
              by_cases e : j = i + k
              · rw [if_pos e, if_pos e, HSV.out, HZY.out.1, HZY.out.2, dvS_at]
              · rw [if_neg e, if_neg e]
            · have hk6 : KpV (T2v (ib + 1) rb) wr w9 := KpV.of_below HBr.out (fun k q => .inl (q.of HF1.out.lt HF2.out.lt))
              exact (HF3.out.trans hk6).trans (kpV2_set (.inr rfl) (HF1.out.below HBr.out).lt HF29.out.lt))
          go_wp2_with fail
          gi_wp2_with fail
          go_roundw
          case rel => exact ⟨k + 1, by omega, by go_num, HEND.out⟩
          case measure => simp [intOf]; omega
        · have hkl2 : k = L2.length := by omega
          subst hkl2
          have hnl : ¬ (L2.length : Int) < (L2.length : Int) := by omega
          gi_wp2_with fail
          refine ⟨⟨?_, ?_, HQ4.out.trans HF3.out⟩, HF3.out⟩
          · rw [HPL.out]
            refine HF1.out.ext (fun j hj => ?_)
            by_cases h : n - (d + 1) ≤ j
            · rw [if_pos h, if_pos (by omega)]
            · rw [if_neg h, if_neg (by omega)]
          · rw [HPL.out]
            refine HF2.out.ext (fun j hj => ?_)
            obtain ⟨hnd, hnd1, htq, hi, hlt, _⟩ := HD.out
            rw [dvU_step p L1 L2 iv n d hi hlt, ← htq]
end Go.Proofs.Ytfmpcniehgipfaa
namespace Go.Proofs.Ytfmpcniehgipfaa
set_option linter.unusedVariables false
open Go.RowKit
theorem les_sub {p : Int} {L1 L2 : List Int} (hE1 : AllE p L1) : lesL p L1 L2 1 0 = subL p L1 L2 := by
  unfold lesL subL
  rw [Nat.add_zero]
  congr 1
  refine lsU_ext (fun j hj => ?_)
  unfold dvS
  rw [Nat.zero_add, Nat.sub_zero, Int.mul_one]
  by_cases h : j < L2.length
  · rw [if_pos ⟨Nat.zero_le _, h⟩]
  · rw [if_neg (fun e => h e.2), cf_ge (L := L2) (by omega), Int.sub_zero, Int.emod_eq_of_lt (hE1 j).1 (hE1 j).2]
set_option maxRecDepth 100000 in
set_option maxHeartbeats 4000000 in
theorem sMinusL (p : Int) (v1 v2 : Value) (L1 L2 : List Int) (w : World) (hp : isP p = true) (h1 : Ints w v1 L1) (h2 : Ints w v2 L2) (hE1 : AllE p L1) (hE2 : AllE p L2) (hl1 : L1.length ≤ 400) (hl2 : L2.length ≤ 400) :
    Calls Try.prog 83 #[.int .i64 p, v1, v2] w fun e w' => ∃ u, e = .returned u ∧ RowN w' w.heap.size u (subL p L1 L2) ∧ Below w.heap.size w w' := by
  obtain ⟨q1, q2⟩ := isP_bd hp
  have HL := Lib.hid (sLess p 1 0 v1 v2 L1 L2 w hp h1 h2 hE1 hE2 (by omega) (by omega) hl1 hl2 (by omega))
  rw [les_sub hE1] at HL
  clear hp h1 h2 hE1 hE2
  go_enter Try.func83, Try.ntmps83
  go_wp2_with fail
  refine HL.out.mono ?_
  rintro e w1 ⟨u, rfl, hu, hb⟩
  have H1 := Lib.hid (And.intro hu hb)
  clear hu hb
  go_wp2_with fail
  go_ret
  exact ⟨_, rfl, H1.out⟩
set_option maxRecDepth 100000 in
set_option maxHeartbeats 8000000 in
theorem sScaledL (p a : Int) (v : Value) (L : List Int) (w : World) (hp : isP p = true) (h : Ints w v L) (hE : AllE p L) (ha0 : 0 ≤ a) (ha1 : a < p) (hl : L.length ≤ 400) :
    Calls Try.prog 84 #[.int .i64 p, v, .int .i64 a] w fun e w' => ∃ u, e = .returned u ∧ RowN w' w.heap.size u (smuL p L a) ∧ Below w.heap.size w w' := by
  obtain ⟨q1, q2⟩ := isP_bd hp
  obtain ⟨i0, hi, hz0, hz1, hz2⟩ := info_parts infoN
  have HP := Lib.hid hp
  have HE1 := Lib.hid hE
  have HG := Lib.hid h
  obtain ⟨_, av, cap, rfl, _⟩ := h
  have HEM := Lib.hid (show RowN (w.alloc (.cells #[] 3)) w.heap.size (.slice (some ⟨w.heap.size, 0, none⟩) 0 0) (lsU 0 (fun j => a * cf L j % p)) ∧ Below w.heap.size w (w.alloc (Obj.cells #[] 3)) from ⟨RowN.empty w (Nat.le_refl _), Below.alloc (Below.refl _ _) (Nat.le_refl _) _⟩)
  clear hp hE
  go_enter Try.func84, Try.ntmps84
  go_wp2_with fail
  go_loopw [7, 13] (fun f i wr => ∃ k : Nat, k ≤ L.length ∧ i = .int .i64 k ∧ RowN wr w.heap.size f (lsU k (fun j => a * cf L j % p)) ∧ Below w.heap.size w wr) (fun _ i _ => L.length - (intOf i).toNat)
  case atStart => exact ⟨0, by omega, rfl, HEM.out⟩
  case round =>
    clear HEM
    obtain ⟨k, hk, rfl, hf, hb⟩ := hrel
    have HF := Lib.hid hf
    have HB := Lib.hid hb
    have HLN := Lib.hid (lsU_len k (fun j => a * cf L j % p))
    obtain ⟨af, cf', rfl⟩ := hf.form' (lsU_len k (fun j => a * cf L j % p))
    clear hf hb
    by_cases hlt : k < L.length
    · obtain ⟨g2, off2, rfl, hg2, hc2⟩ := HG.out.cell (by omega)
      have hck := hc2 k hlt
      have hyb := HE1.out k
      obtain ⟨y, hy⟩ : ∃ y, y = cf L k := ⟨_, rfl⟩
      rw [← hy] at hck hyb
      have d1 : wr.cell? ⟨g2, off2 + k, none⟩ = some (.int .i64 y) := (HB.out.cell (p := ⟨g2, off2 + k, none⟩) hg2).trans hck
      have hkI : (k : Int) < (L.length : Int) := by omega
      have hk0 : (0 : Int) ≤ (k : Int) := by omega
      have hyt := mul_bd HP.out ha0 ha1 hyb.1 hyb.2
      have hw1 : IntKind.i64.wrap (a * y) = a * y := IntWalk.i64_in _ (by omega)
      obtain ⟨s, hs⟩ : ∃ s, s = a * y % p := ⟨_, rfl⟩
      have htm : (a * y).tmod p = s := by rw [hs]; exact Int.tmod_eq_emod_of_nonneg hyt.1
      have hp0 : ¬ p = 0 := by omega
      have hpm : (p == 0) = false := by simp [hp0]
      have hem : 0 ≤ s ∧ s < p := by rw [hs]; exact emod_bdU (by omega) _
      have hwm : IntKind.i64.wrap s = s := IntWalk.i64_in _ (by omega)
      have HN := Lib.hid (show lsU k (fun j => a * cf L j % p) ++ [s] = lsU (k + 1) (fun j => a * cf L j % p) from by rw [lsU_snoc, hs, hy])
      obtain ⟨M, hM⟩ : ∃ M, M = lsU k (fun j => a * cf L j % p) := ⟨_, rfl⟩
      rw [← hM] at HF HN HLN
      have HML := Lib.hid (show M.length ≤ 500 from by rw [HLN.out]; omega)
      have HF' := Lib.hid (show RowN wr w.heap.size (.slice af k cf') M ∧ M.length = k from ⟨HF.out, HLN.out⟩)
      clear hM hc2 hck hy hs
      go_wp2_with (at_builtin; refine wpList_append_own _ rfl _ _ 22 rfl w.heap.size 3 i0 (.int .i64 0) 1 8 Try.underlying22 hi hz0 hz1 hz2 rfl (by decide) _ _ _ rfl (RowN.below HF'.out.1 (Below.alloc (Below.refl _ _) (Nat.le_refl _) _)) _ 1 1 [.int .i64 s] rfl rfl (one_num _ _ _) (one_numok _) (by unfold maxLen; have := HML.out; omega) (by have := HML.out; omega) (by first | omega | (have := HB.out.size; simp; omega)) ?_)
      intro v6 w6 hown6 hgrow6 _
      obtain ⟨r6, b6⟩ := rowN_app HF'.out.1 HB.out HB.out.size (Below.alloc (Below.refl _ _) (Nat.le_refl _) _) hown6 hgrow6
      rw [HN.out] at r6
      have H6 := Lib.hid (And.intro r6 b6)
      clear r6 b6 hown6 hgrow6
      go_wp2_with fail
      go_roundw
      case rel => exact ⟨k + 1, by omega, by go_num, H6.out⟩
      case measure => simp [intOf]; omega
    · have hkl : k = L.length := by omega
      subst hkl
      have HT := Lib.hid (sTrim _ _ wr (HF.out.ilr (by rw [HLN.out]; omega)) (by rw [HLN.out]; omega))
      rw [show trimL (lsU L.length (fun j => a * cf L j % p)) = smuL p L a from rfl] at HT
      go_wp2_with fail
      refine HT.out.mono ?_
      rintro e w8 ⟨u8, rfl, hu8, hb8⟩
      have H8 := Lib.hid (show RowN w8 w.heap.size u8 (smuL p L a) ∧ Below w.heap.size w w8 from ⟨hu8.base HB.out.size, HB.out.trans (hb8.mono HB.out.size)⟩)
      clear hu8 hb8
      go_wp2_with fail
      go_ret
      exact ⟨_, rfl, H8.out⟩
end Go.Proofs.Ytfmpcniehgipfaa
