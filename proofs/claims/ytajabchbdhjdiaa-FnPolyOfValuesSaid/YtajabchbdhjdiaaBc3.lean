/-
  PolyOfValues of the program: points are added till the values are those that are wanted. Conditions: what the slice holds is known.
  PolyOfValues of the model. Conditions: what the slice holds is known.
-/
import Derived.Test.YtajabchbdhjdiaaBa26
import Derived.Test.YtajabchbdhjdiaaBc2
import Derived.Test.YtajabchbdhjdiaaBc1
import Derived.Deep.Cut
namespace Go.Proofs.Ytajabchbdhjdiaa
set_option linter.unusedVariables false
open Go.RowKit
/-- whether a list has a value for each point -/
def pvB (p : Int) (L : List Int) : Bool := lst p && (decide ((L.length : Int) = p * p * p) && L.all (isE p))
/-- the sum of the points with the first k values -/
def pvK (p : Int) (L : List Int) : Nat → List Trm
  | 0 => []
  | k + 1 => if 0 < L.getD k 0 then sumV p (pvK p L k) (sclL p (L.getD k 0) (ppV p k)) else pvK p L k
def pvV (p : Int) (L : List Int) : List Trm := if pvB p L = true then pvK p L L.length else []
theorem pvK_ok (p : Int) (L : List Int) : ∀ k, validB p (pvK p L k) = true
  | 0 => rfl
  | k + 1 => by
    unfold pvK
    split
    · exact sumV_ok
    · exact pvK_ok p L k
theorem sumV_nil {p : Int} {F : List Trm} (hp : isP p = true) (hV : validB p F = true) : sumV p F [] = F := by
  have e : addAll p [] F = F := rfl
  have h0 : validB p [] = true := rfl
  unfold sumV addOk
  simp only [e, hp, hV, h0]
  rfl
theorem pvK_stop {p : Int} {L : List Int} {k : Nat} (h : ∀ j, k ≤ j → j < L.length → L.getD j 0 = 0) : ∀ d, k + d ≤ L.length → pvK p L (k + d) = pvK p L k
  | 0, _ => rfl
  | d + 1, hd => by
    show (if 0 < L.getD (k + d) 0 then _ else pvK p L (k + d)) = _
    rw [if_neg (by rw [h (k + d) (by omega) (by omega)]; omega)]
    exact pvK_stop h d (by omega)
theorem ownT_far7 {w : World} {B G : Nat} {v : Value} {L : List Trm} (h : OwnTrms w B v L) (hG : G < B) (o : Nat) (u : Value) : OwnTrms (w.setCell ⟨G, o, none⟩ u) B v L := by
  obtain ⟨hl, a, cap, e, h⟩ := h
  refine ⟨hl, a, cap, e, ?_⟩
  rcases h with h | ⟨g, off, e2, h1, h2, h3, h4⟩
  · exact .inl h
  · have ne : ∀ d, (⟨G, o, none⟩ : Addr) ≠ ⟨g, d, none⟩ := fun d q => by have := congrArg Addr.block q; simp at this; omega
    refine .inr ⟨g, off, e2, h1, by simpa using h2, fun j hj => ?_, fun i hi => by rw [World.frozen?_setCell]; exact h4 i hi⟩
    have hh := h3 j hj
    unfold TAt at hh ⊢
    obtain ⟨t0, t1, t2, t3⟩ := hh
    exact ⟨by rw [World.cell?_setCell_other _ _ _ _ (ne _)]; exact t0, by rw [World.cell?_setCell_other _ _ _ _ (ne _)]; exact t1, by rw [World.cell?_setCell_other _ _ _ _ (ne _)]; exact t2, by rw [World.cell?_setCell_other _ _ _ _ (ne _)]; exact t3⟩
set_option maxHeartbeats 1000000 in
theorem iIsList (p : Int) (v : Value) (L : List Int) (w : World) (h : Ints w v L) (hl : L.length ≤ 1048576) :
    Calls Try.prog 76 #[.int .i64 p, v] w fun e w' => e = .returned (.bool (pvB p L)) ∧ w = w' := by
  have HH := Lib.hid (iHas p)
  cases hL : lst p
  · have HV := Lib.hid (show pvB p L = false by unfold pvB; rw [hL]; rfl)
    rw [hL] at HH
    rw [HV.out]
    clear hL
    go_enter Try.func76, Try.ntmps76
    go_wp2_with fail
    refine (HH.out _).mono ?_
    rintro e w2 ⟨rfl, rfl⟩
    go_wp2_with fail
    go_ret
    exact ⟨rfl, rfl⟩
  · have hp := lst_isP hL
    have hpp := pp_bd hp
    have HA := Lib.hid (iAEr p hp v L w h hl)
    obtain ⟨a, ha⟩ : ∃ a, a = p * p := ⟨_, rfl⟩
    obtain ⟨b, hb⟩ : ∃ b, b = p * p * p := ⟨_, rfl⟩
    have f1 : IntKind.i64.wrap (p * p) = a := by rw [ha]; exact IntWalk.i64_in _ (by omega)
    have f2 : IntKind.i64.wrap (a * p) = b := by rw [ha, hb]; exact IntWalk.i64_in _ (by omega)
    have HV := Lib.hid (show pvB p L = (decide ((L.length : Int) = b) && L.all (isE p)) by unfold pvB; rw [hL, hb]; rfl)
    rw [hL] at HH
    rw [HV.out]
    obtain ⟨r, hr⟩ : ∃ r, r = L.all (isE p) := ⟨_, rfl⟩
    rw [← hr] at HA ⊢
    obtain ⟨_, aa, cc, rfl, _⟩ := h
    clear hL hp hpp ha hb hr HV
    by_cases hlb : (L.length : Int) = b
    · have hq : ((L.length : Int) == b) = true := by simp [hlb]
      rw [decide_eq_true hlb, Bool.true_and]
      clear hlb
      go_enter Try.func76, Try.ntmps76
      go_wp2_with fail
      refine (HH.out _).mono ?_
      rintro e w2 ⟨rfl, rfl⟩
      go_wp2_with fail
      refine HA.out.mono ?_
      rintro e w3 ⟨rfl, rfl⟩
      go_wp2_with fail
      go_ret
      exact ⟨rfl, rfl⟩
    · have hq : ((L.length : Int) == b) = false := by simp [hlb]
      rw [decide_eq_false hlb, Bool.false_and]
      clear hlb
      go_enter Try.func76, Try.ntmps76
      go_wp2_with fail
      refine (HH.out _).mono ?_
      rintro e w2 ⟨rfl, rfl⟩
      go_wp2_with fail
      go_ret
      exact ⟨rfl, rfl⟩
set_option maxRecDepth 100000 in
set_option maxHeartbeats 8000000 in
theorem iPolyOfValues (p : Int) (v : Value) (L : List Int) (w : World) (h : Ints w v L) (hl : L.length ≤ 1048576) :
    Calls Try.prog 28 #[.int .i64 p, v] w (GivesPB (pvV p L) (pvB p L) w) := by
  have HL := Lib.hid (iIsList p v L w h hl)
  cases hB : pvB p L
  · have HV := Lib.hid (show pvV p L = [] by unfold pvV; rw [hB]; rfl)
    rw [hB] at HL
    rw [HV.out]
    clear hB
    go_enter Try.func28, Try.ntmps28
    go_wp2_with fail
    refine HL.out.mono ?_
    rintro e w2 ⟨rfl, rfl⟩
    go_wp2_with fail
    refine bodyPost_ret (v := .tuple #[.slice none 0 0, .bool false]) (by simp [results, Try.results28, go_sem]) rfl ⟨_, rfl, ownT_nil7 _ _, Below.refl _ _⟩
  · have HV := Lib.hid (show pvV p L = pvK p L L.length by unfold pvV; rw [hB]; rfl)
    rw [hB] at HL
    rw [HV.out]
    have hsp : lst p = true ∧ (L.length : Int) = p * p * p ∧ L.all (isE p) = true := by simpa [pvB] using hB
    obtain ⟨hlp, hlen, hall⟩ := hsp
    have hp23 := lst_cases hlp
    have hC : L.length ≤ 27 ∧ 8 ≤ L.length := by rcases hp23 with rfl | rfl <;> omega
    obtain ⟨hl1, a, cap, rfl, hd⟩ := h
    have hd2 : ∃ g off, a = some ⟨g, off, none⟩ ∧ g < w.heap.size ∧ ∀ j, j < L.length → w.cell? ⟨g, off + j, none⟩ = some (.int .i64 (L.getD j 0)) := by
      rcases hd with hd | hd
      · rw [hd] at hC; simp at hC
      · exact hd
    obtain ⟨g, off, rfl, hg, hc⟩ := hd2
    have HEL := Lib.hid (show ∀ j, j < L.length → isE p (L.getD j 0) = true from fun j hj => by
      rw [List.getD_eq_getElem?_getD, List.getElem?_eq_getElem hj]
      exact List.all_eq_true.1 hall _ (List.getElem_mem hj))
    have HLP := Lib.hid hlp
    have HC := Lib.hid hc
    clear hB hd hall hp23 hc HV
    go_enter Try.func28, Try.ntmps28
    go_wp2_with fail
    refine HL.out.mono ?_
    rintro e w2 ⟨rfl, rfl⟩
    go_upto_region 4 with fail
    obtain ⟨W, hW⟩ : ∃ W, W = (w.alloc (Obj.cells #[.int .i64 0, .int .i64 0, .int .i64 0, .int .i64 0, .int .i64 0, .int .i64 0, .int .i64 0, .int .i64 0, .int .i64 0, .int .i64 0, .int .i64 0, .int .i64 0, .int .i64 0, .int .i64 0, .int .i64 0, .int .i64 0, .int .i64 0, .int .i64 0, .int .i64 0, .int .i64 0, .int .i64 0, .int .i64 0, .int .i64 0, .int .i64 0, .int .i64 0, .int .i64 0, .int .i64 0] 82)).alloc (Obj.cells #[.int .i64 0, .int .i64 0, .int .i64 0, .int .i64 0, .int .i64 0, .int .i64 0, .int .i64 0, .int .i64 0, .int .i64 0, .int .i64 0, .int .i64 0, .int .i64 0, .int .i64 0, .int .i64 0, .int .i64 0, .int .i64 0, .int .i64 0, .int .i64 0, .int .i64 0, .int .i64 0, .int .i64 0, .int .i64 0, .int .i64 0, .int .i64 0, .int .i64 0, .int .i64 0, .int .i64 0] 82) := ⟨_, rfl⟩
    rw [← hW]
    have hW2 : W = (w.alloc (Obj.cells (Array.replicate 27 (.int .i64 0)) 82)).alloc (Obj.cells (Array.replicate 27 (.int .i64 0)) 82) := hW
    have A0 : ArW w.heap.size W (fun _ => 0) := by rw [hW2]; exact (arW_new w 82).below (Below.alloc (Below.refl _ _) (Nat.le_refl _) _)
    have A1 : ArW (w.heap.size + 1) W (fun _ => 0) := by
      rw [hW2]
      have := arW_new (w.alloc (Obj.cells (Array.replicate 27 (.int .i64 0)) 82)) 82
      rwa [World.size_alloc] at this
    have hbW : Below w.heap.size w W := by rw [hW2]; exact (by repeat (first | exact Below.refl _ _ | apply Below.drew | apply below_drewN | (refine Below.alloc ?_ (by first | omega | (simp <;> omega)) _)))
    have hcp := copy27 W 3 w.heap.size g off cap L _ A0 hC.1 (fun j hj => (hbW.cell (p := ⟨g, off + j, none⟩) hg).trans (HC.out j hj))
    obtain ⟨W1, hW1⟩ : ∃ W1, W1 = W.setCells w.heap.size 0 (L.map (Value.int .i64)) := ⟨_, rfl⟩
    have B0 : ArW w.heap.size W1 (fun j => L.getD j 0) := by
      rw [hW1]
      refine (arW_cells _ L 0 W _ A0 (by omega)).ext (fun j hj => ?_)
      by_cases e : j < L.length
      · rw [if_pos (by omega)]; rfl
      · rw [if_neg (by omega), List.getD_eq_getElem?_getD, List.getElem?_eq_none (by omega)]; rfl
    have B1 : ArW (w.heap.size + 1) W1 (fun _ => 0) := by rw [hW1]; exact arF_cells _ _ (by omega) _ _ _ _ A1
    have B2 : Below w.heap.size w W1 := by rw [hW1]; exact below_cells (Nat.le_refl _) _ _ _ hbW
    rw [← hW1] at hcp
    have HB := Lib.hid (And.intro B0 (And.intro B1 B2))
    clear hW hW2 A0 A1 hbW hW1 B0 B1 B2
    have hI27 : (Try.prog.info? 82).map (·.size) = some 27 := by kernel_rfl
    go_wp2_with (refine Lib.wpList_copy_run _ rfl _ _ 24 24 rfl _ _ rfl rfl hcp ?_)
    go_loopw [8, 9] (fun f i wr => ∃ k : Nat, k ≤ L.length ∧ i = .int .i64 k ∧ OwnTrms wr (w.heap.size + 2) f (pvK p L k) ∧ ArW w.heap.size wr (fun j => L.getD j 0) ∧ ArW (w.heap.size + 1) wr (fun j => if j < k then L.getD j 0 else 0) ∧ Below w.heap.size w wr) (fun _ i _ => L.length - (intOf i).toNat)
    case atStart => exact ⟨0, by omega, rfl, ownT_nil7 _ _, HB.out.1, HB.out.2.1.ext (fun j hj => by simp), HB.out.2.2⟩
    case round =>
      obtain ⟨k, hk, rfl, hf, hA, hM, hb⟩ := hrel
      have hs2 := hM.lt
      obtain ⟨r, hr⟩ : ∃ r, r = (List.range 27).all fun j => (if j < k then L.getD j 0 else 0) == L.getD j 0 := ⟨_, rfl⟩
      obtain ⟨XM, hXM⟩ : ∃ XM, XM = arL (fun j => if j < k then L.getD j 0 else 0) := ⟨_, rfl⟩
      obtain ⟨XA, hXA⟩ : ∃ XA, XA = arL (fun j => L.getD j 0) := ⟨_, rfl⟩
      have hq : ∀ w, (Op.equalIn 10000 82 (.agg XM.toArray) (.agg XA.toArray)).run Try.prog w = .ok r w := by
        intro w
        rw [hr, hXM, hXA]
        exact runEq27 _ _ w
      have hRM := hM.range
      have hRA := hA.range
      rw [← hXM] at hRM
      rw [← hXA] at hRA
      have hI1 : (Try.prog.info? 82).map (·.size) = some XM.length := by rw [hXM, arL_len]; exact hI27
      have hI2 : (Try.prog.info? 82).map (·.size) = some XA.length := by rw [hXA, arL_len]; exact hI27
      have HF := Lib.hid (And.intro hf (And.intro hA (And.intro hM hb)))
      have HR := Lib.hid hr
      clear hf hA hM hb hr hXM hXA
      cases r
      · have hkl : k < L.length := by
          rcases Nat.lt_or_ge k L.length with h | h
          · exact h
          · exfalso
            have e : ((List.range 27).all fun j => (if j < k then L.getD j 0 else 0) == L.getD j 0) = true := by
              refine List.all_eq_true.2 fun j _ => ?_
              by_cases hj : j < k
              · rw [if_pos hj]; exact beq_self_eq_true _
              · rw [if_neg hj, List.getD_eq_getElem?_getD, List.getElem?_eq_none (by omega)]; rfl
            rw [e] at HR
            exact absurd HR.out (by decide)
        have hk27 : k < 27 := by omega
        obtain ⟨x, hx⟩ : ∃ x, x = L.getD k 0 := ⟨_, rfl⟩
        have hxe : isE p x = true := by rw [hx]; exact HEL.out k hkl
        have hPP : ppB p k = true := by
          unfold ppB ptB
          rw [HLP.out, lst_isP HLP.out]
          simp
          omega
        have hPV := (ppV_s hPP).2
        have HS := Lib.hid (show pvK p L (k + 1) = sumV p (pvK p L k) (sclV p x (ppV p k)) from by
          have e1 : sclV p x (ppV p k) = sclL p x (ppV p k) := by unfold sclV; rw [lst_isP HLP.out, hPV, hxe]; rfl
          rw [e1]
          show (if 0 < L.getD k 0 then _ else pvK p L k) = _
          rw [← hx]
          by_cases h0 : 0 < x
          · rw [if_pos h0]
          · have h1 := isE_iff.1 hxe
            have : x = 0 := by omega
            rw [if_neg h0, this, show sclL p 0 (ppV p k) = [] from rfl, sumV_nil (lst_isP HLP.out) (pvK_ok p L k)])
        have HX := Lib.hid hx
        have hk0 : (0 : Int) ≤ (k : Int) := by omega
        have hk1 : (k : Int) < 27 := by omega
        clear hxe hPP hPV hx
        go_wp2_with (first
          | (refine wpList_load_mid rfl 82 _ rfl (w.heap.size + 1) 0 rfl XM _ hRM Try.underlying82 rfl hI1 ?_)
          | (refine wpList_load_mid rfl 82 _ rfl w.heap.size 0 rfl XA _ hRA Try.underlying82 rfl hI2 ?_))
        refine (iPointPoly p k _).mono ?_
        rintro e w1 ⟨u1, rfl, hu1, hb1⟩
        have hc1 : w1.cell? ⟨w.heap.size, k, none⟩ = some (.int .i64 x) := by rw [HX.out]; exact (hb1.cell (p := ⟨w.heap.size, k, none⟩) HF.out.2.1.lt).trans (HF.out.2.1.c k hk27)
        have H1 := Lib.hid (And.intro hu1 hb1)
        clear hu1 hb1
        go_wp2_with fail
        refine (iScalePoly p u1 (ppV p k) x w1 H1.out.1.trms).mono ?_
        rintro e w2 ⟨u2, rfl, hu2, hb2⟩
        have H2 := Lib.hid (show OwnTrms w2 w1.heap.size u2 (sclV p x (ppV p k)) ∧ Below wr.heap.size wr w2 from ⟨hu2, H1.out.2.trans (hb2.mono H1.out.2.size)⟩)
        clear hu2 hb2
        go_wp2_with fail
        refine (iAddPoly p u8 u2 (pvK p L k) _ w2 (HF.out.1.below H2.out.2).trms H2.out.1.trms).mono ?_
        rintro e w3 ⟨u3, rfl, hu3, hb3⟩
        have hb3' : Below wr.heap.size wr w3 := H2.out.2.trans (hb3.mono H2.out.2.size)
        have hA3 : ArW w.heap.size w3 (fun j => L.getD j 0) := HF.out.2.1.below hb3'
        have hM3 : ArW (w.heap.size + 1) w3 (fun j => if j < k then L.getD j 0 else 0) := HF.out.2.2.1.below hb3'
        have hc2 : w3.cell? ⟨w.heap.size, k, none⟩ = some (.int .i64 x) := by rw [HX.out]; exact hA3.c k hk27
        have hc3 := hM3.c k hk27
        have hf3 := hM3.f k hk27
        have H3 := Lib.hid (show OwnTrms w3 (w.heap.size + 2) u3 (pvK p L (k + 1)) ∧ (ArW w.heap.size w3 (fun j => L.getD j 0)) ∧ ArW (w.heap.size + 1) w3 (fun j => if j < k then L.getD j 0 else 0) ∧ Below w.heap.size w w3 from
          ⟨by rw [HS.out]; exact ownT_low7 hu3 (Nat.le_trans (by omega) H2.out.2.size), hA3, hM3, HF.out.2.2.2.trans (hb3'.mono HF.out.2.2.2.size)⟩)
        clear hu3 hb3 hb3' hA3 hM3
        go_wp2_with fail
        go_roundw
        case rel =>
          refine ⟨k + 1, by omega, by go_num, ownT_far7 H3.out.1 (by omega) _ _, H3.out.2.1.far (by omega) _ _, ?_, H3.out.2.2.2.setCell (by show w.heap.size ≤ w.heap.size + 1; omega) _⟩
          refine (H3.out.2.2.1.set hk27 x).ext (fun j hj => ?_)
          by_cases e : j = k
          · subst e
            rw [if_pos rfl, if_pos (by omega), HX.out]
          · rw [if_neg e]
            by_cases e2 : j < k
            · rw [if_pos e2, if_pos (by omega)]
            · rw [if_neg e2, if_neg (by omega)]
        case measure => simp [intOf]; omega
      · have hz : ∀ j, k ≤ j → j < L.length → L.getD j 0 = 0 := by
          intro j h1 h2
          have := List.all_eq_true.1 HR.out.symm j (List.mem_range.2 (by omega))
          rw [if_neg (by omega)] at this
          have := beq_iff_eq.1 this
          exact this.symm
        have HE := Lib.hid (show pvK p L L.length = pvK p L k from by
          have := pvK_stop (p := p) hz (L.length - k) (by omega)
          rwa [show k + (L.length - k) = L.length by omega] at this)
        clear hz
        go_wp2_with (first
          | (refine wpList_load_mid rfl 82 _ rfl (w.heap.size + 1) 0 rfl XM _ hRM Try.underlying82 rfl hI1 ?_)
          | (refine wpList_load_mid rfl 82 _ rfl w.heap.size 0 rfl XA _ hRA Try.underlying82 rfl hI2 ?_))
        refine bodyPost_ret (v := .tuple #[u8, .bool true]) (by simp [results, Try.results28, go_sem]) rfl ⟨_, rfl, ?_, HF.out.2.2.2⟩
        rw [HE.out]
        exact ownT_low7 HF.out.1 (by omega)
end Go.Proofs.Ytajabchbdhjdiaa
namespace Go.Proofs.Ytajabchbdhjdiaa
set_option linter.unusedVariables false
open Go.RowKit
set_option maxRecDepth 100000 in
set_option maxHeartbeats 8000000 in
theorem sPolyOfValues_no (p : Int) (v : Value) (L : List Int) (w : World) (h : Ints w v L) (hl : L.length ≤ 1048576) (hB : pvB p L = false) :
    Calls Try.prog 26 #[.int .i64 p, v] w (GivesPB [] false w) := by
  have HH := Lib.hid (sSmall10 p)
  cases hL : lst p
  · rw [hL] at HH
    clear hL hB h
    go_enter Try.func26, Try.ntmps26
    go_wp2_with fail
    refine (HH.out _).mono ?_
    rintro e w2 ⟨rfl, rfl⟩
    go_wp2_with fail
    refine bodyPost_ret (v := .tuple #[.slice (some ⟨w.heap.size, 0, none⟩) 0 0, .bool false]) (by simp [results, Try.results26, go_sem]) rfl ⟨_, rfl, ⟨by simp, _, _, rfl, .inl rfl⟩, Below.alloc (Below.refl _ _) (Nat.le_refl _) _⟩
  · have hp := lst_isP hL
    rw [hL] at HH
    have HPT := Lib.hid (sPoints p hp)
    have hb1 : Below w.heap.size w (w.alloc (Obj.cells #[] 69)) := Below.alloc (Below.refl _ _) (Nat.le_refl _) _
    have HEL := Lib.hid (fun w => sElr p hp v L w)
    have HIN := Lib.hid h
    obtain ⟨b, hb⟩ : ∃ b, b = p * p * p := ⟨_, rfl⟩
    rw [← hb] at HPT
    have hB2 : (decide ((L.length : Int) = b) && L.all (isE p)) = false := by rw [← hB, hb]; unfold pvB; rw [hL]; rfl
    clear hb hL hB
    by_cases hlb : (L.length : Int) = b
    · rw [decide_eq_true hlb, Bool.true_and] at hB2
      rw [hB2] at HEL
      have hq : ((L.length : Int) != b) = false := by simp [hlb]
      obtain ⟨_, a, cap, rfl, _⟩ := h
      clear hlb hB2 hp
      go_enter Try.func26, Try.ntmps26
      go_wp2_with fail
      refine (HH.out _).mono ?_
      rintro e w2 ⟨rfl, rfl⟩
      go_wp2_with fail
      refine (HPT.out _).mono ?_
      rintro e w2 ⟨rfl, rfl⟩
      go_wp2_with fail
      refine (HEL.out _ (HIN.out.below hb1) hl).mono ?_
      rintro e w2 ⟨rfl, rfl⟩
      go_wp2_with fail
      refine bodyPost_ret (v := .tuple #[.slice (some ⟨w.heap.size, 0, none⟩) 0 0, .bool false]) (by simp [results, Try.results26, go_sem]) rfl ⟨_, rfl, ⟨by simp, _, _, rfl, .inl rfl⟩, Below.alloc (Below.refl _ _) (Nat.le_refl _) _⟩
    · have hq : ((L.length : Int) != b) = true := by simp [hlb]
      obtain ⟨_, a, cap, rfl, _⟩ := h
      clear hlb hB2 hp
      go_enter Try.func26, Try.ntmps26
      go_wp2_with fail
      refine (HH.out _).mono ?_
      rintro e w2 ⟨rfl, rfl⟩
      go_wp2_with fail
      refine (HPT.out _).mono ?_
      rintro e w2 ⟨rfl, rfl⟩
      go_wp2_with fail
      refine bodyPost_ret (v := .tuple #[.slice (some ⟨w.heap.size, 0, none⟩) 0 0, .bool false]) (by simp [results, Try.results26, go_sem]) rfl ⟨_, rfl, ⟨by simp, _, _, rfl, .inl rfl⟩, Below.alloc (Below.refl _ _) (Nat.le_refl _) _⟩
set_option maxRecDepth 100000 in
set_option maxHeartbeats 8000000 in
theorem sPolyOfValues_yes (p : Int) (v : Value) (L : List Int) (w : World) (h : Ints w v L) (hl : L.length ≤ 1048576) (hB : pvB p L = true) :
    Calls Try.prog 26 #[.int .i64 p, v] w (GivesPB (pvK p L L.length) true w) := by
  have hsp : lst p = true ∧ (L.length : Int) = p * p * p ∧ L.all (isE p) = true := by simpa [pvB] using hB
  obtain ⟨hlp, hlen, hall⟩ := hsp
  have hp := lst_isP hlp
  have HP := Lib.hid hp
  have hpp := isP_bd hp
  have HH := Lib.hid (sSmall10 p)
  rw [hlp] at HH
  have HPT := Lib.hid (sPoints p hp)
  rw [← hlen] at HPT
  have hb1 : Below w.heap.size w (w.alloc (Obj.cells #[] 69)) := Below.alloc (Below.refl _ _) (Nat.le_refl _) _
  have HEA := Lib.hid (fun w => sElr p hp v L w)
  rw [hall] at HEA
  have HIN := Lib.hid h
  have HEL := Lib.hid (show ∀ j, j < L.length → isE p (L.getD j 0) = true from fun j hj => by
    rw [List.getD_eq_getElem?_getD, List.getElem?_eq_getElem hj]
    exact List.all_eq_true.1 hall _ (List.getElem_mem hj))
  have hC : L.length ≤ 27 ∧ 8 ≤ L.length := by rcases lst_cases hlp with rfl | rfl <;> omega
  have HLP := Lib.hid hlp
  have HLN := Lib.hid hlen
  obtain ⟨hl1, a, cap, rfl, hd⟩ := h
  obtain ⟨g, off, rfl, hg, hc⟩ : ∃ g off, a = some ⟨g, off, none⟩ ∧ g < w.heap.size ∧ ∀ j, j < L.length → w.cell? ⟨g, off + j, none⟩ = some (.int .i64 (L.getD j 0)) := by
    rcases hd with hd | hd
    · rw [hd] at hC; simp at hC
    · exact hd
  have HC := Lib.hid hc
  clear hd hc hp hlp hlen hall hB
  go_enter Try.func26, Try.ntmps26
  go_wp2_with fail
  refine (HH.out _).mono ?_
  rintro e w2 ⟨rfl, rfl⟩
  go_wp2_with fail
  refine (HPT.out _).mono ?_
  rintro e w2 ⟨rfl, rfl⟩
  go_wp2_with fail
  refine (HEA.out _ (HIN.out.below hb1) hl).mono ?_
  rintro e w2 ⟨rfl, rfl⟩
  go_wp2_with fail
  go_loopw [6, 29] (fun f i wr => ∃ k : Nat, k ≤ L.length ∧ i = .int .i64 k ∧ OwnTrms wr w.heap.size f (pvK p L k) ∧ Below w.heap.size w wr) (fun _ i _ => L.length - (intOf i).toNat)
  case atStart => exact ⟨0, by omega, rfl, ⟨by simp [pvK], _, _, rfl, .inl rfl⟩, hb1⟩
  case round =>
    obtain ⟨k, hk, rfl, hf, hb⟩ := hrel
    by_cases hkl : k < L.length
    · have hkI : (k : Int) < (L.length : Int) := by omega
      have hk0 : (0 : Int) ≤ (k : Int) := by omega
      obtain ⟨x, hx⟩ : ∃ x, x = L.getD k 0 := ⟨_, rfl⟩
      have hxe : isE p x = true := by rw [hx]; exact HEL.out k hkl
      have hck : wr.cell? ⟨g, off + k, none⟩ = some (.int .i64 x) := by rw [hx]; exact (hb.cell (p := ⟨g, off + k, none⟩) hg).trans (HC.out k hkl)
      have HF := Lib.hid (And.intro hf hb)
      by_cases h0 : 0 < x
      · have hPP : ppB p k = true := by
          have := HLN.out
          unfold ppB ptB
          rw [HLP.out, HP.out]
          simp
          omega
        obtain ⟨v1, v2⟩ := ppV_s hPP
        have hpt : ptB p k = true := by unfold ppB at hPP; simp at hPP; exact hPP.1
        have HXE := Lib.hid hxe
        have HBD := Lib.hid (ptX_bd hpt)
        have HPQ := Lib.hid (show PtQ p k (k / p) (ptX p k) (ptY p k) (ptZ p k) from by
          have hh := ptQ HP.out hk0 (by have := HLN.out; omega)
          have ex : ptX p k = k / p / p := by unfold ptX; rw [if_pos hpt]
          have ey : ptY p k = k / p % p := by unfold ptY; rw [if_pos hpt]
          have ez : ptZ p k = k % p := by unfold ptZ; rw [if_pos hpt]
          rw [ex, ey, ez]
          exact hh)
        have HS := Lib.hid (show pvK p L (k + 1) = sumV p (pvK p L k) (sclL p x (pqS p (ptX p k) (ptY p k) (ptZ p k) 3)) ∧ validB p (pqS p (ptX p k) (ptY p k) (ptZ p k) 3) = true from by
          refine ⟨?_, v1 ▸ v2⟩
          show (if 0 < L.getD k 0 then _ else pvK p L k) = _
          rw [← hx, if_pos h0, v1])
        obtain ⟨X, hX⟩ : ∃ X, X = ptX p k := ⟨_, rfl⟩
        obtain ⟨Y, hY⟩ : ∃ Y, Y = ptY p k := ⟨_, rfl⟩
        obtain ⟨Z, hZ⟩ : ∃ Z, Z = ptZ p k := ⟨_, rfl⟩
        rw [← hX, ← hY, ← hZ] at HBD HPQ HS
        have hgt : x > 0 := h0
        clear hX hY hZ hPP v1 v2 hpt hxe hf hb hx h0
        go_wp2_with fail
        refine (sPoint p k _ X Y Z HP.out HPQ.out _).mono ?_
        rintro e w1 ⟨rfl, hb1⟩
        have HB1 := Lib.hid hb1
        clear hb1
        go_wp2_with fail
        refine (sPoint10 p X Y Z HP.out HBD.out.1 HBD.out.2.1 HBD.out.2.2 _).mono ?_
        rintro e w2 ⟨u2, rfl, hu2, hb2⟩
        have H2 := Lib.hid (show OwnTrms w2 wr.heap.size u2 (pqS p X Y Z 3) ∧ Below wr.heap.size wr w2 from ⟨ownT_low7 hu2 HB1.out.size, HB1.out.trans (hb2.mono HB1.out.size)⟩)
        clear hu2 hb2
        go_wp2_with fail
        refine (sScaled p u2 _ x w2 HP.out HS.out.2 HXE.out H2.out.1.trms).mono ?_
        rintro e w3 ⟨u3, rfl, hu3, hb3⟩
        have H3 := Lib.hid (show OwnTrms w3 wr.heap.size u3 (sclL p x (pqS p X Y Z 3)) ∧ Below wr.heap.size wr w3 from ⟨ownT_low7 hu3 H2.out.2.size, H2.out.2.trans (hb3.mono H2.out.2.size)⟩)
        clear hu3 hb3
        go_wp2_with fail
        refine (sAddPoly p _ u3 (pvK p L k) _ w3 (HF.out.1.below H3.out.2).trms H3.out.1.trms).mono ?_
        rintro e w4 ⟨u4, rfl, hu4, hb4⟩
        have H4 := Lib.hid (show OwnTrms w4 w.heap.size u4 (pvK p L (k + 1)) ∧ Below w.heap.size w w4 from
          ⟨by rw [HS.out.1]; exact ownT_low7 hu4 (Nat.le_trans HF.out.2.size H3.out.2.size), HF.out.2.trans ((H3.out.2.mono HF.out.2.size).trans (hb4.mono (Nat.le_trans HF.out.2.size H3.out.2.size)))⟩)
        clear hu4 hb4
        go_wp2_with fail
        go_roundw
        case rel => exact ⟨k + 1, by omega, by go_num, H4.out⟩
        case measure => simp [intOf]; omega
      · have HS := Lib.hid (show pvK p L (k + 1) = pvK p L k from by
          show (if 0 < L.getD k 0 then _ else pvK p L k) = _
          rw [← hx, if_neg h0])
        have hgt : ¬ x > 0 := h0
        clear hxe hf hb hx h0
        go_wp2_with fail
        go_roundw
        case rel => exact ⟨k + 1, by omega, by go_num, by rw [HS.out]; exact HF.out⟩
        case measure => simp [intOf]; omega
    · have e : k = L.length := by omega
      subst e
      have HF := Lib.hid (And.intro hf hb)
      clear hf hb
      go_wp2_with fail
      refine bodyPost_ret (v := .tuple #[u6, .bool true]) (by simp [results, Try.results26, go_sem]) rfl ⟨_, rfl, HF.out⟩
theorem sPolyOfValues (p : Int) (v : Value) (L : List Int) (w : World) (h : Ints w v L) (hl : L.length ≤ 1048576) :
    Calls Try.prog 26 #[.int .i64 p, v] w (GivesPB (pvV p L) (pvB p L) w) := by
  cases hB : pvB p L
  · rw [show pvV p L = [] by unfold pvV; rw [hB]; rfl]
    exact sPolyOfValues_no p v L w h hl hB
  · rw [show pvV p L = pvK p L L.length by unfold pvV; rw [hB]; rfl]
    exact sPolyOfValues_yes p v L w h hl hB
end Go.Proofs.Ytajabchbdhjdiaa
