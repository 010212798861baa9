/-
  PartCircuit of the model. Conditions: none but that the slice reads as a list of gates.
  PartCircuit of the program. Conditions: none but that the slice reads as a list of gates.
-/
import Derived.Test.YtbgcamkclbcaiaaBc21
import Derived.Test.YtbgcamkclbcaiaaBc15
import Derived.Test.YtbgcamkclbcaiaaBc17
namespace Go.Proofs.Ytbgcamkclbcaiaa
open Go.RowKit
/-- the first gates of an owned list, read -/
theorem gats_cut {w : World} {B : Nat} {a : Option Addr} {n cap m : Nat} {C : List Gt} (h : OwnGats w B (.slice a n cap) C) (hm : m ≤ C.length) : Gats w (.slice a m cap) (C.take m) := by
  obtain ⟨h1, a', cap', e, h2⟩ := h
  injection e with e1 e2 e3
  subst e1 e3
  refine ⟨by simp; omega, a, cap, by simp [hm], ?_⟩
  rcases h2 with rfl | ⟨g, off, rfl, _, hg, hc, _⟩
  · exact .inl (by simp)
  · refine .inr ⟨g, off, rfl, hg, fun j hj => ?_⟩
    have hj2 : j < m ∧ j < C.length := by
      have : j < min m C.length := by simpa using hj
      omega
    have := hc j hj2.2
    rwa [show (C.take m).getD j default = C.getD j default by simp [List.getD_eq_getElem?_getD, hj2.1]]
theorem gats_circ {p : Int} {w : World} {v : Value} {L : List Gt} (h : Gats w v L) (hv : circB p L = true) :
    ∃ g off cap, v = .slice (some ⟨g, off, none⟩) L.length cap ∧ g < w.heap.size ∧ ∀ j : Nat, j < L.length → GAt w g (off + j * 3) (L.getD j default) := by
  obtain ⟨_, a, cap, rfl, h2⟩ := h
  rcases h2 with rfl | ⟨g, off, rfl, hg, hc⟩
  · have := (circB_iff.1 hv).2.1; simp at this
  · exact ⟨g, off, cap, rfl, hg, hc⟩
/-- the place of the part of degree k of the last gate -/
def ptA (L : List Gt) (k : Nat) : Int := pcl (ptC k L L.length).2 (L.length - 1) k
/-- the gates up to that place -/
def ptT (L : List Gt) (k : Nat) : List Gt := (ptC k L L.length).1.take ((ptA L k).toNat + 1)
def ptV (p kk : Int) (L : List Gt) : List Gt := if (circB p L && inB kk 0 9) = true then (if ptA L kk.toNat < 0 then [⟨1, 0, 0⟩] else prnV p (ptT L kk.toNat)) else []
def ptO (p kk : Int) (L : List Gt) : Bool := circB p L && inB kk 0 9 && (decide (ptA L kk.toNat < 0) || circB p (ptT L kk.toNat))
theorem pt_no {p kk : Int} {L : List Gt} (h : (circB p L && inB kk 0 9) = false) : ptV p kk L = [] ∧ ptO p kk L = false := by
  unfold ptV ptO
  rw [h]
  exact ⟨rfl, rfl⟩
theorem pt_none {p kk : Int} {L : List Gt} (h : (circB p L && inB kk 0 9) = true) (ha : ptA L kk.toNat < 0) : ptV p kk L = [⟨1, 0, 0⟩] ∧ ptO p kk L = true := by
  unfold ptV ptO
  rw [h, if_pos rfl, if_pos ha, decide_eq_true ha]
  exact ⟨rfl, rfl⟩
theorem pt_some {p kk : Int} {L : List Gt} (h : (circB p L && inB kk 0 9) = true) (ha : ¬ ptA L kk.toNat < 0) : ptV p kk L = prnV p (ptT L kk.toNat) ∧ ptO p kk L = circB p (ptT L kk.toNat) := by
  unfold ptV ptO
  rw [h, if_pos rfl, if_neg ha, decide_eq_false ha]
  exact ⟨rfl, rfl⟩
theorem prn_whole {p : Int} {C : List Gt} : prnV p (if C.length ≤ 60 then C else []) = prnV p C ∧ circB p (if C.length ≤ 60 then C else []) = circB p C := by
  by_cases h60 : C.length ≤ 60
  · rw [if_pos h60]; exact ⟨rfl, rfl⟩
  · rw [if_neg h60]
    have e1 : circB p C = false := circB_long (by omega)
    have e2 : circB p [] = false := by simp [circB]
    exact ⟨by unfold prnV; rw [e1, e2]; rfl, by rw [e1, e2]⟩
theorem sWholeG (f : Value) (C : List Gt) (w : World) (h : Gats w f C) :
    Calls Try.prog 99 #[f] w fun e w' => ∃ u, e = .returned u ∧ Gats w' u (if C.length ≤ 60 then C else []) ∧ Below w.heap.size w w' := by
  obtain ⟨hl, a, cap, rfl, _⟩ := id h
  by_cases h60 : C.length ≤ 60
  · have hi : ¬ (C.length : Int) > 60 := by omega
    rw [if_pos h60]
    have H := Lib.hid h
    clear h h60
    go_enter Try.func99, Try.ntmps99
    go_wp2_with fail
    go_ret
    exact ⟨_, rfl, H.out, Below.refl _ _⟩
  · have hi : (C.length : Int) > 60 := by omega
    rw [if_neg h60]
    clear h h60
    go_enter Try.func99, Try.ntmps99
    go_wp2_with fail
    go_ret
    exact ⟨_, rfl, ⟨by simp, _, _, rfl, .inl rfl⟩, Below.alloc (Below.refl _ _) (Nat.le_refl _) _⟩
/-- the model's maker at the start -/
theorem PsM.start {w : World} {G k Z : Nat} {ty : TypeId} (hG : G = w.heap.size) : PsM (w.alloc (Obj.cells #[.slice none 0 0, .int .i64 0, .int .i64 0, .int .i64 0, .slice none 0 0] ty)) G (.slice none 0 0) (.slice none 0 0) k [] [] [] Z := by
  subst hG
  refine ⟨⟨⟨by simp [go_sem], fun i h1 h2 => ?_, World.frozen?_alloc_at _ _ _ 0 rfl, by simp, fun i _ _ => World.frozen?_alloc_at _ _ _ i rfl⟩, RowGt.nil _ _⟩, World.ownsRow_nil _ _ _ _, rfl, fun b hq => (by cases hq), fun i hi => absurd hi (Nat.not_lt_zero i)⟩
  have : i = 1 ∨ i = 2 ∨ i = 3 ∨ i = 4 := by omega
  rcases this with rfl | rfl | rfl | rfl <;> simp [go_sem, psC]
set_option maxRecDepth 100000 in
set_option maxHeartbeats 4000000 in
theorem sPart_not (p kk : Int) (f : Value) (L : List Gt) (w : World) (h : Gats w f L) (hn : (circB p L && inB kk 0 9) = false) :
    Calls Try.prog 32 #[.int .i64 p, f, .int .i64 kk] w (GivesGB [] false w) := by
  have HCV := Lib.hid (sCircuitValid p f L w h)
  obtain ⟨_, a, cap, rfl, _⟩ := h
  cases hv : circB p L
  · rw [hv] at HCV
    clear hv hn
    go_enter Try.func32, Try.ntmps32
    go_wp2_with fail
    refine HCV.out.mono ?_
    rintro e w1 ⟨rfl, hb⟩
    have HB := Lib.hid hb
    clear hb
    go_wp2_with fail
    refine bodyPost_ret (v := .tuple #[.slice (some ⟨w1.heap.size, 0, none⟩) 0 0, .bool false]) (by simp [results, Try.results32, go_sem]) rfl ⟨_, rfl, ⟨by simp, _, _, rfl, .inl rfl⟩, Below.alloc HB.out HB.out.size _⟩
  · rw [hv] at HCV hn
    rw [Bool.true_and] at hn
    have HU := Lib.hid (fun w => sIn_at false kk 0 9 hn w)
    clear hv hn
    go_enter Try.func32, Try.ntmps32
    go_wp2_with fail
    refine HCV.out.mono ?_
    rintro e w1 ⟨rfl, hb⟩
    have HB := Lib.hid hb
    clear hb
    go_wp2_with fail
    refine (HU.out _).mono ?_
    rintro e w2 ⟨rfl, rfl⟩
    go_wp2_with fail
    refine bodyPost_ret (v := .tuple #[.slice (some ⟨w1.heap.size, 0, none⟩) 0 0, .bool false]) (by simp [results, Try.results32, go_sem]) rfl ⟨_, rfl, ⟨by simp, _, _, rfl, .inl rfl⟩, Below.alloc HB.out HB.out.size _⟩
set_option maxRecDepth 100000 in
set_option maxHeartbeats 8000000 in
theorem sPart_yes (p : Int) (k : Nat) (f : Value) (L : List Gt) (w : World) (h : Gats w f L) (hv : circB p L = true) (hk : k ≤ 9) (R : List Gt) (o : Bool) (hR : R = ptV p k L) (ho : o = ptO p k L) :
    Calls Try.prog 32 #[.int .i64 p, f, .int .i64 (k : Int)] w (GivesGB R o w) := by
  have hib : inB (k : Int) 0 9 = true := by simp [inB]; omega
  have HYES := Lib.hid (show (circB p L && inB (k : Int) 0 9) = true by rw [hv, hib]; rfl)
  have HCV := Lib.hid (show Calls Try.prog 95 #[.int .i64 p, f] w fun e w' => e = .returned (.bool true) ∧ Below w.heap.size w w' by have := sCircuitValid p f L w h; rwa [hv] at this)
  have HU := Lib.hid (fun w => sIn_at true (k : Int) 0 9 hib w)
  obtain ⟨hp, hl1, hl2, hall⟩ := circB_iff.1 hv
  have HPO := Lib.hid (fun j (hj : j ≤ L.length) => ptC_ok (p := p) (k := k) (L := L) hall hk j hj)
  have HALL := Lib.hid hall
  obtain ⟨g, off, cap, rfl, hg, hc⟩ := gats_circ h hv
  have HC := Lib.hid hc
  have HRO := Lib.hid (And.intro hR ho)
  obtain ⟨q, hq⟩ : ∃ q, L.length = q + 1 := ⟨L.length - 1, by omega⟩
  have hq1 : (L.length : Int) - 1 = (q : Int) := by omega
  have hq60 : (q : Int) < 60 := by omega
  have hq0 : (0 : Int) ≤ q := by omega
  have hkp : (0 : Int) ≤ (k : Int) := by omega
  have hk9 : (k : Int) ≤ 9 := by omega
  have HQ := Lib.hid (And.intro hq hq1)
  clear h hv hib hc hR ho hall hp hq hq1
  go_enter Try.func32, Try.ntmps32
  go_wp2_with fail
  refine HCV.out.mono ?_
  rintro e w1 ⟨rfl, hb⟩
  have HB := Lib.hid hb
  have hs1 := hb.size
  clear hb
  go_wp2_with fail
  refine (HU.out _).mono ?_
  rintro e w1' ⟨rfl, rfl⟩
  go_wp2_with fail
  have HS0 := Lib.hid (PsM.start (w := w1) (k := k) (Z := w1.heap.size + 1) (ty := 111) (G := w1.heap.size) rfl)
  obtain ⟨W, hW⟩ : ∃ W, W = w1.alloc (Obj.cells #[.slice none 0 0, .int .i64 0, .int .i64 0, .int .i64 0, .slice none 0 0] 111) := ⟨_, rfl⟩
  have hWs : W.heap.size = w1.heap.size + 1 := by rw [hW]; simp
  have HW := Lib.hid (show Below w.heap.size w W by rw [hW]; exact Below.alloc HB.out hs1 _)
  rw [← hW] at HS0 ⊢
  rw [← hWs] at HS0
  clear hW
  obtain ⟨G, hG⟩ : ∃ G, G = w1.heap.size := ⟨_, rfl⟩
  have hBG : w.heap.size ≤ G := by omega
  rw [← hG] at HS0 ⊢
  clear hG hWs
  go_loopw [25] (fun i wr => ∃ (j : Nat) (v pv : Value) (V : List Value), j ≤ L.length ∧ i = .int .i64 j ∧ PsM wr G v pv k (ptC k L j).1 (ptC k L j).2 V wr.heap.size ∧ Below w.heap.size w wr) (fun i _ => L.length - (intOf i).toNat)
  case atStart => exact ⟨0, _, _, _, by omega, rfl, HS0.out, HW.out⟩
  case round =>
    clear HS0 HW
    obtain ⟨j, v, pv, V, hj, rfl, hP, hb⟩ := hrel
    have hj0 : (0 : Int) ≤ (j : Int) := by omega
    by_cases hlt : j < L.length
    · have hltp : (j : Int) < (L.length : Int) := by omega
      obtain ⟨a0, a1, a2⟩ := (HC.out j hlt).below hb hg
      obtain ⟨x, hx⟩ : ∃ x, x = L.getD j default := ⟨_, rfl⟩
      rw [← hx] at a0 a1 a2
      have hpo := HPO.out j hj
      have hall := HALL.out j hlt
      have hxg : gAt L j = x := hx.symm
      rw [hxg] at hall
      have HNX := Lib.hid (show ptC k L (j + 1) = ((ptR (ptC k L j).2 x (ptC k L j).1 (k + 1)).2, (ptC k L j).2 ++ [(ptR (ptC k L j).2 x (ptC k L j).1 (k + 1)).1]) by rw [← hxg]; rfl)
      have hlen := ptC_len k L j
      have HGT := Lib.hid (fun w' (h : PsM w' G v pv k (ptC k L j).1 (ptC k L j).2 V w'.heap.size) => sPgate p w.heap.size G k v pv (ptC k L j).1 (ptC k L j).2 V x w' (by have := hpo.2.2; omega) (by omega) hBG hk (by rw [hlen]; exact hall) hpo.1 hpo.2.1 h)
      have HP := Lib.hid hP
      have Hb := Lib.hid hb
      have hsz := hb.size
      clear hx hxg hP hb hpo hall hlen
      go_wp2_with fail
      have bA : Below wr.heap.size wr (wr.alloc (Obj.cells #[.int .i64 x.k, .int .i64 x.a, .int .i64 x.b] 113)) := Below.alloc (Below.refl _ _) (Nat.le_refl _) _
      refine (HGT.out _ ((HP.out.below bA).mono bA.size)).mono ?_
      rintro e w2 ⟨rfl, v2, pv2, V2, hP2, hb2⟩
      rw [show (ptR (ptC k L j).2 x (ptC k L j).1 (k + 1)).2 = (ptC k L (j + 1)).1 by rw [HNX.out]] at hP2
      rw [show (ptC k L j).2 ++ [(ptR (ptC k L j).2 x (ptC k L j).1 (k + 1)).1] = (ptC k L (j + 1)).2 by rw [HNX.out]] at hP2
      have H2 := Lib.hid (And.intro hP2 ((Hb.out.trans (bA.mono hsz)).trans hb2))
      clear hP2 hb2 bA
      go_wp2_with fail
      go_roundw
      case rel => exact ⟨j + 1, v2, pv2, V2, by omega, by go_num, H2.out.1, H2.out.2⟩
      case measure => simp [intOf]; omega
    · have hjl : j = L.length := by omega
      subst hjl
      obtain ⟨C, hC⟩ : ∃ C, C = (ptC k L L.length).1 := ⟨_, rfl⟩
      obtain ⟨P, hPe⟩ : ∃ P, P = (ptC k L L.length).2 := ⟨_, rfl⟩
      have hplen := ptC_len k L L.length
      have hpo := HPO.out L.length (Nat.le_refl _)
      rw [← hC] at hP hpo
      rw [← hPe] at hP hplen hpo
      obtain ⟨pg, pc, rfl⟩ := hP.form (by omega)
      obtain ⟨ga, ca, ea, ka, ra⟩ := hP.at (i := q) (by have := HQ.out.1; omega)
      have ra0 := ra k (Nat.le_refl _)
      obtain ⟨at0, hat⟩ : ∃ a, a = pcl P q k := ⟨_, rfl⟩
      rw [← hat] at ra0
      have hpA : ptA L k = at0 := by unfold ptA; rw [hat, hPe]; congr 1; have := HQ.out.1; omega
      have c4 := hP.ms.sh.oth 4 (by omega) (by omega)
      rw [show psC (.slice (some ⟨pg, 0, none⟩) P.length pc) 4 = .slice (some ⟨pg, 0, none⟩) P.length pc from rfl] at c4
      have hin : inC at0 C := by rw [hat]; exact hpo.2.1 q k (by have := HQ.out.1; omega) (Nat.le_refl _)
      rw [hplen] at c4
      have c0 := hP.ms.sh.c0
      have hrow := hP.ms.row
      have hCl : C.length ≤ 6600 := by have := hpo.2.2; omega
      have Hb := Lib.hid hb
      have hsz := hb.size
      have HQ1 := Lib.hid HQ.out.2
      have hwq : IntKind.i64.wrap ((L.length : Int) - 1) = (q : Int) := by rw [IntWalk.i64_in _ (by omega)]; exact HQ.out.2
      have hql : (q : Int) < (L.length : Int) := by have := HQ.out.1; omega
      have hkk : (k : Int) < (k : Int) + 1 := by omega
      have hPT := Lib.hid (show ptT L k = C.take (at0.toNat + 1) by unfold ptT; rw [hpA, ← hC])
      clear hP hb hpo hplen hPe hC ra hat
      by_cases hneg : at0 < 0
      · have HE := Lib.hid (show R = [⟨1, 0, 0⟩] ∧ o = true by
          have := pt_none HYES.out (by rw [Int.toNat_natCast, hpA]; exact hneg)
          exact ⟨by rw [HRO.out.1, this.1], by rw [HRO.out.2, this.2]⟩)
        clear hrow c0
        go_wp2_with fail
        have bA : Below w.heap.size wr (wr.alloc (Obj.cells #[.int .i64 1, .int .i64 0, .int .i64 0] 113)) := Below.alloc (Below.refl _ _) hsz _
        refine bodyPost_ret (v := .tuple #[.slice (some ⟨wr.heap.size, 0, none⟩) 1 1, .bool true]) (by simp [results, Try.results32, go_sem]) rfl ⟨_, by rw [HE.out.2], ?_, Hb.out.trans bA⟩
        rw [HE.out.1]
        refine ⟨by simp, _, 1, rfl, .inr ⟨wr.heap.size, 0, rfl, hsz, by simp, fun j hj => ?_, fun i _ => World.frozen?_alloc_at _ _ _ _ rfl⟩⟩
        have : j = 0 := by simpa using hj
        subst this
        refine ⟨?_, ?_, ?_⟩ <;> simp [go_sem]
      · obtain ⟨m, rfl⟩ := Int.eq_ofNat_of_zero_le (show 0 ≤ at0 by omega)
        have hmC : m < C.length := by have := hin.2; omega
        rcases hrow.shape with ⟨_, hCn⟩ | ⟨g4, c4', rfl, hg4, hg4l, hCc, hcm⟩
        · subst hCn
          simp at hmC
        · have hO := hrow.own (by omega)
          have HWH := Lib.hid (sWholeG (.slice (some ⟨g4, 0, none⟩) (m + 1) c4') (C.take (m + 1)) wr (gats_cut hO (by omega)))
          have HE := Lib.hid (show R = prnV p (C.take (m + 1)) ∧ o = circB p (C.take (m + 1)) by
            have := pt_some HYES.out (by rw [Int.toNat_natCast, hpA]; exact hneg)
            rw [Int.toNat_natCast] at this
            rw [hPT.out] at this
            exact ⟨by rw [HRO.out.1, this.1]; rfl, by rw [HRO.out.2, this.2]; rfl⟩)
          have hwm : IntKind.i64.wrap ((m : Int) + 1) = ((m + 1 : Nat) : Int) := by
            rw [IntWalk.i64_in _ (by omega)]; simp
          have hmc : (m : Int) + 1 ≤ (c4' : Int) := by omega
          have hmc2 : m + 1 ≤ c4' := by omega
          clear hrow hO hcm
          go_wp2_with fail
          refine HWH.out.mono ?_
          rintro e w5 ⟨u5, rfl, hu, hb5⟩
          have HB5 := Lib.hid (Hb.out.trans (hb5.mono hsz))
          have HPR := Lib.hid (sPruneCircuit p u5 _ w5 hu)
          rw [prn_whole.1, prn_whole.2] at HPR
          clear hu hb5 c0 ra0 ea c4
          go_wp2_with fail
          refine HPR.out.mono ?_
          rintro e w6 ⟨u6, rfl, ho6, hb6⟩
          have HR6 := Lib.hid (And.intro (ho6.base HB5.out.size) (HB5.out.trans (hb6.mono HB5.out.size)))
          obtain ⟨oo, hoo⟩ : ∃ o, o = circB p (C.take (m + 1)) := ⟨_, rfl⟩
          rw [← hoo] at HE ⊢
          clear ho6 hb6 hoo
          go_wp2_with fail
          refine bodyPost_ret (v := .tuple #[u6, .bool oo]) (by simp [results, Try.results32, go_sem]) rfl ⟨_, by rw [HE.out.2], by rw [HE.out.1]; exact HR6.out.1, HR6.out.2⟩
theorem sPartCircuit (p kk : Int) (f : Value) (L : List Gt) (w : World) (h : Gats w f L) :
    Calls Try.prog 32 #[.int .i64 p, f, .int .i64 kk] w (GivesGB (ptV p kk L) (ptO p kk L) w) := by
  cases hn : (circB p L && inB kk 0 9)
  · rw [(pt_no hn).1, (pt_no hn).2]
    exact sPart_not p kk f L w h hn
  · have hn2 := hn
    simp only [Bool.and_eq_true] at hn2
    have hk : 0 ≤ kk ∧ kk ≤ 9 := by simpa [inB] using hn2.2
    obtain ⟨k, rfl⟩ := Int.eq_ofNat_of_zero_le hk.1
    exact sPart_yes p k f L w h hn2.1 (by omega) _ _ rfl rfl
end Go.Proofs.Ytbgcamkclbcaiaa
namespace Go.Proofs.Ytbgcamkclbcaiaa
open Go.RowKit
theorem pm_at {w : World} {B pg pc i d : Nat} {P : List (List Int)} (h : w.ownsRow B 129 10 (.slice (some ⟨pg, 0, none⟩) P.length pc) P.length (flP P)) (hw : ∀ r ∈ P, r.length ≤ 10) (hi : i < P.length) (hd : d < 10) :
    w.cell? ⟨pg, i * 10 + d, none⟩ = some (.int .i64 (pcl P i d)) := by
  rw [World.ownsRow.cellAt h (i * 10 + d) (by omega)]
  exact flP_at hw i hi d hd
set_option maxRecDepth 100000 in
set_option maxHeartbeats 4000000 in
theorem iPart_not (p kk : Int) (f : Value) (L : List Gt) (w : World) (h : Gats w f L) (hn : (circB p L && inB kk 0 9) = false) :
    Calls Try.prog 34 #[.int .i64 p, f, .int .i64 kk] w (GivesGB [] false w) := by
  have HP := Lib.hid (iPartsOf_no p kk f L w h hn)
  obtain ⟨_, a, cap, rfl, _⟩ := h
  clear hn
  go_enter Try.func34, Try.ntmps34
  go_wp2_with fail
  refine HP.out.mono ?_
  rintro e w1 ⟨rfl, hb⟩
  have HB := Lib.hid hb
  clear hb
  go_wp2_with fail
  refine bodyPost_ret (v := .tuple #[.slice none 0 0, .bool false]) (by simp [results, Try.results34, go_sem]) rfl ⟨_, rfl, (RowGt.nil _ w.heap.size).own (by simp), Below.alloc HB.out HB.out.size _⟩
set_option maxRecDepth 100000 in
set_option maxHeartbeats 8000000 in
theorem iPart_yes (p : Int) (k : Nat) (f : Value) (L : List Gt) (w : World) (h : Gats w f L) (hv : circB p L = true) (hk : k ≤ 9) (R : List Gt) (o : Bool) (hR : R = ptV p k L) (ho : o = ptO p k L) :
    Calls Try.prog 34 #[.int .i64 p, f, .int .i64 (k : Int)] w (GivesGB R o w) := by
  have hib : inB (k : Int) 0 9 = true := by simp [inB]; omega
  have HYES := Lib.hid (show (circB p L && inB (k : Int) 0 9) = true by rw [hv, hib]; rfl)
  have HP := Lib.hid (iPartsOf_yes p k f L w h hv hk)
  obtain ⟨hp, hl1, hl2, hall⟩ := circB_iff.1 hv
  have hpo := ptC_ok (p := p) (k := k) (L := L) hall hk L.length (Nat.le_refl _)
  have hplen := ptC_len k L L.length
  obtain ⟨q, hq⟩ : ∃ q, L.length = q + 1 := ⟨L.length - 1, by omega⟩
  have hq1 : (L.length : Int) - 1 = (q : Int) := by omega
  obtain ⟨at0, hat⟩ : ∃ a, a = pcl (ptC k L L.length).2 q k := ⟨_, rfl⟩
  have hpA : ptA L k = at0 := by unfold ptA; rw [hat]; congr 1; omega
  have hPT : ptT L k = (ptC k L L.length).1.take (at0.toNat + 1) := by unfold ptT; rw [hpA]
  have hin : inC at0 (ptC k L L.length).1 := by rw [hat]; exact hpo.2.1 q k (by omega) (Nat.le_refl _)
  obtain ⟨C, hC⟩ : ∃ C, C = (ptC k L L.length).1 := ⟨_, rfl⟩
  obtain ⟨P, hPe⟩ : ∃ P, P = (ptC k L L.length).2 := ⟨_, rfl⟩
  rw [← hC] at hPT hin hpo
  rw [← hPe] at hat hplen
  rw [← hC, ← hPe] at HP
  have hCl : C.length ≤ 6600 := by have := hpo.2.2; omega
  have hqP : q < P.length := by omega
  have hPl : (P.length : Int) ≤ 60 := by omega
  have hqi : (q : Int) < (P.length : Int) := by omega
  have hq0 : (0 : Int) ≤ (q : Int) := by omega
  have hk0 : (0 : Int) ≤ (k : Int) := by omega
  have hk10 : (k : Int) < 10 := by omega
  have HPT := Lib.hid hPT
  have HIN := Lib.hid hin
  have HA := Lib.hid hpA
  have HAT := Lib.hid hat
  have HRO := Lib.hid (And.intro hR ho)
  obtain ⟨_, a, cap, rfl, _⟩ := h
  obtain ⟨nL, hnL⟩ : ∃ n, n = L.length := ⟨_, rfl⟩
  have HL := Lib.hid (fun w => iLast a nL cap q (by omega) (by rw [hnL]; exact hq1) w)
  rw [← hnL] at HP ⊢
  clear hv hib hR ho hall hp hq hq1 hpo hplen hat hpA hPT hin hC hPe hnL
  go_enter Try.func34, Try.ntmps34
  go_wp2_with fail
  refine HP.out.mono ?_
  rintro e w1 ⟨M, v, pv, rfl, hrow, hrow2, hwd, hb⟩
  obtain ⟨pg, pc, rfl, hpgB, hpgl⟩ := World.ownsRow.form hrow2 (by omega)
  have hvs : ∃ a cap, v = .slice a C.length cap ∧ C.length ≤ cap := by
    rcases hrow.shape with ⟨rfl, h⟩ | ⟨g, cap, rfl, _, _, _, hcc⟩
    · exact ⟨none, 0, by rw [h]; rfl, by rw [h]; simp⟩
    · exact ⟨_, cap, rfl, by omega⟩
  obtain ⟨av, kv, rfl, hcap⟩ := hvs
  have hs1 := hb.size
  have ra := pm_at hrow2 hwd hqP (show k < 10 by omega)
  rw [← HAT.out] at ra
  have HO := Lib.hid (hrow.own (by omega))
  have Hb := Lib.hid hb
  have HF := Lib.hid (fun w' (h : Below w1.heap.size w1 w') => show w'.cell? ⟨pg, q * 10 + k, none⟩ = some (.int .i64 at0) by rw [h.cell (p := ⟨pg, q * 10 + k, none⟩) hpgl]; exact ra)
  clear hrow hrow2 hwd hb ra
  go_wp2_with fail
  obtain ⟨W, hW⟩ : ∃ W, W = w1.alloc (Obj.cells #[.slice av C.length kv, .int .i64 p, .map (some M), .slice (some ⟨pg, 0, none⟩) P.length pc] 126) := ⟨_, rfl⟩
  have bW : Below w1.heap.size w1 W := by rw [hW]; exact Below.alloc (Below.refl _ _) (Nat.le_refl _) _
  have hWs : w1.heap.size < W.heap.size := by rw [hW]; simp
  have e0 : W.cell? ⟨w1.heap.size, 0, none⟩ = some (.slice av C.length kv) := by rw [hW]; simp [go_sem]
  have e3 : W.cell? ⟨w1.heap.size, 3, none⟩ = some (.slice (some ⟨pg, 0, none⟩) P.length pc) := by rw [hW]; simp [go_sem]
  have ra := HF.out W bW
  have HS := Lib.hid (fun w' (hb : Below W.heap.size W w') => show (w'.cell? ⟨w1.heap.size, 0, none⟩ = some (.slice av C.length kv) ∧ w'.cell? ⟨w1.heap.size, 3, none⟩ = some (.slice (some ⟨pg, 0, none⟩) P.length pc) ∧ w'.cell? ⟨pg, q * 10 + k, none⟩ = some (.int .i64 at0)) ∧ Below w1.heap.size w1 w' from
    ⟨⟨by rw [hb.cell (p := ⟨w1.heap.size, 0, none⟩) hWs]; exact e0, by rw [hb.cell (p := ⟨w1.heap.size, 3, none⟩) hWs]; exact e3, by rw [hb.cell (p := ⟨pg, q * 10 + k, none⟩) (show pg < W.heap.size by omega)]; exact ra⟩, bW.trans (hb.mono (by omega))⟩)
  have HW := Lib.hid hW
  rw [← hW]
  clear hW bW e0 e3 ra HF
  obtain ⟨m8, hm8⟩ : ∃ m, m = w1.heap.size := ⟨_, rfl⟩
  have HM8 := Lib.hid hm8
  rw [← hm8] at HS hWs ⊢
  clear hm8
  refine wp_region_seq [(0, true), (1, true), (2, true), (4, true), (3, false), (5, true), (6, true), (7, true)] (fun w' => w'.cell? ⟨m8, 0, none⟩ = some (.slice av C.length kv) ∧ w'.cell? ⟨m8, 3, none⟩ = some (.slice (some ⟨pg, 0, none⟩) P.length pc) ∧ w'.cell? ⟨pg, q * 10 + k, none⟩ = some (.int .i64 at0)) (by kernel_rfl) (by kernel_rfl) rfl (by intro c a d v w h; cases d <;> exact h) (HS.out _ (Below.drew (Below.refl _ _))).1 ?_
  iterate 4 (refine wpSeq_take (v := ?_) (List.getElem?_toArray.trans rfl) ?_ ?_; rotate_left; (intro w' hSw; (try dsimp only at hSw); go_simp; (try with_reducible rfl)); (try simp only [Act.put, List.setIfInBounds_toArray, List.set_cons_zero, List.set_cons_succ]))
  refine wpSeq_do (List.getElem?_toArray.trans rfl) (fun K hK => ?_)
  go_simp
  refine (HL.out _).mono ?_
  rintro e w2 ⟨rfl, rfl⟩
  have hdr : Below W.heap.size W W.drew := Below.drew (Below.refl _ _)
  refine hK _ _ (HS.out _ hdr).1 ?_
  clear hK K
  iterate 3 (refine wpSeq_take (v := ?_) (List.getElem?_toArray.trans rfl) ?_ ?_; rotate_left; (intro w' hSw; (try dsimp only at hSw); go_simp; (try with_reducible rfl)); (try simp only [Act.put, List.setIfInBounds_toArray, List.set_cons_zero, List.set_cons_succ]))
  refine wpSeq_nil ?_
  simp only [Exit.then]
  obtain ⟨w2, hw2⟩ : ∃ w2, w2 = W.drew := ⟨_, rfl⟩
  rw [← hw2] at hdr ⊢
  clear hw2
  obtain ⟨⟨d0, d3, ra⟩, hb2⟩ := HS.out w2 hdr
  have HBB := Lib.hid (show Below w.heap.size w w2 from Hb.out.trans ((HM8.out ▸ hb2 : Below w1.heap.size w1 w2).mono hs1))
  have HO2 := Lib.hid (HO.out.below (HM8.out ▸ hb2))
  clear hb2 hdr d3 ra HO
  by_cases hneg : at0 = -1
  · have HE := Lib.hid (show R = [⟨1, 0, 0⟩] ∧ o = true by
      have := pt_none HYES.out (by rw [Int.toNat_natCast, HA.out]; omega)
      exact ⟨by rw [HRO.out.1, this.1], by rw [HRO.out.2, this.2]⟩)
    have hsz := HBB.out.size
    subst hneg
    go_wp2_with fail
    have bA : Below w.heap.size w2 (w2.alloc (Obj.cells #[.int .i64 1, .int .i64 0, .int .i64 0] 113)) := Below.alloc (Below.refl _ _) hsz _
    refine bodyPost_ret (v := .tuple #[.slice (some ⟨w2.heap.size, 0, none⟩) 1 1, .bool true]) (by simp [results, Try.results34, go_sem]) rfl ⟨_, by rw [HE.out.2], ?_, HBB.out.trans bA⟩
    rw [HE.out.1]
    refine ⟨by simp, _, 1, rfl, .inr ⟨w2.heap.size, 0, rfl, hsz, by simp, fun j hj => ?_, fun i _ => World.frozen?_alloc_at _ _ _ _ rfl⟩⟩
    have : j = 0 := by simpa using hj
    subst this
    refine ⟨?_, ?_, ?_⟩ <;> simp [go_sem]
  · obtain ⟨m, rfl⟩ := Int.eq_ofNat_of_zero_le (show 0 ≤ at0 by have := HIN.out.1; omega)
    have hmC : m < C.length := by have := HIN.out.2; omega
    have HPR := Lib.hid (iPruneCircuit p (.slice av (m + 1) kv) (C.take (m + 1)) w2 (gats_cut HO2.out (by omega)))
    have HE := Lib.hid (show R = prnV p (C.take (m + 1)) ∧ o = circB p (C.take (m + 1)) by
      have := pt_some HYES.out (by rw [Int.toNat_natCast, HA.out]; omega)
      rw [Int.toNat_natCast] at this
      rw [HPT.out] at this
      exact ⟨by rw [HRO.out.1, this.1]; rfl, by rw [HRO.out.2, this.2]; rfl⟩)
    have hwm : IntKind.i64.wrap ((m : Int) + 1) = ((m + 1 : Nat) : Int) := by
      rw [IntWalk.i64_in _ (by omega)]; simp
    have hmc : (m : Int) + 1 ≤ (kv : Int) := by omega
    have hmc2 : m + 1 ≤ kv := by omega
    have hsz := HBB.out.size
    obtain ⟨oo, hoo⟩ : ∃ o, o = circB p (C.take (m + 1)) := ⟨_, rfl⟩
    rw [← hoo] at HE HPR
    clear hoo
    go_wp2_with fail
    refine HPR.out.mono ?_
    rintro e w6 ⟨u6, rfl, ho6, hb6⟩
    have HR6 := Lib.hid (And.intro (ho6.base hsz) (HBB.out.trans (hb6.mono hsz)))
    clear ho6 hb6 d0
    go_wp2_with fail
    refine bodyPost_ret (v := .tuple #[u6, .bool oo]) (by simp [results, Try.results34, go_sem]) rfl ⟨_, by rw [HE.out.2], by rw [HE.out.1]; exact HR6.out.1, HR6.out.2⟩
theorem iPartCircuit (p kk : Int) (f : Value) (L : List Gt) (w : World) (h : Gats w f L) :
    Calls Try.prog 34 #[.int .i64 p, f, .int .i64 kk] w (GivesGB (ptV p kk L) (ptO p kk L) w) := by
  cases hn : (circB p L && inB kk 0 9)
  · rw [(pt_no hn).1, (pt_no hn).2]
    exact iPart_not p kk f L w h hn
  · have hn2 := hn
    simp only [Bool.and_eq_true] at hn2
    have hk : 0 ≤ kk ∧ kk ≤ 9 := by simpa [inB] using hn2.2
    obtain ⟨k, rfl⟩ := Int.eq_ofNat_of_zero_le hk.1
    exact iPart_yes p k f L w h hn2.1 (by omega) _ _ rfl rfl
end Go.Proofs.Ytbgcamkclbcaiaa
