/-
  The walk of the law of ValuesOf. Conditions: none but that the bytes can be read.
-/
import Derived.Test.YtajabchbdhjdiaaBg1
import Derived.Test.YtajabchbdhjdiaaBe4
import Derived.Test.YtajabchbdhjdiaaBe2
import Derived.Test.YtajabchbdhjdiaaBg2
namespace Go.Proofs.Ytajabchbdhjdiaa
set_option linter.unusedVariables false
open Go.RowKit
set_option maxRecDepth 100000 in
set_option maxHeartbeats 16000000 in
theorem wValuesOf_in (a : Option Addr) (len cap : Nat) (w : World) (h : ByteRow w a len cap) (hl : len ≤ 1048576) :
    Calls Try.prog 11 #[.slice a len cap] w fun e w' => e = .returned (.bool true) ∧ Below w.heap.size w w' := by
  have hlp : (len : Int) ≤ 1048576 := by omega
  have HD := Lib.hid (drawValuesOf a len cap w h)
  clear h
  go_enter Try.func11, Try.ntmps11
  go_wp2_with fail
  refine HD.out.mono ?_
  rintro e w1 ⟨p, f, L, rfl, hL, hr1, hb1⟩
  have HK1 := Lib.hid (show PK w [(f, L)] w1 from ⟨hb1, fun z hz => by
    rcases List.mem_cons.1 hz with rfl | hz
    · exact (hr1.own (by omega)).trms
    · cases hz⟩)
  clear hr1 hb1 HD
  obtain ⟨V, hVe⟩ : ∃ V, V = vlV p L := ⟨_, rfl⟩
  have HI := Lib.hid (fun w h => (show Calls Try.prog 20 #[.int .i64 p, f] w fun e w' => ∃ u, e = .returned u ∧ OwnInts w' w.heap.size u V ∧ Below w.heap.size w w' by rw [hVe]; exact iValuesOfO p f L w h))
  have HS := Lib.hid (fun w h => (show Calls Try.prog 18 #[.int .i64 p, f] w fun e w' => ∃ u, e = .returned u ∧ OwnInts w' w.heap.size u V ∧ Below w.heap.size w w' by rw [hVe]; exact sValuesOfO p f L w h))
  have HVE := Lib.hid hVe
  clear hVe
  go_wp2_with fail
  refine (HI.out _ (HK1.out.g (by simp))).mono ?_
  rintro e w2 ⟨u, rfl, hu, hb⟩
  have HK2 := Lib.hid (HK1.out.on hb)
  have HU2 := Lib.hid hu.ints
  obtain ⟨_, ua, uc, rfl, _⟩ := hu
  clear hb HK1
  go_wp2_with fail
  refine (HS.out _ (HK2.out.g (by simp))).mono ?_
  rintro e w3 ⟨v, rfl, hv, hb⟩
  have HK3 := Lib.hid (HK2.out.on hb)
  have HU3 := Lib.hid (HU2.out.below hb)
  have HV3 := Lib.hid hv.ints
  clear hb HK2 HU2 hv
  go_wp2_with fail
  refine (acS _ v V V w3 HU3.out HV3.out rfl).mono ?_
  rintro e w4 ⟨rfl, hdr⟩
  have hb := hdr.below w3.heap.size
  have HK4 := Lib.hid (HK3.out.on hb)
  have HU4 := Lib.hid (HU3.out.below hb)
  clear hb hdr HK3 HU3 HV3
  by_cases hV0 : V.length = 0
  · have hz : ((V.length : Int) == 0) = true := by simp [hV0]
    clear hV0
    go_wp2_with fail
    refine (HS.out _ (HK4.out.g (by simp))).mono ?_
    rintro e w5 ⟨v5, rfl, hv, hb⟩
    have HK5 := Lib.hid (HK4.out.on hb)
    have HU5 := Lib.hid (HU4.out.below hb)
    have HV5 := Lib.hid hv.ints
    clear hb HK4 HU4 hv
    go_wp2_with fail
    refine (acS _ v5 V V w5 HU5.out HV5.out rfl).mono ?_
    rintro e w6 ⟨rfl, hdr⟩
    have HK6 := Lib.hid (HK5.out.on (hdr.below w5.heap.size))
    clear hdr HK5 HU5 HV5
    go_wp2_with fail
    go_ret
    exact ⟨rfl, HK6.out.low⟩
  · have hz : ((V.length : Int) == 0) = false := by
      have : (V.length : Int) ≠ 0 := by omega
      simpa using this
    have hvl : lst p = true ∧ isP p = true ∧ validB p L = true := by
      cases hB : vlB p L
      · exfalso
        apply hV0
        rw [HVE.out]
        unfold vlV
        rw [hB]
        rfl
      · simpa [vlB] using hB
    obtain ⟨e1, e2, e3, e4⟩ := pv_red hvl.1 hvl.2.2
    rw [← HVE.out] at e1 e2 e3 e4
    have hrd := rd_is hvl.2.1 hvl.2.2
    have HPR := Lib.hid (show pvB p V = true ∧ pvV p V = rdV p L ∧ rdOk p L = true from ⟨e1, by rw [e2, hrd.2], hrd.1⟩)
    have hcube := cube_nat hvl.2.1
    rw [← e3] at hcube
    have hpp := pp_bd hvl.2.1
    have hpb := isP_bd hvl.2.1
    obtain ⟨a2, ha2⟩ : ∃ a2, a2 = p * p := ⟨_, rfl⟩
    have f1 : IntKind.i64.wrap (p * p) = a2 := by rw [ha2]; exact IntWalk.i64_in _ (by omega)
    have f2 : IntKind.i64.wrap (a2 * p) = (V.length : Int) := by rw [ha2, hcube]; exact IntWalk.i64_in _ (by omega)
    have hVl : V.length ≤ 1048576 := by omega
    have HG := Lib.hid (show ∀ n, n < V.length → V.getD n 0 = evP p L (pnt p.toNat n) from fun n hn => e4 n (by rw [← e3]; exact hn))
    have HPI := Lib.hid hvl.2.1
    have HCU := Lib.hid hcube
    have hff : ((V.length : Int) == (V.length : Int)) = true := by simp
    clear e1 e2 e3 e4 hvl hrd hV0 ha2 hpp
    go_wp2_with fail
    refine (iPolyOfValues p _ V w4 HU4.out hVl).mono ?_
    rintro e w5 ⟨gv, rfl, ho, hb⟩
    rw [HPR.out.1]
    rw [HPR.out.2.1] at ho
    have HK5 := Lib.hid ((HK4.out.on hb).add ho.trms)
    have HU5 := Lib.hid (HU4.out.below hb)
    clear ho hb HK4 HU4 hcube
    go_wp2_with fail
    refine (iReducePoly p f L w5 (HK5.out.g (by simp))).mono ?_
    rintro e w6 ⟨rv, rfl, ho, hb⟩
    rw [HPR.out.2.2]
    have HK6 := Lib.hid ((HK5.out.on hb).add ho.trms)
    have HU6 := Lib.hid (HU5.out.below hb)
    clear ho hb HK5 HU5
    go_wp2_with fail
    go_loopw [55] (fun i wr => ∃ k : Nat, k ≤ V.length ∧ i = .int .i64 k ∧ Below w6.heap.size w6 wr) (fun i _ => V.length - (intOf i).toNat)
    case atStart => exact ⟨0, by omega, rfl, Below.refl _ _⟩
    case round =>
      obtain ⟨k, hk, rfl, hb⟩ := hrel
      have HKr := Lib.hid (HK6.out.on hb)
      have HUr := Lib.hid (HU6.out.below hb)
      have HB := Lib.hid hb
      clear hb
      by_cases hlt : k < V.length
      · have hltp : (k : Int) < (V.length : Int) := by omega
        have hk0 : (0 : Int) ≤ (k : Int) := by omega
        have hkp : (k : Int) < p * p * p := by rw [← HCU.out]; omega
        obtain ⟨q, px, py, pz, hq1, he, hpt⟩ := pnt_at HPI.out hkp
        have HPA := Lib.hid (fun w => iPointAt_yes p k q px py pz HPI.out hkp hq1 w)
        obtain ⟨m, hm⟩ : ∃ m, m = evV p px py pz L := ⟨_, rfl⟩
        have hvk : V.getD k 0 = m := by rw [HG.out k hlt, hpt, hm]; rfl
        obtain ⟨g, off, hgo, hck⟩ : ∃ g off, ua = some ⟨g, off, none⟩ ∧ wr.cell? ⟨g, off + k, none⟩ = some (.int .i64 m) := by
          obtain ⟨_, ua', uc', hee, hd⟩ := HUr.out
          injection hee with i1 i2 i3
          subst i1
          rcases hd with hd | ⟨g, off, e1, _, hc⟩
          · rw [hd] at hlt; simp at hlt
          · exact ⟨g, off, e1, by rw [hc k hlt, hvk]⟩
        subst hgo
        have HEV := Lib.hid (fun w' h => (by rw [hm]; exact iEvalPoly p px py pz f L w' h : Calls Try.prog 46 #[.int .i64 p, f, .agg #[.int .i64 px, .int .i64 py, .int .i64 pz]] w' fun e w'' => e = .returned (.int .i64 m) ∧ Below w'.heap.size w' w''))
        have hmm : (m != m) = false := by simp
        clear hm hvk hq1 he hpt hkp
        go_wp2_with fail
        refine (HPA.out _).mono ?_
        rintro e w7 ⟨rfl, hb7⟩
        have HB7 := Lib.hid (show Below w6.heap.size w6 w7 from HB.out.trans (hb7.mono HB.out.size))
        clear hb7
        go_upto_region 13 with fail
        obtain ⟨W7, hW7⟩ : ∃ W7, W7 = w7.alloc (Obj.cells #[.int .i64 px, .int .i64 py, .int .i64 pz] 48) := ⟨_, rfl⟩
        obtain ⟨Z, hZ⟩ : ∃ Z, Z = w7.heap.size := ⟨_, rfl⟩
        have HB8 := Lib.hid (show Below w6.heap.size w6 W7 from by rw [hW7]; exact HB7.out.alloc HB7.out.size _)
        have p0 : W7.cell? ⟨Z, 0, none⟩ = some (.int .i64 px) := by rw [hW7, hZ]; exact World.cell?_alloc_at _ _ _ 0 rfl
        have p1 : W7.cell? ⟨Z, 1, none⟩ = some (.int .i64 py) := by rw [hW7, hZ]; exact World.cell?_alloc_at _ _ _ 1 rfl
        have p2 : W7.cell? ⟨Z, 2, none⟩ = some (.int .i64 pz) := by rw [hW7, hZ]; exact World.cell?_alloc_at _ _ _ 2 rfl
        rw [← hW7, ← hZ]
        clear hW7 hZ HB7
        go_wp2_with fail
        refine (HEV.out _ ((HK6.out.on HB8.out).g (by simp))).mono ?_
        rintro e w8 ⟨rfl, hb8⟩
        have HB9 := Lib.hid (show Below w6.heap.size w6 w8 from HB8.out.trans (hb8.mono HB8.out.size))
        clear hb8 p0 p1 p2
        go_wp2_with fail
        go_roundw
        case rel => exact ⟨k + 1, by omega, by go_num, HB9.out⟩
        case measure => simp [intOf]; omega
      · have hkC : k = V.length := by omega
        subst hkC
        have hnl : ¬ (V.length : Int) < (V.length : Int) := by omega
        go_wp2_with fail
        refine (acP gv rv (rdV p L) wr (HKr.out.g (by simp)) (HKr.out.g (by simp))).mono ?_
        rintro e w9 ⟨rfl, hb⟩
        have HK9 := Lib.hid (HKr.out.on hb)
        clear hb
        go_wp2_with fail
        go_ret
        exact ⟨rfl, HK9.out.low⟩
theorem wValuesOf_long (a : Option Addr) (len cap : Nat) (w : World) (hl : 1048576 < len) :
    Calls Try.prog 11 #[.slice a len cap] w fun e w' => e = .returned (.bool true) ∧ Below w.heap.size w w' := by
  have hgt : (len : Int) > 1048576 := by omega
  clear hl
  go_enter Try.func11, Try.ntmps11
  go_wp2_with fail
  go_ret
  exact ⟨rfl, Below.refl _ _⟩
theorem wValuesOf (a : Option Addr) (len cap : Nat) (w : World) (h : ByteRow w a len cap) :
    Calls Try.prog 11 #[.slice a len cap] w fun e w' => e = .returned (.bool true) ∧ Below w.heap.size w w' := by
  by_cases q : len ≤ 1048576
  · exact wValuesOf_in a len cap w h q
  · exact wValuesOf_long a len cap w (by omega)
end Go.Proofs.Ytajabchbdhjdiaa
