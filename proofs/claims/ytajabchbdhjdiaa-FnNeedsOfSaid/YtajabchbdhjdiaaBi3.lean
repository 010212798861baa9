/-
  The walk of the law of NeedsOf. Conditions: none but that the bytes can be read.
-/
import Derived.Test.YtajabchbdhjdiaaBi2
import Derived.Test.YtajabchbdhjdiaaBi1
import Derived.Test.YtajabchbdhjdiaaBe4
import Derived.Test.YtajabchbdhjdiaaBe2
import Derived.Test.YtajabchbdhjdiaaBg2
namespace Go.Proofs.Ytajabchbdhjdiaa
set_option linter.unusedVariables false
open Go.RowKit
/-- whether the value at a point is another one where an unknown is 0 -/
def dfB (p : Int) (L : List Trm) (v : Int) (t : Int × Int × Int) : Bool := evV p t.1 t.2.1 t.2.2 L != evV p (mvX v t.1) (mvY v t.2.1) (mvZ v t.2.2) L
def dfN (p : Int) (L : List Trm) (v : Int) : Nat → Bool
  | 0 => false
  | n + 1 => dfN p L v n || dfB p L v (pnt p.toNat n)
theorem dfN_iff (p : Int) (L : List Trm) (v : Int) : ∀ n, dfN p L v n = true ↔ ∃ j, j < n ∧ dfB p L v (pnt p.toNat j) = true
  | 0 => ⟨fun h => (by cases h), fun ⟨j, hj, _⟩ => by omega⟩
  | n + 1 => by
    unfold dfN
    rw [Bool.or_eq_true, dfN_iff p L v n]
    constructor
    · rintro (⟨j, hj, h⟩ | h)
      · exact ⟨j, by omega, h⟩
      · exact ⟨n, by omega, h⟩
    · rintro ⟨j, hj, h⟩
      by_cases e : j = n
      · exact .inr (e ▸ h)
      · exact .inl ⟨j, by omega, h⟩
theorem dfN_is {p v : Int} {L : List Trm} (hp : isP p = true) (hV : validB p L = true) (hv : v = 0 ∨ v = 1 ∨ v = 2) : dfN p L v (p.toNat * p.toNat * p.toNat) = ndB (redV p L) v := by
  have hpb := isP_bd hp
  have e3 : ∀ x y z : Int, (0 ≤ x ∧ x < p) → (0 ≤ y ∧ y < p) → (0 ≤ z ∧ z < p) → evV p x y z L = evK p x y z L L.length := fun x y z hx hy hz => by
    have he : isE3 p x y z = true := by
      simp only [isE3, Bool.and_eq_true]
      exact ⟨isE_iff.2 hx, isE_iff.2 hy, isE_iff.2 hz⟩
    unfold evV
    rw [hp, hV, he]
    rfl
  have hm : ∀ x y z : Int, (0 ≤ x ∧ x < p) → (0 ≤ y ∧ y < p) → (0 ≤ z ∧ z < p) → (0 ≤ mvX v x ∧ mvX v x < p) ∧ (0 ≤ mvY v y ∧ mvY v y < p) ∧ (0 ≤ mvZ v z ∧ mvZ v z < p) := fun x y z hx hy hz => by
    unfold mvX mvY mvZ
    refine ⟨?_, ?_, ?_⟩ <;> split <;> omega
  rw [Bool.eq_iff_iff, dfN_iff, nd_is hp hV hv]
  constructor
  · rintro ⟨k, hk, h⟩
    have hc := cube_nat hp
    obtain ⟨q, x, y, z, _, he, e2⟩ := pnt_at hp (k := k) (by rw [← hc]; exact_mod_cast hk)
    simp only [isE3, Bool.and_eq_true] at he
    have hx := isE_iff.1 he.1
    have hy := isE_iff.1 he.2.1
    have hz := isE_iff.1 he.2.2
    rw [e2] at h
    obtain ⟨m1, m2, m3⟩ := hm x y z hx hy hz
    refine ⟨x, y, z, hx, hy, hz, ?_⟩
    rw [← e3 x y z hx hy hz, ← e3 _ _ _ m1 m2 m3]
    simpa [dfB] using h
  · rintro ⟨x, y, z, hx, hy, hz, h⟩
    have hin := pat_in hp hx hy hz
    rw [patX_pnt p hp] at hin
    obtain ⟨k, hk, e2⟩ := List.mem_map.1 hin
    refine ⟨k, List.mem_range.1 hk, ?_⟩
    rw [e2]
    obtain ⟨m1, m2, m3⟩ := hm x y z hx hy hz
    rw [← e3 x y z hx hy hz, ← e3 _ _ _ m1 m2 m3] at h
    simpa [dfB] using h
theorem nd_in (R : List Trm) {v : Nat} (hv : v < 3) :
    (ndB R v = true → (ndK R v).length < (ndK R 3).length ∧ (ndK R 3).getD (ndK R v).length 0 = (v : Int) ∧ (ndK R (v + 1)).length = (ndK R v).length + 1) ∧
    (ndB R v = false → ((ndK R v).length < (ndK R 3).length → (ndK R 3).getD (ndK R v).length 0 ≠ (v : Int)) ∧ (ndK R (v + 1)).length = (ndK R v).length) := by
  have h3 : v = 0 ∨ v = 1 ∨ v = 2 := by omega
  have r1 : List.range 1 = [0] := rfl
  have r2 : List.range 2 = [0, 1] := rfl
  have r3 : List.range 3 = [0, 1, 2] := rfl
  rcases h3 with rfl | rfl | rfl <;> cases h0 : ndB R 0 <;> cases h1 : ndB R 1 <;> cases h2 : ndB R 2 <;> simp [ndK, r1, r2, r3, h0, h1, h2]
set_option maxRecDepth 100000 in
set_option maxHeartbeats 32000000 in
theorem wNeedsOf_in (a : Option Addr) (len cap : Nat) (w : World) (h : ByteRow w a len cap) (hl : len ≤ 1048576) :
    Calls Try.prog 12 #[.slice a len cap] w fun e w' => e = .returned (.bool true) ∧ Below w.heap.size w w' := by
  have hlp : (len : Int) ≤ 1048576 := by omega
  have HD := Lib.hid (drawNeedsOf a len cap w h)
  clear h
  go_enter Try.func12, Try.ntmps12
  go_wp2_with fail
  refine HD.out.mono ?_
  rintro e w1 ⟨p, f, L, rfl, hL, hr1, hb1⟩
  have HK1 := Lib.hid (show PK w [(f, L)] w1 from ⟨hb1, fun z hz => by
    rcases List.mem_cons.1 hz with rfl | hz
    · exact (hr1.own (by omega)).trms
    · cases hz⟩)
  clear hr1 hb1 HD
  obtain ⟨V, hVe⟩ : ∃ V, V = ndL p L := ⟨_, rfl⟩
  have HI := Lib.hid (fun w h => (show Calls Try.prog 37 #[.int .i64 p, f] w fun e w' => ∃ u, e = .returned u ∧ OwnInts w' w.heap.size u V ∧ Below w.heap.size w w' by rw [hVe]; exact iNeedsOfO p f L w h))
  have HS := Lib.hid (fun w h => (show Calls Try.prog 36 #[.int .i64 p, f] w fun e w' => ∃ u, e = .returned u ∧ OwnInts w' w.heap.size u V ∧ Below w.heap.size w w' by rw [hVe]; exact sNeedsOfO p f L w h))
  have HVE := Lib.hid hVe
  clear hVe
  go_wp2_with fail
  refine (HI.out _ (HK1.out.g (by simp))).mono ?_
  rintro e w2 ⟨u, rfl, hu, hb⟩
  have HK2 := Lib.hid (HK1.out.on hb)
  have HU2 := Lib.hid hu.ints
  obtain ⟨_, ua, uc, rfl, _⟩ := hu
  clear hb HK1
  go_wp2_with fail
  refine (HS.out _ (HK2.out.g (by simp))).mono ?_
  rintro e w3 ⟨v, rfl, hv, hb⟩
  have HK3 := Lib.hid (HK2.out.on hb)
  have HU3 := Lib.hid (HU2.out.below hb)
  have HV3 := Lib.hid hv.ints
  clear hb HK2 HU2 hv
  go_wp2_with fail
  refine (acS _ v V V w3 HU3.out HV3.out rfl).mono ?_
  rintro e w4 ⟨rfl, hdr⟩
  have hb := hdr.below w3.heap.size
  have HK4 := Lib.hid (HK3.out.on hb)
  have HU4 := Lib.hid (HU3.out.below hb)
  clear hb hdr HK3 HU3 HV3
  have HPV := Lib.hid (fun w' (h : PK w [(f, L)] w') => iPolyValid p f L w' (h.g (by simp)))
  cases hV : (isP p && validB p L)
  · have hV0 : V.length = 0 := by rw [HVE.out]; unfold ndL; rw [(rdOk_no hV).2]; rfl
    have hz : ((V.length : Int) == 0) = true := by simp [hV0]
    rw [hV] at HPV
    clear hV hV0
    go_wp2_with fail
    refine (HPV.out _ HK4.out).mono ?_
    rintro e w4' ⟨rfl, hb⟩
    have HK4' := Lib.hid (HK4.out.on hb)
    have HU4' := Lib.hid (HU4.out.below hb)
    clear hb HK4 HU4
    go_wp2_with fail
    refine (HS.out _ (HK4'.out.g (by simp))).mono ?_
    rintro e w5 ⟨v5, rfl, hv, hb⟩
    have HK5 := Lib.hid (HK4'.out.on hb)
    have HU5 := Lib.hid (HU4'.out.below hb)
    have HV5 := Lib.hid hv.ints
    clear hb HK4' HU4' hv
    go_wp2_with fail
    refine (acS _ v5 V V w5 HU5.out HV5.out rfl).mono ?_
    rintro e w6 ⟨rfl, hdr⟩
    have HK6 := Lib.hid (HK5.out.on (hdr.below w5.heap.size))
    clear hdr HK5 HU5 HV5
    go_wp2_with fail
    go_ret
    exact ⟨rfl, HK6.out.low⟩
  · have hvl : isP p = true ∧ validB p L = true := by simpa using hV
    obtain ⟨R, hR⟩ : ∃ R, R = redV p L := ⟨_, rfl⟩
    have HVK := Lib.hid (show V = ndK R 3 from by rw [HVE.out, hR]; unfold ndL; rw [(rd_is hvl.1 hvl.2).2])
    have HDN := Lib.hid (fun (v : Nat) (hv : v < 3) => (by rw [hR]; exact dfN_is hvl.1 hvl.2 (by omega) : dfN p L (v : Int) (p.toNat * p.toNat * p.toNat) = ndB R v))
    have hcube := cube_nat hvl.1
    have hpp := pp_bd hvl.1
    have hpb := isP_bd hvl.1
    obtain ⟨C, hC⟩ : ∃ C, C = p.toNat * p.toNat * p.toNat := ⟨_, rfl⟩
    rw [← hC] at hcube HDN
    have hC2 : (C : Int) ≤ 2197 := by rw [hcube]; omega
    obtain ⟨a2, ha2⟩ : ∃ a2, a2 = p * p := ⟨_, rfl⟩
    have f1 : IntKind.i64.wrap (p * p) = a2 := by rw [ha2]; exact IntWalk.i64_in _ (by omega)
    have f2 : IntKind.i64.wrap (a2 * p) = (C : Int) := by rw [ha2, hcube]; exact IntWalk.i64_in _ (by omega)
    have hV3 : V.length ≤ 3 := by rw [HVK.out]; exact ndK_le R 3
    have HPI := Lib.hid hvl.1
    have HCU := Lib.hid hcube
    rw [hV] at HPV
    clear hV hvl hR hpp hC ha2 hcube
    go_wp2_with fail
    refine (HPV.out _ HK4.out).mono ?_
    rintro e w5 ⟨rfl, hb⟩
    have HK5 := Lib.hid (HK4.out.on hb)
    have HU5 := Lib.hid (HU4.out.below hb)
    clear hb HK4 HU4
    go_wp2_with fail
    go_loopw [6, 47] (fun k i wr => ∃ v : Nat, v ≤ 3 ∧ i = .int .i64 v ∧ k = .int .i64 ((ndK R v).length : Nat) ∧ Below w5.heap.size w5 wr) (fun _ i _ => 3 - (intOf i).toNat)
    case atStart => exact ⟨0, by omega, rfl, rfl, Below.refl _ _⟩
    case round =>
      obtain ⟨v, hv, rfl, rfl, hb⟩ := hrel
      have HBo := Lib.hid hb
      clear hb
      by_cases hv3 : v < 3
      · have hvI : (v : Int) < 3 := by omega
        have hv0 : (0 : Int) ≤ (v : Int) := by omega
        go_wp2_with fail
        go_loopw [8, 55] (fun d i wr2 => ∃ n : Nat, n ≤ C ∧ i = .int .i64 n ∧ d = .bool (dfN p L v n) ∧ Below w5.heap.size w5 wr2) (fun _ i _ => C - (intOf i).toNat)
        case atStart => exact ⟨0, by omega, rfl, rfl, HBo.out⟩
        case round =>
          obtain ⟨n, hn, rfl, rfl, hb⟩ := hrel
          have HB := Lib.hid hb
          clear hb
          by_cases hlt : n < C
          · have hltp : (n : Int) < (C : Int) := by omega
            have hn0 : (0 : Int) ≤ (n : Int) := by omega
            have hkp : (n : Int) < p * p * p := by rw [← HCU.out]; omega
            obtain ⟨q, px, py, pz, hq1, he, hpt⟩ := pnt_at HPI.out hkp
            have HPA := Lib.hid (fun w => iPointAt_yes p n q px py pz HPI.out hkp hq1 w)
            obtain ⟨m, hm⟩ : ∃ m, m = evV p px py pz L := ⟨_, rfl⟩
            obtain ⟨m2, hm2⟩ : ∃ m2, m2 = evV p (mvX v px) (mvY v py) (mvZ v pz) L := ⟨_, rfl⟩
            obtain ⟨qx, hqx⟩ : ∃ qx, qx = mvX v px := ⟨_, rfl⟩
            obtain ⟨qy, hqy⟩ : ∃ qy, qy = mvY v py := ⟨_, rfl⟩
            obtain ⟨qz, hqz⟩ : ∃ qz, qz = mvZ v pz := ⟨_, rfl⟩
            have HEV := Lib.hid (fun w' h => (by rw [hm]; exact iEvalPoly p px py pz f L w' h : Calls Try.prog 46 #[.int .i64 p, f, .agg #[.int .i64 px, .int .i64 py, .int .i64 pz]] w' fun e w'' => e = .returned (.int .i64 m) ∧ Below w'.heap.size w' w''))
            have HEV2 := Lib.hid (fun w' h => (by rw [hm2, ← hqx, ← hqy, ← hqz]; exact iEvalPoly p qx qy qz f L w' h : Calls Try.prog 46 #[.int .i64 p, f, .agg #[.int .i64 qx, .int .i64 qy, .int .i64 qz]] w' fun e w'' => e = .returned (.int .i64 m2) ∧ Below w'.heap.size w' w''))
            have HDF := Lib.hid (show dfN p L v (n + 1) = (dfN p L v n || (m != m2)) from by
              show (dfN p L v n || dfB p L v (pnt p.toNat n)) = _
              rw [hpt, hm, hm2]
              rfl)
            have HQ := Lib.hid (And.intro hqx (And.intro hqy hqz))
            obtain ⟨d, hd⟩ : ∃ d, d = dfN p L v n := ⟨_, rfl⟩
            rw [← hd] at HDF ⊢
            clear hm hm2 hq1 he hpt hkp hqx hqy hqz hd
            go_wp2_with fail
            refine (HPA.out _).mono ?_
            rintro e w7 ⟨rfl, hb7⟩
            have HB7 := Lib.hid (show Below w5.heap.size w5 w7 from HB.out.trans (hb7.mono HB.out.size))
            clear hb7
            go_upto_region 18 with fail
            have hv012 : v = 0 ∨ v = 1 ∨ v = 2 := by omega
            have hset : ([Value.int .i64 px, Value.int .i64 py, Value.int .i64 pz].set v (Value.int .i64 0)).toArray = #[Value.int .i64 qx, Value.int .i64 qy, Value.int .i64 qz] := by
              rw [HQ.out.1, HQ.out.2.1, HQ.out.2.2]
              rcases hv012 with rfl | rfl | rfl <;> rfl
            rw [hset]
            obtain ⟨W8, hW8⟩ : ∃ W8, W8 = (w7.alloc (Obj.cells #[.int .i64 px, .int .i64 py, .int .i64 pz] 48)).alloc (Obj.cells #[.int .i64 qx, .int .i64 qy, .int .i64 qz] 48) := ⟨_, rfl⟩
            obtain ⟨X, hX⟩ : ∃ X, X = w7.heap.size := ⟨_, rfl⟩
            have past : ∀ (b j : Nat), b < (w7.alloc (Obj.cells #[.int .i64 px, .int .i64 py, .int .i64 pz] 48)).heap.size → W8.cell? ⟨b, j, none⟩ = (w7.alloc (Obj.cells #[.int .i64 px, .int .i64 py, .int .i64 pz] 48)).cell? ⟨b, j, none⟩ := fun b j h => by rw [hW8]; exact World.cell?_alloc_past _ _ _ h
            have p0 : W8.cell? ⟨X, 0, none⟩ = some (.int .i64 px) := by rw [past _ _ (by rw [hX]; simp), hX]; exact World.cell?_alloc_at _ _ _ 0 rfl
            have p1 : W8.cell? ⟨X, 1, none⟩ = some (.int .i64 py) := by rw [past _ _ (by rw [hX]; simp), hX]; exact World.cell?_alloc_at _ _ _ 1 rfl
            have p2 : W8.cell? ⟨X, 2, none⟩ = some (.int .i64 pz) := by rw [past _ _ (by rw [hX]; simp), hX]; exact World.cell?_alloc_at _ _ _ 2 rfl
            have r0 : W8.cell? ⟨X + 1, 0, none⟩ = some (.int .i64 qx) := by rw [hW8, hX]; exact World.cell?_alloc_at _ _ _ 0 (by simp)
            have r1 : W8.cell? ⟨X + 1, 1, none⟩ = some (.int .i64 qy) := by rw [hW8, hX]; exact World.cell?_alloc_at _ _ _ 1 (by simp)
            have r2 : W8.cell? ⟨X + 1, 2, none⟩ = some (.int .i64 qz) := by rw [hW8, hX]; exact World.cell?_alloc_at _ _ _ 2 (by simp)
            have hXs : X < W8.heap.size ∧ X + 1 < W8.heap.size := by
              have e : W8.heap.size = w7.heap.size + 1 + 1 := by rw [hW8]; simp
              omega
            have HB8 := Lib.hid (show Below w5.heap.size w5 W8 from by rw [hW8]; exact (HB7.out.alloc HB7.out.size _).alloc (by have := HB7.out.size; simp; omega) _)
            have HS8 := Lib.hid (fun w' (hw : Below W8.heap.size W8 w') => show (w'.cell? ⟨X, 0, none⟩ = some (.int .i64 px) ∧ w'.cell? ⟨X, 1, none⟩ = some (.int .i64 py) ∧ w'.cell? ⟨X, 2, none⟩ = some (.int .i64 pz)) ∧ w'.cell? ⟨X + 1, 0, none⟩ = some (.int .i64 qx) ∧ w'.cell? ⟨X + 1, 1, none⟩ = some (.int .i64 qy) ∧ w'.cell? ⟨X + 1, 2, none⟩ = some (.int .i64 qz) from
              ⟨⟨(hw.cell (p := ⟨X, 0, none⟩) hXs.1).trans p0, (hw.cell (p := ⟨X, 1, none⟩) hXs.1).trans p1, (hw.cell (p := ⟨X, 2, none⟩) hXs.1).trans p2⟩, (hw.cell (p := ⟨X + 1, 0, none⟩) hXs.2).trans r0, (hw.cell (p := ⟨X + 1, 1, none⟩) hXs.2).trans r1, (hw.cell (p := ⟨X + 1, 2, none⟩) hXs.2).trans r2⟩)
            rw [← hW8, ← hX]
            clear hW8 hX past p0 p1 p2 r0 r1 r2 HB7 hset hv012
            cases d
            · obtain ⟨z, hz⟩ : ∃ z, z = (m != m2) := ⟨_, rfl⟩
              have hz2 : (m != m2) = z := hz.symm
              have HDZ := Lib.hid (show dfN p L v (n + 1) = z from by rw [HDF.out, hz]; rfl)
              clear hz HDF
              refine wp_region_seqG [(0, true), (1, true), (2, true), (3, true), (4, true), (6, true), (7, true), (8, true), (5, false), (9, false), (10, true), (11, true)] (fun w' => (w'.cell? ⟨X, 0, none⟩ = some (.int .i64 px) ∧ w'.cell? ⟨X, 1, none⟩ = some (.int .i64 py) ∧ w'.cell? ⟨X, 2, none⟩ = some (.int .i64 pz)) ∧ w'.cell? ⟨X + 1, 0, none⟩ = some (.int .i64 qx) ∧ w'.cell? ⟨X + 1, 1, none⟩ = some (.int .i64 qy) ∧ w'.cell? ⟨X + 1, 2, none⟩ = some (.int .i64 qz)) (by kernel_rfl) (by kernel_rfl) rfl (by intro c a d v w h; cases d <;> exact h) (HS8.out _ (Below.drew (Below.refl _ _))) ?_
              iterate 8 (refine wpSeqG_take (v := ?_) (List.getElem?_toArray.trans rfl) rfl ?_ ?_; rotate_left; (intro w' hSw; (try dsimp only at hSw); go_simp; (try with_reducible rfl)); (try simp only [Act.put, List.setIfInBounds_toArray, List.set_cons_zero, List.set_cons_succ]))
              refine wpSeqG_do (List.getElem?_toArray.trans rfl) rfl (fun K hK => ?_)
              go_simp
              refine (HEV.out _ ((HK5.out.on (HB8.out.trans (Below.drew (Below.refl _ _) |>.mono HB8.out.size))).g (by simp))).mono ?_
              rintro e w9 ⟨rfl, hb9⟩
              have hk9 : Below W8.heap.size W8 w9 := (Below.drew (Below.refl _ _)).trans (hb9.mono (by simp))
              refine hK _ _ (HS8.out _ hk9) ?_
              clear hK K hb9
              refine wpSeqG_do (List.getElem?_toArray.trans rfl) rfl (fun K hK => ?_)
              go_simp
              refine (HEV2.out _ ((HK5.out.on (HB8.out.trans (hk9.mono HB8.out.size))).g (by simp))).mono ?_
              rintro e w10 ⟨rfl, hb10⟩
              have hk10 : Below W8.heap.size W8 w10 := hk9.trans (hb10.mono hk9.size)
              refine hK _ _ (HS8.out _ hk10) ?_
              clear hK K hb10
              iterate 2 (refine wpSeqG_take (v := ?_) (List.getElem?_toArray.trans rfl) rfl ?_ ?_; rotate_left; (intro w' hSw; (try dsimp only at hSw); go_simp; (try with_reducible rfl)); (try simp only [Act.put, List.setIfInBounds_toArray, List.set_cons_zero, List.set_cons_succ]))
              refine wpSeqG_nil ?_
              simp only [Exit.then]
              have HB10 := Lib.hid (show Below w5.heap.size w5 w10 from HB8.out.trans (hk10.mono HB8.out.size))
              clear hk9 hk10 HS8
              go_wp2_with fail
              go_roundw
              case rel => exact ⟨n + 1, by omega, by go_num, by rw [HDZ.out], HB10.out⟩
              case measure => simp [intOf]; omega
            · have HDZ := Lib.hid (show dfN p L v (n + 1) = true from by rw [HDF.out]; rfl)
              clear HDF
              refine wp_region_seqG [(0, true), (1, true), (2, true), (3, true), (4, true), (6, true), (7, true), (8, true), (5, true), (9, true), (10, true), (11, true)] (fun w' => True) (by kernel_rfl) (by kernel_rfl) rfl (by intro c a d v w h; cases d <;> exact h) trivial ?_
              iterate 2 (refine wpSeqG_take (v := ?_) (List.getElem?_toArray.trans rfl) rfl ?_ ?_; rotate_left; (intro w' hSw; (try dsimp only at hSw); go_simp; (try with_reducible rfl)); (try simp only [Act.put, List.setIfInBounds_toArray, List.set_cons_zero, List.set_cons_succ]))
              iterate 9 (refine wpSeqG_skip (List.getElem?_toArray.trans rfl) rfl ?_; (try simp only [Act.put, List.setIfInBounds_toArray, List.set_cons_zero, List.set_cons_succ]))
              iterate 1 (refine wpSeqG_take (v := ?_) (List.getElem?_toArray.trans rfl) rfl ?_ ?_; rotate_left; (intro w' hSw; (try dsimp only at hSw); go_simp; (try with_reducible rfl)); (try simp only [Act.put, List.setIfInBounds_toArray, List.set_cons_zero, List.set_cons_succ]))
              refine wpSeqG_nil ?_
              simp only [Exit.then]
              have HB10 := Lib.hid (show Below w5.heap.size w5 W8.drew from Below.drew HB8.out)
              clear HS8
              go_wp2_with fail
              go_roundw
              case rel => exact ⟨n + 1, by omega, by go_num, by rw [HDZ.out], HB10.out⟩
              case measure => simp [intOf]; omega
          · have hnC : n = C := by omega
            subst hnC
            have hnl : ¬ (n : Int) < (n : Int) := by omega
            rw [HDN.out v hv3]
            have hin := nd_in R hv3
            obtain ⟨b, hb⟩ : ∃ b, b = ndB R v := ⟨_, rfl⟩
            rw [← hb] at hin ⊢
            rw [← HVK.out] at hin
            obtain ⟨kk, hkk⟩ : ∃ kk, kk = (ndK R v).length := ⟨_, rfl⟩
            rw [← hkk] at hin ⊢
            have hkk3 : kk ≤ 3 := by rw [hkk]; have := ndK_le R v; omega
            have hk0 : (0 : Int) ≤ (kk : Int) := by omega
            have hwk : IntKind.i64.wrap ((kk : Int) + 1) = (kk : Int) + 1 := IntWalk.i64_in _ (by omega)
            have HUr := Lib.hid (HU5.out.below HB.out)
            clear hb hkk
            have cellx : kk < V.length → ∃ g off, ua = some ⟨g, off, none⟩ ∧ wr.cell? ⟨g, off + kk, none⟩ = some (.int .i64 (V.getD kk 0)) := fun hlt => by
              obtain ⟨_, ua', uc', hee, hd⟩ := HUr.out
              injection hee with i1 i2 i3
              subst i1
              rcases hd with hd | ⟨g, off, e1, _, hc⟩
              · rw [hd] at hlt; simp at hlt
              · exact ⟨g, off, e1, hc kk hlt⟩
            cases b
            · obtain ⟨h1, h2⟩ := hin.2 rfl
              have H2 := Lib.hid h2
              by_cases hlk : kk < V.length
              · have hlkI : (kk : Int) < (V.length : Int) := by omega
                obtain ⟨g, off, hgo, hck⟩ := cellx hlk
                obtain ⟨x, hx⟩ : ∃ x, x = V.getD kk 0 := ⟨_, rfl⟩
                rw [← hx] at hck
                have hxv : (x == (v : Int)) = false := by rw [hx]; simpa using h1 hlk
                subst hgo
                clear hin cellx hx h1 h2 hlk
                go_wp2_with fail
                go_roundw
                case rel => exact ⟨v + 1, by omega, by go_num, by rw [H2.out], HB.out⟩
                case measure => simp [intOf]; omega
              · have hlkI : ¬ (kk : Int) < (V.length : Int) := by omega
                clear hin cellx h1 h2 hlk
                go_wp2_with fail
                go_roundw
                case rel => exact ⟨v + 1, by omega, by go_num, by rw [H2.out], HB.out⟩
                case measure => simp [intOf]; omega
            · obtain ⟨h1, h2, h3⟩ := hin.1 rfl
              have H3 := Lib.hid h3
              have hlkI : (kk : Int) < (V.length : Int) := by omega
              obtain ⟨g, off, hgo, hck⟩ := cellx h1
              rw [h2] at hck
              have hxv : ((v : Int) == (v : Int)) = true := by simp
              subst hgo
              clear hin cellx h1 h2 h3
              go_wp2_with fail
              go_roundw
              case rel => exact ⟨v + 1, by omega, by go_num, by rw [H3.out]; go_num, HB.out⟩
              case measure => simp [intOf]; omega
      · have hvv : v = 3 := by omega
        subst hvv
        have hnl : ¬ ((3 : Nat) : Int) < 3 := by omega
        have heq : (((ndK R 3).length : Int) == (V.length : Int)) = true := by rw [HVK.out]; simp
        have HF := Lib.hid (HK5.out.on HBo.out).low
        go_wp2_with fail
        go_ret
        exact ⟨rfl, HF.out⟩
theorem wNeedsOf_long (a : Option Addr) (len cap : Nat) (w : World) (hl : 1048576 < len) :
    Calls Try.prog 12 #[.slice a len cap] w fun e w' => e = .returned (.bool true) ∧ Below w.heap.size w w' := by
  have hgt : (len : Int) > 1048576 := by omega
  clear hl
  go_enter Try.func12, Try.ntmps12
  go_wp2_with fail
  go_ret
  exact ⟨rfl, Below.refl _ _⟩
theorem wNeedsOf (a : Option Addr) (len cap : Nat) (w : World) (h : ByteRow w a len cap) :
    Calls Try.prog 12 #[.slice a len cap] w fun e w' => e = .returned (.bool true) ∧ Below w.heap.size w w' := by
  by_cases q : len ≤ 1048576
  · exact wNeedsOf_in a len cap w h q
  · exact wNeedsOf_long a len cap w (by omega)
end Go.Proofs.Ytajabchbdhjdiaa
