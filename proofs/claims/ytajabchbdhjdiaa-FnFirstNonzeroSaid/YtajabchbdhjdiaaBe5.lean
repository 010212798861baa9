/-
  The walk of the law of FirstNonzero. Conditions: none but that the bytes can be read.
-/
import Derived.Test.YtajabchbdhjdiaaBa27
import Derived.Test.YtajabchbdhjdiaaBe4
import Derived.Test.YtajabchbdhjdiaaBe2
import Derived.Test.YtajabchbdhjdiaaBa21
namespace Go.Proofs.Ytajabchbdhjdiaa
set_option linter.unusedVariables false
open Go.RowKit
/-- what the first point at which a value is not 0 is -/
structure FnF (p : Int) (L : List Trm) (C : Nat) (x y z : Int) (r : Bool) : Prop where
  no : r = false → ∀ j, j < C → nzB p L (pnt p.toNat j) = false
  yes : r = true → nzB p L (x, y, z) = true
  at_ : ∀ k, k < C → (∀ j, j < k → nzB p L (pnt p.toNat j) = false) → nzB p L (pnt p.toNat k) = true → r = true ∧ pnt p.toNat k = (x, y, z)
  all : (∀ j, j < C → nzB p L (pnt p.toNat j) = false) → r = false
theorem fnF {p : Int} {L : List Trm} (h : (isP p && validB p L) = true) {x y z : Int} {r : Bool} (ht : (x, y, z) = fnT p L) (hr : r = fnB p L) : FnF p L (p.toNat * p.toNat * p.toNat) x y z r := by
  have hp : isP p = true := by simp at h; exact h.1
  have e1 : fnT p L = fpT (patX p.toNat p.toNat) (nzB p L) := by unfold fnT; rw [h]; rfl
  have e2 : fnB p L = fpB (patX p.toNat p.toNat) (nzB p L) := by unfold fnB; rw [h]; rfl
  rw [e1, patX_pnt p hp] at ht
  rw [e2, patX_pnt p hp] at hr
  have hat : ∀ k, k < p.toNat * p.toNat * p.toNat → (∀ j, j < k → nzB p L (pnt p.toNat j) = false) → nzB p L (pnt p.toNat k) = true → r = true ∧ pnt p.toNat k = (x, y, z) := by
    intro k hk hz hn
    obtain ⟨post, hpo⟩ := range_split hk p.toNat
    have := fp_some (post := post) (pre := (List.range k).map (pnt p.toNat)) (t := pnt p.toNat k) (B := nzB p L) (fun s hs => by
      obtain ⟨j, hj, rfl⟩ := List.mem_map.1 hs
      exact hz j (List.mem_range.1 hj)) hn
    rw [← hpo] at this
    exact ⟨hr.trans this.2, this.1.symm.trans ht.symm⟩
  refine ⟨fun e j hj => ?_, fun e => ?_, hat, fun hz => ?_⟩
  · cases hn : nzB p L (pnt p.toNat j)
    · rfl
    · exfalso
      rw [e] at hr
      exact absurd (List.any_eq_false.1 hr.symm (pnt p.toNat j) (List.mem_map.2 ⟨j, List.mem_range.2 hj, rfl⟩)) (by simp [hn])
  · rw [e] at hr
    obtain ⟨t, h1, h2⟩ := List.any_eq_true.1 hr.symm
    rw [ht]
    unfold fpT
    cases hf : ((List.range (p.toNat * p.toNat * p.toNat)).map (pnt p.toNat)).find? (nzB p L) with
    | none => exact absurd h2 (List.find?_eq_none.1 hf t h1)
    | some u => exact List.find?_some hf
  · rw [hr]
    refine (fp_none (fun s hs => ?_)).2
    obtain ⟨j, hj, rfl⟩ := List.mem_map.1 hs
    exact hz j (List.mem_range.1 hj)
set_option maxRecDepth 100000 in
set_option maxHeartbeats 16000000 in
theorem wFirstNonzero_in (a : Option Addr) (len cap : Nat) (w : World) (h : ByteRow w a len cap) (hl : len ≤ 1048576) :
    Calls Try.prog 15 #[.slice a len cap] w fun e w' => e = .returned (.bool true) ∧ Below w.heap.size w w' := by
  have hlp : (len : Int) ≤ 1048576 := by omega
  have HD := Lib.hid (drawFirstNonzero a len cap w h)
  clear h
  go_enter Try.func15, Try.ntmps15
  go_wp2_with fail
  refine HD.out.mono ?_
  rintro e w1 ⟨p, f, L, rfl, hL, hr1, hb1⟩
  have HK1 := Lib.hid (show PK w [(f, L)] w1 from ⟨hb1, fun z hz => by
    rcases List.mem_cons.1 hz with rfl | hz
    · exact (hr1.own (by omega)).trms
    · cases hz⟩)
  clear hr1 hb1 HD
  obtain ⟨t, ht⟩ : ∃ t, t = fnT p L := ⟨_, rfl⟩
  obtain ⟨r, hr⟩ : ∃ r, r = fnB p L := ⟨_, rfl⟩
  have HI := Lib.hid (fun w h => (show Calls Try.prog 50 #[.int .i64 p, f] w fun e w' => e = .returned (.tuple #[encP t, .bool r]) ∧ Below w.heap.size w w' by rw [ht, hr]; exact iFirstNonzero p f L w h))
  have HS := Lib.hid (fun w h => (show Calls Try.prog 49 #[.int .i64 p, f] w fun e w' => e = .returned (.tuple #[encP t, .bool r]) ∧ Below w.heap.size w w' by rw [ht, hr]; exact sFirstNonzero p f L w h))
  obtain ⟨x, y, z⟩ := t
  simp only [encP] at HI HS
  have HN := Lib.hid (And.intro ht hr)
  clear ht hr
  have hrr : (r != r) = false := by cases r <;> rfl
  have hre : (r == r) = true := by cases r <;> rfl
  have hq : ∀ w, (Op.equalIn 10000 48 (.agg #[.int .i64 x, .int .i64 y, .int .i64 z]) (.agg #[.int .i64 x, .int .i64 y, .int .i64 z])).run Try.prog w = .ok true w := fun w => (runEqA9 9998 x y z x y z w).trans (by simp)
  go_wp2_with fail
  refine (HI.out _ (HK1.out.g (by simp))).mono ?_
  rintro e w2 ⟨rfl, hb⟩
  have HK2 := Lib.hid (HK1.out.on hb)
  clear hb HK1
  go_upto_region 5 with fail
  obtain ⟨W2, hW2⟩ : ∃ W2, W2 = w2.alloc (Obj.cells #[.int .i64 x, .int .i64 y, .int .i64 z] 48) := ⟨_, rfl⟩
  obtain ⟨X, hX⟩ : ∃ X, X = w2.heap.size := ⟨_, rfl⟩
  have HX2 := Lib.hid (show W2.cell? ⟨X, 0, none⟩ = some (.int .i64 x) ∧ W2.cell? ⟨X, 1, none⟩ = some (.int .i64 y) ∧ W2.cell? ⟨X, 2, none⟩ = some (.int .i64 z) ∧ X < W2.heap.size ∧ PK w [(f, L)] W2 from
    ⟨by rw [hW2, hX]; exact World.cell?_alloc_at _ _ _ 0 rfl, by rw [hW2, hX]; exact World.cell?_alloc_at _ _ _ 1 rfl, by rw [hW2, hX]; exact World.cell?_alloc_at _ _ _ 2 rfl, by rw [hW2, hX]; simp, by rw [hW2]; exact HK2.out.on (Below.alloc (Below.refl _ _) (Nat.le_refl _) _)⟩)
  rw [← hW2, ← hX]
  clear hW2 hX HK2
  go_wp2_with fail
  refine (HS.out _ (HX2.out.2.2.2.2.g (by simp))).mono ?_
  rintro e w3 ⟨rfl, hb⟩
  have HB3 := Lib.hid (show Below W2.heap.size W2 w3 from hb)
  clear hb
  go_upto_region 6 with fail
  obtain ⟨W3, hW3⟩ : ∃ W3, W3 = w3.alloc (Obj.cells #[.int .i64 x, .int .i64 y, .int .i64 z] 48) := ⟨_, rfl⟩
  obtain ⟨Y, hY⟩ : ∃ Y, Y = w3.heap.size := ⟨_, rfl⟩
  have HB4 := Lib.hid (show Below W2.heap.size W2 W3 from by rw [hW3]; exact HB3.out.alloc HB3.out.size _)
  have y0 : W3.cell? ⟨Y, 0, none⟩ = some (.int .i64 x) := by rw [hW3, hY]; exact World.cell?_alloc_at _ _ _ 0 rfl
  have y1 : W3.cell? ⟨Y, 1, none⟩ = some (.int .i64 y) := by rw [hW3, hY]; exact World.cell?_alloc_at _ _ _ 1 rfl
  have y2 : W3.cell? ⟨Y, 2, none⟩ = some (.int .i64 z) := by rw [hW3, hY]; exact World.cell?_alloc_at _ _ _ 2 rfl
  have hYs : Y < W3.heap.size := by rw [hW3, hY]; simp
  have HKX := Lib.hid (fun w' (hb : Below W3.heap.size W3 w') => show w'.cell? ⟨X, 0, none⟩ = some (.int .i64 x) ∧ w'.cell? ⟨X, 1, none⟩ = some (.int .i64 y) ∧ w'.cell? ⟨X, 2, none⟩ = some (.int .i64 z) ∧ PK w [(f, L)] w' from by
    obtain ⟨c0, c1, c2, cs, ck⟩ := HX2.out
    have hh := HB4.out.trans (hb.mono HB4.out.size)
    exact ⟨(hh.cell (p := ⟨X, 0, none⟩) cs).trans c0, (hh.cell (p := ⟨X, 1, none⟩) cs).trans c1, (hh.cell (p := ⟨X, 2, none⟩) cs).trans c2, ck.on hh⟩)
  rw [← hW3, ← hY]
  clear hW3 hY HB3
  obtain ⟨x0, x1, x2, _⟩ := HKX.out _ (Below.refl _ _)
  have HPV := Lib.hid (fun w' (hb : Below W3.heap.size W3 w') => iPolyValid p f L w' ((HKX.out w' hb).2.2.2.g (by simp)))
  cases hV : (isP p && validB p L)
  · have hr0 : r = false := by rw [HN.out.2]; unfold fnB; rw [hV]; rfl
    rw [hV] at HPV
    subst hr0
    clear hV
    go_wp2_with fail
    refine (HPV.out _ (Below.refl _ _)).mono ?_
    rintro e w4 ⟨rfl, hb⟩
    have z0 := (hb.cell (p := ⟨Y, 0, none⟩) hYs).trans y0
    have z1 := (hb.cell (p := ⟨Y, 1, none⟩) hYs).trans y1
    have z2 := (hb.cell (p := ⟨Y, 2, none⟩) hYs).trans y2
    obtain ⟨v0, v1, v2, vk⟩ := HKX.out _ hb
    have HVK := Lib.hid vk.low
    clear hb vk y0 y1 y2 x0 x1 x2
    go_wp2_with fail
    go_ret
    exact ⟨rfl, HVK.out⟩
  · have hpi : isP p = true := by simp at hV; exact hV.1
    have HF := Lib.hid (fnF hV HN.out.1 HN.out.2)
    have hpp := pp_bd hpi
    have hpb := isP_bd hpi
    have HC := Lib.hid (cube_nat hpi)
    obtain ⟨C, hC⟩ : ∃ C, C = p.toNat * p.toNat * p.toNat := ⟨_, rfl⟩
    rw [← hC] at HC HF
    have hC2 : (C : Int) ≤ 2197 := by rw [HC.out]; omega
    obtain ⟨a2, ha2⟩ : ∃ a2, a2 = p * p := ⟨_, rfl⟩
    have f1 : IntKind.i64.wrap (p * p) = a2 := by rw [ha2]; exact IntWalk.i64_in _ (by omega)
    have f2 : IntKind.i64.wrap (a2 * p) = (C : Int) := by rw [ha2, HC.out]; exact IntWalk.i64_in _ (by omega)
    rw [hV] at HPV
    have HPI := Lib.hid hpi
    clear hV hpp hC ha2 hpi
    go_wp2_with fail
    refine (HPV.out _ (Below.refl _ _)).mono ?_
    rintro e w4 ⟨rfl, hb⟩
    have HB5 := Lib.hid hb
    clear hb y0 y1 y2 x0 x1 x2
    go_wp2_with fail
    go_loopw [64] (fun i wr => ∃ k : Nat, k ≤ C ∧ i = .int .i64 k ∧ (∀ j, j < k → nzB p L (pnt p.toNat j) = false) ∧ Below W3.heap.size W3 wr) (fun i _ => C - (intOf i).toNat)
    case atStart => exact ⟨0, by omega, rfl, fun j hj => by omega, HB5.out⟩
    case round =>
      obtain ⟨k, hk, rfl, hz, hb⟩ := hrel
      have HZ := Lib.hid hz
      have HB := Lib.hid hb
      clear hz hb
      by_cases hlt : k < C
      · have hltp : (k : Int) < (C : Int) := by omega
        have hk0 : (0 : Int) ≤ (k : Int) := by omega
        have hkp : (k : Int) < p * p * p := by rw [← HC.out]; omega
        have hB : ptB p k = true := by simp only [ptB, HPI.out, Bool.true_and, Bool.and_eq_true, decide_eq_true_eq]; exact ⟨by omega, hkp⟩
        obtain ⟨q, px, py, pz, hq1, he, hpt⟩ := pnt_at HPI.out hkp
        have HPA := Lib.hid (fun w => iPointAt_yes p k q px py pz HPI.out hkp hq1 w)
        obtain ⟨m, hm⟩ : ∃ m, m = evV p px py pz L := ⟨_, rfl⟩
        have HEV := Lib.hid (fun w' (hb : Below W3.heap.size W3 w') => (by rw [hm]; exact iEvalPoly p px py pz f L w' ((HKX.out w' hb).2.2.2.g (by simp)) : Calls Try.prog 46 #[.int .i64 p, f, .agg #[.int .i64 px, .int .i64 py, .int .i64 pz]] w' fun e w'' => e = .returned (.int .i64 m) ∧ Below w'.heap.size w' w''))
        obtain ⟨zb, hzb⟩ : ∃ zb, zb = (m == 0) := ⟨_, rfl⟩
        have hzb2 : (m == 0) = zb := hzb.symm
        have HNZ := Lib.hid (show nzB p L (pnt p.toNat k) = !zb from by rw [hpt, hzb, hm]; rfl)
        obtain ⟨qb, hqb⟩ : ∃ qb, qb = (px == x && py == y && pz == z) := ⟨_, rfl⟩
        have hqq : ∀ w, (Op.equalIn 10000 48 (.agg #[.int .i64 px, .int .i64 py, .int .i64 pz]) (.agg #[.int .i64 x, .int .i64 y, .int .i64 z])).run Try.prog w = .ok qb w := fun w => by rw [hqb]; exact runEqA9 9998 px py pz x y z w
        have HQ := Lib.hid (show qb = true ↔ pnt p.toNat k = (x, y, z) from by
          rw [hpt, hqb]
          simp [and_assoc])
        clear hm hzb hqb hpt he hq1 hB hkp
        go_wp2_with fail
        refine (HPA.out _).mono ?_
        rintro e w6 ⟨rfl, hb6⟩
        have HB6 := Lib.hid (show Below W3.heap.size W3 w6 from HB.out.trans (hb6.mono HB.out.size))
        clear hb6
        go_upto_region 12 with fail
        obtain ⟨W6, hW6⟩ : ∃ W6, W6 = w6.alloc (Obj.cells #[.int .i64 px, .int .i64 py, .int .i64 pz] 48) := ⟨_, rfl⟩
        obtain ⟨Z, hZ⟩ : ∃ Z, Z = w6.heap.size := ⟨_, rfl⟩
        have HB7 := Lib.hid (show Below W3.heap.size W3 W6 from by rw [hW6]; exact HB6.out.alloc HB6.out.size _)
        have p0 : W6.cell? ⟨Z, 0, none⟩ = some (.int .i64 px) := by rw [hW6, hZ]; exact World.cell?_alloc_at _ _ _ 0 rfl
        have p1 : W6.cell? ⟨Z, 1, none⟩ = some (.int .i64 py) := by rw [hW6, hZ]; exact World.cell?_alloc_at _ _ _ 1 rfl
        have p2 : W6.cell? ⟨Z, 2, none⟩ = some (.int .i64 pz) := by rw [hW6, hZ]; exact World.cell?_alloc_at _ _ _ 2 rfl
        have hZs : Z < W6.heap.size := by rw [hW6, hZ]; simp
        rw [← hW6, ← hZ]
        clear hW6 hZ HB6
        go_wp2_with fail
        refine (HEV.out _ HB7.out).mono ?_
        rintro e w8 ⟨rfl, hb8⟩
        have HB8 := Lib.hid (show Below W3.heap.size W3 w8 from HB7.out.trans (hb8.mono HB7.out.size))
        have d0 := (hb8.cell (p := ⟨Z, 0, none⟩) hZs).trans p0
        have d1 := (hb8.cell (p := ⟨Z, 1, none⟩) hZs).trans p1
        have d2 := (hb8.cell (p := ⟨Z, 2, none⟩) hZs).trans p2
        obtain ⟨v0, v1, v2, vk⟩ := HKX.out _ HB8.out
        have HVK := Lib.hid vk.low
        clear hb8 vk p0 p1 p2
        have hs0 : r = false → zb = true := fun e => by
          have := HF.out.no e k hlt
          rw [HNZ.out] at this
          simpa using this
        have hs1 : r = true → qb = true → zb = false := fun e e2 => by
          have := HF.out.yes e
          rw [← HQ.out.1 e2, HNZ.out] at this
          simpa using this
        have hs2 : qb = false → zb = true := fun e => by
          cases hzz : zb
          · exfalso
            have h1 := (HF.out.at_ k hlt HZ.out (by rw [HNZ.out, hzz]; rfl)).2
            rw [HQ.out.2 h1] at e
            cases e
          · rfl
        have HNX := Lib.hid (fun (e : zb = true) => show ∀ j, j < k + 1 → nzB p L (pnt p.toNat j) = false from fun j hj => by
          by_cases ej : j = k
          · rw [ej, HNZ.out, e]; rfl
          · exact HZ.out j (by omega))
        cases r
        · have hzt := hs0 rfl
          subst hzt
          clear hs0 hs1 hs2
          go_wp2_with fail
          go_roundw
          case rel => exact ⟨k + 1, by omega, by go_num, HNX.out trivial, HB8.out⟩
          case measure => simp [intOf]; omega
        · cases qb
          · have hzt := hs2 rfl
            subst hzt
            clear hs0 hs1 hs2
            go_wp2_with fail
            go_roundw
            case rel => exact ⟨k + 1, by omega, by go_num, HNX.out trivial, HB8.out⟩
            case measure => simp [intOf]; omega
          · have hzt := hs1 rfl rfl
            subst hzt
            clear hs0 hs1 hs2
            go_wp2_with fail
            go_ret
            exact ⟨rfl, HVK.out⟩
      · have hkC : k = C := by omega
        subst hkC
        have hnl : ¬ (k : Int) < (k : Int) := by omega
        have hr0 : r = false := HF.out.all HZ.out
        subst hr0
        have HVK := Lib.hid (HKX.out _ HB.out).2.2.2.low
        go_wp2_with fail
        go_ret
        exact ⟨rfl, HVK.out⟩
theorem wFirstNonzero_long (a : Option Addr) (len cap : Nat) (w : World) (hl : 1048576 < len) :
    Calls Try.prog 15 #[.slice a len cap] w fun e w' => e = .returned (.bool true) ∧ Below w.heap.size w w' := by
  have hgt : (len : Int) > 1048576 := by omega
  clear hl
  go_enter Try.func15, Try.ntmps15
  go_wp2_with fail
  go_ret
  exact ⟨rfl, Below.refl _ _⟩
theorem wFirstNonzero (a : Option Addr) (len cap : Nat) (w : World) (h : ByteRow w a len cap) :
    Calls Try.prog 15 #[.slice a len cap] w fun e w' => e = .returned (.bool true) ∧ Below w.heap.size w w' := by
  by_cases q : len ≤ 1048576
  · exact wFirstNonzero_in a len cap w h q
  · exact wFirstNonzero_long a len cap w (by omega)
end Go.Proofs.Ytajabchbdhjdiaa
