/-
  Contract of the program's CostOf. Conditions: what the slice holds is known.
-/
import Derived.Test.YtgbjchidnnmifaaCst
namespace Go.Proofs.Ytgbjchidnnmifaa
open Go.RowKit
theorem take_snocZ {l : List Int} {k : Nat} (h : k < l.length) : l.take (k + 1) = l.take k ++ [l.getD k 0] := by
  rw [List.take_succ_eq_append_getElem h]
  simp [List.getD_eq_getElem?_getD, h]
theorem getD_mem {l : List Int} {k : Nat} (h : k < l.length) : l.getD k 0 ∈ l := by
  rw [List.getD_eq_getElem?_getD, List.getElem?_eq_getElem h]
  exact List.getElem_mem h
set_option maxRecDepth 100000 in
set_option maxHeartbeats 4000000 in
theorem iCostOf (p : Int) (f : Value) (L : List Gt) (w : World) (h : Gats w f L) :
    Calls Try.prog 17 #[.int .i64 p, f] w fun e w' => e = .returned (.tuple #[.int .i64 (costV p L 2), .int .i64 (costV p L 3)]) ∧ Below w.heap.size w w' := by
  have HG := Lib.hid h
  cases hv : circB p L
  · have e1 : costV p L 2 = -1 := by simp [costV, hv]
    have e2 : costV p L 3 = -1 := by simp [costV, hv]
    rw [e1, e2]
    have HV := Lib.hid hv
    obtain ⟨nL, a, cap, rfl, _⟩ := h
    clear hv e1 e2
    go_enter Try.func17, Try.ntmps17
    go_wp2_with fail
    refine (iCircuitValid p _ L _ HG.out).mono ?_
    rintro e w1 ⟨he, hb1⟩
    rw [HV.out] at he
    subst he
    have B1 := Lib.hid hb1
    clear hb1
    go_wp2_with fail
    refine bodyPost_ret (v := .tuple #[.int .i64 (-1), .int .i64 (-1)]) (by simp [results, Try.results17, go_sem]) rfl ⟨rfl, B1.out⟩
  · have e1 : costV p L 2 = cst L (useF L) 2 60 := by
      obtain ⟨_, _, hl2, _⟩ := circB_iff.1 hv
      have := cst_all hv 2 (60 - L.length)
      rw [show L.length + (60 - L.length) = 60 by omega] at this
      simp [costV, hv, this]
    have e2 : costV p L 3 = cst L (useF L) 3 60 := by
      obtain ⟨_, _, hl2, _⟩ := circB_iff.1 hv
      have := cst_all hv 3 (60 - L.length)
      rw [show L.length + (60 - L.length) = 60 by omega] at this
      simp [costV, hv, this]
    have eU : useV p L = useTo (useF L) 60 := by simp [useV, hv]
    rw [e1, e2, ← csum_use, ← csum_use]
    have HV := Lib.hid hv
    obtain ⟨hp, hl1, hl2, hall⟩ := circB_iff.1 hv
    have HM := Lib.hid (show ∀ x ∈ useTo (useF L) 60, ∃ j : Nat, x = j ∧ j < L.length from fun x hx => by
      obtain ⟨j, e, hu⟩ := useTo_mem _ _ _ hx
      exact ⟨j, e, useM_lt hv _ j hu⟩)
    obtain ⟨g, off, cap, rfl, hg, hc⟩ := gats_u h hv
    have HC := Lib.hid hc
    have HEU := Lib.hid eU
    have hll := useTo_len (useF L) 60
    obtain ⟨l, hl⟩ : ∃ l, useTo (useF L) 60 = l := ⟨_, rfl⟩
    rw [hl] at HM HEU hll ⊢
    clear e1 e2 hc hall hp hv eU hl
    go_enter Try.func17, Try.ntmps17
    go_wp2_with fail
    refine (iCircuitValid p _ L _ HG.out).mono ?_
    rintro e w1 ⟨he, hb1⟩
    rw [HV.out] at he
    subst he
    have HG1 := Lib.hid (Gats.below HG.out hb1)
    have B1 := Lib.hid hb1
    clear hb1
    go_wp2_with fail
    refine (iUsedGates p _ L _ HG1.out).mono ?_
    rintro e w2 ⟨v, rfl, hO, hb2⟩
    rw [HEU.out] at hO
    obtain ⟨_, al, cl, rfl, hO⟩ := hO
    have B2 := B1.out.trans (hb2.mono B1.out.size)
    have HO := Lib.hid hO
    have HB2 := Lib.hid B2
    clear hb2 hO B2
    go_wp2_with fail
    go_loopw [6, 7, 18] (fun s t i wr => ∃ k : Nat, k ≤ l.length ∧ i = .int .i64 k ∧ s = .int .i64 (csum L 2 (l.take k)) ∧ t = .int .i64 (csum L 3 (l.take k)) ∧ wr = w2) (fun _ _ i _ => l.length - (intOf i).toNat)
    case atStart => exact ⟨0, by omega, rfl, rfl, rfl, rfl⟩
    case round =>
      obtain ⟨k, hk, rfl, rfl, rfl, rfl⟩ := hrel
      by_cases hlt : k < l.length
      · have hltp : (k : Int) < (l.length : Int) := by omega
        have hk0 : (0 : Int) ≤ (k : Int) := by omega
        rcases HO.out with h0 | ⟨g2, o2, rfl, _, hg2, hcl, _⟩
        · rw [h0] at hlt; simp at hlt
        have q0 := hcl k hlt
        obtain ⟨j, hj, hjl⟩ := HM.out _ (getD_mem hlt)
        rw [hj] at q0
        have hjp : (j : Int) < (L.length : Int) := by omega
        have hj0 : (0 : Int) ≤ j := by omega
        have HT := Lib.hid (take_snocZ hlt)
        rw [hj] at HT
        obtain ⟨a0, a1, a2⟩ := (HC.out j hjl).below HB2.out hg
        obtain ⟨x, hx⟩ : ∃ x, x = L.getD j default := ⟨_, rfl⟩
        rw [← hx] at a0 a1 a2
        have HX := Lib.hid (gat_mk hx).symm
        have bd2 := csum_bd L 2 l k
        have bd3 := csum_bd L 3 l k
        obtain ⟨c2, hc2⟩ : ∃ c, c = csum L 2 (l.take k) := ⟨_, rfl⟩
        obtain ⟨c3, hc3⟩ : ∃ c, c = csum L 3 (l.take k) := ⟨_, rfl⟩
        rw [← hc2] at bd2
        rw [← hc3] at bd3
        have HC2 := Lib.hid hc2
        have HC3 := Lib.hid hc3
        have w1' : IntKind.i64.wrap (c2 + 1) = c2 + 1 := IntWalk.i64_in _ (by omega)
        have w2' : IntKind.i64.wrap (c3 + 1) = c3 + 1 := IntWalk.i64_in _ (by omega)
        obtain ⟨xk, xa, xb⟩ := x
        simp only at a0 a1 a2 HX
        rw [← hc2, ← hc3]
        clear hx hc2 hc3 hj hcl
        by_cases h2 : xk = 2
        · subst h2
          have E2 := Lib.hid (show csum L 2 (l.take (k + 1)) = c2 + 1 by rw [HT.out, csum_snoc, Int.toNat_natCast, HX.out, HC2.out]; simp)
          have E3 := Lib.hid (show csum L 3 (l.take (k + 1)) = c3 by rw [HT.out, csum_snoc, Int.toNat_natCast, HX.out, HC3.out]; simp)
          go_wp2_with fail
          go_roundw
          case rel => exact ⟨k + 1, by omega, by go_num, by rw [E2.out], by rw [E3.out], trivial⟩
          case measure => simp [intOf]; omega
        · by_cases h3 : xk = 3
          · subst h3
            have E2 := Lib.hid (show csum L 2 (l.take (k + 1)) = c2 by rw [HT.out, csum_snoc, Int.toNat_natCast, HX.out, HC2.out]; simp)
            have E3 := Lib.hid (show csum L 3 (l.take (k + 1)) = c3 + 1 by rw [HT.out, csum_snoc, Int.toNat_natCast, HX.out, HC3.out]; simp)
            clear h2
            go_wp2_with fail
            go_roundw
            case rel => exact ⟨k + 1, by omega, by go_num, by rw [E2.out], by rw [E3.out], trivial⟩
            case measure => simp [intOf]; omega
          · have n2 : (xk == 2) = false := by simpa using h2
            have n3 : (xk == 3) = false := by simpa using h3
            have E2 := Lib.hid (show csum L 2 (l.take (k + 1)) = c2 by rw [HT.out, csum_snoc, Int.toNat_natCast, HX.out, HC2.out]; simp [n2])
            have E3 := Lib.hid (show csum L 3 (l.take (k + 1)) = c3 by rw [HT.out, csum_snoc, Int.toNat_natCast, HX.out, HC3.out]; simp [n3])
            clear h2 h3
            go_wp2_with fail
            go_roundw
            case rel => exact ⟨k + 1, by omega, by go_num, by rw [E2.out], by rw [E3.out], trivial⟩
            case measure => simp [intOf]; omega
      · have hkl : k = l.length := by omega
        subst hkl
        rw [List.take_length]
        go_wp2_with fail
        refine bodyPost_ret (v := .tuple #[.int .i64 (csum L 2 l), .int .i64 (csum L 3 l)]) (by simp [results, Try.results17, go_sem]) rfl ⟨rfl, HB2.out⟩
end Go.Proofs.Ytgbjchidnnmifaa
