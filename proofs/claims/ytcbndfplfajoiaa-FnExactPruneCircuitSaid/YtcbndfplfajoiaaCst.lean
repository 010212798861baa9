/-
  Contracts of CostOf, of both. Conditions: what the slice holds is known.
-/
import Derived.Test.YtcbndfplfajoiaaUgt
namespace Go.Proofs.Ytcbndfplfajoiaa
open Go.RowKit
/-- how many of the used gates below k are of a kind -/
def cst (L : List Gt) (U : Nat → Bool) (kd : Int) : Nat → Int
  | 0 => 0
  | k + 1 => cst L U kd k + if U k && (gAt L k).k == kd then 1 else 0
theorem cst_bd (L : List Gt) (U : Nat → Bool) (kd : Int) : ∀ k : Nat, 0 ≤ cst L U kd k ∧ cst L U kd k ≤ k
  | 0 => by simp [cst]
  | k + 1 => by
    have := cst_bd L U kd k
    unfold cst
    split <;> omega
def csum (L : List Gt) (kd : Int) (l : List Int) : Int := l.foldl (fun s j => s + if (gAt L j.toNat).k == kd then 1 else 0) 0
theorem csum_snoc (L : List Gt) (kd : Int) (l : List Int) (x : Int) : csum L kd (l ++ [x]) = csum L kd l + if (gAt L x.toNat).k == kd then 1 else 0 := by simp [csum]
theorem csum_use (L : List Gt) (U : Nat → Bool) (kd : Int) : ∀ k : Nat, csum L kd (useTo U k) = cst L U kd k
  | 0 => rfl
  | k + 1 => by
    unfold useTo cst
    cases hu : U k
    · simp [csum_use L U kd k]
    · rw [if_pos rfl, csum_snoc, csum_use L U kd k]
      simp
theorem csum_bd (L : List Gt) (kd : Int) (l : List Int) : ∀ t : Nat, 0 ≤ csum L kd (l.take t) ∧ csum L kd (l.take t) ≤ t
  | 0 => by simp [csum]
  | t + 1 => by
    have ih := csum_bd L kd l t
    by_cases h : t < l.length
    · rw [List.take_succ_eq_append_getElem h, csum_snoc]
      split <;> omega
    · rw [List.take_of_length_le (by omega)]
      rw [List.take_of_length_le (by omega)] at ih
      omega
/-- only gates of the circuit are used -/
theorem useM_lt {p : Int} {L : List Gt} (hv : circB p L = true) : ∀ (m j : Nat), useM L m j = true → j < L.length
  | 0, j, h => by simp [useM] at h; omega
  | m + 1, j, h => by
    obtain ⟨_, hl1, _, hall⟩ := circB_iff.1 hv
    have ih := useM_lt hv m
    unfold useM useStep at h
    split at h
    · rename_i hc
      simp only [Bool.and_eq_true] at hc
      have hil : L.length - 1 - m < L.length := by omega
      have hg := gOK_cases (hall _ hil)
      have hj := hc.2
      simp only [joinsB, Bool.or_eq_true, beq_iff_eq] at hj
      simp only [Bool.or_eq_true, beq_iff_eq] at h
      rcases h with (h | h) | h
      · exact ih j h
      · omega
      · omega
    · exact ih j h
theorem useF_out {p : Int} {L : List Gt} (hv : circB p L = true) {j : Nat} (h : L.length ≤ j) : useF L j = false := by
  cases hu : useF L j
  · rfl
  · have := useM_lt hv _ j hu; omega
theorem cst_all {p : Int} {L : List Gt} (hv : circB p L = true) (kd : Int) : ∀ d : Nat, cst L (useF L) kd (L.length + d) = cst L (useF L) kd L.length
  | 0 => rfl
  | d + 1 => by
    rw [← Nat.add_assoc, cst, useF_out hv (by omega), cst_all hv kd d]
    simp
theorem useTo_mem (U : Nat → Bool) : ∀ (k : Nat) (x : Int), x ∈ useTo U k → ∃ j : Nat, x = j ∧ U j = true
  | 0, x, h => by simp [useTo] at h
  | k + 1, x, h => by
    unfold useTo at h
    split at h
    · rename_i hu
      rcases List.mem_append.1 h with h | h
      · exact useTo_mem U k x h
      · simp at h; exact ⟨k, h, hu⟩
    · exact useTo_mem U k x h
/-- what CostOf returns -/
def costV (p : Int) (L : List Gt) (kd : Int) : Int := if circB p L then cst L (useF L) kd L.length else -1
theorem arrB_cells {w : World} {g : Nat} {U0 : Nat → Bool} (h : ArrB w g U0) (U : Nat → Bool) : ArrB (w.setCells g 0 (useC U)) g U := by
  have hT : w.there g 0 (useC U).length := by rw [useC_len]; exact h.there
  refine ⟨by
    have := (below_setCells (B := 0) g (useC U) 0 w ⟨rfl, rfl, rfl, Nat.le_refl _, fun _ hk => by omega⟩ (Nat.zero_le _)).size
    exact Nat.lt_of_lt_of_le h.1 this, fun j hj => ⟨?_, ?_⟩⟩
  · have := World.rangeAt_setCells_same w g 0 (useC U) hT j _ (useC_at U j hj)
    rw [Nat.zero_add] at this; exact this
  · rw [World.frozen?_setCells]; exact (h.2 j hj).2
set_option maxRecDepth 100000 in
set_option maxHeartbeats 4000000 in
theorem sCostOf (p : Int) (f : Value) (L : List Gt) (w : World) (h : Gats w f L) :
    Calls Try.prog 59 #[.int .i64 p, f] w fun e w' => e = .returned (.tuple #[.int .i64 (costV p L 2), .int .i64 (costV p L 3)]) ∧ Below w.heap.size w w' := by
  have HG := Lib.hid h
  cases hv : circB p L
  · have e1 : costV p L 2 = -1 := by simp [costV, hv]
    have e2 : costV p L 3 = -1 := by simp [costV, hv]
    rw [e1, e2]
    have HV := Lib.hid hv
    obtain ⟨nL, a, cap, rfl, _⟩ := h
    clear hv e1 e2
    go_enter Try.func59, Try.ntmps59
    go_wp2_with fail
    refine (sCircuitValid p _ L _ HG.out).mono ?_
    rintro e w1 ⟨he, hb1⟩
    rw [HV.out] at he
    subst he
    have B1 := Lib.hid hb1
    clear hb1
    go_wp2_with fail
    refine bodyPost_ret (v := .tuple #[.int .i64 (-1), .int .i64 (-1)]) (by simp [results, Try.results59, go_sem]) rfl ⟨rfl, B1.out⟩
  · have e1 : costV p L 2 = cst L (useF L) 2 L.length := by simp [costV, hv]
    have e2 : costV p L 3 = cst L (useF L) 3 L.length := by simp [costV, hv]
    rw [e1, e2]
    have HV := Lib.hid hv
    obtain ⟨hp, hl1, hl2, hall⟩ := circB_iff.1 hv
    obtain ⟨g, off, cap, rfl, hg, hc⟩ := gats_u h hv
    have HC := Lib.hid hc
    clear e1 e2 hc hall hp hv
    go_enter Try.func59, Try.ntmps59
    go_wp2_with fail
    refine (sCircuitValid p _ L _ HG.out).mono ?_
    rintro e w1 ⟨he, hb1⟩
    rw [HV.out] at he
    subst he
    have hg1 : g < w1.heap.size := by have := hb1.size; omega
    have HC1 := Lib.hid (fun (j : Nat) (hj : j < L.length) => (HC.out j hj).below hb1 hg)
    have B1 := Lib.hid hb1
    clear hb1
    go_wp2_with fail
    refine (sUsed_some p L HV.out g off cap w1 hg1 HC1.out).mono ?_
    rintro e w2 ⟨V, rfl, hV, hb2⟩
    have B2 := B1.out.trans (hb2.mono B1.out.size)
    have hs2 := B2.size
    have HV2 := Lib.hid (show V = .agg (useC (useF L)).toArray from hV)
    have A0 := ArrB.new w2 101
    have hlen := useC_len (useF L)
    have h1 := all_oneCell_toArray (useC_one (useF L))
    have hT2 : (w2.alloc (.cells (Array.replicate 60 (.bool false)) 101)).there w2.heap.size 0 (useC (useF L)).toArray.size := by simp only [List.size_toArray, hlen]; exact A0.there
    have hI2 : (Try.prog.info? 101).map (·.size) = some (useC (useF L)).toArray.size := by simp only [List.size_toArray, hlen]; exact infoB
    have A2 := arrB_cells A0 (useF L)
    have B3 : Below w.heap.size w ((w2.alloc (.cells (Array.replicate 60 (.bool false)) 101)).setCells w2.heap.size 0 (useC (useF L))) := below_setCells _ _ _ _ (Below.alloc B2 hs2 _) hs2
    clear hb2 hV B2
    go_wp2_with (refine wpList_store_mid rfl 101 _ _ rfl w2.heap.size 0 (useC (useF L)).toArray rfl HV2.out hT2 hI2 h1 ?_)
    obtain ⟨UB, hUB⟩ : ∃ g, g = w2.heap.size := ⟨_, rfl⟩
    have hwU : w.heap.size ≤ UB := by omega
    have A3 := A2
    rw [← hUB]
    clear A0 hT2 hI2 h1 A2 hs2
    rw [← hUB] at A3 B3
    go_loopw [6, 7, 19] (fun s t i wr => ∃ k : Nat, k ≤ L.length ∧ i = .int .i64 k ∧ s = .int .i64 (cst L (useF L) 2 k) ∧ t = .int .i64 (cst L (useF L) 3 k) ∧ ArrB wr UB (useF L) ∧ Below w.heap.size w wr) (fun _ _ i _ => L.length - (intOf i).toNat)
    case atStart => exact ⟨0, by omega, rfl, rfl, rfl, A3, B3⟩
    case round =>
      clear A3 B3 hUB
      obtain ⟨k, hk, rfl, rfl, rfl, hA, hb⟩ := hrel
      by_cases hlt : k < L.length
      · have hltp : (k : Int) < (L.length : Int) := by omega
        have hk0 : (0 : Int) ≤ (k : Int) := by omega
        have hk60 : (k : Int) < 60 := by omega
        have hs := hb.size
        obtain ⟨a0, a1, a2⟩ := (HC.out k hlt).below hb hg
        obtain ⟨x, hx⟩ : ∃ x, x = L.getD k default := ⟨_, rfl⟩
        rw [← hx] at a0 a1 a2
        have HX := Lib.hid (gat_mk hx).symm
        obtain ⟨q0, _⟩ := hA.2 k (by omega)
        have hUs := hA.1
        have bd2 := cst_bd L (useF L) 2 k
        have bd3 := cst_bd L (useF L) 3 k
        obtain ⟨c2, hc2⟩ : ∃ c, c = cst L (useF L) 2 k := ⟨_, rfl⟩
        obtain ⟨c3, hc3⟩ : ∃ c, c = cst L (useF L) 3 k := ⟨_, rfl⟩
        rw [← hc2] at bd2
        rw [← hc3] at bd3
        have HC2 := Lib.hid hc2
        have HC3 := Lib.hid hc3
        have w1' : IntKind.i64.wrap (c2 + 1) = c2 + 1 := IntWalk.i64_in _ (by omega)
        have w2' : IntKind.i64.wrap (c3 + 1) = c3 + 1 := IntWalk.i64_in _ (by omega)
        obtain ⟨xk, xa, xb⟩ := x
        simp only at a0 a1 a2 HX
        have b1 : Below wr.heap.size wr (wr.alloc (Obj.cells #[.int .i64 xk, .int .i64 xa, .int .i64 xb] 94)) := Below.alloc (Below.refl _ _) (Nat.le_refl _) _
        have hA2 := hA.below b1 hA.1
        have hb2 := hb.trans (b1.mono hs)
        rw [← hc2, ← hc3]
        clear hx hA hb b1 hc2 hc3
        rcases Bool.eq_false_or_eq_true (useF L k) with hu | hu
        · rw [hu] at q0
          by_cases h2 : xk = 2
          · subst h2
            have E2 := Lib.hid (show cst L (useF L) 2 (k + 1) = c2 + 1 by rw [cst, hu, HX.out, HC2.out]; simp)
            have E3 := Lib.hid (show cst L (useF L) 3 (k + 1) = c3 by rw [cst, hu, HX.out, HC3.out]; simp)
            clear hu
            go_wp2_with fail
            go_roundw
            case rel => exact ⟨k + 1, by omega, by go_num, by rw [E2.out], by rw [E3.out], hA2, hb2⟩
            case measure => simp [intOf]; omega
          · by_cases h3 : xk = 3
            · subst h3
              have E2 := Lib.hid (show cst L (useF L) 2 (k + 1) = c2 by rw [cst, hu, HX.out, HC2.out]; simp)
              have E3 := Lib.hid (show cst L (useF L) 3 (k + 1) = c3 + 1 by rw [cst, hu, HX.out, HC3.out]; simp)
              clear hu h2
              go_wp2_with fail
              go_roundw
              case rel => exact ⟨k + 1, by omega, by go_num, by rw [E2.out], by rw [E3.out], hA2, hb2⟩
              case measure => simp [intOf]; omega
            · have n2 : (xk == 2) = false := by simpa using h2
              have n3 : (xk == 3) = false := by simpa using h3
              have E2 := Lib.hid (show cst L (useF L) 2 (k + 1) = c2 by rw [cst, hu, HX.out, HC2.out]; simp [n2])
              have E3 := Lib.hid (show cst L (useF L) 3 (k + 1) = c3 by rw [cst, hu, HX.out, HC3.out]; simp [n3])
              clear hu h2 h3
              go_wp2_with fail
              go_roundw
              case rel => exact ⟨k + 1, by omega, by go_num, by rw [E2.out], by rw [E3.out], hA2, hb2⟩
              case measure => simp [intOf]; omega
        · rw [hu] at q0
          have E2 := Lib.hid (show cst L (useF L) 2 (k + 1) = c2 by rw [cst, hu, HC2.out]; simp)
          have E3 := Lib.hid (show cst L (useF L) 3 (k + 1) = c3 by rw [cst, hu, HC3.out]; simp)
          clear hu
          go_wp2_with fail
          go_roundw
          case rel => exact ⟨k + 1, by omega, by go_num, by rw [E2.out], by rw [E3.out], hA2, hb2⟩
          case measure => simp [intOf]; omega
      · have hkl : k = L.length := by omega
        subst hkl
        go_wp2_with fail
        refine bodyPost_ret (v := .tuple #[.int .i64 (cst L (useF L) 2 L.length), .int .i64 (cst L (useF L) 3 L.length)]) (by simp [results, Try.results59, go_sem]) rfl ⟨rfl, hb⟩
end Go.Proofs.Ytcbndfplfajoiaa
