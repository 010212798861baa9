/-
  Contracts of UsedGates, of both. Conditions: what the slice holds is known.
-/
import Derived.Test.YtiahcaihmgnicaaUseI
import Derived.Test.YtiahcaihmgnicaaRowI
namespace Go.Proofs.Ytiahcaihmgnicaa
open Go.RowKit
theorem gats_u {p : Int} {w : World} {v : Value} {L : List Gt} (h : Gats w v L) (hv : circB p L = true) :
    ∃ g off cap, v = .slice (some ⟨g, off, none⟩) L.length cap ∧ g < w.heap.size ∧ ∀ j : Nat, j < L.length → GAt w g (off + j * 3) (L.getD j default) := by
  obtain ⟨_, a, cap, rfl, h2⟩ := h
  rcases h2 with rfl | ⟨g, off, rfl, hg, hc⟩
  · have := (circB_iff.1 hv).2.1; simp at this
  · exact ⟨g, off, cap, rfl, hg, hc⟩
/-- the numbers below k that are used -/
def useTo (U : Nat → Bool) : Nat → List Int
  | 0 => []
  | k + 1 => if U k then useTo U k ++ [(k : Int)] else useTo U k
theorem useTo_len (U : Nat → Bool) : ∀ k, (useTo U k).length ≤ k
  | 0 => Nat.le_refl _
  | k + 1 => by
    unfold useTo
    have := useTo_len U k
    split <;> simp <;> omega
/-- what UsedGates returns -/
def useV (p : Int) (L : List Gt) : List Int := if circB p L then useTo (useF L) 60 else []
set_option maxRecDepth 100000 in
set_option maxHeartbeats 4000000 in
theorem iUsedGates (p : Int) (f : Value) (L : List Gt) (w : World) (h : Gats w f L) :
    Calls Try.prog 91 #[.int .i64 p, f] w fun e w' => ∃ v, e = .returned v ∧ OwnInts w' w.heap.size v (useV p L) ∧ Below w.heap.size w w' := by
  have HG := Lib.hid (h)
  cases hv : circB p L
  · have e1 : useV p L = [] := by simp [useV, hv]
    rw [e1]
    have HV := Lib.hid hv
    obtain ⟨nL, a, cap, rfl, _⟩ := h
    clear hv e1
    go_enter Try.func91, Try.ntmps91
    go_wp2_with fail
    refine (iCircuitValid p _ L _ HG.out).mono ?_
    rintro e w1 ⟨he, hb1⟩
    rw [HV.out] at he
    subst he
    have B1 := hb1
    have R1 := RowI.nil w1 w.heap.size
    clear hb1
    go_wp2_with fail
    go_ret
    exact ⟨_, rfl, R1.own (by simp), B1⟩
  · have e1 : useV p L = useTo (useF L) 60 := by simp [useV, hv]
    rw [e1]
    have HV := Lib.hid hv
    obtain ⟨i0, hi, hz0, hz1, hz2⟩ := info_parts infoInt
    obtain ⟨g, off, cap, rfl, hg, hc⟩ := gats_u h hv
    have HC := Lib.hid hc
    clear e1 hc
    go_enter Try.func91, Try.ntmps91
    go_wp2_with fail
    refine (iCircuitValid p _ L _ HG.out).mono ?_
    rintro e w1 ⟨he, hb1⟩
    rw [HV.out] at he
    subst he
    have B1 := hb1
    have R1 := RowI.nil w1 w.heap.size
    have hg1 : g < w1.heap.size := by have := B1.size; omega
    have HC1 := Lib.hid (fun (j : Nat) (hj : j < L.length) => (HC.out j hj).below B1 hg)
    clear hb1
    go_wp2_with fail
    refine (iUsed_some p L HV.out g off cap w1 hg1 HC1.out).mono ?_
    rintro e w2 ⟨V, rfl, hV, hb2⟩
    have B2 := B1.trans (hb2.mono B1.size)
    have R2 := R1.below hb2
    have HVV := Lib.hid hV
    clear hb2 hV B1 R1 hv
    go_wp2_with fail
    go_loopw [5, 14] (fun v i wr => ∃ k : Nat, k ≤ 60 ∧ i = .int .i64 k ∧ RowI wr w.heap.size v (useTo (useF L) k) ∧ Below w.heap.size w wr) (fun _ i _ => 60 - (intOf i).toNat)
    case atStart => exact ⟨0, by omega, rfl, R2, B2⟩
    case round =>
      clear R2 B2
      obtain ⟨k, hk, rfl, hR, hb⟩ := hrel
      have hlen := useTo_len (useF L) k
      by_cases hlt : k < 60
      · have hk60 : (k : Int) < 60 := by omega
        have hk0 : (0 : Int) ≤ (k : Int) := by omega
        have hs := hb.size
        have HW := Lib.hid hR
        have Hb := Lib.hid hb
        have hix := fun w' => HVV.out.index k hlt w'
        rcases Bool.eq_false_or_eq_true (useF L k) with hu | hu
        · simp only [hu] at hix
          have HE := Lib.hid (show useTo (useF L) (k + 1) = useTo (useF L) k ++ [(k : Int)] by simp [useTo, hu])
          clear hR hb hu
          go_wp2_with (at_builtin; refine wpList_append_own _ rfl _ _ 99 rfl (w.heap.size) 3 i0 (.int .i64 0) 1 8 Try.underlying99 hi hz0 hz1 hz2 rfl (by decide) _ _ _ rfl (RowI.below HW.out (by repeat (first | exact Below.refl _ _ | apply Below.drew | apply below_drewN | (refine Below.alloc ?_ (by first | omega | (simp <;> omega)) _)))) _ 1 1 [.int .i64 ((k : Int))] rfl rfl (by intro j u hj; match j, hj with | 0, hj => (simp at hj; subst hj; simp [Addr.add, go_sem])) (one_ok _) (by unfold maxLen; omega) (by omega) (by first | omega | (simp; omega)) ?_)
          intro v' w3 hown' hgrow _
          have hR2 := RowI.snoc hown'
          have hb2 := HW.out.grow Hb.out hs (by repeat (first | exact Below.refl _ _ | apply Below.drew | apply below_drewN | (refine Below.alloc ?_ (by first | omega | (simp <;> omega)) _))) hgrow
          rw [← HE.out] at hR2
          clear hown' hgrow hix
          go_wp2_with fail
          go_roundw
          case rel => exact ⟨k + 1, by omega, by go_num, hR2, hb2⟩
          case measure => simp [intOf]; omega
        · simp only [hu] at hix
          have HE := Lib.hid (show useTo (useF L) (k + 1) = useTo (useF L) k by simp [useTo, hu])
          clear hR hb hu
          go_wp2_with fail
          go_roundw
          case rel => exact ⟨k + 1, by omega, by go_num, by rw [HE.out]; exact HW.out, Hb.out⟩
          case measure => simp [intOf]; omega
      · have hkl : k = 60 := by omega
        subst hkl
        go_wp2_with fail
        go_ret
        exact ⟨_, rfl, hR.own (by omega), hb⟩
end Go.Proofs.Ytiahcaihmgnicaa
