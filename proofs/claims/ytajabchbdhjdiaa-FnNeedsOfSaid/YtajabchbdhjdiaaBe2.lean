/-
  The laws' comparison of polynomials, at equal lists. Conditions: what the slices hold is known.
-/
import Derived.Test.YtajabchbdhjdiaaBa21
import Derived.Test.YtajabchbdhjdiaaBa25
namespace Go.Proofs.Ytajabchbdhjdiaa
open Go.RowKit
set_option maxRecDepth 100000 in
set_option maxHeartbeats 4000000 in
theorem acP_some (g1 o1 c1 g2 o2 c2 : Nat) (A : List Trm) (w : World) (hA : A.length ≤ 1048576) (hg1 : g1 < w.heap.size) (hg2 : g2 < w.heap.size)
    (h1 : ∀ j : Nat, j < A.length → TAt w g1 (o1 + j * 4) (A.getD j default)) (h2 : ∀ j : Nat, j < A.length → TAt w g2 (o2 + j * 4) (A.getD j default)) :
    Calls Try.prog 41 #[.slice (some ⟨g1, o1, none⟩) A.length c1, .slice (some ⟨g2, o2, none⟩) A.length c2] w fun e w' => e = .returned (.bool true) ∧ Below w.heap.size w w' := by
  have H1 := Lib.hid h1
  have H2 := Lib.hid h2
  have hle : (A.length : Int) ≤ (A.length : Int) := Int.le_refl _
  clear h1 h2
  go_enter Try.func41, Try.ntmps41
  go_wp2_with fail
  go_loopw [11] (fun i wr => ∃ k : Nat, k ≤ A.length ∧ i = .int .i64 k ∧ Below w.heap.size w wr) (fun i _ => A.length - (intOf i).toNat)
  case atStart => exact ⟨0, by omega, rfl, Below.refl _ _⟩
  case round =>
    obtain ⟨k, hk, rfl, hb⟩ := hrel
    by_cases hlt : k < A.length
    · have hltp : (k : Int) < (A.length : Int) := by omega
      have hk0 : (0 : Int) ≤ (k : Int) := by omega
      obtain ⟨a0, a1, a2, a3⟩ := (H1.out k hlt).below hb hg1
      obtain ⟨b0, b1, b2, b3⟩ := (H2.out k hlt).below hb hg2
      have hq := fun w => runEqT (A.getD k default) (A.getD k default) w
      obtain ⟨x, hx⟩ : ∃ x, x = A.getD k default := ⟨_, rfl⟩
      rw [← hx] at a0 a1 a2 a3 b0 b1 b2 b3 hq
      unfold Trm.v at hq
      rw [decide_eq_true rfl] at hq
      have HB := Lib.hid hb
      clear hx hb
      go_wp2_with fail
      go_quiet (fail)
      go_wp2_with fail
      go_roundw
      case rel => exact ⟨k + 1, by omega, by go_num, below_drewN HB.out _⟩
      case measure => simp [intOf]; omega
    · have hkl : k = A.length := by omega
      have hbe : ((A.length : Int) == (A.length : Int)) = true := by simp
      subst hkl
      go_wp2_with fail
      go_ret
      exact ⟨rfl, hb⟩
theorem acP_nil (a1 a2 : Option Addr) (c1 c2 : Nat) (w : World) :
    Calls Try.prog 41 #[.slice a1 0 c1, .slice a2 0 c2] w fun e w' => e = .returned (.bool true) ∧ Below w.heap.size w w' := by
  go_enter Try.func41, Try.ntmps41
  go_wp2_with fail
  go_loopw [11] (fun i wr => i = .int .i64 0 ∧ Below w.heap.size w wr) (fun _ _ => 0)
  case atStart => exact ⟨rfl, Below.refl _ _⟩
  case round =>
    obtain ⟨rfl, hb⟩ := hrel
    go_wp2_with fail
    go_ret
    exact ⟨rfl, hb⟩
theorem acP (v1 v2 : Value) (A : List Trm) (w : World) (h1 : Trms w v1 A) (h2 : Trms w v2 A) :
    Calls Try.prog 41 #[v1, v2] w fun e w' => e = .returned (.bool true) ∧ Below w.heap.size w w' := by
  obtain ⟨l1, a1, c1, rfl, h1⟩ := h1
  obtain ⟨l2, a2, c2, rfl, h2⟩ := h2
  rcases h1 with rfl | ⟨g1, o1, rfl, hg1, hc1⟩
  · exact acP_nil a1 a2 c1 c2 w
  · rcases h2 with rfl | ⟨g2, o2, rfl, hg2, hc2⟩
    · exact acP_nil _ a2 c1 c2 w
    · exact acP_some g1 o1 c1 g2 o2 c2 A w l1 hg1 hg2 hc1 hc2
/-- polynomials that read behind a world -/
structure PK (w0 : World) (zs : List VT) (wr : World) : Prop where
  low : Below w0.heap.size w0 wr
  rd : ∀ z ∈ zs, Trms wr z.1 z.2
theorem PK.on {w0 wr w' : World} {zs : List VT} (h : PK w0 zs wr) (hb : Below wr.heap.size wr w') : PK w0 zs w' :=
  ⟨h.low.trans (hb.mono h.low.size), fun z hz => (h.rd z hz).below hb⟩
theorem PK.add {w0 wr : World} {zs : List VT} (h : PK w0 zs wr) {v : Value} {L : List Trm} (hv : Trms wr v L) : PK w0 ((v, L) :: zs) wr :=
  ⟨h.low, fun z hz => by
    rcases List.mem_cons.1 hz with rfl | hz
    · exact hv
    · exact h.rd z hz⟩
theorem PK.g {w0 wr : World} {zs : List VT} (h : PK w0 zs wr) {v : Value} {L : List Trm} (hm : (v, L) ∈ zs) : Trms wr v L := h.rd _ hm
end Go.Proofs.Ytajabchbdhjdiaa
