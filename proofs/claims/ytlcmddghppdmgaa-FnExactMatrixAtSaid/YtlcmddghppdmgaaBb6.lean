/-
  OnesMatrix, of both. Conditions: none.
-/
import Derived.Test.YtlcmddghppdmgaaBb3
import Derived.Test.YtlcmddghppdmgaaBb2
import Derived.Test.YtlcmddghppdmgaaBb1
import Derived.Shelf.Abstract
namespace Go.Proofs.Ytlcmddghppdmgaa
set_option linter.unusedVariables false
open Go.RowKit Go.Shelf
def onesE (i k : Nat) : Int := if i = k then 1 else 0
def onesB (p n : Int) : Bool := isP p && (decide (1 ≤ n) && decide (n ≤ 4))
def onesV (p n : Int) : List (List Int) := if onesB p n = true then matF n.toNat onesE n.toNat else []
theorem iOnes1 (i k : Nat) (W : World) : Calls Try.prog 148 #[.int .i64 i, .int .i64 k] W fun e w' => e = .returned (.int .i64 (onesE i k)) ∧ Below W.heap.size W w' := by
  by_cases h : i = k
  · subst h
    have hb : ((i : Int) == (i : Int)) = true := by simp
    go_enter Try.func148, Try.ntmps148
    go_wp2
    go_ret
    exact ⟨ret_int' (by simp [onesE]), Below.refl _ _⟩
  · have hb : ((i : Int) == (k : Int)) = false := by simp; omega
    go_enter Try.func148, Try.ntmps148
    go_wp2
    go_ret
    exact ⟨ret_int' (by simp [onesE, h]), Below.refl _ _⟩
theorem enOnes (args : Array Value) (w : World) : (callFunc 148 args).run Try.prog w = .ok (.enter 148 args) w := enters_of Try.func148 (by kernel_rfl) rfl args w
set_option maxRecDepth 100000 in
set_option maxHeartbeats 4000000 in
theorem iOnes (p n : Int) (w : World) :
    Calls Try.prog 68 #[.int .i64 p, .int .i64 n] w fun e w' => ∃ u, e = .returned (.tuple #[u, .bool (onesB p n)]) ∧ OwnMat w' w.heap.size u (onesV p n) ∧ Below w.heap.size w w' := by
  cases hp : isP p
  · have HV := Lib.hid (show onesB p n = false ∧ onesV p n = [] by simp [onesV, onesB, hp])
    have HP := Lib.hid hp
    clear hp
    go_enter Try.func68, Try.ntmps68
    go_wp2_with (go_at_call 81; refine (iPV_no _ _ HP.out).mono ?_; rintro e w' ⟨rfl, rfl⟩)
    rw [HV.out.1, HV.out.2]
    refine bodyPost_ret (v := .tuple #[.slice none 0 0, .bool false]) (by simp [results, Try.results68, go_sem]) rfl ⟨_, rfl, OwnMat.nil _ _ _ _, Below.refl _ _⟩
  · have HP := Lib.hid hp
    by_cases hn : 1 ≤ n ∧ n ≤ 4
    · obtain ⟨hn1, hn2⟩ := hn
      obtain ⟨m, rfl⟩ := Int.eq_ofNat_of_zero_le (show 0 ≤ n by omega)
      have HV := Lib.hid (show onesB p (m : Int) = true ∧ onesV p (m : Int) = matF m onesE m by
        have : onesB p (m : Int) = true := by simp [onesB, hp]; omega
        exact ⟨this, by simp [onesV, this]⟩)
      have HN := Lib.hid (fun w => iNew m m (by omega) (by omega) (by omega) (by omega) onesE 148 #[] w enOnes (fun W _ i k _ _ => iOnes1 i k W))
      have h1 : ¬ (m : Int) < 1 := by omega
      have h2 : ¬ (m : Int) > 4 := by omega
      clear hp
      go_enter Try.func68, Try.ntmps68
      go_wp2_with (first | (go_at_call 81; refine (iPV_yes _ _ HP.out).mono ?_; rintro e w' ⟨rfl, rfl⟩))
      refine (HN.out _).mono ?_
      rintro e w1 ⟨u, rfl, ho, hb⟩
      have HF := Lib.hid (And.intro ho hb)
      clear ho hb
      go_wp2_with fail
      rw [HV.out.1, HV.out.2]
      refine bodyPost_ret (v := .tuple #[u, .bool true]) (by simp [results, Try.results68, go_sem]) rfl ⟨_, rfl, HF.out⟩
    · have HV := Lib.hid (show onesB p n = false ∧ onesV p n = [] by
        have : onesB p n = false := by simp [onesB, hp]; omega
        exact ⟨this, by simp [onesV, this]⟩)
      clear hp
      by_cases h1 : n < 1
      · go_enter Try.func68, Try.ntmps68
        go_wp2_with (go_at_call 81; refine (iPV_yes _ _ HP.out).mono ?_; rintro e w' ⟨rfl, rfl⟩)
        rw [HV.out.1, HV.out.2]
        refine bodyPost_ret (v := .tuple #[.slice none 0 0, .bool false]) (by simp [results, Try.results68, go_sem]) rfl ⟨_, rfl, OwnMat.nil _ _ _ _, Below.refl _ _⟩
      · have h2 : n > 4 := by omega
        go_enter Try.func68, Try.ntmps68
        go_wp2_with (go_at_call 81; refine (iPV_yes _ _ HP.out).mono ?_; rintro e w' ⟨rfl, rfl⟩)
        rw [HV.out.1, HV.out.2]
        refine bodyPost_ret (v := .tuple #[.slice none 0 0, .bool false]) (by simp [results, Try.results68, go_sem]) rfl ⟨_, rfl, OwnMat.nil _ _ _ _, Below.refl _ _⟩
theorem wrapOwn {v : Value} {M : List (List Int)} {w w1 : World} (_ : OwnMat w1 w.heap.size v M) (hb : Below w.heap.size w w1) {w2 : World} {u : Value} (h2 : OwnMat w2 w1.heap.size u M) (hb2 : Below w1.heap.size w1 w2) : OwnMat w2 w.heap.size u M ∧ Below w.heap.size w w2 :=
  ⟨h2.base hb.size, hb.trans (hb2.mono hb.size)⟩
set_option maxRecDepth 100000 in
set_option maxHeartbeats 4000000 in
theorem sRawOnes (p n : Int) (w : World) :
    Calls Try.prog 149 #[.int .i64 p, .int .i64 n] w fun e w' => ∃ u, e = .returned (.tuple #[u, .bool (onesB p n)]) ∧ OwnMat w' w.heap.size u (onesV p n) ∧ Below w.heap.size w w' := by
  cases hp : isP p
  · have HV := Lib.hid (show onesB p n = false ∧ onesV p n = [] by simp [onesV, onesB, hp])
    have HP := Lib.hid hp
    clear hp
    go_enter Try.func149, Try.ntmps149
    go_wp2_with (go_at_call 77; refine (sPV_no _ _ HP.out).mono ?_; rintro e w' ⟨rfl, rfl⟩)
    rw [HV.out.1, HV.out.2]
    refine bodyPost_ret (v := .tuple #[.slice (some ⟨w.heap.size, 0, none⟩) 0 0, .bool false]) (by simp [results, Try.results149, go_sem]) rfl ⟨_, rfl, OwnMat.nil _ _ _ _, Below.alloc (Below.refl _ _) (Nat.le_refl _) _⟩
  · have HP := Lib.hid hp
    cases hin : (decide (1 ≤ n) && decide (n ≤ 4))
    · have HV := Lib.hid (show onesB p n = false ∧ onesV p n = [] by
        have : onesB p n = false := by simp only [onesB, hp, hin]; rfl
        exact ⟨this, by simp [onesV, this]⟩)
      have HI := Lib.hid hin
      clear hp hin
      go_enter Try.func149, Try.ntmps149
      go_wp2_with (first | (go_at_call 77; refine (sPV_yes _ _ HP.out).mono ?_; rintro e w' ⟨rfl, rfl⟩) | (go_at_call 78; refine (sIn _ _ _ _).mono ?_; rw [HI.out]; rintro e w' ⟨rfl, rfl⟩))
      rw [HV.out.1, HV.out.2]
      refine bodyPost_ret (v := .tuple #[.slice (some ⟨w.heap.size, 0, none⟩) 0 0, .bool false]) (by simp [results, Try.results149, go_sem]) rfl ⟨_, rfl, OwnMat.nil _ _ _ _, Below.alloc (Below.refl _ _) (Nat.le_refl _) _⟩
    · have hn : 1 ≤ n ∧ n ≤ 4 := by simpa using hin
      obtain ⟨hn1, hn2⟩ := hn
      obtain ⟨m, rfl⟩ := Int.eq_ofNat_of_zero_le (show 0 ≤ n by omega)
      have HV := Lib.hid (show onesB p (m : Int) = true ∧ onesV p (m : Int) = matF m onesE m by
        have : onesB p (m : Int) = true := by simp only [onesB, hp, hin]; rfl
        exact ⟨this, by simp [onesV, this]⟩)
      have HI := Lib.hid hin
      have HN := Lib.hid (fun w => sNew m m (by omega) (by omega) w)
      have hm1 : 1 ≤ m := by omega
      have hm4 : m ≤ 4 := by omega
      clear hp hin hn1 hn2
      go_enter Try.func149, Try.ntmps149
      go_wp2_with (first | (go_at_call 77; refine (sPV_yes _ _ HP.out).mono ?_; rintro e w' ⟨rfl, rfl⟩) | (go_at_call 78; refine (sIn _ _ _ _).mono ?_; rw [HI.out]; rintro e w' ⟨rfl, rfl⟩))
      refine (HN.out _).mono ?_
      rintro e w1 ⟨u, V, H, rfl, hR, hb⟩
      rw [zeroM_F] at hR
      obtain ⟨g, cap, rfl, hm⟩ := hR.formF hm1
      have HS := Lib.hid (show OMat w1 w.heap.size g 0 H (fun _ => 0) (matF m (fun a b => if a < 0 ∧ a = b then 1 else 0) m) ∧ Below w.heap.size w w1 from ⟨by rw [matF_ext (F := fun _ _ => 0) (fun i k _ _ => by simp)]; exact hm, hb⟩)
      clear hR hm hb
      go_wp2_with fail
      go_loopw [23] (fun i wr => ∃ k : Nat, k ≤ m ∧ i = .int .i64 k ∧ OMat wr w.heap.size g 0 H (fun _ => 0) (matF m (fun a b => if a < k ∧ a = b then 1 else 0) m) ∧ Below w.heap.size w wr) (fun i _ => m - (intOf i).toNat)
      case atStart => exact ⟨0, by omega, rfl, HS.out⟩
      case round =>
        clear HS
        obtain ⟨k, hk, rfl, hm, hb⟩ := hrel
        by_cases hlt : k < m
        · have hltp : (k : Int) < (m : Int) := by omega
          have hk0 : (0 : Int) ≤ (k : Int) := by omega
          obtain ⟨cp, h1, h2, h3, h4, h5⟩ := hm.cellF hlt hm1
          obtain ⟨c1, c2⟩ := h5 k hlt
          have HF := Lib.hid (show OMat (wr.setCell ⟨H k, k, none⟩ (.int .i64 1)) w.heap.size g 0 H (fun _ => 0) (matF m (fun a b => if a < k + 1 ∧ a = b then 1 else 0) m) ∧ Below w.heap.size w (wr.setCell ⟨H k, k, none⟩ (.int .i64 1)) from by
            refine ⟨?_, hb.setCell h3 _⟩
            have := hm.setF hlt hlt 1
            rw [Nat.zero_add] at this
            rw [matF_ext (F := upd (fun a b => if a < k ∧ a = b then 1 else 0) k k 1) (fun i j _ _ => ?_)]
            · exact this
            · simp only [upd]
              by_cases e : i = k ∧ j = k
              · rw [if_pos e, if_pos ⟨by omega, by omega⟩]
              · rw [if_neg e]
                by_cases e2 : i < k ∧ i = j
                · rw [if_pos e2, if_pos ⟨by omega, e2.2⟩]
                · rw [if_neg e2, if_neg (by omega)])
          rw [Nat.zero_add] at h1 c1 c2
          clear hm hb h5
          go_wp2_with fail
          go_roundw
          case rel => exact ⟨k + 1, by omega, by go_num, HF.out⟩
          case measure => simp [intOf]; omega
        · have hkm : k = m := by omega
          subst hkm
          have HF := Lib.hid (show OwnMat wr w.heap.size (.slice (some ⟨g, 0, none⟩) k cap) (matF k onesE k) ∧ Below w.heap.size w wr from by
            refine ⟨?_, hb⟩
            rw [matF_ext (F := fun a b => if a < k ∧ a = b then 1 else 0) (fun i j hi _ => ?_)]
            · exact hm.own (by omega) (by omega)
            · simp [onesE, hi])
          clear hm hb
          go_wp2_with fail
          rw [HV.out.1, HV.out.2]
          refine bodyPost_ret (v := .tuple #[.slice (some ⟨g, 0, none⟩) k cap, .bool true]) (by simp [results, Try.results149, go_sem]) rfl ⟨_, rfl, HF.out⟩
theorem onesV_rows (p n : Int) : (onesV p n).length ≤ 100 ∧ ∀ i, i < (onesV p n).length → 0 < (rowM (onesV p n) i).length ∧ (rowM (onesV p n) i).length ≤ 1000 := by
  unfold onesV
  by_cases h : onesB p n = true
  · have h2 : 1 ≤ n ∧ n ≤ 4 := by
      have := h; simp only [onesB, Bool.and_eq_true, decide_eq_true_eq] at this; exact this.2
    rw [if_pos h, matF_len]
    refine ⟨by omega, fun i hi => ?_⟩
    rw [matF_row hi]; simp; omega
  · rw [if_neg h]; exact ⟨by simp, fun i hi => absurd hi (Nat.not_lt_zero i)⟩
set_option maxRecDepth 100000 in
set_option maxHeartbeats 4000000 in
theorem sOnes (p n : Int) (w : World) :
    Calls Try.prog 69 #[.int .i64 p, .int .i64 n] w fun e w' => ∃ u, e = .returned (.tuple #[u, .bool (onesB p n)]) ∧ OwnMat w' w.heap.size u (onesV p n) ∧ Below w.heap.size w w' := by
  have HR := Lib.hid (onesV_rows p n)
  have HS := Lib.hid (sRawOnes p n w)
  obtain ⟨b, hb⟩ : ∃ b, b = onesB p n := ⟨_, rfl⟩
  obtain ⟨M, hM⟩ : ∃ M, M = onesV p n := ⟨_, rfl⟩
  rw [← hb, ← hM] at HS ⊢
  rw [← hM] at HR
  clear hb hM
  go_enter Try.func69, Try.ntmps69
  go_wp2_with fail
  refine HS.out.mono ?_
  rintro e w1 ⟨u, rfl, ho, hb1⟩
  have HO := Lib.hid (sOwnMo u M w1 ho.mat HR.out.1 HR.out.2)
  have HW := Lib.hid (And.intro ho hb1)
  clear ho hb1
  go_wp2_with fail
  refine HO.out.mono ?_
  rintro e w2 ⟨u2, rfl, ho2, hb2⟩
  have HF := Lib.hid (wrapOwn HW.out.1 HW.out.2 ho2 hb2)
  clear ho2 hb2
  go_wp2_with fail
  refine bodyPost_ret (v := .tuple #[u2, .bool b]) (by simp [results, Try.results69, go_sem]) rfl ⟨_, rfl, HF.out⟩
end Go.Proofs.Ytlcmddghppdmgaa
