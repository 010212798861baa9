/-
  OnesMatrix, of both. Conditions: none.
  TurnMatrix, of both. Conditions: none but that the slice reads as a matrix.
  TurnMatrix of the model. Conditions: none but that the slice reads as a matrix.
-/
import Derived.Test.YtlcmddghppdmgaaBh17
import Derived.Test.YtlcmddghppdmgaaBh9
import Derived.Test.YtlcmddghppdmgaaBh15
import Derived.Shelf.Abstract
namespace Go.Proofs.Ytlcmddghppdmgaa
set_option linter.unusedVariables false
open Go.RowKit Go.Shelf
def onesE (i k : Nat) : Int := if i = k then 1 else 0
def onesB (p n : Int) : Bool := isP p && (decide (1 ≤ n) && decide (n ≤ 4))
def onesV (p n : Int) : List (List Int) := if onesB p n = true then matF n.toNat onesE n.toNat else []
theorem iOnes1 (i k : Nat) (W : World) : Calls Try.prog 148 #[.int .i64 i, .int .i64 k] W fun e w' => e = .returned (.int .i64 (onesE i k)) ∧ Below W.heap.size W w' := by
  by_cases h : i = k
  · subst h
    have hb : ((i : Int) == (i : Int)) = true := by simp
    go_enter Try.func148, Try.ntmps148
    go_wp2
    go_ret
    exact ⟨ret_int' (by simp [onesE]), Below.refl _ _⟩
  · have hb : ((i : Int) == (k : Int)) = false := by simp; omega
    go_enter Try.func148, Try.ntmps148
    go_wp2
    go_ret
    exact ⟨ret_int' (by simp [onesE, h]), Below.refl _ _⟩
theorem enOnes (args : Array Value) (w : World) : (callFunc 148 args).run Try.prog w = .ok (.enter 148 args) w := enters_of Try.func148 (by kernel_rfl) rfl args w
set_option maxRecDepth 100000 in
set_option maxHeartbeats 4000000 in
theorem iOnes (p n : Int) (w : World) :
    Calls Try.prog 68 #[.int .i64 p, .int .i64 n] w fun e w' => ∃ u, e = .returned (.tuple #[u, .bool (onesB p n)]) ∧ OwnMat w' w.heap.size u (onesV p n) ∧ Below w.heap.size w w' := by
  cases hp : isP p
  · have HV := Lib.hid (show onesB p n = false ∧ onesV p n = [] by simp [onesV, onesB, hp])
    have HP := Lib.hid hp
    clear hp
    go_enter Try.func68, Try.ntmps68
    go_wp2_with (go_at_call 81; refine (iPV_no _ _ HP.out).mono ?_; rintro e w' ⟨rfl, rfl⟩)
    rw [HV.out.1, HV.out.2]
    refine bodyPost_ret (v := .tuple #[.slice none 0 0, .bool false]) (by simp [results, Try.results68, go_sem]) rfl ⟨_, rfl, OwnMat.nil _ _ _ _, Below.refl _ _⟩
  · have HP := Lib.hid hp
    by_cases hn : 1 ≤ n ∧ n ≤ 4
    · obtain ⟨hn1, hn2⟩ := hn
      obtain ⟨m, rfl⟩ := Int.eq_ofNat_of_zero_le (show 0 ≤ n by omega)
      have HV := Lib.hid (show onesB p (m : Int) = true ∧ onesV p (m : Int) = matF m onesE m by
        have : onesB p (m : Int) = true := by simp [onesB, hp]; omega
        exact ⟨this, by simp [onesV, this]⟩)
      have HN := Lib.hid (fun w => iNew m m (by omega) (by omega) (by omega) (by omega) onesE 148 #[] w enOnes (fun W _ i k _ _ => iOnes1 i k W))
      have h1 : ¬ (m : Int) < 1 := by omega
      have h2 : ¬ (m : Int) > 4 := by omega
      clear hp
      go_enter Try.func68, Try.ntmps68
      go_wp2_with (first | (go_at_call 81; refine (iPV_yes _ _ HP.out).mono ?_; rintro e w' ⟨rfl, rfl⟩))
      refine (HN.out _).mono ?_
      rintro e w1 ⟨u, rfl, ho, hb⟩
      have HF := Lib.hid (And.intro ho hb)
      clear ho hb
      go_wp2_with fail
      rw [HV.out.1, HV.out.2]
      refine bodyPost_ret (v := .tuple #[u, .bool true]) (by simp [results, Try.results68, go_sem]) rfl ⟨_, rfl, HF.out⟩
    · have HV := Lib.hid (show onesB p n = false ∧ onesV p n = [] by
        have : onesB p n = false := by simp [onesB, hp]; omega
        exact ⟨this, by simp [onesV, this]⟩)
      clear hp
      by_cases h1 : n < 1
      · go_enter Try.func68, Try.ntmps68
        go_wp2_with (go_at_call 81; refine (iPV_yes _ _ HP.out).mono ?_; rintro e w' ⟨rfl, rfl⟩)
        rw [HV.out.1, HV.out.2]
        refine bodyPost_ret (v := .tuple #[.slice none 0 0, .bool false]) (by simp [results, Try.results68, go_sem]) rfl ⟨_, rfl, OwnMat.nil _ _ _ _, Below.refl _ _⟩
      · have h2 : n > 4 := by omega
        go_enter Try.func68, Try.ntmps68
        go_wp2_with (go_at_call 81; refine (iPV_yes _ _ HP.out).mono ?_; rintro e w' ⟨rfl, rfl⟩)
        rw [HV.out.1, HV.out.2]
        refine bodyPost_ret (v := .tuple #[.slice none 0 0, .bool false]) (by simp [results, Try.results68, go_sem]) rfl ⟨_, rfl, OwnMat.nil _ _ _ _, Below.refl _ _⟩
theorem wrapOwn {v : Value} {M : List (List Int)} {w w1 : World} (_ : OwnMat w1 w.heap.size v M) (hb : Below w.heap.size w w1) {w2 : World} {u : Value} (h2 : OwnMat w2 w1.heap.size u M) (hb2 : Below w1.heap.size w1 w2) : OwnMat w2 w.heap.size u M ∧ Below w.heap.size w w2 :=
  ⟨h2.base hb.size, hb.trans (hb2.mono hb.size)⟩
set_option maxRecDepth 100000 in
set_option maxHeartbeats 4000000 in
theorem sRawOnes (p n : Int) (w : World) :
    Calls Try.prog 149 #[.int .i64 p, .int .i64 n] w fun e w' => ∃ u, e = .returned (.tuple #[u, .bool (onesB p n)]) ∧ OwnMat w' w.heap.size u (onesV p n) ∧ Below w.heap.size w w' := by
  cases hp : isP p
  · have HV := Lib.hid (show onesB p n = false ∧ onesV p n = [] by simp [onesV, onesB, hp])
    have HP := Lib.hid hp
    clear hp
    go_enter Try.func149, Try.ntmps149
    go_wp2_with (go_at_call 77; refine (sPV_no _ _ HP.out).mono ?_; rintro e w' ⟨rfl, rfl⟩)
    rw [HV.out.1, HV.out.2]
    refine bodyPost_ret (v := .tuple #[.slice (some ⟨w.heap.size, 0, none⟩) 0 0, .bool false]) (by simp [results, Try.results149, go_sem]) rfl ⟨_, rfl, OwnMat.nil _ _ _ _, Below.alloc (Below.refl _ _) (Nat.le_refl _) _⟩
  · have HP := Lib.hid hp
    cases hin : (decide (1 ≤ n) && decide (n ≤ 4))
    · have HV := Lib.hid (show onesB p n = false ∧ onesV p n = [] by
        have : onesB p n = false := by simp only [onesB, hp, hin]; rfl
        exact ⟨this, by simp [onesV, this]⟩)
      have HI := Lib.hid hin
      clear hp hin
      go_enter Try.func149, Try.ntmps149
      go_wp2_with (first | (go_at_call 77; refine (sPV_yes _ _ HP.out).mono ?_; rintro e w' ⟨rfl, rfl⟩) | (go_at_call 78; refine (sIn _ _ _ _).mono ?_; rw [HI.out]; rintro e w' ⟨rfl, rfl⟩))
      rw [HV.out.1, HV.out.2]
      refine bodyPost_ret (v := .tuple #[.slice (some ⟨w.heap.size, 0, none⟩) 0 0, .bool false]) (by simp [results, Try.results149, go_sem]) rfl ⟨_, rfl, OwnMat.nil _ _ _ _, Below.alloc (Below.refl _ _) (Nat.le_refl _) _⟩
    · have hn : 1 ≤ n ∧ n ≤ 4 := by simpa using hin
      obtain ⟨hn1, hn2⟩ := hn
      obtain ⟨m, rfl⟩ := Int.eq_ofNat_of_zero_le (show 0 ≤ n by omega)
      have HV := Lib.hid (show onesB p (m : Int) = true ∧ onesV p (m : Int) = matF m onesE m by
        have : onesB p (m : Int) = true := by simp only [onesB, hp, hin]; rfl
        exact ⟨this, by simp [onesV, this]⟩)
      have HI := Lib.hid hin
      have HN := Lib.hid (fun w => sNew m m (by omega) (by omega) w)
      have hm1 : 1 ≤ m := by omega
      have hm4 : m ≤ 4 := by omega
      clear hp hin hn1 hn2
      go_enter Try.func149, Try.ntmps149
      go_wp2_with (first | (go_at_call 77; refine (sPV_yes _ _ HP.out).mono ?_; rintro e w' ⟨rfl, rfl⟩) | (go_at_call 78; refine (sIn _ _ _ _).mono ?_; rw [HI.out]; rintro e w' ⟨rfl, rfl⟩))
      refine (HN.out _).mono ?_
      rintro e w1 ⟨u, V, H, rfl, hR, hb⟩
      rw [zeroM_F] at hR
      obtain ⟨g, cap, rfl, hm⟩ := hR.formF hm1
      have HS := Lib.hid (show OMat w1 w.heap.size g 0 H (fun _ => 0) (matF m (fun a b => if a < 0 ∧ a = b then 1 else 0) m) ∧ Below w.heap.size w w1 from ⟨by rw [matF_ext (F := fun _ _ => 0) (fun i k _ _ => by simp)]; exact hm, hb⟩)
      clear hR hm hb
      go_wp2_with fail
      go_loopw [23] (fun i wr => ∃ k : Nat, k ≤ m ∧ i = .int .i64 k ∧ OMat wr w.heap.size g 0 H (fun _ => 0) (matF m (fun a b => if a < k ∧ a = b then 1 else 0) m) ∧ Below w.heap.size w wr) (fun i _ => m - (intOf i).toNat)
      case atStart => exact ⟨0, by omega, rfl, HS.out⟩
      case round =>
        clear HS
        obtain ⟨k, hk, rfl, hm, hb⟩ := hrel
        by_cases hlt : k < m
        · have hltp : (k : Int) < (m : Int) := by omega
          have hk0 : (0 : Int) ≤ (k : Int) := by omega
          obtain ⟨cp, h1, h2, h3, h4, h5⟩ := hm.cellF hlt hm1
          obtain ⟨c1, c2⟩ := h5 k hlt
          have HF := Lib.hid (show OMat (wr.setCell ⟨H k, k, none⟩ (.int .i64 1)) w.heap.size g 0 H (fun _ => 0) (matF m (fun a b => if a < k + 1 ∧ a = b then 1 else 0) m) ∧ Below w.heap.size w (wr.setCell ⟨H k, k, none⟩ (.int .i64 1)) from by
            refine ⟨?_, hb.setCell h3 _⟩
            have := hm.setF hlt hlt 1
            rw [Nat.zero_add] at this
            rw [matF_ext (F := upd (fun a b => if a < k ∧ a = b then 1 else 0) k k 1) (fun i j _ _ => ?_)]
            · exact this
            · simp only [upd]
              by_cases e : i = k ∧ j = k
              · rw [if_pos e, if_pos ⟨by omega, by omega⟩]
              · rw [if_neg e]
                by_cases e2 : i < k ∧ i = j
                · rw [if_pos e2, if_pos ⟨by omega, e2.2⟩]
                · rw [if_neg e2, if_neg (by omega)])
          rw [Nat.zero_add] at h1 c1 c2
          clear hm hb h5
          go_wp2_with fail
          go_roundw
          case rel => exact ⟨k + 1, by omega, by go_num, HF.out⟩
          case measure => simp [intOf]; omega
        · have hkm : k = m := by omega
          subst hkm
          have HF := Lib.hid (show OwnMat wr w.heap.size (.slice (some ⟨g, 0, none⟩) k cap) (matF k onesE k) ∧ Below w.heap.size w wr from by
            refine ⟨?_, hb⟩
            rw [matF_ext (F := fun a b => if a < k ∧ a = b then 1 else 0) (fun i j hi _ => ?_)]
            · exact hm.own (by omega) (by omega)
            · simp [onesE, hi])
          clear hm hb
          go_wp2_with fail
          rw [HV.out.1, HV.out.2]
          refine bodyPost_ret (v := .tuple #[.slice (some ⟨g, 0, none⟩) k cap, .bool true]) (by simp [results, Try.results149, go_sem]) rfl ⟨_, rfl, HF.out⟩
theorem onesV_rows (p n : Int) : (onesV p n).length ≤ 100 ∧ ∀ i, i < (onesV p n).length → 0 < (rowM (onesV p n) i).length ∧ (rowM (onesV p n) i).length ≤ 1000 := by
  unfold onesV
  by_cases h : onesB p n = true
  · have h2 : 1 ≤ n ∧ n ≤ 4 := by
      have := h; simp only [onesB, Bool.and_eq_true, decide_eq_true_eq] at this; exact this.2
    rw [if_pos h, matF_len]
    refine ⟨by omega, fun i hi => ?_⟩
    rw [matF_row hi]; simp; omega
  · rw [if_neg h]; exact ⟨by simp, fun i hi => absurd hi (Nat.not_lt_zero i)⟩
set_option maxRecDepth 100000 in
set_option maxHeartbeats 4000000 in
theorem sOnes (p n : Int) (w : World) :
    Calls Try.prog 69 #[.int .i64 p, .int .i64 n] w fun e w' => ∃ u, e = .returned (.tuple #[u, .bool (onesB p n)]) ∧ OwnMat w' w.heap.size u (onesV p n) ∧ Below w.heap.size w w' := by
  have HR := Lib.hid (onesV_rows p n)
  have HS := Lib.hid (sRawOnes p n w)
  obtain ⟨b, hb⟩ : ∃ b, b = onesB p n := ⟨_, rfl⟩
  obtain ⟨M, hM⟩ : ∃ M, M = onesV p n := ⟨_, rfl⟩
  rw [← hb, ← hM] at HS ⊢
  rw [← hM] at HR
  clear hb hM
  go_enter Try.func69, Try.ntmps69
  go_wp2_with fail
  refine HS.out.mono ?_
  rintro e w1 ⟨u, rfl, ho, hb1⟩
  have HO := Lib.hid (sOwnMo u M w1 ho.mat HR.out.1 HR.out.2)
  have HW := Lib.hid (And.intro ho hb1)
  clear ho hb1
  go_wp2_with fail
  refine HO.out.mono ?_
  rintro e w2 ⟨u2, rfl, ho2, hb2⟩
  have HF := Lib.hid (wrapOwn HW.out.1 HW.out.2 ho2 hb2)
  clear ho2 hb2
  go_wp2_with fail
  refine bodyPost_ret (v := .tuple #[u2, .bool b]) (by simp [results, Try.results69, go_sem]) rfl ⟨_, rfl, HF.out⟩
end Go.Proofs.Ytlcmddghppdmgaa
namespace Go.Proofs.Ytlcmddghppdmgaa
set_option linter.unusedVariables false
open Go.RowKit Go.Shelf
def turnV (p : Int) (M : List (List Int)) : List (List Int) := if matB p M = true then matF M.length (fun a b => el M b a) (rowM M 0).length else []
theorem turnV_rows (p : Int) (M : List (List Int)) : (turnV p M).length ≤ 100 ∧ ∀ i, i < (turnV p M).length → 0 < (rowM (turnV p M) i).length ∧ (rowM (turnV p M) i).length ≤ 1000 := by
  unfold turnV
  by_cases h : matB p M = true
  · obtain ⟨_, h1, h2, _⟩ := matB_iff.1 h
    rw [if_pos h, matF_len]
    refine ⟨by omega, fun i hi => ?_⟩
    rw [matF_row hi]; simp; omega
  · rw [if_neg h]; exact ⟨by simp, fun i hi => absurd hi (Nat.not_lt_zero i)⟩
set_option maxHeartbeats 1000000 in
theorem iTurn1 (g off r c cap bx : Nat) (E : Nat → Nat → Int) (W : World) (hb : W.cell? ⟨bx, 0, none⟩ = some (.slice (some ⟨g, off, none⟩) r cap)) (hM : MatC W g off r c E) (i k : Nat) (hi : i < c) (hk : k < r) :
    Calls Try.prog 136 #[.int .i64 i, .int .i64 k, .pointer (some ⟨bx, 0, none⟩)] W fun e w' => e = .returned (.int .i64 (E k i)) ∧ Below W.heap.size W w' := by
  obtain ⟨h, o, cp, h1, h2, h3⟩ := hM.2 k hk
  have h4 := h3 i hi
  have hip : (i : Int) < (c : Int) := by omega
  have hkp : (k : Int) < (r : Int) := by omega
  have hi0 : (0 : Int) ≤ (i : Int) := by omega
  have hk0 : (0 : Int) ≤ (k : Int) := by omega
  obtain ⟨x, hx⟩ : ∃ x, x = E k i := ⟨_, rfl⟩
  rw [← hx] at h4 ⊢
  clear hx h3 hM
  go_enter Try.func136, Try.ntmps136
  go_wp2
  go_ret
  exact ⟨rfl, Below.refl _ _⟩
theorem enTurn (args : Array Value) (w : World) : (callFunc 136 args).run Try.prog w = .ok (.enter 136 args) w := enters_of Try.func136 (by kernel_rfl) rfl args w
set_option maxRecDepth 100000 in
set_option maxHeartbeats 4000000 in
theorem iTurn (p : Int) (v : Value) (M : List (List Int)) (w : World) (h : Mat w v M) :
    Calls Try.prog 56 #[.int .i64 p, v] w fun e w' => ∃ u, e = .returned (.tuple #[u, .bool (matB p M)]) ∧ OwnMat w' w.heap.size u (turnV p M) ∧ Below w.heap.size w w' := by
  have hb0 : ∀ o, Below w.heap.size w (w.alloc o) := fun o => Below.alloc (Below.refl _ _) (Nat.le_refl _) _
  have HMV := Lib.hid (fun o => iMV p v M (w.alloc o) (h.below (hb0 o)))
  cases hB : matB p M
  · have HV := Lib.hid (show turnV p M = [] by simp [turnV, hB])
    rw [hB] at HMV
    have HB0 := Lib.hid hb0
    obtain ⟨_, _, a, cap, rfl, _⟩ := h
    clear hB hb0
    go_enter Try.func56, Try.ntmps56
    go_wp2_with (go_at_call 62; refine (HMV.out _).mono ?_; rintro e w' ⟨rfl, rfl⟩)
    rw [HV.out]
    refine bodyPost_ret (v := .tuple #[.slice none 0 0, .bool false]) (by simp [results, Try.results56, go_sem]) rfl ⟨_, rfl, OwnMat.nil _ _ _ _, HB0.out _⟩
  · obtain ⟨r, c, hr, hr1, hr4, hc, hc1, hc4, hrow, hel, hMF⟩ := matB_side hB
    have HV := Lib.hid (show turnV p M = matF r (fun a b => el M b a) c by simp [turnV, hB, hr, hc])
    obtain ⟨g, off, cap, rfl, hC⟩ := h.cells hr hr1 hc1 hrow
    rw [hB] at HMV
    obtain ⟨W, hW⟩ : ∃ W, W = w.alloc (.cells #[.slice (some ⟨g, off, none⟩) r cap] 35) := ⟨_, rfl⟩
    have hbW : Below w.heap.size w W := by rw [hW]; exact hb0 _
    have hWs : w.heap.size < W.heap.size := by rw [hW]; simp
    have hWc : W.cell? ⟨w.heap.size, 0, none⟩ = some (.slice (some ⟨g, off, none⟩) r cap) := by rw [hW]; simp [go_sem]
    have HK := Lib.hid (fun w' (hb : Below W.heap.size W w') => show w'.cell? ⟨w.heap.size, 0, none⟩ = some (.slice (some ⟨g, off, none⟩) r cap) ∧ MatC w' g off r c (el M) from
      ⟨by rw [hb.cell (p := ⟨w.heap.size, 0, none⟩) hWs]; exact hWc, (hC.below hbW).below hb⟩)
    have HN := Lib.hid (fun w' (hb : Below W.heap.size W w') => iNew c r hc1 hc4 hr1 hr4 (fun a b => el M b a) 136 #[.pointer (some ⟨w.heap.size, 0, none⟩)] w' enTurn
      (fun W2 hb2 i k hi hk => by
        have := HK.out W2 (hb.trans (hb2.mono hb.size))
        exact iTurn1 g off r c cap w.heap.size (el M) W2 this.1 this.2 i k hi hk))
    have HMV2 := Lib.hid (hW ▸ HMV.out (.cells #[.slice (some ⟨g, off, none⟩) r cap] 35))
    have HWE := Lib.hid hW
    have HBW := Lib.hid hbW
    have hrp : 0 < r := by omega
    have HR0 := Lib.hid (fun w' (hb : Below W.heap.size W w') => show ∃ b cp, w'.cell? ⟨g, off, none⟩ = some (.slice b c cp) from by
      obtain ⟨hh, o, cp, h1, _⟩ := (HK.out w' hb).2.2 0 (by omega)
      exact ⟨_, cp, h1⟩)
    clear hB hb0 h hC hW hbW hMF hel hrow HMV
    go_enter Try.func56, Try.ntmps56
    go_wp2_with fail
    rw [← HWE.out]
    refine HMV2.out.mono ?_
    rintro e w' ⟨rfl, rfl⟩
    obtain ⟨b0, c0, hh0⟩ := HR0.out W (Below.refl _ _)
    have hg := (HK.out W (Below.refl _ _)).2.1
    have HS := Lib.hid (fun w' (hb : Below W.heap.size W w') => show w'.cell? ⟨w.heap.size, 0, none⟩ = some (.slice (some ⟨g, off, none⟩) r cap) ∧ w'.cell? ⟨g, off, none⟩ = some (.slice b0 c c0) from
      ⟨(HK.out w' hb).1, by rw [hb.cell (p := ⟨g, off, none⟩) hg]; exact hh0⟩)
    clear hh0 hg HR0 HMV2
    go_wp2_with fail
    refine wp_region_seq [(0, true), (1, true), (2, true), (3, true), (4, true), (5, true), (6, true), (7, false), (8, true)] (fun w' => w'.cell? ⟨w.heap.size, 0, none⟩ = some (.slice (some ⟨g, off, none⟩) r cap) ∧ w'.cell? ⟨g, off, none⟩ = some (.slice b0 c c0)) (by kernel_rfl) (by kernel_rfl) rfl (by intro c a d v w h; cases d <;> exact h) (HS.out _ (Below.drew (Below.refl _ _))) ?_
    iterate 7 (refine wpSeq_take (v := ?_) (List.getElem?_toArray.trans rfl) ?_ ?_; rotate_left; (intro w' hSw; (try dsimp only at hSw); go_simp; (try with_reducible rfl)); (try simp only [Act.put, List.setIfInBounds_toArray, List.set_cons_zero, List.set_cons_succ]))
    refine wpSeq_do (List.getElem?_toArray.trans rfl) (fun K hK => ?_)
    go_simp
    have hdr : Below W.heap.size W W.drew := Below.drew (Below.refl _ _)
    refine (HN.out _ hdr).mono ?_
    rintro e w6 ⟨u6, rfl, ho, hb6⟩
    have hbb : Below W.heap.size W w6 := hdr.trans hb6
    refine hK _ _ (HS.out _ hbb) ?_
    clear hK K
    (refine wpSeq_take (v := ?_) (List.getElem?_toArray.trans rfl) ?_ ?_; rotate_left; (intro w' hSw; (try dsimp only at hSw); go_simp; (try with_reducible rfl)); (try simp only [Act.put, List.setIfInBounds_toArray, List.set_cons_zero, List.set_cons_succ]))
    refine wpSeq_nil ?_
    simp only [Exit.then]
    have HF := Lib.hid (show OwnMat w6 w.heap.size u6 (matF r (fun a b => el M b a) c) ∧ Below w.heap.size w w6 from
      ⟨ho.base (by have := hdr.size; omega), HBW.out.trans (hbb.mono (by omega))⟩)
    clear ho hb6 hbb hdr
    go_wp2_with fail
    rw [HV.out]
    refine bodyPost_ret (v := .tuple #[u6, .bool true]) (by simp [results, Try.results56, go_sem]) rfl ⟨_, rfl, HF.out⟩
end Go.Proofs.Ytlcmddghppdmgaa
namespace Go.Proofs.Ytlcmddghppdmgaa
set_option linter.unusedVariables false
open Go.RowKit Go.Shelf
def turF (E : Nat → Nat → Int) (i k : Nat) (a b : Nat) : Int := if b < i ∨ (b = i ∧ a < k) then E b a else 0
theorem turF_upd (E : Nat → Nat → Int) (i k a b : Nat) : upd (turF E i k) k i (E i k) a b = turF E i (k + 1) a b := by
  unfold upd turF
  by_cases h : a = k ∧ b = i
  · obtain ⟨rfl, rfl⟩ := h
    rw [if_pos ⟨rfl, rfl⟩, if_pos (.inr ⟨rfl, by omega⟩)]
  · rw [if_neg h]
    by_cases h2 : b < i ∨ (b = i ∧ a < k)
    · rw [if_pos h2, if_pos (by omega)]
    · rw [if_neg h2, if_neg (by omega)]
theorem turF_next {E : Nat → Nat → Int} {i c a b : Nat} (h : a < c) : turF E i c a b = turF E (i + 1) 0 a b := by
  unfold turF
  by_cases h2 : b < i ∨ (b = i ∧ a < c)
  · rw [if_pos h2, if_pos (by omega)]
  · rw [if_neg h2, if_neg (by omega)]
theorem turF_all {E : Nat → Nat → Int} {r a b : Nat} (h : b < r) : turF E r 0 a b = E b a := by
  unfold turF; rw [if_pos (.inl h)]
set_option maxRecDepth 100000 in
set_option maxHeartbeats 4000000 in
theorem sRawTurn (p : Int) (v : Value) (M : List (List Int)) (w : World) (h : Mat w v M) :
    Calls Try.prog 137 #[.int .i64 p, v] w fun e w' => ∃ u, e = .returned (.tuple #[u, .bool (matB p M)]) ∧ OwnMat w' w.heap.size u (turnV p M) ∧ Below w.heap.size w w' := by
  have HMV := Lib.hid (sMV p v M w h)
  cases hB : matB p M
  · have HV := Lib.hid (show turnV p M = [] by simp [turnV, hB])
    rw [hB] at HMV
    obtain ⟨_, _, a, cap, rfl, _⟩ := h
    clear hB
    go_enter Try.func137, Try.ntmps137
    go_wp2_with (go_at_call 63; refine HMV.out.mono ?_; rintro e w' ⟨rfl, rfl⟩)
    rw [HV.out]
    refine bodyPost_ret (v := .tuple #[.slice (some ⟨w.heap.size, 0, none⟩) 0 0, .bool false]) (by simp [results, Try.results137, go_sem]) rfl ⟨_, rfl, OwnMat.nil _ _ _ _, Below.alloc (Below.refl _ _) (Nat.le_refl _) _⟩
  · obtain ⟨r, c, hr, hr1, hr4, hc, hc1, hc4, hrow, hel, hMF⟩ := matB_side hB
    have HV := Lib.hid (show turnV p M = matF r (fun a b => el M b a) c by simp [turnV, hB, hr, hc])
    obtain ⟨g, off, cap, rfl, hC⟩ := h.cells hr hr1 hc1 hrow
    rw [hB] at HMV
    obtain ⟨E, hE⟩ : ∃ E, E = el M := ⟨_, rfl⟩
    rw [← hE] at HV hC
    have HC := Lib.hid (fun i (hi : i < r) => show ∃ h o cp, (∀ w', Below w.heap.size w w' → w'.cell? ⟨g, off + i, none⟩ = some (.slice (some ⟨h, o, none⟩) c cp)) ∧ ∀ w', Below w.heap.size w w' → ∀ k, k < c → w'.cell? ⟨h, o + k, none⟩ = some (.int .i64 (E i k)) from by
      obtain ⟨h, o, cp, h1, h2, h3⟩ := hC.2 i hi
      exact ⟨h, o, cp, fun w' hb => by rw [hb.cell (p := ⟨g, off + i, none⟩) hC.1]; exact h1, fun w' hb k hk => by rw [hb.cell (p := ⟨h, o + k, none⟩) h2.1]; exact h3 k hk⟩)
    have HN := Lib.hid (fun w => sNew c r (by omega) (by omega) w)
    have hrp : 0 < r := by omega
    obtain ⟨b0, o0, c0, hh0, _⟩ := hC.2 0 hrp
    rw [Nat.add_zero] at hh0
    clear hB h hC hMF hel hrow hE
    go_enter Try.func137, Try.ntmps137
    go_wp2_with fail
    refine HMV.out.mono ?_
    rintro e w' ⟨rfl, rfl⟩
    go_wp2_with fail
    refine (HN.out _).mono ?_
    rintro e w1 ⟨u, V, H, rfl, hR, hb⟩
    rw [zeroM_F] at hR
    obtain ⟨g2, cap2, rfl, hm⟩ := hR.formF hc1
    have HS := Lib.hid (show OMat w1 w.heap.size g2 0 H (fun _ => 0) (matF r (turF E 0 0) c) ∧ Below w.heap.size w w1 from ⟨by rw [matF_ext (F := fun _ _ => 0) (fun i k _ _ => by simp [turF])]; exact hm, hb⟩)
    clear hR hm hb hh0
    go_wp2_with fail
    go_loopw [25] (fun i wr => ∃ k : Nat, k ≤ r ∧ i = .int .i64 k ∧ OMat wr w.heap.size g2 0 H (fun _ => 0) (matF r (turF E k 0) c) ∧ Below w.heap.size w wr) (fun i _ => r - (intOf i).toNat)
    case atStart => exact ⟨0, by omega, rfl, HS.out⟩
    case round =>
      clear HS
      obtain ⟨i, hi, rfl, hm, hb⟩ := hrel
      by_cases hlt : i < r
      · have hltp : (i : Int) < (r : Int) := by omega
        have hi0 : (0 : Int) ≤ (i : Int) := by omega
        obtain ⟨hh, ho, hcp, q1, q2⟩ := HC.out i hlt
        have HQ := Lib.hid q2
        have q1 := q1 _ hb
        have HS := Lib.hid (And.intro hm hb)
        clear hm hb q2
        go_wp2_with fail
        go_loopw [32] (fun i2 wr => ∃ k : Nat, k ≤ c ∧ i2 = .int .i64 k ∧ OMat wr w.heap.size g2 0 H (fun _ => 0) (matF r (turF E i k) c) ∧ Below w.heap.size w wr) (fun i2 _ => c - (intOf i2).toNat)
        case atStart => exact ⟨0, by omega, rfl, HS.out⟩
        case round =>
          clear HS q1
          obtain ⟨k, hk, rfl, hm, hb⟩ := hrel
          by_cases hlk : k < c
          · have hlkp : (k : Int) < (c : Int) := by omega
            have hk0 : (0 : Int) ≤ (k : Int) := by omega
            have hx := HQ.out _ hb k hlk
            obtain ⟨cp, h1, h2, h3, h4, h5⟩ := hm.cellF hlk hrp
            obtain ⟨c1, c2⟩ := h5 i hlt
            have HF := Lib.hid (show OMat (wr.setCell ⟨H k, i, none⟩ (.int .i64 (E i k))) w.heap.size g2 0 H (fun _ => 0) (matF r (turF E i (k + 1)) c) ∧ Below w.heap.size w (wr.setCell ⟨H k, i, none⟩ (.int .i64 (E i k))) from by
              refine ⟨?_, hb.setCell h3 _⟩
              have := hm.setF hlk hlt (E i k)
              rw [Nat.zero_add] at this
              rw [← matF_ext (fun a b _ _ => turF_upd E i k a b)]
              exact this)
            obtain ⟨x, hxe⟩ : ∃ x, x = E i k := ⟨_, rfl⟩
            rw [← hxe] at hx HF
            rw [Nat.zero_add] at h1 c1 c2
            clear hm hb h5 hxe
            go_wp2_with fail
            go_roundw
            case rel => exact ⟨k + 1, by omega, by go_num, HF.out⟩
            case measure => simp [intOf]; omega
          · have hkc : k = c := by omega
            subst hkc
            have HF := Lib.hid (show OMat wr w.heap.size g2 0 H (fun _ => 0) (matF r (turF E (i + 1) 0) k) ∧ Below w.heap.size w wr from ⟨by rw [← matF_ext (fun a b ha _ => turF_next ha)]; exact hm, hb⟩)
            clear hm hb
            go_wp2_with fail
            go_roundw
            case rel => exact ⟨i + 1, by omega, by go_num, HF.out⟩
            case measure => simp [intOf]; omega
      · have hir : i = r := by omega
        subst hir
        have HF := Lib.hid (show OwnMat wr w.heap.size (.slice (some ⟨g2, 0, none⟩) c cap2) (matF i (fun a b => E b a) c) ∧ Below w.heap.size w wr from by
          refine ⟨?_, hb⟩
          rw [← matF_ext (fun a b _ hb => turF_all (E := E) (a := a) hb)]
          exact hm.own (by omega) (by omega))
        clear hm hb
        go_wp2_with fail
        rw [HV.out]
        refine bodyPost_ret (v := .tuple #[.slice (some ⟨g2, 0, none⟩) c cap2, .bool true]) (by simp [results, Try.results137, go_sem]) rfl ⟨_, rfl, HF.out⟩
set_option maxRecDepth 100000 in
set_option maxHeartbeats 4000000 in
theorem sTurn (p : Int) (v : Value) (M : List (List Int)) (w : World) (h : Mat w v M) :
    Calls Try.prog 57 #[.int .i64 p, v] w fun e w' => ∃ u, e = .returned (.tuple #[u, .bool (matB p M)]) ∧ OwnMat w' w.heap.size u (turnV p M) ∧ Below w.heap.size w w' := by
  have HR := Lib.hid (turnV_rows p M)
  have HS := Lib.hid (sRawTurn p v M w h)
  obtain ⟨b, hb⟩ : ∃ b, b = matB p M := ⟨_, rfl⟩
  obtain ⟨R, hM⟩ : ∃ R, R = turnV p M := ⟨_, rfl⟩
  rw [← hb, ← hM] at HS ⊢
  rw [← hM] at HR
  obtain ⟨_, _, a, cap, rfl, _⟩ := h
  clear hb hM
  go_enter Try.func57, Try.ntmps57
  go_wp2_with fail
  refine HS.out.mono ?_
  rintro e w1 ⟨u, rfl, ho, hb1⟩
  have HO := Lib.hid (sOwnMo u R w1 ho.mat HR.out.1 HR.out.2)
  have HW := Lib.hid (And.intro ho hb1)
  clear ho hb1
  go_wp2_with fail
  refine HO.out.mono ?_
  rintro e w2 ⟨u2, rfl, ho2, hb2⟩
  have HF := Lib.hid (wrapOwn HW.out.1 HW.out.2 ho2 hb2)
  clear ho2 hb2
  go_wp2_with fail
  refine bodyPost_ret (v := .tuple #[u2, .bool b]) (by simp [results, Try.results57, go_sem]) rfl ⟨_, rfl, HF.out⟩
end Go.Proofs.Ytlcmddghppdmgaa
