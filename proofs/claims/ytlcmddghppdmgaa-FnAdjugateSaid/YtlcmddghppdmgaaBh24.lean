/-
  InverseOf of both. Conditions: none but that the slice reads as a matrix.
  A matrix times its adjugate and its inverse, in a field of residues. Conditions: at most four rows.
  InverseOf of the program: a region whose operations fork is walked by a plan. Conditions: none but that the slice reads as a matrix.
-/
import Derived.Test.YtlcmddghppdmgaaBh23
import Derived.Test.YtlcmddghppdmgaaBh4
import Derived.Test.YtlcmddghppdmgaaBh16
import Derived.Test.YtlcmddghppdmgaaBh20
import Derived.Test.YtlcmddghppdmgaaBh19
namespace Go.Proofs.Ytlcmddghppdmgaa
set_option linter.unusedVariables false
open Go.RowKit Go.Shelf
/-- the elements of the inverse -/
def invE (p : Int) (n : Nat) (E : Nat → Nat → Int) (iv : Int) (a b : Nat) : Int := cofE p n E b a * iv % p
def invB (p : Int) (M : List (List Int)) : Bool := decide (1 ≤ detV true p M)
def invV (p : Int) (M : List (List Int)) : List (List Int) := if invB p M = true then matF M.length (invE p M.length (el M) (ivV p (detV true p M))) M.length else []
theorem detV_bd {p : Int} {M : List (List Int)} (h : sqB p M = true) : isP p = true ∧ 0 ≤ detV true p M ∧ detV true p M < p := by
  have hp := (matB_iff.1 (sqB_side h).1).1
  have := isP_bd hp
  unfold detV
  rw [if_pos h]
  exact ⟨hp, Int.emod_nonneg _ (by omega), Int.emod_lt_of_pos _ (by omega)⟩
theorem invB_sq {p : Int} {M : List (List Int)} (h : invB p M = true) : sqB p M = true := by
  cases e : sqB p M
  · simp [invB, detV, e] at h
  · rfl
/-- there is an inverse where the determinant is not 0 -/
theorem invB_iv {p : Int} {M : List (List Int)} (h : sqB p M = true) : ivB p (detV true p M) = invB p M := by
  obtain ⟨hp, h0, h1⟩ := detV_bd h
  unfold ivB invB
  rw [isE1_iff.2 ⟨hp, h0, h1⟩, (inv_fact hp h0 h1).1, Bool.true_and]
  by_cases e : detV true p M = 0
  · simp [e]
  · have : 1 ≤ detV true p M := by omega
    simp [e, this]
theorem ivV_bd {p d : Int} (hp : isP p = true) (h0 : 0 ≤ d) (h1 : d < p) : ivV p d = (((invO p d).getD 0 : Nat) : Int) ∧ 0 ≤ ivV p d ∧ ivV p d < p := by
  have e : ivV p d = (((invO p d).getD 0 : Nat) : Int) := by unfold ivV; rw [if_pos (isE1_iff.2 ⟨hp, h0, h1⟩)]
  rw [e]
  exact ⟨rfl, by omega, (inv_fact hp h0 h1).2⟩
theorem invV_rows (p : Int) (M : List (List Int)) : (invV p M).length ≤ 100 ∧ ∀ i, i < (invV p M).length → 0 < (rowM (invV p M) i).length ∧ (rowM (invV p M) i).length ≤ 1000 := by
  unfold invV
  by_cases h : invB p M = true
  · have := sqB_len (invB_sq h)
    rw [if_pos h, matF_len]
    refine ⟨by omega, fun i hi => ?_⟩
    rw [matF_row hi]; simp; omega
  · rw [if_neg h]; exact ⟨by simp, fun i hi => absurd hi (Nat.not_lt_zero i)⟩
/-- what the model has scaled behind some rounds -/
def scF (p iv : Int) (F : Nat → Nat → Int) (i k : Nat) (a b : Nat) : Int := if a < i ∨ (a = i ∧ b < k) then F a b * iv % p else F a b
theorem scF_upd (p iv : Int) (F : Nat → Nat → Int) (i k a b : Nat) : upd (scF p iv F i k) i k (F i k * iv % p) a b = scF p iv F i (k + 1) a b := by
  unfold upd scF
  by_cases h : a = i ∧ b = k
  · obtain ⟨rfl, rfl⟩ := h
    rw [if_pos ⟨rfl, rfl⟩, if_pos (.inr ⟨rfl, by omega⟩)]
  · rw [if_neg h]
    by_cases h2 : a < i ∨ (a = i ∧ b < k)
    · rw [if_pos h2, if_pos (by omega)]
    · rw [if_neg h2, if_neg (by omega)]
theorem scF_next {p iv : Int} {F : Nat → Nat → Int} {i c a b : Nat} (h : b < c) : scF p iv F i c a b = scF p iv F (i + 1) 0 a b := by
  unfold scF
  by_cases h2 : a < i ∨ (a = i ∧ b < c)
  · rw [if_pos h2, if_pos (by omega)]
  · rw [if_neg h2, if_neg (by omega)]
theorem scF_all {p iv : Int} {F : Nat → Nat → Int} {r a b : Nat} (h : a < r) : scF p iv F r 0 a b = F a b * iv % p := by
  unfold scF; rw [if_pos (.inl h)]
theorem scF_at (p iv : Int) (F : Nat → Nat → Int) (i k : Nat) : scF p iv F i k i k = F i k := by
  unfold scF; rw [if_neg (by omega)]
set_option maxRecDepth 100000 in
set_option maxHeartbeats 4000000 in
theorem sRawInvM (p : Int) (v : Value) (M : List (List Int)) (w : World) (h : Mat w v M) :
    Calls Try.prog 115 #[.int .i64 p, v] w fun e w' => ∃ u, e = .returned (.tuple #[u, .bool (invB p M)]) ∧ OwnMat w' w.heap.size u (invV p M) ∧ Below w.heap.size w w' := by
  have HD := Lib.hid (sDet p v M w h)
  cases hB : invB p M
  · have HV := Lib.hid (show invV p M = [] by simp [invV, hB])
    obtain ⟨_, _, a, cap, rfl, _⟩ := h
    obtain ⟨d, hd⟩ : ∃ d, d = detV true p M := ⟨_, rfl⟩
    rw [← hd] at HD
    have hlt : d < 1 := by
      have : ¬ 1 ≤ detV true p M := by simpa [invB] using hB
      omega
    clear hB hd
    go_enter Try.func115, Try.ntmps115
    go_wp2_with fail
    refine HD.out.mono ?_
    rintro e w1 ⟨rfl, hb1⟩
    have HB1 := Lib.hid hb1
    have hz := hb1.size
    clear hb1
    go_wp2_with fail
    rw [HV.out]
    refine bodyPost_ret (v := .tuple #[.slice (some ⟨w1.heap.size, 0, none⟩) 0 0, .bool false]) (by simp [results, Try.results115, go_sem]) rfl ⟨_, rfl, OwnMat.nil _ _ _ _, Below.alloc HB1.out hz _⟩
  · have hS := invB_sq hB
    obtain ⟨hp, hd0, hd1⟩ := detV_bd hS
    obtain ⟨hM, hsq⟩ := sqB_side hS
    obtain ⟨r, c, hr, hr1, hr4, hc, hc1, hc4, hrow, hel, hMF⟩ := matB_side hM
    obtain ⟨g, off, cap, rfl, hC⟩ := h.cells hr hr1 hc1 hrow
    have hrc : c = r := by omega
    subst hrc
    have hdg : 1 ≤ detV true p M := by simpa [invB] using hB
    have HV0 := Lib.hid (show invV p M = matF c (invE p c (el M) (ivV p (detV true p M))) c from by simp [invV, hB, hr])
    obtain ⟨d, hd⟩ : ∃ d, d = detV true p M := ⟨_, rfl⟩
    rw [← hd] at HD HV0 hd0 hd1 hdg
    obtain ⟨iv, hiv⟩ : ∃ iv, iv = ivV p d := ⟨_, rfl⟩
    obtain ⟨v1, v2, v3⟩ := ivV_bd hp hd0 hd1
    rw [← hiv] at HV0 v1 v2 v3
    have HI := Lib.hid (fun w => (by rw [v1]; exact sInvLoop p d hp hd0 hd1 w : Calls Try.prog 143 #[.int .i64 p, .int .i64 d] w fun e w' => e = .returned (.int .i64 iv) ∧ w = w'))
    have HG := Lib.hid (fun w1 (hb : Below w.heap.size w w1) => sAdjG p hp g off c cap (el M) w1 (hC.below hb) hr1 hr4 hel)
    obtain ⟨hp1, hp2⟩ := isP_bd hp
    obtain ⟨F, hF⟩ : ∃ F, F = fun a b => cofE p c (el M) b a := ⟨_, rfl⟩
    have HFB := Lib.hid (fun a b => show 0 ≤ F a b ∧ F a b < p from by rw [hF]; exact cofE_bd hp1 c (el M) b a)
    have HV := Lib.hid (show invV p M = matF c (fun a b => F a b * iv % p) c from by rw [HV0.out, hF]; rfl)
    rw [← hF] at HG
    have hpn : ¬ p = 0 := by omega
    have hdn : ¬ d < 1 := by omega
    have hrp : 0 < c := by omega
    clear hB hM hsq hr hc hrow hel hMF hC h hp hd hS v1 hF HV0 hiv
    go_enter Try.func115, Try.ntmps115
    go_wp2_with fail
    refine HD.out.mono ?_
    rintro e w1 ⟨rfl, hb1⟩
    have HG1 := Lib.hid (HG.out w1 hb1)
    have HB1 := Lib.hid hb1
    have hz1 := hb1.size
    clear hb1
    go_wp2_with fail
    refine HG1.out.mono ?_
    rintro e w2 ⟨g2, cap2, H, rfl, hm, hb2⟩
    have HS := Lib.hid (show OMat w2 w1.heap.size g2 0 H (fun _ => 0) (matF c (scF p iv F 0 0) c) ∧ Below w.heap.size w w2 from ⟨by rw [matF_ext (F := F) (fun i k _ _ => by simp [scF])]; exact hm, HB1.out.trans (hb2.mono hz1)⟩)
    clear hm hb2 HG1
    go_wp2_with fail
    go_loopw [22] (fun i wr => ∃ k : Nat, k ≤ c ∧ i = .int .i64 k ∧ OMat wr w1.heap.size g2 0 H (fun _ => 0) (matF c (scF p iv F k 0) c) ∧ Below w.heap.size w wr) (fun i _ => c - (intOf i).toNat)
    case atStart => exact ⟨0, by omega, rfl, HS.out⟩
    case round =>
      clear HS
      obtain ⟨i, hi, rfl, hm, hb⟩ := hrel
      by_cases hlt : i < c
      · have hltp : (i : Int) < (c : Int) := by omega
        have hi0 : (0 : Int) ≤ (i : Int) := by omega
        obtain ⟨cp, h1, _⟩ := hm.cellF hlt hrp
        rw [Nat.zero_add] at h1
        have HS := Lib.hid (And.intro hm hb)
        clear hm hb
        go_wp2_with fail
        go_loopw [28] (fun i2 wr => ∃ k : Nat, k ≤ c ∧ i2 = .int .i64 k ∧ OMat wr w1.heap.size g2 0 H (fun _ => 0) (matF c (scF p iv F i k) c) ∧ Below w.heap.size w wr) (fun i2 _ => c - (intOf i2).toNat)
        case atStart => exact ⟨0, by omega, rfl, HS.out⟩
        case round =>
          clear HS h1
          obtain ⟨k, hk, rfl, hm, hb⟩ := hrel
          by_cases hlk : k < c
          · have hlkp : (k : Int) < (c : Int) := by omega
            have hk0 : (0 : Int) ≤ (k : Int) := by omega
            obtain ⟨_, _, h2, h3, h4, h5⟩ := hm.cellF hlt hrp
            obtain ⟨c1, c2⟩ := h5 k hlk
            rw [scF_at, Nat.zero_add] at c1
            rw [Nat.zero_add] at c2
            obtain ⟨x0, x1⟩ := HFB.out i k
            have HUP := Lib.hid (fun a b => scF_upd p iv F i k a b)
            obtain ⟨x, hx⟩ : ∃ x, x = F i k := ⟨_, rfl⟩
            rw [← hx] at c1 x0 x1 HUP
            have hxq0 : 0 ≤ x * iv := Int.mul_nonneg x0 v2
            have hxq1 : x * iv ≤ 169 := by
              have := Int.mul_le_mul (show x ≤ 13 by omega) (show iv ≤ 13 by omega) v2 (by omega)
              omega
            have hw1 : IntKind.i64.wrap (x * iv) = x * iv := IntWalk.i64_in _ (by omega)
            obtain ⟨y, hy⟩ : ∃ y, y = x * iv % p := ⟨_, rfl⟩
            rw [← hy] at HUP
            have hw2 : (x * iv).tmod p = y := by rw [hy, Int.tmod_eq_emod_of_nonneg hxq0]
            have y0 : 0 ≤ y := by rw [hy]; exact Int.emod_nonneg _ (by omega)
            have y1 : y < p := by rw [hy]; exact Int.emod_lt_of_pos _ (by omega)
            have hw3 : IntKind.i64.wrap y = y := IntWalk.i64_in _ (by omega)
            have HCC := Lib.hid (show wr.drew.cell? ⟨H i, k, none⟩ = some (.int .i64 x) from c1)
            have hf : wr.drew.frozen? ⟨H i, k, none⟩ = false := c2
            have HF := Lib.hid (show OMat (wr.drew.setCell ⟨H i, k, none⟩ (.int .i64 y)) w1.heap.size g2 0 H (fun _ => 0) (matF c (scF p iv F i (k + 1)) c) ∧ Below w.heap.size w (wr.drew.setCell ⟨H i, k, none⟩ (.int .i64 y)) from by
              have hdr : Below wr.heap.size wr wr.drew := Below.drew (Below.refl _ _)
              refine ⟨?_, (hb.trans (hdr.mono hb.size)).setCell (by show w.heap.size ≤ H i; omega) _⟩
              have := (hm.below hdr).setF hlt hlk y
              rw [Nat.zero_add] at this
              rw [← matF_ext (fun a b _ _ => HUP.out a b)]
              exact this)
            clear hm hb h5 hx hy c1 c2
            go_wp2_with fail
            refine wp_region_seq [(0, true), (1, true), (2, true), (3, true), (4, true), (5, true), (6, true), (7, true), (10, true), (8, false), (9, true), (11, true), (12, true)] (fun w' => w'.cell? ⟨H i, k, none⟩ = some (.int .i64 x)) (by kernel_rfl) (by kernel_rfl) rfl (by intro c a d v w h; cases d <;> exact h) HCC.out ?_
            iterate 9 (refine wpSeq_take (v := ?_) (List.getElem?_toArray.trans rfl) ?_ ?_; rotate_left; (intro w' hSw; (try dsimp only at hSw); go_simp; (try with_reducible rfl)); (try simp only [Act.put, List.setIfInBounds_toArray, List.set_cons_zero, List.set_cons_succ]))
            refine wpSeq_do (List.getElem?_toArray.trans rfl) (fun K hK => ?_)
            go_simp
            refine (HI.out _).mono ?_
            rintro e w5 ⟨rfl, rfl⟩
            refine hK _ _ HCC.out ?_
            clear hK K
            iterate 3 (refine wpSeq_take (v := ?_) (List.getElem?_toArray.trans rfl) ?_ ?_; rotate_left; (intro w' hSw; (try dsimp only at hSw); go_simp; (try with_reducible rfl)); (try simp only [Act.put, List.setIfInBounds_toArray, List.set_cons_zero, List.set_cons_succ]))
            refine wpSeq_nil ?_
            simp only [Exit.then]
            have c1d := HCC.out
            go_wp2_with fail
            go_roundw
            case rel => exact ⟨k + 1, by omega, by go_num, HF.out⟩
            case measure => simp [intOf]; omega
          · have hkc : k = c := by omega
            subst hkc
            have HF := Lib.hid (show OMat wr w1.heap.size g2 0 H (fun _ => 0) (matF k (scF p iv F (i + 1) 0) k) ∧ Below w.heap.size w wr from ⟨by rw [← matF_ext (fun a b _ hb => scF_next hb)]; exact hm, hb⟩)
            clear hm hb
            go_wp2_with fail
            go_roundw
            case rel => exact ⟨i + 1, by omega, by go_num, HF.out⟩
            case measure => simp [intOf]; omega
      · have hir : i = c := by omega
        subst hir
        have HF := Lib.hid (show OwnMat wr w.heap.size (.slice (some ⟨g2, 0, none⟩) i cap2) (matF i (fun a b => F a b * iv % p) i) ∧ Below w.heap.size w wr from by
          refine ⟨?_, hb⟩
          rw [← matF_ext (fun a b ha _ => scF_all (p := p) (iv := iv) (F := F) (b := b) ha)]
          exact (hm.own (by omega) (by omega)).base hz1)
        clear hm hb
        go_wp2_with fail
        rw [HV.out]
        refine bodyPost_ret (v := .tuple #[.slice (some ⟨g2, 0, none⟩) i cap2, .bool true]) (by simp [results, Try.results115, go_sem]) rfl ⟨_, rfl, HF.out⟩
set_option maxRecDepth 100000 in
set_option maxHeartbeats 4000000 in
theorem sInvM (p : Int) (v : Value) (M : List (List Int)) (w : World) (h : Mat w v M) :
    Calls Try.prog 45 #[.int .i64 p, v] w fun e w' => ∃ u, e = .returned (.tuple #[u, .bool (invB p M)]) ∧ OwnMat w' w.heap.size u (invV p M) ∧ Below w.heap.size w w' := by
  have HR := Lib.hid (invV_rows p M)
  have HS := Lib.hid (sRawInvM p v M w h)
  obtain ⟨b, hb⟩ : ∃ b, b = invB p M := ⟨_, rfl⟩
  obtain ⟨R, hM⟩ : ∃ R, R = invV p M := ⟨_, rfl⟩
  rw [← hb, ← hM] at HS ⊢
  rw [← hM] at HR
  obtain ⟨_, _, a, cap, rfl, _⟩ := h
  clear hb hM
  go_enter Try.func45, Try.ntmps45
  go_wp2_with fail
  refine HS.out.mono ?_
  rintro e w1 ⟨u, rfl, ho, hb1⟩
  have HO := Lib.hid (sOwnMo u R w1 ho.mat HR.out.1 HR.out.2)
  have HW := Lib.hid (And.intro ho hb1)
  clear ho hb1
  go_wp2_with fail
  refine HO.out.mono ?_
  rintro e w2 ⟨u2, rfl, ho2, hb2⟩
  have HF := Lib.hid (wrapOwn HW.out.1 HW.out.2 ho2 hb2)
  clear ho2 hb2
  go_wp2_with fail
  refine bodyPost_ret (v := .tuple #[u2, .bool b]) (by simp [results, Try.results45, go_sem]) rfl ⟨_, rfl, HF.out⟩
set_option maxRecDepth 100000 in
set_option maxHeartbeats 1000000 in
theorem iInv1 (p iv : Int) (hp : isP p = true) (hv : 0 ≤ iv ∧ iv < p) (g off n cap bp bi ba : Nat) (F : Nat → Nat → Int) (W : World) (h0 : W.cell? ⟨bp, 0, none⟩ = some (.int .i64 p)) (h1 : W.cell? ⟨bi, 0, none⟩ = some (.int .i64 iv)) (h2 : W.cell? ⟨ba, 0, none⟩ = some (.slice (some ⟨g, off, none⟩) n cap))
    (hM : MatC W g off n n F) (i k : Nat) (hi : i < n) (hk : k < n) (hF : 0 ≤ F i k ∧ F i k < p) :
    Calls Try.prog 117 #[.int .i64 i, .int .i64 k, .pointer (some ⟨bp, 0, none⟩), .pointer (some ⟨bi, 0, none⟩), .pointer (some ⟨ba, 0, none⟩)] W fun e w' => e = .returned (.int .i64 (F i k * iv % p)) ∧ Below W.heap.size W w' := by
  obtain ⟨h, o, cp, q1, q2, q3⟩ := hM.2 i hi
  have q4 := q3 k hk
  have hip : (i : Int) < (n : Int) := by omega
  have hkp : (k : Int) < (n : Int) := by omega
  have hi0 : (0 : Int) ≤ (i : Int) := by omega
  have hk0 : (0 : Int) ≤ (k : Int) := by omega
  have HV := Lib.hid (show mulV p iv (F i k) = F i k * iv % p from by rw [mulV_el hp hv hF, Int.mul_comm])
  obtain ⟨x, hx⟩ : ∃ x, x = F i k := ⟨_, rfl⟩
  rw [← hx] at q4 HV ⊢
  have HS := Lib.hid (show W.drew.cell? ⟨bp, 0, none⟩ = some (.int .i64 p) ∧ W.drew.cell? ⟨bi, 0, none⟩ = some (.int .i64 iv) ∧ W.drew.cell? ⟨ba, 0, none⟩ = some (.slice (some ⟨g, off, none⟩) n cap) ∧ W.drew.cell? ⟨g, off + i, none⟩ = some (.slice (some ⟨h, o, none⟩) n cp) ∧ W.drew.cell? ⟨h, o + k, none⟩ = some (.int .i64 x) from ⟨h0, h1, h2, q1, q4⟩)
  have hb1 := hM.1
  have e0 : bp < W.heap.size := World.block_lt_of_cell? W ⟨bp, 0, none⟩ h0
  have e1 : bi < W.heap.size := World.block_lt_of_cell? W ⟨bi, 0, none⟩ h1
  have e2 : ba < W.heap.size := World.block_lt_of_cell? W ⟨ba, 0, none⟩ h2
  have HK := Lib.hid (fun w' (hb : Below W.heap.size W w') => show w'.cell? ⟨bp, 0, none⟩ = some (.int .i64 p) ∧ w'.cell? ⟨bi, 0, none⟩ = some (.int .i64 iv) ∧ w'.cell? ⟨ba, 0, none⟩ = some (.slice (some ⟨g, off, none⟩) n cap) ∧ w'.cell? ⟨g, off + i, none⟩ = some (.slice (some ⟨h, o, none⟩) n cp) ∧ w'.cell? ⟨h, o + k, none⟩ = some (.int .i64 x) from
    ⟨(hb.cell (p := ⟨bp, 0, none⟩) e0).trans h0, (hb.cell (p := ⟨bi, 0, none⟩) e1).trans h1, (hb.cell (p := ⟨ba, 0, none⟩) e2).trans h2, (hb.cell (p := ⟨g, off + i, none⟩) hb1).trans q1, (hb.cell (p := ⟨h, o + k, none⟩) q2.1).trans q4⟩)
  clear hx q3 q4 hM hp h0 h1 h2 q1 hF hv
  go_enter Try.func117, Try.ntmps117
  go_wp2_with fail
  refine wp_region_seq [(0, true), (1, true), (2, true), (3, true), (4, true), (5, true), (6, true), (7, true), (8, true), (9, false)] (fun w' => w'.cell? ⟨bp, 0, none⟩ = some (.int .i64 p) ∧ w'.cell? ⟨bi, 0, none⟩ = some (.int .i64 iv) ∧ w'.cell? ⟨ba, 0, none⟩ = some (.slice (some ⟨g, off, none⟩) n cap) ∧ w'.cell? ⟨g, off + i, none⟩ = some (.slice (some ⟨h, o, none⟩) n cp) ∧ w'.cell? ⟨h, o + k, none⟩ = some (.int .i64 x)) (by kernel_rfl) (by kernel_rfl) rfl (by intro c a d v w h; cases d <;> exact h) HS.out ?_
  iterate 9 (refine wpSeq_take (v := ?_) (List.getElem?_toArray.trans rfl) ?_ ?_; rotate_left; (intro w' hSw; (try dsimp only at hSw); go_simp; (try with_reducible rfl)); (try simp only [Act.put, List.setIfInBounds_toArray, List.set_cons_zero, List.set_cons_succ]))
  refine wpSeq_do (List.getElem?_toArray.trans rfl) (fun K hK => ?_)
  go_simp
  refine (iMul p iv x _).mono ?_
  rintro e w5 ⟨rfl, hb5⟩
  have hb6 : Below W.heap.size W w5 := (Below.drew (Below.refl _ _) : Below W.heap.size W W.drew).trans (hb5.mono (by simp))
  refine hK _ _ (HK.out _ hb6) ?_
  clear hK K
  refine wpSeq_nil ?_
  simp only [Exit.then]
  have HB := Lib.hid hb6
  clear hb5 hb6
  go_wp2_with fail
  go_ret
  exact ⟨ret_int HV.out, HB.out⟩
theorem enInv (args : Array Value) (w : World) : (callFunc 117 args).run Try.prog w = .ok (.enter 117 args) w := enters_of Try.func117 (by kernel_rfl) rfl args w
end Go.Proofs.Ytlcmddghppdmgaa
namespace Go.Proofs.Ytlcmddghppdmgaa
set_option linter.unusedVariables false
set_option linter.unusedSimpArgs false
def sumI (g : Nat → Int) : Nat → Int
  | 0 => 0
  | j + 1 => sumI g j + g j
theorem sumE_I (p : Int) (f g : Nat → Int) : ∀ m, (∀ j, j < m → f j % p = g j % p) → sumE p f m = sumI g m % p
  | 0, _ => by simp [sumE, sumI]
  | m + 1, h => by
    show (sumE p f m + f m) % p = (sumI g m + g m) % p
    rw [sumE_I p f g m (fun j hj => h j (by omega)), Int.emod_add_emod, Int.add_emod, h m (by omega), ← Int.add_emod]
theorem rowZ_I (n : Nat) (f g : Nat → Nat → Int) (i k : Nat) : ∀ m, rowZ n f g i k m = sumI (fun q => f i q * g q k) m
  | 0 => rfl
  | m + 1 => by show rowZ n f g i k m + _ = sumI _ m + _; rw [rowZ_I n f g i k m]
theorem sumI_mul (c : Int) (g : Nat → Int) : ∀ m, sumI (fun q => g q * c) m = sumI g m * c
  | 0 => by simp [sumI]
  | m + 1 => by show sumI _ m + g m * c = (sumI g m + g m) * c; rw [sumI_mul c g m, Int.add_mul]
theorem adjR (n : Nat) (h1 : 1 ≤ n) (h4 : n ≤ 4) (f : Nat → Nat → Int) (i k : Nat) (hi : i < n) (hk : k < n) : sumI (fun q => f i q * cofZ n f k q) n = if i = k then lapZ true n f else 0 := by
  rw [← rowZ_I n f (fun a b => cofZ n f b a) i k n]
  rcases (show n = 1 ∨ n = 2 ∨ n = 3 ∨ n = 4 by omega) with rfl | rfl | rfl | rfl
  · exact adjR1 f i k hi hk
  · exact adjR2 f i k hi hk
  · exact adjR3 f i k hi hk
  · exact adjR4 f i k hi hk
theorem adjL (n : Nat) (h1 : 1 ≤ n) (h4 : n ≤ 4) (f : Nat → Nat → Int) (i k : Nat) (hi : i < n) (hk : k < n) : sumI (fun q => cofZ n f q i * f q k) n = if i = k then lapZ true n f else 0 := by
  rw [← rowZ_I n (fun a b => cofZ n f b a) f i k n]
  rcases (show n = 1 ∨ n = 2 ∨ n = 3 ∨ n = 4 by omega) with rfl | rfl | rfl | rfl
  · exact adjL1 f i k hi hk
  · exact adjL2 f i k hi hk
  · exact adjL3 f i k hi hk
  · exact adjL4 f i k hi hk
theorem cofE_Z (p : Int) (n : Nat) (E : Nat → Nat → Int) (r c : Nat) : cofE p n E r c = cofZ n E r c % p := by
  unfold cofE cofZ
  by_cases h : (r + c) % 2 = 1
  · rw [if_pos h, if_pos h]
    obtain ⟨d, hd⟩ := modd (p := p) (lapZ true (n - 1) (minE E r c))
    rw [hd]
    exact mod_of (d := d) (by grind)
  · rw [if_neg h, if_neg h, Int.one_mul]
theorem mm_adj {p : Int} (n : Nat) (h1 : 1 ≤ n) (h4 : n ≤ 4) (E : Nat → Nat → Int) (i k : Nat) (hi : i < n) (hk : k < n) : mmE p n E (fun a b => cofE p n E b a) i k = (if i = k then lapZ true n E else 0) % p := by
  unfold mmE
  rw [sumE_I p _ (fun q => E i q * cofZ n E k q) n (fun j hj => by show E i j * cofE p n E k j % p = _; rw [cofE_Z, Int.mul_emod, Int.emod_emod, ← Int.mul_emod]), adjR n h1 h4 E i k hi hk]
theorem mm_one {p iv L : Int} (hp : 2 ≤ p) (h : L * iv % p = 1) (i k : Nat) : (if i = k then L else 0) * iv % p = onesE i k := by
  unfold onesE
  by_cases e : i = k
  · rw [if_pos e, if_pos e, h]
  · rw [if_neg e, if_neg e]; simp
theorem mm_invR {p iv : Int} (hp : 2 ≤ p) (n : Nat) (h1 : 1 ≤ n) (h4 : n ≤ 4) (E : Nat → Nat → Int) (hiv : lapZ true n E * iv % p = 1) (i k : Nat) (hi : i < n) (hk : k < n) : mmE p n E (invE p n E iv) i k = onesE i k := by
  unfold mmE
  rw [sumE_I p _ (fun q => E i q * cofZ n E k q * iv) n (fun j hj => by
    unfold invE
    rw [cofE_Z, Int.mul_emod, Int.emod_emod, Int.mul_emod (cofZ n E k j % p), Int.emod_emod, ← Int.mul_emod (cofZ n E k j), ← Int.mul_emod, Int.mul_assoc]), sumI_mul, adjR n h1 h4 E i k hi hk, mm_one hp hiv]
theorem mm_invL {p iv : Int} (hp : 2 ≤ p) (n : Nat) (h1 : 1 ≤ n) (h4 : n ≤ 4) (E : Nat → Nat → Int) (hiv : lapZ true n E * iv % p = 1) (i k : Nat) (hi : i < n) (hk : k < n) : mmE p n (invE p n E iv) E i k = onesE i k := by
  unfold mmE
  rw [sumE_I p _ (fun q => cofZ n E q i * E q k * iv) n (fun j hj => by
    unfold invE
    rw [cofE_Z, Int.mul_emod, Int.emod_emod, Int.mul_emod (cofZ n E j i % p), Int.emod_emod, ← Int.mul_emod (cofZ n E j i), ← Int.mul_emod, Int.mul_assoc, Int.mul_comm iv, ← Int.mul_assoc]), sumI_mul, adjL n h1 h4 E i k hi hk, mm_one hp hiv]
/-- what the inverse of an element does -/
theorem ivV_mul {p d : Int} (hp : isP p = true) (h0 : 1 ≤ d) (h1 : d < p) : d * ivV p d % p = 1 := by
  obtain ⟨v1, _, _⟩ := ivV_bd hp (by omega) h1
  have hs := (inv_fact hp (show 0 ≤ d by omega) h1).1
  have hs : (invO p d).isSome = true := by rw [hs]; simp; omega
  obtain ⟨b, hb⟩ := Option.isSome_iff_exists.1 hs
  rw [v1, hb]
  have := List.find?_some (show (List.range p.toNat).find? (fun n : Nat => d * (n : Int) % p == 1) = some b from hb)
  simpa using this
theorem det_iv {p : Int} {n : Nat} {E : Nat → Nat → Int} (hp : isP p = true) (h : 1 ≤ lapZ true n E % p) : lapZ true n E * ivV p (lapZ true n E % p) % p = 1 := by
  have hb := isP_bd hp
  have := ivV_mul hp h (Int.emod_lt_of_pos _ (by omega))
  rwa [Int.mul_emod, Int.emod_emod, ← Int.mul_emod] at this
end Go.Proofs.Ytlcmddghppdmgaa
namespace Go.Proofs.Ytlcmddghppdmgaa
set_option linter.unusedVariables false
open Go.RowKit Go.Shelf
set_option maxRecDepth 100000 in
set_option maxHeartbeats 2000000 in
theorem iInvM_no (p : Int) (v : Value) (M : List (List Int)) (w : World) (h : Mat w v M) (hS : sqB p M = false) :
    Calls Try.prog 46 #[.int .i64 p, v] w fun e w' => ∃ u, e = .returned (.tuple #[u, .bool (invB p M)]) ∧ OwnMat w' w.heap.size u (invV p M) ∧ Below w.heap.size w w' := by
  obtain ⟨W, hW⟩ : ∃ W, W = w.alloc (.cells #[.int .i64 p] 3) := ⟨_, rfl⟩
  have hbW : Below w.heap.size w W := by rw [hW]; exact Below.alloc (Below.refl _ _) (Nat.le_refl _) _
  have hWs : W.heap.size = w.heap.size + 1 := by rw [hW]; simp
  have hW0 : W.cell? ⟨w.heap.size, 0, none⟩ = some (.int .i64 p) := by rw [hW]; exact World.cell?_alloc_at _ _ _ _ rfl
  have HA := Lib.hid (iAdj p v M W (h.below hbW))
  have HDW := Lib.hid (fun w' (hb : Below W.heap.size W w') => iDet p v M w' ((h.below hbW).below hb))
  rw [hS] at HA
  have HWE := Lib.hid hW
  have HBW := Lib.hid hbW
  have hB : invB p M = false := by
    cases e : invB p M
    · rfl
    · rw [invB_sq e] at hS; cases hS
  have HV := Lib.hid (show invV p M = [] by simp [invV, hB])
  rw [hB]
  obtain ⟨d, hd⟩ : ∃ d, d = detV true p M := ⟨_, rfl⟩
  rw [← hd] at HDW
  obtain ⟨_, _, a, cap, rfl, _⟩ := h
  obtain ⟨m, hm⟩ : ∃ m, m = M.length := ⟨_, rfl⟩
  rw [← hm] at HA HDW ⊢
  clear hS hB hd hW hbW hm
  go_enter Try.func46, Try.ntmps46
  go_wp2_with fail
  rw [← HWE.out]
  go_wp2_with fail
  refine HA.out.mono ?_
  rintro e w1 ⟨u, rfl, ho, hb1⟩
  obtain ⟨_, _, a1, c1, rfl, _⟩ := ho
  obtain ⟨m1, hm1⟩ : ∃ m1, m1 = (adjV p M).length := ⟨_, rfl⟩
  rw [← hm1]
  clear hm1
  have hz1 := hb1.size
  have HB1 := Lib.hid hb1
  have h1W : w1.cell? ⟨w.heap.size, 0, none⟩ = some (.int .i64 p) := (hb1.cell (p := ⟨w.heap.size, 0, none⟩) (by show w.heap.size < _; omega)).trans hW0
  clear hb1
  go_wp2_with fail
  obtain ⟨W3, hW3⟩ : ∃ W3, W3 = w1.alloc (Obj.cells #[(.slice a1 m1 c1)] 35) := ⟨_, rfl⟩
  have b31 : Below w1.heap.size w1 W3 := by rw [hW3]; exact Below.alloc (Below.refl _ _) (Nat.le_refl _) _
  have s3 : W3.heap.size = w1.heap.size + 1 := by rw [hW3]; simp
  have c3 : W3.cell? ⟨w1.heap.size, 0, none⟩ = some (.slice a1 m1 c1) := by rw [hW3]; exact World.cell?_alloc_at _ _ _ _ rfl
  have HB3 := Lib.hid (show Below w.heap.size w W3 from HBW.out.trans ((HB1.out.mono (by omega)).trans (b31.mono (by omega))))
  have HDET := Lib.hid (fun w' (hb : Below W3.heap.size W3 w') => HDW.out w' (HB1.out.trans ((b31.mono (by omega)).trans (hb.mono (by omega)))))
  have HKP := Lib.hid (fun w' (hb : Below W3.heap.size W3 w') => show w'.cell? ⟨w.heap.size, 0, none⟩ = some (.int .i64 p) from
    (hb.cell (p := ⟨w.heap.size, 0, none⟩) (by show w.heap.size < _; omega)).trans ((b31.cell (p := ⟨w.heap.size, 0, none⟩) (by show w.heap.size < _; omega)).trans h1W))
  rw [← hW3]
  clear hW3 b31 c3 h1W hW0
  refine wp_region_plan (.take 0 (.take 1 (.take 2 (.two 3 8 (.two 4 8 (.take 5 (.take 6 (.take 7 (.one 8 (.one 9 .fin))))) (.one 4 (.take 5 (.take 6 (.take 7 (.one 9 .fin)))))) (.one 3 (.one 4 (.take 5 (.take 6 (.take 7 (.one 9 .fin)))))))))) (fun w' => w'.cell? ⟨w.heap.size, 0, none⟩ = some (.int .i64 p)) (by kernel_rfl) (by kernel_rfl) rfl (by intro c a d v w h; cases d <;> exact h) (HKP.out _ (Below.drew (Below.refl _ _))) ?_
  have b4 : Below W3.heap.size W3 W3.drew := Below.drew (Below.refl _ _)
  obtain ⟨W4, hW4⟩ : ∃ W4, W4 = W3.drew := ⟨_, rfl⟩
  rw [← hW4] at b4 ⊢
  clear hW4
  iterate 3 (refine wpPlan_take (v := ?_) (List.getElem?_toArray.trans rfl) ?_ ?_; rotate_left; (intro w' hSw; (try dsimp only at hSw); go_simp; (try with_reducible rfl)); (try simp only [Act.put, List.setIfInBounds_toArray, List.set_cons_zero, List.set_cons_succ]))
  refine wpPlan_two ?_ ?_
  · skip
    refine wpPlan_do (List.getElem?_toArray.trans rfl) (fun K hK => ?_)
    go_simp
    refine (HDET.out _ b4).mono ?_
    rintro e w5 ⟨rfl, hb5⟩
    have b5 : Below W3.heap.size W3 w5 := b4.trans (hb5.mono b4.size)
    refine hK _ _ (HKP.out _ b5) ?_
    clear hK K
    refine wpPlan_two ?_ ?_
    · skip
      refine wpPlan_do (List.getElem?_toArray.trans rfl) (fun K hK => ?_)
      go_simp
      refine (iInverse p d _).mono ?_
      rintro e w6 ⟨rfl, hb6⟩
      have b6 : Below W3.heap.size W3 w6 := b5.trans (hb6.mono b5.size)
      refine hK _ _ (HKP.out _ b6) ?_
      clear hK K
      iterate 3 (refine wpPlan_take (v := ?_) (List.getElem?_toArray.trans rfl) ?_ ?_; rotate_left; (intro w' hSw; (try dsimp only at hSw); go_simp; (try with_reducible rfl)); (try simp only [Act.put, List.setIfInBounds_toArray, List.set_cons_zero, List.set_cons_succ]))
      refine wpPlan_do (List.getElem?_toArray.trans rfl) (fun K hK => ?_)
      go_simp
      refine hK _ _ (HKP.out _ (Below.alloc b6 b6.size _)) ?_
      clear hK K
      obtain ⟨W7, hW7⟩ : ∃ W7, W7 = w6.alloc (Obj.cells #[.int .i64 0] 3) := ⟨_, rfl⟩
      have b7 : Below W3.heap.size W3 W7 := by rw [hW7]; exact Below.alloc b6 b6.size _
      have cI : W7.cell? ⟨w6.heap.size, 0, none⟩ = some (.int .i64 0) := by rw [hW7]; exact World.cell?_alloc_at _ _ _ _ rfl
      have fI : W7.frozen? ⟨w6.heap.size, 0, none⟩ = false := by rw [hW7]; exact World.frozen?_alloc_at _ _ _ _ rfl
      have sI : w6.heap.size < W7.heap.size := by rw [hW7]; simp
      have lI : W3.heap.size ≤ w6.heap.size := b6.size
      rw [← hW7]
      obtain ⟨bI, hbI⟩ : ∃ bI, bI = w6.heap.size := ⟨_, rfl⟩
      rw [← hbI] at cI fI sI lI ⊢
      clear hW7 hbI
      refine wpPlan_do (List.getElem?_toArray.trans rfl) (fun K hK => ?_)
      go_simp
      refine hK _ _ (HKP.out _ (b7.setCell (by show W3.heap.size ≤ bI; omega) _)) ?_
      clear hK K
      obtain ⟨W9, hW9⟩ : ∃ W9, W9 = W7.setCell ⟨bI, 0, none⟩ (.int .i64 (ivV p d)) := ⟨_, rfl⟩
      have HB9 := Lib.hid (show Below W3.heap.size W3 W9 from by rw [hW9]; exact b7.setCell (by show W3.heap.size ≤ bI; omega) _)
      have HC9 := Lib.hid (show W9.cell? ⟨bI, 0, none⟩ = some (.int .i64 (ivV p d)) ∧ bI < W9.heap.size from by rw [hW9]; exact ⟨World.cell?_setCell_same _ _ _ cI, by simpa using sI⟩)
      rw [← hW9]
      clear hW9
      refine wpPlan_fin ?_
      simp only [Exit.then]
      clear b4 b5 b6 b7 cI fI sI lI hb5 hb6
      go_wp2_with fail
      rw [HV.out]
      refine bodyPost_ret (v := .tuple #[.slice none 0 0, .bool false]) (by simp [results, Try.results46, go_sem]) rfl ⟨_, rfl, OwnMat.nil _ _ _ _, HB3.out.trans (HB9.out.mono HB3.out.size)⟩
    · skip
      refine wpPlan_do (List.getElem?_toArray.trans rfl) (fun K hK => ?_)
      go_simp
      refine hK _ _ (HKP.out _ (Below.alloc b5 b5.size _)) ?_
      clear hK K
      obtain ⟨W7, hW7⟩ : ∃ W7, W7 = w5.alloc (Obj.cells #[.int .i64 0] 3) := ⟨_, rfl⟩
      have b7 : Below W3.heap.size W3 W7 := by rw [hW7]; exact Below.alloc b5 b5.size _
      have cI : W7.cell? ⟨w5.heap.size, 0, none⟩ = some (.int .i64 0) := by rw [hW7]; exact World.cell?_alloc_at _ _ _ _ rfl
      have fI : W7.frozen? ⟨w5.heap.size, 0, none⟩ = false := by rw [hW7]; exact World.frozen?_alloc_at _ _ _ _ rfl
      have sI : w5.heap.size < W7.heap.size := by rw [hW7]; simp
      have lI : W3.heap.size ≤ w5.heap.size := b5.size
      rw [← hW7]
      obtain ⟨bI, hbI⟩ : ∃ bI, bI = w5.heap.size := ⟨_, rfl⟩
      rw [← hbI] at cI fI sI lI ⊢
      clear hW7 hbI
      refine wpPlan_do (List.getElem?_toArray.trans rfl) (fun K hK => ?_)
      go_simp
      refine (iInverse p d _).mono ?_
      rintro e w6 ⟨rfl, hb6⟩
      have b6 : Below W3.heap.size W3 w6 := b7.trans (hb6.mono b7.size)
      have cI : w6.cell? ⟨bI, 0, none⟩ = some (.int .i64 0) := (hb6.cell (p := ⟨bI, 0, none⟩) sI).trans cI
      have fI : w6.frozen? ⟨bI, 0, none⟩ = false := (hb6.frozen (p := ⟨bI, 0, none⟩) sI).trans fI
      have sI : bI < w6.heap.size := Nat.lt_of_lt_of_le sI hb6.size
      refine hK _ _ (HKP.out _ b6) ?_
      clear hK K
      iterate 3 (refine wpPlan_take (v := ?_) (List.getElem?_toArray.trans rfl) ?_ ?_; rotate_left; (intro w' hSw; (try dsimp only at hSw); go_simp; (try with_reducible rfl)); (try simp only [Act.put, List.setIfInBounds_toArray, List.set_cons_zero, List.set_cons_succ]))
      refine wpPlan_do (List.getElem?_toArray.trans rfl) (fun K hK => ?_)
      go_simp
      refine hK _ _ (HKP.out _ (b6.setCell (by show W3.heap.size ≤ bI; omega) _)) ?_
      clear hK K
      obtain ⟨W9, hW9⟩ : ∃ W9, W9 = w6.setCell ⟨bI, 0, none⟩ (.int .i64 (ivV p d)) := ⟨_, rfl⟩
      have HB9 := Lib.hid (show Below W3.heap.size W3 W9 from by rw [hW9]; exact b6.setCell (by show W3.heap.size ≤ bI; omega) _)
      have HC9 := Lib.hid (show W9.cell? ⟨bI, 0, none⟩ = some (.int .i64 (ivV p d)) ∧ bI < W9.heap.size from by rw [hW9]; exact ⟨World.cell?_setCell_same _ _ _ cI, by simpa using sI⟩)
      rw [← hW9]
      clear hW9
      refine wpPlan_fin ?_
      simp only [Exit.then]
      clear b4 b5 b6 b7 cI fI sI lI hb5 hb6
      go_wp2_with fail
      rw [HV.out]
      refine bodyPost_ret (v := .tuple #[.slice none 0 0, .bool false]) (by simp [results, Try.results46, go_sem]) rfl ⟨_, rfl, OwnMat.nil _ _ _ _, HB3.out.trans (HB9.out.mono HB3.out.size)⟩
  · skip
    refine wpPlan_do (List.getElem?_toArray.trans rfl) (fun K hK => ?_)
    go_simp
    refine hK _ _ (HKP.out _ (Below.alloc b4 b4.size _)) ?_
    clear hK K
    obtain ⟨W7, hW7⟩ : ∃ W7, W7 = W4.alloc (Obj.cells #[.int .i64 0] 3) := ⟨_, rfl⟩
    have b7 : Below W3.heap.size W3 W7 := by rw [hW7]; exact Below.alloc b4 b4.size _
    have cI : W7.cell? ⟨W4.heap.size, 0, none⟩ = some (.int .i64 0) := by rw [hW7]; exact World.cell?_alloc_at _ _ _ _ rfl
    have fI : W7.frozen? ⟨W4.heap.size, 0, none⟩ = false := by rw [hW7]; exact World.frozen?_alloc_at _ _ _ _ rfl
    have sI : W4.heap.size < W7.heap.size := by rw [hW7]; simp
    have lI : W3.heap.size ≤ W4.heap.size := b4.size
    rw [← hW7]
    obtain ⟨bI, hbI⟩ : ∃ bI, bI = W4.heap.size := ⟨_, rfl⟩
    rw [← hbI] at cI fI sI lI ⊢
    clear hW7 hbI
    refine wpPlan_do (List.getElem?_toArray.trans rfl) (fun K hK => ?_)
    go_simp
    refine (HDET.out _ b7).mono ?_
    rintro e w5 ⟨rfl, hb5⟩
    have b5 : Below W3.heap.size W3 w5 := b7.trans (hb5.mono b7.size)
    have cI : w5.cell? ⟨bI, 0, none⟩ = some (.int .i64 0) := (hb5.cell (p := ⟨bI, 0, none⟩) sI).trans cI
    have fI : w5.frozen? ⟨bI, 0, none⟩ = false := (hb5.frozen (p := ⟨bI, 0, none⟩) sI).trans fI
    have sI : bI < w5.heap.size := Nat.lt_of_lt_of_le sI hb5.size
    refine hK _ _ (HKP.out _ b5) ?_
    clear hK K
    refine wpPlan_do (List.getElem?_toArray.trans rfl) (fun K hK => ?_)
    go_simp
    refine (iInverse p d _).mono ?_
    rintro e w6 ⟨rfl, hb6⟩
    have b6 : Below W3.heap.size W3 w6 := b5.trans (hb6.mono b5.size)
    have cI : w6.cell? ⟨bI, 0, none⟩ = some (.int .i64 0) := (hb6.cell (p := ⟨bI, 0, none⟩) sI).trans cI
    have fI : w6.frozen? ⟨bI, 0, none⟩ = false := (hb6.frozen (p := ⟨bI, 0, none⟩) sI).trans fI
    have sI : bI < w6.heap.size := Nat.lt_of_lt_of_le sI hb6.size
    refine hK _ _ (HKP.out _ b6) ?_
    clear hK K
    iterate 3 (refine wpPlan_take (v := ?_) (List.getElem?_toArray.trans rfl) ?_ ?_; rotate_left; (intro w' hSw; (try dsimp only at hSw); go_simp; (try with_reducible rfl)); (try simp only [Act.put, List.setIfInBounds_toArray, List.set_cons_zero, List.set_cons_succ]))
    refine wpPlan_do (List.getElem?_toArray.trans rfl) (fun K hK => ?_)
    go_simp
    refine hK _ _ (HKP.out _ (b6.setCell (by show W3.heap.size ≤ bI; omega) _)) ?_
    clear hK K
    obtain ⟨W9, hW9⟩ : ∃ W9, W9 = w6.setCell ⟨bI, 0, none⟩ (.int .i64 (ivV p d)) := ⟨_, rfl⟩
    have HB9 := Lib.hid (show Below W3.heap.size W3 W9 from by rw [hW9]; exact b6.setCell (by show W3.heap.size ≤ bI; omega) _)
    have HC9 := Lib.hid (show W9.cell? ⟨bI, 0, none⟩ = some (.int .i64 (ivV p d)) ∧ bI < W9.heap.size from by rw [hW9]; exact ⟨World.cell?_setCell_same _ _ _ cI, by simpa using sI⟩)
    rw [← hW9]
    clear hW9
    refine wpPlan_fin ?_
    simp only [Exit.then]
    clear b4 b5 b6 b7 cI fI sI lI hb5 hb6
    go_wp2_with fail
    rw [HV.out]
    refine bodyPost_ret (v := .tuple #[.slice none 0 0, .bool false]) (by simp [results, Try.results46, go_sem]) rfl ⟨_, rfl, OwnMat.nil _ _ _ _, HB3.out.trans (HB9.out.mono HB3.out.size)⟩
set_option maxRecDepth 100000 in
set_option maxHeartbeats 2000000 in
theorem iInvM_zero (p : Int) (v : Value) (M : List (List Int)) (w : World) (h : Mat w v M) (hS : sqB p M = true) (hB : invB p M = false) :
    Calls Try.prog 46 #[.int .i64 p, v] w fun e w' => ∃ u, e = .returned (.tuple #[u, .bool (invB p M)]) ∧ OwnMat w' w.heap.size u (invV p M) ∧ Below w.heap.size w w' := by
  obtain ⟨W, hW⟩ : ∃ W, W = w.alloc (.cells #[.int .i64 p] 3) := ⟨_, rfl⟩
  have hbW : Below w.heap.size w W := by rw [hW]; exact Below.alloc (Below.refl _ _) (Nat.le_refl _) _
  have hWs : W.heap.size = w.heap.size + 1 := by rw [hW]; simp
  have hW0 : W.cell? ⟨w.heap.size, 0, none⟩ = some (.int .i64 p) := by rw [hW]; exact World.cell?_alloc_at _ _ _ _ rfl
  have HA := Lib.hid (iAdj p v M W (h.below hbW))
  have HDW := Lib.hid (fun w' (hb : Below W.heap.size W w') => iDet p v M w' ((h.below hbW).below hb))
  rw [hS] at HA
  have HWE := Lib.hid hW
  have HBW := Lib.hid hbW
  have HV := Lib.hid (show invV p M = [] by simp [invV, hB])
  have hiB := invB_iv hS
  rw [hB] at hiB ⊢
  obtain ⟨d, hd⟩ : ∃ d, d = detV true p M := ⟨_, rfl⟩
  rw [← hd] at HDW hiB
  obtain ⟨_, _, a, cap, rfl, _⟩ := h
  obtain ⟨m, hm⟩ : ∃ m, m = M.length := ⟨_, rfl⟩
  rw [← hm] at HA HDW ⊢
  have HIB := Lib.hid hiB
  clear hS hB hd hW hbW hm hiB
  go_enter Try.func46, Try.ntmps46
  go_wp2_with fail
  rw [← HWE.out]
  go_wp2_with fail
  refine HA.out.mono ?_
  rintro e w1 ⟨u, rfl, ho, hb1⟩
  obtain ⟨_, _, a1, c1, rfl, _⟩ := ho
  obtain ⟨m1, hm1⟩ : ∃ m1, m1 = (adjV p M).length := ⟨_, rfl⟩
  rw [← hm1]
  clear hm1
  have hz1 := hb1.size
  have HB1 := Lib.hid hb1
  have h1W : w1.cell? ⟨w.heap.size, 0, none⟩ = some (.int .i64 p) := (hb1.cell (p := ⟨w.heap.size, 0, none⟩) (by show w.heap.size < _; omega)).trans hW0
  clear hb1
  go_wp2_with fail
  obtain ⟨W3, hW3⟩ : ∃ W3, W3 = w1.alloc (Obj.cells #[(.slice a1 m1 c1)] 35) := ⟨_, rfl⟩
  have b31 : Below w1.heap.size w1 W3 := by rw [hW3]; exact Below.alloc (Below.refl _ _) (Nat.le_refl _) _
  have s3 : W3.heap.size = w1.heap.size + 1 := by rw [hW3]; simp
  have c3 : W3.cell? ⟨w1.heap.size, 0, none⟩ = some (.slice a1 m1 c1) := by rw [hW3]; exact World.cell?_alloc_at _ _ _ _ rfl
  have HB3 := Lib.hid (show Below w.heap.size w W3 from HBW.out.trans ((HB1.out.mono (by omega)).trans (b31.mono (by omega))))
  have HDET := Lib.hid (fun w' (hb : Below W3.heap.size W3 w') => HDW.out w' (HB1.out.trans ((b31.mono (by omega)).trans (hb.mono (by omega)))))
  have HKP := Lib.hid (fun w' (hb : Below W3.heap.size W3 w') => show w'.cell? ⟨w.heap.size, 0, none⟩ = some (.int .i64 p) from
    (hb.cell (p := ⟨w.heap.size, 0, none⟩) (by show w.heap.size < _; omega)).trans ((b31.cell (p := ⟨w.heap.size, 0, none⟩) (by show w.heap.size < _; omega)).trans h1W))
  rw [← hW3]
  clear hW3 b31 c3 h1W hW0
  refine wp_region_plan (.take 0 (.take 1 (.take 2 (.two 3 8 (.two 4 8 (.take 5 (.take 6 (.take 7 (.one 8 (.one 9 .fin))))) (.one 4 (.take 5 (.take 6 (.take 7 (.one 9 .fin)))))) (.one 3 (.one 4 (.take 5 (.take 6 (.take 7 (.one 9 .fin)))))))))) (fun w' => w'.cell? ⟨w.heap.size, 0, none⟩ = some (.int .i64 p)) (by kernel_rfl) (by kernel_rfl) rfl (by intro c a d v w h; cases d <;> exact h) (HKP.out _ (Below.drew (Below.refl _ _))) ?_
  have b4 : Below W3.heap.size W3 W3.drew := Below.drew (Below.refl _ _)
  obtain ⟨W4, hW4⟩ : ∃ W4, W4 = W3.drew := ⟨_, rfl⟩
  rw [← hW4] at b4 ⊢
  clear hW4
  iterate 3 (refine wpPlan_take (v := ?_) (List.getElem?_toArray.trans rfl) ?_ ?_; rotate_left; (intro w' hSw; (try dsimp only at hSw); go_simp; (try with_reducible rfl)); (try simp only [Act.put, List.setIfInBounds_toArray, List.set_cons_zero, List.set_cons_succ]))
  refine wpPlan_two ?_ ?_
  · skip
    refine wpPlan_do (List.getElem?_toArray.trans rfl) (fun K hK => ?_)
    go_simp
    refine (HDET.out _ b4).mono ?_
    rintro e w5 ⟨rfl, hb5⟩
    have b5 : Below W3.heap.size W3 w5 := b4.trans (hb5.mono b4.size)
    refine hK _ _ (HKP.out _ b5) ?_
    clear hK K
    refine wpPlan_two ?_ ?_
    · skip
      refine wpPlan_do (List.getElem?_toArray.trans rfl) (fun K hK => ?_)
      go_simp
      refine (iInverse p d _).mono ?_
      rintro e w6 ⟨rfl, hb6⟩
      have b6 : Below W3.heap.size W3 w6 := b5.trans (hb6.mono b5.size)
      refine hK _ _ (HKP.out _ b6) ?_
      clear hK K
      iterate 3 (refine wpPlan_take (v := ?_) (List.getElem?_toArray.trans rfl) ?_ ?_; rotate_left; (intro w' hSw; (try dsimp only at hSw); go_simp; (try with_reducible rfl)); (try simp only [Act.put, List.setIfInBounds_toArray, List.set_cons_zero, List.set_cons_succ]))
      refine wpPlan_do (List.getElem?_toArray.trans rfl) (fun K hK => ?_)
      go_simp
      refine hK _ _ (HKP.out _ (Below.alloc b6 b6.size _)) ?_
      clear hK K
      obtain ⟨W7, hW7⟩ : ∃ W7, W7 = w6.alloc (Obj.cells #[.int .i64 0] 3) := ⟨_, rfl⟩
      have b7 : Below W3.heap.size W3 W7 := by rw [hW7]; exact Below.alloc b6 b6.size _
      have cI : W7.cell? ⟨w6.heap.size, 0, none⟩ = some (.int .i64 0) := by rw [hW7]; exact World.cell?_alloc_at _ _ _ _ rfl
      have fI : W7.frozen? ⟨w6.heap.size, 0, none⟩ = false := by rw [hW7]; exact World.frozen?_alloc_at _ _ _ _ rfl
      have sI : w6.heap.size < W7.heap.size := by rw [hW7]; simp
      have lI : W3.heap.size ≤ w6.heap.size := b6.size
      rw [← hW7]
      obtain ⟨bI, hbI⟩ : ∃ bI, bI = w6.heap.size := ⟨_, rfl⟩
      rw [← hbI] at cI fI sI lI ⊢
      clear hW7 hbI
      refine wpPlan_do (List.getElem?_toArray.trans rfl) (fun K hK => ?_)
      go_simp
      refine hK _ _ (HKP.out _ (b7.setCell (by show W3.heap.size ≤ bI; omega) _)) ?_
      clear hK K
      obtain ⟨W9, hW9⟩ : ∃ W9, W9 = W7.setCell ⟨bI, 0, none⟩ (.int .i64 (ivV p d)) := ⟨_, rfl⟩
      have HB9 := Lib.hid (show Below W3.heap.size W3 W9 from by rw [hW9]; exact b7.setCell (by show W3.heap.size ≤ bI; omega) _)
      have HC9 := Lib.hid (show W9.cell? ⟨bI, 0, none⟩ = some (.int .i64 (ivV p d)) ∧ bI < W9.heap.size from by rw [hW9]; exact ⟨World.cell?_setCell_same _ _ _ cI, by simpa using sI⟩)
      rw [← hW9]
      clear hW9
      refine wpPlan_fin ?_
      simp only [Exit.then]
      clear b4 b5 b6 b7 cI fI sI lI hb5 hb6
      have hiB := HIB.out
      go_wp2_with fail
      rw [HV.out]
      refine bodyPost_ret (v := .tuple #[.slice none 0 0, .bool false]) (by simp [results, Try.results46, go_sem]) rfl ⟨_, rfl, OwnMat.nil _ _ _ _, HB3.out.trans (HB9.out.mono HB3.out.size)⟩
    · skip
      refine wpPlan_do (List.getElem?_toArray.trans rfl) (fun K hK => ?_)
      go_simp
      refine hK _ _ (HKP.out _ (Below.alloc b5 b5.size _)) ?_
      clear hK K
      obtain ⟨W7, hW7⟩ : ∃ W7, W7 = w5.alloc (Obj.cells #[.int .i64 0] 3) := ⟨_, rfl⟩
      have b7 : Below W3.heap.size W3 W7 := by rw [hW7]; exact Below.alloc b5 b5.size _
      have cI : W7.cell? ⟨w5.heap.size, 0, none⟩ = some (.int .i64 0) := by rw [hW7]; exact World.cell?_alloc_at _ _ _ _ rfl
      have fI : W7.frozen? ⟨w5.heap.size, 0, none⟩ = false := by rw [hW7]; exact World.frozen?_alloc_at _ _ _ _ rfl
      have sI : w5.heap.size < W7.heap.size := by rw [hW7]; simp
      have lI : W3.heap.size ≤ w5.heap.size := b5.size
      rw [← hW7]
      obtain ⟨bI, hbI⟩ : ∃ bI, bI = w5.heap.size := ⟨_, rfl⟩
      rw [← hbI] at cI fI sI lI ⊢
      clear hW7 hbI
      refine wpPlan_do (List.getElem?_toArray.trans rfl) (fun K hK => ?_)
      go_simp
      refine (iInverse p d _).mono ?_
      rintro e w6 ⟨rfl, hb6⟩
      have b6 : Below W3.heap.size W3 w6 := b7.trans (hb6.mono b7.size)
      have cI : w6.cell? ⟨bI, 0, none⟩ = some (.int .i64 0) := (hb6.cell (p := ⟨bI, 0, none⟩) sI).trans cI
      have fI : w6.frozen? ⟨bI, 0, none⟩ = false := (hb6.frozen (p := ⟨bI, 0, none⟩) sI).trans fI
      have sI : bI < w6.heap.size := Nat.lt_of_lt_of_le sI hb6.size
      refine hK _ _ (HKP.out _ b6) ?_
      clear hK K
      iterate 3 (refine wpPlan_take (v := ?_) (List.getElem?_toArray.trans rfl) ?_ ?_; rotate_left; (intro w' hSw; (try dsimp only at hSw); go_simp; (try with_reducible rfl)); (try simp only [Act.put, List.setIfInBounds_toArray, List.set_cons_zero, List.set_cons_succ]))
      refine wpPlan_do (List.getElem?_toArray.trans rfl) (fun K hK => ?_)
      go_simp
      refine hK _ _ (HKP.out _ (b6.setCell (by show W3.heap.size ≤ bI; omega) _)) ?_
      clear hK K
      obtain ⟨W9, hW9⟩ : ∃ W9, W9 = w6.setCell ⟨bI, 0, none⟩ (.int .i64 (ivV p d)) := ⟨_, rfl⟩
      have HB9 := Lib.hid (show Below W3.heap.size W3 W9 from by rw [hW9]; exact b6.setCell (by show W3.heap.size ≤ bI; omega) _)
      have HC9 := Lib.hid (show W9.cell? ⟨bI, 0, none⟩ = some (.int .i64 (ivV p d)) ∧ bI < W9.heap.size from by rw [hW9]; exact ⟨World.cell?_setCell_same _ _ _ cI, by simpa using sI⟩)
      rw [← hW9]
      clear hW9
      refine wpPlan_fin ?_
      simp only [Exit.then]
      clear b4 b5 b6 b7 cI fI sI lI hb5 hb6
      have hiB := HIB.out
      go_wp2_with fail
      rw [HV.out]
      refine bodyPost_ret (v := .tuple #[.slice none 0 0, .bool false]) (by simp [results, Try.results46, go_sem]) rfl ⟨_, rfl, OwnMat.nil _ _ _ _, HB3.out.trans (HB9.out.mono HB3.out.size)⟩
  · skip
    refine wpPlan_do (List.getElem?_toArray.trans rfl) (fun K hK => ?_)
    go_simp
    refine hK _ _ (HKP.out _ (Below.alloc b4 b4.size _)) ?_
    clear hK K
    obtain ⟨W7, hW7⟩ : ∃ W7, W7 = W4.alloc (Obj.cells #[.int .i64 0] 3) := ⟨_, rfl⟩
    have b7 : Below W3.heap.size W3 W7 := by rw [hW7]; exact Below.alloc b4 b4.size _
    have cI : W7.cell? ⟨W4.heap.size, 0, none⟩ = some (.int .i64 0) := by rw [hW7]; exact World.cell?_alloc_at _ _ _ _ rfl
    have fI : W7.frozen? ⟨W4.heap.size, 0, none⟩ = false := by rw [hW7]; exact World.frozen?_alloc_at _ _ _ _ rfl
    have sI : W4.heap.size < W7.heap.size := by rw [hW7]; simp
    have lI : W3.heap.size ≤ W4.heap.size := b4.size
    rw [← hW7]
    obtain ⟨bI, hbI⟩ : ∃ bI, bI = W4.heap.size := ⟨_, rfl⟩
    rw [← hbI] at cI fI sI lI ⊢
    clear hW7 hbI
    refine wpPlan_do (List.getElem?_toArray.trans rfl) (fun K hK => ?_)
    go_simp
    refine (HDET.out _ b7).mono ?_
    rintro e w5 ⟨rfl, hb5⟩
    have b5 : Below W3.heap.size W3 w5 := b7.trans (hb5.mono b7.size)
    have cI : w5.cell? ⟨bI, 0, none⟩ = some (.int .i64 0) := (hb5.cell (p := ⟨bI, 0, none⟩) sI).trans cI
    have fI : w5.frozen? ⟨bI, 0, none⟩ = false := (hb5.frozen (p := ⟨bI, 0, none⟩) sI).trans fI
    have sI : bI < w5.heap.size := Nat.lt_of_lt_of_le sI hb5.size
    refine hK _ _ (HKP.out _ b5) ?_
    clear hK K
    refine wpPlan_do (List.getElem?_toArray.trans rfl) (fun K hK => ?_)
    go_simp
    refine (iInverse p d _).mono ?_
    rintro e w6 ⟨rfl, hb6⟩
    have b6 : Below W3.heap.size W3 w6 := b5.trans (hb6.mono b5.size)
    have cI : w6.cell? ⟨bI, 0, none⟩ = some (.int .i64 0) := (hb6.cell (p := ⟨bI, 0, none⟩) sI).trans cI
    have fI : w6.frozen? ⟨bI, 0, none⟩ = false := (hb6.frozen (p := ⟨bI, 0, none⟩) sI).trans fI
    have sI : bI < w6.heap.size := Nat.lt_of_lt_of_le sI hb6.size
    refine hK _ _ (HKP.out _ b6) ?_
    clear hK K
    iterate 3 (refine wpPlan_take (v := ?_) (List.getElem?_toArray.trans rfl) ?_ ?_; rotate_left; (intro w' hSw; (try dsimp only at hSw); go_simp; (try with_reducible rfl)); (try simp only [Act.put, List.setIfInBounds_toArray, List.set_cons_zero, List.set_cons_succ]))
    refine wpPlan_do (List.getElem?_toArray.trans rfl) (fun K hK => ?_)
    go_simp
    refine hK _ _ (HKP.out _ (b6.setCell (by show W3.heap.size ≤ bI; omega) _)) ?_
    clear hK K
    obtain ⟨W9, hW9⟩ : ∃ W9, W9 = w6.setCell ⟨bI, 0, none⟩ (.int .i64 (ivV p d)) := ⟨_, rfl⟩
    have HB9 := Lib.hid (show Below W3.heap.size W3 W9 from by rw [hW9]; exact b6.setCell (by show W3.heap.size ≤ bI; omega) _)
    have HC9 := Lib.hid (show W9.cell? ⟨bI, 0, none⟩ = some (.int .i64 (ivV p d)) ∧ bI < W9.heap.size from by rw [hW9]; exact ⟨World.cell?_setCell_same _ _ _ cI, by simpa using sI⟩)
    rw [← hW9]
    clear hW9
    refine wpPlan_fin ?_
    simp only [Exit.then]
    clear b4 b5 b6 b7 cI fI sI lI hb5 hb6
    have hiB := HIB.out
    go_wp2_with fail
    rw [HV.out]
    refine bodyPost_ret (v := .tuple #[.slice none 0 0, .bool false]) (by simp [results, Try.results46, go_sem]) rfl ⟨_, rfl, OwnMat.nil _ _ _ _, HB3.out.trans (HB9.out.mono HB3.out.size)⟩
set_option maxRecDepth 100000 in
set_option maxHeartbeats 2000000 in
theorem iInvM_yes (p : Int) (v : Value) (M : List (List Int)) (w : World) (h : Mat w v M) (hS : sqB p M = true) (hB : invB p M = true) :
    Calls Try.prog 46 #[.int .i64 p, v] w fun e w' => ∃ u, e = .returned (.tuple #[u, .bool (invB p M)]) ∧ OwnMat w' w.heap.size u (invV p M) ∧ Below w.heap.size w w' := by
  obtain ⟨W, hW⟩ : ∃ W, W = w.alloc (.cells #[.int .i64 p] 3) := ⟨_, rfl⟩
  have hbW : Below w.heap.size w W := by rw [hW]; exact Below.alloc (Below.refl _ _) (Nat.le_refl _) _
  have hWs : W.heap.size = w.heap.size + 1 := by rw [hW]; simp
  have hW0 : W.cell? ⟨w.heap.size, 0, none⟩ = some (.int .i64 p) := by rw [hW]; exact World.cell?_alloc_at _ _ _ _ rfl
  have HA := Lib.hid (iAdj p v M W (h.below hbW))
  have HDW := Lib.hid (fun w' (hb : Below W.heap.size W w') => iDet p v M w' ((h.below hbW).below hb))
  rw [hS] at HA
  have HWE := Lib.hid hW
  have HBW := Lib.hid hbW
  have hiB := invB_iv hS
  rw [hB] at hiB ⊢
  obtain ⟨hp, hd0, hd1⟩ := detV_bd hS
  obtain ⟨q1, q4⟩ := sqB_len hS
  obtain ⟨v1, v2⟩ := ivV_bd hp hd0 hd1
  obtain ⟨m, hm⟩ : ∃ m, m = M.length := ⟨_, rfl⟩
  have HV := Lib.hid (show invV p M = matF m (invE p m (el M) (ivV p (detV true p M))) m from by simp [invV, hB, hm])
  have hAV : adjV p M = matF m (fun a b => cofE p m (el M) b a) m := by simp [adjV, hS, hm]
  rw [hAV] at HA
  obtain ⟨d, hd⟩ : ∃ d, d = detV true p M := ⟨_, rfl⟩
  rw [← hd] at HDW hiB HV v2
  obtain ⟨_, _, a, cap, rfl, _⟩ := h
  rw [← hm] at HA HDW q1 q4 ⊢
  have HP := Lib.hid (And.intro hp v2)
  have HIB := Lib.hid hiB
  clear hS hB hd hW hbW hp hd0 hd1 v1 v2 hAV hm hiB
  go_enter Try.func46, Try.ntmps46
  go_wp2_with fail
  rw [← HWE.out]
  go_wp2_with fail
  refine HA.out.mono ?_
  rintro e w1 ⟨u, rfl, ho, hb1⟩
  obtain ⟨ga, oa, ca, rfl, hCa⟩ := ho.mat.cells (r := m) (c := m) (by rw [matF_len]) q1 q1 (fun i hi => by rw [matF_row hi]; simp)
  have HCa := Lib.hid hCa
  clear ho hCa
  have hz1 := hb1.size
  have HB1 := Lib.hid hb1
  have h1W : w1.cell? ⟨w.heap.size, 0, none⟩ = some (.int .i64 p) := (hb1.cell (p := ⟨w.heap.size, 0, none⟩) (by show w.heap.size < _; omega)).trans hW0
  clear hb1
  go_wp2_with fail
  obtain ⟨W3, hW3⟩ : ∃ W3, W3 = w1.alloc (Obj.cells #[(.slice (some ⟨ga, oa, none⟩) m ca)] 35) := ⟨_, rfl⟩
  have b31 : Below w1.heap.size w1 W3 := by rw [hW3]; exact Below.alloc (Below.refl _ _) (Nat.le_refl _) _
  have s3 : W3.heap.size = w1.heap.size + 1 := by rw [hW3]; simp
  have c3 : W3.cell? ⟨w1.heap.size, 0, none⟩ = some (.slice (some ⟨ga, oa, none⟩) m ca) := by rw [hW3]; exact World.cell?_alloc_at _ _ _ _ rfl
  have HB3 := Lib.hid (show Below w.heap.size w W3 from HBW.out.trans ((HB1.out.mono (by omega)).trans (b31.mono (by omega))))
  have HDET := Lib.hid (fun w' (hb : Below W3.heap.size W3 w') => HDW.out w' (HB1.out.trans ((b31.mono (by omega)).trans (hb.mono (by omega)))))
  have HKP := Lib.hid (fun w' (hb : Below W3.heap.size W3 w') => show w'.cell? ⟨w.heap.size, 0, none⟩ = some (.int .i64 p) from
    (hb.cell (p := ⟨w.heap.size, 0, none⟩) (by show w.heap.size < _; omega)).trans ((b31.cell (p := ⟨w.heap.size, 0, none⟩) (by show w.heap.size < _; omega)).trans h1W))
  have HC3 := Lib.hid (show MatC W3 ga oa m m (el (matF m (fun a b => cofE p m (el M) b a) m)) ∧ W3.cell? ⟨w1.heap.size, 0, none⟩ = some (.slice (some ⟨ga, oa, none⟩) m ca) from ⟨HCa.out.below b31, c3⟩)
  rw [← hW3]
  clear hW3 b31 c3 h1W hW0
  refine wp_region_plan (.take 0 (.take 1 (.take 2 (.two 3 8 (.two 4 8 (.take 5 (.take 6 (.take 7 (.one 8 (.one 9 .fin))))) (.one 4 (.take 5 (.take 6 (.take 7 (.one 9 .fin)))))) (.one 3 (.one 4 (.take 5 (.take 6 (.take 7 (.one 9 .fin)))))))))) (fun w' => w'.cell? ⟨w.heap.size, 0, none⟩ = some (.int .i64 p)) (by kernel_rfl) (by kernel_rfl) rfl (by intro c a d v w h; cases d <;> exact h) (HKP.out _ (Below.drew (Below.refl _ _))) ?_
  have b4 : Below W3.heap.size W3 W3.drew := Below.drew (Below.refl _ _)
  obtain ⟨W4, hW4⟩ : ∃ W4, W4 = W3.drew := ⟨_, rfl⟩
  rw [← hW4] at b4 ⊢
  clear hW4
  iterate 3 (refine wpPlan_take (v := ?_) (List.getElem?_toArray.trans rfl) ?_ ?_; rotate_left; (intro w' hSw; (try dsimp only at hSw); go_simp; (try with_reducible rfl)); (try simp only [Act.put, List.setIfInBounds_toArray, List.set_cons_zero, List.set_cons_succ]))
  refine wpPlan_two ?_ ?_
  · skip
    refine wpPlan_do (List.getElem?_toArray.trans rfl) (fun K hK => ?_)
    go_simp
    refine (HDET.out _ b4).mono ?_
    rintro e w5 ⟨rfl, hb5⟩
    have b5 : Below W3.heap.size W3 w5 := b4.trans (hb5.mono b4.size)
    refine hK _ _ (HKP.out _ b5) ?_
    clear hK K
    refine wpPlan_two ?_ ?_
    · skip
      refine wpPlan_do (List.getElem?_toArray.trans rfl) (fun K hK => ?_)
      go_simp
      refine (iInverse p d _).mono ?_
      rintro e w6 ⟨rfl, hb6⟩
      have b6 : Below W3.heap.size W3 w6 := b5.trans (hb6.mono b5.size)
      refine hK _ _ (HKP.out _ b6) ?_
      clear hK K
      iterate 3 (refine wpPlan_take (v := ?_) (List.getElem?_toArray.trans rfl) ?_ ?_; rotate_left; (intro w' hSw; (try dsimp only at hSw); go_simp; (try with_reducible rfl)); (try simp only [Act.put, List.setIfInBounds_toArray, List.set_cons_zero, List.set_cons_succ]))
      refine wpPlan_do (List.getElem?_toArray.trans rfl) (fun K hK => ?_)
      go_simp
      refine hK _ _ (HKP.out _ (Below.alloc b6 b6.size _)) ?_
      clear hK K
      obtain ⟨W7, hW7⟩ : ∃ W7, W7 = w6.alloc (Obj.cells #[.int .i64 0] 3) := ⟨_, rfl⟩
      have b7 : Below W3.heap.size W3 W7 := by rw [hW7]; exact Below.alloc b6 b6.size _
      have cI : W7.cell? ⟨w6.heap.size, 0, none⟩ = some (.int .i64 0) := by rw [hW7]; exact World.cell?_alloc_at _ _ _ _ rfl
      have fI : W7.frozen? ⟨w6.heap.size, 0, none⟩ = false := by rw [hW7]; exact World.frozen?_alloc_at _ _ _ _ rfl
      have sI : w6.heap.size < W7.heap.size := by rw [hW7]; simp
      have lI : W3.heap.size ≤ w6.heap.size := b6.size
      rw [← hW7]
      obtain ⟨bI, hbI⟩ : ∃ bI, bI = w6.heap.size := ⟨_, rfl⟩
      rw [← hbI] at cI fI sI lI ⊢
      clear hW7 hbI
      refine wpPlan_do (List.getElem?_toArray.trans rfl) (fun K hK => ?_)
      go_simp
      refine hK _ _ (HKP.out _ (b7.setCell (by show W3.heap.size ≤ bI; omega) _)) ?_
      clear hK K
      obtain ⟨W9, hW9⟩ : ∃ W9, W9 = W7.setCell ⟨bI, 0, none⟩ (.int .i64 (ivV p d)) := ⟨_, rfl⟩
      have HB9 := Lib.hid (show Below W3.heap.size W3 W9 from by rw [hW9]; exact b7.setCell (by show W3.heap.size ≤ bI; omega) _)
      have HC9 := Lib.hid (show W9.cell? ⟨bI, 0, none⟩ = some (.int .i64 (ivV p d)) ∧ bI < W9.heap.size from by rw [hW9]; exact ⟨World.cell?_setCell_same _ _ _ cI, by simpa using sI⟩)
      rw [← hW9]
      clear hW9
      refine wpPlan_fin ?_
      simp only [Exit.then]
      clear b4 b5 b6 b7 cI fI sI lI hb5 hb6
      have hiB := HIB.out
      have HN := Lib.hid (iNew m m q1 q4 q1 q4 (invE p m (el M) (ivV p d)) 117 #[.pointer (some ⟨w.heap.size, 0, none⟩), .pointer (some ⟨bI, 0, none⟩), .pointer (some ⟨w1.heap.size, 0, none⟩)] W9 enInv
        (fun W2 hb2 i k hi hk => by
          have hb := HB9.out.trans (hb2.mono HB9.out.size)
          have e : el (matF m (fun a b => cofE p m (el M) b a) m) i k = cofE p m (el M) k i := el_matF hi hk
          have := iInv1 p (ivV p d) HP.out.1 HP.out.2 ga oa m ca w.heap.size bI w1.heap.size _ W2 (HKP.out _ hb) ((hb2.cell (p := ⟨bI, 0, none⟩) HC9.out.2).trans HC9.out.1) ((hb.cell (p := ⟨w1.heap.size, 0, none⟩) (by show w1.heap.size < _; omega)).trans HC3.out.2) (HC3.out.1.below hb) i k hi hk (by rw [e]; exact cofE_bd (isP_bd HP.out.1).1 m (el M) k i)
          rw [e] at this
          exact this))
      go_wp2_with fail
      refine HN.out.mono ?_
      rintro e w8 ⟨u8, rfl, ho8, hb8⟩
      have HF := Lib.hid (show OwnMat w8 w.heap.size u8 (matF m (invE p m (el M) (ivV p d)) m) ∧ Below w.heap.size w w8 from
        ⟨ho8.base (by have := HB9.out.size; have := HB3.out.size; omega), HB3.out.trans ((HB9.out.trans (hb8.mono HB9.out.size)).mono HB3.out.size)⟩)
      clear ho8 hb8
      go_wp2_with fail
      rw [HV.out]
      refine bodyPost_ret (v := .tuple #[u8, .bool true]) (by simp [results, Try.results46, go_sem]) rfl ⟨_, rfl, HF.out⟩
    · skip
      refine wpPlan_do (List.getElem?_toArray.trans rfl) (fun K hK => ?_)
      go_simp
      refine hK _ _ (HKP.out _ (Below.alloc b5 b5.size _)) ?_
      clear hK K
      obtain ⟨W7, hW7⟩ : ∃ W7, W7 = w5.alloc (Obj.cells #[.int .i64 0] 3) := ⟨_, rfl⟩
      have b7 : Below W3.heap.size W3 W7 := by rw [hW7]; exact Below.alloc b5 b5.size _
      have cI : W7.cell? ⟨w5.heap.size, 0, none⟩ = some (.int .i64 0) := by rw [hW7]; exact World.cell?_alloc_at _ _ _ _ rfl
      have fI : W7.frozen? ⟨w5.heap.size, 0, none⟩ = false := by rw [hW7]; exact World.frozen?_alloc_at _ _ _ _ rfl
      have sI : w5.heap.size < W7.heap.size := by rw [hW7]; simp
      have lI : W3.heap.size ≤ w5.heap.size := b5.size
      rw [← hW7]
      obtain ⟨bI, hbI⟩ : ∃ bI, bI = w5.heap.size := ⟨_, rfl⟩
      rw [← hbI] at cI fI sI lI ⊢
      clear hW7 hbI
      refine wpPlan_do (List.getElem?_toArray.trans rfl) (fun K hK => ?_)
      go_simp
      refine (iInverse p d _).mono ?_
      rintro e w6 ⟨rfl, hb6⟩
      have b6 : Below W3.heap.size W3 w6 := b7.trans (hb6.mono b7.size)
      have cI : w6.cell? ⟨bI, 0, none⟩ = some (.int .i64 0) := (hb6.cell (p := ⟨bI, 0, none⟩) sI).trans cI
      have fI : w6.frozen? ⟨bI, 0, none⟩ = false := (hb6.frozen (p := ⟨bI, 0, none⟩) sI).trans fI
      have sI : bI < w6.heap.size := Nat.lt_of_lt_of_le sI hb6.size
      refine hK _ _ (HKP.out _ b6) ?_
      clear hK K
      iterate 3 (refine wpPlan_take (v := ?_) (List.getElem?_toArray.trans rfl) ?_ ?_; rotate_left; (intro w' hSw; (try dsimp only at hSw); go_simp; (try with_reducible rfl)); (try simp only [Act.put, List.setIfInBounds_toArray, List.set_cons_zero, List.set_cons_succ]))
      refine wpPlan_do (List.getElem?_toArray.trans rfl) (fun K hK => ?_)
      go_simp
      refine hK _ _ (HKP.out _ (b6.setCell (by show W3.heap.size ≤ bI; omega) _)) ?_
      clear hK K
      obtain ⟨W9, hW9⟩ : ∃ W9, W9 = w6.setCell ⟨bI, 0, none⟩ (.int .i64 (ivV p d)) := ⟨_, rfl⟩
      have HB9 := Lib.hid (show Below W3.heap.size W3 W9 from by rw [hW9]; exact b6.setCell (by show W3.heap.size ≤ bI; omega) _)
      have HC9 := Lib.hid (show W9.cell? ⟨bI, 0, none⟩ = some (.int .i64 (ivV p d)) ∧ bI < W9.heap.size from by rw [hW9]; exact ⟨World.cell?_setCell_same _ _ _ cI, by simpa using sI⟩)
      rw [← hW9]
      clear hW9
      refine wpPlan_fin ?_
      simp only [Exit.then]
      clear b4 b5 b6 b7 cI fI sI lI hb5 hb6
      have hiB := HIB.out
      have HN := Lib.hid (iNew m m q1 q4 q1 q4 (invE p m (el M) (ivV p d)) 117 #[.pointer (some ⟨w.heap.size, 0, none⟩), .pointer (some ⟨bI, 0, none⟩), .pointer (some ⟨w1.heap.size, 0, none⟩)] W9 enInv
        (fun W2 hb2 i k hi hk => by
          have hb := HB9.out.trans (hb2.mono HB9.out.size)
          have e : el (matF m (fun a b => cofE p m (el M) b a) m) i k = cofE p m (el M) k i := el_matF hi hk
          have := iInv1 p (ivV p d) HP.out.1 HP.out.2 ga oa m ca w.heap.size bI w1.heap.size _ W2 (HKP.out _ hb) ((hb2.cell (p := ⟨bI, 0, none⟩) HC9.out.2).trans HC9.out.1) ((hb.cell (p := ⟨w1.heap.size, 0, none⟩) (by show w1.heap.size < _; omega)).trans HC3.out.2) (HC3.out.1.below hb) i k hi hk (by rw [e]; exact cofE_bd (isP_bd HP.out.1).1 m (el M) k i)
          rw [e] at this
          exact this))
      go_wp2_with fail
      refine HN.out.mono ?_
      rintro e w8 ⟨u8, rfl, ho8, hb8⟩
      have HF := Lib.hid (show OwnMat w8 w.heap.size u8 (matF m (invE p m (el M) (ivV p d)) m) ∧ Below w.heap.size w w8 from
        ⟨ho8.base (by have := HB9.out.size; have := HB3.out.size; omega), HB3.out.trans ((HB9.out.trans (hb8.mono HB9.out.size)).mono HB3.out.size)⟩)
      clear ho8 hb8
      go_wp2_with fail
      rw [HV.out]
      refine bodyPost_ret (v := .tuple #[u8, .bool true]) (by simp [results, Try.results46, go_sem]) rfl ⟨_, rfl, HF.out⟩
  · skip
    refine wpPlan_do (List.getElem?_toArray.trans rfl) (fun K hK => ?_)
    go_simp
    refine hK _ _ (HKP.out _ (Below.alloc b4 b4.size _)) ?_
    clear hK K
    obtain ⟨W7, hW7⟩ : ∃ W7, W7 = W4.alloc (Obj.cells #[.int .i64 0] 3) := ⟨_, rfl⟩
    have b7 : Below W3.heap.size W3 W7 := by rw [hW7]; exact Below.alloc b4 b4.size _
    have cI : W7.cell? ⟨W4.heap.size, 0, none⟩ = some (.int .i64 0) := by rw [hW7]; exact World.cell?_alloc_at _ _ _ _ rfl
    have fI : W7.frozen? ⟨W4.heap.size, 0, none⟩ = false := by rw [hW7]; exact World.frozen?_alloc_at _ _ _ _ rfl
    have sI : W4.heap.size < W7.heap.size := by rw [hW7]; simp
    have lI : W3.heap.size ≤ W4.heap.size := b4.size
    rw [← hW7]
    obtain ⟨bI, hbI⟩ : ∃ bI, bI = W4.heap.size := ⟨_, rfl⟩
    rw [← hbI] at cI fI sI lI ⊢
    clear hW7 hbI
    refine wpPlan_do (List.getElem?_toArray.trans rfl) (fun K hK => ?_)
    go_simp
    refine (HDET.out _ b7).mono ?_
    rintro e w5 ⟨rfl, hb5⟩
    have b5 : Below W3.heap.size W3 w5 := b7.trans (hb5.mono b7.size)
    have cI : w5.cell? ⟨bI, 0, none⟩ = some (.int .i64 0) := (hb5.cell (p := ⟨bI, 0, none⟩) sI).trans cI
    have fI : w5.frozen? ⟨bI, 0, none⟩ = false := (hb5.frozen (p := ⟨bI, 0, none⟩) sI).trans fI
    have sI : bI < w5.heap.size := Nat.lt_of_lt_of_le sI hb5.size
    refine hK _ _ (HKP.out _ b5) ?_
    clear hK K
    refine wpPlan_do (List.getElem?_toArray.trans rfl) (fun K hK => ?_)
    go_simp
    refine (iInverse p d _).mono ?_
    rintro e w6 ⟨rfl, hb6⟩
    have b6 : Below W3.heap.size W3 w6 := b5.trans (hb6.mono b5.size)
    have cI : w6.cell? ⟨bI, 0, none⟩ = some (.int .i64 0) := (hb6.cell (p := ⟨bI, 0, none⟩) sI).trans cI
    have fI : w6.frozen? ⟨bI, 0, none⟩ = false := (hb6.frozen (p := ⟨bI, 0, none⟩) sI).trans fI
    have sI : bI < w6.heap.size := Nat.lt_of_lt_of_le sI hb6.size
    refine hK _ _ (HKP.out _ b6) ?_
    clear hK K
    iterate 3 (refine wpPlan_take (v := ?_) (List.getElem?_toArray.trans rfl) ?_ ?_; rotate_left; (intro w' hSw; (try dsimp only at hSw); go_simp; (try with_reducible rfl)); (try simp only [Act.put, List.setIfInBounds_toArray, List.set_cons_zero, List.set_cons_succ]))
    refine wpPlan_do (List.getElem?_toArray.trans rfl) (fun K hK => ?_)
    go_simp
    refine hK _ _ (HKP.out _ (b6.setCell (by show W3.heap.size ≤ bI; omega) _)) ?_
    clear hK K
    obtain ⟨W9, hW9⟩ : ∃ W9, W9 = w6.setCell ⟨bI, 0, none⟩ (.int .i64 (ivV p d)) := ⟨_, rfl⟩
    have HB9 := Lib.hid (show Below W3.heap.size W3 W9 from by rw [hW9]; exact b6.setCell (by show W3.heap.size ≤ bI; omega) _)
    have HC9 := Lib.hid (show W9.cell? ⟨bI, 0, none⟩ = some (.int .i64 (ivV p d)) ∧ bI < W9.heap.size from by rw [hW9]; exact ⟨World.cell?_setCell_same _ _ _ cI, by simpa using sI⟩)
    rw [← hW9]
    clear hW9
    refine wpPlan_fin ?_
    simp only [Exit.then]
    clear b4 b5 b6 b7 cI fI sI lI hb5 hb6
    have hiB := HIB.out
    have HN := Lib.hid (iNew m m q1 q4 q1 q4 (invE p m (el M) (ivV p d)) 117 #[.pointer (some ⟨w.heap.size, 0, none⟩), .pointer (some ⟨bI, 0, none⟩), .pointer (some ⟨w1.heap.size, 0, none⟩)] W9 enInv
      (fun W2 hb2 i k hi hk => by
        have hb := HB9.out.trans (hb2.mono HB9.out.size)
        have e : el (matF m (fun a b => cofE p m (el M) b a) m) i k = cofE p m (el M) k i := el_matF hi hk
        have := iInv1 p (ivV p d) HP.out.1 HP.out.2 ga oa m ca w.heap.size bI w1.heap.size _ W2 (HKP.out _ hb) ((hb2.cell (p := ⟨bI, 0, none⟩) HC9.out.2).trans HC9.out.1) ((hb.cell (p := ⟨w1.heap.size, 0, none⟩) (by show w1.heap.size < _; omega)).trans HC3.out.2) (HC3.out.1.below hb) i k hi hk (by rw [e]; exact cofE_bd (isP_bd HP.out.1).1 m (el M) k i)
        rw [e] at this
        exact this))
    go_wp2_with fail
    refine HN.out.mono ?_
    rintro e w8 ⟨u8, rfl, ho8, hb8⟩
    have HF := Lib.hid (show OwnMat w8 w.heap.size u8 (matF m (invE p m (el M) (ivV p d)) m) ∧ Below w.heap.size w w8 from
      ⟨ho8.base (by have := HB9.out.size; have := HB3.out.size; omega), HB3.out.trans ((HB9.out.trans (hb8.mono HB9.out.size)).mono HB3.out.size)⟩)
    clear ho8 hb8
    go_wp2_with fail
    rw [HV.out]
    refine bodyPost_ret (v := .tuple #[u8, .bool true]) (by simp [results, Try.results46, go_sem]) rfl ⟨_, rfl, HF.out⟩
theorem iInvM (p : Int) (v : Value) (M : List (List Int)) (w : World) (h : Mat w v M) :
    Calls Try.prog 46 #[.int .i64 p, v] w fun e w' => ∃ u, e = .returned (.tuple #[u, .bool (invB p M)]) ∧ OwnMat w' w.heap.size u (invV p M) ∧ Below w.heap.size w w' := by
  cases hS : sqB p M
  · exact iInvM_no p v M w h hS
  · rcases Bool.eq_false_or_eq_true (invB p M) with hB | hB
    · exact iInvM_yes p v M w h hS hB
    · exact iInvM_zero p v M w h hS hB
end Go.Proofs.Ytlcmddghppdmgaa
