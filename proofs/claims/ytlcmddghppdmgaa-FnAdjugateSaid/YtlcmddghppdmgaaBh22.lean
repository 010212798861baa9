/-
  MinorOf of the program. Conditions: none but that the slice reads as a matrix.
  MinorOf of the program: where there is one. Conditions: none but that the slice reads as a matrix.
-/
import Derived.Test.YtlcmddghppdmgaaBh18
import Derived.Test.YtlcmddghppdmgaaBh19
import Derived.Test.YtlcmddghppdmgaaBh4
namespace Go.Proofs.Ytlcmddghppdmgaa
set_option linter.unusedVariables false
open Go.RowKit Go.Shelf
theorem iMinor1 (i k : Nat) (W : World) : Calls Try.prog 145 #[.int .i64 i, .int .i64 k] W fun e w' => e = .returned (.int .i64 0) ∧ Below W.heap.size W w' := by
  go_enter Try.func145, Try.ntmps145
  go_wp2
  go_ret
  exact ⟨rfl, Below.refl _ _⟩
theorem enMinor (args : Array Value) (w : World) : (callFunc 145 args).run Try.prog w = .ok (.enter 145 args) w := enters_of Try.func145 (by kernel_rfl) rfl args w
/-- the second half of a row that is copied: its head and what it reads -/
theorem slice_off {b o n cap : Nat} (h : n < cap) : (if cap - n = 0 then (some ⟨b, o, none⟩ : Option Addr) else some ⟨b, o + n, none⟩) = some ⟨b, o + n, none⟩ := if_neg (by omega)
set_option maxRecDepth 100000 in
set_option maxHeartbeats 16000000 in
theorem iMinor_no (p : Int) (v : Value) (M : List (List Int)) (row col : Int) (w : World) (h : Mat w v M) (hno : minB p M row col = false) :
    Calls Try.prog 64 #[.int .i64 p, v, .int .i64 row, .int .i64 col] w fun e w' => ∃ u, e = .returned (.tuple #[u, .bool (minB p M row col)]) ∧ OwnMat w' w.heap.size u (mnrV p M row col) ∧ Below w.heap.size w w' := by
  have HMV := Lib.hid (iMV p v M w h)
  cases hB : matB p M
  · have HV := Lib.hid (show minB p M row col = false ∧ mnrV p M row col = [] by
      have : minB p M row col = false := by simp [minB, hB]
      exact ⟨this, by simp [mnrV, this]⟩)
    rw [hB] at HMV
    obtain ⟨_, _, a, cap, rfl, _⟩ := h
    clear hB
    go_enter Try.func64, Try.ntmps64
    go_wp2_with (go_at_call 62; refine HMV.out.mono ?_; rintro e w' ⟨rfl, rfl⟩)
    rw [HV.out.1, HV.out.2]
    refine bodyPost_ret (v := .tuple #[.slice none 0 0, .bool false]) (by simp [results, Try.results64, go_sem]) rfl ⟨_, rfl, OwnMat.nil _ _ _ _, Below.refl _ _⟩
  · obtain ⟨r, c, hr, hr1, hr4, hc, hc1, hc4, hrow, hel, hMF⟩ := matB_side hB
    obtain ⟨g, off, cap, rfl, hC⟩ := h.cells hr hr1 hc1 hrow
    rw [hB] at HMV
    obtain ⟨b0, o0, c0, _, hh0, _⟩ := hC.plc (show 0 < r by omega)
    have hh0 := hh0 w (Below.refl _ _)
    rw [Nat.add_zero] at hh0
    have hrp : 0 < r := by omega
    have hrpi : (0 : Int) < (r : Int) := by omega
    have HNO := Lib.hid (fun (hn : ¬ (2 ≤ r ∧ 2 ≤ c ∧ (0 ≤ row ∧ row < (r : Int)) ∧ 0 ≤ col ∧ col < (c : Int))) => show minB p M row col = false ∧ mnrV p M row col = [] by
      have : minB p M row col = false := by
        cases e : minB p M row col
        · rfl
        · have := minB_iff.1 e
          rw [hr, hc] at this
          exact absurd this.2 hn
      exact ⟨this, by simp [mnrV, this]⟩)
    have HYES := Lib.hid (fun (hn : 2 ≤ r ∧ 2 ≤ c ∧ (0 ≤ row ∧ row < (r : Int)) ∧ 0 ≤ col ∧ col < (c : Int)) => show minB p M row col = true ∧ mnrV p M row col = matF (c - 1) (minE (el M) row.toNat col.toNat) (r - 1) by
      have : minB p M row col = true := minB_iff.2 (by rw [hr, hc]; exact ⟨hB, hn⟩)
      exact ⟨this, by simp [mnrV, this, hr, hc]⟩)
    have HC := Lib.hid hC
    clear hB h hMF hel hrow hC
    by_cases h1 : r < 2
    · skip
      have h1i : (r : Int) < 2 := by omega
      go_enter Try.func64, Try.ntmps64
      go_wp2_with (go_at_call 62; refine HMV.out.mono ?_; rintro e w' ⟨rfl, rfl⟩)
      rw [(HNO.out (by omega)).1, (HNO.out (by omega)).2]
      refine bodyPost_ret (v := .tuple #[.slice none 0 0, .bool false]) (by simp [results, Try.results64, go_sem]) rfl ⟨_, rfl, OwnMat.nil _ _ _ _, Below.refl _ _⟩
    by_cases h2 : c < 2
    · skip
      have h1i : ¬ (r : Int) < 2 := by omega
      have h2i : (c : Int) < 2 := by omega
      go_enter Try.func64, Try.ntmps64
      go_wp2_with (go_at_call 62; refine HMV.out.mono ?_; rintro e w' ⟨rfl, rfl⟩)
      rw [(HNO.out (by omega)).1, (HNO.out (by omega)).2]
      refine bodyPost_ret (v := .tuple #[.slice none 0 0, .bool false]) (by simp [results, Try.results64, go_sem]) rfl ⟨_, rfl, OwnMat.nil _ _ _ _, Below.refl _ _⟩
    by_cases h3 : row < 0
    · skip
      have h1i : ¬ (r : Int) < 2 := by omega
      have h2i : ¬ (c : Int) < 2 := by omega
      go_enter Try.func64, Try.ntmps64
      go_wp2_with (go_at_call 62; refine HMV.out.mono ?_; rintro e w' ⟨rfl, rfl⟩)
      rw [(HNO.out (by omega)).1, (HNO.out (by omega)).2]
      refine bodyPost_ret (v := .tuple #[.slice none 0 0, .bool false]) (by simp [results, Try.results64, go_sem]) rfl ⟨_, rfl, OwnMat.nil _ _ _ _, Below.refl _ _⟩
    by_cases h4 : row ≥ (r : Int)
    · skip
      have h1i : ¬ (r : Int) < 2 := by omega
      have h2i : ¬ (c : Int) < 2 := by omega
      go_enter Try.func64, Try.ntmps64
      go_wp2_with (go_at_call 62; refine HMV.out.mono ?_; rintro e w' ⟨rfl, rfl⟩)
      rw [(HNO.out (by omega)).1, (HNO.out (by omega)).2]
      refine bodyPost_ret (v := .tuple #[.slice none 0 0, .bool false]) (by simp [results, Try.results64, go_sem]) rfl ⟨_, rfl, OwnMat.nil _ _ _ _, Below.refl _ _⟩
    by_cases h5 : col < 0
    · skip
      have h1i : ¬ (r : Int) < 2 := by omega
      have h2i : ¬ (c : Int) < 2 := by omega
      go_enter Try.func64, Try.ntmps64
      go_wp2_with (go_at_call 62; refine HMV.out.mono ?_; rintro e w' ⟨rfl, rfl⟩)
      rw [(HNO.out (by omega)).1, (HNO.out (by omega)).2]
      refine bodyPost_ret (v := .tuple #[.slice none 0 0, .bool false]) (by simp [results, Try.results64, go_sem]) rfl ⟨_, rfl, OwnMat.nil _ _ _ _, Below.refl _ _⟩
    by_cases h6 : col ≥ (c : Int)
    · skip
      have h1i : ¬ (r : Int) < 2 := by omega
      have h2i : ¬ (c : Int) < 2 := by omega
      go_enter Try.func64, Try.ntmps64
      go_wp2_with (go_at_call 62; refine HMV.out.mono ?_; rintro e w' ⟨rfl, rfl⟩)
      rw [(HNO.out (by omega)).1, (HNO.out (by omega)).2]
      refine bodyPost_ret (v := .tuple #[.slice none 0 0, .bool false]) (by simp [results, Try.results64, go_sem]) rfl ⟨_, rfl, OwnMat.nil _ _ _ _, Below.refl _ _⟩
    exfalso
    have := (HYES.out (by omega)).1
    rw [hno] at this
    cases this
end Go.Proofs.Ytlcmddghppdmgaa
namespace Go.Proofs.Ytlcmddghppdmgaa
set_option linter.unusedVariables false
open Go.RowKit Go.Shelf
theorem sk_lo {q i : Nat} (h : i < q) : sk q i = i := if_pos h
theorem sk_hi {q i : Nat} (h : ¬ i < q) : sk q i = i + 1 := if_neg h
set_option maxRecDepth 100000 in
set_option maxHeartbeats 16000000 in
theorem iMinor_yes (p : Int) (v : Value) (M : List (List Int)) (R L : Nat) (w : World) (h : Mat w v M) (hyes : minB p M (R : Int) (L : Int) = true) :
    Calls Try.prog 64 #[.int .i64 p, v, .int .i64 (R : Int), .int .i64 (L : Int)] w fun e w' => ∃ u, e = .returned (.tuple #[u, .bool true]) ∧ OwnMat w' w.heap.size u (mnrV p M (R : Int) (L : Int)) ∧ Below w.heap.size w w' := by
  have HMV := Lib.hid (iMV p v M w h)
  have HV0 := hyes
  obtain ⟨hB, e1, e2, e3, e4⟩ := minB_iff.1 hyes
  obtain ⟨r, c, hr, hr1, hr4, hc, hc1, hc4, hrow, hel, hMF⟩ := matB_side hB
  have HV := Lib.hid (show mnrV p M (R : Int) (L : Int) = matF (c - 1) (minE (el M) R L) (r - 1) by simp [mnrV, hyes, hr, hc])
  obtain ⟨g, off, cap, rfl, hC⟩ := h.cells hr hr1 hc1 hrow
  rw [hB] at HMV
  rw [hr] at e1 e3
  rw [hc] at e2 e4
  have h1i : ¬ (r : Int) < 2 := by omega
  have h2i : ¬ (c : Int) < 2 := by omega
  have h3 : ¬ (R : Int) < 0 := by omega
  have h4 : ¬ (R : Int) ≥ (r : Int) := by omega
  have h5 : ¬ (L : Int) < 0 := by omega
  have h6 : ¬ (L : Int) ≥ (c : Int) := by omega
  have hR : R < r := by omega
  have hL : L < c := by omega
  have hrp : 0 < r := by omega
  have hrpi : (0 : Int) < (r : Int) := by omega
  obtain ⟨r2, hr2⟩ : ∃ r2, r = r2 + 1 := ⟨r - 1, by omega⟩
  obtain ⟨c2, hc2⟩ : ∃ c2, c = c2 + 1 := ⟨c - 1, by omega⟩
  have hwr : IntKind.i64.wrap ((r : Int) - 1) = (r2 : Int) := by rw [IntWalk.i64_in _ (by omega)]; omega
  have hwc : IntKind.i64.wrap ((c : Int) - 1) = (c2 : Int) := by rw [IntWalk.i64_in _ (by omega)]; omega
  have HRC := Lib.hid (And.intro hr2 hc2)
  have HN := Lib.hid (fun w' => iNew r2 c2 (by omega) (by omega) (by omega) (by omega) (fun _ _ => 0) 145 #[] w' enMinor (fun W2 hb2 i k hi hk => iMinor1 i k W2))
  have HP := Lib.hid (fun i (hi : i < r) => hC.plc hi)
  obtain ⟨b0, o0, c0, _, hh0, _⟩ := hC.plc hrp
  have hh0 := hh0 w (Below.refl _ _)
  rw [Nat.add_zero] at hh0
  have hr5 : r2 ≤ 3 := by omega
  have hc5 : c2 ≤ 3 := by omega
  have hc51 : 1 ≤ c2 := by omega
  have hr51 : 1 ≤ r2 := by omega
  have hLc : L ≤ c2 := by omega
  have hLci : (L : Int) ≤ (c2 : Int) := by omega
  have hLc0 : (L : Int) ≤ (c : Int) := by omega
  have hLc1 : (L : Int) + 1 ≤ (c : Int) := by omega
  have hL0 : (0 : Int) ≤ (L : Int) := by omega
  have hwL : IntKind.i64.wrap ((L : Int) + 1) = (L : Int) + 1 := IntWalk.i64_in _ (by omega)
  obtain ⟨E, hE⟩ : ∃ E, E = el M := ⟨_, rfl⟩
  rw [← hE] at HV HP
  have HVV := Lib.hid (show mnrV p M (R : Int) (L : Int) = matF c2 (minE E R L) r2 by rw [HV.out, hr2, hc2]; rfl)
  clear hr2 hc2 hr hc HV0 hyes hB h e1 e2 e3 e4 hrow hel hMF hC hE HV
  go_enter Try.func64, Try.ntmps64
  go_wp2_with (go_at_call 62; refine HMV.out.mono ?_; rintro e w' ⟨rfl, rfl⟩)
  refine (HN.out _).mono ?_
  rintro e w1 ⟨u, rfl, ⟨_, _, ua, ucap, rfl, hd⟩, hb⟩
  rw [matF_len] at *
  rcases hd with hd | ⟨g2, off2, H, O, rfl, hm⟩
  · have := congrArg List.length hd
    rw [matF_len] at this
    simp at this; omega
  have HS := Lib.hid (show OMat w1 w.heap.size g2 off2 H O (matF c2 (minF E R L 0) r2) ∧ Below w.heap.size w w1 from ⟨by rw [matF_ext (F := fun _ _ => 0) (fun i k _ _ => by simp [minF])]; exact hm, hb⟩)
  clear hm hb hh0
  go_wp2_with fail
  go_loopw [60] (fun i wr => ∃ k : Nat, k ≤ r2 ∧ i = .int .i64 k ∧ OMat wr w.heap.size g2 off2 H O (matF c2 (minF E R L k) r2) ∧ Below w.heap.size w wr) (fun i _ => r2 - (intOf i).toNat)
  case atStart => exact ⟨0, by omega, rfl, HS.out⟩
  case round =>
    clear HS
    obtain ⟨i, hi, rfl, hm, hb⟩ := hrel
    by_cases hlt : i < r2
    · have hltp : (i : Int) < (r2 : Int) := by omega
      have hi0 : (0 : Int) ≤ (i : Int) := by omega
      have hir : (i : Int) < (r : Int) := by have := HRC.out.1; omega
      have hir1 : (i : Int) + 1 < (r : Int) := by have := HRC.out.1; omega
      have hwi : IntKind.i64.wrap ((i : Int) + 1) = (i : Int) + 1 := IntWalk.i64_in _ (by omega)
      obtain ⟨q0, q1, q2, _, q3, q4⟩ := HP.out i (by have := HRC.out.1; omega)
      obtain ⟨s0, s1, s2, hcap2, s3, s4⟩ := HP.out (sk R i) (by unfold sk; have := HRC.out.1; split <;> omega)
      have q3 := q3 _ hb
      have s3 := s3 _ hb
      have HS4 := Lib.hid s4
      obtain ⟨cp, k1, ⟨k2, k2c⟩, k3, k4, k5⟩ := hm.cellF hlt (by omega)
      have HF1 := Lib.hid (fun W (hW : Below wr.heap.size wr W) => show OMat (W.setCells (H i) (O i) (vals L (fun j => E (sk R i) j))) w.heap.size g2 off2 H O (matF c2 (updR (minF E R L i) i 0 L (fun j => E (sk R i) j)) r2) ∧ Below w.heap.size w (W.setCells (H i) (O i) (vals L (fun j => E (sk R i) j))) from by
        have := (hm.below hW).setsF hlt (by omega) (q := 0) (n := L) (by omega) (fun j => E (sk R i) j)
        rw [Nat.add_zero] at this
        exact ⟨this, (hb.trans (hW.mono hb.size)).trans (setCells_below k3 _ _ _)⟩)
      have HF2 := Lib.hid (fun W (hW : OMat W w.heap.size g2 off2 H O (matF c2 (updR (minF E R L i) i 0 L (fun j => E (sk R i) j)) r2) ∧ Below w.heap.size w W) => show OMat (W.setCells (H i) (O i + L) (vals (c2 - L) (fun j => E (sk R i) (L + 1 + j)))) w.heap.size g2 off2 H O (matF c2 (minF E R L (i + 1)) r2) ∧ Below w.heap.size w (W.setCells (H i) (O i + L) (vals (c2 - L) (fun j => E (sk R i) (L + 1 + j)))) from by
        have hcc := HRC.out.2
        have := hW.1.setsF hlt (by omega) (q := L) (n := c2 - L) (by omega) (fun j => E (sk R i) (L + 1 + j))
        refine ⟨?_, hW.2.trans (setCells_below k3 _ _ _)⟩
        rw [← matF_ext (fun a b _ hbk => minF_step (E := E) (row := R) (col := L) (n := i) (c := c) (a := a) hL (show b < c - 1 by omega)), show c - 1 - L = c2 - L by omega]
        exact this)
      have HCL := Lib.hid (fun w' (hw : Below wr.heap.size wr w') => show (w'.cell? ⟨g2, off2 + i, none⟩ = some (.slice (some ⟨H i, O i, none⟩) c2 cp) ∧ ∀ k, k < c2 → (∃ x, w'.cell? ⟨H i, O i + k, none⟩ = some x) ∧ w'.frozen? ⟨H i, O i + k, none⟩ = false) ∧ ∀ k, k < c → w'.cell? ⟨s0, s1 + k, none⟩ = some (.int .i64 (E (sk R i) k)) from
        ⟨⟨by rw [hw.cell (p := ⟨g2, off2 + i, none⟩) hm.gl]; exact k1, fun k hk => ⟨⟨_, by rw [hw.cell (p := ⟨H i, O i + k, none⟩) k4]; exact (k5 k hk).1⟩, by rw [hw.frozen (p := ⟨H i, O i + k, none⟩) k4]; exact (k5 k hk).2⟩⟩, fun k hk => HS4.out _ (hb.trans (hw.mono hb.size)) k hk⟩)
      have HK1 := Lib.hid (fun W (hW : Below wr.heap.size wr W) w' (hw : Below (W.setCells (H i) (O i) (vals L (fun j => E (sk R i) j))).heap.size (W.setCells (H i) (O i) (vals L (fun j => E (sk R i) j))) w') => show (w'.cell? ⟨g2, off2 + i, none⟩ = some (.slice (some ⟨H i, O i, none⟩) c2 cp) ∧ ∀ k, k < c2 → (∃ x, w'.cell? ⟨H i, O i + k, none⟩ = some x) ∧ w'.frozen? ⟨H i, O i + k, none⟩ = false) ∧ (∀ k, k < c → w'.cell? ⟨s0, s1 + k, none⟩ = some (.int .i64 (E (sk R i) k))) ∧ OMat w' w.heap.size g2 off2 H O (matF c2 (updR (minF E R L i) i 0 L (fun j => E (sk R i) j)) r2) ∧ Below w.heap.size w w' from by
        have h1 := HF1.out W hW
        have h2 := h1.1.below hw
        have h3 := h1.2.trans (hw.mono h1.2.size)
        obtain ⟨cp', j1, _, _, j4, j5⟩ := h2.cellF hlt (by omega)
        refine ⟨⟨?_, fun k hk => ⟨⟨_, (j5 k hk).1⟩, (j5 k hk).2⟩⟩, fun k hk => s4 _ h3 k hk, h2, h3⟩
        have hgl := hm.gl
        have hsz : (W.setCells (H i) (O i) (vals L (fun j => E (sk R i) j))).heap.size = W.heap.size := setCells_size (H i) 0 _ _ _
        rw [hw.cell (p := ⟨g2, off2 + i, none⟩) (by show g2 < _; rw [hsz]; have := hW.size; omega), World.cell?_setCells_out (H i) _ _ _ _ (fun h _ => absurd h.symm k2), hW.cell (p := ⟨g2, off2 + i, none⟩) hgl]
        exact k1)
      have hLs : L ≤ s2 := by omega
      have hL10 : (0 : Int) ≤ (L : Int) + 1 := by omega
      have HDS := Lib.hid (show ∃ d sd, (if cp = L then (some ⟨H i, O i, none⟩ : Option Addr) else some ⟨H i, O i + L, none⟩) = some ⟨H i, d, none⟩ ∧ (if s2 = L + 1 then (some ⟨s0, s1, none⟩ : Option Addr) else some ⟨s0, s1 + (L + 1), none⟩) = some ⟨s0, sd, none⟩ ∧ (L < c2 → d = O i + L ∧ sd = s1 + (L + 1)) from by
        have hcc := HRC.out.2
        by_cases e : L < c2
        · exact ⟨O i + L, s1 + (L + 1), if_neg (by omega), if_neg (by omega), fun _ => ⟨rfl, rfl⟩⟩
        · by_cases e1 : cp = L
          · by_cases e2 : s2 = L + 1
            · exact ⟨_, _, if_pos e1, if_pos e2, fun h => absurd h e⟩
            · exact ⟨_, _, if_pos e1, if_neg e2, fun h => absurd h e⟩
          · by_cases e2 : s2 = L + 1
            · exact ⟨_, _, if_neg e1, if_pos e2, fun h => absurd h e⟩
            · exact ⟨_, _, if_neg e1, if_neg e2, fun h => absurd h e⟩)
      clear hm hb s4 q4 k1 k5 HS4
      by_cases hRi : i < R
      · rw [sk_lo hRi] at s3
        clear q3
        have hge : ¬ (i : Int) ≥ (R : Int) := by omega
        go_wp2_with fail
        have hd1 : Below wr.heap.size wr wr.drew := Below.drew (Below.refl _ _)
        refine wp_region_seq [(0, true), (1, true), (2, true), (3, true), (4, true), (5, true), (6, true)] (fun w' => w'.cell? ⟨g2, off2 + i, none⟩ = some (.slice (some ⟨H i, O i, none⟩) c2 cp)) (by kernel_rfl) (by kernel_rfl) rfl (by intro c a d v w h; cases d <;> exact h) (HCL.out _ hd1).1.1 ?_
        iterate 7 (refine wpSeq_take (v := ?_) (List.getElem?_toArray.trans rfl) ?_ ?_; rotate_left; (intro w' hSw; (try dsimp only at hSw); go_simp; (try with_reducible rfl)); (try simp only [Act.put, List.setIfInBounds_toArray, List.set_cons_zero, List.set_cons_succ]))
        refine wpSeq_nil ?_
        simp only [Exit.then]
        have HC1 := Lib.hid (copy_ints wr.drew 3 (H i) (O i) c2 cp s0 s1 L s2 L (fun j => E (sk R i) j) (Nat.min_eq_left hLc).symm (fun j hj => (HCL.out _ hd1).2 j (by omega)) (fun j hj => ((HCL.out _ hd1).1.2 j (by omega)).1) (fun j hj => ((HCL.out _ hd1).1.2 j (by omega)).2))
        obtain ⟨W1, hW1⟩ : ∃ W1, W1 = wr.drew.setCells (H i) (O i) (vals L (fun j => E (sk R i) j)) := ⟨_, rfl⟩
        have H1 := Lib.hid (HF1.out wr.drew hd1)
        rw [← hW1] at HC1 H1
        have HD := Lib.hid (HK1.out wr.drew hd1)
        rw [← hW1] at HD
        clear hd1 hW1 s3
        refine Lib.wpList_copy_run _ rfl _ _ 62 62 rfl _ _ rfl rfl HC1.out ?_
        go_wp2_with fail
        have hd1 : Below W1.heap.size W1 W1.drew := Below.drew (Below.refl _ _)
        refine wp_region_seq [(0, true), (1, true), (2, true), (3, true), (4, true), (5, true), (6, true), (7, true), (8, true), (9, true)] (fun w' => w'.cell? ⟨g2, off2 + i, none⟩ = some (.slice (some ⟨H i, O i, none⟩) c2 cp)) (by kernel_rfl) (by kernel_rfl) rfl (by intro c a d v w h; cases d <;> exact h) (HD.out _ hd1).1.1 ?_
        iterate 10 (refine wpSeq_take (v := ?_) (List.getElem?_toArray.trans rfl) ?_ ?_; rotate_left; (intro w' hSw; (try dsimp only at hSw); go_simp; (try with_reducible rfl)); (try simp only [Act.put, List.setIfInBounds_toArray, List.set_cons_zero, List.set_cons_succ]))
        refine wpSeq_nil ?_
        simp only [Exit.then]
        obtain ⟨d, sd, hd9, hs9, hLd⟩ := HDS.out
        rw [hd9, hs9]
        have HC2 := Lib.hid (copy_ints W1.drew 3 (H i) d (c2 - L) (cp - L) s0 sd (c - (L + 1)) (s2 - (L + 1)) (c2 - L) (fun j => E (sk R i) (L + 1 + j)) (by have := HRC.out.2; rw [show c - (L + 1) = c2 - L by omega]; exact (Nat.min_self _).symm)
          (fun j hj => by
            have := HRC.out.2
            rw [(hLd (by omega)).2, show s1 + (L + 1) + j = s1 + (L + 1 + j) by omega]
            exact (HD.out _ hd1).2.1 (L + 1 + j) (by omega))
          (fun j hj => by rw [(hLd (by omega)).1, Nat.add_assoc]; exact ((HD.out _ hd1).1.2 (L + j) (by omega)).1)
          (fun j hj => by rw [(hLd (by omega)).1, Nat.add_assoc]; exact ((HD.out _ hd1).1.2 (L + j) (by omega)).2))
        have H2 := HF2.out W1.drew (HD.out _ hd1).2.2
        have eW : W1.drew.setCells (H i) (O i + L) (vals (c2 - L) (fun j => E (sk R i) (L + 1 + j))) = W1.drew.setCells (H i) d (vals (c2 - L) (fun j => E (sk R i) (L + 1 + j))) := by
          by_cases e : L < c2
          · rw [(hLd e).1]
          · rw [show c2 - L = 0 by omega]; rfl
        rw [eW] at H2
        obtain ⟨W2, hW2⟩ : ∃ W2, W2 = W1.drew.setCells (H i) d (vals (c2 - L) (fun j => E (sk R i) (L + 1 + j))) := ⟨_, rfl⟩
        rw [← hW2] at HC2 H2
        have HF := Lib.hid H2
        clear H2 eW hW2 hd1 hd9 hs9 hLd
        refine Lib.wpList_copy_run _ rfl _ _ 62 62 rfl _ _ rfl rfl HC2.out ?_
        go_wp2_with fail
        go_roundw
        case rel => exact ⟨i + 1, by omega, by go_num, HF.out⟩
        case measure => simp [intOf]; omega
      · rw [sk_hi hRi] at s3
        have hge : (i : Int) ≥ (R : Int) := by omega
        go_wp2_with fail
        have hd1 : Below wr.heap.size wr wr.drew := Below.drew (Below.refl _ _)
        refine wp_region_seq [(0, true), (1, true), (2, true), (3, true), (4, true), (5, true), (6, true)] (fun w' => w'.cell? ⟨g2, off2 + i, none⟩ = some (.slice (some ⟨H i, O i, none⟩) c2 cp)) (by kernel_rfl) (by kernel_rfl) rfl (by intro c a d v w h; cases d <;> exact h) (HCL.out _ hd1).1.1 ?_
        iterate 7 (refine wpSeq_take (v := ?_) (List.getElem?_toArray.trans rfl) ?_ ?_; rotate_left; (intro w' hSw; (try dsimp only at hSw); go_simp; (try with_reducible rfl)); (try simp only [Act.put, List.setIfInBounds_toArray, List.set_cons_zero, List.set_cons_succ]))
        refine wpSeq_nil ?_
        simp only [Exit.then]
        have HC1 := Lib.hid (copy_ints wr.drew 3 (H i) (O i) c2 cp s0 s1 L s2 L (fun j => E (sk R i) j) (Nat.min_eq_left hLc).symm (fun j hj => (HCL.out _ hd1).2 j (by omega)) (fun j hj => ((HCL.out _ hd1).1.2 j (by omega)).1) (fun j hj => ((HCL.out _ hd1).1.2 j (by omega)).2))
        obtain ⟨W1, hW1⟩ : ∃ W1, W1 = wr.drew.setCells (H i) (O i) (vals L (fun j => E (sk R i) j)) := ⟨_, rfl⟩
        have H1 := Lib.hid (HF1.out wr.drew hd1)
        rw [← hW1] at HC1 H1
        have HD := Lib.hid (HK1.out wr.drew hd1)
        rw [← hW1] at HD
        clear hd1 hW1 s3
        refine Lib.wpList_copy_run _ rfl _ _ 62 62 rfl _ _ rfl rfl HC1.out ?_
        go_wp2_with fail
        have hd1 : Below W1.heap.size W1 W1.drew := Below.drew (Below.refl _ _)
        refine wp_region_seq [(0, true), (1, true), (2, true), (3, true), (4, true), (5, true), (6, true), (7, true), (8, true), (9, true)] (fun w' => w'.cell? ⟨g2, off2 + i, none⟩ = some (.slice (some ⟨H i, O i, none⟩) c2 cp)) (by kernel_rfl) (by kernel_rfl) rfl (by intro c a d v w h; cases d <;> exact h) (HD.out _ hd1).1.1 ?_
        iterate 10 (refine wpSeq_take (v := ?_) (List.getElem?_toArray.trans rfl) ?_ ?_; rotate_left; (intro w' hSw; (try dsimp only at hSw); go_simp; (try with_reducible rfl)); (try simp only [Act.put, List.setIfInBounds_toArray, List.set_cons_zero, List.set_cons_succ]))
        refine wpSeq_nil ?_
        simp only [Exit.then]
        obtain ⟨d, sd, hd9, hs9, hLd⟩ := HDS.out
        rw [hd9, hs9]
        have HC2 := Lib.hid (copy_ints W1.drew 3 (H i) d (c2 - L) (cp - L) s0 sd (c - (L + 1)) (s2 - (L + 1)) (c2 - L) (fun j => E (sk R i) (L + 1 + j)) (by have := HRC.out.2; rw [show c - (L + 1) = c2 - L by omega]; exact (Nat.min_self _).symm)
          (fun j hj => by
            have := HRC.out.2
            rw [(hLd (by omega)).2, show s1 + (L + 1) + j = s1 + (L + 1 + j) by omega]
            exact (HD.out _ hd1).2.1 (L + 1 + j) (by omega))
          (fun j hj => by rw [(hLd (by omega)).1, Nat.add_assoc]; exact ((HD.out _ hd1).1.2 (L + j) (by omega)).1)
          (fun j hj => by rw [(hLd (by omega)).1, Nat.add_assoc]; exact ((HD.out _ hd1).1.2 (L + j) (by omega)).2))
        have H2 := HF2.out W1.drew (HD.out _ hd1).2.2
        have eW : W1.drew.setCells (H i) (O i + L) (vals (c2 - L) (fun j => E (sk R i) (L + 1 + j))) = W1.drew.setCells (H i) d (vals (c2 - L) (fun j => E (sk R i) (L + 1 + j))) := by
          by_cases e : L < c2
          · rw [(hLd e).1]
          · rw [show c2 - L = 0 by omega]; rfl
        rw [eW] at H2
        obtain ⟨W2, hW2⟩ : ∃ W2, W2 = W1.drew.setCells (H i) d (vals (c2 - L) (fun j => E (sk R i) (L + 1 + j))) := ⟨_, rfl⟩
        rw [← hW2] at HC2 H2
        have HF := Lib.hid H2
        clear H2 eW hW2 hd1 hd9 hs9 hLd
        refine Lib.wpList_copy_run _ rfl _ _ 62 62 rfl _ _ rfl rfl HC2.out ?_
        go_wp2_with fail
        go_roundw
        case rel => exact ⟨i + 1, by omega, by go_num, HF.out⟩
        case measure => simp [intOf]; omega
    · have hir : i = r2 := by omega
      subst hir
      have HF := Lib.hid (show OwnMat wr w.heap.size (.slice (some ⟨g2, off2, none⟩) i ucap) (matF c2 (minE E R L) i) ∧ Below w.heap.size w wr from by
        refine ⟨?_, hb⟩
        rw [matF_ext (E := minE E R L) (F := minF E R L i) (fun a b ha _ => (if_pos ha).symm)]
        exact hm.own (by omega) (by omega))
      clear hm hb
      go_wp2_with fail
      rw [HVV.out]
      refine bodyPost_ret (v := .tuple #[.slice (some ⟨g2, off2, none⟩) i ucap, .bool true]) (by simp [results, Try.results64, go_sem]) rfl ⟨_, rfl, HF.out⟩
theorem iMinorOf (p : Int) (v : Value) (M : List (List Int)) (row col : Int) (w : World) (h : Mat w v M) :
    Calls Try.prog 64 #[.int .i64 p, v, .int .i64 row, .int .i64 col] w fun e w' => ∃ u, e = .returned (.tuple #[u, .bool (minB p M row col)]) ∧ OwnMat w' w.heap.size u (mnrV p M row col) ∧ Below w.heap.size w w' := by
  cases hn : minB p M row col
  · refine (iMinor_no p v M row col w h hn).mono ?_
    rintro e w' ⟨u, rfl, h1, h2⟩
    exact ⟨u, by rw [hn], h1, h2⟩
  · obtain ⟨_, _, _, ⟨h1, _⟩, h2, _⟩ := minB_iff.1 hn
    obtain ⟨R, rfl⟩ := Int.eq_ofNat_of_zero_le h1
    obtain ⟨L, rfl⟩ := Int.eq_ofNat_of_zero_le h2
    exact iMinor_yes p v M R L w h hn
end Go.Proofs.Ytlcmddghppdmgaa
