/-
  The walk of the exact law of MakePoly, with the laws' own helpers at slices of terms. Conditions: none but that the slice reads as a list of terms.
-/
import Derived.Test.YtiahcaihmgnicaaMak
namespace Go.Proofs.Ytiahcaihmgnicaa
open Go.RowKit
set_option maxHeartbeats 2000000 in
theorem toPS_some (cap : Nat) (g off : Nat) (L : List Trm) (w : World) (hL : 0 < L.length) (hL1 : L.length ≤ 1048576) (hg : g < w.heap.size)
    (hc : ∀ j : Nat, j < L.length → TAt w g (off + j * 4) (L.getD j default)) :
    Calls Try.prog 19 #[.slice (some ⟨g, off, none⟩) L.length cap] w (GivesTrms L w) := by
  obtain ⟨i0, hi, hz0, hz1, hz2⟩ := info_parts infoT
  have HC := Lib.hid hc
  clear hc
  go_enter Try.func19, Try.ntmps19
  go_wp2_with (at_make; refine wpList_make_full _ rfl _ _ 24 rfl w.heap.size 68 i0 (.agg #[.int .i64 0, .int .i64 0, .int .i64 0, .int .i64 0]) 4 Try.underlying24 hi hz0 hz1 .i64 .i64 L.length L.length L.length rfl rfl rfl rfl ?c2 ?c3 ?c4 ?_)
  case c2 => rw [hz2]; omega
  case c3 => unfold maxLen; omega
  case c4 => exact Nat.le_refl _
  intro w2 hown hgr
  have hS : BuildW L w.heap.size 0 w w2 := by
    constructor
    · intro j hj; omega
    · intro i hi
      rw [hown.cellAt i hi]
      exact made_some _ _ _ hi
    · intro i hi; exact hown.frozenAt i
    · exact (hown.lt _ rfl).2
    · exact (Below.refl _ _).grown hgr (Nat.le_refl _) (fun k hk => by cases hk)
  clear hown hgr hi hz0 hz1 hz2
  go_wp2_with fail
  go_loopw [4] (fun i wr => ∃ k : Nat, k ≤ L.length ∧ i = .int .i64 k ∧ BuildW L w.heap.size k w wr) (fun i _ => L.length - (intOf i).toNat)
  case atStart => exact ⟨0, by omega, rfl, hS⟩
  case round =>
    clear hS
    obtain ⟨k, hk, rfl, hS⟩ := hrel
    by_cases hlt : k < L.length
    · have hltp : (k : Int) < (L.length : Int) := by omega
      have hk0 : (0 : Int) ≤ (k : Int) := by omega
      have HS := Lib.hid hS
      obtain ⟨h0, h1, h2, h3⟩ := (HC.out k hlt).below hS.low hg
      clear hS
      obtain ⟨x, hx⟩ : ∃ x, x = L.getD k default := ⟨_, rfl⟩
      rw [← hx] at h0 h1 h2 h3
      have Hx := Lib.hid hx
      clear hx
      go_wp2_with fail
      refine (toT x.a x.b x.c x.t _).mono ?_
      rintro e w3 ⟨rfl, hb3⟩
      have hS3 := HS.out.below hb3
      have hSt := Lib.hid (hS3.step hlt (Nat.le_refl _))
      obtain ⟨u0, c0⟩ := hS3.some (k * 4) (by omega)
      obtain ⟨u1, c1⟩ := hS3.some (k * 4 + 1) (by omega)
      obtain ⟨u2, c2⟩ := hS3.some (k * 4 + 2) (by omega)
      obtain ⟨u3, c3⟩ := hS3.some (k * 4 + 3) (by omega)
      have f0 := hS3.froz (k * 4) (by omega)
      have f1 := hS3.froz (k * 4 + 1) (by omega)
      have f2 := hS3.froz (k * 4 + 2) (by omega)
      have f3 := hS3.froz (k * 4 + 3) (by omega)
      clear hS3 hb3 HS h0 h1 h2 h3
      go_wp2
      go_roundw
      case rel => exact ⟨k + 1, by omega, by go_num, by have := hSt.out; rw [← Hx.out] at this; exact this⟩
      case measure => simp [intOf]; omega
    · have hkl : k = L.length := by omega
      subst hkl
      go_wp2
      go_ret
      exact ⟨_, rfl, ⟨hL1, _, _, rfl, .inr ⟨w.heap.size, 0, rfl, Nat.le_refl _, hS.sz, fun j hj => by rw [Nat.zero_add]; exact hS.done j hj, fun i hi => by rw [Nat.zero_add]; exact hS.froz i hi⟩⟩, hS.low⟩
theorem toPS_nil (a : Option Addr) (cap : Nat) (w : World) :
    Calls Try.prog 19 #[.slice a 0 cap] w (GivesTrms [] w) := by
  obtain ⟨i0, hi, hz0, hz1, hz2⟩ := info_parts infoT
  go_enter Try.func19, Try.ntmps19
  go_wp2_with (at_make; refine wpList_make_full _ rfl _ _ 24 rfl w.heap.size 68 i0 (.agg #[.int .i64 0, .int .i64 0, .int .i64 0, .int .i64 0]) 4 Try.underlying24 hi hz0 hz1 .i64 .i64 0 0 0 rfl rfl rfl rfl ?c2 ?c3 ?c4 ?_)
  case c2 => omega
  case c3 => unfold maxLen; omega
  case c4 => exact Nat.le_refl _
  intro w2 hown hgr
  have hlow : Below w.heap.size w w2 := (Below.refl _ _).grown hgr (Nat.le_refl _) (fun k hk => by cases hk)
  clear hown hgr hi hz0 hz1 hz2
  go_wp2_with fail
  go_loop [4] (fun i => i = .int .i64 0) (fun _ => 0)
  case atStart => rfl
  case round =>
    obtain rfl := hrel
    go_wp2
    go_ret
    exact ⟨_, rfl, ⟨by simp, _, _, rfl, .inl rfl⟩, hlow⟩
theorem toPS (v : Value) (L : List Trm) (w : World) (h : Trms w v L) :
    Calls Try.prog 19 #[v] w (GivesTrms L w) := by
  obtain ⟨h1, a, cap, rfl, h2⟩ := h
  rcases h2 with rfl | ⟨g, off, rfl, hg, hc⟩
  · exact toPS_nil a cap w
  · by_cases h0 : 0 < L.length
    · exact toPS_some cap g off L w h0 h1 hg hc
    · have : L = [] := List.length_eq_zero_iff.1 (by omega)
      subst this
      exact toPS_nil _ cap w
theorem szPS (a : Option Addr) (n cap : Nat) (m : Int) (w : World) (hm0 : 0 ≤ m) (hm1 : m ≤ 1048576) (hn : (n : Int) ≤ 9223372036854775807) :
    Calls Try.prog 17 #[.slice a n cap, .int .i64 m] w fun e w' => e = .returned (.int .i64 (if m < n then -1 else m - n)) ∧ w = w' := by
  by_cases h : m < (n : Int)
  · rw [if_pos h]
    go_enter Try.func17, Try.ntmps17
    go_wp2
    go_ret
    exact ⟨rfl, rfl⟩
  · rw [if_neg h]
    go_enter Try.func17, Try.ntmps17
    go_wp2
    go_ret
    exact ⟨rfl, rfl⟩
set_option maxHeartbeats 4000000 in
theorem eqPS_same (g1 o1 c1 g2 o2 c2 : Nat) (L : List Trm) (w : World) (hl : L.length ≤ 1048576) (hg1 : g1 < w.heap.size) (hg2 : g2 < w.heap.size)
    (h1 : ∀ j : Nat, j < L.length → TAt w g1 (o1 + j * 4) (L.getD j default)) (h2 : ∀ j : Nat, j < L.length → TAt w g2 (o2 + j * 4) (L.getD j default)) :
    Calls Try.prog 22 #[.slice (some ⟨g1, o1, none⟩) L.length c1, .slice (some ⟨g2, o2, none⟩) L.length c2] w fun e w' => e = .returned (.bool true) ∧ Below w.heap.size w w' := by
  have H1 := Lib.hid h1
  have H2 := Lib.hid h2
  clear h1 h2
  go_enter Try.func22, Try.ntmps22
  go_wp2_with fail
  go_loopw [5] (fun i wr => ∃ k : Nat, k ≤ L.length ∧ i = .int .i64 k ∧ Below w.heap.size w wr) (fun i _ => L.length - (intOf i).toNat)
  case atStart => exact ⟨0, by omega, rfl, Below.refl _ _⟩
  case round =>
    obtain ⟨k, hk, rfl, hb⟩ := hrel
    by_cases hlt : k < L.length
    · have hltp : (k : Int) < (L.length : Int) := by omega
      have hk0 : (0 : Int) ≤ (k : Int) := by omega
      obtain ⟨a0, a1, a2, a3⟩ := (H1.out k hlt).below hb hg1
      obtain ⟨b0, b1, b2, b3⟩ := (H2.out k hlt).below hb hg2
      obtain ⟨x, hx⟩ : ∃ x, x = L.getD k default := ⟨_, rfl⟩
      rw [← hx] at a0 a1 a2 a3 b0 b1 b2 b3
      clear hx
      have hr1 : g1 < wr.heap.size := Nat.lt_of_lt_of_le hg1 hb.size
      have hr2 : g2 < wr.heap.size := Nat.lt_of_lt_of_le hg2 hb.size
      have Hb := Lib.hid hb
      clear hb
      go_wp2_with fail
      go_region_held3 (fun w' => (w'.cell? ⟨g1, o1 + k * 4, none⟩ = some (.int .i64 x.a) ∧ w'.cell? ⟨g1, o1 + k * 4 + 1, none⟩ = some (.int .i64 x.b) ∧ w'.cell? ⟨g1, o1 + k * 4 + 2, none⟩ = some (.int .i64 x.c) ∧ w'.cell? ⟨g1, o1 + k * 4 + 3, none⟩ = some (.int .i64 x.t)) ∧ w'.cell? ⟨g2, o2 + k * 4, none⟩ = some (.int .i64 x.a) ∧ w'.cell? ⟨g2, o2 + k * 4 + 1, none⟩ = some (.int .i64 x.b) ∧ w'.cell? ⟨g2, o2 + k * 4 + 2, none⟩ = some (.int .i64 x.c) ∧ w'.cell? ⟨g2, o2 + k * 4 + 3, none⟩ = some (.int .i64 x.t)) (first | go_keep | exact keepTT hb1 (by simpa using hr1) (by simpa using hr2) (by assumption))
        (first | (go_at_call 71; refine (eqT x.a x.b x.c x.t x.a x.b x.c x.t _).mono ?_; rintro e w1 ⟨rfl, hb1⟩))
      have hs := Hb.out.size
      have hbb : Below w.heap.size w _ := Below.trans (by repeat (first | exact Hb.out | apply Below.drew | apply below_drewN)) (hb1.mono (by simpa using hs))
      go_wp2
      go_roundw
      case rel => exact ⟨k + 1, by omega, by go_num, by repeat (first | exact hbb | apply Below.drew | apply below_drewN)⟩
      case measure => simp [intOf]; omega
    · go_wp2
      go_ret
      exact ⟨rfl, hb⟩
theorem eqPS_nil (a1 a2 : Option Addr) (c1 c2 : Nat) (w : World) :
    Calls Try.prog 22 #[.slice a1 0 c1, .slice a2 0 c2] w fun e w' => e = .returned (.bool true) ∧ Below w.heap.size w w' := by
  go_enter Try.func22, Try.ntmps22
  go_wp2_with fail
  go_loop [5] (fun i => i = .int .i64 0) (fun _ => 0)
  case atStart => rfl
  case round =>
    obtain rfl := hrel
    go_wp2
    go_ret
    exact ⟨rfl, Below.refl _ _⟩
/-- two slices that read as one list are found equal -/
theorem eqPS (v1 v2 : Value) (L : List Trm) (w : World) (h1 : Trms w v1 L) (h2 : Trms w v2 L) :
    Calls Try.prog 22 #[v1, v2] w fun e w' => e = .returned (.bool true) ∧ Below w.heap.size w w' := by
  obtain ⟨hl, a1, c1, rfl, h1⟩ := h1
  obtain ⟨_, a2, c2, rfl, h2⟩ := h2
  rcases h1 with rfl | ⟨g1, o1, rfl, hg1, h1⟩
  · exact eqPS_nil a1 a2 c1 c2 w
  · rcases h2 with rfl | ⟨g2, o2, rfl, hg2, h2⟩
    · exact eqPS_nil _ a2 c1 c2 w
    · exact eqPS_same g1 o1 c1 g2 o2 c2 L w hl hg1 hg2 h1 h2
set_option maxHeartbeats 4000000 in
theorem markTS (g off n cap : Nat) (k : Int) (w : World) (hn : n ≤ 1048576) (hk0 : 0 ≤ k) (hk1 : k ≤ 1000000000000)
    (hc : ∀ i : Nat, i < n * 4 → ∃ x, w.cell? ⟨g, off + i, none⟩ = some x) (hf : ∀ i : Nat, i < n * 4 → w.frozen? ⟨g, off + i, none⟩ = false) :
    Calls Try.prog 23 #[.slice (some ⟨g, off, none⟩) n cap, .int .i64 k] w fun e w' => e = .returned (.int .i64 (k + 4 * (n : Int))) ∧ MarkT g off n k n w w' := by
  have h0 : MarkT g off n k 0 w w := ⟨fun i hi => by omega, hc, fun _ => rfl, fun _ _ => rfl, rfl, rfl, rfl, rfl⟩
  have hF := Lib.hid hf
  clear hc hf
  go_enter Try.func23, Try.ntmps23
  go_wp2_with fail
  go_loopw [1, 5] (fun q i wr => ∃ j : Nat, j ≤ n ∧ i = .int .i64 j ∧ q = .int .i64 (k + 4 * (j : Int)) ∧ MarkT g off n k j w wr) (fun _ i _ => n - (intOf i).toNat)
  case atStart => exact ⟨0, by omega, rfl, by simp, h0⟩
  case round =>
    obtain ⟨j, hj, rfl, rfl, hR⟩ := hrel
    clear h0
    by_cases hlt : j < n
    · have hltp : (j : Int) < (n : Int) := by omega
      have hj0 : (0 : Int) ≤ (j : Int) := by omega
      obtain ⟨u0, c0⟩ := hR.cells (j * 4) (by omega)
      obtain ⟨u1, c1⟩ := hR.cells (j * 4 + 1) (by omega)
      obtain ⟨u2, c2⟩ := hR.cells (j * 4 + 2) (by omega)
      obtain ⟨u3, c3⟩ := hR.cells (j * 4 + 3) (by omega)
      rw [← Nat.add_assoc] at c1 c2 c3
      have f0 : wr.frozen? ⟨g, off + j * 4, none⟩ = false := by rw [hR.froz]; exact hF.out _ (by omega)
      have f1 : wr.frozen? ⟨g, off + j * 4 + 1, none⟩ = false := by rw [hR.froz, Nat.add_assoc]; exact hF.out _ (by omega)
      have f2 : wr.frozen? ⟨g, off + j * 4 + 2, none⟩ = false := by rw [hR.froz, Nat.add_assoc]; exact hF.out _ (by omega)
      have f3 : wr.frozen? ⟨g, off + j * 4 + 3, none⟩ = false := by rw [hR.froz, Nat.add_assoc]; exact hF.out _ (by omega)
      have hS := Lib.hid (hR.step hlt)
      clear hR
      go_wp2_with fail
      refine wp_loop_rounds 4 ?_
      iterate 4 (rw [rounds_succ]; go_wp2)
      go_roundw
      case rel => exact ⟨j + 1, by omega, by go_num, by go_num, hS.out⟩
      case measure => simp [intOf]; omega
    · have hjn : j = n := by omega
      subst hjn
      go_wp2
      go_ret
      exact ⟨rfl, hR⟩
theorem markTSnil (a : Option Addr) (cap : Nat) (k : Int) (w : World) :
    Calls Try.prog 23 #[.slice a 0 cap, .int .i64 k] w fun e w' => e = .returned (.int .i64 k) ∧ w = w' := by
  go_enter Try.func23, Try.ntmps23
  go_wp2_with fail
  go_loop [1, 5] (fun q i => i = .int .i64 0 ∧ q = .int .i64 k) (fun _ _ => 0)
  case atStart => exact ⟨rfl, rfl⟩
  case round =>
    obtain ⟨rfl, rfl⟩ := hrel
    go_wp2_with fail
    go_ret
    exact ⟨rfl, rfl⟩
theorem szPS_at (a : Option Addr) (n cap : Nat) (m : Int) (w : World) (h0 : 0 ≤ m) (h1 : m ≤ 1048576) (h : (n : Int) ≤ m) :
    Calls Try.prog 17 #[.slice a n cap, .int .i64 m] w fun e w' => e = .returned (.int .i64 (m - (n : Int))) ∧ w = w' :=
  (szPS a n cap m w h0 h1 (by omega)).mono fun e w' h => by rw [if_neg (by omega)] at h; exact h
theorem szPS_over (a : Option Addr) (n cap : Nat) (m : Int) (w : World) (h0 : 0 ≤ m) (h1 : m ≤ 1048576) (h : m < (n : Int)) (h2 : (n : Int) ≤ 9223372036854775807) :
    Calls Try.prog 17 #[.slice a n cap, .int .i64 m] w fun e w' => e = .returned (.int .i64 (-1)) ∧ w = w' :=
  (szPS a n cap m w h0 h1 h2).mono fun e w' h => by rw [if_pos (by omega)] at h; exact h
/-- an argument of a law is marked: what was made behind it stays -/
theorem markTSsame (v : Value) (L : List Trm) (B : Nat) (k : Int) (w3 w : World) (h : OwnTrms w3 B v L) (hw : Same B w3 w) (hk0 : 0 ≤ k) (hk1 : k ≤ 1000000000000) :
    Calls Try.prog 23 #[v, .int .i64 k] w fun e w' => e = .returned (.int .i64 (k + 4 * (L.length : Int))) ∧ Betw B w3.heap.size w w' := by
  obtain ⟨h1, a, cap, rfl, h2⟩ := h
  rcases h2 with rfl | ⟨g, off, rfl, hB, hg, hc, hf⟩
  · refine (markTSnil a cap k w).mono ?_
    rintro e w' ⟨rfl, rfl⟩
    exact ⟨by simp, rfl, rfl, rfl, rfl, fun _ _ => rfl⟩
  · have e := hw g hB hg
    refine (markTS g off L.length cap k w h1 hk0 hk1 (fun i hi => ?_) (fun i hi => by rw [frozen_of_heap (p := ⟨g, off + i, none⟩) e]; exact hf i hi)).mono ?_
    · obtain ⟨t0, t1, t2, t3⟩ := hc (i / 4) (by omega)
      have ce : ∀ o, w.cell? ⟨g, o, none⟩ = w3.cell? ⟨g, o, none⟩ := fun o => cell_of_heap (p := ⟨g, o, none⟩) e
      have : i = i / 4 * 4 ∨ i = i / 4 * 4 + 1 ∨ i = i / 4 * 4 + 2 ∨ i = i / 4 * 4 + 3 := by omega
      rcases this with e | e | e | e
      · rw [e, ce]; exact ⟨_, t0⟩
      · rw [e, ← Nat.add_assoc, ce]; exact ⟨_, t1⟩
      · rw [e, ← Nat.add_assoc, ce]; exact ⟨_, t2⟩
      · rw [e, ← Nat.add_assoc, ce]; exact ⟨_, t3⟩
    · rintro e w' ⟨rfl, hM⟩
      exact ⟨rfl, hM.os, hM.tape, hM.output, hM.size, fun b hb => hM.far b (by omega)⟩
set_option maxRecDepth 100000 in
set_option maxHeartbeats 8000000 in
theorem xMakePoly_in (a0 : Int) (a1 : Option Addr) (L1 : List Trm) (c1 : Nat) (r0 : List Trm) (r1 : Bool) (w : World) (h1 : Trms w (.slice a1 L1.length c1) L1) (hl : L1.length ≤ 1048576)
    (hS : ∀ f1, ∀ w, Trms w f1 L1 → Calls Try.prog 18 #[.int .i64 a0, f1] w fun e w' => ∃ u0, e = .returned (.tuple #[u0, .bool r1]) ∧ OwnTrms w' w.heap.size u0 r0 ∧ Below w.heap.size w w')
    (hI : ∀ f1, ∀ w, Trms w f1 L1 → Calls Try.prog 20 #[.int .i64 a0, f1] w fun e w' => ∃ u0, e = .returned (.tuple #[u0, .bool r1]) ∧ OwnTrms w' w.heap.size u0 r0 ∧ Below w.heap.size w w') :
    Calls Try.prog 3 #[.int .i64 a0, .slice a1 L1.length c1] w fun e w' => e = .returned (.bool true) ∧ Below w.heap.size w w' := by
  have m1 : (1048576 : Int) - L1.length ≥ 0 := by omega
  have HS1 := Lib.hid (fun w => szPS_at a1 L1.length c1 (1048576) w (by omega) (by omega) (by omega))
  have Q1 := Lib.hid h1
  have n1 : (L1.length : Int) ≤ 1048576 := by omega
  clear h1
  have HSP := Lib.hid hS
  have HIM := Lib.hid hI
  clear hS hI
  have bb1 := bne_self2 r1
  go_enter Try.func3, Try.ntmps3
  go_wp2_with fail
  refine (HS1.out _).mono ?_
  rintro e w' ⟨rfl, rfl⟩
  have B := Lib.hid (Below.refl w.heap.size w)
  go_wp2_with fail
  refine (toPS _ L1 _ (Q1.out.below B.out)).mono ?_
  rintro e W1 ⟨s1, rfl, ho, hb⟩
  have Z1 := Lib.hid hb.size
  replace B := Lib.hid (B.out.trans (hb.mono B.out.size))
  clear hb
  have S1 := Lib.hid ho.trms
  clear ho
  go_wp2_with fail
  refine (HSP.out _ _ S1.out).mono ?_
  rintro e W2 ⟨v0, rfl, hv0, hb⟩
  have Z2 := Lib.hid hb.size
  replace B := Lib.hid (B.out.trans (hb.mono B.out.size))
  replace S1 := Lib.hid (S1.out.below hb)
  clear hb
  clear S1
  have V0 := Lib.hid hv0.trms
  have z0 : (r0.length : Int) ≤ 1048576 := by have := hv0.1; omega
  clear hv0
  have X := Lib.hid (Below.refl W2.heap.size W2)
  go_wp2_with fail
  refine (toPS _ L1 _ (Q1.out.below B.out)).mono ?_
  rintro e W3 ⟨x1, rfl, ho, hb⟩
  have Z3 := Lib.hid hb.size
  replace B := Lib.hid (B.out.trans (hb.mono B.out.size))
  replace X := Lib.hid (X.out.trans (hb.mono X.out.size))
  clear hb
  have O1 := Lib.hid ho
  clear ho
  have Y1 := Lib.hid (Below.refl W3.heap.size W3)
  go_wp2_with fail
  refine (HIM.out _ _ (O1.out.trms.below Y1.out)).mono ?_
  rintro e W4 ⟨g0, rfl, hg0, hb⟩
  have P1 := Lib.hid (show w.heap.size ≤ W2.heap.size ∧ W2.heap.size ≤ W2.heap.size ∧ W3.heap.size ≤ W3.heap.size by have := B.out.size; have := X.out.size; have := Z1.out; have := Z2.out; have := Z3.out; first | omega | (refine ⟨?_, ?_, ?_⟩ <;> omega))
  have PG := Lib.hid (show w.heap.size ≤ W3.heap.size ∧ W2.heap.size ≤ W3.heap.size by have := Z1.out; have := Z2.out; have := Z3.out; first | omega | (refine ⟨?_, ?_⟩ <;> omega))
  replace B := Lib.hid (B.out.trans (hb.mono B.out.size))
  replace X := Lib.hid (X.out.trans (hb.mono X.out.size))
  replace Y1 := Lib.hid (Y1.out.trans (hb.mono Y1.out.size))
  clear hb
  have G0 := Lib.hid hg0
  clear hg0
  go_wp2_with fail
  refine (eqP g0 v0 r0 _ G0.out.trms (V0.out.below X.out)).mono ?_
  rintro e W5 ⟨rfl, hb⟩
  replace B := Lib.hid (B.out.trans (hb.mono B.out.size))
  replace X := Lib.hid (X.out.trans (hb.mono X.out.size))
  replace Y1 := Lib.hid (Y1.out.trans (hb.mono Y1.out.size))
  replace G0 := Lib.hid (G0.out.below hb)
  clear hb
  go_wp2_with fail
  refine (toPS _ L1 _ (Q1.out.below B.out)).mono ?_
  rintro e W6 ⟨y1, rfl, ho, hb⟩
  replace B := Lib.hid (B.out.trans (hb.mono B.out.size))
  replace X := Lib.hid (X.out.trans (hb.mono X.out.size))
  replace Y1 := Lib.hid (Y1.out.trans (hb.mono Y1.out.size))
  replace G0 := Lib.hid (G0.out.below hb)
  clear hb
  have S1 := Lib.hid ho.trms
  clear ho
  go_wp2_with fail
  refine (eqPS x1 y1 L1 _ (O1.out.trms.below Y1.out) S1.out).mono ?_
  rintro e W7 ⟨rfl, hb⟩
  clear S1
  replace B := Lib.hid (B.out.trans (hb.mono B.out.size))
  replace X := Lib.hid (X.out.trans (hb.mono X.out.size))
  replace Y1 := Lib.hid (Y1.out.trans (hb.mono Y1.out.size))
  replace G0 := Lib.hid (G0.out.below hb)
  clear hb
  go_wp2_with fail
  refine (markTSsame x1 L1 _ (1) W3 _ O1.out (same_of Y1.out) (by omega) (by omega)).mono ?_
  rintro e W8 ⟨rfl, hb⟩
  replace B := Lib.hid (B.out.trans (hb.low.mono P1.out.1))
  replace X := Lib.hid (X.out.trans (hb.low.mono P1.out.2.1))
  replace G0 := Lib.hid (G0.out.betw' P1.out.2.2 hb)
  clear hb
  go_wp2_with fail
  refine (eqP g0 v0 r0 _ G0.out.trms (V0.out.below X.out)).mono ?_
  rintro e W9 ⟨rfl, hb⟩
  replace B := Lib.hid (B.out.trans (hb.mono B.out.size))
  replace X := Lib.hid (X.out.trans (hb.mono X.out.size))
  replace G0 := Lib.hid (G0.out.below hb)
  clear hb
  go_wp2_with fail
  refine (markTown g0 r0 _ (1) _ G0.out (by omega) (by omega)).mono ?_
  rintro e W10 ⟨rfl, hh, hb, hs⟩
  replace B := Lib.hid (B.out.trans (hb.mono PG.out.1))
  replace X := Lib.hid (X.out.trans (hb.mono PG.out.2))
  have D0 := Lib.hid hh
  clear hh hb hs
  go_wp2_with fail
  refine (heldTown g0 r0.length _ 1 _ D0.out (by omega) (by omega)).mono ?_
  rintro e W11 ⟨rfl, rfl⟩
  go_wp2_with fail
  refine (toPS _ L1 _ (Q1.out.below B.out)).mono ?_
  rintro e W12 ⟨t1, rfl, ho, hb⟩
  replace B := Lib.hid (B.out.trans (hb.mono B.out.size))
  replace X := Lib.hid (X.out.trans (hb.mono X.out.size))
  replace D0 := Lib.hid (D0.out.below hb)
  clear hb
  have S1 := Lib.hid ho.trms
  clear ho
  go_wp2_with fail
  refine (HIM.out _ _ S1.out).mono ?_
  rintro e W13 ⟨t0, rfl, ht0, hb⟩
  replace B := Lib.hid (B.out.trans (hb.mono B.out.size))
  replace X := Lib.hid (X.out.trans (hb.mono X.out.size))
  replace D0 := Lib.hid (D0.out.below hb)
  replace S1 := Lib.hid (S1.out.below hb)
  clear hb
  clear S1
  have T0 := Lib.hid ht0.trms
  clear ht0
  go_wp2_with fail
  refine (eqP t0 v0 r0 _ T0.out (V0.out.below X.out)).mono ?_
  rintro e W14 ⟨rfl, hb⟩
  replace B := Lib.hid (B.out.trans (hb.mono B.out.size))
  replace X := Lib.hid (X.out.trans (hb.mono X.out.size))
  replace D0 := Lib.hid (D0.out.below hb)
  replace T0 := Lib.hid (T0.out.below hb)
  clear hb
  go_wp2_with fail
  refine (heldTown g0 r0.length _ 1 _ D0.out (by omega) (by omega)).mono ?_
  rintro e W15 ⟨rfl, rfl⟩
  go_wp2_with fail
  go_ret
  exact ⟨rfl, B.out⟩
set_option maxHeartbeats 1000000 in
theorem xMakePoly_long0 (a0 : Int) (a1 : Option Addr) (n1 c1 : Nat) (w : World) (h1 : 1048576 < n1) (h2 : n1 ≤ 9223372036854775807) :
    Calls Try.prog 3 #[.int .i64 a0, .slice a1 n1 c1] w fun e w' => e = .returned (.bool true) ∧ Below w.heap.size w w' := by
  have HS1 := Lib.hid (fun w => szPS_over a1 n1 c1 (1048576) w (by omega) (by omega) (by omega) (by omega))
  clear h1 h2
  go_enter Try.func3, Try.ntmps3
  go_wp2_with fail
  refine (HS1.out _).mono ?_
  rintro e w' ⟨rfl, rfl⟩
  go_wp2_with fail
  go_ret
  exact ⟨rfl, Below.refl _ _⟩
theorem xMakePoly (p : Int) (a : Option Addr) (len cap : Nat) (L : List Trm) (w : World) (h : RowT w a len L) :
    Calls Try.prog 3 #[.int .i64 p, .slice a len cap] w fun e w' => e = .returned (.bool true) ∧ Below w.heap.size w w' := by
  by_cases hl : len ≤ 1048576
  · have e1 := h.1
    subst e1
    exact xMakePoly_in p a L cap (makeV p L) (makeOk p L) w (h.trms hl) hl (fun f w hf => sMakePoly p f L w hf) (fun f w hf => iMakePoly p f L w hf)
  · exact xMakePoly_long0 p a len cap w (by omega) h.2.1
end Go.Proofs.Ytiahcaihmgnicaa
