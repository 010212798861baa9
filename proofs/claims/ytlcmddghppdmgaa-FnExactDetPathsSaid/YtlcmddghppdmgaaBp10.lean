/-
  Contracts of the exact laws' helpers on programs of paths: szProgram, toProgram, eqProgram. Conditions: what the slices hold is known.
  Contracts of the exact laws' helpers on programs of paths, on: toProgram. Conditions: what the slices hold is known.
  Contracts of the exact laws' helpers on programs of paths, on: toProgram, eqProgram. Conditions: what the slices hold is known.
  Contracts of the exact laws' helpers on programs of paths: markProgram, heldProgram. Conditions: what the slices hold is known.
  Contracts of the exact laws' helpers on programs of paths, on: heldProgram; what stays when an argument is marked. Conditions: what the slices hold is known.
-/
import Derived.Test.YtlcmddghppdmgaaBp7
import Derived.Test.YtlcmddghppdmgaaBp9
import Derived.Test.YtlcmddghppdmgaaBp3
namespace Go.Proofs.Ytlcmddghppdmgaa
set_option linter.unusedVariables false
open Go.RowKit
theorem AAtR.below {w w' : World} {g o : Nat} {x : Arr} (h : AAtR w g o x) (hb : Below w.heap.size w w') (hg : g < w.heap.size) : ∃ a cap, w'.cell? ⟨g, o, none⟩ = some (.int .i64 x.f) ∧ w'.cell? ⟨g, o + 1, none⟩ = some (.int .i64 x.t) ∧ w'.cell? ⟨g, o + 2, none⟩ = some (.slice a x.L.length cap) ∧ x.L.length ≤ 9223372036854775807 := by
  obtain ⟨h1, h2, a, len, cap, h3, h4⟩ := h
  have e := h4.1
  refine ⟨a, cap, by rw [hb.cell (p := ⟨g, o, none⟩) hg]; exact h1, by rw [hb.cell (p := ⟨g, o + 1, none⟩) hg]; exact h2, ?_, ?_⟩
  · rw [hb.cell (p := ⟨g, o + 2, none⟩) hg, e]; exact h3
  · rw [e]; exact h4.2.1
theorem szA1 (f t : Int) (b : Option Addr) (n c : Nat) (m : Int) (w : World) (hm0 : 0 ≤ m) (hm1 : m ≤ 1048576) (hn : (n : Int) ≤ 9223372036854775807) :
    Calls Try.prog 153 #[.agg #[.int .i64 f, .int .i64 t, .slice b n c], .int .i64 m] w fun e w' => e = .returned (.int .i64 (if m < n then -1 else m - n)) ∧ Below w.heap.size w w' := by
  by_cases h : m < (n : Int)
  · rw [if_pos h]
    go_enter Try.func153, Try.ntmps153
    go_wp2_with (go_at_call 189; refine (szP b n c m _ hm0 hm1 hn).mono ?_; rw [if_pos h]; rintro e w1 ⟨rfl, rfl⟩)
    go_ret
    exact ⟨rfl, (by repeat (first | exact Below.refl _ _ | apply Below.drew | apply below_drewN | (refine Below.alloc ?_ (by first | omega | (simp <;> omega)) _)))⟩
  · rw [if_neg h]
    have hge : ¬ m - (n : Int) < 0 := by omega
    go_enter Try.func153, Try.ntmps153
    go_wp2_with (go_at_call 189; refine (szP b n c m _ hm0 hm1 hn).mono ?_; rw [if_neg h]; rintro e w1 ⟨rfl, rfl⟩)
    go_ret
    exact ⟨rfl, (by repeat (first | exact Below.refl _ _ | apply Below.drew | apply below_drewN | (refine Below.alloc ?_ (by first | omega | (simp <;> omega)) _)))⟩
set_option maxHeartbeats 2000000 in
theorem szS_at (a : Option Addr) (A : List Arr) (cap : Nat) (m : Int) (w : World) (h : RowP w a A.length A) (h0 : 0 ≤ m) (h1 : m ≤ 1048576) (h2 : (A.length : Int) + (acN A : Int) ≤ m) :
    Calls Try.prog 76 #[.slice a A.length cap, .int .i64 m] w fun e w' => e = .returned (.int .i64 (m - ((A.length : Int) + (acN A : Int)))) ∧ Below w.heap.size w w' := by
  obtain ⟨_, _, h3⟩ := h
  have HD := Lib.hid h3
  clear h3
  go_enter Try.func76, Try.ntmps76
  go_wp2_with fail
  go_loopw [1, 5] (fun q i wr => ∃ j : Nat, j ≤ A.length ∧ i = .int .i64 j ∧ q = .int .i64 (m - (A.length : Int) - (acT A j : Int)) ∧ Below w.heap.size w wr) (fun _ i _ => A.length - (intOf i).toNat)
  case atStart => exact ⟨0, by omega, rfl, by simp [acT], Below.refl _ _⟩
  case round =>
    obtain ⟨j, hj, rfl, rfl, hb⟩ := hrel
    have hc1 := acT_le (A := A) hj
    have hcn : acN A = acT A A.length := rfl
    by_cases hlt : j < A.length
    · have hltp : (j : Int) < (A.length : Int) := by omega
      have hj0 : (0 : Int) ≤ (j : Int) := by omega
      rcases HD.out with h | ⟨g, off, rfl, hg, hc⟩
      · rw [h] at hlt; simp at hlt
      obtain ⟨b, c, q1, q2, q3, q4⟩ := (hc j hlt).below hb hg
      have hcs : acT A (j + 1) = acT A j + (arw A j).L.length := rfl
      have hc2 := acT_le (A := A) (show j + 1 ≤ A.length by omega)
      obtain ⟨x, hx⟩ : ∃ x, x = arw A j := ⟨_, rfl⟩
      rw [← hx] at q1 q2 q3 q4 hcs
      obtain ⟨n, hn⟩ : ∃ n, n = x.L.length := ⟨_, rfl⟩
      rw [← hn] at q3 q4 hcs
      have hS := fun W => szA1 x.f x.t b n c (m - (A.length : Int) - (acT A j : Int)) W (by omega) (by omega) (by omega)
      rw [if_neg (by omega)] at hS
      have HS := Lib.hid hS
      have HN := Lib.hid hn
      have HB := Lib.hid hb
      have HE := Lib.hid (show m - (A.length : Int) - (acT A j : Int) - (n : Int) = m - (A.length : Int) - (acT A (j + 1) : Int) by omega)
      have hge : ¬ m - (A.length : Int) - (acT A j : Int) - (n : Int) < 0 := by omega
      clear hS hn hcs hc hc1 hc2 hcn hb hx q4
      go_wp2_with fail
      refine (HS.out _).mono ?_
      rintro e w' ⟨rfl, hb1⟩
      have HB1 := Lib.hid (HB.out.trans (hb1.mono HB.out.size))
      clear hb1 HB HS q1 q2 q3
      go_wp2
      go_roundw
      case rel => exact ⟨j + 1, by omega, by go_num, by rw [← HE.out], HB1.out⟩
      case measure => simp [intOf]; omega
    · have hjl : j = A.length := by omega
      subst hjl
      go_wp2
      go_ret
      exact ⟨ret_int' (by have := hcn; omega), hb⟩
set_option maxHeartbeats 2000000 in
theorem szS_over (a : Option Addr) (n cap : Nat) (A : List Arr) (m : Int) (w : World) (h : RowP w a n A) (h0 : 0 ≤ m) (h1 : m ≤ 1048576) (h2 : m < (n : Int) + (acN A : Int)) :
    Calls Try.prog 76 #[.slice a n cap, .int .i64 m] w fun e w' => e = .returned (.int .i64 (-1)) ∧ Below w.heap.size w w' := by
  obtain ⟨rfl, hb, h3⟩ := h
  by_cases hbig : m < (A.length : Int)
  · clear h3 h2
    go_enter Try.func76, Try.ntmps76
    go_wp2
    go_ret
    exact ⟨rfl, Below.refl _ _⟩
  · have HD := Lib.hid h3
    have H2 := Lib.hid h2
    clear h3 h2
    go_enter Try.func76, Try.ntmps76
    go_wp2_with fail
    go_loopw [1, 5] (fun q i wr => ∃ j : Nat, j ≤ A.length ∧ i = .int .i64 j ∧ (acT A j : Int) ≤ m - (A.length : Int) ∧ q = .int .i64 (m - (A.length : Int) - (acT A j : Int)) ∧ Below w.heap.size w wr) (fun _ i _ => A.length - (intOf i).toNat)
    case atStart => exact ⟨0, by omega, rfl, by simp [acT]; omega, by simp [acT], Below.refl _ _⟩
    case round =>
      obtain ⟨j, hj, rfl, hle, rfl, hb⟩ := hrel
      by_cases hlt : j < A.length
      · have hltp : (j : Int) < (A.length : Int) := by omega
        have hj0 : (0 : Int) ≤ (j : Int) := by omega
        rcases HD.out with h | ⟨g, off, rfl, hg, hc⟩
        · rw [h] at hlt; simp at hlt
        obtain ⟨b, c, q1, q2, q3, q4⟩ := (hc j hlt).below hb hg
        have hcs : acT A (j + 1) = acT A j + (arw A j).L.length := rfl
        obtain ⟨x, hx⟩ : ∃ x, x = arw A j := ⟨_, rfl⟩
        rw [← hx] at q1 q2 q3 q4 hcs
        obtain ⟨n, hn⟩ : ∃ n, n = x.L.length := ⟨_, rfl⟩
        rw [← hn] at q3 q4 hcs
        have hS := fun W => szA1 x.f x.t b n c (m - (A.length : Int) - (acT A j : Int)) W (by omega) (by omega) (by omega)
        have HB := Lib.hid hb
        by_cases hbg : m - (A.length : Int) - (acT A j : Int) < (n : Int)
        · rw [if_pos hbg] at hS
          have HS := Lib.hid hS
          clear hS hn hcs hc hbg hle hb hx q4
          go_wp2_with fail
          refine (HS.out _).mono ?_
          rintro e w' ⟨rfl, hb1⟩
          have HB1 := Lib.hid (HB.out.trans (hb1.mono HB.out.size))
          clear hb1 HB HS q1 q2 q3
          go_wp2
          go_ret
          exact ⟨rfl, HB1.out⟩
        · rw [if_neg hbg] at hS
          have HS := Lib.hid hS
          have HE := Lib.hid (show m - (A.length : Int) - (acT A j : Int) - (n : Int) = m - (A.length : Int) - (acT A (j + 1) : Int) ∧ (acT A (j + 1) : Int) ≤ m - (A.length : Int) by omega)
          have hge : ¬ m - (A.length : Int) - (acT A j : Int) - (n : Int) < 0 := by omega
          clear hS hn hcs hc hbg hb hx q4
          go_wp2_with fail
          refine (HS.out _).mono ?_
          rintro e w' ⟨rfl, hb1⟩
          have HB1 := Lib.hid (HB.out.trans (hb1.mono HB.out.size))
          clear hb1 HB HS q1 q2 q3
          go_wp2
          go_roundw
          case rel => exact ⟨j + 1, by omega, by go_num, HE.out.2, by rw [← HE.out.1], HB1.out⟩
          case measure => simp [intOf]; omega
      · have hjl : j = A.length := by omega
        subst hjl
        have := H2.out
        unfold acN at this
        omega
theorem szPr (nn : Int) (a : Option Addr) (n cap : Nat) (A : List Arr) (m : Int) (w : World) (h : RowP w a n A) (h0 : 0 ≤ m) (h1 : m ≤ 1048576) :
    Calls Try.prog 18 #[.agg #[.int .i64 nn, .slice a n cap], .int .i64 m] w fun e w' => e = .returned (.int .i64 (if m < (n : Int) + (acN A : Int) then -1 else m - ((n : Int) + (acN A : Int)))) ∧ Below w.heap.size w w' := by
  have hb1 : ∀ w', Below w.heap.size w w' → RowP w' a n A := fun w' hb => by
    obtain ⟨q1, q2, q3⟩ := h
    refine ⟨q1, q2, ?_⟩
    rcases q3 with q3 | ⟨g, off, ha, hg, hc⟩
    · exact .inl q3
    · refine .inr ⟨g, off, ha, Nat.lt_of_lt_of_le hg hb.size, fun i hi => ?_⟩
      obtain ⟨r1, r2, b, l, c, r3, r4, r5, r6⟩ := hc i hi
      refine ⟨by rw [hb.cell (p := ⟨g, _, none⟩) hg]; exact r1, by rw [hb.cell (p := ⟨g, _, none⟩) hg]; exact r2, b, l, c, by rw [hb.cell (p := ⟨g, _, none⟩) hg]; exact r3, r4, r5, ?_⟩
      rcases r6 with r6 | ⟨g2, o2, e2, hg2, hc2⟩
      · exact .inl r6
      · exact .inr ⟨g2, o2, e2, Nat.lt_of_lt_of_le hg2 hb.size, fun j hj => (hc2 j hj).below hb hg2⟩
  have HB := Lib.hid hb1
  by_cases hlt : m < (n : Int) + (acN A : Int)
  · rw [if_pos hlt]
    clear hb1
    go_enter Try.func18, Try.ntmps18
    go_wp2_with fail
    refine (szS_over a n cap A m _ (HB.out _ (by repeat (first | exact Below.refl _ _ | apply Below.drew | apply below_drewN | (refine Below.alloc ?_ (by first | omega | (simp <;> omega)) _)))) h0 h1 hlt).mono ?_
    rintro e w1 ⟨rfl, hb⟩
    go_wp2
    go_ret
    exact ⟨rfl, Below.trans (by repeat (first | exact Below.refl _ _ | apply Below.drew | apply below_drewN | (refine Below.alloc ?_ (by first | omega | (simp <;> omega)) _))) (hb.mono (by simp))⟩
  · rw [if_neg hlt]
    have hn : A.length = n := h.1
    subst hn
    have hge : ¬ m - ((A.length : Int) + (acN A : Int)) < 0 := by omega
    clear hb1
    go_enter Try.func18, Try.ntmps18
    go_wp2_with fail
    refine (szS_at a A cap m _ (HB.out _ (by repeat (first | exact Below.refl _ _ | apply Below.drew | apply below_drewN | (refine Below.alloc ?_ (by first | omega | (simp <;> omega)) _)))) h0 h1 (by omega)).mono ?_
    rintro e w1 ⟨rfl, hb⟩
    go_wp2
    go_ret
    exact ⟨rfl, Below.trans (by repeat (first | exact Below.refl _ _ | apply Below.drew | apply below_drewN | (refine Below.alloc ?_ (by first | omega | (simp <;> omega)) _))) (hb.mono (by simp))⟩
end Go.Proofs.Ytlcmddghppdmgaa
namespace Go.Proofs.Ytlcmddghppdmgaa
set_option linter.unusedVariables false
open Go.RowKit
set_option maxHeartbeats 1000000 in
theorem toA1 (f t : Int) (u : Value) (L : List Trm) (w : World) (h : Trms w u L) :
    Calls Try.prog 156 #[.agg #[.int .i64 f, .int .i64 t, u]] w fun e w' => ∃ a cap, e = .returned (.agg #[.int .i64 f, .int .i64 t, .slice a L.length cap]) ∧ OwnTrms w' w.heap.size (.slice a L.length cap) L ∧ Below w.heap.size w w' := by
  obtain ⟨hl, a0, c0, rfl, h2⟩ := h
  have HT := Lib.hid (show ∀ W, Below w.heap.size w W → Calls Try.prog 192 #[.slice a0 L.length c0] W (GivesTrms L W) from fun W hb => toP _ L W (Trms.below ⟨hl, a0, c0, rfl, h2⟩ hb))
  clear h2
  go_enter Try.func156, Try.ntmps156
  go_wp2_with fail
  obtain ⟨W3, hW3⟩ : ∃ W3, W3 = ((w.alloc (Obj.cells #[.int .i64 f, .int .i64 t, .slice a0 L.length c0] 130)).alloc (Obj.cells #[.int .i64 0, .int .i64 0, .slice none 0 0] 80)).alloc (Obj.cells #[.int .i64 f, .int .i64 t, .slice none 0 0] 80) := ⟨_, rfl⟩
  rw [← hW3]
  have hb3 : Below w.heap.size w W3 := by rw [hW3]; exact (by repeat (first | exact Below.refl _ _ | apply Below.drew | apply below_drewN | (refine Below.alloc ?_ (by first | omega | (simp <;> omega)) _)))
  have hs3 : W3.heap.size = w.heap.size + 3 := by rw [hW3]; simp
  have k1 : ∀ i (x : Value), (#[Value.int .i64 0, .int .i64 0, .slice none 0 0] : Array Value)[i]? = some x → W3.cell? ⟨w.heap.size + 1, i, none⟩ = some x := fun i x hi => by
    rw [hW3, World.cell?_alloc_past _ _ _ (by simp), World.cell?_alloc_at _ _ _ _ (by simp)]; exact hi
  have k2 : ∀ i (x : Value), (#[Value.int .i64 f, .int .i64 t, .slice none 0 0] : Array Value)[i]? = some x → W3.cell? ⟨w.heap.size + 2, i, none⟩ = some x := fun i x hi => by
    rw [hW3, World.cell?_alloc_at _ _ _ _ (by simp)]; exact hi
  have z1 : ∀ i, W3.frozen? ⟨w.heap.size + 1, i, none⟩ = false := fun i => by
    rw [hW3, World.frozen?_alloc_past _ _ _ (by simp), World.frozen?_alloc_at _ _ _ _ (by simp)]
  have z2 : ∀ i, W3.frozen? ⟨w.heap.size + 2, i, none⟩ = false := fun i => by
    rw [hW3, World.frozen?_alloc_at _ _ _ _ (by simp)]
  refine (HT.out W3 hb3).mono ?_
  rintro e w4 ⟨v, rfl, ho, hb⟩
  obtain ⟨q1, a, cap, rfl, q2⟩ := ho
  have K : ∀ i j x, i < 3 → W3.cell? ⟨w.heap.size + i, j, none⟩ = some x → w4.cell? ⟨w.heap.size + i, j, none⟩ = some x := fun i j x hi hx => by rw [hb.cell (p := ⟨w.heap.size + i, j, none⟩) (show w.heap.size + i < W3.heap.size by omega)]; exact hx
  have c10 : w4.cell? ⟨w.heap.size + 1, 0, none⟩ = some (.int .i64 0) := K 1 0 _ (by omega) (k1 0 _ rfl)
  have c11 : w4.cell? ⟨w.heap.size + 1, 1, none⟩ = some (.int .i64 0) := K 1 1 _ (by omega) (k1 1 _ rfl)
  have c12 : w4.cell? ⟨w.heap.size + 1, 2, none⟩ = some (.slice none 0 0) := K 1 2 _ (by omega) (k1 2 _ rfl)
  have c20 : w4.cell? ⟨w.heap.size + 1 + 1, 0, none⟩ = some (.int .i64 f) := K 2 0 _ (by omega) (k2 0 _ rfl)
  have c21 : w4.cell? ⟨w.heap.size + 1 + 1, 1, none⟩ = some (.int .i64 t) := K 2 1 _ (by omega) (k2 1 _ rfl)
  have c22 : w4.cell? ⟨w.heap.size + 1 + 1, 2, none⟩ = some (.slice none 0 0) := K 2 2 _ (by omega) (k2 2 _ rfl)
  have Z : ∀ i j, i < 3 → w4.frozen? ⟨w.heap.size + i, j, none⟩ = W3.frozen? ⟨w.heap.size + i, j, none⟩ := fun i j hi => hb.frozen (p := ⟨w.heap.size + i, j, none⟩) (show w.heap.size + i < W3.heap.size by omega)
  have f10 : w4.frozen? ⟨w.heap.size + 1, 0, none⟩ = false := (Z 1 0 (by omega)).trans (z1 0)
  have f11 : w4.frozen? ⟨w.heap.size + 1, 1, none⟩ = false := (Z 1 1 (by omega)).trans (z1 1)
  have f12 : w4.frozen? ⟨w.heap.size + 1, 2, none⟩ = false := (Z 1 2 (by omega)).trans (z1 2)
  have f22 : w4.frozen? ⟨w.heap.size + 1 + 1, 2, none⟩ = false := (Z 2 2 (by omega)).trans (z2 2)
  have HO := Lib.hid (show OwnTrms w4 W3.heap.size (.slice a L.length cap) L from ⟨q1, a, cap, rfl, q2⟩)
  have HB := Lib.hid (hb3.trans (hb.mono (by omega)))
  have HS := Lib.hid hs3
  clear hW3 hb3 hs3 k1 k2 z1 z2 hb q2 K Z
  go_wp2
  have hx : ∀ d, d < 3 → ∃ x, (w4.setCell ⟨w.heap.size + 1 + 1, 2, none⟩ (.slice a L.length cap)).cell? ⟨w.heap.size + 1, 0 + d, none⟩ = some x := fun d hd => by
    rw [Nat.zero_add, World.cell?_setCell_other _ _ _ _ (ad_ne (by omega))]
    have : d = 0 ∨ d = 1 ∨ d = 2 := by omega
    rcases this with rfl | rfl | rfl
    · exact ⟨_, c10⟩
    · exact ⟨_, c11⟩
    · exact ⟨_, c12⟩
  obtain ⟨p0, p1, p2⟩ := putA_at (w4.setCell ⟨w.heap.size + 1 + 1, 2, none⟩ (.slice a L.length cap)) (w.heap.size + 1) 0 f t (.slice a L.length cap) hx
  unfold putA at p0 p1 p2
  simp only [Nat.zero_add] at p0 p1 p2
  refine bodyPost_ret (v := .agg #[.int .i64 f, .int .i64 t, .slice a L.length cap]) (by simp [results, Try.results156, go_sem, p0, p1, p2]) rfl ?_
  refine ⟨a, cap, rfl, ?_, ?_⟩
  · obtain ⟨r1, a', cap', r2, r3⟩ := HO.out
    refine ⟨r1, a', cap', r2, ?_⟩
    rcases r3 with r3 | ⟨g, off, r3, r4, r5, r6, r7⟩
    · exact .inl r3
    · have hs := HS.out
      refine .inr ⟨g, off, r3, by omega, by simpa using r5, fun j hj => (r6 j hj).same ?_, fun i hi => by simpa using r7 i hi⟩
      rw [Below.heap_setCell _ _ _ _ (show g ≠ w.heap.size + 1 by omega), Below.heap_setCell _ _ _ _ (show g ≠ w.heap.size + 1 by omega), Below.heap_setCell _ _ _ _ (show g ≠ w.heap.size + 1 by omega), Below.heap_setCell _ _ _ _ (show g ≠ w.heap.size + 1 + 1 by omega)]
  · have := HB.out
    repeat (first | exact HB.out | (refine Below.setCell ?_ (by simp <;> omega) _))
/-- arrows of one's own that are made, behind j of them -/
structure BuildA (A : List Arr) (g n j : Nat) (w wr : World) : Prop where
  arr : ∃ H, OArr wr g g 0 H (A.take j)
  some : ∀ i, i < n * 3 → ∃ x, wr.cell? ⟨g, i, none⟩ = some x
  froz : ∀ i, i < n * 3 → wr.frozen? ⟨g, i, none⟩ = false
  low : Below g w wr
theorem takeA_snoc {A : List Arr} {j : Nat} (h : j < A.length) : A.take (j + 1) = A.take j ++ [⟨(arw A j).f, (arw A j).t, (arw A j).L⟩] := by
  have e : arw A j = A[j] := by simp [arw, List.getD_eq_getElem?_getD, h]
  rw [List.take_succ_eq_append_getElem h, e]
theorem BuildA.below {A : List Arr} {g n j : Nat} {w wr w' : World} (h : BuildA A g n j w wr) (hb : Below wr.heap.size wr w') : BuildA A g n j w w' := by
  obtain ⟨⟨H, hm⟩, h1, h2, h3⟩ := h
  have hg := hm.gl
  exact ⟨⟨H, hm.below hb⟩, fun i hi => by rw [hb.cell (p := ⟨g, i, none⟩) hg]; exact h1 i hi, fun i hi => by rw [hb.frozen (p := ⟨g, i, none⟩) hg]; exact h2 i hi, h3.trans (hb.mono (by omega))⟩
/-- an arrow with a label in a new block is put behind -/
theorem BuildA.push {A : List Arr} {g n j : Nat} {w wr w2 : World} (h : BuildA A g n j w wr) (hb : Below wr.heap.size wr w2) (hj : j < A.length) (hn : j < n) (u : Value) (hu : OwnTrms w2 wr.heap.size u (arw A j).L) :
    BuildA A g n (j + 1) w (putA w2 g (j * 3) (arw A j).f (arw A j).t u) := by
  have hb' := h.below hb
  obtain ⟨H, hm⟩ := h.arr
  have hl : (A.take j).length = j := by simp; omega
  have hgl := hm.gl
  obtain ⟨h', hh, ht⟩ := hu.inb
  have hP := (hm.below hb).push (by rw [hl, Nat.zero_add]; exact fun d hd => hb'.some _ (by omega)) (by rw [hl, Nat.zero_add]; exact fun d hd => hb'.froz _ (by omega)) (arw A j).f (arw A j).t u (arw A j).L h' ht (fun hn => by
    have := hh hn
    refine ⟨by omega, by omega, fun i hi hn2 e => ?_⟩
    have := (hm.hb i hi hn2).2.1
    omega)
  rw [hl, Nat.zero_add] at hP
  refine ⟨⟨_, by rw [takeA_snoc hj]; exact hP⟩, fun i hi => ?_, fun i hi => by rw [putA_frozen]; exact hb'.froz i hi, putA_low hb'.low _ _ _ _ _ (Nat.le_refl _)⟩
  by_cases e : i < j * 3 ∨ j * 3 + 3 ≤ i
  · obtain ⟨y, hy⟩ := hb'.some i hi
    exact ⟨y, by rw [putA_far _ _ _ _ _ _ _ _ (.inr e)]; exact hy⟩
  · obtain ⟨p0, p1, p2⟩ := putA_at w2 g (j * 3) (arw A j).f (arw A j).t u (fun d hd => hb'.some _ (by omega))
    have : i = j * 3 ∨ i = j * 3 + 1 ∨ i = j * 3 + 2 := by omega
    rcases this with rfl | rfl | rfl
    · exact ⟨_, p0⟩
    · exact ⟨_, p1⟩
    · exact ⟨_, p2⟩
theorem infoAr : (Try.prog.info? 80).map (fun i => (i.zero, i.size, i.bytes)) = some (some (.agg #[.int .i64 0, .int .i64 0, .slice none 0 0]), 3, 40) := by kernel_rfl
set_option maxHeartbeats 4000000 in
theorem toAS (v : Value) (A : List Arr) (w : World) (h : Arrs w v A) :
    Calls Try.prog 80 #[v] w fun e w' => ∃ a cap, e = .returned (.slice a A.length cap) ∧ OwnArrs w' w.heap.size (.slice a A.length cap) A ∧ Below w.heap.size w w' := by
  obtain ⟨i0, hi, hz0, hz1, hz2⟩ := info_parts infoAr
  obtain ⟨b1, b2, a, cap, rfl, h3⟩ := h
  have HD := Lib.hid h3
  clear h3
  go_enter Try.func80, Try.ntmps80
  go_wp2_with (at_make; refine wpList_make_full _ rfl _ _ 27 rfl w.heap.size 80 i0 (.agg #[.int .i64 0, .int .i64 0, .slice none 0 0]) 3 Try.underlying27 hi hz0 hz1 .i64 .i64 A.length A.length A.length rfl rfl rfl rfl ?c2 ?c3 ?c4 ?_)
  case c2 => rw [hz2]; omega
  case c3 => unfold maxLen; omega
  case c4 => exact Nat.le_refl _
  intro w2 hown hgr
  have hS : BuildA A w.heap.size A.length 0 w w2 := by
    refine ⟨⟨fun _ => 0, OArr.nil _ (Nat.le_refl _) (hown.lt _ rfl).2⟩, fun j hj => ?_, fun i hi => hown.frozenAt i, (Below.refl _ _).grown hgr (Nat.le_refl _) (fun k hk => by cases hk)⟩
    rw [hown.cellAt j (by omega)]
    exact made_some _ _ _ (by omega)
  clear hown hgr hi hz0 hz1 hz2
  go_wp2_with fail
  go_loopw [4] (fun i wr => ∃ j : Nat, j ≤ A.length ∧ i = .int .i64 j ∧ BuildA A w.heap.size A.length j w wr) (fun i _ => A.length - (intOf i).toNat)
  case atStart => exact ⟨0, by omega, rfl, hS⟩
  case round =>
    clear hS
    obtain ⟨j, hj, rfl, hS⟩ := hrel
    by_cases hlt : j < A.length
    · have hltp : (j : Int) < (A.length : Int) := by omega
      have hj0 : (0 : Int) ≤ (j : Int) := by omega
      rcases HD.out with h | ⟨g, off, rfl, hg, hc⟩
      · rw [h] at hlt; simp at hlt
      obtain ⟨x1, x2, u, x3, x4⟩ := hc j hlt
      have k1 : wr.cell? ⟨g, off + j * 3, none⟩ = some (.int .i64 (arw A j).f) := by rw [hS.low.cell (p := ⟨g, off + j * 3, none⟩) hg]; exact x1
      have k2 : wr.cell? ⟨g, off + j * 3 + 1, none⟩ = some (.int .i64 (arw A j).t) := by rw [hS.low.cell (p := ⟨g, off + j * 3 + 1, none⟩) hg]; exact x2
      have k3 : wr.cell? ⟨g, off + j * 3 + 2, none⟩ = some u := by rw [hS.low.cell (p := ⟨g, off + j * 3 + 2, none⟩) hg]; exact x3
      have HT := Lib.hid (toA1 (arw A j).f (arw A j).t u (arw A j).L wr (x4.below hS.low))
      have HS := Lib.hid hS
      obtain ⟨_, ua, uc, rfl, _⟩ := x4
      obtain ⟨x, hx⟩ : ∃ x, x = arw A j := ⟨_, rfl⟩
      rw [← hx] at k1 k2 k3 HT
      have HX := Lib.hid hx
      clear hc x1 x2 x3 hS hx
      go_wp2_with fail
      refine HT.out.mono ?_
      rintro e w3 ⟨a3, c3, rfl, ho, hb⟩
      have hb' := HS.out.below hb
      obtain ⟨y0, d0⟩ := hb'.some (j * 3) (by omega)
      obtain ⟨y1, d1⟩ := hb'.some (j * 3 + 1) (by omega)
      obtain ⟨y2, d2⟩ := hb'.some (j * 3 + 2) (by omega)
      have f0 := hb'.froz (j * 3) (by omega)
      have f1 := hb'.froz (j * 3 + 1) (by omega)
      have f2 := hb'.froz (j * 3 + 2) (by omega)
      have HP := Lib.hid (HS.out.push hb hlt hlt _ (by rw [← HX.out]; exact ho))
      rw [← HX.out] at HP
      unfold putA at HP
      clear HT HS ho hb hb' k1 k2 k3
      go_wp2
      go_roundw
      case rel => exact ⟨j + 1, by omega, by go_num, HP.out⟩
      case measure => simp [intOf]; omega
    · have hkl : j = A.length := by omega
      subst hkl
      have hS2 := hS
      obtain ⟨⟨H, hm⟩, _, _, hlow⟩ := hS2
      rw [List.take_length] at hm
      have HM := Lib.hid (And.intro hm hlow)
      clear hS hm hlow
      go_wp2
      go_ret
      exact ⟨_, _, rfl, ⟨b1, b2, _, _, rfl, .inr ⟨w.heap.size, 0, H, rfl, HM.out.1⟩⟩, HM.out.2⟩
end Go.Proofs.Ytlcmddghppdmgaa
namespace Go.Proofs.Ytlcmddghppdmgaa
set_option linter.unusedVariables false
open Go.RowKit
set_option maxHeartbeats 1000000 in
theorem toPr (nn : Int) (u : Value) (A : List Arr) (w : World) (h : Arrs w u A) :
    Calls Try.prog 20 #[.agg #[.int .i64 nn, u]] w fun e w' => ∃ v, e = .returned (.agg #[.int .i64 nn, v]) ∧ OwnArrs w' w.heap.size v A ∧ Below w.heap.size w w' := by
  obtain ⟨hl, hl2, a0, c0, rfl, h2⟩ := h
  have HT := Lib.hid (show ∀ W, Below w.heap.size w W → _ from fun W hb => toAS _ A W (Arrs.below ⟨hl, hl2, a0, c0, rfl, h2⟩ hb))
  clear h2
  go_enter Try.func20, Try.ntmps20
  go_wp2_with fail
  obtain ⟨W3, hW3⟩ : ∃ W3, W3 = ((w.alloc (Obj.cells #[.int .i64 nn, .slice a0 A.length c0] 24)).alloc (Obj.cells #[.int .i64 0, .slice none 0 0] 29)).alloc (Obj.cells #[.int .i64 nn, .slice none 0 0] 29) := ⟨_, rfl⟩
  rw [← hW3]
  have hb3 : Below w.heap.size w W3 := by rw [hW3]; exact (by repeat (first | exact Below.refl _ _ | apply Below.drew | apply below_drewN | (refine Below.alloc ?_ (by first | omega | (simp <;> omega)) _)))
  have hs3 : W3.heap.size = w.heap.size + 3 := by rw [hW3]; simp
  have k1 : ∀ i (x : Value), (#[Value.int .i64 0, .slice none 0 0] : Array Value)[i]? = some x → W3.cell? ⟨w.heap.size + 1, i, none⟩ = some x := fun i x hi => by
    rw [hW3, World.cell?_alloc_past _ _ _ (by simp), World.cell?_alloc_at _ _ _ _ (by simp)]; exact hi
  have k2 : ∀ i (x : Value), (#[Value.int .i64 nn, .slice none 0 0] : Array Value)[i]? = some x → W3.cell? ⟨w.heap.size + 2, i, none⟩ = some x := fun i x hi => by
    rw [hW3, World.cell?_alloc_at _ _ _ _ (by simp)]; exact hi
  have z1 : ∀ i, W3.frozen? ⟨w.heap.size + 1, i, none⟩ = false := fun i => by
    rw [hW3, World.frozen?_alloc_past _ _ _ (by simp), World.frozen?_alloc_at _ _ _ _ (by simp)]
  have z2 : ∀ i, W3.frozen? ⟨w.heap.size + 2, i, none⟩ = false := fun i => by
    rw [hW3, World.frozen?_alloc_at _ _ _ _ (by simp)]
  refine (HT.out W3 hb3).mono ?_
  rintro e w4 ⟨a, cap, rfl, ho, hb⟩
  have K : ∀ i j x, i < 3 → W3.cell? ⟨w.heap.size + i, j, none⟩ = some x → w4.cell? ⟨w.heap.size + i, j, none⟩ = some x := fun i j x hi hx => by rw [hb.cell (p := ⟨w.heap.size + i, j, none⟩) (show w.heap.size + i < W3.heap.size by omega)]; exact hx
  have c10 : w4.cell? ⟨w.heap.size + 1, 0, none⟩ = some (.int .i64 0) := K 1 0 _ (by omega) (k1 0 _ rfl)
  have c11 : w4.cell? ⟨w.heap.size + 1, 1, none⟩ = some (.slice none 0 0) := K 1 1 _ (by omega) (k1 1 _ rfl)
  have c20 : w4.cell? ⟨w.heap.size + 1 + 1, 0, none⟩ = some (.int .i64 nn) := K 2 0 _ (by omega) (k2 0 _ rfl)
  have c21 : w4.cell? ⟨w.heap.size + 1 + 1, 1, none⟩ = some (.slice none 0 0) := K 2 1 _ (by omega) (k2 1 _ rfl)
  have Z : ∀ i j, i < 3 → w4.frozen? ⟨w.heap.size + i, j, none⟩ = W3.frozen? ⟨w.heap.size + i, j, none⟩ := fun i j hi => hb.frozen (p := ⟨w.heap.size + i, j, none⟩) (show w.heap.size + i < W3.heap.size by omega)
  have f10 : w4.frozen? ⟨w.heap.size + 1, 0, none⟩ = false := (Z 1 0 (by omega)).trans (z1 0)
  have f11 : w4.frozen? ⟨w.heap.size + 1, 1, none⟩ = false := (Z 1 1 (by omega)).trans (z1 1)
  have f21 : w4.frozen? ⟨w.heap.size + 1 + 1, 1, none⟩ = false := (Z 2 1 (by omega)).trans (z2 1)
  have HO := Lib.hid ho
  have HB := Lib.hid (hb3.trans (hb.mono (by omega)))
  have HS := Lib.hid hs3
  clear hW3 hb3 hs3 k1 k2 z1 z2 hb ho K Z
  go_wp2
  have p1 : (((w4.setCell ⟨w.heap.size + 1 + 1, 1, none⟩ (.slice a A.length cap)).setCell ⟨w.heap.size + 1, 0, none⟩ (.int .i64 nn)).setCell ⟨w.heap.size + 1, 1, none⟩ (.slice a A.length cap)).cell? ⟨w.heap.size + 1, 1, none⟩ = some (.slice a A.length cap) :=
    World.cell?_setCell_same _ _ _ (by rw [World.cell?_setCell_other _ _ _ _ (ad_ne (by omega)), World.cell?_setCell_other _ _ _ _ (ad_ne (by omega))]; exact c11)
  have p0 : (((w4.setCell ⟨w.heap.size + 1 + 1, 1, none⟩ (.slice a A.length cap)).setCell ⟨w.heap.size + 1, 0, none⟩ (.int .i64 nn)).setCell ⟨w.heap.size + 1, 1, none⟩ (.slice a A.length cap)).cell? ⟨w.heap.size + 1, 0, none⟩ = some (.int .i64 nn) := by
    rw [World.cell?_setCell_other _ _ _ _ (ad_ne (by omega))]
    exact World.cell?_setCell_same _ _ _ (by rw [World.cell?_setCell_other _ _ _ _ (ad_ne (by omega))]; exact c10)
  refine bodyPost_ret (v := .agg #[.int .i64 nn, .slice a A.length cap]) (by simp [results, Try.results20, go_sem, p0, p1]) rfl ?_
  refine ⟨_, rfl, ?_, ?_⟩
  · obtain ⟨r1, r2, a', cap', r3, r4⟩ := HO.out
    refine ⟨r1, r2, a', cap', r3, ?_⟩
    rcases r4 with r4 | ⟨g, off, H, r4, hm⟩
    · exact .inl r4
    · have hs := HS.out
      have hE : ∀ b, W3.heap.size ≤ b → (((w4.setCell ⟨w.heap.size + 1 + 1, 1, none⟩ (.slice a A.length cap)).setCell ⟨w.heap.size + 1, 0, none⟩ (.int .i64 nn)).setCell ⟨w.heap.size + 1, 1, none⟩ (.slice a A.length cap)).heap[b]? = w4.heap[b]? := fun b hb => by
        rw [Below.heap_setCell _ _ _ _ (show b ≠ w.heap.size + 1 by omega), Below.heap_setCell _ _ _ _ (show b ≠ w.heap.size + 1 by omega), Below.heap_setCell _ _ _ _ (show b ≠ w.heap.size + 1 + 1 by omega)]
      exact .inr ⟨g, off, H, r4, (hm.same (hE _ hm.bg) (fun i hi hn => hE _ (hm.hb i hi hn).1)).base (by omega)⟩
  · have := HB.out
    repeat (first | exact HB.out | (refine Below.setCell ?_ (by simp <;> omega) _))
theorem eqA1 (f t : Int) (u1 u2 : Value) (L : List Trm) (w : World) (h1 : Trms w u1 L) (h2 : Trms w u2 L) :
    Calls Try.prog 157 #[.agg #[.int .i64 f, .int .i64 t, u1], .agg #[.int .i64 f, .int .i64 t, u2]] w fun e w' => e = .returned (.bool true) ∧ Below w.heap.size w w' := by
  have HT := Lib.hid (show ∀ W, Below w.heap.size w W → _ from fun W hb => eqP u1 u2 L W (h1.below hb) (h2.below hb))
  have e1 : (f != f) = false := by simp
  have e2 : (t != t) = false := by simp
  obtain ⟨_, a1, c1, rfl, _⟩ := h1
  obtain ⟨_, a2, c2, rfl, _⟩ := h2
  go_enter Try.func157, Try.ntmps157
  go_wp2_with fail
  refine (HT.out _ (by repeat (first | exact Below.refl _ _ | apply Below.drew | apply below_drewN | (refine Below.alloc ?_ (by first | omega | (simp <;> omega)) _)))).mono ?_
  rintro e w1 ⟨rfl, hb⟩
  have HB := Lib.hid (show Below w.heap.size w w1 from Below.trans (by repeat (first | exact Below.refl _ _ | apply Below.drew | apply below_drewN | (refine Below.alloc ?_ (by first | omega | (simp <;> omega)) _))) (hb.mono (by simp <;> omega)))
  clear hb
  go_wp2
  go_ret
  exact ⟨rfl, HB.out⟩
set_option maxRecDepth 100000 in
set_option maxHeartbeats 4000000 in
/-- two values that read as one list of arrows are found equal -/
theorem eqAS (v1 v2 : Value) (A : List Arr) (w : World) (h1 : Arrs w v1 A) (h2 : Arrs w v2 A) :
    Calls Try.prog 83 #[v1, v2] w fun e w' => e = .returned (.bool true) ∧ Below w.heap.size w w' := by
  obtain ⟨b1, _, a1, c1, rfl, h1⟩ := h1
  obtain ⟨_, _, a2, c2, rfl, h2⟩ := h2
  have H1 := Lib.hid h1
  have H2 := Lib.hid h2
  clear h1 h2
  have hlb : ((A.length : Int) != (A.length : Int)) = false := by simp
  go_enter Try.func83, Try.ntmps83
  go_wp2_with fail
  go_loopw [5] (fun i wr => ∃ j : Nat, j ≤ A.length ∧ i = .int .i64 j ∧ Below w.heap.size w wr) (fun i _ => A.length - (intOf i).toNat)
  case atStart => exact ⟨0, by omega, rfl, Below.refl _ _⟩
  case round =>
    obtain ⟨j, hj, rfl, hb⟩ := hrel
    by_cases hlt : j < A.length
    · have hltp : (j : Int) < (A.length : Int) := by omega
      have hj0 : (0 : Int) ≤ (j : Int) := by omega
      rcases H1.out with h | ⟨g1, o1, rfl, hg1, hc1⟩
      · rw [h] at hlt; simp at hlt
      rcases H2.out with h | ⟨g2, o2, rfl, hg2, hc2⟩
      · rw [h] at hlt; simp at hlt
      have hz := hb.size
      obtain ⟨p0, p1, u1, p2, p3⟩ := (hc1 j hlt).below hb hg1
      obtain ⟨q0, q1, u2, q2, q3⟩ := (hc2 j hlt).below hb hg2
      obtain ⟨x, hx⟩ : ∃ x, x = arw A j := ⟨_, rfl⟩
      rw [← hx] at p0 p1 p3 q0 q1 q3
      have HS := Lib.hid (fun w' (hw : Below wr.heap.size wr w') => show (w'.cell? ⟨g1, o1 + j * 3, none⟩ = some (.int .i64 x.f) ∧ w'.cell? ⟨g1, o1 + j * 3 + 1, none⟩ = some (.int .i64 x.t) ∧ w'.cell? ⟨g1, o1 + j * 3 + 2, none⟩ = some u1) ∧ w'.cell? ⟨g2, o2 + j * 3, none⟩ = some (.int .i64 x.f) ∧ w'.cell? ⟨g2, o2 + j * 3 + 1, none⟩ = some (.int .i64 x.t) ∧ w'.cell? ⟨g2, o2 + j * 3 + 2, none⟩ = some u2 from by
        have k1 : g1 < wr.heap.size := by omega
        have k2 : g2 < wr.heap.size := by omega
        exact ⟨⟨(hw.cell (p := ⟨g1, _, none⟩) k1).trans p0, (hw.cell (p := ⟨g1, _, none⟩) k1).trans p1, (hw.cell (p := ⟨g1, _, none⟩) k1).trans p2⟩, (hw.cell (p := ⟨g2, _, none⟩) k2).trans q0, (hw.cell (p := ⟨g2, _, none⟩) k2).trans q1, (hw.cell (p := ⟨g2, _, none⟩) k2).trans q2⟩)
      have HE := Lib.hid (fun w' (hw : Below wr.heap.size wr w') => eqA1 x.f x.t u1 u2 x.L w' (p3.below hw) (q3.below hw))
      have HB := Lib.hid hb
      obtain ⟨_, ua, uc, rfl, _⟩ := p3
      obtain ⟨_, va, vc, rfl, _⟩ := q3
      clear hc1 hc2 hb p0 p1 p2 q0 q1 q2 H1 H2 hx hz
      go_wp2_with fail
      refine wp_region_seq [(0, true), (1, true), (2, true), (3, true), (4, true), (5, true), (6, true), (7, true), (8, false)] (fun w' => (w'.cell? ⟨g1, o1 + j * 3, none⟩ = some (.int .i64 x.f) ∧ w'.cell? ⟨g1, o1 + j * 3 + 1, none⟩ = some (.int .i64 x.t) ∧ w'.cell? ⟨g1, o1 + j * 3 + 2, none⟩ = some (.slice ua x.L.length uc)) ∧ w'.cell? ⟨g2, o2 + j * 3, none⟩ = some (.int .i64 x.f) ∧ w'.cell? ⟨g2, o2 + j * 3 + 1, none⟩ = some (.int .i64 x.t) ∧ w'.cell? ⟨g2, o2 + j * 3 + 2, none⟩ = some (.slice va x.L.length vc)) (by kernel_rfl) (by kernel_rfl) rfl (by intro c a d v w h; cases d <;> exact h) (HS.out _ (Below.drew (Below.refl _ _))) ?_
      iterate 8 (refine wpSeq_take (v := ?_) (List.getElem?_toArray.trans rfl) ?_ ?_; rotate_left; (intro w' hSw; (try dsimp only at hSw); go_simp; (try with_reducible rfl)); (try simp only [Act.put, List.setIfInBounds_toArray, List.set_cons_zero, List.set_cons_succ]))
      refine wpSeq_do (List.getElem?_toArray.trans rfl) (fun K hK => ?_)
      go_simp
      refine (HE.out _ (Below.drew (Below.refl _ _))).mono ?_
      rintro e w6 ⟨rfl, hd⟩
      have hb6 : Below wr.heap.size wr w6 := (Below.drew (Below.refl _ _)).trans (hd.mono (by simp))
      refine hK _ _ (HS.out _ hb6) ?_
      clear hK K
      refine wpSeq_nil ?_
      simp only [Exit.then]
      have HF := Lib.hid (HB.out.trans (hb6.mono HB.out.size))
      clear hd hb6 HS HE HB
      go_wp2_with fail
      go_roundw
      case rel => exact ⟨j + 1, by omega, by go_num, HF.out⟩
      case measure => simp [intOf]; omega
    · have hjl : j = A.length := by omega
      subst hjl
      go_wp2
      go_ret
      exact ⟨rfl, hb⟩
theorem eqPr (nn : Int) (u1 u2 : Value) (A : List Arr) (w : World) (h1 : Arrs w u1 A) (h2 : Arrs w u2 A) :
    Calls Try.prog 22 #[.agg #[.int .i64 nn, u1], .agg #[.int .i64 nn, u2]] w fun e w' => e = .returned (.bool true) ∧ Below w.heap.size w w' := by
  have HT := Lib.hid (show ∀ W, Below w.heap.size w W → _ from fun W hb => eqAS u1 u2 A W (h1.below hb) (h2.below hb))
  have e1 : (nn != nn) = false := by simp
  obtain ⟨_, _, a1, c1, rfl, _⟩ := h1
  obtain ⟨_, _, a2, c2, rfl, _⟩ := h2
  go_enter Try.func22, Try.ntmps22
  go_wp2_with fail
  refine (HT.out _ (by repeat (first | exact Below.refl _ _ | apply Below.drew | apply below_drewN | (refine Below.alloc ?_ (by first | omega | (simp <;> omega)) _)))).mono ?_
  rintro e w1 ⟨rfl, hb⟩
  have HB := Lib.hid (show Below w.heap.size w w1 from Below.trans (by repeat (first | exact Below.refl _ _ | apply Below.drew | apply below_drewN | (refine Below.alloc ?_ (by first | omega | (simp <;> omega)) _))) (hb.mono (by simp <;> omega)))
  clear hb
  go_wp2
  go_ret
  exact ⟨rfl, HB.out⟩
end Go.Proofs.Ytlcmddghppdmgaa
namespace Go.Proofs.Ytlcmddghppdmgaa
set_option linter.unusedVariables false
open Go.RowKit
def tmk (k : Int) (n : Nat) : List Trm := (List.range n).map (mk4 k)
theorem tmk_len (k : Int) (n : Nat) : (tmk k n).length = n := by simp [tmk]
theorem tmk_at {k : Int} {n i : Nat} (h : i < n) : (tmk k n).getD i default = mk4 k i := by simp [tmk, List.getD_eq_getElem?_getD, h]
/-- the mark at which the arrow j begins -/
def kp (k : Int) (A : List Arr) (j : Nat) : Int := k + 2 * (j : Int) + 4 * (acT A j : Int)
theorem kp_succ (k : Int) (A : List Arr) (j : Nat) : kp k A (j + 1) = kp k A j + 1 + 1 + 4 * ((arw A j).L.length : Int) := by
  unfold kp
  have : acT A (j + 1) = acT A j + (arw A j).L.length := rfl
  rw [this]; omega
def amk (k : Int) (A : List Arr) : List Arr := (List.range A.length).map fun i => ⟨kp k A i, kp k A i + 1, tmk (kp k A i + 1 + 1) (arw A i).L.length⟩
theorem amk_len (k : Int) (A : List Arr) : (amk k A).length = A.length := by simp [amk]
theorem amk_at {k : Int} {A : List Arr} {i : Nat} (h : i < A.length) : arw (amk k A) i = ⟨kp k A i, kp k A i + 1, tmk (kp k A i + 1 + 1) (arw A i).L.length⟩ := by
  simp [amk, arw, List.getD_eq_getElem?_getD, h]
theorem amk_T (k : Int) (A : List Arr) : ∀ i, i ≤ A.length → acT (amk k A) i = acT A i
  | 0, _ => rfl
  | i + 1, h => by
    show acT (amk k A) i + (arw (amk k A) i).L.length = acT A i + _
    rw [amk_T k A i (by omega), amk_at (by omega), tmk_len]
theorem amk_N (k : Int) (A : List Arr) : acN (amk k A) = acN A := by unfold acN; rw [amk_len]; exact amk_T k A _ (Nat.le_refl _)
structure MarkA (g off : Nat) (H : Nat → Nat) (A : List Arr) (k : Int) (j : Nat) (w wr : World) : Prop where
  done : ∀ i, i < j → wr.cell? ⟨g, off + i * 3, none⟩ = some (.int .i64 (kp k A i)) ∧ wr.cell? ⟨g, off + i * 3 + 1, none⟩ = some (.int .i64 (kp k A i + 1)) ∧ ∃ u, w.cell? ⟨g, off + i * 3 + 2, none⟩ = some u ∧ TrmsIn wr (H i) u (tmk (kp k A i + 1 + 1) (arw A i).L.length)
  hdr : ∀ i, i < A.length → wr.cell? ⟨g, off + i * 3 + 2, none⟩ = w.cell? ⟨g, off + i * 3 + 2, none⟩
  ex : ∀ i, i < A.length → (∃ x, wr.cell? ⟨g, off + i * 3, none⟩ = some x) ∧ ∃ x, wr.cell? ⟨g, off + i * 3 + 1, none⟩ = some x
  froz : ∀ a, wr.frozen? a = w.frozen? a
  far : ∀ b, b ≠ g → (∀ i, i < j → (arw A i).L ≠ [] → b ≠ H i) → wr.heap[b]? = w.heap[b]?
  size : wr.heap.size = w.heap.size
  os : wr.os = w.os
  tape : wr.tape = w.tape
  output : wr.output = w.output
theorem MarkA.zero {g off B : Nat} {H : Nat → Nat} {A : List Arr} {k : Int} {w : World} (h : OArr w B g off H A) : MarkA g off H A k 0 w w :=
  ⟨fun i hi => by omega, fun _ _ => rfl, fun i hi => ⟨⟨_, (h.rd i hi).1⟩, _, (h.rd i hi).2.1⟩, fun _ => rfl, fun _ _ _ => rfl, rfl, rfl, rfl, rfl⟩
theorem MarkA.step {g off B : Nat} {H : Nat → Nat} {A : List Arr} {k : Int} {j : Nat} {w wr w2 w3 : World} (h : MarkA g off H A k j w wr) (ho : OArr w B g off H A) (hj : j < A.length) {u : Value} (hu : w.cell? ⟨g, off + j * 3 + 2, none⟩ = some u)
    (h2 : w2 = (wr.setCell ⟨g, off + j * 3, none⟩ (.int .i64 (kp k A j))).setCell ⟨g, off + j * 3 + 1, none⟩ (.int .i64 (kp k A j + 1)))
    (hc : ((arw A j).L ≠ [] ∧ ∃ o cap, u = .slice (some ⟨H j, o, none⟩) (arw A j).L.length cap ∧ MarkT (H j) o (arw A j).L.length (kp k A j + 1 + 1) (arw A j).L.length w2 w3) ∨ ((arw A j).L = [] ∧ (∃ a cap, u = .slice a 0 cap) ∧ w3 = w2)) :
    MarkA g off H A k (j + 1) w w3 := by
  obtain ⟨⟨x0, e0⟩, x1, e1⟩ := h.ex j hj
  have c0 : w2.cell? ⟨g, off + j * 3, none⟩ = some (.int .i64 (kp k A j)) := by
    rw [h2, World.cell?_setCell_other _ _ _ _ (ad_ne (by omega))]; exact World.cell?_setCell_same _ _ _ e0
  have c1 : w2.cell? ⟨g, off + j * 3 + 1, none⟩ = some (.int .i64 (kp k A j + 1)) := by
    rw [h2]; exact World.cell?_setCell_same _ _ _ (by rw [World.cell?_setCell_other _ _ _ _ (ad_ne (by omega))]; exact e1)
  have cf : ∀ b i, (b ≠ g ∨ (i ≠ off + j * 3 ∧ i ≠ off + j * 3 + 1)) → w2.cell? ⟨b, i, none⟩ = wr.cell? ⟨b, i, none⟩ := fun b i hh => by
    rw [h2, World.cell?_setCell_other _ _ _ _ (ad_ne (by omega)), World.cell?_setCell_other _ _ _ _ (ad_ne (by omega))]
  have hh2 : ∀ b, b ≠ g → w2.heap[b]? = wr.heap[b]? := fun b hb => by rw [h2, Below.heap_setCell _ _ _ _ hb, Below.heap_setCell _ _ _ _ hb]
  have f2 : ∀ a, w2.frozen? a = w.frozen? a := fun a => by rw [h2]; simp; exact h.froz a
  have s2 : w2.heap.size = w.heap.size := by rw [h2]; simp; exact h.size
  have o2 : w2.os = w.os := by rw [h2]; exact h.os
  have t2 : w2.tape = w.tape := by rw [h2]; exact h.tape
  have p2 : w2.output = w.output := by rw [h2]; exact h.output
  have g3 : w3.heap[g]? = w2.heap[g]? := by
    rcases hc with ⟨hn, o, cap, _, hM⟩ | ⟨_, _, rfl⟩
    · exact hM.far g (ho.hb j hj hn).2.2.symm
    · rfl
  have b3 : ∀ b, ((arw A j).L ≠ [] → b ≠ H j) → w3.heap[b]? = w2.heap[b]? := fun b hb => by
    rcases hc with ⟨hn, o, cap, _, hM⟩ | ⟨_, _, rfl⟩
    · exact hM.far b (hb hn)
    · rfl
  have f3 : ∀ a, w3.frozen? a = w.frozen? a := fun a => by
    rcases hc with ⟨hn, o, cap, _, hM⟩ | ⟨_, _, rfl⟩
    · rw [hM.froz]; exact f2 a
    · exact f2 a
  have s3 : w3.heap.size = w.heap.size ∧ w3.os = w.os ∧ w3.tape = w.tape ∧ w3.output = w.output := by
    rcases hc with ⟨hn, o, cap, _, hM⟩ | ⟨_, _, rfl⟩
    · exact ⟨hM.size.trans s2, hM.os.trans o2, hM.tape.trans t2, hM.output.trans p2⟩
    · exact ⟨s2, o2, t2, p2⟩
  refine ⟨fun i hi => ?_, fun i hi => ?_, fun i hi => ?_, f3, fun b hb hbi => ?_, s3.1, s3.2.1, s3.2.2.1, s3.2.2.2⟩
  · by_cases e : i = j
    · subst e
      refine ⟨by rw [cell_of_heap (by exact g3)]; exact c0, by rw [cell_of_heap (by exact g3)]; exact c1, u, hu, ?_⟩
      have hl1 : (arw A i).L.length ≤ 1048576 := by
        obtain ⟨_, _, _, _, q, _⟩ := ho.rd i hj
        exact q
      rcases hc with ⟨hn, o, cap, rfl, hM⟩ | ⟨hn, ⟨a, cap, rfl⟩, rfl⟩
      · refine ⟨by rw [tmk_len]; exact hl1, _, cap, by rw [tmk_len], .inr ⟨o, rfl, by rw [s3.1]; exact (ho.hb i hj hn).2.1, fun l hl => ?_, fun l hl => ?_⟩⟩
        · rw [tmk_len] at hl
          rw [tmk_at hl]; exact hM.done l hl
        · rw [tmk_len] at hl
          rw [f3]
          obtain ⟨_, _, u2, q1, q2⟩ := ho.rd i hj
          rw [hu] at q1
          cases q1
          obtain ⟨_, a2, cap2, q3, q4⟩ := q2
          rcases q4 with q4 | ⟨o2', q5, _, _, q6⟩
          · exact absurd q4 hn
          · injection q3 with q7
            rw [q5] at q7
            injection q7 with q7
            injection q7 with q8 q9
            rw [q9]; exact q6 l hl
      · exact ⟨by rw [tmk_len]; exact hl1, a, cap, by rw [tmk_len, hn]; rfl, .inl (List.eq_nil_of_length_eq_zero (by rw [tmk_len, hn]; rfl))⟩
    · have hij : i < j := by omega
      obtain ⟨q0, q1, v, q2, q3⟩ := h.done i hij
      refine ⟨by rw [cell_of_heap (by exact g3), cf _ _ (by omega)]; exact q0, by rw [cell_of_heap (by exact g3), cf _ _ (by omega)]; exact q1, v, q2, q3.same (fun hn => ?_)⟩
      have hn' : (arw A i).L ≠ [] := fun e2 => hn (List.eq_nil_of_length_eq_zero (by rw [tmk_len, e2]; rfl))
      rw [b3 _ (fun hnj => ho.ap i j (by omega) hj e hn' hnj), hh2 _ (ho.hb i (by omega) hn').2.2]
  · rw [cell_of_heap (by exact g3), cf _ _ (by omega)]; exact h.hdr i hi
  · obtain ⟨⟨y0, z0⟩, y1, z1⟩ := h.ex i hi
    by_cases e : i = j
    · subst e
      exact ⟨⟨_, by rw [cell_of_heap (by exact g3)]; exact c0⟩, _, by rw [cell_of_heap (by exact g3)]; exact c1⟩
    · exact ⟨⟨_, by rw [cell_of_heap (by exact g3), cf _ _ (by omega)]; exact z0⟩, _, by rw [cell_of_heap (by exact g3), cf _ _ (by omega)]; exact z1⟩
  · rw [b3 _ (fun hn => hbi j (by omega) hn), hh2 _ hb]
    exact h.far b hb (fun i hi hn => hbi i (by omega) hn)
theorem markAnil (a : Option Addr) (cap : Nat) (k : Int) (w : World) :
    Calls Try.prog 91 #[.slice a 0 cap, .int .i64 k] w fun e w' => e = .returned (.int .i64 k) ∧ w = w' := by
  go_enter Try.func91, Try.ntmps91
  go_wp2_with fail
  go_loop [1, 5] (fun q i => i = .int .i64 0 ∧ q = .int .i64 k) (fun _ _ => 0)
  case atStart => exact ⟨rfl, rfl⟩
  case round =>
    obtain ⟨rfl, rfl⟩ := hrel
    go_wp2
    go_ret
    exact ⟨rfl, rfl⟩
set_option maxHeartbeats 4000000 in
theorem markA_o (g off cap : Nat) (H : Nat → Nat) (A : List Arr) (B : Nat) (k : Int) (w : World) (h : OArr w B g off H A) (hl : A.length ≤ 1048576) (hcn : acN A ≤ 1048576) (hk0 : 0 ≤ k) (hk1 : k ≤ 100000000000) :
    Calls Try.prog 91 #[.slice (some ⟨g, off, none⟩) A.length cap, .int .i64 k] w fun e w' => e = .returned (.int .i64 (kp k A A.length)) ∧ MarkA g off H A k A.length w w' := by
  have HO := Lib.hid h
  have h0 : MarkA g off H A k 0 w w := MarkA.zero h
  clear h
  go_enter Try.func91, Try.ntmps91
  go_wp2_with fail
  go_loopw [1, 5] (fun q i wr => ∃ j : Nat, j ≤ A.length ∧ i = .int .i64 j ∧ q = .int .i64 (kp k A j) ∧ MarkA g off H A k j w wr) (fun _ i _ => A.length - (intOf i).toNat)
  case atStart => exact ⟨0, by omega, rfl, by simp [kp, acT], h0⟩
  case round =>
    clear h0
    obtain ⟨j, hj, rfl, rfl, hR⟩ := hrel
    by_cases hlt : j < A.length
    · have hltp : (j : Int) < (A.length : Int) := by omega
      have hj0 : (0 : Int) ≤ (j : Int) := by omega
      obtain ⟨_, _, u, hu, hT⟩ := HO.out.rd j hlt
      obtain ⟨⟨x0, e0⟩, x1, e1⟩ := hR.ex j hlt
      have e2 : wr.cell? ⟨g, off + j * 3 + 2, none⟩ = some u := (hR.hdr j hlt).trans hu
      have z0 : wr.frozen? ⟨g, off + j * 3, none⟩ = false := by rw [hR.froz]; exact HO.out.fz (j * 3) (by omega)
      have z1 : wr.frozen? ⟨g, off + j * 3 + 1, none⟩ = false := by rw [hR.froz, Nat.add_assoc]; exact HO.out.fz (j * 3 + 1) (by omega)
      have hkd : kp k A j = k + 2 * (j : Int) + 4 * (acT A j : Int) := rfl
      have hac := acT_le (A := A) hj
      have hacn : acN A = acT A A.length := rfl
      have HKS := Lib.hid (kp_succ k A j)
      obtain ⟨kk, hkk⟩ : ∃ kk, kk = kp k A j := ⟨_, rfl⟩
      have hkk0 : 0 ≤ kk := by omega
      have hkk1 : kk ≤ 100010000000 := by omega
      obtain ⟨w2, hw2⟩ : ∃ w2, w2 = (wr.setCell ⟨g, off + j * 3, none⟩ (.int .i64 kk)).setCell ⟨g, off + j * 3 + 1, none⟩ (.int .i64 (kk + 1)) := ⟨_, rfl⟩
      have HST := Lib.hid (fun w3 hc => hR.step (w2 := w2) (w3 := w3) HO.out hlt hu (by rw [← hkk]; exact hw2) hc)
      have HW2 := Lib.hid hw2
      have hfar : (arw A j).L ≠ [] → w2.heap[H j]? = w.heap[H j]? := fun hn => by
        have hb := HO.out.hb j hlt hn
        rw [hw2, Below.heap_setCell _ _ _ _ hb.2.2, Below.heap_setCell _ _ _ _ hb.2.2]
        exact hR.far _ hb.2.2 (fun i hi hni => HO.out.ap j i hlt (by omega) (by omega) hn hni)
      have hT2 : TrmsIn w2 (H j) u (arw A j).L := hT.same hfar
      have HT2 := Lib.hid hT2
      have HKK := Lib.hid hkk
      obtain ⟨hlx, ua, uc, rfl, hcase⟩ := hT2
      rw [← hkk] at HKS HST ⊢
      clear hR hT hkd hac hacn hkk hfar hcn hw2
      by_cases hn : (arw A j).L = []
      · have e0l : (arw A j).L.length = 0 := by rw [hn]; rfl
        rw [e0l] at e2 HST HKS
        go_wp2_with fail
        rw [← HW2.out]
        refine (markTnil ua uc _ w2).mono ?_
        rintro e w3 ⟨rfl, rfl⟩
        have HF := Lib.hid (HST.out w2 (.inr ⟨hn, ⟨ua, uc, rfl⟩, rfl⟩))
        have HK2 := Lib.hid (show kp k A (j + 1) = kk + 1 + 1 by rw [HKS.out]; simp)
        clear HST HT2 hcase e0 e1 e2
        go_wp2_with fail
        go_roundw
        case rel => exact ⟨j + 1, by omega, by go_num, by rw [HK2.out], HF.out⟩
        case measure => simp [intOf]; omega
      · rcases hcase with hcase | ⟨o, rfl, hg, hcc, hff⟩
        · exact absurd hcase hn
        obtain ⟨m, hm⟩ : ∃ m, m = (arw A j).L.length := ⟨_, rfl⟩
        have HMK := Lib.hid (markT (H j) o m uc (kk + 1 + 1) w2 (by omega) (by omega) (by omega) (fun i hi => by
          obtain ⟨t0, t1, t2, t3⟩ := hcc (i / 4) (by omega)
          have : i = i / 4 * 4 ∨ i = i / 4 * 4 + 1 ∨ i = i / 4 * 4 + 2 ∨ i = i / 4 * 4 + 3 := by omega
          rcases this with e | e | e | e
          · rw [e]; exact ⟨_, t0⟩
          · rw [e, ← Nat.add_assoc]; exact ⟨_, t1⟩
          · rw [e, ← Nat.add_assoc]; exact ⟨_, t2⟩
          · rw [e, ← Nat.add_assoc]; exact ⟨_, t3⟩) (fun i hi => hff i (by omega)))
        have HNN := Lib.hid hn
        have HM := Lib.hid hm
        rw [← hm] at e2 HKS HST hlx
        clear hcc hff hn hm HT2
        go_wp2_with fail
        rw [← HW2.out]
        refine HMK.out.mono ?_
        rintro e w3 ⟨rfl, hM⟩
        have HF := Lib.hid (HST.out w3 (.inl ⟨HNN.out, o, uc, rfl, hM⟩))
        have HK2 := Lib.hid (show kp k A (j + 1) = kk + 1 + 1 + 4 * (m : Int) from HKS.out)
        clear HST hM e0 e1 e2 HMK
        go_wp2_with fail
        go_roundw
        case rel => exact ⟨j + 1, by omega, by go_num, by rw [HK2.out], HF.out⟩
        case measure => simp [intOf]; omega
    · have hjl : j = A.length := by omega
      subst hjl
      go_wp2
      go_ret
      exact ⟨rfl, hR⟩
theorem MarkA.arrs {g off B cap : Nat} {H : Nat → Nat} {A : List Arr} {k : Int} {w wr : World} (h : MarkA g off H A k A.length w wr) (ho : OArr w B g off H A) (hl : A.length ≤ 1048576) (hcn : acN A ≤ 1048576) : Arrs wr (.slice (some ⟨g, off, none⟩) A.length cap) (amk k A) := by
  refine ⟨by rw [amk_len]; exact hl, by rw [amk_N]; exact hcn, _, cap, by rw [amk_len], .inr ⟨g, off, rfl, by rw [h.size]; exact ho.gl, fun i hi => ?_⟩⟩
  rw [amk_len] at hi
  rw [amk_at hi]
  obtain ⟨q0, q1, u, q2, q3⟩ := h.done i hi
  exact ⟨q0, q1, u, (h.hdr i hi).trans q2, q3.trms⟩
theorem MarkA.below {g off B : Nat} {H : Nat → Nat} {A : List Arr} {k : Int} {w wr : World} (h : MarkA g off H A k A.length w wr) (ho : OArr w B g off H A) : Below B w wr :=
  ⟨h.os, h.tape, h.output, by rw [h.size]; exact Nat.le_refl _, fun b hb => h.far b (by have := ho.bg; omega) (fun i hi hn e => by have := (ho.hb i hi hn).1; omega)⟩
/-- a program of one's own is marked -/
theorem markPown (nn : Int) (v : Value) (A : List Arr) (B : Nat) (k : Int) (w : World) (h : OwnArrs w B v A) (hB : B ≤ w.heap.size) (hk0 : 0 ≤ k) (hk1 : k ≤ 10000000000) :
    Calls Try.prog 27 #[.agg #[.int .i64 nn, v], .int .i64 k] w fun e w' => e = .returned (.int .i64 (kp k A A.length)) ∧ Arrs w' v (amk k A) ∧ Below B w w' ∧ w.heap.size ≤ w'.heap.size ∧ ∀ b, w.heap.size ≤ b → True := by
  obtain ⟨h1, h2, a, cap, rfl, h3⟩ := h
  have hb0 : Below w.heap.size w (w.alloc (Obj.cells #[.int .i64 nn, .slice a A.length cap] 29)) := Below.alloc (Below.refl _ _) (Nat.le_refl _) _
  have hbB : Below B w (w.alloc (Obj.cells #[.int .i64 nn, .slice a A.length cap] 29)) := hb0.mono hB
  rcases h3 with rfl | ⟨g, off, H, rfl, ho⟩
  · go_enter Try.func27, Try.ntmps27
    go_wp2_with fail
    refine (markAnil a cap k _).mono ?_
    rintro e w1 ⟨rfl, rfl⟩
    have HB := Lib.hid hbB
    clear hbB hb0
    go_wp2_with fail
    go_ret
    exact ⟨ret_int' (by simp [kp, acT]), ⟨by simp [amk], by simp [acN, acT, amk], a, cap, by simp [amk], .inl rfl⟩, HB.out, by simp, fun _ _ => trivial⟩
  · have ho2 := ho.below hb0
    have HM := Lib.hid (markA_o g off cap H A B k _ ho2 h1 h2 hk0 (by omega))
    have HO := Lib.hid ho2
    have HB := Lib.hid hbB
    clear ho ho2 hb0 hbB
    go_enter Try.func27, Try.ntmps27
    go_wp2_with fail
    refine HM.out.mono ?_
    rintro e w1 ⟨rfl, hR⟩
    have HF := Lib.hid (And.intro (hR.arrs (cap := cap) HO.out h1 h2) (And.intro (HB.out.trans (hR.below HO.out)) (show w.heap.size ≤ w1.heap.size by rw [hR.size]; simp)))
    clear hR HM
    go_wp2_with fail
    go_ret
    exact ⟨rfl, HF.out.1, HF.out.2.1, HF.out.2.2, fun _ _ => trivial⟩
end Go.Proofs.Ytlcmddghppdmgaa
namespace Go.Proofs.Ytlcmddghppdmgaa
set_option linter.unusedVariables false
open Go.RowKit
/-- of the blocks that were there, only those from B on and below C may have turned -/
structure Btw (B C : Nat) (w w' : World) : Prop where
  os : w'.os = w.os
  tape : w'.tape = w.tape
  output : w'.output = w.output
  size : w.heap.size ≤ w'.heap.size
  block : ∀ k, k < w.heap.size → k < B ∨ C ≤ k → w'.heap[k]? = w.heap[k]?
theorem Btw.low {B C : Nat} {w w' : World} (h : Btw B C w w') (hB : B ≤ w.heap.size) : Below B w w' := ⟨h.os, h.tape, h.output, h.size, fun k hk => h.block k (Nat.lt_of_lt_of_le hk hB) (.inl hk)⟩
theorem OwnArrs.btw {B B' C : Nat} {w w' : World} {v : Value} {A : List Arr} (h : OwnArrs w B v A) (hC : C ≤ B) (hb : Btw B' C w w') : OwnArrs w' B v A := by
  obtain ⟨h1, h2, a, cap, hv, h3⟩ := h
  refine ⟨h1, h2, a, cap, hv, ?_⟩
  rcases h3 with h3 | ⟨g, off, H, ha, hm⟩
  · exact .inl h3
  · exact .inr ⟨g, off, H, ha, hm.same (hb.block g hm.gl (.inr (Nat.le_trans hC hm.bg))) (fun i hi hn => hb.block _ (hm.hb i hi hn).2.1 (.inr (Nat.le_trans hC (hm.hb i hi hn).1)))⟩
/-- an argument of a law is marked: what was made behind it stays -/
theorem markPsame (nn : Int) (v : Value) (A : List Arr) (B : Nat) (k : Int) (w3 w : World) (h : OwnArrs w3 B v A) (hw : Same B w3 w) (hs : w3.heap.size ≤ w.heap.size) (hk0 : 0 ≤ k) (hk1 : k ≤ 10000000000) :
    Calls Try.prog 27 #[.agg #[.int .i64 nn, v], .int .i64 k] w fun e w' => e = .returned (.int .i64 (kp k A A.length)) ∧ Btw B w3.heap.size w w' := by
  obtain ⟨h1, h2, a, cap, rfl, h3⟩ := h
  have hb0 : Below w.heap.size w (w.alloc (Obj.cells #[.int .i64 nn, .slice a A.length cap] 29)) := Below.alloc (Below.refl _ _) (Nat.le_refl _) _
  rcases h3 with rfl | ⟨g, off, H, rfl, ho⟩
  · go_enter Try.func27, Try.ntmps27
    go_wp2_with fail
    refine (markAnil a cap k _).mono ?_
    rintro e w1 ⟨rfl, rfl⟩
    have HB := Lib.hid hb0
    clear hb0
    go_wp2_with fail
    go_ret
    exact ⟨ret_int' (by simp [kp, acT]), HB.out.os, HB.out.tape, HB.out.output, HB.out.size, fun b hb _ => HB.out.block b hb⟩
  · have ho1 : OArr w B g off H A := ho.same (hw g ho.bg ho.gl) (fun i hi hn => hw _ (ho.hb i hi hn).1 (ho.hb i hi hn).2.1)
    have ho2 := ho1.below hb0
    have HM := Lib.hid (markA_o g off cap H A B k _ ho2 h1 h2 hk0 (by omega))
    have HO := Lib.hid ho
    have HB := Lib.hid hb0
    clear ho ho1 ho2 hb0
    go_enter Try.func27, Try.ntmps27
    go_wp2_with fail
    refine HM.out.mono ?_
    rintro e w1 ⟨rfl, hR⟩
    have HF := Lib.hid (show Btw B w3.heap.size w w1 from ⟨hR.os.trans HB.out.os, hR.tape.trans HB.out.tape, hR.output.trans HB.out.output, by rw [hR.size]; exact HB.out.size, fun b hb hbb =>
      (hR.far b (by have := HO.out.bg; have := HO.out.gl; omega) (fun i hi hn e => by have := HO.out.hb i hi hn; omega)).trans (HB.out.block b hb)⟩)
    clear hR HM
    go_wp2_with fail
    go_ret
    exact ⟨rfl, HF.out⟩
theorem heldTr (u : Value) (n : Nat) (k : Int) (w : World) (h : Trms w u (tmk k n)) (hk0 : 0 ≤ k) (hk1 : k ≤ 1000000000000) :
    Calls Try.prog 51 #[u, .int .i64 k] w fun e w' => e = .returned (.int .i64 (k + 4 * (n : Int))) ∧ w = w' := by
  obtain ⟨h1, a, cap, rfl, h2⟩ := h
  rw [tmk_len] at h1 h2 ⊢
  by_cases hn : n = 0
  · subst hn
    refine (heldTnil a cap k w).mono ?_
    rintro e w' ⟨rfl, rfl⟩
    exact ⟨by simp, rfl⟩
  · rcases h2 with h2 | ⟨g, off, rfl, hg, hc⟩
    · have := congrArg List.length h2
      rw [tmk_len] at this; simp at this; omega
    · exact heldT g off n cap k w h1 hk0 hk1 (fun i hi => by have := hc i hi; rwa [tmk_at hi] at this)
set_option maxHeartbeats 4000000 in
theorem heldA (v : Value) (A : List Arr) (k : Int) (w : World) (h : Arrs w v (amk k A)) (hk0 : 0 ≤ k) (hk1 : k ≤ 100000000000) :
    Calls Try.prog 101 #[v, .int .i64 k] w fun e w' => e = .returned (.int .i64 (kp k A A.length)) ∧ w = w' := by
  obtain ⟨h1, h2, a, cap, rfl, h3⟩ := h
  rw [amk_N] at h2
  rw [amk_len] at h1 h3 ⊢
  have HD := Lib.hid h3
  clear h3
  go_enter Try.func101, Try.ntmps101
  go_wp2_with fail
  go_loop [1, 5] (fun q i => ∃ j : Nat, j ≤ A.length ∧ i = .int .i64 j ∧ q = .int .i64 (kp k A j)) (fun _ i => A.length - (intOf i).toNat)
  case atStart => exact ⟨0, by omega, rfl, by simp [kp, acT]⟩
  case round =>
    obtain ⟨j, hj, rfl, rfl⟩ := hrel
    by_cases hlt : j < A.length
    · have hltp : (j : Int) < (A.length : Int) := by omega
      have hj0 : (0 : Int) ≤ (j : Int) := by omega
      rcases HD.out with h | ⟨g, off, rfl, hg, hc⟩
      · have := congrArg List.length h
        rw [amk_len, List.length_nil] at this; omega
      obtain ⟨q0, q1, u, q2, q3⟩ := hc j hlt
      rw [amk_at hlt] at q0 q1 q3
      have hkd : kp k A j = k + 2 * (j : Int) + 4 * (acT A j : Int) := rfl
      have hac := acT_le (A := A) hj
      have hacn : acN A = acT A A.length := rfl
      have HKS := Lib.hid (kp_succ k A j)
      obtain ⟨kk, hkk⟩ : ∃ kk, kk = kp k A j := ⟨_, rfl⟩
      have hkk0 : 0 ≤ kk := by omega
      have hkk1 : kk ≤ 100010000000 := by omega
      rw [← hkk] at q0 q1 q3 HKS ⊢
      obtain ⟨m, hm⟩ : ∃ m, m = (arw A j).L.length := ⟨_, rfl⟩
      have hm1 := lab_le hlt
      rw [← hm] at q3 HKS hm1
      have HH := Lib.hid (heldTr u m (kk + 1 + 1) w q3 (by omega) (by omega))
      have n0 : (kk != kk) = false := by simp
      have n1 : (kk + 1 != kk + 1) = false := by simp
      have hge : ¬ kk + 1 + 1 + 4 * (m : Int) < 0 := by omega
      obtain ⟨_, ua, uc, rfl, _⟩ := q3
      clear hc hkd hac hacn hkk hm hm1
      go_wp2_with fail
      refine HH.out.mono ?_
      rintro e w' ⟨rfl, rfl⟩
      go_wp2
      go_round
      case rel => exact ⟨j + 1, by omega, by go_num, by rw [HKS.out]⟩
      case measure => simp [intOf]; omega
    · have hjl : j = A.length := by omega
      subst hjl
      go_wp2
      go_ret
      exact ⟨rfl, rfl⟩
theorem heldPr (nn : Int) (v : Value) (A : List Arr) (k : Int) (w : World) (h : Arrs w v (amk k A)) (hk0 : 0 ≤ k) (hk1 : k ≤ 10000000000) :
    Calls Try.prog 32 #[.agg #[.int .i64 nn, v], .int .i64 k] w fun e w' => e = .returned (.int .i64 (kp k A A.length)) ∧ Below w.heap.size w w' := by
  have HT := Lib.hid (fun W (hb : Below w.heap.size w W) => heldA v A k W (h.below hb) hk0 (by omega))
  have hge : ¬ kp k A A.length < 0 := by unfold kp; omega
  obtain ⟨_, _, a, cap, rfl, _⟩ := h
  obtain ⟨m, hm⟩ : ∃ m, m = kp k A A.length := ⟨_, rfl⟩
  rw [← hm] at HT hge ⊢
  clear hm
  go_enter Try.func32, Try.ntmps32
  go_wp2_with fail
  refine (HT.out _ (by repeat (first | exact Below.refl _ _ | apply Below.drew | apply below_drewN | (refine Below.alloc ?_ (by first | omega | (simp <;> omega)) _)))).mono ?_
  rintro e w1 ⟨rfl, rfl⟩
  go_wp2
  go_ret
  exact ⟨rfl, (by repeat (first | exact Below.refl _ _ | apply Below.drew | apply below_drewN | (refine Below.alloc ?_ (by first | omega | (simp <;> omega)) _)))⟩
end Go.Proofs.Ytlcmddghppdmgaa
