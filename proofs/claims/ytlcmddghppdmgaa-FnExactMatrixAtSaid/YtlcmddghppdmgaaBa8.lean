/-
  Contracts of the exact laws' helpers on programs of paths: szProgram, toProgram, eqProgram. Conditions: what the slices hold is known.
  Contracts of the exact laws' helpers on programs of paths, on: toProgram. Conditions: what the slices hold is known.
  Contracts of the exact laws' helpers on programs of paths, on: toProgram, eqProgram. Conditions: what the slices hold is known.
-/
import Derived.Test.YtlcmddghppdmgaaBa5
import Derived.Test.YtlcmddghppdmgaaBa7
import Derived.Test.YtlcmddghppdmgaaBa3
namespace Go.Proofs.Ytlcmddghppdmgaa
set_option linter.unusedVariables false
open Go.RowKit
theorem AAtR.below {w w' : World} {g o : Nat} {x : Arr} (h : AAtR w g o x) (hb : Below w.heap.size w w') (hg : g < w.heap.size) : ∃ a cap, w'.cell? ⟨g, o, none⟩ = some (.int .i64 x.f) ∧ w'.cell? ⟨g, o + 1, none⟩ = some (.int .i64 x.t) ∧ w'.cell? ⟨g, o + 2, none⟩ = some (.slice a x.L.length cap) ∧ x.L.length ≤ 9223372036854775807 := by
  obtain ⟨h1, h2, a, len, cap, h3, h4⟩ := h
  have e := h4.1
  refine ⟨a, cap, by rw [hb.cell (p := ⟨g, o, none⟩) hg]; exact h1, by rw [hb.cell (p := ⟨g, o + 1, none⟩) hg]; exact h2, ?_, ?_⟩
  · rw [hb.cell (p := ⟨g, o + 2, none⟩) hg, e]; exact h3
  · rw [e]; exact h4.2.1
theorem szA1 (f t : Int) (b : Option Addr) (n c : Nat) (m : Int) (w : World) (hm0 : 0 ≤ m) (hm1 : m ≤ 1048576) (hn : (n : Int) ≤ 9223372036854775807) :
    Calls Try.prog 153 #[.agg #[.int .i64 f, .int .i64 t, .slice b n c], .int .i64 m] w fun e w' => e = .returned (.int .i64 (if m < n then -1 else m - n)) ∧ Below w.heap.size w w' := by
  by_cases h : m < (n : Int)
  · rw [if_pos h]
    go_enter Try.func153, Try.ntmps153
    go_wp2_with (go_at_call 189; refine (szP b n c m _ hm0 hm1 hn).mono ?_; rw [if_pos h]; rintro e w1 ⟨rfl, rfl⟩)
    go_ret
    exact ⟨rfl, (by repeat (first | exact Below.refl _ _ | apply Below.drew | apply below_drewN | (refine Below.alloc ?_ (by first | omega | (simp <;> omega)) _)))⟩
  · rw [if_neg h]
    have hge : ¬ m - (n : Int) < 0 := by omega
    go_enter Try.func153, Try.ntmps153
    go_wp2_with (go_at_call 189; refine (szP b n c m _ hm0 hm1 hn).mono ?_; rw [if_neg h]; rintro e w1 ⟨rfl, rfl⟩)
    go_ret
    exact ⟨rfl, (by repeat (first | exact Below.refl _ _ | apply Below.drew | apply below_drewN | (refine Below.alloc ?_ (by first | omega | (simp <;> omega)) _)))⟩
set_option maxHeartbeats 2000000 in
theorem szS_at (a : Option Addr) (A : List Arr) (cap : Nat) (m : Int) (w : World) (h : RowP w a A.length A) (h0 : 0 ≤ m) (h1 : m ≤ 1048576) (h2 : (A.length : Int) + (acN A : Int) ≤ m) :
    Calls Try.prog 76 #[.slice a A.length cap, .int .i64 m] w fun e w' => e = .returned (.int .i64 (m - ((A.length : Int) + (acN A : Int)))) ∧ Below w.heap.size w w' := by
  obtain ⟨_, _, h3⟩ := h
  have HD := Lib.hid h3
  clear h3
  go_enter Try.func76, Try.ntmps76
  go_wp2_with fail
  go_loopw [1, 5] (fun q i wr => ∃ j : Nat, j ≤ A.length ∧ i = .int .i64 j ∧ q = .int .i64 (m - (A.length : Int) - (acT A j : Int)) ∧ Below w.heap.size w wr) (fun _ i _ => A.length - (intOf i).toNat)
  case atStart => exact ⟨0, by omega, rfl, by simp [acT], Below.refl _ _⟩
  case round =>
    obtain ⟨j, hj, rfl, rfl, hb⟩ := hrel
    have hc1 := acT_le (A := A) hj
    have hcn : acN A = acT A A.length := rfl
    by_cases hlt : j < A.length
    · have hltp : (j : Int) < (A.length : Int) := by omega
      have hj0 : (0 : Int) ≤ (j : Int) := by omega
      rcases HD.out with h | ⟨g, off, rfl, hg, hc⟩
      · rw [h] at hlt; simp at hlt
      obtain ⟨b, c, q1, q2, q3, q4⟩ := (hc j hlt).below hb hg
      have hcs : acT A (j + 1) = acT A j + (arw A j).L.length := rfl
      have hc2 := acT_le (A := A) (show j + 1 ≤ A.length by omega)
      obtain ⟨x, hx⟩ : ∃ x, x = arw A j := ⟨_, rfl⟩
      rw [← hx] at q1 q2 q3 q4 hcs
      obtain ⟨n, hn⟩ : ∃ n, n = x.L.length := ⟨_, rfl⟩
      rw [← hn] at q3 q4 hcs
      have hS := fun W => szA1 x.f x.t b n c (m - (A.length : Int) - (acT A j : Int)) W (by omega) (by omega) (by omega)
      rw [if_neg (by omega)] at hS
      have HS := Lib.hid hS
      have HN := Lib.hid hn
      have HB := Lib.hid hb
      have HE := Lib.hid (show m - (A.length : Int) - (acT A j : Int) - (n : Int) = m - (A.length : Int) - (acT A (j + 1) : Int) by omega)
      have hge : ¬ m - (A.length : Int) - (acT A j : Int) - (n : Int) < 0 := by omega
      clear hS hn hcs hc hc1 hc2 hcn hb hx q4
      go_wp2_with fail
      refine (HS.out _).mono ?_
      rintro e w' ⟨rfl, hb1⟩
      have HB1 := Lib.hid (HB.out.trans (hb1.mono HB.out.size))
      clear hb1 HB HS q1 q2 q3
      go_wp2
      go_roundw
      case rel => exact ⟨j + 1, by omega, by go_num, by rw [← HE.out], HB1.out⟩
      case measure => simp [intOf]; omega
    · have hjl : j = A.length := by omega
      subst hjl
      go_wp2
      go_ret
      exact ⟨ret_int' (by have := hcn; omega), hb⟩
set_option maxHeartbeats 2000000 in
theorem szS_over (a : Option Addr) (n cap : Nat) (A : List Arr) (m : Int) (w : World) (h : RowP w a n A) (h0 : 0 ≤ m) (h1 : m ≤ 1048576) (h2 : m < (n : Int) + (acN A : Int)) :
    Calls Try.prog 76 #[.slice a n cap, .int .i64 m] w fun e w' => e = .returned (.int .i64 (-1)) ∧ Below w.heap.size w w' := by
  obtain ⟨rfl, hb, h3⟩ := h
  by_cases hbig : m < (A.length : Int)
  · clear h3 h2
    go_enter Try.func76, Try.ntmps76
    go_wp2
    go_ret
    exact ⟨rfl, Below.refl _ _⟩
  · have HD := Lib.hid h3
    have H2 := Lib.hid h2
    clear h3 h2
    go_enter Try.func76, Try.ntmps76
    go_wp2_with fail
    go_loopw [1, 5] (fun q i wr => ∃ j : Nat, j ≤ A.length ∧ i = .int .i64 j ∧ (acT A j : Int) ≤ m - (A.length : Int) ∧ q = .int .i64 (m - (A.length : Int) - (acT A j : Int)) ∧ Below w.heap.size w wr) (fun _ i _ => A.length - (intOf i).toNat)
    case atStart => exact ⟨0, by omega, rfl, by simp [acT]; omega, by simp [acT], Below.refl _ _⟩
    case round =>
      obtain ⟨j, hj, rfl, hle, rfl, hb⟩ := hrel
      by_cases hlt : j < A.length
      · have hltp : (j : Int) < (A.length : Int) := by omega
        have hj0 : (0 : Int) ≤ (j : Int) := by omega
        rcases HD.out with h | ⟨g, off, rfl, hg, hc⟩
        · rw [h] at hlt; simp at hlt
        obtain ⟨b, c, q1, q2, q3, q4⟩ := (hc j hlt).below hb hg
        have hcs : acT A (j + 1) = acT A j + (arw A j).L.length := rfl
        obtain ⟨x, hx⟩ : ∃ x, x = arw A j := ⟨_, rfl⟩
        rw [← hx] at q1 q2 q3 q4 hcs
        obtain ⟨n, hn⟩ : ∃ n, n = x.L.length := ⟨_, rfl⟩
        rw [← hn] at q3 q4 hcs
        have hS := fun W => szA1 x.f x.t b n c (m - (A.length : Int) - (acT A j : Int)) W (by omega) (by omega) (by omega)
        have HB := Lib.hid hb
        by_cases hbg : m - (A.length : Int) - (acT A j : Int) < (n : Int)
        · rw [if_pos hbg] at hS
          have HS := Lib.hid hS
          clear hS hn hcs hc hbg hle hb hx q4
          go_wp2_with fail
          refine (HS.out _).mono ?_
          rintro e w' ⟨rfl, hb1⟩
          have HB1 := Lib.hid (HB.out.trans (hb1.mono HB.out.size))
          clear hb1 HB HS q1 q2 q3
          go_wp2
          go_ret
          exact ⟨rfl, HB1.out⟩
        · rw [if_neg hbg] at hS
          have HS := Lib.hid hS
          have HE := Lib.hid (show m - (A.length : Int) - (acT A j : Int) - (n : Int) = m - (A.length : Int) - (acT A (j + 1) : Int) ∧ (acT A (j + 1) : Int) ≤ m - (A.length : Int) by omega)
          have hge : ¬ m - (A.length : Int) - (acT A j : Int) - (n : Int) < 0 := by omega
          clear hS hn hcs hc hbg hb hx q4
          go_wp2_with fail
          refine (HS.out _).mono ?_
          rintro e w' ⟨rfl, hb1⟩
          have HB1 := Lib.hid (HB.out.trans (hb1.mono HB.out.size))
          clear hb1 HB HS q1 q2 q3
          go_wp2
          go_roundw
          case rel => exact ⟨j + 1, by omega, by go_num, HE.out.2, by rw [← HE.out.1], HB1.out⟩
          case measure => simp [intOf]; omega
      · have hjl : j = A.length := by omega
        subst hjl
        have := H2.out
        unfold acN at this
        omega
theorem szPr (nn : Int) (a : Option Addr) (n cap : Nat) (A : List Arr) (m : Int) (w : World) (h : RowP w a n A) (h0 : 0 ≤ m) (h1 : m ≤ 1048576) :
    Calls Try.prog 18 #[.agg #[.int .i64 nn, .slice a n cap], .int .i64 m] w fun e w' => e = .returned (.int .i64 (if m < (n : Int) + (acN A : Int) then -1 else m - ((n : Int) + (acN A : Int)))) ∧ Below w.heap.size w w' := by
  have hb1 : ∀ w', Below w.heap.size w w' → RowP w' a n A := fun w' hb => by
    obtain ⟨q1, q2, q3⟩ := h
    refine ⟨q1, q2, ?_⟩
    rcases q3 with q3 | ⟨g, off, ha, hg, hc⟩
    · exact .inl q3
    · refine .inr ⟨g, off, ha, Nat.lt_of_lt_of_le hg hb.size, fun i hi => ?_⟩
      obtain ⟨r1, r2, b, l, c, r3, r4, r5, r6⟩ := hc i hi
      refine ⟨by rw [hb.cell (p := ⟨g, _, none⟩) hg]; exact r1, by rw [hb.cell (p := ⟨g, _, none⟩) hg]; exact r2, b, l, c, by rw [hb.cell (p := ⟨g, _, none⟩) hg]; exact r3, r4, r5, ?_⟩
      rcases r6 with r6 | ⟨g2, o2, e2, hg2, hc2⟩
      · exact .inl r6
      · exact .inr ⟨g2, o2, e2, Nat.lt_of_lt_of_le hg2 hb.size, fun j hj => (hc2 j hj).below hb hg2⟩
  have HB := Lib.hid hb1
  by_cases hlt : m < (n : Int) + (acN A : Int)
  · rw [if_pos hlt]
    clear hb1
    go_enter Try.func18, Try.ntmps18
    go_wp2_with fail
    refine (szS_over a n cap A m _ (HB.out _ (by repeat (first | exact Below.refl _ _ | apply Below.drew | apply below_drewN | (refine Below.alloc ?_ (by first | omega | (simp <;> omega)) _)))) h0 h1 hlt).mono ?_
    rintro e w1 ⟨rfl, hb⟩
    go_wp2
    go_ret
    exact ⟨rfl, Below.trans (by repeat (first | exact Below.refl _ _ | apply Below.drew | apply below_drewN | (refine Below.alloc ?_ (by first | omega | (simp <;> omega)) _))) (hb.mono (by simp))⟩
  · rw [if_neg hlt]
    have hn : A.length = n := h.1
    subst hn
    have hge : ¬ m - ((A.length : Int) + (acN A : Int)) < 0 := by omega
    clear hb1
    go_enter Try.func18, Try.ntmps18
    go_wp2_with fail
    refine (szS_at a A cap m _ (HB.out _ (by repeat (first | exact Below.refl _ _ | apply Below.drew | apply below_drewN | (refine Below.alloc ?_ (by first | omega | (simp <;> omega)) _)))) h0 h1 (by omega)).mono ?_
    rintro e w1 ⟨rfl, hb⟩
    go_wp2
    go_ret
    exact ⟨rfl, Below.trans (by repeat (first | exact Below.refl _ _ | apply Below.drew | apply below_drewN | (refine Below.alloc ?_ (by first | omega | (simp <;> omega)) _))) (hb.mono (by simp))⟩
end Go.Proofs.Ytlcmddghppdmgaa
namespace Go.Proofs.Ytlcmddghppdmgaa
set_option linter.unusedVariables false
open Go.RowKit
set_option maxHeartbeats 1000000 in
theorem toA1 (f t : Int) (u : Value) (L : List Trm) (w : World) (h : Trms w u L) :
    Calls Try.prog 156 #[.agg #[.int .i64 f, .int .i64 t, u]] w fun e w' => ∃ a cap, e = .returned (.agg #[.int .i64 f, .int .i64 t, .slice a L.length cap]) ∧ OwnTrms w' w.heap.size (.slice a L.length cap) L ∧ Below w.heap.size w w' := by
  obtain ⟨hl, a0, c0, rfl, h2⟩ := h
  have HT := Lib.hid (show ∀ W, Below w.heap.size w W → Calls Try.prog 192 #[.slice a0 L.length c0] W (GivesTrms L W) from fun W hb => toP _ L W (Trms.below ⟨hl, a0, c0, rfl, h2⟩ hb))
  clear h2
  go_enter Try.func156, Try.ntmps156
  go_wp2_with fail
  obtain ⟨W3, hW3⟩ : ∃ W3, W3 = ((w.alloc (Obj.cells #[.int .i64 f, .int .i64 t, .slice a0 L.length c0] 130)).alloc (Obj.cells #[.int .i64 0, .int .i64 0, .slice none 0 0] 80)).alloc (Obj.cells #[.int .i64 f, .int .i64 t, .slice none 0 0] 80) := ⟨_, rfl⟩
  rw [← hW3]
  have hb3 : Below w.heap.size w W3 := by rw [hW3]; exact (by repeat (first | exact Below.refl _ _ | apply Below.drew | apply below_drewN | (refine Below.alloc ?_ (by first | omega | (simp <;> omega)) _)))
  have hs3 : W3.heap.size = w.heap.size + 3 := by rw [hW3]; simp
  have k1 : ∀ i (x : Value), (#[Value.int .i64 0, .int .i64 0, .slice none 0 0] : Array Value)[i]? = some x → W3.cell? ⟨w.heap.size + 1, i, none⟩ = some x := fun i x hi => by
    rw [hW3, World.cell?_alloc_past _ _ _ (by simp), World.cell?_alloc_at _ _ _ _ (by simp)]; exact hi
  have k2 : ∀ i (x : Value), (#[Value.int .i64 f, .int .i64 t, .slice none 0 0] : Array Value)[i]? = some x → W3.cell? ⟨w.heap.size + 2, i, none⟩ = some x := fun i x hi => by
    rw [hW3, World.cell?_alloc_at _ _ _ _ (by simp)]; exact hi
  have z1 : ∀ i, W3.frozen? ⟨w.heap.size + 1, i, none⟩ = false := fun i => by
    rw [hW3, World.frozen?_alloc_past _ _ _ (by simp), World.frozen?_alloc_at _ _ _ _ (by simp)]
  have z2 : ∀ i, W3.frozen? ⟨w.heap.size + 2, i, none⟩ = false := fun i => by
    rw [hW3, World.frozen?_alloc_at _ _ _ _ (by simp)]
  refine (HT.out W3 hb3).mono ?_
  rintro e w4 ⟨v, rfl, ho, hb⟩
  obtain ⟨q1, a, cap, rfl, q2⟩ := ho
  have K : ∀ i j x, i < 3 → W3.cell? ⟨w.heap.size + i, j, none⟩ = some x → w4.cell? ⟨w.heap.size + i, j, none⟩ = some x := fun i j x hi hx => by rw [hb.cell (p := ⟨w.heap.size + i, j, none⟩) (show w.heap.size + i < W3.heap.size by omega)]; exact hx
  have c10 : w4.cell? ⟨w.heap.size + 1, 0, none⟩ = some (.int .i64 0) := K 1 0 _ (by omega) (k1 0 _ rfl)
  have c11 : w4.cell? ⟨w.heap.size + 1, 1, none⟩ = some (.int .i64 0) := K 1 1 _ (by omega) (k1 1 _ rfl)
  have c12 : w4.cell? ⟨w.heap.size + 1, 2, none⟩ = some (.slice none 0 0) := K 1 2 _ (by omega) (k1 2 _ rfl)
  have c20 : w4.cell? ⟨w.heap.size + 1 + 1, 0, none⟩ = some (.int .i64 f) := K 2 0 _ (by omega) (k2 0 _ rfl)
  have c21 : w4.cell? ⟨w.heap.size + 1 + 1, 1, none⟩ = some (.int .i64 t) := K 2 1 _ (by omega) (k2 1 _ rfl)
  have c22 : w4.cell? ⟨w.heap.size + 1 + 1, 2, none⟩ = some (.slice none 0 0) := K 2 2 _ (by omega) (k2 2 _ rfl)
  have Z : ∀ i j, i < 3 → w4.frozen? ⟨w.heap.size + i, j, none⟩ = W3.frozen? ⟨w.heap.size + i, j, none⟩ := fun i j hi => hb.frozen (p := ⟨w.heap.size + i, j, none⟩) (show w.heap.size + i < W3.heap.size by omega)
  have f10 : w4.frozen? ⟨w.heap.size + 1, 0, none⟩ = false := (Z 1 0 (by omega)).trans (z1 0)
  have f11 : w4.frozen? ⟨w.heap.size + 1, 1, none⟩ = false := (Z 1 1 (by omega)).trans (z1 1)
  have f12 : w4.frozen? ⟨w.heap.size + 1, 2, none⟩ = false := (Z 1 2 (by omega)).trans (z1 2)
  have f22 : w4.frozen? ⟨w.heap.size + 1 + 1, 2, none⟩ = false := (Z 2 2 (by omega)).trans (z2 2)
  have HO := Lib.hid (show OwnTrms w4 W3.heap.size (.slice a L.length cap) L from ⟨q1, a, cap, rfl, q2⟩)
  have HB := Lib.hid (hb3.trans (hb.mono (by omega)))
  have HS := Lib.hid hs3
  clear hW3 hb3 hs3 k1 k2 z1 z2 hb q2 K Z
  go_wp2
  have hx : ∀ d, d < 3 → ∃ x, (w4.setCell ⟨w.heap.size + 1 + 1, 2, none⟩ (.slice a L.length cap)).cell? ⟨w.heap.size + 1, 0 + d, none⟩ = some x := fun d hd => by
    rw [Nat.zero_add, World.cell?_setCell_other _ _ _ _ (ad_ne (by omega))]
    have : d = 0 ∨ d = 1 ∨ d = 2 := by omega
    rcases this with rfl | rfl | rfl
    · exact ⟨_, c10⟩
    · exact ⟨_, c11⟩
    · exact ⟨_, c12⟩
  obtain ⟨p0, p1, p2⟩ := putA_at (w4.setCell ⟨w.heap.size + 1 + 1, 2, none⟩ (.slice a L.length cap)) (w.heap.size + 1) 0 f t (.slice a L.length cap) hx
  unfold putA at p0 p1 p2
  simp only [Nat.zero_add] at p0 p1 p2
  refine bodyPost_ret (v := .agg #[.int .i64 f, .int .i64 t, .slice a L.length cap]) (by simp [results, Try.results156, go_sem, p0, p1, p2]) rfl ?_
  refine ⟨a, cap, rfl, ?_, ?_⟩
  · obtain ⟨r1, a', cap', r2, r3⟩ := HO.out
    refine ⟨r1, a', cap', r2, ?_⟩
    rcases r3 with r3 | ⟨g, off, r3, r4, r5, r6, r7⟩
    · exact .inl r3
    · have hs := HS.out
      refine .inr ⟨g, off, r3, by omega, by simpa using r5, fun j hj => (r6 j hj).same ?_, fun i hi => by simpa using r7 i hi⟩
      rw [Below.heap_setCell _ _ _ _ (show g ≠ w.heap.size + 1 by omega), Below.heap_setCell _ _ _ _ (show g ≠ w.heap.size + 1 by omega), Below.heap_setCell _ _ _ _ (show g ≠ w.heap.size + 1 by omega), Below.heap_setCell _ _ _ _ (show g ≠ w.heap.size + 1 + 1 by omega)]
  · have := HB.out
    repeat (first | exact HB.out | (refine Below.setCell ?_ (by simp <;> omega) _))
/-- arrows of one's own that are made, behind j of them -/
structure BuildA (A : List Arr) (g n j : Nat) (w wr : World) : Prop where
  arr : ∃ H, OArr wr g g 0 H (A.take j)
  some : ∀ i, i < n * 3 → ∃ x, wr.cell? ⟨g, i, none⟩ = some x
  froz : ∀ i, i < n * 3 → wr.frozen? ⟨g, i, none⟩ = false
  low : Below g w wr
theorem takeA_snoc {A : List Arr} {j : Nat} (h : j < A.length) : A.take (j + 1) = A.take j ++ [⟨(arw A j).f, (arw A j).t, (arw A j).L⟩] := by
  have e : arw A j = A[j] := by simp [arw, List.getD_eq_getElem?_getD, h]
  rw [List.take_succ_eq_append_getElem h, e]
theorem BuildA.below {A : List Arr} {g n j : Nat} {w wr w' : World} (h : BuildA A g n j w wr) (hb : Below wr.heap.size wr w') : BuildA A g n j w w' := by
  obtain ⟨⟨H, hm⟩, h1, h2, h3⟩ := h
  have hg := hm.gl
  exact ⟨⟨H, hm.below hb⟩, fun i hi => by rw [hb.cell (p := ⟨g, i, none⟩) hg]; exact h1 i hi, fun i hi => by rw [hb.frozen (p := ⟨g, i, none⟩) hg]; exact h2 i hi, h3.trans (hb.mono (by omega))⟩
/-- an arrow with a label in a new block is put behind -/
theorem BuildA.push {A : List Arr} {g n j : Nat} {w wr w2 : World} (h : BuildA A g n j w wr) (hb : Below wr.heap.size wr w2) (hj : j < A.length) (hn : j < n) (u : Value) (hu : OwnTrms w2 wr.heap.size u (arw A j).L) :
    BuildA A g n (j + 1) w (putA w2 g (j * 3) (arw A j).f (arw A j).t u) := by
  have hb' := h.below hb
  obtain ⟨H, hm⟩ := h.arr
  have hl : (A.take j).length = j := by simp; omega
  have hgl := hm.gl
  obtain ⟨h', hh, ht⟩ := hu.inb
  have hP := (hm.below hb).push (by rw [hl, Nat.zero_add]; exact fun d hd => hb'.some _ (by omega)) (by rw [hl, Nat.zero_add]; exact fun d hd => hb'.froz _ (by omega)) (arw A j).f (arw A j).t u (arw A j).L h' ht (fun hn => by
    have := hh hn
    refine ⟨by omega, by omega, fun i hi hn2 e => ?_⟩
    have := (hm.hb i hi hn2).2.1
    omega)
  rw [hl, Nat.zero_add] at hP
  refine ⟨⟨_, by rw [takeA_snoc hj]; exact hP⟩, fun i hi => ?_, fun i hi => by rw [putA_frozen]; exact hb'.froz i hi, putA_low hb'.low _ _ _ _ _ (Nat.le_refl _)⟩
  by_cases e : i < j * 3 ∨ j * 3 + 3 ≤ i
  · obtain ⟨y, hy⟩ := hb'.some i hi
    exact ⟨y, by rw [putA_far _ _ _ _ _ _ _ _ (.inr e)]; exact hy⟩
  · obtain ⟨p0, p1, p2⟩ := putA_at w2 g (j * 3) (arw A j).f (arw A j).t u (fun d hd => hb'.some _ (by omega))
    have : i = j * 3 ∨ i = j * 3 + 1 ∨ i = j * 3 + 2 := by omega
    rcases this with rfl | rfl | rfl
    · exact ⟨_, p0⟩
    · exact ⟨_, p1⟩
    · exact ⟨_, p2⟩
theorem infoAr : (Try.prog.info? 80).map (fun i => (i.zero, i.size, i.bytes)) = some (some (.agg #[.int .i64 0, .int .i64 0, .slice none 0 0]), 3, 40) := by kernel_rfl
set_option maxHeartbeats 4000000 in
theorem toAS (v : Value) (A : List Arr) (w : World) (h : Arrs w v A) :
    Calls Try.prog 80 #[v] w fun e w' => ∃ a cap, e = .returned (.slice a A.length cap) ∧ OwnArrs w' w.heap.size (.slice a A.length cap) A ∧ Below w.heap.size w w' := by
  obtain ⟨i0, hi, hz0, hz1, hz2⟩ := info_parts infoAr
  obtain ⟨b1, b2, a, cap, rfl, h3⟩ := h
  have HD := Lib.hid h3
  clear h3
  go_enter Try.func80, Try.ntmps80
  go_wp2_with (at_make; refine wpList_make_full _ rfl _ _ 27 rfl w.heap.size 80 i0 (.agg #[.int .i64 0, .int .i64 0, .slice none 0 0]) 3 Try.underlying27 hi hz0 hz1 .i64 .i64 A.length A.length A.length rfl rfl rfl rfl ?c2 ?c3 ?c4 ?_)
  case c2 => rw [hz2]; omega
  case c3 => unfold maxLen; omega
  case c4 => exact Nat.le_refl _
  intro w2 hown hgr
  have hS : BuildA A w.heap.size A.length 0 w w2 := by
    refine ⟨⟨fun _ => 0, OArr.nil _ (Nat.le_refl _) (hown.lt _ rfl).2⟩, fun j hj => ?_, fun i hi => hown.frozenAt i, (Below.refl _ _).grown hgr (Nat.le_refl _) (fun k hk => by cases hk)⟩
    rw [hown.cellAt j (by omega)]
    exact made_some _ _ _ (by omega)
  clear hown hgr hi hz0 hz1 hz2
  go_wp2_with fail
  go_loopw [4] (fun i wr => ∃ j : Nat, j ≤ A.length ∧ i = .int .i64 j ∧ BuildA A w.heap.size A.length j w wr) (fun i _ => A.length - (intOf i).toNat)
  case atStart => exact ⟨0, by omega, rfl, hS⟩
  case round =>
    clear hS
    obtain ⟨j, hj, rfl, hS⟩ := hrel
    by_cases hlt : j < A.length
    · have hltp : (j : Int) < (A.length : Int) := by omega
      have hj0 : (0 : Int) ≤ (j : Int) := by omega
      rcases HD.out with h | ⟨g, off, rfl, hg, hc⟩
      · rw [h] at hlt; simp at hlt
      obtain ⟨x1, x2, u, x3, x4⟩ := hc j hlt
      have k1 : wr.cell? ⟨g, off + j * 3, none⟩ = some (.int .i64 (arw A j).f) := by rw [hS.low.cell (p := ⟨g, off + j * 3, none⟩) hg]; exact x1
      have k2 : wr.cell? ⟨g, off + j * 3 + 1, none⟩ = some (.int .i64 (arw A j).t) := by rw [hS.low.cell (p := ⟨g, off + j * 3 + 1, none⟩) hg]; exact x2
      have k3 : wr.cell? ⟨g, off + j * 3 + 2, none⟩ = some u := by rw [hS.low.cell (p := ⟨g, off + j * 3 + 2, none⟩) hg]; exact x3
      have HT := Lib.hid (toA1 (arw A j).f (arw A j).t u (arw A j).L wr (x4.below hS.low))
      have HS := Lib.hid hS
      obtain ⟨_, ua, uc, rfl, _⟩ := x4
      obtain ⟨x, hx⟩ : ∃ x, x = arw A j := ⟨_, rfl⟩
      rw [← hx] at k1 k2 k3 HT
      have HX := Lib.hid hx
      clear hc x1 x2 x3 hS hx
      go_wp2_with fail
      refine HT.out.mono ?_
      rintro e w3 ⟨a3, c3, rfl, ho, hb⟩
      have hb' := HS.out.below hb
      obtain ⟨y0, d0⟩ := hb'.some (j * 3) (by omega)
      obtain ⟨y1, d1⟩ := hb'.some (j * 3 + 1) (by omega)
      obtain ⟨y2, d2⟩ := hb'.some (j * 3 + 2) (by omega)
      have f0 := hb'.froz (j * 3) (by omega)
      have f1 := hb'.froz (j * 3 + 1) (by omega)
      have f2 := hb'.froz (j * 3 + 2) (by omega)
      have HP := Lib.hid (HS.out.push hb hlt hlt _ (by rw [← HX.out]; exact ho))
      rw [← HX.out] at HP
      unfold putA at HP
      clear HT HS ho hb hb' k1 k2 k3
      go_wp2
      go_roundw
      case rel => exact ⟨j + 1, by omega, by go_num, HP.out⟩
      case measure => simp [intOf]; omega
    · have hkl : j = A.length := by omega
      subst hkl
      have hS2 := hS
      obtain ⟨⟨H, hm⟩, _, _, hlow⟩ := hS2
      rw [List.take_length] at hm
      have HM := Lib.hid (And.intro hm hlow)
      clear hS hm hlow
      go_wp2
      go_ret
      exact ⟨_, _, rfl, ⟨b1, b2, _, _, rfl, .inr ⟨w.heap.size, 0, H, rfl, HM.out.1⟩⟩, HM.out.2⟩
end Go.Proofs.Ytlcmddghppdmgaa
namespace Go.Proofs.Ytlcmddghppdmgaa
set_option linter.unusedVariables false
open Go.RowKit
set_option maxHeartbeats 1000000 in
theorem toPr (nn : Int) (u : Value) (A : List Arr) (w : World) (h : Arrs w u A) :
    Calls Try.prog 20 #[.agg #[.int .i64 nn, u]] w fun e w' => ∃ v, e = .returned (.agg #[.int .i64 nn, v]) ∧ OwnArrs w' w.heap.size v A ∧ Below w.heap.size w w' := by
  obtain ⟨hl, hl2, a0, c0, rfl, h2⟩ := h
  have HT := Lib.hid (show ∀ W, Below w.heap.size w W → _ from fun W hb => toAS _ A W (Arrs.below ⟨hl, hl2, a0, c0, rfl, h2⟩ hb))
  clear h2
  go_enter Try.func20, Try.ntmps20
  go_wp2_with fail
  obtain ⟨W3, hW3⟩ : ∃ W3, W3 = ((w.alloc (Obj.cells #[.int .i64 nn, .slice a0 A.length c0] 24)).alloc (Obj.cells #[.int .i64 0, .slice none 0 0] 29)).alloc (Obj.cells #[.int .i64 nn, .slice none 0 0] 29) := ⟨_, rfl⟩
  rw [← hW3]
  have hb3 : Below w.heap.size w W3 := by rw [hW3]; exact (by repeat (first | exact Below.refl _ _ | apply Below.drew | apply below_drewN | (refine Below.alloc ?_ (by first | omega | (simp <;> omega)) _)))
  have hs3 : W3.heap.size = w.heap.size + 3 := by rw [hW3]; simp
  have k1 : ∀ i (x : Value), (#[Value.int .i64 0, .slice none 0 0] : Array Value)[i]? = some x → W3.cell? ⟨w.heap.size + 1, i, none⟩ = some x := fun i x hi => by
    rw [hW3, World.cell?_alloc_past _ _ _ (by simp), World.cell?_alloc_at _ _ _ _ (by simp)]; exact hi
  have k2 : ∀ i (x : Value), (#[Value.int .i64 nn, .slice none 0 0] : Array Value)[i]? = some x → W3.cell? ⟨w.heap.size + 2, i, none⟩ = some x := fun i x hi => by
    rw [hW3, World.cell?_alloc_at _ _ _ _ (by simp)]; exact hi
  have z1 : ∀ i, W3.frozen? ⟨w.heap.size + 1, i, none⟩ = false := fun i => by
    rw [hW3, World.frozen?_alloc_past _ _ _ (by simp), World.frozen?_alloc_at _ _ _ _ (by simp)]
  have z2 : ∀ i, W3.frozen? ⟨w.heap.size + 2, i, none⟩ = false := fun i => by
    rw [hW3, World.frozen?_alloc_at _ _ _ _ (by simp)]
  refine (HT.out W3 hb3).mono ?_
  rintro e w4 ⟨a, cap, rfl, ho, hb⟩
  have K : ∀ i j x, i < 3 → W3.cell? ⟨w.heap.size + i, j, none⟩ = some x → w4.cell? ⟨w.heap.size + i, j, none⟩ = some x := fun i j x hi hx => by rw [hb.cell (p := ⟨w.heap.size + i, j, none⟩) (show w.heap.size + i < W3.heap.size by omega)]; exact hx
  have c10 : w4.cell? ⟨w.heap.size + 1, 0, none⟩ = some (.int .i64 0) := K 1 0 _ (by omega) (k1 0 _ rfl)
  have c11 : w4.cell? ⟨w.heap.size + 1, 1, none⟩ = some (.slice none 0 0) := K 1 1 _ (by omega) (k1 1 _ rfl)
  have c20 : w4.cell? ⟨w.heap.size + 1 + 1, 0, none⟩ = some (.int .i64 nn) := K 2 0 _ (by omega) (k2 0 _ rfl)
  have c21 : w4.cell? ⟨w.heap.size + 1 + 1, 1, none⟩ = some (.slice none 0 0) := K 2 1 _ (by omega) (k2 1 _ rfl)
  have Z : ∀ i j, i < 3 → w4.frozen? ⟨w.heap.size + i, j, none⟩ = W3.frozen? ⟨w.heap.size + i, j, none⟩ := fun i j hi => hb.frozen (p := ⟨w.heap.size + i, j, none⟩) (show w.heap.size + i < W3.heap.size by omega)
  have f10 : w4.frozen? ⟨w.heap.size + 1, 0, none⟩ = false := (Z 1 0 (by omega)).trans (z1 0)
  have f11 : w4.frozen? ⟨w.heap.size + 1, 1, none⟩ = false := (Z 1 1 (by omega)).trans (z1 1)
  have f21 : w4.frozen? ⟨w.heap.size + 1 + 1, 1, none⟩ = false := (Z 2 1 (by omega)).trans (z2 1)
  have HO := Lib.hid ho
  have HB := Lib.hid (hb3.trans (hb.mono (by omega)))
  have HS := Lib.hid hs3
  clear hW3 hb3 hs3 k1 k2 z1 z2 hb ho K Z
  go_wp2
  have p1 : (((w4.setCell ⟨w.heap.size + 1 + 1, 1, none⟩ (.slice a A.length cap)).setCell ⟨w.heap.size + 1, 0, none⟩ (.int .i64 nn)).setCell ⟨w.heap.size + 1, 1, none⟩ (.slice a A.length cap)).cell? ⟨w.heap.size + 1, 1, none⟩ = some (.slice a A.length cap) :=
    World.cell?_setCell_same _ _ _ (by rw [World.cell?_setCell_other _ _ _ _ (ad_ne (by omega)), World.cell?_setCell_other _ _ _ _ (ad_ne (by omega))]; exact c11)
  have p0 : (((w4.setCell ⟨w.heap.size + 1 + 1, 1, none⟩ (.slice a A.length cap)).setCell ⟨w.heap.size + 1, 0, none⟩ (.int .i64 nn)).setCell ⟨w.heap.size + 1, 1, none⟩ (.slice a A.length cap)).cell? ⟨w.heap.size + 1, 0, none⟩ = some (.int .i64 nn) := by
    rw [World.cell?_setCell_other _ _ _ _ (ad_ne (by omega))]
    exact World.cell?_setCell_same _ _ _ (by rw [World.cell?_setCell_other _ _ _ _ (ad_ne (by omega))]; exact c10)
  refine bodyPost_ret (v := .agg #[.int .i64 nn, .slice a A.length cap]) (by simp [results, Try.results20, go_sem, p0, p1]) rfl ?_
  refine ⟨_, rfl, ?_, ?_⟩
  · obtain ⟨r1, r2, a', cap', r3, r4⟩ := HO.out
    refine ⟨r1, r2, a', cap', r3, ?_⟩
    rcases r4 with r4 | ⟨g, off, H, r4, hm⟩
    · exact .inl r4
    · have hs := HS.out
      have hE : ∀ b, W3.heap.size ≤ b → (((w4.setCell ⟨w.heap.size + 1 + 1, 1, none⟩ (.slice a A.length cap)).setCell ⟨w.heap.size + 1, 0, none⟩ (.int .i64 nn)).setCell ⟨w.heap.size + 1, 1, none⟩ (.slice a A.length cap)).heap[b]? = w4.heap[b]? := fun b hb => by
        rw [Below.heap_setCell _ _ _ _ (show b ≠ w.heap.size + 1 by omega), Below.heap_setCell _ _ _ _ (show b ≠ w.heap.size + 1 by omega), Below.heap_setCell _ _ _ _ (show b ≠ w.heap.size + 1 + 1 by omega)]
      exact .inr ⟨g, off, H, r4, (hm.same (hE _ hm.bg) (fun i hi hn => hE _ (hm.hb i hi hn).1)).base (by omega)⟩
  · have := HB.out
    repeat (first | exact HB.out | (refine Below.setCell ?_ (by simp <;> omega) _))
theorem eqA1 (f t : Int) (u1 u2 : Value) (L : List Trm) (w : World) (h1 : Trms w u1 L) (h2 : Trms w u2 L) :
    Calls Try.prog 157 #[.agg #[.int .i64 f, .int .i64 t, u1], .agg #[.int .i64 f, .int .i64 t, u2]] w fun e w' => e = .returned (.bool true) ∧ Below w.heap.size w w' := by
  have HT := Lib.hid (show ∀ W, Below w.heap.size w W → _ from fun W hb => eqP u1 u2 L W (h1.below hb) (h2.below hb))
  have e1 : (f != f) = false := by simp
  have e2 : (t != t) = false := by simp
  obtain ⟨_, a1, c1, rfl, _⟩ := h1
  obtain ⟨_, a2, c2, rfl, _⟩ := h2
  go_enter Try.func157, Try.ntmps157
  go_wp2_with fail
  refine (HT.out _ (by repeat (first | exact Below.refl _ _ | apply Below.drew | apply below_drewN | (refine Below.alloc ?_ (by first | omega | (simp <;> omega)) _)))).mono ?_
  rintro e w1 ⟨rfl, hb⟩
  have HB := Lib.hid (show Below w.heap.size w w1 from Below.trans (by repeat (first | exact Below.refl _ _ | apply Below.drew | apply below_drewN | (refine Below.alloc ?_ (by first | omega | (simp <;> omega)) _))) (hb.mono (by simp <;> omega)))
  clear hb
  go_wp2
  go_ret
  exact ⟨rfl, HB.out⟩
set_option maxRecDepth 100000 in
set_option maxHeartbeats 4000000 in
/-- two values that read as one list of arrows are found equal -/
theorem eqAS (v1 v2 : Value) (A : List Arr) (w : World) (h1 : Arrs w v1 A) (h2 : Arrs w v2 A) :
    Calls Try.prog 83 #[v1, v2] w fun e w' => e = .returned (.bool true) ∧ Below w.heap.size w w' := by
  obtain ⟨b1, _, a1, c1, rfl, h1⟩ := h1
  obtain ⟨_, _, a2, c2, rfl, h2⟩ := h2
  have H1 := Lib.hid h1
  have H2 := Lib.hid h2
  clear h1 h2
  have hlb : ((A.length : Int) != (A.length : Int)) = false := by simp
  go_enter Try.func83, Try.ntmps83
  go_wp2_with fail
  go_loopw [5] (fun i wr => ∃ j : Nat, j ≤ A.length ∧ i = .int .i64 j ∧ Below w.heap.size w wr) (fun i _ => A.length - (intOf i).toNat)
  case atStart => exact ⟨0, by omega, rfl, Below.refl _ _⟩
  case round =>
    obtain ⟨j, hj, rfl, hb⟩ := hrel
    by_cases hlt : j < A.length
    · have hltp : (j : Int) < (A.length : Int) := by omega
      have hj0 : (0 : Int) ≤ (j : Int) := by omega
      rcases H1.out with h | ⟨g1, o1, rfl, hg1, hc1⟩
      · rw [h] at hlt; simp at hlt
      rcases H2.out with h | ⟨g2, o2, rfl, hg2, hc2⟩
      · rw [h] at hlt; simp at hlt
      have hz := hb.size
      obtain ⟨p0, p1, u1, p2, p3⟩ := (hc1 j hlt).below hb hg1
      obtain ⟨q0, q1, u2, q2, q3⟩ := (hc2 j hlt).below hb hg2
      obtain ⟨x, hx⟩ : ∃ x, x = arw A j := ⟨_, rfl⟩
      rw [← hx] at p0 p1 p3 q0 q1 q3
      have HS := Lib.hid (fun w' (hw : Below wr.heap.size wr w') => show (w'.cell? ⟨g1, o1 + j * 3, none⟩ = some (.int .i64 x.f) ∧ w'.cell? ⟨g1, o1 + j * 3 + 1, none⟩ = some (.int .i64 x.t) ∧ w'.cell? ⟨g1, o1 + j * 3 + 2, none⟩ = some u1) ∧ w'.cell? ⟨g2, o2 + j * 3, none⟩ = some (.int .i64 x.f) ∧ w'.cell? ⟨g2, o2 + j * 3 + 1, none⟩ = some (.int .i64 x.t) ∧ w'.cell? ⟨g2, o2 + j * 3 + 2, none⟩ = some u2 from by
        have k1 : g1 < wr.heap.size := by omega
        have k2 : g2 < wr.heap.size := by omega
        exact ⟨⟨(hw.cell (p := ⟨g1, _, none⟩) k1).trans p0, (hw.cell (p := ⟨g1, _, none⟩) k1).trans p1, (hw.cell (p := ⟨g1, _, none⟩) k1).trans p2⟩, (hw.cell (p := ⟨g2, _, none⟩) k2).trans q0, (hw.cell (p := ⟨g2, _, none⟩) k2).trans q1, (hw.cell (p := ⟨g2, _, none⟩) k2).trans q2⟩)
      have HE := Lib.hid (fun w' (hw : Below wr.heap.size wr w') => eqA1 x.f x.t u1 u2 x.L w' (p3.below hw) (q3.below hw))
      have HB := Lib.hid hb
      obtain ⟨_, ua, uc, rfl, _⟩ := p3
      obtain ⟨_, va, vc, rfl, _⟩ := q3
      clear hc1 hc2 hb p0 p1 p2 q0 q1 q2 H1 H2 hx hz
      go_wp2_with fail
      refine wp_region_seq [(0, true), (1, true), (2, true), (3, true), (4, true), (5, true), (6, true), (7, true), (8, false)] (fun w' => (w'.cell? ⟨g1, o1 + j * 3, none⟩ = some (.int .i64 x.f) ∧ w'.cell? ⟨g1, o1 + j * 3 + 1, none⟩ = some (.int .i64 x.t) ∧ w'.cell? ⟨g1, o1 + j * 3 + 2, none⟩ = some (.slice ua x.L.length uc)) ∧ w'.cell? ⟨g2, o2 + j * 3, none⟩ = some (.int .i64 x.f) ∧ w'.cell? ⟨g2, o2 + j * 3 + 1, none⟩ = some (.int .i64 x.t) ∧ w'.cell? ⟨g2, o2 + j * 3 + 2, none⟩ = some (.slice va x.L.length vc)) (by kernel_rfl) (by kernel_rfl) rfl (by intro c a d v w h; cases d <;> exact h) (HS.out _ (Below.drew (Below.refl _ _))) ?_
      iterate 8 (refine wpSeq_take (v := ?_) (List.getElem?_toArray.trans rfl) ?_ ?_; rotate_left; (intro w' hSw; (try dsimp only at hSw); go_simp; (try with_reducible rfl)); (try simp only [Act.put, List.setIfInBounds_toArray, List.set_cons_zero, List.set_cons_succ]))
      refine wpSeq_do (List.getElem?_toArray.trans rfl) (fun K hK => ?_)
      go_simp
      refine (HE.out _ (Below.drew (Below.refl _ _))).mono ?_
      rintro e w6 ⟨rfl, hd⟩
      have hb6 : Below wr.heap.size wr w6 := (Below.drew (Below.refl _ _)).trans (hd.mono (by simp))
      refine hK _ _ (HS.out _ hb6) ?_
      clear hK K
      refine wpSeq_nil ?_
      simp only [Exit.then]
      have HF := Lib.hid (HB.out.trans (hb6.mono HB.out.size))
      clear hd hb6 HS HE HB
      go_wp2_with fail
      go_roundw
      case rel => exact ⟨j + 1, by omega, by go_num, HF.out⟩
      case measure => simp [intOf]; omega
    · have hjl : j = A.length := by omega
      subst hjl
      go_wp2
      go_ret
      exact ⟨rfl, hb⟩
theorem eqPr (nn : Int) (u1 u2 : Value) (A : List Arr) (w : World) (h1 : Arrs w u1 A) (h2 : Arrs w u2 A) :
    Calls Try.prog 22 #[.agg #[.int .i64 nn, u1], .agg #[.int .i64 nn, u2]] w fun e w' => e = .returned (.bool true) ∧ Below w.heap.size w w' := by
  have HT := Lib.hid (show ∀ W, Below w.heap.size w W → _ from fun W hb => eqAS u1 u2 A W (h1.below hb) (h2.below hb))
  have e1 : (nn != nn) = false := by simp
  obtain ⟨_, _, a1, c1, rfl, _⟩ := h1
  obtain ⟨_, _, a2, c2, rfl, _⟩ := h2
  go_enter Try.func22, Try.ntmps22
  go_wp2_with fail
  refine (HT.out _ (by repeat (first | exact Below.refl _ _ | apply Below.drew | apply below_drewN | (refine Below.alloc ?_ (by first | omega | (simp <;> omega)) _)))).mono ?_
  rintro e w1 ⟨rfl, hb⟩
  have HB := Lib.hid (show Below w.heap.size w w1 from Below.trans (by repeat (first | exact Below.refl _ _ | apply Below.drew | apply below_drewN | (refine Below.alloc ?_ (by first | omega | (simp <;> omega)) _))) (hb.mono (by simp <;> omega)))
  clear hb
  go_wp2
  go_ret
  exact ⟨rfl, HB.out⟩
end Go.Proofs.Ytlcmddghppdmgaa
