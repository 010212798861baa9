/-
  Contracts of the exact laws' helpers on lists of terms, on: szPoly, toPoly, eqPoly. Conditions: what the slices hold is known.
-/
import Derived.Test.YtmndcdcjjihecaaTrms
import Derived.Deep.RegionHeld3
namespace Go.Proofs.Ytmndcdcjjihecaa
open Go.RowKit
/-- a call hands back a slice of terms of its own -/
def GivesTrms (L : List Trm) (w : World) (e : Ending) (w' : World) : Prop :=
  ∃ v, e = .returned v ∧ OwnTrms w' w.heap.size v L ∧ Below w.heap.size w w'
theorem made_some (z0 : Array Value) (n i : Nat) (h : i < n) : ∃ u, (madeCells z0 n).toList[i]? = some u := by
  have : i < (madeCells z0 n).toList.length := by simp [size_madeCells, h]
  exact ⟨_, List.getElem?_eq_getElem this⟩
set_option maxHeartbeats 2000000 in
theorem toP_some (cap : Nat) (g off : Nat) (L : List Trm) (w : World) (hL : 0 < L.length) (hL1 : L.length ≤ 1048576) (hg : g < w.heap.size)
    (hc : ∀ j : Nat, j < L.length → TAt w g (off + j * 4) (L.getD j default)) :
    Calls Try.prog 11 #[.slice (some ⟨g, off, none⟩) L.length cap] w (GivesTrms L w) := by
  obtain ⟨i0, hi, hz0, hz1, hz2⟩ := info_parts infoT
  have HC := Lib.hid hc
  clear hc
  go_enter Try.func11, Try.ntmps11
  go_wp2_with (at_make; refine wpList_make_full _ rfl _ _ 25 rfl w.heap.size 55 i0 (.agg #[.int .i64 0, .int .i64 0, .int .i64 0, .int .i64 0]) 4 Try.underlying25 hi hz0 hz1 .i64 .i64 L.length L.length L.length rfl rfl rfl rfl ?c2 ?c3 ?c4 ?_)
  case c2 => rw [hz2]; omega
  case c3 => unfold maxLen; omega
  case c4 => exact Nat.le_refl _
  intro w2 hown hgr
  have hS : BuildW L w.heap.size 0 w w2 := by
    constructor
    · intro j hj; omega
    · intro i hi
      rw [hown.cellAt i hi]
      exact made_some _ _ _ hi
    · intro i hi; exact hown.frozenAt i
    · exact (hown.lt _ rfl).2
    · exact (Below.refl _ _).grown hgr (Nat.le_refl _) (fun k hk => by cases hk)
  clear hown hgr hi hz0 hz1 hz2
  go_wp2_with fail
  go_loopw [4] (fun i wr => ∃ k : Nat, k ≤ L.length ∧ i = .int .i64 k ∧ BuildW L w.heap.size k w wr) (fun i _ => L.length - (intOf i).toNat)
  case atStart => exact ⟨0, by omega, rfl, hS⟩
  case round =>
    clear hS
    obtain ⟨k, hk, rfl, hS⟩ := hrel
    by_cases hlt : k < L.length
    · have hltp : (k : Int) < (L.length : Int) := by omega
      have hk0 : (0 : Int) ≤ (k : Int) := by omega
      have HS := Lib.hid hS
      obtain ⟨h0, h1, h2, h3⟩ := (HC.out k hlt).below hS.low hg
      clear hS
      obtain ⟨x, hx⟩ : ∃ x, x = L.getD k default := ⟨_, rfl⟩
      rw [← hx] at h0 h1 h2 h3
      have Hx := Lib.hid hx
      clear hx
      go_wp2_with fail
      refine (toT x.a x.b x.c x.t _).mono ?_
      rintro e w3 ⟨rfl, hb3⟩
      have hS3 := HS.out.below hb3
      have hSt := Lib.hid (hS3.step hlt (Nat.le_refl _))
      obtain ⟨u0, c0⟩ := hS3.some (k * 4) (by omega)
      obtain ⟨u1, c1⟩ := hS3.some (k * 4 + 1) (by omega)
      obtain ⟨u2, c2⟩ := hS3.some (k * 4 + 2) (by omega)
      obtain ⟨u3, c3⟩ := hS3.some (k * 4 + 3) (by omega)
      have f0 := hS3.froz (k * 4) (by omega)
      have f1 := hS3.froz (k * 4 + 1) (by omega)
      have f2 := hS3.froz (k * 4 + 2) (by omega)
      have f3 := hS3.froz (k * 4 + 3) (by omega)
      clear hS3 hb3 HS h0 h1 h2 h3
      go_wp2
      go_roundw
      case rel => exact ⟨k + 1, by omega, by go_num, by have := hSt.out; rw [← Hx.out] at this; exact this⟩
      case measure => simp [intOf]; omega
    · have hkl : k = L.length := by omega
      subst hkl
      go_wp2
      go_ret
      exact ⟨_, rfl, ⟨hL1, _, _, rfl, .inr ⟨w.heap.size, 0, rfl, Nat.le_refl _, hS.sz, fun j hj => by rw [Nat.zero_add]; exact hS.done j hj, fun i hi => by rw [Nat.zero_add]; exact hS.froz i hi⟩⟩, hS.low⟩
theorem toP_nil (a : Option Addr) (cap : Nat) (w : World) :
    Calls Try.prog 11 #[.slice a 0 cap] w (GivesTrms [] w) := by
  obtain ⟨i0, hi, hz0, hz1, hz2⟩ := info_parts infoT
  go_enter Try.func11, Try.ntmps11
  go_wp2_with (at_make; refine wpList_make_full _ rfl _ _ 25 rfl w.heap.size 55 i0 (.agg #[.int .i64 0, .int .i64 0, .int .i64 0, .int .i64 0]) 4 Try.underlying25 hi hz0 hz1 .i64 .i64 0 0 0 rfl rfl rfl rfl ?c2 ?c3 ?c4 ?_)
  case c2 => omega
  case c3 => unfold maxLen; omega
  case c4 => exact Nat.le_refl _
  intro w2 hown hgr
  have hlow : Below w.heap.size w w2 := (Below.refl _ _).grown hgr (Nat.le_refl _) (fun k hk => by cases hk)
  clear hown hgr hi hz0 hz1 hz2
  go_wp2_with fail
  go_loop [4] (fun i => i = .int .i64 0) (fun _ => 0)
  case atStart => rfl
  case round =>
    obtain rfl := hrel
    go_wp2
    go_ret
    exact ⟨_, rfl, ⟨by simp, _, _, rfl, .inl rfl⟩, hlow⟩
theorem toP (v : Value) (L : List Trm) (w : World) (h : Trms w v L) :
    Calls Try.prog 11 #[v] w (GivesTrms L w) := by
  obtain ⟨h1, a, cap, rfl, h2⟩ := h
  rcases h2 with rfl | ⟨g, off, rfl, hg, hc⟩
  · exact toP_nil a cap w
  · by_cases h0 : 0 < L.length
    · exact toP_some cap g off L w h0 h1 hg hc
    · have : L = [] := List.length_eq_zero_iff.1 (by omega)
      subst this
      exact toP_nil _ cap w
theorem szP (a : Option Addr) (n cap : Nat) (m : Int) (w : World) (hm0 : 0 ≤ m) (hm1 : m ≤ 1048576) (hn : (n : Int) ≤ 9223372036854775807) :
    Calls Try.prog 9 #[.slice a n cap, .int .i64 m] w fun e w' => e = .returned (.int .i64 (if m < n then -1 else m - n)) ∧ w = w' := by
  by_cases h : m < (n : Int)
  · rw [if_pos h]
    go_enter Try.func9, Try.ntmps9
    go_wp2
    go_ret
    exact ⟨rfl, rfl⟩
  · rw [if_neg h]
    go_enter Try.func9, Try.ntmps9
    go_wp2
    go_ret
    exact ⟨rfl, rfl⟩
theorem keepTT {W w1 : World} {g1 o1 g2 o2 : Nat} {x y : Trm} (hb : Below W.heap.size W w1) (h1 : g1 < W.heap.size) (h2 : g2 < W.heap.size) (h : TAt W g1 o1 x ∧ TAt W g2 o2 y) : TAt w1 g1 o1 x ∧ TAt w1 g2 o2 y :=
  ⟨h.1.below hb h1, h.2.below hb h2⟩
set_option maxHeartbeats 4000000 in
theorem eqP_same (g1 o1 c1 g2 o2 c2 : Nat) (L : List Trm) (w : World) (hl : L.length ≤ 1048576) (hg1 : g1 < w.heap.size) (hg2 : g2 < w.heap.size)
    (h1 : ∀ j : Nat, j < L.length → TAt w g1 (o1 + j * 4) (L.getD j default)) (h2 : ∀ j : Nat, j < L.length → TAt w g2 (o2 + j * 4) (L.getD j default)) :
    Calls Try.prog 13 #[.slice (some ⟨g1, o1, none⟩) L.length c1, .slice (some ⟨g2, o2, none⟩) L.length c2] w fun e w' => e = .returned (.bool true) ∧ Below w.heap.size w w' := by
  have H1 := Lib.hid h1
  have H2 := Lib.hid h2
  clear h1 h2
  go_enter Try.func13, Try.ntmps13
  go_wp2_with fail
  go_loopw [5] (fun i wr => ∃ k : Nat, k ≤ L.length ∧ i = .int .i64 k ∧ Below w.heap.size w wr) (fun i _ => L.length - (intOf i).toNat)
  case atStart => exact ⟨0, by omega, rfl, Below.refl _ _⟩
  case round =>
    obtain ⟨k, hk, rfl, hb⟩ := hrel
    by_cases hlt : k < L.length
    · have hltp : (k : Int) < (L.length : Int) := by omega
      have hk0 : (0 : Int) ≤ (k : Int) := by omega
      obtain ⟨a0, a1, a2, a3⟩ := (H1.out k hlt).below hb hg1
      obtain ⟨b0, b1, b2, b3⟩ := (H2.out k hlt).below hb hg2
      obtain ⟨x, hx⟩ : ∃ x, x = L.getD k default := ⟨_, rfl⟩
      rw [← hx] at a0 a1 a2 a3 b0 b1 b2 b3
      clear hx
      have hr1 : g1 < wr.heap.size := Nat.lt_of_lt_of_le hg1 hb.size
      have hr2 : g2 < wr.heap.size := Nat.lt_of_lt_of_le hg2 hb.size
      have Hb := Lib.hid hb
      clear hb
      go_wp2_with fail
      go_region_held3 (fun w' => (w'.cell? ⟨g1, o1 + k * 4, none⟩ = some (.int .i64 x.a) ∧ w'.cell? ⟨g1, o1 + k * 4 + 1, none⟩ = some (.int .i64 x.b) ∧ w'.cell? ⟨g1, o1 + k * 4 + 2, none⟩ = some (.int .i64 x.c) ∧ w'.cell? ⟨g1, o1 + k * 4 + 3, none⟩ = some (.int .i64 x.t)) ∧ w'.cell? ⟨g2, o2 + k * 4, none⟩ = some (.int .i64 x.a) ∧ w'.cell? ⟨g2, o2 + k * 4 + 1, none⟩ = some (.int .i64 x.b) ∧ w'.cell? ⟨g2, o2 + k * 4 + 2, none⟩ = some (.int .i64 x.c) ∧ w'.cell? ⟨g2, o2 + k * 4 + 3, none⟩ = some (.int .i64 x.t)) (first | go_keep | exact keepTT hb1 (by simpa using hr1) (by simpa using hr2) (by assumption))
        (first | (go_at_call 37; refine (eqT x.a x.b x.c x.t x.a x.b x.c x.t _).mono ?_; rintro e w1 ⟨rfl, hb1⟩))
      have hs := Hb.out.size
      have hbb : Below w.heap.size w _ := Below.trans (by repeat (first | exact Hb.out | apply Below.drew | apply below_drewN)) (hb1.mono (by simpa using hs))
      go_wp2
      go_roundw
      case rel => exact ⟨k + 1, by omega, by go_num, by repeat (first | exact hbb | apply Below.drew | apply below_drewN)⟩
      case measure => simp [intOf]; omega
    · go_wp2
      go_ret
      exact ⟨rfl, hb⟩
theorem eqP_nil (a1 a2 : Option Addr) (c1 c2 : Nat) (w : World) :
    Calls Try.prog 13 #[.slice a1 0 c1, .slice a2 0 c2] w fun e w' => e = .returned (.bool true) ∧ Below w.heap.size w w' := by
  go_enter Try.func13, Try.ntmps13
  go_wp2_with fail
  go_loop [5] (fun i => i = .int .i64 0) (fun _ => 0)
  case atStart => rfl
  case round =>
    obtain rfl := hrel
    go_wp2
    go_ret
    exact ⟨rfl, Below.refl _ _⟩
/-- two slices that read as one list are found equal -/
theorem eqP (v1 v2 : Value) (L : List Trm) (w : World) (h1 : Trms w v1 L) (h2 : Trms w v2 L) :
    Calls Try.prog 13 #[v1, v2] w fun e w' => e = .returned (.bool true) ∧ Below w.heap.size w w' := by
  obtain ⟨hl, a1, c1, rfl, h1⟩ := h1
  obtain ⟨_, a2, c2, rfl, h2⟩ := h2
  rcases h1 with rfl | ⟨g1, o1, rfl, hg1, h1⟩
  · exact eqP_nil a1 a2 c1 c2 w
  · rcases h2 with rfl | ⟨g2, o2, rfl, hg2, h2⟩
    · exact eqP_nil _ a2 c1 c2 w
    · exact eqP_same g1 o1 c1 g2 o2 c2 L w hl hg1 hg2 h1 h2
end Go.Proofs.Ytmndcdcjjihecaa
