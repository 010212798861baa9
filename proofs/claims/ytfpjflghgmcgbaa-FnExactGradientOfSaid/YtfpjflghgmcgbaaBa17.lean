/-
  The exact laws' helpers over gradients: a copy, its size, whether two are equal. Conditions: what the slices hold is known.
  The walk of the exact law of GradientValid. Conditions: none but that the slice reads as a list of gates.
-/
import Derived.Test.YtfpjflghgmcgbaaBa16
import Derived.Test.YtfpjflghgmcgbaaBa5
import Derived.Deep.RegionHeld3
import Derived.Deep.Cut
namespace Go.Proofs.Ytfpjflghgmcgbaa
open Go.RowKit
theorem OwnGats.setFar {w : World} {B G : Nat} {v : Value} {L : List Gt} (h : OwnGats w B v L) (hG : G < B) (o : Nat) (u : Value) : OwnGats (w.setCell ⟨G, o, none⟩ u) B v L := by
  obtain ⟨hl, a, cap, e, h⟩ := h
  refine ⟨hl, a, cap, e, ?_⟩
  rcases h with h | ⟨g, off, e2, h1, h2, h3, h4⟩
  · exact .inl h
  · refine .inr ⟨g, off, e2, h1, by simpa using h2, fun j hj => ?_, fun i hi => ?_⟩
    · obtain ⟨c0, c1, c2⟩ := h3 j hj
      refine ⟨?_, ?_, ?_⟩
      · rw [World.cell?_setCell_other _ _ _ _ (addr_ne (by omega))]; exact c0
      · rw [World.cell?_setCell_other _ _ _ _ (addr_ne (by omega))]; exact c1
      · rw [World.cell?_setCell_other _ _ _ _ (addr_ne (by omega))]; exact c2
    · rw [World.frozen?_setCell]; exact h4 i hi
set_option maxRecDepth 100000 in
set_option maxHeartbeats 4000000 in
theorem toGr (v : Value) (L : List Gt) (x y z : Int) (w : World) (h : Gats w v L) :
    Calls Try.prog 48 #[.agg #[v, .int .i64 x, .int .i64 y, .int .i64 z]] w fun e w' => ∃ u, e = .returned (.agg #[u, .int .i64 x, .int .i64 y, .int .i64 z]) ∧ OwnGats w' w.heap.size u L ∧ Below w.heap.size w w' := by
  obtain ⟨n, hn⟩ : ∃ n, n = w.heap.size := ⟨_, rfl⟩
  obtain ⟨W, hW⟩ : ∃ W, W = ((w.alloc (Obj.cells #[v, .int .i64 x, .int .i64 y, .int .i64 z] 73)).alloc (Obj.cells #[.slice none 0 0, .int .i64 0, .int .i64 0, .int .i64 0] 29)).alloc (Obj.cells #[.slice none 0 0, .int .i64 0, .int .i64 0, .int .i64 0] 29) := ⟨_, rfl⟩
  have hA : GrAt W n v x y z := by rw [hW, hn]; refine ⟨?_, ?_, ?_, ?_⟩ <;> simp [go_sem]
  have hZ : GrAt W (n + 1) (.slice none 0 0) 0 0 0 := by rw [hW, hn]; refine ⟨?_, ?_, ?_, ?_⟩ <;> simp [go_sem]
  have hO : GrAt W (n + 1 + 1) (.slice none 0 0) 0 0 0 := by rw [hW, hn]; refine ⟨?_, ?_, ?_, ?_⟩ <;> simp [go_sem]
  have hf1 : ∀ i, W.frozen? ⟨n + 1, i, none⟩ = false := fun i => by rw [hW, hn]; simp [go_sem]
  have hf2 : ∀ i, W.frozen? ⟨n + 1 + 1, i, none⟩ = false := fun i => by rw [hW, hn]; simp [go_sem]
  have bW : Below n w W := by rw [hW, hn]; exact (by repeat (first | exact Below.refl _ _ | apply Below.drew | apply below_drewN | (refine Below.alloc ?_ (by first | omega | (simp <;> omega)) _)))
  have hsW : W.heap.size = n + 3 := by rw [hW, hn]; simp
  have HT := Lib.hid (toC v L W (h.below (hn ▸ bW)))
  have HW := Lib.hid hW
  have hlt : n + 1 + 1 < W.heap.size := by omega
  have HA := Lib.hid hA
  have HZ := Lib.hid hZ
  have HO := Lib.hid hO
  have H1 := Lib.hid hf1
  have H2 := Lib.hid hf2
  have HB := Lib.hid bW
  have HS := Lib.hid hsW
  have a0 := hA.c0
  rw [← hn]
  clear hW h hA hZ hO hf1 hf2 bW hsW
  go_enter Try.func48, Try.ntmps48
  go_wp2_with fail
  rw [← HW.out, ← hn]
  clear HW hn
  refine HT.out.mono ?_
  rintro e w2 ⟨u, rfl, ho, hb⟩
  obtain ⟨u, hu2, hu3⟩ : ∃ u', u = u' ∧ ∃ a2 cap2, u' = .slice a2 L.length cap2 := by
    obtain ⟨_, a2, cap2, hu, _⟩ := ho
    exact ⟨_, rfl, a2, cap2, hu⟩
  subst hu2
  obtain ⟨a2, cap2, rfl⟩ := hu3
  have s2 : n + 1 + 1 < w2.heap.size := Nat.lt_of_lt_of_le hlt hb.size
  have c2 := (HO.out.below hb hlt).c0
  have f2 : w2.frozen? ⟨n + 1 + 1, 0, none⟩ = false := by rw [hb.frozen (p := ⟨n + 1 + 1, 0, none⟩) hlt]; exact H2.out 0
  obtain ⟨W2, hW2⟩ : ∃ W2, W2 = w2.setCell ⟨n + 1 + 1, 0, none⟩ (.slice a2 L.length cap2) := ⟨_, rfl⟩
  have ST := Lib.hid (show GrAt W2 n v x y z ∧ GrAt W2 (n + 1) (.slice none 0 0) 0 0 0 ∧ GrAt W2 (n + 1 + 1) (.slice a2 L.length cap2) 0 0 0 ∧ (∀ i, W2.frozen? ⟨n + 1, i, none⟩ = false) ∧ (∀ i, W2.frozen? ⟨n + 1 + 1, i, none⟩ = false) ∧ OwnGats W2 (n + 3) (.slice a2 L.length cap2) L ∧ Below n w W2 ∧ n + 1 + 1 < W2.heap.size by
    have k0 := HA.out.below hb (by omega)
    have k1 := HZ.out.below hb (by omega)
    have k2 := HO.out.below hb hlt
    have o2 : OwnGats w2 (n + 3) (.slice a2 L.length cap2) L := by rw [← HS.out]; exact ho
    rw [hW2]
    refine ⟨⟨?_, ?_, ?_, ?_⟩, ⟨?_, ?_, ?_, ?_⟩, ⟨?_, ?_, ?_, ?_⟩, fun i => ?_, fun i => ?_, ?_, ?_, by simpa using s2⟩
    · rw [World.cell?_setCell_other _ _ _ _ (addr_ne (by omega))]; exact k0.c0
    · rw [World.cell?_setCell_other _ _ _ _ (addr_ne (by omega))]; exact k0.c1
    · rw [World.cell?_setCell_other _ _ _ _ (addr_ne (by omega))]; exact k0.c2
    · rw [World.cell?_setCell_other _ _ _ _ (addr_ne (by omega))]; exact k0.c3
    · rw [World.cell?_setCell_other _ _ _ _ (addr_ne (by omega))]; exact k1.c0
    · rw [World.cell?_setCell_other _ _ _ _ (addr_ne (by omega))]; exact k1.c1
    · rw [World.cell?_setCell_other _ _ _ _ (addr_ne (by omega))]; exact k1.c2
    · rw [World.cell?_setCell_other _ _ _ _ (addr_ne (by omega))]; exact k1.c3
    · exact World.cell?_setCell_same _ _ _ k2.c0
    · rw [World.cell?_setCell_other _ _ _ _ (addr_ne (by omega))]; exact k2.c1
    · rw [World.cell?_setCell_other _ _ _ _ (addr_ne (by omega))]; exact k2.c2
    · rw [World.cell?_setCell_other _ _ _ _ (addr_ne (by omega))]; exact k2.c3
    · rw [World.frozen?_setCell, hb.frozen (p := ⟨n + 1, i, none⟩) (by show n + 1 < _; omega)]; exact H1.out i
    · rw [World.frozen?_setCell, hb.frozen (p := ⟨n + 1 + 1, i, none⟩) hlt]; exact H2.out i
    · exact o2.setFar (by omega) _ _
    · exact (HB.out.trans (hb.mono (by omega))).setCell (by show n ≤ n + 1 + 1; omega) _)
  have HW2 := Lib.hid hW2
  clear hW2 hb ho HT a0
  go_upto_region 3 with fail
  rw [← HW2.out]
  obtain ⟨hA2, hZ2, hO2, hf1, hf2, hown, hB2, hlt2⟩ := ST.out
  have b1 := hA2.c1
  have b2 := hA2.c2
  have b3 := hA2.c3
  clear c2 f2 s2 HW2
  go_wp2_with fail
  refine (toA3b x y z _).mono ?_
  rintro e w3 ⟨rfl, hb⟩
  have SU := Lib.hid (And.intro (hZ2.below hb (by omega)) (And.intro (hO2.below hb hlt2) (And.intro (hown.below hb) (And.intro (hB2.trans (hb.mono (by omega))) (Nat.lt_of_lt_of_le hlt2 hb.size)))))
  have FR := Lib.hid (show (∀ i, w3.frozen? ⟨n + 1, i, none⟩ = false) ∧ (∀ i, w3.frozen? ⟨n + 1 + 1, i, none⟩ = false) from ⟨fun i => by rw [hb.frozen (p := ⟨n + 1, i, none⟩) (by show n + 1 < _; omega)]; exact hf1 i, fun i => by rw [hb.frozen (p := ⟨n + 1 + 1, i, none⟩) hlt2]; exact hf2 i⟩)
  obtain ⟨o0, o1, o2, o3⟩ := SU.out.2.1
  have g1 := FR.out.2 1
  have g2 := FR.out.2 2
  have g3 := FR.out.2 3
  clear b1 b2 b3 hA2 hZ2 hO2 hf1 hf2 hown hB2 hb ST
  obtain ⟨W4, hW4⟩ : ∃ W4, W4 = ((w3.setCell ⟨n + 1 + 1, 1, none⟩ (.int .i64 x)).setCell ⟨n + 1 + 1, 2, none⟩ (.int .i64 y)).setCell ⟨n + 1 + 1, 3, none⟩ (.int .i64 z) := ⟨_, rfl⟩
  have SV := Lib.hid (show GrAt W4 (n + 1) (.slice none 0 0) 0 0 0 ∧ GrAt W4 (n + 1 + 1) (.slice a2 L.length cap2) x y z ∧ (∀ i, W4.frozen? ⟨n + 1, i, none⟩ = false) ∧ OwnGats W4 (n + 3) (.slice a2 L.length cap2) L ∧ Below n w W4 by
    have k1 := SU.out.1
    rw [hW4]
    refine ⟨⟨?_, ?_, ?_, ?_⟩, ⟨?_, ?_, ?_, ?_⟩, fun i => ?_, ?_, ?_⟩
    · iterate 3 rw [World.cell?_setCell_other _ _ _ _ (addr_ne (by omega))]
      exact k1.c0
    · iterate 3 rw [World.cell?_setCell_other _ _ _ _ (addr_ne (by omega))]
      exact k1.c1
    · iterate 3 rw [World.cell?_setCell_other _ _ _ _ (addr_ne (by omega))]
      exact k1.c2
    · iterate 3 rw [World.cell?_setCell_other _ _ _ _ (addr_ne (by omega))]
      exact k1.c3
    · iterate 3 rw [World.cell?_setCell_other _ _ _ _ (addr_ne (by omega))]
      exact o0
    · iterate 2 rw [World.cell?_setCell_other _ _ _ _ (addr_ne (by omega))]
      exact World.cell?_setCell_same _ _ _ o1
    · rw [World.cell?_setCell_other _ _ _ _ (addr_ne (by omega))]
      refine World.cell?_setCell_same _ _ _ (u := .int .i64 0) ?_
      rw [World.cell?_setCell_other _ _ _ _ (addr_ne (by omega))]
      exact o2
    · refine World.cell?_setCell_same _ _ _ (u := .int .i64 0) ?_
      iterate 2 rw [World.cell?_setCell_other _ _ _ _ (addr_ne (by omega))]
      exact o3
    · iterate 3 rw [World.frozen?_setCell]
      exact FR.out.1 i
    · exact (((SU.out.2.2.1).setFar (by omega) _ _).setFar (by omega) _ _).setFar (by omega) _ _
    · exact (((SU.out.2.2.2.1).setCell (by show n ≤ n + 1 + 1; omega) _).setCell (by show n ≤ n + 1 + 1; omega) _).setCell (by show n ≤ n + 1 + 1; omega) _)
  have HW4 := Lib.hid hW4
  clear hW4
  go_upto_region 4 with fail
  rw [← HW4.out]
  clear HW4 o0 o1 o2 o3 g1 g2 g3 SU FR
  obtain ⟨q0, q1, q2, q3⟩ := SV.out.2.1
  obtain ⟨p0, p1, p2, p3⟩ := SV.out.1
  have h0 := SV.out.2.2.1 0
  have h1 := SV.out.2.2.1 1
  have h2 := SV.out.2.2.1 2
  have h3 := SV.out.2.2.1 3
  go_wp2_with fail
  refine bodyPost_ret (v := .agg #[.slice a2 L.length cap2, .int .i64 x, .int .i64 y, .int .i64 z]) (by simp [results, Try.results48, go_sem, p0, p1, p2, p3]) rfl ⟨_, rfl, ?_, ?_⟩
  · exact (((((SV.out.2.2.2.1).setFar (by omega) _ _).setFar (by omega) _ _).setFar (by omega) _ _).setFar (by omega) _ _).base (by omega)
  · repeat (refine Below.setCell ?_ (by first | omega | (simp; done) | (simp; omega)) _)
    exact SV.out.2.2.2.2
set_option maxRecDepth 100000 in
set_option maxHeartbeats 1000000 in
theorem szGr (a : Option Addr) (n cap : Nat) (x y z : Int) (w : World) (h : (n : Int) ≤ 1048576) :
    Calls Try.prog 47 #[.agg #[.slice a n cap, .int .i64 x, .int .i64 y, .int .i64 z], .int .i64 1048576] w fun e w' => e = .returned (.int .i64 (1048576 - (n : Int))) ∧ Below w.heap.size w w' := by
  have hm : ¬ (1048576 : Int) - (n : Int) < 0 := by omega
  have HS := Lib.hid (fun w => szC_at a n cap 1048576 w (by omega) (by omega) h)
  clear h
  go_enter Try.func47, Try.ntmps47
  go_wp2_with (go_at_call 40; refine (HS.out _).mono ?_; rintro e w' ⟨rfl, rfl⟩)
  go_ret
  exact ⟨rfl, Below.alloc (Below.refl _ _) (Nat.le_refl _) _⟩
set_option maxRecDepth 100000 in
set_option maxHeartbeats 1000000 in
theorem szGr_long (a : Option Addr) (n cap : Nat) (x y z : Int) (w : World) (h : 1048576 < n) (h2 : n ≤ 9223372036854775807) :
    Calls Try.prog 47 #[.agg #[.slice a n cap, .int .i64 x, .int .i64 y, .int .i64 z], .int .i64 1048576] w fun e w' => e = .returned (.int .i64 (-1)) ∧ Below w.heap.size w w' := by
  have HS := Lib.hid (fun w => szC_over a n cap 1048576 w (by omega) (by omega) (by omega) (by omega))
  clear h h2
  go_enter Try.func47, Try.ntmps47
  go_wp2_with (go_at_call 40; refine (HS.out _).mono ?_; rintro e w' ⟨rfl, rfl⟩)
  go_ret
  exact ⟨rfl, Below.alloc (Below.refl _ _) (Nat.le_refl _) _⟩
set_option maxRecDepth 100000 in
set_option maxHeartbeats 4000000 in
theorem eqGr (v1 v2 : Value) (L : List Gt) (x y z : Int) (w : World) (h1 : Gats w v1 L) (h2 : Gats w v2 L) :
    Calls Try.prog 42 #[.agg #[v1, .int .i64 x, .int .i64 y, .int .i64 z], .agg #[v2, .int .i64 x, .int .i64 y, .int .i64 z]] w fun e w' => e = .returned (.bool true) ∧ Below w.heap.size w w' := by
  obtain ⟨n, hn⟩ : ∃ n, n = w.heap.size := ⟨_, rfl⟩
  obtain ⟨W, hW⟩ : ∃ W, W = (w.alloc (Obj.cells #[v1, .int .i64 x, .int .i64 y, .int .i64 z] 29)).alloc (Obj.cells #[v2, .int .i64 x, .int .i64 y, .int .i64 z] 29) := ⟨_, rfl⟩
  have hA : GrAt W n v1 x y z := by rw [hW, hn]; refine ⟨?_, ?_, ?_, ?_⟩ <;> simp [go_sem]
  have hO : GrAt W (n + 1) v2 x y z := by rw [hW, hn]; refine ⟨?_, ?_, ?_, ?_⟩ <;> simp [go_sem]
  have bW : Below n w W := by rw [hW, hn]; exact (by repeat (first | exact Below.refl _ _ | apply Below.drew | apply below_drewN | (refine Below.alloc ?_ (by first | omega | (simp <;> omega)) _)))
  have hsW : n + 1 < W.heap.size := by rw [hW, hn]; simp
  have HE := Lib.hid (eqC v1 v2 L W (h1.below (hn ▸ bW)) (h2.below (hn ▸ bW)))
  have HA := Lib.hid hA
  have HO := Lib.hid hO
  have HB := Lib.hid bW
  have HW := Lib.hid hW
  have a0 := hA.c0
  have o0 := hO.c0
  rw [← hn]
  clear hW h1 h2 hA hO bW
  go_enter Try.func42, Try.ntmps42
  go_wp2_with fail
  rw [← HW.out, ← hn]
  clear HW hn
  go_wp2_with fail
  refine HE.out.mono ?_
  rintro e w2 ⟨rfl, hb⟩
  obtain ⟨b0, b1, b2, b3⟩ := HA.out.below hb (by omega)
  obtain ⟨d0, d1, d2, d3⟩ := HO.out.below hb hsW
  have HB2 := Lib.hid (HB.out.trans (hb.mono (by omega)))
  have hs2 := Nat.lt_of_lt_of_le hsW hb.size
  clear hb a0 o0
  go_wp2_with fail
  refine (eqA3_is true x y z x y z (by simp) _).mono ?_
  rintro e w3 ⟨rfl, hd⟩
  have HB3 := Lib.hid (show Below n w w3 by
    obtain ⟨k, rfl⟩ := hd
    exact below_drewN (Below.alloc (Below.alloc HB2.out (by omega) _) (by simp; omega) _) _)
  clear hd
  go_wp2_with fail
  go_ret
  exact ⟨rfl, HB3.out⟩
end Go.Proofs.Ytfpjflghgmcgbaa
namespace Go.Proofs.Ytfpjflghgmcgbaa
open Go.RowKit
theorem keepGr2 {W w1 : World} {n m : Nat} {v u : Value} {x y z x' y' z' : Value} (hb : Below W.heap.size W w1) (hn : n < W.heap.size) (hm : m < W.heap.size)
    (h : W.cell? ⟨n, 0, none⟩ = some v ∧ W.cell? ⟨n, 1, none⟩ = some x ∧ W.cell? ⟨n, 2, none⟩ = some y ∧ W.cell? ⟨n, 3, none⟩ = some z ∧ W.cell? ⟨m, 0, none⟩ = some u ∧ W.cell? ⟨m, 1, none⟩ = some x' ∧ W.cell? ⟨m, 2, none⟩ = some y' ∧ W.cell? ⟨m, 3, none⟩ = some z') :
    w1.cell? ⟨n, 0, none⟩ = some v ∧ w1.cell? ⟨n, 1, none⟩ = some x ∧ w1.cell? ⟨n, 2, none⟩ = some y ∧ w1.cell? ⟨n, 3, none⟩ = some z ∧ w1.cell? ⟨m, 0, none⟩ = some u ∧ w1.cell? ⟨m, 1, none⟩ = some x' ∧ w1.cell? ⟨m, 2, none⟩ = some y' ∧ w1.cell? ⟨m, 3, none⟩ = some z' := by
  obtain ⟨a, b, c, d, e, f, g, i⟩ := h
  refine ⟨?_, ?_, ?_, ?_, ?_, ?_, ?_, ?_⟩
  · rw [hb.cell (p := ⟨n, 0, none⟩) hn]; exact a
  · rw [hb.cell (p := ⟨n, 1, none⟩) hn]; exact b
  · rw [hb.cell (p := ⟨n, 2, none⟩) hn]; exact c
  · rw [hb.cell (p := ⟨n, 3, none⟩) hn]; exact d
  · rw [hb.cell (p := ⟨m, 0, none⟩) hm]; exact e
  · rw [hb.cell (p := ⟨m, 1, none⟩) hm]; exact f
  · rw [hb.cell (p := ⟨m, 2, none⟩) hm]; exact g
  · rw [hb.cell (p := ⟨m, 3, none⟩) hm]; exact i
theorem own_slice {w : World} {B : Nat} {v : Value} {L : List Gt} (h : OwnGats w B v L) : ∃ v', v = v' ∧ ∃ a cap, v' = .slice a L.length cap := by
  obtain ⟨_, a, cap, e, _⟩ := h
  exact ⟨v, rfl, a, cap, e⟩
set_option maxRecDepth 100000 in
set_option maxHeartbeats 8000000 in
theorem xGradientValid_in (p : Int) (a : Option Addr) (L : List Gt) (c : Nat) (x y z : Int) (w : World) (h : Gats w (.slice a L.length c) L) :
    Calls Try.prog 10 #[.int .i64 p, .agg #[.slice a L.length c, .int .i64 x, .int .i64 y, .int .i64 z]] w fun e w' => e = .returned (.bool true) ∧ Below w.heap.size w w' := by
  have hl := h.1
  obtain ⟨n, hn⟩ : ∃ n, n = w.heap.size := ⟨_, rfl⟩
  obtain ⟨W, hW⟩ : ∃ W, W = w.alloc (Obj.cells #[.slice a L.length c, .int .i64 x, .int .i64 y, .int .i64 z] 73) := ⟨_, rfl⟩
  have hA : GrAt W n (.slice a L.length c) x y z := by rw [hW, hn]; refine ⟨?_, ?_, ?_, ?_⟩ <;> simp [go_sem]
  have bW : Below n w W := by rw [hW, hn]; exact (by repeat (first | exact Below.refl _ _ | apply Below.drew | apply below_drewN | (refine Below.alloc ?_ (by first | omega | (simp <;> omega)) _)))
  have hsW : n < W.heap.size := by rw [hW, hn]; simp
  have Q := Lib.hid (h.below (hn ▸ bW))
  have hm : ¬ (1048576 : Int) - (L.length : Int) < 0 := by omega
  have HS1 := Lib.hid (fun w => szGr a L.length c x y z w (by omega))
  have HA := Lib.hid hA
  have HB := Lib.hid bW
  have HW := Lib.hid hW
  have R := Lib.hid (Below.refl W.heap.size W)
  have HS := Lib.hid hsW
  have bb := bne_self2 (gvB p L x y z)
  obtain ⟨r, hr⟩ : ∃ r, r = gvB p L x y z := ⟨_, rfl⟩
  have HIM := Lib.hid (fun f w (h : Gats w f L) => hr ▸ iGrValid p f L x y z w h)
  have HSP := Lib.hid (fun f w (h : Gats w f L) => hr ▸ sGrValid p f L x y z w h)
  rw [← hr] at bb
  rw [← hn]
  obtain ⟨a0, a1, a2, a3⟩ := hA
  clear hW h bW hsW hl hr
  go_enter Try.func10, Try.ntmps10
  go_wp2_with fail
  rw [← HW.out, ← hn]
  clear HW hn
  refine (HS1.out _).mono ?_
  rintro e w1 ⟨rfl, hb⟩
  replace R := Lib.hid (R.out.trans (hb.mono R.out.size))
  obtain ⟨a0, a1, a2, a3⟩ := HA.out.below R.out HS.out
  clear hb
  go_wp2_with fail
  refine (toGr _ L x y z _ (Q.out.below R.out)).mono ?_
  rintro e w2 ⟨u1, rfl, ho, hb⟩
  replace R := Lib.hid (R.out.trans (hb.mono R.out.size))
  obtain ⟨a0, a1, a2, a3⟩ := HA.out.below R.out HS.out
  have S1 := Lib.hid ho.gats
  clear hb ho
  go_wp2_with fail
  refine (HSP.out _ _ S1.out).mono ?_
  rintro e w3 ⟨rfl, hb⟩
  replace R := Lib.hid (R.out.trans (hb.mono R.out.size))
  obtain ⟨a0, a1, a2, a3⟩ := HA.out.below R.out HS.out
  clear hb S1
  go_wp2_with fail
  refine (toGr _ L x y z _ (Q.out.below R.out)).mono ?_
  rintro e w4 ⟨u2, rfl, ho, hb⟩
  replace R := Lib.hid (R.out.trans (hb.mono R.out.size))
  obtain ⟨u2, rfl, b2, cap2, rfl⟩ := own_slice ho
  obtain ⟨m, hm4⟩ : ∃ m, m = w4.heap.size := ⟨_, rfl⟩
  have S2 := Lib.hid ho.gats
  obtain ⟨W5, hW5⟩ : ∃ W5, W5 = w4.alloc (Obj.cells #[.slice b2 L.length cap2, .int .i64 x, .int .i64 y, .int .i64 z] 29) := ⟨_, rfl⟩
  have hC : GrAt W5 m (.slice b2 L.length cap2) x y z := by rw [hW5, hm4]; refine ⟨?_, ?_, ?_, ?_⟩ <;> simp [go_sem]
  have b5 : Below w4.heap.size w4 W5 := by rw [hW5]; exact (by repeat (first | exact Below.refl _ _ | apply Below.drew | apply below_drewN | (refine Below.alloc ?_ (by first | omega | (simp <;> omega)) _)))
  have s5 : m < W5.heap.size := by rw [hW5, hm4]; simp
  replace R := Lib.hid (R.out.trans (b5.mono R.out.size))
  replace S2 := Lib.hid (S2.out.below b5)
  have HC := Lib.hid hC
  have HS5 := Lib.hid s5
  have HW5 := Lib.hid hW5
  clear hb ho hC s5 b5 hW5
  go_upto_region 7 with fail
  rw [← HW5.out, ← hm4]
  clear HW5 hm4
  obtain ⟨a0, a1, a2, a3⟩ := HA.out.below R.out HS.out
  obtain ⟨d0, d1, d2, d3⟩ := HC.out
  go_wp2_with fail
  refine (HIM.out _ _ S2.out).mono ?_
  rintro e w6 ⟨rfl, hb⟩
  replace R := Lib.hid (R.out.trans (hb.mono R.out.size))
  replace HC := Lib.hid (HC.out.below hb HS5.out)
  replace S2 := Lib.hid (S2.out.below hb)
  replace HS5 := Lib.hid (Nat.lt_of_lt_of_le HS5.out hb.size)
  obtain ⟨a0, a1, a2, a3⟩ := HA.out.below R.out HS.out
  obtain ⟨d0, d1, d2, d3⟩ := HC.out
  have hnw : n < w6.heap.size := Nat.lt_of_lt_of_le HS.out R.out.size
  have hmw : m < w6.heap.size := HS5.out
  clear hb
  go_wp2_with fail
  have HTW := Lib.hid (fun W' (h : Below w6.heap.size w6 W') => And.intro (Q.out.below (R.out.trans (h.mono R.out.size))) (S2.out.below h))
  go_region_held3 (fun w' => w'.cell? ⟨n, 0, none⟩ = some (.slice a L.length c) ∧ w'.cell? ⟨n, 1, none⟩ = some (.int .i64 x) ∧ w'.cell? ⟨n, 2, none⟩ = some (.int .i64 y) ∧ w'.cell? ⟨n, 3, none⟩ = some (.int .i64 z) ∧ w'.cell? ⟨m, 0, none⟩ = some (.slice b2 L.length cap2) ∧ w'.cell? ⟨m, 1, none⟩ = some (.int .i64 x) ∧ w'.cell? ⟨m, 2, none⟩ = some (.int .i64 y) ∧ w'.cell? ⟨m, 3, none⟩ = some (.int .i64 z)) (first | exact keepGr2 hb1 (by simpa using hnw) (by simpa using hmw) (by assumption) | exact keepGr2 hb2 (by have := hb1.size; simp at this ⊢; omega) (by have := hb1.size; simp at this ⊢; omega) (by assumption) | go_keep)
    (first
      | (go_at_call 48; refine (toGr _ L x y z _ (HTW.out _ (by repeat (first | exact Below.refl _ _ | apply Below.drew | apply below_drewN | (refine Below.alloc ?_ (by first | omega | (simp <;> omega)) _)))).1).mono ?_; rintro e w7 ⟨u7, rfl, ho7, hb1⟩)
      | (go_at_call 42; refine (eqGr _ u7 L x y z _ (HTW.out _ (by repeat (first | exact hb1 | exact Below.trans (below_drewN (Below.refl _ _) _) (hb1.mono (by simp)) | apply Below.drew | apply below_drewN))).2 (ho7.gats.below (by repeat (first | exact Below.refl _ _ | apply Below.drew | apply below_drewN)))).mono ?_; rintro e w8 ⟨rfl, hb2⟩))
  all_goals
    have HE := Lib.hid (show Below n w w8 by
      have q1 := hb1.size
      have q0 := HB.out
      have e1 : Below w6.heap.size w6 w7 := (by repeat (first | exact Below.refl _ _ | apply Below.drew | apply below_drewN) : Below w6.heap.size w6 w6.drew).trans (hb1.mono (by simp))
      have e2 : Below w6.heap.size w6 w8 := e1.trans (hb2.mono (by have := e1.size; simp at this ⊢; omega))
      exact (HB.out.trans (R.out.mono (Nat.le_of_lt HS.out))).trans (e2.mono (Nat.le_of_lt hnw)))
    clear hb1 hb2 ho7 HTW
    go_wp2_with fail
    go_ret
    exact ⟨rfl, HE.out⟩
set_option maxRecDepth 100000 in
set_option maxHeartbeats 1000000 in
theorem xGradientValid_long (p : Int) (a : Option Addr) (len c : Nat) (x y z : Int) (w : World) (h1 : 1048576 < len) (h2 : len ≤ 9223372036854775807) :
    Calls Try.prog 10 #[.int .i64 p, .agg #[.slice a len c, .int .i64 x, .int .i64 y, .int .i64 z]] w fun e w' => e = .returned (.bool true) ∧ Below w.heap.size w w' := by
  have HS1 := Lib.hid (fun w => szGr_long a len c x y z w h1 h2)
  clear h1 h2
  go_enter Try.func10, Try.ntmps10
  go_wp2_with fail
  refine (HS1.out _).mono ?_
  rintro e w' ⟨rfl, hb⟩
  have HB := Lib.hid (show Below w.heap.size w w' from (Below.alloc (Below.refl _ _) (Nat.le_refl _) _ : Below w.heap.size w _).trans (hb.mono (by simp)))
  clear hb
  go_wp2_with fail
  go_ret
  exact ⟨rfl, HB.out⟩
theorem xGradientValid (p : Int) (a : Option Addr) (len cap : Nat) (L : List Gt) (x y z : Int) (w : World) (h : RowG w a len L) :
    Calls Try.prog 10 #[.int .i64 p, .agg #[.slice a len cap, .int .i64 x, .int .i64 y, .int .i64 z]] w fun e w' => e = .returned (.bool true) ∧ Below w.heap.size w w' := by
  by_cases hl : len ≤ 1048576
  · have := h.1
    subst this
    exact xGradientValid_in p a L cap x y z w (h.gats hl)
  · exact xGradientValid_long p a len cap x y z w (by omega) h.2.1
end Go.Proofs.Ytfpjflghgmcgbaa
