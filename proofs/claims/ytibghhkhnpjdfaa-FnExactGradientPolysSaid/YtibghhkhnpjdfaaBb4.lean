/-
  The exact laws' helpers over gradients: a copy, its size, whether two are equal. Conditions: what the slices hold is known.
  What is copied for a call has no more length than capacity. Conditions: none but that the slice reads as a list of gates.
  The walk of the exact law of GradientValid. Conditions: none but that the slice reads as a list of gates.
  A gradient is marked, and its marks are read again. Conditions: that it owns its gates.
-/
import Derived.Test.YtibghhkhnpjdfaaBa28
import Derived.Test.YtibghhkhnpjdfaaBa7
import Derived.Deep.RegionHeld3
import Derived.Deep.Cut
import Derived.Test.YtibghhkhnpjdfaaBa11
namespace Go.Proofs.Ytibghhkhnpjdfaa
open Go.RowKit
theorem OwnGats.setFar {w : World} {B G : Nat} {v : Value} {L : List Gt} (h : OwnGats w B v L) (hG : G < B) (o : Nat) (u : Value) : OwnGats (w.setCell ⟨G, o, none⟩ u) B v L := by
  obtain ⟨hl, a, cap, e, h⟩ := h
  refine ⟨hl, a, cap, e, ?_⟩
  rcases h with h | ⟨g, off, e2, h1, h2, h3, h4⟩
  · exact .inl h
  · refine .inr ⟨g, off, e2, h1, by simpa using h2, fun j hj => ?_, fun i hi => ?_⟩
    · obtain ⟨c0, c1, c2⟩ := h3 j hj
      refine ⟨?_, ?_, ?_⟩
      · rw [World.cell?_setCell_other _ _ _ _ (addr_ne (by omega))]; exact c0
      · rw [World.cell?_setCell_other _ _ _ _ (addr_ne (by omega))]; exact c1
      · rw [World.cell?_setCell_other _ _ _ _ (addr_ne (by omega))]; exact c2
    · rw [World.frozen?_setCell]; exact h4 i hi
set_option maxRecDepth 100000 in
set_option maxHeartbeats 4000000 in
theorem toGr (v : Value) (L : List Gt) (x y z : Int) (w : World) (h : Gats w v L) :
    Calls Try.prog 65 #[.agg #[v, .int .i64 x, .int .i64 y, .int .i64 z]] w fun e w' => ∃ u, e = .returned (.agg #[u, .int .i64 x, .int .i64 y, .int .i64 z]) ∧ OwnGats w' w.heap.size u L ∧ Below w.heap.size w w' := by
  obtain ⟨n, hn⟩ : ∃ n, n = w.heap.size := ⟨_, rfl⟩
  obtain ⟨W, hW⟩ : ∃ W, W = ((w.alloc (Obj.cells #[v, .int .i64 x, .int .i64 y, .int .i64 z] 72)).alloc (Obj.cells #[.slice none 0 0, .int .i64 0, .int .i64 0, .int .i64 0] 78)).alloc (Obj.cells #[.slice none 0 0, .int .i64 0, .int .i64 0, .int .i64 0] 78) := ⟨_, rfl⟩
  have hA : GrAt W n v x y z := by rw [hW, hn]; refine ⟨?_, ?_, ?_, ?_⟩ <;> simp [go_sem]
  have hZ : GrAt W (n + 1) (.slice none 0 0) 0 0 0 := by rw [hW, hn]; refine ⟨?_, ?_, ?_, ?_⟩ <;> simp [go_sem]
  have hO : GrAt W (n + 1 + 1) (.slice none 0 0) 0 0 0 := by rw [hW, hn]; refine ⟨?_, ?_, ?_, ?_⟩ <;> simp [go_sem]
  have hf1 : ∀ i, W.frozen? ⟨n + 1, i, none⟩ = false := fun i => by rw [hW, hn]; simp [go_sem]
  have hf2 : ∀ i, W.frozen? ⟨n + 1 + 1, i, none⟩ = false := fun i => by rw [hW, hn]; simp [go_sem]
  have bW : Below n w W := by rw [hW, hn]; exact (by repeat (first | exact Below.refl _ _ | apply Below.drew | apply below_drewN | (refine Below.alloc ?_ (by first | omega | (simp <;> omega)) _)))
  have hsW : W.heap.size = n + 3 := by rw [hW, hn]; simp
  have HT := Lib.hid (toC v L W (h.below (hn ▸ bW)))
  have HW := Lib.hid hW
  have hlt : n + 1 + 1 < W.heap.size := by omega
  have HA := Lib.hid hA
  have HZ := Lib.hid hZ
  have HO := Lib.hid hO
  have H1 := Lib.hid hf1
  have H2 := Lib.hid hf2
  have HB := Lib.hid bW
  have HS := Lib.hid hsW
  have a0 := hA.c0
  rw [← hn]
  clear hW h hA hZ hO hf1 hf2 bW hsW
  go_enter Try.func65, Try.ntmps65
  go_wp2_with fail
  rw [← HW.out, ← hn]
  clear HW hn
  refine HT.out.mono ?_
  rintro e w2 ⟨u, rfl, ho, hb⟩
  obtain ⟨u, hu2, hu3⟩ : ∃ u', u = u' ∧ ∃ a2 cap2, u' = .slice a2 L.length cap2 := by
    obtain ⟨_, a2, cap2, hu, _⟩ := ho
    exact ⟨_, rfl, a2, cap2, hu⟩
  subst hu2
  obtain ⟨a2, cap2, rfl⟩ := hu3
  have s2 : n + 1 + 1 < w2.heap.size := Nat.lt_of_lt_of_le hlt hb.size
  have c2 := (HO.out.below hb hlt).c0
  have f2 : w2.frozen? ⟨n + 1 + 1, 0, none⟩ = false := by rw [hb.frozen (p := ⟨n + 1 + 1, 0, none⟩) hlt]; exact H2.out 0
  obtain ⟨W2, hW2⟩ : ∃ W2, W2 = w2.setCell ⟨n + 1 + 1, 0, none⟩ (.slice a2 L.length cap2) := ⟨_, rfl⟩
  have ST := Lib.hid (show GrAt W2 n v x y z ∧ GrAt W2 (n + 1) (.slice none 0 0) 0 0 0 ∧ GrAt W2 (n + 1 + 1) (.slice a2 L.length cap2) 0 0 0 ∧ (∀ i, W2.frozen? ⟨n + 1, i, none⟩ = false) ∧ (∀ i, W2.frozen? ⟨n + 1 + 1, i, none⟩ = false) ∧ OwnGats W2 (n + 3) (.slice a2 L.length cap2) L ∧ Below n w W2 ∧ n + 1 + 1 < W2.heap.size by
    have k0 := HA.out.below hb (by omega)
    have k1 := HZ.out.below hb (by omega)
    have k2 := HO.out.below hb hlt
    have o2 : OwnGats w2 (n + 3) (.slice a2 L.length cap2) L := by rw [← HS.out]; exact ho
    rw [hW2]
    refine ⟨⟨?_, ?_, ?_, ?_⟩, ⟨?_, ?_, ?_, ?_⟩, ⟨?_, ?_, ?_, ?_⟩, fun i => ?_, fun i => ?_, ?_, ?_, by simpa using s2⟩
    · rw [World.cell?_setCell_other _ _ _ _ (addr_ne (by omega))]; exact k0.c0
    · rw [World.cell?_setCell_other _ _ _ _ (addr_ne (by omega))]; exact k0.c1
    · rw [World.cell?_setCell_other _ _ _ _ (addr_ne (by omega))]; exact k0.c2
    · rw [World.cell?_setCell_other _ _ _ _ (addr_ne (by omega))]; exact k0.c3
    · rw [World.cell?_setCell_other _ _ _ _ (addr_ne (by omega))]; exact k1.c0
    · rw [World.cell?_setCell_other _ _ _ _ (addr_ne (by omega))]; exact k1.c1
    · rw [World.cell?_setCell_other _ _ _ _ (addr_ne (by omega))]; exact k1.c2
    · rw [World.cell?_setCell_other _ _ _ _ (addr_ne (by omega))]; exact k1.c3
    · exact World.cell?_setCell_same _ _ _ k2.c0
    · rw [World.cell?_setCell_other _ _ _ _ (addr_ne (by omega))]; exact k2.c1
    · rw [World.cell?_setCell_other _ _ _ _ (addr_ne (by omega))]; exact k2.c2
    · rw [World.cell?_setCell_other _ _ _ _ (addr_ne (by omega))]; exact k2.c3
    · rw [World.frozen?_setCell, hb.frozen (p := ⟨n + 1, i, none⟩) (by show n + 1 < _; omega)]; exact H1.out i
    · rw [World.frozen?_setCell, hb.frozen (p := ⟨n + 1 + 1, i, none⟩) hlt]; exact H2.out i
    · exact o2.setFar (by omega) _ _
    · exact (HB.out.trans (hb.mono (by omega))).setCell (by show n ≤ n + 1 + 1; omega) _)
  have HW2 := Lib.hid hW2
  clear hW2 hb ho HT a0
  go_upto_region 3 with fail
  rw [← HW2.out]
  obtain ⟨hA2, hZ2, hO2, hf1, hf2, hown, hB2, hlt2⟩ := ST.out
  have b1 := hA2.c1
  have b2 := hA2.c2
  have b3 := hA2.c3
  clear c2 f2 s2 HW2
  go_wp2_with fail
  refine (toA3b x y z _).mono ?_
  rintro e w3 ⟨rfl, hb⟩
  have SU := Lib.hid (And.intro (hZ2.below hb (by omega)) (And.intro (hO2.below hb hlt2) (And.intro (hown.below hb) (And.intro (hB2.trans (hb.mono (by omega))) (Nat.lt_of_lt_of_le hlt2 hb.size)))))
  have FR := Lib.hid (show (∀ i, w3.frozen? ⟨n + 1, i, none⟩ = false) ∧ (∀ i, w3.frozen? ⟨n + 1 + 1, i, none⟩ = false) from ⟨fun i => by rw [hb.frozen (p := ⟨n + 1, i, none⟩) (by show n + 1 < _; omega)]; exact hf1 i, fun i => by rw [hb.frozen (p := ⟨n + 1 + 1, i, none⟩) hlt2]; exact hf2 i⟩)
  obtain ⟨o0, o1, o2, o3⟩ := SU.out.2.1
  have g1 := FR.out.2 1
  have g2 := FR.out.2 2
  have g3 := FR.out.2 3
  clear b1 b2 b3 hA2 hZ2 hO2 hf1 hf2 hown hB2 hb ST
  obtain ⟨W4, hW4⟩ : ∃ W4, W4 = ((w3.setCell ⟨n + 1 + 1, 1, none⟩ (.int .i64 x)).setCell ⟨n + 1 + 1, 2, none⟩ (.int .i64 y)).setCell ⟨n + 1 + 1, 3, none⟩ (.int .i64 z) := ⟨_, rfl⟩
  have SV := Lib.hid (show GrAt W4 (n + 1) (.slice none 0 0) 0 0 0 ∧ GrAt W4 (n + 1 + 1) (.slice a2 L.length cap2) x y z ∧ (∀ i, W4.frozen? ⟨n + 1, i, none⟩ = false) ∧ OwnGats W4 (n + 3) (.slice a2 L.length cap2) L ∧ Below n w W4 by
    have k1 := SU.out.1
    rw [hW4]
    refine ⟨⟨?_, ?_, ?_, ?_⟩, ⟨?_, ?_, ?_, ?_⟩, fun i => ?_, ?_, ?_⟩
    · iterate 3 rw [World.cell?_setCell_other _ _ _ _ (addr_ne (by omega))]
      exact k1.c0
    · iterate 3 rw [World.cell?_setCell_other _ _ _ _ (addr_ne (by omega))]
      exact k1.c1
    · iterate 3 rw [World.cell?_setCell_other _ _ _ _ (addr_ne (by omega))]
      exact k1.c2
    · iterate 3 rw [World.cell?_setCell_other _ _ _ _ (addr_ne (by omega))]
      exact k1.c3
    · iterate 3 rw [World.cell?_setCell_other _ _ _ _ (addr_ne (by omega))]
      exact o0
    · iterate 2 rw [World.cell?_setCell_other _ _ _ _ (addr_ne (by omega))]
      exact World.cell?_setCell_same _ _ _ o1
    · rw [World.cell?_setCell_other _ _ _ _ (addr_ne (by omega))]
      refine World.cell?_setCell_same _ _ _ (u := .int .i64 0) ?_
      rw [World.cell?_setCell_other _ _ _ _ (addr_ne (by omega))]
      exact o2
    · refine World.cell?_setCell_same _ _ _ (u := .int .i64 0) ?_
      iterate 2 rw [World.cell?_setCell_other _ _ _ _ (addr_ne (by omega))]
      exact o3
    · iterate 3 rw [World.frozen?_setCell]
      exact FR.out.1 i
    · exact (((SU.out.2.2.1).setFar (by omega) _ _).setFar (by omega) _ _).setFar (by omega) _ _
    · exact (((SU.out.2.2.2.1).setCell (by show n ≤ n + 1 + 1; omega) _).setCell (by show n ≤ n + 1 + 1; omega) _).setCell (by show n ≤ n + 1 + 1; omega) _)
  have HW4 := Lib.hid hW4
  clear hW4
  go_upto_region 4 with fail
  rw [← HW4.out]
  clear HW4 o0 o1 o2 o3 g1 g2 g3 SU FR
  obtain ⟨q0, q1, q2, q3⟩ := SV.out.2.1
  obtain ⟨p0, p1, p2, p3⟩ := SV.out.1
  have h0 := SV.out.2.2.1 0
  have h1 := SV.out.2.2.1 1
  have h2 := SV.out.2.2.1 2
  have h3 := SV.out.2.2.1 3
  go_wp2_with fail
  refine bodyPost_ret (v := .agg #[.slice a2 L.length cap2, .int .i64 x, .int .i64 y, .int .i64 z]) (by simp [results, Try.results65, go_sem, p0, p1, p2, p3]) rfl ⟨_, rfl, ?_, ?_⟩
  · exact (((((SV.out.2.2.2.1).setFar (by omega) _ _).setFar (by omega) _ _).setFar (by omega) _ _).setFar (by omega) _ _).base (by omega)
  · repeat (refine Below.setCell ?_ (by first | omega | (simp; done) | (simp; omega)) _)
    exact SV.out.2.2.2.2
set_option maxRecDepth 100000 in
set_option maxHeartbeats 1000000 in
theorem szGr (a : Option Addr) (n cap : Nat) (x y z : Int) (w : World) (h : (n : Int) ≤ 1048576) :
    Calls Try.prog 63 #[.agg #[.slice a n cap, .int .i64 x, .int .i64 y, .int .i64 z], .int .i64 1048576] w fun e w' => e = .returned (.int .i64 (1048576 - (n : Int))) ∧ Below w.heap.size w w' := by
  have hm : ¬ (1048576 : Int) - (n : Int) < 0 := by omega
  have HS := Lib.hid (fun w => szC_at a n cap 1048576 w (by omega) (by omega) h)
  clear h
  go_enter Try.func63, Try.ntmps63
  go_wp2_with (go_at_call 56; refine (HS.out _).mono ?_; rintro e w' ⟨rfl, rfl⟩)
  go_ret
  exact ⟨rfl, Below.alloc (Below.refl _ _) (Nat.le_refl _) _⟩
set_option maxRecDepth 100000 in
set_option maxHeartbeats 1000000 in
theorem szGr_long (a : Option Addr) (n cap : Nat) (x y z : Int) (w : World) (h : 1048576 < n) (h2 : n ≤ 9223372036854775807) :
    Calls Try.prog 63 #[.agg #[.slice a n cap, .int .i64 x, .int .i64 y, .int .i64 z], .int .i64 1048576] w fun e w' => e = .returned (.int .i64 (-1)) ∧ Below w.heap.size w w' := by
  have HS := Lib.hid (fun w => szC_over a n cap 1048576 w (by omega) (by omega) (by omega) (by omega))
  clear h h2
  go_enter Try.func63, Try.ntmps63
  go_wp2_with (go_at_call 56; refine (HS.out _).mono ?_; rintro e w' ⟨rfl, rfl⟩)
  go_ret
  exact ⟨rfl, Below.alloc (Below.refl _ _) (Nat.le_refl _) _⟩
set_option maxRecDepth 100000 in
set_option maxHeartbeats 4000000 in
theorem eqGr (v1 v2 : Value) (L : List Gt) (x y z : Int) (w : World) (h1 : Gats w v1 L) (h2 : Gats w v2 L) :
    Calls Try.prog 68 #[.agg #[v1, .int .i64 x, .int .i64 y, .int .i64 z], .agg #[v2, .int .i64 x, .int .i64 y, .int .i64 z]] w fun e w' => e = .returned (.bool true) ∧ Below w.heap.size w w' := by
  obtain ⟨n, hn⟩ : ∃ n, n = w.heap.size := ⟨_, rfl⟩
  obtain ⟨W, hW⟩ : ∃ W, W = (w.alloc (Obj.cells #[v1, .int .i64 x, .int .i64 y, .int .i64 z] 78)).alloc (Obj.cells #[v2, .int .i64 x, .int .i64 y, .int .i64 z] 78) := ⟨_, rfl⟩
  have hA : GrAt W n v1 x y z := by rw [hW, hn]; refine ⟨?_, ?_, ?_, ?_⟩ <;> simp [go_sem]
  have hO : GrAt W (n + 1) v2 x y z := by rw [hW, hn]; refine ⟨?_, ?_, ?_, ?_⟩ <;> simp [go_sem]
  have bW : Below n w W := by rw [hW, hn]; exact (by repeat (first | exact Below.refl _ _ | apply Below.drew | apply below_drewN | (refine Below.alloc ?_ (by first | omega | (simp <;> omega)) _)))
  have hsW : n + 1 < W.heap.size := by rw [hW, hn]; simp
  have HE := Lib.hid (eqC v1 v2 L W (h1.below (hn ▸ bW)) (h2.below (hn ▸ bW)))
  have HA := Lib.hid hA
  have HO := Lib.hid hO
  have HB := Lib.hid bW
  have HW := Lib.hid hW
  have a0 := hA.c0
  have o0 := hO.c0
  rw [← hn]
  clear hW h1 h2 hA hO bW
  go_enter Try.func68, Try.ntmps68
  go_wp2_with fail
  rw [← HW.out, ← hn]
  clear HW hn
  go_wp2_with fail
  refine HE.out.mono ?_
  rintro e w2 ⟨rfl, hb⟩
  obtain ⟨b0, b1, b2, b3⟩ := HA.out.below hb (by omega)
  obtain ⟨d0, d1, d2, d3⟩ := HO.out.below hb hsW
  have HB2 := Lib.hid (HB.out.trans (hb.mono (by omega)))
  have hs2 := Nat.lt_of_lt_of_le hsW hb.size
  clear hb a0 o0
  go_wp2_with fail
  refine (eqA3_is true x y z x y z (by simp) _).mono ?_
  rintro e w3 ⟨rfl, hd⟩
  have HB3 := Lib.hid (show Below n w w3 by
    obtain ⟨k, rfl⟩ := hd
    exact below_drewN (Below.alloc (Below.alloc HB2.out (by omega) _) (by simp; omega) _) _)
  clear hd
  go_wp2_with fail
  go_ret
  exact ⟨rfl, HB3.out⟩
end Go.Proofs.Ytibghhkhnpjdfaa
namespace Go.Proofs.Ytibghhkhnpjdfaa
open Go.RowKit
/-- no more length than capacity -/
def CapOK (v : Value) : Prop := ∀ a n c, v = .slice a n c → n ≤ c
/-- a call hands back a slice of gates of its own, and it has no more length than capacity -/
def GivesGc (L : List Gt) (w : World) (e : Ending) (w' : World) : Prop :=
  ∃ v, e = .returned v ∧ CapOK v ∧ OwnGats w' w.heap.size v L ∧ Below w.heap.size w w'
set_option maxHeartbeats 2000000 in
theorem toCc_some (cap : Nat) (g off : Nat) (L : List Gt) (w : World) (hL : 0 < L.length) (hL1 : L.length ≤ 1048576) (hg : g < w.heap.size)
    (hc : ∀ j : Nat, j < L.length → GAt w g (off + j * 3) (L.getD j default)) :
    Calls Try.prog 58 #[.slice (some ⟨g, off, none⟩) L.length cap] w (GivesGc L w) := by
  obtain ⟨i0, hi, hz0, hz1, hz2⟩ := info_parts infoG
  have HC := Lib.hid hc
  clear hc
  go_enter Try.func58, Try.ntmps58
  go_wp2_with (at_make; refine wpList_make_full _ rfl _ _ 24 rfl w.heap.size 116 i0 (.agg #[.int .i64 0, .int .i64 0, .int .i64 0]) 3 Try.underlying24 hi hz0 hz1 .i64 .i64 L.length L.length L.length rfl rfl rfl rfl ?c2 ?c3 ?c4 ?_)
  case c2 => rw [hz2]; omega
  case c3 => unfold maxLen; omega
  case c4 => exact Nat.le_refl _
  intro w2 hown hgr
  have hS : BuildG L w.heap.size 0 w w2 := by
    constructor
    · intro j hj; omega
    · intro i hi
      rw [hown.cellAt i hi]
      exact made_some _ _ _ hi
    · intro i hi; exact hown.frozenAt i
    · exact (hown.lt _ rfl).2
    · exact (Below.refl _ _).grown hgr (Nat.le_refl _) (fun k hk => by cases hk)
  clear hown hgr hi hz0 hz1 hz2
  go_wp2_with fail
  go_loopw [4] (fun i wr => ∃ k : Nat, k ≤ L.length ∧ i = .int .i64 k ∧ BuildG L w.heap.size k w wr) (fun i _ => L.length - (intOf i).toNat)
  case atStart => exact ⟨0, by omega, rfl, hS⟩
  case round =>
    clear hS
    obtain ⟨k, hk, rfl, hS⟩ := hrel
    by_cases hlt : k < L.length
    · have hltp : (k : Int) < (L.length : Int) := by omega
      have hk0 : (0 : Int) ≤ (k : Int) := by omega
      have HS := Lib.hid hS
      obtain ⟨h0, h1, h2⟩ := (HC.out k hlt).below hS.low hg
      clear hS
      obtain ⟨x, hx⟩ : ∃ x, x = L.getD k default := ⟨_, rfl⟩
      rw [← hx] at h0 h1 h2
      have Hx := Lib.hid hx
      clear hx
      go_wp2_with fail
      refine (toG x.k x.a x.b _).mono ?_
      rintro e w3 ⟨rfl, hb3⟩
      have hS3 := HS.out.below hb3
      have hSt := Lib.hid (hS3.step hlt (Nat.le_refl _))
      obtain ⟨u0, c0⟩ := hS3.some (k * 3) (by omega)
      obtain ⟨u1, c1⟩ := hS3.some (k * 3 + 1) (by omega)
      obtain ⟨u2, c2⟩ := hS3.some (k * 3 + 2) (by omega)
      have f0 := hS3.froz (k * 3) (by omega)
      have f1 := hS3.froz (k * 3 + 1) (by omega)
      have f2 := hS3.froz (k * 3 + 2) (by omega)
      clear hS3 hb3 HS h0 h1 h2
      go_wp2
      go_roundw
      case rel => exact ⟨k + 1, by omega, by go_num, by have := hSt.out; rw [← Hx.out] at this; exact this⟩
      case measure => simp [intOf]; omega
    · have hkl : k = L.length := by omega
      subst hkl
      go_wp2
      go_ret
      exact ⟨_, rfl, fun _ _ _ he => by (injection he with e1 e2 e3); omega, ⟨hL1, _, _, rfl, .inr ⟨w.heap.size, 0, rfl, Nat.le_refl _, hS.sz, fun j hj => by rw [Nat.zero_add]; exact hS.done j hj, fun i hi => by rw [Nat.zero_add]; exact hS.froz i hi⟩⟩, hS.low⟩
theorem toCc_nil (a : Option Addr) (cap : Nat) (w : World) :
    Calls Try.prog 58 #[.slice a 0 cap] w (GivesGc [] w) := by
  obtain ⟨i0, hi, hz0, hz1, hz2⟩ := info_parts infoG
  go_enter Try.func58, Try.ntmps58
  go_wp2_with (at_make; refine wpList_make_full _ rfl _ _ 24 rfl w.heap.size 116 i0 (.agg #[.int .i64 0, .int .i64 0, .int .i64 0]) 3 Try.underlying24 hi hz0 hz1 .i64 .i64 0 0 0 rfl rfl rfl rfl ?c2 ?c3 ?c4 ?_)
  case c2 => omega
  case c3 => unfold maxLen; omega
  case c4 => exact Nat.le_refl _
  intro w2 hown hgr
  have hlow : Below w.heap.size w w2 := (Below.refl _ _).grown hgr (Nat.le_refl _) (fun k hk => by cases hk)
  clear hown hgr hi hz0 hz1 hz2
  go_wp2_with fail
  go_loop [4] (fun i => i = .int .i64 0) (fun _ => 0)
  case atStart => rfl
  case round =>
    obtain rfl := hrel
    go_wp2
    go_ret
    exact ⟨_, rfl, fun _ _ _ he => by (injection he with e1 e2 e3); omega, ⟨by simp, _, _, rfl, .inl rfl⟩, hlow⟩
theorem toCc (v : Value) (L : List Gt) (w : World) (h : Gats w v L) :
    Calls Try.prog 58 #[v] w (GivesGc L w) := by
  obtain ⟨h1, a, cap, rfl, h2⟩ := h
  rcases h2 with rfl | ⟨g, off, rfl, hg, hc⟩
  · exact toCc_nil a cap w
  · by_cases h0 : 0 < L.length
    · exact toCc_some cap g off L w h0 h1 hg hc
    · have : L = [] := List.length_eq_zero_iff.1 (by omega)
      subst this
      exact toCc_nil _ cap w
set_option maxRecDepth 100000 in
set_option maxHeartbeats 4000000 in
theorem toGrc (v : Value) (L : List Gt) (x y z : Int) (w : World) (h : Gats w v L) :
    Calls Try.prog 65 #[.agg #[v, .int .i64 x, .int .i64 y, .int .i64 z]] w fun e w' => ∃ u, e = .returned (.agg #[u, .int .i64 x, .int .i64 y, .int .i64 z]) ∧ CapOK u ∧ OwnGats w' w.heap.size u L ∧ Below w.heap.size w w' := by
  obtain ⟨n, hn⟩ : ∃ n, n = w.heap.size := ⟨_, rfl⟩
  obtain ⟨W, hW⟩ : ∃ W, W = ((w.alloc (Obj.cells #[v, .int .i64 x, .int .i64 y, .int .i64 z] 72)).alloc (Obj.cells #[.slice none 0 0, .int .i64 0, .int .i64 0, .int .i64 0] 78)).alloc (Obj.cells #[.slice none 0 0, .int .i64 0, .int .i64 0, .int .i64 0] 78) := ⟨_, rfl⟩
  have hA : GrAt W n v x y z := by rw [hW, hn]; refine ⟨?_, ?_, ?_, ?_⟩ <;> simp [go_sem]
  have hZ : GrAt W (n + 1) (.slice none 0 0) 0 0 0 := by rw [hW, hn]; refine ⟨?_, ?_, ?_, ?_⟩ <;> simp [go_sem]
  have hO : GrAt W (n + 1 + 1) (.slice none 0 0) 0 0 0 := by rw [hW, hn]; refine ⟨?_, ?_, ?_, ?_⟩ <;> simp [go_sem]
  have hf1 : ∀ i, W.frozen? ⟨n + 1, i, none⟩ = false := fun i => by rw [hW, hn]; simp [go_sem]
  have hf2 : ∀ i, W.frozen? ⟨n + 1 + 1, i, none⟩ = false := fun i => by rw [hW, hn]; simp [go_sem]
  have bW : Below n w W := by rw [hW, hn]; exact (by repeat (first | exact Below.refl _ _ | apply Below.drew | apply below_drewN | (refine Below.alloc ?_ (by first | omega | (simp <;> omega)) _)))
  have hsW : W.heap.size = n + 3 := by rw [hW, hn]; simp
  have HT := Lib.hid (toCc v L W (h.below (hn ▸ bW)))
  have HW := Lib.hid hW
  have hlt : n + 1 + 1 < W.heap.size := by omega
  have HA := Lib.hid hA
  have HZ := Lib.hid hZ
  have HO := Lib.hid hO
  have H1 := Lib.hid hf1
  have H2 := Lib.hid hf2
  have HB := Lib.hid bW
  have HS := Lib.hid hsW
  have a0 := hA.c0
  rw [← hn]
  clear hW h hA hZ hO hf1 hf2 bW hsW
  go_enter Try.func65, Try.ntmps65
  go_wp2_with fail
  rw [← HW.out, ← hn]
  clear HW hn
  refine HT.out.mono ?_
  rintro e w2 ⟨u, rfl, hcap, ho, hb⟩
  have HCAP := Lib.hid hcap
  clear hcap
  obtain ⟨u, hu2, hu3⟩ : ∃ u', u = u' ∧ ∃ a2 cap2, u' = .slice a2 L.length cap2 := by
    obtain ⟨_, a2, cap2, hu, _⟩ := ho
    exact ⟨_, rfl, a2, cap2, hu⟩
  subst hu2
  obtain ⟨a2, cap2, rfl⟩ := hu3
  have s2 : n + 1 + 1 < w2.heap.size := Nat.lt_of_lt_of_le hlt hb.size
  have c2 := (HO.out.below hb hlt).c0
  have f2 : w2.frozen? ⟨n + 1 + 1, 0, none⟩ = false := by rw [hb.frozen (p := ⟨n + 1 + 1, 0, none⟩) hlt]; exact H2.out 0
  obtain ⟨W2, hW2⟩ : ∃ W2, W2 = w2.setCell ⟨n + 1 + 1, 0, none⟩ (.slice a2 L.length cap2) := ⟨_, rfl⟩
  have ST := Lib.hid (show GrAt W2 n v x y z ∧ GrAt W2 (n + 1) (.slice none 0 0) 0 0 0 ∧ GrAt W2 (n + 1 + 1) (.slice a2 L.length cap2) 0 0 0 ∧ (∀ i, W2.frozen? ⟨n + 1, i, none⟩ = false) ∧ (∀ i, W2.frozen? ⟨n + 1 + 1, i, none⟩ = false) ∧ OwnGats W2 (n + 3) (.slice a2 L.length cap2) L ∧ Below n w W2 ∧ n + 1 + 1 < W2.heap.size by
    have k0 := HA.out.below hb (by omega)
    have k1 := HZ.out.below hb (by omega)
    have k2 := HO.out.below hb hlt
    have o2 : OwnGats w2 (n + 3) (.slice a2 L.length cap2) L := by rw [← HS.out]; exact ho
    rw [hW2]
    refine ⟨⟨?_, ?_, ?_, ?_⟩, ⟨?_, ?_, ?_, ?_⟩, ⟨?_, ?_, ?_, ?_⟩, fun i => ?_, fun i => ?_, ?_, ?_, by simpa using s2⟩
    · rw [World.cell?_setCell_other _ _ _ _ (addr_ne (by omega))]; exact k0.c0
    · rw [World.cell?_setCell_other _ _ _ _ (addr_ne (by omega))]; exact k0.c1
    · rw [World.cell?_setCell_other _ _ _ _ (addr_ne (by omega))]; exact k0.c2
    · rw [World.cell?_setCell_other _ _ _ _ (addr_ne (by omega))]; exact k0.c3
    · rw [World.cell?_setCell_other _ _ _ _ (addr_ne (by omega))]; exact k1.c0
    · rw [World.cell?_setCell_other _ _ _ _ (addr_ne (by omega))]; exact k1.c1
    · rw [World.cell?_setCell_other _ _ _ _ (addr_ne (by omega))]; exact k1.c2
    · rw [World.cell?_setCell_other _ _ _ _ (addr_ne (by omega))]; exact k1.c3
    · exact World.cell?_setCell_same _ _ _ k2.c0
    · rw [World.cell?_setCell_other _ _ _ _ (addr_ne (by omega))]; exact k2.c1
    · rw [World.cell?_setCell_other _ _ _ _ (addr_ne (by omega))]; exact k2.c2
    · rw [World.cell?_setCell_other _ _ _ _ (addr_ne (by omega))]; exact k2.c3
    · rw [World.frozen?_setCell, hb.frozen (p := ⟨n + 1, i, none⟩) (by show n + 1 < _; omega)]; exact H1.out i
    · rw [World.frozen?_setCell, hb.frozen (p := ⟨n + 1 + 1, i, none⟩) hlt]; exact H2.out i
    · exact o2.setFar (by omega) _ _
    · exact (HB.out.trans (hb.mono (by omega))).setCell (by show n ≤ n + 1 + 1; omega) _)
  have HW2 := Lib.hid hW2
  clear hW2 hb ho HT a0
  go_upto_region 3 with fail
  rw [← HW2.out]
  obtain ⟨hA2, hZ2, hO2, hf1, hf2, hown, hB2, hlt2⟩ := ST.out
  have b1 := hA2.c1
  have b2 := hA2.c2
  have b3 := hA2.c3
  clear c2 f2 s2 HW2
  go_wp2_with fail
  refine (toA3b x y z _).mono ?_
  rintro e w3 ⟨rfl, hb⟩
  have SU := Lib.hid (And.intro (hZ2.below hb (by omega)) (And.intro (hO2.below hb hlt2) (And.intro (hown.below hb) (And.intro (hB2.trans (hb.mono (by omega))) (Nat.lt_of_lt_of_le hlt2 hb.size)))))
  have FR := Lib.hid (show (∀ i, w3.frozen? ⟨n + 1, i, none⟩ = false) ∧ (∀ i, w3.frozen? ⟨n + 1 + 1, i, none⟩ = false) from ⟨fun i => by rw [hb.frozen (p := ⟨n + 1, i, none⟩) (by show n + 1 < _; omega)]; exact hf1 i, fun i => by rw [hb.frozen (p := ⟨n + 1 + 1, i, none⟩) hlt2]; exact hf2 i⟩)
  obtain ⟨o0, o1, o2, o3⟩ := SU.out.2.1
  have g1 := FR.out.2 1
  have g2 := FR.out.2 2
  have g3 := FR.out.2 3
  clear b1 b2 b3 hA2 hZ2 hO2 hf1 hf2 hown hB2 hb ST
  obtain ⟨W4, hW4⟩ : ∃ W4, W4 = ((w3.setCell ⟨n + 1 + 1, 1, none⟩ (.int .i64 x)).setCell ⟨n + 1 + 1, 2, none⟩ (.int .i64 y)).setCell ⟨n + 1 + 1, 3, none⟩ (.int .i64 z) := ⟨_, rfl⟩
  have SV := Lib.hid (show GrAt W4 (n + 1) (.slice none 0 0) 0 0 0 ∧ GrAt W4 (n + 1 + 1) (.slice a2 L.length cap2) x y z ∧ (∀ i, W4.frozen? ⟨n + 1, i, none⟩ = false) ∧ OwnGats W4 (n + 3) (.slice a2 L.length cap2) L ∧ Below n w W4 by
    have k1 := SU.out.1
    rw [hW4]
    refine ⟨⟨?_, ?_, ?_, ?_⟩, ⟨?_, ?_, ?_, ?_⟩, fun i => ?_, ?_, ?_⟩
    · iterate 3 rw [World.cell?_setCell_other _ _ _ _ (addr_ne (by omega))]
      exact k1.c0
    · iterate 3 rw [World.cell?_setCell_other _ _ _ _ (addr_ne (by omega))]
      exact k1.c1
    · iterate 3 rw [World.cell?_setCell_other _ _ _ _ (addr_ne (by omega))]
      exact k1.c2
    · iterate 3 rw [World.cell?_setCell_other _ _ _ _ (addr_ne (by omega))]
      exact k1.c3
    · iterate 3 rw [World.cell?_setCell_other _ _ _ _ (addr_ne (by omega))]
      exact o0
    · iterate 2 rw [World.cell?_setCell_other _ _ _ _ (addr_ne (by omega))]
      exact World.cell?_setCell_same _ _ _ o1
    · rw [World.cell?_setCell_other _ _ _ _ (addr_ne (by omega))]
      refine World.cell?_setCell_same _ _ _ (u := .int .i64 0) ?_
      rw [World.cell?_setCell_other _ _ _ _ (addr_ne (by omega))]
      exact o2
    · refine World.cell?_setCell_same _ _ _ (u := .int .i64 0) ?_
      iterate 2 rw [World.cell?_setCell_other _ _ _ _ (addr_ne (by omega))]
      exact o3
    · iterate 3 rw [World.frozen?_setCell]
      exact FR.out.1 i
    · exact (((SU.out.2.2.1).setFar (by omega) _ _).setFar (by omega) _ _).setFar (by omega) _ _
    · exact (((SU.out.2.2.2.1).setCell (by show n ≤ n + 1 + 1; omega) _).setCell (by show n ≤ n + 1 + 1; omega) _).setCell (by show n ≤ n + 1 + 1; omega) _)
  have HW4 := Lib.hid hW4
  clear hW4
  go_upto_region 4 with fail
  rw [← HW4.out]
  clear HW4 o0 o1 o2 o3 g1 g2 g3 SU FR
  obtain ⟨q0, q1, q2, q3⟩ := SV.out.2.1
  obtain ⟨p0, p1, p2, p3⟩ := SV.out.1
  have h0 := SV.out.2.2.1 0
  have h1 := SV.out.2.2.1 1
  have h2 := SV.out.2.2.1 2
  have h3 := SV.out.2.2.1 3
  go_wp2_with fail
  refine bodyPost_ret (v := .agg #[.slice a2 L.length cap2, .int .i64 x, .int .i64 y, .int .i64 z]) (by simp [results, Try.results65, go_sem, p0, p1, p2, p3]) rfl ⟨_, rfl, HCAP.out, ?_, ?_⟩
  · exact (((((SV.out.2.2.2.1).setFar (by omega) _ _).setFar (by omega) _ _).setFar (by omega) _ _).setFar (by omega) _ _).base (by omega)
  · repeat (refine Below.setCell ?_ (by first | omega | (simp; done) | (simp; omega)) _)
    exact SV.out.2.2.2.2
end Go.Proofs.Ytibghhkhnpjdfaa
namespace Go.Proofs.Ytibghhkhnpjdfaa
open Go.RowKit
theorem keepGr2 {W w1 : World} {n m : Nat} {v u : Value} {x y z x' y' z' : Value} (hb : Below W.heap.size W w1) (hn : n < W.heap.size) (hm : m < W.heap.size)
    (h : W.cell? ⟨n, 0, none⟩ = some v ∧ W.cell? ⟨n, 1, none⟩ = some x ∧ W.cell? ⟨n, 2, none⟩ = some y ∧ W.cell? ⟨n, 3, none⟩ = some z ∧ W.cell? ⟨m, 0, none⟩ = some u ∧ W.cell? ⟨m, 1, none⟩ = some x' ∧ W.cell? ⟨m, 2, none⟩ = some y' ∧ W.cell? ⟨m, 3, none⟩ = some z') :
    w1.cell? ⟨n, 0, none⟩ = some v ∧ w1.cell? ⟨n, 1, none⟩ = some x ∧ w1.cell? ⟨n, 2, none⟩ = some y ∧ w1.cell? ⟨n, 3, none⟩ = some z ∧ w1.cell? ⟨m, 0, none⟩ = some u ∧ w1.cell? ⟨m, 1, none⟩ = some x' ∧ w1.cell? ⟨m, 2, none⟩ = some y' ∧ w1.cell? ⟨m, 3, none⟩ = some z' := by
  obtain ⟨a, b, c, d, e, f, g, i⟩ := h
  refine ⟨?_, ?_, ?_, ?_, ?_, ?_, ?_, ?_⟩
  · rw [hb.cell (p := ⟨n, 0, none⟩) hn]; exact a
  · rw [hb.cell (p := ⟨n, 1, none⟩) hn]; exact b
  · rw [hb.cell (p := ⟨n, 2, none⟩) hn]; exact c
  · rw [hb.cell (p := ⟨n, 3, none⟩) hn]; exact d
  · rw [hb.cell (p := ⟨m, 0, none⟩) hm]; exact e
  · rw [hb.cell (p := ⟨m, 1, none⟩) hm]; exact f
  · rw [hb.cell (p := ⟨m, 2, none⟩) hm]; exact g
  · rw [hb.cell (p := ⟨m, 3, none⟩) hm]; exact i
theorem own_slice {w : World} {B : Nat} {v : Value} {L : List Gt} (h : OwnGats w B v L) : ∃ v', v = v' ∧ ∃ a cap, v' = .slice a L.length cap := by
  obtain ⟨_, a, cap, e, _⟩ := h
  exact ⟨v, rfl, a, cap, e⟩
end Go.Proofs.Ytibghhkhnpjdfaa
namespace Go.Proofs.Ytibghhkhnpjdfaa
open Go.RowKit
theorem GrAt.same {w w' : World} {n : Nat} {v : Value} {x y z : Int} (h : GrAt w n v x y z) (e : w'.heap[n]? = w.heap[n]?) : GrAt w' n v x y z := by
  obtain ⟨a, b, c, d⟩ := h
  exact ⟨(cell_of_heap (p := ⟨n, 0, none⟩) e).trans a, (cell_of_heap (p := ⟨n, 1, none⟩) e).trans b, (cell_of_heap (p := ⟨n, 2, none⟩) e).trans c, (cell_of_heap (p := ⟨n, 3, none⟩) e).trans d⟩
/-- gates that lie below a block, if there are any -/
def InB (v : Value) (L : List Gt) (C : Nat) : Prop := L = [] ∨ ∃ g off n cap, v = .slice (some ⟨g, off, none⟩) n cap ∧ g < C
theorem OwnGats.inB {w : World} {B : Nat} {v : Value} {L : List Gt} (h : OwnGats w B v L) : InB v L w.heap.size := by
  obtain ⟨_, a, cap, rfl, h2⟩ := h
  rcases h2 with h2 | ⟨g, off, rfl, _, hg, _⟩
  · exact .inl h2
  · exact .inr ⟨g, off, _, _, rfl, hg⟩
/-- a gradient in a box -/
def GBx (w : World) (n : Nat) (v : Value) (x y z : Int) : Prop := GrAt w n v x y z ∧ n < w.heap.size
theorem GBx.on {w w' : World} {n : Nat} {v : Value} {x y z : Int} (h : GBx w n v x y z) (hb : Below w.heap.size w w') : GBx w' n v x y z := ⟨h.1.below hb h.2, Nat.lt_of_lt_of_le h.2 hb.size⟩
theorem GBx.same {w w' : World} {n : Nat} {v : Value} {x y z : Int} (h : GBx w n v x y z) (e : w'.heap[n]? = w.heap[n]?) (hs : w.heap.size ≤ w'.heap.size) : GBx w' n v x y z := ⟨h.1.same e, Nat.lt_of_lt_of_le h.2 hs⟩
theorem GBx.new (w : World) (v : Value) (x y z : Int) (ty : TypeId) : GBx (w.alloc (Obj.cells #[v, .int .i64 x, .int .i64 y, .int .i64 z] ty)) w.heap.size v x y z := by
  refine ⟨⟨?_, ?_, ?_, ?_⟩, by simp⟩ <;> simp [go_sem]
theorem markGkeep (v : Value) (L : List Gt) (B C : Nat) (k : Int) (w : World) (h4 : OwnGats w B v L) (hC : InB v L C) (hk0 : 0 ≤ k) (hk1 : k ≤ 1000000000000) :
    Calls Try.prog 61 #[v, .int .i64 k] w fun e w' => e = .returned (.int .i64 (k + 3 * (L.length : Int))) ∧ HeldG w' B v L.length k ∧ Betw B C w w' := by
  obtain ⟨h1, a, cap, rfl, h2⟩ := h4
  have hn : L = [] → Calls Try.prog 61 #[.slice a L.length cap, .int .i64 k] w fun e w' => e = .returned (.int .i64 (k + 3 * (L.length : Int))) ∧ HeldG w' B (.slice a L.length cap) L.length k ∧ Betw B C w w' := by
    rintro rfl
    refine (markGnil a cap k w).mono ?_
    rintro e w' ⟨rfl, rfl⟩
    exact ⟨by simp, ⟨by simp, a, cap, rfl, .inl rfl⟩, rfl, rfl, rfl, rfl, fun _ _ => rfl⟩
  rcases h2 with h2 | ⟨g, off, rfl, hB, hg, hc, hf⟩
  · exact hn h2
  · rcases hC with hC | ⟨g', off', n', cap', e, hgC⟩
    · exact hn hC
    · injection e with e _ _
      injection e with e
      injection e with e _ _
      subst e
      refine (markG g off L.length cap k w h1 hk0 hk1 (fun i hi => ?_) hf).mono ?_
      · obtain ⟨t0, t1, t2⟩ := hc (i / 3) (by omega)
        have : i = i / 3 * 3 ∨ i = i / 3 * 3 + 1 ∨ i = i / 3 * 3 + 2 := by omega
        rcases this with e | e | e
        · rw [e]; exact ⟨_, t0⟩
        · rw [e, ← Nat.add_assoc]; exact ⟨_, t1⟩
        · rw [e, ← Nat.add_assoc]; exact ⟨_, t2⟩
      · rintro e w' ⟨rfl, hM⟩
        exact ⟨rfl, ⟨h1, _, cap, rfl, .inr ⟨g, off, rfl, hB, by rw [hM.size]; exact hg, hM.done⟩⟩, hM.os, hM.tape, hM.output, hM.size, fun b hb => hM.far b (by omega)⟩
set_option maxRecDepth 100000 in
set_option maxHeartbeats 4000000 in
theorem markGrad (v : Value) (L : List Gt) (x y z : Int) (B C : Nat) (k : Int) (w : World) (h4 : OwnGats w B v L) (hC : InB v L C) (hB : B ≤ w.heap.size) (hk0 : 0 ≤ k) (hk1 : k ≤ 1000000000000) :
    Calls Try.prog 69 #[.agg #[v, .int .i64 x, .int .i64 y, .int .i64 z], .int .i64 k] w fun e w' => e = .returned (.int .i64 (k + 3 * (L.length : Int))) ∧ HeldG w' B v L.length k ∧ Below B w w' ∧
      ∀ b, C ≤ b → b < w.heap.size → w'.heap[b]? = w.heap[b]? := by
  obtain ⟨n, hn⟩ : ∃ n, n = w.heap.size := ⟨_, rfl⟩
  obtain ⟨_, a, cap, rfl, _⟩ := id h4
  obtain ⟨W, hW⟩ : ∃ W, W = w.alloc (Obj.cells #[.slice a L.length cap, .int .i64 x, .int .i64 y, .int .i64 z] 78) := ⟨_, rfl⟩
  have hA : GrAt W n (.slice a L.length cap) x y z := by rw [hW, hn]; refine ⟨?_, ?_, ?_, ?_⟩ <;> simp [go_sem]
  have bW : Below n w W := by rw [hW, hn]; exact (by repeat (first | exact Below.refl _ _ | apply Below.drew | apply below_drewN | (refine Below.alloc ?_ (by first | omega | (simp <;> omega)) _)))
  have HM := Lib.hid (markGkeep _ L B C k W (h4.below (hn ▸ bW)) hC hk0 hk1)
  have HB := Lib.hid bW
  have HW := Lib.hid hW
  have HN := Lib.hid hn
  obtain ⟨a0, a1, a2, a3⟩ := hA
  clear hW bW hn h4
  go_enter Try.func69, Try.ntmps69
  go_wp2_with fail
  rw [← HW.out, ← HN.out]
  clear HW
  refine HM.out.mono ?_
  rintro e w' ⟨rfl, hh, hbt⟩
  have HH := Lib.hid (And.intro hh hbt)
  clear hh hbt a0 a1 a2 a3
  go_wp2_with fail
  go_ret
  have hn := HN.out
  refine ⟨rfl, HH.out.1, (HB.out.mono (by omega)).trans HH.out.2.low, fun b h1 h2 => ?_⟩
  exact (HH.out.2.block b (.inr h1)).trans (HB.out.block b (by omega))
end Go.Proofs.Ytibghhkhnpjdfaa
