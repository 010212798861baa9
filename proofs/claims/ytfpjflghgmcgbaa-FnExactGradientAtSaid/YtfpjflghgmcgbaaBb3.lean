/-
  The walk of the exact law of GradientAt. Conditions: none but that the slice reads as a list of gates.
-/
import Derived.Test.YtfpjflghgmcgbaaBa17
import Derived.Test.YtfpjflghgmcgbaaBb2
import Derived.Deep.CutRange
namespace Go.Proofs.Ytfpjflghgmcgbaa
open Go.RowKit
theorem keepGP {W w1 : World} {n m : Nat} {v x y z x' y' z' : Value} (hb : Below W.heap.size W w1) (hn : n < W.heap.size) (hm : m < W.heap.size)
    (h : W.cell? ⟨n, 0, none⟩ = some v ∧ W.cell? ⟨n, 1, none⟩ = some x ∧ W.cell? ⟨n, 2, none⟩ = some y ∧ W.cell? ⟨n, 3, none⟩ = some z ∧ W.cell? ⟨m, 0, none⟩ = some x' ∧ W.cell? ⟨m, 1, none⟩ = some y' ∧ W.cell? ⟨m, 2, none⟩ = some z') :
    w1.cell? ⟨n, 0, none⟩ = some v ∧ w1.cell? ⟨n, 1, none⟩ = some x ∧ w1.cell? ⟨n, 2, none⟩ = some y ∧ w1.cell? ⟨n, 3, none⟩ = some z ∧ w1.cell? ⟨m, 0, none⟩ = some x' ∧ w1.cell? ⟨m, 1, none⟩ = some y' ∧ w1.cell? ⟨m, 2, none⟩ = some z' := by
  obtain ⟨a, b, c, d, e, f, g⟩ := h
  refine ⟨?_, ?_, ?_, ?_, ?_, ?_, ?_⟩
  · rw [hb.cell (p := ⟨n, 0, none⟩) hn]; exact a
  · rw [hb.cell (p := ⟨n, 1, none⟩) hn]; exact b
  · rw [hb.cell (p := ⟨n, 2, none⟩) hn]; exact c
  · rw [hb.cell (p := ⟨n, 3, none⟩) hn]; exact d
  · rw [hb.cell (p := ⟨m, 0, none⟩) hm]; exact e
  · rw [hb.cell (p := ⟨m, 1, none⟩) hm]; exact f
  · rw [hb.cell (p := ⟨m, 2, none⟩) hm]; exact g
theorem cell_alloc2 {W : World} {A B : Obj} {n i : Nat} (hn : n < W.heap.size) : (W.alloc B).cell? ⟨n, i, none⟩ = (W.alloc A).cell? ⟨n, i, none⟩ := by
  rw [(Below.alloc (Below.refl W.heap.size W) (Nat.le_refl _) B).cell (p := ⟨n, i, none⟩) hn, (Below.alloc (Below.refl W.heap.size W) (Nat.le_refl _) A).cell (p := ⟨n, i, none⟩) hn]
theorem keepGPa {W : World} {A B : Obj} {n m : Nat} {v x y z x' y' z' : Value} (hn : n < W.heap.size) (hm : m < W.heap.size)
    (h : (W.alloc A).cell? ⟨n, 0, none⟩ = some v ∧ (W.alloc A).cell? ⟨n, 1, none⟩ = some x ∧ (W.alloc A).cell? ⟨n, 2, none⟩ = some y ∧ (W.alloc A).cell? ⟨n, 3, none⟩ = some z ∧ (W.alloc A).cell? ⟨m, 0, none⟩ = some x' ∧ (W.alloc A).cell? ⟨m, 1, none⟩ = some y' ∧ (W.alloc A).cell? ⟨m, 2, none⟩ = some z') :
    (W.alloc B).cell? ⟨n, 0, none⟩ = some v ∧ (W.alloc B).cell? ⟨n, 1, none⟩ = some x ∧ (W.alloc B).cell? ⟨n, 2, none⟩ = some y ∧ (W.alloc B).cell? ⟨n, 3, none⟩ = some z ∧ (W.alloc B).cell? ⟨m, 0, none⟩ = some x' ∧ (W.alloc B).cell? ⟨m, 1, none⟩ = some y' ∧ (W.alloc B).cell? ⟨m, 2, none⟩ = some z' := by
  rw [cell_alloc2 (A := A) (B := B) hn, cell_alloc2 (A := A) (B := B) hn, cell_alloc2 (A := A) (B := B) hn, cell_alloc2 (A := A) (B := B) hn, cell_alloc2 (A := A) (B := B) hm, cell_alloc2 (A := A) (B := B) hm, cell_alloc2 (A := A) (B := B) hm]
  exact h
theorem keepGPs {W : World} {q n m : Nat} {r0 r1 r2 : Value} {v x y z x' y' z' : Value} (hn : n ≠ q) (hm : m ≠ q)
    (h : W.cell? ⟨n, 0, none⟩ = some v ∧ W.cell? ⟨n, 1, none⟩ = some x ∧ W.cell? ⟨n, 2, none⟩ = some y ∧ W.cell? ⟨n, 3, none⟩ = some z ∧ W.cell? ⟨m, 0, none⟩ = some x' ∧ W.cell? ⟨m, 1, none⟩ = some y' ∧ W.cell? ⟨m, 2, none⟩ = some z') :
    (((W.setCell ⟨q, 0, none⟩ r0).setCell ⟨q, 1, none⟩ r1).setCell ⟨q, 2, none⟩ r2).cell? ⟨n, 0, none⟩ = some v ∧ (((W.setCell ⟨q, 0, none⟩ r0).setCell ⟨q, 1, none⟩ r1).setCell ⟨q, 2, none⟩ r2).cell? ⟨n, 1, none⟩ = some x ∧ (((W.setCell ⟨q, 0, none⟩ r0).setCell ⟨q, 1, none⟩ r1).setCell ⟨q, 2, none⟩ r2).cell? ⟨n, 2, none⟩ = some y ∧ (((W.setCell ⟨q, 0, none⟩ r0).setCell ⟨q, 1, none⟩ r1).setCell ⟨q, 2, none⟩ r2).cell? ⟨n, 3, none⟩ = some z ∧ (((W.setCell ⟨q, 0, none⟩ r0).setCell ⟨q, 1, none⟩ r1).setCell ⟨q, 2, none⟩ r2).cell? ⟨m, 0, none⟩ = some x' ∧ (((W.setCell ⟨q, 0, none⟩ r0).setCell ⟨q, 1, none⟩ r1).setCell ⟨q, 2, none⟩ r2).cell? ⟨m, 1, none⟩ = some y' ∧ (((W.setCell ⟨q, 0, none⟩ r0).setCell ⟨q, 1, none⟩ r1).setCell ⟨q, 2, none⟩ r2).cell? ⟨m, 2, none⟩ = some z' := by
  have far : ∀ b i : Nat, b ≠ q → (((W.setCell ⟨q, 0, none⟩ r0).setCell ⟨q, 1, none⟩ r1).setCell ⟨q, 2, none⟩ r2).cell? ⟨b, i, none⟩ = W.cell? ⟨b, i, none⟩ := fun b i hb => by
    rw [World.cell?_setCell_other _ _ _ _ (addr_ne (by omega)), World.cell?_setCell_other _ _ _ _ (addr_ne (by omega)), World.cell?_setCell_other _ _ _ _ (addr_ne (by omega))]
  rw [far n 0 hn, far n 1 hn, far n 2 hn, far n 3 hn, far m 0 hm, far m 1 hm, far m 2 hm]
  exact h
/-- a new block of three zeros -/
structure Zr (w : World) (q : Nat) : Prop where
  c0 : w.cell? ⟨q, 0, none⟩ = some (.int .i64 0)
  c1 : w.cell? ⟨q, 1, none⟩ = some (.int .i64 0)
  c2 : w.cell? ⟨q, 2, none⟩ = some (.int .i64 0)
  f : ∀ i, w.frozen? ⟨q, i, none⟩ = false
  lt : q < w.heap.size
theorem Zr.new (w : World) : Zr (w.alloc (Obj.cells #[.int .i64 0, .int .i64 0, .int .i64 0] 27)) w.heap.size :=
  ⟨by simp [go_sem], by simp [go_sem], by simp [go_sem], fun i => World.frozen?_alloc_at _ _ _ i rfl, by simp⟩
theorem Zr.newd (w : World) : Zr (w.drew.alloc (Obj.cells #[.int .i64 0, .int .i64 0, .int .i64 0] 27)) w.heap.size := Zr.new w.drew
theorem Zr.below {w w' : World} {q : Nat} (h : Zr w q) (hb : Below w.heap.size w w') : Zr w' q :=
  ⟨by rw [hb.cell (p := ⟨q, 0, none⟩) h.lt]; exact h.c0, by rw [hb.cell (p := ⟨q, 1, none⟩) h.lt]; exact h.c1, by rw [hb.cell (p := ⟨q, 2, none⟩) h.lt]; exact h.c2, fun i => by rw [hb.frozen (p := ⟨q, i, none⟩) h.lt]; exact h.f i, Nat.lt_of_lt_of_le h.lt hb.size⟩
theorem Zr.put {w : World} {q : Nat} (h : Zr w q) (r0 r1 r2 : Int) : PtAt (((w.setCell ⟨q, 0, none⟩ (.int .i64 r0)).setCell ⟨q, 1, none⟩ (.int .i64 r1)).setCell ⟨q, 2, none⟩ (.int .i64 r2)) q r0 r1 r2 := by
  refine ⟨?_, ?_, ?_⟩
  · rw [World.cell?_setCell_other _ _ _ _ (addr_ne (by omega)), World.cell?_setCell_other _ _ _ _ (addr_ne (by omega))]
    exact World.cell?_setCell_same _ _ _ h.c0
  · rw [World.cell?_setCell_other _ _ _ _ (addr_ne (by omega))]
    refine World.cell?_setCell_same _ _ _ (u := .int .i64 0) ?_
    rw [World.cell?_setCell_other _ _ _ _ (addr_ne (by omega))]
    exact h.c1
  · refine World.cell?_setCell_same _ _ _ (u := .int .i64 0) ?_
    rw [World.cell?_setCell_other _ _ _ _ (addr_ne (by omega)), World.cell?_setCell_other _ _ _ _ (addr_ne (by omega))]
    exact h.c2
set_option maxRecDepth 100000 in
set_option maxHeartbeats 16000000 in
theorem xGradientAt_in (p : Int) (a : Option Addr) (L : List Gt) (c : Nat) (x y z u v t : Int) (w : World) (h : Gats w (.slice a L.length c) L) :
    Calls Try.prog 9 #[.int .i64 p, .agg #[.slice a L.length c, .int .i64 x, .int .i64 y, .int .i64 z], .agg #[.int .i64 u, .int .i64 v, .int .i64 t]] w fun e w' => e = .returned (.bool true) ∧ Below w.heap.size w w' := by
  have hl := h.1
  obtain ⟨n, hn⟩ : ∃ n, n = w.heap.size := ⟨_, rfl⟩
  obtain ⟨W, hW⟩ : ∃ W, W = (w.alloc (Obj.cells #[.slice a L.length c, .int .i64 x, .int .i64 y, .int .i64 z] 73)).alloc (Obj.cells #[.int .i64 u, .int .i64 v, .int .i64 t] 27) := ⟨_, rfl⟩
  have hA : GrAt W n (.slice a L.length c) x y z := by rw [hW, hn]; refine ⟨?_, ?_, ?_, ?_⟩ <;> simp [go_sem]
  have hP : PtAt W (n + 1) u v t := by rw [hW, hn]; refine ⟨?_, ?_, ?_⟩ <;> simp [go_sem]
  have bW : Below n w W := by rw [hW, hn]; exact (by repeat (first | exact Below.refl _ _ | apply Below.drew | apply below_drewN | (refine Below.alloc ?_ (by first | omega | (simp <;> omega)) _)))
  have hsW : n + 1 < W.heap.size := by rw [hW, hn]; simp
  have Q := Lib.hid (h.below (hn ▸ bW))
  have hm : ¬ (1048576 : Int) - (L.length : Int) < 0 := by omega
  have HS1 := Lib.hid (fun w => szGr a L.length c x y z w (by omega))
  have HA := Lib.hid hA
  have HP := Lib.hid hP
  have HB := Lib.hid bW
  have HW := Lib.hid hW
  have R := Lib.hid (Below.refl W.heap.size W)
  have HS := Lib.hid hsW
  have bb := bne_self2 (gaB p L x y z u v t)
  obtain ⟨r, hr⟩ : ∃ r, r = gaB p L x y z u v t := ⟨_, rfl⟩
  obtain ⟨rx, hrx⟩ : ∃ r, r = gaV p L x y z u v t x := ⟨_, rfl⟩
  obtain ⟨ry, hry⟩ : ∃ r, r = gaV p L x y z u v t y := ⟨_, rfl⟩
  obtain ⟨rz, hrz⟩ : ∃ r, r = gaV p L x y z u v t z := ⟨_, rfl⟩
  have HIM := Lib.hid (fun f w (h : Gats w f L) => hrz ▸ hry ▸ hrx ▸ hr ▸ iGrAt p f L x y z u v t w h)
  have HSP := Lib.hid (fun f w (h : Gats w f L) => hrz ▸ hry ▸ hrx ▸ hr ▸ sGrAt p f L x y z u v t w h)
  rw [← hr] at bb
  rw [← hn]
  have HE3 := Lib.hid (show (rx == rx && ry == ry && rz == rz) = true by simp)
  obtain ⟨a0, a1, a2, a3⟩ := hA
  clear hW h bW hsW hl hr hrx hry hrz hP
  go_enter Try.func9, Try.ntmps9
  go_wp2_with fail
  rw [← HW.out, ← hn]
  clear HW hn
  refine (HS1.out _).mono ?_
  rintro e w1 ⟨rfl, hb⟩
  replace R := Lib.hid (R.out.trans (hb.mono R.out.size))
  clear hb a0 a1 a2 a3
  obtain ⟨a0, a1, a2, a3⟩ := HA.out.below R.out (by have := HS.out; omega)
  obtain ⟨p0, p1, p2⟩ := HP.out.below R.out HS.out
  have hn1 : n < w1.heap.size := by have := HS.out; have := R.out.size; omega
  have hn2 : n + 1 < w1.heap.size := by have := HS.out; have := R.out.size; omega
  go_upto_region 5 with fail
  go_cut [8, 9] from 18 to 26 (fun s8 s9 w' => ∃ q : Nat, s8 = .pointer (some ⟨q, 0, none⟩) ∧ s9 = .bool r ∧ w1.heap.size ≤ q ∧ PtAt w' q rx ry rz ∧ q < w'.heap.size ∧ Below w1.heap.size w1 w')
  case first =>
    have HTW := Lib.hid (fun W' (h : Below w1.heap.size w1 W') => Q.out.below (R.out.trans (h.mono R.out.size)))
    go_region_held3 (fun w' => w'.cell? ⟨n, 0, none⟩ = some (.slice a L.length c) ∧ w'.cell? ⟨n, 1, none⟩ = some (.int .i64 x) ∧ w'.cell? ⟨n, 2, none⟩ = some (.int .i64 y) ∧ w'.cell? ⟨n, 3, none⟩ = some (.int .i64 z) ∧ w'.cell? ⟨n + 1, 0, none⟩ = some (.int .i64 u) ∧ w'.cell? ⟨n + 1, 1, none⟩ = some (.int .i64 v) ∧ w'.cell? ⟨n + 1, 2, none⟩ = some (.int .i64 t)) (first | (with_reducible refine keepGP hb3 ?_ ?_ (by assumption); all_goals (have hs1 := hb1.size; have hs2 := hb2.size; (try simp at hs1); (try simp at hs2); first | omega | (simp; omega))) | (with_reducible refine keepGP hb2 ?_ ?_ (by assumption); all_goals (have hs1 := hb1.size; (try simp at hs1); first | omega | (simp; omega))) | (with_reducible refine keepGP hb1 ?_ ?_ (by assumption); all_goals first | omega | (simp; omega)) | (with_reducible refine keepGPs ?_ ?_ (by assumption); all_goals (have hs1 := hb1.size; have hs2 := hb2.size; have hs3 := hb3.size; (try simp at hs1); (try simp at hs2); (try simp at hs3); first | omega | (simp; omega))) | (with_reducible refine keepGPa ?_ ?_ (by assumption); all_goals (have hs1 := hb1.size; have hs2 := hb2.size; have hs3 := hb3.size; (try simp at hs1); (try simp at hs2); (try simp at hs3); first | omega | (simp; omega))) | go_keep)
      (first
        | (go_at_call 48; refine (toGr _ L x y z _ (HTW.out _ (by repeat (first | exact Below.refl _ _ | apply Below.drew | apply below_drewN | (refine Below.alloc ?_ (by simp) _))))).mono ?_; rintro e w2 ⟨u2, rfl, ho2, hb1⟩; (try have z2 := Lib.hid ((Zr.newd _).below hb1)))
        | (go_at_call 52; refine (toA3b u v t _).mono ?_; rintro e w3 ⟨rfl, hb2⟩; (try have z3 := Lib.hid (z2.out.below hb2)); (try have z3 := Lib.hid ((Zr.new w2).below hb2)))
        | (go_at_call 34; refine (HSP.out u2 _ (ho2.gats.below (by first | exact hb2 | exact Below.alloc hb2 hb2.size _ | exact (Below.alloc (Below.refl _ _) (Nat.le_refl _) _).trans (hb2.mono (by simp))))).mono ?_; rintro e w4 ⟨rfl, hb3⟩; (try have z4 := Lib.hid (z3.out.below hb3)); (try have z4 := Lib.hid ((Zr.new w3).below hb3)); (try obtain ⟨k0, k1, k2, kf, kl⟩ := z4.out); (try (have kf0 := kf 0; have kf1 := kf 1; have kf2 := kf 2; clear kf))))
    all_goals
      have e1 : Below w1.heap.size w1 w2 := by first | exact (Below.drew (Below.refl _ _)).trans (hb1.mono (by simp)) | exact (Below.alloc (Below.drew (Below.refl _ _)) (by simp) _).trans (hb1.mono (by simp))
      have e2 : Below w1.heap.size w1 w3 := by first | exact e1.trans (hb2.mono e1.size) | exact (Below.alloc e1 e1.size _).trans (hb2.mono (by have := e1.size; simp; omega))
      have e3 : Below w1.heap.size w1 w4 := by first | exact e2.trans (hb3.mono e2.size) | exact (Below.alloc e2 e2.size _).trans (hb3.mono (by have := e2.size; simp; omega))
      have hq1 := e1.size
      have hq2 := e2.size
      have hq3 := e3.size
      have HE := Lib.hid e3
      clear hb1 hb2 hb3 e1 e2 e3 ho2
      go_wp2_with fail
      go_meet
      case rel => first
        | exact ⟨_, rfl, rfl, hq3, ⟨by simp [go_sem], by simp [go_sem], by simp [go_sem]⟩, by simp, Below.alloc HE.out hq3 _⟩
        | exact ⟨_, rfl, rfl, by omega, z4.out.put _ _ _, by simpa using z4.out.lt, ((HE.out.setCell (by first | omega | (simp; done) | (simp; omega)) _).setCell (by first | omega | (simp; done) | (simp; omega)) _).setCell (by first | omega | (simp; done) | (simp; omega)) _⟩
  case rest =>
    obtain ⟨qa, rfl, rfl, hqa, hpa, hla, hbc⟩ := hcut
    replace R := Lib.hid (R.out.trans (hbc.mono R.out.size))
    have HPA := Lib.hid hpa
    have HLA := Lib.hid hla
    clear hqa hpa hla hbc a0 a1 a2 a3 p0 p1 p2 hn1 hn2
    have hnc : n < wc.heap.size := by have := HS.out; have := R.out.size; omega
    obtain ⟨a0, a1, a2, a3⟩ := HA.out.below R.out (by have := HS.out; omega)
    go_wp2_with fail
    refine (toGr _ L x y z _ (Q.out.below R.out)).mono ?_
    rintro e w5 ⟨u5, rfl, ho, hb⟩
    replace R := Lib.hid (R.out.trans (hb.mono R.out.size))
    obtain ⟨u5, rfl, b5, cap5, rfl⟩ := own_slice ho
    obtain ⟨m, hm5⟩ : ∃ m, m = w5.heap.size := ⟨_, rfl⟩
    have S5 := Lib.hid ho.gats
    replace HPA := Lib.hid (HPA.out.below hb HLA.out)
    replace HLA := Lib.hid (Nat.lt_of_lt_of_le HLA.out hb.size)
    obtain ⟨W6, hW6⟩ : ∃ W6, W6 = w5.alloc (Obj.cells #[.slice b5 L.length cap5, .int .i64 x, .int .i64 y, .int .i64 z] 29) := ⟨_, rfl⟩
    have hC : GrAt W6 m (.slice b5 L.length cap5) x y z := by rw [hW6, hm5]; refine ⟨?_, ?_, ?_, ?_⟩ <;> simp [go_sem]
    have b6 : Below w5.heap.size w5 W6 := by rw [hW6]; exact (by repeat (first | exact Below.refl _ _ | apply Below.drew | apply below_drewN | (refine Below.alloc ?_ (by first | omega | (simp <;> omega)) _)))
    have s6 : m < W6.heap.size := by rw [hW6, hm5]; simp
    replace R := Lib.hid (R.out.trans (b6.mono R.out.size))
    replace S5 := Lib.hid (S5.out.below b6)
    replace HPA := Lib.hid (HPA.out.below b6 HLA.out)
    replace HLA := Lib.hid (Nat.lt_of_lt_of_le HLA.out b6.size)
    have HC := Lib.hid hC
    have HS6 := Lib.hid s6
    have HW6 := Lib.hid hW6
    clear hb ho hC s6 b6 hW6 a0 a1 a2 a3
    go_upto_region 7 with fail
    rw [← HW6.out, ← hm5]
    clear HW6 hm5 hnc
    obtain ⟨a0, a1, a2, a3⟩ := HC.out
    obtain ⟨p0, p1, p2⟩ := HP.out.below R.out HS.out
    have hn1 : m < W6.heap.size := HS6.out
    have hn2 : n + 1 < W6.heap.size := by have := HS.out; have := R.out.size; omega
    have HTW := Lib.hid (fun W' (h : Below W6.heap.size W6 W') => S5.out.below h)
    go_cut [11, 12] from 29 to 36 (fun s8 s9 w' => ∃ q : Nat, s8 = .pointer (some ⟨q, 0, none⟩) ∧ s9 = .bool r ∧ W6.heap.size ≤ q ∧ PtAt w' q rx ry rz ∧ q < w'.heap.size ∧ Below W6.heap.size W6 w')
    case first =>
      go_region_held3 (fun w' => w'.cell? ⟨m, 0, none⟩ = some (.slice b5 L.length cap5) ∧ w'.cell? ⟨m, 1, none⟩ = some (.int .i64 x) ∧ w'.cell? ⟨m, 2, none⟩ = some (.int .i64 y) ∧ w'.cell? ⟨m, 3, none⟩ = some (.int .i64 z) ∧ w'.cell? ⟨n + 1, 0, none⟩ = some (.int .i64 u) ∧ w'.cell? ⟨n + 1, 1, none⟩ = some (.int .i64 v) ∧ w'.cell? ⟨n + 1, 2, none⟩ = some (.int .i64 t)) (first | (with_reducible refine keepGP hb3 ?_ ?_ (by assumption); all_goals (have hs2 := hb2.size; (try simp at hs2); first | omega | (simp; omega))) | (with_reducible refine keepGP hb2 ?_ ?_ (by assumption); all_goals first | omega | (simp; omega)) | (with_reducible refine keepGPs ?_ ?_ (by assumption); all_goals (have hs2 := hb2.size; have hs3 := hb3.size; (try simp at hs2); (try simp at hs3); first | omega | (simp; omega))) | (with_reducible refine keepGPa ?_ ?_ (by assumption); all_goals (have hs2 := hb2.size; have hs3 := hb3.size; (try simp at hs2); (try simp at hs3); first | omega | (simp; omega))) | go_keep)
        (first
          | (go_at_call 52; refine (toA3b u v t _).mono ?_; rintro e w3 ⟨rfl, hb2⟩; (try have z3 := Lib.hid ((Zr.newd _).below hb2)); have e2 : Below W6.heap.size W6 w3 := (by first | exact (Below.drew (Below.refl _ _)).trans (hb2.mono (by simp)) | exact (Below.alloc (Below.drew (Below.refl _ _)) (by simp) _).trans (hb2.mono (by simp))))
          | (go_at_call 27; refine (HIM.out _ _ (HTW.out _ (by first | exact e2 | exact Below.alloc e2 e2.size _))).mono ?_; rintro e w4 ⟨rfl, hb3⟩; (try have z4 := Lib.hid (z3.out.below hb3)); (try have z4 := Lib.hid ((Zr.new w3).below hb3)); (try obtain ⟨k0, k1, k2, kf, kl⟩ := z4.out); (try (have kf0 := kf 0; have kf1 := kf 1; have kf2 := kf 2; clear kf))))
      all_goals
        have e3 : Below W6.heap.size W6 w4 := by first | exact e2.trans (hb3.mono e2.size) | exact (Below.alloc e2 e2.size _).trans (hb3.mono (by have := e2.size; simp; omega))
        have hq2 := e2.size
        have hq3 := e3.size
        have HE := Lib.hid e3
        clear hb2 hb3 e2 e3
        go_wp2_with fail
        go_meet
        case rel => first
          | exact ⟨_, rfl, rfl, hq3, ⟨by simp [go_sem], by simp [go_sem], by simp [go_sem]⟩, by simp, Below.alloc HE.out hq3 _⟩
          | exact ⟨_, rfl, rfl, by omega, z4.out.put _ _ _, by simpa using z4.out.lt, ((HE.out.setCell (by first | omega | (simp; done) | (simp; omega)) _).setCell (by first | omega | (simp; done) | (simp; omega)) _).setCell (by first | omega | (simp; done) | (simp; omega)) _⟩
    case rest =>
      obtain ⟨qb, rfl, rfl, hqb, hpb, hlb, hbc2⟩ := hcut
      replace R := Lib.hid (R.out.trans (hbc2.mono R.out.size))
      replace HPA := Lib.hid (HPA.out.below hbc2 HLA.out)
      replace HC := Lib.hid (HC.out.below hbc2 HS6.out)
      replace S5 := Lib.hid (S5.out.below hbc2)
      replace HS6 := Lib.hid (Nat.lt_of_lt_of_le HS6.out hbc2.size)
      obtain ⟨d0, d1, d2⟩ := hpb
      obtain ⟨f0, f1, f2⟩ := HPA.out
      clear hqb hlb hbc2 HTW a0 a1 a2 a3 p0 p1 p2 hn1 hn2
      go_wp2_with fail
      refine (eqA3_is true rx ry rz rx ry rz HE3.out _).mono ?_
      rintro e w9 ⟨rfl, hd⟩
      have hb9 : Below wc.heap.size wc w9 := by
        obtain ⟨k, rfl⟩ := hd
        exact below_drewN (Below.alloc (Below.alloc (Below.refl _ _) (Nat.le_refl _) _) (by simp) _) _
      replace R := Lib.hid (R.out.trans (hb9.mono R.out.size))
      replace HC := Lib.hid (HC.out.below hb9 HS6.out)
      replace S5 := Lib.hid (S5.out.below hb9)
      replace HS6 := Lib.hid (Nat.lt_of_lt_of_le HS6.out hb9.size)
      obtain ⟨a0, a1, a2, a3⟩ := HA.out.below R.out (by have := HS.out; omega)
      obtain ⟨e0, e1, e2, e3⟩ := HC.out
      have hnw : n < w9.heap.size := by have := HS.out; have := R.out.size; omega
      have hmw : m < w9.heap.size := HS6.out
      clear hd hb9 d0 d1 d2 f0 f1 f2
      go_wp2_with fail
      have HTW := Lib.hid (fun W' (h : Below w9.heap.size w9 W') => And.intro (Q.out.below (R.out.trans (h.mono R.out.size))) (S5.out.below h))
      go_region_held3 (fun w' => w'.cell? ⟨n, 0, none⟩ = some (.slice a L.length c) ∧ w'.cell? ⟨n, 1, none⟩ = some (.int .i64 x) ∧ w'.cell? ⟨n, 2, none⟩ = some (.int .i64 y) ∧ w'.cell? ⟨n, 3, none⟩ = some (.int .i64 z) ∧ w'.cell? ⟨m, 0, none⟩ = some (.slice b5 L.length cap5) ∧ w'.cell? ⟨m, 1, none⟩ = some (.int .i64 x) ∧ w'.cell? ⟨m, 2, none⟩ = some (.int .i64 y) ∧ w'.cell? ⟨m, 3, none⟩ = some (.int .i64 z)) (first | (with_reducible refine keepGr2 hb2 ?_ ?_ (by assumption); all_goals (have hs1 := hb1.size; (try simp at hs1); first | omega | (simp; omega))) | (with_reducible refine keepGr2 hb1 ?_ ?_ (by assumption); all_goals first | omega | (simp; omega)) | go_keep)
        (first
          | (go_at_call 48; refine (toGr _ L x y z _ (HTW.out _ (by repeat (first | exact Below.refl _ _ | apply Below.drew | apply below_drewN | (refine Below.alloc ?_ (by first | omega | (simp <;> omega)) _)))).1).mono ?_; rintro e w10 ⟨u10, rfl, ho10, hb1⟩)
          | (go_at_call 42; refine (eqGr _ u10 L x y z _ (HTW.out _ (by repeat (first | exact hb1 | exact Below.trans (below_drewN (Below.refl _ _) _) (hb1.mono (by simp)) | apply Below.drew | apply below_drewN))).2 (ho10.gats.below (by repeat (first | exact Below.refl _ _ | apply Below.drew | apply below_drewN)))).mono ?_; rintro e w11 ⟨rfl, hb2⟩))
      all_goals
        have HE := Lib.hid (show Below n w w11 by
          have q1 := hb1.size
          have e1 : Below w9.heap.size w9 w10 := (by repeat (first | exact Below.refl _ _ | apply Below.drew | apply below_drewN) : Below w9.heap.size w9 w9.drew).trans (hb1.mono (by simp))
          have e2 : Below w9.heap.size w9 w11 := e1.trans (hb2.mono (by have := e1.size; simp at this ⊢; omega))
          exact (HB.out.trans (R.out.mono (by have := HS.out; omega))).trans (e2.mono (Nat.le_of_lt hnw)))
        clear hb1 hb2 ho10 HTW
        go_wp2_with fail
        go_ret
        exact ⟨rfl, HE.out⟩
set_option maxRecDepth 100000 in
set_option maxHeartbeats 1000000 in
theorem xGradientAt_long (p : Int) (a : Option Addr) (len c : Nat) (x y z u v t : Int) (w : World) (h1 : 1048576 < len) (h2 : len ≤ 9223372036854775807) :
    Calls Try.prog 9 #[.int .i64 p, .agg #[.slice a len c, .int .i64 x, .int .i64 y, .int .i64 z], .agg #[.int .i64 u, .int .i64 v, .int .i64 t]] w fun e w' => e = .returned (.bool true) ∧ Below w.heap.size w w' := by
  have HS1 := Lib.hid (fun w => szGr_long a len c x y z w h1 h2)
  clear h1 h2
  go_enter Try.func9, Try.ntmps9
  go_wp2_with fail
  refine (HS1.out _).mono ?_
  rintro e w' ⟨rfl, hb⟩
  have HB := Lib.hid (show Below w.heap.size w w' from (Below.alloc (Below.alloc (Below.refl _ _) (Nat.le_refl _) _) (by simp) _ : Below w.heap.size w _).trans (hb.mono (by simp; omega)))
  clear hb
  go_wp2_with fail
  go_ret
  exact ⟨rfl, HB.out⟩
theorem xGradientAt (p : Int) (a : Option Addr) (len cap : Nat) (L : List Gt) (x y z u v t : Int) (w : World) (h : RowG w a len L) :
    Calls Try.prog 9 #[.int .i64 p, .agg #[.slice a len cap, .int .i64 x, .int .i64 y, .int .i64 z], .agg #[.int .i64 u, .int .i64 v, .int .i64 t]] w fun e w' => e = .returned (.bool true) ∧ Below w.heap.size w w' := by
  by_cases hl : len ≤ 1048576
  · have := h.1
    subst this
    exact xGradientAt_in p a L cap x y z u v t w (h.gats hl)
  · exact xGradientAt_long p a len cap x y z u v t w (by omega) h.2.1
end Go.Proofs.Ytfpjflghgmcgbaa
