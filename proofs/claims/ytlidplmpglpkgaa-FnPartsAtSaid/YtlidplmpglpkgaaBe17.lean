/-
  Contracts of the model's draws of circuits, on: a circuit that is sometimes spoilt, a prime and a circuit, the draws of each function's arguments. Conditions: the bytes can be read.
  Contracts of the model's draws of a point and of EvalGates' arguments. Conditions: the bytes can be read.
-/
import Derived.Test.YtlidplmpglpkgaaBe3
import Derived.Test.YtlidplmpglpkgaaBe8
namespace Go.Proofs.Ytlidplmpglpkgaa
open Go.RowKit
def lenV : Value → Nat
  | .slice _ n _ => n
  | _ => 0
set_option maxRecDepth 100000 in
set_option maxHeartbeats 8000000 in
theorem bad_any (R : Nat) (a : Option Addr) (len cap q : Nat) (g c : Nat) (L : List Gt) (hL : L.length ≤ 60) (w : World) (h : Rd w R a len cap q) (hr : RowGt w 0 (.slice (some ⟨g, 0, none⟩) L.length c) L) (hq : q ≤ 900000) :
    Calls Try.prog 201 #[.pointer (some ⟨R, 0, none⟩), .slice (some ⟨g, 0, none⟩) L.length c] w (Draws R a len cap q 10 61 w) := by
  obtain ⟨i0, hi, hz0, hz1, hz2⟩ := info_parts infoG
  have hRB := h.sz
  have S0 : DSt w R a len cap q (.slice (some ⟨w.heap.size, 0, none⟩) 0 0) [] (w.alloc (.cells #[] 137)) :=
    ⟨h.alloc _, RowGt.lit0 w w.heap.size (Nat.le_refl _), h.sz, h.la, grown_alloc _ _ _, by simp⟩
  have HF := Lib.hid (RowGt.read (hr.below (Below.alloc (Below.refl _ _) (Nat.le_refl _) _ : Below w.heap.size w (w.alloc (.cells #[] 137)))))
  have HS0 := Lib.hid S0
  clear S0 h hr
  go_enter Try.func201, Try.ntmps201
  go_wp2_with (at_builtin; refine wpList_append_own_at _ rfl _ _ 43 rfl w.heap.size 137 i0 (.agg #[.int .i64 0, .int .i64 0, .int .i64 0]) 3 24 Try.underlying43 hi hz0 hz1 hz2 rfl (by decide) _ _ _ rfl HS0.out.row ⟨g, 0, none⟩ L.length c (flatG L) rfl (flatG_len L) HF.out (flatG_cell L) (by unfold maxLen; simp; omega) (by simp; omega) (by simp) ?_)
  intro v1 w1 hown hgrow hnil _
  have S1 := HS0.out.app (RowGt.app (L := []) (M := L) rfl (by simpa [flatG] using hown)) hgrow (fun e => hnil e)
  rw [List.nil_append] at S1
  have HS1 := Lib.hid S1
  clear hown hgrow hnil S1 HF HS0
  go_wp2_with fail
  refine (pick_any R a len cap q 30 w1 HS1.out.rd (by omega)).mono ?_
  rintro e w2 ⟨x, rfl, x0, x1, hR2, hg2, hs2⟩
  have S2 := HS1.out.pk hR2 hg2
  have HS2 := Lib.hid S2
  have hs2' : w.heap.size ≤ w2.heap.size := S2.size
  obtain ⟨g1, c1, rfl⟩ := S2.sl
  clear x1 hR2 hg2 hs2 S2 HS1
  cases e0 : (x == 0)
  · cases e1 : (x == 1)
    · cases e2 : (x == 2)
      · go_wp2_with fail
        go_ret
        exact ⟨_, L, q + 1, rfl, by omega, by omega, HS2.out⟩
      · go_wp2_with fail
        go_loopw [5] (fun v wr => ∃ M : List Gt, M.length ≤ 61 ∧ DSt w R a len cap (q + 1) v M wr) (fun v _ => 61 - lenV v)
        case atStart => exact ⟨L, by omega, HS2.out⟩
        case round =>
          clear HS2
          rename_i K' hK'
          have HK' := Lib.hid hK'
          clear hK'
          obtain ⟨M, hM, hS⟩ := hrel
          obtain ⟨g5, c5, rfl⟩ := hS.sl
          have HS := Lib.hid hS
          have hs := hS.size
          clear hS
          by_cases hlt : M.length < 61
          · have hltp : (M.length : Int) < 61 := by omega
            have HS6 := Lib.hid (HS.out.on (w' := wr.alloc (.cells #[.int .i64 0, .int .i64 0, .int .i64 0] 137)) (Below.alloc (Below.refl _ _) (Nat.le_refl _) _))
            go_wp2_with (at_builtin; refine wpList_append_own_at _ rfl _ _ 43 rfl (w.heap.size) 137 i0 (.agg #[.int .i64 0, .int .i64 0, .int .i64 0]) 3 24 Try.underlying43 hi hz0 hz1 hz2 rfl (by decide) _ _ _ rfl HS6.out.row _ 1 1 [.int .i64 (0), .int .i64 (0), .int .i64 (0)] rfl rfl (by intro j u hj; match j, hj with | 0, hj => (simp at hj; subst hj; simp [Addr.add, go_sem]) | 1, hj => (simp at hj; subst hj; simp [Addr.add, go_sem]) | 2, hj => (simp at hj; subst hj; simp [Addr.add, go_sem])) (gate_ok _ _ _) (by unfold maxLen; omega) (by first | omega | (simp; omega)) (by first | omega | (simp; omega)) ?_)
            intro v' w5 hown' hgrow hnil _
            have S7 := HS6.out.app (RowGt.snoc ⟨0, 0, 0⟩ hown') hgrow (fun e => hnil e)
            obtain ⟨g7, c7, rfl⟩ := S7.sl
            clear hown' hgrow hnil
            go_wp2_with fail
            go_roundw
            case rel => exact ⟨_, by simp; omega, S7⟩
            case measure => simp [lenV]; omega
          · have hltp : (61 : Int) ≤ (M.length : Int) := by omega
            have hK' := HK'.out
            go_wp2_with fail
            go_ret
            exact ⟨_, M, q + 1, rfl, by omega, by omega, HS.out⟩
    · have B2 := HS2.out.on (w' := w2.alloc (.cells #[] 137)) (Below.alloc (Below.refl _ _) (Nat.le_refl _) _)
      have R2 := RowGt.lit0 w2 w.heap.size hs2'
      go_wp2_with fail
      go_ret
      exact ⟨_, [], q + 1, rfl, by simp, by omega, B2.rd, R2, B2.RB, B2.la, B2.gr, by simp⟩
  · go_wp2_with fail
    refine (num_new R a len cap (q + 1) [0, 1, 2, 3, 4, -1] 6 rfl _ w2 HS2.out.rd (by omega) (by simp) (by simp) ?_).mono ?_
    · intro j hj
      have : j = 0 ∨ j = 1 ∨ j = 2 ∨ j = 3 ∨ j = 4 ∨ j = 5 := by simp at hj; omega
      rcases this with rfl | rfl | rfl | rfl | rfl | rfl
      all_goals rfl
    rintro e w3 ⟨y1, rfl, _, hRy1, hgy1⟩
    have Sy1 := (HS2.out.on (w' := w2.alloc (.cells #[.int .i64 0, .int .i64 1, .int .i64 2, .int .i64 3, .int .i64 4, .int .i64 (-1)] 3)) (Below.alloc (Below.refl _ _) (Nat.le_refl _) _)).pk hRy1 hgy1
    have HSy1 := Lib.hid Sy1
    have hsy1 : w.heap.size ≤ w3.heap.size := Sy1.size
    clear hRy1 hgy1 Sy1
    go_wp2_with fail
    refine (num_new R a len cap (q + 1 + 1) [0, 3, 13, -1, 9223372036854775807] 5 rfl _ w3 HSy1.out.rd (by omega) (by simp) (by simp) ?_).mono ?_
    · intro j hj
      have : j = 0 ∨ j = 1 ∨ j = 2 ∨ j = 3 ∨ j = 4 := by simp at hj; omega
      rcases this with rfl | rfl | rfl | rfl | rfl
      all_goals rfl
    rintro e w4 ⟨y2, rfl, _, hRy2, hgy2⟩
    have Sy2 := (HSy1.out.on (w' := w3.alloc (.cells #[.int .i64 0, .int .i64 3, .int .i64 13, .int .i64 (-1), .int .i64 9223372036854775807] 3)) (Below.alloc (Below.refl _ _) (Nat.le_refl _) _)).pk hRy2 hgy2
    have HSy2 := Lib.hid Sy2
    have hsy2 : w.heap.size ≤ w4.heap.size := Sy2.size
    clear hRy2 hgy2 Sy2
    go_wp2_with fail
    refine (num_new R a len cap (q + 1 + 1 + 1) [0, 1, 30] 3 rfl _ w4 HSy2.out.rd (by omega) (by simp) (by simp) ?_).mono ?_
    · intro j hj
      have : j = 0 ∨ j = 1 ∨ j = 2 := by simp at hj; omega
      rcases this with rfl | rfl | rfl
      all_goals rfl
    rintro e w5 ⟨y3, rfl, _, hRy3, hgy3⟩
    have Sy3 := (HSy2.out.on (w' := w4.alloc (.cells #[.int .i64 0, .int .i64 1, .int .i64 30] 3)) (Below.alloc (Below.refl _ _) (Nat.le_refl _) _)).pk hRy3 hgy3
    have HSy3 := Lib.hid Sy3
    have hsy3 : w.heap.size ≤ w5.heap.size := Sy3.size
    clear hRy3 hgy3 Sy3
    have HS6 := Lib.hid (HSy3.out.on (w' := w5.alloc (.cells #[.int .i64 y1, .int .i64 y2, .int .i64 y3] 137)) (Below.alloc (Below.refl _ _) (Nat.le_refl _) _))
    go_wp2_with (at_builtin; refine wpList_append_own_at _ rfl _ _ 43 rfl (w.heap.size) 137 i0 (.agg #[.int .i64 0, .int .i64 0, .int .i64 0]) 3 24 Try.underlying43 hi hz0 hz1 hz2 rfl (by decide) _ _ _ rfl HS6.out.row _ 1 1 [.int .i64 (y1), .int .i64 (y2), .int .i64 (y3)] rfl rfl (by intro j u hj; match j, hj with | 0, hj => (simp at hj; subst hj; simp [Addr.add, go_sem]) | 1, hj => (simp at hj; subst hj; simp [Addr.add, go_sem]) | 2, hj => (simp at hj; subst hj; simp [Addr.add, go_sem])) (gate_ok _ _ _) (by unfold maxLen; omega) (by first | omega | (simp; omega)) (by first | omega | (simp; omega)) ?_)
    intro v' w6 hown' hgrow hnil _
    have S7 := HS6.out.app (RowGt.snoc ⟨y1, y2, y3⟩ hown') hgrow (fun e => hnil e)
    have HS7 := Lib.hid S7
    clear hown' hgrow hnil S7
    go_wp2_with fail
    go_ret
    exact ⟨_, _, q + 4, rfl, by simp; omega, by omega, HS7.out⟩
def sizes8 : List Int := [5, 3, 7, 1, 9, 6, 2, 8]
theorem grown_mono {w w1 w2 : World} {R : Nat} (h : w.grownBy w1 (some R)) (k : w1.grownBy w2 (some R)) : w.grownBy w2 (some R) := grown_trans h k
/-- a prime, or a number that is none, and some gates -/
def Both (R : Nat) (a : Option Addr) (len cap q : Nat) (w : World) (e : Ending) (w' : World) : Prop :=
  ∃ (p : Int) (v : Value) (M : List Gt) (q' : Nat), e = .returned (.tuple #[.int .i64 p, v]) ∧ (-9223372036854775808 ≤ p ∧ p ≤ 9223372036854775807) ∧ M.length ≤ 61 ∧ q' ≤ q + 1000 ∧ Rd w' R a len cap q' ∧ RowGt w' w.heap.size v M ∧ v ≠ .slice none 0 0 ∧ w.grownBy w' (some R)
set_option maxHeartbeats 4000000 in
theorem circ_any (R : Nat) (a : Option Addr) (len cap q : Nat) (w : World) (h : Rd w R a len cap q) (hq : q ≤ 800000) :
    Calls Try.prog 118 #[.pointer (some ⟨R, 0, none⟩)] w (Both R a len cap q w) := by
  go_enter Try.func118, Try.ntmps118
  go_wp2_with fail
  refine (some_any R a len cap q w h (by omega)).mono ?_
  rintro e w1 ⟨p, q1, rfl, p0, p1, hq1, hR1, hg1⟩
  go_wp2_with fail
  refine (field_any p w1).mono ?_
  rintro e w2 ⟨f, rfl, f0, f1, hb2⟩
  have hR2 := hR1.far hb2.size (B := w1.heap.size) (fun k hk => hb2.block k hk) hR1.sz hR1.la
  have hg2 := grown_trans hg1 (grown_of hb2)
  clear hb2 hR1 hg1
  go_wp2_with fail
  refine (num_new R a len cap q1 sizes8 8 rfl _ w2 hR2 (by omega) (by decide) (by decide) ?_).mono ?_
  · intro j hj
    have : j = 0 ∨ j = 1 ∨ j = 2 ∨ j = 3 ∨ j = 4 ∨ j = 5 ∨ j = 6 ∨ j = 7 := by simp [sizes8] at hj; omega
    rcases this with rfl | rfl | rfl | rfl | rfl | rfl | rfl | rfl
    all_goals rfl
  rintro e w3 ⟨y, rfl, hy, hR3, hg3⟩
  have hy9 : 0 ≤ y ∧ y ≤ 9 := by simp [sizes8] at hy; omega
  obtain ⟨n, rfl⟩ := Int.eq_ofNat_of_zero_le hy9.1
  have hg3' := grown_trans hg2 (grown_trans (grown_alloc _ _ _) hg3)
  clear hy hg2 hg3 hR2
  go_wp2_with fail
  refine (gates_any R a len cap (q1 + 1) f n f0 f1 (by omega) w3 hR3 (by omega)).mono ?_
  rintro e w4 ⟨v, M, q4, rfl, hM, hq4, hS4⟩
  obtain ⟨g4, c4, rfl⟩ := hS4.sl
  have hR4 := hS4.rd
  have hr4 := hS4.row.mono (Nat.zero_le _)
  have hg4 := grown_trans hg3' hS4.gr
  clear hS4 hR3 hg3'
  go_wp2_with fail
  refine (bad_any R a len cap q4 g4 c4 M hM w4 hR4 hr4 (by omega)).mono ?_
  rintro e w5 ⟨v5, M5, q5, rfl, hM5, hq5, hS5⟩
  have hg5 := grown_trans hg4 hS5.gr
  have HS5 := Lib.hid hS5
  clear hS5 hR4 hr4
  have hsz := hg4.size
  go_wp2_with fail
  refine bodyPost_ret (v := .tuple #[.int .i64 p, v5]) (by simp [results, Try.results118, go_sem]) rfl ⟨p, v5, M5, q5, rfl, ⟨p0, p1⟩, hM5, by omega, HS5.out.rd, HS5.out.row.mono hsz, HS5.out.nn, hg5⟩
theorem below_reader' {w w1 w2 : World} (h : Below w.heap.size w w1) (hg : w1.grownBy w2 (some w.heap.size)) : Below w.heap.size w w2 :=
  h.grown hg h.size (fun k hk => by cases hk; exact Nat.le_refl _)
def DrawC (w : World) (e : Ending) (w' : World) : Prop :=
  ∃ (p : Int) (v : Value) (L : List Gt), e = .returned (.tuple #[.int .i64 p, v]) ∧ (-9223372036854775808 ≤ p ∧ p ≤ 9223372036854775807) ∧ L.length ≤ 61 ∧ OwnGats w' w.heap.size v L ∧ v ≠ .slice none 0 0 ∧ Below w.heap.size w w'
end Go.Proofs.Ytlidplmpglpkgaa
namespace Go.Proofs.Ytlidplmpglpkgaa
open Go.RowKit
theorem grown_low {w w1 w2 : World} {R : Nat} (h : w.grownBy w1 (some R)) (hb : Below w.heap.size w1 w2) : w.grownBy w2 (some R) :=
  ⟨hb.os.trans h.os, hb.tape.trans h.tape, hb.output.trans h.output, Nat.le_trans h.size hb.size, fun k hk hne => (hb.block k hk).trans (h.block k hk hne)⟩
/-- three cells that may be written -/
def Three (w : World) (g : Nat) : Prop := g < w.heap.size ∧ (∃ u, w.cell? ⟨g, 0, none⟩ = some u) ∧ (∃ u, w.cell? ⟨g, 1, none⟩ = some u) ∧ (∃ u, w.cell? ⟨g, 2, none⟩ = some u) ∧ w.frozen? ⟨g, 0, none⟩ = false ∧ w.frozen? ⟨g, 1, none⟩ = false ∧ w.frozen? ⟨g, 2, none⟩ = false
theorem Three.same {w w' : World} {g : Nat} (h : Three w g) (hs : w.heap.size ≤ w'.heap.size) (e : w'.heap[g]? = w.heap[g]?) : Three w' g := by
  obtain ⟨h1, h2, h3, h4, h5, h6, h7⟩ := h
  exact ⟨Nat.lt_of_lt_of_le h1 hs, by rw [World.cell?_of_block (a := ⟨g, 0, none⟩) e]; exact h2, by rw [World.cell?_of_block (a := ⟨g, 1, none⟩) e]; exact h3, by rw [World.cell?_of_block (a := ⟨g, 2, none⟩) e]; exact h4, by rw [World.frozen?_of_block (a := ⟨g, 0, none⟩) e]; exact h5, by rw [World.frozen?_of_block (a := ⟨g, 1, none⟩) e]; exact h6, by rw [World.frozen?_of_block (a := ⟨g, 2, none⟩) e]; exact h7⟩
theorem Three.new (w : World) (ty : TypeId) : Three (w.alloc (.cells #[.int .i64 0, .int .i64 0, .int .i64 0] ty)) w.heap.size := by
  refine ⟨by simp, ⟨_, by simp [go_sem]; rfl⟩, ⟨_, by simp [go_sem]; rfl⟩, ⟨_, by simp [go_sem]; rfl⟩, ?_, ?_, ?_⟩ <;> simp [go_sem]
def Points (R : Nat) (a : Option Addr) (len cap q : Nat) (w : World) (e : Ending) (w' : World) : Prop :=
  ∃ x y z : Int, ∃ q' : Nat, e = .returned (.agg #[.int .i64 x, .int .i64 y, .int .i64 z]) ∧ q' ≤ q + 6 ∧ Rd w' R a len cap q' ∧ w.grownBy w' (some R)
set_option maxHeartbeats 4000000 in
theorem point_any (R : Nat) (a : Option Addr) (len cap q : Nat) (p : Int) (hp0 : -9223372036854775808 ≤ p) (hp1 : p ≤ 9223372036854775807) (w : World) (h : Rd w R a len cap q) (hq : q ≤ 900000) :
    Calls Try.prog 131 #[.pointer (some ⟨R, 0, none⟩), .int .i64 p] w (Points R a len cap q w) := by
  have hRB := h.sz
  have hla := h.la
  have T0 := Three.new w 33
  have hR0 := h.alloc (.cells #[.int .i64 0, .int .i64 0, .int .i64 0] 33)
  have hg0 := grown_alloc w (.cells #[.int .i64 0, .int .i64 0, .int .i64 0] 33) (some R)
  have hne : some w.heap.size ≠ some R := fun e => by injection e with e; omega
  go_enter Try.func131, Try.ntmps131
  go_wp2_with fail
  refine (element_any R a len cap q p hp0 hp1 _ hR0 (by omega)).mono ?_
  rintro e w1 ⟨x, q1, rfl, _, _, hq1, hR1, hg1⟩
  have T1 := T0.same hg1.size (hg1.block _ T0.1 hne)
  have G1 := grown_trans hg0 hg1
  clear hR0 hg0 hg1 T0
  go_wp2_with fail
  refine (element_any R a len cap q1 p hp0 hp1 _ hR1 (by omega)).mono ?_
  rintro e w2 ⟨y, q2, rfl, _, _, hq2, hR2, hg2⟩
  have T2 := T1.same hg2.size (hg2.block _ T1.1 hne)
  have G2 := grown_trans G1 hg2
  clear hR1 hg2 T1 G1
  go_wp2_with fail
  refine (element_any R a len cap q2 p hp0 hp1 _ hR2 (by omega)).mono ?_
  rintro e w3 ⟨z, q3, rfl, _, _, hq3, hR3, hg3⟩
  have T3 := T2.same hg3.size (hg3.block _ T2.1 hne)
  have G3 := grown_trans G2 hg3
  obtain ⟨_, ⟨u0, t0⟩, ⟨u1, t1⟩, ⟨u2, t2⟩, f0, f1, f2⟩ := T3
  have B3 : Below w.heap.size w3 (((w3.setCell ⟨w.heap.size, 0, none⟩ (.int .i64 x)).setCell ⟨w.heap.size, 1, none⟩ (.int .i64 y)).setCell ⟨w.heap.size, 2, none⟩ (.int .i64 z)) :=
    Below.setCell (Below.setCell (Below.setCell ⟨rfl, rfl, rfl, Nat.le_refl _, fun _ _ => rfl⟩ (Nat.le_refl w.heap.size) _) (Nat.le_refl w.heap.size) _) (Nat.le_refl w.heap.size) _
  have HB := Lib.hid B3
  have HR3 := Lib.hid (hR3.far B3.size (fun k hk => B3.block k hk) hRB hla)
  have HG := Lib.hid (grown_low G3 B3)
  clear hR2 hR3 hg3 T2 G2 G3 B3 h hla hne
  go_wp2_with fail
  refine bodyPost_ret (v := .agg #[.int .i64 x, .int .i64 y, .int .i64 z]) (by simp [results, Try.results131, go_sem, t0, t1, t2]) rfl ⟨x, y, z, q3, rfl, by omega, HR3.out, HG.out⟩
def DrawP (w : World) (e : Ending) (w' : World) : Prop :=
  ∃ (p : Int) (v : Value) (L : List Gt) (x y z : Int), e = .returned (.tuple #[.int .i64 p, v, .agg #[.int .i64 x, .int .i64 y, .int .i64 z]]) ∧ L.length ≤ 61 ∧ RowGt w' w.heap.size v L ∧ v ≠ .slice none 0 0 ∧ Below w.heap.size w w'
end Go.Proofs.Ytlidplmpglpkgaa
