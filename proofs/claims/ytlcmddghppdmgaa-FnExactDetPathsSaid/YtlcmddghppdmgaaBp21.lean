/-
  The walk of the exact law of ProgramValid. Conditions: none but that the slice reads as a list of arrows.
-/
import Derived.Test.YtlcmddghppdmgaaBp10
import Derived.Test.YtlcmddghppdmgaaBp19
import Derived.Test.YtlcmddghppdmgaaBp2
import Derived.Deep.CutRange
namespace Go.Proofs.Ytlcmddghppdmgaa
set_option linter.unusedVariables false
open Go.RowKit
theorem RowP.below {w w' : World} {a : Option Addr} {n : Nat} {A : List Arr} (h : RowP w a n A) (hb : Below w.heap.size w w') : RowP w' a n A := by
  obtain ⟨q1, q2, q3⟩ := h
  refine ⟨q1, q2, ?_⟩
  rcases q3 with q3 | ⟨g, off, ha, hg, hc⟩
  · exact .inl q3
  · refine .inr ⟨g, off, ha, Nat.lt_of_lt_of_le hg hb.size, fun i hi => ?_⟩
    obtain ⟨r1, r2, b, l, c, r3, r4, r5, r6⟩ := hc i hi
    refine ⟨by rw [hb.cell (p := ⟨g, _, none⟩) hg]; exact r1, by rw [hb.cell (p := ⟨g, _, none⟩) hg]; exact r2, b, l, c, by rw [hb.cell (p := ⟨g, _, none⟩) hg]; exact r3, r4, r5, ?_⟩
    rcases r6 with r6 | ⟨g2, o2, e2, hg2, hc2⟩
    · exact .inl r6
    · exact .inr ⟨g2, o2, e2, Nat.lt_of_lt_of_le hg2 hb.size, fun j hj => (hc2 j hj).below hb hg2⟩
/-- a program in a box -/
def PBx (w : World) (b : Nat) (n : Int) (u : Value) : Prop := w.cell? ⟨b, 0, none⟩ = some (.int .i64 n) ∧ w.cell? ⟨b, 1, none⟩ = some u ∧ b < w.heap.size
theorem PBx.on {w w' : World} {b : Nat} {n : Int} {u : Value} (h : PBx w b n u) (hb : Below w.heap.size w w') : PBx w' b n u :=
  ⟨by rw [hb.cell (p := ⟨b, 0, none⟩) h.2.2]; exact h.1, by rw [hb.cell (p := ⟨b, 1, none⟩) h.2.2]; exact h.2.1, Nat.lt_of_lt_of_le h.2.2 hb.size⟩
theorem PBx.same {w w' : World} {b : Nat} {n : Int} {u : Value} (h : PBx w b n u) (e : w'.heap[b]? = w.heap[b]?) : PBx w' b n u :=
  ⟨by rw [cell_of_heap (by exact e)]; exact h.1, by rw [cell_of_heap (by exact e)]; exact h.2.1, lt_heap h.2.2 e⟩
theorem PBx.new (w : World) (n : Int) (u : Value) (ty : TypeId) : PBx (w.alloc (Obj.cells #[.int .i64 n, u] ty)) w.heap.size n u :=
  ⟨World.cell?_alloc_at _ _ _ _ rfl, World.cell?_alloc_at _ _ _ _ rfl, by simp⟩
theorem OwnArrs.sl {w : World} {B : Nat} {v : Value} {A : List Arr} (h : OwnArrs w B v A) : ∃ a c, v = .slice a A.length c := by
  obtain ⟨_, _, a, c, e, _⟩ := h; exact ⟨a, c, e⟩
set_option maxRecDepth 100000 in
set_option maxHeartbeats 8000000 in
theorem xProgramValid_in (p n : Int) (a : Option Addr) (A : List Arr) (c : Nat) (w : World) (h : RowP w a A.length A) (hl : A.length + acN A ≤ 1048576) :
    Calls Try.prog 3 #[.int .i64 p, .agg #[.int .i64 n, .slice a A.length c]] w fun e w' => e = .returned (.bool true) ∧ Below w.heap.size w w' := by
  have HSZ := Lib.hid (fun W (hb : Below w.heap.size w W) => show Calls Try.prog 18 #[.agg #[.int .i64 n, .slice a A.length c], .int .i64 1048576] W fun e w' => e = .returned (.int .i64 (1048576 - ((A.length : Int) + (acN A : Int)))) ∧ Below W.heap.size W w' from by
    have := szPr n a A.length c A 1048576 W (h.below hb) (by omega) (by omega)
    rwa [if_neg (by omega)] at this)
  have m1 : ¬ (1048576 : Int) - ((A.length : Int) + (acN A : Int)) < 0 := by omega
  have Q1 := Lib.hid (show Arrs w (.slice a A.length c) A from h.arrs hl)
  obtain ⟨b, hbb⟩ : ∃ b, b = w.heap.size := ⟨_, rfl⟩
  obtain ⟨W0, hW0⟩ : ∃ W0, W0 = w.alloc (Obj.cells #[.int .i64 n, .slice a A.length c] 24) := ⟨_, rfl⟩
  have A1 := Lib.hid (show PBx W0 b n (.slice a A.length c) by rw [hW0, hbb]; exact PBx.new _ _ _ _)
  have B := Lib.hid (show Below w.heap.size w W0 by rw [hW0]; exact (by repeat (first | exact Below.refl _ _ | apply Below.drew | apply below_drewN | (refine Below.alloc ?_ (by first | omega | (simp <;> omega)) _))))
  have HW0 := Lib.hid hW0
  have Hbb := Lib.hid hbb
  obtain ⟨r, hr⟩ : ∃ r, r = prgB p n A := ⟨_, rfl⟩
  have HSP := Lib.hid (fun v W (hv : Arrs W v A) => hr ▸ sPgV p n v A W hv)
  have HIM := Lib.hid (fun v W (hv : Arrs W v A) => hr ▸ iPgV p n v A W hv)
  have bb1 := bne_self2 r
  clear h hl hW0 hr hbb
  go_enter Try.func3, Try.ntmps3
  go_wp2_with fail
  rw [← HW0.out, ← Hbb.out]
  clear HW0
  refine (HSZ.out _ B.out).mono ?_
  rintro e w1 ⟨rfl, hb⟩
  replace B := Lib.hid (B.out.trans (hb.mono B.out.size))
  replace A1 := Lib.hid (A1.out.on hb)
  clear hb HSZ
  obtain ⟨p0, p1, p2⟩ := A1.out
  go_wp2_with fail
  refine (toPr n _ A _ (Q1.out.below B.out)).mono ?_
  rintro e w2 ⟨v2, rfl, ho, hb⟩
  clear p0 p1 p2
  obtain ⟨a2, c2, rfl⟩ := ho.sl
  have S1 := Lib.hid ho.arrs
  replace B := Lib.hid (B.out.trans (hb.mono B.out.size))
  replace A1 := Lib.hid (A1.out.on hb)
  clear hb ho
  go_wp2_with fail
  refine (HSP.out _ _ S1.out).mono ?_
  rintro e w3 ⟨rfl, hb⟩
  replace B := Lib.hid (B.out.trans (hb.mono B.out.size))
  replace A1 := Lib.hid (A1.out.on hb)
  clear hb S1
  obtain ⟨p0, p1, p2⟩ := A1.out
  go_wp2_with fail
  refine (toPr n _ A _ (Q1.out.below B.out)).mono ?_
  rintro e w4 ⟨v4, rfl, ho, hb⟩
  clear p0 p1 p2
  obtain ⟨a4, c4, rfl⟩ := ho.sl
  replace B := Lib.hid (B.out.trans (hb.mono B.out.size))
  replace A1 := Lib.hid (A1.out.on hb)
  clear hb
  obtain ⟨b4, hb4⟩ : ∃ b, b = w4.heap.size := ⟨_, rfl⟩
  obtain ⟨W4, hW4⟩ : ∃ W, W = w4.alloc (Obj.cells #[.int .i64 n, .slice a4 A.length c4] 29) := ⟨_, rfl⟩
  have hb : Below w4.heap.size w4 W4 := by rw [hW4]; exact (by repeat (first | exact Below.refl _ _ | apply Below.drew | apply below_drewN | (refine Below.alloc ?_ (by first | omega | (simp <;> omega)) _)))
  have A2 := Lib.hid (show PBx W4 b4 n (.slice a4 A.length c4) by rw [hW4, hb4]; exact PBx.new _ _ _ _)
  have S2 := Lib.hid (ho.arrs.below hb)
  replace B := Lib.hid (B.out.trans (hb.mono B.out.size))
  replace A1 := Lib.hid (A1.out.on hb)
  have HW4 := Lib.hid hW4
  have Hb4 := Lib.hid hb4
  clear hb hW4 hb4 ho
  go_upto_region 7 with fail
  rw [← HW4.out, ← Hb4.out]
  clear HW4 Hb4
  obtain ⟨p0, p1, p2⟩ := A2.out
  go_wp2_with fail
  refine (HIM.out _ _ S2.out).mono ?_
  rintro e w5 ⟨rfl, hb⟩
  replace B := Lib.hid (B.out.trans (hb.mono B.out.size))
  replace A1 := Lib.hid (A1.out.on hb)
  replace A2 := Lib.hid (A2.out.on hb)
  replace S2 := Lib.hid (S2.out.below hb)
  clear hb p0 p1 p2
  go_wp2_with fail
  have HS := Lib.hid (fun w' (hw : Below w5.heap.size w5 w') => show (w'.cell? ⟨b4, 0, none⟩ = some (.int .i64 n) ∧ w'.cell? ⟨b4, 1, none⟩ = some (.slice a4 A.length c4)) ∧ w'.cell? ⟨b, 0, none⟩ = some (.int .i64 n) ∧ w'.cell? ⟨b, 1, none⟩ = some (.slice a A.length c) from
    ⟨⟨(A2.out.on hw).1, (A2.out.on hw).2.1⟩, (A1.out.on hw).1, (A1.out.on hw).2.1⟩)
  refine wp_region_seq [(0, true), (1, true), (2, false), (3, false)] (fun w' => (w'.cell? ⟨b4, 0, none⟩ = some (.int .i64 n) ∧ w'.cell? ⟨b4, 1, none⟩ = some (.slice a4 A.length c4)) ∧ w'.cell? ⟨b, 0, none⟩ = some (.int .i64 n) ∧ w'.cell? ⟨b, 1, none⟩ = some (.slice a A.length c)) (by kernel_rfl) (by kernel_rfl) rfl (by intro c a d v w h; cases d <;> exact h) (HS.out _ (Below.drew (Below.refl _ _))) ?_
  iterate 2 (refine wpSeq_take (v := ?_) (List.getElem?_toArray.trans rfl) ?_ ?_; rotate_left; (intro w' hSw; (try dsimp only at hSw); go_simp; (try with_reducible rfl)); (try simp only [Act.put, List.setIfInBounds_toArray, List.set_cons_zero, List.set_cons_succ]))
  refine wpSeq_do (List.getElem?_toArray.trans rfl) (fun K hK => ?_)
  go_simp
  refine (toPr n _ A _ (Q1.out.below (B.out.trans (Below.mono (Below.drew (Below.refl _ _)) B.out.size)))).mono ?_
  rintro e w6 ⟨v6, rfl, ho, hb⟩
  have hb6 : Below w5.heap.size w5 w6 := (Below.drew (Below.refl _ _)).trans (hb.mono (by simp))
  refine hK _ _ (HS.out _ hb6) ?_
  clear hK K
  refine wpSeq_do (List.getElem?_toArray.trans rfl) (fun K hK => ?_)
  go_simp
  refine (eqPr n _ _ A _ (S2.out.below hb6) ho.arrs).mono ?_
  rintro e w7 ⟨rfl, hb⟩
  have hb7 : Below w5.heap.size w5 w7 := hb6.trans (hb.mono hb6.size)
  refine hK _ _ (HS.out _ hb7) ?_
  clear hK K
  refine wpSeq_nil ?_
  simp only [Exit.then]
  replace B := Lib.hid (B.out.trans (hb7.mono B.out.size))
  clear hb6 hb7 hb ho HS A1 A2 S2
  go_wp2_with fail
  go_ret
  exact ⟨rfl, B.out⟩
set_option maxHeartbeats 1000000 in
theorem xProgramValid_long (p n : Int) (a : Option Addr) (len c : Nat) (A : List Arr) (w : World) (h : RowP w a len A) (hl : 1048576 < len + acN A) :
    Calls Try.prog 3 #[.int .i64 p, .agg #[.int .i64 n, .slice a len c]] w fun e w' => e = .returned (.bool true) ∧ Below w.heap.size w w' := by
  have HSZ := Lib.hid (fun W (hb : Below w.heap.size w W) => show Calls Try.prog 18 #[.agg #[.int .i64 n, .slice a len c], .int .i64 1048576] W fun e w' => e = .returned (.int .i64 (-1)) ∧ Below W.heap.size W w' from by
    have := szPr n a len c A 1048576 W (h.below hb) (by omega) (by omega)
    rwa [if_pos (by omega)] at this)
  clear h hl
  go_enter Try.func3, Try.ntmps3
  go_wp2_with fail
  refine (HSZ.out _ (by repeat (first | exact Below.refl _ _ | apply Below.drew | apply below_drewN | (refine Below.alloc ?_ (by first | omega | (simp <;> omega)) _)))).mono ?_
  rintro e w1 ⟨rfl, hb⟩
  have HB := Lib.hid (show Below w.heap.size w w1 from Below.trans (by repeat (first | exact Below.refl _ _ | apply Below.drew | apply below_drewN | (refine Below.alloc ?_ (by first | omega | (simp <;> omega)) _))) (hb.mono (by simp)))
  clear hb
  go_wp2_with fail
  go_ret
  exact ⟨rfl, HB.out⟩
theorem xProgramValid (a0 : Int) (n1 : Int) (a1 : Option Addr) (len1 cap1 : Nat) (L1 : List Arr) (w : World) (h : RowP w a1 len1 L1) :
    Calls Try.prog 3 #[.int .i64 a0, .agg #[.int .i64 n1, .slice a1 len1 cap1]] w fun e w' => e = .returned (.bool true) ∧ Below w.heap.size w w' := by
  by_cases hl : len1 + acN L1 ≤ 1048576
  · have := h.1
    subst this
    exact xProgramValid_in a0 n1 a1 L1 cap1 w h hl
  · exact xProgramValid_long a0 n1 a1 len1 cap1 L1 w h (by omega)
end Go.Proofs.Ytlcmddghppdmgaa
