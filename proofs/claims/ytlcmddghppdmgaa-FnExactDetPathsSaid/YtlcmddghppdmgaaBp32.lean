/-
  The walk of the exact law of DetPaths. Conditions: none but that the slice reads as a list of arrows.
-/
import Derived.Test.YtlcmddghppdmgaaBp10
import Derived.Test.YtlcmddghppdmgaaBp21
import Derived.Test.YtlcmddghppdmgaaBp31
namespace Go.Proofs.Ytlcmddghppdmgaa
set_option linter.unusedVariables false
open Go.RowKit
set_option maxRecDepth 100000 in
set_option maxHeartbeats 8000000 in
theorem xDetPaths_in (p n : Int) (a : Option Addr) (A : List Arr) (c : Nat) (x y z : Int) (w : World) (h : RowP w a A.length A) (hl : A.length + acN A ≤ 1048576) :
    Calls Try.prog 7 #[.int .i64 p, .agg #[.int .i64 n, .slice a A.length c], .agg #[.int .i64 x, .int .i64 y, .int .i64 z]] w fun e w' => e = .returned (.bool true) ∧ Below w.heap.size w w' := by
  have HSZ := Lib.hid (fun W (hb : Below w.heap.size w W) => show Calls Try.prog 18 #[.agg #[.int .i64 n, .slice a A.length c], .int .i64 1048576] W fun e w' => e = .returned (.int .i64 (1048576 - ((A.length : Int) + (acN A : Int)))) ∧ Below W.heap.size W w' from by
    have := szPr n a A.length c A 1048576 W (h.below hb) (by omega) (by omega)
    rwa [if_neg (by omega)] at this)
  have m1 : ¬ (1048576 : Int) - ((A.length : Int) + (acN A : Int)) < 0 := by omega
  have Q1 := Lib.hid (show Arrs w (.slice a A.length c) A from h.arrs hl)
  obtain ⟨b, hbb⟩ : ∃ b, b = w.heap.size := ⟨_, rfl⟩
  obtain ⟨W0, hW0⟩ : ∃ W0, W0 = (w.alloc (Obj.cells #[.int .i64 n, .slice a A.length c] 24)).alloc (Obj.cells #[.int .i64 x, .int .i64 y, .int .i64 z] 33) := ⟨_, rfl⟩
  have A1 := Lib.hid (show PBx W0 b n (.slice a A.length c) by rw [hW0, hbb]; exact (PBx.new _ _ _ _).on (Below.alloc (Below.refl _ _) (Nat.le_refl _) _))
  have PT := Lib.hid (show ∀ w', Below W0.heap.size W0 w' → PtAt w' (b + 1) x y z ∧ b + 1 < w'.heap.size from fun w' hb => by
    have hp : PtAt W0 (b + 1) x y z := by rw [hW0, hbb]; refine ⟨?_, ?_, ?_⟩ <;> simp [go_sem]
    have hs : b + 1 < W0.heap.size := by rw [hW0, hbb]; simp
    exact ⟨hp.below hb hs, Nat.lt_of_lt_of_le hs hb.size⟩)
  have WB := Lib.hid (show Below w.heap.size w W0 by rw [hW0]; exact (by repeat (first | exact Below.refl _ _ | apply Below.drew | apply below_drewN | (refine Below.alloc ?_ (by first | omega | (simp <;> omega)) _))))
  have B := Lib.hid (Below.refl W0.heap.size W0)
  have HW0 := Lib.hid hW0
  have Hbb := Lib.hid hbb
  have QQ := Lib.hid (fun W (hb : Below W0.heap.size W0 W) => Q1.out.below (WB.out.trans (hb.mono WB.out.size)))
  obtain ⟨r, hr⟩ : ∃ r, r = dpV p n A x y z := ⟨_, rfl⟩
  have HSP := Lib.hid (fun v W (hv : Arrs W v A) => hr ▸ sDpA p n v A x y z W hv)
  have HIM := Lib.hid (fun v W (hv : Arrs W v A) => hr ▸ iDpA p n v A x y z W hv)
  have bb1 : (r != r) = false := by simp
  clear h hl hW0 hr hbb Q1
  go_enter Try.func7, Try.ntmps7
  go_wp2_with fail
  rw [← HW0.out, ← Hbb.out]
  clear HW0 Hbb
  refine (HSZ.out _ WB.out).mono ?_
  rintro e w1 ⟨rfl, hb⟩
  replace B := Lib.hid (B.out.trans (hb.mono B.out.size))
  replace A1 := Lib.hid (A1.out.on hb)
  clear hb HSZ
  have HS := Lib.hid (fun w' (hw : Below w1.heap.size w1 w') => show (w'.cell? ⟨b, 0, none⟩ = some (.int .i64 n) ∧ w'.cell? ⟨b, 1, none⟩ = some (.slice a A.length c)) ∧ w'.cell? ⟨b + 1, 0, none⟩ = some (.int .i64 x) ∧ w'.cell? ⟨b + 1, 1, none⟩ = some (.int .i64 y) ∧ w'.cell? ⟨b + 1, 2, none⟩ = some (.int .i64 z) from
    ⟨⟨(A1.out.on hw).1, (A1.out.on hw).2.1⟩, (PT.out w' (B.out.trans (hw.mono B.out.size))).1⟩)
  go_wp2_with fail
  refine wp_region_seq [(0, true), (1, true), (3, true), (2, false), (4, false), (5, false)] (fun w' => (w'.cell? ⟨b, 0, none⟩ = some (.int .i64 n) ∧ w'.cell? ⟨b, 1, none⟩ = some (.slice a A.length c)) ∧ w'.cell? ⟨b + 1, 0, none⟩ = some (.int .i64 x) ∧ w'.cell? ⟨b + 1, 1, none⟩ = some (.int .i64 y) ∧ w'.cell? ⟨b + 1, 2, none⟩ = some (.int .i64 z)) (by kernel_rfl) (by kernel_rfl) rfl (by intro c a d v w h; cases d <;> exact h) (HS.out _ (Below.drew (Below.refl _ _))) ?_
  iterate 3 (refine wpSeq_take (v := ?_) (List.getElem?_toArray.trans rfl) ?_ ?_; rotate_left; (intro w' hSw; (try dsimp only at hSw); go_simp; (try with_reducible rfl)); (try simp only [Act.put, List.setIfInBounds_toArray, List.set_cons_zero, List.set_cons_succ]))
  refine wpSeq_do (List.getElem?_toArray.trans rfl) (fun K hK => ?_)
  go_simp
  have hd0 : Below w1.heap.size w1 w1.drew := Below.drew (Below.refl _ _)
  refine (toPr n _ A _ (QQ.out _ (B.out.trans (hd0.mono B.out.size)))).mono ?_
  rintro e w2 ⟨v2, rfl, ho, hb⟩
  obtain ⟨a2, c2, rfl⟩ := ho.sl
  have hb1 : Below w1.heap.size w1 w2 := hd0.trans (hb.mono (by simp))
  refine hK _ _ (HS.out _ hb1) ?_
  clear hK K hb
  refine wpSeq_do (List.getElem?_toArray.trans rfl) (fun K hK => ?_)
  go_simp
  refine (toA3b x y z _).mono ?_
  rintro e w3 ⟨rfl, hb⟩
  have hb2 : Below w1.heap.size w1 w3 := hb1.trans (hb.mono hb1.size)
  have S1 := Lib.hid (ho.arrs.below hb)
  refine hK _ _ (HS.out _ hb2) ?_
  clear hK K hb ho
  refine wpSeq_do (List.getElem?_toArray.trans rfl) (fun K hK => ?_)
  go_simp
  refine (HSP.out _ _ S1.out).mono ?_
  rintro e w5 ⟨rfl, hb3⟩
  have hb : Below w1.heap.size w1 w5 := hb2.trans (hb3.mono hb2.size)
  refine hK _ _ (HS.out _ hb) ?_
  clear hK K S1 hb1 hb3 hd0 hb2 HS
  refine wpSeq_nil ?_
  simp only [Exit.then]
  replace B := Lib.hid (B.out.trans (hb.mono B.out.size))
  replace A1 := Lib.hid (A1.out.on hb)
  clear hb
  obtain ⟨p0, p1, p2⟩ := A1.out
  go_wp2_with fail
  refine (toPr n _ A _ (QQ.out _ B.out)).mono ?_
  rintro e w6 ⟨v6, rfl, ho, hb⟩
  clear p0 p1 p2
  obtain ⟨a6, c6, rfl⟩ := ho.sl
  replace B := Lib.hid (B.out.trans (hb.mono B.out.size))
  replace A1 := Lib.hid (A1.out.on hb)
  clear hb
  obtain ⟨b6, hb6⟩ : ∃ b, b = w6.heap.size := ⟨_, rfl⟩
  obtain ⟨W6, hW6⟩ : ∃ W, W = w6.alloc (Obj.cells #[.int .i64 n, .slice a6 A.length c6] 29) := ⟨_, rfl⟩
  have hb : Below w6.heap.size w6 W6 := by rw [hW6]; exact (by repeat (first | exact Below.refl _ _ | apply Below.drew | apply below_drewN | (refine Below.alloc ?_ (by first | omega | (simp <;> omega)) _)))
  have A2 := Lib.hid (show PBx W6 b6 n (.slice a6 A.length c6) by rw [hW6, hb6]; exact PBx.new _ _ _ _)
  have HW6 := Lib.hid hW6
  have Hb6 := Lib.hid hb6
  have S6 := Lib.hid (ho.arrs.below hb)
  replace B := Lib.hid (B.out.trans (hb.mono B.out.size))
  replace A1 := Lib.hid (A1.out.on hb)
  clear hb hW6 hb6 ho
  go_upto_region 7 with fail
  rw [← HW6.out, ← Hb6.out]
  clear HW6 Hb6
  have HS := Lib.hid (fun w' (hw : Below W6.heap.size W6 w') => show (w'.cell? ⟨b6, 0, none⟩ = some (.int .i64 n) ∧ w'.cell? ⟨b6, 1, none⟩ = some (.slice a6 A.length c6)) ∧ w'.cell? ⟨b + 1, 0, none⟩ = some (.int .i64 x) ∧ w'.cell? ⟨b + 1, 1, none⟩ = some (.int .i64 y) ∧ w'.cell? ⟨b + 1, 2, none⟩ = some (.int .i64 z) from
    ⟨⟨(A2.out.on hw).1, (A2.out.on hw).2.1⟩, (PT.out w' (B.out.trans (hw.mono B.out.size))).1⟩)
  refine wp_region_seq [(0, true), (1, true), (2, true), (3, false), (4, false)] (fun w' => (w'.cell? ⟨b6, 0, none⟩ = some (.int .i64 n) ∧ w'.cell? ⟨b6, 1, none⟩ = some (.slice a6 A.length c6)) ∧ w'.cell? ⟨b + 1, 0, none⟩ = some (.int .i64 x) ∧ w'.cell? ⟨b + 1, 1, none⟩ = some (.int .i64 y) ∧ w'.cell? ⟨b + 1, 2, none⟩ = some (.int .i64 z)) (by kernel_rfl) (by kernel_rfl) rfl (by intro c a d v w h; cases d <;> exact h) (HS.out _ (Below.drew (Below.refl _ _))) ?_
  iterate 3 (refine wpSeq_take (v := ?_) (List.getElem?_toArray.trans rfl) ?_ ?_; rotate_left; (intro w' hSw; (try dsimp only at hSw); go_simp; (try with_reducible rfl)); (try simp only [Act.put, List.setIfInBounds_toArray, List.set_cons_zero, List.set_cons_succ]))
  refine wpSeq_do (List.getElem?_toArray.trans rfl) (fun K hK => ?_)
  go_simp
  refine (toA3b x y z _).mono ?_
  rintro e w7 ⟨rfl, hb⟩
  have hb2 : Below W6.heap.size W6 w7 := (Below.drew (Below.refl _ _) : Below W6.heap.size W6 W6.drew).trans (hb.mono (by simp))
  refine hK _ _ (HS.out _ hb2) ?_
  clear hK K hb
  refine wpSeq_do (List.getElem?_toArray.trans rfl) (fun K hK => ?_)
  go_simp
  refine (HIM.out _ _ (S6.out.below hb2)).mono ?_
  rintro e w8 ⟨rfl, hb3⟩
  have hb : Below W6.heap.size W6 w8 := hb2.trans (hb3.mono hb2.size)
  refine hK _ _ (HS.out _ hb) ?_
  clear hK K hb3 hb2 HS
  refine wpSeq_nil ?_
  simp only [Exit.then]
  replace B := Lib.hid (B.out.trans (hb.mono B.out.size))
  replace A1 := Lib.hid (A1.out.on hb)
  replace A2 := Lib.hid (A2.out.on hb)
  replace S6 := Lib.hid (S6.out.below hb)
  clear hb
  go_wp2_with fail
  have HS := Lib.hid (fun w' (hw : Below w8.heap.size w8 w') => show (w'.cell? ⟨b6, 0, none⟩ = some (.int .i64 n) ∧ w'.cell? ⟨b6, 1, none⟩ = some (.slice a6 A.length c6)) ∧ w'.cell? ⟨b, 0, none⟩ = some (.int .i64 n) ∧ w'.cell? ⟨b, 1, none⟩ = some (.slice a A.length c) from
    ⟨⟨(A2.out.on hw).1, (A2.out.on hw).2.1⟩, (A1.out.on hw).1, (A1.out.on hw).2.1⟩)
  refine wp_region_seq [(0, true), (1, true), (2, false), (3, false)] (fun w' => (w'.cell? ⟨b6, 0, none⟩ = some (.int .i64 n) ∧ w'.cell? ⟨b6, 1, none⟩ = some (.slice a6 A.length c6)) ∧ w'.cell? ⟨b, 0, none⟩ = some (.int .i64 n) ∧ w'.cell? ⟨b, 1, none⟩ = some (.slice a A.length c)) (by kernel_rfl) (by kernel_rfl) rfl (by intro c a d v w h; cases d <;> exact h) (HS.out _ (Below.drew (Below.refl _ _))) ?_
  iterate 2 (refine wpSeq_take (v := ?_) (List.getElem?_toArray.trans rfl) ?_ ?_; rotate_left; (intro w' hSw; (try dsimp only at hSw); go_simp; (try with_reducible rfl)); (try simp only [Act.put, List.setIfInBounds_toArray, List.set_cons_zero, List.set_cons_succ]))
  refine wpSeq_do (List.getElem?_toArray.trans rfl) (fun K hK => ?_)
  go_simp
  refine (toPr n _ A _ (QQ.out _ (B.out.trans (Below.mono (Below.drew (Below.refl _ _)) B.out.size)))).mono ?_
  rintro e w10 ⟨v10, rfl, ho, hb⟩
  have hb2 : Below w8.heap.size w8 w10 := (Below.drew (Below.refl _ _) : Below w8.heap.size w8 w8.drew).trans (hb.mono (by simp))
  refine hK _ _ (HS.out _ hb2) ?_
  clear hK K hb
  refine wpSeq_do (List.getElem?_toArray.trans rfl) (fun K hK => ?_)
  go_simp
  refine (eqPr n _ _ A _ (S6.out.below hb2) ho.arrs).mono ?_
  rintro e w11 ⟨rfl, hb3⟩
  have hb : Below w8.heap.size w8 w11 := hb2.trans (hb3.mono hb2.size)
  refine hK _ _ (HS.out _ hb) ?_
  clear hK K hb2 hb3 ho HS
  refine wpSeq_nil ?_
  simp only [Exit.then]
  replace B := Lib.hid (B.out.trans (hb.mono B.out.size))
  clear hb A1 A2 S6
  have HF := Lib.hid (WB.out.trans (B.out.mono WB.out.size))
  go_wp2_with fail
  go_ret
  exact ⟨rfl, HF.out⟩
set_option maxHeartbeats 1000000 in
theorem xDetPaths_long (p n : Int) (a : Option Addr) (len c : Nat) (A : List Arr) (x y z : Int) (w : World) (h : RowP w a len A) (hl : 1048576 < len + acN A) :
    Calls Try.prog 7 #[.int .i64 p, .agg #[.int .i64 n, .slice a len c], .agg #[.int .i64 x, .int .i64 y, .int .i64 z]] w fun e w' => e = .returned (.bool true) ∧ Below w.heap.size w w' := by
  have HSZ := Lib.hid (fun W (hb : Below w.heap.size w W) => show Calls Try.prog 18 #[.agg #[.int .i64 n, .slice a len c], .int .i64 1048576] W fun e w' => e = .returned (.int .i64 (-1)) ∧ Below W.heap.size W w' from by
    have := szPr n a len c A 1048576 W (h.below hb) (by omega) (by omega)
    rwa [if_pos (by omega)] at this)
  clear h hl
  go_enter Try.func7, Try.ntmps7
  go_wp2_with fail
  refine (HSZ.out _ (by repeat (first | exact Below.refl _ _ | apply Below.drew | apply below_drewN | (refine Below.alloc ?_ (by first | omega | (simp <;> omega)) _)))).mono ?_
  rintro e w1 ⟨rfl, hb⟩
  have HB := Lib.hid (show Below w.heap.size w w1 from Below.trans (by repeat (first | exact Below.refl _ _ | apply Below.drew | apply below_drewN | (refine Below.alloc ?_ (by first | omega | (simp <;> omega)) _))) (hb.mono (by simp <;> omega)))
  clear hb
  go_wp2_with fail
  go_ret
  exact ⟨rfl, HB.out⟩
theorem xDetPaths (a0 : Int) (n1 : Int) (a1 : Option Addr) (len1 cap1 : Nat) (L1 : List Arr) (x2 y2 z2 : Int) (w : World) (h : RowP w a1 len1 L1) :
    Calls Try.prog 7 #[.int .i64 a0, .agg #[.int .i64 n1, .slice a1 len1 cap1], .agg #[.int .i64 x2, .int .i64 y2, .int .i64 z2]] w fun e w' => e = .returned (.bool true) ∧ Below w.heap.size w w' := by
  by_cases hl : len1 + acN L1 ≤ 1048576
  · have := h.1
    subst this
    exact xDetPaths_in a0 n1 a1 L1 cap1 x2 y2 z2 w h hl
  · exact xDetPaths_long a0 n1 a1 len1 cap1 L1 x2 y2 z2 w h (by omega)
end Go.Proofs.Ytlcmddghppdmgaa
