/-
  The chain of divisions of the program. Conditions: what the slices hold is known, lines over a prime.
  BezoutLine of the model. Conditions: what the slices hold is known.
  BezoutLine of the program. Conditions: what the slices hold is known.
  The walk of the exact law of BezoutLine. Conditions: none but that the slices read as lists.
-/
import Derived.Test.YtfmpcniehgipfaaBf17
import Derived.Test.YtfmpcniehgipfaaBf18
import Derived.Test.YtfmpcniehgipfaaBf16
namespace Go.Proofs.Ytfmpcniehgipfaa
set_option linter.unusedVariables false
open Go.RowKit
def TriE (K : Nat → Prop) (p : Int) (w : World) (R : Nat) (x y z : Value) (T : Tri) : Prop := Bx3 w R x y z ∧ OffE K w x p T.a ∧ OffE K w y p T.b ∧ OffE K w z p T.c
theorem TriE.below {K : Nat → Prop} {p : Int} {w w' : World} {R : Nat} {x y z : Value} {T : Tri} (h : TriE K p w R x y z T) (hb : Below w.heap.size w w') : TriE K p w' R x y z T :=
  ⟨h.1.below hb, h.2.1.below hb, h.2.2.1.below hb, h.2.2.2.below hb⟩
theorem TriE.set3 {K : Nat → Prop} {p : Int} {w : World} {R n : Nat} {x y z a b c : Value} {T : Tri} (h : TriE K p w R x y z T) (hn : K n) (hne : n ≠ R) : TriE K p (((w.setCell ⟨n, 0, none⟩ a).setCell ⟨n, 1, none⟩ b).setCell ⟨n, 2, none⟩ c) R x y z T :=
  ⟨h.1.other3 hne, h.2.1.set3 hn, h.2.2.1.set3 hn, h.2.2.2.set3 hn⟩
theorem TriE.put3 {K : Nat → Prop} {p : Int} {w : World} {R : Nat} {x y z a b c : Value} {T : Tri} (h : Bx3 w R x y z) (ha : OffE K w a p T.a) (hb : OffE K w b p T.b) (hc : OffE K w c p T.c) (hn : K R) : TriE K p (((w.setCell ⟨R, 0, none⟩ a).setCell ⟨R, 1, none⟩ b).setCell ⟨R, 2, none⟩ c) R a b c T :=
  ⟨h.put a b c, ha.set3 hn, hb.set3 hn, hc.set3 hn⟩
/-- the factor that makes a line monic -/
def mfL (p : Int) (L : List Int) : List Int := if L.length = 0 then [] else [ivL p L]
set_option maxRecDepth 100000 in
theorem iMonicG (p : Int) (v : Value) (L : List Int) (w : World) (hp : isP p = true) (h : Elr w v p L) (hE : AllE p L) (hc : Can L) (hl : L.length ≤ 400) :
    Calls Try.prog 122 #[v] w fun e w' => ∃ u, e = .returned u ∧ RowE w' w.heap.size u p (mfL p L) ∧ Below w.heap.size w w' := by
  unfold mfL
  split
  · rename_i h0
    obtain ⟨a, c, rfl⟩ := h.form
    rw [h0]
    clear h hE hc hl
    go_enter Try.func122, Try.ntmps122
    go_wp2_with fail
    refine bodyPost_ret (v := .slice none 0 0) (by simp [results, Try.results122, go_sem]) rfl ⟨_, rfl, RowE.nil _ _ _, Below.refl _ _⟩
  · exact iMonicF p v L w hp h hE hc (by omega) hl
theorem mf_times {p : Int} (hp : isP p = true) {A L : List Int} (hA : Can A) (eA : AllE p A) (hL : Can L) (eL : AllE p L) (h0 : L.length ≠ 0) : mlU p A (mfL p L) = smuL p A (ivL p L) := by
  unfold mfL
  rw [if_neg h0]
  have h := iv_ok hp hL eL (by omega)
  have h1 := h.2.1
  have hb := h.2.2
  refine smu_eq hp hA eA ?_ hb.2
  have hp1 := (isP_bd hp).1
  rcases Int.lt_or_eq_of_le hb.1 with h2 | h2
  · exact h2
  · rw [← h2, Int.mul_zero] at h1
    simp at h1
theorem mf_eu {p : Int} (hp : isP p = true) {L1 L2 : List Int} (h : TOk p (euG p L1 L2) 10 101) : euT p L1 L2 = ⟨mlU p (euG p L1 L2).a (mfL p (euG p L1 L2).a), mlU p (euG p L1 L2).b (mfL p (euG p L1 L2).a), mlU p (euG p L1 L2).c (mfL p (euG p L1 L2).a)⟩ := by
  unfold euT
  split
  · rename_i h0
    unfold mfL
    rw [if_pos h0, mlU_nilR, mlU_nilR, mlU_nilR]
  · rename_i h0
    rw [mf_times hp h.ca h.ea h.ca h.ea h0, mf_times hp h.cb h.eb h.ca h.ea h0, mf_times hp h.cc h.ec h.ca h.ea h0]
set_option maxRecDepth 100000 in
set_option maxHeartbeats 8000000 in
theorem iCommon (p : Int) (v1 v2 : Value) (L1 L2 : List Int) (w : World) (hp : isP p = true) (h1 : Elr w v1 p L1) (h2 : Elr w v2 p L2) (hE1 : AllE p L1) (hE2 : AllE p L2) (hc1 : Can L1) (hc2 : Can L2) (hl1 : L1.length ≤ 10) (hl2 : L2.length ≤ 10) :
    Calls Try.prog 79 #[.int .i64 p, v1, v2] w fun e w' => ∃ x y z, e = .returned (.agg #[x, y, z]) ∧ Elr w' x p (euT p L1 L2).a ∧ Elr w' y p (euT p L1 L2).b ∧ Elr w' z p (euT p L1 L2).c ∧ Below w.heap.size w w' := by
  obtain ⟨q1, q2⟩ := isP_bd hp
  have HP := Lib.hid hp
  have HGO := Lib.hid (euG_ok hp hE1 hE2 hc1 hc2 hl1 hl2)
  have HI1 := Lib.hid h1
  have HI2 := Lib.hid h2
  have HTO := Lib.hid (show TOk p ⟨L1, [1], []⟩ 10 1 ∧ TOk p ⟨L2, [], [1]⟩ 10 1 from ⟨⟨hc1, one_can, Can.nil, hE1, one_allE (by omega), nil_allE (by omega), hl1, by simp, by simp⟩, ⟨hc2, Can.nil, one_can, hE2, nil_allE (by omega), one_allE (by omega), hl2, by simp, by simp⟩⟩)
  obtain ⟨a1, cp1, rfl⟩ := h1.form
  obtain ⟨a2, cp2, rfl⟩ := h2.form
  obtain ⟨W1, hW1⟩ : ∃ W1, W1 = (w.alloc (Obj.cells #[.slice none 0 0, .slice none 0 0, .slice none 0 0] 77)).alloc (Obj.cells #[.int .i64 1] 3) := ⟨_, rfl⟩
  have s0 : (w.alloc (Obj.cells #[.slice none 0 0, .slice none 0 0, .slice none 0 0] 77)).heap.size = w.heap.size + 1 := by simp
  have s1 : W1.heap.size = w.heap.size + 1 + 1 := by rw [hW1]; simp
  have b0 : Below w.heap.size w (w.alloc (Obj.cells #[.slice none 0 0, .slice none 0 0, .slice none 0 0] 77)) := Below.alloc (Below.refl _ _) (Nat.le_refl _) _
  have b1 : Below (w.heap.size + 1) (w.alloc (Obj.cells #[.slice none 0 0, .slice none 0 0, .slice none 0 0] 77)) W1 := by rw [hW1]; exact Below.alloc (Below.refl _ _) (by rw [s0]; exact Nat.le_refl _) _
  have R1 := Lib.hid (show Bx3 W1 w.heap.size (.slice none 0 0) (.slice none 0 0) (.slice none 0 0) from (Bx3.made _ _ _ _ _).below (by rw [s0]; exact b1))
  have i1 : Ints W1 (.slice (some ⟨w.heap.size + 1, 0, none⟩) 1 1) [1] := ⟨by simp, _, 1, rfl, .inr ⟨w.heap.size + 1, 0, rfl, by rw [s1]; omega, fun j hj => by
    have : j = 0 := by simp at hj; omega
    subst this
    rw [hW1, ← s0]; simp [go_sem]⟩⟩
  have HLO := Lib.hid (iLineOf p _ [1] W1 i1 (by simp))
  have BW1 := Lib.hid (b0.trans (b1.mono (by omega)))
  have HW1 := Lib.hid hW1
  clear hp h1 h2 hE1 hE2 hc1 hc2 hW1 s0 s1 b0 b1 i1
  go_enter Try.func79, Try.ntmps79
  go_wp2_with fail
  rw [← HW1.out]
  refine HLO.out.mono ?_
  rintro e w2 ⟨u2, rfl, hu2, hb2⟩
  have R2 := Lib.hid (R1.out.below hb2)
  have U2 := Lib.hid (hu2.elr (by simp))
  have B2 := Lib.hid (BW1.out.trans (hb2.mono BW1.out.size))
  obtain ⟨a7, c7, rfl⟩ := hu2.form
  clear hu2 hb2
  go_upto_region 4 with fail
  obtain ⟨W3, hW3⟩ : ∃ W, W = w2.alloc (Obj.cells #[.slice a1 L1.length cp1, .slice a7 1 c7, .slice none 0 0] 77) := ⟨_, rfl⟩
  obtain ⟨W4, hW4⟩ : ∃ W, W = W3.alloc (Obj.cells #[.slice a2 L2.length cp2, .slice none 0 0, .slice a7 1 c7] 77) := ⟨_, rfl⟩
  rw [← hW3, ← hW4]
  have s3 : W3.heap.size = w2.heap.size + 1 := by rw [hW3]; simp
  have b3 : Below w2.heap.size w2 W3 := by rw [hW3]; exact Below.alloc (Below.refl _ _) (Nat.le_refl _) _
  have b4 : Below W3.heap.size W3 W4 := by rw [hW4]; exact Below.alloc (Below.refl _ _) (Nat.le_refl _) _
  have b24 : Below w2.heap.size w2 W4 := b3.trans (b4.mono b3.size)
  have xA : Bx3 W4 w2.heap.size (.slice a1 L1.length cp1) (.slice a7 1 c7) (.slice none 0 0) := (show Bx3 W3 w2.heap.size (.slice a1 L1.length cp1) (.slice a7 1 c7) (.slice none 0 0) from by rw [hW3]; exact Bx3.made _ _ _ _ _).below b4
  have xB : Bx3 W4 (w2.heap.size + 1) (.slice a2 L2.length cp2) (.slice none 0 0) (.slice a7 1 c7) := by rw [hW4, ← s3]; exact Bx3.made _ _ _ _ _
  have hord : w.heap.size < w2.heap.size := R2.out.sz
  obtain ⟨B, hB⟩ : ∃ B, B = w2.heap.size + 1 := ⟨_, rfl⟩
  obtain ⟨A, hA⟩ : ∃ A, A = w2.heap.size := ⟨_, rfl⟩
  have n4 : OffE (fun g => g = A ∨ g = B) W4 (.slice none 0 0) p [] := ⟨by simp, none, 0, rfl, ⟨by simp, by unfold maxLen; omega⟩, .inl ⟨rfl, rfl, rfl⟩⟩
  have HS0 := Lib.hid (show TriE (fun g => g = A ∨ g = B) p W4 A (.slice a1 L1.length cp1) (.slice a7 1 c7) (.slice none 0 0) ⟨L1, [1], []⟩ ∧ TriE (fun g => g = A ∨ g = B) p W4 B (.slice a2 L2.length cp2) (.slice none 0 0) (.slice a7 1 c7) ⟨L2, [], [1]⟩ ∧ Bx3 W4 w.heap.size (.slice none 0 0) (.slice none 0 0) (.slice none 0 0) ∧ Below w.heap.size w W4 from by
    have o1 := ((HI1.out.below B2.out).offE (K := fun g => g = A ∨ g = B) (by omega) (fun g hg h => by omega)).below b24
    have o2 := ((HI2.out.below B2.out).offE (K := fun g => g = A ∨ g = B) (by omega) (fun g hg h => by omega)).below b24
    have o7 := (U2.out.offE (K := fun g => g = A ∨ g = B) (by simp) (fun g hg h => by omega)).below b24
    exact ⟨⟨by rw [hA]; exact xA, o1, o7, n4⟩, ⟨by rw [hB]; exact xB, o2, n4, o7⟩, R2.out.below b24, B2.out.trans (b24.mono B2.out.size)⟩)
  have HOR := Lib.hid (show w.heap.size < A ∧ A < B from by omega)
  rw [← hB, ← hA]
  clear hW3 hW4 s3 b3 b4 b24 xA xB hord hA hB n4
  go_loopw [] (fun wr => ∃ (m n : Tri) (k kk : Nat) (x y z x' y' z' : Value), TriE (fun g => g = A ∨ g = B) p wr A x y z m ∧ TriE (fun g => g = A ∨ g = B) p wr B x' y' z' n ∧ Bx3 wr w.heap.size (.slice none 0 0) (.slice none 0 0) (.slice none 0 0) ∧ TOk p m 10 kk ∧ TOk p n 10 kk ∧ kk + 10 * n.a.length ≤ 101 ∧ eucN p (ivV p) k m n = euG p L1 L2 ∧ n.a.length ≤ k ∧ Below w.heap.size w wr) (fun wr => lenC wr B)
  case atStart => exact ⟨⟨L1, [1], []⟩, ⟨L2, [], [1]⟩, L2.length, 1, _, _, _, _, _, _, HS0.out.1, HS0.out.2.1, HS0.out.2.2.1, HTO.out.1, HTO.out.2, (by show 1 + 10 * L2.length ≤ 101; omega), rfl, Nat.le_refl _, HS0.out.2.2.2⟩
  case round =>
    clear HS0 HTO R2 U2 B2 R1 HLO BW1 HW1 HI1 HI2
    obtain ⟨m, n, k, kk, x, y, z, x', y', z', hA, hB, hR6, tm, tn, hkk, he, hnk, hb⟩ := hrel
    have HTA := Lib.hid hA
    have HTB := Lib.hid hB
    have HR6 := Lib.hid hR6
    have HBB := Lib.hid hb
    have HTM := Lib.hid tm
    have HTN := Lib.hid tn
    have HE := Lib.hid he
    have HKK := Lib.hid hkk
    obtain ⟨ax, cx, rfl⟩ := hA.2.1.form
    obtain ⟨ay, cy, rfl⟩ := hA.2.2.1.form
    obtain ⟨az, cz, rfl⟩ := hA.2.2.2.form
    obtain ⟨bx, dx, rfl⟩ := hB.2.1.form
    obtain ⟨by', dy, rfl⟩ := hB.2.2.1.form
    obtain ⟨bz, dz, rfl⟩ := hB.2.2.2.form
    obtain ⟨ca0, ca1, ca2, fa0, fa1, fa2, hAs⟩ := hA.1
    obtain ⟨cb0, cb1, cb2, fb0, fb1, fb2, hBs⟩ := hB.1
    have hma := tm.la
    have hna := tn.la
    have hlmb := tm.lb
    have hlmc := tm.lc
    have hlnb := tn.lb
    have hlnc := tn.lc
    have hord := HOR.out
    have hsz := hb.size
    by_cases hn0 : n.a.length = 0
    · have hle : ¬ (n.a.length : Int) > 0 := by omega
      have HG := Lib.hid (show m = euG p L1 L2 from by rw [← HE.out, eucN_nil _ _ _ _ _ hn0])
      have HGM := Lib.hid (show TOk p m 10 101 from by rw [HG.out]; exact HGO.out)
      have HT := Lib.hid (show euT p L1 L2 = ⟨mlU p m.a (mfL p m.a), mlU p m.b (mfL p m.a), mlU p m.c (mfL p m.a)⟩ from by rw [mf_eu HP.out HGO.out, ← HG.out])
      have hfl : (mfL p m.a).length ≤ 1 := by unfold mfL; split <;> simp
      have hfe : AllE p (mfL p m.a) := by
        unfold mfL
        split
        · exact nil_allE (by omega)
        · rename_i h0
          have h := (iv_ok HP.out HGM.out.ca HGM.out.ea (by omega)).2.2
          intro k
          cases k with
          | zero => exact h
          | succ k => rw [cf_ge (by simp)]; omega
      have HMF := Lib.hid (fun w' (hb' : Below wr.heap.size wr w') => iMonicG p _ m.a w' HP.out (hA.2.1.below hb').elr tm.ea tm.ca (by omega))
      obtain ⟨F, hF⟩ : ∃ F, F = mfL p m.a := ⟨_, rfl⟩
      rw [← hF] at HT HMF hfl hfe
      have HCT := Lib.hid (fun u w' (hb' : Below wr.heap.size wr w') (hu : Elr w' u p F) => iCombTimes p _ _ _ u m.a m.b m.c F w' HP.out (hA.2.1.below hb').elr (hA.2.2.1.below hb').elr (hA.2.2.2.below hb').elr hu tm.ea tm.eb tm.ec hfe (by omega) (by have := HGM.out.lb; omega) (by have := HGM.out.lc; omega) (by omega))
      have hml : ∀ X : List Int, X.length ≤ 101 → (mlU p X F).length ≤ 200 := fun X h => by rw [mlU_len]; split <;> omega
      have HML := Lib.hid (show (mlU p m.a F).length ≤ 200 ∧ (mlU p m.b F).length ≤ 200 ∧ (mlU p m.c F).length ≤ 200 from ⟨hml _ (by omega), hml _ HGM.out.lb, hml _ HGM.out.lc⟩)
      obtain ⟨S1, hS1⟩ : ∃ S, S = mlU p m.a F := ⟨_, rfl⟩
      obtain ⟨S2, hS2⟩ : ∃ S, S = mlU p m.b F := ⟨_, rfl⟩
      obtain ⟨S3, hS3⟩ : ∃ S, S = mlU p m.c F := ⟨_, rfl⟩
      rw [← hS1, ← hS2, ← hS3] at HT HCT HML
      have HFL := Lib.hid hfl
      have HKP := Lib.hid (fun w' (hb' : Below wr.heap.size wr w') => show w'.cell? ⟨A, 0, none⟩ = some (.slice ax m.a.length cx) ∧ w'.cell? ⟨A, 1, none⟩ = some (.slice ay m.b.length cy) ∧ w'.cell? ⟨A, 2, none⟩ = some (.slice az m.c.length cz) from
        ⟨(hb'.cell (p := ⟨A, 0, none⟩) hAs).trans ca0, (hb'.cell (p := ⟨A, 1, none⟩) hAs).trans ca1, (hb'.cell (p := ⟨A, 2, none⟩) hAs).trans ca2⟩)
      have hwr1 : w.heap.size + 1 ≤ wr.heap.size := HR6.out.sz
      clear hA hB hR6 hb tm tn he hkk hfl hfe hml hF hS1 hS2 hS3 ca1 ca2 cb1 cb2
      go_upto_region 7 with fail
      refine wp_region_seq [(0, true), (1, true), (2, true), (3, false), (4, false)] (fun w' => w'.cell? ⟨A, 0, none⟩ = some (.slice ax m.a.length cx) ∧ w'.cell? ⟨A, 1, none⟩ = some (.slice ay m.b.length cy) ∧ w'.cell? ⟨A, 2, none⟩ = some (.slice az m.c.length cz)) (by kernel_rfl) (by kernel_rfl) rfl (by first | (intro c a d v w h; cases d <;> exact h) | (rintro c a d v w ⟨h, _⟩; cases h)) (HKP.out _ (Below.drew (Below.refl _ _))) ?_
      iterate 3 (refine wpSeq_take (v := ?_) (List.getElem?_toArray.trans rfl) ?_ ?_; rotate_left; (intro w' hSw; (try dsimp only at hSw); go_simp; (try with_reducible rfl)); (try simp only [Act.put, List.setIfInBounds_toArray, List.set_cons_zero, List.set_cons_succ]))
      refine wpSeq_do (List.getElem?_toArray.trans rfl) (fun K hK => ?_)
      go_simp
      refine (HMF.out _ (Below.drew (Below.refl _ _))).mono ?_
      rintro e w6 ⟨u6, rfl, hu6, hb6⟩
      have B6 := Lib.hid (show Below wr.heap.size wr w6 from (Below.drew (Below.refl _ _)).trans (hb6.mono (by simp)))
      have X6 := Lib.hid (hu6.elr (by have := HFL.out; omega))
      refine hK _ _ (HKP.out _ B6.out) ?_
      clear hK K hu6 hb6
      refine wpSeq_do (List.getElem?_toArray.trans rfl) (fun K hK => ?_)
      go_simp
      refine (HCT.out _ _ B6.out X6.out).mono ?_
      rintro e w7 ⟨u1, u2, u3, rfl, hu1, hu2, hu3, hb7⟩
      have B7 := Lib.hid (B6.out.trans (hb7.mono B6.out.size))
      obtain ⟨b6, d6, rfl⟩ := hu1.form
      obtain ⟨b7, d7, rfl⟩ := hu2.form
      obtain ⟨b8, d8, rfl⟩ := hu3.form
      have hw6 : w.heap.size + 1 ≤ w6.heap.size := Nat.le_trans hwr1 B6.out.size
      have X8 := Lib.hid (And.intro (hu1.base hw6) (And.intro (hu2.base hw6) (hu3.base hw6)))
      refine hK _ _ (HKP.out _ B7.out) ?_
      clear hK K hu1 hu2 hu3 hb7
      refine wpSeq_nil ?_
      simp only [Exit.then]
      have R8 := Lib.hid (HR6.out.below B7.out)
      have HZ := Lib.hid (below_put3 (a := .slice b6 S1.length d6) (b := .slice b7 S2.length d7) (c := .slice b8 S3.length d8) (HBB.out.trans (B7.out.mono HBB.out.size)) (Nat.le_refl w.heap.size))
      have HZ2 := Lib.hid (R8.out.put (.slice b6 S1.length d6) (.slice b7 S2.length d7) (.slice b8 S3.length d8))
      have X9 := Lib.hid (show Elr _ (.slice b6 S1.length d6) p S1 ∧ Elr _ (.slice b7 S2.length d7) p S2 ∧ Elr _ (.slice b8 S3.length d8) p S3 from
        ⟨(X8.out.1.far3 (a := .slice b6 S1.length d6) (b := .slice b7 S2.length d7) (c := .slice b8 S3.length d8) (Nat.lt_succ_self w.heap.size)).elr (by have := HML.out; omega), (X8.out.2.1.far3 (a := .slice b6 S1.length d6) (b := .slice b7 S2.length d7) (c := .slice b8 S3.length d8) (Nat.lt_succ_self w.heap.size)).elr (by have := HML.out; omega), (X8.out.2.2.far3 (a := .slice b6 S1.length d6) (b := .slice b7 S2.length d7) (c := .slice b8 S3.length d8) (Nat.lt_succ_self w.heap.size)).elr (by have := HML.out; omega)⟩)
      obtain ⟨e0, e1, e2, g0, g1, g2, gs⟩ := R8.out
      go_wp2_with fail
      have t0 := HZ2.out.c0
      have t1 := HZ2.out.c1
      have t2 := HZ2.out.c2
      refine bodyPost_ret (v := .agg #[.slice b6 S1.length d6, .slice b7 S2.length d7, .slice b8 S3.length d8]) (by simp [results, Try.results79, go_sem, t0, t1, t2]) rfl ⟨_, _, _, rfl, by rw [HT.out]; exact X9.out.1, by rw [HT.out]; exact X9.out.2.1, by rw [HT.out]; exact X9.out.2.2, HZ.out⟩
    · have hgt : (n.a.length : Int) > 0 := by omega
      have hiv := iv_ok HP.out tn.ca tn.ea (by omega)
      have HDV := Lib.hid (iDivided p _ _ m.a n.a wr HP.out hA.2.1.elr hB.2.1.elr tm.ea tn.ea tn.ca (by omega) (by omega) (by omega))
      have HS := Lib.hid (eucS_ok HP.out tm tn hiv)
      have HQL := Lib.hid (show (divQ p m.a n.a (ivL p n.a)).length ≤ 10 from by rw [divQ_len]; unfold dvN; omega)
      have HQE := Lib.hid (divQ_allE (show 0 < p by omega) m.a n.a (ivL p n.a))
      obtain ⟨j, hj, hst⟩ := eucN_step (p := p) (inv := ivV p) (m := m) hn0 hnk
      have HST := Lib.hid (And.intro hj hst)
      have e1 := rest_eq HP.out tm.ca tm.ea hiv
      have e2 := without_eq (p := p) (by omega) m.b n.b (divQ p m.a n.a (ivL p n.a))
      have e3 := without_eq (p := p) (by omega) m.c n.c (divQ p m.a n.a (ivL p n.a))
      have HEU := Lib.hid (show eucS p (ivL p n.a) m n = ⟨addL p m.a (mlU p n.a (negL p (divQ p m.a n.a (ivL p n.a)))), addL p m.b (mlU p n.b (negL p (divQ p m.a n.a (ivL p n.a)))), addL p m.c (mlU p n.c (negL p (divQ p m.a n.a (ivL p n.a))))⟩ from by rw [e1, e2, e3]; rfl)
      obtain ⟨Q, hQ⟩ : ∃ Q, Q = divQ p m.a n.a (ivL p n.a) := ⟨_, rfl⟩
      rw [← hQ] at HDV HQL HQE HEU
      have hkk' := hkk
      have HWO := Lib.hid (fun u w' (hb' : Below wr.heap.size wr w') (hu : Elr w' u p Q) => iWithout p _ _ _ _ _ _ u m.a m.b m.c n.a n.b n.c Q w' HP.out (hA.2.1.below hb').elr (hA.2.2.1.below hb').elr (hA.2.2.2.below hb').elr (hB.2.1.below hb').elr (hB.2.2.1.below hb').elr (hB.2.2.2.below hb').elr hu tm.ea tm.eb tm.ec tn.ea tn.eb tn.ec HQE.out (by omega) (by omega) (by omega) (by omega) (by omega) (by omega) (by have := HQL.out; omega))
      obtain ⟨V, hV⟩ : ∃ V, V = addL p m.a (mlU p n.a (negL p Q)) := ⟨_, rfl⟩
      obtain ⟨D1, hD1⟩ : ∃ V, V = addL p m.b (mlU p n.b (negL p Q)) := ⟨_, rfl⟩
      obtain ⟨D2, hD2⟩ : ∃ V, V = addL p m.c (mlU p n.c (negL p Q)) := ⟨_, rfl⟩
      rw [← hV, ← hD1, ← hD2] at HEU HWO
      have hts := HS.out
      rw [HEU.out] at hts
      have HTS := Lib.hid hts
      have hla : V.length ≤ n.a.length - 1 := hts.la
      have hlb : D1.length ≤ kk + 10 := hts.lb
      have hlc : D2.length ≤ kk + 10 := hts.lc
      have HLL := Lib.hid (show V.length ≤ 10 ∧ D1.length ≤ 200 ∧ D2.length ≤ 200 from ⟨by omega, by omega, by omega⟩)
      clear hA hB hR6 hb tm tn he hkk hst hj hiv e1 e2 e3 hQ hV hD1 hD2 hts HS
      go_wp2_with fail
      refine HDV.out.mono ?_
      rintro e ws ⟨tq, tr, rfl, hq4, hr4, hb4⟩
      have HQ4 := Lib.hid hq4
      have HB4 := Lib.hid hb4
      obtain ⟨qa, qc, rfl⟩ := hq4.form
      obtain ⟨ra, rc, rfl⟩ := hr4.form
      clear hq4 hr4 hb4
      have HA4 := Lib.hid (HTA.out.below HB4.out)
      have HB5 := Lib.hid (HTB.out.below HB4.out)
      clear ca0 ca1 ca2 cb0 cb1 cb2 fa0 fa1 fa2 fb0 fb1 fb2
      obtain ⟨ca0, ca1, ca2, fa0, fa1, fa2, hAs4⟩ := HA4.out.1
      obtain ⟨cb0, cb1, cb2, fb0, fb1, fb2, hBs4⟩ := HB5.out.1
      have hKB : ∀ w', Below ws.heap.size ws w' → w'.cell? ⟨B, 0, none⟩ = some (.slice bx n.a.length dx) ∧ w'.cell? ⟨B, 1, none⟩ = some (.slice by' n.b.length dy) ∧ w'.cell? ⟨B, 2, none⟩ = some (.slice bz n.c.length dz) := fun w' hb' =>
        ⟨(HB5.out.1.below hb').c0, (HB5.out.1.below hb').c1, (HB5.out.1.below hb').c2⟩
      have HKB := Lib.hid hKB
      clear hKB
      go_wp2_with fail
      refine wp_region_seq [(0, true), (2, true), (3, true), (1, false), (4, false), (5, false)] (fun w' => w'.cell? ⟨B, 0, none⟩ = some (.slice bx n.a.length dx) ∧ w'.cell? ⟨B, 1, none⟩ = some (.slice by' n.b.length dy) ∧ w'.cell? ⟨B, 2, none⟩ = some (.slice bz n.c.length dz)) (by kernel_rfl) (by kernel_rfl) rfl (by first | (intro c a d v w h; cases d <;> exact h) | (rintro c a d v w ⟨h, _⟩; cases h)) (HKB.out _ (Below.drew (Below.refl _ _))) ?_
      iterate 3 (refine wpSeq_take (v := ?_) (List.getElem?_toArray.trans rfl) ?_ ?_; rotate_left; (intro w' hSw; (try dsimp only at hSw); go_simp; (try with_reducible rfl)); (try simp only [Act.put, List.setIfInBounds_toArray, List.set_cons_zero, List.set_cons_succ]))
      have bD : Below ws.heap.size ws ws.drew := Below.drew (Below.refl _ _)
      obtain ⟨wd, hwd⟩ : ∃ wd, wd = ws.drew := ⟨_, rfl⟩
      rw [← hwd] at bD ⊢
      have HBD := Lib.hid bD
      clear ca0 ca1 ca2 fa0 fa1 fa2 cb0 cb1 cb2 fb0 fb1 fb2
      obtain ⟨ca0, ca1, ca2, fa0, fa1, fa2, hAsd⟩ := HA4.out.1.below bD
      clear hwd bD
      refine wpSeq_do (List.getElem?_toArray.trans rfl) (fun K hK => ?_)
      go_simp
      refine hK _ _ (HKB.out _ HBD.out) ?_
      clear hK K
      refine wpSeq_do (List.getElem?_toArray.trans rfl) (fun K hK => ?_)
      go_simp
      refine (HWO.out _ wd (HB4.out.trans (HBD.out.mono HB4.out.size)) (HQ4.out.below HBD.out)).mono ?_
      rintro e w6 ⟨u1, u2, u3, rfl, hu1, hu2, hu3, hb6⟩
      have HU1 := Lib.hid (show OffE (fun g => g = A ∨ g = B) w6 u1 p V from hu1.offE (by have := HLL.out; omega) (fun g hg _ h => by have := HBD.out.size; omega))
      have HU2 := Lib.hid (show OffE (fun g => g = A ∨ g = B) w6 u2 p D1 from hu2.offE (by have := HLL.out; omega) (fun g hg _ h => by have := HBD.out.size; omega))
      have HU3 := Lib.hid (show OffE (fun g => g = A ∨ g = B) w6 u3 p D2 from hu3.offE (by have := HLL.out; omega) (fun g hg _ h => by have := HBD.out.size; omega))
      obtain ⟨e1, f1, rfl⟩ := hu1.form
      obtain ⟨e2, f2, rfl⟩ := hu2.form
      obtain ⟨e3, f3, rfl⟩ := hu3.form
      have HB6 := Lib.hid (HBD.out.trans (hb6.mono HBD.out.size))
      clear hu1 hu2 hu3 hb6 ca0 ca1 ca2 fa0 fa1 fa2
      refine hK _ _ (HKB.out _ HB6.out) ?_
      clear hK K
      have TA := Lib.hid (HA4.out.below HB6.out)
      have TB := Lib.hid (HB5.out.below HB6.out)
      have T6 := Lib.hid (HR6.out.below (HB4.out.trans (HB6.out.mono HB4.out.size)))
      have TW := Lib.hid (HBB.out.trans ((HB4.out.trans (HB6.out.mono HB4.out.size)).mono HBB.out.size))
      have hAB : A ≠ B := by omega
      have hAR : A ≠ w.heap.size := by omega
      have hBR : B ≠ w.heap.size := by omega
      obtain ⟨ca0, ca1, ca2, fa0, fa1, fa2, hAs6⟩ := TA.out.1
      refine wpSeq_do (List.getElem?_toArray.trans rfl) (fun K hK => ?_)
      go_simp
      have TA1 := Lib.hid (TriE.put3 TA.out.1 TB.out.2.1 TB.out.2.2.1 TB.out.2.2.2 (.inl rfl))
      have TB1 := Lib.hid (TB.out.1.other3 (a := .slice bx n.a.length dx) (b := .slice by' n.b.length dy) (c := .slice bz n.c.length dz) hAB)
      have T61 := Lib.hid (T6.out.other3 (a := .slice bx n.a.length dx) (b := .slice by' n.b.length dy) (c := .slice bz n.c.length dz) hAR)
      have TW1 := Lib.hid (below_put3 (a := .slice bx n.a.length dx) (b := .slice by' n.b.length dy) (c := .slice bz n.c.length dz) TW.out (show w.heap.size ≤ A by omega))
      have V1 := Lib.hid (And.intro (HU1.out.set3 (n := A) (a := .slice bx n.a.length dx) (b := .slice by' n.b.length dy) (c := .slice bz n.c.length dz) (.inl rfl)) (And.intro (HU2.out.set3 (n := A) (a := .slice bx n.a.length dx) (b := .slice by' n.b.length dy) (c := .slice bz n.c.length dz) (.inl rfl)) (HU3.out.set3 (n := A) (a := .slice bx n.a.length dx) (b := .slice by' n.b.length dy) (c := .slice bz n.c.length dz) (.inl rfl))))
      refine hK _ _ ⟨TB1.out.c0, TB1.out.c1, TB1.out.c2⟩ ?_
      clear hK K
      obtain ⟨z1, hz1⟩ : ∃ z1, z1 = (((w6.setCell ⟨A, 0, none⟩ (.slice bx n.a.length dx)).setCell ⟨A, 1, none⟩ (.slice by' n.b.length dy)).setCell ⟨A, 2, none⟩ (.slice bz n.c.length dz)) := ⟨_, rfl⟩
      rw [← hz1] at TA1 TB1 T61 TW1 V1 ⊢
      clear hz1 ca0 ca1 ca2 fa0 fa1 fa2 TA TB T6 TW HU1 HU2 HU3
      refine wpSeq_nil ?_
      simp only [Exit.then]
      have TA3 := Lib.hid (TA1.out.set3 (a := .slice e1 V.length f1) (b := .slice e2 D1.length f2) (c := .slice e3 D2.length f3) (.inr rfl) (Ne.symm hAB))
      have TB3 := Lib.hid (TriE.put3 (T := ⟨V, D1, D2⟩) TB1.out V1.out.1 V1.out.2.1 V1.out.2.2 (.inr rfl))
      have T63 := Lib.hid (T61.out.other3 (a := .slice e1 V.length f1) (b := .slice e2 D1.length f2) (c := .slice e3 D2.length f3) hBR)
      have TW3 := Lib.hid (below_put3 (a := .slice e1 V.length f1) (b := .slice e2 D1.length f2) (c := .slice e3 D2.length f3) TW1.out (show w.heap.size ≤ B by omega))
      obtain ⟨cb0, cb1, cb2, fb0, fb1, fb2, hBs6⟩ := TB1.out
      go_wp2_with fail
      obtain ⟨z3, hz3⟩ : ∃ z3, z3 = (((z1.setCell ⟨B, 0, none⟩ (.slice e1 V.length f1)).setCell ⟨B, 1, none⟩ (.slice e2 D1.length f2)).setCell ⟨B, 2, none⟩ (.slice e3 D2.length f3)) := ⟨_, rfl⟩
      rw [← hz3] at TA3 TB3 T63 TW3 ⊢
      clear hz3 cb0 cb1 cb2 fb0 fb1 fb2 TA1 TB1 T61 TW1 V1
      have hm1 : lenC z3 B = V.length := by unfold lenC; rw [TB3.out.1.c0]; rfl
      have hm0 : lenC wr B = n.a.length := by unfold lenC; rw [HTB.out.1.c0]; rfl
      have hend : ∃ (m n : Tri) (k kk : Nat) (x y z x' y' z' : Value), TriE (fun g => g = A ∨ g = B) p z3 A x y z m ∧ TriE (fun g => g = A ∨ g = B) p z3 B x' y' z' n ∧ Bx3 z3 w.heap.size (.slice none 0 0) (.slice none 0 0) (.slice none 0 0) ∧ TOk p m 10 kk ∧ TOk p n 10 kk ∧ kk + 10 * n.a.length ≤ 101 ∧ eucN p (ivV p) k m n = euG p L1 L2 ∧ n.a.length ≤ k ∧ Below w.heap.size w z3 := by
        refine ⟨n, ⟨V, D1, D2⟩, j, kk + 10, _, _, _, _, _, _, TA3.out, TB3.out, T63.out, HTN.out.mono (Nat.le_refl _) (by omega), HTS.out.mono (by omega) (Nat.le_refl _), ?_, ?_, ?_, TW3.out⟩
        · show kk + 10 + 10 * V.length ≤ 101
          omega
        · rw [← HE.out, HST.out.2, show ivV p (cf n.a (n.a.length - 1)) = ivL p n.a from rfl, HEU.out]
        · have := HST.out.1
          show V.length ≤ j
          omega
      go_roundw
      case rel => first | exact hend | (iterate 28 apply Exists.intro; exact ⟨hend, rfl⟩)
      case measure => rw [hm1, hm0]; omega
end Go.Proofs.Ytfmpcniehgipfaa
namespace Go.Proofs.Ytfmpcniehgipfaa
set_option linter.unusedVariables false
open Go.RowKit
theorem eucN_some {p : Int} (hp : isP p = true) : ∀ (k : Nat) (m n : Tri) (kk : Nat), TOk p m 10 kk → TOk p n 10 kk → kk + 10 * n.a.length ≤ 101 → n.a.length ≤ k → (m.a.length ≠ 0 ∨ n.a.length ≠ 0) → (eucN p (ivV p) k m n).a.length ≠ 0 := by
  intro k
  induction k with
  | zero =>
    intro m n kk hm hn hk hl h
    exact h.resolve_right (fun e => e (by omega))
  | succ k ih =>
    intro m n kk hm hn hk hl h
    by_cases h0 : n.a.length = 0
    · rw [eucN_nil _ _ _ _ _ h0]; exact h.resolve_right (fun e => e h0)
    · show (Tri.a (if _ then _ else _)).length ≠ 0
      rw [if_neg h0]
      have hs := eucS_ok hp hm hn (iv_ok hp hn.ca hn.ea (by omega))
      have h2 : (eucS p (ivV p (cf n.a (n.a.length - 1))) m n).a.length ≤ n.a.length - 1 := hs.la
      exact ih _ _ (kk + 10) (hn.mono (Nat.le_refl _) (by omega)) (hs.mono (by have := hn.la; omega) (Nat.le_refl _)) (by omega) (by omega) (.inl h0)
theorem euT_some {p : Int} {L1 L2 : List Int} (hp : isP p = true) (e1 : AllE p L1) (e2 : AllE p L2) (c1 : Can L1) (c2 : Can L2) (l1 : L1.length ≤ 10) (l2 : L2.length ≤ 10) : (euT p L1 L2).a.length = 0 ↔ L1.length + L2.length = 0 := by
  have q := isP_bd hp
  have hg := euG_ok hp e1 e2 c1 c2 l1 l2
  constructor
  · intro h
    refine Classical.byContradiction fun hn => ?_
    have hs : (euG p L1 L2).a.length ≠ 0 := eucN_some hp _ _ _ 1 ⟨c1, one_can, Can.nil, e1, one_allE (by omega), nil_allE (by omega), l1, by simp, by simp⟩ ⟨c2, Can.nil, one_can, e2, nil_allE (by omega), one_allE (by omega), l2, by simp, by simp⟩ (by show 1 + 10 * L2.length ≤ 101; omega) (Nat.le_refl _) (by show L1.length ≠ 0 ∨ L2.length ≠ 0; omega)
    unfold euT at h
    rw [if_neg hs] at h
    have hiv := (iv_ok hp hg.ca hg.ea (by omega)).2.1
    have h1 : cf (smuL p (euG p L1 L2).a (ivL p (euG p L1 L2).a)) ((euG p L1 L2).a.length - 1) = 0 := cf_ge (by show (smuL p (euG p L1 L2).a (ivL p (euG p L1 L2).a)).length ≤ _; rw [show (smuL p (euG p L1 L2).a (ivL p (euG p L1 L2).a)).length = 0 from h]; omega)
    rw [smuL_cf, Int.mul_comm, hiv] at h1
    omega
  · intro h
    have a1 : L1 = [] := List.length_eq_zero_iff.1 (by omega)
    have a2 : L2 = [] := List.length_eq_zero_iff.1 (by omega)
    subst a1 a2
    rfl
/-- whether there is a combination -/
def bzB (p : Int) (L1 L2 : List Int) : Bool := (lineB p L1 && lineB p L2) && decide (¬ L1.length + L2.length = 0)
def bz1 (p : Int) (L1 L2 : List Int) : List Int := if bzB p L1 L2 = true then (euT p L1 L2).b else []
def bz2 (p : Int) (L1 L2 : List Int) : List Int := if bzB p L1 L2 = true then (euT p L1 L2).c else []
theorem bz_no {p : Int} {L1 L2 : List Int} (h : bzB p L1 L2 = false) : bz1 p L1 L2 = [] ∧ bz2 p L1 L2 = [] := by unfold bz1 bz2; rw [h]; exact ⟨rfl, rfl⟩
theorem bz_yes {p : Int} {L1 L2 : List Int} (h : bzB p L1 L2 = true) : bz1 p L1 L2 = (euT p L1 L2).b ∧ bz2 p L1 L2 = (euT p L1 L2).c := by unfold bz1 bz2; rw [h]; exact ⟨rfl, rfl⟩
set_option maxRecDepth 100000 in
set_option maxHeartbeats 4000000 in
theorem sBezoutLine (p : Int) (v1 v2 : Value) (L1 L2 : List Int) (w : World) (h1 : Ints w v1 L1) (h2 : Ints w v2 L2) (hl1 : L1.length ≤ 1048576) (hl2 : L2.length ≤ 1048576) :
    Calls Try.prog 34 #[.int .i64 p, v1, v2] w (GivesI2 (bz1 p L1 L2) (bz2 p L1 L2) (bzB p L1 L2) w) := by
  have HV1 := Lib.hid (sLineValid p v1 L1 w h1 hl1)
  have HV2 := Lib.hid (sLineValid p v2 L2 w h2 hl2)
  have HE1 := Lib.hid (show Below w.heap.size w ((w.alloc (Obj.cells #[] 3)).alloc (Obj.cells #[] 3)) from (by repeat (first | exact Below.refl _ _ | apply Below.drew | apply below_drewN | (refine Below.alloc ?_ (by first | omega | (simp <;> omega)) _))))
  have HNO := Lib.hid (show GivesI2 [] [] false w (.returned (.tuple #[.slice (some ⟨w.heap.size, 0, none⟩) 0 0, .slice (some ⟨w.heap.size + 1, 0, none⟩) 0 0, .bool false])) ((w.alloc (Obj.cells #[] 3)).alloc (Obj.cells #[] 3)) from
    ⟨_, _, w.heap.size, rfl, ⟨by simp, _, 0, rfl, .inl rfl⟩, .inl rfl, ⟨by simp, _, 0, rfl, .inl rfl⟩, Nat.le_refl _, HE1.out⟩)
  have hv1 := h1
  have hv2 := h2
  obtain ⟨_, a1, c1, rfl, _⟩ := hv1
  obtain ⟨_, a2, c2, rfl, _⟩ := hv2
  cases hB1 : lineB p L1
  · have hdl : bzB p L1 L2 = false := by unfold bzB; rw [hB1]; rfl
    have HV := Lib.hid (bz_no hdl)
    rw [hB1] at HV1
    rw [HV.out.1, HV.out.2, hdl]
    clear hB1 h1 h2 hdl
    go_enter Try.func34, Try.ntmps34
    go_wp2_with fail
    refine HV1.out.mono ?_
    rintro e w2 ⟨rfl, rfl⟩
    go_wp2_with fail
    refine bodyPost_ret (v := .tuple #[.slice (some ⟨w.heap.size, 0, none⟩) 0 0, .slice (some ⟨w.heap.size + 1, 0, none⟩) 0 0, .bool false]) (by simp [results, Try.results34, go_sem]) rfl HNO.out
  · cases hB2 : lineB p L2
    · have hdl : bzB p L1 L2 = false := by unfold bzB; rw [hB1, hB2]; rfl
      have HV := Lib.hid (bz_no hdl)
      rw [hB1] at HV1
      rw [hB2] at HV2
      rw [HV.out.1, HV.out.2, hdl]
      clear hB1 hB2 h1 h2 hdl
      go_enter Try.func34, Try.ntmps34
      go_wp2_with fail
      refine HV1.out.mono ?_
      rintro e w2 ⟨rfl, rfl⟩
      go_wp2_with fail
      refine HV2.out.mono ?_
      rintro e w2 ⟨rfl, rfl⟩
      go_wp2_with fail
      refine bodyPost_ret (v := .tuple #[.slice (some ⟨w.heap.size, 0, none⟩) 0 0, .slice (some ⟨w.heap.size + 1, 0, none⟩) 0 0, .bool false]) (by simp [results, Try.results34, go_sem]) rfl HNO.out
    · obtain ⟨hp, e1, l1, k1⟩ := lineB_iff.1 hB1
      obtain ⟨_, e2, l2, k2⟩ := lineB_iff.1 hB2
      rw [hB1] at HV1
      rw [hB2] at HV2
      have hwi : IntKind.i64.wrap ((L1.length : Int) + (L2.length : Int)) = (L1.length : Int) + (L2.length : Int) := IntWalk.i64_in _ (by omega)
      by_cases h0 : L1.length + L2.length = 0
      · have hdl : bzB p L1 L2 = false := by unfold bzB; rw [hB1, hB2, decide_eq_false (fun h => h h0)]; rfl
        have HV := Lib.hid (bz_no hdl)
        rw [HV.out.1, HV.out.2, hdl]
        have hz1 : (L1.length : Int) + (L2.length : Int) = 0 := by omega
        clear hB1 hB2 h1 h2 hdl h0 hp e1 e2 k1 k2 l1 l2 hl1 hl2
        go_enter Try.func34, Try.ntmps34
        go_wp2_with fail
        refine HV1.out.mono ?_
        rintro e w2 ⟨rfl, rfl⟩
        go_wp2_with fail
        refine HV2.out.mono ?_
        rintro e w2 ⟨rfl, rfl⟩
        go_wp2_with fail
        refine bodyPost_ret (v := .tuple #[.slice (some ⟨w.heap.size, 0, none⟩) 0 0, .slice (some ⟨w.heap.size + 1, 0, none⟩) 0 0, .bool false]) (by simp [results, Try.results34, go_sem]) rfl HNO.out
      · have hdl : bzB p L1 L2 = true := by unfold bzB; rw [hB1, hB2, decide_eq_true h0]; rfl
        have HV := Lib.hid (bz_yes hdl)
        rw [HV.out.1, HV.out.2, hdl]
        have HM := Lib.hid (sEuclid p _ _ L1 L2 w hp h1 h2 e1 e2 k1 k2 l1 l2)
        have HO := Lib.hid (euT_ok hp e1 e2 k1 k2 l1 l2)
        obtain ⟨T, hT⟩ : ∃ T, T = euT p L1 L2 := ⟨_, rfl⟩
        rw [← hT] at HM HO ⊢
        have hz1 : ¬ (L1.length : Int) + (L2.length : Int) = 0 := by omega
        have hzb : ((L1.length : Int) + (L2.length : Int) == 0) = false := beq_eq_false_iff_ne.2 hz1
        clear hB1 hB2 h1 h2 hdl h0 hT hp e1 e2 k1 k2 l1 l2
        go_enter Try.func34, Try.ntmps34
        go_wp2_with fail
        refine HV1.out.mono ?_
        rintro e w2 ⟨rfl, rfl⟩
        go_wp2_with fail
        refine HV2.out.mono ?_
        rintro e w2 ⟨rfl, rfl⟩
        go_wp2_with fail
        refine HM.out.mono ?_
        rintro e w3 ⟨x, y, z, rfl, hx, hy, hz, hb3⟩
        obtain ⟨ax, cx, rfl⟩ := hx.form
        obtain ⟨ay, cy, rfl⟩ := hy.form
        obtain ⟨az, cz, rfl⟩ := hz.form
        have HB3 := Lib.hid hb3
        have HY := Lib.hid (And.intro hy hz)
        clear hx hy hz hb3
        go_upto_region 4 with fail
        obtain ⟨W, hW⟩ : ∃ W, W = w3.alloc (Obj.cells #[.slice ax T.a.length cx, .slice ay T.b.length cy, .slice az T.c.length cz] 74) := ⟨_, rfl⟩
        rw [← hW]
        have bW : Below w3.heap.size w3 W := by rw [hW]; exact Below.alloc (Below.refl _ _) (Nat.le_refl _) _
        have xW : Bx3 W w3.heap.size (.slice ax T.a.length cx) (.slice ay T.b.length cy) (.slice az T.c.length cz) := by rw [hW]; exact Bx3.alloc _ _ _ _ _
        obtain ⟨R, hR⟩ : ∃ R, R = w3.heap.size := ⟨_, rfl⟩
        rw [← hR] at xW ⊢
        have HBW := Lib.hid (HB3.out.trans (bW.mono HB3.out.size))
        have HT1 := Lib.hid (fun w' (hb : Below W.heap.size W w') => sTrim _ T.b w' ((HY.out.1.below bW).below hb) (by have := HO.out.lb; omega))
        have HT2 := Lib.hid (fun w' (hb : Below W.heap.size W w') => sTrim _ T.c w' ((HY.out.2.below bW).below hb) (by have := HO.out.lc; omega))
        rw [trim_of HO.out.cb] at HT1
        rw [trim_of HO.out.cc] at HT2
        have HKP := Lib.hid (fun w' (hb' : Below W.heap.size W w') => show w'.cell? ⟨R, 1, none⟩ = some (.slice ay T.b.length cy) ∧ w'.cell? ⟨R, 2, none⟩ = some (.slice az T.c.length cz) from ⟨(xW.below hb').c1, (xW.below hb').c2⟩)
        clear hW bW xW hR
        refine wp_region_seq [(0, true), (1, true), (3, true), (4, true), (2, false), (5, false), (6, true), (7, true)] (fun w' => w'.cell? ⟨R, 1, none⟩ = some (.slice ay T.b.length cy) ∧ w'.cell? ⟨R, 2, none⟩ = some (.slice az T.c.length cz)) (by kernel_rfl) (by kernel_rfl) rfl (by first | (intro c a d v w h; cases d <;> exact h) | (rintro c a d v w ⟨h, _⟩; cases h)) (HKP.out _ (Below.drew (Below.refl _ _))) ?_
        iterate 4 (refine wpSeq_take (v := ?_) (List.getElem?_toArray.trans rfl) ?_ ?_; rotate_left; (intro w' hSw; (try dsimp only at hSw); go_simp; (try with_reducible rfl)); (try simp only [Act.put, List.setIfInBounds_toArray, List.set_cons_zero, List.set_cons_succ]))
        refine wpSeq_do (List.getElem?_toArray.trans rfl) (fun K hK => ?_)
        go_simp
        refine (HT1.out _ (Below.drew (Below.refl _ _))).mono ?_
        rintro e w6 ⟨u6, rfl, hu6, hb6⟩
        have B6 := Lib.hid (show Below W.heap.size W w6 from (Below.drew (Below.refl _ _)).trans (hb6.mono (by simp)))
        have X6 := Lib.hid (hu6.base (show W.heap.size ≤ _ from by simp))
        refine hK _ _ (HKP.out _ B6.out) ?_
        clear hK K hu6 hb6
        refine wpSeq_do (List.getElem?_toArray.trans rfl) (fun K hK => ?_)
        go_simp
        refine (HT2.out _ B6.out).mono ?_
        rintro e w7 ⟨u7, rfl, hu7, hb7⟩
        have B7 := Lib.hid (B6.out.trans (hb7.mono B6.out.size))
        have X7 := Lib.hid (show GivesI2 T.b T.c true w (.returned (.tuple #[u6, u7, .bool true])) w7 from
          ⟨_, _, w6.heap.size, rfl, ((X6.out.base HBW.out.size).own (by have := HO.out.lb; omega)).below hb7, X6.out.lie (Nat.le_refl _), hu7.own (by have := HO.out.lc; omega), Nat.le_trans HBW.out.size B6.out.size, HBW.out.trans (B7.out.mono HBW.out.size)⟩)
        refine hK _ _ (HKP.out _ B7.out) ?_
        clear hK K hu7 hb7
        iterate 2 (refine wpSeq_take (v := ?_) (List.getElem?_toArray.trans rfl) ?_ ?_; rotate_left; (intro w' hSw; (try dsimp only at hSw); go_simp; (try with_reducible rfl)); (try simp only [Act.put, List.setIfInBounds_toArray, List.set_cons_zero, List.set_cons_succ]))
        refine wpSeq_nil ?_
        simp only [Exit.then]
        go_wp2_with fail
        refine bodyPost_ret (v := .tuple #[u6, u7, .bool true]) (by simp [results, Try.results34, go_sem]) rfl X7.out
end Go.Proofs.Ytfmpcniehgipfaa
namespace Go.Proofs.Ytfmpcniehgipfaa
set_option linter.unusedVariables false
open Go.RowKit
set_option maxRecDepth 100000 in
set_option maxHeartbeats 4000000 in
theorem iBezoutLine (p : Int) (v1 v2 : Value) (L1 L2 : List Int) (w : World) (h1 : Ints w v1 L1) (h2 : Ints w v2 L2) (hl1 : L1.length ≤ 1048576) (hl2 : L2.length ≤ 1048576) :
    Calls Try.prog 35 #[.int .i64 p, v1, v2] w (GivesI2 (bz1 p L1 L2) (bz2 p L1 L2) (bzB p L1 L2) w) := by
  have HV1 := Lib.hid (iLineValid p v1 L1 w h1 hl1)
  have HV2 := Lib.hid (iLineValid p v2 L2 w h2 hl2)
  have HNO := Lib.hid (show GivesI2 [] [] false w (.returned (.tuple #[.slice none 0 0, .slice none 0 0, .bool false])) w from
    ⟨_, _, w.heap.size, rfl, (RowN.nil _ _).own (by simp), .inl rfl, (RowN.nil _ _).own (by simp), Nat.le_refl _, Below.refl _ _⟩)
  cases hB1 : lineB p L1
  · have hdl : bzB p L1 L2 = false := by unfold bzB; rw [hB1]; rfl
    have HV := Lib.hid (bz_no hdl)
    rw [hB1] at HV1
    rw [HV.out.1, HV.out.2, hdl]
    clear hB1 h1 h2 hdl
    go_enter Try.func35, Try.ntmps35
    go_wp2_with fail
    refine HV1.out.mono ?_
    rintro e w2 ⟨rfl, rfl⟩
    go_wp2_with fail
    refine bodyPost_ret (v := .tuple #[.slice none 0 0, .slice none 0 0, .bool false]) (by simp [results, Try.results35, go_sem]) rfl HNO.out
  · cases hB2 : lineB p L2
    · have hdl : bzB p L1 L2 = false := by unfold bzB; rw [hB1, hB2]; rfl
      have HV := Lib.hid (bz_no hdl)
      rw [hB1] at HV1
      rw [hB2] at HV2
      rw [HV.out.1, HV.out.2, hdl]
      clear hB1 hB2 h1 h2 hdl
      go_enter Try.func35, Try.ntmps35
      go_wp2_with fail
      refine HV1.out.mono ?_
      rintro e w2 ⟨rfl, rfl⟩
      go_wp2_with fail
      refine HV2.out.mono ?_
      rintro e w2 ⟨rfl, rfl⟩
      go_wp2_with fail
      refine bodyPost_ret (v := .tuple #[.slice none 0 0, .slice none 0 0, .bool false]) (by simp [results, Try.results35, go_sem]) rfl HNO.out
    · obtain ⟨hp, e1, l1, k1⟩ := lineB_iff.1 hB1
      obtain ⟨_, e2, l2, k2⟩ := lineB_iff.1 hB2
      have HO1 := Lib.hid (fun w' (hb : Below w.heap.size w w') => iLineOf p v1 L1 w' (h1.below hb) (by omega))
      have HO2 := Lib.hid (fun w' (hb : Below w.heap.size w w') => iLineOf p v2 L2 w' (h2.below hb) (by omega))
      have HM := Lib.hid (fun x1 x2 w' (q1 : Elr w' x1 p L1) (q2 : Elr w' x2 p L2) => iCommon p x1 x2 L1 L2 w' hp q1 q2 e1 e2 k1 k2 l1 l2)
      have HO := Lib.hid (euT_ok hp e1 e2 k1 k2 l1 l2)
      have HLEN := Lib.hid (And.intro l1 l2)
      rw [hB1] at HV1
      rw [hB2] at HV2
      have hs := euT_some hp e1 e2 k1 k2 l1 l2
      have hdl : bzB p L1 L2 = decide (¬ (euT p L1 L2).a.length = 0) := by
        unfold bzB
        rw [hB1, hB2, Bool.true_and, Bool.true_and]
        by_cases h0 : L1.length + L2.length = 0
        · have h2 : ¬ ¬ (euT p L1 L2).a.length = 0 := fun h => h (hs.2 h0)
          rw [decide_eq_false (fun h => h h0), decide_eq_false h2]
        · have h2 : ¬ (euT p L1 L2).a.length = 0 := fun h => h0 (hs.1 h)
          rw [decide_eq_true h0, decide_eq_true h2]
      have hbz : (bz1 p L1 L2 = if bzB p L1 L2 = true then (euT p L1 L2).b else []) ∧ (bz2 p L1 L2 = if bzB p L1 L2 = true then (euT p L1 L2).c else []) := ⟨rfl, rfl⟩
      rw [hbz.1, hbz.2, hdl]
      obtain ⟨T, hT⟩ : ∃ T, T = euT p L1 L2 := ⟨_, rfl⟩
      rw [← hT] at HM HO ⊢
      clear hB1 hB2 h1 h2 hT hp e1 e2 k1 k2 l1 l2 hs hdl hbz
      by_cases hT0 : T.a.length = 0
      · rw [decide_eq_false (fun h => h hT0)]
        simp only [Bool.false_eq_true, if_false]
        have HT0 := Lib.hid hT0
        clear hT0
        go_enter Try.func35, Try.ntmps35
        go_wp2_with fail
        refine HV1.out.mono ?_
        rintro e w2 ⟨rfl, rfl⟩
        go_wp2_with fail
        refine HV2.out.mono ?_
        rintro e w2 ⟨rfl, rfl⟩
        go_wp2_with fail
        refine (HO1.out _ (Below.refl _ _)).mono ?_
        rintro e w3 ⟨u3, rfl, hu3, hb3⟩
        have HB3 := Lib.hid hb3
        have HU3 := Lib.hid (hu3.elr (by have := HLEN.out; omega))
        clear hu3 hb3
        go_wp2_with fail
        refine (HO2.out _ HB3.out).mono ?_
        rintro e w4 ⟨u4, rfl, hu4, hb4⟩
        have HB4 := Lib.hid (HB3.out.trans (hb4.mono HB3.out.size))
        have HU4 := Lib.hid (And.intro (HU3.out.below hb4) (hu4.elr (by have := HLEN.out; omega)))
        clear hu4 hb4
        go_wp2_with fail
        refine (HM.out _ _ _ HU4.out.1 HU4.out.2).mono ?_
        rintro e w5 ⟨x, y, z, rfl, hx, hy, hz, hb5⟩
        have HB5 := Lib.hid (HB4.out.trans (hb5.mono HB4.out.size))
        obtain ⟨ax, cx, rfl⟩ := hx.form
        obtain ⟨ay, cy, rfl⟩ := hy.form
        obtain ⟨az, cz, rfl⟩ := hz.form
        have HY := Lib.hid (And.intro hy hz)
        clear hx hy hz hb5
        go_upto_region 4 with fail
        obtain ⟨W, hW⟩ : ∃ W, W = w5.alloc (Obj.cells #[.slice ax T.a.length cx, .slice ay T.b.length cy, .slice az T.c.length cz] 77) := ⟨_, rfl⟩
        rw [← hW]
        have bW : Below w5.heap.size w5 W := by rw [hW]; exact Below.alloc (Below.refl _ _) (Nat.le_refl _) _
        have xW : Bx3 W w5.heap.size (.slice ax T.a.length cx) (.slice ay T.b.length cy) (.slice az T.c.length cz) := by rw [hW]; exact Bx3.made _ _ _ _ _
        obtain ⟨R, hR⟩ : ∃ R, R = w5.heap.size := ⟨_, rfl⟩
        rw [← hR] at xW ⊢
        have HBW := Lib.hid (HB5.out.trans (bW.mono HB5.out.size))
        have HT1 := Lib.hid (fun w' (hb : Below W.heap.size W w') => iNumbersOf p _ T.b w' ((HY.out.1.below bW).below hb) (by have := HO.out.lb; omega))
        have HT2 := Lib.hid (fun w' (hb : Below W.heap.size W w') => iNumbersOf p _ T.c w' ((HY.out.2.below bW).below hb) (by have := HO.out.lc; omega))
        have HXW := Lib.hid xW
        have r0 := xW.c0
        clear hW bW xW hR
        have hbq : ((T.a.length : Int) == 0) = true := by rw [HT0.out]; rfl
        have hT0' : (T.a.length : Int) = 0 := by have := HT0.out; omega
        go_wp2_with fail
        have HN := Lib.hid (show GivesI2 [] [] false w (.returned (.tuple #[.slice none 0 0, .slice none 0 0, .bool false])) W from
          ⟨_, _, w.heap.size, rfl, (RowN.nil _ _).own (by simp), .inl rfl, (RowN.nil _ _).own (by simp), Nat.le_refl _, HBW.out⟩)
        refine bodyPost_ret (v := .tuple #[.slice none 0 0, .slice none 0 0, .bool false]) (by simp [results, Try.results35, go_sem]) rfl HN.out
      · rw [decide_eq_true hT0]
        simp only [if_true]
        have HT0 := Lib.hid hT0
        clear hT0
        go_enter Try.func35, Try.ntmps35
        go_wp2_with fail
        refine HV1.out.mono ?_
        rintro e w2 ⟨rfl, rfl⟩
        go_wp2_with fail
        refine HV2.out.mono ?_
        rintro e w2 ⟨rfl, rfl⟩
        go_wp2_with fail
        refine (HO1.out _ (Below.refl _ _)).mono ?_
        rintro e w3 ⟨u3, rfl, hu3, hb3⟩
        have HB3 := Lib.hid hb3
        have HU3 := Lib.hid (hu3.elr (by have := HLEN.out; omega))
        clear hu3 hb3
        go_wp2_with fail
        refine (HO2.out _ HB3.out).mono ?_
        rintro e w4 ⟨u4, rfl, hu4, hb4⟩
        have HB4 := Lib.hid (HB3.out.trans (hb4.mono HB3.out.size))
        have HU4 := Lib.hid (And.intro (HU3.out.below hb4) (hu4.elr (by have := HLEN.out; omega)))
        clear hu4 hb4
        go_wp2_with fail
        refine (HM.out _ _ _ HU4.out.1 HU4.out.2).mono ?_
        rintro e w5 ⟨x, y, z, rfl, hx, hy, hz, hb5⟩
        have HB5 := Lib.hid (HB4.out.trans (hb5.mono HB4.out.size))
        obtain ⟨ax, cx, rfl⟩ := hx.form
        obtain ⟨ay, cy, rfl⟩ := hy.form
        obtain ⟨az, cz, rfl⟩ := hz.form
        have HY := Lib.hid (And.intro hy hz)
        clear hx hy hz hb5
        go_upto_region 4 with fail
        obtain ⟨W, hW⟩ : ∃ W, W = w5.alloc (Obj.cells #[.slice ax T.a.length cx, .slice ay T.b.length cy, .slice az T.c.length cz] 77) := ⟨_, rfl⟩
        rw [← hW]
        have bW : Below w5.heap.size w5 W := by rw [hW]; exact Below.alloc (Below.refl _ _) (Nat.le_refl _) _
        have xW : Bx3 W w5.heap.size (.slice ax T.a.length cx) (.slice ay T.b.length cy) (.slice az T.c.length cz) := by rw [hW]; exact Bx3.made _ _ _ _ _
        obtain ⟨R, hR⟩ : ∃ R, R = w5.heap.size := ⟨_, rfl⟩
        rw [← hR] at xW ⊢
        have HBW := Lib.hid (HB5.out.trans (bW.mono HB5.out.size))
        have HT1 := Lib.hid (fun w' (hb : Below W.heap.size W w') => iNumbersOf p _ T.b w' ((HY.out.1.below bW).below hb) (by have := HO.out.lb; omega))
        have HT2 := Lib.hid (fun w' (hb : Below W.heap.size W w') => iNumbersOf p _ T.c w' ((HY.out.2.below bW).below hb) (by have := HO.out.lc; omega))
        have HXW := Lib.hid xW
        have r0 := xW.c0
        clear hW bW xW hR
        have hbq : ((T.a.length : Int) == 0) = false := beq_eq_false_iff_ne.2 (by have := HT0.out; omega)
        have hT0' : ¬ (T.a.length : Int) = 0 := by have := HT0.out; omega
        have HKP := Lib.hid (fun w' (hb' : Below W.heap.size W w') => show w'.cell? ⟨R, 1, none⟩ = some (.slice ay T.b.length cy) ∧ w'.cell? ⟨R, 2, none⟩ = some (.slice az T.c.length cz) from ⟨(HXW.out.below hb').c1, (HXW.out.below hb').c2⟩)
        go_upto_region 6 with fail
        refine wp_region_seq [(0, true), (1, true), (3, true), (4, true), (2, false), (5, false), (6, true), (7, true)] (fun w' => w'.cell? ⟨R, 1, none⟩ = some (.slice ay T.b.length cy) ∧ w'.cell? ⟨R, 2, none⟩ = some (.slice az T.c.length cz)) (by kernel_rfl) (by kernel_rfl) rfl (by first | (intro c a d v w h; cases d <;> exact h) | (rintro c a d v w ⟨h, _⟩; cases h)) (HKP.out _ (Below.drew (Below.refl _ _))) ?_
        iterate 4 (refine wpSeq_take (v := ?_) (List.getElem?_toArray.trans rfl) ?_ ?_; rotate_left; (intro w' hSw; (try dsimp only at hSw); go_simp; (try with_reducible rfl)); (try simp only [Act.put, List.setIfInBounds_toArray, List.set_cons_zero, List.set_cons_succ]))
        refine wpSeq_do (List.getElem?_toArray.trans rfl) (fun K hK => ?_)
        go_simp
        refine (HT1.out _ (Below.drew (Below.refl _ _))).mono ?_
        rintro e w6 ⟨u6, rfl, hu6, hb6⟩
        have B6 := Lib.hid (show Below W.heap.size W w6 from (Below.drew (Below.refl _ _)).trans (hb6.mono (by simp)))
        have X6 := Lib.hid (hu6.base (show W.heap.size ≤ _ from by simp))
        refine hK _ _ (HKP.out _ B6.out) ?_
        clear hK K hu6 hb6
        refine wpSeq_do (List.getElem?_toArray.trans rfl) (fun K hK => ?_)
        go_simp
        refine (HT2.out _ B6.out).mono ?_
        rintro e w7 ⟨u7, rfl, hu7, hb7⟩
        have B7 := Lib.hid (B6.out.trans (hb7.mono B6.out.size))
        have X7 := Lib.hid (show GivesI2 T.b T.c true w (.returned (.tuple #[u6, u7, .bool true])) w7 from
          ⟨_, _, w6.heap.size, rfl, ((X6.out.base HBW.out.size).own (by have := HO.out.lb; omega)).below hb7, X6.out.lie (Nat.le_refl _), hu7.own (by have := HO.out.lc; omega), Nat.le_trans HBW.out.size B6.out.size, HBW.out.trans (B7.out.mono HBW.out.size)⟩)
        refine hK _ _ (HKP.out _ B7.out) ?_
        clear hK K hu7 hb7
        iterate 2 (refine wpSeq_take (v := ?_) (List.getElem?_toArray.trans rfl) ?_ ?_; rotate_left; (intro w' hSw; (try dsimp only at hSw); go_simp; (try with_reducible rfl)); (try simp only [Act.put, List.setIfInBounds_toArray, List.set_cons_zero, List.set_cons_succ]))
        refine wpSeq_nil ?_
        simp only [Exit.then]
        go_wp2_with fail
        refine bodyPost_ret (v := .tuple #[u6, u7, .bool true]) (by simp [results, Try.results35, go_sem]) rfl X7.out
end Go.Proofs.Ytfmpcniehgipfaa
namespace Go.Proofs.Ytfmpcniehgipfaa
set_option linter.unusedVariables false
open Go.RowKit
set_option maxRecDepth 100000 in
set_option maxHeartbeats 8000000 in
theorem xBezoutLine_in (a0 : Int) (a1 : Option Addr) (L1 : List Int) (c1 : Nat) (a2 : Option Addr) (L2 : List Int) (c2 : Nat) (r0 r1 : List Int) (r2 : Bool) (w : World) (h1 : Ints w (.slice a1 L1.length c1) L1) (h2 : Ints w (.slice a2 L2.length c2) L2) (hl1 : L1.length ≤ 1048576) (hl2 : L2.length ≤ 1048576)
    (hS : ∀ f1, ∀ f2, ∀ w, Ints w f1 L1 → Ints w f2 L2 → Calls Try.prog 34 #[.int .i64 a0, f1, f2] w (GivesI2 r0 r1 r2 w))
    (hI : ∀ f1, ∀ f2, ∀ w, Ints w f1 L1 → Ints w f2 L2 → Calls Try.prog 35 #[.int .i64 a0, f1, f2] w (GivesI2 r0 r1 r2 w)) :
    Calls Try.prog 8 #[.int .i64 a0, .slice a1 L1.length c1, .slice a2 L2.length c2] w fun e w' => e = .returned (.bool true) ∧ Below w.heap.size w w' := by
  have hng1 : ¬ (L1.length : Int) > 1048576 := by omega
  have Q1 := Lib.hid h1
  have hng2 : ¬ (L2.length : Int) > 1048576 := by omega
  have Q2 := Lib.hid h2
  have n1 : (L1.length : Int) ≤ 1048576 := by omega
  have n2 : (L2.length : Int) ≤ 1048576 := by omega
  clear h1 h2
  have HSP := Lib.hid hS
  have HIM := Lib.hid hI
  clear hS hI
  have bb2 := bne_self2 r2
  go_enter Try.func8, Try.ntmps8
  have B := Lib.hid (Below.refl w.heap.size w)
  go_wp2_with fail
  refine (toIv _ L1 _ (Q1.out.below B.out) hl1).mono ?_
  rintro e W1 ⟨s1, rfl, ho, hb⟩
  have Z1 := Lib.hid hb.size
  replace B := Lib.hid (B.out.trans (hb.mono B.out.size))
  clear hb
  have S1 := Lib.hid ho.ints
  clear ho
  go_wp2_with fail
  refine (toIv _ L2 _ (Q2.out.below B.out) hl2).mono ?_
  rintro e W2 ⟨s2, rfl, ho, hb⟩
  have Z2 := Lib.hid hb.size
  replace B := Lib.hid (B.out.trans (hb.mono B.out.size))
  replace S1 := Lib.hid (S1.out.below hb)
  clear hb
  have S2 := Lib.hid ho.ints
  clear ho
  go_wp2_with fail
  refine (HSP.out _ _ _ S1.out S2.out).mono ?_
  rintro e W3 ⟨v0, v1, Cs, rfl, hv0, _, hv1, _, hb⟩
  have Z3 := Lib.hid hb.size
  replace B := Lib.hid (B.out.trans (hb.mono B.out.size))
  replace S1 := Lib.hid (S1.out.below hb)
  replace S2 := Lib.hid (S2.out.below hb)
  clear hb
  clear S1
  clear S2
  have V0 := Lib.hid hv0.ints
  have V1 := Lib.hid hv1.ints
  have z0 : (r0.length : Int) ≤ 281474976710656 := by have := hv0.1; omega
  have z1 : (r1.length : Int) ≤ 281474976710656 := by have := hv1.1; omega
  clear hv1
  clear hv0
  have X := Lib.hid (Below.refl W3.heap.size W3)
  go_wp2_with fail
  refine (toIv _ L1 _ (Q1.out.below B.out) hl1).mono ?_
  rintro e W4 ⟨x1, rfl, ho, hb⟩
  have Z4 := Lib.hid hb.size
  replace B := Lib.hid (B.out.trans (hb.mono B.out.size))
  replace X := Lib.hid (X.out.trans (hb.mono X.out.size))
  clear hb
  have O1 := Lib.hid ho
  clear ho
  have Y1 := Lib.hid (Below.refl W4.heap.size W4)
  go_wp2_with fail
  refine (toIv _ L2 _ (Q2.out.below B.out) hl2).mono ?_
  rintro e W5 ⟨x2, rfl, ho, hb⟩
  have Z5 := Lib.hid hb.size
  replace B := Lib.hid (B.out.trans (hb.mono B.out.size))
  replace X := Lib.hid (X.out.trans (hb.mono X.out.size))
  replace Y1 := Lib.hid (Y1.out.trans (hb.mono Y1.out.size))
  clear hb
  have O2 := Lib.hid ho
  clear ho
  have Y2 := Lib.hid (Below.refl W5.heap.size W5)
  go_wp2_with fail
  refine (HIM.out _ _ _ (O1.out.ints.below Y1.out) (O2.out.ints.below Y2.out)).mono ?_
  rintro e W6 ⟨g0, g1, CC, rfl, hg0, hlie, hg1, hcc, hb⟩
  have P1 := Lib.hid (show w.heap.size ≤ W3.heap.size ∧ W3.heap.size ≤ W3.heap.size ∧ W4.heap.size ≤ W5.heap.size by have := B.out.size; have := X.out.size; have := Z1.out; have := Z2.out; have := Z3.out; have := Z4.out; have := Z5.out; first | omega | (refine ⟨?_, ?_, ?_⟩ <;> omega))
  have P2 := Lib.hid (show w.heap.size ≤ W4.heap.size ∧ W3.heap.size ≤ W4.heap.size ∧ W5.heap.size ≤ W5.heap.size by have := B.out.size; have := X.out.size; have := Z1.out; have := Z2.out; have := Z3.out; have := Z4.out; have := Z5.out; first | omega | (refine ⟨?_, ?_, ?_⟩ <;> omega))
  have PG := Lib.hid (show w.heap.size ≤ W5.heap.size ∧ W3.heap.size ≤ W5.heap.size by have := Z1.out; have := Z2.out; have := Z3.out; have := Z4.out; have := Z5.out; first | omega | (refine ⟨?_, ?_⟩ <;> omega))
  replace B := Lib.hid (B.out.trans (hb.mono B.out.size))
  replace X := Lib.hid (X.out.trans (hb.mono X.out.size))
  replace Y1 := Lib.hid (Y1.out.trans (hb.mono Y1.out.size))
  replace Y2 := Lib.hid (Y2.out.trans (hb.mono Y2.out.size))
  clear hb
  have G0 := Lib.hid hg0
  have G1 := Lib.hid hg1
  have HCC := Lib.hid hcc
  have LIE := Lib.hid hlie
  clear hg1 hcc hlie
  clear hg0
  go_wp2_with fail
  refine (eqIS g0 v0 r0 _ G0.out.ints (V0.out.below X.out)).mono ?_
  rintro e W7 ⟨rfl, hb⟩
  replace B := Lib.hid (B.out.trans (hb.mono B.out.size))
  replace X := Lib.hid (X.out.trans (hb.mono X.out.size))
  replace Y1 := Lib.hid (Y1.out.trans (hb.mono Y1.out.size))
  replace Y2 := Lib.hid (Y2.out.trans (hb.mono Y2.out.size))
  replace G0 := Lib.hid (G0.out.below hb)
  replace G1 := Lib.hid (G1.out.below hb)
  clear hb
  go_wp2_with fail
  refine (eqIS g1 v1 r1 _ (G1.out.ints) (V1.out.below X.out)).mono ?_
  rintro e W901 ⟨rfl, hb⟩
  replace B := Lib.hid (B.out.trans (hb.mono B.out.size))
  replace X := Lib.hid (X.out.trans (hb.mono X.out.size))
  replace Y1 := Lib.hid (Y1.out.trans (hb.mono Y1.out.size))
  replace Y2 := Lib.hid (Y2.out.trans (hb.mono Y2.out.size))
  replace G0 := Lib.hid (G0.out.below hb)
  replace G1 := Lib.hid (G1.out.below hb)
  clear hb
  go_wp2_with fail
  refine (toIv _ L1 _ (Q1.out.below B.out) hl1).mono ?_
  rintro e W8 ⟨y1, rfl, ho, hb⟩
  replace B := Lib.hid (B.out.trans (hb.mono B.out.size))
  replace X := Lib.hid (X.out.trans (hb.mono X.out.size))
  replace Y1 := Lib.hid (Y1.out.trans (hb.mono Y1.out.size))
  replace Y2 := Lib.hid (Y2.out.trans (hb.mono Y2.out.size))
  replace G0 := Lib.hid (G0.out.below hb)
  replace G1 := Lib.hid (G1.out.below hb)
  clear hb
  have S1 := Lib.hid ho.ints
  clear ho
  go_wp2_with fail
  refine (eqIS x1 y1 L1 _ (O1.out.ints.below Y1.out) S1.out).mono ?_
  rintro e W9 ⟨rfl, hb⟩
  clear S1
  replace B := Lib.hid (B.out.trans (hb.mono B.out.size))
  replace X := Lib.hid (X.out.trans (hb.mono X.out.size))
  replace Y1 := Lib.hid (Y1.out.trans (hb.mono Y1.out.size))
  replace Y2 := Lib.hid (Y2.out.trans (hb.mono Y2.out.size))
  replace G0 := Lib.hid (G0.out.below hb)
  replace G1 := Lib.hid (G1.out.below hb)
  clear hb
  go_wp2_with fail
  refine (toIv _ L2 _ (Q2.out.below B.out) hl2).mono ?_
  rintro e W10 ⟨y2, rfl, ho, hb⟩
  replace B := Lib.hid (B.out.trans (hb.mono B.out.size))
  replace X := Lib.hid (X.out.trans (hb.mono X.out.size))
  replace Y1 := Lib.hid (Y1.out.trans (hb.mono Y1.out.size))
  replace Y2 := Lib.hid (Y2.out.trans (hb.mono Y2.out.size))
  replace G0 := Lib.hid (G0.out.below hb)
  replace G1 := Lib.hid (G1.out.below hb)
  clear hb
  have S2 := Lib.hid ho.ints
  clear ho
  go_wp2_with fail
  refine (eqIS x2 y2 L2 _ (O2.out.ints.below Y2.out) S2.out).mono ?_
  rintro e W11 ⟨rfl, hb⟩
  clear S2
  replace B := Lib.hid (B.out.trans (hb.mono B.out.size))
  replace X := Lib.hid (X.out.trans (hb.mono X.out.size))
  replace Y1 := Lib.hid (Y1.out.trans (hb.mono Y1.out.size))
  replace Y2 := Lib.hid (Y2.out.trans (hb.mono Y2.out.size))
  replace G0 := Lib.hid (G0.out.below hb)
  replace G1 := Lib.hid (G1.out.below hb)
  clear hb
  go_wp2_with fail
  refine (markIsame x1 L1 _ (1) W4 _ O1.out (same_of Y1.out) (by omega) (by omega)).mono ?_
  rintro e W12 ⟨rfl, hb⟩
  have E1 := Lib.hid hb
  replace B := Lib.hid (B.out.trans (hb.low.mono P1.out.1))
  replace X := Lib.hid (X.out.trans (hb.low.mono P1.out.2.1))
  replace G0 := Lib.hid (G0.out.betw' P1.out.2.2 hb)
  replace G1 := Lib.hid (G1.out.betw' (Nat.le_trans P1.out.2.2 HCC.out) hb)
  clear hb
  go_wp2_with fail
  refine (markIsame x2 L2 _ (1 + (L1.length : Nat)) W5 _ O2.out ((same_of Y2.out).betw E1.out) (by omega) (by omega)).mono ?_
  rintro e W13 ⟨rfl, hb⟩
  replace B := Lib.hid (B.out.trans (hb.low.mono P2.out.1))
  replace X := Lib.hid (X.out.trans (hb.low.mono P2.out.2.1))
  replace G0 := Lib.hid (G0.out.betw' P2.out.2.2 hb)
  replace G1 := Lib.hid (G1.out.betw' (Nat.le_trans P2.out.2.2 HCC.out) hb)
  clear hb
  go_wp2_with fail
  refine (eqIS g0 v0 r0 _ G0.out.ints (V0.out.below X.out)).mono ?_
  rintro e W14 ⟨rfl, hb⟩
  replace B := Lib.hid (B.out.trans (hb.mono B.out.size))
  replace X := Lib.hid (X.out.trans (hb.mono X.out.size))
  replace G0 := Lib.hid (G0.out.below hb)
  replace G1 := Lib.hid (G1.out.below hb)
  clear hb
  go_wp2_with fail
  refine (eqIS g1 v1 r1 _ (G1.out.ints) (V1.out.below X.out)).mono ?_
  rintro e W902 ⟨rfl, hb⟩
  replace B := Lib.hid (B.out.trans (hb.mono B.out.size))
  replace X := Lib.hid (X.out.trans (hb.mono X.out.size))
  replace G0 := Lib.hid (G0.out.below hb)
  replace G1 := Lib.hid (G1.out.below hb)
  clear hb
  go_wp2_with fail
  refine (markIkeep g0 r0 _ CC (1) _ G0.out LIE.out (by omega) (by omega)).mono ?_
  rintro e W15 ⟨rfl, hh, hb⟩
  replace B := Lib.hid (B.out.trans (hb.low.mono PG.out.1))
  replace X := Lib.hid (X.out.trans (hb.low.mono PG.out.2))
  replace G1 := Lib.hid (G1.out.betw' (Nat.le_refl _) hb)
  have D0 := Lib.hid hh
  clear hh hb
  go_wp2_with fail
  refine (markOwn g1 r1 _ (1 + (r0.length : Nat)) _ G1.out (by omega) (by omega)).mono ?_
  rintro e W800 ⟨rfl, hh, hb, hs⟩
  replace B := Lib.hid (B.out.trans (hb.mono (Nat.le_trans PG.out.1 HCC.out)))
  replace X := Lib.hid (X.out.trans (hb.mono (Nat.le_trans PG.out.2 HCC.out)))
  replace D0 := Lib.hid (D0.out.lowC LIE.out hb)
  have D1 := Lib.hid hh
  clear hh hb hs
  go_wp2_with fail
  refine (heldIown g0 r0.length _ 1 _ D0.out (by omega) (by omega)).mono ?_
  rintro e W16 ⟨rfl, rfl⟩
  go_wp2_with fail
  refine (heldOwn g1 r1.length _ (1 + (r0.length : Nat)) _ D1.out (by omega) (by omega)).mono ?_
  rintro e W701 ⟨rfl, rfl⟩
  go_wp2_with fail
  refine (toIv _ L1 _ (Q1.out.below B.out) hl1).mono ?_
  rintro e W17 ⟨t1, rfl, ho, hb⟩
  replace B := Lib.hid (B.out.trans (hb.mono B.out.size))
  replace X := Lib.hid (X.out.trans (hb.mono X.out.size))
  replace D0 := Lib.hid (D0.out.below hb)
  replace D1 := Lib.hid (D1.out.below hb)
  clear hb
  have S1 := Lib.hid ho.ints
  clear ho
  go_wp2_with fail
  refine (toIv _ L2 _ (Q2.out.below B.out) hl2).mono ?_
  rintro e W18 ⟨t2, rfl, ho, hb⟩
  replace B := Lib.hid (B.out.trans (hb.mono B.out.size))
  replace X := Lib.hid (X.out.trans (hb.mono X.out.size))
  replace D0 := Lib.hid (D0.out.below hb)
  replace D1 := Lib.hid (D1.out.below hb)
  replace S1 := Lib.hid (S1.out.below hb)
  clear hb
  have S2 := Lib.hid ho.ints
  clear ho
  go_wp2_with fail
  refine (HIM.out _ _ _ S1.out S2.out).mono ?_
  rintro e W19 ⟨t0, t1', Ct, rfl, ht0, _, ht1, _, hb⟩
  replace B := Lib.hid (B.out.trans (hb.mono B.out.size))
  replace X := Lib.hid (X.out.trans (hb.mono X.out.size))
  replace D0 := Lib.hid (D0.out.below hb)
  replace D1 := Lib.hid (D1.out.below hb)
  replace S1 := Lib.hid (S1.out.below hb)
  replace S2 := Lib.hid (S2.out.below hb)
  clear hb
  clear S1
  clear S2
  have T0 := Lib.hid ht0.ints
  have T1' := Lib.hid ht1.ints
  clear ht1
  clear ht0
  go_wp2_with fail
  refine (eqIS t0 v0 r0 _ T0.out (V0.out.below X.out)).mono ?_
  rintro e W20 ⟨rfl, hb⟩
  replace B := Lib.hid (B.out.trans (hb.mono B.out.size))
  replace X := Lib.hid (X.out.trans (hb.mono X.out.size))
  replace D0 := Lib.hid (D0.out.below hb)
  replace D1 := Lib.hid (D1.out.below hb)
  replace T0 := Lib.hid (T0.out.below hb)
  replace T1' := Lib.hid (T1'.out.below hb)
  clear hb
  go_wp2_with fail
  refine (eqIS t1' v1 r1 _ (T1'.out) (V1.out.below X.out)).mono ?_
  rintro e W903 ⟨rfl, hb⟩
  replace B := Lib.hid (B.out.trans (hb.mono B.out.size))
  replace X := Lib.hid (X.out.trans (hb.mono X.out.size))
  replace D0 := Lib.hid (D0.out.below hb)
  replace D1 := Lib.hid (D1.out.below hb)
  replace T0 := Lib.hid (T0.out.below hb)
  replace T1' := Lib.hid (T1'.out.below hb)
  clear hb
  go_wp2_with fail
  refine (heldIown g0 r0.length _ 1 _ D0.out (by omega) (by omega)).mono ?_
  rintro e W21 ⟨rfl, rfl⟩
  go_wp2_with fail
  refine (heldOwn g1 r1.length _ (1 + (r0.length : Nat)) _ D1.out (by omega) (by omega)).mono ?_
  rintro e W702 ⟨rfl, rfl⟩
  go_wp2_with fail
  go_ret
  exact ⟨rfl, B.out⟩
set_option maxHeartbeats 1000000 in
theorem xBezoutLine_long0 (a0 : Int) (a1 : Option Addr) (n1 c1 : Nat) (a2 : Option Addr) (n2 c2 : Nat) (w : World) (h1 : 1048576 < n1) :
    Calls Try.prog 8 #[.int .i64 a0, .slice a1 n1 c1, .slice a2 n2 c2] w fun e w' => e = .returned (.bool true) ∧ Below w.heap.size w w' := by
  have hgt : (n1 : Int) > 1048576 := by omega
  clear h1
  go_enter Try.func8, Try.ntmps8
  go_wp2_with fail
  go_ret
  exact ⟨rfl, Below.refl _ _⟩
set_option maxHeartbeats 1000000 in
theorem xBezoutLine_long1 (a0 : Int) (a1 : Option Addr) (n1 c1 : Nat) (a2 : Option Addr) (n2 c2 : Nat) (w : World) (k1 : n1 ≤ 1048576) (h1 : 1048576 < n2) :
    Calls Try.prog 8 #[.int .i64 a0, .slice a1 n1 c1, .slice a2 n2 c2] w fun e w' => e = .returned (.bool true) ∧ Below w.heap.size w w' := by
  have hng1 : ¬ (n1 : Int) > 1048576 := by omega
  have hgt : (n2 : Int) > 1048576 := by omega
  clear h1
  go_enter Try.func8, Try.ntmps8
  go_wp2_with fail
  go_ret
  exact ⟨rfl, Below.refl _ _⟩

theorem xBezoutLine (a0 : Int) (a1 : Option Addr) (len1 c1 : Nat) (L1 : List Int) (a2 : Option Addr) (len2 c2 : Nat) (L2 : List Int) (w : World) (h1 : RowL w a1 len1 L1) (h2 : RowL w a2 len2 L2) :
    Calls Try.prog 8 #[.int .i64 a0, .slice a1 len1 c1, .slice a2 len2 c2] w fun e w' => e = .returned (.bool true) ∧ Below w.heap.size w w' := by
  by_cases q1 : len1 ≤ 1048576
  · skip
    by_cases q2 : len2 ≤ 1048576
    · skip
      have e1 := h1.1
      have e2 := h2.1
      subst e1 e2
      exact xBezoutLine_in a0 a1 L1 c1 a2 L2 c2 ((bz1 a0 L1 L2)) ((bz2 a0 L1 L2)) ((bzB a0 L1 L2)) w (h1.ints (by omega)) (h2.ints (by omega)) q1 q2 (fun f1 f2 w k1 k2 => sBezoutLine a0 f1 f2 L1 L2 w k1 k2 q1 q2) (fun f1 f2 w k1 k2 => iBezoutLine a0 f1 f2 L1 L2 w k1 k2 q1 q2)
    · exact xBezoutLine_long1 a0 a1 len1 c1 a2 len2 c2 w q1 (by omega)
  · exact xBezoutLine_long0 a0 a1 len1 c1 a2 len2 c2 w (by omega)
end Go.Proofs.Ytfmpcniehgipfaa
