/-
  MulMatrix of the program. Conditions: none but that the slices read as matrices.
  MulMatrix of the program: the whole. Conditions: none but that the slices read as matrices.
-/
import Derived.Test.YtlcmddghppdmgaaBh19
import Derived.Test.YtlcmddghppdmgaaBh14
import Derived.Test.YtlcmddghppdmgaaBh2
namespace Go.Proofs.Ytlcmddghppdmgaa
set_option linter.unusedVariables false
open Go.RowKit Go.Shelf
/-- a sum of elements, reduced at each step -/
def sumE (p : Int) (f : Nat → Int) : Nat → Int
  | 0 => 0
  | j + 1 => (sumE p f j + f j) % p
theorem sumE_bd {p : Int} (hp : 2 ≤ p) (f : Nat → Int) : ∀ j, 0 ≤ sumE p f j ∧ sumE p f j < p
  | 0 => ⟨Int.le_refl _, show (0 : Int) < p by omega⟩
  | j + 1 => ⟨Int.emod_nonneg _ (by omega), Int.emod_lt_of_pos _ (by omega)⟩
def mmE (p : Int) (m : Nat) (A B : Nat → Nat → Int) (i k : Nat) : Int := sumE p (fun j => A i j * B j k) m
def mulB (p : Int) (a b : List (List Int)) : Bool := matB p a && (matB p b && decide ((rowM a 0).length = b.length))
def mulMV (p : Int) (a b : List (List Int)) : List (List Int) := if mulB p a b = true then matF (rowM b 0).length (mmE p b.length (el a) (el b)) a.length else []
theorem mulMV_rows (p : Int) (a b : List (List Int)) : (mulMV p a b).length ≤ 100 ∧ ∀ i, i < (mulMV p a b).length → 0 < (rowM (mulMV p a b) i).length ∧ (rowM (mulMV p a b) i).length ≤ 1000 := by
  unfold mulMV
  by_cases h : mulB p a b = true
  · have h' := h
    simp only [mulB, Bool.and_eq_true] at h'
    obtain ⟨_, h1, _⟩ := matB_iff.1 h'.1
    obtain ⟨_, _, h2, _⟩ := matB_iff.1 h'.2.1
    rw [if_pos h, matF_len]
    refine ⟨by omega, fun i hi => ?_⟩
    rw [matF_row hi]; simp; omega
  · rw [if_neg h]; exact ⟨by simp, fun i hi => absurd hi (Nat.not_lt_zero i)⟩
theorem addMul {p s x y : Int} (hp : isP p = true) (hs : 0 ≤ s ∧ s < p) (hx : 0 ≤ x ∧ x < p) (hy : 0 ≤ y ∧ y < p) : addV p s (mulV p x y) = (s + x * y) % p := by
  have hb := isP_bd hp
  have e1 : mulV p x y = x * y % p := by unfold mulV; rw [if_pos (isE2_iff.2 ⟨hp, hx, hy⟩)]
  have h1 : 0 ≤ x * y % p := Int.emod_nonneg _ (by omega)
  have h2 : x * y % p < p := Int.emod_lt_of_pos _ (by omega)
  rw [e1]
  unfold addV
  rw [if_pos (isE2_iff.2 ⟨hp, hs, h1, h2⟩)]
  exact Int.add_emod_emod _ _ _
/-- what MulMatrix's closure reads: three boxes -/
structure MulS (w : World) (bb bp ba : Nat) (p : Int) (ga oa ra ca cpa gb ob rb cb cpb : Nat) (A B : Nat → Nat → Int) : Prop where
  kb : w.cell? ⟨bb, 0, none⟩ = some (.slice (some ⟨gb, ob, none⟩) rb cpb)
  kp : w.cell? ⟨bp, 0, none⟩ = some (.int .i64 p)
  ka : w.cell? ⟨ba, 0, none⟩ = some (.slice (some ⟨ga, oa, none⟩) ra cpa)
  lb : bb < w.heap.size
  lp : bp < w.heap.size
  la : ba < w.heap.size
  mA : MatC w ga oa ra ca A
  mB : MatC w gb ob rb cb B
theorem MulS.below {w w' : World} {bb bp ba : Nat} {p : Int} {ga oa ra ca cpa gb ob rb cb cpb : Nat} {A B : Nat → Nat → Int} (h : MulS w bb bp ba p ga oa ra ca cpa gb ob rb cb cpb A B) (hb : Below w.heap.size w w') : MulS w' bb bp ba p ga oa ra ca cpa gb ob rb cb cpb A B := by
  have e := hb.size
  have h1 := h.lb
  have h2 := h.lp
  have h3 := h.la
  exact ⟨by rw [hb.cell (p := ⟨bb, 0, none⟩) h1]; exact h.kb, by rw [hb.cell (p := ⟨bp, 0, none⟩) h2]; exact h.kp, by rw [hb.cell (p := ⟨ba, 0, none⟩) h3]; exact h.ka, by omega, by omega, by omega, h.mA.below hb, h.mB.below hb⟩
set_option maxRecDepth 100000 in
set_option maxHeartbeats 4000000 in
theorem iMul1 (bb bp ba : Nat) (p : Int) (hp : isP p = true) (ga oa ra ca cpa gb ob rb cb cpb : Nat) (A B : Nat → Nat → Int) (W : World) (hS : MulS W bb bp ba p ga oa ra ca cpa gb ob rb cb cpb A B)
    (hA : ∀ i k, i < ra → k < ca → 0 ≤ A i k ∧ A i k < p) (hB : ∀ i k, i < rb → k < cb → 0 ≤ B i k ∧ B i k < p) (he : ca = rb) (hr : rb ≤ 4) (i k : Nat) (hi : i < ra) (hk : k < cb) :
    Calls Try.prog 133 #[.int .i64 i, .int .i64 k, .pointer (some ⟨bb, 0, none⟩), .pointer (some ⟨bp, 0, none⟩), .pointer (some ⟨ba, 0, none⟩)] W fun e w' => e = .returned (.int .i64 (mmE p rb A B i k)) ∧ Below W.heap.size W w' := by
  subst he
  have hpb := isP_bd hp
  have HSB := Lib.hid (fun j => sumE_bd hpb.1 (fun j => A i j * B j k) j)
  have HV := Lib.hid (fun j (hj : j < ca) => show addV p (sumE p (fun j => A i j * B j k) j) (mulV p (A i j) (B j k)) = sumE p (fun j => A i j * B j k) (j + 1) from
    addMul hp (sumE_bd hpb.1 _ j) (hA i j hi hj) (hB j k hj hk))
  have HS := Lib.hid hS
  have hip : (i : Int) < (ra : Int) := by omega
  have hkp : (k : Int) < (cb : Int) := by omega
  have hi0 : (0 : Int) ≤ (i : Int) := by omega
  have hk0 : (0 : Int) ≤ (k : Int) := by omega
  have HX := Lib.hid (fun w' (hb : Below W.heap.size W w') j (hj : j < ca) => show ∃ h1 o1 c1 h2 o2 c2, w'.cell? ⟨ga, oa + i, none⟩ = some (.slice (some ⟨h1, o1, none⟩) ca c1) ∧ w'.cell? ⟨h1, o1 + j, none⟩ = some (.int .i64 (A i j)) ∧ w'.cell? ⟨gb, ob + j, none⟩ = some (.slice (some ⟨h2, o2, none⟩) cb c2) ∧ w'.cell? ⟨h2, o2 + k, none⟩ = some (.int .i64 (B j k)) from by
    have h := hS.below hb
    obtain ⟨h1, o1, c1, q1, _, q2⟩ := h.mA.2 i hi
    obtain ⟨h2, o2, c2, q3, _, q4⟩ := h.mB.2 j hj
    exact ⟨h1, o1, c1, h2, o2, c2, q1, q2 j hj, q3, q4 k hk⟩)
  have HBX := Lib.hid (fun w' (hb : Below W.heap.size W w') => show w'.cell? ⟨bb, 0, none⟩ = some (.slice (some ⟨gb, ob, none⟩) ca cpb) ∧ w'.cell? ⟨bp, 0, none⟩ = some (.int .i64 p) ∧ w'.cell? ⟨ba, 0, none⟩ = some (.slice (some ⟨ga, oa, none⟩) ra cpa) from
    have h := hS.below hb
    ⟨h.kb, h.kp, h.ka⟩)
  have HXB := Lib.hid (fun w' w'' (hb : Below W.heap.size W w') (hb2 : Below w'.heap.size w' w'') h1 o1 h2 o2 j va vb (q2 : w'.cell? ⟨h1, o1 + j, none⟩ = some va) (q4 : w'.cell? ⟨h2, o2 + k, none⟩ = some vb) => show w''.cell? ⟨h1, o1 + j, none⟩ = some va ∧ w''.cell? ⟨h2, o2 + k, none⟩ = some vb from
    ⟨by rw [hb2.cell (p := ⟨h1, o1 + j, none⟩) (World.block_lt_of_cell? w' _ q2)]; exact q2, by rw [hb2.cell (p := ⟨h2, o2 + k, none⟩) (World.block_lt_of_cell? w' _ q4)]; exact q4⟩)
  obtain ⟨x0, x1, x2⟩ := HBX.out W (Below.refl _ _)
  clear hS hA hB hpb hp
  go_enter Try.func133, Try.ntmps133
  go_wp2_with fail
  go_loopw [8, 12] (fun q i2 wr => ∃ j : Nat, j ≤ ca ∧ i2 = .int .i64 j ∧ q = .int .i64 (sumE p (fun j => A i j * B j k) j) ∧ Below W.heap.size W wr) (fun _ i2 _ => ca - (intOf i2).toNat)
  case atStart => exact ⟨0, by omega, rfl, rfl, Below.refl _ _⟩
  case round =>
    obtain ⟨j, hj, rfl, rfl, hb⟩ := hrel
    by_cases hlt : j < ca
    · have hltp : (j : Int) < (ca : Int) := by omega
      have hj0 : (0 : Int) ≤ (j : Int) := by omega
      obtain ⟨h1, o1, c1, h2, o2, c2, q1, q2, q3, q4⟩ := HX.out _ hb j hlt
      have HSP := Lib.hid (fun w' (hbw : Below wr.heap.size wr w') => show (w'.cell? ⟨bb, 0, none⟩ = some (.slice (some ⟨gb, ob, none⟩) ca cpb) ∧ w'.cell? ⟨bp, 0, none⟩ = some (.int .i64 p) ∧ w'.cell? ⟨ba, 0, none⟩ = some (.slice (some ⟨ga, oa, none⟩) ra cpa)) ∧ (w'.cell? ⟨ga, oa + i, none⟩ = some (.slice (some ⟨h1, o1, none⟩) ca c1) ∧ w'.cell? ⟨h1, o1 + j, none⟩ = some (.int .i64 (A i j)) ∧ w'.cell? ⟨gb, ob + j, none⟩ = some (.slice (some ⟨h2, o2, none⟩) cb c2) ∧ w'.cell? ⟨h2, o2 + k, none⟩ = some (.int .i64 (B j k))) from
        ⟨HBX.out _ (hb.trans (hbw.mono hb.size)), by rw [hbw.cell (p := ⟨ga, oa + i, none⟩) (World.block_lt_of_cell? wr _ q1)]; exact q1, by rw [hbw.cell (p := ⟨h1, o1 + j, none⟩) (World.block_lt_of_cell? wr _ q2)]; exact q2, by rw [hbw.cell (p := ⟨gb, ob + j, none⟩) (World.block_lt_of_cell? wr _ q3)]; exact q3, by rw [hbw.cell (p := ⟨h2, o2 + k, none⟩) (World.block_lt_of_cell? wr _ q4)]; exact q4⟩)
      have HVV := Lib.hid (HV.out j hlt)
      obtain ⟨x, hx⟩ : ∃ x, x = A i j := ⟨_, rfl⟩
      obtain ⟨y, hy⟩ : ∃ y, y = B j k := ⟨_, rfl⟩
      obtain ⟨s, hs⟩ : ∃ s, s = sumE p (fun j => A i j * B j k) j := ⟨_, rfl⟩
      obtain ⟨s2, hs2⟩ : ∃ s, s = sumE p (fun j => A i j * B j k) (j + 1) := ⟨_, rfl⟩
      rw [← hx, ← hy, ← hs, ← hs2] at HVV
      rw [← hx, ← hy] at HSP
      rw [← hs]
      have HS2 := Lib.hid hs2
      have HB := Lib.hid hb
      clear q1 q2 q3 q4 hb hx hy hs hs2
      go_wp2_with fail
      refine wp_region_seq [(0, true), (1, true), (2, true), (3, true), (4, true), (5, true), (6, true), (7, true), (8, true), (9, true), (10, true), (11, true), (12, true), (13, true), (14, true), (15, true), (16, true), (17, false), (18, false)] (fun w' => (w'.cell? ⟨bb, 0, none⟩ = some (.slice (some ⟨gb, ob, none⟩) ca cpb) ∧ w'.cell? ⟨bp, 0, none⟩ = some (.int .i64 p) ∧ w'.cell? ⟨ba, 0, none⟩ = some (.slice (some ⟨ga, oa, none⟩) ra cpa)) ∧ (w'.cell? ⟨ga, oa + i, none⟩ = some (.slice (some ⟨h1, o1, none⟩) ca c1) ∧ w'.cell? ⟨h1, o1 + j, none⟩ = some (.int .i64 x) ∧ w'.cell? ⟨gb, ob + j, none⟩ = some (.slice (some ⟨h2, o2, none⟩) cb c2) ∧ w'.cell? ⟨h2, o2 + k, none⟩ = some (.int .i64 y))) (by kernel_rfl) (by kernel_rfl) rfl (by intro c a d v w h; cases d <;> exact h) (HSP.out _ (Below.drew (Below.refl _ _))) ?_
      iterate 17 (refine wpSeq_take (v := ?_) (List.getElem?_toArray.trans rfl) ?_ ?_; rotate_left; (intro w' hSw; (try dsimp only at hSw); go_simp; (try with_reducible rfl)); (try simp only [Act.put, List.setIfInBounds_toArray, List.set_cons_zero, List.set_cons_succ]))
      have hdr : Below wr.heap.size wr wr.drew := Below.drew (Below.refl _ _)
      refine wpSeq_do (List.getElem?_toArray.trans rfl) (fun K hK => ?_)
      go_simp
      refine (iMul p x y _).mono ?_
      rintro e w6 ⟨rfl, hb6⟩
      have hbb : Below wr.heap.size wr w6 := hdr.trans hb6
      refine hK _ _ (HSP.out _ hbb) ?_
      clear hK K
      refine wpSeq_do (List.getElem?_toArray.trans rfl) (fun K hK => ?_)
      go_simp
      refine (iAdd p s _ _).mono ?_
      rintro e w7 ⟨rfl, hb7⟩
      have hbc : Below wr.heap.size wr w7 := hbb.trans (hb7.mono hbb.size)
      refine hK _ _ (HSP.out _ hbc) ?_
      clear hK K
      refine wpSeq_nil ?_
      simp only [Exit.then]
      rw [HVV.out]
      have HF := Lib.hid (HB.out.trans (hbc.mono HB.out.size))
      clear hbc hb7 hb6 hbb hdr
      go_wp2_with fail
      go_roundw
      case rel => exact ⟨j + 1, by omega, by go_num, by rw [HS2.out], HF.out⟩
      case measure => simp [intOf]; omega
    · have hjc : j = ca := by omega
      subst hjc
      have HF := Lib.hid hb
      clear hb
      go_wp2_with fail
      go_ret
      exact ⟨rfl, HF.out⟩
theorem enMul (args : Array Value) (w : World) : (callFunc 133 args).run Try.prog w = .ok (.enter 133 args) w := enters_of Try.func133 (by kernel_rfl) rfl args w
end Go.Proofs.Ytlcmddghppdmgaa
namespace Go.Proofs.Ytlcmddghppdmgaa
set_option linter.unusedVariables false
open Go.RowKit Go.Shelf
set_option maxRecDepth 100000 in
set_option maxHeartbeats 8000000 in
theorem iMulM (p : Int) (va vb : Value) (a b : List (List Int)) (w : World) (ha : Mat w va a) (hb : Mat w vb b) :
    Calls Try.prog 53 #[.int .i64 p, va, vb] w fun e w' => ∃ u, e = .returned (.tuple #[u, .bool (mulB p a b)]) ∧ OwnMat w' w.heap.size u (mulMV p a b) ∧ Below w.heap.size w w' := by
  obtain ⟨W, hW⟩ : ∃ W, W = ((w.alloc (.cells #[.int .i64 p] 3)).alloc (.cells #[va] 35)).alloc (.cells #[vb] 35) := ⟨_, rfl⟩
  have hbW : Below w.heap.size w W := by
    rw [hW]; exact Below.alloc (Below.alloc (Below.alloc (Below.refl _ _) (Nat.le_refl _) _) (by simp) _) (by simp; omega) _
  have hWs : w.heap.size + 2 < W.heap.size := by rw [hW]; simp
  have hc0 : W.cell? ⟨w.heap.size, 0, none⟩ = some (.int .i64 p) := by rw [hW]; simp [go_sem]
  have hc1 : W.cell? ⟨w.heap.size + 1, 0, none⟩ = some va := by rw [hW]; simp [go_sem]
  have hc2 : W.cell? ⟨w.heap.size + 2, 0, none⟩ = some vb := by rw [hW]; simp [go_sem]
  have HK := Lib.hid (fun w' (h : Below W.heap.size W w') => show w'.cell? ⟨w.heap.size, 0, none⟩ = some (.int .i64 p) ∧ w'.cell? ⟨w.heap.size + 1, 0, none⟩ = some va ∧ w'.cell? ⟨w.heap.size + 2, 0, none⟩ = some vb from
    ⟨by rw [h.cell (p := ⟨w.heap.size, 0, none⟩) (by show w.heap.size < _; omega)]; exact hc0, by rw [h.cell (p := ⟨w.heap.size + 1, 0, none⟩) (by show w.heap.size + 1 < _; omega)]; exact hc1, by rw [h.cell (p := ⟨w.heap.size + 2, 0, none⟩) (by show w.heap.size + 2 < _; omega)]; exact hc2⟩)
  have HMA := Lib.hid (fun w' (h : Below W.heap.size W w') => iMV p va a w' (ha.below (hbW.trans (h.mono (by omega)))))
  have HMB := Lib.hid (fun w' (h : Below W.heap.size W w') => iMV p vb b w' (hb.below (hbW.trans (h.mono (by omega)))))
  have HWE := Lib.hid hW
  have HBW := Lib.hid hbW
  cases hA : matB p a
  · have HV := Lib.hid (show mulB p a b = false ∧ mulMV p a b = [] by
      have : mulB p a b = false := by simp [mulB, hA]
      exact ⟨this, by simp [mulMV, this]⟩)
    rw [hA] at HMA
    obtain ⟨_, _, aa, ca, rfl, _⟩ := ha
    obtain ⟨_, _, ab, cb, rfl, _⟩ := hb
    clear hA hW hbW hc0 hc1 hc2
    go_enter Try.func53, Try.ntmps53
    go_wp2_with fail
    rw [← HWE.out]
    refine wp_region_below (by kernel_rfl) (by kernel_rfl) ?_
    (with_reducible refine wpQuiet_yes ?_ ?_; (focus (kernel_rfl)); intro K hK; go_simp; refine ⟨(.int .i64 p), ?_, ?_⟩; rotate_left; with_reducible refine hK _ ?_; clear hK K; rotate_left)
    · intro w' hw
      simp only [(HK.out w' hw).1, go_sem, Result.andThen, and_self]
    (with_reducible refine wpQuiet_yes ?_ ?_; (focus (kernel_rfl)); intro K hK; go_simp; refine ⟨(.slice aa a.length ca), ?_, ?_⟩; rotate_left; with_reducible refine hK _ ?_; clear hK K; rotate_left)
    · intro w' hw
      simp only [(HK.out w' hw).2.1, go_sem, Result.andThen, and_self]
    (with_reducible refine wpQuiet_yes ?_ ?_; (focus (kernel_rfl)); intro K hK; go_simp; refine ⟨(.bool false), ?_, ?_⟩; rotate_left; with_reducible refine hK _ ?_; clear hK K; rotate_left)
    · intro w' hw
      exact (HMA.out w' hw).mono fun e w'' ⟨he, h⟩ => ⟨he, h ▸ hw⟩
    (with_reducible refine wpQuiet_yes ?_ ?_; (focus (kernel_rfl)); intro K hK; go_simp; refine ⟨_, fun _ _ => rfl, ?_⟩; with_reducible refine hK _ ?_; clear hK K)
    (with_reducible refine wpQuiet_yes ?_ ?_; (focus (kernel_rfl)); intro K hK; go_simp; refine ⟨_, fun _ _ => rfl, ?_⟩; with_reducible refine hK _ ?_; clear hK K)
    iterate 4 (with_reducible refine wpQuiet_no ?_ ?_; (focus (kernel_rfl)); intro K hK; go_simp; with_reducible refine hK _ ?_; clear hK K)
    (with_reducible refine wpQuiet_yes ?_ ?_; (focus (kernel_rfl)); intro K hK; go_simp; refine ⟨_, fun _ _ => rfl, ?_⟩; with_reducible refine hK _ ?_; clear hK K)
    (with_reducible refine wpQuiet_yes ?_ ?_; (focus (kernel_rfl)); intro K hK; go_simp; refine ⟨_, fun _ _ => rfl, ?_⟩; with_reducible refine hK _ ?_; clear hK K)
    iterate 7 (with_reducible refine wpQuiet_no ?_ ?_; (focus (kernel_rfl)); intro K hK; go_simp; with_reducible refine hK _ ?_; clear hK K)
    (with_reducible refine wpQuiet_yes ?_ ?_; (focus (kernel_rfl)); intro K hK; go_simp; refine ⟨_, fun _ _ => rfl, ?_⟩; with_reducible refine hK _ ?_; clear hK K)
    refine wpQuiet_nil fun w2 hb2 => ?_
    have Hb2 := Lib.hid (HBW.out.trans (hb2.mono (by omega)))
    clear hb2
    simp only [Exit.then]
    go_wp2_with fail
    rw [HV.out.1, HV.out.2]
    refine bodyPost_ret (v := .tuple #[.slice none 0 0, .bool false]) (by simp [results, Try.results53, go_sem]) rfl ⟨_, rfl, OwnMat.nil _ _ _ _, Hb2.out⟩
  · rw [hA] at HMA
    cases hB : matB p b
    · have HV := Lib.hid (show mulB p a b = false ∧ mulMV p a b = [] by
        have : mulB p a b = false := by simp [mulB, hB]
        exact ⟨this, by simp [mulMV, this]⟩)
      rw [hB] at HMB
      obtain ⟨_, _, aa, ca, rfl, _⟩ := ha
      obtain ⟨_, _, ab, cb, rfl, _⟩ := hb
      clear hA hB hW hbW hc0 hc1 hc2
      go_enter Try.func53, Try.ntmps53
      go_wp2_with fail
      rw [← HWE.out]
      refine wp_region_below (by kernel_rfl) (by kernel_rfl) ?_
      (with_reducible refine wpQuiet_yes ?_ ?_; (focus (kernel_rfl)); intro K hK; go_simp; refine ⟨(.int .i64 p), ?_, ?_⟩; rotate_left; with_reducible refine hK _ ?_; clear hK K; rotate_left)
      · intro w' hw
        simp only [(HK.out w' hw).1, go_sem, Result.andThen, and_self]
      (with_reducible refine wpQuiet_yes ?_ ?_; (focus (kernel_rfl)); intro K hK; go_simp; refine ⟨(.slice aa a.length ca), ?_, ?_⟩; rotate_left; with_reducible refine hK _ ?_; clear hK K; rotate_left)
      · intro w' hw
        simp only [(HK.out w' hw).2.1, go_sem, Result.andThen, and_self]
      (with_reducible refine wpQuiet_yes ?_ ?_; (focus (kernel_rfl)); intro K hK; go_simp; refine ⟨(.bool true), ?_, ?_⟩; rotate_left; with_reducible refine hK _ ?_; clear hK K; rotate_left)
      · intro w' hw
        exact (HMA.out w' hw).mono fun e w'' ⟨he, h⟩ => ⟨he, h ▸ hw⟩
      (with_reducible refine wpQuiet_yes ?_ ?_; (focus (kernel_rfl)); intro K hK; go_simp; refine ⟨_, fun _ _ => rfl, ?_⟩; with_reducible refine hK _ ?_; clear hK K)
      (with_reducible refine wpQuiet_yes ?_ ?_; (focus (kernel_rfl)); intro K hK; go_simp; refine ⟨_, fun _ _ => rfl, ?_⟩; with_reducible refine hK _ ?_; clear hK K)
      (with_reducible refine wpQuiet_yes ?_ ?_; (focus (kernel_rfl)); intro K hK; go_simp; refine ⟨(.int .i64 p), ?_, ?_⟩; rotate_left; with_reducible refine hK _ ?_; clear hK K; rotate_left)
      · intro w' hw
        simp only [(HK.out w' hw).1, go_sem, Result.andThen, and_self]
      (with_reducible refine wpQuiet_yes ?_ ?_; (focus (kernel_rfl)); intro K hK; go_simp; refine ⟨(.slice ab b.length cb), ?_, ?_⟩; rotate_left; with_reducible refine hK _ ?_; clear hK K; rotate_left)
      · intro w' hw
        simp only [(HK.out w' hw).2.2, go_sem, Result.andThen, and_self]
      (with_reducible refine wpQuiet_yes ?_ ?_; (focus (kernel_rfl)); intro K hK; go_simp; refine ⟨(.bool false), ?_, ?_⟩; rotate_left; with_reducible refine hK _ ?_; clear hK K; rotate_left)
      · intro w' hw
        exact (HMB.out w' hw).mono fun e w'' ⟨he, h⟩ => ⟨he, h ▸ hw⟩
      iterate 3 (with_reducible refine wpQuiet_yes ?_ ?_; (focus (kernel_rfl)); intro K hK; go_simp; refine ⟨_, fun _ _ => rfl, ?_⟩; with_reducible refine hK _ ?_; clear hK K)
      iterate 7 (with_reducible refine wpQuiet_no ?_ ?_; (focus (kernel_rfl)); intro K hK; go_simp; with_reducible refine hK _ ?_; clear hK K)
      (with_reducible refine wpQuiet_yes ?_ ?_; (focus (kernel_rfl)); intro K hK; go_simp; refine ⟨_, fun _ _ => rfl, ?_⟩; with_reducible refine hK _ ?_; clear hK K)
      refine wpQuiet_nil fun w2 hb2 => ?_
      have Hb2 := Lib.hid (HBW.out.trans (hb2.mono (by omega)))
      clear hb2
      simp only [Exit.then]
      go_wp2_with fail
      rw [HV.out.1, HV.out.2]
      refine bodyPost_ret (v := .tuple #[.slice none 0 0, .bool false]) (by simp [results, Try.results53, go_sem]) rfl ⟨_, rfl, OwnMat.nil _ _ _ _, Hb2.out⟩
    · rw [hB] at HMB
      obtain ⟨ra, ca, hra, hra1, hra4, hca, hca1, hca4, hrowa, hela, hMFa⟩ := matB_side hA
      obtain ⟨rb, cb, hrb, hrb1, hrb4, hcb, hcb1, hcb4, hrowb, helb, hMFb⟩ := matB_side hB
      obtain ⟨ga, oa, cpa, rfl, hCa⟩ := ha.cells hra hra1 hca1 hrowa
      obtain ⟨gb, ob, cpb, rfl, hCb⟩ := hb.cells hrb hrb1 hcb1 hrowb
      have hp := (matB_iff.1 hA).1
      have HSS := Lib.hid (fun w' (h : Below W.heap.size W w') => show MulS w' (w.heap.size + 2) w.heap.size (w.heap.size + 1) p ga oa ra ca cpa gb ob rb cb cpb (el a) (el b) from by
        have hk := HK.out w' h
        have hs := h.size
        have hbb := hbW.trans (h.mono (by omega))
        exact ⟨hk.2.2, hk.1, hk.2.1, by omega, by omega, by omega, hCa.below hbb, hCb.below hbb⟩)
      have HA0 := Lib.hid (fun w' (h : Below W.heap.size W w') => show ∃ x cp, w'.cell? ⟨ga, oa, none⟩ = some (.slice x ca cp) from by
        obtain ⟨hh, o, cp, h1, _⟩ := (HSS.out w' h).mA.2 0 (by omega)
        exact ⟨_, cp, h1⟩)
      have HB0 := Lib.hid (fun w' (h : Below W.heap.size W w') => show ∃ x cp, w'.cell? ⟨gb, ob, none⟩ = some (.slice x cb cp) from by
        obtain ⟨hh, o, cp, h1, _⟩ := (HSS.out w' h).mB.2 0 (by omega)
        exact ⟨_, cp, h1⟩)
      obtain ⟨xa, xc, hxa⟩ := HA0.out W (Below.refl _ _)
      obtain ⟨ya, yc, hya⟩ := HB0.out W (Below.refl _ _)
      have HH := Lib.hid (fun w' (h : Below W.heap.size W w') => show w'.cell? ⟨ga, oa, none⟩ = some (.slice xa ca xc) ∧ w'.cell? ⟨gb, ob, none⟩ = some (.slice ya cb yc) from
        ⟨by rw [h.cell (p := ⟨ga, oa, none⟩) (World.block_lt_of_cell? W _ hxa)]; exact hxa, by rw [h.cell (p := ⟨gb, ob, none⟩) (World.block_lt_of_cell? W _ hya)]; exact hya⟩)
      have hrap : 0 < ra := by omega
      have hrbp : 0 < rb := by omega
      by_cases he : ca = rb
      · have HV := Lib.hid (show mulB p a b = true ∧ mulMV p a b = matF cb (mmE p rb (el a) (el b)) ra by
          have : mulB p a b = true := by simp [mulB, hA, hB, hca, hrb, he]
          exact ⟨this, by simp [mulMV, this, hra, hrb, hcb]⟩)
        have HN := Lib.hid (fun w' (h : Below W.heap.size W w') => iNew ra cb hra1 hra4 hcb1 hcb4 (mmE p rb (el a) (el b)) 133 #[.pointer (some ⟨w.heap.size + 2, 0, none⟩), .pointer (some ⟨w.heap.size, 0, none⟩), .pointer (some ⟨w.heap.size + 1, 0, none⟩)] w' enMul
          (fun W2 hb2 i k hi hk => iMul1 (w.heap.size + 2) w.heap.size (w.heap.size + 1) p hp ga oa ra ca cpa gb ob rb cb cpb (el a) (el b) W2 (HSS.out W2 (h.trans (hb2.mono h.size))) hela helb he hrb4 i k hi hk))
        have hne : ((ca : Int) != (rb : Int)) = false := by simp [he]
        clear ha hb hA hB hW hbW hc0 hc1 hc2 hMFa hMFb hrowa hrowb hela helb hCa hCb hxa hya he HA0 HB0
        go_enter Try.func53, Try.ntmps53
        go_wp2_with fail
        rw [← HWE.out]
        refine wp_region_below (by kernel_rfl) (by kernel_rfl) ?_
        (with_reducible refine wpQuiet_yes ?_ ?_; (focus (kernel_rfl)); intro K hK; go_simp; refine ⟨(.int .i64 p), ?_, ?_⟩; rotate_left; with_reducible refine hK _ ?_; clear hK K; rotate_left)
        · intro w' hw
          simp only [(HK.out w' hw).1, go_sem, Result.andThen, and_self]
        (with_reducible refine wpQuiet_yes ?_ ?_; (focus (kernel_rfl)); intro K hK; go_simp; refine ⟨(.slice (some ⟨ga, oa, none⟩) ra cpa), ?_, ?_⟩; rotate_left; with_reducible refine hK _ ?_; clear hK K; rotate_left)
        · intro w' hw
          simp only [(HK.out w' hw).2.1, go_sem, Result.andThen, and_self]
        (with_reducible refine wpQuiet_yes ?_ ?_; (focus (kernel_rfl)); intro K hK; go_simp; refine ⟨(.bool true), ?_, ?_⟩; rotate_left; with_reducible refine hK _ ?_; clear hK K; rotate_left)
        · intro w' hw
          exact (HMA.out w' hw).mono fun e w'' ⟨he, h⟩ => ⟨he, h ▸ hw⟩
        (with_reducible refine wpQuiet_yes ?_ ?_; (focus (kernel_rfl)); intro K hK; go_simp; refine ⟨_, fun _ _ => rfl, ?_⟩; with_reducible refine hK _ ?_; clear hK K)
        (with_reducible refine wpQuiet_yes ?_ ?_; (focus (kernel_rfl)); intro K hK; go_simp; refine ⟨_, fun _ _ => rfl, ?_⟩; with_reducible refine hK _ ?_; clear hK K)
        (with_reducible refine wpQuiet_yes ?_ ?_; (focus (kernel_rfl)); intro K hK; go_simp; refine ⟨(.int .i64 p), ?_, ?_⟩; rotate_left; with_reducible refine hK _ ?_; clear hK K; rotate_left)
        · intro w' hw
          simp only [(HK.out w' hw).1, go_sem, Result.andThen, and_self]
        (with_reducible refine wpQuiet_yes ?_ ?_; (focus (kernel_rfl)); intro K hK; go_simp; refine ⟨(.slice (some ⟨gb, ob, none⟩) rb cpb), ?_, ?_⟩; rotate_left; with_reducible refine hK _ ?_; clear hK K; rotate_left)
        · intro w' hw
          simp only [(HK.out w' hw).2.2, go_sem, Result.andThen, and_self]
        (with_reducible refine wpQuiet_yes ?_ ?_; (focus (kernel_rfl)); intro K hK; go_simp; refine ⟨(.bool true), ?_, ?_⟩; rotate_left; with_reducible refine hK _ ?_; clear hK K; rotate_left)
        · intro w' hw
          exact (HMB.out w' hw).mono fun e w'' ⟨he, h⟩ => ⟨he, h ▸ hw⟩
        iterate 3 (with_reducible refine wpQuiet_yes ?_ ?_; (focus (kernel_rfl)); intro K hK; go_simp; refine ⟨_, fun _ _ => rfl, ?_⟩; with_reducible refine hK _ ?_; clear hK K)
        (with_reducible refine wpQuiet_yes ?_ ?_; (focus (kernel_rfl)); intro K hK; go_simp; refine ⟨(.slice (some ⟨ga, oa, none⟩) ra cpa), ?_, ?_⟩; rotate_left; with_reducible refine hK _ ?_; clear hK K; rotate_left)
        · intro w' hw
          simp only [(HK.out w' hw).2.1, go_sem, Result.andThen, and_self]
        (with_reducible refine wpQuiet_yes ?_ ?_; (focus (kernel_rfl)); intro K hK; go_simp; refine ⟨_, fun _ _ => rfl, ?_⟩; with_reducible refine hK _ ?_; clear hK K)
        (with_reducible refine wpQuiet_yes ?_ ?_; (focus (kernel_rfl)); intro K hK; go_simp; refine ⟨(.slice xa ca xc), ?_, ?_⟩; rotate_left; with_reducible refine hK _ ?_; clear hK K; rotate_left)
        · intro w' hw
          simp only [(HH.out w' hw).1, go_sem, Result.andThen, and_self]
        (with_reducible refine wpQuiet_yes ?_ ?_; (focus (kernel_rfl)); intro K hK; go_simp; refine ⟨_, fun _ _ => rfl, ?_⟩; with_reducible refine hK _ ?_; clear hK K)
        (with_reducible refine wpQuiet_yes ?_ ?_; (focus (kernel_rfl)); intro K hK; go_simp; refine ⟨(.slice (some ⟨gb, ob, none⟩) rb cpb), ?_, ?_⟩; rotate_left; with_reducible refine hK _ ?_; clear hK K; rotate_left)
        · intro w' hw
          simp only [(HK.out w' hw).2.2, go_sem, Result.andThen, and_self]
        iterate 3 (with_reducible refine wpQuiet_yes ?_ ?_; (focus (kernel_rfl)); intro K hK; go_simp; refine ⟨_, fun _ _ => rfl, ?_⟩; with_reducible refine hK _ ?_; clear hK K)
        refine wpQuiet_nil fun w2 hb2 => ?_
        have Hb2 := Lib.hid hb2
        clear hb2
        simp only [Exit.then]
        have HS := Lib.hid (fun w' (hb : Below w2.heap.size w2 w') => show (w'.cell? ⟨w.heap.size + 1, 0, none⟩ = some (.slice (some ⟨ga, oa, none⟩) ra cpa) ∧ w'.cell? ⟨w.heap.size + 2, 0, none⟩ = some (.slice (some ⟨gb, ob, none⟩) rb cpb)) ∧ w'.cell? ⟨gb, ob, none⟩ = some (.slice ya cb yc) from
          have h := Hb2.out.trans (hb.mono Hb2.out.size)
          ⟨(HK.out w' h).2, (HH.out w' h).2⟩)
        go_wp2_with fail
        refine wp_region_seq [(0, true), (1, true), (2, true), (3, true), (4, true), (5, true), (6, true), (7, false), (8, true)] (fun w' => (w'.cell? ⟨w.heap.size + 1, 0, none⟩ = some (.slice (some ⟨ga, oa, none⟩) ra cpa) ∧ w'.cell? ⟨w.heap.size + 2, 0, none⟩ = some (.slice (some ⟨gb, ob, none⟩) rb cpb)) ∧ w'.cell? ⟨gb, ob, none⟩ = some (.slice ya cb yc)) (by kernel_rfl) (by kernel_rfl) rfl (by intro c a d v w h; cases d <;> exact h) (HS.out _ (Below.drew (Below.refl _ _))) ?_
        iterate 7 (refine wpSeq_take (v := ?_) (List.getElem?_toArray.trans rfl) ?_ ?_; rotate_left; (intro w' hSw; (try dsimp only at hSw); go_simp; (try with_reducible rfl)); (try simp only [Act.put, List.setIfInBounds_toArray, List.set_cons_zero, List.set_cons_succ]))
        refine wpSeq_do (List.getElem?_toArray.trans rfl) (fun K hK => ?_)
        go_simp
        have hdr : Below w2.heap.size w2 w2.drew := Below.drew (Below.refl _ _)
        refine (HN.out _ (Hb2.out.trans (hdr.mono Hb2.out.size))).mono ?_
        rintro e w6 ⟨u6, rfl, ho, hb6⟩
        have hbb : Below w2.heap.size w2 w6 := hdr.trans hb6
        refine hK _ _ (HS.out _ hbb) ?_
        clear hK K
        (refine wpSeq_take (v := ?_) (List.getElem?_toArray.trans rfl) ?_ ?_; rotate_left; (intro w' hSw; (try dsimp only at hSw); go_simp; (try with_reducible rfl)); (try simp only [Act.put, List.setIfInBounds_toArray, List.set_cons_zero, List.set_cons_succ]))
        refine wpSeq_nil ?_
        simp only [Exit.then]
        have HF := Lib.hid (show OwnMat w6 w.heap.size u6 (matF cb (mmE p rb (el a) (el b)) ra) ∧ Below w.heap.size w w6 from by
          have h2 := Hb2.out.size
          have h3 := hdr.size
          exact ⟨ho.base (by omega), HBW.out.trans ((Hb2.out.trans (hbb.mono h2)).mono (by omega))⟩)
        clear ho hb6 hbb hdr
        go_wp2_with fail
        rw [HV.out.1, HV.out.2]
        refine bodyPost_ret (v := .tuple #[u6, .bool true]) (by simp [results, Try.results53, go_sem]) rfl ⟨_, rfl, HF.out⟩
      · have HV := Lib.hid (show mulB p a b = false ∧ mulMV p a b = [] by
          have : mulB p a b = false := by simp [mulB, hA, hB, hca, hrb, he]
          exact ⟨this, by simp [mulMV, this]⟩)
        have hne : ((ca : Int) != (rb : Int)) = true := by simp; omega
        clear ha hb hA hB hW hbW hc0 hc1 hc2 hMFa hMFb hrowa hrowb hela helb hCa hCb hxa hya he HA0 HB0
        go_enter Try.func53, Try.ntmps53
        go_wp2_with fail
        rw [← HWE.out]
        refine wp_region_below (by kernel_rfl) (by kernel_rfl) ?_
        (with_reducible refine wpQuiet_yes ?_ ?_; (focus (kernel_rfl)); intro K hK; go_simp; refine ⟨(.int .i64 p), ?_, ?_⟩; rotate_left; with_reducible refine hK _ ?_; clear hK K; rotate_left)
        · intro w' hw
          simp only [(HK.out w' hw).1, go_sem, Result.andThen, and_self]
        (with_reducible refine wpQuiet_yes ?_ ?_; (focus (kernel_rfl)); intro K hK; go_simp; refine ⟨(.slice (some ⟨ga, oa, none⟩) ra cpa), ?_, ?_⟩; rotate_left; with_reducible refine hK _ ?_; clear hK K; rotate_left)
        · intro w' hw
          simp only [(HK.out w' hw).2.1, go_sem, Result.andThen, and_self]
        (with_reducible refine wpQuiet_yes ?_ ?_; (focus (kernel_rfl)); intro K hK; go_simp; refine ⟨(.bool true), ?_, ?_⟩; rotate_left; with_reducible refine hK _ ?_; clear hK K; rotate_left)
        · intro w' hw
          exact (HMA.out w' hw).mono fun e w'' ⟨he, h⟩ => ⟨he, h ▸ hw⟩
        (with_reducible refine wpQuiet_yes ?_ ?_; (focus (kernel_rfl)); intro K hK; go_simp; refine ⟨_, fun _ _ => rfl, ?_⟩; with_reducible refine hK _ ?_; clear hK K)
        (with_reducible refine wpQuiet_yes ?_ ?_; (focus (kernel_rfl)); intro K hK; go_simp; refine ⟨_, fun _ _ => rfl, ?_⟩; with_reducible refine hK _ ?_; clear hK K)
        (with_reducible refine wpQuiet_yes ?_ ?_; (focus (kernel_rfl)); intro K hK; go_simp; refine ⟨(.int .i64 p), ?_, ?_⟩; rotate_left; with_reducible refine hK _ ?_; clear hK K; rotate_left)
        · intro w' hw
          simp only [(HK.out w' hw).1, go_sem, Result.andThen, and_self]
        (with_reducible refine wpQuiet_yes ?_ ?_; (focus (kernel_rfl)); intro K hK; go_simp; refine ⟨(.slice (some ⟨gb, ob, none⟩) rb cpb), ?_, ?_⟩; rotate_left; with_reducible refine hK _ ?_; clear hK K; rotate_left)
        · intro w' hw
          simp only [(HK.out w' hw).2.2, go_sem, Result.andThen, and_self]
        (with_reducible refine wpQuiet_yes ?_ ?_; (focus (kernel_rfl)); intro K hK; go_simp; refine ⟨(.bool true), ?_, ?_⟩; rotate_left; with_reducible refine hK _ ?_; clear hK K; rotate_left)
        · intro w' hw
          exact (HMB.out w' hw).mono fun e w'' ⟨he, h⟩ => ⟨he, h ▸ hw⟩
        iterate 3 (with_reducible refine wpQuiet_yes ?_ ?_; (focus (kernel_rfl)); intro K hK; go_simp; refine ⟨_, fun _ _ => rfl, ?_⟩; with_reducible refine hK _ ?_; clear hK K)
        (with_reducible refine wpQuiet_yes ?_ ?_; (focus (kernel_rfl)); intro K hK; go_simp; refine ⟨(.slice (some ⟨ga, oa, none⟩) ra cpa), ?_, ?_⟩; rotate_left; with_reducible refine hK _ ?_; clear hK K; rotate_left)
        · intro w' hw
          simp only [(HK.out w' hw).2.1, go_sem, Result.andThen, and_self]
        (with_reducible refine wpQuiet_yes ?_ ?_; (focus (kernel_rfl)); intro K hK; go_simp; refine ⟨_, fun _ _ => rfl, ?_⟩; with_reducible refine hK _ ?_; clear hK K)
        (with_reducible refine wpQuiet_yes ?_ ?_; (focus (kernel_rfl)); intro K hK; go_simp; refine ⟨(.slice xa ca xc), ?_, ?_⟩; rotate_left; with_reducible refine hK _ ?_; clear hK K; rotate_left)
        · intro w' hw
          simp only [(HH.out w' hw).1, go_sem, Result.andThen, and_self]
        (with_reducible refine wpQuiet_yes ?_ ?_; (focus (kernel_rfl)); intro K hK; go_simp; refine ⟨_, fun _ _ => rfl, ?_⟩; with_reducible refine hK _ ?_; clear hK K)
        (with_reducible refine wpQuiet_yes ?_ ?_; (focus (kernel_rfl)); intro K hK; go_simp; refine ⟨(.slice (some ⟨gb, ob, none⟩) rb cpb), ?_, ?_⟩; rotate_left; with_reducible refine hK _ ?_; clear hK K; rotate_left)
        · intro w' hw
          simp only [(HK.out w' hw).2.2, go_sem, Result.andThen, and_self]
        iterate 3 (with_reducible refine wpQuiet_yes ?_ ?_; (focus (kernel_rfl)); intro K hK; go_simp; refine ⟨_, fun _ _ => rfl, ?_⟩; with_reducible refine hK _ ?_; clear hK K)
        refine wpQuiet_nil fun w2 hb2 => ?_
        have Hb2 := Lib.hid (HBW.out.trans (hb2.mono (by omega)))
        clear hb2
        simp only [Exit.then]
        go_wp2_with fail
        rw [HV.out.1, HV.out.2]
        refine bodyPost_ret (v := .tuple #[.slice none 0 0, .bool false]) (by simp [results, Try.results53, go_sem]) rfl ⟨_, rfl, OwnMat.nil _ _ _ _, Hb2.out⟩
end Go.Proofs.Ytlcmddghppdmgaa
