/-
  MulMatrix of the program. Conditions: none but that the slices read as matrices.
  MulMatrix of the program: the whole. Conditions: none but that the slices read as matrices.
  MulMatrix of the model. Conditions: none but that the slices read as matrices.
  The walk of the exact law of MulMatrix. Conditions: none but that the slices read as lists.
-/
import Derived.Test.YtgclbdpghlcgjaaBa12
import Derived.Test.YtgclbdpghlcgjaaBa10
import Derived.Test.YtgclbdpghlcgjaaBa2
import Derived.Test.YtgclbdpghlcgjaaBa6
import Derived.Test.YtgclbdpghlcgjaaBa5
namespace Go.Proofs.Ytgclbdpghlcgjaa
set_option linter.unusedVariables false
open Go.RowKit Go.Shelf
/-- a sum of elements, reduced at each step -/
def sumE (p : Int) (f : Nat → Int) : Nat → Int
  | 0 => 0
  | j + 1 => (sumE p f j + f j) % p
theorem sumE_bd {p : Int} (hp : 2 ≤ p) (f : Nat → Int) : ∀ j, 0 ≤ sumE p f j ∧ sumE p f j < p
  | 0 => ⟨Int.le_refl _, show (0 : Int) < p by omega⟩
  | j + 1 => ⟨Int.emod_nonneg _ (by omega), Int.emod_lt_of_pos _ (by omega)⟩
def mmE (p : Int) (m : Nat) (A B : Nat → Nat → Int) (i k : Nat) : Int := sumE p (fun j => A i j * B j k) m
def mulB (p : Int) (a b : List (List Int)) : Bool := matB p a && (matB p b && decide ((rowM a 0).length = b.length))
def mulMV (p : Int) (a b : List (List Int)) : List (List Int) := if mulB p a b = true then matF (rowM b 0).length (mmE p b.length (el a) (el b)) a.length else []
theorem mulMV_rows (p : Int) (a b : List (List Int)) : (mulMV p a b).length ≤ 100 ∧ ∀ i, i < (mulMV p a b).length → 0 < (rowM (mulMV p a b) i).length ∧ (rowM (mulMV p a b) i).length ≤ 1000 := by
  unfold mulMV
  by_cases h : mulB p a b = true
  · have h' := h
    simp only [mulB, Bool.and_eq_true] at h'
    obtain ⟨_, h1, _⟩ := matB_iff.1 h'.1
    obtain ⟨_, _, h2, _⟩ := matB_iff.1 h'.2.1
    rw [if_pos h, matF_len]
    refine ⟨by omega, fun i hi => ?_⟩
    rw [matF_row hi]; simp; omega
  · rw [if_neg h]; exact ⟨by simp, fun i hi => absurd hi (Nat.not_lt_zero i)⟩
theorem addMul {p s x y : Int} (hp : isP p = true) (hs : 0 ≤ s ∧ s < p) (hx : 0 ≤ x ∧ x < p) (hy : 0 ≤ y ∧ y < p) : addV p s (mulV p x y) = (s + x * y) % p := by
  have hb := isP_bd hp
  have e1 : mulV p x y = x * y % p := by unfold mulV; rw [if_pos (isE2_iff.2 ⟨hp, hx, hy⟩)]
  have h1 : 0 ≤ x * y % p := Int.emod_nonneg _ (by omega)
  have h2 : x * y % p < p := Int.emod_lt_of_pos _ (by omega)
  rw [e1]
  unfold addV
  rw [if_pos (isE2_iff.2 ⟨hp, hs, h1, h2⟩)]
  exact Int.add_emod_emod _ _ _
/-- what MulMatrix's closure reads: three boxes -/
structure MulS (w : World) (bb bp ba : Nat) (p : Int) (ga oa ra ca cpa gb ob rb cb cpb : Nat) (A B : Nat → Nat → Int) : Prop where
  kb : w.cell? ⟨bb, 0, none⟩ = some (.slice (some ⟨gb, ob, none⟩) rb cpb)
  kp : w.cell? ⟨bp, 0, none⟩ = some (.int .i64 p)
  ka : w.cell? ⟨ba, 0, none⟩ = some (.slice (some ⟨ga, oa, none⟩) ra cpa)
  lb : bb < w.heap.size
  lp : bp < w.heap.size
  la : ba < w.heap.size
  mA : MatC w ga oa ra ca A
  mB : MatC w gb ob rb cb B
theorem MulS.below {w w' : World} {bb bp ba : Nat} {p : Int} {ga oa ra ca cpa gb ob rb cb cpb : Nat} {A B : Nat → Nat → Int} (h : MulS w bb bp ba p ga oa ra ca cpa gb ob rb cb cpb A B) (hb : Below w.heap.size w w') : MulS w' bb bp ba p ga oa ra ca cpa gb ob rb cb cpb A B := by
  have e := hb.size
  have h1 := h.lb
  have h2 := h.lp
  have h3 := h.la
  exact ⟨by rw [hb.cell (p := ⟨bb, 0, none⟩) h1]; exact h.kb, by rw [hb.cell (p := ⟨bp, 0, none⟩) h2]; exact h.kp, by rw [hb.cell (p := ⟨ba, 0, none⟩) h3]; exact h.ka, by omega, by omega, by omega, h.mA.below hb, h.mB.below hb⟩
set_option maxRecDepth 100000 in
set_option maxHeartbeats 4000000 in
theorem iMul1 (bb bp ba : Nat) (p : Int) (hp : isP p = true) (ga oa ra ca cpa gb ob rb cb cpb : Nat) (A B : Nat → Nat → Int) (W : World) (hS : MulS W bb bp ba p ga oa ra ca cpa gb ob rb cb cpb A B)
    (hA : ∀ i k, i < ra → k < ca → 0 ≤ A i k ∧ A i k < p) (hB : ∀ i k, i < rb → k < cb → 0 ≤ B i k ∧ B i k < p) (he : ca = rb) (hr : rb ≤ 4) (i k : Nat) (hi : i < ra) (hk : k < cb) :
    Calls Try.prog 69 #[.int .i64 i, .int .i64 k, .pointer (some ⟨bb, 0, none⟩), .pointer (some ⟨bp, 0, none⟩), .pointer (some ⟨ba, 0, none⟩)] W fun e w' => e = .returned (.int .i64 (mmE p rb A B i k)) ∧ Below W.heap.size W w' := by
  subst he
  have hpb := isP_bd hp
  have HSB := Lib.hid (fun j => sumE_bd hpb.1 (fun j => A i j * B j k) j)
  have HV := Lib.hid (fun j (hj : j < ca) => show addV p (sumE p (fun j => A i j * B j k) j) (mulV p (A i j) (B j k)) = sumE p (fun j => A i j * B j k) (j + 1) from
    addMul hp (sumE_bd hpb.1 _ j) (hA i j hi hj) (hB j k hj hk))
  have HS := Lib.hid hS
  have hip : (i : Int) < (ra : Int) := by omega
  have hkp : (k : Int) < (cb : Int) := by omega
  have hi0 : (0 : Int) ≤ (i : Int) := by omega
  have hk0 : (0 : Int) ≤ (k : Int) := by omega
  have HX := Lib.hid (fun w' (hb : Below W.heap.size W w') j (hj : j < ca) => show ∃ h1 o1 c1 h2 o2 c2, w'.cell? ⟨ga, oa + i, none⟩ = some (.slice (some ⟨h1, o1, none⟩) ca c1) ∧ w'.cell? ⟨h1, o1 + j, none⟩ = some (.int .i64 (A i j)) ∧ w'.cell? ⟨gb, ob + j, none⟩ = some (.slice (some ⟨h2, o2, none⟩) cb c2) ∧ w'.cell? ⟨h2, o2 + k, none⟩ = some (.int .i64 (B j k)) from by
    have h := hS.below hb
    obtain ⟨h1, o1, c1, q1, _, q2⟩ := h.mA.2 i hi
    obtain ⟨h2, o2, c2, q3, _, q4⟩ := h.mB.2 j hj
    exact ⟨h1, o1, c1, h2, o2, c2, q1, q2 j hj, q3, q4 k hk⟩)
  have HBX := Lib.hid (fun w' (hb : Below W.heap.size W w') => show w'.cell? ⟨bb, 0, none⟩ = some (.slice (some ⟨gb, ob, none⟩) ca cpb) ∧ w'.cell? ⟨bp, 0, none⟩ = some (.int .i64 p) ∧ w'.cell? ⟨ba, 0, none⟩ = some (.slice (some ⟨ga, oa, none⟩) ra cpa) from
    have h := hS.below hb
    ⟨h.kb, h.kp, h.ka⟩)
  have HXB := Lib.hid (fun w' w'' (hb : Below W.heap.size W w') (hb2 : Below w'.heap.size w' w'') h1 o1 h2 o2 j va vb (q2 : w'.cell? ⟨h1, o1 + j, none⟩ = some va) (q4 : w'.cell? ⟨h2, o2 + k, none⟩ = some vb) => show w''.cell? ⟨h1, o1 + j, none⟩ = some va ∧ w''.cell? ⟨h2, o2 + k, none⟩ = some vb from
    ⟨by rw [hb2.cell (p := ⟨h1, o1 + j, none⟩) (World.block_lt_of_cell? w' _ q2)]; exact q2, by rw [hb2.cell (p := ⟨h2, o2 + k, none⟩) (World.block_lt_of_cell? w' _ q4)]; exact q4⟩)
  obtain ⟨x0, x1, x2⟩ := HBX.out W (Below.refl _ _)
  clear hS hA hB hpb hp
  go_enter Try.func69, Try.ntmps69
  go_wp2_with fail
  go_loopw [8, 12] (fun q i2 wr => ∃ j : Nat, j ≤ ca ∧ i2 = .int .i64 j ∧ q = .int .i64 (sumE p (fun j => A i j * B j k) j) ∧ Below W.heap.size W wr) (fun _ i2 _ => ca - (intOf i2).toNat)
  case atStart => exact ⟨0, by omega, rfl, rfl, Below.refl _ _⟩
  case round =>
    obtain ⟨j, hj, rfl, rfl, hb⟩ := hrel
    by_cases hlt : j < ca
    · have hltp : (j : Int) < (ca : Int) := by omega
      have hj0 : (0 : Int) ≤ (j : Int) := by omega
      obtain ⟨h1, o1, c1, h2, o2, c2, q1, q2, q3, q4⟩ := HX.out _ hb j hlt
      have HSP := Lib.hid (fun w' (hbw : Below wr.heap.size wr w') => show (w'.cell? ⟨bb, 0, none⟩ = some (.slice (some ⟨gb, ob, none⟩) ca cpb) ∧ w'.cell? ⟨bp, 0, none⟩ = some (.int .i64 p) ∧ w'.cell? ⟨ba, 0, none⟩ = some (.slice (some ⟨ga, oa, none⟩) ra cpa)) ∧ (w'.cell? ⟨ga, oa + i, none⟩ = some (.slice (some ⟨h1, o1, none⟩) ca c1) ∧ w'.cell? ⟨h1, o1 + j, none⟩ = some (.int .i64 (A i j)) ∧ w'.cell? ⟨gb, ob + j, none⟩ = some (.slice (some ⟨h2, o2, none⟩) cb c2) ∧ w'.cell? ⟨h2, o2 + k, none⟩ = some (.int .i64 (B j k))) from
        ⟨HBX.out _ (hb.trans (hbw.mono hb.size)), by rw [hbw.cell (p := ⟨ga, oa + i, none⟩) (World.block_lt_of_cell? wr _ q1)]; exact q1, by rw [hbw.cell (p := ⟨h1, o1 + j, none⟩) (World.block_lt_of_cell? wr _ q2)]; exact q2, by rw [hbw.cell (p := ⟨gb, ob + j, none⟩) (World.block_lt_of_cell? wr _ q3)]; exact q3, by rw [hbw.cell (p := ⟨h2, o2 + k, none⟩) (World.block_lt_of_cell? wr _ q4)]; exact q4⟩)
      have HVV := Lib.hid (HV.out j hlt)
      obtain ⟨x, hx⟩ : ∃ x, x = A i j := ⟨_, rfl⟩
      obtain ⟨y, hy⟩ : ∃ y, y = B j k := ⟨_, rfl⟩
      obtain ⟨s, hs⟩ : ∃ s, s = sumE p (fun j => A i j * B j k) j := ⟨_, rfl⟩
      obtain ⟨s2, hs2⟩ : ∃ s, s = sumE p (fun j => A i j * B j k) (j + 1) := ⟨_, rfl⟩
      rw [← hx, ← hy, ← hs, ← hs2] at HVV
      rw [← hx, ← hy] at HSP
      rw [← hs]
      have HS2 := Lib.hid hs2
      have HB := Lib.hid hb
      clear q1 q2 q3 q4 hb hx hy hs hs2
      go_wp2_with fail
      refine wp_region_seq [(0, true), (1, true), (2, true), (3, true), (4, true), (5, true), (6, true), (7, true), (8, true), (9, true), (10, true), (11, true), (12, true), (13, true), (14, true), (15, true), (16, true), (17, false), (18, false)] (fun w' => (w'.cell? ⟨bb, 0, none⟩ = some (.slice (some ⟨gb, ob, none⟩) ca cpb) ∧ w'.cell? ⟨bp, 0, none⟩ = some (.int .i64 p) ∧ w'.cell? ⟨ba, 0, none⟩ = some (.slice (some ⟨ga, oa, none⟩) ra cpa)) ∧ (w'.cell? ⟨ga, oa + i, none⟩ = some (.slice (some ⟨h1, o1, none⟩) ca c1) ∧ w'.cell? ⟨h1, o1 + j, none⟩ = some (.int .i64 x) ∧ w'.cell? ⟨gb, ob + j, none⟩ = some (.slice (some ⟨h2, o2, none⟩) cb c2) ∧ w'.cell? ⟨h2, o2 + k, none⟩ = some (.int .i64 y))) (by kernel_rfl) (by kernel_rfl) rfl (by intro c a d v w h; cases d <;> exact h) (HSP.out _ (Below.drew (Below.refl _ _))) ?_
      iterate 17 (refine wpSeq_take (v := ?_) (List.getElem?_toArray.trans rfl) ?_ ?_; rotate_left; (intro w' hSw; (try dsimp only at hSw); go_simp; (try with_reducible rfl)); (try simp only [Act.put, List.setIfInBounds_toArray, List.set_cons_zero, List.set_cons_succ]))
      have hdr : Below wr.heap.size wr wr.drew := Below.drew (Below.refl _ _)
      refine wpSeq_do (List.getElem?_toArray.trans rfl) (fun K hK => ?_)
      go_simp
      refine (iMul p x y _).mono ?_
      rintro e w6 ⟨rfl, hb6⟩
      have hbb : Below wr.heap.size wr w6 := hdr.trans hb6
      refine hK _ _ (HSP.out _ hbb) ?_
      clear hK K
      refine wpSeq_do (List.getElem?_toArray.trans rfl) (fun K hK => ?_)
      go_simp
      refine (iAdd p s _ _).mono ?_
      rintro e w7 ⟨rfl, hb7⟩
      have hbc : Below wr.heap.size wr w7 := hbb.trans (hb7.mono hbb.size)
      refine hK _ _ (HSP.out _ hbc) ?_
      clear hK K
      refine wpSeq_nil ?_
      simp only [Exit.then]
      rw [HVV.out]
      have HF := Lib.hid (HB.out.trans (hbc.mono HB.out.size))
      clear hbc hb7 hb6 hbb hdr
      go_wp2_with fail
      go_roundw
      case rel => exact ⟨j + 1, by omega, by go_num, by rw [HS2.out], HF.out⟩
      case measure => simp [intOf]; omega
    · have hjc : j = ca := by omega
      subst hjc
      have HF := Lib.hid hb
      clear hb
      go_wp2_with fail
      go_ret
      exact ⟨rfl, HF.out⟩
theorem enMul (args : Array Value) (w : World) : (callFunc 69 args).run Try.prog w = .ok (.enter 69 args) w := enters_of Try.func69 (by kernel_rfl) rfl args w
end Go.Proofs.Ytgclbdpghlcgjaa
namespace Go.Proofs.Ytgclbdpghlcgjaa
set_option linter.unusedVariables false
open Go.RowKit Go.Shelf
set_option maxRecDepth 100000 in
set_option maxHeartbeats 8000000 in
theorem iMulM (p : Int) (va vb : Value) (a b : List (List Int)) (w : World) (ha : Mat w va a) (hb : Mat w vb b) :
    Calls Try.prog 20 #[.int .i64 p, va, vb] w fun e w' => ∃ u, e = .returned (.tuple #[u, .bool (mulB p a b)]) ∧ OwnMat w' w.heap.size u (mulMV p a b) ∧ Below w.heap.size w w' := by
  obtain ⟨W, hW⟩ : ∃ W, W = ((w.alloc (.cells #[.int .i64 p] 3)).alloc (.cells #[va] 24)).alloc (.cells #[vb] 24) := ⟨_, rfl⟩
  have hbW : Below w.heap.size w W := by
    rw [hW]; exact Below.alloc (Below.alloc (Below.alloc (Below.refl _ _) (Nat.le_refl _) _) (by simp) _) (by simp; omega) _
  have hWs : w.heap.size + 2 < W.heap.size := by rw [hW]; simp
  have hc0 : W.cell? ⟨w.heap.size, 0, none⟩ = some (.int .i64 p) := by rw [hW]; simp [go_sem]
  have hc1 : W.cell? ⟨w.heap.size + 1, 0, none⟩ = some va := by rw [hW]; simp [go_sem]
  have hc2 : W.cell? ⟨w.heap.size + 2, 0, none⟩ = some vb := by rw [hW]; simp [go_sem]
  have HK := Lib.hid (fun w' (h : Below W.heap.size W w') => show w'.cell? ⟨w.heap.size, 0, none⟩ = some (.int .i64 p) ∧ w'.cell? ⟨w.heap.size + 1, 0, none⟩ = some va ∧ w'.cell? ⟨w.heap.size + 2, 0, none⟩ = some vb from
    ⟨by rw [h.cell (p := ⟨w.heap.size, 0, none⟩) (by show w.heap.size < _; omega)]; exact hc0, by rw [h.cell (p := ⟨w.heap.size + 1, 0, none⟩) (by show w.heap.size + 1 < _; omega)]; exact hc1, by rw [h.cell (p := ⟨w.heap.size + 2, 0, none⟩) (by show w.heap.size + 2 < _; omega)]; exact hc2⟩)
  have HMA := Lib.hid (fun w' (h : Below W.heap.size W w') => iMV p va a w' (ha.below (hbW.trans (h.mono (by omega)))))
  have HMB := Lib.hid (fun w' (h : Below W.heap.size W w') => iMV p vb b w' (hb.below (hbW.trans (h.mono (by omega)))))
  have HWE := Lib.hid hW
  have HBW := Lib.hid hbW
  cases hA : matB p a
  · have HV := Lib.hid (show mulB p a b = false ∧ mulMV p a b = [] by
      have : mulB p a b = false := by simp [mulB, hA]
      exact ⟨this, by simp [mulMV, this]⟩)
    rw [hA] at HMA
    obtain ⟨_, _, aa, ca, rfl, _⟩ := ha
    obtain ⟨_, _, ab, cb, rfl, _⟩ := hb
    clear hA hW hbW hc0 hc1 hc2
    go_enter Try.func20, Try.ntmps20
    go_wp2_with fail
    rw [← HWE.out]
    refine wp_region_below (by kernel_rfl) (by kernel_rfl) ?_
    (with_reducible refine wpQuiet_yes ?_ ?_; (focus (kernel_rfl)); intro K hK; go_simp; refine ⟨(.int .i64 p), ?_, ?_⟩; rotate_left; with_reducible refine hK _ ?_; clear hK K; rotate_left)
    · intro w' hw
      simp only [(HK.out w' hw).1, go_sem, Result.andThen, and_self]
    (with_reducible refine wpQuiet_yes ?_ ?_; (focus (kernel_rfl)); intro K hK; go_simp; refine ⟨(.slice aa a.length ca), ?_, ?_⟩; rotate_left; with_reducible refine hK _ ?_; clear hK K; rotate_left)
    · intro w' hw
      simp only [(HK.out w' hw).2.1, go_sem, Result.andThen, and_self]
    (with_reducible refine wpQuiet_yes ?_ ?_; (focus (kernel_rfl)); intro K hK; go_simp; refine ⟨(.bool false), ?_, ?_⟩; rotate_left; with_reducible refine hK _ ?_; clear hK K; rotate_left)
    · intro w' hw
      exact (HMA.out w' hw).mono fun e w'' ⟨he, h⟩ => ⟨he, h ▸ hw⟩
    (with_reducible refine wpQuiet_yes ?_ ?_; (focus (kernel_rfl)); intro K hK; go_simp; refine ⟨_, fun _ _ => rfl, ?_⟩; with_reducible refine hK _ ?_; clear hK K)
    (with_reducible refine wpQuiet_yes ?_ ?_; (focus (kernel_rfl)); intro K hK; go_simp; refine ⟨_, fun _ _ => rfl, ?_⟩; with_reducible refine hK _ ?_; clear hK K)
    iterate 4 (with_reducible refine wpQuiet_no ?_ ?_; (focus (kernel_rfl)); intro K hK; go_simp; with_reducible refine hK _ ?_; clear hK K)
    (with_reducible refine wpQuiet_yes ?_ ?_; (focus (kernel_rfl)); intro K hK; go_simp; refine ⟨_, fun _ _ => rfl, ?_⟩; with_reducible refine hK _ ?_; clear hK K)
    (with_reducible refine wpQuiet_yes ?_ ?_; (focus (kernel_rfl)); intro K hK; go_simp; refine ⟨_, fun _ _ => rfl, ?_⟩; with_reducible refine hK _ ?_; clear hK K)
    iterate 7 (with_reducible refine wpQuiet_no ?_ ?_; (focus (kernel_rfl)); intro K hK; go_simp; with_reducible refine hK _ ?_; clear hK K)
    (with_reducible refine wpQuiet_yes ?_ ?_; (focus (kernel_rfl)); intro K hK; go_simp; refine ⟨_, fun _ _ => rfl, ?_⟩; with_reducible refine hK _ ?_; clear hK K)
    refine wpQuiet_nil fun w2 hb2 => ?_
    have Hb2 := Lib.hid (HBW.out.trans (hb2.mono (by omega)))
    clear hb2
    simp only [Exit.then]
    go_wp2_with fail
    rw [HV.out.1, HV.out.2]
    refine bodyPost_ret (v := .tuple #[.slice none 0 0, .bool false]) (by simp [results, Try.results20, go_sem]) rfl ⟨_, rfl, OwnMat.nil _ _ _ _, Hb2.out⟩
  · rw [hA] at HMA
    cases hB : matB p b
    · have HV := Lib.hid (show mulB p a b = false ∧ mulMV p a b = [] by
        have : mulB p a b = false := by simp [mulB, hB]
        exact ⟨this, by simp [mulMV, this]⟩)
      rw [hB] at HMB
      obtain ⟨_, _, aa, ca, rfl, _⟩ := ha
      obtain ⟨_, _, ab, cb, rfl, _⟩ := hb
      clear hA hB hW hbW hc0 hc1 hc2
      go_enter Try.func20, Try.ntmps20
      go_wp2_with fail
      rw [← HWE.out]
      refine wp_region_below (by kernel_rfl) (by kernel_rfl) ?_
      (with_reducible refine wpQuiet_yes ?_ ?_; (focus (kernel_rfl)); intro K hK; go_simp; refine ⟨(.int .i64 p), ?_, ?_⟩; rotate_left; with_reducible refine hK _ ?_; clear hK K; rotate_left)
      · intro w' hw
        simp only [(HK.out w' hw).1, go_sem, Result.andThen, and_self]
      (with_reducible refine wpQuiet_yes ?_ ?_; (focus (kernel_rfl)); intro K hK; go_simp; refine ⟨(.slice aa a.length ca), ?_, ?_⟩; rotate_left; with_reducible refine hK _ ?_; clear hK K; rotate_left)
      · intro w' hw
        simp only [(HK.out w' hw).2.1, go_sem, Result.andThen, and_self]
      (with_reducible refine wpQuiet_yes ?_ ?_; (focus (kernel_rfl)); intro K hK; go_simp; refine ⟨(.bool true), ?_, ?_⟩; rotate_left; with_reducible refine hK _ ?_; clear hK K; rotate_left)
      · intro w' hw
        exact (HMA.out w' hw).mono fun e w'' ⟨he, h⟩ => ⟨he, h ▸ hw⟩
      (with_reducible refine wpQuiet_yes ?_ ?_; (focus (kernel_rfl)); intro K hK; go_simp; refine ⟨_, fun _ _ => rfl, ?_⟩; with_reducible refine hK _ ?_; clear hK K)
      (with_reducible refine wpQuiet_yes ?_ ?_; (focus (kernel_rfl)); intro K hK; go_simp; refine ⟨_, fun _ _ => rfl, ?_⟩; with_reducible refine hK _ ?_; clear hK K)
      (with_reducible refine wpQuiet_yes ?_ ?_; (focus (kernel_rfl)); intro K hK; go_simp; refine ⟨(.int .i64 p), ?_, ?_⟩; rotate_left; with_reducible refine hK _ ?_; clear hK K; rotate_left)
      · intro w' hw
        simp only [(HK.out w' hw).1, go_sem, Result.andThen, and_self]
      (with_reducible refine wpQuiet_yes ?_ ?_; (focus (kernel_rfl)); intro K hK; go_simp; refine ⟨(.slice ab b.length cb), ?_, ?_⟩; rotate_left; with_reducible refine hK _ ?_; clear hK K; rotate_left)
      · intro w' hw
        simp only [(HK.out w' hw).2.2, go_sem, Result.andThen, and_self]
      (with_reducible refine wpQuiet_yes ?_ ?_; (focus (kernel_rfl)); intro K hK; go_simp; refine ⟨(.bool false), ?_, ?_⟩; rotate_left; with_reducible refine hK _ ?_; clear hK K; rotate_left)
      · intro w' hw
        exact (HMB.out w' hw).mono fun e w'' ⟨he, h⟩ => ⟨he, h ▸ hw⟩
      iterate 3 (with_reducible refine wpQuiet_yes ?_ ?_; (focus (kernel_rfl)); intro K hK; go_simp; refine ⟨_, fun _ _ => rfl, ?_⟩; with_reducible refine hK _ ?_; clear hK K)
      iterate 7 (with_reducible refine wpQuiet_no ?_ ?_; (focus (kernel_rfl)); intro K hK; go_simp; with_reducible refine hK _ ?_; clear hK K)
      (with_reducible refine wpQuiet_yes ?_ ?_; (focus (kernel_rfl)); intro K hK; go_simp; refine ⟨_, fun _ _ => rfl, ?_⟩; with_reducible refine hK _ ?_; clear hK K)
      refine wpQuiet_nil fun w2 hb2 => ?_
      have Hb2 := Lib.hid (HBW.out.trans (hb2.mono (by omega)))
      clear hb2
      simp only [Exit.then]
      go_wp2_with fail
      rw [HV.out.1, HV.out.2]
      refine bodyPost_ret (v := .tuple #[.slice none 0 0, .bool false]) (by simp [results, Try.results20, go_sem]) rfl ⟨_, rfl, OwnMat.nil _ _ _ _, Hb2.out⟩
    · rw [hB] at HMB
      obtain ⟨ra, ca, hra, hra1, hra4, hca, hca1, hca4, hrowa, hela, hMFa⟩ := matB_side hA
      obtain ⟨rb, cb, hrb, hrb1, hrb4, hcb, hcb1, hcb4, hrowb, helb, hMFb⟩ := matB_side hB
      obtain ⟨ga, oa, cpa, rfl, hCa⟩ := ha.cells hra hra1 hca1 hrowa
      obtain ⟨gb, ob, cpb, rfl, hCb⟩ := hb.cells hrb hrb1 hcb1 hrowb
      have hp := (matB_iff.1 hA).1
      have HSS := Lib.hid (fun w' (h : Below W.heap.size W w') => show MulS w' (w.heap.size + 2) w.heap.size (w.heap.size + 1) p ga oa ra ca cpa gb ob rb cb cpb (el a) (el b) from by
        have hk := HK.out w' h
        have hs := h.size
        have hbb := hbW.trans (h.mono (by omega))
        exact ⟨hk.2.2, hk.1, hk.2.1, by omega, by omega, by omega, hCa.below hbb, hCb.below hbb⟩)
      have HA0 := Lib.hid (fun w' (h : Below W.heap.size W w') => show ∃ x cp, w'.cell? ⟨ga, oa, none⟩ = some (.slice x ca cp) from by
        obtain ⟨hh, o, cp, h1, _⟩ := (HSS.out w' h).mA.2 0 (by omega)
        exact ⟨_, cp, h1⟩)
      have HB0 := Lib.hid (fun w' (h : Below W.heap.size W w') => show ∃ x cp, w'.cell? ⟨gb, ob, none⟩ = some (.slice x cb cp) from by
        obtain ⟨hh, o, cp, h1, _⟩ := (HSS.out w' h).mB.2 0 (by omega)
        exact ⟨_, cp, h1⟩)
      obtain ⟨xa, xc, hxa⟩ := HA0.out W (Below.refl _ _)
      obtain ⟨ya, yc, hya⟩ := HB0.out W (Below.refl _ _)
      have HH := Lib.hid (fun w' (h : Below W.heap.size W w') => show w'.cell? ⟨ga, oa, none⟩ = some (.slice xa ca xc) ∧ w'.cell? ⟨gb, ob, none⟩ = some (.slice ya cb yc) from
        ⟨by rw [h.cell (p := ⟨ga, oa, none⟩) (World.block_lt_of_cell? W _ hxa)]; exact hxa, by rw [h.cell (p := ⟨gb, ob, none⟩) (World.block_lt_of_cell? W _ hya)]; exact hya⟩)
      have hrap : 0 < ra := by omega
      have hrbp : 0 < rb := by omega
      by_cases he : ca = rb
      · have HV := Lib.hid (show mulB p a b = true ∧ mulMV p a b = matF cb (mmE p rb (el a) (el b)) ra by
          have : mulB p a b = true := by simp [mulB, hA, hB, hca, hrb, he]
          exact ⟨this, by simp [mulMV, this, hra, hrb, hcb]⟩)
        have HN := Lib.hid (fun w' (h : Below W.heap.size W w') => iNew ra cb hra1 hra4 hcb1 hcb4 (mmE p rb (el a) (el b)) 69 #[.pointer (some ⟨w.heap.size + 2, 0, none⟩), .pointer (some ⟨w.heap.size, 0, none⟩), .pointer (some ⟨w.heap.size + 1, 0, none⟩)] w' enMul
          (fun W2 hb2 i k hi hk => iMul1 (w.heap.size + 2) w.heap.size (w.heap.size + 1) p hp ga oa ra ca cpa gb ob rb cb cpb (el a) (el b) W2 (HSS.out W2 (h.trans (hb2.mono h.size))) hela helb he hrb4 i k hi hk))
        have hne : ((ca : Int) != (rb : Int)) = false := by simp [he]
        clear ha hb hA hB hW hbW hc0 hc1 hc2 hMFa hMFb hrowa hrowb hela helb hCa hCb hxa hya he HA0 HB0
        go_enter Try.func20, Try.ntmps20
        go_wp2_with fail
        rw [← HWE.out]
        refine wp_region_below (by kernel_rfl) (by kernel_rfl) ?_
        (with_reducible refine wpQuiet_yes ?_ ?_; (focus (kernel_rfl)); intro K hK; go_simp; refine ⟨(.int .i64 p), ?_, ?_⟩; rotate_left; with_reducible refine hK _ ?_; clear hK K; rotate_left)
        · intro w' hw
          simp only [(HK.out w' hw).1, go_sem, Result.andThen, and_self]
        (with_reducible refine wpQuiet_yes ?_ ?_; (focus (kernel_rfl)); intro K hK; go_simp; refine ⟨(.slice (some ⟨ga, oa, none⟩) ra cpa), ?_, ?_⟩; rotate_left; with_reducible refine hK _ ?_; clear hK K; rotate_left)
        · intro w' hw
          simp only [(HK.out w' hw).2.1, go_sem, Result.andThen, and_self]
        (with_reducible refine wpQuiet_yes ?_ ?_; (focus (kernel_rfl)); intro K hK; go_simp; refine ⟨(.bool true), ?_, ?_⟩; rotate_left; with_reducible refine hK _ ?_; clear hK K; rotate_left)
        · intro w' hw
          exact (HMA.out w' hw).mono fun e w'' ⟨he, h⟩ => ⟨he, h ▸ hw⟩
        (with_reducible refine wpQuiet_yes ?_ ?_; (focus (kernel_rfl)); intro K hK; go_simp; refine ⟨_, fun _ _ => rfl, ?_⟩; with_reducible refine hK _ ?_; clear hK K)
        (with_reducible refine wpQuiet_yes ?_ ?_; (focus (kernel_rfl)); intro K hK; go_simp; refine ⟨_, fun _ _ => rfl, ?_⟩; with_reducible refine hK _ ?_; clear hK K)
        (with_reducible refine wpQuiet_yes ?_ ?_; (focus (kernel_rfl)); intro K hK; go_simp; refine ⟨(.int .i64 p), ?_, ?_⟩; rotate_left; with_reducible refine hK _ ?_; clear hK K; rotate_left)
        · intro w' hw
          simp only [(HK.out w' hw).1, go_sem, Result.andThen, and_self]
        (with_reducible refine wpQuiet_yes ?_ ?_; (focus (kernel_rfl)); intro K hK; go_simp; refine ⟨(.slice (some ⟨gb, ob, none⟩) rb cpb), ?_, ?_⟩; rotate_left; with_reducible refine hK _ ?_; clear hK K; rotate_left)
        · intro w' hw
          simp only [(HK.out w' hw).2.2, go_sem, Result.andThen, and_self]
        (with_reducible refine wpQuiet_yes ?_ ?_; (focus (kernel_rfl)); intro K hK; go_simp; refine ⟨(.bool true), ?_, ?_⟩; rotate_left; with_reducible refine hK _ ?_; clear hK K; rotate_left)
        · intro w' hw
          exact (HMB.out w' hw).mono fun e w'' ⟨he, h⟩ => ⟨he, h ▸ hw⟩
        iterate 3 (with_reducible refine wpQuiet_yes ?_ ?_; (focus (kernel_rfl)); intro K hK; go_simp; refine ⟨_, fun _ _ => rfl, ?_⟩; with_reducible refine hK _ ?_; clear hK K)
        (with_reducible refine wpQuiet_yes ?_ ?_; (focus (kernel_rfl)); intro K hK; go_simp; refine ⟨(.slice (some ⟨ga, oa, none⟩) ra cpa), ?_, ?_⟩; rotate_left; with_reducible refine hK _ ?_; clear hK K; rotate_left)
        · intro w' hw
          simp only [(HK.out w' hw).2.1, go_sem, Result.andThen, and_self]
        (with_reducible refine wpQuiet_yes ?_ ?_; (focus (kernel_rfl)); intro K hK; go_simp; refine ⟨_, fun _ _ => rfl, ?_⟩; with_reducible refine hK _ ?_; clear hK K)
        (with_reducible refine wpQuiet_yes ?_ ?_; (focus (kernel_rfl)); intro K hK; go_simp; refine ⟨(.slice xa ca xc), ?_, ?_⟩; rotate_left; with_reducible refine hK _ ?_; clear hK K; rotate_left)
        · intro w' hw
          simp only [(HH.out w' hw).1, go_sem, Result.andThen, and_self]
        (with_reducible refine wpQuiet_yes ?_ ?_; (focus (kernel_rfl)); intro K hK; go_simp; refine ⟨_, fun _ _ => rfl, ?_⟩; with_reducible refine hK _ ?_; clear hK K)
        (with_reducible refine wpQuiet_yes ?_ ?_; (focus (kernel_rfl)); intro K hK; go_simp; refine ⟨(.slice (some ⟨gb, ob, none⟩) rb cpb), ?_, ?_⟩; rotate_left; with_reducible refine hK _ ?_; clear hK K; rotate_left)
        · intro w' hw
          simp only [(HK.out w' hw).2.2, go_sem, Result.andThen, and_self]
        iterate 3 (with_reducible refine wpQuiet_yes ?_ ?_; (focus (kernel_rfl)); intro K hK; go_simp; refine ⟨_, fun _ _ => rfl, ?_⟩; with_reducible refine hK _ ?_; clear hK K)
        refine wpQuiet_nil fun w2 hb2 => ?_
        have Hb2 := Lib.hid hb2
        clear hb2
        simp only [Exit.then]
        have HS := Lib.hid (fun w' (hb : Below w2.heap.size w2 w') => show (w'.cell? ⟨w.heap.size + 1, 0, none⟩ = some (.slice (some ⟨ga, oa, none⟩) ra cpa) ∧ w'.cell? ⟨w.heap.size + 2, 0, none⟩ = some (.slice (some ⟨gb, ob, none⟩) rb cpb)) ∧ w'.cell? ⟨gb, ob, none⟩ = some (.slice ya cb yc) from
          have h := Hb2.out.trans (hb.mono Hb2.out.size)
          ⟨(HK.out w' h).2, (HH.out w' h).2⟩)
        go_wp2_with fail
        refine wp_region_seq [(0, true), (1, true), (2, true), (3, true), (4, true), (5, true), (6, true), (7, false), (8, true)] (fun w' => (w'.cell? ⟨w.heap.size + 1, 0, none⟩ = some (.slice (some ⟨ga, oa, none⟩) ra cpa) ∧ w'.cell? ⟨w.heap.size + 2, 0, none⟩ = some (.slice (some ⟨gb, ob, none⟩) rb cpb)) ∧ w'.cell? ⟨gb, ob, none⟩ = some (.slice ya cb yc)) (by kernel_rfl) (by kernel_rfl) rfl (by intro c a d v w h; cases d <;> exact h) (HS.out _ (Below.drew (Below.refl _ _))) ?_
        iterate 7 (refine wpSeq_take (v := ?_) (List.getElem?_toArray.trans rfl) ?_ ?_; rotate_left; (intro w' hSw; (try dsimp only at hSw); go_simp; (try with_reducible rfl)); (try simp only [Act.put, List.setIfInBounds_toArray, List.set_cons_zero, List.set_cons_succ]))
        refine wpSeq_do (List.getElem?_toArray.trans rfl) (fun K hK => ?_)
        go_simp
        have hdr : Below w2.heap.size w2 w2.drew := Below.drew (Below.refl _ _)
        refine (HN.out _ (Hb2.out.trans (hdr.mono Hb2.out.size))).mono ?_
        rintro e w6 ⟨u6, rfl, ho, hb6⟩
        have hbb : Below w2.heap.size w2 w6 := hdr.trans hb6
        refine hK _ _ (HS.out _ hbb) ?_
        clear hK K
        (refine wpSeq_take (v := ?_) (List.getElem?_toArray.trans rfl) ?_ ?_; rotate_left; (intro w' hSw; (try dsimp only at hSw); go_simp; (try with_reducible rfl)); (try simp only [Act.put, List.setIfInBounds_toArray, List.set_cons_zero, List.set_cons_succ]))
        refine wpSeq_nil ?_
        simp only [Exit.then]
        have HF := Lib.hid (show OwnMat w6 w.heap.size u6 (matF cb (mmE p rb (el a) (el b)) ra) ∧ Below w.heap.size w w6 from by
          have h2 := Hb2.out.size
          have h3 := hdr.size
          exact ⟨ho.base (by omega), HBW.out.trans ((Hb2.out.trans (hbb.mono h2)).mono (by omega))⟩)
        clear ho hb6 hbb hdr
        go_wp2_with fail
        rw [HV.out.1, HV.out.2]
        refine bodyPost_ret (v := .tuple #[u6, .bool true]) (by simp [results, Try.results20, go_sem]) rfl ⟨_, rfl, HF.out⟩
      · have HV := Lib.hid (show mulB p a b = false ∧ mulMV p a b = [] by
          have : mulB p a b = false := by simp [mulB, hA, hB, hca, hrb, he]
          exact ⟨this, by simp [mulMV, this]⟩)
        have hne : ((ca : Int) != (rb : Int)) = true := by simp; omega
        clear ha hb hA hB hW hbW hc0 hc1 hc2 hMFa hMFb hrowa hrowb hela helb hCa hCb hxa hya he HA0 HB0
        go_enter Try.func20, Try.ntmps20
        go_wp2_with fail
        rw [← HWE.out]
        refine wp_region_below (by kernel_rfl) (by kernel_rfl) ?_
        (with_reducible refine wpQuiet_yes ?_ ?_; (focus (kernel_rfl)); intro K hK; go_simp; refine ⟨(.int .i64 p), ?_, ?_⟩; rotate_left; with_reducible refine hK _ ?_; clear hK K; rotate_left)
        · intro w' hw
          simp only [(HK.out w' hw).1, go_sem, Result.andThen, and_self]
        (with_reducible refine wpQuiet_yes ?_ ?_; (focus (kernel_rfl)); intro K hK; go_simp; refine ⟨(.slice (some ⟨ga, oa, none⟩) ra cpa), ?_, ?_⟩; rotate_left; with_reducible refine hK _ ?_; clear hK K; rotate_left)
        · intro w' hw
          simp only [(HK.out w' hw).2.1, go_sem, Result.andThen, and_self]
        (with_reducible refine wpQuiet_yes ?_ ?_; (focus (kernel_rfl)); intro K hK; go_simp; refine ⟨(.bool true), ?_, ?_⟩; rotate_left; with_reducible refine hK _ ?_; clear hK K; rotate_left)
        · intro w' hw
          exact (HMA.out w' hw).mono fun e w'' ⟨he, h⟩ => ⟨he, h ▸ hw⟩
        (with_reducible refine wpQuiet_yes ?_ ?_; (focus (kernel_rfl)); intro K hK; go_simp; refine ⟨_, fun _ _ => rfl, ?_⟩; with_reducible refine hK _ ?_; clear hK K)
        (with_reducible refine wpQuiet_yes ?_ ?_; (focus (kernel_rfl)); intro K hK; go_simp; refine ⟨_, fun _ _ => rfl, ?_⟩; with_reducible refine hK _ ?_; clear hK K)
        (with_reducible refine wpQuiet_yes ?_ ?_; (focus (kernel_rfl)); intro K hK; go_simp; refine ⟨(.int .i64 p), ?_, ?_⟩; rotate_left; with_reducible refine hK _ ?_; clear hK K; rotate_left)
        · intro w' hw
          simp only [(HK.out w' hw).1, go_sem, Result.andThen, and_self]
        (with_reducible refine wpQuiet_yes ?_ ?_; (focus (kernel_rfl)); intro K hK; go_simp; refine ⟨(.slice (some ⟨gb, ob, none⟩) rb cpb), ?_, ?_⟩; rotate_left; with_reducible refine hK _ ?_; clear hK K; rotate_left)
        · intro w' hw
          simp only [(HK.out w' hw).2.2, go_sem, Result.andThen, and_self]
        (with_reducible refine wpQuiet_yes ?_ ?_; (focus (kernel_rfl)); intro K hK; go_simp; refine ⟨(.bool true), ?_, ?_⟩; rotate_left; with_reducible refine hK _ ?_; clear hK K; rotate_left)
        · intro w' hw
          exact (HMB.out w' hw).mono fun e w'' ⟨he, h⟩ => ⟨he, h ▸ hw⟩
        iterate 3 (with_reducible refine wpQuiet_yes ?_ ?_; (focus (kernel_rfl)); intro K hK; go_simp; refine ⟨_, fun _ _ => rfl, ?_⟩; with_reducible refine hK _ ?_; clear hK K)
        (with_reducible refine wpQuiet_yes ?_ ?_; (focus (kernel_rfl)); intro K hK; go_simp; refine ⟨(.slice (some ⟨ga, oa, none⟩) ra cpa), ?_, ?_⟩; rotate_left; with_reducible refine hK _ ?_; clear hK K; rotate_left)
        · intro w' hw
          simp only [(HK.out w' hw).2.1, go_sem, Result.andThen, and_self]
        (with_reducible refine wpQuiet_yes ?_ ?_; (focus (kernel_rfl)); intro K hK; go_simp; refine ⟨_, fun _ _ => rfl, ?_⟩; with_reducible refine hK _ ?_; clear hK K)
        (with_reducible refine wpQuiet_yes ?_ ?_; (focus (kernel_rfl)); intro K hK; go_simp; refine ⟨(.slice xa ca xc), ?_, ?_⟩; rotate_left; with_reducible refine hK _ ?_; clear hK K; rotate_left)
        · intro w' hw
          simp only [(HH.out w' hw).1, go_sem, Result.andThen, and_self]
        (with_reducible refine wpQuiet_yes ?_ ?_; (focus (kernel_rfl)); intro K hK; go_simp; refine ⟨_, fun _ _ => rfl, ?_⟩; with_reducible refine hK _ ?_; clear hK K)
        (with_reducible refine wpQuiet_yes ?_ ?_; (focus (kernel_rfl)); intro K hK; go_simp; refine ⟨(.slice (some ⟨gb, ob, none⟩) rb cpb), ?_, ?_⟩; rotate_left; with_reducible refine hK _ ?_; clear hK K; rotate_left)
        · intro w' hw
          simp only [(HK.out w' hw).2.2, go_sem, Result.andThen, and_self]
        iterate 3 (with_reducible refine wpQuiet_yes ?_ ?_; (focus (kernel_rfl)); intro K hK; go_simp; refine ⟨_, fun _ _ => rfl, ?_⟩; with_reducible refine hK _ ?_; clear hK K)
        refine wpQuiet_nil fun w2 hb2 => ?_
        have Hb2 := Lib.hid (HBW.out.trans (hb2.mono (by omega)))
        clear hb2
        simp only [Exit.then]
        go_wp2_with fail
        rw [HV.out.1, HV.out.2]
        refine bodyPost_ret (v := .tuple #[.slice none 0 0, .bool false]) (by simp [results, Try.results20, go_sem]) rfl ⟨_, rfl, OwnMat.nil _ _ _ _, Hb2.out⟩
end Go.Proofs.Ytgclbdpghlcgjaa
namespace Go.Proofs.Ytgclbdpghlcgjaa
set_option linter.unusedVariables false
open Go.RowKit Go.Shelf
def mulF (p : Int) (m : Nat) (A B : Nat → Nat → Int) (i k j a b : Nat) : Int :=
  if a < i ∨ (a = i ∧ b < k) then mmE p m A B a b else if a = i ∧ b = k then sumE p (fun q => A a q * B q b) j else 0
theorem mulF_upd (p : Int) (m : Nat) (A B : Nat → Nat → Int) (i k j a b : Nat) : upd (mulF p m A B i k j) i k (sumE p (fun q => A i q * B q k) (j + 1)) a b = mulF p m A B i k (j + 1) a b := by
  unfold upd mulF
  by_cases h : a = i ∧ b = k
  · obtain ⟨rfl, rfl⟩ := h
    rw [if_pos ⟨rfl, rfl⟩, if_neg (by omega), if_pos ⟨rfl, rfl⟩]
  · rw [if_neg h]
    by_cases h2 : a < i ∨ (a = i ∧ b < k)
    · rw [if_pos h2, if_pos h2]
    · rw [if_neg h2, if_neg h2, if_neg h, if_neg h]
theorem mulF_k (p : Int) (m : Nat) (A B : Nat → Nat → Int) (i k a b : Nat) : mulF p m A B i k m a b = mulF p m A B i (k + 1) 0 a b := by
  unfold mulF
  by_cases h2 : a < i ∨ (a = i ∧ b < k)
  · rw [if_pos h2, if_pos (by omega)]
  · rw [if_neg h2]
    by_cases h : a = i ∧ b = k
    · rw [if_pos h, if_pos (by omega)]; rfl
    · rw [if_neg h, if_neg (by omega)]
      by_cases h3 : a = i ∧ b = k + 1
      · rw [if_pos h3]; rfl
      · rw [if_neg h3]
theorem mulF_i {p : Int} {m : Nat} {A B : Nat → Nat → Int} {i c a b : Nat} (hb : b < c) : mulF p m A B i c 0 a b = mulF p m A B (i + 1) 0 0 a b := by
  unfold mulF
  by_cases h2 : a < i ∨ (a = i ∧ b < c)
  · rw [if_pos h2, if_pos (by omega)]
  · rw [if_neg h2, if_neg (by omega), if_neg (by omega)]
    by_cases h3 : a = i + 1 ∧ b = 0
    · rw [if_pos h3]; rfl
    · rw [if_neg h3]
theorem mulF_end {p : Int} {m : Nat} {A B : Nat → Nat → Int} {r a b : Nat} (ha : a < r) : mulF p m A B r 0 0 a b = mmE p m A B a b := by
  unfold mulF; rw [if_pos (.inl ha)]
theorem mulF_0 (p : Int) (m : Nat) (A B : Nat → Nat → Int) (a b : Nat) : mulF p m A B 0 0 0 a b = 0 := by
  unfold mulF
  rw [if_neg (by omega)]
  by_cases h3 : a = 0 ∧ b = 0
  · rw [if_pos h3]; rfl
  · rw [if_neg h3]
theorem mulF_at (p : Int) (m : Nat) (A B : Nat → Nat → Int) (i k j : Nat) : mulF p m A B i k j i k = sumE p (fun q => A i q * B q k) j := by
  unfold mulF; rw [if_neg (by omega), if_pos ⟨rfl, rfl⟩]
/-- places of a matrix's rows, told once -/
theorem MatC.places {w : World} {g off r c : Nat} {E : Nat → Nat → Int} (h : MatC w g off r c E) {i : Nat} (hi : i < r) : ∃ hh o cp, (∀ w', Below w.heap.size w w' → w'.cell? ⟨g, off + i, none⟩ = some (.slice (some ⟨hh, o, none⟩) c cp)) ∧ ∀ w', Below w.heap.size w w' → ∀ k, k < c → w'.cell? ⟨hh, o + k, none⟩ = some (.int .i64 (E i k)) := by
  obtain ⟨hh, o, cp, h1, h2, h3⟩ := h.2 i hi
  exact ⟨hh, o, cp, fun w' hb => by rw [hb.cell (p := ⟨g, off + i, none⟩) h.1]; exact h1, fun w' hb k hk => by rw [hb.cell (p := ⟨hh, o + k, none⟩) h2.1]; exact h3 k hk⟩
set_option maxRecDepth 100000 in
set_option maxHeartbeats 16000000 in
theorem sRawMul (p : Int) (va vb : Value) (a b : List (List Int)) (w : World) (ha : Mat w va a) (hb : Mat w vb b) :
    Calls Try.prog 70 #[.int .i64 p, va, vb] w fun e w' => ∃ u, e = .returned (.tuple #[u, .bool (mulB p a b)]) ∧ OwnMat w' w.heap.size u (mulMV p a b) ∧ Below w.heap.size w w' := by
  have HMA := Lib.hid (sMV p va a w ha)
  have HMB := Lib.hid (sMV p vb b w hb)
  cases hA : matB p a
  · have HV := Lib.hid (show mulB p a b = false ∧ mulMV p a b = [] by
      have : mulB p a b = false := by simp [mulB, hA]
      exact ⟨this, by simp [mulMV, this]⟩)
    rw [hA] at HMA
    obtain ⟨_, _, aa, ca, rfl, _⟩ := ha
    obtain ⟨_, _, ab, cb, rfl, _⟩ := hb
    clear hA
    go_enter Try.func70, Try.ntmps70
    go_wp2_with fail
    refine HMA.out.mono ?_
    rintro e w' ⟨rfl, rfl⟩
    go_wp2_with fail
    rw [HV.out.1, HV.out.2]
    refine bodyPost_ret (v := .tuple #[.slice (some ⟨w.heap.size, 0, none⟩) 0 0, .bool false]) (by simp [results, Try.results70, go_sem]) rfl ⟨_, rfl, OwnMat.nil _ _ _ _, Below.alloc (Below.refl _ _) (Nat.le_refl _) _⟩
  · rw [hA] at HMA
    cases hB : matB p b
    · have HV := Lib.hid (show mulB p a b = false ∧ mulMV p a b = [] by
        have : mulB p a b = false := by simp [mulB, hB]
        exact ⟨this, by simp [mulMV, this]⟩)
      rw [hB] at HMB
      obtain ⟨_, _, aa, ca, rfl, _⟩ := ha
      obtain ⟨_, _, ab, cb, rfl, _⟩ := hb
      clear hA hB
      go_enter Try.func70, Try.ntmps70
      go_wp2_with fail
      refine HMA.out.mono ?_
      rintro e w' ⟨rfl, rfl⟩
      go_wp2_with fail
      refine HMB.out.mono ?_
      rintro e w' ⟨rfl, rfl⟩
      go_wp2_with fail
      rw [HV.out.1, HV.out.2]
      refine bodyPost_ret (v := .tuple #[.slice (some ⟨w.heap.size, 0, none⟩) 0 0, .bool false]) (by simp [results, Try.results70, go_sem]) rfl ⟨_, rfl, OwnMat.nil _ _ _ _, Below.alloc (Below.refl _ _) (Nat.le_refl _) _⟩
    · rw [hB] at HMB
      obtain ⟨ra, ca, hra, hra1, hra4, hca, hca1, hca4, hrowa, hela, hMFa⟩ := matB_side hA
      obtain ⟨rb, cb, hrb, hrb1, hrb4, hcb, hcb1, hcb4, hrowb, helb, hMFb⟩ := matB_side hB
      obtain ⟨ga, oa, cpa, rfl, hCa⟩ := ha.cells hra hra1 hca1 hrowa
      obtain ⟨gb, ob, cpb, rfl, hCb⟩ := hb.cells hrb hrb1 hcb1 hrowb
      have hp := isP_bd (matB_iff.1 hA).1
      obtain ⟨xa, xo, xc, hxa, _⟩ := hCa.places (show 0 < ra by omega)
      obtain ⟨ya, yo, yc, hya, _⟩ := hCb.places (show 0 < rb by omega)
      have hxa := hxa w (Below.refl _ _)
      have hya := hya w (Below.refl _ _)
      rw [Nat.add_zero] at hxa hya
      have hrap : 0 < ra := by omega
      have hrbp : 0 < rb := by omega
      by_cases he : ca = rb
      · have HV := Lib.hid (show mulB p a b = true ∧ mulMV p a b = matF cb (mmE p rb (el a) (el b)) ra by
          have : mulB p a b = true := by simp [mulB, hA, hB, hca, hrb, he]
          exact ⟨this, by simp [mulMV, this, hra, hrb, hcb]⟩)
        have hne : ((ca : Int) != (rb : Int)) = false := by simp [he]
        subst he
        obtain ⟨A, hAe⟩ : ∃ A, A = el a := ⟨_, rfl⟩
        obtain ⟨B, hBe⟩ : ∃ B, B = el b := ⟨_, rfl⟩
        rw [← hAe, ← hBe] at HV
        rw [← hAe] at hCa hela
        rw [← hBe] at hCb helb
        have HPA := Lib.hid (fun i (hi : i < ra) => hCa.places hi)
        have HPB := Lib.hid (fun j (hj : j < ca) => hCb.places hj)
        have HN := Lib.hid (fun w => sNew ra cb (by omega) (by omega) w)
        have HBD := Lib.hid (fun i j k (hi : i < ra) (hj : j < ca) (hk : k < cb) => show 0 ≤ A i j * B j k ∧ A i j * B j k ≤ 169 ∧ 0 ≤ sumE p (fun q => A i q * B q k) j ∧ sumE p (fun q => A i q * B q k) j < p from by
          obtain ⟨h1, h2⟩ := hela i j hi hj
          obtain ⟨h3, h4⟩ := helb j k hj hk
          have h5 := sumE_bd hp.1 (fun q => A i q * B q k) j
          have := Int.mul_le_mul (show A i j ≤ 13 by omega) (show B j k ≤ 13 by omega) h3 (by omega)
          exact ⟨Int.mul_nonneg h1 h3, by omega, h5.1, h5.2⟩)
        obtain ⟨hp1, hp2⟩ := hp
        have hpn : ¬ p = 0 := by omega
        clear ha hb hA hB hMFa hMFb hrowa hrowb hela helb hCa hCb hAe hBe
        go_enter Try.func70, Try.ntmps70
        go_wp2_with fail
        refine HMA.out.mono ?_
        rintro e w' ⟨rfl, rfl⟩
        go_wp2_with fail
        refine HMB.out.mono ?_
        rintro e w' ⟨rfl, rfl⟩
        go_wp2_with fail
        refine (HN.out _).mono ?_
        rintro e w1 ⟨u, V, H, rfl, hR, hb⟩
        rw [zeroM_F] at hR
        obtain ⟨g2, cap2, rfl, hm⟩ := hR.formF hra1
        have HS := Lib.hid (show OMat w1 w.heap.size g2 0 H (fun _ => 0) (matF cb (mulF p ca A B 0 0 0) ra) ∧ Below w.heap.size w w1 from ⟨by rw [matF_ext (F := fun _ _ => 0) (fun i k _ _ => mulF_0 p ca A B i k)]; exact hm, hb⟩)
        clear hR hm hb hxa hya
        go_wp2_with fail
        go_loopw [42] (fun i wr => ∃ k : Nat, k ≤ ra ∧ i = .int .i64 k ∧ OMat wr w.heap.size g2 0 H (fun _ => 0) (matF cb (mulF p ca A B k 0 0) ra) ∧ Below w.heap.size w wr) (fun i _ => ra - (intOf i).toNat)
        case atStart => exact ⟨0, by omega, rfl, HS.out⟩
        case round =>
          clear HS
          obtain ⟨i, hi, rfl, hm, hb⟩ := hrel
          by_cases hlt : i < ra
          · have hltp : (i : Int) < (ra : Int) := by omega
            have hi0 : (0 : Int) ≤ (i : Int) := by omega
            obtain ⟨cp, h1, _⟩ := hm.cellF hlt (by omega)
            rw [Nat.zero_add] at h1
            obtain ⟨aa, ao, ac, ha1, ha2⟩ := HPA.out i hlt
            have HA1 := Lib.hid ha1
            have HA2 := Lib.hid ha2
            have HS := Lib.hid (And.intro hm hb)
            clear hm hb ha1 ha2
            go_wp2_with fail
            go_loopw [49] (fun i2 wr => ∃ k : Nat, k ≤ cb ∧ i2 = .int .i64 k ∧ OMat wr w.heap.size g2 0 H (fun _ => 0) (matF cb (mulF p ca A B i k 0) ra) ∧ Below w.heap.size w wr) (fun i2 _ => cb - (intOf i2).toNat)
            case atStart => exact ⟨0, by omega, rfl, HS.out⟩
            case round =>
              clear HS h1
              obtain ⟨k, hk, rfl, hm, hb⟩ := hrel
              by_cases hlk : k < cb
              · have hlkp : (k : Int) < (cb : Int) := by omega
                have hk0 : (0 : Int) ≤ (k : Int) := by omega
                have HS := Lib.hid (And.intro hm hb)
                clear hm hb
                go_wp2_with fail
                go_loopw [54] (fun i3 wr => ∃ j : Nat, j ≤ ca ∧ i3 = .int .i64 j ∧ OMat wr w.heap.size g2 0 H (fun _ => 0) (matF cb (mulF p ca A B i k j) ra) ∧ Below w.heap.size w wr) (fun i3 _ => ca - (intOf i3).toNat)
                case atStart => exact ⟨0, by omega, rfl, HS.out⟩
                case round =>
                  clear HS
                  obtain ⟨j, hj, rfl, hm, hb⟩ := hrel
                  by_cases hlj : j < ca
                  · have hljp : (j : Int) < (ca : Int) := by omega
                    have hj0 : (0 : Int) ≤ (j : Int) := by omega
                    obtain ⟨ba, bo, bc, hb1, hb2⟩ := HPB.out j hlj
                    have d1 := HA1.out _ hb
                    have d2 := HA2.out _ hb j hlj
                    have d3 := hb1 _ hb
                    have d4 := hb2 _ hb k hlk
                    obtain ⟨cp, _, h2, h3, h4, h5⟩ := hm.cellF hlt (show 0 < cb by omega)
                    obtain ⟨c1, c2⟩ := h5 k hlk
                    rw [mulF_at] at c1
                    obtain ⟨e1, e2, e3, e4⟩ := HBD.out i j k hlt hlj hlk
                    obtain ⟨s2, hs2⟩ : ∃ s, s = sumE p (fun q => A i q * B q k) (j + 1) := ⟨_, rfl⟩
                    have HF := Lib.hid (show OMat (wr.drew.setCell ⟨H i, k, none⟩ (.int .i64 s2)) w.heap.size g2 0 H (fun _ => 0) (matF cb (mulF p ca A B i k (j + 1)) ra) ∧ Below w.heap.size w (wr.drew.setCell ⟨H i, k, none⟩ (.int .i64 s2)) from by
                      have hdr : Below wr.heap.size wr wr.drew := Below.drew (Below.refl _ _)
                      refine ⟨?_, (hb.trans (hdr.mono hb.size)).setCell h3 _⟩
                      have := (hm.below hdr).setF hlt hlk s2
                      rw [Nat.zero_add] at this
                      rw [← matF_ext (fun a b _ _ => mulF_upd p ca A B i k j a b), ← hs2]
                      exact this)
                    have hs3 : s2 = (sumE p (fun q => A i q * B q k) j + A i j * B j k) % p := hs2
                    obtain ⟨s, hs⟩ : ∃ s, s = sumE p (fun q => A i q * B q k) j := ⟨_, rfl⟩
                    obtain ⟨x, hx⟩ : ∃ x, x = A i j := ⟨_, rfl⟩
                    obtain ⟨y, hy⟩ : ∃ y, y = B j k := ⟨_, rfl⟩
                    rw [← hs] at c1 e3 e4 hs3
                    rw [← hx] at d2 e1 e2 hs3
                    rw [← hy] at d4 e1 e2 hs3
                    have hw1 : IntKind.i64.wrap (x * y) = x * y := IntWalk.i64_in _ (by omega)
                    have hw2 : IntKind.i64.wrap (s + x * y) = s + x * y := IntWalk.i64_in _ (by omega)
                    have hw3 : (s + x * y).tmod p = s2 := by rw [hs3, Int.tmod_eq_emod_of_nonneg (by omega)]
                    have hs20 : 0 ≤ s2 := by rw [hs3]; exact Int.emod_nonneg _ (by omega)
                    have hs21 : s2 < p := by rw [hs3]; exact Int.emod_lt_of_pos _ (by omega)
                    have hw4 : IntKind.i64.wrap s2 = s2 := IntWalk.i64_in _ (by omega)
                    rw [Nat.zero_add] at c1 c2
                    have HCC := Lib.hid (show (wr.drew.cell? ⟨ga, oa + i, none⟩ = some (.slice (some ⟨aa, ao, none⟩) ca ac) ∧ wr.drew.cell? ⟨aa, ao + j, none⟩ = some (.int .i64 x) ∧ wr.drew.cell? ⟨gb, ob + j, none⟩ = some (.slice (some ⟨ba, bo, none⟩) cb bc) ∧ wr.drew.cell? ⟨ba, bo + k, none⟩ = some (.int .i64 y)) ∧ wr.drew.cell? ⟨H i, k, none⟩ = some (.int .i64 s) from ⟨⟨d1, d2, d3, d4⟩, c1⟩)
                    have hf : wr.drew.frozen? ⟨H i, k, none⟩ = false := c2
                    clear hm hb h5 hs hx hy hs2 hs3 d1 d2 d3 d4 hb1 hb2 e1 e2 e3 e4
                    go_wp2_with fail
                    refine wp_region_seq [(0, true), (1, true), (2, true), (3, true), (4, true), (5, true), (6, true), (7, true), (8, true), (9, true), (10, true), (11, true), (12, true), (13, true), (14, true), (15, true), (16, true), (17, true), (18, true), (19, true), (20, true), (21, true), (22, true), (23, true), (24, true)] (fun w' => (w'.cell? ⟨ga, oa + i, none⟩ = some (.slice (some ⟨aa, ao, none⟩) ca ac) ∧ w'.cell? ⟨aa, ao + j, none⟩ = some (.int .i64 x) ∧ w'.cell? ⟨gb, ob + j, none⟩ = some (.slice (some ⟨ba, bo, none⟩) cb bc) ∧ w'.cell? ⟨ba, bo + k, none⟩ = some (.int .i64 y)) ∧ w'.cell? ⟨H i, k, none⟩ = some (.int .i64 s)) (by kernel_rfl) (by kernel_rfl) rfl (by intro c a d v w h; cases d <;> exact h) HCC.out ?_
                    iterate 25 (refine wpSeq_take (v := ?_) (List.getElem?_toArray.trans rfl) ?_ ?_; rotate_left; (intro w' hSw; (try dsimp only at hSw); go_simp; (try with_reducible rfl)); (try simp only [Act.put, List.setIfInBounds_toArray, List.set_cons_zero, List.set_cons_succ]))
                    refine wpSeq_nil ?_
                    simp only [Exit.then]
                    have c1d := HCC.out.2
                    go_wp2_with fail
                    go_roundw
                    case rel => exact ⟨j + 1, by omega, by go_num, HF.out⟩
                    case measure => simp [intOf]; omega
                  · have hjc : j = ca := by omega
                    subst hjc
                    have HF := Lib.hid (show OMat wr w.heap.size g2 0 H (fun _ => 0) (matF cb (mulF p j A B i (k + 1) 0) ra) ∧ Below w.heap.size w wr from ⟨by rw [← matF_ext (fun a b _ _ => mulF_k p j A B i k a b)]; exact hm, hb⟩)
                    clear hm hb
                    go_wp2_with fail
                    go_roundw
                    case rel => exact ⟨k + 1, by omega, by go_num, HF.out⟩
                    case measure => simp [intOf]; omega
              · have hkc : k = cb := by omega
                subst hkc
                have HF := Lib.hid (show OMat wr w.heap.size g2 0 H (fun _ => 0) (matF k (mulF p ca A B (i + 1) 0 0) ra) ∧ Below w.heap.size w wr from ⟨by rw [← matF_ext (fun a b _ hb => mulF_i hb)]; exact hm, hb⟩)
                clear hm hb
                go_wp2_with fail
                go_roundw
                case rel => exact ⟨i + 1, by omega, by go_num, HF.out⟩
                case measure => simp [intOf]; omega
          · have hir : i = ra := by omega
            subst hir
            have HF := Lib.hid (show OwnMat wr w.heap.size (.slice (some ⟨g2, 0, none⟩) i cap2) (matF cb (mmE p ca A B) i) ∧ Below w.heap.size w wr from by
              refine ⟨?_, hb⟩
              rw [← matF_ext (fun a b ha _ => mulF_end ha)]
              exact hm.own (by omega) (by omega))
            clear hm hb
            go_wp2_with fail
            rw [HV.out.1, HV.out.2]
            refine bodyPost_ret (v := .tuple #[.slice (some ⟨g2, 0, none⟩) i cap2, .bool true]) (by simp [results, Try.results70, go_sem]) rfl ⟨_, rfl, HF.out⟩
      · have HV := Lib.hid (show mulB p a b = false ∧ mulMV p a b = [] by
          have : mulB p a b = false := by simp [mulB, hA, hB, hca, hrb, he]
          exact ⟨this, by simp [mulMV, this]⟩)
        have hne : ((ca : Int) != (rb : Int)) = true := by simp; omega
        clear ha hb hA hB hMFa hMFb hrowa hrowb hela helb hCa hCb he
        go_enter Try.func70, Try.ntmps70
        go_wp2_with fail
        refine HMA.out.mono ?_
        rintro e w' ⟨rfl, rfl⟩
        go_wp2_with fail
        refine HMB.out.mono ?_
        rintro e w' ⟨rfl, rfl⟩
        go_wp2_with fail
        rw [HV.out.1, HV.out.2]
        refine bodyPost_ret (v := .tuple #[.slice (some ⟨w.heap.size, 0, none⟩) 0 0, .bool false]) (by simp [results, Try.results70, go_sem]) rfl ⟨_, rfl, OwnMat.nil _ _ _ _, Below.alloc (Below.refl _ _) (Nat.le_refl _) _⟩
set_option maxRecDepth 100000 in
set_option maxHeartbeats 4000000 in
theorem sMulM (p : Int) (va vb : Value) (a b : List (List Int)) (w : World) (ha : Mat w va a) (hb : Mat w vb b) :
    Calls Try.prog 21 #[.int .i64 p, va, vb] w fun e w' => ∃ u, e = .returned (.tuple #[u, .bool (mulB p a b)]) ∧ OwnMat w' w.heap.size u (mulMV p a b) ∧ Below w.heap.size w w' := by
  have HR := Lib.hid (mulMV_rows p a b)
  have HS := Lib.hid (sRawMul p va vb a b w ha hb)
  obtain ⟨t, ht⟩ : ∃ t, t = mulB p a b := ⟨_, rfl⟩
  obtain ⟨R, hM⟩ : ∃ R, R = mulMV p a b := ⟨_, rfl⟩
  rw [← ht, ← hM] at HS ⊢
  rw [← hM] at HR
  obtain ⟨_, _, aa, cap, rfl, _⟩ := ha
  obtain ⟨_, _, ab, cab, rfl, _⟩ := hb
  clear ht hM
  go_enter Try.func21, Try.ntmps21
  go_wp2_with fail
  refine HS.out.mono ?_
  rintro e w1 ⟨u, rfl, ho, hb1⟩
  have HO := Lib.hid (sOwnMo u R w1 ho.mat HR.out.1 HR.out.2)
  have HW := Lib.hid (And.intro ho hb1)
  clear ho hb1
  go_wp2_with fail
  refine HO.out.mono ?_
  rintro e w2 ⟨u2, rfl, ho2, hb2⟩
  have HF := Lib.hid (wrapOwn HW.out.1 HW.out.2 ho2 hb2)
  clear ho2 hb2
  go_wp2_with fail
  refine bodyPost_ret (v := .tuple #[u2, .bool t]) (by simp [results, Try.results21, go_sem]) rfl ⟨_, rfl, HF.out⟩
end Go.Proofs.Ytgclbdpghlcgjaa
namespace Go.Proofs.Ytgclbdpghlcgjaa
set_option linter.unusedVariables false
open Go.RowKit
set_option maxRecDepth 100000 in
set_option maxHeartbeats 8000000 in
theorem xMulMatrix_in (a0 : Int) (a1 : Option Addr) (L1 : List (List Int)) (c1 : Nat) (a2 : Option Addr) (L2 : List (List Int)) (c2 : Nat) (r0 : List (List Int)) (r1 : Bool) (w : World) (h1 : Mat w (.slice a1 L1.length c1) L1) (h2 : Mat w (.slice a2 L2.length c2) L2) (hl : (L1.length + cnt L1) + (L2.length + cnt L2) ≤ 1048576)
    (hS : ∀ f1, ∀ f2, ∀ w, Mat w f1 L1 → Mat w f2 L2 → Calls Try.prog 21 #[.int .i64 a0, f1, f2] w fun e w' => ∃ u0, e = .returned (.tuple #[u0, .bool r1]) ∧ OwnMat w' w.heap.size u0 r0 ∧ Below w.heap.size w w')
    (hI : ∀ f1, ∀ f2, ∀ w, Mat w f1 L1 → Mat w f2 L2 → Calls Try.prog 20 #[.int .i64 a0, f1, f2] w fun e w' => ∃ u0, e = .returned (.tuple #[u0, .bool r1]) ∧ OwnMat w' w.heap.size u0 r0 ∧ Below w.heap.size w w') :
    Calls Try.prog 9 #[.int .i64 a0, .slice a1 L1.length c1, .slice a2 L2.length c2] w fun e w' => e = .returned (.bool true) ∧ Below w.heap.size w w' := by
  have m1 : (1048576 : Int) - ((L1.length : Int) + (cnt L1 : Int)) ≥ 0 := by omega
  have HS1 := Lib.hid (szM_at a1 L1 c1 (1048576) w h1 (by omega) (by omega) (by omega))
  have Q1 := Lib.hid h1
  have m2 : (1048576 - ((L1.length : Int) + (cnt L1 : Int)) : Int) - ((L2.length : Int) + (cnt L2 : Int)) ≥ 0 := by omega
  have HS2 := Lib.hid (szM_at a2 L2 c2 (1048576 - ((L1.length : Int) + (cnt L1 : Int))) w h2 (by omega) (by omega) (by omega))
  have Q2 := Lib.hid h2
  have n1 : (L1.length : Int) ≤ 1048576 := by omega
  have nn1 : (cnt L1 : Int) ≤ 1048576 := by omega
  have n2 : (L2.length : Int) ≤ 1048576 := by omega
  have nn2 : (cnt L2 : Int) ≤ 1048576 := by omega
  clear h1 h2
  have HSP := Lib.hid hS
  have HIM := Lib.hid hI
  clear hS hI
  have bb1 := bne_self2 r1
  go_enter Try.func9, Try.ntmps9
  go_wp2_with fail
  refine HS1.out.mono ?_
  rintro e w' ⟨rfl, rfl⟩
  go_wp2_with fail
  refine HS2.out.mono ?_
  rintro e w' ⟨rfl, rfl⟩
  have B := Lib.hid (Below.refl w.heap.size w)
  go_wp2_with fail
  refine (toM _ L1 _ (Q1.out.below B.out)).mono ?_
  rintro e W1 ⟨s1, rfl, ho, hb⟩
  have Z1 := Lib.hid hb.size
  replace B := Lib.hid (B.out.trans (hb.mono B.out.size))
  clear hb
  have S1 := Lib.hid ho.mat
  clear ho
  go_wp2_with fail
  refine (toM _ L2 _ (Q2.out.below B.out)).mono ?_
  rintro e W2 ⟨s2, rfl, ho, hb⟩
  have Z2 := Lib.hid hb.size
  replace B := Lib.hid (B.out.trans (hb.mono B.out.size))
  replace S1 := Lib.hid (S1.out.below hb)
  clear hb
  have S2 := Lib.hid ho.mat
  clear ho
  go_wp2_with fail
  refine (HSP.out _ _ _ S1.out S2.out).mono ?_
  rintro e W3 ⟨v0, rfl, hv0, hb⟩
  have Z3 := Lib.hid hb.size
  replace B := Lib.hid (B.out.trans (hb.mono B.out.size))
  replace S1 := Lib.hid (S1.out.below hb)
  replace S2 := Lib.hid (S2.out.below hb)
  clear hb
  clear S1
  clear S2
  have V0 := Lib.hid hv0.mat
  have z0 : (cnt r0 : Int) ≤ 1048576 := by have := hv0.2.1; omega
  clear hv0
  have X := Lib.hid (Below.refl W3.heap.size W3)
  go_wp2_with fail
  refine (toM _ L1 _ (Q1.out.below B.out)).mono ?_
  rintro e W4 ⟨x1, rfl, ho, hb⟩
  have Z4 := Lib.hid hb.size
  replace B := Lib.hid (B.out.trans (hb.mono B.out.size))
  replace X := Lib.hid (X.out.trans (hb.mono X.out.size))
  clear hb
  have O1 := Lib.hid ho
  clear ho
  have Y1 := Lib.hid (Below.refl W4.heap.size W4)
  go_wp2_with fail
  refine (toM _ L2 _ (Q2.out.below B.out)).mono ?_
  rintro e W5 ⟨x2, rfl, ho, hb⟩
  have Z5 := Lib.hid hb.size
  replace B := Lib.hid (B.out.trans (hb.mono B.out.size))
  replace X := Lib.hid (X.out.trans (hb.mono X.out.size))
  replace Y1 := Lib.hid (Y1.out.trans (hb.mono Y1.out.size))
  clear hb
  have O2 := Lib.hid ho
  clear ho
  have Y2 := Lib.hid (Below.refl W5.heap.size W5)
  go_wp2_with fail
  refine (HIM.out _ _ _ (O1.out.mat.below Y1.out) (O2.out.mat.below Y2.out)).mono ?_
  rintro e W6 ⟨g0, rfl, hg0, hb⟩
  have P1 := Lib.hid (show w.heap.size ≤ W3.heap.size ∧ W3.heap.size ≤ W3.heap.size ∧ W4.heap.size ≤ W5.heap.size by have := B.out.size; have := X.out.size; have := Z1.out; have := Z2.out; have := Z3.out; have := Z4.out; have := Z5.out; first | omega | (refine ⟨?_, ?_, ?_⟩ <;> omega))
  have P2 := Lib.hid (show w.heap.size ≤ W4.heap.size ∧ W3.heap.size ≤ W4.heap.size ∧ W5.heap.size ≤ W5.heap.size by have := B.out.size; have := X.out.size; have := Z1.out; have := Z2.out; have := Z3.out; have := Z4.out; have := Z5.out; first | omega | (refine ⟨?_, ?_, ?_⟩ <;> omega))
  have PG := Lib.hid (show w.heap.size ≤ W5.heap.size ∧ W3.heap.size ≤ W5.heap.size by have := Z1.out; have := Z2.out; have := Z3.out; have := Z4.out; have := Z5.out; first | omega | (refine ⟨?_, ?_⟩ <;> omega))
  replace B := Lib.hid (B.out.trans (hb.mono B.out.size))
  replace X := Lib.hid (X.out.trans (hb.mono X.out.size))
  replace Y1 := Lib.hid (Y1.out.trans (hb.mono Y1.out.size))
  replace Y2 := Lib.hid (Y2.out.trans (hb.mono Y2.out.size))
  clear hb
  have G0 := Lib.hid hg0
  clear hg0
  go_wp2_with fail
  refine (eqM g0 v0 r0 _ G0.out.mat (V0.out.below X.out)).mono ?_
  rintro e W7 ⟨rfl, hb⟩
  replace B := Lib.hid (B.out.trans (hb.mono B.out.size))
  replace X := Lib.hid (X.out.trans (hb.mono X.out.size))
  replace Y1 := Lib.hid (Y1.out.trans (hb.mono Y1.out.size))
  replace Y2 := Lib.hid (Y2.out.trans (hb.mono Y2.out.size))
  replace G0 := Lib.hid (G0.out.below hb)
  clear hb
  go_wp2_with fail
  refine (toM _ L1 _ (Q1.out.below B.out)).mono ?_
  rintro e W8 ⟨y1, rfl, ho, hb⟩
  replace B := Lib.hid (B.out.trans (hb.mono B.out.size))
  replace X := Lib.hid (X.out.trans (hb.mono X.out.size))
  replace Y1 := Lib.hid (Y1.out.trans (hb.mono Y1.out.size))
  replace Y2 := Lib.hid (Y2.out.trans (hb.mono Y2.out.size))
  replace G0 := Lib.hid (G0.out.below hb)
  clear hb
  have S1 := Lib.hid ho.mat
  clear ho
  go_wp2_with fail
  refine (eqM x1 y1 L1 _ (O1.out.mat.below Y1.out) S1.out).mono ?_
  rintro e W9 ⟨rfl, hb⟩
  clear S1
  replace B := Lib.hid (B.out.trans (hb.mono B.out.size))
  replace X := Lib.hid (X.out.trans (hb.mono X.out.size))
  replace Y1 := Lib.hid (Y1.out.trans (hb.mono Y1.out.size))
  replace Y2 := Lib.hid (Y2.out.trans (hb.mono Y2.out.size))
  replace G0 := Lib.hid (G0.out.below hb)
  clear hb
  go_wp2_with fail
  refine (toM _ L2 _ (Q2.out.below B.out)).mono ?_
  rintro e W10 ⟨y2, rfl, ho, hb⟩
  replace B := Lib.hid (B.out.trans (hb.mono B.out.size))
  replace X := Lib.hid (X.out.trans (hb.mono X.out.size))
  replace Y1 := Lib.hid (Y1.out.trans (hb.mono Y1.out.size))
  replace Y2 := Lib.hid (Y2.out.trans (hb.mono Y2.out.size))
  replace G0 := Lib.hid (G0.out.below hb)
  clear hb
  have S2 := Lib.hid ho.mat
  clear ho
  go_wp2_with fail
  refine (eqM x2 y2 L2 _ (O2.out.mat.below Y2.out) S2.out).mono ?_
  rintro e W11 ⟨rfl, hb⟩
  clear S2
  replace B := Lib.hid (B.out.trans (hb.mono B.out.size))
  replace X := Lib.hid (X.out.trans (hb.mono X.out.size))
  replace Y1 := Lib.hid (Y1.out.trans (hb.mono Y1.out.size))
  replace Y2 := Lib.hid (Y2.out.trans (hb.mono Y2.out.size))
  replace G0 := Lib.hid (G0.out.below hb)
  clear hb
  go_wp2_with fail
  refine (markMsame x1 L1 _ (1) W4 _ O1.out (same_of Y1.out) (by omega) (by omega)).mono ?_
  rintro e W12 ⟨rfl, hb⟩
  have E1 := Lib.hid hb
  replace B := Lib.hid (B.out.trans (hb.low.mono P1.out.1))
  replace X := Lib.hid (X.out.trans (hb.low.mono P1.out.2.1))
  replace G0 := Lib.hid (G0.out.betw' P1.out.2.2 hb)
  clear hb
  go_wp2_with fail
  refine (markMsame x2 L2 _ (1 + (cnt L1 : Nat)) W5 _ O2.out ((same_of Y2.out).betw E1.out) (by omega) (by omega)).mono ?_
  rintro e W13 ⟨rfl, hb⟩
  replace B := Lib.hid (B.out.trans (hb.low.mono P2.out.1))
  replace X := Lib.hid (X.out.trans (hb.low.mono P2.out.2.1))
  replace G0 := Lib.hid (G0.out.betw' P2.out.2.2 hb)
  clear hb
  go_wp2_with fail
  refine (eqM g0 v0 r0 _ G0.out.mat (V0.out.below X.out)).mono ?_
  rintro e W14 ⟨rfl, hb⟩
  replace B := Lib.hid (B.out.trans (hb.mono B.out.size))
  replace X := Lib.hid (X.out.trans (hb.mono X.out.size))
  replace G0 := Lib.hid (G0.out.below hb)
  clear hb
  go_wp2_with fail
  refine (markMown g0 r0 _ (1) _ G0.out (by omega) (by omega)).mono ?_
  rintro e W15 ⟨rfl, hh, hb, hs⟩
  replace B := Lib.hid (B.out.trans (hb.mono PG.out.1))
  replace X := Lib.hid (X.out.trans (hb.mono PG.out.2))
  have D0 := Lib.hid hh
  clear hh hb hs
  go_wp2_with fail
  refine (heldMown g0 r0 _ 1 _ D0.out (by omega) (by omega)).mono ?_
  rintro e W16 ⟨rfl, rfl⟩
  go_wp2_with fail
  refine (toM _ L1 _ (Q1.out.below B.out)).mono ?_
  rintro e W17 ⟨t1, rfl, ho, hb⟩
  replace B := Lib.hid (B.out.trans (hb.mono B.out.size))
  replace X := Lib.hid (X.out.trans (hb.mono X.out.size))
  replace D0 := Lib.hid (D0.out.below hb)
  clear hb
  have S1 := Lib.hid ho.mat
  clear ho
  go_wp2_with fail
  refine (toM _ L2 _ (Q2.out.below B.out)).mono ?_
  rintro e W18 ⟨t2, rfl, ho, hb⟩
  replace B := Lib.hid (B.out.trans (hb.mono B.out.size))
  replace X := Lib.hid (X.out.trans (hb.mono X.out.size))
  replace D0 := Lib.hid (D0.out.below hb)
  replace S1 := Lib.hid (S1.out.below hb)
  clear hb
  have S2 := Lib.hid ho.mat
  clear ho
  go_wp2_with fail
  refine (HIM.out _ _ _ S1.out S2.out).mono ?_
  rintro e W19 ⟨t0, rfl, ht0, hb⟩
  replace B := Lib.hid (B.out.trans (hb.mono B.out.size))
  replace X := Lib.hid (X.out.trans (hb.mono X.out.size))
  replace D0 := Lib.hid (D0.out.below hb)
  replace S1 := Lib.hid (S1.out.below hb)
  replace S2 := Lib.hid (S2.out.below hb)
  clear hb
  clear S1
  clear S2
  have T0 := Lib.hid ht0.mat
  clear ht0
  go_wp2_with fail
  refine (eqM t0 v0 r0 _ T0.out (V0.out.below X.out)).mono ?_
  rintro e W20 ⟨rfl, hb⟩
  replace B := Lib.hid (B.out.trans (hb.mono B.out.size))
  replace X := Lib.hid (X.out.trans (hb.mono X.out.size))
  replace D0 := Lib.hid (D0.out.below hb)
  replace T0 := Lib.hid (T0.out.below hb)
  clear hb
  go_wp2_with fail
  refine (heldMown g0 r0 _ 1 _ D0.out (by omega) (by omega)).mono ?_
  rintro e W21 ⟨rfl, rfl⟩
  go_wp2_with fail
  go_ret
  exact ⟨rfl, B.out⟩
set_option maxHeartbeats 1000000 in
theorem xMulMatrix_long0 (a0 : Int) (a1 : Option Addr) (n1 c1 : Nat) (L1 : List (List Int)) (a2 : Option Addr) (n2 c2 : Nat) (L2 : List (List Int)) (w : World) (rr1 : RowM w a1 n1 L1) (h1 : 1048576 < (n1 + cnt L1)) (h2 : n1 ≤ 9223372036854775807) :
    Calls Try.prog 9 #[.int .i64 a0, .slice a1 n1 c1, .slice a2 n2 c2] w fun e w' => e = .returned (.bool true) ∧ Below w.heap.size w w' := by
  have HS1 := Lib.hid (szM_over a1 n1 c1 L1 (1048576) w rr1 (by omega) (by omega) (by omega))
  clear h1 h2
  go_enter Try.func9, Try.ntmps9
  go_wp2_with fail
  refine HS1.out.mono ?_
  rintro e w' ⟨rfl, rfl⟩
  go_wp2_with fail
  go_ret
  exact ⟨rfl, Below.refl _ _⟩
set_option maxHeartbeats 1000000 in
theorem xMulMatrix_long1 (a0 : Int) (a1 : Option Addr) (n1 c1 : Nat) (L1 : List (List Int)) (a2 : Option Addr) (n2 c2 : Nat) (L2 : List (List Int)) (w : World) (rr1 : RowM w a1 n1 L1) (rr2 : RowM w a2 n2 L2) (k1 : (n1 + cnt L1) ≤ 1048576) (h1 : 1048576 < (n1 + cnt L1) + (n2 + cnt L2)) (h2 : n2 ≤ 9223372036854775807) :
    Calls Try.prog 9 #[.int .i64 a0, .slice a1 n1 c1, .slice a2 n2 c2] w fun e w' => e = .returned (.bool true) ∧ Below w.heap.size w w' := by
  have m1 : (1048576 : Int) - ((n1 : Int) + (cnt L1 : Int)) ≥ 0 := by omega
  obtain rfl := rr1.1
  have HS1 := Lib.hid (szM_at a1 L1 c1 (1048576) w (rr1.mat (by omega)) (by omega) (by omega) (by omega))
  have HS2 := Lib.hid (szM_over a2 n2 c2 L2 (1048576 - ((L1.length : Int) + (cnt L1 : Int))) w rr2 (by omega) (by omega) (by omega))
  clear h1 h2
  go_enter Try.func9, Try.ntmps9
  go_wp2_with fail
  refine HS1.out.mono ?_
  rintro e w' ⟨rfl, rfl⟩
  go_wp2_with fail
  refine HS2.out.mono ?_
  rintro e w' ⟨rfl, rfl⟩
  go_wp2_with fail
  go_ret
  exact ⟨rfl, Below.refl _ _⟩

theorem xMulMatrix (a0 : Int) (a1 : Option Addr) (len1 c1 : Nat) (L1 : List (List Int)) (a2 : Option Addr) (len2 c2 : Nat) (L2 : List (List Int)) (w : World) (h1 : RowM w a1 len1 L1) (h2 : RowM w a2 len2 L2) :
    Calls Try.prog 9 #[.int .i64 a0, .slice a1 len1 c1, .slice a2 len2 c2] w fun e w' => e = .returned (.bool true) ∧ Below w.heap.size w w' := by
  by_cases q1 : (len1 + cnt L1) ≤ 1048576
  · skip
    by_cases q2 : (len1 + cnt L1) + (len2 + cnt L2) ≤ 1048576
    · skip
      have e1 := h1.1
      have e2 := h2.1
      subst e1 e2
      exact xMulMatrix_in a0 a1 L1 c1 a2 L2 c2 (mulMV a0 L1 L2) (mulB a0 L1 L2) w (h1.mat (by omega)) (h2.mat (by omega)) (by omega) (fun f1 f2 w k1 k2 => sMulM a0 f1 f2 L1 L2 w k1 k2) (fun f1 f2 w k1 k2 => iMulM a0 f1 f2 L1 L2 w k1 k2)
    · exact xMulMatrix_long1 a0 a1 len1 c1 L1 a2 len2 c2 L2 w h1 h2 (by omega) (by omega) h2.2.1
  · exact xMulMatrix_long0 a0 a1 len1 c1 L1 a2 len2 c2 L2 w h1 (by omega) h1.2.1
end Go.Proofs.Ytgclbdpghlcgjaa
