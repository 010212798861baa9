/-
  The points of a field with one value of x: the iterator hands them over in their order. Conditions: the prime is at most 13.
  The points of a field: the iterator hands them over in their order. Conditions: the prime is at most 13.
-/
import Derived.Test.YtajabchbdhjdiaaBa11
import Derived.RangeFuncNested
import Derived.RangeFuncBound
import Derived.RangeFuncCalls
import Derived.RangeFuncLeaves
import Derived.Shelf.Abstract
import Derived.Shelf.RegionOpen
import Derived.OwnWalkIn
import Derived.TacticsInMore
import Derived.LoopNIn
import Derived.LoopIn
import Derived.Deep.Upon
namespace Go.Proofs.Ytajabchbdhjdiaa
set_option linter.unusedVariables false
open Go.RowKit Go.Shelf
/-- a point as a value -/
def encP (t : Int × Int × Int) : Value := .agg #[.int .i64 t.1, .int .i64 t.2.1, .int .i64 t.2.2]
/-- the first k points of a row -/
def patZ (x y : Int) (k : Nat) : List (Int × Int × Int) := (List.range k).map fun (z : Nat) => (x, y, (z : Int))
/-- the first k rows of a plane -/
def patY (p : Nat) (x : Int) (k : Nat) : List (Int × Int × Int) := (List.range k).flatMap fun (y : Nat) => patZ x y p
/-- the first k planes -/
def patX (p : Nat) (k : Nat) : List (Int × Int × Int) := (List.range k).flatMap fun (x : Nat) => patY p x p
theorem range_at {p : Nat} : ∀ {k : Nat}, k < p → ∃ post, List.range p = List.range k ++ k :: post := by
  intro k hk
  refine ⟨(List.range p).drop (k + 1), ?_⟩
  conv => lhs; rw [← List.take_append_drop k (List.range p)]
  rw [List.take_range, Nat.min_eq_left (by omega), List.drop_eq_getElem_cons (by simpa using hk)]
  simp
theorem patZ_next (x y : Int) (k : Nat) : patZ x y (k + 1) = patZ x y k ++ [(x, y, (k : Int))] := by
  unfold patZ; rw [List.range_succ, List.map_append]; rfl
theorem patY_next (p : Nat) (x : Int) (k : Nat) : patY p x (k + 1) = patY p x k ++ patZ x k p := by
  unfold patY; rw [List.range_succ, List.flatMap_append]; simp
theorem patX_next (p k : Nat) : patX p (k + 1) = patX p k ++ patY p k p := by
  unfold patX; rw [List.range_succ, List.flatMap_append]; simp
theorem patZ_at {p : Nat} (x y : Int) {k : Nat} (hk : k < p) : ∃ post, patZ x y p = patZ x y k ++ (x, y, (k : Int)) :: post := by
  obtain ⟨post, h⟩ := range_at hk
  exact ⟨post.map fun (z : Nat) => (x, y, (z : Int)), by unfold patZ; rw [h, List.map_append]; rfl⟩
theorem patY_at {p : Nat} (x : Int) {k : Nat} (hk : k < p) : ∃ post, patY p x p = patY p x k ++ (patZ x k p ++ post) := by
  obtain ⟨post, h⟩ := range_at hk
  exact ⟨post.flatMap fun (y : Nat) => patZ x y p, by conv => lhs; unfold patY; rw [h]
                                                      rw [List.flatMap_append, List.flatMap_cons]; rfl⟩
theorem patX_at {p : Nat} {k : Nat} (hk : k < p) : ∃ post, patX p p = patX p k ++ (patY p k p ++ post) := by
  obtain ⟨post, h⟩ := range_at hk
  exact ⟨post.flatMap fun (x : Nat) => patY p x p, by conv => lhs; unfold patX; rw [h]
                                                      rw [List.flatMap_append, List.flatMap_cons]; rfl⟩
theorem room_none9 {F : Fence} (hd : F.depth = none) (k : Nat) : F.room k := by
  intro d h; rw [hd] at h; cases h
theorem roundAny9 {l n n' : Nat} {P : Program} {r : Nat} {f : FuncId} {tmps : Array Value} {assign body : Code} {w : World} {R : Ending → World → Prop} (h : RoundIn Fence.wide n P r f tmps assign body w R) : RoundIn (Fence.wide.inRound l) n' P r f tmps assign body w R :=
  ⟨h.1, fun c cs _ => h.2 c cs (room_none9 rfl _)⟩
theorem pat_val (F : Fence) (n : Nat) (hF : F.fn 117) (hro : F.round = none) (p x : Int) (w : World) :
    CallsIn F n Try.prog 117 #[.int .i64 p, .int .i64 x] w fun e w' => e = .returned (.func (.func 150) #[] #[.pointer (some ⟨w.heap.size, 0, none⟩), .pointer (some ⟨w.heap.size + 1, 0, none⟩)]) ∧ w' = (w.alloc (.cells #[.int .i64 p] 3)).alloc (.cells #[.int .i64 x] 3) := by
  refine callsIn_of_wp Try.func117 rfl hF ?_ hro
  simp only [Try.ntmps117, List.size_toArray, List.length_cons, List.length_nil, Nat.reduceAdd, Nat.reduceSub, Array.replicate_succ, Array.replicate_zero, List.push_toArray, List.append_toArray, List.nil_append, List.cons_append]
  gi_wp2
  go_ret
  exact ⟨by simp, rfl⟩
attribute [local go_sem] Oper.semAt_some
set_option maxRecDepth 100000 in
set_option maxHeartbeats 2000000 in
theorem pat_seq (p : Nat) (hp : p ≤ 13) (x : Int) (n bp bx : Nat) (w : World) (hn : 2 ≤ n) (hbp : bp < w.heap.size) (hbx : bx < w.heap.size) (hcp : w.cell? ⟨bp, 0, none⟩ = some (.int .i64 p)) (hcx : w.cell? ⟨bx, 0, none⟩ = some (.int .i64 x)) :
    ValSeq encP Fence.wide n Try.prog 150 #[.pointer (some ⟨bp, 0, none⟩), .pointer (some ⟨bx, 0, none⟩)] (fun k => k = bp ∨ k = bx) (patY p x p) w := by
  intro l T J Jx W hkT hT hTo hTox hk hJ hJx hY h0
  have lt_of : ∀ b, b < w.heap.size → W.heap[b]? = w.heap[b]? → b < W.heap.size := by
    intro b hb e
    rw [Array.getElem?_eq_getElem hb] at e
    exact (Array.getElem?_eq_some_iff.1 e).1
  have hpW := lt_of bp hbp (hk bp (.inl rfl))
  have hxW := lt_of bx hbx (hk bx (.inr rfl))
  have HC := Lib.hid (fun W' (h : KpV T W W') => show W'.cell? ⟨bp, 0, none⟩ = some (.int .i64 p) ∧ W'.cell? ⟨bx, 0, none⟩ = some (.int .i64 x) from
    ⟨(cell_of_heap (p := ⟨bp, 0, none⟩) ((h.same bp hpW (hkT bp (.inl rfl))).trans (hk bp (.inl rfl)))).trans hcp, (cell_of_heap (p := ⟨bx, 0, none⟩) ((h.same bx hxW (hkT bx (.inr rfl))).trans (hk bx (.inr rfl)))).trans hcx⟩)
  obtain ⟨c0, c1⟩ := HC.out W (KpV.refl _ _)
  have HY := Lib.hid hY
  have H0 := Lib.hid h0
  clear hkT hT hTo hTox hk hJ hJx hY h0 lt_of hcp hcx hbp hbx hpW hxW
  refine callsIn_of_wp_marks Try.func150 rfl trivial ?_ rfl
  simp only [Try.ntmps150, List.size_toArray, List.length_cons, List.length_nil, Nat.reduceAdd, Nat.reduceSub, Array.replicate_succ, Array.replicate_zero, List.push_toArray, List.append_toArray, List.nil_append, List.cons_append]
  gi_wp2_with fail
  clear c0 c1
  gi_loopw [7] (fun i wr => ∃ y : Nat, y ≤ p ∧ i = .int .i64 y ∧ J (patY p x y) wr ∧ KpV T W wr) (fun i _ => p - (intOf i).toNat)
  case atStart => exact ⟨0, by omega, rfl, H0.out, KpV.refl _ _⟩
  case round =>
    obtain ⟨y, hy, rfl, hj, hkp⟩ := hrel
    have HJ := Lib.hid hj
    have HK := Lib.hid hkp
    obtain ⟨c0, c1⟩ := HC.out wr hkp
    clear hj hkp
    by_cases hlt : y < p
    · have hltp : (y : Int) < (p : Int) := by omega
      have hy0 : (0 : Int) ≤ (y : Int) := by omega
      gi_wp2_with fail
      clear c0 c1
      gi_loopw [11] (fun i wr => ∃ z : Nat, z ≤ p ∧ i = .int .i64 z ∧ J (patY p x y ++ patZ x y z) wr ∧ KpV T W wr) (fun i _ => p - (intOf i).toNat)
      case atStart => exact ⟨0, by omega, rfl, by simpa [patZ] using HJ.out, HK.out⟩
      case round =>
        clear HJ HK
        obtain ⟨z, hz, rfl, hj, hkp⟩ := hrel
        have HJ := Lib.hid hj
        have HK := Lib.hid hkp
        obtain ⟨c0, c1⟩ := HC.out wr hkp
        clear hj hkp
        by_cases hlz : z < p
        · have hlzp : (z : Int) < (p : Int) := by omega
          have hz0 : (0 : Int) ≤ (z : Int) := by omega
          obtain ⟨post, hpost⟩ := patY_at x hlt
          obtain ⟨post2, hpost2⟩ := patZ_at x y hlz
          have HS := Lib.hid (show patY p x p = (patY p x y ++ patZ x y z) ++ (x, (y : Int), (z : Int)) :: (post2 ++ post) from by rw [hpost, hpost2]; simp)
          obtain ⟨fn, tmps, assign, body, hy, hR⟩ := HY.out _ _ _ _ HJ.out HS.out
          have HR := Lib.hid hR
          simp only [encP] at hy
          clear hpost hpost2 hR
          gi_wp2_with fail
          refine ⟨fun _ => by omega, HR.out.mono ?_⟩
          rintro e W3 (⟨rfl, hj3, hk3⟩ | ⟨rfl, hj3, hk3⟩)
          · have HJ3 := Lib.hid (show J (patY p x y ++ patZ x y (z + 1)) W3 from by rw [patZ_next, ← List.append_assoc]; exact hj3)
            have HK3 := Lib.hid (HK.out.trans hk3)
            clear hj3 hk3 c0 c1 hy HR
            gi_wp2_with fail
            go_roundw
            case rel => exact ⟨z + 1, by omega, by go_num, HJ3.out, HK3.out⟩
            case measure => simp [intOf]; omega
          · have HJ3 := Lib.hid hj3
            clear hj3 hk3 c0 c1 hy HR
            gi_wp2_with fail
            exact ⟨_, results_none rfl _ _ _, ⟨_, rfl⟩, .inr ⟨_, _, _, HS.out, HJ3.out⟩⟩
        · have hzp : z = p := by omega
          subst hzp
          have hnl : ¬ (z : Int) < (z : Int) := by omega
          have HJ3 := Lib.hid (show J (patY z x (y + 1)) wr from by rw [patY_next]; exact HJ.out)
          clear c0 c1
          gi_wp2_with fail
          go_roundw
          case rel => exact ⟨y + 1, by omega, by go_num, HJ3.out, HK.out⟩
          case measure => simp [intOf]; omega
    · have hyp : y = p := by omega
      subst hyp
      have hnl : ¬ (y : Int) < (y : Int) := by omega
      clear c0 c1
      gi_wp2_with fail
      exact ⟨_, results_none rfl _ _ _, ⟨_, rfl⟩, .inl HJ.out⟩
end Go.Proofs.Ytajabchbdhjdiaa
namespace Go.Proofs.Ytajabchbdhjdiaa
set_option linter.unusedVariables false
open Go.RowKit Go.Shelf
theorem all_val (F : Fence) (n : Nat) (hF : F.fn 68) (hro : F.round = none) (p : Int) (w : World) :
    CallsIn F n Try.prog 68 #[.int .i64 p] w fun e w' => e = .returned (.func (.func 116) #[] #[.pointer (some ⟨w.heap.size, 0, none⟩)]) ∧ w' = w.alloc (.cells #[.int .i64 p] 3) := by
  refine callsIn_of_wp Try.func68 rfl hF ?_ hro
  simp only [Try.ntmps68, List.size_toArray, List.length_cons, List.length_nil, Nat.reduceAdd, Nat.reduceSub, Array.replicate_succ, Array.replicate_zero, List.push_toArray, List.append_toArray, List.nil_append, List.cons_append]
  gi_wp2
  go_ret
  exact ⟨rfl, rfl⟩
theorem three_boxP (W : World) (t : Int × Int × Int) (ty : TypeId) : (W.alloc (.cells #[.int .i64 t.1, .int .i64 t.2.1, .int .i64 t.2.2] ty)).cell? ⟨W.heap.size, 0, none⟩ = some (.int .i64 t.1) ∧ (W.alloc (.cells #[.int .i64 t.1, .int .i64 t.2.1, .int .i64 t.2.2] ty)).cell? ⟨W.heap.size, 1, none⟩ = some (.int .i64 t.2.1) ∧ (W.alloc (.cells #[.int .i64 t.1, .int .i64 t.2.1, .int .i64 t.2.2] ty)).cell? ⟨W.heap.size, 2, none⟩ = some (.int .i64 t.2.2) :=
  ⟨World.cell?_alloc_at _ _ _ 0 rfl, World.cell?_alloc_at _ _ _ 1 rfl, World.cell?_alloc_at _ _ _ 2 rfl⟩
attribute [local go_sem] Oper.semAt_some
set_option maxRecDepth 100000 in
set_option maxHeartbeats 2000000 in
theorem all_seq (p : Nat) (hp : p ≤ 13) (n bp : Nat) (w : World) (hn : 10 ≤ n) (hbp : bp < w.heap.size) (hcp : w.cell? ⟨bp, 0, none⟩ = some (.int .i64 p)) :
    ValSeq encP Fence.wide n Try.prog 116 #[.pointer (some ⟨bp, 0, none⟩)] (fun k => k = bp) (patX p p) w := by
  intro l T J Jx W hkT hT hTo hTox hk hJ hJx hY h0
  have hpW : bp < W.heap.size := by
    have e := hk bp rfl
    rw [Array.getElem?_eq_getElem hbp] at e
    exact (Array.getElem?_eq_some_iff.1 e).1
  have cp0 : W.cell? ⟨bp, 0, none⟩ = some (.int .i64 p) := (cell_of_heap (p := ⟨bp, 0, none⟩) (hk bp rfl)).trans hcp
  have hTb := hkT bp rfl
  have nTy : ∀ k, W.heap.size ≤ k → ¬ T W k := fun k hk q => by have := hT _ _ q; omega
  clear hkT hk hcp hbp
  refine callsIn_of_wp_marks Try.func116 rfl trivial ?_ rfl
  simp only [Try.ntmps116, List.size_toArray, List.length_cons, List.length_nil, Nat.reduceAdd, Nat.reduceSub, Array.replicate_succ, Array.replicate_zero, List.push_toArray, List.append_toArray, List.nil_append, List.cons_append]
  gi_wp2_with fail
  obtain ⟨W2, hW2⟩ : ∃ W2, W2 = W.alloc (Obj.cells #[.func (.yield l) #[] #[]] 114) := ⟨_, rfl⟩
  rw [← hW2]
  have s2 : W2.heap.size = W.heap.size + 1 := by rw [hW2]; simp
  have bW2 : Below W.heap.size W W2 := by rw [hW2]; exact (by repeat (first | exact Below.refl _ _ | apply Below.drew | apply below_drewN | (refine Below.alloc ?_ (by first | omega | (simp <;> omega)) _)))
  have cy2 : W2.cell? ⟨W.heap.size, 0, none⟩ = some (.func (.yield l) #[] #[]) := by rw [hW2]; exact World.cell?_alloc_at _ _ _ _ rfl
  have cp2 : W2.cell? ⟨bp, 0, none⟩ = some (.int .i64 p) := (bW2.cell (p := ⟨bp, 0, none⟩) hpW).trans cp0
  have h20 : J [] W2 := hJ _ _ _ h0 (GrowB.of_below bW2)
  have nT2 : ∀ k, T W2 k → T W k := fun k q => hTo _ _ _ _ h0 (GrowB.of_below bW2) q
  have HC := Lib.hid (fun Wx (h : KpV T W2 Wx) => show Wx.cell? ⟨W.heap.size, 0, none⟩ = some (.func (.yield l) #[] #[]) ∧ Wx.cell? ⟨bp, 0, none⟩ = some (.int .i64 p) from
    ⟨(cell_of_heap (p := ⟨W.heap.size, 0, none⟩) (h.same W.heap.size (by omega) (fun q => nTy _ (Nat.le_refl _) (nT2 _ q)))).trans cy2, (cell_of_heap (p := ⟨bp, 0, none⟩) (h.same bp (by omega) (fun q => hTb (nT2 _ q)))).trans cp2⟩)
  have HJJ := Lib.hid hJ
  have HXX := Lib.hid hJx
  have HYY := Lib.hid hY
  have H0 := Lib.hid h20
  have HTO := Lib.hid hTo
  have HTX := Lib.hid hTox
  clear hW2 hJ hJx hY h0 cp0 cy2 cp2 bW2 hTo hTox h20 nTy nT2
  refine wpIn_loop (fun a' wr => ∃ (x : Nat) (ds : List Deferred) (u3 u4 u7 u8 u9 u10 u11 u12 u13 u14 u15 u16 u17 : Value), a' = { tmps := #[.func (.yield l) #[] #[], .pointer (some ⟨bp, 0, none⟩), .pointer (some ⟨W.heap.size, 0, none⟩), u3, u4, .int .i64 p, .int .i64 x, u7, u8, u9, u10, u11, u12, u13, u14, u15, u16, u17], defers := ds } ∧ x ≤ p ∧ J (patX p x) wr ∧ KpV T W2 wr ∧ Marks W2.heap.size ds wr ∧ (∀ D, (∃ e ∈ ds, e.target = .collected D) → ¬ T wr D))
    (fun a' _ => p - (intOf (a'.tmps.getD 6 undef)).toNat) ?_ ?_
  · exact ⟨0, [], _, _, _, _, _, _, _, _, _, _, _, _, _, rfl, by omega, H0.out, KpV.refl _ _, trivial, fun D ⟨e, he, _⟩ => by cases he⟩
  · rintro a' wr ⟨x, ds, u3, u4, u7, u8, u9, u10, u11, u12, u13, u14, u15, u16, u17, rfl, hx, hj, hkp, hm, hnt⟩
    obtain ⟨cy, cp⟩ := HC.out wr hkp
    have HJ := Lib.hid hj
    have HK := Lib.hid hkp
    have HM := Lib.hid hm
    have HNT := Lib.hid hnt
    clear hj hkp hm hnt H0
    by_cases hlt : x < p
    · have hltp : (x : Int) < (p : Int) := by omega
      have hx0 : (0 : Int) ≤ (x : Int) := by omega
      gi_wp2_with fail
      refine ⟨trivial, fun _ => by omega, ?_⟩
      refine (pat_val Fence.wide _ trivial rfl _ _ _).mono ?_
      rintro e w' ⟨rfl, rfl⟩
      gi_wp2_with fail
      obtain ⟨Wq, hWq⟩ : ∃ Wq, Wq = (wr.alloc (Obj.cells #[.int .i64 p] 3)).alloc (Obj.cells #[.int .i64 x] 3) := ⟨_, rfl⟩
      rw [← hWq]
      have sq : Wq.heap.size = wr.heap.size + 2 := by rw [hWq]; simp
      have bq : Below wr.heap.size wr Wq := by rw [hWq]; exact (by repeat (first | exact Below.refl _ _ | apply Below.drew | apply below_drewN | (refine Below.alloc ?_ (by first | omega | (simp <;> omega)) _)))
      have cq0 : Wq.cell? ⟨wr.heap.size, 0, none⟩ = some (.int .i64 p) := by rw [hWq, World.cell?_alloc_past _ _ _ (by simp)]; exact World.cell?_alloc_at _ _ _ _ rfl
      have cq1 : Wq.cell? ⟨wr.heap.size + 1, 0, none⟩ = some (.int .i64 x) := by rw [hWq]; exact World.cell?_alloc_at _ _ _ _ (by simp)
      have HD := Lib.hid (show ∀ D, (∃ e ∈ ds, e.target = .collected D) → W2.heap.size ≤ D ∧ D < wr.heap.size from by
        rintro D ⟨e, he, ht⟩
        obtain ⟨D2, h1, h2, h3⟩ := HM.out.ge e he
        rw [ht] at h1
        cases h1
        exact ⟨h2, h3⟩)
      have hwr : W2.heap.size ≤ wr.heap.size := HK.out.size
      have HMK := Lib.hid (fun (A C : World) (hA : Marks W2.heap.size ds A ∧ (∀ D, (∃ e ∈ ds, e.target = .collected D) → ¬ T A D)) (h : KpV T A C) => show Marks W2.heap.size ds C ∧ (∀ D, (∃ e ∈ ds, e.target = .collected D) → ¬ T C D) from
        ⟨hA.1.keep (fun D hD he hw => (h.same D (Array.getElem?_eq_some_iff.1 hw).1 (hA.2 D he)).trans hw), fun D he => by
          obtain ⟨e, he1, he2⟩ := he
          obtain ⟨D2, h1, h2, h3⟩ := hA.1.ge e he1
          rw [he2] at h1
          cases h1
          exact h.no h3 (hA.2 D ⟨e, he1, he2⟩)⟩)
      have HMG := Lib.hid (fun (A C : World) (hA : Marks W2.heap.size ds A ∧ (∀ D, (∃ e ∈ ds, e.target = .collected D) → ¬ T A D)) (h : GrowB Wq.heap.size A C) (ho : ∀ k, T C k → T A k) => show Marks W2.heap.size ds C ∧ (∀ D, (∃ e ∈ ds, e.target = .collected D) → ¬ T C D) from
        ⟨hA.1.keep (fun D hD he hw => h.same D _ hw (.inl (by have := HD.out D he; omega))), fun D he q => hA.2 D he (ho D q)⟩)
      have gq : GrowB W.heap.size wr Wq := (GrowB.of_below bq).mono (Nat.le_trans (by omega : W.heap.size ≤ W2.heap.size) hwr)
      have hTq : ∀ k, T Wq k → T wr k := fun k q => HTO.out _ _ _ _ HJ.out gq q
      obtain ⟨post, hpost⟩ := patX_at hlt
      have HPO := Lib.hid hpost
      clear hWq hpost
      refine wpIn_rangeVals (enc := encP) (keep := fun k => k = wr.heap.size ∨ k = wr.heap.size + 1) (S := patY p x p) (w0 := Wq) rfl (by omega) (gf := 150) (lb := #[.pointer (some ⟨wr.heap.size, 0, none⟩), .pointer (some ⟨wr.heap.size + 1, 0, none⟩)]) rfl trivial (enters_of Try.func150 (by kernel_rfl) rfl)
        (pat_seq p hp x (n - 1) wr.heap.size (wr.heap.size + 1) Wq (by omega) (by omega) (by omega) cq0 cq1) rfl T hT (fun k hk q => by have := hT _ _ (hTq k q); have : k = wr.heap.size ∨ k = wr.heap.size + 1 := hk; omega) (fun k hk => ⟨by have : k = wr.heap.size ∨ k = wr.heap.size + 1 := hk; omega, rfl⟩)
        (fun pre Wc => J (patX p x ++ pre) Wc ∧ KpV T W2 Wc ∧ (Marks W2.heap.size ds Wc ∧ (∀ D, (∃ e ∈ ds, e.target = .collected D) → ¬ T Wc D)))
        (fun s A C k hs hgr q => HTO.out _ _ _ _ hs.1 (hgr.mono (by omega)) q)
        (fun s A C hs hgr => ⟨HJJ.out _ _ _ hs.1 (hgr.mono (by omega)), hs.2.1.grow (by omega) hgr (fun k q => HTO.out _ _ _ _ hs.1 (hgr.mono (by omega)) q), HMG.out A C hs.2.2 hgr (fun k q => HTO.out _ _ _ _ hs.1 (hgr.mono (by omega)) q)⟩)
        (fun c pre Wc => c = .ret ∧ Jx (patX p x ++ pre) Wc ∧ (Marks W2.heap.size ds Wc ∧ (∀ D, (∃ e ∈ ds, e.target = .collected D) → ¬ T Wc D)))
        (fun c s A C hs hgr => ⟨hs.1, HXX.out _ _ _ hs.2.1 (hgr.mono (by omega)), HMG.out A C hs.2.2 hgr (fun k q => HTX.out _ _ _ _ hs.2.1 (hgr.mono (by omega)) q)⟩)
        (fun c s A C k hs hgr q => HTX.out _ _ _ _ hs.2.1 (hgr.mono (by omega)) q)
        ⟨by rw [List.append_nil]; exact HJJ.out _ _ _ HJ.out gq, HK.out.trans (KpV.of_below bq (fun k q => .inl (hTq k q))), HMK.out _ _ ⟨HM.out, HNT.out⟩ (KpV.of_below bq (fun k q => .inl (hTq k q)))⟩
        (fun t a' Wc => ∃ b : Nat, a' = { tmps := #[.func (.yield l) #[] #[], .pointer (some ⟨bp, 0, none⟩), .pointer (some ⟨W.heap.size, 0, none⟩), .int .i64 x, .pointer (some ⟨b, 0, none⟩), .int .i64 p, .int .i64 x, .bool true, .int .i64 x, .int .i64 p, .int .i64 x, .func (.func 150) #[] #[.pointer (some ⟨wr.heap.size, 0, none⟩), .pointer (some ⟨wr.heap.size + 1, 0, none⟩)], encP t, u13, u14, u15, u16, u17], defers := [] } ∧ (Wc.cell? ⟨b, 0, none⟩ = some (.int .i64 t.1) ∧ Wc.cell? ⟨b, 1, none⟩ = some (.int .i64 t.2.1) ∧ Wc.cell? ⟨b, 2, none⟩ = some (.int .i64 t.2.2)))
        (fun t a' _ A C hs hgr => by
          obtain ⟨b, e, h0, h1, h2⟩ := hs
          exact ⟨b, e, hgr.cell h0, hgr.cell h1, hgr.cell h2⟩) ?assign ?body ?done ?stop
      case assign =>
        intro l2 pre t post W0 K hI hS hs hK
        simp only [encP]
        gi_wp2_with fail
        exact hK _ _ (Below.alloc (Below.refl _ _) (Nat.le_refl _) _) ⟨_, rfl, three_boxP _ t _⟩
      case done =>
        rintro D Wd hD hnD ⟨q1, q2, q3, q4⟩ hKD
        have HND := Lib.hid (show ∀ D', (∃ e ∈ ({ target := .collected D, args := #[] } :: ds : List Deferred), e.target = .collected D') → ¬ T Wd D' from by
          rintro D' ⟨e, he, ht⟩
          rcases List.mem_cons.1 he with rfl | he
          · cases ht; exact hnD
          · exact q4 D' ⟨e, he, ht⟩)
        have HMd := Lib.hid (show Marks W2.heap.size ({ target := .collected D, args := #[] } :: ds) Wd from ⟨⟨D, rfl, rfl, by omega, hKD, fun e he ht => by have := HD.out D ⟨e, he, ht⟩; omega⟩, q3⟩)
        have H3 := Lib.hid (show J (patX p (x + 1)) Wd ∧ KpV T W2 Wd from ⟨by rw [patX_next]; exact q1, q2⟩)
        clear q1 q2 q3 q4
        simp only [Exit.inBlock, Exit.then]
        rename_i hcont
        refine hcont _ _ ?_
        gi_wp2_with fail
        refine ⟨⟨x + 1, _, _, _, _, _, _, _, _, _, _, _, _, _, _, rfl, by omega, H3.out.1, H3.out.2, HMd.out, HND.out⟩, ?_⟩
        simp [intOf]
        omega
      case stop =>
        rintro D c pre t post0 Wd hD hS ⟨rfl, hj, hm, _⟩ hKD
        have HMd := Lib.hid (show Marks W2.heap.size ({ target := .collected D, args := #[] } :: ds) Wd from ⟨⟨D, rfl, rfl, by omega, hKD, fun e he ht => by have := HD.out D ⟨e, he, ht⟩; omega⟩, hm⟩)
        have HS := Lib.hid (show patX p p = (patX p x ++ pre) ++ t :: (post0 ++ post) from by rw [HPO.out, hS]; simp)
        have H3 := Lib.hid (show Jx ((patX p x ++ pre) ++ [t]) Wd from by rw [List.append_assoc]; exact hj)
        clear hj hm hS
        gi_wp2_with fail
        refine leaves_marks (B := W2.heap.size) (K := fun Wx => Jx ((patX p x ++ pre) ++ [t]) Wx) (fun _ A C hs hgr => HXX.out _ _ _ hs (hgr.mono (by omega))) (fun Wx hK => ?_) _ _ HMd.out H3.out
        exact ⟨_, results_none rfl _ _ _, ⟨_, rfl⟩, .inr ⟨_, _, _, HS.out, hK⟩⟩
      case body =>
        rintro l2 pre t post2 a' Wc ⟨q1, q2, q3⟩ ⟨b, rfl, b0, b1, b2⟩ hS hs
        obtain ⟨cy, cp⟩ := HC.out Wc q2
        have HS := Lib.hid (show patX p p = (patX p x ++ pre) ++ t :: (post2 ++ post) from by rw [HPO.out, hS]; simp)
        obtain ⟨fn, tmps, assign, body, hy, hR⟩ := HYY.out _ _ _ _ q1 HS.out
        have HR := Lib.hid hR
        have HQ := Lib.hid q2
        have HQ3 := Lib.hid q3
        simp only [encP] at hy
        clear hR q1 q2 q3 hS
        gi_wp2_with fail
        refine ⟨fun _ => by omega, (roundAny9 HR.out).mono ?_⟩
        rintro e W3 (⟨rfl, hj3, hk3⟩ | ⟨rfl, hj3, hk3⟩)
        · have H3 := Lib.hid (show J (patX p x ++ (pre ++ [t])) W3 ∧ KpV T W2 W3 ∧ (Marks W2.heap.size ds W3 ∧ (∀ D, (∃ e ∈ ds, e.target = .collected D) → ¬ T W3 D)) from ⟨by rw [← List.append_assoc]; exact hj3, HQ.out.trans hk3, HMK.out _ _ HQ3.out hk3⟩)
          have HK3 := Lib.hid hk3
          clear hj3 hk3 hy HR
          gi_wp2_with fail
          exact ⟨H3.out, HK3.out⟩
        · have H3 := Lib.hid (show Jx (patX p x ++ (pre ++ [t])) W3 ∧ (Marks W2.heap.size ds W3 ∧ (∀ D, (∃ e ∈ ds, e.target = .collected D) → ¬ T W3 D)) from ⟨by rw [← List.append_assoc]; exact hj3, HMK.out _ _ HQ3.out hk3⟩)
          have HK3 := Lib.hid hk3
          clear hj3 hk3 hy HR
          gi_wp2_with fail
          exact ⟨⟨rfl, H3.out⟩, HK3.out⟩
    · have hxp : x = p := by omega
      subst hxp
      have hnl : ¬ (x : Int) < (x : Int) := by omega
      gi_wp2_with fail
      refine leaves_marks (B := W2.heap.size) (K := fun Wx => J (patX x x) Wx) (fun _ A C hs hgr => HJJ.out _ _ _ hs (hgr.mono (by omega))) (fun Wx hK => ?_) _ _ HM.out HJ.out
      exact ⟨_, results_none rfl _ _ _, ⟨_, rfl⟩, .inl hK⟩
end Go.Proofs.Ytajabchbdhjdiaa
