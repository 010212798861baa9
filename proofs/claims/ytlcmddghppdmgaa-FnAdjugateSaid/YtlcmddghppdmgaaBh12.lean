/-
  The program's permutations: an iterator that ranges over itself. Conditions: at most four numbers.
-/
import Derived.Test.YtlcmddghppdmgaaBh1
import Derived.Test.YtlcmddghppdmgaaBh8
import Derived.Test.YtlcmddghppdmgaaBh5
import Derived.Test.YtlcmddghppdmgaaBh11
import Derived.RangeFuncNested
import Derived.RangeFuncBound
import Derived.RangeFuncCalls
import Derived.RangeFuncLeaves
import Derived.Shelf.Abstract
import Derived.Shelf.RegionOpen
import Derived.OwnWalkIn
import Derived.TacticsInMore
import Derived.LoopNIn
import Derived.LoopIn
import Derived.Deep.Upon
import Derived.Deep.AppendLies
import Derived.Lib.LazyBuf
namespace Go.Proofs.Ytlcmddghppdmgaa
set_option linter.unusedVariables false
open Go.RowKit Go.Shelf
theorem RowQ.yi {w : World} {B : Nat} {v : Value} {L : List Int} (h : RowQ w B v L) (hn : L ≠ []) (hl : L.length ≤ 1000) : YI w B v L := by
  rcases h.shape with ⟨_, e⟩ | ⟨g, cap, rfl, hb, hg, hk, hkm⟩
  · exact absurd e hn
  · refine ⟨hl, .inr ⟨hn, g, 0, cap, rfl, hb, hg, ⟨hk, by unfold maxLen at hkm; omega⟩, fun j hj => ?_⟩⟩
    rw [Nat.zero_add, World.ownsRow.cellAt h j (by omega)]
    simp [flatQ, hj, List.getD_eq_getElem?_getD]
set_option maxRecDepth 100000 in
theorem iCloneNil (w : World) : Calls Try.prog 175 #[.slice none 0 0] w fun e w' => e = .returned (.slice none 0 0) ∧ w = w' := by
  have hcmp := fun (W : World) => Go.run_eql_slice_nil (P := Try.prog) W 62 3 none 0 0 Try.underlying62
  go_enter Try.func175, Try.ntmps175
  go_wp2
  go_ret
  exact ⟨rfl, rfl⟩
set_option maxRecDepth 100000 in
set_option maxHeartbeats 2000000 in
theorem iClone (g off cap : Nat) (L : List Int) (w : World) (hn : L ≠ []) (hl : L.length ≤ 1000) (hg : g < w.heap.size) (hc : ∀ j, j < L.length → w.cell? ⟨g, off + j, none⟩ = some (.int .i64 (L.getD j 0))) :
    Calls Try.prog 175 #[.slice (some ⟨g, off, none⟩) L.length cap] w fun e w' => ∃ u, e = .returned u ∧ RowQ w' w.heap.size u L ∧ Below w.heap.size w w' := by
  obtain ⟨i0, hi, hz0, hz1, hz2⟩ := info_parts infoInt
  have hpos : 0 < L.length := List.length_pos_iff.2 hn
  have HN := Lib.hid (show ∀ j u, (flatQ L)[j]? = some u → (w.alloc (Obj.cells #[] 3)).cell? ((⟨g, off, none⟩ : Addr).add j) = some u from by
    intro j u hj
    have hjl : j < L.length := by
      have := (List.getElem?_eq_some_iff.1 hj).1
      rwa [flatQ_len] at this
    have hadd : (⟨g, off, none⟩ : Addr).add j = ⟨g, off + j, none⟩ := by unfold Addr.add; split <;> simp_all
    rw [hadd, World.cell?_alloc_past _ _ _ hg, hc j hjl]
    simpa [flatQ, hjl, List.getD_eq_getElem?_getD] using hj)
  have HE := Lib.hid (show (w.alloc (Obj.cells #[] 3)).ownsRow w.heap.size 3 1 (.slice (some ⟨w.heap.size, 0, none⟩) 0 0) 0 [] from World.ownsRow_lit (size := 1) w #[] 0 (Nat.le_refl _) (by unfold maxLen; omega) rfl)
  have HO := Lib.hid (fun u (hu : u ∈ flatQ L) => flatQ_cell L u hu)
  obtain ⟨m, hm⟩ : ∃ m, m = L.length := ⟨_, rfl⟩
  have HM := Lib.hid hm
  rw [← hm] at hpos hl ⊢
  have hcmp := fun (W : World) => Go.run_eql_slice_nil (P := Try.prog) W 62 3 (some ⟨g, off, none⟩) m cap Try.underlying62
  clear hc hn hm
  go_enter Try.func175, Try.ntmps175
  go_wp2_with (at_builtin; refine wpList_append_lies _ rfl _ _ 62 rfl w.heap.size 3 i0 (.int .i64 0) 1 8 Try.underlying62 hi hz0 hz1 hz2 rfl (by decide) _ _ _ rfl HE.out ⟨g, off, none⟩ m cap (flatQ L) rfl (by rw [HM.out]; simp [flatQ]) HN.out HO.out (by omega) (by unfold maxLen; omega) (by omega) (by simp) _ rfl ?_)
  intro g5 c5 w5 hown5 hgrow5 hat5 hlt5
  have hb5 : Below w.heap.size w w5 := (Below.alloc (Below.refl w.heap.size w) (Nat.le_refl _) _).grown hgrow5 (by simp) (fun k hk => by
    have hk : w.heap.size = k := by simpa [Value.ownBlock] using hk
    omega)
  have HF := Lib.hid (show RowQ w5 w.heap.size (.slice (some ⟨g5, 0, none⟩) m c5) L ∧ Below w.heap.size w w5 from ⟨by unfold RowQ; rw [← HM.out]; simpa using hown5, hb5⟩)
  clear hown5 hgrow5 hat5 hlt5 hb5 HE HN HO
  go_wp2
  go_ret
  exact ⟨_, rfl, HF.out⟩
theorem perm_val (F : Fence) (n : Nat) (hF : F.fn 123) (hro : F.round = none) (m : Int) (w : World) :
    CallsIn F n Try.prog 123 #[.int .i64 m] w fun e w' => e = .returned (.func (.func 173) #[] #[.pointer (some ⟨w.heap.size, 0, none⟩)]) ∧ w' = w.alloc (.cells #[.int .i64 m] 3) := by
  refine callsIn_of_wp Try.func123 rfl hF ?_ hro
  simp only [Try.ntmps123, List.size_toArray, List.length_cons, List.length_nil, Nat.reduceAdd, Nat.reduceSub, Array.replicate_succ, Array.replicate_zero, List.push_toArray, List.append_toArray, List.nil_append, List.cons_append]
  gi_wp2
  go_ret
  exact ⟨rfl, rfl⟩
theorem room_none {F : Fence} (hd : F.depth = none) (k : Nat) : F.room k := by
  intro d h; rw [hd] at h; cases h
theorem roundAny {l n n' : Nat} {P : Program} {r : Nat} {f : FuncId} {tmps : Array Value} {assign body : Code} {w : World} {R : Ending → World → Prop} (h : RoundIn Fence.wide n P r f tmps assign body w R) : RoundIn (Fence.wide.inRound l) n' P r f tmps assign body w R :=
  ⟨h.1, fun c cs _ => h.2 c cs (room_none rfl _)⟩
theorem iCloneY (B : Nat) (v : Value) (σ : List Int) (w : World) (h : YI w B v σ) :
    Calls Try.prog 175 #[v] w fun e w' => ∃ u, e = .returned u ∧ RowQ w' w.heap.size u σ ∧ Below w.heap.size w w' := by
  obtain ⟨h1, h2⟩ := h
  rcases h2 with ⟨rfl, rfl⟩ | ⟨hn, g, off, cap, rfl, _, hg, _, hc⟩
  · exact (iCloneNil w).mono fun e w' ⟨he, hw⟩ => ⟨_, he, hw ▸ World.ownsRow_nil w _ _ _, hw ▸ Below.refl _ _⟩
  · exact iClone g off cap σ w hn h1 hg hc
attribute [local go_sem] Oper.semAt_some
set_option maxRecDepth 100000 in
set_option maxHeartbeats 2000000 in
theorem perm_seq : ∀ (m : Nat), m ≤ 4 → ∀ (n b : Nat) (w : World), 3 * m + 2 ≤ n → b < w.heap.size → w.cell? ⟨b, 0, none⟩ = some (.int .i64 m) → ListSeq Fence.wide n Try.prog 173 #[.pointer (some ⟨b, 0, none⟩)] (fun k => k = b) (permsL m) w
  | 0, hm, n, b, w, hn, hb, hc => by
    intro l T J W hkT hT hk hJ hY h0
    have hbW : b < W.heap.size := by
      have e := hk b rfl
      rw [Array.getElem?_eq_getElem hb] at e
      exact (Array.getElem?_eq_some_iff.1 e).1
    have cb : W.cell? ⟨b, 0, none⟩ = some (.int .i64 0) := (cell_of_heap (hk b rfl)).trans hc
    obtain ⟨fn, tmps, assign, body, hy, hR⟩ := hY [] [] (.slice none 0 0) (W.alloc (Obj.cells #[.func (.yield l) #[] #[]] 143)) (hJ _ _ _ h0 (GrowB.of_below (Below.alloc (Below.refl _ _) (Nat.le_refl _) _))) ⟨by simp, .inl ⟨rfl, rfl⟩⟩ ⟨[], rfl⟩
    refine callsIn_of_wp_marks Try.func173 rfl trivial ?_ rfl
    simp only [Try.ntmps173, List.size_toArray, List.length_cons, List.length_nil, Nat.reduceAdd, Nat.reduceSub, Array.replicate_succ, Array.replicate_zero, List.push_toArray, List.append_toArray, List.nil_append, List.cons_append]
    gi_wp2_with fail
    refine ⟨fun _ => by omega, hR.mono ?_⟩
    rintro e W3 ⟨rfl, hJ3, hk3⟩
    gi_wp2
    exact ⟨_, results_none rfl _ _ _, ⟨_, rfl⟩, hJ3⟩
  | m + 1, hm, n, b, w, hn, hb, hc => by
    intro l T J W hkT hT hk hJ hY h0
    have hbW : b < W.heap.size := by
      have e := hk b rfl
      rw [Array.getElem?_eq_getElem hb] at e
      exact (Array.getElem?_eq_some_iff.1 e).1
    have cb : W.cell? ⟨b, 0, none⟩ = some (.int .i64 ((m + 1 : Nat) : Int)) := (cell_of_heap (hk b rfl)).trans hc
    obtain ⟨mi, hmi⟩ : ∃ mi : Int, mi = ((m + 1 : Nat) : Int) := ⟨_, rfl⟩
    rw [← hmi] at cb
    have hz : (mi == 0) = false := by simp; omega
    have hmi1 : mi - 1 = (m : Int) := by omega
    have hm1 : 1 ≤ mi := by omega
    have hm4 : mi ≤ 4 := by omega
    have HMI := Lib.hid hmi
    clear hmi
    refine callsIn_of_wp_marks Try.func173 rfl trivial ?_ rfl
    simp only [Try.ntmps173, List.size_toArray, List.length_cons, List.length_nil, Nat.reduceAdd, Nat.reduceSub, Array.replicate_succ, Array.replicate_zero, List.push_toArray, List.append_toArray, List.nil_append, List.cons_append]
    gi_wp2_with fail
    refine ⟨trivial, fun _ => by omega, ?_⟩
    refine (perm_val Fence.wide _ trivial rfl _ _).mono ?_
    rintro e w' ⟨rfl, rfl⟩
    gi_wp2_with fail
    obtain ⟨W2, hW2⟩ : ∃ W2, W2 = (W.alloc (Obj.cells #[.func (.yield l) #[] #[]] 143)).alloc (Obj.cells #[.int .i64 m] 3) := ⟨_, rfl⟩
    rw [← hW2]
    have s2 : W2.heap.size = W.heap.size + 2 := by rw [hW2]; simp
    have bW2 : Below W.heap.size W W2 := by rw [hW2]; exact (by repeat (first | exact Below.refl _ _ | apply Below.drew | apply below_drewN | (refine Below.alloc ?_ (by first | omega | (simp <;> omega)) _)))
    have c2 : W2.cell? ⟨W.heap.size + 1, 0, none⟩ = some (.int .i64 m) := by rw [hW2]; exact World.cell?_alloc_at _ _ _ _ (by simp)
    have cy : W2.cell? ⟨W.heap.size, 0, none⟩ = some (.func (.yield l) #[] #[]) := by rw [hW2, World.cell?_alloc_past _ _ _ (by simp)]; exact World.cell?_alloc_at _ _ _ _ rfl
    have cb2 : W2.cell? ⟨b, 0, none⟩ = some (.int .i64 mi) := by rw [bW2.cell (p := ⟨b, 0, none⟩) hbW]; exact cb
    obtain ⟨ob, hob, hobc⟩ := cells_of_cell cb2
    obtain ⟨oy, hoy, hoyc⟩ := cells_of_cell cy
    have HKB := Lib.hid (fun (Wx : World) (hx : Wx.heap[b]? = some ob) => (cell_of_heap (p := ⟨b, 0, none⟩) (hx.trans hob.symm)).trans cb2)
    have HKY := Lib.hid (fun (Wx : World) (hx : Wx.heap[W.heap.size]? = some oy) => (cell_of_heap (p := ⟨W.heap.size, 0, none⟩) (hx.trans hoy.symm)).trans cy)
    have HJJ := Lib.hid hJ
    have HYY := Lib.hid hY
    clear hW2 hz hJ hY cb
    refine wpIn_rangeLists rfl (by omega) (gf := 173) (lb := #[.pointer (some ⟨W.heap.size + 1, 0, none⟩)]) rfl trivial (enters_of Try.func173 (by kernel_rfl) rfl)
      (perm_seq m (by omega) (n - 1) (W.heap.size + 1) W2 (by omega) (by omega) c2) rfl T (fun k hk => by have := hT k hk; omega) (fun k hk q => by have := hT k q; omega) (fun k hk => ⟨by omega, rfl⟩)
      (fun pre Wc => J (pre.flatMap (insL m)) Wc ∧ Wc.heap[W.heap.size]? = some oy ∧ Wc.heap[b]? = some ob) (fun s A B hs hgr => ⟨HJJ.out _ _ _ hs.1 (hgr.mono (by omega)), hgr.same _ _ hs.2.1 (.inr hoyc), hgr.same _ _ hs.2.2 (.inr hobc)⟩)
      ⟨HJJ.out _ _ _ h0 (GrowB.of_below bW2), hoy, hob⟩
      (fun v => { tmps := #[.func (.yield l) #[] #[], .pointer (some ⟨b, 0, none⟩), .pointer (some ⟨W.heap.size, 0, none⟩), v, undef, .int .i64 mi, .bool false, undef, undef, .int .i64 mi, .int .i64 m, .func (.func 173) #[] #[.pointer (some ⟨W.heap.size + 1, 0, none⟩)], v, undef, undef, undef, undef, undef, undef, undef, undef, undef, undef, undef, undef, undef, undef, undef], defers := [] })
      ?assign ?body ?done
    case assign =>
      intro l2 v Wc K hK
      gi_wp2
      exact hK
    case done =>
      rintro D Wc hD ⟨q1, q2, q3⟩ hKD
      simp only [Exit.inBlock]
      refine ⟨by simp, .inl ⟨_, _, rfl, run_takeDeferred hKD, ?_⟩⟩
      exact ⟨_, results_none rfl _ _ _, ⟨_, rfl⟩, HJJ.out _ _ _ q1 (GrowB.putObj _ (by omega) hKD rfl)⟩
    case body =>
      rintro l2 pre σ v Wc ⟨q1, q2, q3⟩ hv ⟨post, hS⟩
      have hσ : σ.length = m := permsL_len m σ (by rw [hS]; simp)
      have kb := HKB.out Wc q3
      clear hob hoy cb2 cy c2 bW2 h0
      gi_wp2_with fail
      gi_loopw [14] (fun i wr => ∃ k : Nat, k ≤ m + 1 ∧ i = .int .i64 k ∧ J (pre.flatMap (insL m) ++ (insL m σ).take k) wr ∧ (wr.heap[W.heap.size]? = some oy ∧ wr.heap[b]? = some ob) ∧ KpT T Wc wr ∧ YI wr W2.heap.size v σ) (fun i _ => m + 1 - (intOf i).toNat)
      case atStart => exact ⟨0, by omega, rfl, by simpa using q1, ⟨q2, q3⟩, KpT.refl _ _, hv⟩
      case round =>
        clear q1 q2 q3 kb hv
        obtain ⟨k, hk1, rfl, hJ, ⟨q2, q3⟩, hK, hv⟩ := hrel
        by_cases hlt : k < m + 1
        · have hltp : (k : Int) < mi := by have := HMI.out; omega
          have hk0 : (0 : Int) ≤ (k : Int) := by omega
          obtain ⟨post2, hpost2⟩ := insL_split (s := σ) hlt
          have HPF := Lib.hid (show permsL (m + 1) = (pre.flatMap (insL m) ++ (insL m σ).take k) ++ (σ.take k ++ (m : Int) :: σ.drop k) :: (post2 ++ post.flatMap (insL m)) from by
            show (permsL m).flatMap (insL m) = _
            rw [hS, List.flatMap_append, List.flatMap_cons]
            conv => lhs; rw [hpost2]
            simp)
          have HTK := Lib.hid (insL_take (s := σ) hlt)
          have HSS := Lib.hid (fun w' (hw : Below wr.heap.size wr w') => show w'.cell? ⟨W.heap.size, 0, none⟩ = some (.func (.yield l) #[] #[]) ∧ w'.cell? ⟨b, 0, none⟩ = some (.int .i64 mi) from
            ⟨HKY.out w' ((hw.block _ (Array.getElem?_eq_some_iff.1 q2).1).trans q2), HKB.out w' ((hw.block _ (Array.getElem?_eq_some_iff.1 q3).1).trans q3)⟩)
          have HQ2 := Lib.hid q2
          have HQ3 := Lib.hid q3
          have HV := Lib.hid hv
          have HK := Lib.hid hK
          have HJ := Lib.hid hJ
          have hWs : W.heap.size < wr.heap.size := (Array.getElem?_eq_some_iff.1 q2).1
          clear q2 q3 hJ hK hv hpost2
          gi_wp2_with fail
          refine wpIn_region_pair2_round [(0, true), (1, true), (3, true), (4, true), (5, true)] 2 6 [(7, false)] (fun w' => w'.cell? ⟨W.heap.size, 0, none⟩ = some (.func (.yield l) #[] #[]) ∧ w'.cell? ⟨b, 0, none⟩ = some (.int .i64 mi)) (by kernel_rfl) (by kernel_rfl) (by kernel_rfl) rfl rfl (fun ⟨_, _, h⟩ => h) (fun _ _ _ _ _ h => h) (HSS.out _ (Below.drew (Below.refl _ _))) (fun Q' => ?_)
          have hwm : IntKind.i64.wrap (m : Int) = (m : Int) := IntWalk.i64_in _ (by omega)
          iterate 5 (refine wpSeqC_take (v := ?_) (List.getElem?_toArray.trans rfl) ?_ ?_; rotate_left; (intro w' hSw; (try dsimp only at hSw); go_simp; (try with_reducible rfl)); (try simp only [Act.put, List.setIfInBounds_toArray, List.set_cons_zero, List.set_cons_succ]))
          have hd0 : Below wr.heap.size wr wr.drew := Below.drew (Below.refl _ _)
          refine ⟨?_, ?_⟩
          · refine wpSeqC_do (List.getElem?_toArray.trans rfl) (fun K hKk => ?_)
            go_simp
            refine (iCloneY _ v σ _ (HV.out.same (fun g hB hg => hd0.block g hg))).mono ?_
            rintro e w6 ⟨u, rfl, hu, hb6⟩
            have hb7 : Below wr.heap.size wr w6 := hd0.trans (hb6.mono (by simp))
            refine hKk _ _ (HSS.out _ hb7) ?_
            clear hKk K
            refine wpSeqC_do (List.getElem?_toArray.trans rfl) (fun K hKk => ?_)
            go_simp
            have hb8 : Below wr.heap.size wr (w6.alloc (Obj.cells #[.int .i64 m] 3)) := Below.alloc hb7 hb7.size _
            refine hKk _ _ (HSS.out _ hb8) ?_
            clear hKk K
            have HU := Lib.hid (show RowQ (w6.alloc (Obj.cells #[.int .i64 m] 3)) wr.heap.size u σ ∧ OneAtQ (w6.alloc (Obj.cells #[.int .i64 m] 3)) w6.heap.size m ∧ u.ownBlock ≠ some w6.heap.size ∧ Below wr.heap.size wr (w6.alloc (Obj.cells #[.int .i64 m] 3)) from
              ⟨row_baseQ (World.ownsRow.kept (row := none) hu (World.grownBy_alloc w6 _ none) (by cases u.ownBlock <;> simp)) (by simp), World.alloc_heap_new w6 _, fun e => by have := (World.ownsRow.lt hu _ e).2; omega, hb8⟩)
            obtain ⟨vb, hvb⟩ : ∃ vb, vb = w6.heap.size := ⟨_, rfl⟩
            obtain ⟨w8, hw8⟩ : ∃ w8, w8 = w6.alloc (Obj.cells #[.int .i64 m] 3) := ⟨_, rfl⟩
            rw [← hw8, ← hvb] at HU
            rw [← hw8, ← hvb]
            clear hb6 hb7 hb8 hu hw8 hvb hd0
            refine wpSeqC_nil ?_
            refine wpSeqC_do (List.getElem?_toArray.trans rfl) (fun K hKk => ?_)
            go_simp
            obtain ⟨hu, hx, hne, hb8⟩ := HU.out
            refine (iInsertQ wr.heap.size k u σ m _ w8 hb8.size (by omega) (by omega) hu hx hne).mono ?_
            rintro e w9 ⟨v9, rfl, hr9, hg9, _⟩
            have hb9 : Below wr.heap.size wr w9 := ⟨hg9.os.trans hb8.os, hg9.tape.trans hb8.tape, hg9.output.trans hb8.output, Nat.le_trans hb8.size hg9.size, fun q hq => (hg9.block q (by have := hb8.size; omega) (fun e => by have := (World.ownsRow.lt hu _ e.symm).1; omega)).trans (hb8.block q hq)⟩
            refine hKk _ _ (HSS.out _ hb9) ?_
            clear hKk K
            refine wpSeqC_nil ?_
            have hy9 : YI w9 wr.heap.size v9 (σ.take k ++ (m : Int) :: σ.drop k) := RowQ.yi hr9 (by simp) (by simp; omega)
            obtain ⟨fn, tmps, assign, body, hy, hR⟩ := HYY.out _ _ v9 w9 (HJJ.out _ _ _ HJ.out (GrowB.of_below hb9)) (hy9.base (by omega)) ⟨_, HPF.out⟩
            refine ⟨fun _ _ => trivial, ?_⟩
            go_simp
            refine ⟨fun _ => by omega, (roundAny hR).mono ?_⟩
            rintro e W9 ⟨rfl, hJ9, hk9⟩
            go_simp
            have HJ9 := Lib.hid hJ9
            have HK9 := Lib.hid (HK.out.trans ((KpT.of_below hb9).trans hk9))
            have HQ9 := Lib.hid (show W9.heap[W.heap.size]? = some oy ∧ W9.heap[b]? = some ob from
              ⟨(hk9.same _ (by have := hb9.size; omega) (fun q => by have := hT _ q; omega)).trans ((hb9.block _ hWs).trans HQ2.out), (hk9.same _ (by have := hb9.size; omega) (hkT b rfl)).trans ((hb9.block _ (by omega)).trans HQ3.out)⟩)
            have HV9 := Lib.hid ((HV.out.same (fun g hB hg => hb9.block g hg)).same (W' := W9) (fun g hB hg => hk9.same g hg (fun q => by have := hT g q; omega)))
            clear hR hy hJ9 hk9 hy9 hr9 hg9 hb9 hu hx hne hb8 HU
            gi_wp2_with fail
            go_roundw
            case rel => exact ⟨k + 1, by omega, by go_num, by rw [HTK.out, ← List.append_assoc]; exact HJ9.out, HQ9.out, HK9.out, HV9.out⟩
            case measure => simp [intOf]; omega
          · refine wpSeqC_do (List.getElem?_toArray.trans rfl) (fun K hKk => ?_)
            go_simp
            have hb7 : Below wr.heap.size wr (wr.alloc (Obj.cells #[.int .i64 m] 3)).drew := Below.drew (Below.alloc (Below.refl _ _) (Nat.le_refl _) _)
            refine hKk _ _ (HSS.out _ hb7) ?_
            clear hKk K
            refine wpSeqC_do (List.getElem?_toArray.trans rfl) (fun K hKk => ?_)
            go_simp
            refine (iCloneY _ v σ _ (HV.out.same (fun g hB hg => hb7.block g hg))).mono ?_
            rintro e w8 ⟨u, rfl, hu, hb6⟩
            have hb8 : Below wr.heap.size wr w8 := hb7.trans (hb6.mono (by simp))
            refine hKk _ _ (HSS.out _ hb8) ?_
            clear hKk K
            have HU := Lib.hid (show RowQ w8 wr.heap.size u σ ∧ OneAtQ w8 wr.heap.size m ∧ u.ownBlock ≠ some wr.heap.size ∧ Below wr.heap.size wr w8 from
              ⟨row_baseQ hu (by simp), (hb6.block _ (by simp)).trans (World.alloc_heap_new wr _), fun e => by have h1 : wr.heap.size + 1 ≤ wr.heap.size := (by simpa using (World.ownsRow.lt hu _ e).1); omega, hb8⟩)
            clear hb6 hb7 hb8 hu hd0
            refine wpSeqC_nil ?_
            refine wpSeqC_do (List.getElem?_toArray.trans rfl) (fun K hKk => ?_)
            go_simp
            obtain ⟨hu, hx, hne, hb8⟩ := HU.out
            refine (iInsertQ wr.heap.size k u σ m _ w8 hb8.size (by omega) (by omega) hu hx hne).mono ?_
            rintro e w9 ⟨v9, rfl, hr9, hg9, _⟩
            have hb9 : Below wr.heap.size wr w9 := ⟨hg9.os.trans hb8.os, hg9.tape.trans hb8.tape, hg9.output.trans hb8.output, Nat.le_trans hb8.size hg9.size, fun q hq => (hg9.block q (by have := hb8.size; omega) (fun e => by have := (World.ownsRow.lt hu _ e.symm).1; omega)).trans (hb8.block q hq)⟩
            refine hKk _ _ (HSS.out _ hb9) ?_
            clear hKk K
            refine wpSeqC_nil ?_
            have hy9 : YI w9 wr.heap.size v9 (σ.take k ++ (m : Int) :: σ.drop k) := RowQ.yi hr9 (by simp) (by simp; omega)
            obtain ⟨fn, tmps, assign, body, hy, hR⟩ := HYY.out _ _ v9 w9 (HJJ.out _ _ _ HJ.out (GrowB.of_below hb9)) (hy9.base (by omega)) ⟨_, HPF.out⟩
            refine ⟨fun _ _ => trivial, ?_⟩
            go_simp
            refine ⟨fun _ => by omega, (roundAny hR).mono ?_⟩
            rintro e W9 ⟨rfl, hJ9, hk9⟩
            go_simp
            have HJ9 := Lib.hid hJ9
            have HK9 := Lib.hid (HK.out.trans ((KpT.of_below hb9).trans hk9))
            have HQ9 := Lib.hid (show W9.heap[W.heap.size]? = some oy ∧ W9.heap[b]? = some ob from
              ⟨(hk9.same _ (by have := hb9.size; omega) (fun q => by have := hT _ q; omega)).trans ((hb9.block _ hWs).trans HQ2.out), (hk9.same _ (by have := hb9.size; omega) (hkT b rfl)).trans ((hb9.block _ (by omega)).trans HQ3.out)⟩)
            have HV9 := Lib.hid ((HV.out.same (fun g hB hg => hb9.block g hg)).same (W' := W9) (fun g hB hg => hk9.same g hg (fun q => by have := hT g q; omega)))
            clear hR hy hJ9 hk9 hy9 hr9 hg9 hb9 hu hx hne hb8 HU
            gi_wp2_with fail
            go_roundw
            case rel => exact ⟨k + 1, by omega, by go_num, by rw [HTK.out, ← List.append_assoc]; exact HJ9.out, HQ9.out, HK9.out, HV9.out⟩
            case measure => simp [intOf]; omega
        · have hkm : k = m + 1 := by omega
          subst hkm
          have hnl : ¬ ((m + 1 : Nat) : Int) < mi := by have := HMI.out; omega
          rw [List.take_of_length_le (by rw [insL_len]; exact Nat.le_refl _)] at hJ
          gi_wp2_with fail
          refine ⟨⟨?_, q2, q3⟩, hK⟩
          rw [List.flatMap_append]
          simpa using hJ
end Go.Proofs.Ytlcmddghppdmgaa
