/-
  FormulaValid and LeavesOf, of the model and of the program, and the walks of their exact laws. Conditions: none.
-/
import Derived.Test.YtiahcaihmgnicaaFrT
import Derived.Test.YtiahcaihmgnicaaLaws
namespace Go.Proofs.Ytiahcaihmgnicaa
open Go.RowKit
set_option maxRecDepth 100000 in
set_option maxHeartbeats 4000000 in
theorem iFormulaValid (p : Int) (s : ByteArray) (w : World) :
    Calls Try.prog 44 #[.int .i64 p, .string s] w fun e w' => e = .returned (.bool (fokB p s)) ∧ Below w.heap.size w w' := by
  have HF := Lib.hid (iFormulaOf p s)
  rw [fokB_some]
  cases h : foF p s with
  | none =>
    rw [h] at HF
    clear h
    go_enter Try.func44, Try.ntmps44
    go_wp2_with fail
    refine (HF.out _).mono ?_
    rintro e w' ⟨rfl, hb⟩
    have HB := Lib.hid hb
    clear hb
    simp only [optV]
    go_wp2_with fail
    go_ret
    exact ⟨rfl, HB.out⟩
  | some f =>
    rw [h] at HF
    obtain ⟨ft, fv, hfe⟩ := fmV_is f
    have e : optV (some f) = .iface ft fv := hfe
    rw [e] at HF
    clear h e hfe
    go_enter Try.func44, Try.ntmps44
    go_wp2_with fail
    refine (HF.out _).mono ?_
    rintro e w' ⟨rfl, hb⟩
    have HB := Lib.hid hb
    clear hb
    go_wp2_with fail
    go_ret
    exact ⟨rfl, HB.out⟩
set_option maxRecDepth 100000 in
set_option maxHeartbeats 4000000 in
theorem xFormulaValid (p : Int) (s : ByteArray) (w : World) :
    Calls Try.prog 9 #[.int .i64 p, .string s] w fun e w' => e = .returned (.bool true) ∧ Below w.heap.size w w' := by
  have HS := Lib.hid (sFormulaValid p s)
  have HI := Lib.hid (iFormulaValid p s)
  obtain ⟨b, hb⟩ : ∃ b, b = fokB p s := ⟨_, rfl⟩
  rw [← hb] at HS HI
  have bb := bne_self2 b
  clear hb
  rcases Classical.em ((1048576 : Int) < (s.size : Int)) with hl | hl
  · go_enter Try.func9, Try.ntmps9
    go_wp2_with fail
    go_ret
    exact ⟨rfl, Below.refl _ _⟩
  · go_enter Try.func9, Try.ntmps9
    go_wp2_with fail
    refine (HS.out _).mono ?_
    rintro e w1 ⟨rfl, hb1⟩
    have HB := Lib.hid hb1
    clear hb1
    go_wp2_with fail
    refine (HI.out _).mono ?_
    rintro e w2 ⟨rfl, hb2⟩
    have HB2 := Lib.hid (HB.out.trans (hb2.mono HB.out.size))
    clear hb2
    go_wp2_with fail
    go_ret
    exact ⟨rfl, HB2.out⟩
@[go_sem] theorem asLeaf_yes (W : World) (v : Value) : (Instr.typeAssert (.iface 156 v) 113 156 true).run Try.prog W = .ok (.tuple #[v, .bool true]) W := by kernel_rfl
@[go_sem] theorem asPair_yes (W : World) (v : Value) : (Instr.typeAssert (.iface 159 v) 113 159 true).run Try.prog W = .ok (.tuple #[v, .bool true]) W := by kernel_rfl
@[go_sem] theorem asLeaf_no (W : World) (v : Value) : (Instr.typeAssert (.iface 159 v) 113 156 true).run Try.prog W = .ok (.tuple #[.agg #[.int .i64 0, .int .i64 0, .int .i64 0], .bool false]) W := by kernel_rfl
@[go_sem] theorem asLeaf_nil (W : World) : (Instr.typeAssert .nilIface 113 156 true).run Try.prog W = .ok (.tuple #[.agg #[.int .i64 0, .int .i64 0, .int .i64 0], .bool false]) W := by kernel_rfl
@[go_sem] theorem asPair_nil (W : World) : (Instr.typeAssert .nilIface 113 159 true).run Try.prog W = .ok (.tuple #[.agg #[.int .i64 0, .nilIface, .nilIface], .bool false]) W := by kernel_rfl
set_option maxRecDepth 100000 in
set_option maxHeartbeats 4000000 in
theorem iLeavesNil (w : World) : Calls Try.prog 108 #[.nilIface] w fun e w' => e = .returned (.int .i64 (-1)) ∧ Below w.heap.size w w' := by
  go_enter Try.func108, Try.ntmps108
  go_wp2_with fail
  go_ret
  exact ⟨rfl, Below.refl _ _⟩
set_option maxRecDepth 100000 in
set_option maxHeartbeats 4000000 in
theorem iLeaves : ∀ (f : Fm) (w : World), leavesF f ≤ 1000 → Calls Try.prog 108 #[fmV f] w fun e w' => e = .returned (.int .i64 (leavesF f : Int)) ∧ Below w.heap.size w w'
  | .leaf k a, w, _ => by
    show Calls Try.prog 108 #[.iface 156 (.agg #[.int .i64 k, .int .i64 a, .int .i64 0])] w fun e w' => e = .returned (.int .i64 1) ∧ Below w.heap.size w w'
    go_enter Try.func108, Try.ntmps108
    go_wp2_with fail
    go_ret
    exact ⟨rfl, Below.alloc (Below.refl _ _) (Nat.le_refl _) _⟩
  | .pair k f g, w, hl => by
    have hl' : leavesF f + leavesF g ≤ 1000 := hl
    have HF := Lib.hid (fun w => iLeaves f w (by omega))
    have HG := Lib.hid (fun w => iLeaves g w (by omega))
    show Calls Try.prog 108 #[.iface 159 (.agg #[.int .i64 k, fmV f, fmV g])] w fun e w' => e = .returned (.int .i64 ((leavesF f + leavesF g : Nat) : Int)) ∧ Below w.heap.size w w'
    obtain ⟨a, ha⟩ : ∃ a, a = leavesF f := ⟨_, rfl⟩
    obtain ⟨b, hb⟩ : ∃ b, b = leavesF g := ⟨_, rfl⟩
    obtain ⟨ft, fv, hfe⟩ := fmV_is f
    obtain ⟨gt, gv, hge⟩ := fmV_is g
    rw [← ha, hfe] at HF
    rw [← hb, hge] at HG
    rw [← ha, ← hb, hfe, hge]
    rw [← ha, ← hb] at hl'
    have hw : IntKind.i64.wrap ((a : Int) + (b : Int)) = (a : Int) + (b : Int) := IntWalk.i64_in _ (by omega)
    clear ha hb hfe hge hl
    go_enter Try.func108, Try.ntmps108
    go_wp2_with fail
    obtain ⟨W, hW⟩ : ∃ W, W = w.alloc (Obj.cells #[.int .i64 k, .iface ft fv, .iface gt gv] 159) := ⟨_, rfl⟩
    have HC := Lib.hid (fun w' (hb : Below W.heap.size W w') => show w'.cell? ⟨w.heap.size, 1, none⟩ = some (.iface ft fv) ∧ w'.cell? ⟨w.heap.size, 2, none⟩ = some (.iface gt gv) by
      have hs : w.heap.size < W.heap.size := by rw [hW]; simp
      exact ⟨by rw [hb.cell (p := ⟨w.heap.size, 1, none⟩) hs, hW]; simp [go_sem], by rw [hb.cell (p := ⟨w.heap.size, 2, none⟩) hs, hW]; simp [go_sem]⟩)
    have HB := Lib.hid (show Below w.heap.size w W by rw [hW]; exact Below.alloc (Below.refl _ _) (Nat.le_refl _) _)
    rw [← hW]
    clear hW
    refine wp_region_below (by kernel_rfl) (by kernel_rfl) ?_
    (with_reducible refine wpQuiet_yes ?_ ?_; (focus (kernel_rfl)); intro K hK; go_simp; refine ⟨_, fun _ _ => rfl, ?_⟩; with_reducible refine hK _ ?_; clear hK K)
    (with_reducible refine wpQuiet_yes ?_ ?_; (focus (kernel_rfl)); intro K hK; go_simp; refine ⟨(.iface ft fv), ?_, ?_⟩; rotate_left; with_reducible refine hK _ ?_; clear hK K; rotate_left)
    · intro w' hw
      obtain ⟨c1, c2⟩ := HC.out w' hw
      simp only [c1, go_sem, Result.andThen, and_self]
    (with_reducible refine wpQuiet_yes ?_ ?_; (focus (kernel_rfl)); intro K hK; go_simp; refine ⟨(.int .i64 a), ?_, ?_⟩; rotate_left; with_reducible refine hK _ ?_; clear hK K; rotate_left)
    · intro w' hw
      exact (HF.out w').mono fun e w'' ⟨he, h⟩ => ⟨he, hw.trans (h.mono hw.size)⟩
    (with_reducible refine wpQuiet_yes ?_ ?_; (focus (kernel_rfl)); intro K hK; go_simp; refine ⟨_, fun _ _ => rfl, ?_⟩; with_reducible refine hK _ ?_; clear hK K)
    (with_reducible refine wpQuiet_yes ?_ ?_; (focus (kernel_rfl)); intro K hK; go_simp; refine ⟨(.iface gt gv), ?_, ?_⟩; rotate_left; with_reducible refine hK _ ?_; clear hK K; rotate_left)
    · intro w' hw
      obtain ⟨c1, c2⟩ := HC.out w' hw
      simp only [c2, go_sem, Result.andThen, and_self]
    (with_reducible refine wpQuiet_yes ?_ ?_; (focus (kernel_rfl)); intro K hK; go_simp; refine ⟨(.int .i64 b), ?_, ?_⟩; rotate_left; with_reducible refine hK _ ?_; clear hK K; rotate_left)
    · intro w' hw
      exact (HG.out w').mono fun e w'' ⟨he, h⟩ => ⟨he, hw.trans (h.mono hw.size)⟩
    (with_reducible refine wpQuiet_yes ?_ ?_; (focus (kernel_rfl)); intro K hK; go_simp; refine ⟨_, fun _ _ => rfl, ?_⟩; with_reducible refine hK _ ?_; clear hK K)
    (with_reducible refine wpQuiet_yes ?_ ?_; (focus (kernel_rfl)); intro K hK; go_simp; refine ⟨_, fun _ _ => rfl, ?_⟩; with_reducible refine hK _ ?_; clear hK K)
    refine wpQuiet_nil fun w2 hb2 => ?_
    have HB2 := Lib.hid (HB.out.trans (hb2.mono HB.out.size))
    clear hb2
    simp only [Exit.then]
    go_wp2_with fail
    go_ret
    exact ⟨by first | rfl | simp, HB2.out⟩
/-- what LeavesOf returns -/
def lvsV (p : Int) (s : ByteArray) : Int := match foF p s with
  | none => -1
  | some f => (leavesF f : Int)
theorem foF_some {p : Int} {s : ByteArray} {f : Fm} (h : foF p s = some f) : isP p = true ∧ s.size ≤ 60 ∧ formF p s.data.toList = some f := by
  unfold foF at h
  split at h
  · rename_i hc; exact ⟨hc.1, hc.2, h⟩
  · cases h
theorem foF_leaves {p : Int} {s : ByteArray} {f : Fm} (h : foF p s = some f) : leavesF f ≤ 60 := by
  obtain ⟨_, hs, hf⟩ := foF_some h
  rw [← formF_leaves hf]
  exact Nat.le_trans (List.length_filter_le _ _) (by rw [Array.length_toList]; exact hs)
set_option maxRecDepth 100000 in
set_option maxHeartbeats 4000000 in
theorem iLeavesOf (p : Int) (s : ByteArray) (w : World) :
    Calls Try.prog 51 #[.int .i64 p, .string s] w fun e w' => e = .returned (.int .i64 (lvsV p s)) ∧ Below w.heap.size w w' := by
  have HF := Lib.hid (iFormulaOf p s)
  have HL := Lib.hid (fun w => show Calls Try.prog 108 #[optV (foF p s)] w fun e w' => e = .returned (.int .i64 (lvsV p s)) ∧ Below w.heap.size w w' by
    unfold lvsV
    cases h : foF p s with
    | none => exact iLeavesNil w
    | some f => exact iLeaves f w (by have := foF_leaves h; omega))
  obtain ⟨u, hu⟩ : ∃ u, u = optV (foF p s) := ⟨_, rfl⟩
  obtain ⟨r, hr⟩ : ∃ r, r = lvsV p s := ⟨_, rfl⟩
  rw [← hu] at HF HL
  rw [← hr] at HL ⊢
  clear hu hr
  go_enter Try.func51, Try.ntmps51
  go_wp2_with fail
  refine (HF.out _).mono ?_
  rintro e w1 ⟨rfl, hb1⟩
  have HB := Lib.hid hb1
  clear hb1
  go_wp2_with fail
  refine (HL.out _).mono ?_
  rintro e w2 ⟨rfl, hb2⟩
  have HB2 := Lib.hid (HB.out.trans (hb2.mono HB.out.size))
  clear hb2
  go_wp2_with fail
  go_ret
  exact ⟨rfl, HB2.out⟩
set_option maxRecDepth 100000 in
set_option maxHeartbeats 4000000 in
theorem sLeavesOf (p : Int) (s : ByteArray) (w : World) :
    Calls Try.prog 50 #[.int .i64 p, .string s] w fun e w' => e = .returned (.int .i64 (lvsV p s)) ∧ Below w.heap.size w w' := by
  have HF := Lib.hid (sFormulaValid p s)
  cases h : foF p s with
  | none =>
    have e : lvsV p s = -1 := by unfold lvsV; rw [h]
    have e2 : fokB p s = false := by rw [fokB_some, h]; rfl
    rw [e]
    rw [e2] at HF
    clear h e e2
    go_enter Try.func50, Try.ntmps50
    go_wp2_with fail
    refine (HF.out _).mono ?_
    rintro e w1 ⟨rfl, hb1⟩
    have HB := Lib.hid hb1
    clear hb1
    go_wp2_with fail
    go_ret
    exact ⟨rfl, HB.out⟩
  | some f =>
    have e : lvsV p s = (leavesF f : Int) := by unfold lvsV; rw [h]
    have e2 : fokB p s = true := by rw [fokB_some, h]; rfl
    obtain ⟨_, hs, hf⟩ := foF_some h
    have HA := Lib.hid (formF_ascii hf)
    have HL := Lib.hid (formF_leaves hf)
    rw [e]
    rw [e2] at HF
    clear h e e2 hf
    go_enter Try.func50, Try.ntmps50
    go_wp2_with fail
    refine (HF.out _).mono ?_
    rintro e w1 ⟨rfl, hb1⟩
    have HI := Lib.hid (World.iter_heap w1 s 0)
    have HB := Lib.hid (show Below w.heap.size w (w1.iter s 0) from Below.alloc hb1 hb1.size _)
    have hn1 := hb1.size
    clear hb1
    go_wp2_with fail
    obtain ⟨n, hn⟩ : ∃ n, n = w1.heap.size := ⟨_, rfl⟩
    rw [← hn] at HI hn1 ⊢
    generalize w1.iter s 0 = W at HI HB ⊢
    clear hn
    go_loopw [5] (fun v wr => ∃ pos : Nat, v = .int .i64 (((s.data.toList.take pos).filter fun c => !signB c).length : Nat) ∧ wr.heap[n]? = some (.stringIter s pos) ∧ Below w.heap.size w wr ∧ pos ≤ s.size) (fun _ wr => s.size - wr.iterPos n)
    case atStart => exact ⟨0, rfl, HI.out, HB.out, by omega⟩
    case round =>
      clear HI HB
      obtain ⟨pos, rfl, hit, hb, hps⟩ := hrel
      have HP0 := Lib.hid (iterPos_of hit)
      obtain ⟨m, hm⟩ : ∃ m, m = ((s.data.toList.take pos).filter fun c => !signB c).length := ⟨_, rfl⟩
      rw [← hm]
      have hm60 : m ≤ 60 := by
        rw [hm]
        exact Nat.le_trans (List.length_filter_le _ _) (Nat.le_trans (List.length_take_le _ _) (by omega))
      have hw : IntKind.i64.wrap ((m : Int) + 1) = (m : Int) + 1 := IntWalk.i64_in _ (by omega)
      by_cases hlt : pos < s.size
      · have ha := ascii_at HA.out hlt
        have hnx : ∀ ty, (Instr.next (.pointer (some ⟨n, 0, none⟩)) true ty).run Try.prog wr = _ := fun ty => Lib.run_next_ascii_at wr n s pos ty hit hlt ha
        have hit2 := Lib.iterAt_heap wr n s pos (pos + 1) hit
        have hb2 := Lib.below_iterAt hb (k := n) hn1 s (pos + 1)
        obtain ⟨W1, hW1⟩ : ∃ W1, W1 = wr.iterAt n s (pos + 1) := ⟨_, rfl⟩
        rw [← hW1] at hnx hit2 hb2
        obtain ⟨c, hc⟩ : ∃ c, c = s[pos]'hlt := ⟨_, rfl⟩
        rw [← hc] at hnx
        have HQ := Lib.hid (And.intro hit2 hb2)
        have HS := Lib.hid (show ((s.data.toList.take (pos + 1)).filter fun c => !signB c).length = m + (if signB c = true then 0 else 1) by
          rw [List.take_succ_eq_append_getElem (show pos < s.data.toList.length by rw [Array.length_toList]; exact hlt), List.filter_append, List.length_append, ← hm]
          have e : s.data.toList[pos]'(by rw [Array.length_toList]; exact hlt) = c := hc.symm
          rw [e]
          cases hsg : signB c <;> simp [hsg])
        have hc43 : c = 43 ↔ ((c.toNat : Nat) : Int) = 43 := ⟨fun h => by rw [h]; rfl, fun h => UInt8.toNat_inj.1 (by simpa using (show c.toNat = 43 by omega))⟩
        have hc42 : c = 42 ↔ ((c.toNat : Nat) : Int) = 42 := ⟨fun h => by rw [h]; rfl, fun h => UInt8.toNat_inj.1 (by simpa using (show c.toNat = 42 by omega))⟩
        clear hW1 hit hit2 hb hb2 ha hc hm
        by_cases h43 : ((c.toNat : Nat) : Int) = 43
        · have hS : signB c = true := by rw [hc43.2 h43]; rfl
          rw [if_pos hS] at HS
          clear hS hc43 hc42
          go_wp2_with fail
          go_roundw
          case rel => exact ⟨pos + 1, by rw [HS.out]; rfl, HQ.out.1, HQ.out.2, by omega⟩
          case measure => rw [iterPos_of HQ.out.1, HP0.out]; omega
        · by_cases h42 : ((c.toNat : Nat) : Int) = 42
          · have hS : signB c = true := by rw [hc42.2 h42]; rfl
            rw [if_pos hS] at HS
            clear hS hc43 hc42
            go_wp2_with fail
            go_roundw
            case rel => exact ⟨pos + 1, by rw [HS.out]; rfl, HQ.out.1, HQ.out.2, by omega⟩
            case measure => rw [iterPos_of HQ.out.1, HP0.out]; omega
          · have hS : ¬ signB c = true := by
              intro h
              rcases (by simpa [signB] using h : c = 43 ∨ c = 42) with h | h
              · exact h43 (hc43.1 h)
              · exact h42 (hc42.1 h)
            rw [if_neg hS] at HS
            have b43 : (((c.toNat : Nat) : Int) != 43) = true := bne_iff_ne.2 h43
            have b42 : (((c.toNat : Nat) : Int) != 42) = true := bne_iff_ne.2 h42
            clear hS hc43 hc42
            go_wp2_with fail
            go_roundw
            case rel => exact ⟨pos + 1, by rw [HS.out]; rfl, HQ.out.1, HQ.out.2, by omega⟩
            case measure => rw [iterPos_of HQ.out.1, HP0.out]; omega
      · have hnx : ∀ ty, (Instr.next (.pointer (some ⟨n, 0, none⟩)) true ty).run Try.prog wr = _ := fun ty => Lib.run_next_end_at wr n s pos ty hit hlt
        have E := Lib.hid (show (m : Int) = (leavesF f : Int) by
          rw [hm, List.take_of_length_le (by rw [Array.length_toList]; exact Nat.le_of_not_lt hlt), HL.out])
        have HBB := Lib.hid hb
        clear hit hb hm
        go_wp2_with fail
        go_ret
        exact ⟨by rw [← E.out]; rfl, HBB.out⟩
set_option maxRecDepth 100000 in
set_option maxHeartbeats 4000000 in
theorem xLeavesOf (p : Int) (s : ByteArray) (w : World) :
    Calls Try.prog 12 #[.int .i64 p, .string s] w fun e w' => e = .returned (.bool true) ∧ Below w.heap.size w w' := by
  have HS := Lib.hid (sLeavesOf p s)
  have HI := Lib.hid (iLeavesOf p s)
  obtain ⟨b, hb⟩ : ∃ b, b = lvsV p s := ⟨_, rfl⟩
  rw [← hb] at HS HI
  clear hb
  rcases Classical.em ((1048576 : Int) < (s.size : Int)) with hl | hl
  · go_enter Try.func12, Try.ntmps12
    go_wp2_with fail
    go_ret
    exact ⟨rfl, Below.refl _ _⟩
  · go_enter Try.func12, Try.ntmps12
    go_wp2_with fail
    refine (HS.out _).mono ?_
    rintro e w1 ⟨rfl, hb1⟩
    have HB := Lib.hid hb1
    clear hb1
    go_wp2_with fail
    refine (HI.out _).mono ?_
    rintro e w2 ⟨rfl, hb2⟩
    have HB2 := Lib.hid (HB.out.trans (hb2.mono HB.out.size))
    clear hb2
    go_wp2_with fail
    go_ret
    exact ⟨rfl, HB2.out⟩
end Go.Proofs.Ytiahcaihmgnicaa
