/-
  A gradient is marked, and its marks are read again. Conditions: that it owns its gates.
-/
import Derived.Test.YtfpjflghgmcgbaaBa17
import Derived.Test.YtfpjflghgmcgbaaBa9
namespace Go.Proofs.Ytfpjflghgmcgbaa
open Go.RowKit
theorem GrAt.same {w w' : World} {n : Nat} {v : Value} {x y z : Int} (h : GrAt w n v x y z) (e : w'.heap[n]? = w.heap[n]?) : GrAt w' n v x y z := by
  obtain ⟨a, b, c, d⟩ := h
  exact ⟨(cell_of_heap (p := ⟨n, 0, none⟩) e).trans a, (cell_of_heap (p := ⟨n, 1, none⟩) e).trans b, (cell_of_heap (p := ⟨n, 2, none⟩) e).trans c, (cell_of_heap (p := ⟨n, 3, none⟩) e).trans d⟩
/-- gates that lie below a block, if there are any -/
def InB (v : Value) (L : List Gt) (C : Nat) : Prop := L = [] ∨ ∃ g off n cap, v = .slice (some ⟨g, off, none⟩) n cap ∧ g < C
theorem OwnGats.inB {w : World} {B : Nat} {v : Value} {L : List Gt} (h : OwnGats w B v L) : InB v L w.heap.size := by
  obtain ⟨_, a, cap, rfl, h2⟩ := h
  rcases h2 with h2 | ⟨g, off, rfl, _, hg, _⟩
  · exact .inl h2
  · exact .inr ⟨g, off, _, _, rfl, hg⟩
/-- a gradient in a box -/
def GBx (w : World) (n : Nat) (v : Value) (x y z : Int) : Prop := GrAt w n v x y z ∧ n < w.heap.size
theorem GBx.on {w w' : World} {n : Nat} {v : Value} {x y z : Int} (h : GBx w n v x y z) (hb : Below w.heap.size w w') : GBx w' n v x y z := ⟨h.1.below hb h.2, Nat.lt_of_lt_of_le h.2 hb.size⟩
theorem GBx.same {w w' : World} {n : Nat} {v : Value} {x y z : Int} (h : GBx w n v x y z) (e : w'.heap[n]? = w.heap[n]?) (hs : w.heap.size ≤ w'.heap.size) : GBx w' n v x y z := ⟨h.1.same e, Nat.lt_of_lt_of_le h.2 hs⟩
theorem GBx.new (w : World) (v : Value) (x y z : Int) (ty : TypeId) : GBx (w.alloc (Obj.cells #[v, .int .i64 x, .int .i64 y, .int .i64 z] ty)) w.heap.size v x y z := by
  refine ⟨⟨?_, ?_, ?_, ?_⟩, by simp⟩ <;> simp [go_sem]
theorem markGkeep (v : Value) (L : List Gt) (B C : Nat) (k : Int) (w : World) (h4 : OwnGats w B v L) (hC : InB v L C) (hk0 : 0 ≤ k) (hk1 : k ≤ 1000000000000) :
    Calls Try.prog 44 #[v, .int .i64 k] w fun e w' => e = .returned (.int .i64 (k + 3 * (L.length : Int))) ∧ HeldG w' B v L.length k ∧ Betw B C w w' := by
  obtain ⟨h1, a, cap, rfl, h2⟩ := h4
  have hn : L = [] → Calls Try.prog 44 #[.slice a L.length cap, .int .i64 k] w fun e w' => e = .returned (.int .i64 (k + 3 * (L.length : Int))) ∧ HeldG w' B (.slice a L.length cap) L.length k ∧ Betw B C w w' := by
    rintro rfl
    refine (markGnil a cap k w).mono ?_
    rintro e w' ⟨rfl, rfl⟩
    exact ⟨by simp, ⟨by simp, a, cap, rfl, .inl rfl⟩, rfl, rfl, rfl, rfl, fun _ _ => rfl⟩
  rcases h2 with h2 | ⟨g, off, rfl, hB, hg, hc, hf⟩
  · exact hn h2
  · rcases hC with hC | ⟨g', off', n', cap', e, hgC⟩
    · exact hn hC
    · injection e with e _ _
      injection e with e
      injection e with e _ _
      subst e
      refine (markG g off L.length cap k w h1 hk0 hk1 (fun i hi => ?_) hf).mono ?_
      · obtain ⟨t0, t1, t2⟩ := hc (i / 3) (by omega)
        have : i = i / 3 * 3 ∨ i = i / 3 * 3 + 1 ∨ i = i / 3 * 3 + 2 := by omega
        rcases this with e | e | e
        · rw [e]; exact ⟨_, t0⟩
        · rw [e, ← Nat.add_assoc]; exact ⟨_, t1⟩
        · rw [e, ← Nat.add_assoc]; exact ⟨_, t2⟩
      · rintro e w' ⟨rfl, hM⟩
        exact ⟨rfl, ⟨h1, _, cap, rfl, .inr ⟨g, off, rfl, hB, by rw [hM.size]; exact hg, hM.done⟩⟩, hM.os, hM.tape, hM.output, hM.size, fun b hb => hM.far b (by omega)⟩
set_option maxRecDepth 100000 in
set_option maxHeartbeats 4000000 in
theorem markGrad (v : Value) (L : List Gt) (x y z : Int) (B C : Nat) (k : Int) (w : World) (h4 : OwnGats w B v L) (hC : InB v L C) (hB : B ≤ w.heap.size) (hk0 : 0 ≤ k) (hk1 : k ≤ 1000000000000) :
    Calls Try.prog 45 #[.agg #[v, .int .i64 x, .int .i64 y, .int .i64 z], .int .i64 k] w fun e w' => e = .returned (.int .i64 (k + 3 * (L.length : Int))) ∧ HeldG w' B v L.length k ∧ Below B w w' ∧
      ∀ b, C ≤ b → b < w.heap.size → w'.heap[b]? = w.heap[b]? := by
  obtain ⟨n, hn⟩ : ∃ n, n = w.heap.size := ⟨_, rfl⟩
  obtain ⟨_, a, cap, rfl, _⟩ := id h4
  obtain ⟨W, hW⟩ : ∃ W, W = w.alloc (Obj.cells #[.slice a L.length cap, .int .i64 x, .int .i64 y, .int .i64 z] 29) := ⟨_, rfl⟩
  have hA : GrAt W n (.slice a L.length cap) x y z := by rw [hW, hn]; refine ⟨?_, ?_, ?_, ?_⟩ <;> simp [go_sem]
  have bW : Below n w W := by rw [hW, hn]; exact (by repeat (first | exact Below.refl _ _ | apply Below.drew | apply below_drewN | (refine Below.alloc ?_ (by first | omega | (simp <;> omega)) _)))
  have HM := Lib.hid (markGkeep _ L B C k W (h4.below (hn ▸ bW)) hC hk0 hk1)
  have HB := Lib.hid bW
  have HW := Lib.hid hW
  have HN := Lib.hid hn
  obtain ⟨a0, a1, a2, a3⟩ := hA
  clear hW bW hn h4
  go_enter Try.func45, Try.ntmps45
  go_wp2_with fail
  rw [← HW.out, ← HN.out]
  clear HW
  refine HM.out.mono ?_
  rintro e w' ⟨rfl, hh, hbt⟩
  have HH := Lib.hid (And.intro hh hbt)
  clear hh hbt a0 a1 a2 a3
  go_wp2_with fail
  go_ret
  have hn := HN.out
  refine ⟨rfl, HH.out.1, (HB.out.mono (by omega)).trans HH.out.2.low, fun b h1 h2 => ?_⟩
  exact (HH.out.2.block b (.inr h1)).trans (HB.out.block b (by omega))
set_option maxRecDepth 100000 in
set_option maxHeartbeats 4000000 in
theorem heldGrad (v : Value) (m : Nat) (x y z : Int) (B : Nat) (k : Int) (w : World) (h : HeldG w B v m k) (hk0 : 0 ≤ k) (hk1 : k ≤ 1000000000000) :
    Calls Try.prog 46 #[.agg #[v, .int .i64 x, .int .i64 y, .int .i64 z], .int .i64 k] w fun e w' => e = .returned (.int .i64 (k + 3 * (m : Int))) ∧ Below w.heap.size w w' := by
  obtain ⟨n, hn⟩ : ∃ n, n = w.heap.size := ⟨_, rfl⟩
  have hm0 : ¬ k + 3 * (m : Int) < 0 := by omega
  obtain ⟨_, a, cap, rfl, _⟩ := id h
  obtain ⟨W, hW⟩ : ∃ W, W = w.alloc (Obj.cells #[.slice a m cap, .int .i64 x, .int .i64 y, .int .i64 z] 29) := ⟨_, rfl⟩
  have hA : GrAt W n (.slice a m cap) x y z := by rw [hW, hn]; refine ⟨?_, ?_, ?_, ?_⟩ <;> simp [go_sem]
  have bW : Below n w W := by rw [hW, hn]; exact (by repeat (first | exact Below.refl _ _ | apply Below.drew | apply below_drewN | (refine Below.alloc ?_ (by first | omega | (simp <;> omega)) _)))
  have HM := Lib.hid (heldGown _ m B k W (h.below (hn ▸ bW)) hk0 hk1)
  have HB := Lib.hid bW
  have HW := Lib.hid hW
  rw [← hn]
  obtain ⟨a0, a1, a2, a3⟩ := hA
  clear hW bW h
  go_enter Try.func46, Try.ntmps46
  go_wp2_with fail
  rw [← HW.out, ← hn]
  clear HW hn
  refine HM.out.mono ?_
  rintro e w' ⟨rfl, rfl⟩
  go_wp2_with fail
  go_ret
  exact ⟨rfl, HB.out⟩
end Go.Proofs.Ytfpjflghgmcgbaa
