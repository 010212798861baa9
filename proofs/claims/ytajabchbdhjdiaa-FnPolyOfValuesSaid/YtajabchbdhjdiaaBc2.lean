/-
  Arrays of 27 numbers: in a block, loaded, compared. Conditions: none.
-/
import Derived.Test.YtajabchbdhjdiaaBa21
import Derived.Test.YtajabchbdhjdiaaBa9
import Derived.Test.YtajabchbdhjdiaaBa10
import Derived.Deep.MidRow
import Derived.Laws.IdiomCopy
import Derived.Lib.SlBuf
namespace Go.Proofs.Ytajabchbdhjdiaa
set_option linter.unusedVariables false
open Go.RowKit
/-- the values of an array -/
def arL (A : Nat → Int) : List Value := (List.range 27).map fun j => .int .i64 (A j)
theorem arL_at (A : Nat → Int) {j : Nat} (h : j < 27) : (arL A)[j]? = some (.int .i64 (A j)) := by simp [arL, h]
theorem arL_len (A : Nat → Int) : (arL A).length = 27 := by simp [arL]
/-- an array in a block -/
structure ArW (b : Nat) (W : World) (A : Nat → Int) : Prop where
  lt : b < W.heap.size
  c : ∀ j, j < 27 → W.cell? ⟨b, j, none⟩ = some (.int .i64 (A j))
  f : ∀ j, j < 27 → W.frozen? ⟨b, j, none⟩ = false
theorem ArW.below {b : Nat} {W W' : World} {A : Nat → Int} (h : ArW b W A) (hb : Below W.heap.size W W') : ArW b W' A :=
  ⟨Nat.lt_of_lt_of_le h.lt hb.size, fun j hj => (hb.cell (p := ⟨b, j, none⟩) h.lt).trans (h.c j hj), fun j hj => (hb.frozen (p := ⟨b, j, none⟩) h.lt).trans (h.f j hj)⟩
theorem ArW.set {b : Nat} {W : World} {A : Nat → Int} (h : ArW b W A) {m : Nat} (hm : m < 27) (x : Int) : ArW b (W.setCell ⟨b, m, none⟩ (.int .i64 x)) (fun j => if j = m then x else A j) := by
  refine ⟨by simpa using h.lt, fun j hj => ?_, fun j hj => by rw [World.frozen?_setCell]; exact h.f j hj⟩
  by_cases e : j = m
  · subst e
    rw [World.cell?_setCell_same _ _ _ (h.c j hj), if_pos rfl]
  · rw [World.cell?_setCell_other _ _ _ _ (fun q => e (by have := congrArg Addr.off q; simpa using this.symm)), if_neg e]
    exact h.c j hj
theorem ArW.far {b g : Nat} {W : World} {A : Nat → Int} (h : ArW b W A) (hg : g ≠ b) (o : Nat) (v : Value) : ArW b (W.setCell ⟨g, o, none⟩ v) A := by
  have e : (W.setCell ⟨g, o, none⟩ v).heap[b]? = W.heap[b]? := Below.heap_setCell _ _ _ _ (by exact fun q => hg q.symm)
  exact ⟨by simpa using h.lt, fun j hj => (cell_of_heap (p := ⟨b, j, none⟩) e).trans (h.c j hj), fun j hj => (frozen_of_heap (p := ⟨b, j, none⟩) e).trans (h.f j hj)⟩
theorem ArW.ext {b : Nat} {W : World} {A B : Nat → Int} (h : ArW b W A) (e : ∀ j, j < 27 → A j = B j) : ArW b W B := ⟨h.lt, fun j hj => by rw [← e j hj]; exact h.c j hj, h.f⟩
theorem ArW.range {b : Nat} {W : World} {A : Nat → Int} (h : ArW b W A) : W.rangeAt b 0 (arL A) := fun j v hv => by
  have hj : j < 27 := by
    have := (List.getElem?_eq_some_iff.1 hv).1
    rwa [arL_len] at this
  rw [arL_at A hj] at hv
  cases hv
  rw [Nat.zero_add]
  exact h.c j hj
theorem part27 (A : Nat → Int) {j : Nat} (h : j < 27) (w : World) : (part 3 (arL A).toArray (j * 1)).run Try.prog w = .ok (.int .i64 (A j)) w := by
  have e := arL_at A h
  simp [part, go_sem, e]
theorem eq27 (A B : Nat → Int) (d : Nat) : ∀ (is : List Nat) (w : World), (∀ j ∈ is, j < 27) → (Op.eqItems (d + 1) 3 1 (arL A).toArray (arL B).toArray is).run Try.prog w = .ok (is.all fun j => A j == B j) w
  | [], w, _ => by simp [Op.eqItems]
  | j :: is, w, h => by
    have hj := h j (List.mem_cons_self ..)
    have h2 := run_equalIn_int (P := Try.prog) w d 3 .i64 .i64 (A j) (B j) Try.underlying3
    have ih := eq27 A B d is w (fun k hk => h k (List.mem_cons_of_mem _ hk))
    simp only [Op.eqItems, Sem.run_bind, part27 A hj, part27 B hj, Result.andThen_ok, h2, Sem.run_ite, ih]
    by_cases e : A j = B j <;> simp [e, Sem.run_pure]
theorem runEq27 (A B : Nat → Int) (w : World) : (Op.equalIn 10000 82 (.agg (arL A).toArray) (.agg (arL B).toArray)).run Try.prog w = .ok ((List.range 27).all fun j => A j == B j) w := by
  obtain ⟨i, hi, _, _, _⟩ := info_parts infoN
  rw [show (10000 : Nat) = 9999 + 1 from rfl, run_equalIn_array w 9999 _ _ Try.underlying82 hi]
  rw [show Try.prog.cellsOf 3 = 1 from by kernel_rfl]
  exact eq27 A B 9998 (List.range 27) w (fun j hj => List.mem_range.1 hj)
theorem arW_cells (b : Nat) : ∀ (vs : List Int) (o : Nat) (W : World) (A : Nat → Int), ArW b W A → o + vs.length ≤ 27 → ArW b (W.setCells b o (vs.map (Value.int .i64))) (fun j => if o ≤ j ∧ j < o + vs.length then vs.getD (j - o) 0 else A j)
  | [], o, W, A, h, _ => h.ext (fun j hj => by rw [if_neg (by simp)])
  | v :: vs, o, W, A, h, hl => by
    have hl2 : o + 1 + vs.length ≤ 27 := by simp at hl; omega
    show ArW b ((W.setCell ⟨b, o, none⟩ (.int .i64 v)).setCells b (o + 1) (vs.map (Value.int .i64))) _
    refine (arW_cells b vs (o + 1) _ _ (h.set (by omega) v) hl2).ext (fun j hj => ?_)
    by_cases e : j = o
    · subst e
      rw [if_neg (by omega), if_pos rfl, if_pos (by simp)]
      simp
    · by_cases e2 : o + 1 ≤ j ∧ j < o + 1 + vs.length
      · rw [if_pos e2, if_pos (by simp; omega)]
        obtain ⟨d, hd⟩ : ∃ d, j - o = d + 1 := ⟨j - o - 1, by omega⟩
        rw [hd, show j - (o + 1) = d by omega]
        simp
      · rw [if_neg e2, if_neg e, if_neg (by simp; omega)]
theorem arF_cells (b g : Nat) (hg : g ≠ b) : ∀ (vs : List Value) (o : Nat) (W : World) (A : Nat → Int), ArW b W A → ArW b (W.setCells g o vs) A
  | [], _, _, _, h => h
  | v :: vs, o, W, A, h => arF_cells b g hg vs (o + 1) (W.setCell ⟨g, o, none⟩ v) A (h.far hg o v)
theorem below_cells {B g : Nat} (hg : B ≤ g) {w : World} : ∀ (vs : List Value) (o : Nat) (W : World), Below B w W → Below B w (W.setCells g o vs)
  | [], _, _, h => h
  | v :: vs, o, W, h => below_cells hg vs (o + 1) (W.setCell ⟨g, o, none⟩ v) (h.setCell (by exact hg) v)
theorem copy27 (w : World) (ty : TypeId) (b g q sCap : Nat) (L : List Int) (A : Nat → Int) (hb : ArW b w A) (hl : L.length ≤ 27) (hc : ∀ j, j < L.length → w.cell? ⟨g, q + j, none⟩ = some (.int .i64 (L.getD j 0))) :
    (Builtin.copy_ #[24, 24] ty #[.slice (some ⟨b, 0, none⟩) 27 27, .slice (some ⟨g, q, none⟩) L.length sCap]).run Try.prog w = .ok (goInt L.length) (w.setCells b 0 (L.map (Value.int .i64))) := by
  obtain ⟨i0, hi, hz0, hz1, hz2⟩ := info_parts infoN
  have := run_copy_cells (P := Try.prog) w 24 24 ty 3 b 0 27 27 ⟨g, q, none⟩ L.length sCap (L.map (Value.int .i64)) Try.underlying24 (by rw [hi]; simp [hz1]) (by rw [List.length_map]; exact (Nat.min_eq_left hl).symm)
    (fun j v hv => by
      have hj : j < L.length := by
        have := (List.getElem?_eq_some_iff.1 hv).1
        rwa [List.length_map] at this
      have hadd : (⟨g, q, none⟩ : Addr).add j = ⟨g, q + j, none⟩ := by unfold Addr.add; split <;> simp_all
      rw [hadd, hc j hj]
      rw [List.getElem?_map, List.getElem?_eq_getElem hj] at hv
      rw [List.getD_eq_getElem?_getD, List.getElem?_eq_getElem hj]
      simpa using hv)
    (fun j hj => by rw [List.length_map] at hj; rw [Nat.zero_add, hb.c j (by omega)]; rfl) (fun j hj => by rw [List.length_map] at hj; rw [Nat.zero_add]; exact hb.f j (by omega))
    (fun v hv => by
      obtain ⟨j, _, rfl⟩ := List.mem_map.1 hv
      rfl)
  rw [List.length_map] at this
  exact this
theorem arW_new (w : World) (ty : TypeId) : ArW w.heap.size (w.alloc (Obj.cells (Array.replicate 27 (.int .i64 0)) ty)) (fun _ => 0) := by
  refine ⟨by simp, fun j hj => ?_, fun j hj => World.frozen?_alloc_at _ _ _ j rfl⟩
  rw [World.cell?_alloc_at _ _ _ j rfl]
  simp [hj]
end Go.Proofs.Ytajabchbdhjdiaa
