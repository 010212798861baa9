/-
  The program's EvalFormula, and the walk of its exact law. Conditions: none.
-/
import Derived.Test.YtegkcfinklcglaaBo33
namespace Go.Proofs.Ytegkcfinklcglaa
open Go.RowKit
set_option maxRecDepth 100000 in
set_option maxHeartbeats 4000000 in
theorem iPairGate (k : Int) (u v : Value) (_ : u.oneCell' = true) (_ : v.oneCell' = true) (w : World) :
    Calls Try.prog 188 #[.agg #[.int .i64 k, u, v]] w fun e w' => e = .returned (.agg #[.int .i64 k, .int .i64 0, .int .i64 1]) ∧ Below w.heap.size w w' := by
  go_enter Try.func188, Try.ntmps188
  go_wp2_with fail
  refine bodyPost_ret (v := .agg #[.int .i64 k, .int .i64 0, .int .i64 1]) (by simp [results, Try.results188, go_sem]) rfl ⟨rfl, ?_⟩
  repeat (first | exact Below.refl _ _ | (refine Below.setCell ?_ (by first | omega | (simp; done)) _) | (refine Below.alloc ?_ (by first | omega | (simp; done)) _))
/-- what valueAt's region needs to read -/
structure VaW (P : Nat) (x y z k : Int) (u v : Value) (w wr : World) : Prop where
  c0 : wr.cell? ⟨P, 0, none⟩ = some (.int .i64 x)
  c1 : wr.cell? ⟨P, 1, none⟩ = some (.int .i64 y)
  c2 : wr.cell? ⟨P, 2, none⟩ = some (.int .i64 z)
  d0 : wr.cell? ⟨P + 1, 0, none⟩ = some (.int .i64 k)
  d1 : wr.cell? ⟨P + 1, 1, none⟩ = some u
  d2 : wr.cell? ⟨P + 1, 2, none⟩ = some v
  sz : P + 1 < wr.heap.size
  low : Below P w wr
theorem VaW.below {P : Nat} {x y z k : Int} {u v : Value} {w wr w1 : World} (h : VaW P x y z k u v w wr) (hb : Below wr.heap.size wr w1) : VaW P x y z k u v w w1 := by
  have s1 := h.sz
  exact ⟨by rw [hb.cell (p := ⟨P, 0, none⟩) (show P < wr.heap.size by omega)]; exact h.c0, by rw [hb.cell (p := ⟨P, 1, none⟩) (show P < wr.heap.size by omega)]; exact h.c1, by rw [hb.cell (p := ⟨P, 2, none⟩) (show P < wr.heap.size by omega)]; exact h.c2,
    by rw [hb.cell (p := ⟨P + 1, 0, none⟩) s1]; exact h.d0, by rw [hb.cell (p := ⟨P + 1, 1, none⟩) s1]; exact h.d1, by rw [hb.cell (p := ⟨P + 1, 2, none⟩) s1]; exact h.d2, Nat.lt_of_lt_of_le s1 hb.size, h.low.trans (hb.mono (by omega))⟩
theorem fmV_one' (f : Fm) {t : TypeId} {v : Value} (h : fmV f = .iface t v) : (Value.iface t v).oneCell' = true := by rw [← h]; exact fmV_one f
theorem keepVa {W1 wa : World} {P : Nat} {x y z k : Int} {u v : Value} (hb : Below W1.heap.size W1 wa) (hs : P + 1 < W1.heap.size)
    (h : W1.cell? ⟨P, 0, none⟩ = some (.int .i64 x) ∧ W1.cell? ⟨P, 1, none⟩ = some (.int .i64 y) ∧ W1.cell? ⟨P, 2, none⟩ = some (.int .i64 z) ∧ W1.cell? ⟨P + 1, 0, none⟩ = some (.int .i64 k) ∧ W1.cell? ⟨P + 1, 1, none⟩ = some u ∧ W1.cell? ⟨P + 1, 2, none⟩ = some v) :
    wa.cell? ⟨P, 0, none⟩ = some (.int .i64 x) ∧ wa.cell? ⟨P, 1, none⟩ = some (.int .i64 y) ∧ wa.cell? ⟨P, 2, none⟩ = some (.int .i64 z) ∧ wa.cell? ⟨P + 1, 0, none⟩ = some (.int .i64 k) ∧ wa.cell? ⟨P + 1, 1, none⟩ = some u ∧ wa.cell? ⟨P + 1, 2, none⟩ = some v := by
  obtain ⟨c0, c1, c2, d0, d1, d2⟩ := h
  have hp : P < W1.heap.size := by omega
  exact ⟨by rw [hb.cell (p := ⟨P, 0, none⟩) hp]; exact c0, by rw [hb.cell (p := ⟨P, 1, none⟩) hp]; exact c1, by rw [hb.cell (p := ⟨P, 2, none⟩) hp]; exact c2,
    by rw [hb.cell (p := ⟨P + 1, 0, none⟩) hs]; exact d0, by rw [hb.cell (p := ⟨P + 1, 1, none⟩) hs]; exact d1, by rw [hb.cell (p := ⟨P + 1, 2, none⟩) hs]; exact d2⟩
theorem belowA {n : Nat} {w w2 wd wa wb : World} {o : Obj} (h : Below n w w2) (hn : n ≤ w2.heap.size) (hd : Below w2.heap.size w2 wd) (ha : Below wd.heap.size wd wa) (hb : Below (wa.alloc o).heap.size (wa.alloc o) wb) : Below n w wb := by
  have e1 := hd.size
  have e2 := ha.size
  exact h.trans ((hd.mono hn).trans ((ha.mono (by omega)).trans ((Below.alloc (Below.refl _ _) (by omega) _).trans (hb.mono (by simp; omega)))))
theorem belowB {n : Nat} {w w2 wd wa wb : World} {o : Obj} (h : Below n w w2) (hn : n ≤ w2.heap.size) (hd : Below w2.heap.size w2 wd) (ha : Below (wd.alloc o).heap.size (wd.alloc o) wa) (hb : Below wa.heap.size wa wb) : Below n w wb := by
  have e1 := hd.size
  have e2 := ha.size
  simp at e2
  exact h.trans ((hd.mono hn).trans ((Below.alloc (Below.refl _ _) (by omega) _).trans ((ha.mono (by simp; omega)).trans (hb.mono (by omega)))))
end Go.Proofs.Ytegkcfinklcglaa
