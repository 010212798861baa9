/-
  Contracts of the model's reader of bytes, on: num and l15Open. Conditions: what the bytes' slice and the list hold is known.
-/
import Derived.Test.YtgbjchidnnmifaaRd
namespace Go.Proofs.Ytgbjchidnnmifaa
open Go.RowKit
theorem grown_trans {w w1 w2 : World} {row : Option Nat} (h : w.grownBy w1 row) (k : w1.grownBy w2 row) : w.grownBy w2 row :=
  ⟨k.os.trans h.os, k.tape.trans h.tape, k.output.trans h.output, Nat.le_trans h.size k.size, fun b hb hne => (k.block b (Nat.lt_of_lt_of_le hb h.size) hne).trans (h.block b hb hne)⟩
theorem grown_alloc (w : World) (o : Obj) (row : Option Nat) : w.grownBy (w.alloc o) row :=
  ⟨rfl, rfl, rfl, by simp, fun k hk _ => Below.heap_alloc _ _ _ hk⟩
theorem Rd.alloc {w : World} {R : Nat} {a : Option Addr} {len cap p : Nat} (h : Rd w R a len cap p) (o : Obj) : Rd (w.alloc o) R a len cap p := by
  have sz := h.sz
  constructor
  · rw [World.cell?_alloc_past _ _ _ sz]; exact h.b0
  · rw [World.cell?_alloc_past _ _ _ sz]; exact h.p1
  · rw [World.frozen?_alloc_past _ _ _ sz]; exact h.f1
  · simp; omega
  · exact h.len_le
  · rcases h.bytes with h0 | ⟨g, off, ha, hR, hg, hc⟩
    · exact .inl h0
    · refine .inr ⟨g, off, ha, hR, by simp; omega, fun i hi => ?_⟩
      obtain ⟨z, z0, z1, hz⟩ := hc i hi
      exact ⟨z, z0, z1, by rw [World.cell?_alloc_past _ _ _ hg]; exact hz⟩
/-- num hands back one of the numbers of a list -/
def Nums (R : Nat) (a : Option Addr) (len cap p : Nat) (zs : List Int) (w : World) (e : Ending) (w' : World) : Prop :=
  ∃ x : Int, e = .returned (.int .i64 x) ∧ x ∈ zs ∧ Rd w' R a len cap (p + 1) ∧ w.grownBy w' (some R)
set_option maxHeartbeats 1000000 in
theorem num_any (R : Nat) (a : Option Addr) (len cap p : Nat) (B : Nat) (zs : List Int) (w : World) (h : Rd w R a len cap p) (hp : p ≤ 1000000) (hB : B ≠ R) (hBs : B < w.heap.size) (hz : 0 < zs.length) (hz1 : zs.length ≤ 1000)
    (hc : ∀ j : Nat, j < zs.length → w.cell? ⟨B, j, none⟩ = some (.int .i64 (zs.getD j 0))) :
    Calls Try.prog 40 #[.pointer (some ⟨R, 0, none⟩), .slice (some ⟨B, 0, none⟩) zs.length zs.length] w (Nums R a len cap p zs w) := by
  have hC := Lib.hid hc
  clear hc
  go_enter Try.func40, Try.ntmps40
  go_wp2_with fail
  refine (pick_any R a len cap p zs.length w h hp).mono ?_
  rintro e w1 ⟨x, rfl, x0, x1, hR1, hg1, hs1⟩
  have hx : x < (zs.length : Int) := by omega
  obtain ⟨j, rfl⟩ := Int.eq_ofNat_of_zero_le x0
  have hj : j < zs.length := by omega
  have hcj : w1.cell? ⟨B, j, none⟩ = some (.int .i64 (zs.getD j 0)) := by
    rw [World.cell?_of_block (w := w) (hg1.block B hBs (by simpa using hB))]; exact hC.out j hj
  have hm : zs.getD j 0 ∈ zs := by simp [hj]
  generalize zs.getD j 0 = y at hcj hm
  clear x1
  go_wp2
  go_ret
  exact ⟨y, rfl, hm, hR1, hg1⟩
/-- bytes that came in: their length, and that each can be read -/
def ByteRow (w : World) (a : Option Addr) (len cap : Nat) : Prop :=
  len ≤ cap ∧ cap ≤ 9223372036854775807 ∧ (len = 0 ∨ ∃ g off, a = some ⟨g, off, none⟩ ∧ g < w.heap.size ∧ ∀ i : Nat, i < len → ∃ z : Int, 0 ≤ z ∧ z < 256 ∧ w.cell? ⟨g, off + i, none⟩ = some (.int .u8 z))
theorem ByteRow.below {w w' : World} {a : Option Addr} {len cap : Nat} (h : ByteRow w a len cap) (hb : Below w.heap.size w w') : ByteRow w' a len cap := by
  obtain ⟨h1, h2, h3⟩ := h
  refine ⟨h1, h2, ?_⟩
  rcases h3 with h3 | ⟨g, off, ha, hg, hc⟩
  · exact .inl h3
  · refine .inr ⟨g, off, ha, by have := hb.size; omega, fun i hi => ?_⟩
    obtain ⟨z, z0, z1, hz⟩ := hc i hi
    exact ⟨z, z0, z1, by rw [hb.cell (p := ⟨g, off + i, none⟩) hg]; exact hz⟩
/-- l15Open lays a reader into a new block -/
def Opens (w : World) (e : Ending) (w' : World) : Prop :=
  ∃ a len cap, e = .returned (.pointer (some ⟨w.heap.size, 0, none⟩)) ∧ Rd w' w.heap.size a len cap 0 ∧ Below w.heap.size w w'
theorem open_rd (a : Option Addr) (len cap : Nat) (w : World) (hl : len ≤ 2000) (h : len = 0 ∨ ∃ g off, a = some ⟨g, off, none⟩ ∧ g < w.heap.size ∧ ∀ i : Nat, i < len → ∃ z : Int, 0 ≤ z ∧ z < 256 ∧ w.cell? ⟨g, off + i, none⟩ = some (.int .u8 z)) :
    Rd (w.alloc (Obj.cells #[Value.slice a len cap, Value.int IntKind.i64 0] 73)) w.heap.size a len cap 0 := by
  constructor
  · simp
  · simp
  · simp
  · simp
  · exact hl
  · rcases h with h0 | ⟨g, off, ha, hg, hc⟩
    · exact .inl h0
    · refine .inr ⟨g, off, ha, by omega, by simp; omega, fun i hi => ?_⟩
      obtain ⟨z, z0, z1, hz⟩ := hc i hi
      exact ⟨z, z0, z1, by rw [World.cell?_alloc_past _ _ _ hg]; exact hz⟩
set_option maxHeartbeats 1000000 in
theorem open_any (a : Option Addr) (len cap : Nat) (w : World) (h : ByteRow w a len cap) :
    Calls Try.prog 23 #[.slice a len cap] w (Opens w) := by
  obtain ⟨h1, h2, h3⟩ := h
  have H3 := Lib.hid h3
  clear h3
  by_cases hl : 2000 < len
  · go_enter Try.func23, Try.ntmps23
    go_wp2_with fail
    go_ret
    refine ⟨a, 2000, cap, rfl, open_rd a 2000 cap w (Nat.le_refl _) ?_, (Below.refl _ _).alloc (Nat.le_refl _) _⟩
    rcases H3.out with h3 | ⟨g, off, ha, hg, hc⟩
    · omega
    · exact .inr ⟨g, off, ha, hg, fun i hi => hc i (by omega)⟩
  · go_enter Try.func23, Try.ntmps23
    go_wp2_with fail
    go_ret
    exact ⟨a, len, cap, rfl, open_rd a len cap w (by omega) H3.out, (Below.refl _ _).alloc (Nat.le_refl _) _⟩
end Go.Proofs.Ytgbjchidnnmifaa
