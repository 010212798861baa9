/-
  Contracts of the model's reader of bytes (l15Open, pick, num). Conditions: the reader lies in a block of its own, its count is small.
  Contracts of the model's reader of bytes, on: num and l15Open. Conditions: what the bytes' slice and the list hold is known.
  Contracts of the exact laws' helpers on slices of numbers: eqIntS, markIntS, heldIntS, acSame. Conditions: what the slices hold is known.
  Matrices of numbers in the heap: a slice of slices. Conditions: none.
  Contracts of the exact laws' helpers on matrices: szMatrix, toMatrix, eqMatrix, markMatrix, heldMatrix. Conditions: what the slices hold is known.
  Contracts of the exact laws' helpers on matrices: copies. Conditions: what the slices hold is known.
  Rows of integers that a call owns. Conditions: none.
  Contract of the laws' acSame at equal lists of integers. Conditions: what both slices hold is known.
-/
import Derived.Test.YtlcmddghppdmgaaBh6
import Derived.Test.YtlcmddghppdmgaaChecked
import Derived.WalkKit
import Derived.Lib.Hide
import Derived.Outline
import Derived.BigQuiet
import Derived.Deep.QuietTactic
import Derived.OwnWalk
import Derived.Below
import Derived.Test.YtlcmddghppdmgaaBh2
namespace Go.Proofs.Ytlcmddghppdmgaa
open Go.RowKit
/-- the reader in block R: its bytes and how many were taken -/
structure Rd (w : World) (R : Nat) (a : Option Addr) (len cap p : Nat) : Prop where
  b0 : w.cell? ⟨R, 0, none⟩ = some (.slice a len cap)
  p1 : w.cell? ⟨R, 1, none⟩ = some (.int .i64 p)
  f1 : w.frozen? ⟨R, 1, none⟩ = false
  sz : R < w.heap.size
  len_le : len ≤ 2000
  bytes : len = 0 ∨ ∃ g off, a = some ⟨g, off, none⟩ ∧ g ≠ R ∧ g < w.heap.size ∧ ∀ i : Nat, i < len → ∃ z : Int, 0 ≤ z ∧ z < 256 ∧ w.cell? ⟨g, off + i, none⟩ = some (.int .u8 z)
/-- pick hands back a number from 0 to n - 1 (0 if n is less than 1), counts on, and writes nowhere else -/
def Picks (R : Nat) (a : Option Addr) (len cap p : Nat) (n : Int) (w : World) (e : Ending) (w' : World) : Prop :=
  ∃ x : Int, e = .returned (.int .i64 x) ∧ 0 ≤ x ∧ (x < n ∨ n < 1 ∧ x = 0) ∧ Rd w' R a len cap (p + 1) ∧ w.grownBy w' (some R) ∧ w'.heap.size = w.heap.size
theorem Rd.next {w : World} {R : Nat} {a : Option Addr} {len cap p : Nat} (h : Rd w R a len cap p) (v : Int) (hv : v = (p : Int) + 1) :
    Rd (w.setCell ⟨R, 1, none⟩ (.int .i64 v)) R a len cap (p + 1) ∧ w.grownBy (w.setCell ⟨R, 1, none⟩ (.int .i64 v)) (some R) ∧ (w.setCell ⟨R, 1, none⟩ (.int .i64 v)).heap.size = w.heap.size := by
  subst hv
  refine ⟨?_, ⟨rfl, rfl, rfl, by simp, fun k _ hne => Below.heap_setCell _ _ _ _ (by simpa using hne)⟩, by simp⟩
  constructor
  · rw [World.cell?_setCell_other _ _ _ _ (by simp)]; exact h.b0
  · rw [World.cell?_setCell_same _ _ _ h.p1]; simp
  · simpa using h.f1
  · simpa using h.sz
  · exact h.len_le
  · rcases h.bytes with h0 | ⟨g, off, ha, hR, hg, hc⟩
    · exact .inl h0
    · refine .inr ⟨g, off, ha, hR, by simpa using hg, fun i hi => ?_⟩
      obtain ⟨z, z0, z1, hz⟩ := hc i hi
      have hd : (⟨R, 1, none⟩ : Addr) ≠ ⟨g, off + i, none⟩ := fun e => hR (congrArg Addr.block e).symm
      exact ⟨z, z0, z1, by rw [World.cell?_setCell_other _ _ _ _ hd]; exact hz⟩
theorem Rd.drewN {w : World} {R : Nat} {a : Option Addr} {len cap p : Nat} (h : Rd w R a len cap p) (n : Nat) : Rd (w.drewN n) R a len cap p :=
  ⟨h.b0, h.p1, h.f1, h.sz, h.len_le, h.bytes⟩
theorem grown_drewN {w w' : World} {row : Option Nat} (h : w.grownBy w' row) (n : Nat) : w.grownBy (w'.drewN n) row :=
  ⟨h.os, h.tape, h.output, h.size, h.block⟩
theorem xor_bd (a b : Int) (ha0 : 0 ≤ a) (ha1 : a < 4611686018427387904) (hb0 : 0 ≤ b) (hb1 : b < 4611686018427387904) :
    0 ≤ bits BinOp.xor IntKind.i64 a b ∧ bits BinOp.xor IntKind.i64 a b < 4611686018427387904 := by
  obtain ⟨x, rfl⟩ := Int.eq_ofNat_of_zero_le ha0
  obtain ⟨y, rfl⟩ := Int.eq_ofNat_of_zero_le hb0
  have e1 : (BitVec.ofInt 64 (x : Int)).toNat = x := by
    rw [BitVec.ofInt_natCast, BitVec.toNat_ofNat]; exact Nat.mod_eq_of_lt (by omega)
  have e2 : (BitVec.ofInt 64 (y : Int)).toNat = y := by
    rw [BitVec.ofInt_natCast, BitVec.toNat_ofNat]; exact Nat.mod_eq_of_lt (by omega)
  have hx : x ^^^ y < 2 ^ 62 := Nat.xor_lt_two_pow (by omega) (by omega)
  have e : bits BinOp.xor IntKind.i64 (x : Int) (y : Int) = ((x ^^^ y : Nat) : Int) := by
    show IntKind.i64.wrap ((BitVec.ofInt 64 (x : Int) ^^^ BitVec.ofInt 64 (y : Int)).toNat : Int) = _
    rw [BitVec.toNat_xor, e1, e2, IntWalk.i64_in _ (by omega)]
  rw [e]; omega
set_option maxHeartbeats 1000000 in
theorem pick_none (R : Nat) (a : Option Addr) (len cap p : Nat) (n : Int) (w : World) (h : Rd w R a len cap p) (hp : p ≤ 1000000) (hn : n < 1) :
    Calls Try.prog 129 #[.pointer (some ⟨R, 0, none⟩), .int .i64 n] w (Picks R a len cap p n w) := by
  have H := Lib.hid h
  obtain ⟨b0, p1, f1, sz, len_le, bytes⟩ := h
  clear bytes
  go_enter Try.func129, Try.ntmps129
  go_wp2_with fail
  go_ret
  obtain ⟨h1, h2, h3⟩ := H.out.next ((p : Int) + 1) rfl
  exact ⟨0, rfl, by omega, .inr ⟨hn, rfl⟩, h1, h2, h3⟩
set_option maxHeartbeats 1000000 in
theorem pick_empty (R : Nat) (a : Option Addr) (cap p : Nat) (n : Int) (w : World) (h : Rd w R a 0 cap p) (hp : p ≤ 1000000) (hn : 1 ≤ n) :
    Calls Try.prog 129 #[.pointer (some ⟨R, 0, none⟩), .int .i64 n] w (Picks R a 0 cap p n w) := by
  have H := Lib.hid h
  obtain ⟨b0, p1, f1, sz, len_le, bytes⟩ := h
  clear bytes
  go_enter Try.func129, Try.ntmps129
  go_wp2_with fail
  go_ret
  obtain ⟨h1, h2, h3⟩ := H.out.next ((p : Int) + 1) rfl
  exact ⟨0, rfl, by omega, .inl (by omega), h1, h2, h3⟩
set_option maxHeartbeats 1000000 in
theorem pick_low (R g off : Nat) (len cap p : Nat) (n : Int) (w : World) (h : Rd w R (some ⟨g, off, none⟩) len cap p) (hp : p ≤ 1000000) (hn : 1 ≤ n) (hl : p < len) :
    Calls Try.prog 129 #[.pointer (some ⟨R, 0, none⟩), .int .i64 n] w (Picks R (some ⟨g, off, none⟩) len cap p n w) := by
  have H := Lib.hid h
  obtain ⟨b0, p1, f1, sz, len_le, bytes⟩ := h
  rcases bytes with h0 | ⟨g', off', ha, hR, hg, hc⟩
  · omega
  simp only [Option.some.injEq, Addr.mk.injEq, and_true] at ha
  obtain ⟨rfl, rfl⟩ := ha
  obtain ⟨z, z0, z1, hz⟩ := hc p hl
  clear hc
  have hgR : R ≠ g := Ne.symm hR
  have hlb : ((len : Int) == 0) = false := by simp; omega
  have hx0 : 0 ≤ z % n := Int.emod_nonneg _ (by omega)
  have hx1 : z % n < n := Int.emod_lt_of_pos _ (by omega)
  go_enter Try.func129, Try.ntmps129
  go_wp2_with fail
  go_ret
  obtain ⟨h1, h2, h3⟩ := H.out.next ((p : Int) + 1) rfl
  exact ⟨z % n, rfl, hx0, .inl hx1, h1, h2, h3⟩
set_option maxHeartbeats 4000000 in
theorem pick_high (R g off : Nat) (len cap p : Nat) (n : Int) (w : World) (h : Rd w R (some ⟨g, off, none⟩) len cap p) (hp : p ≤ 1000000) (hn : 1 ≤ n) (hl : len ≤ p) (hlen : 0 < len) :
    Calls Try.prog 129 #[.pointer (some ⟨R, 0, none⟩), .int .i64 n] w (Picks R (some ⟨g, off, none⟩) len cap p n w) := by
  have H := Lib.hid h
  obtain ⟨b0, p1, f1, sz, len_le, bytes⟩ := h
  rcases bytes with h0 | ⟨g', off', ha, hR, hg, hc⟩
  · omega
  simp only [Option.some.injEq, Addr.mk.injEq, and_true] at ha
  obtain ⟨rfl, rfl⟩ := ha
  obtain ⟨i, hi⟩ : ∃ i : Nat, i = p % len := ⟨_, rfl⟩
  obtain ⟨j, hj⟩ : ∃ j : Nat, j = (p * 7 + 3) % len := ⟨_, rfl⟩
  obtain ⟨d, hd⟩ : ∃ d : Nat, d = p / len := ⟨_, rfl⟩
  have m1 : i < len := by rw [hi]; exact Nat.mod_lt p hlen
  have m2 : j < len := by rw [hj]; exact Nat.mod_lt (p * 7 + 3) hlen
  have m3 : d ≤ 1000000 := by rw [hd]; exact Nat.le_trans (Nat.div_le_self _ _) hp
  obtain ⟨z, z0, z1, hz⟩ := hc i m1
  obtain ⟨y, y0, y1, hy⟩ := hc j m2
  have q1 : (p : Int).tmod (len : Int) = (i : Int) := by rw [hi, ← Int.ofNat_tmod]
  have q2 : (p : Int) % (len : Int) = (i : Int) := by rw [hi]; simp
  have q3 : ((p : Int) * 7 + 3).tmod (len : Int) = (j : Int) := by
    rw [hj, show ((p : Int) * 7 + 3) = ((p * 7 + 3 : Nat) : Int) by simp, ← Int.ofNat_tmod]
  have q4 : ((p : Int) * 7 + 3) % (len : Int) = (j : Int) := by rw [hj]; simp
  have q5 : (p : Int).tdiv (len : Int) = (d : Int) := by rw [hd, ← Int.ofNat_tdiv]
  have q6 : (p : Int) / (len : Int) = (d : Int) := by rw [hd]; simp
  have e1 : IntKind.i64.wrap ((p : Int) * 7) = (p : Int) * 7 := IntWalk.i64_in _ (by omega)
  have e2 : IntKind.i64.wrap ((p : Int) * 7 + 3) = (p : Int) * 7 + 3 := IntWalk.i64_in _ (by omega)
  have e3 : IntKind.i64.wrap (z * 131) = z * 131 := IntWalk.i64_in _ (by omega)
  have e4 : IntKind.i64.wrap (y * 1117) = y * 1117 := IntWalk.i64_in _ (by omega)
  have e5 : IntKind.i64.wrap (z * 131 + y * 1117) = z * 131 + y * 1117 := IntWalk.i64_in _ (by omega)
  have e6 : IntKind.i64.wrap ((p : Int) * 29) = (p : Int) * 29 := IntWalk.i64_in _ (by omega)
  have e7 : IntKind.i64.wrap (z * 131 + y * 1117 + (p : Int) * 29) = z * 131 + y * 1117 + (p : Int) * 29 := IntWalk.i64_in _ (by omega)
  have e8 : IntKind.i64.wrap (d : Int) = (d : Int) := IntWalk.i64_in _ (by omega)
  have e9 : IntKind.i64.wrap ((d : Int) * 53) = (d : Int) * 53 := IntWalk.i64_in _ (by omega)
  have e10 : IntKind.i64.wrap (z * 131 + y * 1117 + (p : Int) * 29 + (d : Int) * 53) = z * 131 + y * 1117 + (p : Int) * 29 + (d : Int) * 53 := IntWalk.i64_in _ (by omega)
  have e11 : IntKind.i64.wrap z = z := IntWalk.i64_in _ (by omega)
  have e12 : IntKind.i64.wrap y = y := IntWalk.i64_in _ (by omega)
  have i0 : (0 : Int) ≤ (i : Int) := by omega
  have i1 : (i : Int) < (len : Int) := by omega
  have j0 : (0 : Int) ≤ (j : Int) := by omega
  have j1 : (j : Int) < (len : Int) := by omega
  have hgR : R ≠ g := Ne.symm hR
  have hlb : ((len : Int) == 0) = false := by simp; omega
  have hk : ¬ ((p : Int) < (len : Int)) := by omega
  clear hc hi hj hd
  go_enter Try.func129, Try.ntmps129
  go_wp2_with fail
  go_quiet (fail)
  have hS0 : 0 ≤ z * 131 + y * 1117 + (p : Int) * 29 + (d : Int) * 53 := by omega
  have hS1 : z * 131 + y * 1117 + (p : Int) * 29 + (d : Int) * 53 < 1000000000 := by omega
  clear q1 q2 q3 q4 q5 q6 e1 e2 e3 e4 e5 e6 e7 e8 e9 e10 e11 e12 i0 i1 j0 j1
  generalize z * 131 + y * 1117 + (p : Int) * 29 + (d : Int) * 53 = S at *
  obtain ⟨x0, x1⟩ := xor_bd S (S / 64) hS0 (by omega) (by omega) (by omega)
  have hx0 : 0 ≤ bits BinOp.xor IntKind.i64 S (S / 64) % n := Int.emod_nonneg _ (by omega)
  have hx1 : bits BinOp.xor IntKind.i64 S (S / 64) % n < n := Int.emod_lt_of_pos _ (by omega)
  go_wp2
  go_ret
  obtain ⟨h1, h2, h3⟩ := H.out.next ((p : Int) + 1) rfl
  exact ⟨_, rfl, hx0, .inl hx1, h1.drewN _, grown_drewN h2 _, h3⟩
theorem pick_any (R : Nat) (a : Option Addr) (len cap p : Nat) (n : Int) (w : World) (h : Rd w R a len cap p) (hp : p ≤ 1000000) :
    Calls Try.prog 129 #[.pointer (some ⟨R, 0, none⟩), .int .i64 n] w (Picks R a len cap p n w) := by
  by_cases hn : 1 ≤ n
  · by_cases h0 : len = 0
    · subst h0; exact pick_empty R a cap p n w h hp hn
    · rcases h.bytes with hb | ⟨g, off, rfl, _⟩
      · exact absurd hb h0
      · by_cases hl : p < len
        · exact pick_low R g off len cap p n w h hp hn hl
        · exact pick_high R g off len cap p n w h hp hn (by omega) (by omega)
  · exact pick_none R a len cap p n w h hp (by omega)
end Go.Proofs.Ytlcmddghppdmgaa
namespace Go.Proofs.Ytlcmddghppdmgaa
open Go.RowKit
theorem grown_trans {w w1 w2 : World} {row : Option Nat} (h : w.grownBy w1 row) (k : w1.grownBy w2 row) : w.grownBy w2 row :=
  ⟨k.os.trans h.os, k.tape.trans h.tape, k.output.trans h.output, Nat.le_trans h.size k.size, fun b hb hne => (k.block b (Nat.lt_of_lt_of_le hb h.size) hne).trans (h.block b hb hne)⟩
theorem grown_alloc (w : World) (o : Obj) (row : Option Nat) : w.grownBy (w.alloc o) row :=
  ⟨rfl, rfl, rfl, by simp, fun k hk _ => Below.heap_alloc _ _ _ hk⟩
theorem Rd.alloc {w : World} {R : Nat} {a : Option Addr} {len cap p : Nat} (h : Rd w R a len cap p) (o : Obj) : Rd (w.alloc o) R a len cap p := by
  have sz := h.sz
  constructor
  · rw [World.cell?_alloc_past _ _ _ sz]; exact h.b0
  · rw [World.cell?_alloc_past _ _ _ sz]; exact h.p1
  · rw [World.frozen?_alloc_past _ _ _ sz]; exact h.f1
  · simp; omega
  · exact h.len_le
  · rcases h.bytes with h0 | ⟨g, off, ha, hR, hg, hc⟩
    · exact .inl h0
    · refine .inr ⟨g, off, ha, hR, by simp; omega, fun i hi => ?_⟩
      obtain ⟨z, z0, z1, hz⟩ := hc i hi
      exact ⟨z, z0, z1, by rw [World.cell?_alloc_past _ _ _ hg]; exact hz⟩
/-- num hands back one of the numbers of a list -/
def Nums (R : Nat) (a : Option Addr) (len cap p : Nat) (zs : List Int) (w : World) (e : Ending) (w' : World) : Prop :=
  ∃ x : Int, e = .returned (.int .i64 x) ∧ x ∈ zs ∧ Rd w' R a len cap (p + 1) ∧ w.grownBy w' (some R)
set_option maxHeartbeats 1000000 in
theorem num_any (R : Nat) (a : Option Addr) (len cap p : Nat) (B : Nat) (zs : List Int) (w : World) (h : Rd w R a len cap p) (hp : p ≤ 1000000) (hB : B ≠ R) (hBs : B < w.heap.size) (hz : 0 < zs.length) (hz1 : zs.length ≤ 1000)
    (hc : ∀ j : Nat, j < zs.length → w.cell? ⟨B, j, none⟩ = some (.int .i64 (zs.getD j 0))) :
    Calls Try.prog 183 #[.pointer (some ⟨R, 0, none⟩), .slice (some ⟨B, 0, none⟩) zs.length zs.length] w (Nums R a len cap p zs w) := by
  have hC := Lib.hid hc
  clear hc
  go_enter Try.func183, Try.ntmps183
  go_wp2_with fail
  refine (pick_any R a len cap p zs.length w h hp).mono ?_
  rintro e w1 ⟨x, rfl, x0, x1, hR1, hg1, hs1⟩
  have hx : x < (zs.length : Int) := by omega
  obtain ⟨j, rfl⟩ := Int.eq_ofNat_of_zero_le x0
  have hj : j < zs.length := by omega
  have hcj : w1.cell? ⟨B, j, none⟩ = some (.int .i64 (zs.getD j 0)) := by
    rw [World.cell?_of_block (w := w) (hg1.block B hBs (by simpa using hB))]; exact hC.out j hj
  have hm : zs.getD j 0 ∈ zs := by simp [hj]
  generalize zs.getD j 0 = y at hcj hm
  clear x1
  go_wp2
  go_ret
  exact ⟨y, rfl, hm, hR1, hg1⟩
/-- bytes that came in: their length, and that each can be read -/
def ByteRow (w : World) (a : Option Addr) (len cap : Nat) : Prop :=
  len ≤ cap ∧ cap ≤ 9223372036854775807 ∧ (len = 0 ∨ ∃ g off, a = some ⟨g, off, none⟩ ∧ g < w.heap.size ∧ ∀ i : Nat, i < len → ∃ z : Int, 0 ≤ z ∧ z < 256 ∧ w.cell? ⟨g, off + i, none⟩ = some (.int .u8 z))
theorem ByteRow.below {w w' : World} {a : Option Addr} {len cap : Nat} (h : ByteRow w a len cap) (hb : Below w.heap.size w w') : ByteRow w' a len cap := by
  obtain ⟨h1, h2, h3⟩ := h
  refine ⟨h1, h2, ?_⟩
  rcases h3 with h3 | ⟨g, off, ha, hg, hc⟩
  · exact .inl h3
  · refine .inr ⟨g, off, ha, by have := hb.size; omega, fun i hi => ?_⟩
    obtain ⟨z, z0, z1, hz⟩ := hc i hi
    exact ⟨z, z0, z1, by rw [hb.cell (p := ⟨g, off + i, none⟩) hg]; exact hz⟩
/-- l15Open lays a reader into a new block -/
def Opens (w : World) (e : Ending) (w' : World) : Prop :=
  ∃ a len cap, e = .returned (.pointer (some ⟨w.heap.size, 0, none⟩)) ∧ Rd w' w.heap.size a len cap 0 ∧ Below w.heap.size w w'
theorem open_rd (a : Option Addr) (len cap : Nat) (w : World) (hl : len ≤ 2000) (h : len = 0 ∨ ∃ g off, a = some ⟨g, off, none⟩ ∧ g < w.heap.size ∧ ∀ i : Nat, i < len → ∃ z : Int, 0 ≤ z ∧ z < 256 ∧ w.cell? ⟨g, off + i, none⟩ = some (.int .u8 z)) :
    Rd (w.alloc (Obj.cells #[Value.slice a len cap, Value.int IntKind.i64 0] 160)) w.heap.size a len cap 0 := by
  constructor
  · simp
  · simp
  · simp
  · simp
  · exact hl
  · rcases h with h0 | ⟨g, off, ha, hg, hc⟩
    · exact .inl h0
    · refine .inr ⟨g, off, ha, by omega, by simp; omega, fun i hi => ?_⟩
      obtain ⟨z, z0, z1, hz⟩ := hc i hi
      exact ⟨z, z0, z1, by rw [World.cell?_alloc_past _ _ _ hg]; exact hz⟩
set_option maxHeartbeats 1000000 in
theorem open_any (a : Option Addr) (len cap : Nat) (w : World) (h : ByteRow w a len cap) :
    Calls Try.prog 127 #[.slice a len cap] w (Opens w) := by
  obtain ⟨h1, h2, h3⟩ := h
  have H3 := Lib.hid h3
  clear h3
  by_cases hl : 2000 < len
  · go_enter Try.func127, Try.ntmps127
    go_wp2_with fail
    go_ret
    refine ⟨a, 2000, cap, rfl, open_rd a 2000 cap w (Nat.le_refl _) ?_, (Below.refl _ _).alloc (Nat.le_refl _) _⟩
    rcases H3.out with h3 | ⟨g, off, ha, hg, hc⟩
    · omega
    · exact .inr ⟨g, off, ha, hg, fun i hi => hc i (by omega)⟩
  · go_enter Try.func127, Try.ntmps127
    go_wp2_with fail
    go_ret
    exact ⟨a, len, cap, rfl, open_rd a len cap w (by omega) H3.out, (Below.refl _ _).alloc (Nat.le_refl _) _⟩
end Go.Proofs.Ytlcmddghppdmgaa
namespace Go.Proofs.Ytlcmddghppdmgaa
open Go.RowKit
/-- a slice value that reads as a list of numbers in this world -/
def Ints (w : World) (v : Value) (L : List Int) : Prop :=
  L.length ≤ 281474976710656 ∧ ∃ a cap, v = .slice a L.length cap ∧ (L = [] ∨ ∃ g off, a = some ⟨g, off, none⟩ ∧ g < w.heap.size ∧ ∀ j, j < L.length → w.cell? ⟨g, off + j, none⟩ = some (.int .i64 (L.getD j 0)))
/-- only draws lie between two worlds -/
def Drawn (w w' : World) : Prop := ∃ n, w' = w.drewN n
theorem Drawn.refl (w : World) : Drawn w w := ⟨0, rfl⟩
theorem Drawn.more {w w' : World} (h : Drawn w w') (n : Nat) : Drawn w (w'.drewN n) := by
  obtain ⟨m, rfl⟩ := h; exact ⟨m + n, by simp⟩
theorem getD_ext {L M : List Int} (hl : L.length = M.length) (h : ∀ j : Nat, j < L.length → L.getD j 0 = M.getD j 0) : L = M := by
  apply List.ext_getElem hl
  intro j h1 h2
  have := h j h1
  simpa [h1, h2] using this
theorem getD_ne {L M : List Int} (j : Nat) (h : L.getD j 0 ≠ M.getD j 0) : L ≠ M := fun e => h (by rw [e])
theorem snoc_all {P : Nat → Prop} {k : Nat} (h : ∀ j : Nat, j < k → P j) (hk : P k) : ∀ j : Nat, j < k + 1 → P j := by
  intro j hj
  by_cases e : j = k
  · rw [e]; exact hk
  · exact h j (by omega)
theorem ret_bool' {a b : Bool} (h : a = b) : Ending.returned (.bool a) = .returned (.bool b) := by rw [h]
theorem ret_int' {a b : Int} (h : a = b) : Ending.returned (.int .i64 a) = .returned (.int .i64 b) := by rw [h]
set_option maxHeartbeats 1000000 in
theorem eqInts (v1 v2 : Value) (L1 L2 : List Int) (w : World) (h1 : Ints w v1 L1) (h2 : Ints w v2 L2) :
    Calls Try.prog 90 #[v1, v2] w fun e w' => e = .returned (.bool (decide (L1 = L2))) ∧ Drawn w w' := by
  obtain ⟨m1, a1, cap1, rfl, h1⟩ := h1
  obtain ⟨m2, a2, cap2, rfl, h2⟩ := h2
  by_cases hl : L1.length = L2.length
  · have hlb : ((L1.length : Int) != (L2.length : Int)) = false := by simp; omega
    have Hl := Lib.hid hl
    have H1 := Lib.hid h1
    have H2 := Lib.hid h2
    clear h1 h2 hl
    go_enter Try.func90, Try.ntmps90
    go_wp2_with fail
    go_loopw [5] (fun i wr => ∃ k : Nat, k ≤ L1.length ∧ i = .int .i64 k ∧ (∀ j : Nat, j < k → L1.getD j 0 = L2.getD j 0) ∧ Drawn w wr) (fun i _ => L1.length - (intOf i).toNat)
    case atStart => exact ⟨0, by omega, rfl, fun j hj => by omega, Drawn.refl _⟩
    case round =>
      obtain ⟨k, hk, rfl, hall, hR⟩ := hrel
      have Hall := Lib.hid hall
      clear hall
      by_cases hlt : k < L1.length
      · obtain ⟨n, rfl⟩ := hR
        rcases H1.out with h1 | ⟨g1, off1, rfl, hg1, hc1⟩
        · exact absurd hlt (by rw [h1]; simp)
        rcases H2.out with h2 | ⟨g2, off2, rfl, hg2, hc2⟩
        · have := Hl.out; exact absurd hlt (by rw [h2] at this; simp at this; rw [this]; simp)
        have c1 := hc1 k hlt
        have c2 := hc2 k (by rw [← Hl.out]; exact hlt)
        have hlt2 : (k : Int) < (L2.length : Int) := by rw [← Hl.out]; omega
        have hlt1 : (k : Int) < (L1.length : Int) := by omega
        have hk0 : (0 : Int) ≤ (k : Int) := by omega
        clear hc1 hc2
        have hne := getD_ne (L := L1) (M := L2) k
        obtain ⟨x, hx⟩ : ∃ x, x = L1.getD k 0 := ⟨_, rfl⟩
        obtain ⟨y, hy⟩ : ∃ y, y = L2.getD k 0 := ⟨_, rfl⟩
        rw [← hx] at c1 hne
        rw [← hy] at c2 hne
        have Hx := Lib.hid hx
        have Hy := Lib.hid hy
        have Hne := Lib.hid hne
        clear hx hy hne
        clear H1 H2
        cases hxy : (x != y)
        · have hxy' : x = y := by simpa using hxy
          have Hxy := Lib.hid hxy'
          clear hxy'
          go_wp2_with fail
          go_quiet (fail)
          go_wp2
          go_roundw
          case rel => exact ⟨k + 1, by omega, by go_num, snoc_all Hall.out (by rw [← Hx.out, ← Hy.out, Hxy.out]), ⟨n + nq, by simp⟩⟩
          case measure => simp [intOf]; omega
        · have hxy' : x ≠ y := by simpa using hxy
          have hF := Lib.hid (show decide (L1 = L2) = false by simpa using Hne.out hxy')
          clear hxy'
          go_wp2_with fail
          go_quiet (fail)
          go_wp2
          go_ret
          exact ⟨ret_bool' hF.out.symm, ⟨n + nq, by simp⟩⟩
      · have hkl : k = L1.length := by omega
        have hE := getD_ext Hl.out (fun j hj => Hall.out j (by omega))
        have hT := Lib.hid (show decide (L1 = L2) = true by simpa using hE)
        clear hkl hE H1 H2
        go_wp2
        go_ret
        exact ⟨ret_bool' hT.out.symm, hR⟩
  · have hlb : ((L1.length : Int) != (L2.length : Int)) = true := by simp; omega
    have hF := Lib.hid (show decide (L1 = L2) = false by simp; intro e; exact hl (by rw [e]))
    clear h1 h2 hl
    go_enter Try.func90, Try.ntmps90
    go_wp2_with fail
    go_ret
    exact ⟨ret_bool' hF.out.symm, Drawn.refl _⟩
/-- the numbers k, k + 1, .. -/
def counts (k : Int) (n : Nat) : List Int := (List.range n).map fun j => k + (j : Nat)
theorem counts_len (k : Int) (n : Nat) : (counts k n).length = n := by simp [counts]
theorem counts_getD (k : Int) (n j : Nat) (h : j < n) : (counts k n).getD j 0 = k + j := by simp [counts, h]
/-- the world inside markIntS, behind j rounds: block g bears the numbers, all else is as it was -/
structure MarkR (g off n : Nat) (k : Int) (j : Nat) (w wr : World) : Prop where
  done : ∀ i : Nat, i < j → wr.cell? ⟨g, off + i, none⟩ = some (.int .i64 (k + (i : Nat)))
  rest : ∀ i : Nat, j ≤ i → i < n → ∃ x, wr.cell? ⟨g, off + i, none⟩ = some x
  froz : ∀ a, wr.frozen? a = w.frozen? a
  far : ∀ b, b ≠ g → wr.heap[b]? = w.heap[b]?
  size : wr.heap.size = w.heap.size
  os : wr.os = w.os
  tape : wr.tape = w.tape
  output : wr.output = w.output
theorem MarkR.step {g off n : Nat} {k : Int} {j : Nat} {w wr : World} (h : MarkR g off n k j w wr) (hj : j < n) :
    MarkR g off n k (j + 1) w (wr.setCell ⟨g, off + j, none⟩ (.int .i64 (k + (j : Nat)))) := by
  obtain ⟨x, hx⟩ := h.rest j (Nat.le_refl _) hj
  constructor
  · intro i hi
    by_cases e : i = j
    · subst e; exact World.cell?_setCell_same _ _ _ hx
    · rw [World.cell?_setCell_other _ _ _ _ (by simp <;> omega)]; exact h.done i (by omega)
  · intro i hi hin
    obtain ⟨y, hy⟩ := h.rest i (by omega) hin
    exact ⟨y, by rw [World.cell?_setCell_other _ _ _ _ (by simp <;> omega)]; exact hy⟩
  · intro a; rw [World.frozen?_setCell]; exact h.froz a
  · intro b hb; rw [Below.heap_setCell _ _ _ _ hb]; exact h.far b hb
  · simpa using h.size
  · exact h.os
  · exact h.tape
  · exact h.output
set_option maxHeartbeats 1000000 in
theorem markInts (g off n cap : Nat) (k : Int) (w : World) (hn : n ≤ 281474976710656) (hk0 : 0 ≤ k) (hk1 : k ≤ 4611686018427387904)
    (hc : ∀ i : Nat, i < n → ∃ x, w.cell? ⟨g, off + i, none⟩ = some x) (hf : ∀ i : Nat, i < n → w.frozen? ⟨g, off + i, none⟩ = false) :
    Calls Try.prog 92 #[.slice (some ⟨g, off, none⟩) n cap, .int .i64 k] w fun e w' => e = .returned (.int .i64 (k + (n : Nat))) ∧ MarkR g off n k n w w' := by
  have h0 : MarkR g off n k 0 w w := ⟨fun i hi => by omega, fun i _ hi => hc i hi, fun _ => rfl, fun _ _ => rfl, rfl, rfl, rfl, rfl⟩
  have hF := Lib.hid hf
  clear hc hf
  go_enter Try.func92, Try.ntmps92
  go_wp2_with fail
  go_loopw [1, 5] (fun q i wr => ∃ j : Nat, j ≤ n ∧ i = .int .i64 j ∧ q = .int .i64 (k + (j : Nat)) ∧ MarkR g off n k j w wr) (fun _ i _ => n - (intOf i).toNat)
  case atStart => exact ⟨0, by omega, rfl, by simp, h0⟩
  case round =>
    obtain ⟨j, hj, rfl, rfl, hR⟩ := hrel
    clear h0
    by_cases hlt : j < n
    · obtain ⟨x, hx⟩ := hR.rest j (Nat.le_refl _) hlt
      have hfz : wr.frozen? ⟨g, off + j, none⟩ = false := by rw [hR.froz]; exact hF.out j hlt
      have hS := Lib.hid (hR.step hlt)
      clear hR
      go_wp2
      go_roundw
      case rel => exact ⟨j + 1, by omega, by go_num, by go_num, hS.out⟩
      case measure => simp [intOf]; omega
    · have hjn : j = n := by omega
      subst hjn
      go_wp2
      go_ret
      exact ⟨rfl, hR⟩
theorem markNil (a : Option Addr) (cap : Nat) (k : Int) (w : World) :
    Calls Try.prog 92 #[.slice a 0 cap, .int .i64 k] w fun e w' => e = .returned (.int .i64 k) ∧ w = w' := by
  go_enter Try.func92, Try.ntmps92
  go_wp2_with fail
  go_loop [1, 5] (fun q i => i = .int .i64 0 ∧ q = .int .i64 k) (fun _ _ => 0)
  case atStart => exact ⟨rfl, rfl⟩
  case round =>
    obtain ⟨rfl, rfl⟩ := hrel
    go_wp2
    go_ret
    exact ⟨rfl, rfl⟩
set_option maxHeartbeats 1000000 in
theorem heldInts (g off n cap : Nat) (k : Int) (w : World) (hn : n ≤ 281474976710656) (hk0 : 0 ≤ k) (hk1 : k ≤ 4611686018427387904)
    (hc : ∀ i : Nat, i < n → w.cell? ⟨g, off + i, none⟩ = some (.int .i64 (k + (i : Nat)))) :
    Calls Try.prog 93 #[.slice (some ⟨g, off, none⟩) n cap, .int .i64 k] w fun e w' => e = .returned (.int .i64 (k + (n : Nat))) ∧ w = w' := by
  have hC := Lib.hid hc
  clear hc
  go_enter Try.func93, Try.ntmps93
  go_wp2_with fail
  go_loop [1, 5] (fun q i => ∃ j : Nat, j ≤ n ∧ i = .int .i64 j ∧ q = .int .i64 (k + (j : Nat))) (fun _ i => n - (intOf i).toNat)
  case atStart => exact ⟨0, by omega, rfl, by simp⟩
  case round =>
    obtain ⟨j, hj, rfl, rfl⟩ := hrel
    by_cases hlt : j < n
    · have hx := hC.out j hlt
      have hne : (k + (j : Int) != k + (j : Int)) = false := by simp
      go_wp2
      go_round
      case rel => exact ⟨j + 1, by omega, by go_num, by go_num⟩
      case measure => simp [intOf]; omega
    · have hjn : j = n := by omega
      subst hjn
      go_wp2
      go_ret
      exact ⟨rfl, rfl⟩
theorem heldNil (a : Option Addr) (cap : Nat) (k : Int) (w : World) :
    Calls Try.prog 93 #[.slice a 0 cap, .int .i64 k] w fun e w' => e = .returned (.int .i64 k) ∧ w = w' := by
  go_enter Try.func93, Try.ntmps93
  go_wp2_with fail
  go_loop [1, 5] (fun q i => i = .int .i64 0 ∧ q = .int .i64 k) (fun _ _ => 0)
  case atStart => exact ⟨rfl, rfl⟩
  case round =>
    obtain ⟨rfl, rfl⟩ := hrel
    go_wp2
    go_ret
    exact ⟨rfl, rfl⟩
theorem Drawn.below {w w' : World} (h : Drawn w w') (B : Nat) : Below B w w' := by
  obtain ⟨n, rfl⟩ := h
  exact ⟨rfl, rfl, rfl, Nat.le_refl _, fun _ _ => rfl⟩
theorem Drawn.size {w w' : World} (h : Drawn w w') : w'.heap.size = w.heap.size := by
  obtain ⟨n, rfl⟩ := h; rfl
theorem Ints.below {w w' : World} {v : Value} {L : List Int} (h : Ints w v L) (hb : Below w.heap.size w w') : Ints w' v L := by
  obtain ⟨h1, a, cap, hv, h2⟩ := h
  refine ⟨h1, a, cap, hv, ?_⟩
  rcases h2 with h2 | ⟨g, off, ha, hg, hc⟩
  · exact .inl h2
  · refine .inr ⟨g, off, ha, by have := hb.size; omega, fun j hj => ?_⟩
    rw [hb.cell (p := ⟨g, off + j, none⟩) hg]; exact hc j hj
/-- a slice value of n cells that hold k, k + 1, .., in a block from B on -/
def HeldBy (w : World) (B : Nat) (v : Value) (n : Nat) (k : Int) : Prop :=
  n ≤ 281474976710656 ∧ ∃ a cap, v = .slice a n cap ∧ (n = 0 ∨ ∃ g off, a = some ⟨g, off, none⟩ ∧ B ≤ g ∧ g < w.heap.size ∧ ∀ i : Nat, i < n → w.cell? ⟨g, off + i, none⟩ = some (.int .i64 (k + (i : Nat))))
theorem HeldBy.below {w w' : World} {B : Nat} {v : Value} {n : Nat} {k : Int} (h : HeldBy w B v n k) (hb : Below w.heap.size w w') : HeldBy w' B v n k := by
  obtain ⟨h1, a, cap, hv, h2⟩ := h
  refine ⟨h1, a, cap, hv, ?_⟩
  rcases h2 with h2 | ⟨g, off, ha, hB, hg, hc⟩
  · exact .inl h2
  · refine .inr ⟨g, off, ha, hB, by have := hb.size; omega, fun j hj => ?_⟩
    rw [hb.cell (p := ⟨g, off + j, none⟩) hg]; exact hc j hj
/-- a slice of the call's own, from block B on, that reads as a list of numbers -/
def OwnInts (w : World) (B : Nat) (v : Value) (L : List Int) : Prop :=
  L.length ≤ 281474976710656 ∧ ∃ a cap, v = .slice a L.length cap ∧ (L = [] ∨ ∃ g off, a = some ⟨g, off, none⟩ ∧ B ≤ g ∧ g < w.heap.size ∧ (∀ j, j < L.length → w.cell? ⟨g, off + j, none⟩ = some (.int .i64 (L.getD j 0))) ∧ ∀ j, j < L.length → w.frozen? ⟨g, off + j, none⟩ = false)
theorem OwnInts.ints {w : World} {B : Nat} {v : Value} {L : List Int} (h : OwnInts w B v L) : Ints w v L := by
  obtain ⟨h1, a, cap, hv, h2⟩ := h
  refine ⟨h1, a, cap, hv, ?_⟩
  rcases h2 with h2 | ⟨g, off, ha, _, hg, hc, _⟩
  · exact .inl h2
  · exact .inr ⟨g, off, ha, hg, hc⟩
theorem OwnInts.below {w w' : World} {B : Nat} {v : Value} {L : List Int} (h : OwnInts w B v L) (hb : Below w.heap.size w w') : OwnInts w' B v L := by
  obtain ⟨h1, a, cap, hv, h2⟩ := h
  refine ⟨h1, a, cap, hv, ?_⟩
  rcases h2 with h2 | ⟨g, off, ha, hB, hg, hc, hf⟩
  · exact .inl h2
  · refine .inr ⟨g, off, ha, hB, by have := hb.size; omega, fun j hj => ?_, fun j hj => ?_⟩
    · rw [hb.cell (p := ⟨g, off + j, none⟩) hg]; exact hc j hj
    · rw [hb.frozen (p := ⟨g, off + j, none⟩) hg]; exact hf j hj
theorem own_of_row {w : World} {B : Nat} {e : TypeId} {v : Value} {L : List Int} (h : w.ownsRow B e 1 v L.length (L.map (Value.int .i64))) (hle : L.length ≤ 281474976710656) : OwnInts w B v L := by
  have hl := h.lt
  have h0 := h
  obtain ⟨h1, h2⟩ := h
  rcases h2 with ⟨rfl, h2⟩ | ⟨g, cap, cur, rfl, hg, hh, hn, _, _, _⟩
  · refine ⟨hle, none, 0, by rw [h2], .inl (List.length_eq_zero_iff.1 h2)⟩
  · refine ⟨hle, _, cap, rfl, .inr ⟨g, 0, rfl, hg, (hl g rfl).2, fun j hj => ?_, fun j hj => ?_⟩⟩
    · rw [Nat.zero_add, h0.cellAt j (by omega)]; simp [hj]
    · rw [Nat.zero_add]; exact h0.frozenAt j
theorem markOwn (v : Value) (L : List Int) (B : Nat) (k : Int) (w : World) (h : OwnInts w B v L) (hk0 : 0 ≤ k) (hk1 : k ≤ 4611686018427387904) :
    Calls Try.prog 92 #[v, .int .i64 k] w fun e w' => e = .returned (.int .i64 (k + (L.length : Nat))) ∧ HeldBy w' B v L.length k ∧ Below B w w' ∧ w'.heap.size = w.heap.size := by
  obtain ⟨h1, a, cap, rfl, h2⟩ := h
  rcases h2 with rfl | ⟨g, off, rfl, hB, hg, hc, hf⟩
  · refine (markNil a cap k w).mono ?_
    rintro e w' ⟨rfl, rfl⟩
    exact ⟨by simp, ⟨by simp, a, cap, rfl, .inl rfl⟩, Below.refl _ _, rfl⟩
  · refine (markInts g off L.length cap k w h1 hk0 hk1 (fun i hi => ⟨_, hc i hi⟩) hf).mono ?_
    rintro e w' ⟨rfl, hM⟩
    refine ⟨rfl, ⟨h1, _, cap, rfl, .inr ⟨g, off, rfl, hB, by rw [hM.size]; exact hg, hM.done⟩⟩, ⟨hM.os, hM.tape, hM.output, by rw [hM.size]; exact Nat.le_refl _, fun b hb => hM.far b (by omega)⟩, hM.size⟩
theorem heldOwn (v : Value) (n : Nat) (B : Nat) (k : Int) (w : World) (h : HeldBy w B v n k) (hk0 : 0 ≤ k) (hk1 : k ≤ 4611686018427387904) :
    Calls Try.prog 93 #[v, .int .i64 k] w fun e w' => e = .returned (.int .i64 (k + (n : Nat))) ∧ w = w' := by
  obtain ⟨h1, a, cap, rfl, h2⟩ := h
  rcases h2 with rfl | ⟨g, off, rfl, hB, hg, hc⟩
  · refine (heldNil a cap k w).mono ?_
    rintro e w' ⟨rfl, rfl⟩
    exact ⟨by simp, rfl⟩
  · exact heldInts g off n cap k w h1 hk0 hk1 hc
end Go.Proofs.Ytlcmddghppdmgaa
namespace Go.Proofs.Ytlcmddghppdmgaa
set_option linter.unusedVariables false
open Go.RowKit
/-- the row i of a matrix -/
def rowM (M : List (List Int)) (i : Nat) : List Int := M.getD i []
theorem rw_set_self {M : List (List Int)} {i : Nat} (h : i < M.length) (r : List Int) : rowM (M.set i r) i = r := by
  simp [rowM, List.getD_eq_getElem?_getD, h]
theorem rw_set_ne {M : List (List Int)} {i j : Nat} (h : j ≠ i) (r : List Int) : rowM (M.set i r) j = rowM M j := by
  simp [rowM, List.getD_eq_getElem?_getD, Ne.symm h]
theorem rw_snoc_old {M : List (List Int)} {i : Nat} (h : i < M.length) (r : List Int) : rowM (M ++ [r]) i = rowM M i := by
  unfold rowM; rw [List.getD_eq_getElem?_getD, List.getElem?_append_left h, ← List.getD_eq_getElem?_getD]
theorem rw_snoc_new (M : List (List Int)) (r : List Int) : rowM (M ++ [r]) M.length = r := by
  simp [rowM, List.getD_eq_getElem?_getD]
/-- the numbers of a matrix's elements, of the first rows -/
def cntT (M : List (List Int)) : Nat → Nat
  | 0 => 0
  | i + 1 => cntT M i + (rowM M i).length
def cnt (M : List (List Int)) : Nat := cntT M M.length
theorem cntT_mono (M : List (List Int)) (i : Nat) : ∀ j, cntT M i ≤ cntT M (i + j)
  | 0 => Nat.le_refl _
  | j + 1 => Nat.le_trans (cntT_mono M i j) (by show _ ≤ cntT M (i + j) + _; omega)
theorem cntT_le {M : List (List Int)} {i j : Nat} (h : i ≤ j) : cntT M i ≤ cntT M j := by
  have := cntT_mono M i (j - i)
  rwa [show i + (j - i) = j by omega] at this
theorem row_le {M : List (List Int)} {i : Nat} (h : i < M.length) : (rowM M i).length ≤ cnt M := by
  have := cntT_le (M := M) (show i + 1 ≤ M.length by omega)
  have e : cntT M (i + 1) = cntT M i + (rowM M i).length := rfl
  unfold cnt; omega
/-- a slice that reads as a list of numbers, of whatever length -/
def IntsR (w : World) (v : Value) (L : List Int) : Prop :=
  L.length ≤ 9223372036854775807 ∧ ∃ a cap, v = .slice a L.length cap ∧ (L = [] ∨ ∃ g off, a = some ⟨g, off, none⟩ ∧ g < w.heap.size ∧ ∀ j, j < L.length → w.cell? ⟨g, off + j, none⟩ = some (.int .i64 (L.getD j 0)))
theorem IntsR.ints {w : World} {v : Value} {L : List Int} (h : IntsR w v L) (hl : L.length ≤ 281474976710656) : Ints w v L := ⟨hl, h.2⟩
/-- a slice value is no longer than its capacity -/
def CapOK : Value → Prop
  | .slice _ l c => l ≤ c
  | _ => False
/-- a matrix that came in, of whatever size -/
def RowM (w : World) (a : Option Addr) (len : Nat) (M : List (List Int)) : Prop :=
  M.length = len ∧ len ≤ 9223372036854775807 ∧ (M = [] ∨ ∃ g off, a = some ⟨g, off, none⟩ ∧ g < w.heap.size ∧ ∀ i, i < M.length → ∃ u, w.cell? ⟨g, off + i, none⟩ = some u ∧ IntsR w u (rowM M i) ∧ CapOK u)
/-- a value that reads as a matrix -/
def Mat (w : World) (v : Value) (M : List (List Int)) : Prop :=
  M.length ≤ 1048576 ∧ cnt M ≤ 1048576 ∧ ∃ a cap, v = .slice a M.length cap ∧ (M = [] ∨ ∃ g off, a = some ⟨g, off, none⟩ ∧ g < w.heap.size ∧ ∀ i, i < M.length → ∃ u, w.cell? ⟨g, off + i, none⟩ = some u ∧ Ints w u (rowM M i) ∧ CapOK u)
theorem RowM.mat {w : World} {a : Option Addr} {len cap : Nat} {M : List (List Int)} (h : RowM w a len M) (hl : len + cnt M ≤ 1048576) : Mat w (.slice a len cap) M := by
  obtain ⟨h1, _, h2⟩ := h
  refine ⟨by omega, by omega, a, cap, by rw [h1], ?_⟩
  rcases h2 with h2 | ⟨g, off, ha, hg, hc⟩
  · exact .inl h2
  · refine .inr ⟨g, off, ha, hg, fun i hi => ?_⟩
    obtain ⟨u, hu, hr, hk⟩ := hc i hi
    have := row_le hi
    exact ⟨u, hu, hr.ints (by omega), hk⟩
theorem Mat.below {w w' : World} {v : Value} {M : List (List Int)} (h : Mat w v M) (hb : Below w.heap.size w w') : Mat w' v M := by
  obtain ⟨h1, h2, a, cap, hv, h3⟩ := h
  refine ⟨h1, h2, a, cap, hv, ?_⟩
  rcases h3 with h3 | ⟨g, off, ha, hg, hc⟩
  · exact .inl h3
  · refine .inr ⟨g, off, ha, Nat.lt_of_lt_of_le hg hb.size, fun i hi => ?_⟩
    obtain ⟨u, hu, hr, hk⟩ := hc i hi
    exact ⟨u, by rw [hb.cell (p := ⟨g, off + i, none⟩) hg]; exact hu, hr.below hb, hk⟩
/-- rows of numbers of one's own: their heads lie at block g from off on; row i lies at block H i from O i on -/
structure OMat (w : World) (B g off : Nat) (H O : Nat → Nat) (M : List (List Int)) : Prop where
  bg : B ≤ g
  gl : g < w.heap.size
  rd : ∀ i, i < M.length → ∃ a cap, w.cell? ⟨g, off + i, none⟩ = some (.slice a (rowM M i).length cap) ∧ ((rowM M i).length ≤ 281474976710656 ∧ (rowM M i).length ≤ cap) ∧
    (rowM M i = [] ∨ (a = some ⟨H i, O i, none⟩ ∧ B ≤ H i ∧ H i < w.heap.size ∧ H i ≠ g ∧ (∀ j, j < (rowM M i).length → w.cell? ⟨H i, O i + j, none⟩ = some (.int .i64 ((rowM M i).getD j 0))) ∧ ∀ j, j < (rowM M i).length → w.frozen? ⟨H i, O i + j, none⟩ = false))
  ap : ∀ i j k l, i < M.length → j < M.length → i ≠ j → k < (rowM M i).length → l < (rowM M j).length → H i = H j → O i + k ≠ O j + l
  fz : ∀ i, i < M.length → w.frozen? ⟨g, off + i, none⟩ = false
/-- a matrix of one's own, from block B on -/
def OwnMat (w : World) (B : Nat) (v : Value) (M : List (List Int)) : Prop :=
  M.length ≤ 1048576 ∧ cnt M ≤ 1048576 ∧ ∃ a cap, v = .slice a M.length cap ∧ (M = [] ∨ ∃ g off H O, a = some ⟨g, off, none⟩ ∧ OMat w B g off H O M)
theorem OMat.ints {w : World} {B g off i : Nat} {H O : Nat → Nat} {M : List (List Int)} (h : OMat w B g off H O M) (hi : i < M.length) : ∃ u, w.cell? ⟨g, off + i, none⟩ = some u ∧ OwnInts w B u (rowM M i) ∧ CapOK u := by
  obtain ⟨a, cap, h1, h2, h3⟩ := h.rd i hi
  refine ⟨_, h1, ⟨h2.1, a, cap, rfl, ?_⟩, h2.2⟩
  rcases h3 with h3 | ⟨ha, hB, hl, _, hc, hf⟩
  · exact .inl h3
  · exact .inr ⟨_, _, ha, hB, hl, hc, hf⟩
theorem OwnMat.mat {w : World} {B : Nat} {v : Value} {M : List (List Int)} (h : OwnMat w B v M) : Mat w v M := by
  obtain ⟨h1, h2, a, cap, hv, h3⟩ := h
  refine ⟨h1, h2, a, cap, hv, ?_⟩
  rcases h3 with h3 | ⟨g, off, H, O, ha, hm⟩
  · exact .inl h3
  · refine .inr ⟨g, off, ha, hm.gl, fun i hi => ?_⟩
    obtain ⟨u, hu, ho, hk⟩ := hm.ints hi
    exact ⟨u, hu, ho.ints, hk⟩
/-- the blocks that a matrix lies in are as they were -/
theorem lt_of_heap {w w' : World} {g : Nat} (h : g < w.heap.size) (e : w'.heap[g]? = w.heap[g]?) : g < w'.heap.size := by
  rw [Array.getElem?_eq_getElem h] at e
  exact (Array.getElem?_eq_some_iff.1 e).1
theorem OMat.same {w w' : World} {B g off : Nat} {H O : Nat → Nat} {M : List (List Int)} (h : OMat w B g off H O M) (hg : w'.heap[g]? = w.heap[g]?) (hh : ∀ i, i < M.length → rowM M i ≠ [] → w'.heap[H i]? = w.heap[H i]?) : OMat w' B g off H O M := by
  refine ⟨h.bg, lt_of_heap h.gl hg, fun i hi => ?_, h.ap, fun i hi => by rw [World.frozen?_of_block (a := ⟨g, off + i, none⟩) hg]; exact h.fz i hi⟩
  obtain ⟨a, cap, h1, h2, h3⟩ := h.rd i hi
  refine ⟨a, cap, by rw [World.cell?_of_block (a := ⟨g, off + i, none⟩) hg]; exact h1, h2, ?_⟩
  by_cases he : rowM M i = []
  · exact .inl he
  · rcases h3 with h3 | ⟨ha, hB, hl, hn, hc, hf⟩
    · exact absurd h3 he
    · have e := hh i hi he
      exact .inr ⟨ha, hB, lt_of_heap hl e, hn, fun j hj => by rw [World.cell?_of_block (a := ⟨H i, O i + j, none⟩) e]; exact hc j hj, fun j hj => by rw [World.frozen?_of_block (a := ⟨H i, O i + j, none⟩) e]; exact hf j hj⟩
theorem OMat.hl {w : World} {B g off i : Nat} {H O : Nat → Nat} {M : List (List Int)} (h : OMat w B g off H O M) (hi : i < M.length) (hn : rowM M i ≠ []) : B ≤ H i ∧ H i < w.heap.size ∧ H i ≠ g := by
  obtain ⟨a, cap, h1, h2, h3⟩ := h.rd i hi
  rcases h3 with h3 | ⟨_, hB, hl, hg, _⟩
  · exact absurd h3 hn
  · exact ⟨hB, hl, hg⟩
theorem OMat.below {w w' : World} {B g off : Nat} {H O : Nat → Nat} {M : List (List Int)} (h : OMat w B g off H O M) (hb : Below w.heap.size w w') : OMat w' B g off H O M :=
  h.same (hb.block g h.gl) (fun _ hi hn => hb.block _ (h.hl hi hn).2.1)
theorem OwnMat.below {w w' : World} {B : Nat} {v : Value} {M : List (List Int)} (h : OwnMat w B v M) (hb : Below w.heap.size w w') : OwnMat w' B v M := by
  obtain ⟨h1, h2, a, cap, hv, h3⟩ := h
  refine ⟨h1, h2, a, cap, hv, ?_⟩
  rcases h3 with h3 | ⟨g, off, H, O, ha, hm⟩
  · exact .inl h3
  · exact .inr ⟨g, off, H, O, ha, hm.below hb⟩
theorem OMat.base {w : World} {B B' g off : Nat} {H O : Nat → Nat} {M : List (List Int)} (h : OMat w B g off H O M) (hB : B' ≤ B) : OMat w B' g off H O M := by
  refine ⟨Nat.le_trans hB h.bg, h.gl, fun i hi => ?_, h.ap, h.fz⟩
  obtain ⟨a, cap, h1, h2, h3⟩ := h.rd i hi
  refine ⟨a, cap, h1, h2, ?_⟩
  rcases h3 with h3 | ⟨ha, hb, r⟩
  · exact .inl h3
  · exact .inr ⟨ha, Nat.le_trans hB hb, r⟩
theorem OwnMat.base {w : World} {B B' : Nat} {v : Value} {M : List (List Int)} (h : OwnMat w B v M) (hB : B' ≤ B) : OwnMat w B' v M := by
  obtain ⟨h1, h2, a, cap, hv, h3⟩ := h
  refine ⟨h1, h2, a, cap, hv, ?_⟩
  rcases h3 with h3 | ⟨g, off, H, O, ha, hm⟩
  · exact .inl h3
  · exact .inr ⟨g, off, H, O, ha, hm.base hB⟩
theorem OwnMat.nil (w : World) (B : Nat) (a : Option Addr) (cap : Nat) : OwnMat w B (.slice a 0 cap) [] :=
  ⟨Nat.zero_le _, Nat.zero_le _, a, cap, rfl, .inl rfl⟩
/-- the cells of a row turn to those of another one of the same length, and nothing else -/
theorem OMat.row {w w' : World} {B g off i : Nat} {H O : Nat → Nat} {M : List (List Int)} (h : OMat w B g off H O M) (hi : i < M.length) (r : List Int) (hr : r.length = (rowM M i).length) (hs : w'.heap.size = w.heap.size)
    (hf : ∀ a, w'.frozen? a = w.frozen? a) (hd : ∀ j, j < r.length → w'.cell? ⟨H i, O i + j, none⟩ = some (.int .i64 (r.getD j 0))) (ho : ∀ p : Addr, (∀ j, j < r.length → p ≠ ⟨H i, O i + j, none⟩) → w'.cell? p = w.cell? p) :
    OMat w' B g off H O (M.set i r) := by
  refine ⟨h.bg, by rw [hs]; exact h.gl, fun i2 hi2 => ?_, ?_, fun i2 hi2 => by rw [hf]; exact h.fz i2 (by simpa using hi2)⟩
  · have hi2 : i2 < M.length := by simpa using hi2
    by_cases e : i2 = i
    · subst e
      rw [rw_set_self hi]
      obtain ⟨a, cap, h1, h2, h3⟩ := h.rd i2 hi
      refine ⟨a, cap, ?_, by rw [hr]; exact h2, ?_⟩
      · rw [ho]
        · rw [hr]; exact h1
        · intro j hj ee
          have hne : rowM M i2 ≠ [] := fun e0 => by rw [hr, e0] at hj; simp at hj
          have := (h.hl hi hne).2.2
          injection ee with e1 e2 e3
          exact this e1.symm
      · rcases h3 with h3 | ⟨ha, hB, hl, hn, hc, hfz⟩
        · left; exact List.eq_nil_of_length_eq_zero (by rw [hr, h3]; rfl)
        · right
          exact ⟨ha, hB, by rw [hs]; exact hl, hn, hd, fun j hj => by rw [hf]; exact hfz j (by omega)⟩
    · rw [rw_set_ne e]
      obtain ⟨a, cap, h1, h2, h3⟩ := h.rd i2 hi2
      refine ⟨a, cap, ?_, h2, ?_⟩
      · rw [ho]
        · exact h1
        · intro j hj ee
          have hne : rowM M i ≠ [] := fun e0 => by rw [hr, e0] at hj; simp at hj
          have := (h.hl hi hne).2.2
          injection ee with e1 e2 e3
          exact this e1.symm
      · rcases h3 with h3 | ⟨ha, hB, hl, hn, hc, hfz⟩
        · exact .inl h3
        · right
          refine ⟨ha, hB, by rw [hs]; exact hl, hn, fun j hj => ?_, fun j hj => by rw [hf]; exact hfz j hj⟩
          rw [ho]
          · exact hc j hj
          · intro k hk ee
            injection ee with e1 e2 e3
            exact h.ap i2 i j k hi2 hi e hj (by omega) e1 e2
  · intro i2 j2 k l h1 h2 hne hk hl hH
    have h1 : i2 < M.length := by simpa using h1
    have h2 : j2 < M.length := by simpa using h2
    have L : ∀ q, (rowM (M.set i r) q).length = (rowM M q).length := fun q => by
      by_cases e : q = i
      · subst e; rw [rw_set_self hi, hr]
      · rw [rw_set_ne e]
    rw [L] at hk hl
    exact h.ap i2 j2 k l h1 h2 hne hk hl hH
/-- one element is set -/
theorem OMat.set {w : World} {B g off i k : Nat} {H O : Nat → Nat} {M : List (List Int)} (h : OMat w B g off H O M) (hi : i < M.length) (hk : k < (rowM M i).length) (x : Int) :
    OMat (w.setCell ⟨H i, O i + k, none⟩ (.int .i64 x)) B g off H O (M.set i ((rowM M i).set k x)) := by
  obtain ⟨a, cap, h1, h2, h3⟩ := h.rd i hi
  rcases h3 with h3 | ⟨ha, hB, hl, hn, hc, hf⟩
  · rw [h3] at hk; simp at hk
  · refine h.row hi _ (by simp) (by simp) (fun a => World.frozen?_setCell ..) (fun j hj => ?_) (fun p hp => ?_)
    · have hj' : j < (rowM M i).length := by simpa using hj
      by_cases e : j = k
      · subst e
        rw [World.cell?_setCell_same _ _ _ (hc j hj')]
        simp [List.getD_eq_getElem?_getD, hj']
      · rw [World.cell?_setCell_other _ _ _ _ (by simp <;> omega), hc j hj']
        simp [List.getD_eq_getElem?_getD, Ne.symm e]
    · exact World.cell?_setCell_other _ _ _ _ (hp k (by simpa using hk)).symm
/-- a head is stored: one row more -/
theorem OMat.push {w : World} {B g off : Nat} {H O : Nat → Nat} {M : List (List Int)} (h : OMat w B g off H O M) {x : Value} (hx : w.cell? ⟨g, off + M.length, none⟩ = some x) (hfz : w.frozen? ⟨g, off + M.length, none⟩ = false) (a : Option Addr) (r : List Int) (cap h' o' : Nat) (hr : r.length ≤ 281474976710656 ∧ r.length ≤ cap)
    (hd : r = [] ∨ (a = some ⟨h', o', none⟩ ∧ B ≤ h' ∧ h' < w.heap.size ∧ h' ≠ g ∧ (∀ j, j < r.length → w.cell? ⟨h', o' + j, none⟩ = some (.int .i64 (r.getD j 0))) ∧ ∀ j, j < r.length → w.frozen? ⟨h', o' + j, none⟩ = false))
    (hap : ∀ i k l, i < M.length → k < (rowM M i).length → l < r.length → H i = h' → O i + k ≠ o' + l) :
    OMat (w.setCell ⟨g, off + M.length, none⟩ (.slice a r.length cap)) B g off (fun i => if i < M.length then H i else h') (fun i => if i < M.length then O i else o') (M ++ [r]) := by
  refine ⟨h.bg, by simpa using h.gl, fun i hi => ?_, ?_, fun i hi => by
    rw [World.frozen?_setCell]
    by_cases e : i < M.length
    · exact h.fz i e
    · rw [show i = M.length by simp at hi; omega]; exact hfz⟩
  · by_cases e : i < M.length
    · rw [rw_snoc_old e, if_pos e, if_pos e]
      obtain ⟨b, c, h1, h2, h3⟩ := h.rd i e
      refine ⟨b, c, by rw [World.cell?_setCell_other _ _ _ _ (by simp <;> omega)]; exact h1, h2, ?_⟩
      rcases h3 with h3 | ⟨ha, hB, hl, hn, hc, hf⟩
      · exact .inl h3
      · exact .inr ⟨ha, hB, by simpa using hl, hn, fun j hj => by rw [World.cell?_setCell_other _ _ _ _ (by intro ee; injection ee with e1; exact hn e1.symm)]; exact hc j hj, fun j hj => by rw [World.frozen?_setCell]; exact hf j hj⟩
    · have : i = M.length := by simp at hi; omega
      subst this
      rw [rw_snoc_new, if_neg e, if_neg e]
      refine ⟨a, cap, World.cell?_setCell_same _ _ _ hx, hr, ?_⟩
      rcases hd with hd | ⟨ha, hB, hl, hn, hc, hf⟩
      · exact .inl hd
      · exact .inr ⟨ha, hB, by simpa using hl, hn, fun j hj => by rw [World.cell?_setCell_other _ _ _ _ (by intro ee; injection ee with e1; exact hn e1.symm)]; exact hc j hj, fun j hj => by rw [World.frozen?_setCell]; exact hf j hj⟩
  · intro i j k l hi hj hne hk hl hH
    have hi : i < M.length + 1 := by simpa using hi
    have hj : j < M.length + 1 := by simpa using hj
    by_cases ei : i < M.length
    · rw [rw_snoc_old ei] at hk
      simp only [ei, if_true] at hH ⊢
      by_cases ej : j < M.length
      · rw [rw_snoc_old ej] at hl
        simp only [ej, if_true] at hH ⊢
        exact h.ap i j k l ei ej hne hk hl hH
      · have : j = M.length := by omega
        subst this
        rw [rw_snoc_new] at hl
        simp only [Nat.lt_irrefl, if_false] at hH ⊢
        exact hap i k l ei hk hl hH
    · have : i = M.length := by omega
      subst this
      rw [rw_snoc_new] at hk
      have ej : j < M.length := by omega
      rw [rw_snoc_old ej] at hl
      simp only [Nat.lt_irrefl, if_false, ej, if_true] at hH ⊢
      exact fun e => hap j l k ej hl hk hH.symm e.symm
/-- a head is stored: one row more, where the blocks are told ahead -/
theorem OMat.push2 {w : World} {B g off : Nat} {H O : Nat → Nat} {M : List (List Int)} (h : OMat w B g off H O M) {x : Value} (hx : w.cell? ⟨g, off + M.length, none⟩ = some x) (hfz : w.frozen? ⟨g, off + M.length, none⟩ = false) (r : List Int) (cap : Nat) (hr : r.length ≤ 281474976710656 ∧ r.length ≤ cap)
    (hB : B ≤ H M.length) (hl : H M.length < w.heap.size) (hn : H M.length ≠ g) (hc : ∀ j, j < r.length → w.cell? ⟨H M.length, O M.length + j, none⟩ = some (.int .i64 (r.getD j 0))) (hf : ∀ j, j < r.length → w.frozen? ⟨H M.length, O M.length + j, none⟩ = false)
    (hap : ∀ i k l, i < M.length → k < (rowM M i).length → l < r.length → H i = H M.length → O i + k ≠ O M.length + l) :
    OMat (w.setCell ⟨g, off + M.length, none⟩ (.slice (some ⟨H M.length, O M.length, none⟩) r.length cap)) B g off H O (M ++ [r]) := by
  have hp := h.push hx hfz (some ⟨H M.length, O M.length, none⟩) r cap (H M.length) (O M.length) hr (.inr ⟨rfl, hB, hl, hn, hc, hf⟩) hap
  refine ⟨hp.bg, hp.gl, fun i hi => ?_, fun i j k l hi hj hne hk hl hH => ?_, hp.fz⟩
  · have := hp.rd i hi
    have hi2 : i < M.length + 1 := by simpa using hi
    by_cases e : i < M.length
    · simpa only [if_pos e] using this
    · have : i = M.length := by omega
      subst this
      simpa only [Nat.lt_irrefl, if_false] using this
  · have hi2 : i < M.length + 1 := by simpa using hi
    have hj2 : j < M.length + 1 := by simpa using hj
    have := hp.ap i j k l hi hj hne hk hl
    have eH : ∀ q, q < M.length + 1 → (if q < M.length then H q else H M.length) = H q := fun q hq => by
      by_cases e : q < M.length
      · rw [if_pos e]
      · rw [if_neg e, show q = M.length by omega]
    have eO : ∀ q, q < M.length + 1 → (if q < M.length then O q else O M.length) = O q := fun q hq => by
      by_cases e : q < M.length
      · rw [if_pos e]
      · rw [if_neg e, show q = M.length by omega]
    simp only [eH i hi2, eH j hj2, eO i hi2, eO j hj2] at this
    exact this hH
theorem OMat.nil' {w : World} {B g off : Nat} {H O : Nat → Nat} (hB : B ≤ g) (hg : g < w.heap.size) : OMat w B g off H O [] :=
  ⟨hB, hg, fun i hi => by simp at hi, fun i j k l hi => by simp at hi, fun i hi => by simp at hi⟩
theorem OMat.nil {w : World} {B g off : Nat} (hB : B ≤ g) (hg : g < w.heap.size) : OMat w B g off (fun _ => 0) (fun _ => 0) [] :=
  ⟨hB, hg, fun i hi => by simp at hi, fun i j k l hi => by simp at hi, fun i hi => by simp at hi⟩
end Go.Proofs.Ytlcmddghppdmgaa
namespace Go.Proofs.Ytlcmddghppdmgaa
set_option linter.unusedVariables false
open Go.RowKit
theorem infoIn : (Try.prog.info? 3).map (fun i => (i.zero, i.size, i.bytes)) = some (some (.int .i64 0), 1, 8) := by kernel_rfl
theorem infoIS : (Try.prog.info? 62).map (fun i => (i.zero, i.size, i.bytes)) = some (some (.slice none 0 0), 1, 24) := by kernel_rfl
theorem adr_ne {b b' o o' : Nat} (h : b ≠ b' ∨ o ≠ o') : (⟨b, o, none⟩ : Addr) ≠ ⟨b', o', none⟩ := by
  rintro ⟨⟩; rcases h with h | h <;> exact h rfl
theorem made_any (z0 : Array Value) (n i : Nat) (h : i < n) : ∃ u, (madeCells z0 n).toList[i]? = some u := by
  have : i < (madeCells z0 n).toList.length := by simp [size_madeCells, h]
  exact ⟨_, List.getElem?_eq_getElem this⟩
theorem szI (a : Option Addr) (n cap : Nat) (m : Int) (w : World) (hm0 : 0 ≤ m) (hm1 : m ≤ 1048576) (hn : (n : Int) ≤ 9223372036854775807) :
    Calls Try.prog 107 #[.slice a n cap, .int .i64 m] w fun e w' => e = .returned (.int .i64 (if m < n then -1 else m - n)) ∧ w = w' := by
  by_cases h : m < (n : Int)
  · rw [if_pos h]
    go_enter Try.func107, Try.ntmps107
    go_wp2
    go_ret
    exact ⟨rfl, rfl⟩
  · rw [if_neg h]
    go_enter Try.func107, Try.ntmps107
    go_wp2
    go_ret
    exact ⟨rfl, rfl⟩
set_option maxHeartbeats 2000000 in
theorem szM_at (a : Option Addr) (M : List (List Int)) (cap : Nat) (m : Int) (w : World) (h : Mat w (.slice a M.length cap) M) (h0 : 0 ≤ m) (h1 : m ≤ 1048576) (h2 : (M.length : Int) + (cnt M : Int) ≤ m) :
    Calls Try.prog 37 #[.slice a M.length cap, .int .i64 m] w fun e w' => e = .returned (.int .i64 (m - ((M.length : Int) + (cnt M : Int)))) ∧ w = w' := by
  obtain ⟨_, _, a', cap', hv, h3⟩ := h
  have ha : a' = a := by injection hv with e1; exact e1.symm
  subst ha
  have HD := Lib.hid h3
  clear h3 hv
  go_enter Try.func37, Try.ntmps37
  go_wp2_with fail
  go_loop [1, 5] (fun q i => ∃ j : Nat, j ≤ M.length ∧ i = .int .i64 j ∧ q = .int .i64 (m - (M.length : Int) - (cntT M j : Int))) (fun _ i => M.length - (intOf i).toNat)
  case atStart => exact ⟨0, by omega, rfl, by simp [cntT]⟩
  case round =>
    obtain ⟨j, hj, rfl, rfl⟩ := hrel
    have hc1 := cntT_le (M := M) hj
    have hcn : cnt M = cntT M M.length := rfl
    by_cases hlt : j < M.length
    · have hltp : (j : Int) < (M.length : Int) := by omega
      have hj0 : (0 : Int) ≤ (j : Int) := by omega
      rcases HD.out with h | ⟨g, off, rfl, hg, hc⟩
      · rw [h] at hlt; simp at hlt
      obtain ⟨u, hu, ⟨hle, b, c, rfl, _⟩, _⟩ := hc j hlt
      have hcs : cntT M (j + 1) = cntT M j + (rowM M j).length := rfl
      have hc2 := cntT_le (M := M) (show j + 1 ≤ M.length by omega)
      obtain ⟨n, hn⟩ : ∃ n, n = (rowM M j).length := ⟨_, rfl⟩
      rw [← hn] at hu hcs
      have hS := szI b n c (m - (M.length : Int) - (cntT M j : Int)) w (by omega) (by omega) (by omega)
      rw [if_neg (by omega)] at hS
      have HS := Lib.hid hS
      have HN := Lib.hid hn
      have HE := Lib.hid (show m - (M.length : Int) - (cntT M j : Int) - (n : Int) = m - (M.length : Int) - (cntT M (j + 1) : Int) by omega)
      have hge : ¬ m - (M.length : Int) - (cntT M j : Int) - (n : Int) < 0 := by omega
      clear hS hn hcs hc hc1 hc2 hcn hle
      go_wp2_with fail
      refine HS.out.mono ?_
      rintro e w' ⟨rfl, rfl⟩
      go_wp2
      go_round
      case rel => exact ⟨j + 1, by omega, by go_num, by rw [← HE.out]⟩
      case measure => simp [intOf]; omega
    · have hjl : j = M.length := by omega
      subst hjl
      go_wp2
      go_ret
      exact ⟨ret_int' (by have := hcn; omega), rfl⟩
set_option maxHeartbeats 2000000 in
theorem szM_over (a : Option Addr) (n cap : Nat) (M : List (List Int)) (m : Int) (w : World) (h : RowM w a n M) (h0 : 0 ≤ m) (h1 : m ≤ 1048576) (h2 : m < (n : Int) + (cnt M : Int)) :
    Calls Try.prog 37 #[.slice a n cap, .int .i64 m] w fun e w' => e = .returned (.int .i64 (-1)) ∧ w = w' := by
  obtain ⟨rfl, hb, h3⟩ := h
  by_cases hbig : m < (M.length : Int)
  · clear h3 h2
    go_enter Try.func37, Try.ntmps37
    go_wp2
    go_ret
    exact ⟨rfl, rfl⟩
  · have HD := Lib.hid h3
    have H2 := Lib.hid h2
    clear h3 h2
    go_enter Try.func37, Try.ntmps37
    go_wp2_with fail
    go_loop [1, 5] (fun q i => ∃ j : Nat, j ≤ M.length ∧ i = .int .i64 j ∧ (cntT M j : Int) ≤ m - (M.length : Int) ∧ q = .int .i64 (m - (M.length : Int) - (cntT M j : Int))) (fun _ i => M.length - (intOf i).toNat)
    case atStart => exact ⟨0, by omega, rfl, by simp [cntT]; omega, by simp [cntT]⟩
    case round =>
      obtain ⟨j, hj, rfl, hle, rfl⟩ := hrel
      by_cases hlt : j < M.length
      · have hltp : (j : Int) < (M.length : Int) := by omega
        have hj0 : (0 : Int) ≤ (j : Int) := by omega
        rcases HD.out with h | ⟨g, off, rfl, hg, hc⟩
        · rw [h] at hlt; simp at hlt
        obtain ⟨u, hu, ⟨hlen, b, c, rfl, _⟩, _⟩ := hc j hlt
        have hcs : cntT M (j + 1) = cntT M j + (rowM M j).length := rfl
        obtain ⟨n, hn⟩ : ∃ n, n = (rowM M j).length := ⟨_, rfl⟩
        rw [← hn] at hu hcs hlen
        have hS := szI b n c (m - (M.length : Int) - (cntT M j : Int)) w (by omega) (by omega) (by omega)
        by_cases hbg : m - (M.length : Int) - (cntT M j : Int) < (n : Int)
        · rw [if_pos hbg] at hS
          have HS := Lib.hid hS
          clear hS hn hcs hc hbg hlen hle
          go_wp2_with fail
          refine HS.out.mono ?_
          rintro e w' ⟨rfl, rfl⟩
          go_wp2
          go_ret
          exact ⟨rfl, rfl⟩
        · rw [if_neg hbg] at hS
          have HS := Lib.hid hS
          have HE := Lib.hid (show m - (M.length : Int) - (cntT M j : Int) - (n : Int) = m - (M.length : Int) - (cntT M (j + 1) : Int) ∧ (cntT M (j + 1) : Int) ≤ m - (M.length : Int) by omega)
          have hge : ¬ m - (M.length : Int) - (cntT M j : Int) - (n : Int) < 0 := by omega
          clear hS hn hcs hc hbg
          go_wp2_with fail
          refine HS.out.mono ?_
          rintro e w' ⟨rfl, rfl⟩
          go_wp2
          go_round
          case rel => exact ⟨j + 1, by omega, by go_num, HE.out.2, by rw [← HE.out.1]⟩
          case measure => simp [intOf]; omega
      · have hjl : j = M.length := by omega
        subst hjl
        have := H2.out
        unfold cnt at this
        omega
/-- the world behind j marks: nothing but the marked cells has turned -/
structure MarkC (g off n : Nat) (k : Int) (j : Nat) (w wr : World) : Prop where
  done : ∀ i : Nat, i < j → wr.cell? ⟨g, off + i, none⟩ = some (.int .i64 (k + (i : Nat)))
  other : ∀ p : Addr, (∀ i, i < j → p ≠ ⟨g, off + i, none⟩) → wr.cell? p = w.cell? p
  froz : ∀ a, wr.frozen? a = w.frozen? a
  far : ∀ b, b ≠ g → wr.heap[b]? = w.heap[b]?
  size : wr.heap.size = w.heap.size
  os : wr.os = w.os
  tape : wr.tape = w.tape
  output : wr.output = w.output
theorem MarkC.refl (g off n : Nat) (k : Int) (w : World) : MarkC g off n k 0 w w := ⟨fun i hi => by omega, fun _ _ => rfl, fun _ => rfl, fun _ _ => rfl, rfl, rfl, rfl, rfl⟩
theorem MarkC.step {g off n : Nat} {k : Int} {j : Nat} {w wr : World} (h : MarkC g off n k j w wr) {x : Value} (hx : w.cell? ⟨g, off + j, none⟩ = some x) :
    MarkC g off n k (j + 1) w (wr.setCell ⟨g, off + j, none⟩ (.int .i64 (k + (j : Nat)))) := by
  have hx' : wr.cell? ⟨g, off + j, none⟩ = some x := by rw [h.other _ (fun i hi => adr_ne (by omega))]; exact hx
  constructor
  · intro i hi
    by_cases e : i = j
    · subst e; exact World.cell?_setCell_same _ _ _ hx'
    · rw [World.cell?_setCell_other _ _ _ _ (adr_ne (by omega))]; exact h.done i (by omega)
  · intro p hp
    rw [World.cell?_setCell_other _ _ _ _ (hp j (by omega)).symm]
    exact h.other p (fun i hi => hp i (by omega))
  · intro a; rw [World.frozen?_setCell]; exact h.froz a
  · intro b hb; rw [Below.heap_setCell _ _ _ _ hb]; exact h.far b hb
  · simpa using h.size
  · exact h.os
  · exact h.tape
  · exact h.output
set_option maxHeartbeats 1000000 in
theorem markIC (g off n cap : Nat) (k : Int) (w : World) (hn : n ≤ 281474976710656) (hk0 : 0 ≤ k) (hk1 : k ≤ 4611686018427387904)
    (hc : ∀ i : Nat, i < n → ∃ x, w.cell? ⟨g, off + i, none⟩ = some x) (hf : ∀ i : Nat, i < n → w.frozen? ⟨g, off + i, none⟩ = false) :
    Calls Try.prog 92 #[.slice (some ⟨g, off, none⟩) n cap, .int .i64 k] w fun e w' => e = .returned (.int .i64 (k + (n : Nat))) ∧ MarkC g off n k n w w' := by
  have hF := Lib.hid hf
  have hC := Lib.hid hc
  clear hc hf
  go_enter Try.func92, Try.ntmps92
  go_wp2_with fail
  go_loopw [1, 5] (fun q i wr => ∃ j : Nat, j ≤ n ∧ i = .int .i64 j ∧ q = .int .i64 (k + (j : Nat)) ∧ MarkC g off n k j w wr) (fun _ i _ => n - (intOf i).toNat)
  case atStart => exact ⟨0, by omega, rfl, by simp, MarkC.refl _ _ _ _ _⟩
  case round =>
    obtain ⟨j, hj, rfl, rfl, hR⟩ := hrel
    by_cases hlt : j < n
    · obtain ⟨x, hx⟩ := hC.out j hlt
      have hx2 : wr.cell? ⟨g, off + j, none⟩ = some x := by rw [hR.other _ (fun i hi => adr_ne (by omega))]; exact hx
      have hfz : wr.frozen? ⟨g, off + j, none⟩ = false := by rw [hR.froz]; exact hF.out j hlt
      have hS := Lib.hid (hR.step hx)
      clear hR hx
      go_wp2
      go_roundw
      case rel => exact ⟨j + 1, by omega, by go_num, by go_num, hS.out⟩
      case measure => simp [intOf]; omega
    · have hjn : j = n := by omega
      subst hjn
      go_wp2
      go_ret
      exact ⟨rfl, hR⟩
/-- the matrix whose first rows hold their marks -/
def cntTo (k : Int) (M : List (List Int)) : Nat → List (List Int)
  | 0 => M
  | i + 1 => (cntTo k M i).set i (counts (k + (cntT M i : Nat)) (rowM M i).length)
theorem cntTo_len (k : Int) (M : List (List Int)) : ∀ i, (cntTo k M i).length = M.length
  | 0 => rfl
  | i + 1 => by show (List.set _ _ _).length = _; rw [List.length_set]; exact cntTo_len k M i
theorem cntTo_row (k : Int) (M : List (List Int)) : ∀ i, i ≤ M.length → ∀ j, rowM (cntTo k M i) j = if j < i then counts (k + (cntT M j : Nat)) (rowM M j).length else rowM M j
  | 0, _, j => by simp [cntTo]
  | i + 1, hi, j => by
    have hl := cntTo_len k M i
    show rowM ((cntTo k M i).set i _) j = _
    by_cases e : j = i
    · subst e; rw [rw_set_self (by omega), if_pos (by omega)]
    · rw [rw_set_ne e, cntTo_row k M i (by omega) j]
      by_cases h : j < i
      · rw [if_pos h, if_pos (by omega)]
      · rw [if_neg h, if_neg (by omega)]
theorem cntTo_rlen {k : Int} {M : List (List Int)} {i j : Nat} (hi : i ≤ M.length) : (rowM (cntTo k M i) j).length = (rowM M j).length := by
  rw [cntTo_row k M i hi]; split
  · rw [counts_len]
  · rfl
theorem cntT_ext {M M' : List (List Int)} (h : ∀ j, (rowM M' j).length = (rowM M j).length) : ∀ i, cntT M' i = cntT M i
  | 0 => rfl
  | i + 1 => by show cntT M' i + _ = cntT M i + _; rw [cntT_ext h i, h]
theorem cntTo_cnt {k : Int} {M : List (List Int)} : cnt (cntTo k M M.length) = cnt M := by
  unfold cnt
  rw [cntTo_len]
  exact cntT_ext (fun j => cntTo_rlen (Nat.le_refl _)) _
set_option maxHeartbeats 4000000 in
theorem markM_o (g off cap : Nat) (H O : Nat → Nat) (M : List (List Int)) (B : Nat) (k : Int) (w : World) (h : OMat w B g off H O M) (hl : M.length ≤ 1048576) (hcn : cnt M ≤ 1048576) (hk0 : 0 ≤ k) (hk1 : k ≤ 1000000000000) :
    Calls Try.prog 28 #[.slice (some ⟨g, off, none⟩) M.length cap, .int .i64 k] w fun e w' => e = .returned (.int .i64 (k + (cnt M : Nat))) ∧ OMat w' B g off H O (cntTo k M M.length) ∧
      w'.os = w.os ∧ w'.tape = w.tape ∧ w'.output = w.output ∧ w'.heap.size = w.heap.size ∧ ∀ b, (∀ i, i < M.length → rowM M i ≠ [] → b ≠ H i) → w'.heap[b]? = w.heap[b]? := by
  have HS := Lib.hid (show OMat w B g off H O (cntTo k M 0) from h)
  have HL := Lib.hid (And.intro hl hcn)
  clear h hcn
  go_enter Try.func28, Try.ntmps28
  go_wp2_with fail
  go_loopw [1, 5] (fun q i wr => ∃ j : Nat, j ≤ M.length ∧ i = .int .i64 j ∧ q = .int .i64 (k + (cntT M j : Nat)) ∧ OMat wr B g off H O (cntTo k M j) ∧ wr.os = w.os ∧ wr.tape = w.tape ∧ wr.output = w.output ∧ wr.heap.size = w.heap.size ∧ ∀ b, (∀ i, i < M.length → rowM M i ≠ [] → b ≠ H i) → wr.heap[b]? = w.heap[b]?) (fun _ i _ => M.length - (intOf i).toNat)
  case atStart => exact ⟨0, by omega, rfl, by simp [cntT], HS.out, rfl, rfl, rfl, rfl, fun _ _ => rfl⟩
  case round =>
    clear HS
    obtain ⟨j, hj, rfl, rfl, hm, h1, h2, h3, h4, h5⟩ := hrel
    by_cases hlt : j < M.length
    · have hltp : (j : Int) < (M.length : Int) := by omega
      have hj0 : (0 : Int) ≤ (j : Int) := by omega
      have hjl : j < (cntTo k M j).length := by rw [cntTo_len]; exact hlt
      have er : rowM (cntTo k M j) j = rowM M j := by rw [cntTo_row k M j (by omega), if_neg (by omega)]
      obtain ⟨a, c, q1, q2, q3⟩ := hm.rd j hjl
      rw [er] at q1 q2 q3
      have hcj := cntT_le (M := M) (show j ≤ M.length by omega)
      have hcnt : cnt M = cntT M M.length := rfl
      have hcl := HL.out.2
      obtain ⟨kk, hkk⟩ : ∃ kk : Int, kk = k + (cntT M j : Nat) := ⟨_, rfl⟩
      have hkk0 : 0 ≤ kk := by omega
      have hkk1 : kk ≤ 4611686018427387904 := by omega
      have HKK := Lib.hid hkk
      have HN := Lib.hid (show kk + ((rowM M j).length : Nat) = k + (cntT M (j + 1) : Nat) by rw [hkk]; show _ = k + ((cntT M j + (rowM M j).length : Nat) : Int); omega)
      have HK := Lib.hid (show ∀ w', w'.heap.size = wr.heap.size → (rowM M j ≠ [] ∧ MarkC (H j) (O j) (rowM M j).length kk (rowM M j).length wr w') ∨ (rowM M j = [] ∧ w' = wr) → OMat w' B g off H O (cntTo k M (j + 1)) ∧ w'.os = w.os ∧ w'.tape = w.tape ∧ w'.output = w.output ∧ w'.heap.size = w.heap.size ∧ ∀ b, (∀ i, i < M.length → rowM M i ≠ [] → b ≠ H i) → w'.heap[b]? = w.heap[b]? from by
        intro w' hsz hcase
        have hlen : (counts kk (rowM M j).length).length = (rowM (cntTo k M j) j).length := by rw [counts_len, er]
        rcases hcase with ⟨hn, hC⟩ | ⟨he, rfl⟩
        · refine ⟨?_, by rw [hC.os, h1], by rw [hC.tape, h2], by rw [hC.output, h3], by rw [hC.size, h4], fun b hb => ?_⟩
          · show OMat w' B g off H O ((cntTo k M j).set j _)
            rw [← hkk]
            refine hm.row hjl _ hlen hsz hC.froz (fun i hi => ?_) (fun p hp => hC.other p (fun i hi => hp i (by rw [counts_len]; exact hi)))
            rw [counts_len] at hi
            rw [hC.done i hi, counts_getD _ _ _ hi]
          · rw [hC.far b (hb j hlt hn)]; exact h5 b hb
        · refine ⟨?_, h1, h2, h3, h4, h5⟩
          show OMat w' B g off H O ((cntTo k M j).set j _)
          rw [← hkk]
          refine hm.row hjl _ hlen rfl (fun _ => rfl) (fun i hi => ?_) (fun p hp => rfl)
          rw [counts_len, he] at hi; simp at hi)
      have HZ := Lib.hid (show rowM M j = [] ∨ (a = some ⟨H j, O j, none⟩ ∧ rowM M j ≠ [] ∧ (∀ i, i < (rowM M j).length → ∃ x, wr.cell? ⟨H j, O j + i, none⟩ = some x) ∧ ∀ i, i < (rowM M j).length → wr.frozen? ⟨H j, O j + i, none⟩ = false) from by
        by_cases he : rowM M j = []
        · exact .inl he
        · rcases q3 with q3 | ⟨ha, _, _, _, hc, hf⟩
          · exact absurd q3 he
          · exact .inr ⟨ha, he, fun i hi => ⟨_, hc i hi⟩, hf⟩)
      clear hm h1 h2 h3 h4 h5 q3 er hkk hcj hcnt hcl hjl
      go_wp2_with fail
      rcases HZ.out with he | ⟨rfl, he, hx, hf⟩
      · have e0 : (rowM M j).length = 0 := by rw [he]; rfl
        rw [e0]
        refine (markNil a c _ _).mono ?_
        rintro e w' ⟨rfl, rfl⟩
        have HF := Lib.hid (HK.out wr rfl (.inr ⟨he, rfl⟩))
        have HN2 := Lib.hid (show kk = k + (cntT M (j + 1) : Nat) by have := HN.out; rw [e0] at this; simpa using this)
        clear HK HZ
        go_wp2
        go_roundw
        case rel => exact ⟨j + 1, by omega, by go_num, by rw [← HN2.out, HKK.out], HF.out⟩
        case measure => simp [intOf]; omega
      · rw [← HKK.out]
        refine (markIC (H j) (O j) (rowM M j).length c kk wr q2.1 hkk0 hkk1 hx hf).mono ?_
        rintro e w' ⟨rfl, hC⟩
        have HF := Lib.hid (HK.out w' hC.size (.inl ⟨he, hC⟩))
        clear HK HZ hC hx hf
        go_wp2
        go_roundw
        case rel => exact ⟨j + 1, by omega, by go_num, by rw [← HN.out], HF.out⟩
        case measure => simp [intOf]; omega
    · have hjl : j = M.length := by omega
      subst hjl
      go_wp2
      go_ret
      exact ⟨rfl, hm, h1, h2, h3, h4, h5⟩
end Go.Proofs.Ytlcmddghppdmgaa
namespace Go.Proofs.Ytlcmddghppdmgaa
set_option linter.unusedVariables false
open Go.RowKit
/-- a new block of n numbers, the first k of which are those of a list -/
structure BuildI (L : List Int) (H n k : Nat) (w wr : World) : Prop where
  done : ∀ j, j < k → wr.cell? ⟨H, j, none⟩ = some (.int .i64 (L.getD j 0))
  some : ∀ j, j < n → ∃ x, wr.cell? ⟨H, j, none⟩ = some x
  froz : ∀ j, j < n → wr.frozen? ⟨H, j, none⟩ = false
  sz : H < wr.heap.size
  low : Below H w wr
theorem BuildI.step {L : List Int} {H n k : Nat} {w wr : World} (h : BuildI L H n k w wr) (hk : k < n) : BuildI L H n (k + 1) w (wr.setCell ⟨H, k, none⟩ (.int .i64 (L.getD k 0))) := by
  obtain ⟨x, hx⟩ := h.some k hk
  refine ⟨fun j hj => ?_, fun j hj => ?_, fun j hj => by rw [World.frozen?_setCell]; exact h.froz j hj, by simpa using h.sz, h.low.setCell (Nat.le_refl _) _⟩
  · by_cases e : j = k
    · subst e; exact World.cell?_setCell_same _ _ _ hx
    · rw [World.cell?_setCell_other _ _ _ _ (adr_ne (by omega))]; exact h.done j (by omega)
  · by_cases e : j = k
    · subst e; exact ⟨_, World.cell?_setCell_same _ _ _ hx⟩
    · obtain ⟨y, hy⟩ := h.some j hj
      exact ⟨y, by rw [World.cell?_setCell_other _ _ _ _ (adr_ne (by omega))]; exact hy⟩
/-- a call hands back a new slice of these numbers -/
def GivesNew (L : List Int) (w : World) (e : Ending) (w' : World) : Prop :=
  ∃ a cap, e = .returned (.slice a L.length cap) ∧ L.length ≤ cap ∧ (L = [] ∨ (a = some ⟨w.heap.size, 0, none⟩ ∧ w.heap.size < w'.heap.size ∧ (∀ j, j < L.length → w'.cell? ⟨w.heap.size, j, none⟩ = some (.int .i64 (L.getD j 0))) ∧ ∀ j, j < L.length → w'.frozen? ⟨w.heap.size, j, none⟩ = false)) ∧ Below w.heap.size w w'
set_option maxHeartbeats 2000000 in
theorem toIS_some (g off cap : Nat) (L : List Int) (w : World) (hL1 : L.length ≤ 1048576) (hg : g < w.heap.size)
    (hc : ∀ j : Nat, j < L.length → w.cell? ⟨g, off + j, none⟩ = some (.int .i64 (L.getD j 0))) :
    Calls Try.prog 109 #[.slice (some ⟨g, off, none⟩) L.length cap] w (GivesNew L w) := by
  obtain ⟨i0, hi, hz0, hz1, hz2⟩ := info_parts infoIn
  have HC := Lib.hid hc
  clear hc
  go_enter Try.func109, Try.ntmps109
  go_wp2_with (at_make; refine wpList_make_full _ rfl _ _ 62 rfl w.heap.size 3 i0 (.int .i64 0) 1 Try.underlying62 hi hz0 hz1 .i64 .i64 L.length L.length L.length rfl rfl rfl rfl ?c2 ?c3 ?c4 ?_)
  case c2 => rw [hz2]; omega
  case c3 => unfold maxLen; omega
  case c4 => exact Nat.le_refl _
  intro w2 hown hgr
  have hS : BuildI L w.heap.size L.length 0 w w2 := by
    refine ⟨fun j hj => by omega, fun j hj => ?_, fun i hi => hown.frozenAt i, (hown.lt _ rfl).2, (Below.refl _ _).grown hgr (Nat.le_refl _) (fun k hk => by cases hk)⟩
    rw [hown.cellAt j (by omega)]
    exact made_any _ _ _ (by omega)
  clear hown hgr hi hz0 hz1 hz2
  go_wp2_with fail
  go_loopw [4] (fun i wr => ∃ k : Nat, k ≤ L.length ∧ i = .int .i64 k ∧ BuildI L w.heap.size L.length k w wr) (fun i _ => L.length - (intOf i).toNat)
  case atStart => exact ⟨0, by omega, rfl, hS⟩
  case round =>
    clear hS
    obtain ⟨k, hk, rfl, hS⟩ := hrel
    by_cases hlt : k < L.length
    · have hltp : (k : Int) < (L.length : Int) := by omega
      have hk0 : (0 : Int) ≤ (k : Int) := by omega
      have hx : wr.cell? ⟨g, off + k, none⟩ = some (.int .i64 (L.getD k 0)) := by rw [hS.low.cell (p := ⟨g, off + k, none⟩) hg]; exact HC.out k hlt
      obtain ⟨x, hxe⟩ : ∃ x, x = L.getD k 0 := ⟨_, rfl⟩
      have hSt := Lib.hid (hS.step hlt)
      rw [← hxe] at hx hSt
      obtain ⟨u0, c0⟩ := hS.some k hlt
      have f0 := hS.froz k hlt
      clear hS hxe
      go_wp2
      go_roundw
      case rel => exact ⟨k + 1, by omega, by go_num, hSt.out⟩
      case measure => simp [intOf]; omega
    · have hkl : k = L.length := by omega
      subst hkl
      go_wp2
      go_ret
      exact ⟨_, _, rfl, Nat.le_refl _, .inr ⟨rfl, hS.sz, hS.done, hS.froz⟩, hS.low⟩
theorem toIS_nil (a : Option Addr) (cap : Nat) (w : World) :
    Calls Try.prog 109 #[.slice a 0 cap] w (GivesNew [] w) := by
  obtain ⟨i0, hi, hz0, hz1, hz2⟩ := info_parts infoIn
  go_enter Try.func109, Try.ntmps109
  go_wp2_with (at_make; refine wpList_make_full _ rfl _ _ 62 rfl w.heap.size 3 i0 (.int .i64 0) 1 Try.underlying62 hi hz0 hz1 .i64 .i64 0 0 0 rfl rfl rfl rfl ?c2 ?c3 ?c4 ?_)
  case c2 => rw [hz2]; omega
  case c3 => unfold maxLen; omega
  case c4 => exact Nat.le_refl _
  intro w2 hown hgr
  have hS : Below w.heap.size w w2 := (Below.refl _ _).grown hgr (Nat.le_refl _) (fun k hk => by cases hk)
  have HS := Lib.hid hS
  clear hown hgr hi hz0 hz1 hz2 hS
  go_wp2_with fail
  go_loop [4] (fun i => i = .int .i64 0) (fun _ => 0)
  case atStart => rfl
  case round =>
    obtain rfl := hrel
    go_wp2
    go_ret
    exact ⟨_, _, rfl, Nat.le_refl _, .inl rfl, HS.out⟩
theorem toIS (v : Value) (L : List Int) (w : World) (h : Ints w v L) (hL : L.length ≤ 1048576) : Calls Try.prog 109 #[v] w (GivesNew L w) := by
  obtain ⟨_, a, cap, rfl, h2⟩ := h
  by_cases e : L = []
  · subst e; exact toIS_nil a cap w
  · rcases h2 with h2 | ⟨g, off, rfl, hg, hc⟩
    · exact absurd h2 e
    · exact toIS_some g off cap L w hL hg hc
/-- a new matrix that is made, behind j rows -/
structure BuildM (M : List (List Int)) (g n j : Nat) (w wr : World) : Prop where
  mat : ∃ H O, OMat wr g g 0 H O (M.take j)
  some : ∀ i, i < n → ∃ x, wr.cell? ⟨g, i, none⟩ = some x
  froz : ∀ i, i < n → wr.frozen? ⟨g, i, none⟩ = false
  low : Below g w wr
theorem take_snoc {M : List (List Int)} {j : Nat} (h : j < M.length) : M.take (j + 1) = M.take j ++ [rowM M j] := by
  rw [List.take_succ_eq_append_getElem h]; simp [rowM, List.getD_eq_getElem?_getD, h]
theorem BuildM.below {M : List (List Int)} {g n j : Nat} {w wr w' : World} (h : BuildM M g n j w wr) (hb : Below wr.heap.size wr w') : BuildM M g n j w w' := by
  obtain ⟨⟨H, O, hm⟩, h1, h2, h3⟩ := h
  have hg := hm.gl
  exact ⟨⟨H, O, hm.below hb⟩, fun i hi => by rw [hb.cell (p := ⟨g, i, none⟩) hg]; exact h1 i hi, fun i hi => by rw [hb.frozen (p := ⟨g, i, none⟩) hg]; exact h2 i hi, h3.trans (hb.mono (by omega))⟩
/-- a row in a new block is put behind -/
theorem BuildM.push {M : List (List Int)} {g n j : Nat} {w wr w2 : World} (h : BuildM M g n j w wr) (hb : Below wr.heap.size wr w2) (hj : j < M.length) (hn : j < n) (a : Option Addr) (cap : Nat) (hr : (rowM M j).length ≤ 281474976710656 ∧ (rowM M j).length ≤ cap)
    (hd : rowM M j = [] ∨ (a = Option.some ⟨wr.heap.size, 0, none⟩ ∧ wr.heap.size < w2.heap.size ∧ (∀ i, i < (rowM M j).length → w2.cell? ⟨wr.heap.size, i, none⟩ = Option.some (.int .i64 ((rowM M j).getD i 0))) ∧ ∀ i, i < (rowM M j).length → w2.frozen? ⟨wr.heap.size, i, none⟩ = false)) :
    BuildM M g n (j + 1) w (w2.setCell ⟨g, j, none⟩ (.slice a (rowM M j).length cap)) := by
  have hb' := h.below hb
  obtain ⟨H, O, hm⟩ := h.mat
  have hl : (M.take j).length = j := by simp; omega
  have hgl := hm.gl
  obtain ⟨x, hx⟩ := hb'.some j hn
  have hP := (hm.below hb).push (x := x) (by rw [hl, Nat.zero_add]; exact hx) (by rw [hl, Nat.zero_add]; exact hb'.froz j hn) a (rowM M j) cap wr.heap.size 0 hr (by
    rcases hd with hd | ⟨ha, hl2, hc, hf⟩
    · exact .inl hd
    · exact .inr ⟨ha, by omega, hl2, by omega, fun i hi => by rw [Nat.zero_add]; exact hc i hi, fun i hi => by rw [Nat.zero_add]; exact hf i hi⟩) (by
    intro i k l hi hk hl2 hH
    have hne : rowM (M.take j) i ≠ [] := fun e => by rw [e] at hk; simp at hk
    have := (hm.hl hi hne).2.1
    omega)
  rw [hl, Nat.zero_add] at hP
  refine ⟨⟨_, _, by rw [take_snoc hj]; exact hP⟩, fun i hi => ?_, fun i hi => by rw [World.frozen?_setCell]; exact hb'.froz i hi, hb'.low.setCell (Nat.le_refl _) _⟩
  by_cases e : i = j
  · subst e; exact ⟨_, World.cell?_setCell_same _ _ _ hx⟩
  · obtain ⟨y, hy⟩ := hb'.some i hi
    exact ⟨y, by rw [World.cell?_setCell_other _ _ _ _ (adr_ne (by omega))]; exact hy⟩
set_option maxHeartbeats 4000000 in
theorem toM (v : Value) (M : List (List Int)) (w : World) (h : Mat w v M) :
    Calls Try.prog 39 #[v] w fun e w' => ∃ u, e = .returned u ∧ OwnMat w' w.heap.size u M ∧ Below w.heap.size w w' := by
  obtain ⟨i0, hi, hz0, hz1, hz2⟩ := info_parts infoIS
  obtain ⟨b1, b2, a, cap, rfl, h3⟩ := h
  have HD := Lib.hid h3
  clear h3
  go_enter Try.func39, Try.ntmps39
  go_wp2_with (at_make; refine wpList_make_full _ rfl _ _ 35 rfl w.heap.size 62 i0 (.slice none 0 0) 1 Try.underlying35 hi hz0 hz1 .i64 .i64 M.length M.length M.length rfl rfl rfl rfl ?c2 ?c3 ?c4 ?_)
  case c2 => rw [hz2]; omega
  case c3 => unfold maxLen; omega
  case c4 => exact Nat.le_refl _
  intro w2 hown hgr
  have hS : BuildM M w.heap.size M.length 0 w w2 := by
    refine ⟨⟨_, _, OMat.nil (Nat.le_refl _) (hown.lt _ rfl).2⟩, fun j hj => ?_, fun i hi => hown.frozenAt i, (Below.refl _ _).grown hgr (Nat.le_refl _) (fun k hk => by cases hk)⟩
    rw [hown.cellAt j (by omega)]
    exact made_any _ _ _ (by omega)
  clear hown hgr hi hz0 hz1 hz2
  go_wp2_with fail
  go_loopw [4] (fun i wr => ∃ j : Nat, j ≤ M.length ∧ i = .int .i64 j ∧ BuildM M w.heap.size M.length j w wr) (fun i _ => M.length - (intOf i).toNat)
  case atStart => exact ⟨0, by omega, rfl, hS⟩
  case round =>
    clear hS
    obtain ⟨j, hj, rfl, hS⟩ := hrel
    by_cases hlt : j < M.length
    · have hltp : (j : Int) < (M.length : Int) := by omega
      have hj0 : (0 : Int) ≤ (j : Int) := by omega
      rcases HD.out with h | ⟨g, off, rfl, hg, hc⟩
      · rw [h] at hlt; simp at hlt
      obtain ⟨u, hu, hr, _⟩ := hc j hlt
      have hrl := row_le hlt
      have hx : wr.cell? ⟨g, off + j, none⟩ = some u := by rw [hS.low.cell (p := ⟨g, off + j, none⟩) hg]; exact hu
      have HT := Lib.hid (toIS u (rowM M j) wr (hr.below hS.low) (by omega))
      have HS := Lib.hid hS
      clear hc hr hu hS
      go_wp2_with fail
      refine HT.out.mono ?_
      rintro e w3 ⟨a3, c3, rfl, hcap, hd, hb⟩
      have hb' := HS.out.below hb
      obtain ⟨x, hx3⟩ := hb'.some j hlt
      have hfz := hb'.froz j hlt
      have HP := Lib.hid (HS.out.push hb hlt hlt a3 c3 ⟨by omega, hcap⟩ hd)
      clear HT HS hd hb hb' hx hcap
      go_wp2
      go_roundw
      case rel => exact ⟨j + 1, by omega, by go_num, HP.out⟩
      case measure => simp [intOf]; omega
    · have hkl : j = M.length := by omega
      subst hkl
      have hS2 := hS
      obtain ⟨⟨H, O, hm⟩, _, _, hlow⟩ := hS2
      rw [List.take_length] at hm
      have HM := Lib.hid (And.intro hm hlow)
      clear hS hm hlow
      go_wp2
      go_ret
      exact ⟨_, rfl, ⟨b1, b2, _, _, rfl, .inr ⟨w.heap.size, 0, H, O, rfl, HM.out.1⟩⟩, HM.out.2⟩
end Go.Proofs.Ytlcmddghppdmgaa
namespace Go.Proofs.Ytlcmddghppdmgaa
open Go.RowKit
theorem infoInt : (Try.prog.info? 3).map (fun i => (i.zero, i.size, i.bytes)) = some (some (.int .i64 0), 1, 8) := by kernel_rfl
/-- a value that owns a row of integers, in a block from B on -/
def RowI (w : World) (B : Nat) (v : Value) (L : List Int) : Prop := w.ownsRow B 3 1 v L.length (L.map (Value.int .i64))
theorem RowI.shape {w : World} {B : Nat} {v : Value} {L : List Int} (h : RowI w B v L) :
    (v = .slice none 0 0 ∧ L = []) ∨ ∃ g cap, v = .slice (some ⟨g, 0, none⟩) L.length cap ∧ B ≤ g ∧ g < w.heap.size ∧ L.length ≤ cap ∧ cap ≤ maxLen ∧ ∀ j : Nat, j < L.length → w.cell? ⟨g, j, none⟩ = some (.int .i64 (L.getD j 0)) := by
  have h0 := h
  rcases h.2 with ⟨h1, h2⟩ | ⟨g, cap, cur, rfl, hb, hg, hn, hm, _⟩
  · exact .inl ⟨h1, List.length_eq_zero_iff.1 h2⟩
  · exact .inr ⟨g, cap, rfl, hb, (Array.getElem?_eq_some_iff.1 hg).1, hn, hm, fun j hj => by rw [World.ownsRow.cellAt h0 j (by omega)]; simp [hj]⟩
theorem RowI.shape' {w : World} {B n : Nat} {v : Value} {L : List Int} (h : RowI w B v L) (hl : L.length = n) :
    (v = .slice none 0 0 ∧ n = 0) ∨ ∃ g cap, v = .slice (some ⟨g, 0, none⟩) n cap ∧ B ≤ g ∧ g < w.heap.size ∧ n ≤ cap ∧ cap ≤ maxLen ∧ ∀ j : Nat, j < n → w.cell? ⟨g, j, none⟩ = some (.int .i64 (L.getD j 0)) := by
  subst hl
  rcases h.shape with ⟨h1, h2⟩ | h
  · exact .inl ⟨h1, by rw [h2]; rfl⟩
  · exact .inr h
theorem RowI.form {w : World} {B n : Nat} {v : Value} {L : List Int} (h : RowI w B v L) (hl : L.length = n) : ∃ a cap, v = .slice a n cap := by
  rcases h.shape' hl with ⟨rfl, rfl⟩ | ⟨g, cap, rfl, _⟩
  · exact ⟨none, 0, rfl⟩
  · exact ⟨_, cap, rfl⟩
theorem RowI.below {w w' : World} {B : Nat} {v : Value} {L : List Int} (h : RowI w B v L) (hb : Below w.heap.size w w') : RowI w' B v L :=
  World.ownsRow.kept (row := none) h ⟨hb.os, hb.tape, hb.output, hb.size, fun k hk _ => hb.block k hk⟩ (by cases v.ownBlock <;> simp)
theorem RowI.nil (w : World) (B : Nat) : RowI w B (.slice none 0 0) [] := World.ownsRow_nil w B _ _
theorem RowI.lit0 (w : World) (B : Nat) (hb : B ≤ w.heap.size) : RowI (w.alloc (.cells #[] 3)) B (.slice (some ⟨w.heap.size, 0, none⟩) 0 0) [] :=
  World.ownsRow_lit (size := 1) w #[] 0 hb (by unfold maxLen; omega) rfl
theorem RowI.own {w : World} {B : Nat} {v : Value} {L : List Int} (h : RowI w B v L) (hle : L.length ≤ 281474976710656) : OwnInts w B v L := own_of_row h hle
theorem ownI_base {w : World} {B B' : Nat} {v : Value} {L : List Int} (h : OwnInts w B v L) (hB : B' ≤ B) : OwnInts w B' v L := by
  obtain ⟨h1, a, cap, hv, h2⟩ := h
  refine ⟨h1, a, cap, hv, ?_⟩
  rcases h2 with h2 | ⟨g, off, ha, hb, r⟩
  · exact .inl h2
  · exact .inr ⟨g, off, ha, by omega, r⟩
/-- growing a row leaves all below alone -/
theorem RowI.low {w w' : World} {B : Nat} {v : Value} {L : List Int} (h : RowI w B v L) (hb : B ≤ w.heap.size) (hg : w.grownBy w' v.ownBlock) : Below B w w' :=
  ⟨hg.os, hg.tape, hg.output, hg.size, fun k hk => hg.block k (by omega) (fun e => by have := (World.ownsRow.lt h k e.symm).1; omega)⟩
theorem RowI.snoc {w : World} {B : Nat} {v : Value} {L : List Int} {n : Int} (h : w.ownsRow B 3 1 v (L.length + 1) (L.map (Value.int .i64) ++ [.int .i64 n])) : RowI w B v (L ++ [n]) := by
  unfold RowI; simpa using h
theorem RowI.grow {w0 wr W w2 : World} {B : Nat} {v : Value} {L : List Int} (h : RowI wr B v L) (h0 : Below B w0 wr) (hB : B ≤ wr.heap.size) (hW : Below wr.heap.size wr W) (hg : W.grownBy w2 v.ownBlock) : Below B w0 w2 :=
  h0.trans ((hW.mono hB).trans (RowI.low (h.below hW) (Nat.le_trans hB hW.size) hg))
/-- the one integer of a new slice -/
theorem new_one (w : World) (n : Int) : ∀ (j : Nat) (u : Value), [Value.int .i64 n][j]? = some u → (w.alloc (Obj.cells #[.int .i64 n] 3)).cell? ((⟨w.heap.size, 0, none⟩ : Addr).add (j * 1)) = some u := by
  intro j u hj
  match j, hj with
  | 0, hj => simp at hj; subst hj; simp [Addr.add]
theorem one_ok (n : Int) : ∀ u : Value, u ∈ [Value.int .i64 n] → u.oneCell' = true := by
  intro u hu; simp at hu; subst hu; rfl
end Go.Proofs.Ytlcmddghppdmgaa
namespace Go.Proofs.Ytlcmddghppdmgaa
open Go.RowKit
set_option maxHeartbeats 2000000 in
theorem sameInts (v1 v2 : Value) (L : List Int) (w : World) (h1 : Ints w v1 L) (h2 : Ints w v2 L) :
    Calls Try.prog 135 #[v1, v2] w fun e w' => e = .returned (.bool true) ∧ Drawn w w' := by
  obtain ⟨m1, a1, cap1, rfl, h1⟩ := h1
  obtain ⟨m2, a2, cap2, rfl, h2⟩ := h2
  have H1 := Lib.hid h1
  have H2 := Lib.hid h2
  clear h1 h2
  go_enter Try.func135, Try.ntmps135
  go_wp2_with fail
  go_loopw [5] (fun i wr => ∃ k : Nat, k ≤ L.length ∧ i = .int .i64 k ∧ Drawn w wr) (fun i _ => L.length - (intOf i).toNat)
  case atStart => exact ⟨0, by omega, rfl, Drawn.refl _⟩
  case round =>
    obtain ⟨k, hk, rfl, hR⟩ := hrel
    by_cases hlt : k < L.length
    · obtain ⟨n, rfl⟩ := hR
      rcases H1.out with h1 | ⟨g1, off1, rfl, hg1, hc1⟩
      · exact absurd hlt (by rw [h1]; simp)
      rcases H2.out with h2 | ⟨g2, off2, rfl, hg2, hc2⟩
      · exact absurd hlt (by rw [h2]; simp)
      have c1 := hc1 k hlt
      have c2 := hc2 k hlt
      have hlt1 : (k : Int) < (L.length : Int) := by omega
      have hk0 : (0 : Int) ≤ (k : Int) := by omega
      have hw : IntKind.i64.wrap ((k : Int) + 1) = (k : Int) + 1 := IntWalk.i64_in _ (by omega)
      generalize L.getD k 0 = x at c1 c2
      clear hc1 hc2 H1 H2
      go_wp2_with fail
      go_quiet (fail)
      go_wp2
      go_roundw
      case rel => exact ⟨k + 1, by omega, by go_num, ⟨n + nq, by simp⟩⟩
      case measure => simp [intOf]; omega
    · have hge : (L.length : Int) ≤ (k : Int) := by omega
      clear H1 H2
      go_wp2
      go_ret
      exact ⟨rfl, hR⟩
end Go.Proofs.Ytlcmddghppdmgaa
