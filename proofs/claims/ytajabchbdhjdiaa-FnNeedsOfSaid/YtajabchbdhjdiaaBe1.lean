/-
  Contracts of the model's reader of bytes (l15Open, pick, num). Conditions: the reader lies in a block of its own, its count is small.
  Contracts of the model's reader of bytes, on: num and l15Open. Conditions: what the bytes' slice and the list hold is known.
-/
import Derived.Test.YtajabchbdhjdiaaBa8
import Derived.Test.YtajabchbdhjdiaaChecked
import Derived.WalkKit
import Derived.Lib.Hide
import Derived.Outline
import Derived.BigQuiet
import Derived.Deep.QuietTactic
import Derived.OwnWalk
namespace Go.Proofs.Ytajabchbdhjdiaa
open Go.RowKit
/-- the reader in block R: its bytes and how many were taken -/
structure Rd (w : World) (R : Nat) (a : Option Addr) (len cap p : Nat) : Prop where
  b0 : w.cell? ⟨R, 0, none⟩ = some (.slice a len cap)
  p1 : w.cell? ⟨R, 1, none⟩ = some (.int .i64 p)
  f1 : w.frozen? ⟨R, 1, none⟩ = false
  sz : R < w.heap.size
  len_le : len ≤ 2000
  bytes : len = 0 ∨ ∃ g off, a = some ⟨g, off, none⟩ ∧ g ≠ R ∧ g < w.heap.size ∧ ∀ i : Nat, i < len → ∃ z : Int, 0 ≤ z ∧ z < 256 ∧ w.cell? ⟨g, off + i, none⟩ = some (.int .u8 z)
/-- pick hands back a number from 0 to n - 1 (0 if n is less than 1), counts on, and writes nowhere else -/
def Picks (R : Nat) (a : Option Addr) (len cap p : Nat) (n : Int) (w : World) (e : Ending) (w' : World) : Prop :=
  ∃ x : Int, e = .returned (.int .i64 x) ∧ 0 ≤ x ∧ (x < n ∨ n < 1 ∧ x = 0) ∧ Rd w' R a len cap (p + 1) ∧ w.grownBy w' (some R) ∧ w'.heap.size = w.heap.size
theorem Rd.next {w : World} {R : Nat} {a : Option Addr} {len cap p : Nat} (h : Rd w R a len cap p) (v : Int) (hv : v = (p : Int) + 1) :
    Rd (w.setCell ⟨R, 1, none⟩ (.int .i64 v)) R a len cap (p + 1) ∧ w.grownBy (w.setCell ⟨R, 1, none⟩ (.int .i64 v)) (some R) ∧ (w.setCell ⟨R, 1, none⟩ (.int .i64 v)).heap.size = w.heap.size := by
  subst hv
  refine ⟨?_, ⟨rfl, rfl, rfl, by simp, fun k _ hne => Below.heap_setCell _ _ _ _ (by simpa using hne)⟩, by simp⟩
  constructor
  · rw [World.cell?_setCell_other _ _ _ _ (by simp)]; exact h.b0
  · rw [World.cell?_setCell_same _ _ _ h.p1]; simp
  · simpa using h.f1
  · simpa using h.sz
  · exact h.len_le
  · rcases h.bytes with h0 | ⟨g, off, ha, hR, hg, hc⟩
    · exact .inl h0
    · refine .inr ⟨g, off, ha, hR, by simpa using hg, fun i hi => ?_⟩
      obtain ⟨z, z0, z1, hz⟩ := hc i hi
      have hd : (⟨R, 1, none⟩ : Addr) ≠ ⟨g, off + i, none⟩ := fun e => hR (congrArg Addr.block e).symm
      exact ⟨z, z0, z1, by rw [World.cell?_setCell_other _ _ _ _ hd]; exact hz⟩
theorem Rd.drewN {w : World} {R : Nat} {a : Option Addr} {len cap p : Nat} (h : Rd w R a len cap p) (n : Nat) : Rd (w.drewN n) R a len cap p :=
  ⟨h.b0, h.p1, h.f1, h.sz, h.len_le, h.bytes⟩
theorem grown_drewN {w w' : World} {row : Option Nat} (h : w.grownBy w' row) (n : Nat) : w.grownBy (w'.drewN n) row :=
  ⟨h.os, h.tape, h.output, h.size, h.block⟩
theorem xor_bd (a b : Int) (ha0 : 0 ≤ a) (ha1 : a < 4611686018427387904) (hb0 : 0 ≤ b) (hb1 : b < 4611686018427387904) :
    0 ≤ bits BinOp.xor IntKind.i64 a b ∧ bits BinOp.xor IntKind.i64 a b < 4611686018427387904 := by
  obtain ⟨x, rfl⟩ := Int.eq_ofNat_of_zero_le ha0
  obtain ⟨y, rfl⟩ := Int.eq_ofNat_of_zero_le hb0
  have e1 : (BitVec.ofInt 64 (x : Int)).toNat = x := by
    rw [BitVec.ofInt_natCast, BitVec.toNat_ofNat]; exact Nat.mod_eq_of_lt (by omega)
  have e2 : (BitVec.ofInt 64 (y : Int)).toNat = y := by
    rw [BitVec.ofInt_natCast, BitVec.toNat_ofNat]; exact Nat.mod_eq_of_lt (by omega)
  have hx : x ^^^ y < 2 ^ 62 := Nat.xor_lt_two_pow (by omega) (by omega)
  have e : bits BinOp.xor IntKind.i64 (x : Int) (y : Int) = ((x ^^^ y : Nat) : Int) := by
    show IntKind.i64.wrap ((BitVec.ofInt 64 (x : Int) ^^^ BitVec.ofInt 64 (y : Int)).toNat : Int) = _
    rw [BitVec.toNat_xor, e1, e2, IntWalk.i64_in _ (by omega)]
  rw [e]; omega
set_option maxHeartbeats 1000000 in
theorem pick_none (R : Nat) (a : Option Addr) (len cap p : Nat) (n : Int) (w : World) (h : Rd w R a len cap p) (hp : p ≤ 1000000) (hn : n < 1) :
    Calls Try.prog 86 #[.pointer (some ⟨R, 0, none⟩), .int .i64 n] w (Picks R a len cap p n w) := by
  have H := Lib.hid h
  obtain ⟨b0, p1, f1, sz, len_le, bytes⟩ := h
  clear bytes
  go_enter Try.func86, Try.ntmps86
  go_wp2_with fail
  go_ret
  obtain ⟨h1, h2, h3⟩ := H.out.next ((p : Int) + 1) rfl
  exact ⟨0, rfl, by omega, .inr ⟨hn, rfl⟩, h1, h2, h3⟩
set_option maxHeartbeats 1000000 in
theorem pick_empty (R : Nat) (a : Option Addr) (cap p : Nat) (n : Int) (w : World) (h : Rd w R a 0 cap p) (hp : p ≤ 1000000) (hn : 1 ≤ n) :
    Calls Try.prog 86 #[.pointer (some ⟨R, 0, none⟩), .int .i64 n] w (Picks R a 0 cap p n w) := by
  have H := Lib.hid h
  obtain ⟨b0, p1, f1, sz, len_le, bytes⟩ := h
  clear bytes
  go_enter Try.func86, Try.ntmps86
  go_wp2_with fail
  go_ret
  obtain ⟨h1, h2, h3⟩ := H.out.next ((p : Int) + 1) rfl
  exact ⟨0, rfl, by omega, .inl (by omega), h1, h2, h3⟩
set_option maxHeartbeats 1000000 in
theorem pick_low (R g off : Nat) (len cap p : Nat) (n : Int) (w : World) (h : Rd w R (some ⟨g, off, none⟩) len cap p) (hp : p ≤ 1000000) (hn : 1 ≤ n) (hl : p < len) :
    Calls Try.prog 86 #[.pointer (some ⟨R, 0, none⟩), .int .i64 n] w (Picks R (some ⟨g, off, none⟩) len cap p n w) := by
  have H := Lib.hid h
  obtain ⟨b0, p1, f1, sz, len_le, bytes⟩ := h
  rcases bytes with h0 | ⟨g', off', ha, hR, hg, hc⟩
  · omega
  simp only [Option.some.injEq, Addr.mk.injEq, and_true] at ha
  obtain ⟨rfl, rfl⟩ := ha
  obtain ⟨z, z0, z1, hz⟩ := hc p hl
  clear hc
  have hgR : R ≠ g := Ne.symm hR
  have hlb : ((len : Int) == 0) = false := by simp; omega
  have hx0 : 0 ≤ z % n := Int.emod_nonneg _ (by omega)
  have hx1 : z % n < n := Int.emod_lt_of_pos _ (by omega)
  go_enter Try.func86, Try.ntmps86
  go_wp2_with fail
  go_ret
  obtain ⟨h1, h2, h3⟩ := H.out.next ((p : Int) + 1) rfl
  exact ⟨z % n, rfl, hx0, .inl hx1, h1, h2, h3⟩
set_option maxHeartbeats 4000000 in
theorem pick_high (R g off : Nat) (len cap p : Nat) (n : Int) (w : World) (h : Rd w R (some ⟨g, off, none⟩) len cap p) (hp : p ≤ 1000000) (hn : 1 ≤ n) (hl : len ≤ p) (hlen : 0 < len) :
    Calls Try.prog 86 #[.pointer (some ⟨R, 0, none⟩), .int .i64 n] w (Picks R (some ⟨g, off, none⟩) len cap p n w) := by
  have H := Lib.hid h
  obtain ⟨b0, p1, f1, sz, len_le, bytes⟩ := h
  rcases bytes with h0 | ⟨g', off', ha, hR, hg, hc⟩
  · omega
  simp only [Option.some.injEq, Addr.mk.injEq, and_true] at ha
  obtain ⟨rfl, rfl⟩ := ha
  obtain ⟨i, hi⟩ : ∃ i : Nat, i = p % len := ⟨_, rfl⟩
  obtain ⟨j, hj⟩ : ∃ j : Nat, j = (p * 7 + 3) % len := ⟨_, rfl⟩
  obtain ⟨d, hd⟩ : ∃ d : Nat, d = p / len := ⟨_, rfl⟩
  have m1 : i < len := by rw [hi]; exact Nat.mod_lt p hlen
  have m2 : j < len := by rw [hj]; exact Nat.mod_lt (p * 7 + 3) hlen
  have m3 : d ≤ 1000000 := by rw [hd]; exact Nat.le_trans (Nat.div_le_self _ _) hp
  obtain ⟨z, z0, z1, hz⟩ := hc i m1
  obtain ⟨y, y0, y1, hy⟩ := hc j m2
  have q1 : (p : Int).tmod (len : Int) = (i : Int) := by rw [hi, ← Int.ofNat_tmod]
  have q2 : (p : Int) % (len : Int) = (i : Int) := by rw [hi]; simp
  have q3 : ((p : Int) * 7 + 3).tmod (len : Int) = (j : Int) := by
    rw [hj, show ((p : Int) * 7 + 3) = ((p * 7 + 3 : Nat) : Int) by simp, ← Int.ofNat_tmod]
  have q4 : ((p : Int) * 7 + 3) % (len : Int) = (j : Int) := by rw [hj]; simp
  have q5 : (p : Int).tdiv (len : Int) = (d : Int) := by rw [hd, ← Int.ofNat_tdiv]
  have q6 : (p : Int) / (len : Int) = (d : Int) := by rw [hd]; simp
  have e1 : IntKind.i64.wrap ((p : Int) * 7) = (p : Int) * 7 := IntWalk.i64_in _ (by omega)
  have e2 : IntKind.i64.wrap ((p : Int) * 7 + 3) = (p : Int) * 7 + 3 := IntWalk.i64_in _ (by omega)
  have e3 : IntKind.i64.wrap (z * 131) = z * 131 := IntWalk.i64_in _ (by omega)
  have e4 : IntKind.i64.wrap (y * 1117) = y * 1117 := IntWalk.i64_in _ (by omega)
  have e5 : IntKind.i64.wrap (z * 131 + y * 1117) = z * 131 + y * 1117 := IntWalk.i64_in _ (by omega)
  have e6 : IntKind.i64.wrap ((p : Int) * 29) = (p : Int) * 29 := IntWalk.i64_in _ (by omega)
  have e7 : IntKind.i64.wrap (z * 131 + y * 1117 + (p : Int) * 29) = z * 131 + y * 1117 + (p : Int) * 29 := IntWalk.i64_in _ (by omega)
  have e8 : IntKind.i64.wrap (d : Int) = (d : Int) := IntWalk.i64_in _ (by omega)
  have e9 : IntKind.i64.wrap ((d : Int) * 53) = (d : Int) * 53 := IntWalk.i64_in _ (by omega)
  have e10 : IntKind.i64.wrap (z * 131 + y * 1117 + (p : Int) * 29 + (d : Int) * 53) = z * 131 + y * 1117 + (p : Int) * 29 + (d : Int) * 53 := IntWalk.i64_in _ (by omega)
  have e11 : IntKind.i64.wrap z = z := IntWalk.i64_in _ (by omega)
  have e12 : IntKind.i64.wrap y = y := IntWalk.i64_in _ (by omega)
  have i0 : (0 : Int) ≤ (i : Int) := by omega
  have i1 : (i : Int) < (len : Int) := by omega
  have j0 : (0 : Int) ≤ (j : Int) := by omega
  have j1 : (j : Int) < (len : Int) := by omega
  have hgR : R ≠ g := Ne.symm hR
  have hlb : ((len : Int) == 0) = false := by simp; omega
  have hk : ¬ ((p : Int) < (len : Int)) := by omega
  clear hc hi hj hd
  go_enter Try.func86, Try.ntmps86
  go_wp2_with fail
  go_quiet (fail)
  have hS0 : 0 ≤ z * 131 + y * 1117 + (p : Int) * 29 + (d : Int) * 53 := by omega
  have hS1 : z * 131 + y * 1117 + (p : Int) * 29 + (d : Int) * 53 < 1000000000 := by omega
  clear q1 q2 q3 q4 q5 q6 e1 e2 e3 e4 e5 e6 e7 e8 e9 e10 e11 e12 i0 i1 j0 j1
  generalize z * 131 + y * 1117 + (p : Int) * 29 + (d : Int) * 53 = S at *
  obtain ⟨x0, x1⟩ := xor_bd S (S / 64) hS0 (by omega) (by omega) (by omega)
  have hx0 : 0 ≤ bits BinOp.xor IntKind.i64 S (S / 64) % n := Int.emod_nonneg _ (by omega)
  have hx1 : bits BinOp.xor IntKind.i64 S (S / 64) % n < n := Int.emod_lt_of_pos _ (by omega)
  go_wp2
  go_ret
  obtain ⟨h1, h2, h3⟩ := H.out.next ((p : Int) + 1) rfl
  exact ⟨_, rfl, hx0, .inl hx1, h1.drewN _, grown_drewN h2 _, h3⟩
theorem pick_any (R : Nat) (a : Option Addr) (len cap p : Nat) (n : Int) (w : World) (h : Rd w R a len cap p) (hp : p ≤ 1000000) :
    Calls Try.prog 86 #[.pointer (some ⟨R, 0, none⟩), .int .i64 n] w (Picks R a len cap p n w) := by
  by_cases hn : 1 ≤ n
  · by_cases h0 : len = 0
    · subst h0; exact pick_empty R a cap p n w h hp hn
    · rcases h.bytes with hb | ⟨g, off, rfl, _⟩
      · exact absurd hb h0
      · by_cases hl : p < len
        · exact pick_low R g off len cap p n w h hp hn hl
        · exact pick_high R g off len cap p n w h hp hn (by omega) (by omega)
  · exact pick_none R a len cap p n w h hp (by omega)
end Go.Proofs.Ytajabchbdhjdiaa
namespace Go.Proofs.Ytajabchbdhjdiaa
open Go.RowKit
theorem grown_trans {w w1 w2 : World} {row : Option Nat} (h : w.grownBy w1 row) (k : w1.grownBy w2 row) : w.grownBy w2 row :=
  ⟨k.os.trans h.os, k.tape.trans h.tape, k.output.trans h.output, Nat.le_trans h.size k.size, fun b hb hne => (k.block b (Nat.lt_of_lt_of_le hb h.size) hne).trans (h.block b hb hne)⟩
theorem grown_alloc (w : World) (o : Obj) (row : Option Nat) : w.grownBy (w.alloc o) row :=
  ⟨rfl, rfl, rfl, by simp, fun k hk _ => Below.heap_alloc _ _ _ hk⟩
theorem Rd.alloc {w : World} {R : Nat} {a : Option Addr} {len cap p : Nat} (h : Rd w R a len cap p) (o : Obj) : Rd (w.alloc o) R a len cap p := by
  have sz := h.sz
  constructor
  · rw [World.cell?_alloc_past _ _ _ sz]; exact h.b0
  · rw [World.cell?_alloc_past _ _ _ sz]; exact h.p1
  · rw [World.frozen?_alloc_past _ _ _ sz]; exact h.f1
  · simp; omega
  · exact h.len_le
  · rcases h.bytes with h0 | ⟨g, off, ha, hR, hg, hc⟩
    · exact .inl h0
    · refine .inr ⟨g, off, ha, hR, by simp; omega, fun i hi => ?_⟩
      obtain ⟨z, z0, z1, hz⟩ := hc i hi
      exact ⟨z, z0, z1, by rw [World.cell?_alloc_past _ _ _ hg]; exact hz⟩
/-- num hands back one of the numbers of a list -/
def Nums (R : Nat) (a : Option Addr) (len cap p : Nat) (zs : List Int) (w : World) (e : Ending) (w' : World) : Prop :=
  ∃ x : Int, e = .returned (.int .i64 x) ∧ x ∈ zs ∧ Rd w' R a len cap (p + 1) ∧ w.grownBy w' (some R)
set_option maxHeartbeats 1000000 in
theorem num_any (R : Nat) (a : Option Addr) (len cap p : Nat) (B : Nat) (zs : List Int) (w : World) (h : Rd w R a len cap p) (hp : p ≤ 1000000) (hB : B ≠ R) (hBs : B < w.heap.size) (hz : 0 < zs.length) (hz1 : zs.length ≤ 1000)
    (hc : ∀ j : Nat, j < zs.length → w.cell? ⟨B, j, none⟩ = some (.int .i64 (zs.getD j 0))) :
    Calls Try.prog 85 #[.pointer (some ⟨R, 0, none⟩), .slice (some ⟨B, 0, none⟩) zs.length zs.length] w (Nums R a len cap p zs w) := by
  have hC := Lib.hid hc
  clear hc
  go_enter Try.func85, Try.ntmps85
  go_wp2_with fail
  refine (pick_any R a len cap p zs.length w h hp).mono ?_
  rintro e w1 ⟨x, rfl, x0, x1, hR1, hg1, hs1⟩
  have hx : x < (zs.length : Int) := by omega
  obtain ⟨j, rfl⟩ := Int.eq_ofNat_of_zero_le x0
  have hj : j < zs.length := by omega
  have hcj : w1.cell? ⟨B, j, none⟩ = some (.int .i64 (zs.getD j 0)) := by
    rw [World.cell?_of_block (w := w) (hg1.block B hBs (by simpa using hB))]; exact hC.out j hj
  have hm : zs.getD j 0 ∈ zs := by simp [hj]
  generalize zs.getD j 0 = y at hcj hm
  clear x1
  go_wp2
  go_ret
  exact ⟨y, rfl, hm, hR1, hg1⟩
/-- bytes that came in: their length, and that each can be read -/
def ByteRow (w : World) (a : Option Addr) (len cap : Nat) : Prop :=
  len ≤ cap ∧ cap ≤ 9223372036854775807 ∧ (len = 0 ∨ ∃ g off, a = some ⟨g, off, none⟩ ∧ g < w.heap.size ∧ ∀ i : Nat, i < len → ∃ z : Int, 0 ≤ z ∧ z < 256 ∧ w.cell? ⟨g, off + i, none⟩ = some (.int .u8 z))
theorem ByteRow.below {w w' : World} {a : Option Addr} {len cap : Nat} (h : ByteRow w a len cap) (hb : Below w.heap.size w w') : ByteRow w' a len cap := by
  obtain ⟨h1, h2, h3⟩ := h
  refine ⟨h1, h2, ?_⟩
  rcases h3 with h3 | ⟨g, off, ha, hg, hc⟩
  · exact .inl h3
  · refine .inr ⟨g, off, ha, by have := hb.size; omega, fun i hi => ?_⟩
    obtain ⟨z, z0, z1, hz⟩ := hc i hi
    exact ⟨z, z0, z1, by rw [hb.cell (p := ⟨g, off + i, none⟩) hg]; exact hz⟩
/-- l15Open lays a reader into a new block -/
def Opens (w : World) (e : Ending) (w' : World) : Prop :=
  ∃ a len cap, e = .returned (.pointer (some ⟨w.heap.size, 0, none⟩)) ∧ Rd w' w.heap.size a len cap 0 ∧ Below w.heap.size w w'
theorem open_rd (a : Option Addr) (len cap : Nat) (w : World) (hl : len ≤ 2000) (h : len = 0 ∨ ∃ g off, a = some ⟨g, off, none⟩ ∧ g < w.heap.size ∧ ∀ i : Nat, i < len → ∃ z : Int, 0 ≤ z ∧ z < 256 ∧ w.cell? ⟨g, off + i, none⟩ = some (.int .u8 z)) :
    Rd (w.alloc (Obj.cells #[Value.slice a len cap, Value.int IntKind.i64 0] 142)) w.heap.size a len cap 0 := by
  constructor
  · simp
  · simp
  · simp
  · simp
  · exact hl
  · rcases h with h0 | ⟨g, off, ha, hg, hc⟩
    · exact .inl h0
    · refine .inr ⟨g, off, ha, by omega, by simp; omega, fun i hi => ?_⟩
      obtain ⟨z, z0, z1, hz⟩ := hc i hi
      exact ⟨z, z0, z1, by rw [World.cell?_alloc_past _ _ _ hg]; exact hz⟩
set_option maxHeartbeats 1000000 in
theorem open_any (a : Option Addr) (len cap : Nat) (w : World) (h : ByteRow w a len cap) :
    Calls Try.prog 84 #[.slice a len cap] w (Opens w) := by
  obtain ⟨h1, h2, h3⟩ := h
  have H3 := Lib.hid h3
  clear h3
  by_cases hl : 2000 < len
  · go_enter Try.func84, Try.ntmps84
    go_wp2_with fail
    go_ret
    refine ⟨a, 2000, cap, rfl, open_rd a 2000 cap w (Nat.le_refl _) ?_, (Below.refl _ _).alloc (Nat.le_refl _) _⟩
    rcases H3.out with h3 | ⟨g, off, ha, hg, hc⟩
    · omega
    · exact .inr ⟨g, off, ha, hg, fun i hi => hc i (by omega)⟩
  · go_enter Try.func84, Try.ntmps84
    go_wp2_with fail
    go_ret
    exact ⟨a, len, cap, rfl, open_rd a len cap w (by omega) H3.out, (Below.refl _ _).alloc (Nat.le_refl _) _⟩
end Go.Proofs.Ytajabchbdhjdiaa
