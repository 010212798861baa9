/-
  Contracts of the exact laws' helpers on slices of numbers: eqIntS, markIntS, heldIntS, acSame. Conditions: what the slices hold is known.
  Rows of integers that a call owns. Conditions: none.
  Contracts of the model's reader of bytes (l15Open, pick, num). Conditions: the reader lies in a block of its own, its count is small.
  Contracts of the model's reader of bytes, on: num and l15Open. Conditions: what the bytes' slice and the list hold is known.
-/
import Derived.Test.YtlidplmpglpkgaaBa7
import Derived.Test.YtlidplmpglpkgaaChecked
import Derived.WalkKit
import Derived.Lib.Hide
import Derived.Outline
import Derived.BigQuiet
import Derived.Deep.QuietTactic
import Derived.OwnWalk
import Derived.Test.YtlidplmpglpkgaaBa2
import Derived.Below
namespace Go.Proofs.Ytlidplmpglpkgaa
open Go.RowKit
/-- a slice value that reads as a list of numbers in this world -/
def Ints (w : World) (v : Value) (L : List Int) : Prop :=
  L.length ≤ 281474976710656 ∧ ∃ a cap, v = .slice a L.length cap ∧ (L = [] ∨ ∃ g off, a = some ⟨g, off, none⟩ ∧ g < w.heap.size ∧ ∀ j, j < L.length → w.cell? ⟨g, off + j, none⟩ = some (.int .i64 (L.getD j 0)))
/-- only draws lie between two worlds -/
def Drawn (w w' : World) : Prop := ∃ n, w' = w.drewN n
theorem Drawn.refl (w : World) : Drawn w w := ⟨0, rfl⟩
theorem Drawn.more {w w' : World} (h : Drawn w w') (n : Nat) : Drawn w (w'.drewN n) := by
  obtain ⟨m, rfl⟩ := h; exact ⟨m + n, by simp⟩
theorem getD_ext {L M : List Int} (hl : L.length = M.length) (h : ∀ j : Nat, j < L.length → L.getD j 0 = M.getD j 0) : L = M := by
  apply List.ext_getElem hl
  intro j h1 h2
  have := h j h1
  simpa [h1, h2] using this
theorem getD_ne {L M : List Int} (j : Nat) (h : L.getD j 0 ≠ M.getD j 0) : L ≠ M := fun e => h (by rw [e])
theorem snoc_all {P : Nat → Prop} {k : Nat} (h : ∀ j : Nat, j < k → P j) (hk : P k) : ∀ j : Nat, j < k + 1 → P j := by
  intro j hj
  by_cases e : j = k
  · rw [e]; exact hk
  · exact h j (by omega)
theorem ret_bool' {a b : Bool} (h : a = b) : Ending.returned (.bool a) = .returned (.bool b) := by rw [h]
theorem ret_int' {a b : Int} (h : a = b) : Ending.returned (.int .i64 a) = .returned (.int .i64 b) := by rw [h]
/-- the numbers k, k + 1, .. -/
def counts (k : Int) (n : Nat) : List Int := (List.range n).map fun j => k + (j : Nat)
theorem counts_len (k : Int) (n : Nat) : (counts k n).length = n := by simp [counts]
theorem counts_getD (k : Int) (n j : Nat) (h : j < n) : (counts k n).getD j 0 = k + j := by simp [counts, h]
/-- the world inside markIntS, behind j rounds: block g bears the numbers, all else is as it was -/
structure MarkR (g off n : Nat) (k : Int) (j : Nat) (w wr : World) : Prop where
  done : ∀ i : Nat, i < j → wr.cell? ⟨g, off + i, none⟩ = some (.int .i64 (k + (i : Nat)))
  rest : ∀ i : Nat, j ≤ i → i < n → ∃ x, wr.cell? ⟨g, off + i, none⟩ = some x
  froz : ∀ a, wr.frozen? a = w.frozen? a
  far : ∀ b, b ≠ g → wr.heap[b]? = w.heap[b]?
  size : wr.heap.size = w.heap.size
  os : wr.os = w.os
  tape : wr.tape = w.tape
  output : wr.output = w.output
theorem MarkR.step {g off n : Nat} {k : Int} {j : Nat} {w wr : World} (h : MarkR g off n k j w wr) (hj : j < n) :
    MarkR g off n k (j + 1) w (wr.setCell ⟨g, off + j, none⟩ (.int .i64 (k + (j : Nat)))) := by
  obtain ⟨x, hx⟩ := h.rest j (Nat.le_refl _) hj
  constructor
  · intro i hi
    by_cases e : i = j
    · subst e; exact World.cell?_setCell_same _ _ _ hx
    · rw [World.cell?_setCell_other _ _ _ _ (by simp <;> omega)]; exact h.done i (by omega)
  · intro i hi hin
    obtain ⟨y, hy⟩ := h.rest i (by omega) hin
    exact ⟨y, by rw [World.cell?_setCell_other _ _ _ _ (by simp <;> omega)]; exact hy⟩
  · intro a; rw [World.frozen?_setCell]; exact h.froz a
  · intro b hb; rw [Below.heap_setCell _ _ _ _ hb]; exact h.far b hb
  · simpa using h.size
  · exact h.os
  · exact h.tape
  · exact h.output
theorem Drawn.below {w w' : World} (h : Drawn w w') (B : Nat) : Below B w w' := by
  obtain ⟨n, rfl⟩ := h
  exact ⟨rfl, rfl, rfl, Nat.le_refl _, fun _ _ => rfl⟩
theorem Drawn.size {w w' : World} (h : Drawn w w') : w'.heap.size = w.heap.size := by
  obtain ⟨n, rfl⟩ := h; rfl
theorem Ints.below {w w' : World} {v : Value} {L : List Int} (h : Ints w v L) (hb : Below w.heap.size w w') : Ints w' v L := by
  obtain ⟨h1, a, cap, hv, h2⟩ := h
  refine ⟨h1, a, cap, hv, ?_⟩
  rcases h2 with h2 | ⟨g, off, ha, hg, hc⟩
  · exact .inl h2
  · refine .inr ⟨g, off, ha, by have := hb.size; omega, fun j hj => ?_⟩
    rw [hb.cell (p := ⟨g, off + j, none⟩) hg]; exact hc j hj
/-- a slice value of n cells that hold k, k + 1, .., in a block from B on -/
def HeldBy (w : World) (B : Nat) (v : Value) (n : Nat) (k : Int) : Prop :=
  n ≤ 281474976710656 ∧ ∃ a cap, v = .slice a n cap ∧ (n = 0 ∨ ∃ g off, a = some ⟨g, off, none⟩ ∧ B ≤ g ∧ g < w.heap.size ∧ ∀ i : Nat, i < n → w.cell? ⟨g, off + i, none⟩ = some (.int .i64 (k + (i : Nat))))
theorem HeldBy.below {w w' : World} {B : Nat} {v : Value} {n : Nat} {k : Int} (h : HeldBy w B v n k) (hb : Below w.heap.size w w') : HeldBy w' B v n k := by
  obtain ⟨h1, a, cap, hv, h2⟩ := h
  refine ⟨h1, a, cap, hv, ?_⟩
  rcases h2 with h2 | ⟨g, off, ha, hB, hg, hc⟩
  · exact .inl h2
  · refine .inr ⟨g, off, ha, hB, by have := hb.size; omega, fun j hj => ?_⟩
    rw [hb.cell (p := ⟨g, off + j, none⟩) hg]; exact hc j hj
/-- a slice of the call's own, from block B on, that reads as a list of numbers -/
def OwnInts (w : World) (B : Nat) (v : Value) (L : List Int) : Prop :=
  L.length ≤ 281474976710656 ∧ ∃ a cap, v = .slice a L.length cap ∧ (L = [] ∨ ∃ g off, a = some ⟨g, off, none⟩ ∧ B ≤ g ∧ g < w.heap.size ∧ (∀ j, j < L.length → w.cell? ⟨g, off + j, none⟩ = some (.int .i64 (L.getD j 0))) ∧ ∀ j, j < L.length → w.frozen? ⟨g, off + j, none⟩ = false)
theorem OwnInts.ints {w : World} {B : Nat} {v : Value} {L : List Int} (h : OwnInts w B v L) : Ints w v L := by
  obtain ⟨h1, a, cap, hv, h2⟩ := h
  refine ⟨h1, a, cap, hv, ?_⟩
  rcases h2 with h2 | ⟨g, off, ha, _, hg, hc, _⟩
  · exact .inl h2
  · exact .inr ⟨g, off, ha, hg, hc⟩
theorem OwnInts.below {w w' : World} {B : Nat} {v : Value} {L : List Int} (h : OwnInts w B v L) (hb : Below w.heap.size w w') : OwnInts w' B v L := by
  obtain ⟨h1, a, cap, hv, h2⟩ := h
  refine ⟨h1, a, cap, hv, ?_⟩
  rcases h2 with h2 | ⟨g, off, ha, hB, hg, hc, hf⟩
  · exact .inl h2
  · refine .inr ⟨g, off, ha, hB, by have := hb.size; omega, fun j hj => ?_, fun j hj => ?_⟩
    · rw [hb.cell (p := ⟨g, off + j, none⟩) hg]; exact hc j hj
    · rw [hb.frozen (p := ⟨g, off + j, none⟩) hg]; exact hf j hj
theorem own_of_row {w : World} {B : Nat} {e : TypeId} {v : Value} {L : List Int} (h : w.ownsRow B e 1 v L.length (L.map (Value.int .i64))) (hle : L.length ≤ 281474976710656) : OwnInts w B v L := by
  have hl := h.lt
  have h0 := h
  obtain ⟨h1, h2⟩ := h
  rcases h2 with ⟨rfl, h2⟩ | ⟨g, cap, cur, rfl, hg, hh, hn, _, _, _⟩
  · refine ⟨hle, none, 0, by rw [h2], .inl (List.length_eq_zero_iff.1 h2)⟩
  · refine ⟨hle, _, cap, rfl, .inr ⟨g, 0, rfl, hg, (hl g rfl).2, fun j hj => ?_, fun j hj => ?_⟩⟩
    · rw [Nat.zero_add, h0.cellAt j (by omega)]; simp [hj]
    · rw [Nat.zero_add]; exact h0.frozenAt j
end Go.Proofs.Ytlidplmpglpkgaa
namespace Go.Proofs.Ytlidplmpglpkgaa
open Go.RowKit
theorem infoInt : (Try.prog.info? 3).map (fun i => (i.zero, i.size, i.bytes)) = some (some (.int .i64 0), 1, 8) := by kernel_rfl
/-- a value that owns a row of integers, in a block from B on -/
def RowI (w : World) (B : Nat) (v : Value) (L : List Int) : Prop := w.ownsRow B 3 1 v L.length (L.map (Value.int .i64))
theorem RowI.shape {w : World} {B : Nat} {v : Value} {L : List Int} (h : RowI w B v L) :
    (v = .slice none 0 0 ∧ L = []) ∨ ∃ g cap, v = .slice (some ⟨g, 0, none⟩) L.length cap ∧ B ≤ g ∧ g < w.heap.size ∧ L.length ≤ cap ∧ cap ≤ maxLen ∧ ∀ j : Nat, j < L.length → w.cell? ⟨g, j, none⟩ = some (.int .i64 (L.getD j 0)) := by
  have h0 := h
  rcases h.2 with ⟨h1, h2⟩ | ⟨g, cap, cur, rfl, hb, hg, hn, hm, _⟩
  · exact .inl ⟨h1, List.length_eq_zero_iff.1 h2⟩
  · exact .inr ⟨g, cap, rfl, hb, (Array.getElem?_eq_some_iff.1 hg).1, hn, hm, fun j hj => by rw [World.ownsRow.cellAt h0 j (by omega)]; simp [hj]⟩
theorem RowI.shape' {w : World} {B n : Nat} {v : Value} {L : List Int} (h : RowI w B v L) (hl : L.length = n) :
    (v = .slice none 0 0 ∧ n = 0) ∨ ∃ g cap, v = .slice (some ⟨g, 0, none⟩) n cap ∧ B ≤ g ∧ g < w.heap.size ∧ n ≤ cap ∧ cap ≤ maxLen ∧ ∀ j : Nat, j < n → w.cell? ⟨g, j, none⟩ = some (.int .i64 (L.getD j 0)) := by
  subst hl
  rcases h.shape with ⟨h1, h2⟩ | h
  · exact .inl ⟨h1, by rw [h2]; rfl⟩
  · exact .inr h
theorem RowI.form {w : World} {B n : Nat} {v : Value} {L : List Int} (h : RowI w B v L) (hl : L.length = n) : ∃ a cap, v = .slice a n cap := by
  rcases h.shape' hl with ⟨rfl, rfl⟩ | ⟨g, cap, rfl, _⟩
  · exact ⟨none, 0, rfl⟩
  · exact ⟨_, cap, rfl⟩
theorem RowI.below {w w' : World} {B : Nat} {v : Value} {L : List Int} (h : RowI w B v L) (hb : Below w.heap.size w w') : RowI w' B v L :=
  World.ownsRow.kept (row := none) h ⟨hb.os, hb.tape, hb.output, hb.size, fun k hk _ => hb.block k hk⟩ (by cases v.ownBlock <;> simp)
theorem RowI.nil (w : World) (B : Nat) : RowI w B (.slice none 0 0) [] := World.ownsRow_nil w B _ _
theorem RowI.lit0 (w : World) (B : Nat) (hb : B ≤ w.heap.size) : RowI (w.alloc (.cells #[] 3)) B (.slice (some ⟨w.heap.size, 0, none⟩) 0 0) [] :=
  World.ownsRow_lit (size := 1) w #[] 0 hb (by unfold maxLen; omega) rfl
theorem RowI.own {w : World} {B : Nat} {v : Value} {L : List Int} (h : RowI w B v L) (hle : L.length ≤ 281474976710656) : OwnInts w B v L := own_of_row h hle
theorem ownI_base {w : World} {B B' : Nat} {v : Value} {L : List Int} (h : OwnInts w B v L) (hB : B' ≤ B) : OwnInts w B' v L := by
  obtain ⟨h1, a, cap, hv, h2⟩ := h
  refine ⟨h1, a, cap, hv, ?_⟩
  rcases h2 with h2 | ⟨g, off, ha, hb, r⟩
  · exact .inl h2
  · exact .inr ⟨g, off, ha, by omega, r⟩
/-- growing a row leaves all below alone -/
theorem RowI.low {w w' : World} {B : Nat} {v : Value} {L : List Int} (h : RowI w B v L) (hb : B ≤ w.heap.size) (hg : w.grownBy w' v.ownBlock) : Below B w w' :=
  ⟨hg.os, hg.tape, hg.output, hg.size, fun k hk => hg.block k (by omega) (fun e => by have := (World.ownsRow.lt h k e.symm).1; omega)⟩
theorem RowI.snoc {w : World} {B : Nat} {v : Value} {L : List Int} {n : Int} (h : w.ownsRow B 3 1 v (L.length + 1) (L.map (Value.int .i64) ++ [.int .i64 n])) : RowI w B v (L ++ [n]) := by
  unfold RowI; simpa using h
theorem RowI.grow {w0 wr W w2 : World} {B : Nat} {v : Value} {L : List Int} (h : RowI wr B v L) (h0 : Below B w0 wr) (hB : B ≤ wr.heap.size) (hW : Below wr.heap.size wr W) (hg : W.grownBy w2 v.ownBlock) : Below B w0 w2 :=
  h0.trans ((hW.mono hB).trans (RowI.low (h.below hW) (Nat.le_trans hB hW.size) hg))
/-- the one integer of a new slice -/
theorem new_one (w : World) (n : Int) : ∀ (j : Nat) (u : Value), [Value.int .i64 n][j]? = some u → (w.alloc (Obj.cells #[.int .i64 n] 3)).cell? ((⟨w.heap.size, 0, none⟩ : Addr).add (j * 1)) = some u := by
  intro j u hj
  match j, hj with
  | 0, hj => simp at hj; subst hj; simp [Addr.add]
theorem one_ok (n : Int) : ∀ u : Value, u ∈ [Value.int .i64 n] → u.oneCell' = true := by
  intro u hu; simp at hu; subst hu; rfl
end Go.Proofs.Ytlidplmpglpkgaa
namespace Go.Proofs.Ytlidplmpglpkgaa
open Go.RowKit
/-- the reader in block R: its bytes and how many were taken -/
structure Rd (w : World) (R : Nat) (a : Option Addr) (len cap p : Nat) : Prop where
  b0 : w.cell? ⟨R, 0, none⟩ = some (.slice a len cap)
  p1 : w.cell? ⟨R, 1, none⟩ = some (.int .i64 p)
  f1 : w.frozen? ⟨R, 1, none⟩ = false
  sz : R < w.heap.size
  len_le : len ≤ 2000
  bytes : len = 0 ∨ ∃ g off, a = some ⟨g, off, none⟩ ∧ g ≠ R ∧ g < w.heap.size ∧ ∀ i : Nat, i < len → ∃ z : Int, 0 ≤ z ∧ z < 256 ∧ w.cell? ⟨g, off + i, none⟩ = some (.int .u8 z)
/-- pick hands back a number from 0 to n - 1 (0 if n is less than 1), counts on, and writes nowhere else -/
def Picks (R : Nat) (a : Option Addr) (len cap p : Nat) (n : Int) (w : World) (e : Ending) (w' : World) : Prop :=
  ∃ x : Int, e = .returned (.int .i64 x) ∧ 0 ≤ x ∧ (x < n ∨ n < 1 ∧ x = 0) ∧ Rd w' R a len cap (p + 1) ∧ w.grownBy w' (some R) ∧ w'.heap.size = w.heap.size
theorem Rd.next {w : World} {R : Nat} {a : Option Addr} {len cap p : Nat} (h : Rd w R a len cap p) (v : Int) (hv : v = (p : Int) + 1) :
    Rd (w.setCell ⟨R, 1, none⟩ (.int .i64 v)) R a len cap (p + 1) ∧ w.grownBy (w.setCell ⟨R, 1, none⟩ (.int .i64 v)) (some R) ∧ (w.setCell ⟨R, 1, none⟩ (.int .i64 v)).heap.size = w.heap.size := by
  subst hv
  refine ⟨?_, ⟨rfl, rfl, rfl, by simp, fun k _ hne => Below.heap_setCell _ _ _ _ (by simpa using hne)⟩, by simp⟩
  constructor
  · rw [World.cell?_setCell_other _ _ _ _ (by simp)]; exact h.b0
  · rw [World.cell?_setCell_same _ _ _ h.p1]; simp
  · simpa using h.f1
  · simpa using h.sz
  · exact h.len_le
  · rcases h.bytes with h0 | ⟨g, off, ha, hR, hg, hc⟩
    · exact .inl h0
    · refine .inr ⟨g, off, ha, hR, by simpa using hg, fun i hi => ?_⟩
      obtain ⟨z, z0, z1, hz⟩ := hc i hi
      have hd : (⟨R, 1, none⟩ : Addr) ≠ ⟨g, off + i, none⟩ := fun e => hR (congrArg Addr.block e).symm
      exact ⟨z, z0, z1, by rw [World.cell?_setCell_other _ _ _ _ hd]; exact hz⟩
theorem Rd.drewN {w : World} {R : Nat} {a : Option Addr} {len cap p : Nat} (h : Rd w R a len cap p) (n : Nat) : Rd (w.drewN n) R a len cap p :=
  ⟨h.b0, h.p1, h.f1, h.sz, h.len_le, h.bytes⟩
theorem grown_drewN {w w' : World} {row : Option Nat} (h : w.grownBy w' row) (n : Nat) : w.grownBy (w'.drewN n) row :=
  ⟨h.os, h.tape, h.output, h.size, h.block⟩
theorem xor_bd (a b : Int) (ha0 : 0 ≤ a) (ha1 : a < 4611686018427387904) (hb0 : 0 ≤ b) (hb1 : b < 4611686018427387904) :
    0 ≤ bits BinOp.xor IntKind.i64 a b ∧ bits BinOp.xor IntKind.i64 a b < 4611686018427387904 := by
  obtain ⟨x, rfl⟩ := Int.eq_ofNat_of_zero_le ha0
  obtain ⟨y, rfl⟩ := Int.eq_ofNat_of_zero_le hb0
  have e1 : (BitVec.ofInt 64 (x : Int)).toNat = x := by
    rw [BitVec.ofInt_natCast, BitVec.toNat_ofNat]; exact Nat.mod_eq_of_lt (by omega)
  have e2 : (BitVec.ofInt 64 (y : Int)).toNat = y := by
    rw [BitVec.ofInt_natCast, BitVec.toNat_ofNat]; exact Nat.mod_eq_of_lt (by omega)
  have hx : x ^^^ y < 2 ^ 62 := Nat.xor_lt_two_pow (by omega) (by omega)
  have e : bits BinOp.xor IntKind.i64 (x : Int) (y : Int) = ((x ^^^ y : Nat) : Int) := by
    show IntKind.i64.wrap ((BitVec.ofInt 64 (x : Int) ^^^ BitVec.ofInt 64 (y : Int)).toNat : Int) = _
    rw [BitVec.toNat_xor, e1, e2, IntWalk.i64_in _ (by omega)]
  rw [e]; omega
set_option maxHeartbeats 1000000 in
theorem pick_none (R : Nat) (a : Option Addr) (len cap p : Nat) (n : Int) (w : World) (h : Rd w R a len cap p) (hp : p ≤ 1000000) (hn : n < 1) :
    Calls Try.prog 190 #[.pointer (some ⟨R, 0, none⟩), .int .i64 n] w (Picks R a len cap p n w) := by
  have H := Lib.hid h
  obtain ⟨b0, p1, f1, sz, len_le, bytes⟩ := h
  clear bytes
  go_enter Try.func190, Try.ntmps190
  go_wp2_with fail
  go_ret
  obtain ⟨h1, h2, h3⟩ := H.out.next ((p : Int) + 1) rfl
  exact ⟨0, rfl, by omega, .inr ⟨hn, rfl⟩, h1, h2, h3⟩
set_option maxHeartbeats 1000000 in
theorem pick_empty (R : Nat) (a : Option Addr) (cap p : Nat) (n : Int) (w : World) (h : Rd w R a 0 cap p) (hp : p ≤ 1000000) (hn : 1 ≤ n) :
    Calls Try.prog 190 #[.pointer (some ⟨R, 0, none⟩), .int .i64 n] w (Picks R a 0 cap p n w) := by
  have H := Lib.hid h
  obtain ⟨b0, p1, f1, sz, len_le, bytes⟩ := h
  clear bytes
  go_enter Try.func190, Try.ntmps190
  go_wp2_with fail
  go_ret
  obtain ⟨h1, h2, h3⟩ := H.out.next ((p : Int) + 1) rfl
  exact ⟨0, rfl, by omega, .inl (by omega), h1, h2, h3⟩
set_option maxHeartbeats 1000000 in
theorem pick_low (R g off : Nat) (len cap p : Nat) (n : Int) (w : World) (h : Rd w R (some ⟨g, off, none⟩) len cap p) (hp : p ≤ 1000000) (hn : 1 ≤ n) (hl : p < len) :
    Calls Try.prog 190 #[.pointer (some ⟨R, 0, none⟩), .int .i64 n] w (Picks R (some ⟨g, off, none⟩) len cap p n w) := by
  have H := Lib.hid h
  obtain ⟨b0, p1, f1, sz, len_le, bytes⟩ := h
  rcases bytes with h0 | ⟨g', off', ha, hR, hg, hc⟩
  · omega
  simp only [Option.some.injEq, Addr.mk.injEq, and_true] at ha
  obtain ⟨rfl, rfl⟩ := ha
  obtain ⟨z, z0, z1, hz⟩ := hc p hl
  clear hc
  have hgR : R ≠ g := Ne.symm hR
  have hlb : ((len : Int) == 0) = false := by simp; omega
  have hx0 : 0 ≤ z % n := Int.emod_nonneg _ (by omega)
  have hx1 : z % n < n := Int.emod_lt_of_pos _ (by omega)
  go_enter Try.func190, Try.ntmps190
  go_wp2_with fail
  go_ret
  obtain ⟨h1, h2, h3⟩ := H.out.next ((p : Int) + 1) rfl
  exact ⟨z % n, rfl, hx0, .inl hx1, h1, h2, h3⟩
set_option maxHeartbeats 4000000 in
theorem pick_high (R g off : Nat) (len cap p : Nat) (n : Int) (w : World) (h : Rd w R (some ⟨g, off, none⟩) len cap p) (hp : p ≤ 1000000) (hn : 1 ≤ n) (hl : len ≤ p) (hlen : 0 < len) :
    Calls Try.prog 190 #[.pointer (some ⟨R, 0, none⟩), .int .i64 n] w (Picks R (some ⟨g, off, none⟩) len cap p n w) := by
  have H := Lib.hid h
  obtain ⟨b0, p1, f1, sz, len_le, bytes⟩ := h
  rcases bytes with h0 | ⟨g', off', ha, hR, hg, hc⟩
  · omega
  simp only [Option.some.injEq, Addr.mk.injEq, and_true] at ha
  obtain ⟨rfl, rfl⟩ := ha
  obtain ⟨i, hi⟩ : ∃ i : Nat, i = p % len := ⟨_, rfl⟩
  obtain ⟨j, hj⟩ : ∃ j : Nat, j = (p * 7 + 3) % len := ⟨_, rfl⟩
  obtain ⟨d, hd⟩ : ∃ d : Nat, d = p / len := ⟨_, rfl⟩
  have m1 : i < len := by rw [hi]; exact Nat.mod_lt p hlen
  have m2 : j < len := by rw [hj]; exact Nat.mod_lt (p * 7 + 3) hlen
  have m3 : d ≤ 1000000 := by rw [hd]; exact Nat.le_trans (Nat.div_le_self _ _) hp
  obtain ⟨z, z0, z1, hz⟩ := hc i m1
  obtain ⟨y, y0, y1, hy⟩ := hc j m2
  have q1 : (p : Int).tmod (len : Int) = (i : Int) := by rw [hi, ← Int.ofNat_tmod]
  have q2 : (p : Int) % (len : Int) = (i : Int) := by rw [hi]; simp
  have q3 : ((p : Int) * 7 + 3).tmod (len : Int) = (j : Int) := by
    rw [hj, show ((p : Int) * 7 + 3) = ((p * 7 + 3 : Nat) : Int) by simp, ← Int.ofNat_tmod]
  have q4 : ((p : Int) * 7 + 3) % (len : Int) = (j : Int) := by rw [hj]; simp
  have q5 : (p : Int).tdiv (len : Int) = (d : Int) := by rw [hd, ← Int.ofNat_tdiv]
  have q6 : (p : Int) / (len : Int) = (d : Int) := by rw [hd]; simp
  have e1 : IntKind.i64.wrap ((p : Int) * 7) = (p : Int) * 7 := IntWalk.i64_in _ (by omega)
  have e2 : IntKind.i64.wrap ((p : Int) * 7 + 3) = (p : Int) * 7 + 3 := IntWalk.i64_in _ (by omega)
  have e3 : IntKind.i64.wrap (z * 131) = z * 131 := IntWalk.i64_in _ (by omega)
  have e4 : IntKind.i64.wrap (y * 1117) = y * 1117 := IntWalk.i64_in _ (by omega)
  have e5 : IntKind.i64.wrap (z * 131 + y * 1117) = z * 131 + y * 1117 := IntWalk.i64_in _ (by omega)
  have e6 : IntKind.i64.wrap ((p : Int) * 29) = (p : Int) * 29 := IntWalk.i64_in _ (by omega)
  have e7 : IntKind.i64.wrap (z * 131 + y * 1117 + (p : Int) * 29) = z * 131 + y * 1117 + (p : Int) * 29 := IntWalk.i64_in _ (by omega)
  have e8 : IntKind.i64.wrap (d : Int) = (d : Int) := IntWalk.i64_in _ (by omega)
  have e9 : IntKind.i64.wrap ((d : Int) * 53) = (d : Int) * 53 := IntWalk.i64_in _ (by omega)
  have e10 : IntKind.i64.wrap (z * 131 + y * 1117 + (p : Int) * 29 + (d : Int) * 53) = z * 131 + y * 1117 + (p : Int) * 29 + (d : Int) * 53 := IntWalk.i64_in _ (by omega)
  have e11 : IntKind.i64.wrap z = z := IntWalk.i64_in _ (by omega)
  have e12 : IntKind.i64.wrap y = y := IntWalk.i64_in _ (by omega)
  have i0 : (0 : Int) ≤ (i : Int) := by omega
  have i1 : (i : Int) < (len : Int) := by omega
  have j0 : (0 : Int) ≤ (j : Int) := by omega
  have j1 : (j : Int) < (len : Int) := by omega
  have hgR : R ≠ g := Ne.symm hR
  have hlb : ((len : Int) == 0) = false := by simp; omega
  have hk : ¬ ((p : Int) < (len : Int)) := by omega
  clear hc hi hj hd
  go_enter Try.func190, Try.ntmps190
  go_wp2_with fail
  go_quiet (fail)
  have hS0 : 0 ≤ z * 131 + y * 1117 + (p : Int) * 29 + (d : Int) * 53 := by omega
  have hS1 : z * 131 + y * 1117 + (p : Int) * 29 + (d : Int) * 53 < 1000000000 := by omega
  clear q1 q2 q3 q4 q5 q6 e1 e2 e3 e4 e5 e6 e7 e8 e9 e10 e11 e12 i0 i1 j0 j1
  generalize z * 131 + y * 1117 + (p : Int) * 29 + (d : Int) * 53 = S at *
  obtain ⟨x0, x1⟩ := xor_bd S (S / 64) hS0 (by omega) (by omega) (by omega)
  have hx0 : 0 ≤ bits BinOp.xor IntKind.i64 S (S / 64) % n := Int.emod_nonneg _ (by omega)
  have hx1 : bits BinOp.xor IntKind.i64 S (S / 64) % n < n := Int.emod_lt_of_pos _ (by omega)
  go_wp2
  go_ret
  obtain ⟨h1, h2, h3⟩ := H.out.next ((p : Int) + 1) rfl
  exact ⟨_, rfl, hx0, .inl hx1, h1.drewN _, grown_drewN h2 _, h3⟩
theorem pick_any (R : Nat) (a : Option Addr) (len cap p : Nat) (n : Int) (w : World) (h : Rd w R a len cap p) (hp : p ≤ 1000000) :
    Calls Try.prog 190 #[.pointer (some ⟨R, 0, none⟩), .int .i64 n] w (Picks R a len cap p n w) := by
  by_cases hn : 1 ≤ n
  · by_cases h0 : len = 0
    · subst h0; exact pick_empty R a cap p n w h hp hn
    · rcases h.bytes with hb | ⟨g, off, rfl, _⟩
      · exact absurd hb h0
      · by_cases hl : p < len
        · exact pick_low R g off len cap p n w h hp hn hl
        · exact pick_high R g off len cap p n w h hp hn (by omega) (by omega)
  · exact pick_none R a len cap p n w h hp (by omega)
end Go.Proofs.Ytlidplmpglpkgaa
namespace Go.Proofs.Ytlidplmpglpkgaa
open Go.RowKit
theorem grown_trans {w w1 w2 : World} {row : Option Nat} (h : w.grownBy w1 row) (k : w1.grownBy w2 row) : w.grownBy w2 row :=
  ⟨k.os.trans h.os, k.tape.trans h.tape, k.output.trans h.output, Nat.le_trans h.size k.size, fun b hb hne => (k.block b (Nat.lt_of_lt_of_le hb h.size) hne).trans (h.block b hb hne)⟩
theorem grown_alloc (w : World) (o : Obj) (row : Option Nat) : w.grownBy (w.alloc o) row :=
  ⟨rfl, rfl, rfl, by simp, fun k hk _ => Below.heap_alloc _ _ _ hk⟩
theorem Rd.alloc {w : World} {R : Nat} {a : Option Addr} {len cap p : Nat} (h : Rd w R a len cap p) (o : Obj) : Rd (w.alloc o) R a len cap p := by
  have sz := h.sz
  constructor
  · rw [World.cell?_alloc_past _ _ _ sz]; exact h.b0
  · rw [World.cell?_alloc_past _ _ _ sz]; exact h.p1
  · rw [World.frozen?_alloc_past _ _ _ sz]; exact h.f1
  · simp; omega
  · exact h.len_le
  · rcases h.bytes with h0 | ⟨g, off, ha, hR, hg, hc⟩
    · exact .inl h0
    · refine .inr ⟨g, off, ha, hR, by simp; omega, fun i hi => ?_⟩
      obtain ⟨z, z0, z1, hz⟩ := hc i hi
      exact ⟨z, z0, z1, by rw [World.cell?_alloc_past _ _ _ hg]; exact hz⟩
/-- num hands back one of the numbers of a list -/
def Nums (R : Nat) (a : Option Addr) (len cap p : Nat) (zs : List Int) (w : World) (e : Ending) (w' : World) : Prop :=
  ∃ x : Int, e = .returned (.int .i64 x) ∧ x ∈ zs ∧ Rd w' R a len cap (p + 1) ∧ w.grownBy w' (some R)
set_option maxHeartbeats 1000000 in
theorem num_any (R : Nat) (a : Option Addr) (len cap p : Nat) (B : Nat) (zs : List Int) (w : World) (h : Rd w R a len cap p) (hp : p ≤ 1000000) (hB : B ≠ R) (hBs : B < w.heap.size) (hz : 0 < zs.length) (hz1 : zs.length ≤ 1000)
    (hc : ∀ j : Nat, j < zs.length → w.cell? ⟨B, j, none⟩ = some (.int .i64 (zs.getD j 0))) :
    Calls Try.prog 130 #[.pointer (some ⟨R, 0, none⟩), .slice (some ⟨B, 0, none⟩) zs.length zs.length] w (Nums R a len cap p zs w) := by
  have hC := Lib.hid hc
  clear hc
  go_enter Try.func130, Try.ntmps130
  go_wp2_with fail
  refine (pick_any R a len cap p zs.length w h hp).mono ?_
  rintro e w1 ⟨x, rfl, x0, x1, hR1, hg1, hs1⟩
  have hx : x < (zs.length : Int) := by omega
  obtain ⟨j, rfl⟩ := Int.eq_ofNat_of_zero_le x0
  have hj : j < zs.length := by omega
  have hcj : w1.cell? ⟨B, j, none⟩ = some (.int .i64 (zs.getD j 0)) := by
    rw [World.cell?_of_block (w := w) (hg1.block B hBs (by simpa using hB))]; exact hC.out j hj
  have hm : zs.getD j 0 ∈ zs := by simp [hj]
  generalize zs.getD j 0 = y at hcj hm
  clear x1
  go_wp2
  go_ret
  exact ⟨y, rfl, hm, hR1, hg1⟩
/-- bytes that came in: their length, and that each can be read -/
def ByteRow (w : World) (a : Option Addr) (len cap : Nat) : Prop :=
  len ≤ cap ∧ cap ≤ 9223372036854775807 ∧ (len = 0 ∨ ∃ g off, a = some ⟨g, off, none⟩ ∧ g < w.heap.size ∧ ∀ i : Nat, i < len → ∃ z : Int, 0 ≤ z ∧ z < 256 ∧ w.cell? ⟨g, off + i, none⟩ = some (.int .u8 z))
theorem ByteRow.below {w w' : World} {a : Option Addr} {len cap : Nat} (h : ByteRow w a len cap) (hb : Below w.heap.size w w') : ByteRow w' a len cap := by
  obtain ⟨h1, h2, h3⟩ := h
  refine ⟨h1, h2, ?_⟩
  rcases h3 with h3 | ⟨g, off, ha, hg, hc⟩
  · exact .inl h3
  · refine .inr ⟨g, off, ha, by have := hb.size; omega, fun i hi => ?_⟩
    obtain ⟨z, z0, z1, hz⟩ := hc i hi
    exact ⟨z, z0, z1, by rw [hb.cell (p := ⟨g, off + i, none⟩) hg]; exact hz⟩
/-- l15Open lays a reader into a new block -/
def Opens (w : World) (e : Ending) (w' : World) : Prop :=
  ∃ a len cap, e = .returned (.pointer (some ⟨w.heap.size, 0, none⟩)) ∧ Rd w' w.heap.size a len cap 0 ∧ Below w.heap.size w w'
theorem open_rd (a : Option Addr) (len cap : Nat) (w : World) (hl : len ≤ 2000) (h : len = 0 ∨ ∃ g off, a = some ⟨g, off, none⟩ ∧ g < w.heap.size ∧ ∀ i : Nat, i < len → ∃ z : Int, 0 ≤ z ∧ z < 256 ∧ w.cell? ⟨g, off + i, none⟩ = some (.int .u8 z)) :
    Rd (w.alloc (Obj.cells #[Value.slice a len cap, Value.int IntKind.i64 0] 199)) w.heap.size a len cap 0 := by
  constructor
  · simp
  · simp
  · simp
  · simp
  · exact hl
  · rcases h with h0 | ⟨g, off, ha, hg, hc⟩
    · exact .inl h0
    · refine .inr ⟨g, off, ha, by omega, by simp; omega, fun i hi => ?_⟩
      obtain ⟨z, z0, z1, hz⟩ := hc i hi
      exact ⟨z, z0, z1, by rw [World.cell?_alloc_past _ _ _ hg]; exact hz⟩
set_option maxHeartbeats 1000000 in
theorem open_any (a : Option Addr) (len cap : Nat) (w : World) (h : ByteRow w a len cap) :
    Calls Try.prog 96 #[.slice a len cap] w (Opens w) := by
  obtain ⟨h1, h2, h3⟩ := h
  have H3 := Lib.hid h3
  clear h3
  by_cases hl : 2000 < len
  · go_enter Try.func96, Try.ntmps96
    go_wp2_with fail
    go_ret
    refine ⟨a, 2000, cap, rfl, open_rd a 2000 cap w (Nat.le_refl _) ?_, (Below.refl _ _).alloc (Nat.le_refl _) _⟩
    rcases H3.out with h3 | ⟨g, off, ha, hg, hc⟩
    · omega
    · exact .inr ⟨g, off, ha, hg, fun i hi => hc i (by omega)⟩
  · go_enter Try.func96, Try.ntmps96
    go_wp2_with fail
    go_ret
    exact ⟨a, len, cap, rfl, open_rd a len cap w (by omega) H3.out, (Below.refl _ _).alloc (Nat.le_refl _) _⟩
end Go.Proofs.Ytlidplmpglpkgaa
