/-
  What the walks of the exact laws need of slices of terms, gates and integers: sizes, marks. Conditions: what the slices hold is known.
  Circuits as lists of gates, of no program: which are circuits, which gates are used, depths, degrees, values. Conditions: none.
  Rows of gates that a call owns. Conditions: none.
-/
import Derived.Test.YtibghhkhnpjdfaaBa10
import Derived.Test.YtibghhkhnpjdfaaBa3
import Derived.Test.YtibghhkhnpjdfaaBa2
import Derived.Test.YtibghhkhnpjdfaaBa9
import Derived.OwnWalk
namespace Go.Proofs.Ytibghhkhnpjdfaa
open Go.RowKit
theorem szC_at (a : Option Addr) (n cap : Nat) (m : Int) (w : World) (h0 : 0 ≤ m) (h1 : m ≤ 1048576) (h : (n : Int) ≤ m) :
    Calls Try.prog 56 #[.slice a n cap, .int .i64 m] w fun e w' => e = .returned (.int .i64 (m - (n : Int))) ∧ w = w' :=
  (szC a n cap m w h0 h1 (by omega)).mono fun e w' h => by rw [if_neg (by omega)] at h; exact h
theorem szC_over (a : Option Addr) (n cap : Nat) (m : Int) (w : World) (h0 : 0 ≤ m) (h1 : m ≤ 1048576) (h : m < (n : Int)) (h2 : (n : Int) ≤ 9223372036854775807) :
    Calls Try.prog 56 #[.slice a n cap, .int .i64 m] w fun e w' => e = .returned (.int .i64 (-1)) ∧ w = w' :=
  (szC a n cap m w h0 h1 h2).mono fun e w' h => by rw [if_pos (by omega)] at h; exact h
theorem OwnTrms.betw' {B B' C : Nat} {w w' : World} {v : Value} {L : List Trm} (h : OwnTrms w B v L) (hC : C ≤ B) (hb : Betw B' C w w') : OwnTrms w' B v L := by
  obtain ⟨h1, a, cap, hv, h2⟩ := h
  refine ⟨h1, a, cap, hv, ?_⟩
  rcases h2 with h2 | ⟨g, off, ha, hB, hg, hc, hf⟩
  · exact .inl h2
  · have e := hb.block g (.inr (by omega))
    refine .inr ⟨g, off, ha, hB, by rw [hb.size]; exact hg, fun j hj => ?_, fun i hi => by rw [frozen_of_heap (p := ⟨g, off + i, none⟩) e]; exact hf i hi⟩
    obtain ⟨c0, c1, c2, c3⟩ := hc j hj
    exact ⟨by rw [cell_of_heap (p := ⟨g, off + j * 4, none⟩) e]; exact c0, by rw [cell_of_heap (p := ⟨g, off + j * 4 + 1, none⟩) e]; exact c1, by rw [cell_of_heap (p := ⟨g, off + j * 4 + 2, none⟩) e]; exact c2, by rw [cell_of_heap (p := ⟨g, off + j * 4 + 3, none⟩) e]; exact c3⟩
theorem OwnGats.betw' {B B' C : Nat} {w w' : World} {v : Value} {L : List Gt} (h : OwnGats w B v L) (hC : C ≤ B) (hb : Betw B' C w w') : OwnGats w' B v L := by
  obtain ⟨h1, a, cap, hv, h2⟩ := h
  refine ⟨h1, a, cap, hv, ?_⟩
  rcases h2 with h2 | ⟨g, off, ha, hB, hg, hc, hf⟩
  · exact .inl h2
  · have e := hb.block g (.inr (by omega))
    refine .inr ⟨g, off, ha, hB, by rw [hb.size]; exact hg, fun j hj => ?_, fun i hi => by rw [frozen_of_heap (p := ⟨g, off + i, none⟩) e]; exact hf i hi⟩
    obtain ⟨c0, c1, c2⟩ := hc j hj
    exact ⟨by rw [cell_of_heap (p := ⟨g, off + j * 3, none⟩) e]; exact c0, by rw [cell_of_heap (p := ⟨g, off + j * 3 + 1, none⟩) e]; exact c1, by rw [cell_of_heap (p := ⟨g, off + j * 3 + 2, none⟩) e]; exact c2⟩
theorem OwnInts.betw' {B B' C : Nat} {w w' : World} {v : Value} {L : List Int} (h : OwnInts w B v L) (hC : C ≤ B) (hb : Betw B' C w w') : OwnInts w' B v L := by
  obtain ⟨h1, a, cap, hv, h2⟩ := h
  refine ⟨h1, a, cap, hv, ?_⟩
  rcases h2 with h2 | ⟨g, off, ha, hB, hg, hc, hf⟩
  · exact .inl h2
  · have e := hb.block g (.inr (by omega))
    exact .inr ⟨g, off, ha, hB, by rw [hb.size]; exact hg, fun j hj => by rw [cell_of_heap (p := ⟨g, off + j, none⟩) e]; exact hc j hj, fun i hi => by rw [frozen_of_heap (p := ⟨g, off + i, none⟩) e]; exact hf i hi⟩
/-- an argument of a law is marked: what was made behind it stays -/
theorem markTsame (v : Value) (L : List Trm) (B : Nat) (k : Int) (w3 w : World) (h : OwnTrms w3 B v L) (hw : Same B w3 w) (hk0 : 0 ≤ k) (hk1 : k ≤ 1000000000000) :
    Calls Try.prog 154 #[v, .int .i64 k] w fun e w' => e = .returned (.int .i64 (k + 4 * (L.length : Int))) ∧ Betw B w3.heap.size w w' := by
  obtain ⟨h1, a, cap, rfl, h2⟩ := h
  rcases h2 with rfl | ⟨g, off, rfl, hB, hg, hc, hf⟩
  · refine (markTnil a cap k w).mono ?_
    rintro e w' ⟨rfl, rfl⟩
    exact ⟨by simp, rfl, rfl, rfl, rfl, fun _ _ => rfl⟩
  · have e := hw g hB hg
    refine (markT g off L.length cap k w h1 hk0 hk1 (fun i hi => ?_) (fun i hi => by rw [frozen_of_heap (p := ⟨g, off + i, none⟩) e]; exact hf i hi)).mono ?_
    · obtain ⟨t0, t1, t2, t3⟩ := hc (i / 4) (by omega)
      have ce : ∀ o, w.cell? ⟨g, o, none⟩ = w3.cell? ⟨g, o, none⟩ := fun o => cell_of_heap (p := ⟨g, o, none⟩) e
      have : i = i / 4 * 4 ∨ i = i / 4 * 4 + 1 ∨ i = i / 4 * 4 + 2 ∨ i = i / 4 * 4 + 3 := by omega
      rcases this with e | e | e | e
      · rw [e, ce]; exact ⟨_, t0⟩
      · rw [e, ← Nat.add_assoc, ce]; exact ⟨_, t1⟩
      · rw [e, ← Nat.add_assoc, ce]; exact ⟨_, t2⟩
      · rw [e, ← Nat.add_assoc, ce]; exact ⟨_, t3⟩
    · rintro e w' ⟨rfl, hM⟩
      exact ⟨rfl, hM.os, hM.tape, hM.output, hM.size, fun b hb => hM.far b (by omega)⟩
/-- an argument of a law is marked: what was made behind it stays -/
theorem markGsame (v : Value) (L : List Gt) (B : Nat) (k : Int) (w3 w : World) (h : OwnGats w3 B v L) (hw : Same B w3 w) (hk0 : 0 ≤ k) (hk1 : k ≤ 1000000000000) :
    Calls Try.prog 61 #[v, .int .i64 k] w fun e w' => e = .returned (.int .i64 (k + 3 * (L.length : Int))) ∧ Betw B w3.heap.size w w' := by
  obtain ⟨h1, a, cap, rfl, h2⟩ := h
  rcases h2 with rfl | ⟨g, off, rfl, hB, hg, hc, hf⟩
  · refine (markGnil a cap k w).mono ?_
    rintro e w' ⟨rfl, rfl⟩
    exact ⟨by simp, rfl, rfl, rfl, rfl, fun _ _ => rfl⟩
  · have e := hw g hB hg
    refine (markG g off L.length cap k w h1 hk0 hk1 (fun i hi => ?_) (fun i hi => by rw [frozen_of_heap (p := ⟨g, off + i, none⟩) e]; exact hf i hi)).mono ?_
    · obtain ⟨t0, t1, t2⟩ := hc (i / 3) (by omega)
      have ce : ∀ o, w.cell? ⟨g, o, none⟩ = w3.cell? ⟨g, o, none⟩ := fun o => cell_of_heap (p := ⟨g, o, none⟩) e
      have : i = i / 3 * 3 ∨ i = i / 3 * 3 + 1 ∨ i = i / 3 * 3 + 2 := by omega
      rcases this with e | e | e
      · rw [e, ce]; exact ⟨_, t0⟩
      · rw [e, ← Nat.add_assoc, ce]; exact ⟨_, t1⟩
      · rw [e, ← Nat.add_assoc, ce]; exact ⟨_, t2⟩
    · rintro e w' ⟨rfl, hM⟩
      exact ⟨rfl, hM.os, hM.tape, hM.output, hM.size, fun b hb => hM.far b (by omega)⟩
theorem bne_self2 (b : Bool) : (b != b) = false := by cases b <;> rfl
end Go.Proofs.Ytibghhkhnpjdfaa
namespace Go.Proofs.Ytibghhkhnpjdfaa
def inB (n lo hi : Int) : Bool := decide (lo ≤ n) && decide (n ≤ hi)
/-- may a gate stand at an index; hi is the greatest element -/
def gOK (hi : Int) (x : Gt) (i : Int) : Bool :=
  if x.k == 0 then inB x.a 0 2 && x.b == 0
  else if x.k == 1 then inB x.a 0 hi && x.b == 0
  else if x.k == 2 || x.k == 3 then inB x.a 0 (i - 1) && inB x.b 0 (i - 1)
  else false
def gAt (L : List Gt) (k : Nat) : Gt := L.getD k default
def allG (hi : Int) (L : List Gt) : Bool := (List.range L.length).all fun k => gOK hi (gAt L k) k
def circB (p : Int) (L : List Gt) : Bool := isP p && ((decide (1 ≤ L.length) && decide (L.length ≤ 60)) && allG (p - 1) L)
theorem allG_no {hi : Int} {L : List Gt} {k : Nat} (hk : k < L.length) (h : gOK hi (gAt L k) k = false) : allG hi L = false := by
  unfold allG
  rw [List.all_eq_false]
  exact ⟨k, by simpa using hk, by simp [h]⟩
theorem allG_all {hi : Int} {L : List Gt} (h : ∀ j : Nat, j < L.length → gOK hi (gAt L j) j = true) : allG hi L = true := by
  unfold allG
  rw [List.all_eq_true]
  intro k hk
  exact h k (by simpa using hk)
theorem circB_iff {p : Int} {L : List Gt} : circB p L = true ↔ isP p = true ∧ 1 ≤ L.length ∧ L.length ≤ 60 ∧ ∀ j : Nat, j < L.length → gOK (p - 1) (gAt L j) j = true := by
  unfold circB
  constructor
  · intro h
    simp only [Bool.and_eq_true, decide_eq_true_eq] at h
    refine ⟨h.1, h.2.1.1, h.2.1.2, fun j hj => ?_⟩
    have := h.2.2
    unfold allG at this
    rw [List.all_eq_true] at this
    exact this j (by simpa using hj)
  · rintro ⟨h1, h2, h3, h4⟩
    simp [h1, h2, h3, allG_all h4]
/-- the four shapes of a gate that may stand at an index -/
theorem gOK_cases {hi : Int} {x : Gt} {i : Int} (h : gOK hi x i = true) :
    (x.k = 0 ∧ 0 ≤ x.a ∧ x.a ≤ 2 ∧ x.b = 0) ∨ (x.k = 1 ∧ 0 ≤ x.a ∧ x.a ≤ hi ∧ x.b = 0) ∨ ((x.k = 2 ∨ x.k = 3) ∧ 0 ≤ x.a ∧ x.a < i ∧ 0 ≤ x.b ∧ x.b < i) := by
  unfold gOK at h
  split at h
  · rename_i h0; simp [inB] at h h0; omega
  · split at h
    · rename_i h0; simp [inB] at h h0; omega
    · split at h
      · rename_i h0; simp [inB] at h h0; omega
      · simp at h
def joinsB (x : Gt) : Bool := x.k == 2 || x.k == 3
/-- which gates are used, behind m rounds from the last gate down -/
def usedK (L : List Gt) : Nat → Nat → Bool
  | 0 => fun j => j + 1 == L.length
  | m + 1 => fun j =>
    let i := L.length - 1 - m
    if usedK L m i && joinsB (gAt L i) then usedK L m j || (j : Int) == (gAt L i).a || (j : Int) == (gAt L i).b else usedK L m j
def usedF (L : List Gt) (j : Nat) : Bool := usedK L L.length j
/-- the numbers of the used gates below k -/
def usedTo (U : Nat → Bool) : Nat → List Nat
  | 0 => []
  | k + 1 => if U k then usedTo U k ++ [k] else usedTo U k
/-- depths of the gates below k -/
def depL (L : List Gt) : Nat → List Int
  | 0 => []
  | k + 1 => depL L k ++ [if joinsB (gAt L k) then 1 + max ((depL L k).getD (gAt L k).a.toNat 0) ((depL L k).getD (gAt L k).b.toNat 0) else 0]
theorem depL_len (L : List Gt) : ∀ k, (depL L k).length = k
  | 0 => rfl
  | k + 1 => by simp [depL, depL_len L k]
/-- formal degrees of the gates below k -/
def degL (L : List Gt) : Nat → List Int
  | 0 => []
  | k + 1 => degL L k ++ [let x := gAt L k
      if x.k == 0 then 1 else if x.k == 2 then max ((degL L k).getD x.a.toNat 0) ((degL L k).getD x.b.toNat 0)
      else if x.k == 3 then min ((degL L k).getD x.a.toNat 0 + (degL L k).getD x.b.toNat 0) 1000 else 0]
theorem degL_len (L : List Gt) : ∀ k, (degL L k).length = k
  | 0 => rfl
  | k + 1 => by simp [degL, degL_len L k]
end Go.Proofs.Ytibghhkhnpjdfaa
namespace Go.Proofs.Ytibghhkhnpjdfaa
open Go.RowKit
def Gt.cs (x : Gt) : List Value := [.int .i64 x.k, .int .i64 x.a, .int .i64 x.b]
/-- the cells of a list of gates -/
def flatG : List Gt → List Value
  | [] => []
  | x :: r => x.cs ++ flatG r
theorem flatG_len : ∀ L : List Gt, (flatG L).length = L.length * 3
  | [] => rfl
  | x :: r => by simp [flatG, Gt.cs, flatG_len r]; omega
theorem flatG_app : ∀ A B : List Gt, flatG (A ++ B) = flatG A ++ flatG B
  | [], _ => rfl
  | x :: r, B => by simp [flatG, flatG_app r B]
theorem flatG_one (x : Gt) : flatG [x] = x.cs := by simp [flatG]
theorem flatG_at : ∀ (L : List Gt) (j d : Nat), j < L.length → d < 3 → (flatG L)[j * 3 + d]? = ((L.getD j default).cs)[d]?
  | [], j, d, h, _ => by simp at h
  | x :: r, 0, d, _, hd => by
    show (x.cs ++ flatG r)[0 * 3 + d]? = _
    rw [List.getElem?_append_left (by simp [Gt.cs]; omega)]
    simp
  | x :: r, j + 1, d, h, hd => by
    show (x.cs ++ flatG r)[(j + 1) * 3 + d]? = _
    rw [List.getElem?_append_right (by simp [Gt.cs]; omega), show (j + 1) * 3 + d - x.cs.length = j * 3 + d by simp [Gt.cs]; omega, flatG_at r j d (by simpa using h) hd]
    simp
theorem flatG_cell : ∀ (L : List Gt) (u : Value), u ∈ flatG L → u.oneCell' = true
  | [], u, h => by simp [flatG] at h
  | x :: r, u, h => by
    rcases List.mem_append.1 (show u ∈ x.cs ++ flatG r from h) with h | h
    · simp [Gt.cs] at h; rcases h with rfl | rfl | rfl <;> rfl
    · exact flatG_cell r u h
theorem flatG_take : ∀ (L : List Gt) (k : Nat), (flatG L).take (k * 3) = flatG (L.take k)
  | [], k => by simp [flatG]
  | x :: r, 0 => by simp [flatG]
  | x :: r, k + 1 => by
    show (x.cs ++ flatG r).take ((k + 1) * 3) = x.cs ++ flatG (r.take k)
    rw [List.take_append, ← flatG_take r k, List.take_of_length_le (by simp [Gt.cs]; omega), show (k + 1) * 3 - x.cs.length = k * 3 by simp [Gt.cs]; omega]
theorem flatG_drop : ∀ (L : List Gt) (k : Nat), (flatG L).drop (k * 3) = flatG (L.drop k)
  | [], k => by simp [flatG]
  | x :: r, 0 => by simp
  | x :: r, k + 1 => by
    show (x.cs ++ flatG r).drop ((k + 1) * 3) = flatG (r.drop k)
    rw [List.drop_append, ← flatG_drop r k, List.drop_of_length_le (by simp [Gt.cs]; omega), show (k + 1) * 3 - x.cs.length = k * 3 by simp [Gt.cs]; omega]
    rfl
/-- a value that owns a row of gates, in a block from B on -/
def RowGt (w : World) (B : Nat) (v : Value) (L : List Gt) : Prop := w.ownsRow B 116 3 v L.length (flatG L)
theorem RowGt.tat {w : World} {B g n cap : Nat} {L : List Gt} (h : RowGt w B (.slice (some ⟨g, 0, none⟩) n cap) L) (hn : n = L.length) {j : Nat} (hj : j < L.length) : GAt w g (j * 3) (L.getD j default) := by
  subst hn
  have key : ∀ d, d < 3 → w.cell? ⟨g, j * 3 + d, none⟩ = ((L.getD j default).cs)[d]? := fun d hd => by
    rw [World.ownsRow.cellAt h (j * 3 + d) (by omega), flatG_at L j d hj hd]
  exact ⟨key 0 (by omega), key 1 (by omega), key 2 (by omega)⟩
theorem RowGt.shape {w : World} {B : Nat} {v : Value} {L : List Gt} (h : RowGt w B v L) :
    (v = .slice none 0 0 ∧ L = []) ∨ ∃ g cap, v = .slice (some ⟨g, 0, none⟩) L.length cap ∧ B ≤ g ∧ g < w.heap.size ∧ L.length ≤ cap ∧ cap ≤ maxLen := by
  rcases h.2 with ⟨h1, h2⟩ | ⟨g, cap, cur, rfl, hb, hg, hn, hm, _⟩
  · exact .inl ⟨h1, List.length_eq_zero_iff.1 h2⟩
  · exact .inr ⟨g, cap, rfl, hb, (Array.getElem?_eq_some_iff.1 hg).1, hn, hm⟩
theorem RowGt.own {w : World} {B : Nat} {v : Value} {L : List Gt} (h : RowGt w B v L) (hl : L.length ≤ 1048576) : OwnGats w B v L := by
  rcases h.shape with ⟨rfl, rfl⟩ | ⟨g, cap, rfl, hb, hg, hn, hm⟩
  · exact ⟨by simp, none, 0, rfl, .inl rfl⟩
  · exact ⟨hl, _, cap, rfl, .inr ⟨g, 0, rfl, hb, hg, fun j hj => by rw [Nat.zero_add]; exact h.tat rfl hj, fun i _ => World.ownsRow.frozenAt h _⟩⟩
theorem RowGt.below {w w' : World} {B : Nat} {v : Value} {L : List Gt} (h : RowGt w B v L) (hb : Below w.heap.size w w') : RowGt w' B v L :=
  World.ownsRow.kept (row := none) h ⟨hb.os, hb.tape, hb.output, hb.size, fun k hk _ => hb.block k hk⟩ (by cases v.ownBlock <;> simp)
theorem RowGt.nil (w : World) (B : Nat) : RowGt w B (.slice none 0 0) [] := World.ownsRow_nil w B _ _
theorem RowGt.lit0 (w : World) (B : Nat) (hb : B ≤ w.heap.size) : RowGt (w.alloc (.cells #[] 116)) B (.slice (some ⟨w.heap.size, 0, none⟩) 0 0) [] :=
  World.ownsRow_lit (size := 3) w #[] 0 hb (by unfold maxLen; omega) rfl
/-- growing a row leaves all below alone -/
theorem RowGt.low {w w' : World} {B : Nat} {v : Value} {L : List Gt} (h : RowGt w B v L) (hb : B ≤ w.heap.size) (hg : w.grownBy w' v.ownBlock) : Below B w w' :=
  ⟨hg.os, hg.tape, hg.output, hg.size, fun k hk => hg.block k (by omega) (fun e => by have := (World.ownsRow.lt h k e.symm).1; omega)⟩
theorem RowGt.grow {w0 wr W w2 : World} {B : Nat} {v : Value} {L : List Gt} (h : RowGt wr B v L) (h0 : Below B w0 wr) (hB : B ≤ wr.heap.size) (hW : Below wr.heap.size wr W) (hg : W.grownBy w2 v.ownBlock) : Below B w0 w2 :=
  h0.trans ((hW.mono hB).trans (RowGt.low (h.below hW) (Nat.le_trans hB hW.size) hg))
theorem RowGt.snoc {w : World} {B : Nat} {v : Value} {L : List Gt} (x : Gt) (h : w.ownsRow B 116 3 v (L.length + 1) (flatG L ++ [.int .i64 x.k, .int .i64 x.a, .int .i64 x.b])) : RowGt w B v (L ++ [x]) := by
  unfold RowGt
  rw [flatG_app, flatG_one]
  simpa [Gt.cs] using h
theorem RowGt.app {w : World} {B n : Nat} {v : Value} {L M : List Gt} (hn : n = M.length) (h : w.ownsRow B 116 3 v (L.length + n) (flatG L ++ flatG M)) : RowGt w B v (L ++ M) := by
  unfold RowGt
  rw [flatG_app]
  subst hn
  simpa using h
theorem RowGt.slice {w : World} {B : Nat} {v : Value} {L : List Gt} {x : Gt} (h : RowGt w B v (L ++ [x])) : ∃ g cap, v = .slice (some ⟨g, 0, none⟩) (L.length + 1) cap ∧ B ≤ g ∧ g < w.heap.size := by
  rcases h.shape with ⟨_, h0⟩ | ⟨g, cap, rfl, h1, h2, _⟩
  · simp at h0
  · exact ⟨g, cap, by simp, h1, h2⟩
theorem RowGt.block {w : World} {B G : Nat} {v : Value} {L : List Gt} (h : RowGt w B v L) (hG : G < B) : v.ownBlock ≠ some G := fun e => by
  have := (World.ownsRow.lt h G e).1
  omega
theorem RowGt.setFar {w : World} {B G : Nat} {v : Value} {L : List Gt} (h : RowGt w B v L) (hG : G < B) (o : Nat) (u : Value) : RowGt (w.setCell ⟨G, o, none⟩ u) B v L :=
  World.ownsRow.kept (row := some G) h ⟨rfl, rfl, rfl, by simp, fun k hk hne => Below.heap_setCell _ _ _ _ (fun e => hne (by rw [e]))⟩ (.inr (fun e => h.block hG e))
theorem RowGt.mono {w : World} {B B' : Nat} {v : Value} {L : List Gt} (h : RowGt w B v L) (hb : B' ≤ B) : RowGt w B' v L := by
  refine ⟨h.1, ?_⟩
  rcases h.2 with h | ⟨g, cap, cur, hv, hg, r⟩
  · exact .inl h
  · exact .inr ⟨g, cap, cur, hv, by omega, r⟩
theorem gate_ok (k a b : Int) : ∀ u : Value, u ∈ [Value.int .i64 k, .int .i64 a, .int .i64 b] → u.oneCell' = true := by
  intro u hu; simp at hu; rcases hu with rfl | rfl | rfl <;> rfl
end Go.Proofs.Ytibghhkhnpjdfaa
