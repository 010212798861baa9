/-
  Rows of terms, on: cells stored into a row; copy and clear at terms. Conditions: none.
  slices.Insert at terms: one term put in its place. Conditions: the row is the call's own.
  slices.Insert at terms, on: in the middle, where there is room. Conditions: the row is the call's own.
  slices.Insert at terms, on: in the middle, where there is no room. Conditions: the row is the call's own.
  slices.Delete at terms: one term taken out of its place. Conditions: the row is the call's own.
-/
import Derived.Test.YtfmpcniehgipfaaBd2
import Derived.Lib.Overlaps
import Derived.Lib.AppendZerosOnto
import Derived.Laws.IdiomCopy
import Derived.Laws.NewBlocks
import Derived.Laws.Externs
import Derived.ArgAppend
import Derived.Deep.RegionLaw
import Derived.WalkKit
import Derived.Stop.Walk2
import Derived.Lib.Hide
namespace Go.Proofs.Ytfmpcniehgipfaa
open Go.RowKit
theorem setCells_row (b : Nat) (e : TypeId) (fz : Nat × Nat) : ∀ (vs : List Value) (o : Nat) (w : World) (cur : Array Value), w.heap[b]? = some (.cells cur e fz) →
    ∃ cur', (w.setCells b o vs).heap[b]? = some (.cells cur' e fz) ∧ cur'.size = cur.size
  | [], _, w, cur, h => ⟨cur, h, rfl⟩
  | v :: r, o, w, cur, h => by
    have h1 : (w.setCell ⟨b, o, none⟩ v).heap[b]? = some (.cells (cur.setIfInBounds o v) e fz) := by
      simp [World.setCell, Array.getElem?_modify, h]
    obtain ⟨cur', h2, h3⟩ := setCells_row b e fz r (o + 1) _ _ h1
    exact ⟨cur', h2, by simpa using h3⟩
theorem setCells_frame (b : Nat) : ∀ (vs : List Value) (o : Nat) (w : World), (w.setCells b o vs).os = w.os ∧ (w.setCells b o vs).tape = w.tape ∧ (w.setCells b o vs).output = w.output ∧ (w.setCells b o vs).heap.size = w.heap.size ∧ ∀ k, k ≠ b → (w.setCells b o vs).heap[k]? = w.heap[k]?
  | [], _, w => ⟨rfl, rfl, rfl, rfl, fun _ _ => rfl⟩
  | v :: r, o, w => by
    obtain ⟨h1, h2, h3, h4, h5⟩ := setCells_frame b r (o + 1) (w.setCell ⟨b, o, none⟩ v)
    refine ⟨h1, h2, h3, by rw [World.setCells, h4]; simp, fun k hk => ?_⟩
    rw [World.setCells, h5 k hk, Below.heap_setCell _ _ _ _ hk]
theorem setCells_grown (b : Nat) (vs : List Value) (o : Nat) (w : World) : w.grownBy (w.setCells b o vs) (some b) := by
  obtain ⟨h1, h2, h3, h4, h5⟩ := setCells_frame b vs o w
  exact ⟨h1, h2, h3, by rw [h4]; exact Nat.le_refl _, fun k _ hk => h5 k (fun e => hk (by rw [e]))⟩
theorem grown_trans {w w1 w2 : World} {row : Option Nat} (h1 : w.grownBy w1 row) (h2 : w1.grownBy w2 row) : w.grownBy w2 row :=
  ⟨h2.os.trans h1.os, h2.tape.trans h1.tape, h2.output.trans h1.output, Nat.le_trans h1.size h2.size, fun k hk hr => (h2.block k (Nat.lt_of_lt_of_le hk h1.size) hr).trans (h1.block k hk hr)⟩
theorem grown_drew {w w1 : World} {row : Option Nat} (h1 : w.grownBy w1 row) (n : Nat) : w.grownBy (w1.drewN n) row :=
  ⟨h1.os, h1.tape, h1.output, h1.size, h1.block⟩
theorem grown_refl (w : World) (row : Option Nat) : w.grownBy w row := ⟨rfl, rfl, rfl, Nat.le_refl _, fun _ _ _ => rfl⟩
/-- a row is known by its cells -/
theorem row_of_cells {w : World} {B b cap : Nat} {cur : Array Value} {L : List Trm} (hB : B ≤ b) (hg : w.heap[b]? = some (.cells cur 91 (0, 0))) (hs : cur.size = cap * 4) (hn : L.length ≤ cap) (hm : cap ≤ maxLen)
    (hc : ∀ j u, (flat L)[j]? = some u → w.cell? ⟨b, j, none⟩ = some u) : Row w B (.slice (some ⟨b, 0, none⟩) L.length cap) L := by
  refine ⟨flat_len L, .inr ⟨b, cap, cur, rfl, hB, hg, hn, hm, hs, ?_⟩⟩
  have hfl := flat_len L
  apply List.ext_getElem?
  intro j
  by_cases hj : j < L.length * 4
  · rw [List.getElem?_take, if_pos hj]
    have hj2 : j < (flat L).length := by omega
    have := hc j _ (List.getElem?_eq_getElem hj2)
    rw [cell_of_row w b j cur _ _ hg] at this
    rw [List.getElem?_eq_getElem hj2, ← this]
    simp
  · rw [List.getElem?_eq_none (by simp; omega), List.getElem?_eq_none (by omega)]
theorem row_base {w : World} {B B' : Nat} {v : Value} {L : List Trm} (h : Row w B v L) (hB : B' ≤ B) : Row w B' v L := by
  refine ⟨h.1, ?_⟩
  rcases h.2 with h1 | ⟨g, cap, cur, h1, h2, r⟩
  · exact .inl h1
  · exact .inr ⟨g, cap, cur, h1, by omega, r⟩
theorem run_copy4 (w : World) (ty : TypeId) (b o dLen dCap : Nat) (a : Addr) (sLen sCap n : Nat) (cs : List Value)
    (hn : Nat.min sLen dLen = n) (hl : cs.length = n * 4)
    (hsrc : ∀ j v, cs[j]? = some v → w.cell? (a.add j) = some v) (hc : ∀ j, j < cs.length → (w.cell? ⟨b, o + j, none⟩).isSome = true) (hf : ∀ j, j < cs.length → w.frozen? ⟨b, o + j, none⟩ = false) (h1 : ∀ v ∈ cs, v.oneCell' = true) :
    (Builtin.copy_ #[40, 40] ty #[.slice (some ⟨b, o, none⟩) dLen dCap, .slice (some a) sLen sCap]).run Try.prog w = .ok (goInt n) (w.setCells b o cs) := by
  have hld := run_loadCells_list (P := Try.prog) w a cs hsrc
  have hst := run_storeCells_cells (P := Try.prog) b o cs 0 w (by simpa using hc) (by simpa using hf) h1
  obtain ⟨i, hq, hz0, hz1, hz2⟩ := info_parts infoT
  simp [Builtin.copy_, run_underlying Try.underlying40, Builtin.lenOf, Builtin.firstCells, sizeOf, typeInfo, hq, hz1, hn, ← hl, hld, hst]
def zero4 : List Value := [.int .i64 0, .int .i64 0, .int .i64 0, .int .i64 0]
theorem run_clear4 (w : World) (ty : TypeId) (b o c : Nat)
    (hc : ∀ j, j < 4 → (w.cell? ⟨b, o + j, none⟩).isSome = true) (hf : ∀ j, j < 4 → w.frozen? ⟨b, o + j, none⟩ = false) :
    (Builtin.clear_ #[40] ty #[.slice (some ⟨b, o, none⟩) 1 c]).run Try.prog w = .ok (.tuple #[]) (w.setCells b o zero4) := by
  have hst := run_storeCells_cells (P := Try.prog) b o zero4 0 w (by simpa [zero4] using hc) (by simpa [zero4] using hf) (by intro v hv; simp [zero4] at hv; subst hv; rfl)
  obtain ⟨i, hq, hz0, hz1, hz2⟩ := info_parts infoT
  have hz : (Builtin.zeroCells (Value.agg #[.int .i64 0, .int .i64 0, .int .i64 0, .int .i64 0]).cells 1).toList = zero4 := by kernel_rfl
  simp only [Nat.add_zero] at hst
  simp [Builtin.clear_, run_underlying Try.underlying40, zeroValue, typeInfo, hq, hz0, hz, hst]
end Go.Proofs.Ytfmpcniehgipfaa
namespace Go.Proofs.Ytfmpcniehgipfaa
open Go.RowKit
theorem step_copy_run4 {ops : Array Oper} {o : Oper} {a : Act} {w : World} {K : Act → World → Prop} {Q : Exit → Act → World → Prop} {E : Prop}
    (hg : o.guard = none) (d x : Operand) (dT sT : TypeId) (hop : o.op = Op.call { callee := Callee.builtin Builtin.copy, args := #[d, x], argTypes := #[dT, sT] })
    (v u : Value) (hd : a.eval d = v) (hx : a.eval x = u) {v' : Value} {w' : World} (hr : (Builtin.copy_ #[dT, sT] o.type #[v, u]).run Try.prog w = .ok v' w') (hK : K (a.put o.dst v') w') :
    if Region.wanted o (yielded ops a.tmps) = true then Oper.wp Try.prog o a w K Q else E := by
  have hw : Region.wanted o (yielded ops a.tmps) = true := by simp [Region.wanted, hg]
  rw [if_pos hw]
  unfold Oper.wp
  simp [execOp, hop, resolve, invoke, builtin, hd, hx, hr, Result.andThen]
  exact hK
theorem wpList_copy_run4 (w : World) {ops : Array Oper} {rest : List Oper} {o : Oper} {a : Act} {Q : Exit → Act → World → Prop} (hgd : o.guard = none) (d s : Operand) (t t' : TypeId)
    (ho : o.op = .call { callee := .builtin .copy, args := #[d, s], argTypes := #[t, t'] }) (v u : Value) (hd : a.eval d = v) (hs : a.eval s = u) {v' : Value} {w' : World}
    (hr : (Builtin.copy_ #[t, t'] o.type #[v, u]).run Try.prog w = .ok v' w') (h : wpList Try.prog ops Q rest (a.put o.dst v') w') : wpList Try.prog ops Q (o :: rest) a w :=
  wpList_plain hgd fun _ hK => by
    unfold Oper.wp execOp
    simp only [ho, resolve, invoke, builtin, Sem.run_bind, Sem.run_pure, Result.andThen_ok, List.map_toArray, List.map_cons, List.map_nil, hd, hs, hr]
    exact hK _ _ h
/-- a block of its own that holds one term -/
def OneAt (w : World) (vb : Nat) (x : Trm) : Prop := w.heap[vb]? = some (.cells #[.int .i64 x.a, .int .i64 x.b, .int .i64 x.c, .int .i64 x.t] 91 (0, 0))
theorem OneAt.cell {w : World} {vb : Nat} {x : Trm} (h : OneAt w vb x) : ∀ j u, x.cs[j]? = some u → w.cell? ⟨vb, j, none⟩ = some u := by
  intro j u hu
  rw [cell_of_row w vb j _ _ _ h]
  match j, hu with
  | 0, hu => simpa [Trm.cs] using hu
  | 1, hu => simpa [Trm.cs] using hu
  | 2, hu => simpa [Trm.cs] using hu
  | 3, hu => simpa [Trm.cs] using hu
  | j + 4, hu => simp [Trm.cs] at hu
/-- what a call on a row of the call's own hands back -/
def GrowsTo (B : Nat) (v : Value) (L' : List Trm) (w : World) (e : Ending) (w' : World) : Prop :=
  ∃ v', e = .returned v' ∧ Row w' B v' L' ∧ w.grownBy w' v.ownBlock ∧ (v'.ownBlock = v.ownBlock ∨ ∃ g, v'.ownBlock = some g ∧ w.heap.size ≤ g)
set_option maxRecDepth 100000 in
set_option maxHeartbeats 4000000 in
theorem insNil (B : Nat) (x : Trm) (vb : Nat) (w : World) (hB : B ≤ w.heap.size) (h1 : OneAt w vb x) :
    Calls Try.prog 138 #[.slice none 0 0, .int .i64 0, .slice (some ⟨vb, 0, none⟩) 1 1] w (GrowsTo B (.slice none 0 0) [x] w) := by
  obtain ⟨i0, hi, hz0, hz1, hz2⟩ := info_parts infoT
  have HO := Lib.hid h1
  clear h1
  go_enter Try.func138, Try.ntmps138
  go_wp2_with (at_builtin; refine wpList_append_grows _ rfl _ _ 40 rfl 91 i0 (.agg #[.int .i64 0, .int .i64 0, .int .i64 0, .int .i64 0]) 4 32 Try.underlying40 hi hz0 hz1 hz2 rfl (by decide) none 0 0 [] rfl (fun _ => ⟨rfl, rfl⟩) rfl ?n2 ⟨vb, 0, none⟩ 1 1 x.cs rfl rfl ?c1 ?c2 ?c3 ?c4 ?c5 ?_)
  case n2 => intro b hb; cases hb
  case c1 => intro j u hj; rw [Addr.add_lit, Nat.zero_add]; exact HO.out.cell j u hj
  case c2 => intro u hu; exact flat_cell [x] u (by simpa [flat] using hu)
  case c3 => omega
  case c4 => unfold maxLen; omega
  case c5 => omega
  intro v' w' hown hgrow
  go_wp2
  go_ret
  refine ⟨_, rfl, row_base (B := w.heap.size) ?_ hB, hgrow, ?_⟩
  · show World.ownsRow _ _ _ _ _ _ _
    simpa [flat_one] using hown
  · rcases hown.2 with ⟨_, h⟩ | ⟨g, cap, cur, rfl, hb, _⟩
    · omega
    · exact .inr ⟨g, rfl, hb⟩
set_option maxRecDepth 100000 in
set_option maxHeartbeats 4000000 in
theorem insRoom (B b cap : Nat) (L : List Trm) (x : Trm) (vb : Nat) (w : World) (_ : B ≤ w.heap.size) (hl : L.length ≤ 4000) (hlt : L.length < cap) (h : Row w B (.slice (some ⟨b, 0, none⟩) L.length cap) L) (hx : OneAt w vb x) :
    Calls Try.prog 138 #[.slice (some ⟨b, 0, none⟩) L.length cap, .int .i64 L.length, .slice (some ⟨vb, 0, none⟩) 1 1] w (GrowsTo B (.slice (some ⟨b, 0, none⟩) L.length cap) (L ++ [x]) w) := by
  obtain ⟨i0, hi, hz0, hz1, hz2⟩ := info_parts infoT
  have HO := Lib.hid hx
  obtain ⟨g', cap', cur, he, hBb, hg, hn, hm, hs, ht⟩ : ∃ g' cap' cur, (Value.slice (some ⟨b, 0, none⟩) L.length cap) = .slice (some ⟨g', 0, none⟩) L.length cap' ∧ B ≤ g' ∧ w.heap[g']? = some (.cells cur 91 (0, 0)) ∧ L.length ≤ cap' ∧ cap' ≤ maxLen ∧ cur.size = cap' * 4 ∧ cur.toList.take (L.length * 4) = flat L := by
    rcases h.2 with ⟨h1, _⟩ | h1
    · cases h1
    · exact h1
  cases he
  have hfl := flat_len L
  have HC := Lib.hid (show ∀ j u, (flat L)[j]? = some u → w.cell? ⟨b, 0 + j, none⟩ = some u from fun j u hu => by
    rw [Nat.zero_add, World.ownsRow.cellAt h j (by have := (List.getElem?_eq_some_iff.1 hu).1; omega)]; exact hu)
  have HSP := Lib.hid (show L.length + 1 ≤ cap → ∀ j, j < x.cs.length → (w.cell? ⟨b, 0 + L.length * 4 + j, none⟩).isSome = true ∧ w.frozen? ⟨b, 0 + L.length * 4 + j, none⟩ = false from fun hr j hj => by
    refine ⟨?_, World.ownsRow.frozenAt h _⟩
    rw [Nat.zero_add, cell_of_row w b _ _ _ _ hg, Array.getElem?_eq_getElem (by rw [hs]; simp [Trm.cs] at hj; omega)]; rfl)
  have hcap : (cap : Int) ≤ 9223372036854775807 := by unfold maxLen at hm; omega
  have hnc : (L.length : Int) ≤ (cap : Int) := by omega
  have hne : ¬ (cap = L.length) := by omega
  have hne2 : ¬ (L.length = cap) := by omega
  have H := Lib.hid h
  have HG := Lib.hid hg
  clear h hx ht hg
  go_enter Try.func138, Try.ntmps138
  go_wp2_with (at_builtin; refine wpList_append_arg _ rfl _ _ 40 rfl 91 i0 (.agg #[.int .i64 0, .int .i64 0, .int .i64 0, .int .i64 0]) 4 32 Try.underlying40 hi hz0 hz1 hz2 rfl (by decide) b 0 L.length cap (flat L) rfl hfl HC.out ⟨vb, 0, none⟩ 1 1 x.cs rfl rfl ?c1 ?c2 HSP.out ?c4 ?c5 ?room ?grow)
  case c1 => intro j u hj; rw [Addr.add_lit, Nat.zero_add]; exact HO.out.cell j u hj
  case c2 => intro u hu; exact flat_cell [x] u (by simpa [flat] using hu)
  case c4 => unfold maxLen; omega
  case c5 => omega
  case room =>
    intro hr
    go_wp2
    go_ret
    refine ⟨_, rfl, ?_, setCells_grown b _ _ w, .inl rfl⟩
    obtain ⟨cur', hc1, hc2⟩ := setCells_row b 91 (0, 0) x.cs (0 + L.length * 4) w cur HG.out
    have := row_of_cells (L := L ++ [x]) hBb hc1 (by rw [hc2, hs]) (by simp; omega) hm (fun j u hu => by
      rw [flat_app, flat_one] at hu
      by_cases hj : j < L.length * 4
      · rw [World.cell?_setCells_out b _ _ _ _ (fun _ _ => .inl (by simpa using hj))]
        rw [List.getElem?_append_left (by omega)] at hu
        simpa using HC.out j u hu
      · rw [List.getElem?_append_right (by omega), hfl] at hu
        have hjl := (List.getElem?_eq_some_iff.1 hu).1
        have := World.cell?_setCells_in b x.cs (0 + L.length * 4) w (fun k hk => (HSP.out hr k hk).1) (j - L.length * 4) hjl
        rw [show 0 + L.length * 4 + (j - L.length * 4) = j by omega] at this
        rw [this, ← (List.getElem?_eq_some_iff.1 hu).2])
    simpa using this
  case grow => intro hr; omega
set_option maxRecDepth 100000 in
set_option maxHeartbeats 4000000 in
theorem insFull (B b : Nat) (L : List Trm) (x : Trm) (vb : Nat) (w : World) (hB : B ≤ w.heap.size) (hl : L.length ≤ 4000) (h : Row w B (.slice (some ⟨b, 0, none⟩) L.length L.length) L) (hx : OneAt w vb x) :
    Calls Try.prog 138 #[.slice (some ⟨b, 0, none⟩) L.length L.length, .int .i64 L.length, .slice (some ⟨vb, 0, none⟩) 1 1] w (GrowsTo B (.slice (some ⟨b, 0, none⟩) L.length L.length) (L ++ [x]) w) := by
  obtain ⟨i0, hi, hz0, hz1, hz2⟩ := info_parts infoT
  have HO := Lib.hid hx
  have hfl := flat_len L
  have HC := Lib.hid (show ∀ j u, (flat L)[j]? = some u → w.cell? ⟨b, j, none⟩ = some u from fun j u hu => by
    rw [World.ownsRow.cellAt h j (by have := (List.getElem?_eq_some_iff.1 hu).1; omega)]; exact hu)
  have hcap : (L.length : Int) ≤ 9223372036854775807 := by omega
  clear h hx
  go_enter Try.func138, Try.ntmps138
  go_wp2_with (at_builtin; refine wpList_append_grows _ rfl _ _ 40 rfl 91 i0 (.agg #[.int .i64 0, .int .i64 0, .int .i64 0, .int .i64 0]) 4 32 Try.underlying40 hi hz0 hz1 hz2 rfl (by decide) (some ⟨b, 0, none⟩) L.length L.length (flat L) rfl (fun h => by cases h) hfl ?n2 ⟨vb, 0, none⟩ 1 1 x.cs rfl rfl ?c1 ?c2 ?c3 ?c4 ?c5 ?_)
  case n2 => intro a ha j u hj; cases ha; rw [Addr.add_lit, Nat.zero_add]; exact HC.out j u hj
  case c1 => intro j u hj; rw [Addr.add_lit, Nat.zero_add]; exact HO.out.cell j u hj
  case c2 => intro u hu; exact flat_cell [x] u (by simpa [flat] using hu)
  case c3 => omega
  case c4 => unfold maxLen; omega
  case c5 => omega
  intro v' w' hown hgrow
  go_wp2
  go_ret
  refine ⟨_, rfl, row_base (B := w.heap.size) ?_ hB, ⟨hgrow.os, hgrow.tape, hgrow.output, hgrow.size, fun k hk _ => hgrow.block k hk (by simp)⟩, ?_⟩
  · show World.ownsRow _ _ _ _ _ _ _
    simpa [flat_one, flat_app] using hown
  · rcases hown.2 with ⟨_, h⟩ | ⟨g, cap, cur, rfl, hb, _⟩
    · omega
    · exact .inr ⟨g, rfl, hb⟩
end Go.Proofs.Ytfmpcniehgipfaa
namespace Go.Proofs.Ytfmpcniehgipfaa
open Go.RowKit
theorem some_setCells (b : Nat) (vs : List Value) (o : Nat) (w : World) (h : ∀ j, j < vs.length → (w.cell? ⟨b, o + j, none⟩).isSome = true) (k : Nat) (hk : (w.cell? ⟨b, k, none⟩).isSome = true) : ((w.setCells b o vs).cell? ⟨b, k, none⟩).isSome = true := by
  by_cases hin : o ≤ k ∧ k < o + vs.length
  · have := World.cell?_setCells_in b vs o w h (k - o) (by omega)
    rw [show o + (k - o) = k by omega] at this
    rw [this]; rfl
  · rw [World.cell?_setCells_out b vs o w ⟨b, k, none⟩ (fun _ _ => by show k < o ∨ o + vs.length ≤ k; omega)]
    exact hk
set_option maxRecDepth 100000 in
set_option maxHeartbeats 8000000 in
theorem insShift (B b cap i : Nat) (L : List Trm) (x : Trm) (vb : Nat) (w : World) (_ : B ≤ w.heap.size) (hl : L.length ≤ 4000) (hi : i < L.length) (hr : L.length + 1 ≤ cap) (h : Row w B (.slice (some ⟨b, 0, none⟩) L.length cap) L) (hx : OneAt w vb x) (hvb : vb ≠ b) :
    Calls Try.prog 138 #[.slice (some ⟨b, 0, none⟩) L.length cap, .int .i64 i, .slice (some ⟨vb, 0, none⟩) 1 1] w (GrowsTo B (.slice (some ⟨b, 0, none⟩) L.length cap) (L.take i ++ x :: L.drop i) w) := by
  obtain ⟨i0, hi0, hz0, hz1, hz2⟩ := info_parts infoT
  have HO := Lib.hid hx
  obtain ⟨g', cap', cur, he, hBb, hg, hn, hm, hs, ht⟩ : ∃ g' cap' cur, (Value.slice (some ⟨b, 0, none⟩) L.length cap) = .slice (some ⟨g', 0, none⟩) L.length cap' ∧ B ≤ g' ∧ w.heap[g']? = some (.cells cur 91 (0, 0)) ∧ L.length ≤ cap' ∧ cap' ≤ maxLen ∧ cur.size = cap' * 4 ∧ cur.toList.take (L.length * 4) = flat L := by
    rcases h.2 with ⟨h1, _⟩ | h1
    · cases h1
    · exact h1
  cases he
  have hfl := flat_len L
  have hcs : ∀ j u, (flat L)[j]? = some u → w.cell? ⟨b, j, none⟩ = some u := fun j u hu => by
    rw [World.ownsRow.cellAt h j (by have := (List.getElem?_eq_some_iff.1 hu).1; omega)]; exact hu
  have hsp : ∀ j, j < cap * 4 → (w.cell? ⟨b, j, none⟩).isSome = true := fun j hj => by
    rw [cell_of_row w b _ _ _ _ hg, Array.getElem?_eq_getElem (by omega)]; rfl
  have hfz : ∀ j, w.frozen? ⟨b, j, none⟩ = false := fun j => World.ownsRow.frozenAt h j
  have hcap : (cap : Int) ≤ 9223372036854775807 := by unfold maxLen at hm; omega
  have hov : ∀ o lb cb, (callFunc 147 #[.slice (some ⟨vb, 0, none⟩) 1 1, .slice (some ⟨b, o, none⟩) lb cb]).run Try.prog w = .ok (.value (.bool false)) w := fun o lb cb => by
    rw [run_callFunc_extern Try.func147 (by kernel_rfl) (by kernel_rfl) (by kernel_rfl) (e := Extern.SlicesOverlaps.overlaps #[40, 40] #[4]) (by kernel_rfl),
      Lib.run_overlaps_apart w 40 4 91 Try.underlying40 4 Try.sizeOf91 ⟨vb, 0, none⟩ ⟨b, o, none⟩ 1 1 lb cb hvb 91 91 4 (cap * 4) (by unfold World.shape?; rw [HO.out]; rfl) (by unfold World.shape?; rw [hg]; simp [hs]) (by omega) (by unfold World.frozen?; rw [HO.out]; simp) (by unfold World.frozen?; rw [HO.out]; simp)]
    rfl
  obtain ⟨W1, hW1⟩ : ∃ W1, W1 = w.drew.setCells b ((i + 1) * 4) ((flat L).drop (i * 4)) := ⟨_, rfl⟩
  have hdl : ((flat L).drop (i * 4)).length = (L.length - i) * 4 := by rw [List.length_drop, hfl]; omega
  have hcp1 : ∀ ty dc sc, (Builtin.copy_ #[40, 40] ty #[.slice (some ⟨b, (i + 1) * 4, none⟩) (L.length - i) dc, .slice (some ⟨b, i * 4, none⟩) (L.length + 1 - i) sc]).run Try.prog w.drew = .ok (goInt (L.length - i : Nat)) W1 := fun ty dc sc => by
    rw [hW1]
    exact run_copy4 w.drew ty b ((i + 1) * 4) (L.length - i) dc ⟨b, i * 4, none⟩ (L.length + 1 - i) sc (L.length - i) ((flat L).drop (i * 4)) (by simp only [Nat.min_def]; split <;> omega) hdl
      (fun j v hj => by rw [Addr.add_lit]; exact hcs (i * 4 + j) v (by rwa [List.getElem?_drop] at hj))
      (fun j hj => hsp _ (by omega)) (fun j hj => hfz _) (fun v hv => flat_cell L v (List.mem_of_mem_drop hv))
  have hsp1 : ∀ k, k < cap * 4 → (W1.cell? ⟨b, k, none⟩).isSome = true := fun k hk => by
    rw [hW1]
    exact some_setCells b ((flat L).drop (i * 4)) ((i + 1) * 4) w.drew (fun j hj => hsp _ (by omega)) k (hsp k hk)
  have hcp2 : ∀ ty dc, (Builtin.copy_ #[40, 40] ty #[.slice (some ⟨b, i * 4, none⟩) (L.length + 1 - i) dc, .slice (some ⟨vb, 0, none⟩) 1 1]).run Try.prog W1 = .ok (goInt 1) (W1.setCells b (i * 4) x.cs) := fun ty dc =>
    run_copy4 W1 ty b (i * 4) (L.length + 1 - i) dc ⟨vb, 0, none⟩ 1 1 1 x.cs (by simp only [Nat.min_def]; split <;> omega) rfl
      (fun j v hj => by rw [Addr.add_lit, hW1, World.cell?_setCells_out b _ _ _ _ (fun h _ => absurd h hvb), Nat.zero_add]; exact HO.out.cell j v hj)
      (fun j hj => hsp1 _ (by simp [Trm.cs] at hj; omega)) (fun j hj => by rw [hW1, World.frozen?_setCells]; exact hfz _) (fun v hv => flat_cell [x] v (by simpa [flat] using hv))
  have HREC := Lib.hid (show GrowsTo B (.slice (some ⟨b, 0, none⟩) L.length cap) (L.take i ++ x :: L.drop i) w (.returned (.slice (some ⟨b, 0, none⟩) (L.length + 1) cap)) (W1.setCells b (i * 4) x.cs) from by
    refine ⟨_, rfl, ?_, ?_, .inl rfl⟩
    · obtain ⟨cur1, q1, q2⟩ := setCells_row b 91 (0, 0) ((flat L).drop (i * 4)) ((i + 1) * 4) w.drew cur hg
      rw [← hW1] at q1
      obtain ⟨cur2, q3, q4⟩ := setCells_row b 91 (0, 0) x.cs (i * 4) W1 cur1 q1
      have := row_of_cells (L := L.take i ++ x :: L.drop i) hBb q3 (by rw [q4, q2, hs]) (by simp; omega) hm (fun j u hu => by
        have e1 : flat (L.take i ++ x :: L.drop i) = (flat L).take (i * 4) ++ (x.cs ++ (flat L).drop (i * 4)) := by rw [flat_app, ← flat_take, show flat (x :: L.drop i) = x.cs ++ flat (L.drop i) from rfl, flat_drop]
        rw [e1] at hu
        have ltk : ((flat L).take (i * 4)).length = i * 4 := by rw [List.length_take]; omega
        have lx : x.cs.length = 4 := rfl
        by_cases h1 : j < i * 4
        · rw [World.cell?_setCells_out b _ _ _ _ (fun _ _ => .inl h1), hW1, World.cell?_setCells_out b _ _ _ _ (fun _ _ => .inl (by show j < (i + 1) * 4; omega))]
          rw [List.getElem?_append_left (by omega), List.getElem?_take, if_pos h1] at hu
          exact hcs j u hu
        · rw [List.getElem?_append_right (by omega), ltk] at hu
          by_cases h2 : j < i * 4 + 4
          · rw [List.getElem?_append_left (by omega)] at hu
            have hjl := (List.getElem?_eq_some_iff.1 hu).1
            have := World.cell?_setCells_in b x.cs (i * 4) W1 (fun k hk => hsp1 _ (by omega)) (j - i * 4) hjl
            rw [show i * 4 + (j - i * 4) = j by omega] at this
            rw [this, ← (List.getElem?_eq_some_iff.1 hu).2]
          · rw [List.getElem?_append_right (by omega), lx] at hu
            have hjl := (List.getElem?_eq_some_iff.1 hu).1
            rw [World.cell?_setCells_out b _ _ _ _ (fun _ _ => .inr (by show i * 4 + x.cs.length ≤ j; omega)), hW1]
            have := World.cell?_setCells_in b ((flat L).drop (i * 4)) ((i + 1) * 4) w.drew (fun k hk => hsp _ (by omega)) (j - i * 4 - 4) hjl
            rw [show (i + 1) * 4 + (j - i * 4 - 4) = j by omega] at this
            rw [this, ← (List.getElem?_eq_some_iff.1 hu).2])
      have e2 : (L.take i ++ x :: L.drop i).length = L.length + 1 := by simp; omega
      rw [e2] at this
      exact this
    · rw [hW1]
      exact grown_trans (grown_trans (grown_drew (grown_refl w _) 1) (setCells_grown b _ _ _)) (setCells_grown b _ _ _))
  have hz1' : ¬ ((i : Int) = (L.length : Int)) := by omega
  have hz3 : ¬ ((cap : Int) < (L.length : Int) + 1) := by omega
  have hin : (i : Int) ≤ (L.length : Int) := by omega
  have hb2 : ¬ (cap = i + 1) := by omega
  have hb4 : ¬ (cap = i) := by omega
  have hci : (i : Int) + 1 ≤ (L.length : Int) + 1 := by omega
  have htn : ((i : Int) + 1).toNat = i + 1 := by omega
  have hw1 : IntKind.i64.wrap ((i : Int) + 1) = (i : Int) + 1 := by rw [IntKind.wrap_i64]; omega
  have hb1 : (0 : Int) ≤ (i : Int) + 1 := by omega
  have hin2 : i ≤ L.length := by omega
  have hin3 : (i : Int) ≤ (L.length : Int) + 1 := by omega
  have htl : ((L.length : Int) + 1).toNat = L.length + 1 := by omega
  have hlc : (L.length : Int) + 1 ≤ (cap : Int) := by omega
  clear hW1 hsp1 hcs hsp hfz h hx hg ht
  go_enter Try.func138, Try.ntmps138
  go_wp2_with (simp only [hov])
  go_region_law (refine step_copy_run4 rfl _ _ 40 40 rfl _ _ (by simp [Act.eval, Act.put]) (by simp [Act.eval, Act.put]) (hcp1 _ _ _) ?_)
  go_wp2_with (at_builtin; refine wpList_copy_run4 _ rfl _ _ 40 40 rfl _ _ rfl rfl (hcp2 _ _) ?_)
  go_ret
  exact HREC.out
end Go.Proofs.Ytfmpcniehgipfaa
namespace Go.Proofs.Ytfmpcniehgipfaa
open Go.RowKit
set_option maxRecDepth 100000 in
set_option maxHeartbeats 8000000 in
theorem insGrow (B b i : Nat) (L : List Trm) (x : Trm) (vb : Nat) (w : World) (hB : B ≤ w.heap.size) (hl : L.length ≤ 4000) (hi : i < L.length) (h : Row w B (.slice (some ⟨b, 0, none⟩) L.length L.length) L) (hx : OneAt w vb x) :
    Calls Try.prog 138 #[.slice (some ⟨b, 0, none⟩) L.length L.length, .int .i64 i, .slice (some ⟨vb, 0, none⟩) 1 1] w (GrowsTo B (.slice (some ⟨b, 0, none⟩) L.length L.length) (L.take i ++ x :: L.drop i) w) := by
  obtain ⟨i0, hi0, hz0, hzs, hzb⟩ := info_parts infoT
  have HO := Lib.hid hx
  have hfl := flat_len L
  have hcs : ∀ j u, (flat L)[j]? = some u → w.cell? ⟨b, j, none⟩ = some u := fun j u hu => by
    rw [World.ownsRow.cellAt h j (by have := (List.getElem?_eq_some_iff.1 hu).1; omega)]; exact hu
  have hbw : b < w.heap.size := (World.ownsRow.lt h b rfl).2
  have hvw : vb < w.heap.size := (Array.getElem?_eq_some_iff.1 hx).1
  have hkk : (L.length : Int) + 1 - (i : Int) = ((L.length + 1 - i : Nat) : Int) := by omega
  have hik : i + (L.length + 1 - i) = L.length + 1 := by omega
  have hold : (Builtin.firstCells i0.size i (.slice (some ⟨b, 0, none⟩) i L.length)).run Try.prog w.drew = .ok ((flat L).take (i * 4)).toArray w.drew := by
    rw [hzs]
    exact run_firstCells_some w.drew 4 i ⟨b, 0, none⟩ i L.length ((flat L).take (i * 4)) (by rw [List.length_take]; omega) (fun j v hj => by
      rw [Addr.add_lit, Nat.zero_add]
      rw [List.getElem?_take] at hj
      split at hj
      · exact hcs j v hj
      · cases hj)
  obtain ⟨G, hG⟩ : ∃ G, G = grownCap w (L.length + 1) L.length 91 := ⟨_, rfl⟩
  obtain ⟨ROW, hROW⟩ : ∃ ROW : Array Value, ROW = ((flat L).take (i * 4)).toArray ++ Builtin.zeroCells (Value.agg #[.int .i64 0, .int .i64 0, .int .i64 0, .int .i64 0]).cells (L.length + 1 - i) ++ Builtin.zeroCells (Value.agg #[.int .i64 0, .int .i64 0, .int .i64 0, .int .i64 0]).cells (G - (L.length + 1)) := ⟨_, rfl⟩
  have hrz : ∀ ty, (Builtin.append_ #[40, 3] ty #[.slice (some ⟨b, 0, none⟩) i L.length, .int .i64 ((L.length : Int) + 1 - (i : Int))]).run Try.prog w =
      .ok (.slice (some ⟨w.heap.size, 0, none⟩) (L.length + 1) G) (w.drew.alloc (.cells ROW 91)) := fun ty => by
    have h := Lib.run_append_grow_zeros w 40 3 ty 91 i0 _ .i64 .i64 Try.underlying40 Try.underlying3 hi0 hz0 (some ⟨b, 0, none⟩) i L.length ((flat L).take (i * 4)) hold (L.length + 1 - i) (by omega) (by omega) (by omega) (by omega) (by rw [hzb]; omega) (by rw [hzb, hik]; exact growslice_fits (by omega) (by omega))
    rw [hik] at h
    rw [hkk, hROW, hG]
    exact h
  have hGn : L.length + 1 ≤ G := by rw [hG]; exact grownCap_ge w _ _ _
  have hGm : G ≤ maxLen := by rw [hG]; exact grownCap_le_maxLen w _ _ _ (by unfold maxLen; omega)
  have hG63 : (G : Int) ≤ 9223372036854775807 := by unfold maxLen at hGm; omega
  have hRs : ROW.size = G * 4 := by
    have hz4 : (Value.agg #[.int .i64 0, .int .i64 0, .int .i64 0, .int .i64 0]).cells.size = 4 := rfl
    rw [hROW]
    simp only [Array.size_append, List.size_toArray, size_zeroCells, hz4, List.length_take, hfl]
    omega
  have hRt : ∀ j u, j < i * 4 → (flat L)[j]? = some u → ROW[j]? = some u := fun j u hj hu => by
    have lt : j < ((flat L).take (i * 4)).toArray.size := by simp [hfl]; omega
    rw [hROW, Array.append_assoc, Array.getElem?_append_left lt]
    simp only [List.getElem?_toArray, List.getElem?_take, if_pos hj]
    exact hu
  obtain ⟨W1, hW1⟩ : ∃ W1, W1 = w.drew.alloc (.cells ROW 91) := ⟨_, rfl⟩
  rw [← hW1] at hrz
  have hN : ∀ j, j < G * 4 → (W1.cell? ⟨w.heap.size, j, none⟩).isSome = true := fun j hj => by
    rw [hW1, World.cell?_alloc_at (w := w.drew) ROW _ w.heap.size j rfl, Array.getElem?_eq_getElem (by omega)]; rfl
  have hNt : ∀ j u, j < i * 4 → (flat L)[j]? = some u → W1.cell? ⟨w.heap.size, j, none⟩ = some u := fun j u hj hu => by
    rw [hW1, World.cell?_alloc_at (w := w.drew) ROW _ w.heap.size j rfl]; exact hRt j u hj hu
  have hNf : ∀ j, W1.frozen? ⟨w.heap.size, j, none⟩ = false := fun j => by rw [hW1]; exact World.frozen?_alloc_at (w := w.drew) ROW _ w.heap.size j rfl
  have hOb : ∀ j v, w.cell? ⟨b, j, none⟩ = some v → W1.cell? ⟨b, j, none⟩ = some v := fun j v h => by rw [hW1, World.cell?_alloc_past (w := w.drew) _ b j hbw]; exact h
  have hOv : ∀ j v, w.cell? ⟨vb, j, none⟩ = some v → W1.cell? ⟨vb, j, none⟩ = some v := fun j v h => by rw [hW1, World.cell?_alloc_past (w := w.drew) _ vb j hvw]; exact h
  have hbN : b ≠ w.heap.size := by omega
  have lx : x.cs.length = 4 := rfl
  have hcpA : ∀ (W : World), (∀ x, W.cell? x = W1.cell? x) → (∀ x, W.frozen? x = W1.frozen? x) → ∀ ty dc, (Builtin.copy_ #[40, 40] ty #[.slice (some ⟨w.heap.size, i * 4, none⟩) (L.length + 1 - i) dc, .slice (some ⟨vb, 0, none⟩) 1 1]).run Try.prog W = .ok (goInt 1) (W.setCells w.heap.size (i * 4) x.cs) := fun W hWc hWf ty dc =>
    run_copy4 W ty w.heap.size (i * 4) (L.length + 1 - i) dc ⟨vb, 0, none⟩ 1 1 1 x.cs (by simp only [Nat.min_def]; split <;> omega) rfl
      (fun j v hj => by rw [Addr.add_lit, hWc, Nat.zero_add]; exact hOv _ v (HO.out.cell j v hj))
      (fun j hj => by rw [hWc]; exact hN _ (by omega)) (fun j hj => by rw [hWf]; exact hNf _) (fun v hv => flat_cell [x] v (by simpa [flat] using hv))
  have hdl : ((flat L).drop (i * 4)).length = (L.length - i) * 4 := by rw [List.length_drop, hfl]; omega
  have hcpB : ∀ (W : World), (∀ y, W.cell? y = (W1.setCells w.heap.size (i * 4) x.cs).cell? y) → (∀ y, W.frozen? y = (W1.setCells w.heap.size (i * 4) x.cs).frozen? y) → ∀ ty dc sc, (Builtin.copy_ #[40, 40] ty #[.slice (some ⟨w.heap.size, (i + 1) * 4, none⟩) (L.length - i) dc, .slice (some ⟨b, i * 4, none⟩) (L.length - i) sc]).run Try.prog W = .ok (goInt (L.length - i : Nat)) (W.setCells w.heap.size ((i + 1) * 4) ((flat L).drop (i * 4))) := fun W hWc hWf ty dc sc =>
    run_copy4 W ty w.heap.size ((i + 1) * 4) (L.length - i) dc ⟨b, i * 4, none⟩ (L.length - i) sc (L.length - i) ((flat L).drop (i * 4)) (by simp only [Nat.min_def]; split <;> omega) hdl
      (fun j v hj => by
        rw [Addr.add_lit, hWc, World.cell?_setCells_out _ _ _ _ _ (fun h _ => absurd h hbN)]
        exact hOb _ v (hcs (i * 4 + j) v (by rwa [List.getElem?_drop] at hj)))
      (fun j hj => by rw [hWc]; exact some_setCells _ x.cs (i * 4) W1 (fun t ht => hN _ (by omega)) _ (hN _ (by omega)))
      (fun j hj => by rw [hWf, World.frozen?_setCells]; exact hNf _) (fun v hv => flat_cell L v (List.mem_of_mem_drop hv))
  have HREC := Lib.hid (show ∀ W W' : World, (∀ y, W.heap[y]? = (W1.setCells w.heap.size (i * 4) x.cs).heap[y]?) → W.heap.size = W1.heap.size → W.os = W1.os → W.tape = W1.tape → W.output = W1.output → W' = W.setCells w.heap.size ((i + 1) * 4) ((flat L).drop (i * 4)) →
      GrowsTo B (.slice (some ⟨b, 0, none⟩) L.length L.length) (L.take i ++ x :: L.drop i) w (.returned (.slice (some ⟨w.heap.size, 0, none⟩) (L.length + 1) G)) W' from by
    intro W W' e0 e1 e2 e3 e4 e5
    have hc0 : ∀ y, W.cell? y = (W1.setCells w.heap.size (i * 4) x.cs).cell? y := fun y => by unfold World.cell?; rw [e0]
    refine ⟨_, rfl, ?_, ?_, .inr ⟨_, rfl, Nat.le_refl _⟩⟩
    · have q0 : W1.heap[w.heap.size]? = some (.cells ROW 91 (0, 0)) := by rw [hW1]; exact heap_alloc_new w.drew _
      obtain ⟨cur1, q1, q2⟩ := setCells_row w.heap.size 91 (0, 0) x.cs (i * 4) W1 ROW q0
      rw [← e0] at q1
      obtain ⟨cur2, q3, q4⟩ := setCells_row w.heap.size 91 (0, 0) ((flat L).drop (i * 4)) ((i + 1) * 4) W cur1 q1
      rw [← e5] at q3
      have := row_of_cells (L := L.take i ++ x :: L.drop i) hB q3 (by rw [q4, q2, hRs]) (by simp; omega) hGm (fun j u hu => by
        have e1 : flat (L.take i ++ x :: L.drop i) = (flat L).take (i * 4) ++ (x.cs ++ (flat L).drop (i * 4)) := by rw [flat_app, ← flat_take, show flat (x :: L.drop i) = x.cs ++ flat (L.drop i) from rfl, flat_drop]
        rw [e1] at hu
        have ltk : ((flat L).take (i * 4)).length = i * 4 := by rw [List.length_take]; omega
        rw [e5]
        by_cases h1 : j < i * 4
        · rw [World.cell?_setCells_out _ _ _ _ _ (fun _ _ => .inl (by show j < (i + 1) * 4; omega)), hc0, World.cell?_setCells_out _ _ _ _ _ (fun _ _ => .inl h1)]
          rw [List.getElem?_append_left (by omega), List.getElem?_take, if_pos h1] at hu
          exact hNt j u h1 hu
        · rw [List.getElem?_append_right (by omega), ltk] at hu
          by_cases h2 : j < i * 4 + 4
          · rw [List.getElem?_append_left (by omega)] at hu
            have hjl := (List.getElem?_eq_some_iff.1 hu).1
            rw [World.cell?_setCells_out _ _ _ _ _ (fun _ _ => .inl (by show j < (i + 1) * 4; omega)), hc0]
            have := World.cell?_setCells_in w.heap.size x.cs (i * 4) W1 (fun k hk => hN _ (by omega)) (j - i * 4) hjl
            rw [show i * 4 + (j - i * 4) = j by omega] at this
            rw [this, ← (List.getElem?_eq_some_iff.1 hu).2]
          · rw [List.getElem?_append_right (by omega), lx] at hu
            have hjl := (List.getElem?_eq_some_iff.1 hu).1
            have := World.cell?_setCells_in w.heap.size ((flat L).drop (i * 4)) ((i + 1) * 4) W (fun k hk => by rw [hc0]; exact some_setCells _ x.cs (i * 4) W1 (fun t ht => hN _ (by omega)) _ (hN _ (by omega))) (j - i * 4 - 4) hjl
            rw [show (i + 1) * 4 + (j - i * 4 - 4) = j by omega] at this
            rw [this, ← (List.getElem?_eq_some_iff.1 hu).2])
      have e2 : (L.take i ++ x :: L.drop i).length = L.length + 1 := by simp; omega
      rw [e2] at this
      exact this
    · obtain ⟨f1, f2, f3, f4, f5⟩ := setCells_frame w.heap.size ((flat L).drop (i * 4)) ((i + 1) * 4) W
      obtain ⟨g1, g2, g3, g4, g5⟩ := setCells_frame w.heap.size x.cs (i * 4) W1
      rw [e5]
      refine ⟨by rw [f1, e2, hW1]; rfl, by rw [f2, e3, hW1]; rfl, by rw [f3, e4, hW1]; rfl, by rw [f4, e1, hW1]; simp, fun k hk _ => ?_⟩
      rw [f5 k (by omega), e0, g5 k (by omega), hW1]
      exact heap_alloc_old w.drew _ hk)
  obtain ⟨X, hX⟩ : ∃ X, X = W1.setCells w.heap.size (i * 4) x.cs := ⟨_, rfl⟩
  have fr : X.os = W1.os ∧ X.tape = W1.tape ∧ X.output = W1.output ∧ X.heap.size = W1.heap.size := by
    have := setCells_frame w.heap.size x.cs (i * 4) W1
    rw [← hX] at this
    exact ⟨this.1, this.2.1, this.2.2.1, this.2.2.2.1⟩
  have HREC2 := Lib.hid (HREC.out X.drew (X.drew.setCells w.heap.size ((i + 1) * 4) ((flat L).drop (i * 4))) (fun y => by rw [← hX]; rfl) fr.2.2.2 fr.1 fr.2.1 fr.2.2.1 rfl)
  rw [← hX] at hcpB
  have hcpX : ∀ ty dc sc, (Builtin.copy_ #[40, 40] ty #[.slice (some ⟨w.heap.size, (i + 1) * 4, none⟩) (L.length - i) dc, .slice (some ⟨b, i * 4, none⟩) (L.length - i) sc]).run Try.prog X.drew = .ok (goInt (L.length - i : Nat)) (X.drew.setCells w.heap.size ((i + 1) * 4) ((flat L).drop (i * 4))) := fun ty dc sc => hcpB X.drew (fun _ => rfl) (fun _ => rfl) ty dc sc
  have hREC2 := HREC2.out
  clear HREC2
  subst hX
  have HREC2 := Lib.hid hREC2
  clear hREC2 hcpB fr HREC
  have hE1 : ∀ x, ((w.alloc (.cells ROW 91)).drew).cell? x = W1.cell? x := fun x => by rw [hW1]; rfl
  have hE2 : ∀ x, ((w.alloc (.cells ROW 91)).drew).frozen? x = W1.frozen? x := fun x => by rw [hW1]; rfl
  have hz1' : ¬ ((i : Int) = (L.length : Int)) := by omega
  have hin : (i : Int) ≤ (L.length : Int) := by omega
  have hin2 : i ≤ L.length := by omega
  have hGi : ¬ (G = i) := by omega
  have hGim : ¬ (G = i + 1) := by omega
  have hci : ¬ (L.length = i) := by omega
  have htn : ((i : Int) + 1).toNat = i + 1 := by omega
  have hw1 : IntKind.i64.wrap ((i : Int) + 1) = (i : Int) + 1 := by rw [IntKind.wrap_i64]; omega
  have hb1 : (0 : Int) ≤ (i : Int) + 1 := by omega
  have hin3 : (i : Int) ≤ (L.length : Int) + 1 := by omega
  have HB := Lib.hid hcpX
  clear hcpX hE1 hE2 hW1 hN hNt hNf hOb hOv hRt hRs hROW hG hold hkk hik hcs h hx
  go_enter Try.func138, Try.ntmps138
  go_wp2_with (first
    | (at_builtin; refine Lib.wpList_append_run _ rfl _ _ _ _ rfl _ _ rfl rfl _ _ (hrz _) ?_)
    | (at_builtin; refine wpList_copy_run4 _ rfl _ _ 40 40 rfl _ _ rfl rfl (hcpA W1 (fun _ => rfl) (fun _ => rfl) _ _) ?_))
  go_region_law (refine step_copy_run4 rfl _ _ 40 40 rfl (.slice (some ⟨w.heap.size, (i + 1) * 4, none⟩) (L.length - i) (G - (i + 1))) (.slice (some ⟨b, i * 4, none⟩) (L.length - i) (L.length - i)) (by simp [Act.eval, Act.put]) (by simp [Act.eval, Act.put]) (HB.out 3 (G - (i + 1)) (L.length - i)) ?_)
  go_wp2
  go_ret
  exact HREC2.out
/-- one term put in its place, in a row of the call's own -/
theorem iInsert (B i : Nat) (v : Value) (L : List Trm) (x : Trm) (vb : Nat) (w : World) (hB : B ≤ w.heap.size) (hl : L.length ≤ 4000) (hi : i ≤ L.length) (h : Row w B v L) (hx : OneAt w vb x) (hvb : v.ownBlock ≠ some vb) :
    Calls Try.prog 138 #[v, .int .i64 i, .slice (some ⟨vb, 0, none⟩) 1 1] w (GrowsTo B v (L.take i ++ x :: L.drop i) w) := by
  rcases h.shape with ⟨rfl, rfl⟩ | ⟨b, cap, rfl, hb, hbw, hn, hm⟩
  · have : i = 0 := by simpa using hi
    subst this
    exact insNil B x vb w hB hx
  · have hne : vb ≠ b := fun e => hvb (by rw [e]; rfl)
    by_cases he : i = L.length
    · subst he
      rw [List.take_length, List.drop_length]
      by_cases hc : L.length < cap
      · exact insRoom B b cap L x vb w hB hl hc h hx
      · have : cap = L.length := by omega
        subst this
        exact insFull B b L x vb w hB hl h hx
    · by_cases hc : L.length + 1 ≤ cap
      · exact insShift B b cap i L x vb w hB hl (by omega) hc h hx hne
      · have : cap = L.length := by omega
        subst this
        exact insGrow B b i L x vb w hB hl (by omega) h hx
end Go.Proofs.Ytfmpcniehgipfaa
namespace Go.Proofs.Ytfmpcniehgipfaa
open Go.RowKit
theorem wpList_clear_run (w : World) {ops : Array Oper} {rest : List Oper} {o : Oper} {a : Act} {Q : Exit → Act → World → Prop} (hgd : o.guard = none) (s : Operand) (t : TypeId)
    (ho : o.op = .call { callee := .builtin .clear, args := #[s], argTypes := #[t] }) (v : Value) (hs : a.eval s = v) {v' : Value} {w' : World}
    (hr : (Builtin.clear_ #[t] o.type #[v]).run Try.prog w = .ok v' w') (h : wpList Try.prog ops Q rest (a.put o.dst v') w') : wpList Try.prog ops Q (o :: rest) a w :=
  wpList_plain hgd fun _ hK => by
    unfold Oper.wp execOp
    simp only [ho, resolve, invoke, builtin, Sem.run_bind, Sem.run_pure, Result.andThen_ok, List.map_toArray, List.map_cons, List.map_nil, hs, hr]
    exact hK _ _ h
set_option maxRecDepth 100000 in
set_option maxHeartbeats 8000000 in
theorem iDelete (B b cap i : Nat) (L : List Trm) (w : World) (hl : L.length ≤ 4000) (hi : i < L.length) (h : Row w B (.slice (some ⟨b, 0, none⟩) L.length cap) L) :
    Calls Try.prog 139 #[.slice (some ⟨b, 0, none⟩) L.length cap, .int .i64 i, .int .i64 ((i : Int) + 1)] w fun e w' =>
      e = .returned (.slice (some ⟨b, 0, none⟩) (L.length - 1) cap) ∧ Row w' B (.slice (some ⟨b, 0, none⟩) (L.length - 1) cap) (L.take i ++ L.drop (i + 1)) ∧ w.grownBy w' (some b) := by
  obtain ⟨i0, hi0, hz0, hz1, hz2⟩ := info_parts infoT
  obtain ⟨g', cap', cur, he, hBb, hg, hn, hm, hs, ht⟩ : ∃ g' cap' cur, (Value.slice (some ⟨b, 0, none⟩) L.length cap) = .slice (some ⟨g', 0, none⟩) L.length cap' ∧ B ≤ g' ∧ w.heap[g']? = some (.cells cur 91 (0, 0)) ∧ L.length ≤ cap' ∧ cap' ≤ maxLen ∧ cur.size = cap' * 4 ∧ cur.toList.take (L.length * 4) = flat L := by
    rcases h.2 with ⟨h1, _⟩ | h1
    · cases h1
    · exact h1
  cases he
  have hfl := flat_len L
  have hcs : ∀ j u, (flat L)[j]? = some u → w.cell? ⟨b, j, none⟩ = some u := fun j u hu => by
    rw [World.ownsRow.cellAt h j (by have := (List.getElem?_eq_some_iff.1 hu).1; omega)]; exact hu
  have hsp : ∀ j, j < cap * 4 → (w.cell? ⟨b, j, none⟩).isSome = true := fun j hj => by
    rw [cell_of_row w b _ _ _ _ hg, Array.getElem?_eq_getElem (by omega)]; rfl
  have hfz : ∀ j, w.frozen? ⟨b, j, none⟩ = false := fun j => World.ownsRow.frozenAt h j
  have hcap : (cap : Int) ≤ 9223372036854775807 := by unfold maxLen at hm; omega
  have hdl : ((flat L).drop ((i + 1) * 4)).length = (L.length - (i + 1)) * 4 := by rw [List.length_drop, hfl]; omega
  obtain ⟨W1, hW1⟩ : ∃ W1, W1 = w.drew.setCells b (i * 4) ((flat L).drop ((i + 1) * 4)) := ⟨_, rfl⟩
  have hsp1 : ∀ k, k < cap * 4 → (W1.cell? ⟨b, k, none⟩).isSome = true := fun k hk => by
    rw [hW1]
    exact some_setCells b ((flat L).drop ((i + 1) * 4)) (i * 4) w.drew (fun j hj => hsp _ (by omega)) k (hsp k hk)
  have hcl : ∀ ty c, (Builtin.clear_ #[40] ty #[.slice (some ⟨b, (L.length - 1) * 4, none⟩) 1 c]).run Try.prog W1 = .ok (.tuple #[]) (W1.setCells b ((L.length - 1) * 4) zero4) := fun ty c =>
    run_clear4 W1 ty b ((L.length - 1) * 4) c (fun j hj => hsp1 _ (by omega)) (fun j hj => by rw [hW1, World.frozen?_setCells]; exact hfz _)
  have HREC := Lib.hid (show Row (W1.setCells b ((L.length - 1) * 4) zero4) B (.slice (some ⟨b, 0, none⟩) (L.length - 1) cap) (L.take i ++ L.drop (i + 1)) ∧ w.grownBy (W1.setCells b ((L.length - 1) * 4) zero4) (some b) from by
    refine ⟨?_, ?_⟩
    · obtain ⟨cur1, q1, q2⟩ := setCells_row b 91 (0, 0) ((flat L).drop ((i + 1) * 4)) (i * 4) w.drew cur hg
      rw [← hW1] at q1
      obtain ⟨cur2, q3, q4⟩ := setCells_row b 91 (0, 0) zero4 ((L.length - 1) * 4) W1 cur1 q1
      have := row_of_cells (L := L.take i ++ L.drop (i + 1)) hBb q3 (by rw [q4, q2, hs]) (by simp; omega) hm (fun j u hu => by
        rw [flat_app, ← flat_take, ← flat_drop] at hu
        have ltk : ((flat L).take (i * 4)).length = i * 4 := by rw [List.length_take]; omega
        have hju := (List.getElem?_eq_some_iff.1 hu).1
        rw [List.length_append, ltk, hdl] at hju
        rw [World.cell?_setCells_out b _ _ _ _ (fun _ _ => .inl (by show j < (L.length - 1) * 4; omega)), hW1]
        by_cases h1 : j < i * 4
        · rw [World.cell?_setCells_out b _ _ _ _ (fun _ _ => .inl h1)]
          rw [List.getElem?_append_left (by omega), List.getElem?_take, if_pos h1] at hu
          exact hcs j u hu
        · rw [List.getElem?_append_right (by omega), ltk] at hu
          have hjl := (List.getElem?_eq_some_iff.1 hu).1
          have := World.cell?_setCells_in b ((flat L).drop ((i + 1) * 4)) (i * 4) w.drew (fun k hk => hsp _ (by omega)) (j - i * 4) hjl
          rw [show i * 4 + (j - i * 4) = j by omega] at this
          rw [this, ← (List.getElem?_eq_some_iff.1 hu).2])
      have e2 : (L.take i ++ L.drop (i + 1)).length = L.length - 1 := by simp; omega
      rw [e2] at this
      exact this
    · rw [hW1]
      exact grown_trans (grown_trans (grown_drew (grown_refl w _) 1) (setCells_grown b _ _ _)) (setCells_grown b _ _ _))
  have hroom : i + (L.length - (i + 1)) ≤ cap := by omega
  have hsrc : ∀ j u, ((flat L).drop ((i + 1) * 4))[j]? = some u → w.drew.cell? ((⟨b, (i + 1) * 4, none⟩ : Addr).add j) = some u := fun j u hj => by
    rw [Addr.add_lit]; exact hcs ((i + 1) * 4 + j) u (by rwa [List.getElem?_drop] at hj)
  have hspare : ∀ j, j < ((flat L).drop ((i + 1) * 4)).length → (w.drew.cell? ⟨b, 0 + i * 4 + j, none⟩).isSome = true ∧ w.drew.frozen? ⟨b, 0 + i * 4 + j, none⟩ = false := fun j hj => ⟨hsp _ (by omega), hfz _⟩
  have hone : ∀ u ∈ (flat L).drop ((i + 1) * 4), u.oneCell' = true := fun u hu => flat_cell L u (List.mem_of_mem_drop hu)
  have hsum : i + (L.length - (i + 1)) = L.length - 1 := by omega
  have hin : (i : Int) + 1 ≤ (L.length : Int) := by omega
  have hin2 : i + 1 ≤ L.length := by omega
  have hlc : (L.length : Int) ≤ (cap : Int) := by omega
  have hb0 : (0 : Int) ≤ (i : Int) + 1 := by omega
  have htn : ((i : Int) + 1).toNat = i + 1 := by omega
  have htl : ((L.length : Int)).toNat = L.length := by omega
  have hic : (i : Int) ≤ (cap : Int) := by omega
  have hic2 : i ≤ cap := by omega
  have hne1 : ¬ ((i : Int) = (i : Int) + 1) := by omega
  have hci : ¬ (cap = i) := by omega
  have HS := Lib.hid hsrc
  have HP := Lib.hid hspare
  have HW := Lib.hid hW1
  clear hsrc hspare hsp1 hcs hsp hfz h hg ht hW1
  have hl1 : (L.length : Int) - 1 = ((L.length - 1 : Nat) : Int) := by omega
  have hsub : L.length - (L.length - 1) = 1 := by omega
  have hci2 : ¬ (cap = L.length - 1) := by omega
  have hle1 : ((L.length - 1 : Nat) : Int) ≤ (L.length : Int) := by omega
  have hle2 : L.length - 1 ≤ L.length := by omega
  by_cases hcc : cap = i + 1
  · have HCC := Lib.hid hcc
    have HS0 := Lib.hid (show ∀ j u, ((flat L).drop ((i + 1) * 4))[j]? = some u → w.drew.cell? ((⟨b, 0, none⟩ : Addr).add j) = some u from fun j u hj => by
      have := (List.getElem?_eq_some_iff.1 hj).1
      rw [hdl] at this
      omega)
    clear hcc
    go_enter Try.func139, Try.ntmps139
    go_wp2_with fail
    go_region_law (refine step_append_room rfl _ _ 40 rfl 91 i0 4 Try.underlying40 hi0 hz1 b 0 i cap (by simp [Act.eval, Act.put]) ⟨b, 0, none⟩ (L.length - (i + 1)) (cap - (i + 1)) ((flat L).drop ((i + 1) * 4)) (by simp [Act.eval, Act.put, HCC.out]) hdl HS0.out hone hroom HP.out ?_)
    rw [← HW.out]
    go_wp2_with (at_builtin; refine wpList_clear_run _ rfl _ 40 rfl (.slice (some ⟨b, (L.length - 1) * 4, none⟩) 1 (cap - (L.length - 1))) (by simp [Act.eval, Act.put, hsub]) (hcl _ _) ?_)
    go_ret
    have q := HREC.out
    first | exact ⟨rfl, q⟩ | (rw [HCC.out] at q; exact ⟨rfl, q⟩) | (rw [HCC.out] at q ⊢; exact ⟨rfl, q⟩)
  · have HCC := Lib.hid hcc
    go_enter Try.func139, Try.ntmps139
    go_wp2_with fail
    go_region_law (refine step_append_room rfl _ _ 40 rfl 91 i0 4 Try.underlying40 hi0 hz1 b 0 i cap (by simp [Act.eval, Act.put]) ⟨b, (i + 1) * 4, none⟩ (L.length - (i + 1)) (cap - (i + 1)) ((flat L).drop ((i + 1) * 4)) (by simp [Act.eval, Act.put]) hdl HS.out hone hroom HP.out ?_)
    rw [← HW.out]
    go_wp2_with (at_builtin; refine wpList_clear_run _ rfl _ 40 rfl (.slice (some ⟨b, (L.length - 1) * 4, none⟩) 1 (cap - (L.length - 1))) (by simp [Act.eval, Act.put, hsub]) (hcl _ _) ?_)
    go_ret
    exact ⟨rfl, HREC.out⟩
end Go.Proofs.Ytfmpcniehgipfaa
