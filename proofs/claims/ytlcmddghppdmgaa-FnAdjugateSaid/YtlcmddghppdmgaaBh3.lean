/-
  Rows of terms, on: cells stored into a row; copy and clear at terms. Conditions: none.
  slices.Insert at terms: one term put in its place. Conditions: the row is the call's own.
-/
import Derived.Test.YtlcmddghppdmgaaBh2
import Derived.Lib.Overlaps
import Derived.Lib.AppendZerosOnto
import Derived.Laws.IdiomCopy
import Derived.Laws.NewBlocks
import Derived.Laws.Externs
import Derived.ArgAppend
import Derived.Deep.RegionLaw
import Derived.WalkKit
import Derived.Stop.Walk2
import Derived.Lib.Hide
namespace Go.Proofs.Ytlcmddghppdmgaa
open Go.RowKit
theorem setCells_row (b : Nat) (e : TypeId) (fz : Nat × Nat) : ∀ (vs : List Value) (o : Nat) (w : World) (cur : Array Value), w.heap[b]? = some (.cells cur e fz) →
    ∃ cur', (w.setCells b o vs).heap[b]? = some (.cells cur' e fz) ∧ cur'.size = cur.size
  | [], _, w, cur, h => ⟨cur, h, rfl⟩
  | v :: r, o, w, cur, h => by
    have h1 : (w.setCell ⟨b, o, none⟩ v).heap[b]? = some (.cells (cur.setIfInBounds o v) e fz) := by
      simp [World.setCell, Array.getElem?_modify, h]
    obtain ⟨cur', h2, h3⟩ := setCells_row b e fz r (o + 1) _ _ h1
    exact ⟨cur', h2, by simpa using h3⟩
theorem setCells_frame (b : Nat) : ∀ (vs : List Value) (o : Nat) (w : World), (w.setCells b o vs).os = w.os ∧ (w.setCells b o vs).tape = w.tape ∧ (w.setCells b o vs).output = w.output ∧ (w.setCells b o vs).heap.size = w.heap.size ∧ ∀ k, k ≠ b → (w.setCells b o vs).heap[k]? = w.heap[k]?
  | [], _, w => ⟨rfl, rfl, rfl, rfl, fun _ _ => rfl⟩
  | v :: r, o, w => by
    obtain ⟨h1, h2, h3, h4, h5⟩ := setCells_frame b r (o + 1) (w.setCell ⟨b, o, none⟩ v)
    refine ⟨h1, h2, h3, by rw [World.setCells, h4]; simp, fun k hk => ?_⟩
    rw [World.setCells, h5 k hk, Below.heap_setCell _ _ _ _ hk]
theorem setCells_grown (b : Nat) (vs : List Value) (o : Nat) (w : World) : w.grownBy (w.setCells b o vs) (some b) := by
  obtain ⟨h1, h2, h3, h4, h5⟩ := setCells_frame b vs o w
  exact ⟨h1, h2, h3, by rw [h4]; exact Nat.le_refl _, fun k _ hk => h5 k (fun e => hk (by rw [e]))⟩
theorem grown_trans {w w1 w2 : World} {row : Option Nat} (h1 : w.grownBy w1 row) (h2 : w1.grownBy w2 row) : w.grownBy w2 row :=
  ⟨h2.os.trans h1.os, h2.tape.trans h1.tape, h2.output.trans h1.output, Nat.le_trans h1.size h2.size, fun k hk hr => (h2.block k (Nat.lt_of_lt_of_le hk h1.size) hr).trans (h1.block k hk hr)⟩
theorem grown_drew {w w1 : World} {row : Option Nat} (h1 : w.grownBy w1 row) (n : Nat) : w.grownBy (w1.drewN n) row :=
  ⟨h1.os, h1.tape, h1.output, h1.size, h1.block⟩
theorem grown_refl (w : World) (row : Option Nat) : w.grownBy w row := ⟨rfl, rfl, rfl, Nat.le_refl _, fun _ _ _ => rfl⟩
/-- a row is known by its cells -/
theorem row_of_cells {w : World} {B b cap : Nat} {cur : Array Value} {L : List Trm} (hB : B ≤ b) (hg : w.heap[b]? = some (.cells cur 74 (0, 0))) (hs : cur.size = cap * 4) (hn : L.length ≤ cap) (hm : cap ≤ maxLen)
    (hc : ∀ j u, (flat L)[j]? = some u → w.cell? ⟨b, j, none⟩ = some u) : Row w B (.slice (some ⟨b, 0, none⟩) L.length cap) L := by
  refine ⟨flat_len L, .inr ⟨b, cap, cur, rfl, hB, hg, hn, hm, hs, ?_⟩⟩
  have hfl := flat_len L
  apply List.ext_getElem?
  intro j
  by_cases hj : j < L.length * 4
  · rw [List.getElem?_take, if_pos hj]
    have hj2 : j < (flat L).length := by omega
    have := hc j _ (List.getElem?_eq_getElem hj2)
    rw [cell_of_row w b j cur _ _ hg] at this
    rw [List.getElem?_eq_getElem hj2, ← this]
    simp
  · rw [List.getElem?_eq_none (by simp; omega), List.getElem?_eq_none (by omega)]
theorem row_base {w : World} {B B' : Nat} {v : Value} {L : List Trm} (h : Row w B v L) (hB : B' ≤ B) : Row w B' v L := by
  refine ⟨h.1, ?_⟩
  rcases h.2 with h1 | ⟨g, cap, cur, h1, h2, r⟩
  · exact .inl h1
  · exact .inr ⟨g, cap, cur, h1, by omega, r⟩
theorem run_copy4 (w : World) (ty : TypeId) (b o dLen dCap : Nat) (a : Addr) (sLen sCap n : Nat) (cs : List Value)
    (hn : Nat.min sLen dLen = n) (hl : cs.length = n * 4)
    (hsrc : ∀ j v, cs[j]? = some v → w.cell? (a.add j) = some v) (hc : ∀ j, j < cs.length → (w.cell? ⟨b, o + j, none⟩).isSome = true) (hf : ∀ j, j < cs.length → w.frozen? ⟨b, o + j, none⟩ = false) (h1 : ∀ v ∈ cs, v.oneCell' = true) :
    (Builtin.copy_ #[52, 52] ty #[.slice (some ⟨b, o, none⟩) dLen dCap, .slice (some a) sLen sCap]).run Try.prog w = .ok (goInt n) (w.setCells b o cs) := by
  have hld := run_loadCells_list (P := Try.prog) w a cs hsrc
  have hst := run_storeCells_cells (P := Try.prog) b o cs 0 w (by simpa using hc) (by simpa using hf) h1
  obtain ⟨i, hq, hz0, hz1, hz2⟩ := info_parts infoT
  simp [Builtin.copy_, run_underlying Try.underlying52, Builtin.lenOf, Builtin.firstCells, sizeOf, typeInfo, hq, hz1, hn, ← hl, hld, hst]
def zero4 : List Value := [.int .i64 0, .int .i64 0, .int .i64 0, .int .i64 0]
theorem run_clear4 (w : World) (ty : TypeId) (b o c : Nat)
    (hc : ∀ j, j < 4 → (w.cell? ⟨b, o + j, none⟩).isSome = true) (hf : ∀ j, j < 4 → w.frozen? ⟨b, o + j, none⟩ = false) :
    (Builtin.clear_ #[52] ty #[.slice (some ⟨b, o, none⟩) 1 c]).run Try.prog w = .ok (.tuple #[]) (w.setCells b o zero4) := by
  have hst := run_storeCells_cells (P := Try.prog) b o zero4 0 w (by simpa [zero4] using hc) (by simpa [zero4] using hf) (by intro v hv; simp [zero4] at hv; subst hv; rfl)
  obtain ⟨i, hq, hz0, hz1, hz2⟩ := info_parts infoT
  have hz : (Builtin.zeroCells (Value.agg #[.int .i64 0, .int .i64 0, .int .i64 0, .int .i64 0]).cells 1).toList = zero4 := by kernel_rfl
  simp only [Nat.add_zero] at hst
  simp [Builtin.clear_, run_underlying Try.underlying52, zeroValue, typeInfo, hq, hz0, hz, hst]
end Go.Proofs.Ytlcmddghppdmgaa
namespace Go.Proofs.Ytlcmddghppdmgaa
open Go.RowKit
theorem step_copy_run4 {ops : Array Oper} {o : Oper} {a : Act} {w : World} {K : Act → World → Prop} {Q : Exit → Act → World → Prop} {E : Prop}
    (hg : o.guard = none) (d x : Operand) (dT sT : TypeId) (hop : o.op = Op.call { callee := Callee.builtin Builtin.copy, args := #[d, x], argTypes := #[dT, sT] })
    (v u : Value) (hd : a.eval d = v) (hx : a.eval x = u) {v' : Value} {w' : World} (hr : (Builtin.copy_ #[dT, sT] o.type #[v, u]).run Try.prog w = .ok v' w') (hK : K (a.put o.dst v') w') :
    if Region.wanted o (yielded ops a.tmps) = true then Oper.wp Try.prog o a w K Q else E := by
  have hw : Region.wanted o (yielded ops a.tmps) = true := by simp [Region.wanted, hg]
  rw [if_pos hw]
  unfold Oper.wp
  simp [execOp, hop, resolve, invoke, builtin, hd, hx, hr, Result.andThen]
  exact hK
theorem wpList_copy_run4 (w : World) {ops : Array Oper} {rest : List Oper} {o : Oper} {a : Act} {Q : Exit → Act → World → Prop} (hgd : o.guard = none) (d s : Operand) (t t' : TypeId)
    (ho : o.op = .call { callee := .builtin .copy, args := #[d, s], argTypes := #[t, t'] }) (v u : Value) (hd : a.eval d = v) (hs : a.eval s = u) {v' : Value} {w' : World}
    (hr : (Builtin.copy_ #[t, t'] o.type #[v, u]).run Try.prog w = .ok v' w') (h : wpList Try.prog ops Q rest (a.put o.dst v') w') : wpList Try.prog ops Q (o :: rest) a w :=
  wpList_plain hgd fun _ hK => by
    unfold Oper.wp execOp
    simp only [ho, resolve, invoke, builtin, Sem.run_bind, Sem.run_pure, Result.andThen_ok, List.map_toArray, List.map_cons, List.map_nil, hd, hs, hr]
    exact hK _ _ h
/-- a block of its own that holds one term -/
def OneAt (w : World) (vb : Nat) (x : Trm) : Prop := w.heap[vb]? = some (.cells #[.int .i64 x.a, .int .i64 x.b, .int .i64 x.c, .int .i64 x.t] 74 (0, 0))
theorem OneAt.cell {w : World} {vb : Nat} {x : Trm} (h : OneAt w vb x) : ∀ j u, x.cs[j]? = some u → w.cell? ⟨vb, j, none⟩ = some u := by
  intro j u hu
  rw [cell_of_row w vb j _ _ _ h]
  match j, hu with
  | 0, hu => simpa [Trm.cs] using hu
  | 1, hu => simpa [Trm.cs] using hu
  | 2, hu => simpa [Trm.cs] using hu
  | 3, hu => simpa [Trm.cs] using hu
  | j + 4, hu => simp [Trm.cs] at hu
/-- what a call on a row of the call's own hands back -/
def GrowsTo (B : Nat) (v : Value) (L' : List Trm) (w : World) (e : Ending) (w' : World) : Prop :=
  ∃ v', e = .returned v' ∧ Row w' B v' L' ∧ w.grownBy w' v.ownBlock ∧ (v'.ownBlock = v.ownBlock ∨ ∃ g, v'.ownBlock = some g ∧ w.heap.size ≤ g)
set_option maxRecDepth 100000 in
set_option maxHeartbeats 4000000 in
theorem insNil (B : Nat) (x : Trm) (vb : Nat) (w : World) (hB : B ≤ w.heap.size) (h1 : OneAt w vb x) :
    Calls Try.prog 204 #[.slice none 0 0, .int .i64 0, .slice (some ⟨vb, 0, none⟩) 1 1] w (GrowsTo B (.slice none 0 0) [x] w) := by
  obtain ⟨i0, hi, hz0, hz1, hz2⟩ := info_parts infoT
  have HO := Lib.hid h1
  clear h1
  go_enter Try.func204, Try.ntmps204
  go_wp2_with (at_builtin; refine wpList_append_grows _ rfl _ _ 52 rfl 74 i0 (.agg #[.int .i64 0, .int .i64 0, .int .i64 0, .int .i64 0]) 4 32 Try.underlying52 hi hz0 hz1 hz2 rfl (by decide) none 0 0 [] rfl (fun _ => ⟨rfl, rfl⟩) rfl ?n2 ⟨vb, 0, none⟩ 1 1 x.cs rfl rfl ?c1 ?c2 ?c3 ?c4 ?c5 ?_)
  case n2 => intro b hb; cases hb
  case c1 => intro j u hj; rw [Addr.add_lit, Nat.zero_add]; exact HO.out.cell j u hj
  case c2 => intro u hu; exact flat_cell [x] u (by simpa [flat] using hu)
  case c3 => omega
  case c4 => unfold maxLen; omega
  case c5 => omega
  intro v' w' hown hgrow
  go_wp2
  go_ret
  refine ⟨_, rfl, row_base (B := w.heap.size) ?_ hB, hgrow, ?_⟩
  · show World.ownsRow _ _ _ _ _ _ _
    simpa [flat_one] using hown
  · rcases hown.2 with ⟨_, h⟩ | ⟨g, cap, cur, rfl, hb, _⟩
    · omega
    · exact .inr ⟨g, rfl, hb⟩
set_option maxRecDepth 100000 in
set_option maxHeartbeats 4000000 in
theorem insRoom (B b cap : Nat) (L : List Trm) (x : Trm) (vb : Nat) (w : World) (_ : B ≤ w.heap.size) (hl : L.length ≤ 4000) (hlt : L.length < cap) (h : Row w B (.slice (some ⟨b, 0, none⟩) L.length cap) L) (hx : OneAt w vb x) :
    Calls Try.prog 204 #[.slice (some ⟨b, 0, none⟩) L.length cap, .int .i64 L.length, .slice (some ⟨vb, 0, none⟩) 1 1] w (GrowsTo B (.slice (some ⟨b, 0, none⟩) L.length cap) (L ++ [x]) w) := by
  obtain ⟨i0, hi, hz0, hz1, hz2⟩ := info_parts infoT
  have HO := Lib.hid hx
  obtain ⟨g', cap', cur, he, hBb, hg, hn, hm, hs, ht⟩ : ∃ g' cap' cur, (Value.slice (some ⟨b, 0, none⟩) L.length cap) = .slice (some ⟨g', 0, none⟩) L.length cap' ∧ B ≤ g' ∧ w.heap[g']? = some (.cells cur 74 (0, 0)) ∧ L.length ≤ cap' ∧ cap' ≤ maxLen ∧ cur.size = cap' * 4 ∧ cur.toList.take (L.length * 4) = flat L := by
    rcases h.2 with ⟨h1, _⟩ | h1
    · cases h1
    · exact h1
  cases he
  have hfl := flat_len L
  have HC := Lib.hid (show ∀ j u, (flat L)[j]? = some u → w.cell? ⟨b, 0 + j, none⟩ = some u from fun j u hu => by
    rw [Nat.zero_add, World.ownsRow.cellAt h j (by have := (List.getElem?_eq_some_iff.1 hu).1; omega)]; exact hu)
  have HSP := Lib.hid (show L.length + 1 ≤ cap → ∀ j, j < x.cs.length → (w.cell? ⟨b, 0 + L.length * 4 + j, none⟩).isSome = true ∧ w.frozen? ⟨b, 0 + L.length * 4 + j, none⟩ = false from fun hr j hj => by
    refine ⟨?_, World.ownsRow.frozenAt h _⟩
    rw [Nat.zero_add, cell_of_row w b _ _ _ _ hg, Array.getElem?_eq_getElem (by rw [hs]; simp [Trm.cs] at hj; omega)]; rfl)
  have hcap : (cap : Int) ≤ 9223372036854775807 := by unfold maxLen at hm; omega
  have hnc : (L.length : Int) ≤ (cap : Int) := by omega
  have hne : ¬ (cap = L.length) := by omega
  have hne2 : ¬ (L.length = cap) := by omega
  have H := Lib.hid h
  have HG := Lib.hid hg
  clear h hx ht hg
  go_enter Try.func204, Try.ntmps204
  go_wp2_with (at_builtin; refine wpList_append_arg _ rfl _ _ 52 rfl 74 i0 (.agg #[.int .i64 0, .int .i64 0, .int .i64 0, .int .i64 0]) 4 32 Try.underlying52 hi hz0 hz1 hz2 rfl (by decide) b 0 L.length cap (flat L) rfl hfl HC.out ⟨vb, 0, none⟩ 1 1 x.cs rfl rfl ?c1 ?c2 HSP.out ?c4 ?c5 ?room ?grow)
  case c1 => intro j u hj; rw [Addr.add_lit, Nat.zero_add]; exact HO.out.cell j u hj
  case c2 => intro u hu; exact flat_cell [x] u (by simpa [flat] using hu)
  case c4 => unfold maxLen; omega
  case c5 => omega
  case room =>
    intro hr
    go_wp2
    go_ret
    refine ⟨_, rfl, ?_, setCells_grown b _ _ w, .inl rfl⟩
    obtain ⟨cur', hc1, hc2⟩ := setCells_row b 74 (0, 0) x.cs (0 + L.length * 4) w cur HG.out
    have := row_of_cells (L := L ++ [x]) hBb hc1 (by rw [hc2, hs]) (by simp; omega) hm (fun j u hu => by
      rw [flat_app, flat_one] at hu
      by_cases hj : j < L.length * 4
      · rw [World.cell?_setCells_out b _ _ _ _ (fun _ _ => .inl (by simpa using hj))]
        rw [List.getElem?_append_left (by omega)] at hu
        simpa using HC.out j u hu
      · rw [List.getElem?_append_right (by omega), hfl] at hu
        have hjl := (List.getElem?_eq_some_iff.1 hu).1
        have := World.cell?_setCells_in b x.cs (0 + L.length * 4) w (fun k hk => (HSP.out hr k hk).1) (j - L.length * 4) hjl
        rw [show 0 + L.length * 4 + (j - L.length * 4) = j by omega] at this
        rw [this, ← (List.getElem?_eq_some_iff.1 hu).2])
    simpa using this
  case grow => intro hr; omega
set_option maxRecDepth 100000 in
set_option maxHeartbeats 4000000 in
theorem insFull (B b : Nat) (L : List Trm) (x : Trm) (vb : Nat) (w : World) (hB : B ≤ w.heap.size) (hl : L.length ≤ 4000) (h : Row w B (.slice (some ⟨b, 0, none⟩) L.length L.length) L) (hx : OneAt w vb x) :
    Calls Try.prog 204 #[.slice (some ⟨b, 0, none⟩) L.length L.length, .int .i64 L.length, .slice (some ⟨vb, 0, none⟩) 1 1] w (GrowsTo B (.slice (some ⟨b, 0, none⟩) L.length L.length) (L ++ [x]) w) := by
  obtain ⟨i0, hi, hz0, hz1, hz2⟩ := info_parts infoT
  have HO := Lib.hid hx
  have hfl := flat_len L
  have HC := Lib.hid (show ∀ j u, (flat L)[j]? = some u → w.cell? ⟨b, j, none⟩ = some u from fun j u hu => by
    rw [World.ownsRow.cellAt h j (by have := (List.getElem?_eq_some_iff.1 hu).1; omega)]; exact hu)
  have hcap : (L.length : Int) ≤ 9223372036854775807 := by omega
  clear h hx
  go_enter Try.func204, Try.ntmps204
  go_wp2_with (at_builtin; refine wpList_append_grows _ rfl _ _ 52 rfl 74 i0 (.agg #[.int .i64 0, .int .i64 0, .int .i64 0, .int .i64 0]) 4 32 Try.underlying52 hi hz0 hz1 hz2 rfl (by decide) (some ⟨b, 0, none⟩) L.length L.length (flat L) rfl (fun h => by cases h) hfl ?n2 ⟨vb, 0, none⟩ 1 1 x.cs rfl rfl ?c1 ?c2 ?c3 ?c4 ?c5 ?_)
  case n2 => intro a ha j u hj; cases ha; rw [Addr.add_lit, Nat.zero_add]; exact HC.out j u hj
  case c1 => intro j u hj; rw [Addr.add_lit, Nat.zero_add]; exact HO.out.cell j u hj
  case c2 => intro u hu; exact flat_cell [x] u (by simpa [flat] using hu)
  case c3 => omega
  case c4 => unfold maxLen; omega
  case c5 => omega
  intro v' w' hown hgrow
  go_wp2
  go_ret
  refine ⟨_, rfl, row_base (B := w.heap.size) ?_ hB, ⟨hgrow.os, hgrow.tape, hgrow.output, hgrow.size, fun k hk _ => hgrow.block k hk (by simp)⟩, ?_⟩
  · show World.ownsRow _ _ _ _ _ _ _
    simpa [flat_one, flat_app] using hown
  · rcases hown.2 with ⟨_, h⟩ | ⟨g, cap, cur, rfl, hb, _⟩
    · omega
    · exact .inr ⟨g, rfl, hb⟩
end Go.Proofs.Ytlcmddghppdmgaa
