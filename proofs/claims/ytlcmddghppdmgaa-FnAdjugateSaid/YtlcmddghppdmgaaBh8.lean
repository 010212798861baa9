/-
  slices.Insert at ints: one number put in its place. Conditions: the row is the call's own.
-/
import Derived.Test.YtlcmddghppdmgaaBh3
import Derived.Test.YtlcmddghppdmgaaBh7
namespace Go.Proofs.Ytlcmddghppdmgaa
set_option linter.unusedVariables false
open Go.RowKit
def csQ (x : Int) : List Value := [.int .i64 x]
/-- the cells of a list of numbers -/
def flatQ (L : List Int) : List Value := L.map (Value.int .i64)
theorem flatQ_len (L : List Int) : (flatQ L).length = L.length := by simp [flatQ]
theorem flatQ_app (A B : List Int) : flatQ (A ++ B) = flatQ A ++ flatQ B := by simp [flatQ]
theorem flatQ_one (x : Int) : flatQ [x] = csQ x := rfl
theorem flatQ_cell (L : List Int) (u : Value) (h : u ∈ flatQ L) : u.oneCell' = true := by
  obtain ⟨q, _, rfl⟩ := List.mem_map.1 h
  rfl
theorem flatQ_take (L : List Int) (k : Nat) : (flatQ L).take k = flatQ (L.take k) := by simp [flatQ]
theorem flatQ_drop (L : List Int) (k : Nat) : (flatQ L).drop k = flatQ (L.drop k) := by simp [flatQ]
/-- a block of its own that holds one number -/
def OneAtQ (w : World) (vb : Nat) (x : Int) : Prop := w.heap[vb]? = some (.cells #[.int .i64 x] 3 (0, 0))
theorem OneAtQ.cell {w : World} {vb : Nat} {x : Int} (h : OneAtQ w vb x) : ∀ j u, (csQ x)[j]? = some u → w.cell? ⟨vb, j, none⟩ = some u := by
  intro j u hu
  rw [cell_of_row w vb j _ _ _ h]
  match j, hu with
  | 0, hu => simpa [csQ] using hu
  | j + 1, hu => simp [csQ] at hu
def RowQ (w : World) (B : Nat) (v : Value) (L : List Int) : Prop := w.ownsRow B 3 1 v L.length (flatQ L)
theorem RowQ.shape {w : World} {B : Nat} {v : Value} {L : List Int} (h : RowQ w B v L) :
    (v = .slice none 0 0 ∧ L = []) ∨ ∃ g cap, v = .slice (some ⟨g, 0, none⟩) L.length cap ∧ B ≤ g ∧ g < w.heap.size ∧ L.length ≤ cap ∧ cap ≤ maxLen := by
  rcases h.2 with ⟨h1, h2⟩ | ⟨g, cap, cur, rfl, hb, hg, hn, hm, _⟩
  · exact .inl ⟨h1, List.length_eq_zero_iff.1 h2⟩
  · exact .inr ⟨g, cap, rfl, hb, (Array.getElem?_eq_some_iff.1 hg).1, hn, hm⟩
theorem row_of_cellsQ {w : World} {B b cap : Nat} {cur : Array Value} {L : List Int} (hB : B ≤ b) (hg : w.heap[b]? = some (.cells cur 3 (0, 0))) (hs : cur.size = cap) (hn : L.length ≤ cap) (hm : cap ≤ maxLen)
    (hc : ∀ j u, (flatQ L)[j]? = some u → w.cell? ⟨b, j, none⟩ = some u) : RowQ w B (.slice (some ⟨b, 0, none⟩) L.length cap) L := by
  refine ⟨by rw [flatQ_len]; omega, .inr ⟨b, cap, cur, rfl, hB, hg, hn, hm, by omega, ?_⟩⟩
  have hfl := flatQ_len L
  apply List.ext_getElem?
  intro j
  rw [Nat.mul_one]
  by_cases hj : j < L.length
  · rw [List.getElem?_take, if_pos hj]
    have hj2 : j < (flatQ L).length := by omega
    have := hc j _ (List.getElem?_eq_getElem hj2)
    rw [cell_of_row w b j cur _ _ hg] at this
    rw [List.getElem?_eq_getElem hj2, ← this]
    simp
  · rw [List.getElem?_eq_none (by simp; omega), List.getElem?_eq_none (by omega)]
theorem row_baseQ {w : World} {B B' : Nat} {v : Value} {L : List Int} (h : RowQ w B v L) (hB : B' ≤ B) : RowQ w B' v L := by
  refine ⟨h.1, ?_⟩
  rcases h.2 with h1 | ⟨g, cap, cur, h1, h2, r⟩
  · exact .inl h1
  · exact .inr ⟨g, cap, cur, h1, by omega, r⟩
theorem run_copyQ (w : World) (ty : TypeId) (b o dLen dCap : Nat) (a : Addr) (sLen sCap n : Nat) (cs : List Value)
    (hn : Nat.min sLen dLen = n) (hl : cs.length = n)
    (hsrc : ∀ j v, cs[j]? = some v → w.cell? (a.add j) = some v) (hc : ∀ j, j < cs.length → (w.cell? ⟨b, o + j, none⟩).isSome = true) (hf : ∀ j, j < cs.length → w.frozen? ⟨b, o + j, none⟩ = false) (h1 : ∀ v ∈ cs, v.oneCell' = true) :
    (Builtin.copy_ #[62, 62] ty #[.slice (some ⟨b, o, none⟩) dLen dCap, .slice (some a) sLen sCap]).run Try.prog w = .ok (goInt n) (w.setCells b o cs) := by
  have hld := run_loadCells_list (P := Try.prog) w a cs hsrc
  have hst := run_storeCells_cells (P := Try.prog) b o cs 0 w (by simpa using hc) (by simpa using hf) h1
  obtain ⟨i, hq, hz0, hz1, hz2⟩ := info_parts infoInt
  simp [Builtin.copy_, run_underlying Try.underlying62, Builtin.lenOf, Builtin.firstCells, sizeOf, typeInfo, hq, hz1, hn, ← hl, hld, hst]
/-- what a call on a row of the call's own hands back -/
def GrowsToQ (B : Nat) (v : Value) (L' : List Int) (w : World) (e : Ending) (w' : World) : Prop :=
  ∃ v', e = .returned v' ∧ RowQ w' B v' L' ∧ w.grownBy w' v.ownBlock ∧ (v'.ownBlock = v.ownBlock ∨ ∃ g, v'.ownBlock = some g ∧ w.heap.size ≤ g)
set_option maxRecDepth 100000 in
set_option maxHeartbeats 4000000 in
theorem insNilQ (B : Nat) (x : Int) (vb : Nat) (w : World) (hB : B ≤ w.heap.size) (h1 : OneAtQ w vb x) :
    Calls Try.prog 174 #[.slice none 0 0, .int .i64 0, .slice (some ⟨vb, 0, none⟩) 1 1] w (GrowsToQ B (.slice none 0 0) [x] w) := by
  obtain ⟨i0, hi, hz0, hz1, hz2⟩ := info_parts infoInt
  have HO := Lib.hid h1
  clear h1
  go_enter Try.func174, Try.ntmps174
  go_wp2_with (at_builtin; refine wpList_append_grows _ rfl _ _ 62 rfl 3 i0 (.int .i64 0) 1 8 Try.underlying62 hi hz0 hz1 hz2 rfl (by decide) none 0 0 [] rfl (fun _ => ⟨rfl, rfl⟩) rfl ?n2 ⟨vb, 0, none⟩ 1 1 (csQ x) rfl rfl ?c1 ?c2 ?c3 ?c4 ?c5 ?_)
  case n2 => intro b hb; cases hb
  case c1 => intro j u hj; rw [Addr.add_lit, Nat.zero_add]; exact HO.out.cell j u hj
  case c2 => intro u hu; exact flatQ_cell [x] u hu
  case c3 => omega
  case c4 => unfold maxLen; omega
  case c5 => omega
  intro v' w' hown hgrow
  go_wp2
  go_ret
  refine ⟨_, rfl, row_baseQ (B := w.heap.size) ?_ hB, hgrow, ?_⟩
  · show World.ownsRow _ _ _ _ _ _ _
    simpa [flatQ_one] using hown
  · rcases hown.2 with ⟨_, h⟩ | ⟨g, cap, cur, rfl, hb, _⟩
    · omega
    · exact .inr ⟨g, rfl, hb⟩
set_option maxRecDepth 100000 in
set_option maxHeartbeats 4000000 in
theorem insRoomQ (B b cap : Nat) (L : List Int) (x : Int) (vb : Nat) (w : World) (_ : B ≤ w.heap.size) (hl : L.length ≤ 4000) (hlt : L.length < cap) (h : RowQ w B (.slice (some ⟨b, 0, none⟩) L.length cap) L) (hx : OneAtQ w vb x) :
    Calls Try.prog 174 #[.slice (some ⟨b, 0, none⟩) L.length cap, .int .i64 L.length, .slice (some ⟨vb, 0, none⟩) 1 1] w (GrowsToQ B (.slice (some ⟨b, 0, none⟩) L.length cap) (L ++ [x]) w) := by
  obtain ⟨i0, hi, hz0, hz1, hz2⟩ := info_parts infoInt
  have HO := Lib.hid hx
  obtain ⟨g', cap', cur, he, hBb, hg, hn, hm, hs, ht⟩ : ∃ g' cap' cur, (Value.slice (some ⟨b, 0, none⟩) L.length cap) = .slice (some ⟨g', 0, none⟩) L.length cap' ∧ B ≤ g' ∧ w.heap[g']? = some (.cells cur 3 (0, 0)) ∧ L.length ≤ cap' ∧ cap' ≤ maxLen ∧ cur.size = cap' ∧ cur.toList.take (L.length) = flatQ L := by
    rcases h.2 with ⟨h1, _⟩ | h1
    · cases h1
    · simpa only [Nat.mul_one] using h1
  cases he
  have hfl := flatQ_len L
  have HC := Lib.hid (show ∀ j u, (flatQ L)[j]? = some u → w.cell? ⟨b, 0 + j, none⟩ = some u from fun j u hu => by
    rw [Nat.zero_add, World.ownsRow.cellAt h j (by have := (List.getElem?_eq_some_iff.1 hu).1; omega)]; exact hu)
  have HSP := Lib.hid (show L.length + 1 ≤ cap → ∀ j, j < (csQ x).length → (w.cell? ⟨b, 0 + L.length + j, none⟩).isSome = true ∧ w.frozen? ⟨b, 0 + L.length + j, none⟩ = false from fun hr j hj => by
    refine ⟨?_, World.ownsRow.frozenAt h _⟩
    rw [Nat.zero_add, cell_of_row w b _ _ _ _ hg, Array.getElem?_eq_getElem (by rw [hs]; simp [csQ] at hj; omega)]; rfl)
  have hcap : (cap : Int) ≤ 9223372036854775807 := by unfold maxLen at hm; omega
  have hnc : (L.length : Int) ≤ (cap : Int) := by omega
  have hne : ¬ (cap = L.length) := by omega
  have hne2 : ¬ (L.length = cap) := by omega
  have H := Lib.hid h
  have HG := Lib.hid hg
  clear h hx ht hg
  go_enter Try.func174, Try.ntmps174
  go_wp2_with (at_builtin; refine wpList_append_arg _ rfl _ _ 62 rfl 3 i0 (.int .i64 0) 1 8 Try.underlying62 hi hz0 hz1 hz2 rfl (by decide) b 0 L.length cap (flatQ L) rfl (by simpa only [Nat.mul_one] using hfl) HC.out ⟨vb, 0, none⟩ 1 1 (csQ x) rfl rfl ?c1 ?c2 (by simpa only [Nat.mul_one] using HSP.out) ?c4 ?c5 ?room ?grow)
  case c1 => intro j u hj; rw [Addr.add_lit, Nat.zero_add]; exact HO.out.cell j u hj
  case c2 => intro u hu; exact flatQ_cell [x] u hu
  case c4 => unfold maxLen; omega
  case c5 => omega
  case room =>
    intro hr
    go_wp2
    go_ret
    refine ⟨_, rfl, ?_, setCells_grown b _ _ w, .inl rfl⟩
    obtain ⟨cur', hc1, hc2⟩ := setCells_row b 3 (0, 0) (csQ x) (0 + L.length) w cur HG.out
    have := row_of_cellsQ (L := L ++ [x]) hBb hc1 (by rw [hc2, hs]) (by simp; omega) hm (fun j u hu => by
      rw [flatQ_app, flatQ_one] at hu
      by_cases hj : j < L.length
      · rw [World.cell?_setCells_out b _ _ _ _ (fun _ _ => .inl (by simpa using hj))]
        rw [List.getElem?_append_left (by omega)] at hu
        simpa using HC.out j u hu
      · rw [List.getElem?_append_right (by omega), hfl] at hu
        have hjl := (List.getElem?_eq_some_iff.1 hu).1
        have := World.cell?_setCells_in b (csQ x) (0 + L.length) w (fun k hk => (HSP.out hr k hk).1) (j - L.length) hjl
        rw [show 0 + L.length + (j - L.length) = j by omega] at this
        rw [this, ← (List.getElem?_eq_some_iff.1 hu).2])
    simpa using this
  case grow => intro hr; omega
set_option maxRecDepth 100000 in
set_option maxHeartbeats 4000000 in
theorem insFullQ (B b : Nat) (L : List Int) (x : Int) (vb : Nat) (w : World) (hB : B ≤ w.heap.size) (hl : L.length ≤ 4000) (h : RowQ w B (.slice (some ⟨b, 0, none⟩) L.length L.length) L) (hx : OneAtQ w vb x) :
    Calls Try.prog 174 #[.slice (some ⟨b, 0, none⟩) L.length L.length, .int .i64 L.length, .slice (some ⟨vb, 0, none⟩) 1 1] w (GrowsToQ B (.slice (some ⟨b, 0, none⟩) L.length L.length) (L ++ [x]) w) := by
  obtain ⟨i0, hi, hz0, hz1, hz2⟩ := info_parts infoInt
  have HO := Lib.hid hx
  have hfl := flatQ_len L
  have HC := Lib.hid (show ∀ j u, (flatQ L)[j]? = some u → w.cell? ⟨b, j, none⟩ = some u from fun j u hu => by
    rw [World.ownsRow.cellAt h j (by have := (List.getElem?_eq_some_iff.1 hu).1; omega)]; exact hu)
  have hcap : (L.length : Int) ≤ 9223372036854775807 := by omega
  clear h hx
  go_enter Try.func174, Try.ntmps174
  go_wp2_with (at_builtin; refine wpList_append_grows _ rfl _ _ 62 rfl 3 i0 (.int .i64 0) 1 8 Try.underlying62 hi hz0 hz1 hz2 rfl (by decide) (some ⟨b, 0, none⟩) L.length L.length (flatQ L) rfl (fun h => by cases h) (by simpa only [Nat.mul_one] using hfl) ?n2 ⟨vb, 0, none⟩ 1 1 (csQ x) rfl rfl ?c1 ?c2 ?c3 ?c4 ?c5 ?_)
  case n2 => intro a ha j u hj; cases ha; rw [Addr.add_lit, Nat.zero_add]; exact HC.out j u hj
  case c1 => intro j u hj; rw [Addr.add_lit, Nat.zero_add]; exact HO.out.cell j u hj
  case c2 => intro u hu; exact flatQ_cell [x] u hu
  case c3 => omega
  case c4 => unfold maxLen; omega
  case c5 => omega
  intro v' w' hown hgrow
  go_wp2
  go_ret
  refine ⟨_, rfl, row_baseQ (B := w.heap.size) ?_ hB, ⟨hgrow.os, hgrow.tape, hgrow.output, hgrow.size, fun k hk _ => hgrow.block k hk (by simp)⟩, ?_⟩
  · show World.ownsRow _ _ _ _ _ _ _
    simpa [flatQ_one, flatQ_app] using hown
  · rcases hown.2 with ⟨_, h⟩ | ⟨g, cap, cur, rfl, hb, _⟩
    · omega
    · exact .inr ⟨g, rfl, hb⟩
theorem some_setCells (b : Nat) (vs : List Value) (o : Nat) (w : World) (h : ∀ j, j < vs.length → (w.cell? ⟨b, o + j, none⟩).isSome = true) (k : Nat) (hk : (w.cell? ⟨b, k, none⟩).isSome = true) : ((w.setCells b o vs).cell? ⟨b, k, none⟩).isSome = true := by
  by_cases hin : o ≤ k ∧ k < o + vs.length
  · have := World.cell?_setCells_in b vs o w h (k - o) (by omega)
    rw [show o + (k - o) = k by omega] at this
    rw [this]; rfl
  · rw [World.cell?_setCells_out b vs o w ⟨b, k, none⟩ (fun _ _ => by show k < o ∨ o + vs.length ≤ k; omega)]
    exact hk
set_option maxRecDepth 100000 in
set_option maxHeartbeats 8000000 in
theorem insShiftQ (B b cap i : Nat) (L : List Int) (x : Int) (vb : Nat) (w : World) (_ : B ≤ w.heap.size) (hl : L.length ≤ 4000) (hi : i < L.length) (hr : L.length + 1 ≤ cap) (h : RowQ w B (.slice (some ⟨b, 0, none⟩) L.length cap) L) (hx : OneAtQ w vb x) (hvb : vb ≠ b) :
    Calls Try.prog 174 #[.slice (some ⟨b, 0, none⟩) L.length cap, .int .i64 i, .slice (some ⟨vb, 0, none⟩) 1 1] w (GrowsToQ B (.slice (some ⟨b, 0, none⟩) L.length cap) (L.take i ++ x :: L.drop i) w) := by
  obtain ⟨i0, hi0, hz0, hz1, hz2⟩ := info_parts infoInt
  have HO := Lib.hid hx
  obtain ⟨g', cap', cur, he, hBb, hg, hn, hm, hs, ht⟩ : ∃ g' cap' cur, (Value.slice (some ⟨b, 0, none⟩) L.length cap) = .slice (some ⟨g', 0, none⟩) L.length cap' ∧ B ≤ g' ∧ w.heap[g']? = some (.cells cur 3 (0, 0)) ∧ L.length ≤ cap' ∧ cap' ≤ maxLen ∧ cur.size = cap' ∧ cur.toList.take (L.length) = flatQ L := by
    rcases h.2 with ⟨h1, _⟩ | h1
    · cases h1
    · simpa only [Nat.mul_one] using h1
  cases he
  have hfl := flatQ_len L
  have hcs : ∀ j u, (flatQ L)[j]? = some u → w.cell? ⟨b, j, none⟩ = some u := fun j u hu => by
    rw [World.ownsRow.cellAt h j (by have := (List.getElem?_eq_some_iff.1 hu).1; omega)]; exact hu
  have hsp : ∀ j, j < cap → (w.cell? ⟨b, j, none⟩).isSome = true := fun j hj => by
    rw [cell_of_row w b _ _ _ _ hg, Array.getElem?_eq_getElem (by omega)]; rfl
  have hfz : ∀ j, w.frozen? ⟨b, j, none⟩ = false := fun j => World.ownsRow.frozenAt h j
  have hcap : (cap : Int) ≤ 9223372036854775807 := by unfold maxLen at hm; omega
  have hov : ∀ o lb cb, (callFunc 198 #[.slice (some ⟨vb, 0, none⟩) 1 1, .slice (some ⟨b, o, none⟩) lb cb]).run Try.prog w = .ok (.value (.bool false)) w := fun o lb cb => by
    rw [run_callFunc_extern Try.func198 (by kernel_rfl) (by kernel_rfl) (by kernel_rfl) (e := Extern.SlicesOverlaps.overlaps #[62, 62] #[4]) (by kernel_rfl),
      Lib.run_overlaps_apart w 62 4 3 Try.underlying62 1 Try.sizeOf3 ⟨vb, 0, none⟩ ⟨b, o, none⟩ 1 1 lb cb hvb 3 3 1 (cap) (by unfold World.shape?; rw [HO.out]; rfl) (by unfold World.shape?; rw [hg]; simp [hs]) (by omega) (by unfold World.frozen?; rw [HO.out]; simp) (by unfold World.frozen?; rw [HO.out]; simp)]
    rfl
  obtain ⟨W1, hW1⟩ : ∃ W1, W1 = w.drew.setCells b ((i + 1)) ((flatQ L).drop (i)) := ⟨_, rfl⟩
  have hdl : ((flatQ L).drop (i)).length = (L.length - i) := by rw [List.length_drop, hfl]
  have hcp1 : ∀ ty dc sc, (Builtin.copy_ #[62, 62] ty #[.slice (some ⟨b, (i + 1), none⟩) (L.length - i) dc, .slice (some ⟨b, i, none⟩) (L.length + 1 - i) sc]).run Try.prog w.drew = .ok (goInt (L.length - i : Nat)) W1 := fun ty dc sc => by
    rw [hW1]
    exact run_copyQ w.drew ty b ((i + 1)) (L.length - i) dc ⟨b, i, none⟩ (L.length + 1 - i) sc (L.length - i) ((flatQ L).drop (i)) (by simp only [Nat.min_def]; split <;> omega) hdl
      (fun j v hj => by rw [Addr.add_lit]; exact hcs (i + j) v (by rwa [List.getElem?_drop] at hj))
      (fun j hj => hsp _ (by omega)) (fun j hj => hfz _) (fun v hv => flatQ_cell L v (List.mem_of_mem_drop hv))
  have hsp1 : ∀ k, k < cap → (W1.cell? ⟨b, k, none⟩).isSome = true := fun k hk => by
    rw [hW1]
    exact some_setCells b ((flatQ L).drop (i)) ((i + 1)) w.drew (fun j hj => hsp _ (by omega)) k (hsp k hk)
  have hcp2 : ∀ ty dc, (Builtin.copy_ #[62, 62] ty #[.slice (some ⟨b, i, none⟩) (L.length + 1 - i) dc, .slice (some ⟨vb, 0, none⟩) 1 1]).run Try.prog W1 = .ok (goInt 1) (W1.setCells b (i) (csQ x)) := fun ty dc =>
    run_copyQ W1 ty b (i) (L.length + 1 - i) dc ⟨vb, 0, none⟩ 1 1 1 (csQ x) (by simp only [Nat.min_def]; split <;> omega) rfl
      (fun j v hj => by rw [Addr.add_lit, hW1, World.cell?_setCells_out b _ _ _ _ (fun h _ => absurd h hvb), Nat.zero_add]; exact HO.out.cell j v hj)
      (fun j hj => hsp1 _ (by simp [csQ] at hj; omega)) (fun j hj => by rw [hW1, World.frozen?_setCells]; exact hfz _) (fun v hv => flatQ_cell [x] v hv)
  have HREC := Lib.hid (show GrowsToQ B (.slice (some ⟨b, 0, none⟩) L.length cap) (L.take i ++ x :: L.drop i) w (.returned (.slice (some ⟨b, 0, none⟩) (L.length + 1) cap)) (W1.setCells b (i) (csQ x)) from by
    refine ⟨_, rfl, ?_, ?_, .inl rfl⟩
    · obtain ⟨cur1, q1, q2⟩ := setCells_row b 3 (0, 0) ((flatQ L).drop (i)) ((i + 1)) w.drew cur hg
      rw [← hW1] at q1
      obtain ⟨cur2, q3, q4⟩ := setCells_row b 3 (0, 0) (csQ x) (i) W1 cur1 q1
      have := row_of_cellsQ (L := L.take i ++ x :: L.drop i) hBb q3 (by rw [q4, q2, hs]) (by simp; omega) hm (fun j u hu => by
        have e1 : flatQ (L.take i ++ x :: L.drop i) = (flatQ L).take (i) ++ ((csQ x) ++ (flatQ L).drop (i)) := by rw [flatQ_app, ← flatQ_take, show flatQ (x :: L.drop i) = (csQ x) ++ flatQ (L.drop i) from rfl, flatQ_drop]
        rw [e1] at hu
        have ltk : ((flatQ L).take (i)).length = i := by rw [List.length_take]; omega
        have lx : (csQ x).length = 1 := rfl
        by_cases h1 : j < i
        · rw [World.cell?_setCells_out b _ _ _ _ (fun _ _ => .inl h1), hW1, World.cell?_setCells_out b _ _ _ _ (fun _ _ => .inl (by show j < (i + 1); omega))]
          rw [List.getElem?_append_left (by omega), List.getElem?_take, if_pos h1] at hu
          exact hcs j u hu
        · rw [List.getElem?_append_right (by omega), ltk] at hu
          by_cases h2 : j < i + 1
          · rw [List.getElem?_append_left (by omega)] at hu
            have hjl := (List.getElem?_eq_some_iff.1 hu).1
            have := World.cell?_setCells_in b (csQ x) (i) W1 (fun k hk => hsp1 _ (by omega)) (j - i) hjl
            rw [show i + (j - i) = j by omega] at this
            rw [this, ← (List.getElem?_eq_some_iff.1 hu).2]
          · rw [List.getElem?_append_right (by omega), lx] at hu
            have hjl := (List.getElem?_eq_some_iff.1 hu).1
            rw [World.cell?_setCells_out b _ _ _ _ (fun _ _ => .inr (by show i + (csQ x).length ≤ j; omega)), hW1]
            have := World.cell?_setCells_in b ((flatQ L).drop (i)) ((i + 1)) w.drew (fun k hk => hsp _ (by omega)) (j - i - 1) hjl
            rw [show (i + 1) + (j - i - 1) = j by omega] at this
            rw [this, ← (List.getElem?_eq_some_iff.1 hu).2])
      have e2 : (L.take i ++ x :: L.drop i).length = L.length + 1 := by simp; omega
      rw [e2] at this
      exact this
    · rw [hW1]
      exact grown_trans (grown_trans (grown_drew (grown_refl w _) 1) (setCells_grown b _ _ _)) (setCells_grown b _ _ _))
  have hz1' : ¬ ((i : Int) = (L.length : Int)) := by omega
  have hz3 : ¬ ((cap : Int) < (L.length : Int) + 1) := by omega
  have hin : (i : Int) ≤ (L.length : Int) := by omega
  have hb2 : ¬ (cap = i + 1) := by omega
  have hb4 : ¬ (cap = i) := by omega
  have hci : (i : Int) + 1 ≤ (L.length : Int) + 1 := by omega
  have htn : ((i : Int) + 1).toNat = i + 1 := by omega
  have hw1 : IntKind.i64.wrap ((i : Int) + 1) = (i : Int) + 1 := by rw [IntKind.wrap_i64]; omega
  have hb1 : (0 : Int) ≤ (i : Int) + 1 := by omega
  have hin2 : i ≤ L.length := by omega
  have hin3 : (i : Int) ≤ (L.length : Int) + 1 := by omega
  have htl : ((L.length : Int) + 1).toNat = L.length + 1 := by omega
  have hlc : (L.length : Int) + 1 ≤ (cap : Int) := by omega
  clear hW1 hsp1 hcs hsp hfz h hx hg ht
  go_enter Try.func174, Try.ntmps174
  go_wp2_with (simp only [hov])
  go_region_law (refine step_copy_run4 rfl _ _ 62 62 rfl _ _ (by simp [Act.eval, Act.put]) (by simp [Act.eval, Act.put]) (hcp1 _ _ _) ?_)
  go_wp2_with (at_builtin; refine wpList_copy_run4 _ rfl _ _ 62 62 rfl _ _ rfl rfl (hcp2 _ _) ?_)
  go_ret
  exact HREC.out
set_option maxRecDepth 100000 in
set_option maxHeartbeats 8000000 in
theorem insGrowQ (B b i : Nat) (L : List Int) (x : Int) (vb : Nat) (w : World) (hB : B ≤ w.heap.size) (hl : L.length ≤ 4000) (hi : i < L.length) (h : RowQ w B (.slice (some ⟨b, 0, none⟩) L.length L.length) L) (hx : OneAtQ w vb x) :
    Calls Try.prog 174 #[.slice (some ⟨b, 0, none⟩) L.length L.length, .int .i64 i, .slice (some ⟨vb, 0, none⟩) 1 1] w (GrowsToQ B (.slice (some ⟨b, 0, none⟩) L.length L.length) (L.take i ++ x :: L.drop i) w) := by
  obtain ⟨i0, hi0, hz0, hzs, hzb⟩ := info_parts infoInt
  have HO := Lib.hid hx
  have hfl := flatQ_len L
  have hcs : ∀ j u, (flatQ L)[j]? = some u → w.cell? ⟨b, j, none⟩ = some u := fun j u hu => by
    rw [World.ownsRow.cellAt h j (by have := (List.getElem?_eq_some_iff.1 hu).1; omega)]; exact hu
  have hbw : b < w.heap.size := (World.ownsRow.lt h b rfl).2
  have hvw : vb < w.heap.size := (Array.getElem?_eq_some_iff.1 hx).1
  have hkk : (L.length : Int) + 1 - (i : Int) = ((L.length + 1 - i : Nat) : Int) := by omega
  have hik : i + (L.length + 1 - i) = L.length + 1 := by omega
  have hold : (Builtin.firstCells i0.size i (.slice (some ⟨b, 0, none⟩) i L.length)).run Try.prog w.drew = .ok ((flatQ L).take (i)).toArray w.drew := by
    rw [hzs]
    exact run_firstCells_some w.drew 1 i ⟨b, 0, none⟩ i L.length ((flatQ L).take (i)) (by rw [List.length_take]; omega) (fun j v hj => by
      rw [Addr.add_lit, Nat.zero_add]
      rw [List.getElem?_take] at hj
      split at hj
      · exact hcs j v hj
      · cases hj)
  obtain ⟨G, hG⟩ : ∃ G, G = grownCap w (L.length + 1) L.length 3 := ⟨_, rfl⟩
  obtain ⟨ROW, hROW⟩ : ∃ ROW : Array Value, ROW = ((flatQ L).take (i)).toArray ++ Builtin.zeroCells (Value.int .i64 0).cells (L.length + 1 - i) ++ Builtin.zeroCells (Value.int .i64 0).cells (G - (L.length + 1)) := ⟨_, rfl⟩
  have hrz : ∀ ty, (Builtin.append_ #[62, 3] ty #[.slice (some ⟨b, 0, none⟩) i L.length, .int .i64 ((L.length : Int) + 1 - (i : Int))]).run Try.prog w =
      .ok (.slice (some ⟨w.heap.size, 0, none⟩) (L.length + 1) G) (w.drew.alloc (.cells ROW 3)) := fun ty => by
    have h := Lib.run_append_grow_zeros w 62 3 ty 3 i0 _ .i64 .i64 Try.underlying62 Try.underlying3 hi0 hz0 (some ⟨b, 0, none⟩) i L.length ((flatQ L).take (i)) hold (L.length + 1 - i) (by omega) (by omega) (by omega) (by omega) (by rw [hzb]; omega) (by rw [hzb, hik]; exact growslice_fits (by omega) (by omega))
    rw [hik] at h
    rw [hkk, hROW, hG]
    exact h
  have hGn : L.length + 1 ≤ G := by rw [hG]; exact grownCap_ge w _ _ _
  have hGm : G ≤ maxLen := by rw [hG]; exact grownCap_le_maxLen w _ _ _ (by unfold maxLen; omega)
  have hG63 : (G : Int) ≤ 9223372036854775807 := by unfold maxLen at hGm; omega
  have hRs : ROW.size = G := by
    have hz4 : (Value.int .i64 0).cells.size = 1 := rfl
    rw [hROW]
    simp only [Array.size_append, List.size_toArray, size_zeroCells, hz4, List.length_take, hfl]
    omega
  have hRt : ∀ j u, j < i → (flatQ L)[j]? = some u → ROW[j]? = some u := fun j u hj hu => by
    have lt : j < ((flatQ L).take (i)).toArray.size := by simp [hfl]; omega
    rw [hROW, Array.append_assoc, Array.getElem?_append_left lt]
    simp only [List.getElem?_toArray, List.getElem?_take, if_pos hj]
    exact hu
  obtain ⟨W1, hW1⟩ : ∃ W1, W1 = w.drew.alloc (.cells ROW 3) := ⟨_, rfl⟩
  rw [← hW1] at hrz
  have hN : ∀ j, j < G → (W1.cell? ⟨w.heap.size, j, none⟩).isSome = true := fun j hj => by
    rw [hW1, World.cell?_alloc_at (w := w.drew) ROW _ w.heap.size j rfl, Array.getElem?_eq_getElem (by omega)]; rfl
  have hNt : ∀ j u, j < i → (flatQ L)[j]? = some u → W1.cell? ⟨w.heap.size, j, none⟩ = some u := fun j u hj hu => by
    rw [hW1, World.cell?_alloc_at (w := w.drew) ROW _ w.heap.size j rfl]; exact hRt j u hj hu
  have hNf : ∀ j, W1.frozen? ⟨w.heap.size, j, none⟩ = false := fun j => by rw [hW1]; exact World.frozen?_alloc_at (w := w.drew) ROW _ w.heap.size j rfl
  have hOb : ∀ j v, w.cell? ⟨b, j, none⟩ = some v → W1.cell? ⟨b, j, none⟩ = some v := fun j v h => by rw [hW1, World.cell?_alloc_past (w := w.drew) _ b j hbw]; exact h
  have hOv : ∀ j v, w.cell? ⟨vb, j, none⟩ = some v → W1.cell? ⟨vb, j, none⟩ = some v := fun j v h => by rw [hW1, World.cell?_alloc_past (w := w.drew) _ vb j hvw]; exact h
  have hbN : b ≠ w.heap.size := by omega
  have lx : (csQ x).length = 1 := rfl
  have hcpA : ∀ (W : World), (∀ x, W.cell? x = W1.cell? x) → (∀ x, W.frozen? x = W1.frozen? x) → ∀ ty dc, (Builtin.copy_ #[62, 62] ty #[.slice (some ⟨w.heap.size, i, none⟩) (L.length + 1 - i) dc, .slice (some ⟨vb, 0, none⟩) 1 1]).run Try.prog W = .ok (goInt 1) (W.setCells w.heap.size (i) (csQ x)) := fun W hWc hWf ty dc =>
    run_copyQ W ty w.heap.size (i) (L.length + 1 - i) dc ⟨vb, 0, none⟩ 1 1 1 (csQ x) (by simp only [Nat.min_def]; split <;> omega) rfl
      (fun j v hj => by rw [Addr.add_lit, hWc, Nat.zero_add]; exact hOv _ v (HO.out.cell j v hj))
      (fun j hj => by rw [hWc]; exact hN _ (by omega)) (fun j hj => by rw [hWf]; exact hNf _) (fun v hv => flatQ_cell [x] v hv)
  have hdl : ((flatQ L).drop (i)).length = (L.length - i) := by rw [List.length_drop, hfl]
  have hcpB : ∀ (W : World), (∀ y, W.cell? y = (W1.setCells w.heap.size (i) (csQ x)).cell? y) → (∀ y, W.frozen? y = (W1.setCells w.heap.size (i) (csQ x)).frozen? y) → ∀ ty dc sc, (Builtin.copy_ #[62, 62] ty #[.slice (some ⟨w.heap.size, (i + 1), none⟩) (L.length - i) dc, .slice (some ⟨b, i, none⟩) (L.length - i) sc]).run Try.prog W = .ok (goInt (L.length - i : Nat)) (W.setCells w.heap.size ((i + 1)) ((flatQ L).drop (i))) := fun W hWc hWf ty dc sc =>
    run_copyQ W ty w.heap.size ((i + 1)) (L.length - i) dc ⟨b, i, none⟩ (L.length - i) sc (L.length - i) ((flatQ L).drop (i)) (by simp only [Nat.min_def]; split <;> omega) hdl
      (fun j v hj => by
        rw [Addr.add_lit, hWc, World.cell?_setCells_out _ _ _ _ _ (fun h _ => absurd h hbN)]
        exact hOb _ v (hcs (i + j) v (by rwa [List.getElem?_drop] at hj)))
      (fun j hj => by rw [hWc]; exact some_setCells _ (csQ x) (i) W1 (fun t ht => hN _ (by omega)) _ (hN _ (by omega)))
      (fun j hj => by rw [hWf, World.frozen?_setCells]; exact hNf _) (fun v hv => flatQ_cell L v (List.mem_of_mem_drop hv))
  have HREC := Lib.hid (show ∀ W W' : World, (∀ y, W.heap[y]? = (W1.setCells w.heap.size (i) (csQ x)).heap[y]?) → W.heap.size = W1.heap.size → W.os = W1.os → W.tape = W1.tape → W.output = W1.output → W' = W.setCells w.heap.size ((i + 1)) ((flatQ L).drop (i)) →
      GrowsToQ B (.slice (some ⟨b, 0, none⟩) L.length L.length) (L.take i ++ x :: L.drop i) w (.returned (.slice (some ⟨w.heap.size, 0, none⟩) (L.length + 1) G)) W' from by
    intro W W' e0 e1 e2 e3 e4 e5
    have hc0 : ∀ y, W.cell? y = (W1.setCells w.heap.size (i) (csQ x)).cell? y := fun y => by unfold World.cell?; rw [e0]
    refine ⟨_, rfl, ?_, ?_, .inr ⟨_, rfl, Nat.le_refl _⟩⟩
    · have q0 : W1.heap[w.heap.size]? = some (.cells ROW 3 (0, 0)) := by rw [hW1]; exact heap_alloc_new w.drew _
      obtain ⟨cur1, q1, q2⟩ := setCells_row w.heap.size 3 (0, 0) (csQ x) (i) W1 ROW q0
      rw [← e0] at q1
      obtain ⟨cur2, q3, q4⟩ := setCells_row w.heap.size 3 (0, 0) ((flatQ L).drop (i)) ((i + 1)) W cur1 q1
      rw [← e5] at q3
      have := row_of_cellsQ (L := L.take i ++ x :: L.drop i) hB q3 (by rw [q4, q2, hRs]) (by simp; omega) hGm (fun j u hu => by
        have e1 : flatQ (L.take i ++ x :: L.drop i) = (flatQ L).take (i) ++ ((csQ x) ++ (flatQ L).drop (i)) := by rw [flatQ_app, ← flatQ_take, show flatQ (x :: L.drop i) = (csQ x) ++ flatQ (L.drop i) from rfl, flatQ_drop]
        rw [e1] at hu
        have ltk : ((flatQ L).take (i)).length = i := by rw [List.length_take]; omega
        rw [e5]
        by_cases h1 : j < i
        · rw [World.cell?_setCells_out _ _ _ _ _ (fun _ _ => .inl (by show j < (i + 1); omega)), hc0, World.cell?_setCells_out _ _ _ _ _ (fun _ _ => .inl h1)]
          rw [List.getElem?_append_left (by omega), List.getElem?_take, if_pos h1] at hu
          exact hNt j u h1 hu
        · rw [List.getElem?_append_right (by omega), ltk] at hu
          by_cases h2 : j < i + 1
          · rw [List.getElem?_append_left (by omega)] at hu
            have hjl := (List.getElem?_eq_some_iff.1 hu).1
            rw [World.cell?_setCells_out _ _ _ _ _ (fun _ _ => .inl (by show j < (i + 1); omega)), hc0]
            have := World.cell?_setCells_in w.heap.size (csQ x) (i) W1 (fun k hk => hN _ (by omega)) (j - i) hjl
            rw [show i + (j - i) = j by omega] at this
            rw [this, ← (List.getElem?_eq_some_iff.1 hu).2]
          · rw [List.getElem?_append_right (by omega), lx] at hu
            have hjl := (List.getElem?_eq_some_iff.1 hu).1
            have := World.cell?_setCells_in w.heap.size ((flatQ L).drop (i)) ((i + 1)) W (fun k hk => by rw [hc0]; exact some_setCells _ (csQ x) (i) W1 (fun t ht => hN _ (by omega)) _ (hN _ (by omega))) (j - i - 1) hjl
            rw [show (i + 1) + (j - i - 1) = j by omega] at this
            rw [this, ← (List.getElem?_eq_some_iff.1 hu).2])
      have e2 : (L.take i ++ x :: L.drop i).length = L.length + 1 := by simp; omega
      rw [e2] at this
      exact this
    · obtain ⟨f1, f2, f3, f4, f5⟩ := setCells_frame w.heap.size ((flatQ L).drop (i)) ((i + 1)) W
      obtain ⟨g1, g2, g3, g4, g5⟩ := setCells_frame w.heap.size (csQ x) (i) W1
      rw [e5]
      refine ⟨by rw [f1, e2, hW1]; rfl, by rw [f2, e3, hW1]; rfl, by rw [f3, e4, hW1]; rfl, by rw [f4, e1, hW1]; simp, fun k hk _ => ?_⟩
      rw [f5 k (by omega), e0, g5 k (by omega), hW1]
      exact heap_alloc_old w.drew _ hk)
  obtain ⟨X, hX⟩ : ∃ X, X = W1.setCells w.heap.size (i) (csQ x) := ⟨_, rfl⟩
  have fr : X.os = W1.os ∧ X.tape = W1.tape ∧ X.output = W1.output ∧ X.heap.size = W1.heap.size := by
    have := setCells_frame w.heap.size (csQ x) (i) W1
    rw [← hX] at this
    exact ⟨this.1, this.2.1, this.2.2.1, this.2.2.2.1⟩
  have HREC2 := Lib.hid (HREC.out X.drew (X.drew.setCells w.heap.size ((i + 1)) ((flatQ L).drop (i))) (fun y => by rw [← hX]; rfl) fr.2.2.2 fr.1 fr.2.1 fr.2.2.1 rfl)
  rw [← hX] at hcpB
  have hcpX : ∀ ty dc sc, (Builtin.copy_ #[62, 62] ty #[.slice (some ⟨w.heap.size, (i + 1), none⟩) (L.length - i) dc, .slice (some ⟨b, i, none⟩) (L.length - i) sc]).run Try.prog X.drew = .ok (goInt (L.length - i : Nat)) (X.drew.setCells w.heap.size ((i + 1)) ((flatQ L).drop (i))) := fun ty dc sc => hcpB X.drew (fun _ => rfl) (fun _ => rfl) ty dc sc
  have hREC2 := HREC2.out
  clear HREC2
  subst hX
  have HREC2 := Lib.hid hREC2
  clear hREC2 hcpB fr HREC
  have hE1 : ∀ x, ((w.alloc (.cells ROW 3)).drew).cell? x = W1.cell? x := fun x => by rw [hW1]; rfl
  have hE2 : ∀ x, ((w.alloc (.cells ROW 3)).drew).frozen? x = W1.frozen? x := fun x => by rw [hW1]; rfl
  have hz1' : ¬ ((i : Int) = (L.length : Int)) := by omega
  have hin : (i : Int) ≤ (L.length : Int) := by omega
  have hin2 : i ≤ L.length := by omega
  have hGi : ¬ (G = i) := by omega
  have hGim : ¬ (G = i + 1) := by omega
  have hci : ¬ (L.length = i) := by omega
  have htn : ((i : Int) + 1).toNat = i + 1 := by omega
  have hw1 : IntKind.i64.wrap ((i : Int) + 1) = (i : Int) + 1 := by rw [IntKind.wrap_i64]; omega
  have hb1 : (0 : Int) ≤ (i : Int) + 1 := by omega
  have hin3 : (i : Int) ≤ (L.length : Int) + 1 := by omega
  have HB := Lib.hid hcpX
  clear hcpX hE1 hE2 hW1 hN hNt hNf hOb hOv hRt hRs hROW hG hold hkk hik hcs h hx
  go_enter Try.func174, Try.ntmps174
  go_wp2_with (first
    | (at_builtin; refine Lib.wpList_append_run _ rfl _ _ _ _ rfl _ _ rfl rfl _ _ (hrz _) ?_)
    | (at_builtin; refine wpList_copy_run4 _ rfl _ _ 62 62 rfl _ _ rfl rfl (hcpA W1 (fun _ => rfl) (fun _ => rfl) _ _) ?_))
  go_region_law (refine step_copy_run4 rfl _ _ 62 62 rfl (.slice (some ⟨w.heap.size, (i + 1), none⟩) (L.length - i) (G - (i + 1))) (.slice (some ⟨b, i, none⟩) (L.length - i) (L.length - i)) (by simp [Act.eval, Act.put]) (by simp [Act.eval, Act.put]) (HB.out 3 (G - (i + 1)) (L.length - i)) ?_)
  go_wp2
  go_ret
  exact HREC2.out
/-- one term put in its place, in a row of the call's own -/
theorem iInsertQ (B i : Nat) (v : Value) (L : List Int) (x : Int) (vb : Nat) (w : World) (hB : B ≤ w.heap.size) (hl : L.length ≤ 4000) (hi : i ≤ L.length) (h : RowQ w B v L) (hx : OneAtQ w vb x) (hvb : v.ownBlock ≠ some vb) :
    Calls Try.prog 174 #[v, .int .i64 i, .slice (some ⟨vb, 0, none⟩) 1 1] w (GrowsToQ B v (L.take i ++ x :: L.drop i) w) := by
  rcases h.shape with ⟨rfl, rfl⟩ | ⟨b, cap, rfl, hb, hbw, hn, hm⟩
  · have : i = 0 := by simpa using hi
    subst this
    exact insNilQ B x vb w hB hx
  · have hne : vb ≠ b := fun e => hvb (by rw [e]; rfl)
    by_cases he : i = L.length
    · subst he
      rw [List.take_length, List.drop_length]
      by_cases hc : L.length < cap
      · exact insRoomQ B b cap L x vb w hB hl hc h hx
      · have : cap = L.length := by omega
        subst this
        exact insFullQ B b L x vb w hB hl h hx
    · by_cases hc : L.length + 1 ≤ cap
      · exact insShiftQ B b cap i L x vb w hB hl (by omega) hc h hx hne
      · have : cap = L.length := by omega
        subst this
        exact insGrowQ B b i L x vb w hB hl (by omega) h hx
end Go.Proofs.Ytlcmddghppdmgaa
