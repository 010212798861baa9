/-
  A maker of circuits: its cells, its row of gates, its put; a gate joined to what there is. Conditions: what the maker's cells and its row of gates hold is known.
  Gates that go on behind a circuit for its derivatives, as lists, with what each of the first gates counts for. Conditions: that the gates are a circuit.
  The model's circuit that goes on: its cells, what its first gates count for; its add and times. Conditions: what the cells hold is known.
  A maker of circuits whose row of gates may lie below its cells. Conditions: what the maker's cells and its row of gates hold is known.
  What the model's forward way keeps of its bars. Conditions: none.
-/
import Derived.Test.YtibghhkhnpjdfaaBa15
import Derived.Deep.AppendLies
import Derived.Test.YtibghhkhnpjdfaaBa14
import Derived.Test.YtibghhkhnpjdfaaBa3
import Derived.Deep.RegionHeld3
namespace Go.Proofs.Ytibghhkhnpjdfaa
open Go.RowKit
/-- what was there is as it was, but for block G and one row -/
def Apart (G : Nat) (v : Value) (w w' : World) : Prop :=
  ∀ b, b < w.heap.size → b ≠ G → v.ownBlock ≠ some b → w'.heap[b]? = w.heap[b]?
theorem apart_of {w W W' w3 : World} {G : Nat} {v : Value} (hb : Below w.heap.size w W) (hW : Below W.heap.size W W') (hg : W'.grownBy w3 v.ownBlock) : Apart G v w w3 := fun b h _ hv => by
  have h1 := hb.size
  have h2 := hW.size
  rw [hg.block b (by omega) (fun e => hv e.symm), hW.block b (by omega), hb.block b h]
/-- all gates of a list may stand where they are -/
def AllOK (p : Int) (C : List Gt) : Prop := ∀ j : Nat, j < C.length → gOK (p - 1) (gAt C j) j = true
theorem gAt_left {C D : List Gt} {j : Nat} (h : j < C.length) : gAt (C ++ D) j = gAt C j := by
  unfold gAt
  rw [List.getD_eq_getElem?_getD, List.getD_eq_getElem?_getD, List.getElem?_append_left h]
theorem gAt_last {C : List Gt} {x : Gt} : gAt (C ++ [x]) C.length = x := by
  unfold gAt
  simp [List.getD_eq_getElem?_getD]
/-- a maker's cells: the slice of its gates, whose block is another one, and others -/
structure ShW (w : World) (G : Nat) (v : Value) (n : Nat) (cs : Nat → Value) : Prop where
  c0 : w.cell? ⟨G, 0, none⟩ = some v
  oth : ∀ i, 1 ≤ i → i < n → w.cell? ⟨G, i, none⟩ = some (cs i)
  f0 : w.frozen? ⟨G, 0, none⟩ = false
  lt : G < w.heap.size
  fz : ∀ i, 1 ≤ i → i < n → w.frozen? ⟨G, i, none⟩ = false
theorem ShW.below {w w' : World} {G n : Nat} {v : Value} {cs : Nat → Value} (h : ShW w G v n cs) (hb : Below w.heap.size w w') : ShW w' G v n cs := by
  have hl := h.lt
  exact ⟨by rw [hb.cell (p := ⟨G, 0, none⟩) hl]; exact h.c0, fun i h1 h2 => by rw [hb.cell (p := ⟨G, i, none⟩) hl]; exact h.oth i h1 h2, by rw [hb.frozen (p := ⟨G, 0, none⟩) hl]; exact h.f0, Nat.lt_of_lt_of_le hl hb.size, fun i h1 h2 => by rw [hb.frozen (p := ⟨G, i, none⟩) hl]; exact h.fz i h1 h2⟩
theorem ShW.set {w : World} {G n : Nat} {v : Value} {cs : Nat → Value} (h : ShW w G v n cs) (u : Value) : ShW (w.setCell ⟨G, 0, none⟩ u) G u n cs := by
  refine ⟨World.cell?_setCell_same _ _ _ h.c0, fun i h1 h2 => ?_, by rw [World.frozen?_setCell]; exact h.f0, by simpa using h.lt, fun i h1 h2 => by rw [World.frozen?_setCell]; exact h.fz i h1 h2⟩
  rw [World.cell?_setCell_other _ _ _ _ (addr_ne (by omega))]; exact h.oth i h1 h2
theorem ShW.grown {w w' : World} {G n : Nat} {v u : Value} {cs : Nat → Value} (h : ShW w G v n cs) (hb : w.grownBy w' u.ownBlock) (hne : u.ownBlock ≠ some G) : ShW w' G v n cs := by
  have e := hb.block G h.lt (fun e => hne e.symm)
  exact ⟨by rw [World.cell?_of_block (a := ⟨G, 0, none⟩) e]; exact h.c0, fun i h1 h2 => by rw [World.cell?_of_block (a := ⟨G, i, none⟩) e]; exact h.oth i h1 h2, by rw [World.frozen?_of_block (a := ⟨G, 0, none⟩) e]; exact h.f0, Nat.lt_of_lt_of_le h.lt hb.size, fun i h1 h2 => by rw [World.frozen?_of_block (a := ⟨G, i, none⟩) e]; exact h.fz i h1 h2⟩
/-- a maker that has a list of gates -/
structure MkS (w : World) (G : Nat) (v : Value) (n : Nat) (cs : Nat → Value) (C : List Gt) : Prop where
  sh : ShW w G v n cs
  row : RowGt w (G + 1) v C
theorem MkS.below {w w' : World} {G n : Nat} {v : Value} {cs : Nat → Value} {C : List Gt} (h : MkS w G v n cs C) (hb : Below w.heap.size w w') : MkS w' G v n cs C := ⟨h.sh.below hb, h.row.below hb⟩
/-- the row stays in its block or lies in a new one -/
def Moves (v v' : Value) (w : World) : Prop := v'.ownBlock = v.ownBlock ∨ ∃ b, v'.ownBlock = some b ∧ w.heap.size ≤ b
theorem Moves.ne {v v' : Value} {w : World} {b : Nat} (h : Moves v v' w) (hb : b < w.heap.size) (hv : v.ownBlock ≠ some b) : v'.ownBlock ≠ some b := by
  rcases h with h | ⟨c, h, hc⟩
  · rw [h]; exact hv
  · rw [h]; intro e; injection e with e; omega
theorem Moves.trans {v v' v'' : Value} {w w1 : World} (h : Moves v v' w) (k : Moves v' v'' w1) (hs : w.heap.size ≤ w1.heap.size) : Moves v v'' w := by
  rcases k with k | ⟨c, k, hc⟩
  · rcases h with h | ⟨b, h, hb⟩
    · exact .inl (k.trans h)
    · exact .inr ⟨b, k.trans h, hb⟩
  · exact .inr ⟨c, k, Nat.le_trans hs hc⟩
/-- what was there is as it was, but for two blocks and one row -/
def Apt (G M : Nat) (v : Value) (w w' : World) : Prop := ∀ b, b < w.heap.size → b ≠ G → b ≠ M → v.ownBlock ≠ some b → w'.heap[b]? = w.heap[b]?
theorem Apt.trans {G M : Nat} {v v' : Value} {w w1 w2 : World} (h : Apt G M v w w1) (k : Apt G M v' w1 w2) (hm : Moves v v' w) (hs : w.heap.size ≤ w1.heap.size) : Apt G M v w w2 := fun b hb h1 h2 h3 =>
  (k b (Nat.lt_of_lt_of_le hb hs) h1 h2 (hm.ne hb h3)).trans (h b hb h1 h2 h3)
theorem Apt.of_below {G M : Nat} {v : Value} {w w' : World} (h : Below w.heap.size w w') : Apt G M v w w' := fun b hb _ _ _ => h.block b hb
/-- what a maker's method leaves behind -/
def MkTo (B G M : Nat) (n : Nat) (cs : Nat → Value) (C : List Gt) (v : Value) (r : Int) (w : World) (e : Ending) (w' : World) : Prop :=
  ∃ v', e = .returned (.int .i64 r) ∧ MkS w' G v' n cs C ∧ Below B w w' ∧ Apt G M v w w' ∧ Moves v v' w
set_option maxRecDepth 100000 in
set_option maxHeartbeats 8000000 in
theorem iPutSN (B G M n : Nat) (v : Value) (cs : Nat → Value) (L : List Gt) (x : Gt) (w : World) (hl : L.length ≤ 20000) (hBG : B ≤ G) (h : MkS w G v n cs L) :
    Calls Try.prog 166 #[.pointer (some ⟨G, 0, none⟩), .agg #[.int .i64 x.k, .int .i64 x.a, .int .i64 x.b]] w (MkTo B G M n cs (L ++ [x]) v L.length w) := by
  obtain ⟨i0, hi, hz0, hz1, hz2⟩ := info_parts infoG
  obtain ⟨W, hW⟩ : ∃ W, W = w.alloc (Obj.cells #[.int .i64 x.k, .int .i64 x.a, .int .i64 x.b] 116) := ⟨_, rfl⟩
  have bW : Below w.heap.size w W := by rw [hW]; exact Below.alloc (Below.refl _ _) (Nat.le_refl _) _
  have e0 : W.cell? ⟨w.heap.size, 0, none⟩ = some (.int .i64 x.k) := by rw [hW]; simp [go_sem]
  have e1 : W.cell? ⟨w.heap.size, 1, none⟩ = some (.int .i64 x.a) := by rw [hW]; simp [go_sem]
  have e2 : W.cell? ⟨w.heap.size, 2, none⟩ = some (.int .i64 x.b) := by rw [hW]; simp [go_sem]
  have hM := h.sh.below bW
  have hR := h.row.below bW
  have hsW : w.heap.size < W.heap.size := by rw [hW]; simp
  have HW := Lib.hid hW
  have c0 := hM.c0
  have f0 := hM.f0
  have hG := hM.lt
  have HM := Lib.hid hM
  have HR := Lib.hid hR
  have HbW := Lib.hid bW
  have hGw : G + 1 ≤ w.heap.size := h.sh.lt
  clear hW hM hR bW h
  go_enter Try.func166, Try.ntmps166
  go_wp2_with fail
  rw [← HW.out]
  clear HW
  go_region_law (refine step_append_lies _ rfl _ _ 24 rfl (G + 1) 116 i0 (.agg #[.int .i64 0, .int .i64 0, .int .i64 0]) 3 24 Try.underlying24 hi hz0 hz1 hz2 rfl (by decide) v L.length (flatG L) (by simp [Act.eval]) (RowGt.below HR.out (by repeat (first | exact Below.refl _ _ | apply Below.drew | apply below_drewN | (refine Below.alloc ?_ (by first | omega | (simp <;> omega)) _)))) _ 1 1 [.int .i64 x.k, .int .i64 x.a, .int .i64 x.b] (by simp [Act.eval]; rfl) rfl (by intro j u hj; match j, hj with | 0, hj => (simp at hj; subst hj; simp [Addr.add, go_sem]) | 1, hj => (simp at hj; subst hj; simp [Addr.add, go_sem]) | 2, hj => (simp at hj; subst hj; simp [Addr.add, go_sem])) (gate_ok _ _ _) (by omega) (by unfold maxLen; omega) (by omega) (by first | omega | (simp; omega)) _ rfl ?_; intro gv cv w3 hown' hgrow hat _; have HS3 := Lib.hid ((ShW.below HM.out (by repeat (first | exact Below.refl _ _ | apply Below.drew | apply below_drewN | (refine Below.alloc ?_ (by first | omega | (simp <;> omega)) _)))).grown hgrow (HR.out.block (Nat.lt_succ_self G))); have k0 := HS3.out.c0; have k2 := HS3.out.f0; have k3 := HS3.out.lt; have hap : Apart G v w w3 := apart_of HbW.out (by repeat (first | exact Below.refl _ _ | apply Below.drew | apply below_drewN | (refine Below.alloc ?_ (by first | omega | (simp <;> omega)) _))) hgrow)
  all_goals
    have hR3 : RowGt w3 (G + 1) (.slice (some ⟨gv, 0, none⟩) (L.length + 1) cv) (L ++ [x]) := RowGt.snoc x hown'
    have hR4 := hR3.setFar (Nat.lt_succ_self G) 0 (.slice (some ⟨gv, 0, none⟩) (L.length + 1) cv)
    have hM4 : ShW (w3.setCell ⟨G, 0, none⟩ (.slice (some ⟨gv, 0, none⟩) (L.length + 1) cv)) G (.slice (some ⟨gv, 0, none⟩) (L.length + 1) cv) n cs := HS3.out.set _
    have hB4 : Below B w (w3.setCell ⟨G, 0, none⟩ (.slice (some ⟨gv, 0, none⟩) (L.length + 1) cv)) :=
      ((HR.out.grow (HbW.out.mono hGw) (by omega) (by repeat (first | exact Below.refl _ _ | apply Below.drew | apply below_drewN | (refine Below.alloc ?_ (by first | omega | (simp <;> omega)) _))) hgrow).mono (by omega)).setCell hBG _
    have hA4 : Apt G M v w (w3.setCell ⟨G, 0, none⟩ (.slice (some ⟨gv, 0, none⟩) (L.length + 1) cv)) := fun b hb hbG _ hv => (Below.heap_setCell _ _ _ _ (by simpa using fun e => hbG e)).trans (hap b hb hbG hv)
    have hV4 : Moves v (.slice (some ⟨gv, 0, none⟩) (L.length + 1) cv) w := by
      rcases hat with e | e
      · exact .inl e.symm
      · exact .inr ⟨gv, rfl, by rw [e]; first | omega | (simp; omega)⟩
    have HL := Lib.hid (show (((L.length + 1 : Nat) : Int) - 1 = ((L.length : Nat) : Int)) by omega)
    clear hown' hgrow hR3 c0 f0 e0 e1 e2 hap hat
    go_wp2_with (go_at_call 91; refine (iLast _ (L.length + 1) _ L.length (by omega) HL.out _).mono ?_; rintro e w' ⟨rfl, rfl⟩)
    go_ret
    exact ⟨_, rfl, ⟨hM4, hR4⟩, hB4, hA4, hV4⟩
theorem iPutS (B G M n : Nat) (v : Value) (cs : Nat → Value) (L : List Gt) (x : Gt) (w : World) (hl : L.length ≤ 5000) (hBG : B ≤ G) (h : MkS w G v n cs L) :
    Calls Try.prog 166 #[.pointer (some ⟨G, 0, none⟩), .agg #[.int .i64 x.k, .int .i64 x.a, .int .i64 x.b]] w (MkTo B G M n cs (L ++ [x]) v L.length w) := iPutSN B G M n v cs L x w (by omega) hBG h
set_option maxRecDepth 100000 in
set_option maxHeartbeats 8000000 in
theorem sPutSN (B G M n : Nat) (v : Value) (cs : Nat → Value) (L : List Gt) (x : Gt) (w : World) (hl : L.length ≤ 20000) (hBG : B ≤ G) (h : MkS w G v n cs L) :
    Calls Try.prog 194 #[.pointer (some ⟨G, 0, none⟩), .agg #[.int .i64 x.k, .int .i64 x.a, .int .i64 x.b]] w (MkTo B G M n cs (L ++ [x]) v L.length w) := by
  obtain ⟨i0, hi, hz0, hz1, hz2⟩ := info_parts infoG
  obtain ⟨W, hW⟩ : ∃ W, W = w.alloc (Obj.cells #[.int .i64 x.k, .int .i64 x.a, .int .i64 x.b] 116) := ⟨_, rfl⟩
  have bW : Below w.heap.size w W := by rw [hW]; exact Below.alloc (Below.refl _ _) (Nat.le_refl _) _
  have e0 : W.cell? ⟨w.heap.size, 0, none⟩ = some (.int .i64 x.k) := by rw [hW]; simp [go_sem]
  have e1 : W.cell? ⟨w.heap.size, 1, none⟩ = some (.int .i64 x.a) := by rw [hW]; simp [go_sem]
  have e2 : W.cell? ⟨w.heap.size, 2, none⟩ = some (.int .i64 x.b) := by rw [hW]; simp [go_sem]
  have hM := h.sh.below bW
  have hR := h.row.below bW
  have hsW : w.heap.size < W.heap.size := by rw [hW]; simp
  have HW := Lib.hid hW
  have c0 := hM.c0
  have f0 := hM.f0
  have hG := hM.lt
  have HM := Lib.hid hM
  have HR := Lib.hid hR
  have HbW := Lib.hid bW
  have hGw : G + 1 ≤ w.heap.size := h.sh.lt
  clear hW hM hR bW h
  go_enter Try.func194, Try.ntmps194
  go_wp2_with fail
  rw [← HW.out]
  clear HW
  go_region_law (refine step_append_lies _ rfl _ _ 24 rfl (G + 1) 116 i0 (.agg #[.int .i64 0, .int .i64 0, .int .i64 0]) 3 24 Try.underlying24 hi hz0 hz1 hz2 rfl (by decide) v L.length (flatG L) (by simp [Act.eval]) (RowGt.below HR.out (by repeat (first | exact Below.refl _ _ | apply Below.drew | apply below_drewN | (refine Below.alloc ?_ (by first | omega | (simp <;> omega)) _)))) _ 1 1 [.int .i64 x.k, .int .i64 x.a, .int .i64 x.b] (by simp [Act.eval]; rfl) rfl (by intro j u hj; match j, hj with | 0, hj => (simp at hj; subst hj; simp [Addr.add, go_sem]) | 1, hj => (simp at hj; subst hj; simp [Addr.add, go_sem]) | 2, hj => (simp at hj; subst hj; simp [Addr.add, go_sem])) (gate_ok _ _ _) (by omega) (by unfold maxLen; omega) (by omega) (by first | omega | (simp; omega)) _ rfl ?_; intro gv cv w3 hown' hgrow hat _; have HS3 := Lib.hid ((ShW.below HM.out (by repeat (first | exact Below.refl _ _ | apply Below.drew | apply below_drewN | (refine Below.alloc ?_ (by first | omega | (simp <;> omega)) _)))).grown hgrow (HR.out.block (Nat.lt_succ_self G))); have k0 := HS3.out.c0; have k2 := HS3.out.f0; have k3 := HS3.out.lt; have hap : Apart G v w w3 := apart_of HbW.out (by repeat (first | exact Below.refl _ _ | apply Below.drew | apply below_drewN | (refine Below.alloc ?_ (by first | omega | (simp <;> omega)) _))) hgrow)
  all_goals
    have hR3 : RowGt w3 (G + 1) (.slice (some ⟨gv, 0, none⟩) (L.length + 1) cv) (L ++ [x]) := RowGt.snoc x hown'
    have hR4 := hR3.setFar (Nat.lt_succ_self G) 0 (.slice (some ⟨gv, 0, none⟩) (L.length + 1) cv)
    have hM4 : ShW (w3.setCell ⟨G, 0, none⟩ (.slice (some ⟨gv, 0, none⟩) (L.length + 1) cv)) G (.slice (some ⟨gv, 0, none⟩) (L.length + 1) cv) n cs := HS3.out.set _
    have hB4 : Below B w (w3.setCell ⟨G, 0, none⟩ (.slice (some ⟨gv, 0, none⟩) (L.length + 1) cv)) :=
      ((HR.out.grow (HbW.out.mono hGw) (by omega) (by repeat (first | exact Below.refl _ _ | apply Below.drew | apply below_drewN | (refine Below.alloc ?_ (by first | omega | (simp <;> omega)) _))) hgrow).mono (by omega)).setCell hBG _
    have hA4 : Apt G M v w (w3.setCell ⟨G, 0, none⟩ (.slice (some ⟨gv, 0, none⟩) (L.length + 1) cv)) := fun b hb hbG _ hv => (Below.heap_setCell _ _ _ _ (by simpa using fun e => hbG e)).trans (hap b hb hbG hv)
    have hV4 : Moves v (.slice (some ⟨gv, 0, none⟩) (L.length + 1) cv) w := by
      rcases hat with e | e
      · exact .inl e.symm
      · exact .inr ⟨gv, rfl, by rw [e]; first | omega | (simp; omega)⟩
    have HL := Lib.hid (show (((L.length + 1 : Nat) : Int) - 1 = ((L.length : Nat) : Int)) by omega)
    clear hown' hgrow hR3 c0 f0 e0 e1 e2 hap hat
    have hww : IntKind.i64.wrap (((L.length + 1 : Nat) : Int) - 1) = ((L.length : Nat) : Int) := by rw [IntWalk.i64_in _ (by omega)]; omega
    go_wp2_with fail
    go_ret
    exact ⟨_, rfl, ⟨hM4, hR4⟩, hB4, hA4, hV4⟩
theorem sPutS (B G M n : Nat) (v : Value) (cs : Nat → Value) (L : List Gt) (x : Gt) (w : World) (hl : L.length ≤ 5000) (hBG : B ≤ G) (h : MkS w G v n cs L) :
    Calls Try.prog 194 #[.pointer (some ⟨G, 0, none⟩), .agg #[.int .i64 x.k, .int .i64 x.a, .int .i64 x.b]] w (MkTo B G M n cs (L ++ [x]) v L.length w) := sPutSN B G M n v cs L x w (by omega) hBG h
theorem MkTo.from {B G M n : Nat} {cs : Nat → Value} {C : List Gt} {v : Value} {r : Int} {w w1 w' : World} {e : Ending} (h : MkTo B G M n cs C v r w1 e w') (hb : Below w.heap.size w w1) (hB : B ≤ w.heap.size) : MkTo B G M n cs C v r w e w' := by
  obtain ⟨v', he, hm, hl, ha, hv⟩ := h
  exact ⟨v', he, hm, (hb.mono hB).trans hl, (Apt.of_below hb).trans ha (.inl rfl) hb.size, Moves.trans (.inl rfl) hv hb.size⟩
theorem Apt.get {w w1 : World} {n G M i : Nat} {v u : Value} (ha : Apt G M v w w1) (hn : n < w.heap.size) (hG : n ≠ G) (hM : n ≠ M) (hv : v.ownBlock ≠ some n) (h : w.cell? ⟨n, i, none⟩ = some u) : w1.cell? ⟨n, i, none⟩ = some u := by
  rw [World.cell?_of_block (a := ⟨n, i, none⟩) (ha n hn hG hM hv)]; exact h
theorem MkS.old {w : World} {G n b : Nat} {v : Value} {cs : Nat → Value} {C : List Gt} (h : MkS w G v n cs C) (hb : w.heap.size ≤ b) : v.ownBlock ≠ some b := fun e => by
  have := (World.ownsRow.lt h.row b e).2
  omega
theorem MkS.slice {w : World} {G n : Nat} {v : Value} {cs : Nat → Value} {C : List Gt} (h : MkS w G v n cs C) : ∃ a cap, v = .slice a C.length cap := by
  rcases h.row.shape with ⟨rfl, rfl⟩ | ⟨g, cap, rfl, _⟩
  · exact ⟨none, 0, rfl⟩
  · exact ⟨_, cap, rfl⟩
/-- a gate joined to what there is -/
def jnG (k sofar next : Int) (C : List Gt) : Int × List Gt := if sofar < 0 then (next, C) else ((C.length : Int), C ++ [⟨k, sofar, next⟩])
/-- a state: gates that may stand where they are, and the place of one of them, or none -/
structure StG (p : Int) (s : Int × List Gt) : Prop where
  ok : AllOK p s.2
  lo : -1 ≤ s.1
  hi : s.1 < s.2.length
theorem allOK_snoc {p : Int} {C : List Gt} {x : Gt} (h : AllOK p C) (hx : gOK (p - 1) x (C.length : Nat) = true) : AllOK p (C ++ [x]) := by
  intro j hj
  by_cases hjc : j < C.length
  · rw [gAt_left hjc]; exact h j hjc
  · have : j = C.length := by simp at hj; omega
    subst this
    rw [gAt_last]
    exact hx
theorem gOK_join {hi k a b : Int} {i : Nat} (hk : k = 2 ∨ k = 3) (ha : 0 ≤ a ∧ a < i) (hb : 0 ≤ b ∧ b < i) : gOK hi ⟨k, a, b⟩ (i : Nat) = true := by
  unfold gOK
  rw [if_neg (by simp only [beq_iff_eq]; omega), if_neg (by simp only [beq_iff_eq]; omega), if_pos (by simp only [Bool.or_eq_true, beq_iff_eq]; omega)]
  simp only [inB, Bool.and_eq_true, decide_eq_true_eq]
  omega
theorem jnG_st {p k : Int} {s : Int × List Gt} {next : Int} (hk : k = 2 ∨ k = 3) (h : AllOK p s.2) (h1 : -1 ≤ s.1 ∧ s.1 < s.2.length) (h2 : 0 ≤ next ∧ next < s.2.length) :
    StG p (jnG k s.1 next s.2) ∧ 0 ≤ (jnG k s.1 next s.2).1 ∧ s.2.length ≤ (jnG k s.1 next s.2).2.length ∧ (jnG k s.1 next s.2).2.length ≤ s.2.length + 1 := by
  unfold jnG
  split
  · exact ⟨⟨h, by show -1 ≤ next; omega, h2.2⟩, h2.1, Nat.le_refl _, Nat.le_succ _⟩
  · refine ⟨⟨allOK_snoc h (gOK_join hk (by omega) h2), by show (-1 : Int) ≤ (s.2.length : Int); omega, by simp; omega⟩, by show (0 : Int) ≤ (s.2.length : Int); omega, by simp, by simp⟩
end Go.Proofs.Ytibghhkhnpjdfaa
namespace Go.Proofs.Ytibghhkhnpjdfaa
open Go.RowKit
/-- a product of a gate and another one, or the other one alone -/
def tmG (one k o : Int) (C : List Gt) : Int × List Gt := if k == one then (o, C) else ((C.length : Int), C ++ [⟨3, k, o⟩])
def thrG (one kd k o : Int) (C : List Gt) : Int × List Gt := if kd == 3 then tmG one k o C else (k, C)
/-- a gate is added to what is counted for at a place -/
def addB (j : Nat) (k : Int) (s : List Gt × List Int) : List Gt × List Int := ((jnG 2 (s.2.getD j 0) k s.1).2, s.2.set j (jnG 2 (s.2.getD j 0) k s.1).1)
def pasB (one kd k o : Int) (j : Nat) (s : List Gt × List Int) : List Gt × List Int := if k < 0 then s else addB j (thrG one kd k o s.1).1 ((thrG one kd k o s.1).2, s.2)
/-- a gate is done, on the way back -/
def bckS (L : List Gt) (one : Int) (i : Nat) (s : List Gt × List Int) : List Gt × List Int :=
  if joinsB (gAt L i) = true then pasB one (gAt L i).k (s.2.getD i 0) (gAt L i).a (gAt L i).b.toNat (pasB one (gAt L i).k (s.2.getD i 0) (gAt L i).b (gAt L i).a.toNat s) else s
def bckN (L : List Gt) (one : Int) : Nat → List Gt × List Int → List Gt × List Int
  | 0, s => s
  | k + 1, s => bckN L one k (bckS L one k s)
/-- the places of the results, as far as the first gates -/
def plS (L : List Gt) (b : List Int) (i : Nat) (s : List Gt × List Int) : List Gt × List Int :=
  if (gAt L i).k == 0 && decide (0 ≤ b.getD i 0) then addB (gAt L i).a.toNat (b.getD i 0) s else s
def plN (L : List Gt) (b : List Int) : Nat → List Gt × List Int → List Gt × List Int
  | 0, s => s
  | k + 1, s => plS L b k (plN L b k s)
def grS (L : List Gt) : List Gt × List Int := (L ++ [⟨1, 1, 0⟩], (List.replicate L.length (-1)).set (L.length - 1) (L.length : Int))
def grB (L : List Gt) : List Gt × List Int := bckN L L.length L.length (grS L)
def grP (L : List Gt) : List Gt × List Int := plN L (grB L).2 L.length ((grB L).1, [-1, -1, -1])
/-- gates of a circuit, and what others count for -/
structure BSt (p : Int) (n m : Nat) (s : List Gt × List Int) : Prop where
  ok : AllOK p s.1
  len : s.2.length = n
  lo : ∀ j, j < n → -1 ≤ s.2.getD j 0 ∧ s.2.getD j 0 < s.1.length
  max : s.1.length ≤ m
theorem BSt.more {p : Int} {n m m' : Nat} {s : List Gt × List Int} (h : BSt p n m s) (hm : m ≤ m') : BSt p n m' s := ⟨h.ok, h.len, h.lo, Nat.le_trans h.max hm⟩
theorem getD_set {l : List Int} {i j : Nat} {v d : Int} (hi : i < l.length) : (l.set i v).getD j d = if j = i then v else l.getD j d := by
  simp only [List.getD_eq_getElem?_getD, List.getElem?_set]
  by_cases e : i = j
  · subst e; simp [hi]
  · have : ¬ j = i := fun h => e h.symm
    simp [e, this]
theorem tmG_st {p : Int} {one k o : Int} {C : List Gt} (h : AllOK p C) (hk : 0 ≤ k ∧ k < C.length) (ho : 0 ≤ o ∧ o < C.length) :
    AllOK p (tmG one k o C).2 ∧ 0 ≤ (tmG one k o C).1 ∧ (tmG one k o C).1 < (tmG one k o C).2.length ∧ C.length ≤ (tmG one k o C).2.length ∧ (tmG one k o C).2.length ≤ C.length + 1 := by
  unfold tmG
  split
  · exact ⟨h, ho.1, ho.2, Nat.le_refl _, Nat.le_succ _⟩
  · exact ⟨allOK_snoc h (gOK_join (.inr rfl) hk ho), by show (0 : Int) ≤ (C.length : Int); omega, by simp; omega, by simp, by simp⟩
theorem thrG_st {p : Int} {one kd k o : Int} {C : List Gt} (h : AllOK p C) (hk : 0 ≤ k ∧ k < C.length) (ho : 0 ≤ o ∧ o < C.length) :
    AllOK p (thrG one kd k o C).2 ∧ 0 ≤ (thrG one kd k o C).1 ∧ (thrG one kd k o C).1 < (thrG one kd k o C).2.length ∧ C.length ≤ (thrG one kd k o C).2.length ∧ (thrG one kd k o C).2.length ≤ C.length + 1 := by
  unfold thrG
  split
  · exact tmG_st h hk ho
  · exact ⟨h, hk.1, hk.2, Nat.le_refl _, Nat.le_succ _⟩
theorem addB_st {p : Int} {n m j : Nat} {k : Int} {s : List Gt × List Int} (h : BSt p n m s) (hj : j < n) (hk : 0 ≤ k ∧ k < s.1.length) :
    BSt p n (m + 1) (addB j k s) ∧ s.1.length ≤ (addB j k s).1.length ∧ (addB j k s).1.length ≤ s.1.length + 1 ∧ 0 ≤ (addB j k s).2.getD j 0 := by
  obtain ⟨a, b, c, d⟩ := jnG_st (p := p) (k := 2) (s := (s.2.getD j 0, s.1)) (next := k) (.inl rfl) h.ok (h.lo j hj) hk
  simp only at a b c d
  have hm := h.max
  have hl := h.len
  refine ⟨⟨a.ok, by simp [addB, h.len], fun i hi => ?_, by show (jnG 2 (s.2.getD j 0) k s.1).2.length ≤ _; omega⟩, c, d, ?_⟩
  · show -1 ≤ (s.2.set j (jnG 2 (s.2.getD j 0) k s.1).1).getD i 0 ∧ (s.2.set j (jnG 2 (s.2.getD j 0) k s.1).1).getD i 0 < ((jnG 2 (s.2.getD j 0) k s.1).2.length : Int)
    rw [getD_set (by omega)]
    have := h.lo i hi
    have := a.hi
    have := a.lo
    split <;> omega
  · show 0 ≤ (s.2.set j (jnG 2 (s.2.getD j 0) k s.1).1).getD j 0
    rw [getD_set (by omega), if_pos rfl]
    exact b
theorem pasB_st {p : Int} {n m j : Nat} {one kd k o : Int} {s : List Gt × List Int} (h : BSt p n m s) (hj : j < n) (hk : k < s.1.length) (ho : 0 ≤ o ∧ o < s.1.length) :
    BSt p n (m + 2) (pasB one kd k o j s) ∧ s.1.length ≤ (pasB one kd k o j s).1.length ∧ (pasB one kd k o j s).1.length ≤ s.1.length + 2 := by
  unfold pasB
  split
  · exact ⟨h.more (by omega), Nat.le_refl _, by omega⟩
  · obtain ⟨a, b, c, d, e⟩ := thrG_st (one := one) (kd := kd) h.ok ⟨by omega, hk⟩ ho
    have hm := h.max
    have h1 : BSt p n (m + 1) ((thrG one kd k o s.1).2, s.2) := ⟨a, h.len, fun i hi => by have := h.lo i hi; simp only; omega, by simp only; omega⟩
    obtain ⟨f, g, i, _⟩ := addB_st h1 hj (k := (thrG one kd k o s.1).1) ⟨b, c⟩
    exact ⟨f, by simp only at g; omega, by simp only at i; omega⟩
/-- what a gate that joins says of its parts -/
theorem joins_ok {p : Int} {L : List Gt} {i : Nat} (hv : AllOK p L) (hi : i < L.length) (hj : joinsB (gAt L i) = true) :
    ((gAt L i).k = 2 ∨ (gAt L i).k = 3) ∧ (0 ≤ (gAt L i).a ∧ (gAt L i).a < i) ∧ (0 ≤ (gAt L i).b ∧ (gAt L i).b < i) := by
  have h := gOK_cases (hv i hi)
  simp [joinsB] at hj
  refine ⟨hj, ?_⟩
  omega
theorem bckS_st {p : Int} {L : List Gt} {m i : Nat} {one : Int} {s : List Gt × List Int} (hv : AllOK p L) (hi : i < L.length) (h : BSt p L.length m s) (hn : L.length ≤ s.1.length) :
    BSt p L.length (m + 4) (bckS L one i s) ∧ s.1.length ≤ (bckS L one i s).1.length := by
  unfold bckS
  split
  · rename_i hj
    obtain ⟨_, ha, hb⟩ := joins_ok hv hi hj
    obtain ⟨h1, h2, _⟩ := pasB_st (one := one) (kd := (gAt L i).k) (k := s.2.getD i 0) (o := (gAt L i).b) (j := (gAt L i).a.toNat) h (by omega) (h.lo i hi).2 (by omega)
    obtain ⟨h3, h4, _⟩ := pasB_st (one := one) (kd := (gAt L i).k) (k := s.2.getD i 0) (o := (gAt L i).a) (j := (gAt L i).b.toNat) h1 (by omega) (by have := (h.lo i hi).2; omega) (by omega)
    exact ⟨h3, Nat.le_trans h2 h4⟩
  · exact ⟨h.more (by omega), Nat.le_refl _⟩
theorem bckN_st {p : Int} {L : List Gt} {one : Int} (hv : AllOK p L) : ∀ (k m : Nat) (s : List Gt × List Int), k ≤ L.length → BSt p L.length m s → L.length ≤ s.1.length →
    BSt p L.length (m + 4 * k) (bckN L one k s) ∧ s.1.length ≤ (bckN L one k s).1.length
  | 0, m, s, _, h, hn => ⟨h.more (by omega), Nat.le_refl _⟩
  | k + 1, m, s, hk, h, hn => by
    obtain ⟨h1, h2⟩ := bckS_st (one := one) hv (show k < L.length by omega) h hn
    obtain ⟨h3, h4⟩ := bckN_st hv k (m + 4) _ (by omega) h1 (by omega)
    exact ⟨h3.more (by omega), Nat.le_trans h2 h4⟩
theorem grS_st {p : Int} {L : List Gt} (hv : circB p L = true) : BSt p L.length (L.length + 1) (grS L) := by
  obtain ⟨hp, h1, h2, hall⟩ := circB_iff.1 hv
  have hb := isP_bd hp
  refine ⟨allOK_snoc hall ?_, by simp [grS], fun j hj => ?_, by simp [grS]⟩
  · simp [gOK, inB]; omega
  · simp only [grS]
    rw [getD_set (by simpa using by omega)]
    simp only [List.length_append, List.length_singleton]
    split
    · omega
    · simp [List.getD_eq_getElem?_getD, hj]; omega
theorem grB_st {p : Int} {L : List Gt} (hv : circB p L = true) : BSt p L.length 301 (grB L) ∧ L.length + 1 ≤ (grB L).1.length := by
  obtain ⟨hp, h1, h2, hall⟩ := circB_iff.1 hv
  obtain ⟨a, b⟩ := bckN_st (one := L.length) hall L.length (L.length + 1) (grS L) (Nat.le_refl _) (grS_st hv) (by simp [grS])
  refine ⟨a.more (by omega), Nat.le_trans ?_ b⟩
  simp [grS]
theorem plS_st {p : Int} {L : List Gt} {b : List Int} {i m : Nat} {s : List Gt × List Int} (hv : AllOK p L) (hi : i < L.length) (h : BSt p 3 m s) (hb : b.getD i 0 < s.1.length) :
    BSt p 3 (m + 1) (plS L b i s) ∧ s.1.length ≤ (plS L b i s).1.length := by
  unfold plS
  split
  · rename_i hc
    simp at hc
    have hg := gOK_cases (hv i hi)
    obtain ⟨a, b, _⟩ := addB_st h (j := (gAt L i).a.toNat) (k := b.getD i 0) (by omega) (by simpa [List.getD_eq_getElem?_getD] using ⟨hc.2, by simpa [List.getD_eq_getElem?_getD] using hb⟩)
    exact ⟨a, b⟩
  · exact ⟨h.more (by omega), Nat.le_refl _⟩
theorem plN_st {p : Int} {L : List Gt} {b : List Int} {m : Nat} {s : List Gt × List Int} (hv : AllOK p L) (h : BSt p 3 m s) (hb : ∀ j, j < L.length → b.getD j 0 < s.1.length) :
    ∀ k, k ≤ L.length → BSt p 3 (m + k) (plN L b k s) ∧ s.1.length ≤ (plN L b k s).1.length
  | 0, _ => ⟨h, Nat.le_refl _⟩
  | k + 1, hk => by
    obtain ⟨h1, h2⟩ := plN_st hv h hb k (by omega)
    obtain ⟨h3, h4⟩ := plS_st (b := b) hv (show k < L.length by omega) h1 (by have := hb k (by omega); omega)
    exact ⟨h3, Nat.le_trans h2 h4⟩
theorem pl0_st {p : Int} {L : List Gt} (hv : circB p L = true) : BSt p 3 301 ((grB L).1, [-1, -1, -1]) := by
  obtain ⟨h1, h2⟩ := grB_st hv
  refine ⟨h1.ok, rfl, fun j hj => ?_, h1.max⟩
  have : j = 0 ∨ j = 1 ∨ j = 2 := by omega
  rcases this with rfl | rfl | rfl <;> (refine ⟨?_, ?_⟩; show (-1 : Int) ≤ -1; omega; show (-1 : Int) < ((grB L).1.length : Int); omega)
theorem plK_st {p : Int} {L : List Gt} (hv : circB p L = true) (k : Nat) (hk : k ≤ L.length) : BSt p 3 361 (plN L (grB L).2 k ((grB L).1, [-1, -1, -1])) ∧ L.length + 1 ≤ (plN L (grB L).2 k ((grB L).1, [-1, -1, -1])).1.length := by
  obtain ⟨h1, h2⟩ := grB_st hv
  obtain ⟨hp, _, h60, hall⟩ := circB_iff.1 hv
  obtain ⟨h3, h4⟩ := plN_st (b := (grB L).2) hall (pl0_st hv) (fun j hj => (h1.lo j hj).2) k hk
  exact ⟨h3.more (by omega), Nat.le_trans h2 h4⟩
/-- what GradientOf returns -/
def grB2 (p : Int) (L : List Gt) : Bool := circB p L && decide ((grP L).1.length ≤ 60)
def grC (p : Int) (L : List Gt) : List Gt := if grB2 p L = true then (grP L).1 else []
def grPl (p : Int) (L : List Gt) (v : Nat) : Int := if grB2 p L = true then (grP L).2.getD v 0 else 0
theorem grB2_circ {p : Int} {L : List Gt} (hv : circB p L = true) : circB p (grP L).1 = decide ((grP L).1.length ≤ 60) := by
  obtain ⟨hp, _, _, _⟩ := circB_iff.1 hv
  obtain ⟨h1, h2⟩ := plK_st hv L.length (Nat.le_refl _)
  by_cases h : (grP L).1.length ≤ 60
  · rw [decide_eq_true h]
    exact circB_iff.2 ⟨hp, by have : L.length + 1 ≤ (grP L).1.length := h2; omega, h, h1.ok⟩
  · rw [decide_eq_false h]
    exact circB_long (by omega)
/-- a gate is done, on the way forward -/
def fwS (L : List Gt) (v : Int) (i : Nat) (t : Int × (List Gt × List Int)) : Int × (List Gt × List Int) :=
  if (gAt L i).k == 0 then
    (if (gAt L i).a == v then (if t.1 < 0 then ((t.2.1.length : Int), (t.2.1 ++ [⟨1, 1, 0⟩], t.2.2.set i (t.2.1.length : Int))) else (t.1, (t.2.1, t.2.2.set i t.1))) else t)
  else if joinsB (gAt L i) = true then
    (t.1, pasB t.1 (gAt L i).k ((pasB t.1 (gAt L i).k (t.2.2.getD (gAt L i).a.toNat 0) (gAt L i).b i t.2).2.getD (gAt L i).b.toNat 0) (gAt L i).a i (pasB t.1 (gAt L i).k (t.2.2.getD (gAt L i).a.toNat 0) (gAt L i).b i t.2))
  else t
def fwN (L : List Gt) (v : Int) : Nat → Int × (List Gt × List Int)
  | 0 => (-1, (L, List.replicate L.length (-1)))
  | k + 1 => fwS L v k (fwN L v k)
structure FSt (p : Int) (n m : Nat) (t : Int × (List Gt × List Int)) : Prop where
  st : BSt p n m t.2
  lo : -1 ≤ t.1 ∧ t.1 < t.2.1.length
theorem fwN_st {p : Int} {L : List Gt} {v : Int} (hv : circB p L = true) : ∀ k, k ≤ L.length → FSt p L.length (L.length + 4 * k) (fwN L v k) ∧ L.length ≤ (fwN L v k).2.1.length ∧ ∀ j, k ≤ j → j < L.length → (fwN L v k).2.2.getD j 0 = -1
  | 0, _ => by
    obtain ⟨hp, h1, h2, hall⟩ := circB_iff.1 hv
    have e : ∀ j, j < L.length → (List.replicate L.length (-1 : Int)).getD j 0 = -1 := fun j hj => by simp [List.getD_eq_getElem?_getD, hj]
    exact ⟨⟨⟨hall, by simp [fwN], fun j hj => by show -1 ≤ (List.replicate L.length (-1 : Int)).getD j 0 ∧ (List.replicate L.length (-1 : Int)).getD j 0 < (L.length : Int); rw [e j hj]; omega, by simp [fwN]⟩, by simp [fwN]; omega⟩, by simp [fwN], fun j _ hj => e j hj⟩
  | k + 1, hk => by
    obtain ⟨hp, _, h60, hall⟩ := circB_iff.1 hv
    have hb := isP_bd hp
    obtain ⟨⟨h1, h2⟩, h3, h4⟩ := fwN_st (v := v) hv k (by omega)
    have hg := gOK_cases (hall k (by omega))
    have hmx := h1.max
    show FSt p L.length (L.length + 4 * (k + 1)) (fwS L v k (fwN L v k)) ∧ _
    rw [show fwN L v (k + 1) = fwS L v k (fwN L v k) from rfl]
    generalize fwN L v k = t at *
    obtain ⟨one, C, b⟩ := t
    simp only at h1 h2 h3 h4 hmx
    have hlb : b.length = L.length := h1.len
    unfold fwS
    simp only
    split
    · split
      · split
        · refine ⟨⟨⟨allOK_snoc h1.ok ?_, by simpa using hlb, fun j hj => ?_, by simp; omega⟩, by simp; omega⟩, by simp; omega, fun j hkj hj => ?_⟩
          · simp [gOK, inB]; omega
          · simp only
            rw [getD_set (by omega)]
            have := h1.lo j hj
            simp only [List.length_append, List.length_singleton] at this ⊢
            split <;> omega
          · simp only
            rw [getD_set (by omega), if_neg (by omega)]
            exact h4 j (by omega) hj
        · refine ⟨⟨⟨h1.ok, by simpa using hlb, fun j hj => ?_, by simp only; omega⟩, by simp only; omega⟩, by simp only; omega, fun j hkj hj => ?_⟩
          · simp only
            rw [getD_set (by omega)]
            have := h1.lo j hj
            simp only at this
            split <;> omega
          · simp only
            rw [getD_set (by omega), if_neg (by omega)]
            exact h4 j (by omega) hj
      · exact ⟨⟨h1.more (by omega), h2⟩, h3, fun j hkj hj => h4 j (by omega) hj⟩
    · split
      · rename_i hj
        obtain ⟨_, ha, hb⟩ := joins_ok hall (show k < L.length by omega) hj
        obtain ⟨p1, p2, p3⟩ := pasB_st (one := one) (kd := (gAt L k).k) (k := b.getD (gAt L k).a.toNat 0) (o := (gAt L k).b) (j := k) h1 (by omega) (h1.lo _ (by omega)).2 (by simp only; omega)
        obtain ⟨q1, q2, q3⟩ := pasB_st (one := one) (kd := (gAt L k).k) (k := (pasB one (gAt L k).k (b.getD (gAt L k).a.toNat 0) (gAt L k).b k (C, b)).2.getD (gAt L k).b.toNat 0) (o := (gAt L k).a) (j := k) p1 (by omega) (p1.lo _ (by omega)).2 (by simp only at p2; omega)
        simp only at p2 q2
        refine ⟨⟨q1.more (by omega), ⟨h2.1, by simp only; omega⟩⟩, by simp only; omega, fun j hkj hj => ?_⟩
        have far : ∀ (kd k' o : Int) (s : List Gt × List Int), s.2.length = L.length → (pasB one kd k' o k s).2.getD j 0 = s.2.getD j 0 ∧ (pasB one kd k' o k s).2.length = L.length := by
          intro kd k' o s hs
          unfold pasB
          split
          · exact ⟨rfl, hs⟩
          · refine ⟨?_, by simp [addB, hs]⟩
            show (List.set s.2 k _).getD j 0 = _
            rw [getD_set (by omega), if_neg (by omega)]
        have f1 := far (gAt L k).k (b.getD (gAt L k).a.toNat 0) (gAt L k).b (C, b) hlb
        simp only
        rw [(far _ _ _ _ f1.2).1, f1.1]
        exact h4 j (by omega) hj
      · exact ⟨⟨h1.more (by omega), h2⟩, h3, fun j hkj hj => h4 j (by omega) hj⟩
/-- the circuit for one derivative, before it is pruned -/
def fwC (L : List Gt) (v : Int) : List Gt := if (fwN L v L.length).2.2.getD (L.length - 1) 0 < 0 then [⟨1, 0, 0⟩] else (fwN L v L.length).2.1.take ((fwN L v L.length).2.2.getD (L.length - 1) 0 + 1).toNat
theorem allOK_take {p : Int} {C : List Gt} (h : AllOK p C) (n : Nat) : AllOK p (C.take n) := by
  intro j hj
  have hj : j < min n C.length := by simpa using hj
  have hj : j < n ∧ j < C.length := by omega
  have e : gAt (C.take n) j = gAt C j := by
    unfold gAt
    simp [List.getD_eq_getElem?_getD, hj.1]
  rw [e]
  exact h j hj.2
end Go.Proofs.Ytibghhkhnpjdfaa
namespace Go.Proofs.Ytibghhkhnpjdfaa
open Go.RowKit
/-- a block of integers -/
structure BrW (w : World) (H : Nat) (b : List Int) : Prop where
  lt : H < w.heap.size
  c : ∀ j, j < b.length → w.cell? ⟨H, j, none⟩ = some (.int .i64 (b.getD j 0))
  f : ∀ j, j < b.length → w.frozen? ⟨H, j, none⟩ = false
theorem BrW.below {w w' : World} {H : Nat} {b : List Int} (h : BrW w H b) (hb : Below w.heap.size w w') : BrW w' H b :=
  ⟨Nat.lt_of_lt_of_le h.lt hb.size, fun j hj => by rw [hb.cell (p := ⟨H, j, none⟩) h.lt]; exact h.c j hj, fun j hj => by rw [hb.frozen (p := ⟨H, j, none⟩) h.lt]; exact h.f j hj⟩
theorem BrW.same {w w' : World} {H : Nat} {b : List Int} (h : BrW w H b) (hs : w.heap.size ≤ w'.heap.size) (e : w'.heap[H]? = w.heap[H]?) : BrW w' H b :=
  ⟨Nat.lt_of_lt_of_le h.lt hs, fun j hj => by rw [World.cell?_of_block (a := ⟨H, j, none⟩) e]; exact h.c j hj, fun j hj => by rw [World.frozen?_of_block (a := ⟨H, j, none⟩) e]; exact h.f j hj⟩
theorem BrW.set {w : World} {H j : Nat} {b : List Int} (h : BrW w H b) (hj : j < b.length) (v : Int) : BrW (w.setCell ⟨H, j, none⟩ (.int .i64 v)) H (b.set j v) := by
  refine ⟨by simpa using h.lt, fun i hi => ?_, fun i hi => by rw [World.frozen?_setCell]; exact h.f i (by simpa using hi)⟩
  rw [getD_set hj]
  by_cases e : i = j
  · subst e
    rw [World.cell?_setCell_same _ _ _ (h.c i hj), if_pos rfl]
  · rw [World.cell?_setCell_other _ _ _ _ (addr_ne (by omega)), h.c i (by simpa using hi), if_neg e]
theorem BrW.far {w : World} {H G o : Nat} {b : List Int} (h : BrW w H b) (hG : G ≠ H) (u : Value) : BrW (w.setCell ⟨G, o, none⟩ u) H b :=
  ⟨by simpa using h.lt, fun j hj => by rw [World.cell?_setCell_other _ _ _ _ (addr_ne (by omega))]; exact h.c j hj, fun j hj => by rw [World.frozen?_setCell]; exact h.f j hj⟩
theorem MkS.far {w : World} {G n H o : Nat} {v : Value} {cs : Nat → Value} {C : List Gt} (h : MkS w G v n cs C) (hH : H < G) (u : Value) : MkS (w.setCell ⟨H, o, none⟩ u) G v n cs C := by
  refine ⟨⟨?_, fun i h1 h2 => ?_, by rw [World.frozen?_setCell]; exact h.sh.f0, by simpa using h.sh.lt, fun i h1 h2 => by rw [World.frozen?_setCell]; exact h.sh.fz i h1 h2⟩, h.row.setFar (by omega) o u⟩
  · rw [World.cell?_setCell_other _ _ _ _ (addr_ne (by omega))]; exact h.sh.c0
  · rw [World.cell?_setCell_other _ _ _ _ (addr_ne (by omega))]; exact h.sh.oth i h1 h2
/-- the cell of the numbers' slice -/
def brC (H n : Nat) : Nat → Value := fun i => if i = 4 then .slice (some ⟨H, 0, none⟩) n n else .int .i64 0
/-- the state of the model's maker -/
structure BrS (w : World) (G H : Nat) (v : Value) (s : List Gt × List Int) : Prop where
  ms : MkS w G v 5 (brC H s.2.length) s.1
  br : BrW w H s.2
  lt : H < G
theorem BrS.below {w w' : World} {G H : Nat} {v : Value} {s : List Gt × List Int} (h : BrS w G H v s) (hb : Below w.heap.size w w') : BrS w' G H v s := ⟨h.ms.below hb, h.br.below hb, h.lt⟩
/-- what a method of it leaves behind -/
def BrTo (B G H : Nat) (s : List Gt × List Int) (v : Value) (w : World) (w' : World) : Prop :=
  ∃ v', BrS w' G H v' s ∧ Below B w w' ∧ Apt G H v w w' ∧ Moves v v' w
theorem Apt.weak {G H : Nat} {v : Value} {w w' : World} (h : Apt G G v w w') : Apt G H v w w' := fun b hb h1 _ h3 => h b hb h1 h1 h3
theorem BrTo.trans {B G H : Nat} {s' : List Gt × List Int} {v v1 : Value} {w w1 w2 : World} (hb : Below B w w1) (ha : Apt G H v w w1) (hv : Moves v v1 w) (h : BrTo B G H s' v1 w1 w2) : BrTo B G H s' v w w2 := by
  obtain ⟨v', h1, h2, h3, h4⟩ := h
  exact ⟨v', h1, hb.trans h2, ha.trans h3 hv hb.size, hv.trans h4 hb.size⟩
theorem BrTo.from {B G H : Nat} {s : List Gt × List Int} {v : Value} {w w1 w2 : World} (h : BrTo B G H s v w1 w2) (hb : Below w.heap.size w w1) (hB : B ≤ w.heap.size) : BrTo B G H s v w w2 :=
  BrTo.trans (hb.mono hB) (Apt.of_below hb) (.inl rfl) h
set_option maxRecDepth 100000 in
set_option maxHeartbeats 4000000 in
theorem sTimes (B G H : Nat) (one k o : Int) (v : Value) (s : List Gt × List Int) (w : World) (hl : s.1.length ≤ 5000) (hBG : B ≤ G) (h : BrS w G H v s) :
    Calls Try.prog 196 #[.pointer (some ⟨G, 0, none⟩), .int .i64 one, .int .i64 k, .int .i64 o] w fun e w' => e = .returned (.int .i64 (tmG one k o s.1).1) ∧ BrTo B G H ((tmG one k o s.1).2, s.2) v w w' := by
  cases hk : (k == one)
  · have e1 : tmG one k o s.1 = ((s.1.length : Int), s.1 ++ [⟨3, k, o⟩]) := by unfold tmG; rw [hk]; rfl
    rw [e1]
    have HP := Lib.hid (sPutS B G G 5 v (brC H s.2.length) s.1 ⟨3, k, o⟩ w hl hBG h.ms)
    have HB := Lib.hid h.br
    have HL := Lib.hid h.lt
    have HV := Lib.hid (h.ms.row.block (G := H) (by have := h.lt; omega))
    have hk2 : ¬ k = one := by simpa using hk
    clear h e1
    go_enter Try.func196, Try.ntmps196
    go_wp2_with fail
    refine HP.out.mono ?_
    rintro e w2 ⟨v2, rfl, hm, hb, ha, hv⟩
    have HR := Lib.hid (show BrTo B G H (s.1 ++ [⟨3, k, o⟩], s.2) v w w2 from ⟨v2, ⟨hm, HB.out.same hb.size (ha H HB.out.lt (by have := HL.out; omega) (by have := HL.out; omega) HV.out), HL.out⟩, hb, ha.weak, hv⟩)
    clear hm hb ha hv
    go_wp2_with fail
    go_ret
    exact ⟨rfl, HR.out⟩
  · have e1 : tmG one k o s.1 = (o, s.1) := by unfold tmG; rw [hk]; rfl
    rw [e1]
    have hk2 : k = one := by simpa using hk
    have HR := Lib.hid (show BrTo B G H (s.1, s.2) v w w from ⟨v, h, Below.refl _ _, Apt.of_below (Below.refl _ _), .inl rfl⟩)
    clear h e1
    subst hk2
    go_enter Try.func196, Try.ntmps196
    go_wp2_with fail
    go_ret
    exact ⟨rfl, HR.out⟩
set_option maxRecDepth 100000 in
set_option maxHeartbeats 8000000 in
theorem sAddB (B G H j : Nat) (k : Int) (v : Value) (s : List Gt × List Int) (w : World) (hl : s.1.length ≤ 5000) (hBH : B ≤ H) (hj : j < s.2.length) (hn : s.2.length ≤ 60) (h : BrS w G H v s) :
    Calls Try.prog 195 #[.pointer (some ⟨G, 0, none⟩), .int .i64 (j : Int), .int .i64 k] w fun e w' => e = .returned (.tuple #[]) ∧ BrTo B G H (addB j k s) v w w' := by
  have hlt := h.lt
  have hGw := h.ms.sh.lt
  obtain ⟨d, hd⟩ : ∃ d, d = s.2.getD j 0 := ⟨_, rfl⟩
  have c1 := h.ms.sh.oth 4 (by omega) (by omega)
  have d0 := h.br.c j hj
  have f0 := h.br.f j hj
  have hjn : (j : Int) < (s.2.length : Int) := by omega
  have hj0 : (0 : Int) ≤ (j : Int) := by omega
  have hn60 : (s.2.length : Int) ≤ 60 := by omega
  rw [← hd] at d0
  rw [show brC H s.2.length 4 = .slice (some ⟨H, 0, none⟩) s.2.length s.2.length from rfl] at c1
  by_cases hneg : d < 0
  · have e1 : addB j k s = (s.1, s.2.set j k) := by unfold addB jnG; rw [← hd, if_pos hneg]
    rw [e1]
    have HR := Lib.hid (show BrTo B G H (s.1, s.2.set j k) v w (w.setCell ⟨H, j, none⟩ (.int .i64 k)) from
      ⟨v, ⟨by rw [List.length_set]; exact h.ms.far hlt _, h.br.set hj k, hlt⟩, (Below.refl _ _).setCell hBH _, fun b _ _ hbH _ => Below.heap_setCell _ _ _ _ (by simpa using fun e => hbH e), .inl rfl⟩)
    clear h e1 hd
    go_enter Try.func195, Try.ntmps195
    go_wp2_with fail
    refine bodyPost_end (v := .tuple #[]) (by simp [results, Try.results195, go_sem]) rfl ⟨rfl, HR.out⟩
  · have e1 : addB j k s = (s.1 ++ [⟨2, d, k⟩], s.2.set j (s.1.length : Int)) := by unfold addB jnG; rw [← hd, if_neg hneg]
    rw [e1]
    have HP := Lib.hid (fun w' (h : MkS w' G v 5 (brC H s.2.length) s.1) => sPutS B G G 5 v (brC H s.2.length) s.1 ⟨2, d, k⟩ w' hl (by omega) h)
    have HH := Lib.hid h
    have HV := Lib.hid (h.ms.row.block (G := H) (by omega))
    have HD := Lib.hid hd
    clear h e1 hd
    go_enter Try.func195, Try.ntmps195
    go_wp2_with fail
    refine wp_region_seq [(0, true), (1, true), (2, true), (3, true), (4, true), (5, true), (6, true), (7, true), (8, true), (9, true), (10, true), (11, true), (12, true), (13, true), (14, true), (15, true), (16, true), (17, false), (18, true)] (fun w' => w'.cell? ⟨G, 4, none⟩ = some (.slice (some ⟨H, 0, none⟩) s.2.length s.2.length) ∧ w'.cell? ⟨H, j, none⟩ = some (.int .i64 d)) (by kernel_rfl) (by kernel_rfl) rfl (by intro c a d v w h; cases d <;> exact h) ⟨c1, d0⟩ ?_
    iterate 17 (refine wpSeq_take (v := ?_) (List.getElem?_toArray.trans rfl) ?_ ?_; rotate_left; (intro w' hSw; (try dsimp only at hSw); go_simp; (try with_reducible rfl)); (try simp only [Act.put, List.setIfInBounds_toArray, List.set_cons_zero, List.set_cons_succ]))
    refine wpSeq_do (List.getElem?_toArray.trans rfl) (fun K hK => ?_)
    go_simp
    refine (HP.out _ (HH.out.ms.below (by repeat (first | exact Below.refl _ _ | apply Below.drew | apply below_drewN)))).mono ?_
    rintro e w2 ⟨v2, rfl, hm, hb, ha, hv⟩
    have hBr := (HH.out.br.below (by repeat (first | exact Below.refl _ _ | apply Below.drew | apply below_drewN))).same hb.size (ha H (by simpa using HH.out.br.lt) (by omega) (by omega) HV.out)
    have g1 : w2.cell? ⟨G, 4, none⟩ = some (.slice (some ⟨H, 0, none⟩) s.2.length s.2.length) := hm.sh.oth 4 (by omega) (by omega)
    have g2 : w2.cell? ⟨H, j, none⟩ = some (.int .i64 d) := by rw [hBr.c j hj, ← HD.out]
    have g3 := hBr.f j hj
    have HR := Lib.hid (show BrTo B G H (s.1 ++ [⟨2, d, k⟩], s.2.set j (s.1.length : Int)) v w (w2.setCell ⟨H, j, none⟩ (.int .i64 (s.1.length : Int))) from by
      refine BrTo.from (w1 := w.drew) ⟨v2, ⟨by rw [List.length_set]; exact hm.far hlt _, hBr.set hj _, hlt⟩, hb.setCell hBH _, fun b hb1 h1 h2 h3 => ?_, hv⟩ (Below.drew (Below.refl _ _)) (by omega)
      exact (Below.heap_setCell _ _ _ _ (by simpa using fun e => h2 e)).trans (ha b hb1 h1 h1 h3))
    refine hK _ _ ⟨g1, g2⟩ ?_
    clear hK K hm hb ha hv hBr c1 d0 f0
    (refine wpSeq_take (v := ?_) (List.getElem?_toArray.trans rfl) ?_ ?_; rotate_left; (intro w' hSw; (try dsimp only at hSw); go_simp; (try with_reducible rfl)); (try simp only [Act.put, List.setIfInBounds_toArray, List.set_cons_zero, List.set_cons_succ]))
    refine wpSeq_nil ?_
    simp only [Exit.then]
    go_wp2_with fail
    refine bodyPost_end (v := .tuple #[]) (by simp [results, Try.results195, go_sem]) rfl ⟨rfl, HR.out⟩
end Go.Proofs.Ytibghhkhnpjdfaa
namespace Go.Proofs.Ytibghhkhnpjdfaa
open Go.RowKit
theorem RowGt.setNe {w : World} {B G : Nat} {v : Value} {L : List Gt} (h : RowGt w B v L) (hG : v.ownBlock ≠ some G) (o : Nat) (u : Value) : RowGt (w.setCell ⟨G, o, none⟩ u) B v L :=
  World.ownsRow.kept (row := some G) h ⟨rfl, rfl, rfl, by simp, fun k hk hne => Below.heap_setCell _ _ _ _ (fun e => hne (by rw [e]))⟩ (.inr hG)
/-- a maker that has a list of gates, in a row from block R on that is not its own -/
structure MkQ (w : World) (G R : Nat) (v : Value) (n : Nat) (cs : Nat → Value) (C : List Gt) : Prop where
  sh : ShW w G v n cs
  row : RowGt w R v C
  ne : v.ownBlock ≠ some G
theorem MkQ.below {w w' : World} {G R n : Nat} {v : Value} {cs : Nat → Value} {C : List Gt} (h : MkQ w G R v n cs C) (hb : Below w.heap.size w w') : MkQ w' G R v n cs C := ⟨h.sh.below hb, h.row.below hb, h.ne⟩
theorem MkQ.old {w : World} {G R n b : Nat} {v : Value} {cs : Nat → Value} {C : List Gt} (h : MkQ w G R v n cs C) (hb : w.heap.size ≤ b) : v.ownBlock ≠ some b := fun e => by
  have := (World.ownsRow.lt h.row b e).2
  omega
theorem MkQ.slice {w : World} {G R n : Nat} {v : Value} {cs : Nat → Value} {C : List Gt} (h : MkQ w G R v n cs C) : ∃ a cap, v = .slice a C.length cap := by
  rcases h.row.shape with ⟨rfl, rfl⟩ | ⟨g, cap, rfl, _⟩
  · exact ⟨none, 0, rfl⟩
  · exact ⟨_, cap, rfl⟩
/-- what a method of it leaves behind -/
def MkToQ (B G : Nat) (n : Nat) (cs : Nat → Value) (C : List Gt) (v : Value) (r : Int) (w : World) (e : Ending) (w' : World) : Prop :=
  ∃ v', e = .returned (.int .i64 r) ∧ MkQ w' G B v' n cs C ∧ Below B w w' ∧ Apt G G v w w' ∧ Moves v v' w
set_option maxRecDepth 100000 in
set_option maxHeartbeats 8000000 in
theorem iPutQ (B G R n : Nat) (v : Value) (cs : Nat → Value) (L : List Gt) (x : Gt) (w : World) (hl : L.length ≤ 5000) (hBG : B ≤ G) (hBR : B ≤ R) (h : MkQ w G R v n cs L) :
    Calls Try.prog 166 #[.pointer (some ⟨G, 0, none⟩), .agg #[.int .i64 x.k, .int .i64 x.a, .int .i64 x.b]] w (MkToQ B G n cs (L ++ [x]) v L.length w) := by
  obtain ⟨i0, hi, hz0, hz1, hz2⟩ := info_parts infoG
  obtain ⟨W, hW⟩ : ∃ W, W = w.alloc (Obj.cells #[.int .i64 x.k, .int .i64 x.a, .int .i64 x.b] 116) := ⟨_, rfl⟩
  have bW : Below w.heap.size w W := by rw [hW]; exact Below.alloc (Below.refl _ _) (Nat.le_refl _) _
  have e0 : W.cell? ⟨w.heap.size, 0, none⟩ = some (.int .i64 x.k) := by rw [hW]; simp [go_sem]
  have e1 : W.cell? ⟨w.heap.size, 1, none⟩ = some (.int .i64 x.a) := by rw [hW]; simp [go_sem]
  have e2 : W.cell? ⟨w.heap.size, 2, none⟩ = some (.int .i64 x.b) := by rw [hW]; simp [go_sem]
  have hM := h.sh.below bW
  have hR := (h.row.mono hBR).below bW
  have hsW : w.heap.size < W.heap.size := by rw [hW]; simp
  have HW := Lib.hid hW
  have c0 := hM.c0
  have f0 := hM.f0
  have hG := hM.lt
  have HM := Lib.hid hM
  have HR := Lib.hid hR
  have HbW := Lib.hid bW
  have hGw : G + 1 ≤ w.heap.size := h.sh.lt
  have HNE := Lib.hid h.ne
  have hRw : B ≤ w.heap.size := by omega
  clear hW hM hR bW h
  go_enter Try.func166, Try.ntmps166
  go_wp2_with fail
  rw [← HW.out]
  clear HW
  go_region_law (refine step_append_lies _ rfl _ _ 24 rfl B 116 i0 (.agg #[.int .i64 0, .int .i64 0, .int .i64 0]) 3 24 Try.underlying24 hi hz0 hz1 hz2 rfl (by decide) v L.length (flatG L) (by simp [Act.eval]) (RowGt.below HR.out (by repeat (first | exact Below.refl _ _ | apply Below.drew | apply below_drewN | (refine Below.alloc ?_ (by first | omega | (simp <;> omega)) _)))) _ 1 1 [.int .i64 x.k, .int .i64 x.a, .int .i64 x.b] (by simp [Act.eval]; rfl) rfl (by intro j u hj; match j, hj with | 0, hj => (simp at hj; subst hj; simp [Addr.add, go_sem]) | 1, hj => (simp at hj; subst hj; simp [Addr.add, go_sem]) | 2, hj => (simp at hj; subst hj; simp [Addr.add, go_sem])) (gate_ok _ _ _) (by omega) (by unfold maxLen; omega) (by omega) (by first | omega | (simp; omega)) _ rfl ?_; intro gv cv w3 hown' hgrow hat _; have HS3 := Lib.hid ((ShW.below HM.out (by repeat (first | exact Below.refl _ _ | apply Below.drew | apply below_drewN | (refine Below.alloc ?_ (by first | omega | (simp <;> omega)) _)))).grown hgrow HNE.out); have k0 := HS3.out.c0; have k2 := HS3.out.f0; have k3 := HS3.out.lt; have hap : Apart G v w w3 := apart_of HbW.out (by repeat (first | exact Below.refl _ _ | apply Below.drew | apply below_drewN | (refine Below.alloc ?_ (by first | omega | (simp <;> omega)) _))) hgrow)
  all_goals
    have hR3 : RowGt w3 B (.slice (some ⟨gv, 0, none⟩) (L.length + 1) cv) (L ++ [x]) := RowGt.snoc x hown'
    have hne4 : (Value.slice (some ⟨gv, 0, none⟩) (L.length + 1) cv).ownBlock ≠ some G := by
      rcases hat with e | e
      · intro e2
        exact HNE.out (e.trans e2)
      · intro e2
        injection e2 with e2
        rw [e] at e2
        first | omega | (simp at e2; omega)
    have hR4 := hR3.setNe hne4 0 (.slice (some ⟨gv, 0, none⟩) (L.length + 1) cv)
    have hM4 : ShW (w3.setCell ⟨G, 0, none⟩ (.slice (some ⟨gv, 0, none⟩) (L.length + 1) cv)) G (.slice (some ⟨gv, 0, none⟩) (L.length + 1) cv) n cs := HS3.out.set _
    have hB4 : Below B w (w3.setCell ⟨G, 0, none⟩ (.slice (some ⟨gv, 0, none⟩) (L.length + 1) cv)) :=
      (HR.out.grow (HbW.out.mono hRw) (by omega) (by repeat (first | exact Below.refl _ _ | apply Below.drew | apply below_drewN | (refine Below.alloc ?_ (by first | omega | (simp <;> omega)) _))) hgrow).setCell hBG _
    have hA4 : Apt G G v w (w3.setCell ⟨G, 0, none⟩ (.slice (some ⟨gv, 0, none⟩) (L.length + 1) cv)) := fun b hb hbG _ hv => (Below.heap_setCell _ _ _ _ (by simpa using fun e => hbG e)).trans (hap b hb hbG hv)
    have hV4 : Moves v (.slice (some ⟨gv, 0, none⟩) (L.length + 1) cv) w := by
      rcases hat with e | e
      · exact .inl e.symm
      · exact .inr ⟨gv, rfl, by rw [e]; first | omega | (simp; omega)⟩
    have HL := Lib.hid (show (((L.length + 1 : Nat) : Int) - 1 = ((L.length : Nat) : Int)) by omega)
    clear hown' hgrow hR3 c0 f0 e0 e1 e2 hap hat
    go_wp2_with (go_at_call 91; refine (iLast _ (L.length + 1) _ L.length (by omega) HL.out _).mono ?_; rintro e w' ⟨rfl, rfl⟩)
    go_ret
    exact ⟨_, rfl, ⟨hM4, hR4, hne4⟩, hB4, hA4, hV4⟩
end Go.Proofs.Ytibghhkhnpjdfaa
namespace Go.Proofs.Ytibghhkhnpjdfaa
/-- the first k numbers, and zeros behind them -/
def Fr (k : Nat) (b : List Int) : List Int := b.take k ++ List.replicate (b.length - k) 0
theorem Fr_len (k : Nat) (b : List Int) (hk : k ≤ b.length) : (Fr k b).length = b.length := by simp [Fr]; omega
theorem Fr_at {k j : Nat} {b : List Int} (hj : j < k) : (Fr k b).getD j 0 = b.getD j 0 := by
  unfold Fr
  simp only [List.getD_eq_getElem?_getD]
  by_cases h : j < b.length
  · rw [List.getElem?_append_left (by simp; omega), List.getElem?_take, if_pos hj]
  · have e : b.length - k = 0 := by omega
    rw [e, List.getElem?_eq_none (l := b) (by omega), List.getElem?_eq_none (by simp; omega)]
theorem Fr_set {k j : Nat} {b : List Int} (hj : j < k) (u : Int) : (Fr k b).set j u = Fr k (b.set j u) := by
  unfold Fr
  rw [List.length_set, List.take_set]
  by_cases h : j < b.length
  · rw [List.set_append_left _ _ (by simp; omega)]
  · have e : b.length - k = 0 := by omega
    rw [e]
    simp
theorem Fr_next {k : Nat} {b : List Int} (hk : k < b.length) (h : b.getD k 0 = -1) : (Fr k b).set k (-1) = Fr (k + 1) b := by
  unfold Fr
  rw [List.set_append_right _ _ (by simp; omega)]
  have e1 : k - (b.take k).length = 0 := by simp; omega
  rw [e1, show b.length - k = (b.length - (k + 1)) + 1 by omega, List.replicate_succ, List.set_cons_zero]
  have e2 : b[k] = -1 := by
    rw [List.getD_eq_getElem?_getD, List.getElem?_eq_getElem hk] at h
    exact h
  rw [show b.take (k + 1) = b.take k ++ [b[k]] by simp [List.take_append_getElem], e2]
  simp
theorem Fr_all (b : List Int) : Fr b.length b = b := by simp [Fr]
theorem addB_Fr {k m : Nat} {x : Int} {C : List Gt} {b : List Int} (hk : k < m) : addB k x (C, Fr m b) = ((addB k x (C, b)).1, Fr m (addB k x (C, b)).2) := by
  unfold addB
  simp only
  rw [Fr_at hk, Fr_set hk]
theorem fr0 (n : Nat) : Fr 0 (List.replicate n (-1)) = List.replicate n 0 := by simp [Fr]
end Go.Proofs.Ytibghhkhnpjdfaa
