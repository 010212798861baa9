/-
  A maker of circuits: its cells, its row of gates, its put; a gate joined to what there is. Conditions: what the maker's cells and its row of gates hold is known.
-/
import Derived.Test.YtlidplmpglpkgaaBe9
import Derived.Deep.AppendLies
namespace Go.Proofs.Ytlidplmpglpkgaa
open Go.RowKit
/-- what was there is as it was, but for block G and one row -/
def Apart (G : Nat) (v : Value) (w w' : World) : Prop :=
  ∀ b, b < w.heap.size → b ≠ G → v.ownBlock ≠ some b → w'.heap[b]? = w.heap[b]?
theorem apart_of {w W W' w3 : World} {G : Nat} {v : Value} (hb : Below w.heap.size w W) (hW : Below W.heap.size W W') (hg : W'.grownBy w3 v.ownBlock) : Apart G v w w3 := fun b h _ hv => by
  have h1 := hb.size
  have h2 := hW.size
  rw [hg.block b (by omega) (fun e => hv e.symm), hW.block b (by omega), hb.block b h]
/-- all gates of a list may stand where they are -/
def AllOK (p : Int) (C : List Gt) : Prop := ∀ j : Nat, j < C.length → gOK (p - 1) (gAt C j) j = true
theorem gAt_left {C D : List Gt} {j : Nat} (h : j < C.length) : gAt (C ++ D) j = gAt C j := by
  unfold gAt
  rw [List.getD_eq_getElem?_getD, List.getD_eq_getElem?_getD, List.getElem?_append_left h]
theorem gAt_last {C : List Gt} {x : Gt} : gAt (C ++ [x]) C.length = x := by
  unfold gAt
  simp [List.getD_eq_getElem?_getD]
/-- a maker's cells: the slice of its gates, whose block is another one, and others -/
structure ShW (w : World) (G : Nat) (v : Value) (n : Nat) (cs : Nat → Value) : Prop where
  c0 : w.cell? ⟨G, 0, none⟩ = some v
  oth : ∀ i, 1 ≤ i → i < n → w.cell? ⟨G, i, none⟩ = some (cs i)
  f0 : w.frozen? ⟨G, 0, none⟩ = false
  lt : G < w.heap.size
  fz : ∀ i, 1 ≤ i → i < n → w.frozen? ⟨G, i, none⟩ = false
theorem ShW.below {w w' : World} {G n : Nat} {v : Value} {cs : Nat → Value} (h : ShW w G v n cs) (hb : Below w.heap.size w w') : ShW w' G v n cs := by
  have hl := h.lt
  exact ⟨by rw [hb.cell (p := ⟨G, 0, none⟩) hl]; exact h.c0, fun i h1 h2 => by rw [hb.cell (p := ⟨G, i, none⟩) hl]; exact h.oth i h1 h2, by rw [hb.frozen (p := ⟨G, 0, none⟩) hl]; exact h.f0, Nat.lt_of_lt_of_le hl hb.size, fun i h1 h2 => by rw [hb.frozen (p := ⟨G, i, none⟩) hl]; exact h.fz i h1 h2⟩
theorem ShW.set {w : World} {G n : Nat} {v : Value} {cs : Nat → Value} (h : ShW w G v n cs) (u : Value) : ShW (w.setCell ⟨G, 0, none⟩ u) G u n cs := by
  refine ⟨World.cell?_setCell_same _ _ _ h.c0, fun i h1 h2 => ?_, by rw [World.frozen?_setCell]; exact h.f0, by simpa using h.lt, fun i h1 h2 => by rw [World.frozen?_setCell]; exact h.fz i h1 h2⟩
  rw [World.cell?_setCell_other _ _ _ _ (addr_ne (by omega))]; exact h.oth i h1 h2
theorem ShW.grown {w w' : World} {G n : Nat} {v u : Value} {cs : Nat → Value} (h : ShW w G v n cs) (hb : w.grownBy w' u.ownBlock) (hne : u.ownBlock ≠ some G) : ShW w' G v n cs := by
  have e := hb.block G h.lt (fun e => hne e.symm)
  exact ⟨by rw [World.cell?_of_block (a := ⟨G, 0, none⟩) e]; exact h.c0, fun i h1 h2 => by rw [World.cell?_of_block (a := ⟨G, i, none⟩) e]; exact h.oth i h1 h2, by rw [World.frozen?_of_block (a := ⟨G, 0, none⟩) e]; exact h.f0, Nat.lt_of_lt_of_le h.lt hb.size, fun i h1 h2 => by rw [World.frozen?_of_block (a := ⟨G, i, none⟩) e]; exact h.fz i h1 h2⟩
/-- a maker that has a list of gates -/
structure MkS (w : World) (G : Nat) (v : Value) (n : Nat) (cs : Nat → Value) (C : List Gt) : Prop where
  sh : ShW w G v n cs
  row : RowGt w (G + 1) v C
theorem MkS.below {w w' : World} {G n : Nat} {v : Value} {cs : Nat → Value} {C : List Gt} (h : MkS w G v n cs C) (hb : Below w.heap.size w w') : MkS w' G v n cs C := ⟨h.sh.below hb, h.row.below hb⟩
/-- the row stays in its block or lies in a new one -/
def Moves (v v' : Value) (w : World) : Prop := v'.ownBlock = v.ownBlock ∨ ∃ b, v'.ownBlock = some b ∧ w.heap.size ≤ b
theorem Moves.ne {v v' : Value} {w : World} {b : Nat} (h : Moves v v' w) (hb : b < w.heap.size) (hv : v.ownBlock ≠ some b) : v'.ownBlock ≠ some b := by
  rcases h with h | ⟨c, h, hc⟩
  · rw [h]; exact hv
  · rw [h]; intro e; injection e with e; omega
theorem Moves.trans {v v' v'' : Value} {w w1 : World} (h : Moves v v' w) (k : Moves v' v'' w1) (hs : w.heap.size ≤ w1.heap.size) : Moves v v'' w := by
  rcases k with k | ⟨c, k, hc⟩
  · rcases h with h | ⟨b, h, hb⟩
    · exact .inl (k.trans h)
    · exact .inr ⟨b, k.trans h, hb⟩
  · exact .inr ⟨c, k, Nat.le_trans hs hc⟩
/-- what was there is as it was, but for two blocks and one row -/
def Apt (G M : Nat) (v : Value) (w w' : World) : Prop := ∀ b, b < w.heap.size → b ≠ G → b ≠ M → v.ownBlock ≠ some b → w'.heap[b]? = w.heap[b]?
theorem Apt.trans {G M : Nat} {v v' : Value} {w w1 w2 : World} (h : Apt G M v w w1) (k : Apt G M v' w1 w2) (hm : Moves v v' w) (hs : w.heap.size ≤ w1.heap.size) : Apt G M v w w2 := fun b hb h1 h2 h3 =>
  (k b (Nat.lt_of_lt_of_le hb hs) h1 h2 (hm.ne hb h3)).trans (h b hb h1 h2 h3)
theorem Apt.of_below {G M : Nat} {v : Value} {w w' : World} (h : Below w.heap.size w w') : Apt G M v w w' := fun b hb _ _ _ => h.block b hb
/-- what a maker's method leaves behind -/
def MkTo (B G M : Nat) (n : Nat) (cs : Nat → Value) (C : List Gt) (v : Value) (r : Int) (w : World) (e : Ending) (w' : World) : Prop :=
  ∃ v', e = .returned (.int .i64 r) ∧ MkS w' G v' n cs C ∧ Below B w w' ∧ Apt G M v w w' ∧ Moves v v' w
set_option maxRecDepth 100000 in
set_option maxHeartbeats 8000000 in
theorem iPutSN (B G M n : Nat) (v : Value) (cs : Nat → Value) (L : List Gt) (x : Gt) (w : World) (hl : L.length ≤ 20000) (hBG : B ≤ G) (h : MkS w G v n cs L) :
    Calls Try.prog 145 #[.pointer (some ⟨G, 0, none⟩), .agg #[.int .i64 x.k, .int .i64 x.a, .int .i64 x.b]] w (MkTo B G M n cs (L ++ [x]) v L.length w) := by
  obtain ⟨i0, hi, hz0, hz1, hz2⟩ := info_parts infoG
  obtain ⟨W, hW⟩ : ∃ W, W = w.alloc (Obj.cells #[.int .i64 x.k, .int .i64 x.a, .int .i64 x.b] 137) := ⟨_, rfl⟩
  have bW : Below w.heap.size w W := by rw [hW]; exact Below.alloc (Below.refl _ _) (Nat.le_refl _) _
  have e0 : W.cell? ⟨w.heap.size, 0, none⟩ = some (.int .i64 x.k) := by rw [hW]; simp [go_sem]
  have e1 : W.cell? ⟨w.heap.size, 1, none⟩ = some (.int .i64 x.a) := by rw [hW]; simp [go_sem]
  have e2 : W.cell? ⟨w.heap.size, 2, none⟩ = some (.int .i64 x.b) := by rw [hW]; simp [go_sem]
  have hM := h.sh.below bW
  have hR := h.row.below bW
  have hsW : w.heap.size < W.heap.size := by rw [hW]; simp
  have HW := Lib.hid hW
  have c0 := hM.c0
  have f0 := hM.f0
  have hG := hM.lt
  have HM := Lib.hid hM
  have HR := Lib.hid hR
  have HbW := Lib.hid bW
  have hGw : G + 1 ≤ w.heap.size := h.sh.lt
  clear hW hM hR bW h
  go_enter Try.func145, Try.ntmps145
  go_wp2_with fail
  rw [← HW.out]
  clear HW
  go_region_law (refine step_append_lies _ rfl _ _ 43 rfl (G + 1) 137 i0 (.agg #[.int .i64 0, .int .i64 0, .int .i64 0]) 3 24 Try.underlying43 hi hz0 hz1 hz2 rfl (by decide) v L.length (flatG L) (by simp [Act.eval]) (RowGt.below HR.out (by repeat (first | exact Below.refl _ _ | apply Below.drew | apply below_drewN | (refine Below.alloc ?_ (by first | omega | (simp <;> omega)) _)))) _ 1 1 [.int .i64 x.k, .int .i64 x.a, .int .i64 x.b] (by simp [Act.eval]; rfl) rfl (by intro j u hj; match j, hj with | 0, hj => (simp at hj; subst hj; simp [Addr.add, go_sem]) | 1, hj => (simp at hj; subst hj; simp [Addr.add, go_sem]) | 2, hj => (simp at hj; subst hj; simp [Addr.add, go_sem])) (gate_ok _ _ _) (by omega) (by unfold maxLen; omega) (by omega) (by first | omega | (simp; omega)) _ rfl ?_; intro gv cv w3 hown' hgrow hat _; have HS3 := Lib.hid ((ShW.below HM.out (by repeat (first | exact Below.refl _ _ | apply Below.drew | apply below_drewN | (refine Below.alloc ?_ (by first | omega | (simp <;> omega)) _)))).grown hgrow (HR.out.block (Nat.lt_succ_self G))); have k0 := HS3.out.c0; have k2 := HS3.out.f0; have k3 := HS3.out.lt; have hap : Apart G v w w3 := apart_of HbW.out (by repeat (first | exact Below.refl _ _ | apply Below.drew | apply below_drewN | (refine Below.alloc ?_ (by first | omega | (simp <;> omega)) _))) hgrow)
  all_goals
    have hR3 : RowGt w3 (G + 1) (.slice (some ⟨gv, 0, none⟩) (L.length + 1) cv) (L ++ [x]) := RowGt.snoc x hown'
    have hR4 := hR3.setFar (Nat.lt_succ_self G) 0 (.slice (some ⟨gv, 0, none⟩) (L.length + 1) cv)
    have hM4 : ShW (w3.setCell ⟨G, 0, none⟩ (.slice (some ⟨gv, 0, none⟩) (L.length + 1) cv)) G (.slice (some ⟨gv, 0, none⟩) (L.length + 1) cv) n cs := HS3.out.set _
    have hB4 : Below B w (w3.setCell ⟨G, 0, none⟩ (.slice (some ⟨gv, 0, none⟩) (L.length + 1) cv)) :=
      ((HR.out.grow (HbW.out.mono hGw) (by omega) (by repeat (first | exact Below.refl _ _ | apply Below.drew | apply below_drewN | (refine Below.alloc ?_ (by first | omega | (simp <;> omega)) _))) hgrow).mono (by omega)).setCell hBG _
    have hA4 : Apt G M v w (w3.setCell ⟨G, 0, none⟩ (.slice (some ⟨gv, 0, none⟩) (L.length + 1) cv)) := fun b hb hbG _ hv => (Below.heap_setCell _ _ _ _ (by simpa using fun e => hbG e)).trans (hap b hb hbG hv)
    have hV4 : Moves v (.slice (some ⟨gv, 0, none⟩) (L.length + 1) cv) w := by
      rcases hat with e | e
      · exact .inl e.symm
      · exact .inr ⟨gv, rfl, by rw [e]; first | omega | (simp; omega)⟩
    have HL := Lib.hid (show (((L.length + 1 : Nat) : Int) - 1 = ((L.length : Nat) : Int)) by omega)
    clear hown' hgrow hR3 c0 f0 e0 e1 e2 hap hat
    go_wp2_with (go_at_call 127; refine (iLast _ (L.length + 1) _ L.length (by omega) HL.out _).mono ?_; rintro e w' ⟨rfl, rfl⟩)
    go_ret
    exact ⟨_, rfl, ⟨hM4, hR4⟩, hB4, hA4, hV4⟩
theorem iPutS (B G M n : Nat) (v : Value) (cs : Nat → Value) (L : List Gt) (x : Gt) (w : World) (hl : L.length ≤ 5000) (hBG : B ≤ G) (h : MkS w G v n cs L) :
    Calls Try.prog 145 #[.pointer (some ⟨G, 0, none⟩), .agg #[.int .i64 x.k, .int .i64 x.a, .int .i64 x.b]] w (MkTo B G M n cs (L ++ [x]) v L.length w) := iPutSN B G M n v cs L x w (by omega) hBG h
set_option maxRecDepth 100000 in
set_option maxHeartbeats 8000000 in
theorem sPutSN (B G M n : Nat) (v : Value) (cs : Nat → Value) (L : List Gt) (x : Gt) (w : World) (hl : L.length ≤ 20000) (hBG : B ≤ G) (h : MkS w G v n cs L) :
    Calls Try.prog 209 #[.pointer (some ⟨G, 0, none⟩), .agg #[.int .i64 x.k, .int .i64 x.a, .int .i64 x.b]] w (MkTo B G M n cs (L ++ [x]) v L.length w) := by
  obtain ⟨i0, hi, hz0, hz1, hz2⟩ := info_parts infoG
  obtain ⟨W, hW⟩ : ∃ W, W = w.alloc (Obj.cells #[.int .i64 x.k, .int .i64 x.a, .int .i64 x.b] 137) := ⟨_, rfl⟩
  have bW : Below w.heap.size w W := by rw [hW]; exact Below.alloc (Below.refl _ _) (Nat.le_refl _) _
  have e0 : W.cell? ⟨w.heap.size, 0, none⟩ = some (.int .i64 x.k) := by rw [hW]; simp [go_sem]
  have e1 : W.cell? ⟨w.heap.size, 1, none⟩ = some (.int .i64 x.a) := by rw [hW]; simp [go_sem]
  have e2 : W.cell? ⟨w.heap.size, 2, none⟩ = some (.int .i64 x.b) := by rw [hW]; simp [go_sem]
  have hM := h.sh.below bW
  have hR := h.row.below bW
  have hsW : w.heap.size < W.heap.size := by rw [hW]; simp
  have HW := Lib.hid hW
  have c0 := hM.c0
  have f0 := hM.f0
  have hG := hM.lt
  have HM := Lib.hid hM
  have HR := Lib.hid hR
  have HbW := Lib.hid bW
  have hGw : G + 1 ≤ w.heap.size := h.sh.lt
  clear hW hM hR bW h
  go_enter Try.func209, Try.ntmps209
  go_wp2_with fail
  rw [← HW.out]
  clear HW
  go_region_law (refine step_append_lies _ rfl _ _ 43 rfl (G + 1) 137 i0 (.agg #[.int .i64 0, .int .i64 0, .int .i64 0]) 3 24 Try.underlying43 hi hz0 hz1 hz2 rfl (by decide) v L.length (flatG L) (by simp [Act.eval]) (RowGt.below HR.out (by repeat (first | exact Below.refl _ _ | apply Below.drew | apply below_drewN | (refine Below.alloc ?_ (by first | omega | (simp <;> omega)) _)))) _ 1 1 [.int .i64 x.k, .int .i64 x.a, .int .i64 x.b] (by simp [Act.eval]; rfl) rfl (by intro j u hj; match j, hj with | 0, hj => (simp at hj; subst hj; simp [Addr.add, go_sem]) | 1, hj => (simp at hj; subst hj; simp [Addr.add, go_sem]) | 2, hj => (simp at hj; subst hj; simp [Addr.add, go_sem])) (gate_ok _ _ _) (by omega) (by unfold maxLen; omega) (by omega) (by first | omega | (simp; omega)) _ rfl ?_; intro gv cv w3 hown' hgrow hat _; have HS3 := Lib.hid ((ShW.below HM.out (by repeat (first | exact Below.refl _ _ | apply Below.drew | apply below_drewN | (refine Below.alloc ?_ (by first | omega | (simp <;> omega)) _)))).grown hgrow (HR.out.block (Nat.lt_succ_self G))); have k0 := HS3.out.c0; have k2 := HS3.out.f0; have k3 := HS3.out.lt; have hap : Apart G v w w3 := apart_of HbW.out (by repeat (first | exact Below.refl _ _ | apply Below.drew | apply below_drewN | (refine Below.alloc ?_ (by first | omega | (simp <;> omega)) _))) hgrow)
  all_goals
    have hR3 : RowGt w3 (G + 1) (.slice (some ⟨gv, 0, none⟩) (L.length + 1) cv) (L ++ [x]) := RowGt.snoc x hown'
    have hR4 := hR3.setFar (Nat.lt_succ_self G) 0 (.slice (some ⟨gv, 0, none⟩) (L.length + 1) cv)
    have hM4 : ShW (w3.setCell ⟨G, 0, none⟩ (.slice (some ⟨gv, 0, none⟩) (L.length + 1) cv)) G (.slice (some ⟨gv, 0, none⟩) (L.length + 1) cv) n cs := HS3.out.set _
    have hB4 : Below B w (w3.setCell ⟨G, 0, none⟩ (.slice (some ⟨gv, 0, none⟩) (L.length + 1) cv)) :=
      ((HR.out.grow (HbW.out.mono hGw) (by omega) (by repeat (first | exact Below.refl _ _ | apply Below.drew | apply below_drewN | (refine Below.alloc ?_ (by first | omega | (simp <;> omega)) _))) hgrow).mono (by omega)).setCell hBG _
    have hA4 : Apt G M v w (w3.setCell ⟨G, 0, none⟩ (.slice (some ⟨gv, 0, none⟩) (L.length + 1) cv)) := fun b hb hbG _ hv => (Below.heap_setCell _ _ _ _ (by simpa using fun e => hbG e)).trans (hap b hb hbG hv)
    have hV4 : Moves v (.slice (some ⟨gv, 0, none⟩) (L.length + 1) cv) w := by
      rcases hat with e | e
      · exact .inl e.symm
      · exact .inr ⟨gv, rfl, by rw [e]; first | omega | (simp; omega)⟩
    have HL := Lib.hid (show (((L.length + 1 : Nat) : Int) - 1 = ((L.length : Nat) : Int)) by omega)
    clear hown' hgrow hR3 c0 f0 e0 e1 e2 hap hat
    have hww : IntKind.i64.wrap (((L.length + 1 : Nat) : Int) - 1) = ((L.length : Nat) : Int) := by rw [IntWalk.i64_in _ (by omega)]; omega
    go_wp2_with fail
    go_ret
    exact ⟨_, rfl, ⟨hM4, hR4⟩, hB4, hA4, hV4⟩
theorem sPutS (B G M n : Nat) (v : Value) (cs : Nat → Value) (L : List Gt) (x : Gt) (w : World) (hl : L.length ≤ 5000) (hBG : B ≤ G) (h : MkS w G v n cs L) :
    Calls Try.prog 209 #[.pointer (some ⟨G, 0, none⟩), .agg #[.int .i64 x.k, .int .i64 x.a, .int .i64 x.b]] w (MkTo B G M n cs (L ++ [x]) v L.length w) := sPutSN B G M n v cs L x w (by omega) hBG h
theorem MkTo.from {B G M n : Nat} {cs : Nat → Value} {C : List Gt} {v : Value} {r : Int} {w w1 w' : World} {e : Ending} (h : MkTo B G M n cs C v r w1 e w') (hb : Below w.heap.size w w1) (hB : B ≤ w.heap.size) : MkTo B G M n cs C v r w e w' := by
  obtain ⟨v', he, hm, hl, ha, hv⟩ := h
  exact ⟨v', he, hm, (hb.mono hB).trans hl, (Apt.of_below hb).trans ha (.inl rfl) hb.size, Moves.trans (.inl rfl) hv hb.size⟩
theorem Apt.get {w w1 : World} {n G M i : Nat} {v u : Value} (ha : Apt G M v w w1) (hn : n < w.heap.size) (hG : n ≠ G) (hM : n ≠ M) (hv : v.ownBlock ≠ some n) (h : w.cell? ⟨n, i, none⟩ = some u) : w1.cell? ⟨n, i, none⟩ = some u := by
  rw [World.cell?_of_block (a := ⟨n, i, none⟩) (ha n hn hG hM hv)]; exact h
theorem MkS.old {w : World} {G n b : Nat} {v : Value} {cs : Nat → Value} {C : List Gt} (h : MkS w G v n cs C) (hb : w.heap.size ≤ b) : v.ownBlock ≠ some b := fun e => by
  have := (World.ownsRow.lt h.row b e).2
  omega
theorem MkS.slice {w : World} {G n : Nat} {v : Value} {cs : Nat → Value} {C : List Gt} (h : MkS w G v n cs C) : ∃ a cap, v = .slice a C.length cap := by
  rcases h.row.shape with ⟨rfl, rfl⟩ | ⟨g, cap, rfl, _⟩
  · exact ⟨none, 0, rfl⟩
  · exact ⟨_, cap, rfl⟩
/-- a gate joined to what there is -/
def jnG (k sofar next : Int) (C : List Gt) : Int × List Gt := if sofar < 0 then (next, C) else ((C.length : Int), C ++ [⟨k, sofar, next⟩])
/-- a state: gates that may stand where they are, and the place of one of them, or none -/
structure StG (p : Int) (s : Int × List Gt) : Prop where
  ok : AllOK p s.2
  lo : -1 ≤ s.1
  hi : s.1 < s.2.length
theorem allOK_snoc {p : Int} {C : List Gt} {x : Gt} (h : AllOK p C) (hx : gOK (p - 1) x (C.length : Nat) = true) : AllOK p (C ++ [x]) := by
  intro j hj
  by_cases hjc : j < C.length
  · rw [gAt_left hjc]; exact h j hjc
  · have : j = C.length := by simp at hj; omega
    subst this
    rw [gAt_last]
    exact hx
theorem gOK_join {hi k a b : Int} {i : Nat} (hk : k = 2 ∨ k = 3) (ha : 0 ≤ a ∧ a < i) (hb : 0 ≤ b ∧ b < i) : gOK hi ⟨k, a, b⟩ (i : Nat) = true := by
  unfold gOK
  rw [if_neg (by simp only [beq_iff_eq]; omega), if_neg (by simp only [beq_iff_eq]; omega), if_pos (by simp only [Bool.or_eq_true, beq_iff_eq]; omega)]
  simp only [inB, Bool.and_eq_true, decide_eq_true_eq]
  omega
theorem jnG_st {p k : Int} {s : Int × List Gt} {next : Int} (hk : k = 2 ∨ k = 3) (h : AllOK p s.2) (h1 : -1 ≤ s.1 ∧ s.1 < s.2.length) (h2 : 0 ≤ next ∧ next < s.2.length) :
    StG p (jnG k s.1 next s.2) ∧ 0 ≤ (jnG k s.1 next s.2).1 ∧ s.2.length ≤ (jnG k s.1 next s.2).2.length ∧ (jnG k s.1 next s.2).2.length ≤ s.2.length + 1 := by
  unfold jnG
  split
  · exact ⟨⟨h, by show -1 ≤ next; omega, h2.2⟩, h2.1, Nat.le_refl _, Nat.le_succ _⟩
  · refine ⟨⟨allOK_snoc h (gOK_join hk (by omega) h2), by show (-1 : Int) ≤ (s.2.length : Int); omega, by simp; omega⟩, by show (0 : Int) ≤ (s.2.length : Int); omega, by simp, by simp⟩
end Go.Proofs.Ytlidplmpglpkgaa
