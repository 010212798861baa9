/-
  Circuits of formulas in which equal gates are one: as lists of gates; a maker's put of both. Conditions: what the maker's cells and its row of gates hold is known.
  CircuitOfFormula of the model. Conditions: none.
-/
import Derived.Test.YtegkcfinklcglaaBo25
import Derived.Test.YtegkcfinklcglaaBo17
import Derived.Test.YtegkcfinklcglaaBo33
import Derived.Test.YtegkcfinklcglaaBo21
import Derived.Deep.AppendLies
namespace Go.Proofs.Ytegkcfinklcglaa
open Go.RowKit
/-- what was there is as it was, but for block G and one row -/
def Apart (G : Nat) (v : Value) (w w' : World) : Prop :=
  ∀ b, b < w.heap.size → b ≠ G → v.ownBlock ≠ some b → w'.heap[b]? = w.heap[b]?
theorem apart_of {w W W' w3 : World} {G : Nat} {v : Value} (hb : Below w.heap.size w W) (hW : Below W.heap.size W W') (hg : W'.grownBy w3 v.ownBlock) : Apart G v w w3 := fun b h _ hv => by
  have h1 := hb.size
  have h2 := hW.size
  rw [hg.block b (by omega) (fun e => hv e.symm), hW.block b (by omega), hb.block b h]
theorem ixG_hit {x : Gt} : ∀ {C : List Gt} {k : Nat}, (∀ j, j < k → eqGt x (gAt C j) = false) → k < C.length → eqGt x (gAt C k) = true → ixG x C = some k
  | [], k, _, h, _ => by simp at h
  | y :: r, 0, _, _, h => by
    have h : eqGt x y = true := h
    unfold ixG
    rw [if_pos h]
  | y :: r, k + 1, hn, hk, h => by
    have h0 : eqGt x y = false := hn 0 (by omega)
    unfold ixG
    rw [if_neg (by simp [h0]), ixG_hit (C := r) (k := k) (fun j hj => hn (j + 1) (by omega)) (by simpa using hk) h]
    rfl
theorem ixG_none {x : Gt} : ∀ {C : List Gt}, (∀ j, j < C.length → eqGt x (gAt C j) = false) → ixG x C = none
  | [], _ => rfl
  | y :: r, hn => by
    have h0 : eqGt x y = false := hn 0 (by simp)
    unfold ixG
    rw [if_neg (by simp [h0]), ixG_none (C := r) (fun j hj => hn (j + 1) (by simpa using hj))]
    rfl
theorem ixG_lt {x : Gt} : ∀ {C : List Gt} {k : Nat}, ixG x C = some k → k < C.length
  | [], k, h => by cases h
  | y :: r, k, h => by
    unfold ixG at h
    split at h
    · injection h with h
      subst h
      simp
    · cases e : ixG x r with
      | none => rw [e] at h; cases h
      | some n =>
        rw [e] at h
        have h : n + 1 = k := by simpa using h
        have := ixG_lt e
        simp only [List.length_cons]
        omega
/-- a gate is put where there is none like it -/
def shr (x : Gt) (C : List Gt) : Nat × List Gt := match ixG x C with
  | some n => (n, C)
  | none => (C.length, C ++ [x])
theorem shr_hit {x : Gt} {C : List Gt} {n : Nat} (h : ixG x C = some n) : shr x C = (n, C) := by unfold shr; rw [h]
theorem shr_new {x : Gt} {C : List Gt} (h : ixG x C = none) : shr x C = (C.length, C ++ [x]) := by unfold shr; rw [h]
/-- the gates of a formula put behind others, and the place of the last one -/
def putF : Fm → List Gt → Nat × List Gt
  | .leaf k a, C => shr ⟨k, a, 0⟩ C
  | .pair k f g, C => shr ⟨k, ((putF f C).1 : Nat), ((putF g (putF f C).2).1 : Nat)⟩ (putF g (putF f C).2).2
/-- how many signs a formula has -/
def sizeF : Fm → Nat
  | .leaf _ _ => 1
  | .pair _ f g => 1 + sizeF f + sizeF g
theorem shr_facts (x : Gt) (C : List Gt) : (shr x C).1 < (shr x C).2.length ∧ C.length ≤ (shr x C).2.length ∧ (shr x C).2.length ≤ C.length + 1 := by
  cases h : ixG x C with
  | some n => rw [shr_hit h]; exact ⟨ixG_lt h, Nat.le_refl _, Nat.le_succ _⟩
  | none => rw [shr_new h]; simp
theorem putF_facts : ∀ (f : Fm) (C : List Gt), (putF f C).1 < (putF f C).2.length ∧ C.length ≤ (putF f C).2.length ∧ (putF f C).2.length ≤ C.length + sizeF f
  | .leaf k a, C => shr_facts _ _
  | .pair k f g, C => by
    have h1 := putF_facts f C
    have h2 := putF_facts g (putF f C).2
    have h3 := shr_facts ⟨k, ((putF f C).1 : Nat), ((putF g (putF f C).2).1 : Nat)⟩ (putF g (putF f C).2).2
    refine ⟨h3.1, ?_, ?_⟩
    · show C.length ≤ (shr _ _).2.length
      omega
    · show (shr _ _).2.length ≤ _
      unfold sizeF
      omega
/-- all gates of a list may stand where they are -/
def AllOK (p : Int) (C : List Gt) : Prop := ∀ j : Nat, j < C.length → gOK (p - 1) (gAt C j) j = true
theorem gAt_left {C D : List Gt} {j : Nat} (h : j < C.length) : gAt (C ++ D) j = gAt C j := by
  unfold gAt
  rw [List.getD_eq_getElem?_getD, List.getD_eq_getElem?_getD, List.getElem?_append_left h]
theorem gAt_last {C : List Gt} {x : Gt} : gAt (C ++ [x]) C.length = x := by
  unfold gAt
  simp [List.getD_eq_getElem?_getD]
theorem shr_ok {p : Int} {x : Gt} {C : List Gt} (h : AllOK p C) (hx : gOK (p - 1) x (C.length : Nat) = true) : AllOK p (shr x C).2 := by
  cases e : ixG x C with
  | some n => rw [shr_hit e]; exact h
  | none =>
    rw [shr_new e]
    intro j hj
    by_cases hjc : j < C.length
    · rw [gAt_left hjc]; exact h j hjc
    · have : j = C.length := by simp at hj; omega
      subst this
      rw [gAt_last]
      exact hx
theorem putF_ok {p : Int} : ∀ (f : Fm) (C : List Gt), okF p f → AllOK p C → AllOK p (putF f C).2
  | .leaf k a, C, ho, h => by
    refine shr_ok h ?_
    rcases ho with ⟨rfl, ho⟩ | ⟨rfl, h0, h1⟩
    · rcases ho with rfl | rfl | rfl <;> rfl
    · simp [gOK, inB]; omega
  | .pair k f g, C, ho, h => by
    obtain ⟨hk, hf, hg⟩ := ho
    have h1 := putF_facts f C
    have h2 := putF_facts g (putF f C).2
    refine shr_ok (putF_ok g _ hg (putF_ok f _ hf h)) ?_
    unfold gOK
    rw [if_neg (by simp only [beq_iff_eq]; omega), if_neg (by simp only [beq_iff_eq]; omega), if_pos (by simp only [Bool.or_eq_true, beq_iff_eq]; omega)]
    simp only [inB, Bool.and_eq_true, decide_eq_true_eq]
    omega
theorem parseF_size {p : Int} : ∀ {n : Nat} {t t1 : List UInt8} {f : Fm}, parseF p n t = some (f, t1) → t.length = sizeF f + t1.length
  | 0, _, _, _, h => by simp [parseF] at h
  | n + 1, [], _, _, h => by simp [parseF] at h
  | n + 1, c :: t, t1, f, h => by
    simp only [parseF] at h
    split at h
    · cases h1 : parseF p n t with
      | none => rw [h1] at h; simp at h
      | some r1 =>
        obtain ⟨f1, u1⟩ := r1
        rw [h1] at h
        simp only at h
        cases h2 : parseF p n u1 with
        | none => rw [h2] at h; simp at h
        | some r2 =>
          obtain ⟨f2, u2⟩ := r2
          rw [h2] at h
          simp at h
          obtain ⟨rfl, rfl⟩ := h
          have e1 := parseF_size h1
          have e2 := parseF_size h2
          simp only [sizeF, List.length_cons]
          omega
    · cases h1 : leafB p c with
      | none => rw [h1] at h; simp at h
      | some r1 =>
        rw [h1] at h
        simp at h
        obtain ⟨rfl, rfl⟩ := h
        simp only [sizeF, List.length_cons]
        omega
/-- a maker's cells: the slice of its gates, whose block is another one, and others -/
structure ShW (w : World) (G : Nat) (v : Value) (n : Nat) (cs : Nat → Value) : Prop where
  c0 : w.cell? ⟨G, 0, none⟩ = some v
  oth : ∀ i, 1 ≤ i → i < n → w.cell? ⟨G, i, none⟩ = some (cs i)
  f0 : w.frozen? ⟨G, 0, none⟩ = false
  lt : G < w.heap.size
  fz : ∀ i, 1 ≤ i → i < n → w.frozen? ⟨G, i, none⟩ = false
theorem ShW.below {w w' : World} {G n : Nat} {v : Value} {cs : Nat → Value} (h : ShW w G v n cs) (hb : Below w.heap.size w w') : ShW w' G v n cs := by
  have hl := h.lt
  exact ⟨by rw [hb.cell (p := ⟨G, 0, none⟩) hl]; exact h.c0, fun i h1 h2 => by rw [hb.cell (p := ⟨G, i, none⟩) hl]; exact h.oth i h1 h2, by rw [hb.frozen (p := ⟨G, 0, none⟩) hl]; exact h.f0, Nat.lt_of_lt_of_le hl hb.size, fun i h1 h2 => by rw [hb.frozen (p := ⟨G, i, none⟩) hl]; exact h.fz i h1 h2⟩
theorem ShW.set {w : World} {G n : Nat} {v : Value} {cs : Nat → Value} (h : ShW w G v n cs) (u : Value) : ShW (w.setCell ⟨G, 0, none⟩ u) G u n cs := by
  refine ⟨World.cell?_setCell_same _ _ _ h.c0, fun i h1 h2 => ?_, by rw [World.frozen?_setCell]; exact h.f0, by simpa using h.lt, fun i h1 h2 => by rw [World.frozen?_setCell]; exact h.fz i h1 h2⟩
  rw [World.cell?_setCell_other _ _ _ _ (addr_ne (by omega))]; exact h.oth i h1 h2
theorem ShW.grown {w w' : World} {G n : Nat} {v u : Value} {cs : Nat → Value} (h : ShW w G v n cs) (hb : w.grownBy w' u.ownBlock) (hne : u.ownBlock ≠ some G) : ShW w' G v n cs := by
  have e := hb.block G h.lt (fun e => hne e.symm)
  exact ⟨by rw [World.cell?_of_block (a := ⟨G, 0, none⟩) e]; exact h.c0, fun i h1 h2 => by rw [World.cell?_of_block (a := ⟨G, i, none⟩) e]; exact h.oth i h1 h2, by rw [World.frozen?_of_block (a := ⟨G, 0, none⟩) e]; exact h.f0, Nat.lt_of_lt_of_le h.lt hb.size, fun i h1 h2 => by rw [World.frozen?_of_block (a := ⟨G, i, none⟩) e]; exact h.fz i h1 h2⟩
/-- a maker that has a list of gates -/
structure MkS (w : World) (G : Nat) (v : Value) (n : Nat) (cs : Nat → Value) (C : List Gt) : Prop where
  sh : ShW w G v n cs
  row : RowGt w (G + 1) v C
theorem MkS.below {w w' : World} {G n : Nat} {v : Value} {cs : Nat → Value} {C : List Gt} (h : MkS w G v n cs C) (hb : Below w.heap.size w w') : MkS w' G v n cs C := ⟨h.sh.below hb, h.row.below hb⟩
/-- the row stays in its block or lies in a new one -/
def Moves (v v' : Value) (w : World) : Prop := v'.ownBlock = v.ownBlock ∨ ∃ b, v'.ownBlock = some b ∧ w.heap.size ≤ b
theorem Moves.ne {v v' : Value} {w : World} {b : Nat} (h : Moves v v' w) (hb : b < w.heap.size) (hv : v.ownBlock ≠ some b) : v'.ownBlock ≠ some b := by
  rcases h with h | ⟨c, h, hc⟩
  · rw [h]; exact hv
  · rw [h]; intro e; injection e with e; omega
theorem Moves.trans {v v' v'' : Value} {w w1 : World} (h : Moves v v' w) (k : Moves v' v'' w1) (hs : w.heap.size ≤ w1.heap.size) : Moves v v'' w := by
  rcases k with k | ⟨c, k, hc⟩
  · rcases h with h | ⟨b, h, hb⟩
    · exact .inl (k.trans h)
    · exact .inr ⟨b, k.trans h, hb⟩
  · exact .inr ⟨c, k, Nat.le_trans hs hc⟩
/-- what was there is as it was, but for two blocks and one row -/
def Apt (G M : Nat) (v : Value) (w w' : World) : Prop := ∀ b, b < w.heap.size → b ≠ G → b ≠ M → v.ownBlock ≠ some b → w'.heap[b]? = w.heap[b]?
theorem Apt.trans {G M : Nat} {v v' : Value} {w w1 w2 : World} (h : Apt G M v w w1) (k : Apt G M v' w1 w2) (hm : Moves v v' w) (hs : w.heap.size ≤ w1.heap.size) : Apt G M v w w2 := fun b hb h1 h2 h3 =>
  (k b (Nat.lt_of_lt_of_le hb hs) h1 h2 (hm.ne hb h3)).trans (h b hb h1 h2 h3)
theorem Apt.of_below {G M : Nat} {v : Value} {w w' : World} (h : Below w.heap.size w w') : Apt G M v w w' := fun b hb _ _ _ => h.block b hb
/-- what a maker's method leaves behind -/
def MkTo (B G M : Nat) (n : Nat) (cs : Nat → Value) (C : List Gt) (v : Value) (r : Int) (w : World) (e : Ending) (w' : World) : Prop :=
  ∃ v', e = .returned (.int .i64 r) ∧ MkS w' G v' n cs C ∧ Below B w w' ∧ Apt G M v w w' ∧ Moves v v' w
set_option maxRecDepth 100000 in
set_option maxHeartbeats 8000000 in
theorem iPutS (B G M n : Nat) (v : Value) (cs : Nat → Value) (L : List Gt) (x : Gt) (w : World) (hl : L.length ≤ 5000) (hBG : B ≤ G) (h : MkS w G v n cs L) :
    Calls Try.prog 136 #[.pointer (some ⟨G, 0, none⟩), .agg #[.int .i64 x.k, .int .i64 x.a, .int .i64 x.b]] w (MkTo B G M n cs (L ++ [x]) v L.length w) := by
  obtain ⟨i0, hi, hz0, hz1, hz2⟩ := info_parts infoG
  obtain ⟨W, hW⟩ : ∃ W, W = w.alloc (Obj.cells #[.int .i64 x.k, .int .i64 x.a, .int .i64 x.b] 75) := ⟨_, rfl⟩
  have bW : Below w.heap.size w W := by rw [hW]; exact Below.alloc (Below.refl _ _) (Nat.le_refl _) _
  have e0 : W.cell? ⟨w.heap.size, 0, none⟩ = some (.int .i64 x.k) := by rw [hW]; simp [go_sem]
  have e1 : W.cell? ⟨w.heap.size, 1, none⟩ = some (.int .i64 x.a) := by rw [hW]; simp [go_sem]
  have e2 : W.cell? ⟨w.heap.size, 2, none⟩ = some (.int .i64 x.b) := by rw [hW]; simp [go_sem]
  have hM := h.sh.below bW
  have hR := h.row.below bW
  have hsW : w.heap.size < W.heap.size := by rw [hW]; simp
  have HW := Lib.hid hW
  have c0 := hM.c0
  have f0 := hM.f0
  have hG := hM.lt
  have HM := Lib.hid hM
  have HR := Lib.hid hR
  have HbW := Lib.hid bW
  have hGw : G + 1 ≤ w.heap.size := h.sh.lt
  clear hW hM hR bW h
  go_enter Try.func136, Try.ntmps136
  go_wp2_with fail
  rw [← HW.out]
  clear HW
  go_region_law (refine step_append_lies _ rfl _ _ 53 rfl (G + 1) 75 i0 (.agg #[.int .i64 0, .int .i64 0, .int .i64 0]) 3 24 Try.underlying53 hi hz0 hz1 hz2 rfl (by decide) v L.length (flatG L) (by simp [Act.eval]) (RowGt.below HR.out (by repeat (first | exact Below.refl _ _ | apply Below.drew | apply below_drewN | (refine Below.alloc ?_ (by first | omega | (simp <;> omega)) _)))) _ 1 1 [.int .i64 x.k, .int .i64 x.a, .int .i64 x.b] (by simp [Act.eval]; rfl) rfl (by intro j u hj; match j, hj with | 0, hj => (simp at hj; subst hj; simp [Addr.add, go_sem]) | 1, hj => (simp at hj; subst hj; simp [Addr.add, go_sem]) | 2, hj => (simp at hj; subst hj; simp [Addr.add, go_sem])) (gate_ok _ _ _) (by omega) (by unfold maxLen; omega) (by omega) (by first | omega | (simp; omega)) _ rfl ?_; intro gv cv w3 hown' hgrow hat _; have HS3 := Lib.hid ((ShW.below HM.out (by repeat (first | exact Below.refl _ _ | apply Below.drew | apply below_drewN | (refine Below.alloc ?_ (by first | omega | (simp <;> omega)) _)))).grown hgrow (HR.out.block (Nat.lt_succ_self G))); have k0 := HS3.out.c0; have k2 := HS3.out.f0; have k3 := HS3.out.lt; have hap : Apart G v w w3 := apart_of HbW.out (by repeat (first | exact Below.refl _ _ | apply Below.drew | apply below_drewN | (refine Below.alloc ?_ (by first | omega | (simp <;> omega)) _))) hgrow)
  all_goals
    have hR3 : RowGt w3 (G + 1) (.slice (some ⟨gv, 0, none⟩) (L.length + 1) cv) (L ++ [x]) := RowGt.snoc x hown'
    have hR4 := hR3.setFar (Nat.lt_succ_self G) 0 (.slice (some ⟨gv, 0, none⟩) (L.length + 1) cv)
    have hM4 : ShW (w3.setCell ⟨G, 0, none⟩ (.slice (some ⟨gv, 0, none⟩) (L.length + 1) cv)) G (.slice (some ⟨gv, 0, none⟩) (L.length + 1) cv) n cs := HS3.out.set _
    have hB4 : Below B w (w3.setCell ⟨G, 0, none⟩ (.slice (some ⟨gv, 0, none⟩) (L.length + 1) cv)) :=
      ((HR.out.grow (HbW.out.mono hGw) (by omega) (by repeat (first | exact Below.refl _ _ | apply Below.drew | apply below_drewN | (refine Below.alloc ?_ (by first | omega | (simp <;> omega)) _))) hgrow).mono (by omega)).setCell hBG _
    have hA4 : Apt G M v w (w3.setCell ⟨G, 0, none⟩ (.slice (some ⟨gv, 0, none⟩) (L.length + 1) cv)) := fun b hb hbG _ hv => (Below.heap_setCell _ _ _ _ (by simpa using fun e => hbG e)).trans (hap b hb hbG hv)
    have hV4 : Moves v (.slice (some ⟨gv, 0, none⟩) (L.length + 1) cv) w := by
      rcases hat with e | e
      · exact .inl e.symm
      · exact .inr ⟨gv, rfl, by rw [e]; first | omega | (simp; omega)⟩
    have HL := Lib.hid (show (((L.length + 1 : Nat) : Int) - 1 = ((L.length : Nat) : Int)) by omega)
    clear hown' hgrow hR3 c0 f0 e0 e1 e2 hap hat
    go_wp2_with (go_at_call 128; refine (iLast _ (L.length + 1) _ L.length (by omega) HL.out _).mono ?_; rintro e w' ⟨rfl, rfl⟩)
    go_ret
    exact ⟨_, rfl, ⟨hM4, hR4⟩, hB4, hA4, hV4⟩
set_option maxRecDepth 100000 in
set_option maxHeartbeats 8000000 in
theorem sPutS (B G M n : Nat) (v : Value) (cs : Nat → Value) (L : List Gt) (x : Gt) (w : World) (hl : L.length ≤ 5000) (hBG : B ≤ G) (h : MkS w G v n cs L) :
    Calls Try.prog 179 #[.pointer (some ⟨G, 0, none⟩), .agg #[.int .i64 x.k, .int .i64 x.a, .int .i64 x.b]] w (MkTo B G M n cs (L ++ [x]) v L.length w) := by
  obtain ⟨i0, hi, hz0, hz1, hz2⟩ := info_parts infoG
  obtain ⟨W, hW⟩ : ∃ W, W = w.alloc (Obj.cells #[.int .i64 x.k, .int .i64 x.a, .int .i64 x.b] 75) := ⟨_, rfl⟩
  have bW : Below w.heap.size w W := by rw [hW]; exact Below.alloc (Below.refl _ _) (Nat.le_refl _) _
  have e0 : W.cell? ⟨w.heap.size, 0, none⟩ = some (.int .i64 x.k) := by rw [hW]; simp [go_sem]
  have e1 : W.cell? ⟨w.heap.size, 1, none⟩ = some (.int .i64 x.a) := by rw [hW]; simp [go_sem]
  have e2 : W.cell? ⟨w.heap.size, 2, none⟩ = some (.int .i64 x.b) := by rw [hW]; simp [go_sem]
  have hM := h.sh.below bW
  have hR := h.row.below bW
  have hsW : w.heap.size < W.heap.size := by rw [hW]; simp
  have HW := Lib.hid hW
  have c0 := hM.c0
  have f0 := hM.f0
  have hG := hM.lt
  have HM := Lib.hid hM
  have HR := Lib.hid hR
  have HbW := Lib.hid bW
  have hGw : G + 1 ≤ w.heap.size := h.sh.lt
  clear hW hM hR bW h
  go_enter Try.func179, Try.ntmps179
  go_wp2_with fail
  rw [← HW.out]
  clear HW
  go_region_law (refine step_append_lies _ rfl _ _ 53 rfl (G + 1) 75 i0 (.agg #[.int .i64 0, .int .i64 0, .int .i64 0]) 3 24 Try.underlying53 hi hz0 hz1 hz2 rfl (by decide) v L.length (flatG L) (by simp [Act.eval]) (RowGt.below HR.out (by repeat (first | exact Below.refl _ _ | apply Below.drew | apply below_drewN | (refine Below.alloc ?_ (by first | omega | (simp <;> omega)) _)))) _ 1 1 [.int .i64 x.k, .int .i64 x.a, .int .i64 x.b] (by simp [Act.eval]; rfl) rfl (by intro j u hj; match j, hj with | 0, hj => (simp at hj; subst hj; simp [Addr.add, go_sem]) | 1, hj => (simp at hj; subst hj; simp [Addr.add, go_sem]) | 2, hj => (simp at hj; subst hj; simp [Addr.add, go_sem])) (gate_ok _ _ _) (by omega) (by unfold maxLen; omega) (by omega) (by first | omega | (simp; omega)) _ rfl ?_; intro gv cv w3 hown' hgrow hat _; have HS3 := Lib.hid ((ShW.below HM.out (by repeat (first | exact Below.refl _ _ | apply Below.drew | apply below_drewN | (refine Below.alloc ?_ (by first | omega | (simp <;> omega)) _)))).grown hgrow (HR.out.block (Nat.lt_succ_self G))); have k0 := HS3.out.c0; have k2 := HS3.out.f0; have k3 := HS3.out.lt; have hap : Apart G v w w3 := apart_of HbW.out (by repeat (first | exact Below.refl _ _ | apply Below.drew | apply below_drewN | (refine Below.alloc ?_ (by first | omega | (simp <;> omega)) _))) hgrow)
  all_goals
    have hR3 : RowGt w3 (G + 1) (.slice (some ⟨gv, 0, none⟩) (L.length + 1) cv) (L ++ [x]) := RowGt.snoc x hown'
    have hR4 := hR3.setFar (Nat.lt_succ_self G) 0 (.slice (some ⟨gv, 0, none⟩) (L.length + 1) cv)
    have hM4 : ShW (w3.setCell ⟨G, 0, none⟩ (.slice (some ⟨gv, 0, none⟩) (L.length + 1) cv)) G (.slice (some ⟨gv, 0, none⟩) (L.length + 1) cv) n cs := HS3.out.set _
    have hB4 : Below B w (w3.setCell ⟨G, 0, none⟩ (.slice (some ⟨gv, 0, none⟩) (L.length + 1) cv)) :=
      ((HR.out.grow (HbW.out.mono hGw) (by omega) (by repeat (first | exact Below.refl _ _ | apply Below.drew | apply below_drewN | (refine Below.alloc ?_ (by first | omega | (simp <;> omega)) _))) hgrow).mono (by omega)).setCell hBG _
    have hA4 : Apt G M v w (w3.setCell ⟨G, 0, none⟩ (.slice (some ⟨gv, 0, none⟩) (L.length + 1) cv)) := fun b hb hbG _ hv => (Below.heap_setCell _ _ _ _ (by simpa using fun e => hbG e)).trans (hap b hb hbG hv)
    have hV4 : Moves v (.slice (some ⟨gv, 0, none⟩) (L.length + 1) cv) w := by
      rcases hat with e | e
      · exact .inl e.symm
      · exact .inr ⟨gv, rfl, by rw [e]; first | omega | (simp; omega)⟩
    have HL := Lib.hid (show (((L.length + 1 : Nat) : Int) - 1 = ((L.length : Nat) : Int)) by omega)
    clear hown' hgrow hR3 c0 f0 e0 e1 e2 hap hat
    have hww : IntKind.i64.wrap (((L.length + 1 : Nat) : Int) - 1) = ((L.length : Nat) : Int) := by rw [IntWalk.i64_in _ (by omega)]; omega
    go_wp2_with fail
    go_ret
    exact ⟨_, rfl, ⟨hM4, hR4⟩, hB4, hA4, hV4⟩
end Go.Proofs.Ytegkcfinklcglaa
namespace Go.Proofs.Ytegkcfinklcglaa
open Go.RowKit
theorem MkTo.from {B G M n : Nat} {cs : Nat → Value} {C : List Gt} {v : Value} {r : Int} {w w1 w' : World} {e : Ending} (h : MkTo B G M n cs C v r w1 e w') (hb : Below w.heap.size w w1) (hB : B ≤ w.heap.size) : MkTo B G M n cs C v r w e w' := by
  obtain ⟨v', he, hm, hl, ha, hv⟩ := h
  exact ⟨v', he, hm, (hb.mono hB).trans hl, (Apt.of_below hb).trans ha (.inl rfl) hb.size, Moves.trans (.inl rfl) hv hb.size⟩
theorem Apt.get {w w1 : World} {n G M i : Nat} {v u : Value} (ha : Apt G M v w w1) (hn : n < w.heap.size) (hG : n ≠ G) (hM : n ≠ M) (hv : v.ownBlock ≠ some n) (h : w.cell? ⟨n, i, none⟩ = some u) : w1.cell? ⟨n, i, none⟩ = some u := by
  rw [World.cell?_of_block (a := ⟨n, i, none⟩) (ha n hn hG hM hv)]; exact h
theorem MkS.old {w : World} {G n b : Nat} {v : Value} {cs : Nat → Value} {C : List Gt} (h : MkS w G v n cs C) (hb : w.heap.size ≤ b) : v.ownBlock ≠ some b := fun e => by
  have := (World.ownsRow.lt h.row b e).2
  omega
theorem MkS.slice {w : World} {G n : Nat} {v : Value} {cs : Nat → Value} {C : List Gt} (h : MkS w G v n cs C) : ∃ a cap, v = .slice a C.length cap := by
  rcases h.row.shape with ⟨rfl, rfl⟩ | ⟨g, cap, rfl, _⟩
  · exact ⟨none, 0, rfl⟩
  · exact ⟨_, cap, rfl⟩
set_option maxRecDepth 100000 in
set_option maxHeartbeats 8000000 in
theorem sShare (B G M n : Nat) (v : Value) (cs : Nat → Value) (C : List Gt) (x : Gt) (w : World) (hl : C.length ≤ 500) (hBG : B ≤ G) (h : MkS w G v n cs C) :
    Calls Try.prog 186 #[.pointer (some ⟨G, 0, none⟩), .agg #[.int .i64 x.k, .int .i64 x.a, .int .i64 x.b]] w (MkTo B G M n cs (shr x C).2 v ((shr x C).1 : Nat) w) := by
  obtain ⟨W, hW⟩ : ∃ W, W = w.alloc (Obj.cells #[.int .i64 x.k, .int .i64 x.a, .int .i64 x.b] 75) := ⟨_, rfl⟩
  have bW : Below w.heap.size w W := by rw [hW]; exact Below.alloc (Below.refl _ _) (Nat.le_refl _) _
  have hT : GAt W w.heap.size 0 x := by rw [hW]; refine ⟨?_, ?_, ?_⟩ <;> simp [go_sem]
  have hsW : w.heap.size < W.heap.size := by rw [hW]; simp
  have HS := Lib.hid (fun w' (hb : Below W.heap.size W w') => show MkS w' G v n cs C ∧ GAt w' w.heap.size 0 x ∧ Below w.heap.size w w' from
    ⟨(h.below bW).below hb, hT.below hb hsW, bW.trans (hb.mono (Nat.le_of_lt hsW))⟩)
  have hBw : B ≤ w.heap.size := Nat.le_trans hBG (Nat.le_of_lt h.sh.lt)
  obtain ⟨a, cap, rfl⟩ := h.slice
  have HH := Lib.hid h
  have c0 := (h.below bW).sh.c0
  rw [hW] at c0
  have HW := Lib.hid hW
  have hl5 : (C.length : Int) ≤ 500 := by omega
  clear hW bW hT h
  go_enter Try.func186, Try.ntmps186
  go_wp2_with fail
  rw [← HW.out]
  clear HW c0
  go_loopw [12] (fun i wr => ∃ k : Nat, k ≤ C.length ∧ i = .int .i64 k ∧ Below W.heap.size W wr ∧ ∀ j : Nat, j < k → eqGt x (gAt C j) = false) (fun i _ => C.length - (intOf i).toNat)
  case atStart => exact ⟨0, by omega, rfl, Below.refl _ _, fun j hj => by omega⟩
  case round =>
    obtain ⟨k, hk, rfl, hb, hno⟩ := hrel
    have HN := Lib.hid hno
    have HB := Lib.hid hb
    obtain ⟨hM, hT, hL⟩ := HS.out wr hb
    clear hno hb
    by_cases hlt : k < C.length
    · have hltp : (k : Int) < (C.length : Int) := by omega
      have hk0 : (0 : Int) ≤ (k : Int) := by omega
      obtain ⟨g, hge⟩ : ∃ g, a = some ⟨g, 0, none⟩ := by
        rcases hM.row.shape with ⟨e, _⟩ | ⟨g, cap', e, _⟩
        · injection e with e1 e2 e3; omega
        · injection e with e1; exact ⟨g, e1⟩
      subst hge
      obtain ⟨d0, d1, d2⟩ := hM.row.tat rfl hlt
      obtain ⟨e0, e1, e2⟩ := hT
      simp only [Nat.zero_add] at e0 e1 e2
      obtain ⟨y, hy⟩ : ∃ y, y = C.getD k default := ⟨_, rfl⟩
      have HY := Lib.hid (show gAt C k = y from hy.symm)
      rw [← hy] at d0 d1 d2
      obtain ⟨yk, ya, yb⟩ := y
      obtain ⟨xk, xa, xb⟩ := x
      simp only at d0 d1 d2 e0 e1 e2
      have hEq := run_eqGt ⟨xk, xa, xb⟩ ⟨yk, ya, yb⟩
      clear hy hM hL
      have hsz := HB.out.size
      have hlt9 : w.heap.size < wr.heap.size := by omega
      have HL := Lib.hid (show Below W.heap.size W (wr.alloc (Obj.cells #[.int .i64 yk, .int .i64 ya, .int .i64 yb] 75)) from HB.out.trans ((Below.alloc (Below.refl _ _) (Nat.le_refl _) _ : Below wr.heap.size wr _).mono hsz))
      unfold Op.equal Gt.v at hEq
      simp only [Op.maxDepth] at hEq
      rcases Bool.eq_false_or_eq_true (eqGt ⟨xk, xa, xb⟩ ⟨yk, ya, yb⟩) with hq | hq
      · rw [hq] at hEq
        have HQ := Lib.hid hq
        clear hq hsz
        go_wp2_with fail
        go_ret
        obtain ⟨m1, -, m3⟩ := HS.out _ HL.out
        rw [shr_hit (ixG_hit HN.out hlt (by rw [HY.out]; exact HQ.out))]
        exact ⟨_, rfl, m1, m3.mono hBw, Apt.of_below m3, .inl rfl⟩
      · rw [hq] at hEq
        have HQ := Lib.hid hq
        clear hq hsz
        go_wp2_with fail
        go_roundw
        case rel =>
          refine ⟨k + 1, by omega, by go_num, HL.out, fun j hj => ?_⟩
          by_cases e : j = k
          · rw [e, HY.out]; exact HQ.out
          · exact HN.out j (by omega)
        case measure => simp [intOf]; omega
    · have hkl : k = C.length := by omega
      subst hkl
      obtain ⟨e0, e1, e2⟩ := hT
      simp only [Nat.zero_add] at e0 e1 e2
      have hsz := HB.out.size
      have hlt9 : w.heap.size < wr.heap.size := by omega
      have HP := Lib.hid ((sPutS B G M n _ cs C x wr (by omega) hBG hM).mono fun e w' h => h.from hL hBw)
      clear hM hL hsz
      go_wp2_with fail
      refine HP.out.mono ?_
      rintro e w2 ⟨v2, rfl, hm2, hl2, hh2⟩
      have H2 := Lib.hid (And.intro hm2 (And.intro hl2 hh2))
      clear hm2 hl2 hh2 e0 e1 e2
      go_wp2_with fail
      go_ret
      rw [shr_new (ixG_none HN.out)]
      exact ⟨_, rfl, H2.out.1, H2.out.2.1, H2.out.2.2⟩
end Go.Proofs.Ytegkcfinklcglaa
