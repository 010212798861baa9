/-
  A region that draws its order, of operations without guards, whose last one waits for all the others: the others one after the other in an order of one's own, those that yield the same in every world of a class taken first, the last one behind them. Conditions: the order's edges, as one Bool.
  A region that draws its order, whose last operation waits for all the others: walked by a plan, which forks where two operations may come up. Conditions: the plan's edges, as one Bool.
  Contracts of the exact laws' helpers on lists of terms, on: szPoly, toPoly, eqPoly. Conditions: what the slices hold is known.
  Contracts of the exact laws' helpers on lists of terms, on: markPoly, heldPoly. Conditions: what the slices hold is known.
  Gates flat in memory: contracts of the exact laws' helpers on gates and lists of gates. Conditions: what the slices hold is known.
  Contracts of the exact laws' helpers on lists of gates, on: markCircuit, heldCircuit. Conditions: what the slices hold is known.
  What the walks of the exact laws need of slices of terms, gates and integers: sizes, marks. Conditions: what the slices hold is known.
  Slices of numbers that a law takes: copied, marked. Conditions: none.
-/
import Derived.Test.YtfmpcniehgipfaaBf3
import Derived.Deep.RegionHeld3
namespace Go.Proofs.Ytfmpcniehgipfaa
open Go.RowKit
/-- may the operations come up in this order: those with 'true' taken first, the others alone -/
def seqB (md : Region.Mode) (ops : Array Oper) : List (Nat × Bool) → Array Bool → Bool
  | [], listed => (Region.ready md ops listed).isEmpty
  | (i, b) :: r, listed => (if b then (Region.ready md ops listed).contains i && Region.free md ops listed i else Region.ready md ops listed == [i]) && seqB md ops r (listed.setIfInBounds i true)
section
variable {P : Program} {ops : Array Oper} {S : World → Prop} {Q : Exit → Act → World → Prop}
/-- the walk: 'all' has the operations, perhaps more than are walked -/
def wpSeq (P : Program) (all : Array Oper) (S : World → Prop) (Q : Exit → Act → World → Prop) : List (Nat × Bool) → Act → World → Prop
  | [], a, w => Q .normal a w
  | (i, true) :: r, a, w => ∃ o v, all[i]? = some o ∧ (∀ w', S w' → (execOp a.eval o).run P w' = .ok (.value v) w') ∧ wpSeq P all S Q r (a.put o.dst v) w
  | (i, false) :: r, a, w => ∃ o, all[i]? = some o ∧ o.wp P a w (fun a' w' => S w' ∧ wpSeq P all S Q r a' w') Q
theorem wpSeq_take {all : Array Oper} {i : Nat} {r : List (Nat × Bool)} {a : Act} {w : World} {o : Oper} {v : Value} (ho : all[i]? = some o) (hy : ∀ w', S w' → (execOp a.eval o).run P w' = .ok (.value v) w')
    (h : wpSeq P all S Q r (a.put o.dst v) w) : wpSeq P all S Q ((i, true) :: r) a w := ⟨o, v, ho, hy, h⟩
theorem wpSeq_do {all : Array Oper} {i : Nat} {r : List (Nat × Bool)} {a : Act} {w : World} {o : Oper} (ho : all[i]? = some o)
    (h : ∀ K : Act → World → Prop, (∀ a' w', S w' → wpSeq P all S Q r a' w' → K a' w') → o.wp P a w K Q) : wpSeq P all S Q ((i, false) :: r) a w :=
  ⟨o, ho, h _ fun _ _ h1 h2 => ⟨h1, h2⟩⟩
theorem wpSeq_nil {all : Array Oper} {a : Act} {w : World} (h : Q .normal a w) : wpSeq P all S Q [] a w := h
theorem wpAnyH_seq {md : Region.Mode} {all : Array Oper} (hs : Region.noSelect ops = true) (hg : ∀ (i : Nat) (o : Oper), ops[i]? = some o → o.guard = none) (hall : ∀ (i : Nat), i < ops.size → all[i]? = ops[i]?)
    (hQ : ∀ c (a : Act) d v w, Q (.panic c) (a.put d v) w → Q (.panic c) a w) : ∀ (l : List (Nat × Bool)) (listed : Array Bool) (a : Act) (w : World), seqB md ops l listed = true → S w → wpSeq P all S Q l a w → wpAnyH P md ops Q S l.length listed a w
  | [], listed, a, w, hb, _, h => by
    have : Region.ready md ops listed = [] := by simpa [seqB] using hb
    exact ⟨this, h⟩
  | (i, true) :: r, listed, a, w, hb, hS, h => by
    simp only [seqB, if_true, Bool.and_eq_true] at hb
    obtain ⟨⟨h1, h2⟩, h3⟩ := hb
    obtain ⟨o, v, ho, hy, hr⟩ := h
    have hlt : i < ops.size := by
      have h1' : i ∈ Region.ready md ops listed := by simpa using h1
      obtain ⟨_, o', ho', _⟩ := mem_ready.1 h1'
      exact (Array.getElem?_eq_some_iff.1 ho').1
    rw [hall i hlt] at ho
    have hw : Region.wanted o (yielded ops a.tmps) = true := by simp [Region.wanted, hg i o ho]
    exact wpAnyH_take ho hs h2 h1 (fun c a w hq => hQ c a _ _ w hq) (.inl ⟨hw, hy⟩) hS (wpAnyH_seq hs hg hall hQ r _ _ w h3 hS hr)
  | (i, false) :: r, listed, a, w, hb, hS, h => by
    simp only [seqB, Bool.false_eq_true, if_false, Bool.and_eq_true, beq_iff_eq] at hb
    obtain ⟨h1, h3⟩ := hb
    obtain ⟨o, ho, hr⟩ := h
    have hlt : i < ops.size := by
      have h1' : i ∈ Region.ready md ops listed := by rw [h1]; simp
      obtain ⟨_, o', ho', _⟩ := mem_ready.1 h1'
      exact (Array.getElem?_eq_some_iff.1 ho').1
    rw [hall i hlt] at ho
    have hw : Region.wanted o (yielded ops a.tmps) = true := by simp [Region.wanted, hg i o ho]
    refine wpAnyH_all h1 (by simp) fun j hj => ?_
    have hji : j = i := by simpa using hj
    subst hji
    unfold wpOp
    rw [ho]
    simp only []
    rw [if_pos hw]
    refine .inl (Oper.wp_mono (fun a' w' h' => ⟨h'.1, wpAnyH_seq hs hg hall hQ r _ a' w' h3 h'.1 h'.2⟩) hr)
end
/-- the Bool over a region -/
def seqReg (ops : List Oper) (l : List (Nat × Bool)) : Bool := match ops.getLast? with
  | some o => Region.noSelect ops.dropLast.toArray && ops.all (fun x => x.guard.isNone) && l.length == ops.dropLast.length && lastB .any ops.dropLast o &&
      seqB .any ops.dropLast.toArray l (Array.replicate ops.dropLast.length false)
  | none => false
/-- the last operation of a list -/
def lastOf : List Oper → Option Oper
  | [] => none
  | [o] => some o
  | _ :: b :: r => lastOf (b :: r)
theorem lastOf_eq : ∀ ops : List Oper, lastOf ops = ops.getLast?
  | [] => rfl
  | [o] => rfl
  | a :: b :: r => by rw [lastOf, lastOf_eq (b :: r)]; simp [List.getLast?_cons_cons]
theorem wp_region_seq {P : Program} {ops : List Oper} {id : Nat} {Q : Exit → Act → World → Prop} {a : Act} {w : World} (l : List (Nat × Bool)) (S : World → Prop) {o : Oper} (hm : P.follows .mixedOrders = true) (hB : seqReg ops l = true) (ho : lastOf ops = some o)
    (hQ : ∀ c (a : Act) d v w, Q (.panic c) (a.put d v) w → Q (.panic c) a w) (hS : S w.drew)
    (h : wpSeq P ops.toArray S (Exit.then (fun a w => wpList P [o].toArray Q [o] a w) Q) l a w.drew) : (Code.region id ops.toArray true).wp P Q a w := by
  rw [lastOf_eq] at ho
  unfold seqReg at hB
  rw [ho] at hB
  obtain ⟨l0, rfl⟩ := List.getLast?_eq_some_iff.1 ho
  simp only [List.dropLast_concat, Bool.and_eq_true, beq_iff_eq] at hB
  obtain ⟨⟨⟨⟨h1, h2⟩, h3⟩, h4⟩, h5⟩ := hB
  have hin := lastIn_of h4
  have hg : ∀ (i : Nat) (x : Oper), l0.toArray[i]? = some x → x.guard = none := fun i x hx => by
    have hm : x ∈ l0 := by
      have := (Array.getElem?_eq_some_iff.1 hx)
      obtain ⟨hi, rfl⟩ := this
      simp
    have := List.all_eq_true.1 h2 x (by simp [hm])
    simpa using this
  have hh := wpAnyH_seq (P := P) (ops := l0.toArray) (all := (l0 ++ [o]).toArray) (md := .any) (S := S) (Q := Exit.then (Behind P o Q) Q) h1 hg (fun i hi => by
    have : i < l0.length := by simpa using hi
    simp [List.getElem?_append_left, this]) (fun c a d v w hq => hQ c a d v w hq) l (Array.replicate l0.length false) a w.drew h5 hS h
  rw [h3] at hh
  refine wp_region_any hm ?_
  have := wpAny_last hin l0.length (Array.replicate l0.length false) a _ (by simp) (by
    intro j oj hj ht
    have hlt := (List.getElem?_eq_some_iff.1 hj).1
    simp [Array.getD, hlt] at ht) (wpAny_of_held _ _ _ _ hh)
  simpa [Array.replicate_succ] using this
end Go.Proofs.Ytfmpcniehgipfaa
namespace Go.Proofs.Ytfmpcniehgipfaa
set_option linter.unusedVariables false
open Go.RowKit
inductive Plan where
  | fin
  | take (i : Nat) (r : Plan)
  | one (i : Nat) (r : Plan)
  | two (i j : Nat) (r s : Plan)
def Plan.len : Plan → Nat
  | .fin => 0
  | .take _ r => r.len + 1
  | .one _ r => r.len + 1
  | .two _ _ r _ => r.len + 1
/-- may the operations come up as the plan says -/
def planB (md : Region.Mode) (ops : Array Oper) : Plan → Array Bool → Bool
  | .fin, listed => (Region.ready md ops listed).isEmpty
  | .take i r, listed => (Region.ready md ops listed).contains i && Region.free md ops listed i && planB md ops r (listed.setIfInBounds i true)
  | .one i r, listed => Region.ready md ops listed == [i] && planB md ops r (listed.setIfInBounds i true)
  | .two i j r s, listed => Region.ready md ops listed == [i, j] && r.len == s.len && planB md ops r (listed.setIfInBounds i true) && planB md ops s (listed.setIfInBounds j true)
/-- the walk -/
def wpPlan (P : Program) (all : Array Oper) (S : World → Prop) (Q : Exit → Act → World → Prop) : Plan → Act → World → Prop
  | .fin, a, w => Q .normal a w
  | .take i r, a, w => ∃ o v, all[i]? = some o ∧ (∀ w', S w' → (execOp a.eval o).run P w' = .ok (.value v) w') ∧ wpPlan P all S Q r (a.put o.dst v) w
  | .one i r, a, w => ∃ o, all[i]? = some o ∧ o.wp P a w (fun a' w' => S w' ∧ wpPlan P all S Q r a' w') Q
  | .two i j r s, a, w => (∃ o, all[i]? = some o ∧ o.wp P a w (fun a' w' => S w' ∧ wpPlan P all S Q r a' w') Q) ∧ ∃ o, all[j]? = some o ∧ o.wp P a w (fun a' w' => S w' ∧ wpPlan P all S Q s a' w') Q
section
variable {P : Program} {ops : Array Oper} {S : World → Prop} {Q : Exit → Act → World → Prop}
theorem wpPlan_take {all : Array Oper} {i : Nat} {r : Plan} {a : Act} {w : World} {o : Oper} {v : Value} (ho : all[i]? = some o) (hy : ∀ w', S w' → (execOp a.eval o).run P w' = .ok (.value v) w')
    (h : wpPlan P all S Q r (a.put o.dst v) w) : wpPlan P all S Q (.take i r) a w := ⟨o, v, ho, hy, h⟩
theorem wpPlan_do {all : Array Oper} {i : Nat} {r : Plan} {a : Act} {w : World} {o : Oper} (ho : all[i]? = some o)
    (h : ∀ K : Act → World → Prop, (∀ a' w', S w' → wpPlan P all S Q r a' w' → K a' w') → o.wp P a w K Q) : wpPlan P all S Q (.one i r) a w :=
  ⟨o, ho, h _ fun _ _ h1 h2 => ⟨h1, h2⟩⟩
theorem wpPlan_two {all : Array Oper} {i j : Nat} {r s : Plan} {a : Act} {w : World} (h1 : wpPlan P all S Q (.one i r) a w) (h2 : wpPlan P all S Q (.one j s) a w) : wpPlan P all S Q (.two i j r s) a w := ⟨h1, h2⟩
theorem wpPlan_fin {all : Array Oper} {a : Act} {w : World} (h : Q .normal a w) : wpPlan P all S Q .fin a w := h
theorem wpAnyH_plan {md : Region.Mode} {all : Array Oper} (hs : Region.noSelect ops = true) (hg : ∀ (i : Nat) (o : Oper), ops[i]? = some o → o.guard = none) (hall : ∀ (i : Nat), i < ops.size → all[i]? = ops[i]?)
    (hQ : ∀ c (a : Act) d v w, Q (.panic c) (a.put d v) w → Q (.panic c) a w) : ∀ (l : Plan) (listed : Array Bool) (a : Act) (w : World), planB md ops l listed = true → S w → wpPlan P all S Q l a w → wpAnyH P md ops Q S l.len listed a w := by
  have hat : ∀ (listed : Array Bool) k, k ∈ Region.ready md ops listed → k < ops.size := fun listed k hk => by
    obtain ⟨_, o', ho', _⟩ := mem_ready.1 hk
    exact (Array.getElem?_eq_some_iff.1 ho').1
  have key : ∀ (i : Nat) (o : Oper) (a : Act) (w : World) (K : Act → World → Prop), i < ops.size → all[i]? = some o → o.wp P a w K Q → wpOp P ops Q i K a w := fun i o a w K hi ho hr => by
    rw [hall i hi] at ho
    have hw : Region.wanted o (yielded ops a.tmps) = true := by simp [Region.wanted, hg i o ho]
    unfold wpOp
    rw [ho]
    simp only []
    rw [if_pos hw]
    exact .inl hr
  intro l
  induction l with
  | fin =>
    intro listed a w hb _ h
    have : Region.ready md ops listed = [] := by simpa [planB] using hb
    exact ⟨this, h⟩
  | take i r ih =>
    intro listed a w hb hS h
    simp only [planB, Bool.and_eq_true] at hb
    obtain ⟨⟨h1, h2⟩, h3⟩ := hb
    obtain ⟨o, v, ho, hy, hr⟩ := h
    have hlt := hat listed i (by simpa using h1)
    rw [hall i hlt] at ho
    have hw : Region.wanted o (yielded ops a.tmps) = true := by simp [Region.wanted, hg i o ho]
    exact wpAnyH_take ho hs h2 h1 (fun c a w hq => hQ c a _ _ w hq) (.inl ⟨hw, hy⟩) hS (ih _ _ w h3 hS hr)
  | one i r ih =>
    intro listed a w hb hS h
    simp only [planB, Bool.and_eq_true, beq_iff_eq] at hb
    obtain ⟨h1, h3⟩ := hb
    obtain ⟨o, ho, hr⟩ := h
    refine wpAnyH_all h1 (by simp) fun j hj => ?_
    have hji : j = i := by simpa using hj
    subst hji
    exact key j o a w _ (hat listed j (by rw [h1]; simp)) ho (Oper.wp_mono (fun a' w' h' => ⟨h'.1, ih _ a' w' h3 h'.1 h'.2⟩) hr)
  | two i j r s ih1 ih2 =>
    intro listed a w hb hS h
    simp only [planB, Bool.and_eq_true, beq_iff_eq] at hb
    obtain ⟨⟨⟨h1, hl⟩, h3⟩, h4⟩ := hb
    obtain ⟨⟨o1, ho1, hr1⟩, o2, ho2, hr2⟩ := h
    refine wpAnyH_all h1 (by simp) fun k hk => ?_
    have hk' : k = i ∨ k = j := by simpa using hk
    rcases hk' with rfl | rfl
    · exact key k o1 a w _ (hat listed k (by rw [h1]; simp)) ho1 (Oper.wp_mono (fun a' w' h' => ⟨h'.1, ih1 _ a' w' h3 h'.1 h'.2⟩) hr1)
    · refine key k o2 a w _ (hat listed k (by rw [h1]; simp)) ho2 (Oper.wp_mono (fun a' w' h' => ⟨h'.1, ?_⟩) hr2)
      have := ih2 _ a' w' h4 h'.1 h'.2
      rwa [← hl] at this
end
def planReg (ops : List Oper) (l : Plan) : Bool := match ops.getLast? with
  | some o => Region.noSelect ops.dropLast.toArray && ops.all (fun x => x.guard.isNone) && l.len == ops.dropLast.length && lastB .any ops.dropLast o &&
      planB .any ops.dropLast.toArray l (Array.replicate ops.dropLast.length false)
  | none => false
theorem wp_region_plan {P : Program} {ops : List Oper} {id : Nat} {Q : Exit → Act → World → Prop} {a : Act} {w : World} (l : Plan) (S : World → Prop) {o : Oper} (hm : P.follows .mixedOrders = true) (hB : planReg ops l = true) (ho : lastOf ops = some o)
    (hQ : ∀ c (a : Act) d v w, Q (.panic c) (a.put d v) w → Q (.panic c) a w) (hS : S w.drew)
    (h : wpPlan P ops.toArray S (Exit.then (fun a w => wpList P [o].toArray Q [o] a w) Q) l a w.drew) : (Code.region id ops.toArray true).wp P Q a w := by
  rw [lastOf_eq] at ho
  unfold planReg at hB
  rw [ho] at hB
  obtain ⟨l0, rfl⟩ := List.getLast?_eq_some_iff.1 ho
  simp only [List.dropLast_concat, Bool.and_eq_true, beq_iff_eq] at hB
  obtain ⟨⟨⟨⟨h1, h2⟩, h3⟩, h4⟩, h5⟩ := hB
  have hin := lastIn_of h4
  have hg : ∀ (i : Nat) (x : Oper), l0.toArray[i]? = some x → x.guard = none := fun i x hx => by
    have hm : x ∈ l0 := by
      have := (Array.getElem?_eq_some_iff.1 hx)
      obtain ⟨hi, rfl⟩ := this
      simp
    have := List.all_eq_true.1 h2 x (by simp [hm])
    simpa using this
  have hh := wpAnyH_plan (P := P) (ops := l0.toArray) (all := (l0 ++ [o]).toArray) (md := .any) (S := S) (Q := Exit.then (Behind P o Q) Q) h1 hg (fun i hi => by
    have : i < l0.length := by simpa using hi
    simp [List.getElem?_append_left, this]) (fun c a d v w hq => hQ c a d v w hq) l (Array.replicate l0.length false) a w.drew h5 hS h
  rw [h3] at hh
  refine wp_region_any hm ?_
  have := wpAny_last hin l0.length (Array.replicate l0.length false) a _ (by simp) (by
    intro j oj hj ht
    have hlt := (List.getElem?_eq_some_iff.1 hj).1
    simp [Array.getD, hlt] at ht) (wpAny_of_held _ _ _ _ hh)
  simpa [Array.replicate_succ] using this
end Go.Proofs.Ytfmpcniehgipfaa
namespace Go.Proofs.Ytfmpcniehgipfaa
open Go.RowKit
/-- a call hands back a slice of terms of its own -/
def GivesTrms (L : List Trm) (w : World) (e : Ending) (w' : World) : Prop :=
  ∃ v, e = .returned v ∧ OwnTrms w' w.heap.size v L ∧ Below w.heap.size w w'
theorem made_some (z0 : Array Value) (n i : Nat) (h : i < n) : ∃ u, (madeCells z0 n).toList[i]? = some u := by
  have : i < (madeCells z0 n).toList.length := by simp [size_madeCells, h]
  exact ⟨_, List.getElem?_eq_getElem this⟩
theorem keepTT {W w1 : World} {g1 o1 g2 o2 : Nat} {x y : Trm} (hb : Below W.heap.size W w1) (h1 : g1 < W.heap.size) (h2 : g2 < W.heap.size) (h : TAt W g1 o1 x ∧ TAt W g2 o2 y) : TAt w1 g1 o1 x ∧ TAt w1 g2 o2 y :=
  ⟨h.1.below hb h1, h.2.below hb h2⟩
set_option maxHeartbeats 4000000 in
theorem eqP_same (g1 o1 c1 g2 o2 c2 : Nat) (L : List Trm) (w : World) (hl : L.length ≤ 1048576) (hg1 : g1 < w.heap.size) (hg2 : g2 < w.heap.size)
    (h1 : ∀ j : Nat, j < L.length → TAt w g1 (o1 + j * 4) (L.getD j default)) (h2 : ∀ j : Nat, j < L.length → TAt w g2 (o2 + j * 4) (L.getD j default)) :
    Calls Try.prog 49 #[.slice (some ⟨g1, o1, none⟩) L.length c1, .slice (some ⟨g2, o2, none⟩) L.length c2] w fun e w' => e = .returned (.bool true) ∧ Below w.heap.size w w' := by
  have H1 := Lib.hid h1
  have H2 := Lib.hid h2
  clear h1 h2
  go_enter Try.func49, Try.ntmps49
  go_wp2_with fail
  go_loopw [5] (fun i wr => ∃ k : Nat, k ≤ L.length ∧ i = .int .i64 k ∧ Below w.heap.size w wr) (fun i _ => L.length - (intOf i).toNat)
  case atStart => exact ⟨0, by omega, rfl, Below.refl _ _⟩
  case round =>
    obtain ⟨k, hk, rfl, hb⟩ := hrel
    by_cases hlt : k < L.length
    · have hltp : (k : Int) < (L.length : Int) := by omega
      have hk0 : (0 : Int) ≤ (k : Int) := by omega
      obtain ⟨a0, a1, a2, a3⟩ := (H1.out k hlt).below hb hg1
      obtain ⟨b0, b1, b2, b3⟩ := (H2.out k hlt).below hb hg2
      obtain ⟨x, hx⟩ : ∃ x, x = L.getD k default := ⟨_, rfl⟩
      rw [← hx] at a0 a1 a2 a3 b0 b1 b2 b3
      clear hx
      have hr1 : g1 < wr.heap.size := Nat.lt_of_lt_of_le hg1 hb.size
      have hr2 : g2 < wr.heap.size := Nat.lt_of_lt_of_le hg2 hb.size
      have Hb := Lib.hid hb
      clear hb
      go_wp2_with fail
      go_region_held3 (fun w' => (w'.cell? ⟨g1, o1 + k * 4, none⟩ = some (.int .i64 x.a) ∧ w'.cell? ⟨g1, o1 + k * 4 + 1, none⟩ = some (.int .i64 x.b) ∧ w'.cell? ⟨g1, o1 + k * 4 + 2, none⟩ = some (.int .i64 x.c) ∧ w'.cell? ⟨g1, o1 + k * 4 + 3, none⟩ = some (.int .i64 x.t)) ∧ w'.cell? ⟨g2, o2 + k * 4, none⟩ = some (.int .i64 x.a) ∧ w'.cell? ⟨g2, o2 + k * 4 + 1, none⟩ = some (.int .i64 x.b) ∧ w'.cell? ⟨g2, o2 + k * 4 + 2, none⟩ = some (.int .i64 x.c) ∧ w'.cell? ⟨g2, o2 + k * 4 + 3, none⟩ = some (.int .i64 x.t)) (first | go_keep | exact keepTT hb1 (by simpa using hr1) (by simpa using hr2) (by assumption))
        (first | (go_at_call 100; refine (eqT x.a x.b x.c x.t x.a x.b x.c x.t _).mono ?_; rintro e w1 ⟨rfl, hb1⟩))
      have hs := Hb.out.size
      have hbb : Below w.heap.size w _ := Below.trans (by repeat (first | exact Hb.out | apply Below.drew | apply below_drewN)) (hb1.mono (by simpa using hs))
      go_wp2
      go_roundw
      case rel => exact ⟨k + 1, by omega, by go_num, by repeat (first | exact hbb | apply Below.drew | apply below_drewN)⟩
      case measure => simp [intOf]; omega
    · go_wp2
      go_ret
      exact ⟨rfl, hb⟩
theorem eqP_nil (a1 a2 : Option Addr) (c1 c2 : Nat) (w : World) :
    Calls Try.prog 49 #[.slice a1 0 c1, .slice a2 0 c2] w fun e w' => e = .returned (.bool true) ∧ Below w.heap.size w w' := by
  go_enter Try.func49, Try.ntmps49
  go_wp2_with fail
  go_loop [5] (fun i => i = .int .i64 0) (fun _ => 0)
  case atStart => rfl
  case round =>
    obtain rfl := hrel
    go_wp2
    go_ret
    exact ⟨rfl, Below.refl _ _⟩
/-- two slices that read as one list are found equal -/
theorem eqP (v1 v2 : Value) (L : List Trm) (w : World) (h1 : Trms w v1 L) (h2 : Trms w v2 L) :
    Calls Try.prog 49 #[v1, v2] w fun e w' => e = .returned (.bool true) ∧ Below w.heap.size w w' := by
  obtain ⟨hl, a1, c1, rfl, h1⟩ := h1
  obtain ⟨_, a2, c2, rfl, h2⟩ := h2
  rcases h1 with rfl | ⟨g1, o1, rfl, hg1, h1⟩
  · exact eqP_nil a1 a2 c1 c2 w
  · rcases h2 with rfl | ⟨g2, o2, rfl, hg2, h2⟩
    · exact eqP_nil _ a2 c1 c2 w
    · exact eqP_same g1 o1 c1 g2 o2 c2 L w hl hg1 hg2 h1 h2
end Go.Proofs.Ytfmpcniehgipfaa
namespace Go.Proofs.Ytfmpcniehgipfaa
open Go.RowKit
/-- the term that markPoly writes in the place j -/
def mk4 (k : Int) (j : Nat) : Trm := ⟨k + 4 * (j : Int), k + 4 * (j : Int) + 1, k + 4 * (j : Int) + 1 + 1, k + 4 * (j : Int) + 1 + 1 + 1⟩
structure MarkT (g off n : Nat) (k : Int) (j : Nat) (w wr : World) : Prop where
  done : ∀ i : Nat, i < j → TAt wr g (off + i * 4) (mk4 k i)
  cells : ∀ i : Nat, i < n * 4 → ∃ x, wr.cell? ⟨g, off + i, none⟩ = some x
  froz : ∀ a, wr.frozen? a = w.frozen? a
  far : ∀ b, b ≠ g → wr.heap[b]? = w.heap[b]?
  size : wr.heap.size = w.heap.size
  os : wr.os = w.os
  tape : wr.tape = w.tape
  output : wr.output = w.output
theorem putT_heap (w : World) (G o : Nat) (x : Trm) (b : Nat) (h : b ≠ G) : (putT w G o x).heap[b]? = w.heap[b]? := by
  unfold putT
  rw [Below.heap_setCell _ _ _ _ h, Below.heap_setCell _ _ _ _ h, Below.heap_setCell _ _ _ _ h, Below.heap_setCell _ _ _ _ h]
theorem MarkT.step {g off n : Nat} {k : Int} {j : Nat} {w wr : World} (h : MarkT g off n k j w wr) (hj : j < n) : MarkT g off n k (j + 1) w (putT wr g (off + j * 4) (mk4 k j)) := by
  have hs : ∀ d, d < 4 → ∃ u, wr.cell? ⟨g, off + j * 4 + d, none⟩ = some u := fun d hd => by
    obtain ⟨u, hu⟩ := h.cells (j * 4 + d) (by omega)
    exact ⟨u, by rw [Nat.add_assoc]; exact hu⟩
  constructor
  · intro i hi
    by_cases e : i = j
    · subst e; exact putT_at _ _ _ _ hs
    · obtain ⟨h0, h1, h2, h3⟩ := h.done i (by omega)
      refine ⟨?_, ?_, ?_, ?_⟩
      all_goals rw [putT_far _ _ _ _ _ _ (by omega)]; assumption
  · intro i hi
    by_cases e : i < j * 4 ∨ j * 4 + 4 ≤ i
    · obtain ⟨u, hu⟩ := h.cells i hi
      exact ⟨u, by rw [putT_far _ _ _ _ _ _ (by omega)]; exact hu⟩
    · obtain ⟨h0, h1, h2, h3⟩ := putT_at wr g (off + j * 4) (mk4 k j) hs
      have : i = j * 4 ∨ i = j * 4 + 1 ∨ i = j * 4 + 2 ∨ i = j * 4 + 3 := by omega
      rcases this with rfl | rfl | rfl | rfl
      · exact ⟨_, h0⟩
      · exact ⟨_, h1⟩
      · exact ⟨_, h2⟩
      · exact ⟨_, h3⟩
  · intro a; rw [putT_frozen]; exact h.froz a
  · intro b hb; rw [putT_heap _ _ _ _ _ hb]; exact h.far b hb
  · rw [putT_size]; exact h.size
  · exact h.os
  · exact h.tape
  · exact h.output
set_option maxHeartbeats 4000000 in
theorem markT (g off n cap : Nat) (k : Int) (w : World) (hn : n ≤ 1048576) (hk0 : 0 ≤ k) (hk1 : k ≤ 1000000000000)
    (hc : ∀ i : Nat, i < n * 4 → ∃ x, w.cell? ⟨g, off + i, none⟩ = some x) (hf : ∀ i : Nat, i < n * 4 → w.frozen? ⟨g, off + i, none⟩ = false) :
    Calls Try.prog 50 #[.slice (some ⟨g, off, none⟩) n cap, .int .i64 k] w fun e w' => e = .returned (.int .i64 (k + 4 * (n : Int))) ∧ MarkT g off n k n w w' := by
  have h0 : MarkT g off n k 0 w w := ⟨fun i hi => by omega, hc, fun _ => rfl, fun _ _ => rfl, rfl, rfl, rfl, rfl⟩
  have hF := Lib.hid hf
  clear hc hf
  go_enter Try.func50, Try.ntmps50
  go_wp2_with fail
  go_loopw [1, 5] (fun q i wr => ∃ j : Nat, j ≤ n ∧ i = .int .i64 j ∧ q = .int .i64 (k + 4 * (j : Int)) ∧ MarkT g off n k j w wr) (fun _ i _ => n - (intOf i).toNat)
  case atStart => exact ⟨0, by omega, rfl, by simp, h0⟩
  case round =>
    obtain ⟨j, hj, rfl, rfl, hR⟩ := hrel
    clear h0
    by_cases hlt : j < n
    · have hltp : (j : Int) < (n : Int) := by omega
      have hj0 : (0 : Int) ≤ (j : Int) := by omega
      obtain ⟨u0, c0⟩ := hR.cells (j * 4) (by omega)
      obtain ⟨u1, c1⟩ := hR.cells (j * 4 + 1) (by omega)
      obtain ⟨u2, c2⟩ := hR.cells (j * 4 + 2) (by omega)
      obtain ⟨u3, c3⟩ := hR.cells (j * 4 + 3) (by omega)
      rw [← Nat.add_assoc] at c1 c2 c3
      have f0 : wr.frozen? ⟨g, off + j * 4, none⟩ = false := by rw [hR.froz]; exact hF.out _ (by omega)
      have f1 : wr.frozen? ⟨g, off + j * 4 + 1, none⟩ = false := by rw [hR.froz, Nat.add_assoc]; exact hF.out _ (by omega)
      have f2 : wr.frozen? ⟨g, off + j * 4 + 2, none⟩ = false := by rw [hR.froz, Nat.add_assoc]; exact hF.out _ (by omega)
      have f3 : wr.frozen? ⟨g, off + j * 4 + 3, none⟩ = false := by rw [hR.froz, Nat.add_assoc]; exact hF.out _ (by omega)
      have hS := Lib.hid (hR.step hlt)
      clear hR
      go_wp2_with fail
      refine wp_loop_rounds 4 ?_
      iterate 4 (rw [rounds_succ]; go_wp2)
      go_roundw
      case rel => exact ⟨j + 1, by omega, by go_num, by go_num, hS.out⟩
      case measure => simp [intOf]; omega
    · have hjn : j = n := by omega
      subst hjn
      go_wp2
      go_ret
      exact ⟨rfl, hR⟩
theorem markTnil (a : Option Addr) (cap : Nat) (k : Int) (w : World) :
    Calls Try.prog 50 #[.slice a 0 cap, .int .i64 k] w fun e w' => e = .returned (.int .i64 k) ∧ w = w' := by
  go_enter Try.func50, Try.ntmps50
  go_wp2_with fail
  go_loop [1, 5] (fun q i => i = .int .i64 0 ∧ q = .int .i64 k) (fun _ _ => 0)
  case atStart => exact ⟨rfl, rfl⟩
  case round =>
    obtain ⟨rfl, rfl⟩ := hrel
    go_wp2_with fail
    go_ret
    exact ⟨rfl, rfl⟩
set_option maxHeartbeats 4000000 in
theorem heldT (g off n cap : Nat) (k : Int) (w : World) (hn : n ≤ 1048576) (hk0 : 0 ≤ k) (hk1 : k ≤ 1000000000000)
    (hc : ∀ i : Nat, i < n → TAt w g (off + i * 4) (mk4 k i)) :
    Calls Try.prog 51 #[.slice (some ⟨g, off, none⟩) n cap, .int .i64 k] w fun e w' => e = .returned (.int .i64 (k + 4 * (n : Int))) ∧ w = w' := by
  have hC := Lib.hid hc
  clear hc
  go_enter Try.func51, Try.ntmps51
  go_wp2_with fail
  go_loop [1, 5] (fun q i => ∃ j : Nat, j ≤ n ∧ i = .int .i64 j ∧ q = .int .i64 (k + 4 * (j : Int))) (fun _ i => n - (intOf i).toNat)
  case atStart => exact ⟨0, by omega, rfl, by simp⟩
  case round =>
    obtain ⟨j, hj, rfl, rfl⟩ := hrel
    by_cases hlt : j < n
    · have hltp : (j : Int) < (n : Int) := by omega
      have hj0 : (0 : Int) ≤ (j : Int) := by omega
      obtain ⟨c0, c1, c2, c3⟩ := hC.out j hlt
      simp only [mk4] at c0 c1 c2 c3
      have n0 : (k + 4 * (j : Int) != k + 4 * (j : Int)) = false := by simp
      have n1 : (k + 4 * (j : Int) + 1 != k + 4 * (j : Int) + 1) = false := by simp
      have n2 : (k + 4 * (j : Int) + 1 + 1 != k + 4 * (j : Int) + 1 + 1) = false := by simp
      have n3 : (k + 4 * (j : Int) + 1 + 1 + 1 != k + 4 * (j : Int) + 1 + 1 + 1) = false := by simp
      go_wp2_with fail
      refine wp_loop_rounds 4 ?_
      iterate 4 (rw [rounds_succ]; go_wp2)
      go_round
      case rel => exact ⟨j + 1, by omega, by go_num, by go_num⟩
      case measure => simp [intOf]; omega
    · have hjn : j = n := by omega
      subst hjn
      go_wp2_with fail
      go_ret
      exact ⟨rfl, rfl⟩
theorem heldTnil (a : Option Addr) (cap : Nat) (k : Int) (w : World) :
    Calls Try.prog 51 #[.slice a 0 cap, .int .i64 k] w fun e w' => e = .returned (.int .i64 k) ∧ w = w' := by
  go_enter Try.func51, Try.ntmps51
  go_wp2_with fail
  go_loop [1, 5] (fun q i => i = .int .i64 0 ∧ q = .int .i64 k) (fun _ _ => 0)
  case atStart => exact ⟨rfl, rfl⟩
  case round =>
    obtain ⟨rfl, rfl⟩ := hrel
    go_wp2_with fail
    go_ret
    exact ⟨rfl, rfl⟩
/-- a slice value of n terms that hold k, k + 1, .., in a block from B on -/
def HeldT (w : World) (B : Nat) (v : Value) (n : Nat) (k : Int) : Prop :=
  n ≤ 1048576 ∧ ∃ a cap, v = .slice a n cap ∧ (n = 0 ∨ ∃ g off, a = some ⟨g, off, none⟩ ∧ B ≤ g ∧ g < w.heap.size ∧ ∀ i : Nat, i < n → TAt w g (off + i * 4) (mk4 k i))
theorem HeldT.below {w w' : World} {B : Nat} {v : Value} {n : Nat} {k : Int} (h : HeldT w B v n k) (hb : Below w.heap.size w w') : HeldT w' B v n k := by
  obtain ⟨h1, a, cap, hv, h2⟩ := h
  refine ⟨h1, a, cap, hv, ?_⟩
  rcases h2 with h2 | ⟨g, off, ha, hB, hg, hc⟩
  · exact .inl h2
  · exact .inr ⟨g, off, ha, hB, by have := hb.size; omega, fun j hj => (hc j hj).below hb hg⟩
theorem markTown (v : Value) (L : List Trm) (B : Nat) (k : Int) (w : World) (h : OwnTrms w B v L) (hk0 : 0 ≤ k) (hk1 : k ≤ 1000000000000) :
    Calls Try.prog 50 #[v, .int .i64 k] w fun e w' => e = .returned (.int .i64 (k + 4 * (L.length : Int))) ∧ HeldT w' B v L.length k ∧ Below B w w' ∧ w'.heap.size = w.heap.size := by
  obtain ⟨h1, a, cap, rfl, h2⟩ := h
  rcases h2 with rfl | ⟨g, off, rfl, hB, hg, hc, hf⟩
  · refine (markTnil a cap k w).mono ?_
    rintro e w' ⟨rfl, rfl⟩
    exact ⟨by simp, ⟨by simp, a, cap, rfl, .inl rfl⟩, Below.refl _ _, rfl⟩
  · refine (markT g off L.length cap k w h1 hk0 hk1 (fun i hi => ?_) hf).mono ?_
    · obtain ⟨t0, t1, t2, t3⟩ := hc (i / 4) (by omega)
      have : i = i / 4 * 4 ∨ i = i / 4 * 4 + 1 ∨ i = i / 4 * 4 + 2 ∨ i = i / 4 * 4 + 3 := by omega
      rcases this with e | e | e | e
      · rw [e]; exact ⟨_, t0⟩
      · rw [e, ← Nat.add_assoc]; exact ⟨_, t1⟩
      · rw [e, ← Nat.add_assoc]; exact ⟨_, t2⟩
      · rw [e, ← Nat.add_assoc]; exact ⟨_, t3⟩
    · rintro e w' ⟨rfl, hM⟩
      exact ⟨rfl, ⟨h1, _, cap, rfl, .inr ⟨g, off, rfl, hB, by rw [hM.size]; exact hg, hM.done⟩⟩, ⟨hM.os, hM.tape, hM.output, by rw [hM.size]; exact Nat.le_refl _, fun b hb => hM.far b (by omega)⟩, hM.size⟩
theorem heldTown (v : Value) (n : Nat) (B : Nat) (k : Int) (w : World) (h : HeldT w B v n k) (hk0 : 0 ≤ k) (hk1 : k ≤ 1000000000000) :
    Calls Try.prog 51 #[v, .int .i64 k] w fun e w' => e = .returned (.int .i64 (k + 4 * (n : Int))) ∧ w = w' := by
  obtain ⟨h1, a, cap, rfl, h2⟩ := h
  rcases h2 with rfl | ⟨g, off, rfl, hB, hg, hc⟩
  · refine (heldTnil a cap k w).mono ?_
    rintro e w' ⟨rfl, rfl⟩
    exact ⟨by simp, rfl⟩
  · exact heldT g off n cap k w h1 hk0 hk1 hc
end Go.Proofs.Ytfmpcniehgipfaa
namespace Go.Proofs.Ytfmpcniehgipfaa
open Go.RowKit
/-- a gate: its kind and two numbers -/
structure Gt where
  k : Int
  a : Int
  b : Int
deriving DecidableEq
instance : Inhabited Gt := ⟨⟨0, 0, 0⟩⟩
def Gt.v (x : Gt) : Value := .agg #[.int .i64 x.k, .int .i64 x.a, .int .i64 x.b]
/-- three cells that hold a gate -/
def GAt (w : World) (g o : Nat) (x : Gt) : Prop :=
  w.cell? ⟨g, o, none⟩ = some (.int .i64 x.k) ∧ w.cell? ⟨g, o + 1, none⟩ = some (.int .i64 x.a) ∧ w.cell? ⟨g, o + 2, none⟩ = some (.int .i64 x.b)
/-- a slice value that reads as a list of gates in this world -/
def Gats (w : World) (v : Value) (L : List Gt) : Prop :=
  L.length ≤ 1048576 ∧ ∃ a cap, v = .slice a L.length cap ∧ (L = [] ∨ ∃ g off, a = some ⟨g, off, none⟩ ∧ g < w.heap.size ∧ ∀ j : Nat, j < L.length → GAt w g (off + j * 3) (L.getD j default))
theorem GAt.below {w w' : World} {B g o : Nat} {x : Gt} (h : GAt w g o x) (hb : Below B w w') (hg : g < B) : GAt w' g o x := by
  obtain ⟨h0, h1, h2⟩ := h
  refine ⟨?_, ?_, ?_⟩
  · rw [hb.cell (p := ⟨g, o, none⟩) hg]; exact h0
  · rw [hb.cell (p := ⟨g, o + 1, none⟩) hg]; exact h1
  · rw [hb.cell (p := ⟨g, o + 2, none⟩) hg]; exact h2
theorem Gats.below {w w' : World} {v : Value} {L : List Gt} (h : Gats w v L) (hb : Below w.heap.size w w') : Gats w' v L := by
  obtain ⟨h1, a, cap, hv, h2⟩ := h
  refine ⟨h1, a, cap, hv, ?_⟩
  rcases h2 with h2 | ⟨g, off, ha, hg, hc⟩
  · exact .inl h2
  · exact .inr ⟨g, off, ha, by have := hb.size; omega, fun j hj => (hc j hj).below hb hg⟩
/-- a slice of the call's own, from block B on, that reads as a list of gates and may be written -/
def OwnGats (w : World) (B : Nat) (v : Value) (L : List Gt) : Prop :=
  L.length ≤ 1048576 ∧ ∃ a cap, v = .slice a L.length cap ∧ (L = [] ∨ ∃ g off, a = some ⟨g, off, none⟩ ∧ B ≤ g ∧ g < w.heap.size ∧ (∀ j : Nat, j < L.length → GAt w g (off + j * 3) (L.getD j default)) ∧ ∀ i : Nat, i < L.length * 3 → w.frozen? ⟨g, off + i, none⟩ = false)
theorem OwnGats.gats {w : World} {B : Nat} {v : Value} {L : List Gt} (h : OwnGats w B v L) : Gats w v L := by
  obtain ⟨h1, a, cap, hv, h2⟩ := h
  refine ⟨h1, a, cap, hv, ?_⟩
  rcases h2 with h2 | ⟨g, off, ha, _, hg, hc, _⟩
  · exact .inl h2
  · exact .inr ⟨g, off, ha, hg, hc⟩
theorem OwnGats.below {w w' : World} {B : Nat} {v : Value} {L : List Gt} (h : OwnGats w B v L) (hb : Below w.heap.size w w') : OwnGats w' B v L := by
  obtain ⟨h1, a, cap, hv, h2⟩ := h
  refine ⟨h1, a, cap, hv, ?_⟩
  rcases h2 with h2 | ⟨g, off, ha, hB, hg, hc, hf⟩
  · exact .inl h2
  · exact .inr ⟨g, off, ha, hB, by have := hb.size; omega, fun j hj => (hc j hj).below hb hg, fun i hi => by rw [hb.frozen (p := ⟨g, off + i, none⟩) hg]; exact hf i hi⟩
theorem OwnGats.base {w : World} {B B' : Nat} {v : Value} {L : List Gt} (h : OwnGats w B v L) (hB : B' ≤ B) : OwnGats w B' v L := by
  obtain ⟨h1, a, cap, hv, h2⟩ := h
  refine ⟨h1, a, cap, hv, ?_⟩
  rcases h2 with h2 | ⟨g, off, ha, hb, hg, hc, hf⟩
  · exact .inl h2
  · exact .inr ⟨g, off, ha, by omega, hg, hc, hf⟩
/-- the world inside toCircuit, behind k rounds: block G bears k gates -/
structure BuildG (L : List Gt) (G k : Nat) (w wr : World) : Prop where
  done : ∀ j : Nat, j < k → GAt wr G (j * 3) (L.getD j default)
  some : ∀ i : Nat, i < L.length * 3 → ∃ u, wr.cell? ⟨G, i, none⟩ = some u
  froz : ∀ i : Nat, i < L.length * 3 → wr.frozen? ⟨G, i, none⟩ = false
  sz : G < wr.heap.size
  low : Below w.heap.size w wr
theorem BuildG.below {L : List Gt} {G k : Nat} {w wr w1 : World} (h : BuildG L G k w wr) (hb : Below wr.heap.size wr w1) : BuildG L G k w w1 := by
  have sz := h.sz
  have e := hb.size
  constructor
  · intro j hj; exact (h.done j hj).below hb sz
  · intro i hi
    obtain ⟨u, hu⟩ := h.some i hi
    exact ⟨u, by rw [hb.cell (p := ⟨G, i, none⟩) sz]; exact hu⟩
  · intro i hi; rw [hb.frozen (p := ⟨G, i, none⟩) sz]; exact h.froz i hi
  · omega
  · exact h.low.trans (hb.mono h.low.size)
/-- a gate stored into three cells -/
def putG (w : World) (G o : Nat) (x : Gt) : World :=
  ((w.setCell ⟨G, o, none⟩ (.int .i64 x.k)).setCell ⟨G, o + 1, none⟩ (.int .i64 x.a)).setCell ⟨G, o + 2, none⟩ (.int .i64 x.b)
theorem putG_far (w : World) (G o : Nat) (x : Gt) (b i : Nat) (h : b ≠ G ∨ i < o ∨ o + 3 ≤ i) : (putG w G o x).cell? ⟨b, i, none⟩ = w.cell? ⟨b, i, none⟩ := by
  have hne : ∀ d, d < 3 → (⟨G, o + d, none⟩ : Addr) ≠ ⟨b, i, none⟩ := by
    intro d hd e
    injection e with e1 e2
    omega
  unfold putG
  rw [World.cell?_setCell_other _ _ _ _ (hne 2 (by omega)), World.cell?_setCell_other _ _ _ _ (hne 1 (by omega)), World.cell?_setCell_other _ _ _ _ (by simpa using hne 0 (by omega))]
theorem putG_at (w : World) (G o : Nat) (x : Gt) (h : ∀ d, d < 3 → ∃ u, w.cell? ⟨G, o + d, none⟩ = some u) : GAt (putG w G o x) G o x := by
  obtain ⟨u0, h0⟩ := h 0 (by omega)
  obtain ⟨u1, h1⟩ := h 1 (by omega)
  obtain ⟨u2, h2⟩ := h 2 (by omega)
  rw [Nat.add_zero] at h0
  have hne : ∀ d e, d ≠ e → (⟨G, o + d, none⟩ : Addr) ≠ ⟨G, o + e, none⟩ := by
    intro d e hd h
    injection h with e1 e2
    omega
  have hn0 : ∀ d, d ≠ 0 → (⟨G, o + d, none⟩ : Addr) ≠ ⟨G, o, none⟩ := by
    intro d hd h
    injection h with e1 e2
    omega
  have hn0' : ∀ d, d ≠ 0 → (⟨G, o, none⟩ : Addr) ≠ ⟨G, o + d, none⟩ := fun d hd => (hn0 d hd).symm
  unfold putG
  refine ⟨?_, ?_, ?_⟩
  · rw [World.cell?_setCell_other _ _ _ _ (hn0 2 (by omega)), World.cell?_setCell_other _ _ _ _ (hn0 1 (by omega))]
    exact World.cell?_setCell_same _ _ _ h0
  · rw [World.cell?_setCell_other _ _ _ _ (hne 2 1 (by omega))]
    exact World.cell?_setCell_same _ _ _ (by rw [World.cell?_setCell_other _ _ _ _ (hn0' 1 (by omega))]; exact h1)
  · exact World.cell?_setCell_same _ _ _ (by rw [World.cell?_setCell_other _ _ _ _ (hne 1 2 (by omega)), World.cell?_setCell_other _ _ _ _ (hn0' 2 (by omega))]; exact h2)
theorem putG_frozen (w : World) (G o : Nat) (x : Gt) (p : Addr) : (putG w G o x).frozen? p = w.frozen? p := by simp [putG]
theorem putG_size (w : World) (G o : Nat) (x : Gt) : (putG w G o x).heap.size = w.heap.size := by simp [putG]
theorem putG_low {B : Nat} {w w1 : World} (h : Below B w w1) (G o : Nat) (x : Gt) (hG : B ≤ G) : Below B w (putG w1 G o x) :=
  ((h.setCell hG _).setCell hG _).setCell hG _
theorem BuildG.step {L : List Gt} {G k : Nat} {w wr : World} (h : BuildG L G k w wr) (hk : k < L.length) (hG : w.heap.size ≤ G) : BuildG L G (k + 1) w (putG wr G (k * 3) (L.getD k default)) := by
  constructor
  · intro j hj
    by_cases e : j = k
    · subst e
      exact putG_at _ _ _ _ (fun d hd => h.some _ (by omega))
    · obtain ⟨h0, h1, h2⟩ := h.done j (by omega)
      refine ⟨?_, ?_, ?_⟩
      all_goals rw [putG_far _ _ _ _ _ _ (by omega)]; assumption
  · intro i hi
    by_cases e : i < k * 3 ∨ k * 3 + 3 ≤ i
    · obtain ⟨u, hu⟩ := h.some i hi
      exact ⟨u, by rw [putG_far _ _ _ _ _ _ (.inr e)]; exact hu⟩
    · obtain ⟨h0, h1, h2⟩ := putG_at wr G (k * 3) (L.getD k default) (fun d hd => h.some _ (by omega))
      have : i = k * 3 ∨ i = k * 3 + 1 ∨ i = k * 3 + 2 := by omega
      rcases this with rfl | rfl | rfl
      · exact ⟨_, h0⟩
      · exact ⟨_, h1⟩
      · exact ⟨_, h2⟩
  · intro i hi; rw [putG_frozen]; exact h.froz i hi
  · rw [putG_size]; exact h.sz
  · exact putG_low h.low _ _ _ hG
/-- a call hands back a slice of gates of its own -/
def GivesGats (L : List Gt) (w : World) (e : Ending) (w' : World) : Prop :=
  ∃ v, e = .returned v ∧ OwnGats w' w.heap.size v L ∧ Below w.heap.size w w'
/-- a call hands back a slice of gates of its own, and a truth value -/
def GivesGB (R : List Gt) (b : Bool) (w : World) (e : Ending) (w' : World) : Prop :=
  ∃ v, e = .returned (.tuple #[v, .bool b]) ∧ OwnGats w' w.heap.size v R ∧ Below w.heap.size w w'
theorem keepGG {W w1 : World} {g1 o1 g2 o2 : Nat} {x y : Gt} (hb : Below W.heap.size W w1) (h1 : g1 < W.heap.size) (h2 : g2 < W.heap.size) (h : GAt W g1 o1 x ∧ GAt W g2 o2 y) : GAt w1 g1 o1 x ∧ GAt w1 g2 o2 y :=
  ⟨h.1.below hb h1, h.2.below hb h2⟩
end Go.Proofs.Ytfmpcniehgipfaa
namespace Go.Proofs.Ytfmpcniehgipfaa
open Go.RowKit
/-- the gate that markCircuit writes in the place j -/
def mk3 (k : Int) (j : Nat) : Gt := ⟨k + 3 * (j : Int), k + 3 * (j : Int) + 1, k + 3 * (j : Int) + 1 + 1⟩
structure MarkG (g off n : Nat) (k : Int) (j : Nat) (w wr : World) : Prop where
  done : ∀ i : Nat, i < j → GAt wr g (off + i * 3) (mk3 k i)
  cells : ∀ i : Nat, i < n * 3 → ∃ x, wr.cell? ⟨g, off + i, none⟩ = some x
  froz : ∀ a, wr.frozen? a = w.frozen? a
  far : ∀ b, b ≠ g → wr.heap[b]? = w.heap[b]?
  size : wr.heap.size = w.heap.size
  os : wr.os = w.os
  tape : wr.tape = w.tape
  output : wr.output = w.output
theorem putG_heap (w : World) (G o : Nat) (x : Gt) (b : Nat) (h : b ≠ G) : (putG w G o x).heap[b]? = w.heap[b]? := by
  unfold putG
  rw [Below.heap_setCell _ _ _ _ h, Below.heap_setCell _ _ _ _ h, Below.heap_setCell _ _ _ _ h]
theorem MarkG.step {g off n : Nat} {k : Int} {j : Nat} {w wr : World} (h : MarkG g off n k j w wr) (hj : j < n) : MarkG g off n k (j + 1) w (putG wr g (off + j * 3) (mk3 k j)) := by
  have hs : ∀ d, d < 3 → ∃ u, wr.cell? ⟨g, off + j * 3 + d, none⟩ = some u := fun d hd => by
    obtain ⟨u, hu⟩ := h.cells (j * 3 + d) (by omega)
    exact ⟨u, by rw [Nat.add_assoc]; exact hu⟩
  constructor
  · intro i hi
    by_cases e : i = j
    · subst e; exact putG_at _ _ _ _ hs
    · obtain ⟨h0, h1, h2⟩ := h.done i (by omega)
      refine ⟨?_, ?_, ?_⟩
      all_goals rw [putG_far _ _ _ _ _ _ (by omega)]; assumption
  · intro i hi
    by_cases e : i < j * 3 ∨ j * 3 + 3 ≤ i
    · obtain ⟨u, hu⟩ := h.cells i hi
      exact ⟨u, by rw [putG_far _ _ _ _ _ _ (by omega)]; exact hu⟩
    · obtain ⟨h0, h1, h2⟩ := putG_at wr g (off + j * 3) (mk3 k j) hs
      have : i = j * 3 ∨ i = j * 3 + 1 ∨ i = j * 3 + 2 := by omega
      rcases this with rfl | rfl | rfl
      · exact ⟨_, h0⟩
      · exact ⟨_, h1⟩
      · exact ⟨_, h2⟩
  · intro a; rw [putG_frozen]; exact h.froz a
  · intro b hb; rw [putG_heap _ _ _ _ _ hb]; exact h.far b hb
  · rw [putG_size]; exact h.size
  · exact h.os
  · exact h.tape
  · exact h.output
/-- a slice value of n gates that hold k, k + 1, .., in a block from B on -/
def HeldG (w : World) (B : Nat) (v : Value) (n : Nat) (k : Int) : Prop :=
  n ≤ 1048576 ∧ ∃ a cap, v = .slice a n cap ∧ (n = 0 ∨ ∃ g off, a = some ⟨g, off, none⟩ ∧ B ≤ g ∧ g < w.heap.size ∧ ∀ i : Nat, i < n → GAt w g (off + i * 3) (mk3 k i))
theorem HeldG.below {w w' : World} {B : Nat} {v : Value} {n : Nat} {k : Int} (h : HeldG w B v n k) (hb : Below w.heap.size w w') : HeldG w' B v n k := by
  obtain ⟨h1, a, cap, hv, h2⟩ := h
  refine ⟨h1, a, cap, hv, ?_⟩
  rcases h2 with h2 | ⟨g, off, ha, hB, hg, hc⟩
  · exact .inl h2
  · exact .inr ⟨g, off, ha, hB, by have := hb.size; omega, fun j hj => (hc j hj).below hb hg⟩
theorem OwnGats.betw {B C : Nat} {w w' : World} {v : Value} {L : List Gt} (h : OwnGats w C v L) (hb : Betw B C w w') : OwnGats w' C v L := by
  obtain ⟨h1, a, cap, hv, h2⟩ := h
  refine ⟨h1, a, cap, hv, ?_⟩
  rcases h2 with h2 | ⟨g, off, ha, hB, hg, hc, hf⟩
  · exact .inl h2
  · have e := hb.block g (.inr hB)
    refine .inr ⟨g, off, ha, hB, by rw [hb.size]; exact hg, fun j hj => ?_, fun i hi => by rw [frozen_of_heap (p := ⟨g, off + i, none⟩) e]; exact hf i hi⟩
    obtain ⟨c0, c1, c2⟩ := hc j hj
    exact ⟨by rw [cell_of_heap (p := ⟨g, off + j * 3, none⟩) e]; exact c0, by rw [cell_of_heap (p := ⟨g, off + j * 3 + 1, none⟩) e]; exact c1, by rw [cell_of_heap (p := ⟨g, off + j * 3 + 2, none⟩) e]; exact c2⟩
end Go.Proofs.Ytfmpcniehgipfaa
namespace Go.Proofs.Ytfmpcniehgipfaa
open Go.RowKit
theorem OwnTrms.betw' {B B' C : Nat} {w w' : World} {v : Value} {L : List Trm} (h : OwnTrms w B v L) (hC : C ≤ B) (hb : Betw B' C w w') : OwnTrms w' B v L := by
  obtain ⟨h1, a, cap, hv, h2⟩ := h
  refine ⟨h1, a, cap, hv, ?_⟩
  rcases h2 with h2 | ⟨g, off, ha, hB, hg, hc, hf⟩
  · exact .inl h2
  · have e := hb.block g (.inr (by omega))
    refine .inr ⟨g, off, ha, hB, by rw [hb.size]; exact hg, fun j hj => ?_, fun i hi => by rw [frozen_of_heap (p := ⟨g, off + i, none⟩) e]; exact hf i hi⟩
    obtain ⟨c0, c1, c2, c3⟩ := hc j hj
    exact ⟨by rw [cell_of_heap (p := ⟨g, off + j * 4, none⟩) e]; exact c0, by rw [cell_of_heap (p := ⟨g, off + j * 4 + 1, none⟩) e]; exact c1, by rw [cell_of_heap (p := ⟨g, off + j * 4 + 2, none⟩) e]; exact c2, by rw [cell_of_heap (p := ⟨g, off + j * 4 + 3, none⟩) e]; exact c3⟩
theorem OwnGats.betw' {B B' C : Nat} {w w' : World} {v : Value} {L : List Gt} (h : OwnGats w B v L) (hC : C ≤ B) (hb : Betw B' C w w') : OwnGats w' B v L := by
  obtain ⟨h1, a, cap, hv, h2⟩ := h
  refine ⟨h1, a, cap, hv, ?_⟩
  rcases h2 with h2 | ⟨g, off, ha, hB, hg, hc, hf⟩
  · exact .inl h2
  · have e := hb.block g (.inr (by omega))
    refine .inr ⟨g, off, ha, hB, by rw [hb.size]; exact hg, fun j hj => ?_, fun i hi => by rw [frozen_of_heap (p := ⟨g, off + i, none⟩) e]; exact hf i hi⟩
    obtain ⟨c0, c1, c2⟩ := hc j hj
    exact ⟨by rw [cell_of_heap (p := ⟨g, off + j * 3, none⟩) e]; exact c0, by rw [cell_of_heap (p := ⟨g, off + j * 3 + 1, none⟩) e]; exact c1, by rw [cell_of_heap (p := ⟨g, off + j * 3 + 2, none⟩) e]; exact c2⟩
theorem OwnInts.betw' {B B' C : Nat} {w w' : World} {v : Value} {L : List Int} (h : OwnInts w B v L) (hC : C ≤ B) (hb : Betw B' C w w') : OwnInts w' B v L := by
  obtain ⟨h1, a, cap, hv, h2⟩ := h
  refine ⟨h1, a, cap, hv, ?_⟩
  rcases h2 with h2 | ⟨g, off, ha, hB, hg, hc, hf⟩
  · exact .inl h2
  · have e := hb.block g (.inr (by omega))
    exact .inr ⟨g, off, ha, hB, by rw [hb.size]; exact hg, fun j hj => by rw [cell_of_heap (p := ⟨g, off + j, none⟩) e]; exact hc j hj, fun i hi => by rw [frozen_of_heap (p := ⟨g, off + i, none⟩) e]; exact hf i hi⟩
/-- an argument of a law is marked: what was made behind it stays -/
theorem markTsame (v : Value) (L : List Trm) (B : Nat) (k : Int) (w3 w : World) (h : OwnTrms w3 B v L) (hw : Same B w3 w) (hk0 : 0 ≤ k) (hk1 : k ≤ 1000000000000) :
    Calls Try.prog 50 #[v, .int .i64 k] w fun e w' => e = .returned (.int .i64 (k + 4 * (L.length : Int))) ∧ Betw B w3.heap.size w w' := by
  obtain ⟨h1, a, cap, rfl, h2⟩ := h
  rcases h2 with rfl | ⟨g, off, rfl, hB, hg, hc, hf⟩
  · refine (markTnil a cap k w).mono ?_
    rintro e w' ⟨rfl, rfl⟩
    exact ⟨by simp, rfl, rfl, rfl, rfl, fun _ _ => rfl⟩
  · have e := hw g hB hg
    refine (markT g off L.length cap k w h1 hk0 hk1 (fun i hi => ?_) (fun i hi => by rw [frozen_of_heap (p := ⟨g, off + i, none⟩) e]; exact hf i hi)).mono ?_
    · obtain ⟨t0, t1, t2, t3⟩ := hc (i / 4) (by omega)
      have ce : ∀ o, w.cell? ⟨g, o, none⟩ = w3.cell? ⟨g, o, none⟩ := fun o => cell_of_heap (p := ⟨g, o, none⟩) e
      have : i = i / 4 * 4 ∨ i = i / 4 * 4 + 1 ∨ i = i / 4 * 4 + 2 ∨ i = i / 4 * 4 + 3 := by omega
      rcases this with e | e | e | e
      · rw [e, ce]; exact ⟨_, t0⟩
      · rw [e, ← Nat.add_assoc, ce]; exact ⟨_, t1⟩
      · rw [e, ← Nat.add_assoc, ce]; exact ⟨_, t2⟩
      · rw [e, ← Nat.add_assoc, ce]; exact ⟨_, t3⟩
    · rintro e w' ⟨rfl, hM⟩
      exact ⟨rfl, hM.os, hM.tape, hM.output, hM.size, fun b hb => hM.far b (by omega)⟩
/-- two slices that read as one list of integers are found equal -/
theorem eqIS (v1 v2 : Value) (L : List Int) (w : World) (h1 : Ints w v1 L) (h2 : Ints w v2 L) :
    Calls Try.prog 23 #[v1, v2] w fun e w' => e = .returned (.bool true) ∧ Below w.heap.size w w' :=
  (eqInts v1 v2 L L w h1 h2).mono fun e w' ⟨he, hd⟩ => ⟨by rw [he]; simp, hd.below _⟩
theorem markIown (v : Value) (L : List Int) (B : Nat) (k : Int) (w : World) (h : OwnInts w B v L) (hk0 : 0 ≤ k) (hk1 : k ≤ 1000000000000) :
    Calls Try.prog 28 #[v, .int .i64 k] w fun e w' => e = .returned (.int .i64 (k + (L.length : Nat))) ∧ HeldBy w' B v L.length k ∧ Below B w w' ∧ w'.heap.size = w.heap.size :=
  markOwn v L B k w h hk0 (by omega)
theorem heldIown (v : Value) (n : Nat) (B : Nat) (k : Int) (w : World) (h : HeldBy w B v n k) (hk0 : 0 ≤ k) (hk1 : k ≤ 1000000000000) :
    Calls Try.prog 29 #[v, .int .i64 k] w fun e w' => e = .returned (.int .i64 (k + (n : Nat))) ∧ w = w' :=
  heldOwn v n B k w h hk0 (by omega)
theorem bne_self2 (b : Bool) : (b != b) = false := by cases b <;> rfl
end Go.Proofs.Ytfmpcniehgipfaa
namespace Go.Proofs.Ytfmpcniehgipfaa
set_option linter.unusedVariables false
open Go.RowKit
/-- a slice that came in and reads as a list of numbers -/
def RowL (w : World) (a : Option Addr) (len : Nat) (L : List Int) : Prop :=
  L.length = len ∧ len ≤ 9223372036854775807 ∧ (L = [] ∨ ∃ g off, a = some ⟨g, off, none⟩ ∧ g < w.heap.size ∧ ∀ j, j < L.length → w.cell? ⟨g, off + j, none⟩ = some (.int .i64 (L.getD j 0)))
theorem RowL.ints {w : World} {a : Option Addr} {len cap : Nat} {L : List Int} (h : RowL w a len L) (hl : len ≤ 1048576) : Ints w (.slice a len cap) L := by
  obtain ⟨h1, h2, h3⟩ := h
  exact ⟨by omega, a, cap, by rw [h1], h3⟩
theorem toIv (v : Value) (L : List Int) (w : World) (h : Ints w v L) (hL : L.length ≤ 1048576) :
    Calls Try.prog 21 #[v] w fun e w' => ∃ u, e = .returned u ∧ OwnInts w' w.heap.size u L ∧ Below w.heap.size w w' := by
  refine (toIS v L w h hL).mono ?_
  rintro e w' ⟨a, cap, rfl, hc, hd, hb⟩
  refine ⟨_, rfl, ⟨by omega, a, cap, rfl, ?_⟩, hb⟩
  rcases hd with hd | ⟨rfl, h1, h2, h3⟩
  · exact .inl hd
  · exact .inr ⟨w.heap.size, 0, rfl, Nat.le_refl _, h1, fun j hj => by rw [Nat.zero_add]; exact h2 j hj, fun j hj => by rw [Nat.zero_add]; exact h3 j hj⟩
theorem markIsame (v : Value) (L : List Int) (B : Nat) (k : Int) (w3 w : World) (h : OwnInts w3 B v L) (hw : Same B w3 w) (hk0 : 0 ≤ k) (hk1 : k ≤ 1000000000000) :
    Calls Try.prog 28 #[v, .int .i64 k] w fun e w' => e = .returned (.int .i64 (k + (L.length : Nat))) ∧ Betw B w3.heap.size w w' := by
  obtain ⟨h1, a, cap, rfl, h2⟩ := h
  rcases h2 with rfl | ⟨g, off, rfl, hB, hg, hc, hf⟩
  · refine (markNil a cap k w).mono ?_
    rintro e w' ⟨rfl, rfl⟩
    exact ⟨by simp, rfl, rfl, rfl, rfl, fun _ _ => rfl⟩
  · have e := hw g hB hg
    refine (markInts g off L.length cap k w h1 hk0 (by omega) (fun i hi => ⟨_, (cell_of_heap (p := ⟨g, off + i, none⟩) e).trans (hc i hi)⟩) (fun i hi => by rw [frozen_of_heap (p := ⟨g, off + i, none⟩) e]; exact hf i hi)).mono ?_
    rintro e' w' ⟨rfl, hM⟩
    exact ⟨rfl, hM.os, hM.tape, hM.output, hM.size, fun b hb => hM.far b (by omega)⟩
theorem OwnInts.below7 {w w' : World} {B : Nat} {v : Value} {L : List Int} (h : OwnInts w B v L) (hb : Below w.heap.size w w') : OwnInts w' B v L := h.below hb
end Go.Proofs.Ytfmpcniehgipfaa
