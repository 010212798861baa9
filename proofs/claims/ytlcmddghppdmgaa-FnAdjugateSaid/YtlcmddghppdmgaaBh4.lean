/-
  A region that draws its order, of operations without guards, whose last one waits for all the others: the others one after the other in an order of one's own, those that yield the same in every world of a class taken first, the last one behind them. Conditions: the order's edges, as one Bool.
  A region that draws its order, whose last operation waits for all the others: walked by a plan, which forks where two operations may come up. Conditions: the plan's edges, as one Bool.
-/
import Derived.Test.YtlcmddghppdmgaaBh2
import Derived.Deep.RegionHeld3
namespace Go.Proofs.Ytlcmddghppdmgaa
open Go.RowKit
/-- may the operations come up in this order: those with 'true' taken first, the others alone -/
def seqB (md : Region.Mode) (ops : Array Oper) : List (Nat × Bool) → Array Bool → Bool
  | [], listed => (Region.ready md ops listed).isEmpty
  | (i, b) :: r, listed => (if b then (Region.ready md ops listed).contains i && Region.free md ops listed i else Region.ready md ops listed == [i]) && seqB md ops r (listed.setIfInBounds i true)
section
variable {P : Program} {ops : Array Oper} {S : World → Prop} {Q : Exit → Act → World → Prop}
/-- the walk: 'all' has the operations, perhaps more than are walked -/
def wpSeq (P : Program) (all : Array Oper) (S : World → Prop) (Q : Exit → Act → World → Prop) : List (Nat × Bool) → Act → World → Prop
  | [], a, w => Q .normal a w
  | (i, true) :: r, a, w => ∃ o v, all[i]? = some o ∧ (∀ w', S w' → (execOp a.eval o).run P w' = .ok (.value v) w') ∧ wpSeq P all S Q r (a.put o.dst v) w
  | (i, false) :: r, a, w => ∃ o, all[i]? = some o ∧ o.wp P a w (fun a' w' => S w' ∧ wpSeq P all S Q r a' w') Q
theorem wpSeq_take {all : Array Oper} {i : Nat} {r : List (Nat × Bool)} {a : Act} {w : World} {o : Oper} {v : Value} (ho : all[i]? = some o) (hy : ∀ w', S w' → (execOp a.eval o).run P w' = .ok (.value v) w')
    (h : wpSeq P all S Q r (a.put o.dst v) w) : wpSeq P all S Q ((i, true) :: r) a w := ⟨o, v, ho, hy, h⟩
theorem wpSeq_do {all : Array Oper} {i : Nat} {r : List (Nat × Bool)} {a : Act} {w : World} {o : Oper} (ho : all[i]? = some o)
    (h : ∀ K : Act → World → Prop, (∀ a' w', S w' → wpSeq P all S Q r a' w' → K a' w') → o.wp P a w K Q) : wpSeq P all S Q ((i, false) :: r) a w :=
  ⟨o, ho, h _ fun _ _ h1 h2 => ⟨h1, h2⟩⟩
theorem wpSeq_nil {all : Array Oper} {a : Act} {w : World} (h : Q .normal a w) : wpSeq P all S Q [] a w := h
theorem wpAnyH_seq {md : Region.Mode} {all : Array Oper} (hs : Region.noSelect ops = true) (hg : ∀ (i : Nat) (o : Oper), ops[i]? = some o → o.guard = none) (hall : ∀ (i : Nat), i < ops.size → all[i]? = ops[i]?)
    (hQ : ∀ c (a : Act) d v w, Q (.panic c) (a.put d v) w → Q (.panic c) a w) : ∀ (l : List (Nat × Bool)) (listed : Array Bool) (a : Act) (w : World), seqB md ops l listed = true → S w → wpSeq P all S Q l a w → wpAnyH P md ops Q S l.length listed a w
  | [], listed, a, w, hb, _, h => by
    have : Region.ready md ops listed = [] := by simpa [seqB] using hb
    exact ⟨this, h⟩
  | (i, true) :: r, listed, a, w, hb, hS, h => by
    simp only [seqB, if_true, Bool.and_eq_true] at hb
    obtain ⟨⟨h1, h2⟩, h3⟩ := hb
    obtain ⟨o, v, ho, hy, hr⟩ := h
    have hlt : i < ops.size := by
      have h1' : i ∈ Region.ready md ops listed := by simpa using h1
      obtain ⟨_, o', ho', _⟩ := mem_ready.1 h1'
      exact (Array.getElem?_eq_some_iff.1 ho').1
    rw [hall i hlt] at ho
    have hw : Region.wanted o (yielded ops a.tmps) = true := by simp [Region.wanted, hg i o ho]
    exact wpAnyH_take ho hs h2 h1 (fun c a w hq => hQ c a _ _ w hq) (.inl ⟨hw, hy⟩) hS (wpAnyH_seq hs hg hall hQ r _ _ w h3 hS hr)
  | (i, false) :: r, listed, a, w, hb, hS, h => by
    simp only [seqB, Bool.false_eq_true, if_false, Bool.and_eq_true, beq_iff_eq] at hb
    obtain ⟨h1, h3⟩ := hb
    obtain ⟨o, ho, hr⟩ := h
    have hlt : i < ops.size := by
      have h1' : i ∈ Region.ready md ops listed := by rw [h1]; simp
      obtain ⟨_, o', ho', _⟩ := mem_ready.1 h1'
      exact (Array.getElem?_eq_some_iff.1 ho').1
    rw [hall i hlt] at ho
    have hw : Region.wanted o (yielded ops a.tmps) = true := by simp [Region.wanted, hg i o ho]
    refine wpAnyH_all h1 (by simp) fun j hj => ?_
    have hji : j = i := by simpa using hj
    subst hji
    unfold wpOp
    rw [ho]
    simp only []
    rw [if_pos hw]
    refine .inl (Oper.wp_mono (fun a' w' h' => ⟨h'.1, wpAnyH_seq hs hg hall hQ r _ a' w' h3 h'.1 h'.2⟩) hr)
end
/-- the Bool over a region -/
def seqReg (ops : List Oper) (l : List (Nat × Bool)) : Bool := match ops.getLast? with
  | some o => Region.noSelect ops.dropLast.toArray && ops.all (fun x => x.guard.isNone) && l.length == ops.dropLast.length && lastB .any ops.dropLast o &&
      seqB .any ops.dropLast.toArray l (Array.replicate ops.dropLast.length false)
  | none => false
/-- the last operation of a list -/
def lastOf : List Oper → Option Oper
  | [] => none
  | [o] => some o
  | _ :: b :: r => lastOf (b :: r)
theorem lastOf_eq : ∀ ops : List Oper, lastOf ops = ops.getLast?
  | [] => rfl
  | [o] => rfl
  | a :: b :: r => by rw [lastOf, lastOf_eq (b :: r)]; simp [List.getLast?_cons_cons]
theorem wp_region_seq {P : Program} {ops : List Oper} {id : Nat} {Q : Exit → Act → World → Prop} {a : Act} {w : World} (l : List (Nat × Bool)) (S : World → Prop) {o : Oper} (hm : P.follows .mixedOrders = true) (hB : seqReg ops l = true) (ho : lastOf ops = some o)
    (hQ : ∀ c (a : Act) d v w, Q (.panic c) (a.put d v) w → Q (.panic c) a w) (hS : S w.drew)
    (h : wpSeq P ops.toArray S (Exit.then (fun a w => wpList P [o].toArray Q [o] a w) Q) l a w.drew) : (Code.region id ops.toArray true).wp P Q a w := by
  rw [lastOf_eq] at ho
  unfold seqReg at hB
  rw [ho] at hB
  obtain ⟨l0, rfl⟩ := List.getLast?_eq_some_iff.1 ho
  simp only [List.dropLast_concat, Bool.and_eq_true, beq_iff_eq] at hB
  obtain ⟨⟨⟨⟨h1, h2⟩, h3⟩, h4⟩, h5⟩ := hB
  have hin := lastIn_of h4
  have hg : ∀ (i : Nat) (x : Oper), l0.toArray[i]? = some x → x.guard = none := fun i x hx => by
    have hm : x ∈ l0 := by
      have := (Array.getElem?_eq_some_iff.1 hx)
      obtain ⟨hi, rfl⟩ := this
      simp
    have := List.all_eq_true.1 h2 x (by simp [hm])
    simpa using this
  have hh := wpAnyH_seq (P := P) (ops := l0.toArray) (all := (l0 ++ [o]).toArray) (md := .any) (S := S) (Q := Exit.then (Behind P o Q) Q) h1 hg (fun i hi => by
    have : i < l0.length := by simpa using hi
    simp [List.getElem?_append_left, this]) (fun c a d v w hq => hQ c a d v w hq) l (Array.replicate l0.length false) a w.drew h5 hS h
  rw [h3] at hh
  refine wp_region_any hm ?_
  have := wpAny_last hin l0.length (Array.replicate l0.length false) a _ (by simp) (by
    intro j oj hj ht
    have hlt := (List.getElem?_eq_some_iff.1 hj).1
    simp [Array.getD, hlt] at ht) (wpAny_of_held _ _ _ _ hh)
  simpa [Array.replicate_succ] using this
end Go.Proofs.Ytlcmddghppdmgaa
namespace Go.Proofs.Ytlcmddghppdmgaa
set_option linter.unusedVariables false
open Go.RowKit
inductive Plan where
  | fin
  | take (i : Nat) (r : Plan)
  | one (i : Nat) (r : Plan)
  | two (i j : Nat) (r s : Plan)
def Plan.len : Plan → Nat
  | .fin => 0
  | .take _ r => r.len + 1
  | .one _ r => r.len + 1
  | .two _ _ r _ => r.len + 1
/-- may the operations come up as the plan says -/
def planB (md : Region.Mode) (ops : Array Oper) : Plan → Array Bool → Bool
  | .fin, listed => (Region.ready md ops listed).isEmpty
  | .take i r, listed => (Region.ready md ops listed).contains i && Region.free md ops listed i && planB md ops r (listed.setIfInBounds i true)
  | .one i r, listed => Region.ready md ops listed == [i] && planB md ops r (listed.setIfInBounds i true)
  | .two i j r s, listed => Region.ready md ops listed == [i, j] && r.len == s.len && planB md ops r (listed.setIfInBounds i true) && planB md ops s (listed.setIfInBounds j true)
/-- the walk -/
def wpPlan (P : Program) (all : Array Oper) (S : World → Prop) (Q : Exit → Act → World → Prop) : Plan → Act → World → Prop
  | .fin, a, w => Q .normal a w
  | .take i r, a, w => ∃ o v, all[i]? = some o ∧ (∀ w', S w' → (execOp a.eval o).run P w' = .ok (.value v) w') ∧ wpPlan P all S Q r (a.put o.dst v) w
  | .one i r, a, w => ∃ o, all[i]? = some o ∧ o.wp P a w (fun a' w' => S w' ∧ wpPlan P all S Q r a' w') Q
  | .two i j r s, a, w => (∃ o, all[i]? = some o ∧ o.wp P a w (fun a' w' => S w' ∧ wpPlan P all S Q r a' w') Q) ∧ ∃ o, all[j]? = some o ∧ o.wp P a w (fun a' w' => S w' ∧ wpPlan P all S Q s a' w') Q
section
variable {P : Program} {ops : Array Oper} {S : World → Prop} {Q : Exit → Act → World → Prop}
theorem wpPlan_take {all : Array Oper} {i : Nat} {r : Plan} {a : Act} {w : World} {o : Oper} {v : Value} (ho : all[i]? = some o) (hy : ∀ w', S w' → (execOp a.eval o).run P w' = .ok (.value v) w')
    (h : wpPlan P all S Q r (a.put o.dst v) w) : wpPlan P all S Q (.take i r) a w := ⟨o, v, ho, hy, h⟩
theorem wpPlan_do {all : Array Oper} {i : Nat} {r : Plan} {a : Act} {w : World} {o : Oper} (ho : all[i]? = some o)
    (h : ∀ K : Act → World → Prop, (∀ a' w', S w' → wpPlan P all S Q r a' w' → K a' w') → o.wp P a w K Q) : wpPlan P all S Q (.one i r) a w :=
  ⟨o, ho, h _ fun _ _ h1 h2 => ⟨h1, h2⟩⟩
theorem wpPlan_two {all : Array Oper} {i j : Nat} {r s : Plan} {a : Act} {w : World} (h1 : wpPlan P all S Q (.one i r) a w) (h2 : wpPlan P all S Q (.one j s) a w) : wpPlan P all S Q (.two i j r s) a w := ⟨h1, h2⟩
theorem wpPlan_fin {all : Array Oper} {a : Act} {w : World} (h : Q .normal a w) : wpPlan P all S Q .fin a w := h
theorem wpAnyH_plan {md : Region.Mode} {all : Array Oper} (hs : Region.noSelect ops = true) (hg : ∀ (i : Nat) (o : Oper), ops[i]? = some o → o.guard = none) (hall : ∀ (i : Nat), i < ops.size → all[i]? = ops[i]?)
    (hQ : ∀ c (a : Act) d v w, Q (.panic c) (a.put d v) w → Q (.panic c) a w) : ∀ (l : Plan) (listed : Array Bool) (a : Act) (w : World), planB md ops l listed = true → S w → wpPlan P all S Q l a w → wpAnyH P md ops Q S l.len listed a w := by
  have hat : ∀ (listed : Array Bool) k, k ∈ Region.ready md ops listed → k < ops.size := fun listed k hk => by
    obtain ⟨_, o', ho', _⟩ := mem_ready.1 hk
    exact (Array.getElem?_eq_some_iff.1 ho').1
  have key : ∀ (i : Nat) (o : Oper) (a : Act) (w : World) (K : Act → World → Prop), i < ops.size → all[i]? = some o → o.wp P a w K Q → wpOp P ops Q i K a w := fun i o a w K hi ho hr => by
    rw [hall i hi] at ho
    have hw : Region.wanted o (yielded ops a.tmps) = true := by simp [Region.wanted, hg i o ho]
    unfold wpOp
    rw [ho]
    simp only []
    rw [if_pos hw]
    exact .inl hr
  intro l
  induction l with
  | fin =>
    intro listed a w hb _ h
    have : Region.ready md ops listed = [] := by simpa [planB] using hb
    exact ⟨this, h⟩
  | take i r ih =>
    intro listed a w hb hS h
    simp only [planB, Bool.and_eq_true] at hb
    obtain ⟨⟨h1, h2⟩, h3⟩ := hb
    obtain ⟨o, v, ho, hy, hr⟩ := h
    have hlt := hat listed i (by simpa using h1)
    rw [hall i hlt] at ho
    have hw : Region.wanted o (yielded ops a.tmps) = true := by simp [Region.wanted, hg i o ho]
    exact wpAnyH_take ho hs h2 h1 (fun c a w hq => hQ c a _ _ w hq) (.inl ⟨hw, hy⟩) hS (ih _ _ w h3 hS hr)
  | one i r ih =>
    intro listed a w hb hS h
    simp only [planB, Bool.and_eq_true, beq_iff_eq] at hb
    obtain ⟨h1, h3⟩ := hb
    obtain ⟨o, ho, hr⟩ := h
    refine wpAnyH_all h1 (by simp) fun j hj => ?_
    have hji : j = i := by simpa using hj
    subst hji
    exact key j o a w _ (hat listed j (by rw [h1]; simp)) ho (Oper.wp_mono (fun a' w' h' => ⟨h'.1, ih _ a' w' h3 h'.1 h'.2⟩) hr)
  | two i j r s ih1 ih2 =>
    intro listed a w hb hS h
    simp only [planB, Bool.and_eq_true, beq_iff_eq] at hb
    obtain ⟨⟨⟨h1, hl⟩, h3⟩, h4⟩ := hb
    obtain ⟨⟨o1, ho1, hr1⟩, o2, ho2, hr2⟩ := h
    refine wpAnyH_all h1 (by simp) fun k hk => ?_
    have hk' : k = i ∨ k = j := by simpa using hk
    rcases hk' with rfl | rfl
    · exact key k o1 a w _ (hat listed k (by rw [h1]; simp)) ho1 (Oper.wp_mono (fun a' w' h' => ⟨h'.1, ih1 _ a' w' h3 h'.1 h'.2⟩) hr1)
    · refine key k o2 a w _ (hat listed k (by rw [h1]; simp)) ho2 (Oper.wp_mono (fun a' w' h' => ⟨h'.1, ?_⟩) hr2)
      have := ih2 _ a' w' h4 h'.1 h'.2
      rwa [← hl] at this
end
def planReg (ops : List Oper) (l : Plan) : Bool := match ops.getLast? with
  | some o => Region.noSelect ops.dropLast.toArray && ops.all (fun x => x.guard.isNone) && l.len == ops.dropLast.length && lastB .any ops.dropLast o &&
      planB .any ops.dropLast.toArray l (Array.replicate ops.dropLast.length false)
  | none => false
theorem wp_region_plan {P : Program} {ops : List Oper} {id : Nat} {Q : Exit → Act → World → Prop} {a : Act} {w : World} (l : Plan) (S : World → Prop) {o : Oper} (hm : P.follows .mixedOrders = true) (hB : planReg ops l = true) (ho : lastOf ops = some o)
    (hQ : ∀ c (a : Act) d v w, Q (.panic c) (a.put d v) w → Q (.panic c) a w) (hS : S w.drew)
    (h : wpPlan P ops.toArray S (Exit.then (fun a w => wpList P [o].toArray Q [o] a w) Q) l a w.drew) : (Code.region id ops.toArray true).wp P Q a w := by
  rw [lastOf_eq] at ho
  unfold planReg at hB
  rw [ho] at hB
  obtain ⟨l0, rfl⟩ := List.getLast?_eq_some_iff.1 ho
  simp only [List.dropLast_concat, Bool.and_eq_true, beq_iff_eq] at hB
  obtain ⟨⟨⟨⟨h1, h2⟩, h3⟩, h4⟩, h5⟩ := hB
  have hin := lastIn_of h4
  have hg : ∀ (i : Nat) (x : Oper), l0.toArray[i]? = some x → x.guard = none := fun i x hx => by
    have hm : x ∈ l0 := by
      have := (Array.getElem?_eq_some_iff.1 hx)
      obtain ⟨hi, rfl⟩ := this
      simp
    have := List.all_eq_true.1 h2 x (by simp [hm])
    simpa using this
  have hh := wpAnyH_plan (P := P) (ops := l0.toArray) (all := (l0 ++ [o]).toArray) (md := .any) (S := S) (Q := Exit.then (Behind P o Q) Q) h1 hg (fun i hi => by
    have : i < l0.length := by simpa using hi
    simp [List.getElem?_append_left, this]) (fun c a d v w hq => hQ c a d v w hq) l (Array.replicate l0.length false) a w.drew h5 hS h
  rw [h3] at hh
  refine wp_region_any hm ?_
  have := wpAny_last hin l0.length (Array.replicate l0.length false) a _ (by simp) (by
    intro j oj hj ht
    have hlt := (List.getElem?_eq_some_iff.1 hj).1
    simp [Array.getD, hlt] at ht) (wpAny_of_held _ _ _ _ hh)
  simpa [Array.replicate_succ] using this
end Go.Proofs.Ytlcmddghppdmgaa
