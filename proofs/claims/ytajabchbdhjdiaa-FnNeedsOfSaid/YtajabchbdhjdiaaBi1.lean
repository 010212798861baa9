/-
  A region that draws its order, of operations some of which have guards: as XSeq, where each guard is known when its operation comes up. Conditions: the order's edges, as one Bool.
-/
import Derived.Test.YtajabchbdhjdiaaBa3
namespace Go.Proofs.Ytajabchbdhjdiaa
open Go.RowKit
section
variable {P : Program} {ops : Array Oper} {S : World → Prop} {Q : Exit → Act → World → Prop}
/-- the walk: an operation is taken first (it may be one that is not wanted), or walked alone -/
def wpSeqG (P : Program) (all : Array Oper) (S : World → Prop) (Q : Exit → Act → World → Prop) : List (Nat × Bool) → Act → World → Prop
  | [], a, w => Q .normal a w
  | (i, true) :: r, a, w => ∃ o v, all[i]? = some o ∧ YieldsIf P all S o v a ∧ wpSeqG P all S Q r (a.put o.dst v) w
  | (i, false) :: r, a, w => ∃ o, all[i]? = some o ∧ Region.wanted o (yielded all a.tmps) = true ∧ o.wp P a w (fun a' w' => S w' ∧ wpSeqG P all S Q r a' w') Q
theorem wpSeqG_take {all : Array Oper} {i : Nat} {r : List (Nat × Bool)} {a : Act} {w : World} {o : Oper} {v : Value} (ho : all[i]? = some o) (hw : Region.wanted o (yielded all a.tmps) = true) (hy : ∀ w', S w' → (execOp a.eval o).run P w' = .ok (.value v) w')
    (h : wpSeqG P all S Q r (a.put o.dst v) w) : wpSeqG P all S Q ((i, true) :: r) a w := ⟨o, v, ho, .inl ⟨hw, hy⟩, h⟩
theorem wpSeqG_skip {all : Array Oper} {i : Nat} {r : List (Nat × Bool)} {a : Act} {w : World} {o : Oper} (ho : all[i]? = some o) (hw : Region.wanted o (yielded all a.tmps) = false)
    (h : wpSeqG P all S Q r (a.put o.dst undef) w) : wpSeqG P all S Q ((i, true) :: r) a w := ⟨o, undef, ho, .inr ⟨hw, rfl⟩, h⟩
theorem wpSeqG_do {all : Array Oper} {i : Nat} {r : List (Nat × Bool)} {a : Act} {w : World} {o : Oper} (ho : all[i]? = some o) (hw : Region.wanted o (yielded all a.tmps) = true)
    (h : ∀ K : Act → World → Prop, (∀ a' w', S w' → wpSeqG P all S Q r a' w' → K a' w') → o.wp P a w K Q) : wpSeqG P all S Q ((i, false) :: r) a w :=
  ⟨o, ho, hw, h _ fun _ _ h1 h2 => ⟨h1, h2⟩⟩
theorem wpSeqG_nil {all : Array Oper} {a : Act} {w : World} (h : Q .normal a w) : wpSeqG P all S Q [] a w := h
theorem wpAnyH_seqG {md : Region.Mode} {all : Array Oper} (hs : Region.noSelect ops = true) (hg : ∀ (i : Nat) (o : Oper), ops[i]? = some o → ∀ g b, o.guard = some (g, b) → all[g]? = ops[g]?) (hall : ∀ (i : Nat), i < ops.size → all[i]? = ops[i]?)
    (hQ : ∀ c (a : Act) d v w, Q (.panic c) (a.put d v) w → Q (.panic c) a w) : ∀ (l : List (Nat × Bool)) (listed : Array Bool) (a : Act) (w : World), seqB md ops l listed = true → S w → wpSeqG P all S Q l a w → wpAnyH P md ops Q S l.length listed a w
  | [], listed, a, w, hb, _, h => by
    have : Region.ready md ops listed = [] := by simpa [seqB] using hb
    exact ⟨this, h⟩
  | (i, true) :: r, listed, a, w, hb, hS, h => by
    simp only [seqB, if_true, Bool.and_eq_true] at hb
    obtain ⟨⟨h1, h2⟩, h3⟩ := hb
    obtain ⟨o, v, ho, hy, hr⟩ := h
    have hlt : i < ops.size := by
      have h1' : i ∈ Region.ready md ops listed := by simpa using h1
      obtain ⟨_, o', ho', _⟩ := mem_ready.1 h1'
      exact (Array.getElem?_eq_some_iff.1 ho').1
    rw [hall i hlt] at ho
    have hw := wanted_same (t := a.tmps) (hg i o ho)
    have hy' : YieldsIf P ops S o v a := by
      unfold YieldsIf at hy ⊢
      rw [← hw]
      exact hy
    exact wpAnyH_take ho hs h2 h1 (fun c a w hq => hQ c a _ _ w hq) hy' hS (wpAnyH_seqG hs hg hall hQ r _ _ w h3 hS hr)
  | (i, false) :: r, listed, a, w, hb, hS, h => by
    simp only [seqB, Bool.false_eq_true, if_false, Bool.and_eq_true, beq_iff_eq] at hb
    obtain ⟨h1, h3⟩ := hb
    obtain ⟨o, ho, hw0, hr⟩ := h
    have hlt : i < ops.size := by
      have h1' : i ∈ Region.ready md ops listed := by rw [h1]; simp
      obtain ⟨_, o', ho', _⟩ := mem_ready.1 h1'
      exact (Array.getElem?_eq_some_iff.1 ho').1
    rw [hall i hlt] at ho
    have hw : Region.wanted o (yielded ops a.tmps) = true := (wanted_same (t := a.tmps) (hg i o ho)).symm.trans hw0
    refine wpAnyH_all h1 (by simp) fun j hj => ?_
    have hji : j = i := by simpa using hj
    subst hji
    unfold wpOp
    rw [ho]
    simp only []
    rw [if_pos hw]
    refine .inl (Oper.wp_mono (fun a' w' h' => ⟨h'.1, wpAnyH_seqG hs hg hall hQ r _ a' w' h3 h'.1 h'.2⟩) hr)
end
/-- the Bool over a region -/
def seqRegG (ops : List Oper) (l : List (Nat × Bool)) : Bool := match ops.getLast? with
  | some o => Region.noSelect ops.dropLast.toArray && l.length == ops.dropLast.length && lastB .any ops.dropLast o &&
      seqB .any ops.dropLast.toArray l (Array.replicate ops.dropLast.length false)
  | none => false
theorem wp_region_seqG {P : Program} {ops : List Oper} {id : Nat} {Q : Exit → Act → World → Prop} {a : Act} {w : World} (l : List (Nat × Bool)) (S : World → Prop) {o : Oper} (hm : P.follows .mixedOrders = true) (hB : seqRegG ops l = true) (ho : lastOf ops = some o)
    (hQ : ∀ c (a : Act) d v w, Q (.panic c) (a.put d v) w → Q (.panic c) a w) (hS : S w.drew)
    (h : wpSeqG P ops.toArray S (Exit.then (fun a w => wpList P [o].toArray Q [o] a w) Q) l a w.drew) : (Code.region id ops.toArray true).wp P Q a w := by
  rw [lastOf_eq] at ho
  unfold seqRegG at hB
  rw [ho] at hB
  obtain ⟨l0, rfl⟩ := List.getLast?_eq_some_iff.1 ho
  simp only [List.dropLast_concat, Bool.and_eq_true, beq_iff_eq] at hB
  obtain ⟨⟨⟨h1, h3⟩, h4⟩, h5⟩ := hB
  have hin := lastIn_of h4
  have hall : ∀ i, i < l0.toArray.size → (l0 ++ [o]).toArray[i]? = l0.toArray[i]? := fun i hi => by
    have : i < l0.length := by simpa using hi
    simp [List.getElem?_append_left, this]
  have hg : ∀ (i : Nat) (x : Oper), l0.toArray[i]? = some x → ∀ g b, x.guard = some (g, b) → (l0 ++ [o]).toArray[g]? = l0.toArray[g]? := fun i x hx g b hgb =>
    hall g (by have := hin.gd i x (by simpa using hx) g b hgb; simpa using this)
  have hh := wpAnyH_seqG (P := P) (ops := l0.toArray) (all := (l0 ++ [o]).toArray) (md := .any) (S := S) (Q := Exit.then (Behind P o Q) Q) h1 hg hall (fun c a d v w hq => hQ c a d v w hq) l (Array.replicate l0.length false) a w.drew h5 hS h
  rw [h3] at hh
  refine wp_region_any hm ?_
  have := wpAny_last hin l0.length (Array.replicate l0.length false) a _ (by simp) (by
    intro j oj hj ht
    have hlt := (List.getElem?_eq_some_iff.1 hj).1
    simp [Array.getD, hlt] at ht) (wpAny_of_held _ _ _ _ hh)
  simpa [Array.replicate_succ] using this
end Go.Proofs.Ytajabchbdhjdiaa
