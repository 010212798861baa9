/-
  A region that draws its order, within a round of a range over a function: what holds of it outside of a round holds within. Conditions: no operation of it defers a call.
-/
import Derived.Test.YtfmpcniehgipfaaBf4
import Derived.RangeFuncCalls
import Derived.OrdersIn
import Derived.TacticsIn
namespace Go.Proofs.Ytfmpcniehgipfaa
open Go.RowKit
theorem rows_round {P : Program} {row : String} {args : Array Value} {w : World} {R : Value → World → Prop} {l n : Nat} (h : Rows P row args w R) : RowsIn (Fence.wide.inRound l) n P row args w R :=
  fun c cs _ => let ⟨v, w', r, s⟩ := h c cs; ⟨v, w', r, stepsIn_wide.2 s⟩
theorem opIn_round {P : Program} {o : Oper} {a : Act} {w : World} {K : Act → World → Prop} {Q : Exit → Act → World → Prop} {l n : Nat} (hdf : ∀ c, o.op ≠ .defer c) (h : o.wp P a w K Q) : o.wpIn (Fence.wide.inRound l) n P a w K Q := by
  refine ⟨fun f _ => trivial, ?_⟩
  rw [Fence.inRound_round, Oper.semAt_some l _ _ hdf]
  unfold Oper.wp at h
  generalize (execOp a.eval o).run P w = r at h ⊢
  unfold Oper.upon at h
  unfold Oper.uponIn
  split at h
  · exact h
  · exact h
  · exact h
  · exact ⟨fun hd => by simp [Fence.wide] at hd, CallsIn.inRound l (callsIn_wide.2 (h.mono fun e w h => by cases e <;> exact h))⟩
  · exact ⟨fun hd => by simp [Fence.wide] at hd, rows_round h⟩
  · exact h
  · exact h.elim
theorem opsIn_round {P : Program} {ops : Array Oper} {Q : Exit → Act → World → Prop} {l n : Nat} (hdf : ∀ (i : Nat) (o : Oper), ops[i]? = some o → ∀ c, o.op ≠ .defer c) (hLO : ¬ LetsOut Q) :
    ∀ (is : List Nat) (a : Act) (w : World), wpOps P ops Q is a w → wpOpsIn (Fence.wide.inRound l) n P ops Q is a w
  | [], a, w, h => h
  | i :: rest, a, w, h => by
    unfold wpOps at h
    unfold wpOpsIn
    cases ho : ops[i]? with
    | none =>
      rw [ho] at h
      exact opsIn_round hdf hLO rest a w h
    | some o =>
      rw [ho] at h
      simp only at h ⊢
      split
      · rename_i hw
        rw [if_pos hw] at h
        rcases h with h | h
        · exact Oper.wpIn_mono (fun a w => opsIn_round hdf hLO rest a w) (opIn_round (hdf i o ho) h)
        · exact absurd h.2 hLO
      · rename_i hw
        rw [if_neg hw] at h
        exact ⟨fun f _ => trivial, opsIn_round hdf hLO rest _ w h⟩
theorem wpIn_region_any_round {P : Program} {ops : Array Oper} {Q : Exit → Act → World → Prop} {l n id : Nat} {a : Act} {w : World} (hm : P.follows .mixedOrders = true) (hdf : ∀ (i : Nat) (o : Oper), ops[i]? = some o → ∀ c, o.op ≠ .defer c) (hLO : ¬ LetsOut Q)
    (h : wpAny P .any ops Q ops.size (Array.replicate ops.size false) a { w with drawn := w.drawn + 1 }) : (Code.region id ops true).wpIn (Fence.wide.inRound l) n P Q a w :=
  wpIn_region_draw fun t => by
    simp only [Region.schedule, hm, Bool.true_or, if_true]
    exact opsIn_round hdf hLO _ a _ (wpAny_sound ops.size t _ a _ h)
/-- no operation defers -/
def noDefer (ops : List Oper) : Bool := ops.all fun o => match o.op with | .defer _ => false | _ => true
theorem noDefer_at {ops : List Oper} (h : noDefer ops = true) (i : Nat) (o : Oper) (hi : ops.toArray[i]? = some o) (c : Call) : o.op ≠ .defer c := by
  have hm : o ∈ ops := by
    have hi' : ops[i]? = some o := by simpa using hi
    exact List.mem_of_getElem? hi'
  have := List.all_eq_true.1 h o hm
  intro e
  rw [e] at this
  cases this
theorem wpIn_region_seq_round {P : Program} {ops : List Oper} {id fl n : Nat} {Q : Exit → Act → World → Prop} {a : Act} {w : World} (l : List (Nat × Bool)) (S : World → Prop) {o : Oper} (hm : P.follows .mixedOrders = true) (hB : seqReg ops l = true) (hD : noDefer ops = true) (ho : lastOf ops = some o) (hLO : ¬ LetsOut Q)
    (hQ : ∀ c (a : Act) d v w, Q (.panic c) (a.put d v) w → Q (.panic c) a w) (hS : S w.drew)
    (h : wpSeq P ops.toArray S (Exit.then (fun a w => wpList P [o].toArray Q [o] a w) Q) l a w.drew) : (Code.region id ops.toArray true).wpIn (Fence.wide.inRound fl) n P Q a w := by
  have hdf := noDefer_at hD
  rw [lastOf_eq] at ho
  unfold seqReg at hB
  rw [ho] at hB
  obtain ⟨l0, rfl⟩ := List.getLast?_eq_some_iff.1 ho
  simp only [List.dropLast_concat, Bool.and_eq_true, beq_iff_eq] at hB
  obtain ⟨⟨⟨⟨h1, h2⟩, h3⟩, h4⟩, h5⟩ := hB
  have hin := lastIn_of h4
  have hg : ∀ (i : Nat) (x : Oper), l0.toArray[i]? = some x → x.guard = none := fun i x hx => by
    have hm : x ∈ l0 := by
      have := (Array.getElem?_eq_some_iff.1 hx)
      obtain ⟨hi, rfl⟩ := this
      simp
    have := List.all_eq_true.1 h2 x (by simp [hm])
    simpa using this
  have hh := wpAnyH_seq (P := P) (ops := l0.toArray) (all := (l0 ++ [o]).toArray) (md := .any) (S := S) (Q := Exit.then (Behind P o Q) Q) h1 hg (fun i hi => by
    have : i < l0.length := by simpa using hi
    simp [List.getElem?_append_left, this]) (fun c a d v w hq => hQ c a d v w hq) l (Array.replicate l0.length false) a w.drew h5 hS h
  rw [h3] at hh
  refine wpIn_region_any_round hm hdf hLO ?_
  have := wpAny_last hin l0.length (Array.replicate l0.length false) a _ (by simp) (by
    intro j oj hj ht
    have hlt := (List.getElem?_eq_some_iff.1 hj).1
    simp [Array.getD, hlt] at ht) (wpAny_of_held _ _ _ _ hh)
  simpa [Array.replicate_succ] using this
end Go.Proofs.Ytfmpcniehgipfaa
