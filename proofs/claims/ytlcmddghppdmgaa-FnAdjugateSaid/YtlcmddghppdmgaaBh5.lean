/-
  A region that draws its order, within a round of a range over a function: what holds of it outside of a round holds within. Conditions: no operation of it defers a call.
  A region that draws its order, within a round of a range over a function, whose last two operations wait for all the others, one behind the other; the last but one may be a call of yield. Conditions: no operation of it defers a call.
  A region that draws its order, within a round of a range over a function: two operations may come up in either order, and the last two wait for all the others. Conditions: no operation of it defers a call.
-/
import Derived.Test.YtlcmddghppdmgaaBh4
import Derived.RangeFuncCalls
import Derived.OrdersIn
import Derived.TacticsIn
namespace Go.Proofs.Ytlcmddghppdmgaa
open Go.RowKit
theorem rows_round {P : Program} {row : String} {args : Array Value} {w : World} {R : Value → World → Prop} {l n : Nat} (h : Rows P row args w R) : RowsIn (Fence.wide.inRound l) n P row args w R :=
  fun c cs _ => let ⟨v, w', r, s⟩ := h c cs; ⟨v, w', r, stepsIn_wide.2 s⟩
theorem opIn_round {P : Program} {o : Oper} {a : Act} {w : World} {K : Act → World → Prop} {Q : Exit → Act → World → Prop} {l n : Nat} (hdf : ∀ c, o.op ≠ .defer c) (h : o.wp P a w K Q) : o.wpIn (Fence.wide.inRound l) n P a w K Q := by
  refine ⟨fun f _ => trivial, ?_⟩
  rw [Fence.inRound_round, Oper.semAt_some l _ _ hdf]
  unfold Oper.wp at h
  generalize (execOp a.eval o).run P w = r at h ⊢
  unfold Oper.upon at h
  unfold Oper.uponIn
  split at h
  · exact h
  · exact h
  · exact h
  · exact ⟨fun hd => by simp [Fence.wide] at hd, CallsIn.inRound l (callsIn_wide.2 (h.mono fun e w h => by cases e <;> exact h))⟩
  · exact ⟨fun hd => by simp [Fence.wide] at hd, rows_round h⟩
  · exact h
  · exact h.elim
theorem opsIn_round {P : Program} {ops : Array Oper} {Q : Exit → Act → World → Prop} {l n : Nat} (hdf : ∀ (i : Nat) (o : Oper), ops[i]? = some o → ∀ c, o.op ≠ .defer c) (hLO : ¬ LetsOut Q) :
    ∀ (is : List Nat) (a : Act) (w : World), wpOps P ops Q is a w → wpOpsIn (Fence.wide.inRound l) n P ops Q is a w
  | [], a, w, h => h
  | i :: rest, a, w, h => by
    unfold wpOps at h
    unfold wpOpsIn
    cases ho : ops[i]? with
    | none =>
      rw [ho] at h
      exact opsIn_round hdf hLO rest a w h
    | some o =>
      rw [ho] at h
      simp only at h ⊢
      split
      · rename_i hw
        rw [if_pos hw] at h
        rcases h with h | h
        · exact Oper.wpIn_mono (fun a w => opsIn_round hdf hLO rest a w) (opIn_round (hdf i o ho) h)
        · exact absurd h.2 hLO
      · rename_i hw
        rw [if_neg hw] at h
        exact ⟨fun f _ => trivial, opsIn_round hdf hLO rest _ w h⟩
theorem wpIn_region_any_round {P : Program} {ops : Array Oper} {Q : Exit → Act → World → Prop} {l n id : Nat} {a : Act} {w : World} (hm : P.follows .mixedOrders = true) (hdf : ∀ (i : Nat) (o : Oper), ops[i]? = some o → ∀ c, o.op ≠ .defer c) (hLO : ¬ LetsOut Q)
    (h : wpAny P .any ops Q ops.size (Array.replicate ops.size false) a { w with drawn := w.drawn + 1 }) : (Code.region id ops true).wpIn (Fence.wide.inRound l) n P Q a w :=
  wpIn_region_draw fun t => by
    simp only [Region.schedule, hm, Bool.true_or, if_true]
    exact opsIn_round hdf hLO _ a _ (wpAny_sound ops.size t _ a _ h)
/-- no operation defers -/
def noDefer (ops : List Oper) : Bool := ops.all fun o => match o.op with | .defer _ => false | _ => true
theorem noDefer_at {ops : List Oper} (h : noDefer ops = true) (i : Nat) (o : Oper) (hi : ops.toArray[i]? = some o) (c : Call) : o.op ≠ .defer c := by
  have hm : o ∈ ops := by
    have hi' : ops[i]? = some o := by simpa using hi
    exact List.mem_of_getElem? hi'
  have := List.all_eq_true.1 h o hm
  intro e
  rw [e] at this
  cases this
theorem wpIn_region_seq_round {P : Program} {ops : List Oper} {id fl n : Nat} {Q : Exit → Act → World → Prop} {a : Act} {w : World} (l : List (Nat × Bool)) (S : World → Prop) {o : Oper} (hm : P.follows .mixedOrders = true) (hB : seqReg ops l = true) (hD : noDefer ops = true) (ho : lastOf ops = some o) (hLO : ¬ LetsOut Q)
    (hQ : ∀ c (a : Act) d v w, Q (.panic c) (a.put d v) w → Q (.panic c) a w) (hS : S w.drew)
    (h : wpSeq P ops.toArray S (Exit.then (fun a w => wpList P [o].toArray Q [o] a w) Q) l a w.drew) : (Code.region id ops.toArray true).wpIn (Fence.wide.inRound fl) n P Q a w := by
  have hdf := noDefer_at hD
  rw [lastOf_eq] at ho
  unfold seqReg at hB
  rw [ho] at hB
  obtain ⟨l0, rfl⟩ := List.getLast?_eq_some_iff.1 ho
  simp only [List.dropLast_concat, Bool.and_eq_true, beq_iff_eq] at hB
  obtain ⟨⟨⟨⟨h1, h2⟩, h3⟩, h4⟩, h5⟩ := hB
  have hin := lastIn_of h4
  have hg : ∀ (i : Nat) (x : Oper), l0.toArray[i]? = some x → x.guard = none := fun i x hx => by
    have hm : x ∈ l0 := by
      have := (Array.getElem?_eq_some_iff.1 hx)
      obtain ⟨hi, rfl⟩ := this
      simp
    have := List.all_eq_true.1 h2 x (by simp [hm])
    simpa using this
  have hh := wpAnyH_seq (P := P) (ops := l0.toArray) (all := (l0 ++ [o]).toArray) (md := .any) (S := S) (Q := Exit.then (Behind P o Q) Q) h1 hg (fun i hi => by
    have : i < l0.length := by simpa using hi
    simp [List.getElem?_append_left, this]) (fun c a d v w hq => hQ c a d v w hq) l (Array.replicate l0.length false) a w.drew h5 hS h
  rw [h3] at hh
  refine wpIn_region_any_round hm hdf hLO ?_
  have := wpAny_last hin l0.length (Array.replicate l0.length false) a _ (by simp) (by
    intro j oj hj ht
    have hlt := (List.getElem?_eq_some_iff.1 hj).1
    simp [Array.getD, hlt] at ht) (wpAny_of_held _ _ _ _ hh)
  simpa [Array.replicate_succ] using this
end Go.Proofs.Ytlcmddghppdmgaa
namespace Go.Proofs.Ytlcmddghppdmgaa
set_option linter.unusedVariables false
open Go.RowKit
theorem operIn_turn {F : Fence} {n : Nat} {P : Program} {x : Oper} {a : Act} {w : World} {K K' : Act → World → Prop} {Z : Act → World → Prop} {Q : Exit → Act → World → Prop} (h : ∀ a w, K a w → K' a w) (hh : x.wpIn F n P a w K (Exit.then Z Q)) : x.wpIn F n P a w K' Q := by
  unfold Oper.wpIn at *
  refine ⟨hh.1, ?_⟩
  have hh := hh.2
  generalize (x.semAt F.round a.eval).run P w = r at *
  cases r with
  | ok m w' =>
    cases m <;> simp only [Oper.uponIn] at hh ⊢ <;>
      first
        | exact h _ _ hh
        | exact ⟨hh.1, CallsIn.mono hh.2 (fun e w'' he => by cases e <;> first | exact h _ _ he | exact he)⟩
        | exact ⟨hh.1, RowsIn.mono hh.2 (fun _ _ he => h _ _ he)⟩
        | exact ⟨hh.1, RoundIn.mono hh.2 (fun e w'' he => by cases e <;> first | exact h _ _ he | exact he)⟩
  | halt x w' => cases x <;> simp only [Oper.uponIn] at hh ⊢ <;> exact hh
theorem operIn_back {F : Fence} {n : Nat} {P : Program} {x : Oper} {a : Act} {w : World} {K K' : Act → World → Prop} {Z : Act → World → Prop} {Q : Exit → Act → World → Prop} (h : ∀ a w, K a w → K' a w) (hh : x.wpIn F n P a w K Q) : x.wpIn F n P a w K' (Exit.then Z Q) := by
  unfold Oper.wpIn at *
  refine ⟨hh.1, ?_⟩
  have hh := hh.2
  generalize (x.semAt F.round a.eval).run P w = r at *
  cases r with
  | ok m w' =>
    cases m <;> simp only [Oper.uponIn] at hh ⊢ <;>
      first
        | exact h _ _ hh
        | exact ⟨hh.1, CallsIn.mono hh.2 (fun e w'' he => by cases e <;> first | exact h _ _ he | exact he)⟩
        | exact ⟨hh.1, RowsIn.mono hh.2 (fun _ _ he => h _ _ he)⟩
        | exact ⟨hh.1, RoundIn.mono hh.2 (fun e w'' he => by cases e <;> first | exact h _ _ he | exact he)⟩
  | halt x w' => cases x <;> simp only [Oper.uponIn] at hh ⊢ <;> exact hh
section
variable {F : Fence} {n : Nat} {P : Program} {md : Region.Mode} {l : List Oper} {o : Oper}
theorem wpOpIn_turn (h : LastIn md l o) {i : Nat} (hi : i < l.length) {a : Act} {w : World} {K K' : Act → World → Prop} {Z : Act → World → Prop} {Q : Exit → Act → World → Prop} (hK : ∀ a w, K a w → K' a w)
    (hh : wpOpIn F n P l.toArray (Exit.then Z Q) i K a w) : wpOpIn F n P (l ++ [o]).toArray Q i K' a w := by
  have h1 : l.toArray[i]? = some l[i] := by simp [hi]
  have h2 : (l ++ [o]).toArray[i]? = some l[i] := by simp [hi, List.getElem?_append_left]
  unfold wpOpIn at *
  rw [h1] at hh
  rw [h2]
  simp only [] at hh ⊢
  rw [wanted_same (ops' := l.toArray) (fun g b hg => by
    have := h.gd i l[i] (by simp [hi]) g b hg
    simp [List.getElem?_append_left, this])]
  split
  · rename_i hw
    rw [if_pos hw] at hh
    exact operIn_turn hK hh
  · rename_i hw
    rw [if_neg hw] at hh
    exact ⟨hh.1, hK _ _ hh.2⟩
/-- the last operation behind the others -/
def BehindIn (F : Fence) (n : Nat) (P : Program) (o : Oper) (Q : Exit → Act → World → Prop) (a : Act) (w : World) : Prop := o.wpIn F n P a w (Q .normal) Q
theorem BehindIn.op (h : LastIn md l o) {Q : Exit → Act → World → Prop} {a : Act} {w : World} (hb : BehindIn F n P o Q a w) : wpOpIn F n P (l ++ [o]).toArray Q l.length (Q .normal) a w := by
  unfold BehindIn at hb
  unfold wpOpIn
  rw [show (l ++ [o]).toArray[l.length]? = some o by simp]
  simp only []
  have hw : ∀ ops : Array Oper, Region.wanted o (yielded ops a.tmps) = true := fun ops => by simp [Region.wanted, h.og]
  rw [if_pos (hw _)]
  exact hb
theorem wpAnyIn_last (h : LastIn md l o) {Q : Exit → Act → World → Prop} : ∀ (fuel : Nat) (listed : Array Bool) (a : Act) (w : World), listed.size = l.length → Shutl md l listed →
    wpAnyIn F n P md l.toArray (Exit.then (BehindIn F n P o Q) Q) fuel listed a w → wpAnyIn F n P md (l ++ [o]).toArray Q (fuel + 1) (listed.push false) a w := by
  intro fuel
  have last : ∀ (fuel : Nat) (listed : Array Bool) (a : Act) (w : World), listed.size = l.length → Region.ready md l.toArray listed = [] → BehindIn F n P o Q a w →
      wpAnyIn F n P md (l ++ [o]).toArray Q (fuel + 1) (listed.push false) a w := by
    intro fuel listed a w hs hr hq
    have hall := all_of_none h hs hr
    have hin : l.length ∈ Region.ready md (l ++ [o]).toArray (listed.push false) := mem_ready.2 ⟨by rw [← hs]; exact push_at _ _, o, by simp, fun e he hb => by
      have := h.olow e he hb
      rw [push_lt _ (by omega)]
      exact hall _ this⟩
    refine ⟨fun h0 => (by rw [h0] at hin; cases hin), fun j hj => ?_⟩
    obtain ⟨hju, oj, hoj, _⟩ := mem_ready.1 hj
    have hjl : j = l.length := by
      have hlt : j < (l ++ [o]).length := by
        have := (Array.getElem?_eq_some_iff.1 hoj).1
        simpa using this
      simp at hlt
      by_cases hj' : j < l.length
      · rw [push_lt _ (by omega)] at hju
        have := hall j hj'
        have hd : listed.getD j true = listed.getD j false := by simp [Array.getD, show j < listed.size by omega]
        rw [hd, this] at hju
        cases hju
      · omega
    subst hjl
    refine wpOpIn_mono (fun a' w' hq' => wpAnyIn_done ?_ hq' fuel) (BehindIn.op h hq)
    refine List.eq_nil_iff_forall_not_mem.2 fun k hk => ?_
    obtain ⟨hku, ok, hok, _⟩ := mem_ready.1 hk
    have hlt : k < l.length + 1 := by
      have := (Array.getElem?_eq_some_iff.1 hok).1
      simpa using this
    by_cases hk' : k < l.length
    · rw [getD_set_ne true (by omega), push_lt _ (by omega)] at hku
      have := hall k hk'
      have hd : listed.getD k true = listed.getD k false := by simp [Array.getD, show k < listed.size by omega]
      rw [hd, this] at hku
      cases hku
    · have : k = l.length := by omega
      subst this
      simp [Array.getD, hs] at hku
  induction fuel with
  | zero =>
    intro listed a w hs hc hh
    exact last 0 listed a w hs hh.1 hh.2
  | succ fuel ih =>
    intro listed a w hs hc hh
    by_cases hr : Region.ready md l.toArray listed = []
    · exact last (fuel + 1) listed a w hs hr (hh.1 hr)
    · refine ⟨fun h0 => ?_, fun j hj => ?_⟩
      · obtain ⟨x, hx⟩ := List.exists_mem_of_ne_nil _ hr
        obtain ⟨hu, ox, hox, hall⟩ := mem_ready.1 hx
        have hxl : x < l.length := by have := (Array.getElem?_eq_some_iff.1 hox).1; simpa using this
        have : x ∈ Region.ready md (l ++ [o]).toArray (listed.push false) := mem_ready.2 ⟨by rw [push_lt _ (by omega)]; exact hu, ox, by simpa [List.getElem?_append_left, hxl] using hox, fun e he hb => by
          have hl := h.low x ox (by simpa using hox) e he hb
          rw [push_lt _ (by omega)]
          exact hall e he hb⟩
        rw [h0] at this
        cases this
      · obtain ⟨hu, oj, hoj, hall⟩ := mem_ready.1 hj
        have hlt : j < l.length + 1 := by have := (Array.getElem?_eq_some_iff.1 hoj).1; simpa using this
        by_cases hjl : j < l.length
        · have hoj' : l[j]? = some oj := by simpa [List.getElem?_append_left, hjl] using hoj
          have hj' : j ∈ Region.ready md l.toArray listed := mem_ready.2 ⟨by rw [push_lt _ (by omega)] at hu; exact hu, oj, by simpa using hoj', fun e he hb => by
            have hl := h.low j oj hoj' e he hb
            have := hall e he hb
            rwa [push_lt _ (by omega)] at this⟩
          rw [push_set (by omega)]
          exact wpOpIn_turn h hjl (fun a' w' h' => ih _ a' w' (by simpa using hs) (shutl_set hc hj') h') (hh.2 j hj')
        · have hjl : j = l.length := by omega
          subst hjl
          have hoo : oj = o := by simpa using hoj.symm
          subst hoo
          have hall2 := all_of_last h hc (fun e he hb => by
            have hl := h.olow e he hb
            have := hall e he hb
            rwa [push_lt _ (by omega)] at this)
          exfalso
          refine hr (List.eq_nil_iff_forall_not_mem.2 fun k hk => ?_)
          obtain ⟨hku, ok, hok, _⟩ := mem_ready.1 hk
          have hkl : k < l.length := by have := (Array.getElem?_eq_some_iff.1 hok).1; simpa using this
          have h3 := hall2 k hkl
          have hd : listed.getD k true = listed.getD k false := by simp [Array.getD, show k < listed.size by omega]
          rw [hd, h3] at hku
          cases hku
end
theorem anyIn_round {P : Program} {ops : Array Oper} {md : Region.Mode} {Q : Exit → Act → World → Prop} {l n : Nat} (hdf : ∀ (i : Nat) (o : Oper), ops[i]? = some o → ∀ c, o.op ≠ .defer c) (hLO : ¬ LetsOut Q) :
    ∀ (fuel : Nat) (listed : Array Bool) (a : Act) (w : World), wpAny P md ops Q fuel listed a w → wpAnyIn (Fence.wide.inRound l) n P md ops Q fuel listed a w
  | 0, _, _, _, h => h
  | fuel + 1, listed, a, w, h => by
    refine ⟨h.1, fun i hi => ?_⟩
    have hh := h.2 i hi
    unfold wpOp at hh
    unfold wpOpIn
    cases ho : ops[i]? with
    | none =>
      rw [ho] at hh
      exact anyIn_round hdf hLO fuel _ a w hh
    | some o =>
      rw [ho] at hh
      simp only at hh ⊢
      split
      · rename_i hw
        rw [if_pos hw] at hh
        rcases hh with hh | hh
        · exact Oper.wpIn_mono (fun a w => anyIn_round hdf hLO fuel _ a w) (opIn_round (hdf i o ho) hh)
        · exact absurd hh.2 hLO
      · rename_i hw
        rw [if_neg hw] at hh
        exact ⟨fun f _ => trivial, anyIn_round hdf hLO fuel _ _ w hh⟩
/-- the Bool over a region: the last two wait for all that stand ahead -/
def seqReg2 (ops : List Oper) (l : List (Nat × Bool)) : Bool := match lastOf ops, lastOf ops.dropLast with
  | some o2, some o1 => Region.noSelect ops.dropLast.dropLast.toArray && ops.all (fun x => x.guard.isNone) && l.length == ops.dropLast.dropLast.length && lastB .any ops.dropLast.dropLast o1 && lastB .any ops.dropLast o2 &&
      seqB .any ops.dropLast.dropLast.toArray l (Array.replicate ops.dropLast.dropLast.length false)
  | _, _ => false
theorem noDefer_app {l : List Oper} {x : List Oper} (h : noDefer (l ++ x) = true) : noDefer l = true := by
  unfold noDefer at *
  rw [List.all_append, Bool.and_eq_true] at h
  exact h.1
theorem wpIn_region_seq2_round {P : Program} {ops : List Oper} {id fl n : Nat} {Q : Exit → Act → World → Prop} {a : Act} {w : World} (l : List (Nat × Bool)) (S : World → Prop) {o1 o2 : Oper} (hm : P.follows .mixedOrders = true) (hB : seqReg2 ops l = true) (hD : noDefer ops = true) (ho1 : lastOf ops.dropLast = some o1) (ho2 : lastOf ops = some o2) (hLO : ¬ LetsOut Q)
    (hQ : ∀ c (a : Act) d v w, Q (.panic c) (a.put d v) w → Q (.panic c) a w) (hS : S w.drew)
    (h : wpSeq P ops.toArray S (Exit.then (fun a w => o1.wpIn (Fence.wide.inRound fl) n P a w (fun a w => o2.wpIn (Fence.wide.inRound fl) n P a w (Q .normal) Q) Q) Q) l a w.drew) : (Code.region id ops.toArray true).wpIn (Fence.wide.inRound fl) n P Q a w := by
  unfold seqReg2 at hB
  rw [ho1, ho2] at hB
  rw [lastOf_eq] at ho1 ho2
  obtain ⟨l1, rfl⟩ := List.getLast?_eq_some_iff.1 ho2
  rw [List.dropLast_concat] at ho1 hB
  obtain ⟨l0, rfl⟩ := List.getLast?_eq_some_iff.1 ho1
  rw [List.dropLast_concat] at hB
  simp only [Bool.and_eq_true, beq_iff_eq] at hB
  obtain ⟨⟨⟨⟨⟨h1, h2⟩, h3⟩, h4⟩, h4'⟩, h5⟩ := hB
  have hin1 := lastIn_of h4
  have hin2 := lastIn_of h4'
  have hg : ∀ (i : Nat) (x : Oper), l0.toArray[i]? = some x → x.guard = none := fun i x hx => by
    have hm : x ∈ l0 := by
      have := (Array.getElem?_eq_some_iff.1 hx)
      obtain ⟨hi, rfl⟩ := this
      simp
    have := List.all_eq_true.1 h2 x (by simp [hm])
    simpa using this
  obtain ⟨Z2, hZ2⟩ : ∃ Z : Act → World → Prop, Z = BehindIn (Fence.wide.inRound fl) n P o2 Q := ⟨_, rfl⟩
  obtain ⟨Z1, hZ1⟩ : ∃ Z : Act → World → Prop, Z = BehindIn (Fence.wide.inRound fl) n P o1 (Exit.then Z2 Q) := ⟨_, rfl⟩
  have hpost : ∀ a w, o1.wpIn (Fence.wide.inRound fl) n P a w (fun a w => o2.wpIn (Fence.wide.inRound fl) n P a w (Q .normal) Q) Q → Z1 a w := fun a w hh => by
    rw [hZ1]
    exact operIn_back (fun a w h2 => by show Exit.then Z2 Q .normal a w; rw [hZ2]; exact h2) hh
  have hseq : wpSeq P (l0 ++ [o1] ++ [o2]).toArray S (Exit.then Z1 (Exit.then Z2 Q)) l a w.drew := by
    have key : ∀ (l : List (Nat × Bool)) (a : Act) (w : World), wpSeq P (l0 ++ [o1] ++ [o2]).toArray S (Exit.then (fun a w => o1.wpIn (Fence.wide.inRound fl) n P a w (fun a w => o2.wpIn (Fence.wide.inRound fl) n P a w (Q .normal) Q) Q) Q) l a w → wpSeq P (l0 ++ [o1] ++ [o2]).toArray S (Exit.then Z1 (Exit.then Z2 Q)) l a w := by
      intro l
      induction l with
      | nil => exact fun a w hh => hpost a w hh
      | cons x r ih =>
        obtain ⟨i, b⟩ := x
        intro a w hh
        cases b with
        | true =>
          obtain ⟨o, v, q1, q2, q3⟩ := hh
          exact ⟨o, v, q1, q2, ih _ _ q3⟩
        | false =>
          obtain ⟨o, q1, q2⟩ := hh
          refine ⟨o, q1, ?_⟩
          have q3 := Oper.wp_mono (fun a' w' hq => (⟨hq.1, ih a' w' hq.2⟩ : S w' ∧ _)) q2
          unfold Oper.wp at *
          revert q3
          generalize (execOp a.eval o).run P w = rr
          intro q3
          cases rr with
          | ok m w' =>
            cases m <;> simp only [Oper.upon] at q3 ⊢ <;>
              first
                | exact q3
                | exact Calls.mono q3 (fun e w'' he => by cases e <;> exact he)
          | halt x w' => cases x <;> simp only [Oper.upon] at q3 ⊢ <;> exact q3
    exact key l a w.drew h
  have hh := wpAnyH_seq (P := P) (ops := l0.toArray) (all := (l0 ++ [o1] ++ [o2]).toArray) (md := .any) (S := S) (Q := Exit.then Z1 (Exit.then Z2 Q)) h1 hg (fun i hi => by
    have : i < l0.length := by simpa using hi
    simp [List.getElem?_append_left, this]) (fun c a d v w hq => hQ c a d v w hq) l (Array.replicate l0.length false) a w.drew h5 hS hseq
  rw [h3] at hh
  have hdf := noDefer_at (noDefer_app (noDefer_app hD))
  have r0 := anyIn_round (Q := Exit.then Z1 (Exit.then Z2 Q)) (l := fl) (n := n) hdf (fun hq => hLO hq) _ _ _ _ (wpAny_of_held _ _ _ _ hh)
  have sh : ∀ l : List Oper, Shutl .any l (Array.replicate l.length false) := fun l j oj hj ht => by
    have hlt := (List.getElem?_eq_some_iff.1 hj).1
    simp [Array.getD, hlt] at ht
  rw [hZ1] at r0
  have r1 := wpAnyIn_last hin1 l0.length (Array.replicate l0.length false) a _ (by simp) (sh l0) r0
  have e1 : (Array.replicate l0.length false).push false = Array.replicate (l0 ++ [o1]).length false := by simp [Array.replicate_succ]
  rw [e1, hZ2] at r1
  have r2 := wpAnyIn_last hin2 (l0.length + 1) (Array.replicate (l0 ++ [o1]).length false) a _ (by simp) (sh _) r1
  have e2 : (Array.replicate (l0 ++ [o1]).length false).push false = Array.replicate (l0 ++ [o1] ++ [o2]).length false := by simp [Array.replicate_succ]
  rw [e2] at r2
  refine wpIn_region_any hm ?_
  simpa using r2
end Go.Proofs.Ytlcmddghppdmgaa
namespace Go.Proofs.Ytlcmddghppdmgaa
set_option linter.unusedVariables false
open Go.RowKit
/-- may the first operations come up in this order -/
def seqBC (md : Region.Mode) (ops : Array Oper) : List (Nat × Bool) → Array Bool → Bool
  | [], _ => true
  | (i, b) :: r, listed => (if b then (Region.ready md ops listed).contains i && Region.free md ops listed i else Region.ready md ops listed == [i]) && seqBC md ops r (listed.setIfInBounds i true)
def setAll : List (Nat × Bool) → Array Bool → Array Bool
  | [], listed => listed
  | (i, _) :: r, listed => setAll r (listed.setIfInBounds i true)
/-- the walk of some operations, one after the other, and what is asked behind them -/
def wpSeqC (P : Program) (all : Array Oper) (S : World → Prop) (Q : Exit → Act → World → Prop) (C : Act → World → Prop) : List (Nat × Bool) → Act → World → Prop
  | [], a, w => C a w
  | (i, true) :: r, a, w => ∃ o v, all[i]? = some o ∧ (∀ w', S w' → (execOp a.eval o).run P w' = .ok (.value v) w') ∧ wpSeqC P all S Q C r (a.put o.dst v) w
  | (i, false) :: r, a, w => ∃ o, all[i]? = some o ∧ o.wp P a w (fun a' w' => S w' ∧ wpSeqC P all S Q C r a' w') Q
section
variable {P : Program} {ops all : Array Oper} {S : World → Prop} {Q : Exit → Act → World → Prop} {C : Act → World → Prop}
theorem wpSeqC_take {i : Nat} {r : List (Nat × Bool)} {a : Act} {w : World} {o : Oper} {v : Value} (ho : all[i]? = some o) (hy : ∀ w', S w' → (execOp a.eval o).run P w' = .ok (.value v) w')
    (h : wpSeqC P all S Q C r (a.put o.dst v) w) : wpSeqC P all S Q C ((i, true) :: r) a w := ⟨o, v, ho, hy, h⟩
theorem wpSeqC_do {i : Nat} {r : List (Nat × Bool)} {a : Act} {w : World} {o : Oper} (ho : all[i]? = some o)
    (h : ∀ K : Act → World → Prop, (∀ a' w', S w' → wpSeqC P all S Q C r a' w' → K a' w') → o.wp P a w K Q) : wpSeqC P all S Q C ((i, false) :: r) a w :=
  ⟨o, ho, h _ fun _ _ h1 h2 => ⟨h1, h2⟩⟩
theorem wpSeqC_nil {a : Act} {w : World} (h : C a w) : wpSeqC P all S Q C [] a w := h
theorem wpAnyH_seqC {md : Region.Mode} {m : Nat} (hs : Region.noSelect ops = true) (hg : ∀ (i : Nat) (o : Oper), ops[i]? = some o → o.guard = none) (hall : ∀ (i : Nat), i < ops.size → all[i]? = ops[i]?)
    (hQ : ∀ c (a : Act) d v w, Q (.panic c) (a.put d v) w → Q (.panic c) a w) : ∀ (l : List (Nat × Bool)) (listed : Array Bool) (a : Act) (w : World), (∀ a w, S w → C a w → wpAnyH P md ops Q S m (setAll l listed) a w) → seqBC md ops l listed = true → S w → wpSeqC P all S Q C l a w → wpAnyH P md ops Q S (l.length + m) listed a w
  | [], listed, a, w, hC, hb, hS, h => by
    rw [show ([] : List (Nat × Bool)).length + m = m by simp]
    exact hC a w hS h
  | (i, true) :: r, listed, a, w, hC, hb, hS, h => by
    simp only [seqBC, if_true, Bool.and_eq_true] at hb
    obtain ⟨⟨h1, h2⟩, h3⟩ := hb
    obtain ⟨o, v, ho, hy, hr⟩ := h
    have hlt : i < ops.size := by
      have h1' : i ∈ Region.ready md ops listed := by simpa using h1
      obtain ⟨_, o', ho', _⟩ := mem_ready.1 h1'
      exact (Array.getElem?_eq_some_iff.1 ho').1
    rw [hall i hlt] at ho
    have hw : Region.wanted o (yielded ops a.tmps) = true := by simp [Region.wanted, hg i o ho]
    rw [show ((i, true) :: r).length + m = (r.length + m) + 1 by simp; omega]
    exact wpAnyH_take ho hs h2 h1 (fun c a w hq => hQ c a _ _ w hq) (.inl ⟨hw, hy⟩) hS (wpAnyH_seqC hs hg hall hQ r _ _ w hC h3 hS hr)
  | (i, false) :: r, listed, a, w, hC, hb, hS, h => by
    simp only [seqBC, Bool.false_eq_true, if_false, Bool.and_eq_true, beq_iff_eq] at hb
    obtain ⟨h1, h3⟩ := hb
    obtain ⟨o, ho, hr⟩ := h
    have hlt : i < ops.size := by
      have h1' : i ∈ Region.ready md ops listed := by rw [h1]; simp
      obtain ⟨_, o', ho', _⟩ := mem_ready.1 h1'
      exact (Array.getElem?_eq_some_iff.1 ho').1
    rw [hall i hlt] at ho
    have hw : Region.wanted o (yielded ops a.tmps) = true := by simp [Region.wanted, hg i o ho]
    rw [show ((i, false) :: r).length + m = (r.length + m) + 1 by simp; omega]
    refine wpAnyH_all h1 (by simp) fun j hj => ?_
    have hji : j = i := by simpa using hj
    subst hji
    unfold wpOp
    rw [ho]
    simp only []
    rw [if_pos hw]
    exact .inl (Oper.wp_mono (fun a' w' h' => ⟨h'.1, wpAnyH_seqC hs hg hall hQ r _ a' w' hC h3 h'.1 h'.2⟩) hr)
/-- two operations in either order -/
theorem wpAnyH_pair {md : Region.Mode} {m i j : Nat} (hs : Region.noSelect ops = true) (hg : ∀ (i : Nat) (o : Oper), ops[i]? = some o → o.guard = none) (hall : ∀ (i : Nat), i < ops.size → all[i]? = ops[i]?)
    (hQ : ∀ c (a : Act) d v w, Q (.panic c) (a.put d v) w → Q (.panic c) a w) {listed : Array Bool} {a : Act} {w : World}
    (hC1 : ∀ a w, S w → C a w → wpAnyH P md ops Q S m ((listed.setIfInBounds i true).setIfInBounds j true) a w) (hC2 : ∀ a w, S w → C a w → wpAnyH P md ops Q S m ((listed.setIfInBounds j true).setIfInBounds i true) a w)
    (hr : Region.ready md ops listed = [i, j]) (hr1 : Region.ready md ops (listed.setIfInBounds i true) = [j]) (hr2 : Region.ready md ops (listed.setIfInBounds j true) = [i]) (hS : S w)
    (h1 : wpSeqC P all S Q C [(i, false), (j, false)] a w) (h2 : wpSeqC P all S Q C [(j, false), (i, false)] a w) : wpAnyH P md ops Q S (m + 2) listed a w := by
  have hat : ∀ k, k ∈ Region.ready md ops listed → k < ops.size := fun k hk => by
    obtain ⟨_, o', ho', _⟩ := mem_ready.1 hk
    exact (Array.getElem?_eq_some_iff.1 ho').1
  have key : ∀ (x y : Nat), x ∈ Region.ready md ops listed → Region.ready md ops (listed.setIfInBounds x true) = [y] → (∀ a w, S w → C a w → wpAnyH P md ops Q S m ((listed.setIfInBounds x true).setIfInBounds y true) a w) → wpSeqC P all S Q C [(x, false), (y, false)] a w →
      wpOp P ops Q x (fun a' w' => S w' ∧ wpAnyH P md ops Q S (m + 1) (listed.setIfInBounds x true) a' w') a w := fun x y hx hry hCC hh => by
    obtain ⟨o, ho, hrr⟩ := hh
    rw [hall x (hat x hx)] at ho
    have hw : Region.wanted o (yielded ops a.tmps) = true := by simp [Region.wanted, hg x o ho]
    unfold wpOp
    rw [ho]
    simp only []
    rw [if_pos hw]
    refine .inl (Oper.wp_mono (fun a' w' h' => ⟨h'.1, ?_⟩) hrr)
    have := wpAnyH_seqC (md := md) (m := m) hs hg hall hQ [(y, false)] (listed.setIfInBounds x true) a' w' hCC (by simp [seqBC, hry]) h'.1 h'.2
    rwa [show [(y, false)].length + m = m + 1 by simp; omega] at this
  refine wpAnyH_all hr (by simp) fun k hk => ?_
  have hk' : k = i ∨ k = j := by simpa using hk
  rcases hk' with rfl | rfl
  · exact key k j (by rw [hr]; simp) hr1 hC1 h1
  · exact key k i (by rw [hr]; simp) hr2 hC2 h2
end
def pairReg2 (ops : List Oper) (l1 : List (Nat × Bool)) (i j : Nat) (l2 : List (Nat × Bool)) : Bool := match lastOf ops, lastOf ops.dropLast with
  | some o2, some o1 => Region.noSelect ops.dropLast.dropLast.toArray && ops.all (fun x => x.guard.isNone) && l1.length + (l2.length + 2) == ops.dropLast.dropLast.length && lastB .any ops.dropLast.dropLast o1 && lastB .any ops.dropLast o2 &&
      (seqBC .any ops.dropLast.dropLast.toArray l1 (Array.replicate ops.dropLast.dropLast.length false) &&
      (Region.ready .any ops.dropLast.dropLast.toArray (setAll l1 (Array.replicate ops.dropLast.dropLast.length false)) == [i, j] &&
      (Region.ready .any ops.dropLast.dropLast.toArray ((setAll l1 (Array.replicate ops.dropLast.dropLast.length false)).setIfInBounds i true) == [j] &&
      (Region.ready .any ops.dropLast.dropLast.toArray ((setAll l1 (Array.replicate ops.dropLast.dropLast.length false)).setIfInBounds j true) == [i] &&
      (seqB .any ops.dropLast.dropLast.toArray l2 (((setAll l1 (Array.replicate ops.dropLast.dropLast.length false)).setIfInBounds i true).setIfInBounds j true) &&
      seqB .any ops.dropLast.dropLast.toArray l2 (((setAll l1 (Array.replicate ops.dropLast.dropLast.length false)).setIfInBounds j true).setIfInBounds i true))))))
  | _, _ => false
theorem wpSeq_of_C {P : Program} {all : Array Oper} {S : World → Prop} {Q : Exit → Act → World → Prop} {C : Act → World → Prop} (hC : ∀ a w, C a w → Q .normal a w) : ∀ (l : List (Nat × Bool)) (a : Act) (w : World), wpSeqC P all S Q C l a w → wpSeq P all S Q l a w
  | [], a, w, h => hC a w h
  | (i, true) :: r, a, w, ⟨o, v, h1, h2, h3⟩ => ⟨o, v, h1, h2, wpSeq_of_C hC r _ w h3⟩
  | (i, false) :: r, a, w, ⟨o, h1, h2⟩ => ⟨o, h1, Oper.wp_mono (fun a' w' h' => ⟨h'.1, wpSeq_of_C hC r a' w' h'.2⟩) h2⟩
theorem wpIn_region_pair2_round {P : Program} {ops : List Oper} {id fl n : Nat} {Q : Exit → Act → World → Prop} {a : Act} {w : World} (l1 : List (Nat × Bool)) (i j : Nat) (l2 : List (Nat × Bool)) (S : World → Prop) {o1 o2 : Oper} (hm : P.follows .mixedOrders = true) (hB : pairReg2 ops l1 i j l2 = true) (hD : noDefer ops = true) (ho1 : lastOf ops.dropLast = some o1) (ho2 : lastOf ops = some o2) (hLO : ¬ LetsOut Q)
    (hQ : ∀ c (a : Act) d v w, Q (.panic c) (a.put d v) w → Q (.panic c) a w) (hS : S w.drew)
    (h : ∀ Q' : Exit → Act → World → Prop, wpSeqC P ops.toArray S Q' (fun a w =>
      wpSeqC P ops.toArray S Q' (fun a w => wpSeqC P ops.toArray S Q' (fun a w => o1.wpIn (Fence.wide.inRound fl) n P a w (fun a w => o2.wpIn (Fence.wide.inRound fl) n P a w (Q .normal) Q) Q) l2 a w) [(i, false), (j, false)] a w ∧
      wpSeqC P ops.toArray S Q' (fun a w => wpSeqC P ops.toArray S Q' (fun a w => o1.wpIn (Fence.wide.inRound fl) n P a w (fun a w => o2.wpIn (Fence.wide.inRound fl) n P a w (Q .normal) Q) Q) l2 a w) [(j, false), (i, false)] a w) l1 a w.drew) : (Code.region id ops.toArray true).wpIn (Fence.wide.inRound fl) n P Q a w := by
  unfold pairReg2 at hB
  rw [ho1, ho2] at hB
  rw [lastOf_eq] at ho1 ho2
  obtain ⟨lx, rfl⟩ := List.getLast?_eq_some_iff.1 ho2
  rw [List.dropLast_concat] at ho1 hB
  obtain ⟨l0, rfl⟩ := List.getLast?_eq_some_iff.1 ho1
  rw [List.dropLast_concat] at hB
  simp only [Bool.and_eq_true, beq_iff_eq] at hB
  obtain ⟨⟨⟨⟨⟨h1, h2⟩, h3⟩, h4⟩, h4'⟩, h5, h6, h7, h8, h9, h10⟩ := hB
  have hin1 := lastIn_of h4
  have hin2 := lastIn_of h4'
  have hg : ∀ (i : Nat) (x : Oper), l0.toArray[i]? = some x → x.guard = none := fun i x hx => by
    have hm : x ∈ l0 := by
      have := (Array.getElem?_eq_some_iff.1 hx)
      obtain ⟨hi, rfl⟩ := this
      simp
    have := List.all_eq_true.1 h2 x (by simp [hm])
    simpa using this
  obtain ⟨Z2, hZ2⟩ : ∃ Z : Act → World → Prop, Z = BehindIn (Fence.wide.inRound fl) n P o2 Q := ⟨_, rfl⟩
  obtain ⟨Z1, hZ1⟩ : ∃ Z : Act → World → Prop, Z = BehindIn (Fence.wide.inRound fl) n P o1 (Exit.then Z2 Q) := ⟨_, rfl⟩
  have hpost : ∀ a w, o1.wpIn (Fence.wide.inRound fl) n P a w (fun a w => o2.wpIn (Fence.wide.inRound fl) n P a w (Q .normal) Q) Q → (Exit.then Z1 (Exit.then Z2 Q)) .normal a w := fun a w hh => by
    show Z1 a w
    rw [hZ1]
    exact operIn_back (fun a w h2 => by show Exit.then Z2 Q .normal a w; rw [hZ2]; exact h2) hh
  have hall : ∀ (i : Nat), i < l0.toArray.size → (l0 ++ [o1] ++ [o2]).toArray[i]? = l0.toArray[i]? := fun i hi => by
    have : i < l0.length := by simpa using hi
    simp [List.getElem?_append_left, this]
  have hQ0 : ∀ c (a : Act) d v w, (Exit.then Z1 (Exit.then Z2 Q)) (.panic c) (a.put d v) w → (Exit.then Z1 (Exit.then Z2 Q)) (.panic c) a w := fun c a d v w hq => hQ c a d v w hq
  have hh : wpAnyH P .any l0.toArray (Exit.then Z1 (Exit.then Z2 Q)) S (l1.length + (l2.length + 2)) (Array.replicate l0.length false) a w.drew := by
    refine wpAnyH_seqC h1 hg hall hQ0 l1 _ a w.drew (fun a w hSw hC => ?_) h5 hS (h (Exit.then Z1 (Exit.then Z2 Q)))
    refine wpAnyH_pair h1 hg hall hQ0 (fun a w hSw hC => ?_) (fun a w hSw hC => ?_) h6 h7 h8 hSw hC.1 hC.2
    · exact wpAnyH_seq h1 hg hall hQ0 l2 _ a w h9 hSw (wpSeq_of_C hpost l2 a w hC)
    · exact wpAnyH_seq h1 hg hall hQ0 l2 _ a w h10 hSw (wpSeq_of_C hpost l2 a w hC)
  rw [h3] at hh
  have hdf := noDefer_at (noDefer_app (noDefer_app hD))
  have r0 := anyIn_round (Q := Exit.then Z1 (Exit.then Z2 Q)) (l := fl) (n := n) hdf (fun hq => hLO hq) _ _ _ _ (wpAny_of_held _ _ _ _ hh)
  have sh : ∀ l : List Oper, Shutl .any l (Array.replicate l.length false) := fun l j oj hj ht => by
    have hlt := (List.getElem?_eq_some_iff.1 hj).1
    simp [Array.getD, hlt] at ht
  rw [hZ1] at r0
  have r1 := wpAnyIn_last hin1 l0.length (Array.replicate l0.length false) a _ (by simp) (sh l0) r0
  have e1 : (Array.replicate l0.length false).push false = Array.replicate (l0 ++ [o1]).length false := by simp [Array.replicate_succ]
  rw [e1, hZ2] at r1
  have r2 := wpAnyIn_last hin2 (l0.length + 1) (Array.replicate (l0 ++ [o1]).length false) a _ (by simp) (sh _) r1
  have e2 : (Array.replicate (l0 ++ [o1]).length false).push false = Array.replicate (l0 ++ [o1] ++ [o2]).length false := by simp [Array.replicate_succ]
  rw [e2] at r2
  refine wpIn_region_any hm ?_
  simpa using r2
end Go.Proofs.Ytlcmddghppdmgaa
