/-
  Contracts of the exact laws' helpers on terms and powers. Conditions: none.
  Regions that draw their order, with guarded operations and callees that make memory: one walk in the order of the text, an operation at a time.
  q_pure: reads no cell; q_is v: the value is named (the first goal asks for it in every world of the class); q_skip: the guard says no. Ends with 'wpQuiet_nil fun w2 hb2 => ?_'.
  A region that draws its order and whose last operation waits for all the others: the others are walked as a region of their own, and the last one behind them. Conditions: the order's edges, as one Bool.
  Contracts of the exact laws' helpers on slices of numbers: eqIntS, markIntS, heldIntS, acSame. Conditions: what the slices hold is known.
  Contracts of the exact laws' helpers on lists of terms. Conditions: what the slices hold is known.
  Only blocks between two bounds have turned. Conditions: none.
  Rows of numbers of a call's own, made by append. Conditions: none.
  Matrices of numbers in the heap: a slice of slices. Conditions: none.
  Contracts of the exact laws' helpers on matrices: szMatrix, toMatrix, eqMatrix, markMatrix, heldMatrix. Conditions: what the slices hold is known.
  Contracts of the exact laws' helpers on matrices: copies. Conditions: what the slices hold is known.
-/
import Derived.Test.YtfmpcniehgipfaaChecked
import Derived.Test.YtfmpcniehgipfaaBf1
import Derived.WalkKit
import Derived.Lib.Hide
import Derived.Outline
import Derived.BigQuiet
import Derived.Deep.QuietTactic
import Derived.OwnWalk
import Derived.Deep.Quiet
import Derived.Test.YtfmpcniehgipfaaBf2
import Derived.Below
namespace Go.Proofs.Ytfmpcniehgipfaa
open Go.RowKit
theorem below_drewN {B : Nat} {a w : World} (h : Below B a w) (n : Nat) : Below B a (w.drewN n) := ⟨h.os, h.tape, h.output, h.size, h.block⟩
/-- three new blocks that hold the powers -/
def three (w : World) (a b c : Int) : World := ((w.alloc (Obj.cells #[.int .i64 a, .int .i64 b, .int .i64 c] 89)).alloc (Obj.cells #[.int .i64 a, .int .i64 b, .int .i64 c] 89)).alloc (Obj.cells #[.int .i64 a, .int .i64 b, .int .i64 c] 89)
/-- behind W there are only draws -/
def DrawnFrom (W w' : World) : Prop := ∃ n, W.drewN n = w'
theorem drewN_two (W : World) (n m : Nat) : W.drewN (n + m) = (W.drewN n).drewN m := by simp
theorem ret_bool2 {a b : Bool} (h : a = b) : Ending.returned (.bool a) = .returned (.bool b) := by rw [h]
set_option maxHeartbeats 2000000 in
theorem eqA3 (a b c d e f : Int) (w : World) :
    Calls Try.prog 131 #[.agg #[.int .i64 a, .int .i64 b, .int .i64 c], .agg #[.int .i64 d, .int .i64 e, .int .i64 f]] w fun x w' => x = .returned (.bool (a == d && b == e && c == f)) ∧ DrawnFrom ((w.alloc (Obj.cells #[.int .i64 a, .int .i64 b, .int .i64 c] 89)).alloc (Obj.cells #[.int .i64 d, .int .i64 e, .int .i64 f] 89)) w' := by
  cases h1 : (a != d)
  · have h1' : (a == d) = true := by simpa using h1
    cases h2 : (b != e)
    · have h2' : (b == e) = true := by simpa using h2
      cases h3 : (c != f)
      · have h3' : (c == f) = true := by simpa using h3
        have hF := Lib.hid (show (a == d && b == e && c == f) = true by rw [h1', h2', h3']; rfl)
        clear h1' h2' h3'
        go_enter Try.func131, Try.ntmps131
        go_wp2_with fail
        refine wp_loop_rounds 4 ?_
        iterate 3 (rw [rounds_succ]; go_wp2; go_quiet (fail); go_wp2)
        rw [rounds_succ]; go_wp2
        go_ret
        first | exact ⟨ret_bool2 hF.out.symm, _, rfl⟩ | exact ⟨ret_bool2 hF.out.symm, _, drewN_two _ _ _⟩
      · have h3' : (c == f) = false := by simpa using h3
        have hF := Lib.hid (show (a == d && b == e && c == f) = false by rw [h3', Bool.and_false])
        clear h1' h2' h3'
        go_enter Try.func131, Try.ntmps131
        go_wp2_with fail
        refine wp_loop_rounds 4 ?_
        iterate 3 (rw [rounds_succ]; go_wp2; go_quiet (fail); go_wp2)
        go_ret
        first | exact ⟨ret_bool2 hF.out.symm, _, rfl⟩ | exact ⟨ret_bool2 hF.out.symm, _, drewN_two _ _ _⟩
    · have h2' : (b == e) = false := by simpa using h2
      have hF := Lib.hid (show (a == d && b == e && c == f) = false by rw [h2', Bool.and_false, Bool.false_and])
      clear h1' h2'
      go_enter Try.func131, Try.ntmps131
      go_wp2_with fail
      refine wp_loop_rounds 4 ?_
      iterate 2 (rw [rounds_succ]; go_wp2; go_quiet (fail); go_wp2)
      go_ret
      first | exact ⟨ret_bool2 hF.out.symm, _, rfl⟩ | exact ⟨ret_bool2 hF.out.symm, _, drewN_two _ _ _⟩
  · have h1' : (a == d) = false := by simpa using h1
    have hF := Lib.hid (show (a == d && b == e && c == f) = false by rw [h1']; rfl)
    clear h1'
    go_enter Try.func131, Try.ntmps131
    go_wp2_with fail
    refine wp_loop_rounds 4 ?_
    rw [rounds_succ]; go_wp2; go_quiet (fail); go_wp2
    go_ret
    first | exact ⟨ret_bool2 hF.out.symm, _, rfl⟩ | exact ⟨ret_bool2 hF.out.symm, _, drewN_two _ _ _⟩
theorem eqA3_is (r : Bool) (a b c d e f : Int) (h : (a == d && b == e && c == f) = r) (w : World) :
    Calls Try.prog 131 #[.agg #[.int .i64 a, .int .i64 b, .int .i64 c], .agg #[.int .i64 d, .int .i64 e, .int .i64 f]] w fun x w' => x = .returned (.bool r) ∧ DrawnFrom ((w.alloc (Obj.cells #[.int .i64 a, .int .i64 b, .int .i64 c] 89)).alloc (Obj.cells #[.int .i64 d, .int .i64 e, .int .i64 f] 89)) w' := by
  subst h; exact eqA3 a b c d e f w
def Trm.v (x : Trm) : Value := .agg #[.int .i64 x.a, .int .i64 x.b, .int .i64 x.c, .int .i64 x.t]
set_option maxHeartbeats 2000000 in
theorem eqT (a b c t a' b' c' t' : Int) (w : World) :
    Calls Try.prog 100 #[.agg #[.int .i64 a, .int .i64 b, .int .i64 c, .int .i64 t], .agg #[.int .i64 a', .int .i64 b', .int .i64 c', .int .i64 t']] w fun x w' => x = .returned (.bool (a == a' && b == b' && c == c' && t == t')) ∧ Below w.heap.size w w' := by
  cases h1 : (a == a' && b == b' && c == c')
  · have hF := Lib.hid (show (false && t == t') = false from rfl)
    have H1 := Lib.hid h1
    clear h1
    go_enter Try.func100, Try.ntmps100
    go_wp2_with (go_at_call 131; refine (eqA3_is _ a b c a' b' c' H1.out _).mono ?_; rintro x w1 ⟨rfl, n, rfl⟩)
    go_ret
    exact ⟨ret_bool2 hF.out.symm, by repeat (first | exact Below.refl _ _ | apply Below.drew | apply below_drewN | (refine Below.alloc ?_ (by simp <;> omega) _))⟩
  · have H1 := Lib.hid h1
    cases h2 : (t != t')
    · have h2' : (t == t') = true := by simpa using h2
      have hF := Lib.hid (show (true && t == t') = true by rw [h2']; rfl)
      clear h1 h2'
      go_enter Try.func100, Try.ntmps100
      go_wp2_with (go_at_call 131; refine (eqA3_is _ a b c a' b' c' H1.out _).mono ?_; rintro x w1 ⟨rfl, n, rfl⟩)
      go_ret
      exact ⟨ret_bool2 hF.out.symm, by repeat (first | exact Below.refl _ _ | apply Below.drew | apply below_drewN | (refine Below.alloc ?_ (by simp <;> omega) _))⟩
    · have h2' : (t == t') = false := by simpa using h2
      have hF := Lib.hid (show (true && t == t') = false by rw [h2', Bool.and_false])
      clear h1 h2'
      go_enter Try.func100, Try.ntmps100
      go_wp2_with (go_at_call 131; refine (eqA3_is _ a b c a' b' c' H1.out _).mono ?_; rintro x w1 ⟨rfl, n, rfl⟩)
      go_ret
      exact ⟨ret_bool2 hF.out.symm, by repeat (first | exact Below.refl _ _ | apply Below.drew | apply below_drewN | (refine Below.alloc ?_ (by simp <;> omega) _))⟩
end Go.Proofs.Ytfmpcniehgipfaa
namespace Go.Proofs.Ytfmpcniehgipfaa
open Go.RowKit
/-- a region that draws its order, whose operations read what was there and whose callees only make new memory: one walk, in the order of the text -/
theorem wp_region_below {P : Program} {id : Nat} {Q : Exit → Act → World → Prop} {a : Act} {w : World} {l : List Oper} (hm : P.follows .mixedOrders = true) (hB : Region.lexB .any l.toArray = true)
    (h : wpQuiet P l.toArray (fun w' => Below w.heap.size w w') (fun a' => ∀ w', Below w.heap.size w w' → Q .normal a' w') l a) : (Code.region id l.toArray true).wp P Q a w :=
  wp_region_quiet (C := fun w' => Below w.heap.size w w') hm hB (by exact ⟨rfl, rfl, rfl, Nat.le_refl _, fun _ _ => rfl⟩) (by simpa using h)
section
variable {P : Program} {ops : Array Oper} {C : World → Prop}
theorem wpQuiet_no {Q : Act → Prop} {a : Act} {o : Oper} {rest : List Oper} (hg : Region.wanted o (yielded ops a.tmps) = false)
    (h : ∀ K : Act → Prop, (∀ a, wpQuiet P ops C Q rest a → K a) → K (a.put o.dst undef)) : wpQuiet P ops C Q (o :: rest) a :=
  wpQuiet_step fun K hK => by rw [hg]; exact h K hK
theorem wpQuiet_yes {Q : Act → Prop} {a : Act} {o : Oper} {rest : List Oper} (hg : Region.wanted o (yielded ops a.tmps) = true)
    (h : ∀ K : Act → Prop, (∀ a, wpQuiet P ops C Q rest a → K a) → o.quiet P a C K) : wpQuiet P ops C Q (o :: rest) a :=
  wpQuiet_step fun K hK => by rw [hg]; exact h K hK
end



theorem DrawnFrom.below' {B : Nat} {a w w' : World} (h : DrawnFrom w w') (hb : Below B a w) : Below B a w' := by
  obtain ⟨n, rfl⟩ := h; exact below_drewN hb n
end Go.Proofs.Ytfmpcniehgipfaa
namespace Go.Proofs.Ytfmpcniehgipfaa
open Go.RowKit
/-- the last operation waits, by way of others, for all of them -/
def lastB (md : Region.Mode) (l : List Oper) (o : Oper) : Bool :=
  (List.range l.length).all (fun j => match l[j]? with
    | some oj => (oj.after.all fun e => !Region.binds md e || decide (e.on < j)) && (match oj.guard with | some (g, _) => decide (g < l.length) | none => true)
    | none => true) &&
  o.guard.isNone && (o.after.all fun e => !Region.binds md e || decide (e.on < l.length)) &&
  (List.range l.length).all (fun i => (List.range (l.length + 1)).any fun j => decide (i < j) && (match (l ++ [o])[j]? with
    | some oj => oj.after.any (fun e => Region.binds md e && e.on == i)
    | none => false))
structure LastIn (md : Region.Mode) (l : List Oper) (o : Oper) : Prop where
  low : ∀ (j : Nat) (oj : Oper), l[j]? = some oj → ∀ e ∈ oj.after, Region.binds md e = true → e.on < j
  gd : ∀ (j : Nat) (oj : Oper), l[j]? = some oj → ∀ g b, oj.guard = some (g, b) → g < l.length
  og : o.guard = none
  olow : ∀ e ∈ o.after, Region.binds md e = true → e.on < l.length
  cov : ∀ i, i < l.length → ∃ j oj, i < j ∧ (l ++ [o])[j]? = some oj ∧ ∃ e ∈ oj.after, Region.binds md e = true ∧ e.on = i
theorem lastIn_of {md : Region.Mode} {l : List Oper} {o : Oper} (h : lastB md l o = true) : LastIn md l o := by
  unfold lastB at h
  simp only [Bool.and_eq_true, List.all_eq_true, List.mem_range] at h
  obtain ⟨⟨⟨h1, h2⟩, h3⟩, h4⟩ := h
  have h1' : ∀ (j : Nat) (oj : Oper), l[j]? = some oj → (oj.after.all fun e => !Region.binds md e || decide (e.on < j)) = true ∧ (match oj.guard with | some (g, _) => decide (g < l.length) | none => true) = true := fun j oj hj => by
    have := h1 j (List.getElem?_eq_some_iff.1 hj).1
    rw [hj] at this
    simpa only [Bool.and_eq_true] using this
  refine ⟨fun j oj hj e he hb => ?_, fun j oj hj g b hg => ?_, by simpa using h2, fun e he hb => ?_, fun i hi => ?_⟩
  · have := Array.all_eq_true_iff_forall_mem.1 (h1' j oj hj).1 e he
    simpa [hb] using this
  · have := (h1' j oj hj).2
    rw [hg] at this
    simpa using this
  · have := Array.all_eq_true_iff_forall_mem.1 h3 e he
    simpa [hb] using this
  · obtain ⟨j, _, hj⟩ := List.any_eq_true.1 (h4 i hi)
    rw [Bool.and_eq_true] at hj
    obtain ⟨hij, hj⟩ := hj
    cases hoj : (l ++ [o])[j]? with
    | none => rw [hoj] at hj; simp at hj
    | some oj =>
      rw [hoj] at hj
      obtain ⟨e, he, hb⟩ := Array.any_eq_true'.1 hj
      simp only [Bool.and_eq_true, beq_iff_eq] at hb
      exact ⟨j, oj, by simpa using hij, hoj, e, he, hb.1, hb.2⟩
theorem wanted_same {o : Oper} {ops ops' : Array Oper} {t : Array Value} (h : ∀ g b, o.guard = some (g, b) → ops[g]? = ops'[g]?) : Region.wanted o (yielded ops t) = Region.wanted o (yielded ops' t) := by
  unfold Region.wanted
  cases hg : o.guard with
  | none => rfl
  | some p =>
    obtain ⟨g, b⟩ := p
    simp only []
    unfold yielded
    rw [h g b hg]
/-- all the lower ones have come up -/
def Shutl (md : Region.Mode) (l : List Oper) (listed : Array Bool) : Prop :=
  ∀ (j : Nat) (oj : Oper), l[j]? = some oj → listed.getD j false = true → ∀ e ∈ oj.after, Region.binds md e = true → listed.getD e.on false = true
section
variable {P : Program} {md : Region.Mode} {l : List Oper} {o : Oper}
theorem listed_of_true {listed : Array Bool} {i : Nat} (hi : i < listed.size) (h : ¬ listed.getD i false = true) : listed.getD i true = false := by
  simp only [Array.getD, hi, dite_true] at h ⊢
  simpa using h
theorem all_of_none (h : LastIn md l o) {listed : Array Bool} (hs : listed.size = l.length) (hr : Region.ready md l.toArray listed = []) : ∀ i, i < l.length → listed.getD i false = true := by
  intro i
  induction i using Nat.strongRecOn with
  | _ i ih =>
    intro hi
    refine Classical.byContradiction fun hn => ?_
    have hm : i ∈ Region.ready md l.toArray listed := mem_ready.2 ⟨listed_of_true (by omega) hn, l[i], by simp [hi], fun e he hb => by
      have hl := h.low i l[i] (by simp [hi]) e he hb
      exact ih e.on hl (by omega)⟩
    rw [hr] at hm
    cases hm
theorem all_of_last (h : LastIn md l o) {listed : Array Bool} (hc : Shutl md l listed) (ho : ∀ e ∈ o.after, Region.binds md e = true → listed.getD e.on false = true) : ∀ i, i < l.length → listed.getD i false = true := by
  have key : ∀ d i, l.length - i = d → i < l.length → listed.getD i false = true := by
    intro d
    induction d using Nat.strongRecOn with
    | _ d ih =>
      intro i hd hi
      obtain ⟨j, oj, hij, hoj, e, he, hb, rfl⟩ := h.cov i hi
      by_cases hjn : j < l.length
      · rw [List.getElem?_append_left hjn] at hoj
        exact hc j oj hoj (ih (l.length - j) (by omega) j rfl hjn) e he hb
      · have hj : j = l.length := by
          have := (List.getElem?_eq_some_iff.1 hoj).1
          simp at this
          omega
        subst hj
        rw [List.getElem?_append_right (Nat.le_refl _)] at hoj
        simp at hoj
        subst hoj
        exact ho e he hb
  exact fun i hi => key _ i rfl hi
theorem shutl_set {listed : Array Bool} (hc : Shutl md l listed) {i : Nat} (hi : i ∈ Region.ready md l.toArray listed) : Shutl md l (listed.setIfInBounds i true) := by
  intro j oj hj hl e he hb
  by_cases hji : j = i
  · subst hji
    obtain ⟨_, oi, hoi, hall⟩ := mem_ready.1 hi
    have : oi = oj := by simpa [hj] using hoi.symm
    subst this
    exact getD_set_true (hall e he hb)
  · rw [getD_set_ne false (Ne.symm hji)] at hl
    exact getD_set_true (hc j oj hj hl e he hb)
theorem push_lt {listed : Array Bool} {i : Nat} (d : Bool) (h : i < listed.size) : (listed.push false).getD i d = listed.getD i d := by
  simp [Array.getD, h, Array.getElem_push_lt, Nat.lt_succ_of_lt h]
theorem push_at (listed : Array Bool) (d : Bool) : (listed.push false).getD listed.size d = false := by simp [Array.getD]
theorem push_set {listed : Array Bool} {i : Nat} (h : i < listed.size) : (listed.push false).setIfInBounds i true = (listed.setIfInBounds i true).push false := by
  obtain ⟨l⟩ := listed
  simp only [List.size_toArray] at h
  simp [List.set_append_left _ _ h]
theorem oper_wp_turn {x : Oper} {a : Act} {w : World} {K K' : Act → World → Prop} {Z : Act → World → Prop} {Q : Exit → Act → World → Prop} (h : ∀ a w, K a w → K' a w) (hh : x.wp P a w K (Exit.then Z Q)) : x.wp P a w K' Q := by
  unfold Oper.wp at *
  generalize (execOp a.eval x).run P w = r at *
  cases r with
  | ok n w' =>
    cases n <;> simp only [Oper.upon] at hh ⊢ <;>
      first
        | exact h _ _ hh
        | exact Calls.mono hh (fun e w'' he => by cases e <;> first | exact h _ _ he | exact he)
        | exact Rows.mono hh (fun _ _ he => h _ _ he)
  | halt x w' => cases x <;> simp only [Oper.upon] at hh ⊢ <;> exact hh
theorem wpOp_turn (h : LastIn md l o) {i : Nat} (hi : i < l.length) {a : Act} {w : World} {K K' : Act → World → Prop} {Z : Act → World → Prop} {Q : Exit → Act → World → Prop} (hK : ∀ a w, K a w → K' a w)
    (hh : wpOp P l.toArray (Exit.then Z Q) i K a w) : wpOp P (l ++ [o]).toArray Q i K' a w := by
  have h1 : l.toArray[i]? = some l[i] := by simp [hi]
  have h2 : (l ++ [o]).toArray[i]? = some l[i] := by simp [hi, List.getElem?_append_left]
  unfold wpOp at *
  rw [h1] at hh
  rw [h2]
  simp only [] at hh ⊢
  rw [wanted_same (ops' := l.toArray) (fun g b hg => by
    have := h.gd i l[i] (by simp [hi]) g b hg
    simp [List.getElem?_append_left, this])]
  split
  · rename_i hw
    rw [if_pos hw] at hh
    exact hh.imp (oper_wp_turn hK) (fun ⟨h1, h2⟩ => ⟨h1, h2⟩)
  · rename_i hw
    rw [if_neg hw] at hh
    exact hK _ _ hh
/-- the last operation behind the others -/
def Behind (P : Program) (o : Oper) (Q : Exit → Act → World → Prop) (a : Act) (w : World) : Prop := wpList P [o].toArray Q [o] a w
theorem Behind.op (h : LastIn md l o) {Q : Exit → Act → World → Prop} {a : Act} {w : World} (hb : Behind P o Q a w) : wpOp P (l ++ [o]).toArray Q l.length (Q .normal) a w := by
  unfold Behind wpList at hb
  unfold wpOp
  rw [show (l ++ [o]).toArray[l.length]? = some o by simp]
  simp only []
  have hw : ∀ ops : Array Oper, Region.wanted o (yielded ops a.tmps) = true := fun ops => by simp [Region.wanted, h.og]
  rw [if_pos (hw _)] at hb ⊢
  exact hb
theorem wpAny_last (h : LastIn md l o) {Q : Exit → Act → World → Prop} : ∀ (fuel : Nat) (listed : Array Bool) (a : Act) (w : World), listed.size = l.length → Shutl md l listed →
    wpAny P md l.toArray (Exit.then (Behind P o Q) Q) fuel listed a w → wpAny P md (l ++ [o]).toArray Q (fuel + 1) (listed.push false) a w := by
  intro fuel
  have last : ∀ (fuel : Nat) (listed : Array Bool) (a : Act) (w : World), listed.size = l.length → Region.ready md l.toArray listed = [] → Behind P o Q a w →
      wpAny P md (l ++ [o]).toArray Q (fuel + 1) (listed.push false) a w := by
    intro fuel listed a w hs hr hq
    have hall := all_of_none h hs hr
    have hin : l.length ∈ Region.ready md (l ++ [o]).toArray (listed.push false) := mem_ready.2 ⟨by rw [← hs]; exact push_at _ _, o, by simp, fun e he hb => by
      have := h.olow e he hb
      rw [push_lt _ (by omega)]
      exact hall _ this⟩
    refine ⟨fun h0 => (by rw [h0] at hin; cases hin), fun j hj => ?_⟩
    obtain ⟨hju, oj, hoj, _⟩ := mem_ready.1 hj
    have hjl : j = l.length := by
      have hlt : j < (l ++ [o]).length := by
        have := (Array.getElem?_eq_some_iff.1 hoj).1
        simpa using this
      simp at hlt
      by_cases hj' : j < l.length
      · rw [push_lt _ (by omega)] at hju
        have := hall j hj'
        have hd : listed.getD j true = listed.getD j false := by simp [Array.getD, show j < listed.size by omega]
        rw [hd, this] at hju
        cases hju
      · omega
    subst hjl
    refine wpOp_mono (fun a' w' hq' => wpAny_done ?_ hq' fuel) (Behind.op h hq)
    refine List.eq_nil_iff_forall_not_mem.2 fun k hk => ?_
    obtain ⟨hku, ok, hok, _⟩ := mem_ready.1 hk
    have hlt : k < l.length + 1 := by
      have := (Array.getElem?_eq_some_iff.1 hok).1
      simpa using this
    by_cases hk' : k < l.length
    · rw [getD_set_ne true (by omega), push_lt _ (by omega)] at hku
      have := hall k hk'
      have hd : listed.getD k true = listed.getD k false := by simp [Array.getD, show k < listed.size by omega]
      rw [hd, this] at hku
      cases hku
    · have : k = l.length := by omega
      subst this
      simp [Array.getD, hs] at hku
  induction fuel with
  | zero =>
    intro listed a w hs hc hh
    exact last 0 listed a w hs hh.1 hh.2
  | succ fuel ih =>
    intro listed a w hs hc hh
    by_cases hr : Region.ready md l.toArray listed = []
    · exact last (fuel + 1) listed a w hs hr (hh.1 hr)
    · refine ⟨fun h0 => ?_, fun j hj => ?_⟩
      · obtain ⟨x, hx⟩ := List.exists_mem_of_ne_nil _ hr
        obtain ⟨hu, ox, hox, hall⟩ := mem_ready.1 hx
        have hxl : x < l.length := by have := (Array.getElem?_eq_some_iff.1 hox).1; simpa using this
        have : x ∈ Region.ready md (l ++ [o]).toArray (listed.push false) := mem_ready.2 ⟨by rw [push_lt _ (by omega)]; exact hu, ox, by simpa [List.getElem?_append_left, hxl] using hox, fun e he hb => by
          have hl := h.low x ox (by simpa using hox) e he hb
          rw [push_lt _ (by omega)]
          exact hall e he hb⟩
        rw [h0] at this
        cases this
      · obtain ⟨hu, oj, hoj, hall⟩ := mem_ready.1 hj
        have hlt : j < l.length + 1 := by have := (Array.getElem?_eq_some_iff.1 hoj).1; simpa using this
        by_cases hjl : j < l.length
        · have hoj' : l[j]? = some oj := by simpa [List.getElem?_append_left, hjl] using hoj
          have hj' : j ∈ Region.ready md l.toArray listed := mem_ready.2 ⟨by rw [push_lt _ (by omega)] at hu; exact hu, oj, by simpa using hoj', fun e he hb => by
            have hl := h.low j oj hoj' e he hb
            have := hall e he hb
            rwa [push_lt _ (by omega)] at this⟩
          have := hh.2 j hj'
          rw [push_set (by omega)]
          exact wpOp_turn h hjl (fun a' w' h' => ih (listed.setIfInBounds j true) a' w' (by simpa using hs) (shutl_set hc hj') h') this
        · have : j = l.length := by omega
          subst this
          have hoo : oj = o := by simpa using hoj.symm
          subst hoo
          have hal := all_of_last h hc (fun e he hb => by
            have hl := h.olow e he hb
            have := hall e he hb
            rwa [push_lt _ (by omega)] at this)
          obtain ⟨x, hx⟩ := List.exists_mem_of_ne_nil _ hr
          obtain ⟨hu', ox, hox, _⟩ := mem_ready.1 hx
          have hxl : x < l.length := by have := (Array.getElem?_eq_some_iff.1 hox).1; simpa using this
          have hd : listed.getD x true = listed.getD x false := by simp [Array.getD, show x < listed.size by omega]
          rw [hd, hal x hxl] at hu'
          cases hu'
/-- the walk of all but the last one, in the order of the text; the last one behind it -/
def wpQL (P : Program) (ops : Array Oper) (C : World → Prop) (Q : Exit → Act → World → Prop) : List Oper → Act → Prop
  | [], _ => False
  | [o], a => ∀ w, C w → wpList P [o].toArray Q [o] a w
  | o :: p :: r, a => if Region.wanted o (yielded ops a.tmps) then o.quiet P a C (wpQL P ops C Q (p :: r)) else wpQL P ops C Q (p :: r) (a.put o.dst undef)
theorem wpQL_one {ops : Array Oper} {C : World → Prop} {Q : Exit → Act → World → Prop} {a : Act} {x : Oper} (h : ∀ w, C w → wpList P [x].toArray Q [x] a w) : wpQL P ops C Q [x] a := h
theorem wpQL_step {ops : Array Oper} {C : World → Prop} {Q : Exit → Act → World → Prop} {a : Act} {x y : Oper} {r : List Oper}
    (h : ∀ K : Act → Prop, (∀ a, wpQL P ops C Q (y :: r) a → K a) → if Region.wanted x (yielded ops a.tmps) then x.quiet P a C K else K (a.put x.dst undef)) : wpQL P ops C Q (x :: y :: r) a :=
  h _ (fun _ h => h)
theorem wpQL_split {C : World → Prop} {Q : Exit → Act → World → Prop} (n : Nat) (hn : l.length = n) (hg : ∀ x ∈ l, ∀ g b, x.guard = some (g, b) → g < n) {ops ops' : Array Oper} (hops : ∀ g, g < n → ops[g]? = ops'[g]?) : ∀ (k : List Oper), (∀ x ∈ k, x ∈ l) → ∀ a, wpQL P ops C Q (k ++ [o]) a → wpQuiet P ops' C (fun a => ∀ w, C w → Behind P o Q a w) k a
  | [], _, a, h => h
  | [x], hk, a, h => by
    have h' : if Region.wanted x (yielded ops a.tmps) then x.quiet P a C (wpQL P ops C Q [o]) else wpQL P ops C Q [o] (a.put x.dst undef) := h
    rw [wanted_same (ops' := ops') (fun g b he => hops g (hg x (hk x (by simp)) g b he))] at h'
    exact h'
  | x :: y :: k, hk, a, h => by
    have h' : if Region.wanted x (yielded ops a.tmps) then x.quiet P a C (wpQL P ops C Q (y :: k ++ [o])) else wpQL P ops C Q (y :: k ++ [o]) (a.put x.dst undef) := h
    rw [wanted_same (ops' := ops') (fun g b he => hops g (hg x (hk x (by simp)) g b he))] at h'
    have ih := wpQL_split (C := C) (Q := Q) n hn hg hops (y :: k) (fun z hz => hk z (by simp [hz]))
    show if Region.wanted x (yielded ops' a.tmps) then x.quiet P a C (wpQuiet P ops' C (fun a => ∀ w, C w → Behind P o Q a w) (y :: k)) else wpQuiet P ops' C (fun a => ∀ w, C w → Behind P o Q a w) (y :: k) (a.put x.dst undef)
    split
    · rename_i hw; rw [if_pos hw] at h'; exact Oper.quiet_mono ih h'
    · rename_i hw; rw [if_neg hw] at h'; exact ih _ h'
end
def lastReg (ops : List Oper) : Bool := match ops.getLast? with
  | some o => Region.lexB .any ops.dropLast.toArray && lastB .any ops.dropLast o
  | none => false
/-- **a region that draws its order: all but its last operation are quiet, and the last one waits for them** -/
theorem wp_region_quiet_last {P : Program} {ops : List Oper} {id : Nat} {Q : Exit → Act → World → Prop} {a : Act} {w : World} {C : World → Prop} (hm : P.follows .mixedOrders = true) (hB : lastReg ops = true) (hC : C { w with drawn := w.drawn + 1 })
    (h : wpQL P ops.toArray C Q ops a) : (Code.region id ops.toArray true).wp P Q a w := by
  unfold lastReg at hB
  cases hl : ops.getLast? with
  | none => rw [hl] at hB; cases hB
  | some o =>
    rw [hl] at hB
    obtain ⟨l, rfl⟩ := List.getLast?_eq_some_iff.1 hl
    simp only [List.dropLast_concat, Bool.and_eq_true] at hB
    obtain ⟨hB, hL⟩ := hB
    have hin := lastIn_of hL
    have hq := wpQL_split (l := l) l.length rfl (fun x hx g b he => by
      obtain ⟨j, hj, rfl⟩ := List.getElem_of_mem hx
      exact hin.gd j _ (by simp [hj]) g b he) (ops' := l.toArray) (fun g hg => by simp [List.getElem?_append_left, hg]) l (fun x hx => hx) a h
    simp only [Region.lexB, Bool.and_eq_true] at hB
    have hany := wpAnyQ_lex (C := C) (md := .any) hB.1 l 0 (Array.replicate l.length false) a (by simp) (by simpa using hB.2) hq
    have hw : wpAny P .any l.toArray (Exit.then (Behind P o Q) Q) l.length (Array.replicate l.length false) a { w with drawn := w.drawn + 1 } :=
      wpAny_of_quiet (Q := fun a => ∀ w, C w → Behind P o Q a w) (fun a' w' hw' hb => hb w' hw') _ _ _ _ hC hany
    refine wp_region_any hm ?_
    have := wpAny_last hin l.length (Array.replicate l.length false) a _ (by simp) (by
      intro j oj hj ht
      have hlt := (List.getElem?_eq_some_iff.1 hj).1
      simp [Array.getD, hlt] at ht) hw
    simpa [Array.replicate_succ] using this
end Go.Proofs.Ytfmpcniehgipfaa
namespace Go.Proofs.Ytfmpcniehgipfaa
open Go.RowKit
/-- a slice value that reads as a list of numbers in this world -/
def Ints (w : World) (v : Value) (L : List Int) : Prop :=
  L.length ≤ 281474976710656 ∧ ∃ a cap, v = .slice a L.length cap ∧ (L = [] ∨ ∃ g off, a = some ⟨g, off, none⟩ ∧ g < w.heap.size ∧ ∀ j, j < L.length → w.cell? ⟨g, off + j, none⟩ = some (.int .i64 (L.getD j 0)))
/-- only draws lie between two worlds -/
def Drawn (w w' : World) : Prop := ∃ n, w' = w.drewN n
theorem Drawn.refl (w : World) : Drawn w w := ⟨0, rfl⟩
theorem Drawn.more {w w' : World} (h : Drawn w w') (n : Nat) : Drawn w (w'.drewN n) := by
  obtain ⟨m, rfl⟩ := h; exact ⟨m + n, by simp⟩
theorem getD_ext {L M : List Int} (hl : L.length = M.length) (h : ∀ j : Nat, j < L.length → L.getD j 0 = M.getD j 0) : L = M := by
  apply List.ext_getElem hl
  intro j h1 h2
  have := h j h1
  simpa [h1, h2] using this
theorem getD_ne {L M : List Int} (j : Nat) (h : L.getD j 0 ≠ M.getD j 0) : L ≠ M := fun e => h (by rw [e])
theorem snoc_all {P : Nat → Prop} {k : Nat} (h : ∀ j : Nat, j < k → P j) (hk : P k) : ∀ j : Nat, j < k + 1 → P j := by
  intro j hj
  by_cases e : j = k
  · rw [e]; exact hk
  · exact h j (by omega)
theorem ret_bool' {a b : Bool} (h : a = b) : Ending.returned (.bool a) = .returned (.bool b) := by rw [h]
theorem ret_int' {a b : Int} (h : a = b) : Ending.returned (.int .i64 a) = .returned (.int .i64 b) := by rw [h]
set_option maxHeartbeats 1000000 in
theorem eqInts (v1 v2 : Value) (L1 L2 : List Int) (w : World) (h1 : Ints w v1 L1) (h2 : Ints w v2 L2) :
    Calls Try.prog 23 #[v1, v2] w fun e w' => e = .returned (.bool (decide (L1 = L2))) ∧ Drawn w w' := by
  obtain ⟨m1, a1, cap1, rfl, h1⟩ := h1
  obtain ⟨m2, a2, cap2, rfl, h2⟩ := h2
  by_cases hl : L1.length = L2.length
  · have hlb : ((L1.length : Int) != (L2.length : Int)) = false := by simp; omega
    have Hl := Lib.hid hl
    have H1 := Lib.hid h1
    have H2 := Lib.hid h2
    clear h1 h2 hl
    go_enter Try.func23, Try.ntmps23
    go_wp2_with fail
    go_loopw [5] (fun i wr => ∃ k : Nat, k ≤ L1.length ∧ i = .int .i64 k ∧ (∀ j : Nat, j < k → L1.getD j 0 = L2.getD j 0) ∧ Drawn w wr) (fun i _ => L1.length - (intOf i).toNat)
    case atStart => exact ⟨0, by omega, rfl, fun j hj => by omega, Drawn.refl _⟩
    case round =>
      obtain ⟨k, hk, rfl, hall, hR⟩ := hrel
      have Hall := Lib.hid hall
      clear hall
      by_cases hlt : k < L1.length
      · obtain ⟨n, rfl⟩ := hR
        rcases H1.out with h1 | ⟨g1, off1, rfl, hg1, hc1⟩
        · exact absurd hlt (by rw [h1]; simp)
        rcases H2.out with h2 | ⟨g2, off2, rfl, hg2, hc2⟩
        · have := Hl.out; exact absurd hlt (by rw [h2] at this; simp at this; rw [this]; simp)
        have c1 := hc1 k hlt
        have c2 := hc2 k (by rw [← Hl.out]; exact hlt)
        have hlt2 : (k : Int) < (L2.length : Int) := by rw [← Hl.out]; omega
        have hlt1 : (k : Int) < (L1.length : Int) := by omega
        have hk0 : (0 : Int) ≤ (k : Int) := by omega
        clear hc1 hc2
        have hne := getD_ne (L := L1) (M := L2) k
        obtain ⟨x, hx⟩ : ∃ x, x = L1.getD k 0 := ⟨_, rfl⟩
        obtain ⟨y, hy⟩ : ∃ y, y = L2.getD k 0 := ⟨_, rfl⟩
        rw [← hx] at c1 hne
        rw [← hy] at c2 hne
        have Hx := Lib.hid hx
        have Hy := Lib.hid hy
        have Hne := Lib.hid hne
        clear hx hy hne
        clear H1 H2
        cases hxy : (x != y)
        · have hxy' : x = y := by simpa using hxy
          have Hxy := Lib.hid hxy'
          clear hxy'
          go_wp2_with fail
          go_quiet (fail)
          go_wp2
          go_roundw
          case rel => exact ⟨k + 1, by omega, by go_num, snoc_all Hall.out (by rw [← Hx.out, ← Hy.out, Hxy.out]), ⟨n + nq, by simp⟩⟩
          case measure => simp [intOf]; omega
        · have hxy' : x ≠ y := by simpa using hxy
          have hF := Lib.hid (show decide (L1 = L2) = false by simpa using Hne.out hxy')
          clear hxy'
          go_wp2_with fail
          go_quiet (fail)
          go_wp2
          go_ret
          exact ⟨ret_bool' hF.out.symm, ⟨n + nq, by simp⟩⟩
      · have hkl : k = L1.length := by omega
        have hE := getD_ext Hl.out (fun j hj => Hall.out j (by omega))
        have hT := Lib.hid (show decide (L1 = L2) = true by simpa using hE)
        clear hkl hE H1 H2
        go_wp2
        go_ret
        exact ⟨ret_bool' hT.out.symm, hR⟩
  · have hlb : ((L1.length : Int) != (L2.length : Int)) = true := by simp; omega
    have hF := Lib.hid (show decide (L1 = L2) = false by simp; intro e; exact hl (by rw [e]))
    clear h1 h2 hl
    go_enter Try.func23, Try.ntmps23
    go_wp2_with fail
    go_ret
    exact ⟨ret_bool' hF.out.symm, Drawn.refl _⟩
/-- the numbers k, k + 1, .. -/
def counts (k : Int) (n : Nat) : List Int := (List.range n).map fun j => k + (j : Nat)
theorem counts_len (k : Int) (n : Nat) : (counts k n).length = n := by simp [counts]
theorem counts_getD (k : Int) (n j : Nat) (h : j < n) : (counts k n).getD j 0 = k + j := by simp [counts, h]
/-- the world inside markIntS, behind j rounds: block g bears the numbers, all else is as it was -/
structure MarkR (g off n : Nat) (k : Int) (j : Nat) (w wr : World) : Prop where
  done : ∀ i : Nat, i < j → wr.cell? ⟨g, off + i, none⟩ = some (.int .i64 (k + (i : Nat)))
  rest : ∀ i : Nat, j ≤ i → i < n → ∃ x, wr.cell? ⟨g, off + i, none⟩ = some x
  froz : ∀ a, wr.frozen? a = w.frozen? a
  far : ∀ b, b ≠ g → wr.heap[b]? = w.heap[b]?
  size : wr.heap.size = w.heap.size
  os : wr.os = w.os
  tape : wr.tape = w.tape
  output : wr.output = w.output
theorem MarkR.step {g off n : Nat} {k : Int} {j : Nat} {w wr : World} (h : MarkR g off n k j w wr) (hj : j < n) :
    MarkR g off n k (j + 1) w (wr.setCell ⟨g, off + j, none⟩ (.int .i64 (k + (j : Nat)))) := by
  obtain ⟨x, hx⟩ := h.rest j (Nat.le_refl _) hj
  constructor
  · intro i hi
    by_cases e : i = j
    · subst e; exact World.cell?_setCell_same _ _ _ hx
    · rw [World.cell?_setCell_other _ _ _ _ (by simp <;> omega)]; exact h.done i (by omega)
  · intro i hi hin
    obtain ⟨y, hy⟩ := h.rest i (by omega) hin
    exact ⟨y, by rw [World.cell?_setCell_other _ _ _ _ (by simp <;> omega)]; exact hy⟩
  · intro a; rw [World.frozen?_setCell]; exact h.froz a
  · intro b hb; rw [Below.heap_setCell _ _ _ _ hb]; exact h.far b hb
  · simpa using h.size
  · exact h.os
  · exact h.tape
  · exact h.output
set_option maxHeartbeats 1000000 in
theorem markInts (g off n cap : Nat) (k : Int) (w : World) (hn : n ≤ 281474976710656) (hk0 : 0 ≤ k) (hk1 : k ≤ 4611686018427387904)
    (hc : ∀ i : Nat, i < n → ∃ x, w.cell? ⟨g, off + i, none⟩ = some x) (hf : ∀ i : Nat, i < n → w.frozen? ⟨g, off + i, none⟩ = false) :
    Calls Try.prog 28 #[.slice (some ⟨g, off, none⟩) n cap, .int .i64 k] w fun e w' => e = .returned (.int .i64 (k + (n : Nat))) ∧ MarkR g off n k n w w' := by
  have h0 : MarkR g off n k 0 w w := ⟨fun i hi => by omega, fun i _ hi => hc i hi, fun _ => rfl, fun _ _ => rfl, rfl, rfl, rfl, rfl⟩
  have hF := Lib.hid hf
  clear hc hf
  go_enter Try.func28, Try.ntmps28
  go_wp2_with fail
  go_loopw [1, 5] (fun q i wr => ∃ j : Nat, j ≤ n ∧ i = .int .i64 j ∧ q = .int .i64 (k + (j : Nat)) ∧ MarkR g off n k j w wr) (fun _ i _ => n - (intOf i).toNat)
  case atStart => exact ⟨0, by omega, rfl, by simp, h0⟩
  case round =>
    obtain ⟨j, hj, rfl, rfl, hR⟩ := hrel
    clear h0
    by_cases hlt : j < n
    · obtain ⟨x, hx⟩ := hR.rest j (Nat.le_refl _) hlt
      have hfz : wr.frozen? ⟨g, off + j, none⟩ = false := by rw [hR.froz]; exact hF.out j hlt
      have hS := Lib.hid (hR.step hlt)
      clear hR
      go_wp2
      go_roundw
      case rel => exact ⟨j + 1, by omega, by go_num, by go_num, hS.out⟩
      case measure => simp [intOf]; omega
    · have hjn : j = n := by omega
      subst hjn
      go_wp2
      go_ret
      exact ⟨rfl, hR⟩
theorem markNil (a : Option Addr) (cap : Nat) (k : Int) (w : World) :
    Calls Try.prog 28 #[.slice a 0 cap, .int .i64 k] w fun e w' => e = .returned (.int .i64 k) ∧ w = w' := by
  go_enter Try.func28, Try.ntmps28
  go_wp2_with fail
  go_loop [1, 5] (fun q i => i = .int .i64 0 ∧ q = .int .i64 k) (fun _ _ => 0)
  case atStart => exact ⟨rfl, rfl⟩
  case round =>
    obtain ⟨rfl, rfl⟩ := hrel
    go_wp2
    go_ret
    exact ⟨rfl, rfl⟩
set_option maxHeartbeats 1000000 in
theorem heldInts (g off n cap : Nat) (k : Int) (w : World) (hn : n ≤ 281474976710656) (hk0 : 0 ≤ k) (hk1 : k ≤ 4611686018427387904)
    (hc : ∀ i : Nat, i < n → w.cell? ⟨g, off + i, none⟩ = some (.int .i64 (k + (i : Nat)))) :
    Calls Try.prog 29 #[.slice (some ⟨g, off, none⟩) n cap, .int .i64 k] w fun e w' => e = .returned (.int .i64 (k + (n : Nat))) ∧ w = w' := by
  have hC := Lib.hid hc
  clear hc
  go_enter Try.func29, Try.ntmps29
  go_wp2_with fail
  go_loop [1, 5] (fun q i => ∃ j : Nat, j ≤ n ∧ i = .int .i64 j ∧ q = .int .i64 (k + (j : Nat))) (fun _ i => n - (intOf i).toNat)
  case atStart => exact ⟨0, by omega, rfl, by simp⟩
  case round =>
    obtain ⟨j, hj, rfl, rfl⟩ := hrel
    by_cases hlt : j < n
    · have hx := hC.out j hlt
      have hne : (k + (j : Int) != k + (j : Int)) = false := by simp
      go_wp2
      go_round
      case rel => exact ⟨j + 1, by omega, by go_num, by go_num⟩
      case measure => simp [intOf]; omega
    · have hjn : j = n := by omega
      subst hjn
      go_wp2
      go_ret
      exact ⟨rfl, rfl⟩
theorem heldNil (a : Option Addr) (cap : Nat) (k : Int) (w : World) :
    Calls Try.prog 29 #[.slice a 0 cap, .int .i64 k] w fun e w' => e = .returned (.int .i64 k) ∧ w = w' := by
  go_enter Try.func29, Try.ntmps29
  go_wp2_with fail
  go_loop [1, 5] (fun q i => i = .int .i64 0 ∧ q = .int .i64 k) (fun _ _ => 0)
  case atStart => exact ⟨rfl, rfl⟩
  case round =>
    obtain ⟨rfl, rfl⟩ := hrel
    go_wp2
    go_ret
    exact ⟨rfl, rfl⟩
theorem Drawn.below {w w' : World} (h : Drawn w w') (B : Nat) : Below B w w' := by
  obtain ⟨n, rfl⟩ := h
  exact ⟨rfl, rfl, rfl, Nat.le_refl _, fun _ _ => rfl⟩
theorem Drawn.size {w w' : World} (h : Drawn w w') : w'.heap.size = w.heap.size := by
  obtain ⟨n, rfl⟩ := h; rfl
theorem Ints.below {w w' : World} {v : Value} {L : List Int} (h : Ints w v L) (hb : Below w.heap.size w w') : Ints w' v L := by
  obtain ⟨h1, a, cap, hv, h2⟩ := h
  refine ⟨h1, a, cap, hv, ?_⟩
  rcases h2 with h2 | ⟨g, off, ha, hg, hc⟩
  · exact .inl h2
  · refine .inr ⟨g, off, ha, by have := hb.size; omega, fun j hj => ?_⟩
    rw [hb.cell (p := ⟨g, off + j, none⟩) hg]; exact hc j hj
/-- a slice value of n cells that hold k, k + 1, .., in a block from B on -/
def HeldBy (w : World) (B : Nat) (v : Value) (n : Nat) (k : Int) : Prop :=
  n ≤ 281474976710656 ∧ ∃ a cap, v = .slice a n cap ∧ (n = 0 ∨ ∃ g off, a = some ⟨g, off, none⟩ ∧ B ≤ g ∧ g < w.heap.size ∧ ∀ i : Nat, i < n → w.cell? ⟨g, off + i, none⟩ = some (.int .i64 (k + (i : Nat))))
theorem HeldBy.below {w w' : World} {B : Nat} {v : Value} {n : Nat} {k : Int} (h : HeldBy w B v n k) (hb : Below w.heap.size w w') : HeldBy w' B v n k := by
  obtain ⟨h1, a, cap, hv, h2⟩ := h
  refine ⟨h1, a, cap, hv, ?_⟩
  rcases h2 with h2 | ⟨g, off, ha, hB, hg, hc⟩
  · exact .inl h2
  · refine .inr ⟨g, off, ha, hB, by have := hb.size; omega, fun j hj => ?_⟩
    rw [hb.cell (p := ⟨g, off + j, none⟩) hg]; exact hc j hj
/-- a slice of the call's own, from block B on, that reads as a list of numbers -/
def OwnInts (w : World) (B : Nat) (v : Value) (L : List Int) : Prop :=
  L.length ≤ 281474976710656 ∧ ∃ a cap, v = .slice a L.length cap ∧ (L = [] ∨ ∃ g off, a = some ⟨g, off, none⟩ ∧ B ≤ g ∧ g < w.heap.size ∧ (∀ j, j < L.length → w.cell? ⟨g, off + j, none⟩ = some (.int .i64 (L.getD j 0))) ∧ ∀ j, j < L.length → w.frozen? ⟨g, off + j, none⟩ = false)
theorem OwnInts.ints {w : World} {B : Nat} {v : Value} {L : List Int} (h : OwnInts w B v L) : Ints w v L := by
  obtain ⟨h1, a, cap, hv, h2⟩ := h
  refine ⟨h1, a, cap, hv, ?_⟩
  rcases h2 with h2 | ⟨g, off, ha, _, hg, hc, _⟩
  · exact .inl h2
  · exact .inr ⟨g, off, ha, hg, hc⟩
theorem OwnInts.below {w w' : World} {B : Nat} {v : Value} {L : List Int} (h : OwnInts w B v L) (hb : Below w.heap.size w w') : OwnInts w' B v L := by
  obtain ⟨h1, a, cap, hv, h2⟩ := h
  refine ⟨h1, a, cap, hv, ?_⟩
  rcases h2 with h2 | ⟨g, off, ha, hB, hg, hc, hf⟩
  · exact .inl h2
  · refine .inr ⟨g, off, ha, hB, by have := hb.size; omega, fun j hj => ?_, fun j hj => ?_⟩
    · rw [hb.cell (p := ⟨g, off + j, none⟩) hg]; exact hc j hj
    · rw [hb.frozen (p := ⟨g, off + j, none⟩) hg]; exact hf j hj
theorem own_of_row {w : World} {B : Nat} {e : TypeId} {v : Value} {L : List Int} (h : w.ownsRow B e 1 v L.length (L.map (Value.int .i64))) (hle : L.length ≤ 281474976710656) : OwnInts w B v L := by
  have hl := h.lt
  have h0 := h
  obtain ⟨h1, h2⟩ := h
  rcases h2 with ⟨rfl, h2⟩ | ⟨g, cap, cur, rfl, hg, hh, hn, _, _, _⟩
  · refine ⟨hle, none, 0, by rw [h2], .inl (List.length_eq_zero_iff.1 h2)⟩
  · refine ⟨hle, _, cap, rfl, .inr ⟨g, 0, rfl, hg, (hl g rfl).2, fun j hj => ?_, fun j hj => ?_⟩⟩
    · rw [Nat.zero_add, h0.cellAt j (by omega)]; simp [hj]
    · rw [Nat.zero_add]; exact h0.frozenAt j
theorem markOwn (v : Value) (L : List Int) (B : Nat) (k : Int) (w : World) (h : OwnInts w B v L) (hk0 : 0 ≤ k) (hk1 : k ≤ 4611686018427387904) :
    Calls Try.prog 28 #[v, .int .i64 k] w fun e w' => e = .returned (.int .i64 (k + (L.length : Nat))) ∧ HeldBy w' B v L.length k ∧ Below B w w' ∧ w'.heap.size = w.heap.size := by
  obtain ⟨h1, a, cap, rfl, h2⟩ := h
  rcases h2 with rfl | ⟨g, off, rfl, hB, hg, hc, hf⟩
  · refine (markNil a cap k w).mono ?_
    rintro e w' ⟨rfl, rfl⟩
    exact ⟨by simp, ⟨by simp, a, cap, rfl, .inl rfl⟩, Below.refl _ _, rfl⟩
  · refine (markInts g off L.length cap k w h1 hk0 hk1 (fun i hi => ⟨_, hc i hi⟩) hf).mono ?_
    rintro e w' ⟨rfl, hM⟩
    refine ⟨rfl, ⟨h1, _, cap, rfl, .inr ⟨g, off, rfl, hB, by rw [hM.size]; exact hg, hM.done⟩⟩, ⟨hM.os, hM.tape, hM.output, by rw [hM.size]; exact Nat.le_refl _, fun b hb => hM.far b (by omega)⟩, hM.size⟩
theorem heldOwn (v : Value) (n : Nat) (B : Nat) (k : Int) (w : World) (h : HeldBy w B v n k) (hk0 : 0 ≤ k) (hk1 : k ≤ 4611686018427387904) :
    Calls Try.prog 29 #[v, .int .i64 k] w fun e w' => e = .returned (.int .i64 (k + (n : Nat))) ∧ w = w' := by
  obtain ⟨h1, a, cap, rfl, h2⟩ := h
  rcases h2 with rfl | ⟨g, off, rfl, hB, hg, hc⟩
  · refine (heldNil a cap k w).mono ?_
    rintro e w' ⟨rfl, rfl⟩
    exact ⟨by simp, rfl⟩
  · exact heldInts g off n cap k w h1 hk0 hk1 hc
end Go.Proofs.Ytfmpcniehgipfaa
namespace Go.Proofs.Ytfmpcniehgipfaa
open Go.RowKit
/-- four cells that hold a term -/
def TAt (w : World) (g o : Nat) (x : Trm) : Prop :=
  w.cell? ⟨g, o, none⟩ = some (.int .i64 x.a) ∧ w.cell? ⟨g, o + 1, none⟩ = some (.int .i64 x.b) ∧ w.cell? ⟨g, o + 2, none⟩ = some (.int .i64 x.c) ∧ w.cell? ⟨g, o + 3, none⟩ = some (.int .i64 x.t)
/-- a slice value that reads as a list of terms in this world -/
def Trms (w : World) (v : Value) (L : List Trm) : Prop :=
  L.length ≤ 1048576 ∧ ∃ a cap, v = .slice a L.length cap ∧ (L = [] ∨ ∃ g off, a = some ⟨g, off, none⟩ ∧ g < w.heap.size ∧ ∀ j : Nat, j < L.length → TAt w g (off + j * 4) (L.getD j default))
theorem infoT : (Try.prog.info? 91).map (fun i => (i.zero, i.size, i.bytes)) = some (some (.agg #[.int .i64 0, .int .i64 0, .int .i64 0, .int .i64 0]), 4, 32) := by kernel_rfl
theorem TAt.below {w w' : World} {B g o : Nat} {x : Trm} (h : TAt w g o x) (hb : Below B w w') (hg : g < B) : TAt w' g o x := by
  obtain ⟨h0, h1, h2, h3⟩ := h
  refine ⟨?_, ?_, ?_, ?_⟩
  · rw [hb.cell (p := ⟨g, o, none⟩) hg]; exact h0
  · rw [hb.cell (p := ⟨g, o + 1, none⟩) hg]; exact h1
  · rw [hb.cell (p := ⟨g, o + 2, none⟩) hg]; exact h2
  · rw [hb.cell (p := ⟨g, o + 3, none⟩) hg]; exact h3
theorem Trms.below {w w' : World} {v : Value} {L : List Trm} (h : Trms w v L) (hb : Below w.heap.size w w') : Trms w' v L := by
  obtain ⟨h1, a, cap, hv, h2⟩ := h
  refine ⟨h1, a, cap, hv, ?_⟩
  rcases h2 with h2 | ⟨g, off, ha, hg, hc⟩
  · exact .inl h2
  · exact .inr ⟨g, off, ha, by have := hb.size; omega, fun j hj => (hc j hj).below hb hg⟩
/-- a slice of the call's own, from block B on, that reads as a list of terms and may be written -/
def OwnTrms (w : World) (B : Nat) (v : Value) (L : List Trm) : Prop :=
  L.length ≤ 1048576 ∧ ∃ a cap, v = .slice a L.length cap ∧ (L = [] ∨ ∃ g off, a = some ⟨g, off, none⟩ ∧ B ≤ g ∧ g < w.heap.size ∧ (∀ j : Nat, j < L.length → TAt w g (off + j * 4) (L.getD j default)) ∧ ∀ i : Nat, i < L.length * 4 → w.frozen? ⟨g, off + i, none⟩ = false)
theorem OwnTrms.trms {w : World} {B : Nat} {v : Value} {L : List Trm} (h : OwnTrms w B v L) : Trms w v L := by
  obtain ⟨h1, a, cap, hv, h2⟩ := h
  refine ⟨h1, a, cap, hv, ?_⟩
  rcases h2 with h2 | ⟨g, off, ha, _, hg, hc, _⟩
  · exact .inl h2
  · exact .inr ⟨g, off, ha, hg, hc⟩
theorem OwnTrms.below {w w' : World} {B : Nat} {v : Value} {L : List Trm} (h : OwnTrms w B v L) (hb : Below w.heap.size w w') : OwnTrms w' B v L := by
  obtain ⟨h1, a, cap, hv, h2⟩ := h
  refine ⟨h1, a, cap, hv, ?_⟩
  rcases h2 with h2 | ⟨g, off, ha, hB, hg, hc, hf⟩
  · exact .inl h2
  · exact .inr ⟨g, off, ha, hB, by have := hb.size; omega, fun j hj => (hc j hj).below hb hg, fun i hi => by rw [hb.frozen (p := ⟨g, off + i, none⟩) hg]; exact hf i hi⟩
/-- the world inside toPoly, behind k rounds: block G bears k terms -/
structure BuildW (L : List Trm) (G k : Nat) (w wr : World) : Prop where
  done : ∀ j : Nat, j < k → TAt wr G (j * 4) (L.getD j default)
  some : ∀ i : Nat, i < L.length * 4 → ∃ u, wr.cell? ⟨G, i, none⟩ = some u
  froz : ∀ i : Nat, i < L.length * 4 → wr.frozen? ⟨G, i, none⟩ = false
  sz : G < wr.heap.size
  low : Below w.heap.size w wr
theorem BuildW.below {L : List Trm} {G k : Nat} {w wr w1 : World} (h : BuildW L G k w wr) (hb : Below wr.heap.size wr w1) : BuildW L G k w w1 := by
  have sz := h.sz
  have e := hb.size
  constructor
  · intro j hj; exact (h.done j hj).below hb sz
  · intro i hi
    obtain ⟨u, hu⟩ := h.some i hi
    exact ⟨u, by rw [hb.cell (p := ⟨G, i, none⟩) sz]; exact hu⟩
  · intro i hi; rw [hb.frozen (p := ⟨G, i, none⟩) sz]; exact h.froz i hi
  · omega
  · exact h.low.trans (hb.mono h.low.size)
/-- a term stored into four cells -/
def putT (w : World) (G o : Nat) (x : Trm) : World :=
  (((w.setCell ⟨G, o, none⟩ (.int .i64 x.a)).setCell ⟨G, o + 1, none⟩ (.int .i64 x.b)).setCell ⟨G, o + 2, none⟩ (.int .i64 x.c)).setCell ⟨G, o + 3, none⟩ (.int .i64 x.t)
theorem putT_far (w : World) (G o : Nat) (x : Trm) (b i : Nat) (h : b ≠ G ∨ i < o ∨ o + 4 ≤ i) : (putT w G o x).cell? ⟨b, i, none⟩ = w.cell? ⟨b, i, none⟩ := by
  have hne : ∀ d, d < 4 → (⟨G, o + d, none⟩ : Addr) ≠ ⟨b, i, none⟩ := by
    intro d hd e
    injection e with e1 e2
    omega
  unfold putT
  rw [World.cell?_setCell_other _ _ _ _ (hne 3 (by omega)), World.cell?_setCell_other _ _ _ _ (hne 2 (by omega)), World.cell?_setCell_other _ _ _ _ (hne 1 (by omega)), World.cell?_setCell_other _ _ _ _ (by simpa using hne 0 (by omega))]
theorem putT_at (w : World) (G o : Nat) (x : Trm) (h : ∀ d, d < 4 → ∃ u, w.cell? ⟨G, o + d, none⟩ = some u) : TAt (putT w G o x) G o x := by
  obtain ⟨u0, h0⟩ := h 0 (by omega)
  obtain ⟨u1, h1⟩ := h 1 (by omega)
  obtain ⟨u2, h2⟩ := h 2 (by omega)
  obtain ⟨u3, h3⟩ := h 3 (by omega)
  rw [Nat.add_zero] at h0
  have hne : ∀ d e, d ≠ e → (⟨G, o + d, none⟩ : Addr) ≠ ⟨G, o + e, none⟩ := by
    intro d e hd h
    injection h with e1 e2
    omega
  have hn0 : ∀ d, d ≠ 0 → (⟨G, o + d, none⟩ : Addr) ≠ ⟨G, o, none⟩ := by
    intro d hd h
    injection h with e1 e2
    omega
  have hn0' : ∀ d, d ≠ 0 → (⟨G, o, none⟩ : Addr) ≠ ⟨G, o + d, none⟩ := fun d hd => (hn0 d hd).symm
  unfold putT
  refine ⟨?_, ?_, ?_, ?_⟩
  · rw [World.cell?_setCell_other _ _ _ _ (hn0 3 (by omega)), World.cell?_setCell_other _ _ _ _ (hn0 2 (by omega)), World.cell?_setCell_other _ _ _ _ (hn0 1 (by omega))]
    exact World.cell?_setCell_same _ _ _ h0
  · rw [World.cell?_setCell_other _ _ _ _ (hne 3 1 (by omega)), World.cell?_setCell_other _ _ _ _ (hne 2 1 (by omega))]
    exact World.cell?_setCell_same _ _ _ (by rw [World.cell?_setCell_other _ _ _ _ (hn0' 1 (by omega))]; exact h1)
  · rw [World.cell?_setCell_other _ _ _ _ (hne 3 2 (by omega))]
    exact World.cell?_setCell_same _ _ _ (by rw [World.cell?_setCell_other _ _ _ _ (hne 1 2 (by omega)), World.cell?_setCell_other _ _ _ _ (hn0' 2 (by omega))]; exact h2)
  · exact World.cell?_setCell_same _ _ _ (by rw [World.cell?_setCell_other _ _ _ _ (hne 2 3 (by omega)), World.cell?_setCell_other _ _ _ _ (hne 1 3 (by omega)), World.cell?_setCell_other _ _ _ _ (hn0' 3 (by omega))]; exact h3)
theorem putT_frozen (w : World) (G o : Nat) (x : Trm) (p : Addr) : (putT w G o x).frozen? p = w.frozen? p := by simp [putT]
theorem putT_size (w : World) (G o : Nat) (x : Trm) : (putT w G o x).heap.size = w.heap.size := by simp [putT]
theorem putT_low {B : Nat} {w w1 : World} (h : Below B w w1) (G o : Nat) (x : Trm) (hG : B ≤ G) : Below B w (putT w1 G o x) :=
  (((h.setCell hG _).setCell hG _).setCell hG _).setCell hG _
theorem BuildW.step {L : List Trm} {G k : Nat} {w wr : World} (h : BuildW L G k w wr) (hk : k < L.length) (hG : w.heap.size ≤ G) : BuildW L G (k + 1) w (putT wr G (k * 4) (L.getD k default)) := by
  constructor
  · intro j hj
    by_cases e : j = k
    · subst e
      exact putT_at _ _ _ _ (fun d hd => h.some _ (by omega))
    · obtain ⟨h0, h1, h2, h3⟩ := h.done j (by omega)
      refine ⟨?_, ?_, ?_, ?_⟩
      all_goals rw [putT_far _ _ _ _ _ _ (by omega)]; assumption
  · intro i hi
    by_cases e : i < k * 4 ∨ k * 4 + 4 ≤ i
    · obtain ⟨u, hu⟩ := h.some i hi
      exact ⟨u, by rw [putT_far _ _ _ _ _ _ (.inr e)]; exact hu⟩
    · obtain ⟨h0, h1, h2, h3⟩ := putT_at wr G (k * 4) (L.getD k default) (fun d hd => h.some _ (by omega))
      have : i = k * 4 ∨ i = k * 4 + 1 ∨ i = k * 4 + 2 ∨ i = k * 4 + 3 := by omega
      rcases this with rfl | rfl | rfl | rfl
      · exact ⟨_, h0⟩
      · exact ⟨_, h1⟩
      · exact ⟨_, h2⟩
      · exact ⟨_, h3⟩
  · intro i hi; rw [putT_frozen]; exact h.froz i hi
  · rw [putT_size]; exact h.sz
  · exact putT_low h.low _ _ _ hG
end Go.Proofs.Ytfmpcniehgipfaa
namespace Go.Proofs.Ytfmpcniehgipfaa
open Go.RowKit
/-- only blocks from B on and below C have turned -/
structure Betw (B C : Nat) (w w' : World) : Prop where
  os : w'.os = w.os
  tape : w'.tape = w.tape
  output : w'.output = w.output
  size : w'.heap.size = w.heap.size
  block : ∀ k, k < B ∨ C ≤ k → w'.heap[k]? = w.heap[k]?
theorem Betw.low {B C : Nat} {w w' : World} (h : Betw B C w w') : Below B w w' := ⟨h.os, h.tape, h.output, by rw [h.size]; exact Nat.le_refl _, fun k hk => h.block k (.inl hk)⟩
theorem cell_of_heap {w w' : World} {p : Addr} (h : w'.heap[p.block]? = w.heap[p.block]?) : w'.cell? p = w.cell? p := by
  unfold World.cell?; rw [h]
theorem frozen_of_heap {w w' : World} {p : Addr} (h : w'.heap[p.block]? = w.heap[p.block]?) : w'.frozen? p = w.frozen? p := by
  unfold World.frozen?; rw [h]
/-- the blocks from B on that a world has are in the later one as they were -/
def Same (B : Nat) (w w' : World) : Prop := ∀ b, B ≤ b → b < w.heap.size → w'.heap[b]? = w.heap[b]?
theorem same_of {B : Nat} {w w' : World} (h : Below w.heap.size w w') : Same B w w' := fun b _ hb => h.block b hb
theorem Same.betw {B B' : Nat} {w w1 w2 : World} (h : Same B w w1) (hb : Betw B' B w1 w2) : Same B w w2 := fun b h1 h2 => (hb.block b (.inr h1)).trans (h b h1 h2)
end Go.Proofs.Ytfmpcniehgipfaa
namespace Go.Proofs.Ytfmpcniehgipfaa
set_option linter.unusedVariables false
open Go.RowKit
theorem infoN : (Try.prog.info? 3).map (fun i => (i.zero, i.size, i.bytes)) = some (some (.int .i64 0), 1, 8) := by kernel_rfl
/-- a row of numbers of the call's own -/
def RowN (w : World) (B : Nat) (v : Value) (L : List Int) : Prop := w.ownsRow B 3 1 v L.length (L.map (Value.int .i64))
theorem RowN.below {w w1 : World} {B : Nat} {v : Value} {L : List Int} (h : RowN w B v L) (hb : Below w.heap.size w w1) : RowN w1 B v L := by
  have hl := h.lt
  obtain ⟨h1, h2⟩ := h
  refine ⟨h1, ?_⟩
  rcases h2 with h2 | ⟨g, cap, cur, hv, hg, hh, hr⟩
  · exact .inl h2
  · subst hv
    have := (hl g rfl).2
    exact .inr ⟨g, cap, cur, rfl, hg, by rw [hb.block g this]; exact hh, hr⟩
theorem RowN.nil (w : World) (B : Nat) : RowN w B (.slice none 0 0) [] := World.ownsRow_nil _ _ _ _
theorem RowN.empty (w : World) {B : Nat} (hB : B ≤ w.heap.size) : RowN (w.alloc (.cells #[] 3)) B (.slice (some ⟨w.heap.size, 0, none⟩) 0 0) [] :=
  ⟨rfl, .inr ⟨w.heap.size, 0, #[], rfl, hB, (MapKept.heap_alloc w _).1, Nat.le_refl _, by decide, rfl, rfl⟩⟩
theorem RowN.own {w : World} {B : Nat} {v : Value} {L : List Int} (h : RowN w B v L) (hl : L.length ≤ 281474976710656) : OwnInts w B v L := own_of_row h hl
theorem RowN.base {w : World} {B B' : Nat} {v : Value} {L : List Int} (h : RowN w B v L) (hb : B' ≤ B) : RowN w B' v L := by
  obtain ⟨h1, h2⟩ := h
  refine ⟨h1, ?_⟩
  rcases h2 with h2 | ⟨g, cap, cur, hv, hg, r⟩
  · exact .inl h2
  · exact .inr ⟨g, cap, cur, hv, Nat.le_trans hb hg, r⟩
/-- a call hands back a row of its own with these numbers in it, and writes into nothing that was there -/
def GivesN (L : List Int) (w : World) (e : Ending) (w' : World) : Prop := ∃ v, e = .returned v ∧ RowN w' w.heap.size v L ∧ Below w.heap.size w w'
/-- what an append of one number leaves -/
theorem rowN_snoc {w wr w1 : World} {B : Nat} {v v' : Value} {L : List Int} {k : Int} {o : Obj} (hown : RowN wr B v L) (hlow : Below B w wr) (hB : B ≤ wr.heap.size)
    (hown' : w1.ownsRow B 3 1 v' (L.length + 1) (L.map (Value.int .i64) ++ [.int .i64 k])) (hgrow : (wr.alloc o).grownBy w1 v.ownBlock) :
    RowN w1 B v' (L ++ [k]) ∧ Below B w w1 :=
  ⟨by unfold RowN; simpa using hown', (hlow.alloc hB o).grown hgrow (by simp; omega) (fun j hj => (hown.lt j hj).1)⟩
end Go.Proofs.Ytfmpcniehgipfaa
namespace Go.Proofs.Ytfmpcniehgipfaa
set_option linter.unusedVariables false
open Go.RowKit
/-- the row i of a matrix -/
def rowM (M : List (List Int)) (i : Nat) : List Int := M.getD i []
theorem rw_set_self {M : List (List Int)} {i : Nat} (h : i < M.length) (r : List Int) : rowM (M.set i r) i = r := by
  simp [rowM, List.getD_eq_getElem?_getD, h]
theorem rw_set_ne {M : List (List Int)} {i j : Nat} (h : j ≠ i) (r : List Int) : rowM (M.set i r) j = rowM M j := by
  simp [rowM, List.getD_eq_getElem?_getD, Ne.symm h]
theorem rw_snoc_old {M : List (List Int)} {i : Nat} (h : i < M.length) (r : List Int) : rowM (M ++ [r]) i = rowM M i := by
  unfold rowM; rw [List.getD_eq_getElem?_getD, List.getElem?_append_left h, ← List.getD_eq_getElem?_getD]
theorem rw_snoc_new (M : List (List Int)) (r : List Int) : rowM (M ++ [r]) M.length = r := by
  simp [rowM, List.getD_eq_getElem?_getD]
/-- the numbers of a matrix's elements, of the first rows -/
def cntT (M : List (List Int)) : Nat → Nat
  | 0 => 0
  | i + 1 => cntT M i + (rowM M i).length
def cnt (M : List (List Int)) : Nat := cntT M M.length
theorem cntT_mono (M : List (List Int)) (i : Nat) : ∀ j, cntT M i ≤ cntT M (i + j)
  | 0 => Nat.le_refl _
  | j + 1 => Nat.le_trans (cntT_mono M i j) (by show _ ≤ cntT M (i + j) + _; omega)
theorem cntT_le {M : List (List Int)} {i j : Nat} (h : i ≤ j) : cntT M i ≤ cntT M j := by
  have := cntT_mono M i (j - i)
  rwa [show i + (j - i) = j by omega] at this
theorem row_le {M : List (List Int)} {i : Nat} (h : i < M.length) : (rowM M i).length ≤ cnt M := by
  have := cntT_le (M := M) (show i + 1 ≤ M.length by omega)
  have e : cntT M (i + 1) = cntT M i + (rowM M i).length := rfl
  unfold cnt; omega
/-- a slice that reads as a list of numbers, of whatever length -/
def IntsR (w : World) (v : Value) (L : List Int) : Prop :=
  L.length ≤ 9223372036854775807 ∧ ∃ a cap, v = .slice a L.length cap ∧ (L = [] ∨ ∃ g off, a = some ⟨g, off, none⟩ ∧ g < w.heap.size ∧ ∀ j, j < L.length → w.cell? ⟨g, off + j, none⟩ = some (.int .i64 (L.getD j 0)))
theorem IntsR.ints {w : World} {v : Value} {L : List Int} (h : IntsR w v L) (hl : L.length ≤ 281474976710656) : Ints w v L := ⟨hl, h.2⟩
/-- a slice value is no longer than its capacity -/
def CapOK : Value → Prop
  | .slice _ l c => l ≤ c
  | _ => False
/-- a matrix that came in, of whatever size -/
def RowM (w : World) (a : Option Addr) (len : Nat) (M : List (List Int)) : Prop :=
  M.length = len ∧ len ≤ 9223372036854775807 ∧ (M = [] ∨ ∃ g off, a = some ⟨g, off, none⟩ ∧ g < w.heap.size ∧ ∀ i, i < M.length → ∃ u, w.cell? ⟨g, off + i, none⟩ = some u ∧ IntsR w u (rowM M i) ∧ CapOK u)
/-- a value that reads as a matrix -/
def Mat (w : World) (v : Value) (M : List (List Int)) : Prop :=
  M.length ≤ 1048576 ∧ cnt M ≤ 1048576 ∧ ∃ a cap, v = .slice a M.length cap ∧ (M = [] ∨ ∃ g off, a = some ⟨g, off, none⟩ ∧ g < w.heap.size ∧ ∀ i, i < M.length → ∃ u, w.cell? ⟨g, off + i, none⟩ = some u ∧ Ints w u (rowM M i) ∧ CapOK u)
theorem RowM.mat {w : World} {a : Option Addr} {len cap : Nat} {M : List (List Int)} (h : RowM w a len M) (hl : len + cnt M ≤ 1048576) : Mat w (.slice a len cap) M := by
  obtain ⟨h1, _, h2⟩ := h
  refine ⟨by omega, by omega, a, cap, by rw [h1], ?_⟩
  rcases h2 with h2 | ⟨g, off, ha, hg, hc⟩
  · exact .inl h2
  · refine .inr ⟨g, off, ha, hg, fun i hi => ?_⟩
    obtain ⟨u, hu, hr, hk⟩ := hc i hi
    have := row_le hi
    exact ⟨u, hu, hr.ints (by omega), hk⟩
theorem Mat.below {w w' : World} {v : Value} {M : List (List Int)} (h : Mat w v M) (hb : Below w.heap.size w w') : Mat w' v M := by
  obtain ⟨h1, h2, a, cap, hv, h3⟩ := h
  refine ⟨h1, h2, a, cap, hv, ?_⟩
  rcases h3 with h3 | ⟨g, off, ha, hg, hc⟩
  · exact .inl h3
  · refine .inr ⟨g, off, ha, Nat.lt_of_lt_of_le hg hb.size, fun i hi => ?_⟩
    obtain ⟨u, hu, hr, hk⟩ := hc i hi
    exact ⟨u, by rw [hb.cell (p := ⟨g, off + i, none⟩) hg]; exact hu, hr.below hb, hk⟩
/-- rows of numbers of one's own: their heads lie at block g from off on; row i lies at block H i from O i on -/
structure OMat (w : World) (B g off : Nat) (H O : Nat → Nat) (M : List (List Int)) : Prop where
  bg : B ≤ g
  gl : g < w.heap.size
  rd : ∀ i, i < M.length → ∃ a cap, w.cell? ⟨g, off + i, none⟩ = some (.slice a (rowM M i).length cap) ∧ ((rowM M i).length ≤ 281474976710656 ∧ (rowM M i).length ≤ cap) ∧
    (rowM M i = [] ∨ (a = some ⟨H i, O i, none⟩ ∧ B ≤ H i ∧ H i < w.heap.size ∧ H i ≠ g ∧ (∀ j, j < (rowM M i).length → w.cell? ⟨H i, O i + j, none⟩ = some (.int .i64 ((rowM M i).getD j 0))) ∧ ∀ j, j < (rowM M i).length → w.frozen? ⟨H i, O i + j, none⟩ = false))
  ap : ∀ i j k l, i < M.length → j < M.length → i ≠ j → k < (rowM M i).length → l < (rowM M j).length → H i = H j → O i + k ≠ O j + l
  fz : ∀ i, i < M.length → w.frozen? ⟨g, off + i, none⟩ = false
/-- a matrix of one's own, from block B on -/
def OwnMat (w : World) (B : Nat) (v : Value) (M : List (List Int)) : Prop :=
  M.length ≤ 1048576 ∧ cnt M ≤ 1048576 ∧ ∃ a cap, v = .slice a M.length cap ∧ (M = [] ∨ ∃ g off H O, a = some ⟨g, off, none⟩ ∧ OMat w B g off H O M)
theorem OMat.ints {w : World} {B g off i : Nat} {H O : Nat → Nat} {M : List (List Int)} (h : OMat w B g off H O M) (hi : i < M.length) : ∃ u, w.cell? ⟨g, off + i, none⟩ = some u ∧ OwnInts w B u (rowM M i) ∧ CapOK u := by
  obtain ⟨a, cap, h1, h2, h3⟩ := h.rd i hi
  refine ⟨_, h1, ⟨h2.1, a, cap, rfl, ?_⟩, h2.2⟩
  rcases h3 with h3 | ⟨ha, hB, hl, _, hc, hf⟩
  · exact .inl h3
  · exact .inr ⟨_, _, ha, hB, hl, hc, hf⟩
theorem OwnMat.mat {w : World} {B : Nat} {v : Value} {M : List (List Int)} (h : OwnMat w B v M) : Mat w v M := by
  obtain ⟨h1, h2, a, cap, hv, h3⟩ := h
  refine ⟨h1, h2, a, cap, hv, ?_⟩
  rcases h3 with h3 | ⟨g, off, H, O, ha, hm⟩
  · exact .inl h3
  · refine .inr ⟨g, off, ha, hm.gl, fun i hi => ?_⟩
    obtain ⟨u, hu, ho, hk⟩ := hm.ints hi
    exact ⟨u, hu, ho.ints, hk⟩
/-- the blocks that a matrix lies in are as they were -/
theorem lt_of_heap {w w' : World} {g : Nat} (h : g < w.heap.size) (e : w'.heap[g]? = w.heap[g]?) : g < w'.heap.size := by
  rw [Array.getElem?_eq_getElem h] at e
  exact (Array.getElem?_eq_some_iff.1 e).1
theorem OMat.same {w w' : World} {B g off : Nat} {H O : Nat → Nat} {M : List (List Int)} (h : OMat w B g off H O M) (hg : w'.heap[g]? = w.heap[g]?) (hh : ∀ i, i < M.length → rowM M i ≠ [] → w'.heap[H i]? = w.heap[H i]?) : OMat w' B g off H O M := by
  refine ⟨h.bg, lt_of_heap h.gl hg, fun i hi => ?_, h.ap, fun i hi => by rw [World.frozen?_of_block (a := ⟨g, off + i, none⟩) hg]; exact h.fz i hi⟩
  obtain ⟨a, cap, h1, h2, h3⟩ := h.rd i hi
  refine ⟨a, cap, by rw [World.cell?_of_block (a := ⟨g, off + i, none⟩) hg]; exact h1, h2, ?_⟩
  by_cases he : rowM M i = []
  · exact .inl he
  · rcases h3 with h3 | ⟨ha, hB, hl, hn, hc, hf⟩
    · exact absurd h3 he
    · have e := hh i hi he
      exact .inr ⟨ha, hB, lt_of_heap hl e, hn, fun j hj => by rw [World.cell?_of_block (a := ⟨H i, O i + j, none⟩) e]; exact hc j hj, fun j hj => by rw [World.frozen?_of_block (a := ⟨H i, O i + j, none⟩) e]; exact hf j hj⟩
theorem OMat.hl {w : World} {B g off i : Nat} {H O : Nat → Nat} {M : List (List Int)} (h : OMat w B g off H O M) (hi : i < M.length) (hn : rowM M i ≠ []) : B ≤ H i ∧ H i < w.heap.size ∧ H i ≠ g := by
  obtain ⟨a, cap, h1, h2, h3⟩ := h.rd i hi
  rcases h3 with h3 | ⟨_, hB, hl, hg, _⟩
  · exact absurd h3 hn
  · exact ⟨hB, hl, hg⟩
theorem OMat.below {w w' : World} {B g off : Nat} {H O : Nat → Nat} {M : List (List Int)} (h : OMat w B g off H O M) (hb : Below w.heap.size w w') : OMat w' B g off H O M :=
  h.same (hb.block g h.gl) (fun _ hi hn => hb.block _ (h.hl hi hn).2.1)
theorem OwnMat.below {w w' : World} {B : Nat} {v : Value} {M : List (List Int)} (h : OwnMat w B v M) (hb : Below w.heap.size w w') : OwnMat w' B v M := by
  obtain ⟨h1, h2, a, cap, hv, h3⟩ := h
  refine ⟨h1, h2, a, cap, hv, ?_⟩
  rcases h3 with h3 | ⟨g, off, H, O, ha, hm⟩
  · exact .inl h3
  · exact .inr ⟨g, off, H, O, ha, hm.below hb⟩
theorem OMat.base {w : World} {B B' g off : Nat} {H O : Nat → Nat} {M : List (List Int)} (h : OMat w B g off H O M) (hB : B' ≤ B) : OMat w B' g off H O M := by
  refine ⟨Nat.le_trans hB h.bg, h.gl, fun i hi => ?_, h.ap, h.fz⟩
  obtain ⟨a, cap, h1, h2, h3⟩ := h.rd i hi
  refine ⟨a, cap, h1, h2, ?_⟩
  rcases h3 with h3 | ⟨ha, hb, r⟩
  · exact .inl h3
  · exact .inr ⟨ha, Nat.le_trans hB hb, r⟩
theorem OwnMat.base {w : World} {B B' : Nat} {v : Value} {M : List (List Int)} (h : OwnMat w B v M) (hB : B' ≤ B) : OwnMat w B' v M := by
  obtain ⟨h1, h2, a, cap, hv, h3⟩ := h
  refine ⟨h1, h2, a, cap, hv, ?_⟩
  rcases h3 with h3 | ⟨g, off, H, O, ha, hm⟩
  · exact .inl h3
  · exact .inr ⟨g, off, H, O, ha, hm.base hB⟩
theorem OwnMat.nil (w : World) (B : Nat) (a : Option Addr) (cap : Nat) : OwnMat w B (.slice a 0 cap) [] :=
  ⟨Nat.zero_le _, Nat.zero_le _, a, cap, rfl, .inl rfl⟩
/-- the cells of a row turn to those of another one of the same length, and nothing else -/
theorem OMat.row {w w' : World} {B g off i : Nat} {H O : Nat → Nat} {M : List (List Int)} (h : OMat w B g off H O M) (hi : i < M.length) (r : List Int) (hr : r.length = (rowM M i).length) (hs : w'.heap.size = w.heap.size)
    (hf : ∀ a, w'.frozen? a = w.frozen? a) (hd : ∀ j, j < r.length → w'.cell? ⟨H i, O i + j, none⟩ = some (.int .i64 (r.getD j 0))) (ho : ∀ p : Addr, (∀ j, j < r.length → p ≠ ⟨H i, O i + j, none⟩) → w'.cell? p = w.cell? p) :
    OMat w' B g off H O (M.set i r) := by
  refine ⟨h.bg, by rw [hs]; exact h.gl, fun i2 hi2 => ?_, ?_, fun i2 hi2 => by rw [hf]; exact h.fz i2 (by simpa using hi2)⟩
  · have hi2 : i2 < M.length := by simpa using hi2
    by_cases e : i2 = i
    · subst e
      rw [rw_set_self hi]
      obtain ⟨a, cap, h1, h2, h3⟩ := h.rd i2 hi
      refine ⟨a, cap, ?_, by rw [hr]; exact h2, ?_⟩
      · rw [ho]
        · rw [hr]; exact h1
        · intro j hj ee
          have hne : rowM M i2 ≠ [] := fun e0 => by rw [hr, e0] at hj; simp at hj
          have := (h.hl hi hne).2.2
          injection ee with e1 e2 e3
          exact this e1.symm
      · rcases h3 with h3 | ⟨ha, hB, hl, hn, hc, hfz⟩
        · left; exact List.eq_nil_of_length_eq_zero (by rw [hr, h3]; rfl)
        · right
          exact ⟨ha, hB, by rw [hs]; exact hl, hn, hd, fun j hj => by rw [hf]; exact hfz j (by omega)⟩
    · rw [rw_set_ne e]
      obtain ⟨a, cap, h1, h2, h3⟩ := h.rd i2 hi2
      refine ⟨a, cap, ?_, h2, ?_⟩
      · rw [ho]
        · exact h1
        · intro j hj ee
          have hne : rowM M i ≠ [] := fun e0 => by rw [hr, e0] at hj; simp at hj
          have := (h.hl hi hne).2.2
          injection ee with e1 e2 e3
          exact this e1.symm
      · rcases h3 with h3 | ⟨ha, hB, hl, hn, hc, hfz⟩
        · exact .inl h3
        · right
          refine ⟨ha, hB, by rw [hs]; exact hl, hn, fun j hj => ?_, fun j hj => by rw [hf]; exact hfz j hj⟩
          rw [ho]
          · exact hc j hj
          · intro k hk ee
            injection ee with e1 e2 e3
            exact h.ap i2 i j k hi2 hi e hj (by omega) e1 e2
  · intro i2 j2 k l h1 h2 hne hk hl hH
    have h1 : i2 < M.length := by simpa using h1
    have h2 : j2 < M.length := by simpa using h2
    have L : ∀ q, (rowM (M.set i r) q).length = (rowM M q).length := fun q => by
      by_cases e : q = i
      · subst e; rw [rw_set_self hi, hr]
      · rw [rw_set_ne e]
    rw [L] at hk hl
    exact h.ap i2 j2 k l h1 h2 hne hk hl hH
/-- one element is set -/
theorem OMat.set {w : World} {B g off i k : Nat} {H O : Nat → Nat} {M : List (List Int)} (h : OMat w B g off H O M) (hi : i < M.length) (hk : k < (rowM M i).length) (x : Int) :
    OMat (w.setCell ⟨H i, O i + k, none⟩ (.int .i64 x)) B g off H O (M.set i ((rowM M i).set k x)) := by
  obtain ⟨a, cap, h1, h2, h3⟩ := h.rd i hi
  rcases h3 with h3 | ⟨ha, hB, hl, hn, hc, hf⟩
  · rw [h3] at hk; simp at hk
  · refine h.row hi _ (by simp) (by simp) (fun a => World.frozen?_setCell ..) (fun j hj => ?_) (fun p hp => ?_)
    · have hj' : j < (rowM M i).length := by simpa using hj
      by_cases e : j = k
      · subst e
        rw [World.cell?_setCell_same _ _ _ (hc j hj')]
        simp [List.getD_eq_getElem?_getD, hj']
      · rw [World.cell?_setCell_other _ _ _ _ (by simp <;> omega), hc j hj']
        simp [List.getD_eq_getElem?_getD, Ne.symm e]
    · exact World.cell?_setCell_other _ _ _ _ (hp k (by simpa using hk)).symm
/-- a head is stored: one row more -/
theorem OMat.push {w : World} {B g off : Nat} {H O : Nat → Nat} {M : List (List Int)} (h : OMat w B g off H O M) {x : Value} (hx : w.cell? ⟨g, off + M.length, none⟩ = some x) (hfz : w.frozen? ⟨g, off + M.length, none⟩ = false) (a : Option Addr) (r : List Int) (cap h' o' : Nat) (hr : r.length ≤ 281474976710656 ∧ r.length ≤ cap)
    (hd : r = [] ∨ (a = some ⟨h', o', none⟩ ∧ B ≤ h' ∧ h' < w.heap.size ∧ h' ≠ g ∧ (∀ j, j < r.length → w.cell? ⟨h', o' + j, none⟩ = some (.int .i64 (r.getD j 0))) ∧ ∀ j, j < r.length → w.frozen? ⟨h', o' + j, none⟩ = false))
    (hap : ∀ i k l, i < M.length → k < (rowM M i).length → l < r.length → H i = h' → O i + k ≠ o' + l) :
    OMat (w.setCell ⟨g, off + M.length, none⟩ (.slice a r.length cap)) B g off (fun i => if i < M.length then H i else h') (fun i => if i < M.length then O i else o') (M ++ [r]) := by
  refine ⟨h.bg, by simpa using h.gl, fun i hi => ?_, ?_, fun i hi => by
    rw [World.frozen?_setCell]
    by_cases e : i < M.length
    · exact h.fz i e
    · rw [show i = M.length by simp at hi; omega]; exact hfz⟩
  · by_cases e : i < M.length
    · rw [rw_snoc_old e, if_pos e, if_pos e]
      obtain ⟨b, c, h1, h2, h3⟩ := h.rd i e
      refine ⟨b, c, by rw [World.cell?_setCell_other _ _ _ _ (by simp <;> omega)]; exact h1, h2, ?_⟩
      rcases h3 with h3 | ⟨ha, hB, hl, hn, hc, hf⟩
      · exact .inl h3
      · exact .inr ⟨ha, hB, by simpa using hl, hn, fun j hj => by rw [World.cell?_setCell_other _ _ _ _ (by intro ee; injection ee with e1; exact hn e1.symm)]; exact hc j hj, fun j hj => by rw [World.frozen?_setCell]; exact hf j hj⟩
    · have : i = M.length := by simp at hi; omega
      subst this
      rw [rw_snoc_new, if_neg e, if_neg e]
      refine ⟨a, cap, World.cell?_setCell_same _ _ _ hx, hr, ?_⟩
      rcases hd with hd | ⟨ha, hB, hl, hn, hc, hf⟩
      · exact .inl hd
      · exact .inr ⟨ha, hB, by simpa using hl, hn, fun j hj => by rw [World.cell?_setCell_other _ _ _ _ (by intro ee; injection ee with e1; exact hn e1.symm)]; exact hc j hj, fun j hj => by rw [World.frozen?_setCell]; exact hf j hj⟩
  · intro i j k l hi hj hne hk hl hH
    have hi : i < M.length + 1 := by simpa using hi
    have hj : j < M.length + 1 := by simpa using hj
    by_cases ei : i < M.length
    · rw [rw_snoc_old ei] at hk
      simp only [ei, if_true] at hH ⊢
      by_cases ej : j < M.length
      · rw [rw_snoc_old ej] at hl
        simp only [ej, if_true] at hH ⊢
        exact h.ap i j k l ei ej hne hk hl hH
      · have : j = M.length := by omega
        subst this
        rw [rw_snoc_new] at hl
        simp only [Nat.lt_irrefl, if_false] at hH ⊢
        exact hap i k l ei hk hl hH
    · have : i = M.length := by omega
      subst this
      rw [rw_snoc_new] at hk
      have ej : j < M.length := by omega
      rw [rw_snoc_old ej] at hl
      simp only [Nat.lt_irrefl, if_false, ej, if_true] at hH ⊢
      exact fun e => hap j l k ej hl hk hH.symm e.symm
/-- a head is stored: one row more, where the blocks are told ahead -/
theorem OMat.push2 {w : World} {B g off : Nat} {H O : Nat → Nat} {M : List (List Int)} (h : OMat w B g off H O M) {x : Value} (hx : w.cell? ⟨g, off + M.length, none⟩ = some x) (hfz : w.frozen? ⟨g, off + M.length, none⟩ = false) (r : List Int) (cap : Nat) (hr : r.length ≤ 281474976710656 ∧ r.length ≤ cap)
    (hB : B ≤ H M.length) (hl : H M.length < w.heap.size) (hn : H M.length ≠ g) (hc : ∀ j, j < r.length → w.cell? ⟨H M.length, O M.length + j, none⟩ = some (.int .i64 (r.getD j 0))) (hf : ∀ j, j < r.length → w.frozen? ⟨H M.length, O M.length + j, none⟩ = false)
    (hap : ∀ i k l, i < M.length → k < (rowM M i).length → l < r.length → H i = H M.length → O i + k ≠ O M.length + l) :
    OMat (w.setCell ⟨g, off + M.length, none⟩ (.slice (some ⟨H M.length, O M.length, none⟩) r.length cap)) B g off H O (M ++ [r]) := by
  have hp := h.push hx hfz (some ⟨H M.length, O M.length, none⟩) r cap (H M.length) (O M.length) hr (.inr ⟨rfl, hB, hl, hn, hc, hf⟩) hap
  refine ⟨hp.bg, hp.gl, fun i hi => ?_, fun i j k l hi hj hne hk hl hH => ?_, hp.fz⟩
  · have := hp.rd i hi
    have hi2 : i < M.length + 1 := by simpa using hi
    by_cases e : i < M.length
    · simpa only [if_pos e] using this
    · have : i = M.length := by omega
      subst this
      simpa only [Nat.lt_irrefl, if_false] using this
  · have hi2 : i < M.length + 1 := by simpa using hi
    have hj2 : j < M.length + 1 := by simpa using hj
    have := hp.ap i j k l hi hj hne hk hl
    have eH : ∀ q, q < M.length + 1 → (if q < M.length then H q else H M.length) = H q := fun q hq => by
      by_cases e : q < M.length
      · rw [if_pos e]
      · rw [if_neg e, show q = M.length by omega]
    have eO : ∀ q, q < M.length + 1 → (if q < M.length then O q else O M.length) = O q := fun q hq => by
      by_cases e : q < M.length
      · rw [if_pos e]
      · rw [if_neg e, show q = M.length by omega]
    simp only [eH i hi2, eH j hj2, eO i hi2, eO j hj2] at this
    exact this hH
theorem OMat.nil' {w : World} {B g off : Nat} {H O : Nat → Nat} (hB : B ≤ g) (hg : g < w.heap.size) : OMat w B g off H O [] :=
  ⟨hB, hg, fun i hi => by simp at hi, fun i j k l hi => by simp at hi, fun i hi => by simp at hi⟩
theorem OMat.nil {w : World} {B g off : Nat} (hB : B ≤ g) (hg : g < w.heap.size) : OMat w B g off (fun _ => 0) (fun _ => 0) [] :=
  ⟨hB, hg, fun i hi => by simp at hi, fun i j k l hi => by simp at hi, fun i hi => by simp at hi⟩
end Go.Proofs.Ytfmpcniehgipfaa
namespace Go.Proofs.Ytfmpcniehgipfaa
set_option linter.unusedVariables false
open Go.RowKit
theorem infoIn : (Try.prog.info? 3).map (fun i => (i.zero, i.size, i.bytes)) = some (some (.int .i64 0), 1, 8) := by kernel_rfl
theorem infoIS : (Try.prog.info? 22).map (fun i => (i.zero, i.size, i.bytes)) = some (some (.slice none 0 0), 1, 24) := by kernel_rfl
theorem adr_ne {b b' o o' : Nat} (h : b ≠ b' ∨ o ≠ o') : (⟨b, o, none⟩ : Addr) ≠ ⟨b', o', none⟩ := by
  rintro ⟨⟩; rcases h with h | h <;> exact h rfl
theorem made_any (z0 : Array Value) (n i : Nat) (h : i < n) : ∃ u, (madeCells z0 n).toList[i]? = some u := by
  have : i < (madeCells z0 n).toList.length := by simp [size_madeCells, h]
  exact ⟨_, List.getElem?_eq_getElem this⟩
/-- the world behind j marks: nothing but the marked cells has turned -/
structure MarkC (g off n : Nat) (k : Int) (j : Nat) (w wr : World) : Prop where
  done : ∀ i : Nat, i < j → wr.cell? ⟨g, off + i, none⟩ = some (.int .i64 (k + (i : Nat)))
  other : ∀ p : Addr, (∀ i, i < j → p ≠ ⟨g, off + i, none⟩) → wr.cell? p = w.cell? p
  froz : ∀ a, wr.frozen? a = w.frozen? a
  far : ∀ b, b ≠ g → wr.heap[b]? = w.heap[b]?
  size : wr.heap.size = w.heap.size
  os : wr.os = w.os
  tape : wr.tape = w.tape
  output : wr.output = w.output
theorem MarkC.refl (g off n : Nat) (k : Int) (w : World) : MarkC g off n k 0 w w := ⟨fun i hi => by omega, fun _ _ => rfl, fun _ => rfl, fun _ _ => rfl, rfl, rfl, rfl, rfl⟩
theorem MarkC.step {g off n : Nat} {k : Int} {j : Nat} {w wr : World} (h : MarkC g off n k j w wr) {x : Value} (hx : w.cell? ⟨g, off + j, none⟩ = some x) :
    MarkC g off n k (j + 1) w (wr.setCell ⟨g, off + j, none⟩ (.int .i64 (k + (j : Nat)))) := by
  have hx' : wr.cell? ⟨g, off + j, none⟩ = some x := by rw [h.other _ (fun i hi => adr_ne (by omega))]; exact hx
  constructor
  · intro i hi
    by_cases e : i = j
    · subst e; exact World.cell?_setCell_same _ _ _ hx'
    · rw [World.cell?_setCell_other _ _ _ _ (adr_ne (by omega))]; exact h.done i (by omega)
  · intro p hp
    rw [World.cell?_setCell_other _ _ _ _ (hp j (by omega)).symm]
    exact h.other p (fun i hi => hp i (by omega))
  · intro a; rw [World.frozen?_setCell]; exact h.froz a
  · intro b hb; rw [Below.heap_setCell _ _ _ _ hb]; exact h.far b hb
  · simpa using h.size
  · exact h.os
  · exact h.tape
  · exact h.output
set_option maxHeartbeats 1000000 in
theorem markIC (g off n cap : Nat) (k : Int) (w : World) (hn : n ≤ 281474976710656) (hk0 : 0 ≤ k) (hk1 : k ≤ 4611686018427387904)
    (hc : ∀ i : Nat, i < n → ∃ x, w.cell? ⟨g, off + i, none⟩ = some x) (hf : ∀ i : Nat, i < n → w.frozen? ⟨g, off + i, none⟩ = false) :
    Calls Try.prog 28 #[.slice (some ⟨g, off, none⟩) n cap, .int .i64 k] w fun e w' => e = .returned (.int .i64 (k + (n : Nat))) ∧ MarkC g off n k n w w' := by
  have hF := Lib.hid hf
  have hC := Lib.hid hc
  clear hc hf
  go_enter Try.func28, Try.ntmps28
  go_wp2_with fail
  go_loopw [1, 5] (fun q i wr => ∃ j : Nat, j ≤ n ∧ i = .int .i64 j ∧ q = .int .i64 (k + (j : Nat)) ∧ MarkC g off n k j w wr) (fun _ i _ => n - (intOf i).toNat)
  case atStart => exact ⟨0, by omega, rfl, by simp, MarkC.refl _ _ _ _ _⟩
  case round =>
    obtain ⟨j, hj, rfl, rfl, hR⟩ := hrel
    by_cases hlt : j < n
    · obtain ⟨x, hx⟩ := hC.out j hlt
      have hx2 : wr.cell? ⟨g, off + j, none⟩ = some x := by rw [hR.other _ (fun i hi => adr_ne (by omega))]; exact hx
      have hfz : wr.frozen? ⟨g, off + j, none⟩ = false := by rw [hR.froz]; exact hF.out j hlt
      have hS := Lib.hid (hR.step hx)
      clear hR hx
      go_wp2
      go_roundw
      case rel => exact ⟨j + 1, by omega, by go_num, by go_num, hS.out⟩
      case measure => simp [intOf]; omega
    · have hjn : j = n := by omega
      subst hjn
      go_wp2
      go_ret
      exact ⟨rfl, hR⟩
/-- the matrix whose first rows hold their marks -/
def cntTo (k : Int) (M : List (List Int)) : Nat → List (List Int)
  | 0 => M
  | i + 1 => (cntTo k M i).set i (counts (k + (cntT M i : Nat)) (rowM M i).length)
theorem cntTo_len (k : Int) (M : List (List Int)) : ∀ i, (cntTo k M i).length = M.length
  | 0 => rfl
  | i + 1 => by show (List.set _ _ _).length = _; rw [List.length_set]; exact cntTo_len k M i
theorem cntTo_row (k : Int) (M : List (List Int)) : ∀ i, i ≤ M.length → ∀ j, rowM (cntTo k M i) j = if j < i then counts (k + (cntT M j : Nat)) (rowM M j).length else rowM M j
  | 0, _, j => by simp [cntTo]
  | i + 1, hi, j => by
    have hl := cntTo_len k M i
    show rowM ((cntTo k M i).set i _) j = _
    by_cases e : j = i
    · subst e; rw [rw_set_self (by omega), if_pos (by omega)]
    · rw [rw_set_ne e, cntTo_row k M i (by omega) j]
      by_cases h : j < i
      · rw [if_pos h, if_pos (by omega)]
      · rw [if_neg h, if_neg (by omega)]
theorem cntTo_rlen {k : Int} {M : List (List Int)} {i j : Nat} (hi : i ≤ M.length) : (rowM (cntTo k M i) j).length = (rowM M j).length := by
  rw [cntTo_row k M i hi]; split
  · rw [counts_len]
  · rfl
theorem cntT_ext {M M' : List (List Int)} (h : ∀ j, (rowM M' j).length = (rowM M j).length) : ∀ i, cntT M' i = cntT M i
  | 0 => rfl
  | i + 1 => by show cntT M' i + _ = cntT M i + _; rw [cntT_ext h i, h]
theorem cntTo_cnt {k : Int} {M : List (List Int)} : cnt (cntTo k M M.length) = cnt M := by
  unfold cnt
  rw [cntTo_len]
  exact cntT_ext (fun j => cntTo_rlen (Nat.le_refl _)) _
end Go.Proofs.Ytfmpcniehgipfaa
namespace Go.Proofs.Ytfmpcniehgipfaa
set_option linter.unusedVariables false
open Go.RowKit
/-- a new block of n numbers, the first k of which are those of a list -/
structure BuildI (L : List Int) (H n k : Nat) (w wr : World) : Prop where
  done : ∀ j, j < k → wr.cell? ⟨H, j, none⟩ = some (.int .i64 (L.getD j 0))
  some : ∀ j, j < n → ∃ x, wr.cell? ⟨H, j, none⟩ = some x
  froz : ∀ j, j < n → wr.frozen? ⟨H, j, none⟩ = false
  sz : H < wr.heap.size
  low : Below H w wr
theorem BuildI.step {L : List Int} {H n k : Nat} {w wr : World} (h : BuildI L H n k w wr) (hk : k < n) : BuildI L H n (k + 1) w (wr.setCell ⟨H, k, none⟩ (.int .i64 (L.getD k 0))) := by
  obtain ⟨x, hx⟩ := h.some k hk
  refine ⟨fun j hj => ?_, fun j hj => ?_, fun j hj => by rw [World.frozen?_setCell]; exact h.froz j hj, by simpa using h.sz, h.low.setCell (Nat.le_refl _) _⟩
  · by_cases e : j = k
    · subst e; exact World.cell?_setCell_same _ _ _ hx
    · rw [World.cell?_setCell_other _ _ _ _ (adr_ne (by omega))]; exact h.done j (by omega)
  · by_cases e : j = k
    · subst e; exact ⟨_, World.cell?_setCell_same _ _ _ hx⟩
    · obtain ⟨y, hy⟩ := h.some j hj
      exact ⟨y, by rw [World.cell?_setCell_other _ _ _ _ (adr_ne (by omega))]; exact hy⟩
/-- a call hands back a new slice of these numbers -/
def GivesNew (L : List Int) (w : World) (e : Ending) (w' : World) : Prop :=
  ∃ a cap, e = .returned (.slice a L.length cap) ∧ L.length ≤ cap ∧ (L = [] ∨ (a = some ⟨w.heap.size, 0, none⟩ ∧ w.heap.size < w'.heap.size ∧ (∀ j, j < L.length → w'.cell? ⟨w.heap.size, j, none⟩ = some (.int .i64 (L.getD j 0))) ∧ ∀ j, j < L.length → w'.frozen? ⟨w.heap.size, j, none⟩ = false)) ∧ Below w.heap.size w w'
set_option maxHeartbeats 2000000 in
theorem toIS_some (g off cap : Nat) (L : List Int) (w : World) (hL1 : L.length ≤ 1048576) (hg : g < w.heap.size)
    (hc : ∀ j : Nat, j < L.length → w.cell? ⟨g, off + j, none⟩ = some (.int .i64 (L.getD j 0))) :
    Calls Try.prog 21 #[.slice (some ⟨g, off, none⟩) L.length cap] w (GivesNew L w) := by
  obtain ⟨i0, hi, hz0, hz1, hz2⟩ := info_parts infoIn
  have HC := Lib.hid hc
  clear hc
  go_enter Try.func21, Try.ntmps21
  go_wp2_with (at_make; refine wpList_make_full _ rfl _ _ 22 rfl w.heap.size 3 i0 (.int .i64 0) 1 Try.underlying22 hi hz0 hz1 .i64 .i64 L.length L.length L.length rfl rfl rfl rfl ?c2 ?c3 ?c4 ?_)
  case c2 => rw [hz2]; omega
  case c3 => unfold maxLen; omega
  case c4 => exact Nat.le_refl _
  intro w2 hown hgr
  have hS : BuildI L w.heap.size L.length 0 w w2 := by
    refine ⟨fun j hj => by omega, fun j hj => ?_, fun i hi => hown.frozenAt i, (hown.lt _ rfl).2, (Below.refl _ _).grown hgr (Nat.le_refl _) (fun k hk => by cases hk)⟩
    rw [hown.cellAt j (by omega)]
    exact made_any _ _ _ (by omega)
  clear hown hgr hi hz0 hz1 hz2
  go_wp2_with fail
  go_loopw [4] (fun i wr => ∃ k : Nat, k ≤ L.length ∧ i = .int .i64 k ∧ BuildI L w.heap.size L.length k w wr) (fun i _ => L.length - (intOf i).toNat)
  case atStart => exact ⟨0, by omega, rfl, hS⟩
  case round =>
    clear hS
    obtain ⟨k, hk, rfl, hS⟩ := hrel
    by_cases hlt : k < L.length
    · have hltp : (k : Int) < (L.length : Int) := by omega
      have hk0 : (0 : Int) ≤ (k : Int) := by omega
      have hx : wr.cell? ⟨g, off + k, none⟩ = some (.int .i64 (L.getD k 0)) := by rw [hS.low.cell (p := ⟨g, off + k, none⟩) hg]; exact HC.out k hlt
      obtain ⟨x, hxe⟩ : ∃ x, x = L.getD k 0 := ⟨_, rfl⟩
      have hSt := Lib.hid (hS.step hlt)
      rw [← hxe] at hx hSt
      obtain ⟨u0, c0⟩ := hS.some k hlt
      have f0 := hS.froz k hlt
      clear hS hxe
      go_wp2
      go_roundw
      case rel => exact ⟨k + 1, by omega, by go_num, hSt.out⟩
      case measure => simp [intOf]; omega
    · have hkl : k = L.length := by omega
      subst hkl
      go_wp2
      go_ret
      exact ⟨_, _, rfl, Nat.le_refl _, .inr ⟨rfl, hS.sz, hS.done, hS.froz⟩, hS.low⟩
theorem toIS_nil (a : Option Addr) (cap : Nat) (w : World) :
    Calls Try.prog 21 #[.slice a 0 cap] w (GivesNew [] w) := by
  obtain ⟨i0, hi, hz0, hz1, hz2⟩ := info_parts infoIn
  go_enter Try.func21, Try.ntmps21
  go_wp2_with (at_make; refine wpList_make_full _ rfl _ _ 22 rfl w.heap.size 3 i0 (.int .i64 0) 1 Try.underlying22 hi hz0 hz1 .i64 .i64 0 0 0 rfl rfl rfl rfl ?c2 ?c3 ?c4 ?_)
  case c2 => rw [hz2]; omega
  case c3 => unfold maxLen; omega
  case c4 => exact Nat.le_refl _
  intro w2 hown hgr
  have hS : Below w.heap.size w w2 := (Below.refl _ _).grown hgr (Nat.le_refl _) (fun k hk => by cases hk)
  have HS := Lib.hid hS
  clear hown hgr hi hz0 hz1 hz2 hS
  go_wp2_with fail
  go_loop [4] (fun i => i = .int .i64 0) (fun _ => 0)
  case atStart => rfl
  case round =>
    obtain rfl := hrel
    go_wp2
    go_ret
    exact ⟨_, _, rfl, Nat.le_refl _, .inl rfl, HS.out⟩
theorem toIS (v : Value) (L : List Int) (w : World) (h : Ints w v L) (hL : L.length ≤ 1048576) : Calls Try.prog 21 #[v] w (GivesNew L w) := by
  obtain ⟨_, a, cap, rfl, h2⟩ := h
  by_cases e : L = []
  · subst e; exact toIS_nil a cap w
  · rcases h2 with h2 | ⟨g, off, rfl, hg, hc⟩
    · exact absurd h2 e
    · exact toIS_some g off cap L w hL hg hc
/-- a new matrix that is made, behind j rows -/
structure BuildM (M : List (List Int)) (g n j : Nat) (w wr : World) : Prop where
  mat : ∃ H O, OMat wr g g 0 H O (M.take j)
  some : ∀ i, i < n → ∃ x, wr.cell? ⟨g, i, none⟩ = some x
  froz : ∀ i, i < n → wr.frozen? ⟨g, i, none⟩ = false
  low : Below g w wr
theorem take_snoc {M : List (List Int)} {j : Nat} (h : j < M.length) : M.take (j + 1) = M.take j ++ [rowM M j] := by
  rw [List.take_succ_eq_append_getElem h]; simp [rowM, List.getD_eq_getElem?_getD, h]
theorem BuildM.below {M : List (List Int)} {g n j : Nat} {w wr w' : World} (h : BuildM M g n j w wr) (hb : Below wr.heap.size wr w') : BuildM M g n j w w' := by
  obtain ⟨⟨H, O, hm⟩, h1, h2, h3⟩ := h
  have hg := hm.gl
  exact ⟨⟨H, O, hm.below hb⟩, fun i hi => by rw [hb.cell (p := ⟨g, i, none⟩) hg]; exact h1 i hi, fun i hi => by rw [hb.frozen (p := ⟨g, i, none⟩) hg]; exact h2 i hi, h3.trans (hb.mono (by omega))⟩
/-- a row in a new block is put behind -/
theorem BuildM.push {M : List (List Int)} {g n j : Nat} {w wr w2 : World} (h : BuildM M g n j w wr) (hb : Below wr.heap.size wr w2) (hj : j < M.length) (hn : j < n) (a : Option Addr) (cap : Nat) (hr : (rowM M j).length ≤ 281474976710656 ∧ (rowM M j).length ≤ cap)
    (hd : rowM M j = [] ∨ (a = Option.some ⟨wr.heap.size, 0, none⟩ ∧ wr.heap.size < w2.heap.size ∧ (∀ i, i < (rowM M j).length → w2.cell? ⟨wr.heap.size, i, none⟩ = Option.some (.int .i64 ((rowM M j).getD i 0))) ∧ ∀ i, i < (rowM M j).length → w2.frozen? ⟨wr.heap.size, i, none⟩ = false)) :
    BuildM M g n (j + 1) w (w2.setCell ⟨g, j, none⟩ (.slice a (rowM M j).length cap)) := by
  have hb' := h.below hb
  obtain ⟨H, O, hm⟩ := h.mat
  have hl : (M.take j).length = j := by simp; omega
  have hgl := hm.gl
  obtain ⟨x, hx⟩ := hb'.some j hn
  have hP := (hm.below hb).push (x := x) (by rw [hl, Nat.zero_add]; exact hx) (by rw [hl, Nat.zero_add]; exact hb'.froz j hn) a (rowM M j) cap wr.heap.size 0 hr (by
    rcases hd with hd | ⟨ha, hl2, hc, hf⟩
    · exact .inl hd
    · exact .inr ⟨ha, by omega, hl2, by omega, fun i hi => by rw [Nat.zero_add]; exact hc i hi, fun i hi => by rw [Nat.zero_add]; exact hf i hi⟩) (by
    intro i k l hi hk hl2 hH
    have hne : rowM (M.take j) i ≠ [] := fun e => by rw [e] at hk; simp at hk
    have := (hm.hl hi hne).2.1
    omega)
  rw [hl, Nat.zero_add] at hP
  refine ⟨⟨_, _, by rw [take_snoc hj]; exact hP⟩, fun i hi => ?_, fun i hi => by rw [World.frozen?_setCell]; exact hb'.froz i hi, hb'.low.setCell (Nat.le_refl _) _⟩
  by_cases e : i = j
  · subst e; exact ⟨_, World.cell?_setCell_same _ _ _ hx⟩
  · obtain ⟨y, hy⟩ := hb'.some i hi
    exact ⟨y, by rw [World.cell?_setCell_other _ _ _ _ (adr_ne (by omega))]; exact hy⟩
end Go.Proofs.Ytfmpcniehgipfaa
