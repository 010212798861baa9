/-
  A range over an iterator that hands over values one after the other, whose rounds may leave early. Conditions: none.
  A range over an iterator that hands over several values at once, which it reads where the rounds have left them. Conditions: none.
-/
import Derived.Test.YtfmpcniehgipfaaBf11
import Derived.RangeFuncNested
import Derived.RangeFuncBound
import Derived.RangeFuncLeaves
namespace Go.Proofs.Ytfmpcniehgipfaa
set_option linter.unusedVariables false
open Go.RowKit
/-- what a round does: only blocks of T, and new ones; the blocks of T are the old ones, or new -/
structure KpV (T : World → Nat → Prop) (W W' : World) : Prop where
  os : W'.os = W.os
  tape : W'.tape = W.tape
  output : W'.output = W.output
  size : W.heap.size ≤ W'.heap.size
  same : ∀ k, k < W.heap.size → ¬ T W k → W'.heap[k]? = W.heap[k]?
  own : ∀ k, T W' k → T W k ∨ W.heap.size ≤ k
theorem KpV.refl (T : World → Nat → Prop) (W : World) : KpV T W W := ⟨rfl, rfl, rfl, Nat.le_refl _, fun _ _ _ => rfl, fun _ h => .inl h⟩
theorem KpV.no {T : World → Nat → Prop} {W W' : World} (h : KpV T W W') {k : Nat} (hk : k < W.heap.size) (hn : ¬ T W k) : ¬ T W' k := fun q => (h.own k q).elim hn (fun q => by omega)
theorem KpV.trans {T : World → Nat → Prop} {W W1 W2 : World} (h : KpV T W W1) (k : KpV T W1 W2) : KpV T W W2 :=
  ⟨k.os.trans h.os, k.tape.trans h.tape, k.output.trans h.output, Nat.le_trans h.size k.size, fun i hi hT => (k.same i (Nat.lt_of_lt_of_le hi h.size) (h.no hi hT)).trans (h.same i hi hT),
    fun i hi => (k.own i hi).elim (h.own i) (fun q => .inr (Nat.le_trans h.size q))⟩
theorem KpV.of_below {T : World → Nat → Prop} {W W' : World} (h : Below W.heap.size W W') (ho : ∀ k, T W' k → T W k ∨ W.heap.size ≤ k) : KpV T W W' := ⟨h.os, h.tape, h.output, h.size, fun k hk _ => h.block k hk, ho⟩
/-- behind what an iterator does -/
theorem KpV.grow {T : World → Nat → Prop} {B : Nat} {W A C : World} (h : KpV T W A) (hB : W.heap.size ≤ B) (hg : GrowB B A C) (ho : ∀ k, T C k → T A k) : KpV T W C :=
  ⟨hg.os.trans h.os, hg.tape.trans h.tape, hg.output.trans h.output, Nat.le_trans h.size hg.size, fun k hk hn => by
    have e := h.same k hk hn
    rw [Array.getElem?_eq_getElem hk] at e
    rw [Array.getElem?_eq_getElem hk]
    exact hg.same k _ e (.inl (by omega)), fun k hk => h.own k (ho k hk)⟩
/-- **the contract of an iterator that hands over the values of S, one after the other, till a round says no** -/
def ValSeq {α : Type} (enc : α → Value) (F : Fence) (n : Nat) (P : Program) (g : Nat) (lb : Array Value) (keep : Nat → Prop) (S : List α) (w : World) : Prop :=
  ∀ (l : Nat) (T : World → Nat → Prop) (J Jx : List α → World → Prop) (W : World), (∀ k, keep k → ¬ T W k) → (∀ A k, T A k → k < A.heap.size) → (∀ s A C k, J s A → GrowB W.heap.size A C → T C k → T A k) → (∀ s A C k, Jx s A → GrowB W.heap.size A C → T C k → T A k) → (∀ k, keep k → W.heap[k]? = w.heap[k]?) → AbidesB W.heap.size J → AbidesB W.heap.size Jx →
    (∀ pre x post W1, J pre W1 → S = pre ++ x :: post → YieldAt F (n - 1) P l #[enc x] W1 fun e W' => (e = .returned (.bool true) ∧ J (pre ++ [x]) W' ∧ KpV T W1 W') ∨ (e = .returned (.bool false) ∧ Jx (pre ++ [x]) W' ∧ KpV T W1 W')) →
    J [] W →
    CallsIn F n P g (#[.func (.yield l) #[] #[]] ++ lb) W fun e W' => (∃ v, e = .returned v) ∧ (J S W' ∨ ∃ pre x post, S = pre ++ x :: post ∧ Jx (pre ++ [x]) W')
/-- how a round's body ends that may leave early -/
def rndPostX {α : Type} (T : World → Nat → Prop) (I : List α → World → Prop) (Ix : Code → List α → World → Prop) (xs : List α) (W : World) : Exit → Act → World → Prop
  | .normal, _, W' => I xs W' ∧ KpV T W W'
  | .ret, _, W' => Ix .ret xs W' ∧ KpV T W W'
  | .exit id, _, W' => Ix (.exit id) xs W' ∧ KpV T W W'
  | _, _, _ => False
variable {F : Fence} {n : Nat} {P : Program}
theorem wpIn_rangeVals {α : Type} {enc : α → Value} {g : Operand} {ps : Array Tmp} {assign body : Code} {Q : Exit → Act → World → Prop} {a : Act} {w : World}
    (hro : F.round = none) (h1 : 1 ≤ n) {gf : Nat} {lb : Array Value} (hg : a.eval g = .func (.func gf) #[] lb) (hFg : F.fn gf) (eg : ∀ args w, (callFunc gf args).run P w = .ok (.enter gf args) w)
    {keep : Nat → Prop} {S : List α} {w0 : World} (hseq : ValSeq enc F (n - 1) P gf lb keep S w0) (hps : ps.size = 1)
    (T : World → Nat → Prop) (hT : ∀ A k, T A k → k < A.heap.size) (hkT : ∀ k, keep k → ¬ T w k) (hk0 : ∀ k, keep k → k < w.heap.size ∧ w.heap[k]? = w0.heap[k]?)
    (I : List α → World → Prop) (hTo : ∀ s A C k, I s A → GrowB w.heap.size A C → T C k → T A k) (hI : AbidesB w.heap.size I) (Ix : Code → List α → World → Prop) (hIx : ∀ c, AbidesB w.heap.size (Ix c)) (hTx : ∀ c s A C k, Ix c s A → GrowB w.heap.size A C → T C k → T A k) (h0 : I [] w) (Ax : α → Act → World → Prop) (hAx : ∀ x a', AbidesB w.heap.size (fun (_ : Unit) W => Ax x a' W))
    (hassign : ∀ (l : Nat) (pre : List α) (x : α) (post : List α) (W : World) (K : Act → World → Prop), I pre W → S = pre ++ x :: post → w.heap.size ≤ W.heap.size → (∀ a' W', Below W.heap.size W W' → Ax x a' W' → K a' W') →
      assign.wpIn (F.inRound l) (n - 1 - 1) P (Exit.then K (fun _ _ _ => False)) { tmps := (ps.zip #[enc x]).foldl (fun t (p, v) => t.setIfInBounds p v) a.tmps, defers := [] } W)
    (hbody : ∀ (l : Nat) (pre : List α) (x : α) (post : List α) (a' : Act) (W : World), I pre W → Ax x a' W → S = pre ++ x :: post → w.heap.size ≤ W.heap.size → body.wpIn (F.inRound l) (n - 1 - 1) P (rndPostX T I Ix (pre ++ [x]) W) a' W)
    (hdone : ∀ (D : Nat) (W : World), w.heap.size ≤ D → ¬ T W D → I S W → W.heap[D]? = some (.deferred (some [])) → Q .normal { a with defers := { target := .collected D, args := #[] } :: a.defers } W)
    (hstop : ∀ (D : Nat) (c : Code) (pre : List α) (x : α) (post : List α) (W : World), w.heap.size ≤ D → S = pre ++ x :: post → Ix c (pre ++ [x]) W → W.heap[D]? = some (.deferred (some [])) → c.wpIn F n P Q { a with defers := { target := .collected D, args := #[] } :: a.defers } W) :
    (Code.rangeFunc g ps assign body).wpIn F n P Q a w := by
  refine wpIn_rangeFunc ?_
  intro fn hfn
  rw [hro]
  obtain ⟨rc, hrc⟩ : ∃ rc : LoopState → Option Code → Loop, rc = fun st pe => { state := st, pending := pe, fn, tmps := a.tmps, params := ps, assign, body, defers := w.heap.size } := ⟨_, rfl⟩
  obtain ⟨W1, hW1⟩ : ∃ W1, W1 = (w.alloc (.deferred (some []))).alloc (.loop (rc .ready none)) := ⟨_, rfl⟩
  have bW1 : Below w.heap.size w W1 := by rw [hW1]; exact ((Below.refl _ w).alloc (Nat.le_refl _) _).alloc (by simp) _
  have sW1 : W1.heap.size = w.heap.size + 2 := by rw [hW1]; simp
  have hL1 : W1.heap[w.heap.size + 1]? = some (.loop (rc .ready none)) := by
    rw [hW1]; have := World.alloc_heap_new (w.alloc (.deferred (some []))) (.loop (rc .ready none)); rwa [World.size_alloc] at this
  have hD1 : W1.heap[w.heap.size]? = some (.deferred (some [])) := by
    rw [hW1]; exact (Below.heap_alloc _ _ _ (by simp)).trans (World.alloc_heap_new w _)
  refine ⟨w.heap.size + 1, [{ target := .collected w.heap.size, args := #[] }], W1, { target := .fn (.func gf) lb, args := #[.func (.yield (w.heap.size + 1)) #[] #[]] }, W1, gf,
    #[.func (.yield (w.heap.size + 1)) #[] #[]] ++ lb, W1, ?_, ?_, ?_, ?_, fun _ => h1, ?_⟩
  · rw [hW1, hrc]; exact run_enterLoop_outer _ _ _ _ _
  · simp only [resolve, hg]
    simp [go_sem]
  · intro f' hf'
    simp [Target.leads] at hf'
    subst hf'
    exact hFg
  · simp [invoke, go_sem, eg]
  · have nT1 : ¬ T W1 w.heap.size ∧ ¬ T W1 (w.heap.size + 1) := by
      have hg1 : GrowB w.heap.size w W1 := GrowB.of_below bW1
      exact ⟨fun q => by have := hT _ _ (hTo _ _ _ _ h0 hg1 q); omega, fun q => by have := hT _ _ (hTo _ _ _ _ h0 hg1 q); omega⟩
    refine (hseq (w.heap.size + 1) (fun W k => T W k ∨ (k = w.heap.size + 1 ∧ k < W.heap.size))
      (fun pre W => I pre W ∧ w.heap.size ≤ W.heap.size ∧ (¬ T W w.heap.size ∧ ¬ T W (w.heap.size + 1)) ∧ W.heap[w.heap.size + 1]? = some (.loop (rc .ready none)) ∧ W.heap[w.heap.size]? = some (.deferred (some [])))
      (fun pre W => ∃ c, Ix c pre W ∧ W.heap[w.heap.size + 1]? = some (.loop (rc .done (some c))) ∧ W.heap[w.heap.size]? = some (.deferred (some []))) W1
      (fun k hk q => q.elim (fun q => hkT k hk (hTo _ _ _ _ h0 (GrowB.of_below bW1) q)) (fun e => by have := (hk0 k hk).1; omega)) (fun A k hk => hk.elim (fun q => hT A k q) (fun q => q.2))
      (fun s A C k hj hg q => q.elim (fun q => .inl (hTo s A C k hj.1 (hg.mono (by omega)) q)) (fun q => .inr ⟨q.1, by rw [q.1]; exact (Array.getElem?_eq_some_iff.1 hj.2.2.2.1).1⟩))
      (fun s A C k hj hg q => by
        obtain ⟨c, hc, hl, _⟩ := hj
        exact q.elim (fun q => .inl (hTx c s A C k hc (hg.mono (by omega)) q)) (fun q => .inr ⟨q.1, by rw [q.1]; exact (Array.getElem?_eq_some_iff.1 hl).1⟩))
      (fun k hk => (bW1.block k (hk0 k hk).1).trans (hk0 k hk).2) ?_ ?_ ?_ ⟨hI _ _ _ h0 (GrowB.of_below bW1), bW1.size, nT1, hL1, hD1⟩).mono ?_
    · rintro s A B ⟨q1, q0, q4, q2, q3⟩ hgr
      exact ⟨hI _ _ _ q1 (hgr.mono (by omega)), Nat.le_trans q0 hgr.size, ⟨fun q => q4.1 (hTo _ _ _ _ q1 (hgr.mono (by omega)) q), fun q => q4.2 (hTo _ _ _ _ q1 (hgr.mono (by omega)) q)⟩, hgr.same _ _ q2 (.inl (by omega)), hgr.same _ _ q3 (.inl (by omega))⟩
    · rintro s A B ⟨c, q1, q2, q3⟩ hgr
      exact ⟨c, hIx c _ _ _ q1 (hgr.mono (by omega)), hgr.same _ _ q2 (.inl (by omega)), hgr.same _ _ q3 (.inl (by omega))⟩
    · rintro pre x post W ⟨hi, hs, hn, hl, hd⟩ hS
      have hy := run_yield (P := P) (args := #[enc x]) hl (by rw [hrc]; simp [hps])
      rw [hrc] at hy
      refine ⟨fn, _, assign, body, hy, roundIn_of_wpIn hfn (hassign _ pre x post W _ hi hS hs ?_)⟩
      intro a' Wa hba hax
      have gWa : GrowB w.heap.size W Wa := (GrowB.of_below hba).mono hs
      have kWa : KpV (fun W k => T W k ∨ (k = w.heap.size + 1 ∧ k < W.heap.size)) W Wa := KpV.of_below hba (fun k q => q.elim (fun q => .inl (.inl (hTo _ _ _ _ hi gWa q))) (fun q => .inl (.inr ⟨q.1, by rw [q.1]; exact (Array.getElem?_eq_some_iff.1 hl).1⟩)))
      replace hn : ¬ T Wa w.heap.size ∧ ¬ T Wa (w.heap.size + 1) := ⟨fun q => hn.1 (hTo _ _ _ _ hi gWa q), fun q => hn.2 (hTo _ _ _ _ hi gWa q)⟩
      replace hi := hI _ _ _ hi gWa
      replace hl := (hba.block _ (Array.getElem?_eq_some_iff.1 hl).1).trans hl
      replace hd := (hba.block _ (Array.getElem?_eq_some_iff.1 hd).1).trans hd
      replace hs := Nat.le_trans hs hba.size
      have hlt : w.heap.size + 1 < Wa.heap.size := (Array.getElem?_eq_some_iff.1 hl).1
      refine ⟨_, run_beginRound hl (by rw [hrc]), ?_⟩
      obtain ⟨W2, hW2⟩ : ∃ W2, W2 = Wa.putObj (w.heap.size + 1) (.loop { rc .ready none with state := .busy }) := ⟨_, rfl⟩
      rw [← hW2]
      have hl2 : W2.heap[w.heap.size + 1]? = some (.loop { rc .ready none with state := .busy }) := by rw [hW2]; exact World.putObj_heap_same hlt
      have hd2 : W2.heap[w.heap.size]? = some (.deferred (some [])) := by rw [hW2]; exact (World.putObj_heap_other (by omega)).trans hd
      have g2 : GrowB w.heap.size Wa W2 := by rw [hW2]; exact GrowB.putObj _ (by omega) hl rfl
      have kput : ∀ (A : World) (o o' : Obj), A.heap[w.heap.size + 1]? = some o → (∀ k, T (A.putObj (w.heap.size + 1) o') k → T A k) → KpV (fun W k => T W k ∨ (k = w.heap.size + 1 ∧ k < W.heap.size)) A (A.putObj (w.heap.size + 1) o') := fun A o o' hA hq =>
        ⟨rfl, rfl, rfl, by simp, fun k hk hn => World.putObj_heap_other (by rintro rfl; exact hn (.inr ⟨rfl, hk⟩)), fun k q => q.elim (fun q => .inl (.inl (hq k q))) (fun q => .inl (.inr ⟨q.1, by have := q.2; simpa using this⟩))⟩
      have n2 : ¬ T W2 w.heap.size ∧ ¬ T W2 (w.heap.size + 1) := ⟨fun q => hn.1 (hTo _ _ _ _ hi g2 q), fun q => hn.2 (hTo _ _ _ _ hi g2 q)⟩
      have k2 : KpV (fun W k => T W k ∨ (k = w.heap.size + 1 ∧ k < W.heap.size)) W W2 := kWa.trans (by
        have hq : ∀ k, T W2 k → T Wa k := fun k q => hTo _ _ _ _ hi g2 q
        rw [hW2] at hq ⊢
        exact kput Wa _ _ hl hq)
      have hs2 : w.heap.size ≤ W2.heap.size := Nat.le_trans hs g2.size
      have klift : ∀ W3, KpV T W2 W3 → KpV (fun W k => T W k ∨ (k = w.heap.size + 1 ∧ k < W.heap.size)) W2 W3 := fun W3 h3 =>
        ⟨h3.os, h3.tape, h3.output, h3.size, fun k hk hn => h3.same k hk (fun q => hn (.inl q)), fun k q => q.elim (fun q => (h3.own k q).imp (fun q => .inl q) id) (fun q => .inl (.inr ⟨q.1, by rw [q.1]; exact (Array.getElem?_eq_some_iff.1 hl2).1⟩))⟩
      have fin : ∀ (jump : Option Code) (W3 : World), KpV T W2 W3 →
          (Instr.endRound (w.heap.size + 1) jump).run P W3 = .ok (.bool jump.isNone) (W3.putObj (w.heap.size + 1) (.loop (rc (if jump.isNone then .ready else .done) jump))) ∧
          W3.heap[w.heap.size + 1]? = some (.loop { rc .ready none with state := .busy }) ∧
          (W3.putObj (w.heap.size + 1) (.loop (rc (if jump.isNone then .ready else .done) jump))).heap[w.heap.size + 1]? = some (.loop (rc (if jump.isNone then .ready else .done) jump)) ∧
          (W3.putObj (w.heap.size + 1) (.loop (rc (if jump.isNone then .ready else .done) jump))).heap[w.heap.size]? = some (.deferred (some [])) := fun jump W3 hk3 => by
        have hl3 : W3.heap[w.heap.size + 1]? = some (.loop { rc .ready none with state := .busy }) := by
          rw [hk3.same _ (Array.getElem?_eq_some_iff.1 hl2).1 n2.2]; exact hl2
        have hd3 : W3.heap[w.heap.size]? = some (.deferred (some [])) := by
          rw [hk3.same _ (Array.getElem?_eq_some_iff.1 hd2).1 n2.1]; exact hd2
        have := run_endRound (P := P) jump hl3
        rw [hrc] at this ⊢
        exact ⟨this, by rw [hrc] at hl3; exact hl3, World.putObj_heap_same (Array.getElem?_eq_some_iff.1 hl3).1, (World.putObj_heap_other (by omega)).trans hd3⟩
      refine wpIn_mono (hbody _ pre x post a' W2 (hI _ _ _ hi g2) (hAx x a' () _ _ hax g2) hS hs2) ?_
      rintro e a3 W3 hp
      cases e with
      | normal =>
        obtain ⟨hi3, hk3⟩ := hp
        obtain ⟨hr, hl3, hl4, hd4⟩ := fin none W3 hk3
        have g3 : GrowB w.heap.size W3 (W3.putObj (w.heap.size + 1) (.loop (rc .ready none))) := GrowB.putObj _ (by omega) hl3 rfl
        have hq3 : ∀ k, T (W3.putObj (w.heap.size + 1) (.loop (rc .ready none))) k → T W3 k := fun k q => hTo _ _ _ _ hi3 g3 q
        exact ⟨_, _, hr, .inl ⟨rfl, ⟨hI _ _ _ hi3 g3, by have := hk3.size; simp; omega, ⟨fun q => hk3.no (Array.getElem?_eq_some_iff.1 hd2).1 n2.1 (hq3 _ q), fun q => hk3.no (Array.getElem?_eq_some_iff.1 hl2).1 n2.2 (hq3 _ q)⟩, hl4, hd4⟩, k2.trans ((klift _ hk3).trans (kput W3 _ _ hl3 hq3))⟩⟩
      | ret =>
        obtain ⟨hi3, hk3⟩ := hp
        obtain ⟨hr, hl3, hl4, hd4⟩ := fin (some .ret) W3 hk3
        refine ⟨_, _, hr, .inr ⟨rfl, ⟨.ret, hIx _ _ _ _ hi3 (GrowB.putObj _ (by omega) hl3 rfl), hl4, hd4⟩, ?_⟩⟩
        exact k2.trans ((klift _ hk3).trans (kput W3 _ _ hl3 (fun k => hTx _ _ _ _ k hi3 (GrowB.putObj _ (by omega) hl3 rfl))))
      | exit id =>
        obtain ⟨hi3, hk3⟩ := hp
        obtain ⟨hr, hl3, hl4, hd4⟩ := fin (some (.exit id)) W3 hk3
        refine ⟨_, _, hr, .inr ⟨rfl, ⟨.exit id, hIx _ _ _ _ hi3 (GrowB.putObj _ (by omega) hl3 rfl), hl4, hd4⟩, ?_⟩⟩
        exact k2.trans ((klift _ hk3).trans (kput W3 _ _ hl3 (fun k => hTx _ _ _ _ k hi3 (GrowB.putObj _ (by omega) hl3 rfl))))
      | goto t => exact hp.elim
      | panic ch => exact hp.elim
      | outgrown => exact hp.elim
    · rintro e W2 ⟨⟨v, rfl⟩, (⟨hi, _, hn, hl, hd⟩ | ⟨pre, x, post, hS, c, hi, hl, hd⟩)⟩
      · refine ⟨none, _, by have := run_endLoop (P := P) hl (by rw [hrc]; simp); rw [hrc] at this; exact this, ?_⟩
        exact hdone _ _ (Nat.le_refl _) (fun q => hn.1 (hTo _ _ _ _ hi (GrowB.putObj _ (by omega) hl rfl) q)) (hI _ _ _ hi (GrowB.putObj _ (by omega) hl rfl)) ((World.putObj_heap_other (by omega)).trans hd)
      · refine ⟨some c, _, by have := run_endLoop (P := P) hl (by rw [hrc]; simp); rw [hrc] at this; exact this, ?_⟩
        exact hstop _ c pre x post _ (Nat.le_refl _) hS (hIx c _ _ _ hi (GrowB.putObj _ (by omega) hl rfl)) ((World.putObj_heap_other (by omega)).trans hd)
/-- marks among an activation's deferred calls: blocks from B on that wait for nothing -/
def Marks (B : Nat) : List Deferred → World → Prop
  | [], _ => True
  | d :: ds, W => (∃ D, d.target = .collected D ∧ d.args = #[] ∧ B ≤ D ∧ W.heap[D]? = some (.deferred (some [])) ∧ ∀ e ∈ ds, e.target ≠ .collected D) ∧ Marks B ds W
theorem Marks.keep {B : Nat} : ∀ {ds : List Deferred} {W W' : World}, Marks B ds W → (∀ D, B ≤ D → (∃ e ∈ ds, e.target = .collected D) → W.heap[D]? = some (.deferred (some [])) → W'.heap[D]? = some (.deferred (some []))) → Marks B ds W'
  | [], _, _, _, _ => trivial
  | d :: ds, W, W', ⟨⟨D, h1, h2, h3, h4, h5⟩, h⟩, hk => ⟨⟨D, h1, h2, h3, hk D h3 ⟨d, by simp, h1⟩ h4, h5⟩, h.keep (fun D hD ⟨e, he, ht⟩ hw => hk D hD ⟨e, by simp [he], ht⟩ hw)⟩
theorem Marks.ge {B : Nat} : ∀ {ds : List Deferred} {W : World}, Marks B ds W → ∀ e ∈ ds, ∃ D, e.target = .collected D ∧ B ≤ D ∧ D < W.heap.size
  | [], _, _, _, h => by cases h
  | d :: ds, W, ⟨⟨D, h1, h2, h3, h4, h5⟩, h⟩, e, he => by
    rcases List.mem_cons.1 he with rfl | he
    · exact ⟨D, h1, h3, (Array.getElem?_eq_some_iff.1 h4).1⟩
    · exact h.ge e he
theorem leaves_marks {fn : Func} {tmps : Array Value} {R : Ending → World → Prop} {B : Nat} {K : World → Prop} (hK : AbidesB B (fun (_ : Unit) => K))
    (hR : ∀ W, K W → LeavesIn F n P fn tmps R [] .returning W) : ∀ (ds : List Deferred) (W : World), Marks B ds W → K W → LeavesInM F n P fn tmps R ds .returning W
  | [], W, _, hk => hR W hk
  | d :: ds, W, ⟨⟨D, h1, h2, h3, h4, h5⟩, h⟩, hk => by
    refine ⟨by simp, .inl ⟨D, _, h1, run_takeDeferred h4, ?_⟩⟩
    refine leaves_marks hK hR ds _ (h.keep (fun D' hD' ⟨e, he, ht⟩ hw => ?_)) (hK () _ _ hk (GrowB.putObj _ h3 h4 rfl))
    exact (World.putObj_heap_other (fun e2 => h5 e he (by rw [ht, e2]))).trans hw
end Go.Proofs.Ytfmpcniehgipfaa
namespace Go.Proofs.Ytfmpcniehgipfaa
set_option linter.unusedVariables false
open Go.RowKit
/-- **the contract of an iterator that hands over the values of S, one after the other, till a round says no** -/
def ValSeq2 {α : Type} (enc : α → Array Value) (F : Fence) (n : Nat) (P : Program) (g : Nat) (lb : Array Value) (Rd : List α → World → Prop) (S : List α) : Prop :=
  ∀ (l : Nat) (T : World → Nat → Prop) (J Jx : List α → World → Prop) (W : World), (∀ A k, T A k → k < A.heap.size) → (∀ s A C k, J s A → GrowB W.heap.size A C → T C k → T A k) → (∀ s A C k, Jx s A → GrowB W.heap.size A C → T C k → T A k) → (∀ pre W1, J pre W1 → Rd pre W1) → AbidesB W.heap.size J → AbidesB W.heap.size Jx →
    (∀ pre x post W1, J pre W1 → S = pre ++ x :: post → YieldAt F (n - 1) P l (enc x) W1 fun e W' => (e = .returned (.bool true) ∧ J (pre ++ [x]) W' ∧ KpV T W1 W') ∨ (e = .returned (.bool false) ∧ Jx (pre ++ [x]) W' ∧ KpV T W1 W')) →
    J [] W →
    CallsIn F n P g (#[.func (.yield l) #[] #[]] ++ lb) W fun e W' => (∃ v, e = .returned v) ∧ (J S W' ∨ ∃ pre x post, S = pre ++ x :: post ∧ Jx (pre ++ [x]) W')
variable {F : Fence} {n : Nat} {P : Program}
theorem wpIn_rangeVals2 {α : Type} {enc : α → Array Value} {g : Operand} {ps : Array Tmp} {assign body : Code} {Q : Exit → Act → World → Prop} {a : Act} {w : World}
    (hro : F.round = none) (h1 : 1 ≤ n) {gf : Nat} {lb : Array Value} (hg : a.eval g = .func (.func gf) #[] lb) (hFg : F.fn gf) (eg : ∀ args w, (callFunc gf args).run P w = .ok (.enter gf args) w)
    {Rd : List α → World → Prop} {S : List α} (hseq : ValSeq2 enc F (n - 1) P gf lb Rd S) (hps : ∀ x, ps.size = (enc x).size)
    (T : World → Nat → Prop) (hT : ∀ A k, T A k → k < A.heap.size) 
    (I : List α → World → Prop) (hTo : ∀ s A C k, I s A → GrowB w.heap.size A C → T C k → T A k) (hI : AbidesB w.heap.size I) (hRd : ∀ pre W, I pre W → Rd pre W) (Ix : Code → List α → World → Prop) (hIx : ∀ c, AbidesB w.heap.size (Ix c)) (hTx : ∀ c s A C k, Ix c s A → GrowB w.heap.size A C → T C k → T A k) (h0 : I [] w) (Ax : α → Act → World → Prop) (hAx : ∀ x a', AbidesB w.heap.size (fun (_ : Unit) W => Ax x a' W))
    (hassign : ∀ (l : Nat) (pre : List α) (x : α) (post : List α) (W : World) (K : Act → World → Prop), I pre W → S = pre ++ x :: post → w.heap.size ≤ W.heap.size → (∀ a' W', Below W.heap.size W W' → Ax x a' W' → K a' W') →
      assign.wpIn (F.inRound l) (n - 1 - 1) P (Exit.then K (fun _ _ _ => False)) { tmps := (ps.zip (enc x)).foldl (fun t (p, v) => t.setIfInBounds p v) a.tmps, defers := [] } W)
    (hbody : ∀ (l : Nat) (pre : List α) (x : α) (post : List α) (a' : Act) (W : World), I pre W → Ax x a' W → S = pre ++ x :: post → w.heap.size ≤ W.heap.size → body.wpIn (F.inRound l) (n - 1 - 1) P (rndPostX T I Ix (pre ++ [x]) W) a' W)
    (hdone : ∀ (D : Nat) (W : World), w.heap.size ≤ D → ¬ T W D → I S W → W.heap[D]? = some (.deferred (some [])) → Q .normal { a with defers := { target := .collected D, args := #[] } :: a.defers } W)
    (hstop : ∀ (D : Nat) (c : Code) (pre : List α) (x : α) (post : List α) (W : World), w.heap.size ≤ D → S = pre ++ x :: post → Ix c (pre ++ [x]) W → W.heap[D]? = some (.deferred (some [])) → c.wpIn F n P Q { a with defers := { target := .collected D, args := #[] } :: a.defers } W) :
    (Code.rangeFunc g ps assign body).wpIn F n P Q a w := by
  refine wpIn_rangeFunc ?_
  intro fn hfn
  rw [hro]
  obtain ⟨rc, hrc⟩ : ∃ rc : LoopState → Option Code → Loop, rc = fun st pe => { state := st, pending := pe, fn, tmps := a.tmps, params := ps, assign, body, defers := w.heap.size } := ⟨_, rfl⟩
  obtain ⟨W1, hW1⟩ : ∃ W1, W1 = (w.alloc (.deferred (some []))).alloc (.loop (rc .ready none)) := ⟨_, rfl⟩
  have bW1 : Below w.heap.size w W1 := by rw [hW1]; exact ((Below.refl _ w).alloc (Nat.le_refl _) _).alloc (by simp) _
  have sW1 : W1.heap.size = w.heap.size + 2 := by rw [hW1]; simp
  have hL1 : W1.heap[w.heap.size + 1]? = some (.loop (rc .ready none)) := by
    rw [hW1]; have := World.alloc_heap_new (w.alloc (.deferred (some []))) (.loop (rc .ready none)); rwa [World.size_alloc] at this
  have hD1 : W1.heap[w.heap.size]? = some (.deferred (some [])) := by
    rw [hW1]; exact (Below.heap_alloc _ _ _ (by simp)).trans (World.alloc_heap_new w _)
  refine ⟨w.heap.size + 1, [{ target := .collected w.heap.size, args := #[] }], W1, { target := .fn (.func gf) lb, args := #[.func (.yield (w.heap.size + 1)) #[] #[]] }, W1, gf,
    #[.func (.yield (w.heap.size + 1)) #[] #[]] ++ lb, W1, ?_, ?_, ?_, ?_, fun _ => h1, ?_⟩
  · rw [hW1, hrc]; exact run_enterLoop_outer _ _ _ _ _
  · simp only [resolve, hg]
    simp [go_sem]
  · intro f' hf'
    simp [Target.leads] at hf'
    subst hf'
    exact hFg
  · simp [invoke, go_sem, eg]
  · have nT1 : ¬ T W1 w.heap.size ∧ ¬ T W1 (w.heap.size + 1) := by
      have hg1 : GrowB w.heap.size w W1 := GrowB.of_below bW1
      exact ⟨fun q => by have := hT _ _ (hTo _ _ _ _ h0 hg1 q); omega, fun q => by have := hT _ _ (hTo _ _ _ _ h0 hg1 q); omega⟩
    refine (hseq (w.heap.size + 1) (fun W k => T W k ∨ (k = w.heap.size + 1 ∧ k < W.heap.size))
      (fun pre W => I pre W ∧ w.heap.size ≤ W.heap.size ∧ (¬ T W w.heap.size ∧ ¬ T W (w.heap.size + 1)) ∧ W.heap[w.heap.size + 1]? = some (.loop (rc .ready none)) ∧ W.heap[w.heap.size]? = some (.deferred (some [])))
      (fun pre W => ∃ c, Ix c pre W ∧ W.heap[w.heap.size + 1]? = some (.loop (rc .done (some c))) ∧ W.heap[w.heap.size]? = some (.deferred (some []))) W1
      (fun A k hk => hk.elim (fun q => hT A k q) (fun q => q.2))
      (fun s A C k hj hg q => q.elim (fun q => .inl (hTo s A C k hj.1 (hg.mono (by omega)) q)) (fun q => .inr ⟨q.1, by rw [q.1]; exact (Array.getElem?_eq_some_iff.1 hj.2.2.2.1).1⟩))
      (fun s A C k hj hg q => by
        obtain ⟨c, hc, hl, _⟩ := hj
        exact q.elim (fun q => .inl (hTx c s A C k hc (hg.mono (by omega)) q)) (fun q => .inr ⟨q.1, by rw [q.1]; exact (Array.getElem?_eq_some_iff.1 hl).1⟩))
      (fun pre W hj => hRd pre W hj.1) ?_ ?_ ?_ ⟨hI _ _ _ h0 (GrowB.of_below bW1), bW1.size, nT1, hL1, hD1⟩).mono ?_
    · rintro s A B ⟨q1, q0, q4, q2, q3⟩ hgr
      exact ⟨hI _ _ _ q1 (hgr.mono (by omega)), Nat.le_trans q0 hgr.size, ⟨fun q => q4.1 (hTo _ _ _ _ q1 (hgr.mono (by omega)) q), fun q => q4.2 (hTo _ _ _ _ q1 (hgr.mono (by omega)) q)⟩, hgr.same _ _ q2 (.inl (by omega)), hgr.same _ _ q3 (.inl (by omega))⟩
    · rintro s A B ⟨c, q1, q2, q3⟩ hgr
      exact ⟨c, hIx c _ _ _ q1 (hgr.mono (by omega)), hgr.same _ _ q2 (.inl (by omega)), hgr.same _ _ q3 (.inl (by omega))⟩
    · rintro pre x post W ⟨hi, hs, hn, hl, hd⟩ hS
      have hy := run_yield (P := P) (args := (enc x)) hl (by rw [hrc]; exact (hps x).symm)
      rw [hrc] at hy
      refine ⟨fn, _, assign, body, hy, roundIn_of_wpIn hfn (hassign _ pre x post W _ hi hS hs ?_)⟩
      intro a' Wa hba hax
      have gWa : GrowB w.heap.size W Wa := (GrowB.of_below hba).mono hs
      have kWa : KpV (fun W k => T W k ∨ (k = w.heap.size + 1 ∧ k < W.heap.size)) W Wa := KpV.of_below hba (fun k q => q.elim (fun q => .inl (.inl (hTo _ _ _ _ hi gWa q))) (fun q => .inl (.inr ⟨q.1, by rw [q.1]; exact (Array.getElem?_eq_some_iff.1 hl).1⟩)))
      replace hn : ¬ T Wa w.heap.size ∧ ¬ T Wa (w.heap.size + 1) := ⟨fun q => hn.1 (hTo _ _ _ _ hi gWa q), fun q => hn.2 (hTo _ _ _ _ hi gWa q)⟩
      replace hi := hI _ _ _ hi gWa
      replace hl := (hba.block _ (Array.getElem?_eq_some_iff.1 hl).1).trans hl
      replace hd := (hba.block _ (Array.getElem?_eq_some_iff.1 hd).1).trans hd
      replace hs := Nat.le_trans hs hba.size
      have hlt : w.heap.size + 1 < Wa.heap.size := (Array.getElem?_eq_some_iff.1 hl).1
      refine ⟨_, run_beginRound hl (by rw [hrc]), ?_⟩
      obtain ⟨W2, hW2⟩ : ∃ W2, W2 = Wa.putObj (w.heap.size + 1) (.loop { rc .ready none with state := .busy }) := ⟨_, rfl⟩
      rw [← hW2]
      have hl2 : W2.heap[w.heap.size + 1]? = some (.loop { rc .ready none with state := .busy }) := by rw [hW2]; exact World.putObj_heap_same hlt
      have hd2 : W2.heap[w.heap.size]? = some (.deferred (some [])) := by rw [hW2]; exact (World.putObj_heap_other (by omega)).trans hd
      have g2 : GrowB w.heap.size Wa W2 := by rw [hW2]; exact GrowB.putObj _ (by omega) hl rfl
      have kput : ∀ (A : World) (o o' : Obj), A.heap[w.heap.size + 1]? = some o → (∀ k, T (A.putObj (w.heap.size + 1) o') k → T A k) → KpV (fun W k => T W k ∨ (k = w.heap.size + 1 ∧ k < W.heap.size)) A (A.putObj (w.heap.size + 1) o') := fun A o o' hA hq =>
        ⟨rfl, rfl, rfl, by simp, fun k hk hn => World.putObj_heap_other (by rintro rfl; exact hn (.inr ⟨rfl, hk⟩)), fun k q => q.elim (fun q => .inl (.inl (hq k q))) (fun q => .inl (.inr ⟨q.1, by have := q.2; simpa using this⟩))⟩
      have n2 : ¬ T W2 w.heap.size ∧ ¬ T W2 (w.heap.size + 1) := ⟨fun q => hn.1 (hTo _ _ _ _ hi g2 q), fun q => hn.2 (hTo _ _ _ _ hi g2 q)⟩
      have k2 : KpV (fun W k => T W k ∨ (k = w.heap.size + 1 ∧ k < W.heap.size)) W W2 := kWa.trans (by
        have hq : ∀ k, T W2 k → T Wa k := fun k q => hTo _ _ _ _ hi g2 q
        rw [hW2] at hq ⊢
        exact kput Wa _ _ hl hq)
      have hs2 : w.heap.size ≤ W2.heap.size := Nat.le_trans hs g2.size
      have klift : ∀ W3, KpV T W2 W3 → KpV (fun W k => T W k ∨ (k = w.heap.size + 1 ∧ k < W.heap.size)) W2 W3 := fun W3 h3 =>
        ⟨h3.os, h3.tape, h3.output, h3.size, fun k hk hn => h3.same k hk (fun q => hn (.inl q)), fun k q => q.elim (fun q => (h3.own k q).imp (fun q => .inl q) id) (fun q => .inl (.inr ⟨q.1, by rw [q.1]; exact (Array.getElem?_eq_some_iff.1 hl2).1⟩))⟩
      have fin : ∀ (jump : Option Code) (W3 : World), KpV T W2 W3 →
          (Instr.endRound (w.heap.size + 1) jump).run P W3 = .ok (.bool jump.isNone) (W3.putObj (w.heap.size + 1) (.loop (rc (if jump.isNone then .ready else .done) jump))) ∧
          W3.heap[w.heap.size + 1]? = some (.loop { rc .ready none with state := .busy }) ∧
          (W3.putObj (w.heap.size + 1) (.loop (rc (if jump.isNone then .ready else .done) jump))).heap[w.heap.size + 1]? = some (.loop (rc (if jump.isNone then .ready else .done) jump)) ∧
          (W3.putObj (w.heap.size + 1) (.loop (rc (if jump.isNone then .ready else .done) jump))).heap[w.heap.size]? = some (.deferred (some [])) := fun jump W3 hk3 => by
        have hl3 : W3.heap[w.heap.size + 1]? = some (.loop { rc .ready none with state := .busy }) := by
          rw [hk3.same _ (Array.getElem?_eq_some_iff.1 hl2).1 n2.2]; exact hl2
        have hd3 : W3.heap[w.heap.size]? = some (.deferred (some [])) := by
          rw [hk3.same _ (Array.getElem?_eq_some_iff.1 hd2).1 n2.1]; exact hd2
        have := run_endRound (P := P) jump hl3
        rw [hrc] at this ⊢
        exact ⟨this, by rw [hrc] at hl3; exact hl3, World.putObj_heap_same (Array.getElem?_eq_some_iff.1 hl3).1, (World.putObj_heap_other (by omega)).trans hd3⟩
      refine wpIn_mono (hbody _ pre x post a' W2 (hI _ _ _ hi g2) (hAx x a' () _ _ hax g2) hS hs2) ?_
      rintro e a3 W3 hp
      cases e with
      | normal =>
        obtain ⟨hi3, hk3⟩ := hp
        obtain ⟨hr, hl3, hl4, hd4⟩ := fin none W3 hk3
        have g3 : GrowB w.heap.size W3 (W3.putObj (w.heap.size + 1) (.loop (rc .ready none))) := GrowB.putObj _ (by omega) hl3 rfl
        have hq3 : ∀ k, T (W3.putObj (w.heap.size + 1) (.loop (rc .ready none))) k → T W3 k := fun k q => hTo _ _ _ _ hi3 g3 q
        exact ⟨_, _, hr, .inl ⟨rfl, ⟨hI _ _ _ hi3 g3, by have := hk3.size; simp; omega, ⟨fun q => hk3.no (Array.getElem?_eq_some_iff.1 hd2).1 n2.1 (hq3 _ q), fun q => hk3.no (Array.getElem?_eq_some_iff.1 hl2).1 n2.2 (hq3 _ q)⟩, hl4, hd4⟩, k2.trans ((klift _ hk3).trans (kput W3 _ _ hl3 hq3))⟩⟩
      | ret =>
        obtain ⟨hi3, hk3⟩ := hp
        obtain ⟨hr, hl3, hl4, hd4⟩ := fin (some .ret) W3 hk3
        refine ⟨_, _, hr, .inr ⟨rfl, ⟨.ret, hIx _ _ _ _ hi3 (GrowB.putObj _ (by omega) hl3 rfl), hl4, hd4⟩, ?_⟩⟩
        exact k2.trans ((klift _ hk3).trans (kput W3 _ _ hl3 (fun k => hTx _ _ _ _ k hi3 (GrowB.putObj _ (by omega) hl3 rfl))))
      | exit id =>
        obtain ⟨hi3, hk3⟩ := hp
        obtain ⟨hr, hl3, hl4, hd4⟩ := fin (some (.exit id)) W3 hk3
        refine ⟨_, _, hr, .inr ⟨rfl, ⟨.exit id, hIx _ _ _ _ hi3 (GrowB.putObj _ (by omega) hl3 rfl), hl4, hd4⟩, ?_⟩⟩
        exact k2.trans ((klift _ hk3).trans (kput W3 _ _ hl3 (fun k => hTx _ _ _ _ k hi3 (GrowB.putObj _ (by omega) hl3 rfl))))
      | goto t => exact hp.elim
      | panic ch => exact hp.elim
      | outgrown => exact hp.elim
    · rintro e W2 ⟨⟨v, rfl⟩, (⟨hi, _, hn, hl, hd⟩ | ⟨pre, x, post, hS, c, hi, hl, hd⟩)⟩
      · refine ⟨none, _, by have := run_endLoop (P := P) hl (by rw [hrc]; simp); rw [hrc] at this; exact this, ?_⟩
        exact hdone _ _ (Nat.le_refl _) (fun q => hn.1 (hTo _ _ _ _ hi (GrowB.putObj _ (by omega) hl rfl) q)) (hI _ _ _ hi (GrowB.putObj _ (by omega) hl rfl)) ((World.putObj_heap_other (by omega)).trans hd)
      · refine ⟨some c, _, by have := run_endLoop (P := P) hl (by rw [hrc]; simp); rw [hrc] at this; exact this, ?_⟩
        exact hstop _ c pre x post _ (Nat.le_refl _) hS (hIx c _ _ _ hi (GrowB.putObj _ (by omega) hl rfl)) ((World.putObj_heap_other (by omega)).trans hd)
end Go.Proofs.Ytfmpcniehgipfaa
