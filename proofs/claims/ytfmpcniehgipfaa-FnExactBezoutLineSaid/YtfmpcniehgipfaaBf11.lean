/-
  A range over an iterator that hands over lists of numbers, each in a slice that holds it when it is handed over; no round leaves early. Conditions: none.
-/
import Derived.Test.YtfmpcniehgipfaaBf10
import Derived.Test.YtfmpcniehgipfaaBf3
import Derived.RangeFuncNested
import Derived.RangeFuncBox
namespace Go.Proofs.Ytfmpcniehgipfaa
set_option linter.unusedVariables false
open Go.RowKit
/-- what an iterator does between two rounds: blocks below B and all blocks of cells lie as they lay -/
structure GrowB (B : Nat) (W W' : World) : Prop where
  os : W'.os = W.os
  tape : W'.tape = W.tape
  output : W'.output = W.output
  size : W.heap.size ≤ W'.heap.size
  same : ∀ (k : Nat) (o : Obj), W.heap[k]? = some o → (k < B ∨ o.isCells = true) → W'.heap[k]? = some o
theorem GrowB.refl (B : Nat) (W : World) : GrowB B W W := ⟨rfl, rfl, rfl, Nat.le_refl _, fun _ _ h _ => h⟩
theorem GrowB.trans {B : Nat} {W W1 W2 : World} (h : GrowB B W W1) (k : GrowB B W1 W2) : GrowB B W W2 :=
  ⟨k.os.trans h.os, k.tape.trans h.tape, k.output.trans h.output, Nat.le_trans h.size k.size, fun i o hi ho => k.same i o (h.same i o hi ho) ho⟩
theorem GrowB.mono {B B' : Nat} {W W' : World} (h : GrowB B W W') (hB : B' ≤ B) : GrowB B' W W' :=
  ⟨h.os, h.tape, h.output, h.size, fun i o hi ho => h.same i o hi (ho.imp (fun q => Nat.lt_of_lt_of_le q hB) id)⟩
theorem GrowB.of_below {B : Nat} {W W' : World} (h : Below W.heap.size W W') : GrowB B W W' :=
  ⟨h.os, h.tape, h.output, h.size, fun k o hk _ => by rw [h.block k (Array.getElem?_eq_some_iff.1 hk).1]; exact hk⟩
theorem GrowB.putObj {B : Nat} {W : World} {l : Nat} {o : Obj} (o' : Obj) (hl : B ≤ l) (h : W.heap[l]? = some o) (hc : o.isCells = false) : GrowB B W (W.putObj l o') :=
  ⟨rfl, rfl, rfl, by simp, fun k o2 hk h2 => by
    have hne : k ≠ l := by
      rintro rfl
      rw [h] at hk
      cases hk
      rcases h2 with h2 | h2
      · omega
      · rw [hc] at h2; cases h2
    exact (World.putObj_heap_other hne).trans hk⟩
theorem GrowB.cell {B : Nat} {W W' : World} (h : GrowB B W W') {p : Addr} {v : Value} (hp : W.cell? p = some v) : W'.cell? p = some v := by
  obtain ⟨o, ho, hc⟩ := cells_of_cell hp
  have := h.same p.block o ho (.inr hc)
  rw [cell_of_heap (this.trans ho.symm)]
  exact hp
theorem GrowB.frozen {B : Nat} {W W' : World} (h : GrowB B W W') {p : Addr} {v : Value} (hp : W.cell? p = some v) : W'.frozen? p = W.frozen? p := by
  obtain ⟨o, ho, hc⟩ := cells_of_cell hp
  have := h.same p.block o ho (.inr hc)
  exact frozen_of_heap (this.trans ho.symm)
/-- a slice that is handed over: nil, or a list of numbers in a block from B on -/
def YI (W : World) (B : Nat) (v : Value) (σ : List Int) : Prop :=
  σ.length ≤ 1000 ∧ ((σ = [] ∧ v = .slice none 0 0) ∨ (σ ≠ [] ∧ ∃ g off cap, v = .slice (some ⟨g, off, none⟩) σ.length cap ∧ B ≤ g ∧ g < W.heap.size ∧ (σ.length ≤ cap ∧ (cap : Int) ≤ 9223372036854775807) ∧ ∀ j, j < σ.length → W.cell? ⟨g, off + j, none⟩ = some (.int .i64 (σ.getD j 0))))
theorem YI.ints {W : World} {B : Nat} {v : Value} {σ : List Int} (h : YI W B v σ) : Ints W v σ := by
  obtain ⟨h1, h2⟩ := h
  rcases h2 with ⟨rfl, rfl⟩ | ⟨_, g, off, cap, rfl, _, hg, _, hc⟩
  · exact ⟨by simp, none, 0, rfl, .inl rfl⟩
  · exact ⟨by omega, _, cap, rfl, .inr ⟨g, off, rfl, hg, hc⟩⟩
theorem YI.same {W W' : World} {B : Nat} {v : Value} {σ : List Int} (h : YI W B v σ) (hh : ∀ g, B ≤ g → g < W.heap.size → W'.heap[g]? = W.heap[g]?) : YI W' B v σ := by
  obtain ⟨h1, h2⟩ := h
  refine ⟨h1, ?_⟩
  rcases h2 with h2 | ⟨hn, g, off, cap, hv, hB, hg, hk, hc⟩
  · exact .inl h2
  · have e := hh g hB hg
    have hg' : g < W'.heap.size := by
      rw [Array.getElem?_eq_getElem hg] at e
      exact (Array.getElem?_eq_some_iff.1 e).1
    exact .inr ⟨hn, g, off, cap, hv, hB, hg', hk, fun j hj => by rw [cell_of_heap (by exact e)]; exact hc j hj⟩
theorem YI.base {W : World} {B B' : Nat} {v : Value} {σ : List Int} (h : YI W B v σ) (hB : B' ≤ B) : YI W B' v σ := by
  obtain ⟨h1, h2⟩ := h
  refine ⟨h1, ?_⟩
  rcases h2 with h2 | ⟨hn, g, off, cap, hv, hB2, r⟩
  · exact .inl h2
  · exact .inr ⟨hn, g, off, cap, hv, Nat.le_trans hB hB2, r⟩
/-- what a round does: only blocks of T, and new ones -/
structure KpT (T : Nat → Prop) (W W' : World) : Prop where
  os : W'.os = W.os
  tape : W'.tape = W.tape
  output : W'.output = W.output
  size : W.heap.size ≤ W'.heap.size
  same : ∀ k, k < W.heap.size → ¬ T k → W'.heap[k]? = W.heap[k]?
theorem KpT.refl (T : Nat → Prop) (W : World) : KpT T W W := ⟨rfl, rfl, rfl, Nat.le_refl _, fun _ _ _ => rfl⟩
theorem KpT.trans {T : Nat → Prop} {W W1 W2 : World} (h : KpT T W W1) (k : KpT T W1 W2) : KpT T W W2 :=
  ⟨k.os.trans h.os, k.tape.trans h.tape, k.output.trans h.output, Nat.le_trans h.size k.size, fun i hi hT => (k.same i (Nat.lt_of_lt_of_le hi h.size) hT).trans (h.same i hi hT)⟩
theorem KpT.mono {T T' : Nat → Prop} {W W' : World} (h : KpT T W W') (hT : ∀ k, T k → T' k) : KpT T' W W' :=
  ⟨h.os, h.tape, h.output, h.size, fun i hi hn => h.same i hi (fun q => hn (hT i q))⟩
theorem KpT.of_below {T : Nat → Prop} {W W' : World} (h : Below W.heap.size W W') : KpT T W W' := ⟨h.os, h.tape, h.output, h.size, fun k hk _ => h.block k hk⟩
theorem KpT.putObj {T : Nat → Prop} (W : World) {l : Nat} (o' : Obj) (hT : T l) : KpT T W (W.putObj l o') :=
  ⟨rfl, rfl, rfl, by simp, fun k _ hn => World.putObj_heap_other (by rintro rfl; exact hn hT)⟩
theorem KpT.below {T : Nat → Prop} {B : Nat} {W W' : World} (h : KpT T W W') (hB : B ≤ W.heap.size) (hT : ∀ k, T k → B ≤ k) : Below B W W' :=
  ⟨h.os, h.tape, h.output, h.size, fun k hk => h.same k (Nat.lt_of_lt_of_le hk hB) (fun q => by have := hT k q; omega)⟩
/-- a caller's invariant bears what an iterator does -/
def AbidesB {β : Type} (B : Nat) (J : β → World → Prop) : Prop := ∀ s W W', J s W → GrowB B W W' → J s W'
/-- **the contract of an iterator that hands over the lists S, one after the other** -/
def ListSeq (F : Fence) (n : Nat) (P : Program) (g : Nat) (lb : Array Value) (keep : Nat → Prop) (S : List (List Int)) (w : World) : Prop :=
  ∀ (l : Nat) (T : Nat → Prop) (J : List (List Int) → World → Prop) (W : World), (∀ k, keep k → ¬ T k) → (∀ k, T k → k < W.heap.size) → (∀ k, keep k → W.heap[k]? = w.heap[k]?) → AbidesB W.heap.size J →
    (∀ pre σ v W1, J pre W1 → YI W1 W.heap.size v σ → (∃ post, S = pre ++ σ :: post) → YieldAt F (n - 1) P l #[v] W1 fun e W' => e = .returned (.bool true) ∧ J (pre ++ [σ]) W' ∧ KpT T W1 W') →
    J [] W →
    CallsIn F n P g (#[.func (.yield l) #[] #[]] ++ lb) W fun e W' => (∃ v, e = .returned v) ∧ J S W'
/-- how a round's body ends -/
def rndPost (T : Nat → Prop) (I : List (List Int) → World → Prop) (xs : List (List Int)) (W : World) : Exit → Act → World → Prop
  | .normal, _, W' => I xs W' ∧ KpT T W W'
  | _, _, _ => False
theorem KpT.grow {T : Nat → Prop} {B : Nat} {W A C : World} (h : KpT T W A) (hB : W.heap.size ≤ B) (hg : GrowB B A C) : KpT T W C :=
  ⟨hg.os.trans h.os, hg.tape.trans h.tape, hg.output.trans h.output, Nat.le_trans h.size hg.size, fun k hk hn => by
    have e := h.same k hk hn
    rw [Array.getElem?_eq_getElem hk] at e
    rw [Array.getElem?_eq_getElem hk]
    exact hg.same k _ e (.inl (by omega))⟩
theorem KpT.set {T : Nat → Prop} {W A : World} (h : KpT T W A) {p : Addr} (hp : T p.block) (u : Value) : KpT T W (A.setCell p u) :=
  ⟨h.os, h.tape, h.output, by simpa using h.size, fun k hk hn => by rw [Below.heap_setCell _ _ _ _ (fun e => hn (by rw [e]; exact hp))]; exact h.same k hk hn⟩
variable {F : Fence} {n : Nat} {P : Program}
theorem wpIn_rangeLists {g : Operand} {ps : Array Tmp} {assign body : Code} {Q : Exit → Act → World → Prop} {a : Act} {w : World}
    (hro : F.round = none) (h1 : 1 ≤ n) {gf : Nat} {lb : Array Value} (hg : a.eval g = .func (.func gf) #[] lb) (hFg : F.fn gf) (eg : ∀ args w, (callFunc gf args).run P w = .ok (.enter gf args) w)
    {keep : Nat → Prop} {S : List (List Int)} {w0 : World} (hseq : ListSeq F (n - 1) P gf lb keep S w0) (hps : ps.size = 1)
    (T : Nat → Prop) (hT : ∀ k, T k → k < w.heap.size) (hkT : ∀ k, keep k → ¬ T k) (hk0 : ∀ k, keep k → k < w.heap.size ∧ w.heap[k]? = w0.heap[k]?)
    (I : List (List Int) → World → Prop) (hI : AbidesB w.heap.size I) (h0 : I [] w) (a₁ : Value → Act)
    (hassign : ∀ (l : Nat) (v : Value) (W : World) (K : Act → World → Prop), K (a₁ v) W →
      assign.wpIn (F.inRound l) (n - 1 - 1) P (Exit.then K (fun _ _ _ => False)) { tmps := (ps.zip #[v]).foldl (fun t (p, v) => t.setIfInBounds p v) a.tmps, defers := [] } W)
    (hbody : ∀ (l : Nat) (pre : List (List Int)) (σ : List Int) (v : Value) (W : World), I pre W → YI W w.heap.size v σ → (∃ post, S = pre ++ σ :: post) → body.wpIn (F.inRound l) (n - 1 - 1) P (rndPost T I (pre ++ [σ]) W) (a₁ v) W)
    (hdone : ∀ (D : Nat) (W : World), w.heap.size ≤ D → I S W → W.heap[D]? = some (.deferred (some [])) → Q .normal { a with defers := { target := .collected D, args := #[] } :: a.defers } W) :
    (Code.rangeFunc g ps assign body).wpIn F n P Q a w := by
  refine wpIn_rangeFunc ?_
  intro fn hfn
  rw [hro]
  obtain ⟨rc, hrc⟩ : ∃ rc : LoopState → Loop, rc = fun st => { state := st, pending := none, fn, tmps := a.tmps, params := ps, assign, body, defers := w.heap.size } := ⟨_, rfl⟩
  obtain ⟨W1, hW1⟩ : ∃ W1, W1 = (w.alloc (.deferred (some []))).alloc (.loop (rc .ready)) := ⟨_, rfl⟩
  have bW1 : Below w.heap.size w W1 := by rw [hW1]; exact ((Below.refl _ w).alloc (Nat.le_refl _) _).alloc (by simp) _
  have sW1 : W1.heap.size = w.heap.size + 2 := by rw [hW1]; simp
  have hL1 : W1.heap[w.heap.size + 1]? = some (.loop (rc .ready)) := by
    rw [hW1]; have := World.alloc_heap_new (w.alloc (.deferred (some []))) (.loop (rc .ready)); rwa [World.size_alloc] at this
  have hD1 : W1.heap[w.heap.size]? = some (.deferred (some [])) := by
    rw [hW1]; exact (Below.heap_alloc _ _ _ (by simp)).trans (World.alloc_heap_new w _)
  refine ⟨w.heap.size + 1, [{ target := .collected w.heap.size, args := #[] }], W1, { target := .fn (.func gf) lb, args := #[.func (.yield (w.heap.size + 1)) #[] #[]] }, W1, gf,
    #[.func (.yield (w.heap.size + 1)) #[] #[]] ++ lb, W1, ?_, ?_, ?_, ?_, fun _ => h1, ?_⟩
  · rw [hW1, hrc]; exact run_enterLoop_outer _ _ _ _ _
  · simp only [resolve, hg]
    simp [go_sem]
  · intro f' hf'
    simp [Target.leads] at hf'
    subst hf'
    exact hFg
  · simp [invoke, go_sem, eg]
  · refine (hseq (w.heap.size + 1) (fun k => T k ∨ k = w.heap.size + 1)
      (fun pre W => I pre W ∧ W.heap[w.heap.size + 1]? = some (.loop (rc .ready)) ∧ W.heap[w.heap.size]? = some (.deferred (some []))) W1
      (fun k hk q => q.elim (hkT k hk) (fun e => by have := (hk0 k hk).1; omega)) (fun k hk => hk.elim (fun q => by have := hT k q; omega) (fun q => by omega))
      (fun k hk => (bW1.block k (hk0 k hk).1).trans (hk0 k hk).2) ?_ ?_ ⟨hI _ _ _ h0 (GrowB.of_below bW1), hL1, hD1⟩).mono ?_
    · rintro s A B ⟨q1, q2, q3⟩ hgr
      exact ⟨hI _ _ _ q1 (hgr.mono (by omega)), hgr.same _ _ q2 (.inl (by omega)), hgr.same _ _ q3 (.inl (by omega))⟩
    · rintro pre σ v W ⟨hi, hl, hd⟩ hv hS
      have hlt : w.heap.size + 1 < W.heap.size := (Array.getElem?_eq_some_iff.1 hl).1
      have hy := run_yield (P := P) (args := #[v]) hl (by rw [hrc]; simp [hps])
      rw [hrc] at hy
      refine ⟨fn, _, assign, body, hy, roundIn_of_wpIn hfn (hassign _ v W _ ⟨_, run_beginRound hl (by rw [hrc]), ?_⟩)⟩
      obtain ⟨W2, hW2⟩ : ∃ W2, W2 = W.putObj (w.heap.size + 1) (.loop { rc .ready with state := .busy }) := ⟨_, rfl⟩
      rw [← hW2]
      have hl2 : W2.heap[w.heap.size + 1]? = some (.loop { rc .ready with state := .busy }) := by rw [hW2]; exact World.putObj_heap_same hlt
      have hd2 : W2.heap[w.heap.size]? = some (.deferred (some [])) := by rw [hW2]; exact (World.putObj_heap_other (by omega)).trans hd
      have g2 : GrowB w.heap.size W W2 := by rw [hW2]; exact GrowB.putObj _ (by omega) hl rfl
      have k2 : KpT (fun k => T k ∨ k = w.heap.size + 1) W W2 := by rw [hW2]; exact KpT.putObj W _ (.inr rfl)
      have hv2 : YI W2 w.heap.size v σ := (hv.same (fun g hB hg => by rw [hW2]; exact World.putObj_heap_other (by omega))).base (by omega)
      refine wpIn_mono (hbody _ pre σ v W2 (hI _ _ _ hi g2) hv2 hS) ?_
      rintro e a3 W3 hp
      cases e with
      | normal =>
        obtain ⟨hi3, hk3⟩ := hp
        have hl3 : W3.heap[w.heap.size + 1]? = some (.loop { rc .ready with state := .busy }) := by
          rw [hk3.same _ (Array.getElem?_eq_some_iff.1 hl2).1 (fun q => by have := hT _ q; omega)]; exact hl2
        have hd3 : W3.heap[w.heap.size]? = some (.deferred (some [])) := by
          rw [hk3.same _ (Array.getElem?_eq_some_iff.1 hd2).1 (fun q => by have := hT _ q; omega)]; exact hd2
        have he := run_endRound (P := P) none hl3
        have hlt3 := (Array.getElem?_eq_some_iff.1 hl3).1
        refine ⟨_, _, he, rfl, ⟨hI _ _ _ hi3 (GrowB.putObj _ (by omega) hl3 rfl), ?_, (World.putObj_heap_other (by omega)).trans hd3⟩, k2.trans ((hk3.mono (fun k q => .inl q)).trans (KpT.putObj W3 _ (.inr rfl)))⟩
        rw [World.putObj_heap_same hlt3, hrc]
        rfl
      | ret => exact hp.elim
      | exit id => exact hp.elim
      | goto t => exact hp.elim
      | panic ch => exact hp.elim
      | outgrown => exact hp.elim
    · rintro e W2 ⟨⟨v, rfl⟩, hi, hl, hd⟩
      refine ⟨none, _, by have := run_endLoop (P := P) hl (by rw [hrc]; simp); rw [hrc] at this; exact this, ?_⟩
      exact hdone _ _ (Nat.le_refl _) (hI _ _ _ hi (GrowB.putObj _ (by omega) hl rfl)) ((World.putObj_heap_other (by omega)).trans hd)
end Go.Proofs.Ytfmpcniehgipfaa
