/-
  Contracts of the exact laws' helpers on lists of terms. Conditions: what the slices hold is known.
-/
import Derived.Test.YtmndcdcjjihecaaTrm
namespace Go.Proofs.Ytmndcdcjjihecaa
open Go.RowKit
/-- four cells that hold a term -/
def TAt (w : World) (g o : Nat) (x : Trm) : Prop :=
  w.cell? ⟨g, o, none⟩ = some (.int .i64 x.a) ∧ w.cell? ⟨g, o + 1, none⟩ = some (.int .i64 x.b) ∧ w.cell? ⟨g, o + 2, none⟩ = some (.int .i64 x.c) ∧ w.cell? ⟨g, o + 3, none⟩ = some (.int .i64 x.t)
/-- a slice value that reads as a list of terms in this world -/
def Trms (w : World) (v : Value) (L : List Trm) : Prop :=
  L.length ≤ 1048576 ∧ ∃ a cap, v = .slice a L.length cap ∧ (L = [] ∨ ∃ g off, a = some ⟨g, off, none⟩ ∧ g < w.heap.size ∧ ∀ j : Nat, j < L.length → TAt w g (off + j * 4) (L.getD j default))
theorem infoT : (Try.prog.info? 55).map (fun i => (i.zero, i.size, i.bytes)) = some (some (.agg #[.int .i64 0, .int .i64 0, .int .i64 0, .int .i64 0]), 4, 32) := by kernel_rfl
theorem TAt.below {w w' : World} {B g o : Nat} {x : Trm} (h : TAt w g o x) (hb : Below B w w') (hg : g < B) : TAt w' g o x := by
  obtain ⟨h0, h1, h2, h3⟩ := h
  refine ⟨?_, ?_, ?_, ?_⟩
  · rw [hb.cell (p := ⟨g, o, none⟩) hg]; exact h0
  · rw [hb.cell (p := ⟨g, o + 1, none⟩) hg]; exact h1
  · rw [hb.cell (p := ⟨g, o + 2, none⟩) hg]; exact h2
  · rw [hb.cell (p := ⟨g, o + 3, none⟩) hg]; exact h3
theorem Trms.below {w w' : World} {v : Value} {L : List Trm} (h : Trms w v L) (hb : Below w.heap.size w w') : Trms w' v L := by
  obtain ⟨h1, a, cap, hv, h2⟩ := h
  refine ⟨h1, a, cap, hv, ?_⟩
  rcases h2 with h2 | ⟨g, off, ha, hg, hc⟩
  · exact .inl h2
  · exact .inr ⟨g, off, ha, by have := hb.size; omega, fun j hj => (hc j hj).below hb hg⟩
/-- a slice of the call's own, from block B on, that reads as a list of terms and may be written -/
def OwnTrms (w : World) (B : Nat) (v : Value) (L : List Trm) : Prop :=
  L.length ≤ 1048576 ∧ ∃ a cap, v = .slice a L.length cap ∧ (L = [] ∨ ∃ g off, a = some ⟨g, off, none⟩ ∧ B ≤ g ∧ g < w.heap.size ∧ (∀ j : Nat, j < L.length → TAt w g (off + j * 4) (L.getD j default)) ∧ ∀ i : Nat, i < L.length * 4 → w.frozen? ⟨g, off + i, none⟩ = false)
theorem OwnTrms.trms {w : World} {B : Nat} {v : Value} {L : List Trm} (h : OwnTrms w B v L) : Trms w v L := by
  obtain ⟨h1, a, cap, hv, h2⟩ := h
  refine ⟨h1, a, cap, hv, ?_⟩
  rcases h2 with h2 | ⟨g, off, ha, _, hg, hc, _⟩
  · exact .inl h2
  · exact .inr ⟨g, off, ha, hg, hc⟩
theorem OwnTrms.below {w w' : World} {B : Nat} {v : Value} {L : List Trm} (h : OwnTrms w B v L) (hb : Below w.heap.size w w') : OwnTrms w' B v L := by
  obtain ⟨h1, a, cap, hv, h2⟩ := h
  refine ⟨h1, a, cap, hv, ?_⟩
  rcases h2 with h2 | ⟨g, off, ha, hB, hg, hc, hf⟩
  · exact .inl h2
  · exact .inr ⟨g, off, ha, hB, by have := hb.size; omega, fun j hj => (hc j hj).below hb hg, fun i hi => by rw [hb.frozen (p := ⟨g, off + i, none⟩) hg]; exact hf i hi⟩
/-- the world inside toPoly, behind k rounds: block G bears k terms -/
structure BuildW (L : List Trm) (G k : Nat) (w wr : World) : Prop where
  done : ∀ j : Nat, j < k → TAt wr G (j * 4) (L.getD j default)
  some : ∀ i : Nat, i < L.length * 4 → ∃ u, wr.cell? ⟨G, i, none⟩ = some u
  froz : ∀ i : Nat, i < L.length * 4 → wr.frozen? ⟨G, i, none⟩ = false
  sz : G < wr.heap.size
  low : Below w.heap.size w wr
theorem BuildW.below {L : List Trm} {G k : Nat} {w wr w1 : World} (h : BuildW L G k w wr) (hb : Below wr.heap.size wr w1) : BuildW L G k w w1 := by
  have sz := h.sz
  have e := hb.size
  constructor
  · intro j hj; exact (h.done j hj).below hb sz
  · intro i hi
    obtain ⟨u, hu⟩ := h.some i hi
    exact ⟨u, by rw [hb.cell (p := ⟨G, i, none⟩) sz]; exact hu⟩
  · intro i hi; rw [hb.frozen (p := ⟨G, i, none⟩) sz]; exact h.froz i hi
  · omega
  · exact h.low.trans (hb.mono h.low.size)
/-- a term stored into four cells -/
def putT (w : World) (G o : Nat) (x : Trm) : World :=
  (((w.setCell ⟨G, o, none⟩ (.int .i64 x.a)).setCell ⟨G, o + 1, none⟩ (.int .i64 x.b)).setCell ⟨G, o + 2, none⟩ (.int .i64 x.c)).setCell ⟨G, o + 3, none⟩ (.int .i64 x.t)
theorem putT_far (w : World) (G o : Nat) (x : Trm) (b i : Nat) (h : b ≠ G ∨ i < o ∨ o + 4 ≤ i) : (putT w G o x).cell? ⟨b, i, none⟩ = w.cell? ⟨b, i, none⟩ := by
  have hne : ∀ d, d < 4 → (⟨G, o + d, none⟩ : Addr) ≠ ⟨b, i, none⟩ := by
    intro d hd e
    injection e with e1 e2
    omega
  unfold putT
  rw [World.cell?_setCell_other _ _ _ _ (hne 3 (by omega)), World.cell?_setCell_other _ _ _ _ (hne 2 (by omega)), World.cell?_setCell_other _ _ _ _ (hne 1 (by omega)), World.cell?_setCell_other _ _ _ _ (by simpa using hne 0 (by omega))]
theorem putT_at (w : World) (G o : Nat) (x : Trm) (h : ∀ d, d < 4 → ∃ u, w.cell? ⟨G, o + d, none⟩ = some u) : TAt (putT w G o x) G o x := by
  obtain ⟨u0, h0⟩ := h 0 (by omega)
  obtain ⟨u1, h1⟩ := h 1 (by omega)
  obtain ⟨u2, h2⟩ := h 2 (by omega)
  obtain ⟨u3, h3⟩ := h 3 (by omega)
  rw [Nat.add_zero] at h0
  have hne : ∀ d e, d ≠ e → (⟨G, o + d, none⟩ : Addr) ≠ ⟨G, o + e, none⟩ := by
    intro d e hd h
    injection h with e1 e2
    omega
  have hn0 : ∀ d, d ≠ 0 → (⟨G, o + d, none⟩ : Addr) ≠ ⟨G, o, none⟩ := by
    intro d hd h
    injection h with e1 e2
    omega
  have hn0' : ∀ d, d ≠ 0 → (⟨G, o, none⟩ : Addr) ≠ ⟨G, o + d, none⟩ := fun d hd => (hn0 d hd).symm
  unfold putT
  refine ⟨?_, ?_, ?_, ?_⟩
  · rw [World.cell?_setCell_other _ _ _ _ (hn0 3 (by omega)), World.cell?_setCell_other _ _ _ _ (hn0 2 (by omega)), World.cell?_setCell_other _ _ _ _ (hn0 1 (by omega))]
    exact World.cell?_setCell_same _ _ _ h0
  · rw [World.cell?_setCell_other _ _ _ _ (hne 3 1 (by omega)), World.cell?_setCell_other _ _ _ _ (hne 2 1 (by omega))]
    exact World.cell?_setCell_same _ _ _ (by rw [World.cell?_setCell_other _ _ _ _ (hn0' 1 (by omega))]; exact h1)
  · rw [World.cell?_setCell_other _ _ _ _ (hne 3 2 (by omega))]
    exact World.cell?_setCell_same _ _ _ (by rw [World.cell?_setCell_other _ _ _ _ (hne 1 2 (by omega)), World.cell?_setCell_other _ _ _ _ (hn0' 2 (by omega))]; exact h2)
  · exact World.cell?_setCell_same _ _ _ (by rw [World.cell?_setCell_other _ _ _ _ (hne 2 3 (by omega)), World.cell?_setCell_other _ _ _ _ (hne 1 3 (by omega)), World.cell?_setCell_other _ _ _ _ (hn0' 3 (by omega))]; exact h3)
theorem putT_frozen (w : World) (G o : Nat) (x : Trm) (p : Addr) : (putT w G o x).frozen? p = w.frozen? p := by simp [putT]
theorem putT_size (w : World) (G o : Nat) (x : Trm) : (putT w G o x).heap.size = w.heap.size := by simp [putT]
theorem putT_low {B : Nat} {w w1 : World} (h : Below B w w1) (G o : Nat) (x : Trm) (hG : B ≤ G) : Below B w (putT w1 G o x) :=
  (((h.setCell hG _).setCell hG _).setCell hG _).setCell hG _
theorem BuildW.step {L : List Trm} {G k : Nat} {w wr : World} (h : BuildW L G k w wr) (hk : k < L.length) (hG : w.heap.size ≤ G) : BuildW L G (k + 1) w (putT wr G (k * 4) (L.getD k default)) := by
  constructor
  · intro j hj
    by_cases e : j = k
    · subst e
      exact putT_at _ _ _ _ (fun d hd => h.some _ (by omega))
    · obtain ⟨h0, h1, h2, h3⟩ := h.done j (by omega)
      refine ⟨?_, ?_, ?_, ?_⟩
      all_goals rw [putT_far _ _ _ _ _ _ (by omega)]; assumption
  · intro i hi
    by_cases e : i < k * 4 ∨ k * 4 + 4 ≤ i
    · obtain ⟨u, hu⟩ := h.some i hi
      exact ⟨u, by rw [putT_far _ _ _ _ _ _ (.inr e)]; exact hu⟩
    · obtain ⟨h0, h1, h2, h3⟩ := putT_at wr G (k * 4) (L.getD k default) (fun d hd => h.some _ (by omega))
      have : i = k * 4 ∨ i = k * 4 + 1 ∨ i = k * 4 + 2 ∨ i = k * 4 + 3 := by omega
      rcases this with rfl | rfl | rfl | rfl
      · exact ⟨_, h0⟩
      · exact ⟨_, h1⟩
      · exact ⟨_, h2⟩
      · exact ⟨_, h3⟩
  · intro i hi; rw [putT_frozen]; exact h.froz i hi
  · rw [putT_size]; exact h.sz
  · exact putT_low h.low _ _ _ hG
end Go.Proofs.Ytmndcdcjjihecaa
