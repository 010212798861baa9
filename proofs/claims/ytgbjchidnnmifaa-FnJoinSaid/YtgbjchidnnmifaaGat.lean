/-
  Gates flat in memory: contracts of the exact laws' helpers on gates and lists of gates. Conditions: what the slices hold is known.
-/
import Derived.Test.YtgbjchidnnmifaaTrms2
namespace Go.Proofs.Ytgbjchidnnmifaa
open Go.RowKit
/-- a gate: its kind and two numbers -/
structure Gt where
  k : Int
  a : Int
  b : Int
deriving DecidableEq
instance : Inhabited Gt := ⟨⟨0, 0, 0⟩⟩
def Gt.v (x : Gt) : Value := .agg #[.int .i64 x.k, .int .i64 x.a, .int .i64 x.b]
/-- three cells that hold a gate -/
def GAt (w : World) (g o : Nat) (x : Gt) : Prop :=
  w.cell? ⟨g, o, none⟩ = some (.int .i64 x.k) ∧ w.cell? ⟨g, o + 1, none⟩ = some (.int .i64 x.a) ∧ w.cell? ⟨g, o + 2, none⟩ = some (.int .i64 x.b)
/-- a slice value that reads as a list of gates in this world -/
def Gats (w : World) (v : Value) (L : List Gt) : Prop :=
  L.length ≤ 1048576 ∧ ∃ a cap, v = .slice a L.length cap ∧ (L = [] ∨ ∃ g off, a = some ⟨g, off, none⟩ ∧ g < w.heap.size ∧ ∀ j : Nat, j < L.length → GAt w g (off + j * 3) (L.getD j default))
theorem infoG : (Try.prog.info? 32).map (fun i => (i.zero, i.size, i.bytes)) = some (some (.agg #[.int .i64 0, .int .i64 0, .int .i64 0]), 3, 24) := by kernel_rfl
theorem GAt.below {w w' : World} {B g o : Nat} {x : Gt} (h : GAt w g o x) (hb : Below B w w') (hg : g < B) : GAt w' g o x := by
  obtain ⟨h0, h1, h2⟩ := h
  refine ⟨?_, ?_, ?_⟩
  · rw [hb.cell (p := ⟨g, o, none⟩) hg]; exact h0
  · rw [hb.cell (p := ⟨g, o + 1, none⟩) hg]; exact h1
  · rw [hb.cell (p := ⟨g, o + 2, none⟩) hg]; exact h2
theorem Gats.below {w w' : World} {v : Value} {L : List Gt} (h : Gats w v L) (hb : Below w.heap.size w w') : Gats w' v L := by
  obtain ⟨h1, a, cap, hv, h2⟩ := h
  refine ⟨h1, a, cap, hv, ?_⟩
  rcases h2 with h2 | ⟨g, off, ha, hg, hc⟩
  · exact .inl h2
  · exact .inr ⟨g, off, ha, by have := hb.size; omega, fun j hj => (hc j hj).below hb hg⟩
/-- a slice of the call's own, from block B on, that reads as a list of gates and may be written -/
def OwnGats (w : World) (B : Nat) (v : Value) (L : List Gt) : Prop :=
  L.length ≤ 1048576 ∧ ∃ a cap, v = .slice a L.length cap ∧ (L = [] ∨ ∃ g off, a = some ⟨g, off, none⟩ ∧ B ≤ g ∧ g < w.heap.size ∧ (∀ j : Nat, j < L.length → GAt w g (off + j * 3) (L.getD j default)) ∧ ∀ i : Nat, i < L.length * 3 → w.frozen? ⟨g, off + i, none⟩ = false)
theorem OwnGats.gats {w : World} {B : Nat} {v : Value} {L : List Gt} (h : OwnGats w B v L) : Gats w v L := by
  obtain ⟨h1, a, cap, hv, h2⟩ := h
  refine ⟨h1, a, cap, hv, ?_⟩
  rcases h2 with h2 | ⟨g, off, ha, _, hg, hc, _⟩
  · exact .inl h2
  · exact .inr ⟨g, off, ha, hg, hc⟩
theorem OwnGats.below {w w' : World} {B : Nat} {v : Value} {L : List Gt} (h : OwnGats w B v L) (hb : Below w.heap.size w w') : OwnGats w' B v L := by
  obtain ⟨h1, a, cap, hv, h2⟩ := h
  refine ⟨h1, a, cap, hv, ?_⟩
  rcases h2 with h2 | ⟨g, off, ha, hB, hg, hc, hf⟩
  · exact .inl h2
  · exact .inr ⟨g, off, ha, hB, by have := hb.size; omega, fun j hj => (hc j hj).below hb hg, fun i hi => by rw [hb.frozen (p := ⟨g, off + i, none⟩) hg]; exact hf i hi⟩
theorem OwnGats.base {w : World} {B B' : Nat} {v : Value} {L : List Gt} (h : OwnGats w B v L) (hB : B' ≤ B) : OwnGats w B' v L := by
  obtain ⟨h1, a, cap, hv, h2⟩ := h
  refine ⟨h1, a, cap, hv, ?_⟩
  rcases h2 with h2 | ⟨g, off, ha, hb, hg, hc, hf⟩
  · exact .inl h2
  · exact .inr ⟨g, off, ha, by omega, hg, hc, hf⟩
/-- the world inside toCircuit, behind k rounds: block G bears k gates -/
structure BuildG (L : List Gt) (G k : Nat) (w wr : World) : Prop where
  done : ∀ j : Nat, j < k → GAt wr G (j * 3) (L.getD j default)
  some : ∀ i : Nat, i < L.length * 3 → ∃ u, wr.cell? ⟨G, i, none⟩ = some u
  froz : ∀ i : Nat, i < L.length * 3 → wr.frozen? ⟨G, i, none⟩ = false
  sz : G < wr.heap.size
  low : Below w.heap.size w wr
theorem BuildG.below {L : List Gt} {G k : Nat} {w wr w1 : World} (h : BuildG L G k w wr) (hb : Below wr.heap.size wr w1) : BuildG L G k w w1 := by
  have sz := h.sz
  have e := hb.size
  constructor
  · intro j hj; exact (h.done j hj).below hb sz
  · intro i hi
    obtain ⟨u, hu⟩ := h.some i hi
    exact ⟨u, by rw [hb.cell (p := ⟨G, i, none⟩) sz]; exact hu⟩
  · intro i hi; rw [hb.frozen (p := ⟨G, i, none⟩) sz]; exact h.froz i hi
  · omega
  · exact h.low.trans (hb.mono h.low.size)
/-- a gate stored into three cells -/
def putG (w : World) (G o : Nat) (x : Gt) : World :=
  ((w.setCell ⟨G, o, none⟩ (.int .i64 x.k)).setCell ⟨G, o + 1, none⟩ (.int .i64 x.a)).setCell ⟨G, o + 2, none⟩ (.int .i64 x.b)
theorem putG_far (w : World) (G o : Nat) (x : Gt) (b i : Nat) (h : b ≠ G ∨ i < o ∨ o + 3 ≤ i) : (putG w G o x).cell? ⟨b, i, none⟩ = w.cell? ⟨b, i, none⟩ := by
  have hne : ∀ d, d < 3 → (⟨G, o + d, none⟩ : Addr) ≠ ⟨b, i, none⟩ := by
    intro d hd e
    injection e with e1 e2
    omega
  unfold putG
  rw [World.cell?_setCell_other _ _ _ _ (hne 2 (by omega)), World.cell?_setCell_other _ _ _ _ (hne 1 (by omega)), World.cell?_setCell_other _ _ _ _ (by simpa using hne 0 (by omega))]
theorem putG_at (w : World) (G o : Nat) (x : Gt) (h : ∀ d, d < 3 → ∃ u, w.cell? ⟨G, o + d, none⟩ = some u) : GAt (putG w G o x) G o x := by
  obtain ⟨u0, h0⟩ := h 0 (by omega)
  obtain ⟨u1, h1⟩ := h 1 (by omega)
  obtain ⟨u2, h2⟩ := h 2 (by omega)
  rw [Nat.add_zero] at h0
  have hne : ∀ d e, d ≠ e → (⟨G, o + d, none⟩ : Addr) ≠ ⟨G, o + e, none⟩ := by
    intro d e hd h
    injection h with e1 e2
    omega
  have hn0 : ∀ d, d ≠ 0 → (⟨G, o + d, none⟩ : Addr) ≠ ⟨G, o, none⟩ := by
    intro d hd h
    injection h with e1 e2
    omega
  have hn0' : ∀ d, d ≠ 0 → (⟨G, o, none⟩ : Addr) ≠ ⟨G, o + d, none⟩ := fun d hd => (hn0 d hd).symm
  unfold putG
  refine ⟨?_, ?_, ?_⟩
  · rw [World.cell?_setCell_other _ _ _ _ (hn0 2 (by omega)), World.cell?_setCell_other _ _ _ _ (hn0 1 (by omega))]
    exact World.cell?_setCell_same _ _ _ h0
  · rw [World.cell?_setCell_other _ _ _ _ (hne 2 1 (by omega))]
    exact World.cell?_setCell_same _ _ _ (by rw [World.cell?_setCell_other _ _ _ _ (hn0' 1 (by omega))]; exact h1)
  · exact World.cell?_setCell_same _ _ _ (by rw [World.cell?_setCell_other _ _ _ _ (hne 1 2 (by omega)), World.cell?_setCell_other _ _ _ _ (hn0' 2 (by omega))]; exact h2)
theorem putG_frozen (w : World) (G o : Nat) (x : Gt) (p : Addr) : (putG w G o x).frozen? p = w.frozen? p := by simp [putG]
theorem putG_size (w : World) (G o : Nat) (x : Gt) : (putG w G o x).heap.size = w.heap.size := by simp [putG]
theorem putG_low {B : Nat} {w w1 : World} (h : Below B w w1) (G o : Nat) (x : Gt) (hG : B ≤ G) : Below B w (putG w1 G o x) :=
  ((h.setCell hG _).setCell hG _).setCell hG _
theorem BuildG.step {L : List Gt} {G k : Nat} {w wr : World} (h : BuildG L G k w wr) (hk : k < L.length) (hG : w.heap.size ≤ G) : BuildG L G (k + 1) w (putG wr G (k * 3) (L.getD k default)) := by
  constructor
  · intro j hj
    by_cases e : j = k
    · subst e
      exact putG_at _ _ _ _ (fun d hd => h.some _ (by omega))
    · obtain ⟨h0, h1, h2⟩ := h.done j (by omega)
      refine ⟨?_, ?_, ?_⟩
      all_goals rw [putG_far _ _ _ _ _ _ (by omega)]; assumption
  · intro i hi
    by_cases e : i < k * 3 ∨ k * 3 + 3 ≤ i
    · obtain ⟨u, hu⟩ := h.some i hi
      exact ⟨u, by rw [putG_far _ _ _ _ _ _ (.inr e)]; exact hu⟩
    · obtain ⟨h0, h1, h2⟩ := putG_at wr G (k * 3) (L.getD k default) (fun d hd => h.some _ (by omega))
      have : i = k * 3 ∨ i = k * 3 + 1 ∨ i = k * 3 + 2 := by omega
      rcases this with rfl | rfl | rfl
      · exact ⟨_, h0⟩
      · exact ⟨_, h1⟩
      · exact ⟨_, h2⟩
  · intro i hi; rw [putG_frozen]; exact h.froz i hi
  · rw [putG_size]; exact h.sz
  · exact putG_low h.low _ _ _ hG
/-- a call hands back a slice of gates of its own -/
def GivesGats (L : List Gt) (w : World) (e : Ending) (w' : World) : Prop :=
  ∃ v, e = .returned v ∧ OwnGats w' w.heap.size v L ∧ Below w.heap.size w w'
/-- a call hands back a slice of gates of its own, and a truth value -/
def GivesGB (R : List Gt) (b : Bool) (w : World) (e : Ending) (w' : World) : Prop :=
  ∃ v, e = .returned (.tuple #[v, .bool b]) ∧ OwnGats w' w.heap.size v R ∧ Below w.heap.size w w'
theorem keepGG {W w1 : World} {g1 o1 g2 o2 : Nat} {x y : Gt} (hb : Below W.heap.size W w1) (h1 : g1 < W.heap.size) (h2 : g2 < W.heap.size) (h : GAt W g1 o1 x ∧ GAt W g2 o2 y) : GAt w1 g1 o1 x ∧ GAt w1 g2 o2 y :=
  ⟨h.1.below hb h1, h.2.below hb h2⟩
end Go.Proofs.Ytgbjchidnnmifaa
