/-
  What put keeps and leaves. Conditions: the terms of the sum are in order.
-/
import Derived.Test.YtiahcaihmgnicaaPutA
import Derived.Deep.Cut
import Derived.Deep.CutRange
namespace Go.Proofs.Ytiahcaihmgnicaa
open Go.RowKit
/-- what put leaves behind -/
def PutTo (B S : Nat) (p : Int) (v : Value) (L' : List Trm) (w : World) (e : Ending) (w' : World) : Prop :=
  e = .returned (.tuple #[]) ∧ ∃ v', SumW w' S p v' ∧ Row w' B v' L' ∧ v'.ownBlock ≠ some S ∧ Kept (fun k => k = S ∨ v.ownBlock = some k) w w' ∧ (v'.ownBlock = v.ownBlock ∨ ∃ g, v'.ownBlock = some g ∧ w.heap.size ≤ g)
theorem OneAt_alloc (w : World) (x : Trm) : OneAt (w.alloc (Obj.cells #[.int .i64 x.a, .int .i64 x.b, .int .i64 x.c, .int .i64 x.t] 68)) w.heap.size x := heap_alloc_new w _
def Trm.zero (x : Trm) : Trm := ⟨x.a, x.b, x.c, 0⟩
theorem rowSome {w : World} {B : Nat} {v : Value} {L : List Trm} (h : Row w B v L) (hne : 0 < L.length) : ∃ g cap, v = .slice (some ⟨g, 0, none⟩) L.length cap ∧ B ≤ g ∧ g < w.heap.size ∧ L.length ≤ cap ∧ cap ≤ maxLen := by
  rcases h.shape with ⟨_, rfl⟩ | h
  · simp at hne
  · exact h
/-- a post that speaks of the normal end alone -/
def NormPost (R : Act → World → Prop) : Exit → Act → World → Prop
  | .normal, a, w => R a w
  | _, _, _ => False
theorem NormPost.imp {R : Act → World → Prop} {Q : Exit → Act → World → Prop} (h : ∀ a w, R a w → Q .normal a w) : ∀ e a w, NormPost R e a w → Q e a w := fun e a w hq => by
  cases e <;> first | exact h a w hq | exact (hq : False).elim
/-- the terms behind put's first half: a term without an element is put where none with its powers stands -/
def insT (x : Trm) (L : List Trm) : List Trm := if hit x L = true then L else L.take (plc x L) ++ x.zero :: L.drop (plc x L)
theorem insT_len {x : Trm} {L : List Trm} : (insT x L).length ≤ L.length + 1 ∧ plc x L < (insT x L).length := by
  have := plc_le x L
  unfold insT
  split
  · rename_i h
    simp only [hit, Bool.and_eq_true, decide_eq_true_eq] at h
    omega
  · simp; omega
/-- what stands at the place behind put's first half -/
def insV (x : Trm) (L : List Trm) : Int := if hit x L = true then (L.getD (plc x L) default).t else 0
theorem insT_at {x : Trm} {L : List Trm} : (insT x L).getD (plc x L) default = ⟨x.a, x.b, x.c, insV x L⟩ := by
  have := plc_le x L
  unfold insT insV
  split
  · rename_i h
    simp only [hit, Bool.and_eq_true] at h
    have h2 := samB_iff.1 h.2
    cases hy : L.getD (plc x L) default with
    | mk a b c t => rw [hy] at h2; simp only at h2; rw [h2.1, h2.2.1, h2.2.2]
  · rw [List.getD_eq_getElem?_getD, List.getElem?_append_right (by simp; omega)]
    simp [Trm.zero, Nat.min_eq_left this]
/-- the world where put's ways meet -/
def MidW (B S : Nat) (p : Int) (v : Value) (x : Trm) (L : List Trm) (w w' : World) : Prop :=
  ∃ g1 cap1, SumW w' S p (.slice (some ⟨g1, 0, none⟩) (insT x L).length cap1) ∧ Row w' B (.slice (some ⟨g1, 0, none⟩) (insT x L).length cap1) (insT x L) ∧ w'.cell? ⟨w.heap.size, 0, none⟩ = some (.pointer (some ⟨S, 0, none⟩)) ∧ TAt w' (w.heap.size + 1) 0 x ∧ w.heap.size + 1 < w'.heap.size ∧
    Kept (fun k => k = S ∨ v.ownBlock = some k) w w' ∧ g1 ≠ S ∧ g1 ≠ w.heap.size ∧ g1 ≠ w.heap.size + 1 ∧ (v.ownBlock = some g1 ∨ w.heap.size ≤ g1)
theorem TAt.kept {K : Nat → Prop} {a w : World} {g o : Nat} {x : Trm} (h : TAt a g o x) (hk : Kept K a w) (hg : g < a.heap.size) (hn : ¬ K g) : TAt w g o x := by
  obtain ⟨h0, h1, h2, h3⟩ := h
  exact ⟨by rw [hk.cell (p := ⟨g, o, none⟩) hg hn]; exact h0, by rw [hk.cell (p := ⟨g, o + 1, none⟩) hg hn]; exact h1, by rw [hk.cell (p := ⟨g, o + 2, none⟩) hg hn]; exact h2, by rw [hk.cell (p := ⟨g, o + 3, none⟩) hg hn]; exact h3⟩
theorem Row.kept {K : Nat → Prop} {a w : World} {B g n cap : Nat} {L : List Trm} (h : Row a B (.slice (some ⟨g, 0, none⟩) n cap) L) (hk : Kept K a w) (hn : ¬ K g) : Row w B (.slice (some ⟨g, 0, none⟩) n cap) L := by
  have hg := (World.ownsRow.lt h g rfl).2
  refine ⟨h.1, ?_⟩
  rcases h.2 with h1 | ⟨g', cap', cur, h1, h2, h3, r⟩
  · exact .inl h1
  · cases h1
    exact .inr ⟨g, cap, cur, rfl, h2, by rw [hk.block g hg hn]; exact h3, r⟩
/-- the store of the new slice into the sum: the way's end -/
theorem MidW.of_ins {n1 B S : Nat} {p : Int} {v : Value} {x : Trm} {L : List Trm} {w w2 w3 : World} {g1 cap1 : Nat} {u : Value} (hS : SumW w2 S p u) (hp : w2.cell? ⟨w.heap.size, 0, none⟩ = some (.pointer (some ⟨S, 0, none⟩))) (ht : TAt w2 (w.heap.size + 1) 0 x) (hsz : w.heap.size + 1 < w2.heap.size)
    (hb : Below w.heap.size w w2) (hvS : v.ownBlock ≠ some S) (hvw : ∀ k, v.ownBlock = some k → k < w.heap.size) (hSw : S < w.heap.size)
    (hln : (insT x L).length = n1) (hR : Row w3 B (.slice (some ⟨g1, 0, none⟩) n1 cap1) (insT x L)) (hk : Kept (fun k => v.ownBlock = some k) w2 w3) (hg : v.ownBlock = some g1 ∨ w2.heap.size ≤ g1) :
    MidW B S p v x L w (w3.setCell ⟨S, 1, none⟩ (.slice (some ⟨g1, 0, none⟩) n1 cap1)) := by
  subst hln
  have hgS : g1 ≠ S := by rcases hg with h | h; intro e; exact hvS (e ▸ h); omega
  have hS3 : SumW w3 S p u := by
    have hh := hk.block S (by omega) hvS
    refine ⟨by rw [World.cell?_of_block (a := ⟨S, 0, none⟩) hh]; exact hS.c0, by rw [World.cell?_of_block (a := ⟨S, 1, none⟩) hh]; exact hS.c1, by rw [World.frozen?_of_block (a := ⟨S, 0, none⟩) hh]; exact hS.f0, by rw [World.frozen?_of_block (a := ⟨S, 1, none⟩) hh]; exact hS.f1, by have := hk.size; omega⟩
  have hset : Kept (fun k => k = S) w3 (w3.setCell ⟨S, 1, none⟩ (.slice (some ⟨g1, 0, none⟩) (insT x L).length cap1)) := Kept.set (K := fun k => k = S) (Kept.refl _ _) (p := ⟨S, 1, none⟩) (.inl rfl) _
  have hnn : ∀ k, w.heap.size ≤ k → ¬ v.ownBlock = some k := fun k hk e => by have := hvw k e; omega
  refine ⟨g1, cap1, hS3.set _, hR.kept hset hgS, ?_, ?_, ?_, ?_, hgS, ?_, ?_, ?_⟩
  · rw [hset.cell (p := ⟨w.heap.size, 0, none⟩) (show w.heap.size < w3.heap.size by have := hk.size; omega) (show ¬ w.heap.size = S by omega), hk.cell (p := ⟨w.heap.size, 0, none⟩) (show w.heap.size < w2.heap.size by omega) (hnn _ (Nat.le_refl _))]; exact hp
  · exact (ht.kept hk hsz (hnn _ (by omega))).kept hset (by have := hk.size; omega) (show ¬ w.heap.size + 1 = S by omega)
  · have := hk.size; simp; omega
  · exact ((Kept.of_below hb).trans (Kept.mono (K' := fun k => k = S ∨ v.ownBlock = some k) hk (fun k _ h => .inr h))).trans (hset.mono (fun k _ h => .inl h))
  · rcases hg with h | h; have := hvw _ h; omega; omega
  · rcases hg with h | h; have := hvw _ h; omega; omega
  · rcases hg with h | h; exact .inl h; exact .inr (by omega)
end Go.Proofs.Ytiahcaihmgnicaa
