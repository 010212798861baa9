/-
  What the walks of the exact laws need of slices of terms, gates and integers: sizes, marks. Conditions: what the slices hold is known.
-/
import Derived.Test.YtmndcdcjjihecaaIntS
import Derived.Test.YtmndcdcjjihecaaTrms3
import Derived.Test.YtmndcdcjjihecaaGat2
import Derived.Test.YtmndcdcjjihecaaBetw
namespace Go.Proofs.Ytmndcdcjjihecaa
open Go.RowKit
theorem szP_at (a : Option Addr) (n cap : Nat) (m : Int) (w : World) (h0 : 0 ≤ m) (h1 : m ≤ 1048576) (h : (n : Int) ≤ m) :
    Calls Try.prog 9 #[.slice a n cap, .int .i64 m] w fun e w' => e = .returned (.int .i64 (m - (n : Int))) ∧ w = w' :=
  (szP a n cap m w h0 h1 (by omega)).mono fun e w' h => by rw [if_neg (by omega)] at h; exact h
theorem szP_over (a : Option Addr) (n cap : Nat) (m : Int) (w : World) (h0 : 0 ≤ m) (h1 : m ≤ 1048576) (h : m < (n : Int)) (h2 : (n : Int) ≤ 9223372036854775807) :
    Calls Try.prog 9 #[.slice a n cap, .int .i64 m] w fun e w' => e = .returned (.int .i64 (-1)) ∧ w = w' :=
  (szP a n cap m w h0 h1 h2).mono fun e w' h => by rw [if_pos (by omega)] at h; exact h
theorem szC_at (a : Option Addr) (n cap : Nat) (m : Int) (w : World) (h0 : 0 ≤ m) (h1 : m ≤ 1048576) (h : (n : Int) ≤ m) :
    Calls Try.prog 23 #[.slice a n cap, .int .i64 m] w fun e w' => e = .returned (.int .i64 (m - (n : Int))) ∧ w = w' :=
  (szC a n cap m w h0 h1 (by omega)).mono fun e w' h => by rw [if_neg (by omega)] at h; exact h
theorem szC_over (a : Option Addr) (n cap : Nat) (m : Int) (w : World) (h0 : 0 ≤ m) (h1 : m ≤ 1048576) (h : m < (n : Int)) (h2 : (n : Int) ≤ 9223372036854775807) :
    Calls Try.prog 23 #[.slice a n cap, .int .i64 m] w fun e w' => e = .returned (.int .i64 (-1)) ∧ w = w' :=
  (szC a n cap m w h0 h1 h2).mono fun e w' h => by rw [if_pos (by omega)] at h; exact h
theorem OwnTrms.betw' {B B' C : Nat} {w w' : World} {v : Value} {L : List Trm} (h : OwnTrms w B v L) (hC : C ≤ B) (hb : Betw B' C w w') : OwnTrms w' B v L := by
  obtain ⟨h1, a, cap, hv, h2⟩ := h
  refine ⟨h1, a, cap, hv, ?_⟩
  rcases h2 with h2 | ⟨g, off, ha, hB, hg, hc, hf⟩
  · exact .inl h2
  · have e := hb.block g (.inr (by omega))
    refine .inr ⟨g, off, ha, hB, by rw [hb.size]; exact hg, fun j hj => ?_, fun i hi => by rw [frozen_of_heap (p := ⟨g, off + i, none⟩) e]; exact hf i hi⟩
    obtain ⟨c0, c1, c2, c3⟩ := hc j hj
    exact ⟨by rw [cell_of_heap (p := ⟨g, off + j * 4, none⟩) e]; exact c0, by rw [cell_of_heap (p := ⟨g, off + j * 4 + 1, none⟩) e]; exact c1, by rw [cell_of_heap (p := ⟨g, off + j * 4 + 2, none⟩) e]; exact c2, by rw [cell_of_heap (p := ⟨g, off + j * 4 + 3, none⟩) e]; exact c3⟩
theorem OwnGats.betw' {B B' C : Nat} {w w' : World} {v : Value} {L : List Gt} (h : OwnGats w B v L) (hC : C ≤ B) (hb : Betw B' C w w') : OwnGats w' B v L := by
  obtain ⟨h1, a, cap, hv, h2⟩ := h
  refine ⟨h1, a, cap, hv, ?_⟩
  rcases h2 with h2 | ⟨g, off, ha, hB, hg, hc, hf⟩
  · exact .inl h2
  · have e := hb.block g (.inr (by omega))
    refine .inr ⟨g, off, ha, hB, by rw [hb.size]; exact hg, fun j hj => ?_, fun i hi => by rw [frozen_of_heap (p := ⟨g, off + i, none⟩) e]; exact hf i hi⟩
    obtain ⟨c0, c1, c2⟩ := hc j hj
    exact ⟨by rw [cell_of_heap (p := ⟨g, off + j * 3, none⟩) e]; exact c0, by rw [cell_of_heap (p := ⟨g, off + j * 3 + 1, none⟩) e]; exact c1, by rw [cell_of_heap (p := ⟨g, off + j * 3 + 2, none⟩) e]; exact c2⟩
theorem OwnInts.betw' {B B' C : Nat} {w w' : World} {v : Value} {L : List Int} (h : OwnInts w B v L) (hC : C ≤ B) (hb : Betw B' C w w') : OwnInts w' B v L := by
  obtain ⟨h1, a, cap, hv, h2⟩ := h
  refine ⟨h1, a, cap, hv, ?_⟩
  rcases h2 with h2 | ⟨g, off, ha, hB, hg, hc, hf⟩
  · exact .inl h2
  · have e := hb.block g (.inr (by omega))
    exact .inr ⟨g, off, ha, hB, by rw [hb.size]; exact hg, fun j hj => by rw [cell_of_heap (p := ⟨g, off + j, none⟩) e]; exact hc j hj, fun i hi => by rw [frozen_of_heap (p := ⟨g, off + i, none⟩) e]; exact hf i hi⟩
/-- an argument of a law is marked: what was made behind it stays -/
theorem markTsame (v : Value) (L : List Trm) (B : Nat) (k : Int) (w3 w : World) (h : OwnTrms w3 B v L) (hw : Same B w3 w) (hk0 : 0 ≤ k) (hk1 : k ≤ 1000000000000) :
    Calls Try.prog 14 #[v, .int .i64 k] w fun e w' => e = .returned (.int .i64 (k + 4 * (L.length : Int))) ∧ Betw B w3.heap.size w w' := by
  obtain ⟨h1, a, cap, rfl, h2⟩ := h
  rcases h2 with rfl | ⟨g, off, rfl, hB, hg, hc, hf⟩
  · refine (markTnil a cap k w).mono ?_
    rintro e w' ⟨rfl, rfl⟩
    exact ⟨by simp, rfl, rfl, rfl, rfl, fun _ _ => rfl⟩
  · have e := hw g hB hg
    refine (markT g off L.length cap k w h1 hk0 hk1 (fun i hi => ?_) (fun i hi => by rw [frozen_of_heap (p := ⟨g, off + i, none⟩) e]; exact hf i hi)).mono ?_
    · obtain ⟨t0, t1, t2, t3⟩ := hc (i / 4) (by omega)
      have ce : ∀ o, w.cell? ⟨g, o, none⟩ = w3.cell? ⟨g, o, none⟩ := fun o => cell_of_heap (p := ⟨g, o, none⟩) e
      have : i = i / 4 * 4 ∨ i = i / 4 * 4 + 1 ∨ i = i / 4 * 4 + 2 ∨ i = i / 4 * 4 + 3 := by omega
      rcases this with e | e | e | e
      · rw [e, ce]; exact ⟨_, t0⟩
      · rw [e, ← Nat.add_assoc, ce]; exact ⟨_, t1⟩
      · rw [e, ← Nat.add_assoc, ce]; exact ⟨_, t2⟩
      · rw [e, ← Nat.add_assoc, ce]; exact ⟨_, t3⟩
    · rintro e w' ⟨rfl, hM⟩
      exact ⟨rfl, hM.os, hM.tape, hM.output, hM.size, fun b hb => hM.far b (by omega)⟩
theorem bne_self2 (b : Bool) : (b != b) = false := by cases b <;> rfl
end Go.Proofs.Ytmndcdcjjihecaa
