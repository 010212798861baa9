/-
  Contracts of the model's l3Moved and JoinCircuits. Conditions: what the slices hold is known.
-/
import Derived.Test.YtlidplmpglpkgaaBa12
import Derived.Test.YtlidplmpglpkgaaBe2
namespace Go.Proofs.Ytlidplmpglpkgaa
open Go.RowKit
/-- a gate whose parts lie so many gates further on -/
def movG (n : Int) (x : Gt) : Gt := if joinsB x then ⟨x.k, x.a + n, x.b + n⟩ else x
/-- the gates of two circuits and the gate that joins them -/
def joinL (L M : List Gt) (k : Int) : List Gt := L ++ M.map (movG L.length) ++ [⟨k, L.length - 1, L.length + M.length - 1⟩]
def joinB (p : Int) (L M : List Gt) (k : Int) : Bool := (circB p L && circB p M) && (inB k 2 3 && decide (L.length + M.length < 60))
def joinV (p : Int) (L M : List Gt) (k : Int) : List Gt := if joinB p L M k then joinL L M k else []
theorem flat_read {w : World} {g off : Nat} {L : List Gt} (hc : ∀ j : Nat, j < L.length → GAt w g (off + j * 3) (L.getD j default)) :
    ∀ (i : Nat) (u : Value), (flatG L)[i]? = some u → w.cell? ⟨g, off + i, none⟩ = some u := by
  intro i u hu
  have hi : i < (flatG L).length := by
    rcases Nat.lt_or_ge i (flatG L).length with h | h
    · exact h
    · rw [List.getElem?_eq_none h] at hu; cases hu
  rw [flatG_len] at hi
  have hj : i / 3 < L.length := by omega
  have hd : i % 3 < 3 := by omega
  have e : i = i / 3 * 3 + i % 3 := by omega
  rw [e, flatG_at L (i / 3) (i % 3) hj hd] at hu
  obtain ⟨h0, h1, h2⟩ := hc (i / 3) hj
  have : i % 3 = 0 ∨ i % 3 = 1 ∨ i % 3 = 2 := by omega
  rcases this with h | h | h
  · rw [h] at hu; simp [Gt.cs] at hu; subst hu
    rw [show off + i = off + i / 3 * 3 by omega]; exact h0
  · rw [h] at hu; simp [Gt.cs] at hu; subst hu
    rw [show off + i = off + i / 3 * 3 + 1 by omega]; exact h1
  · rw [h] at hu; simp [Gt.cs] at hu; subst hu
    rw [show off + i = off + i / 3 * 3 + 2 by omega]; exact h2
theorem flatG_all : ∀ (L : List Gt) (u : Value), u ∈ flatG L → u.oneCell' = true := flatG_cell
theorem take_snoc {L : List Gt} {k : Nat} (h : k < L.length) (f : Gt → Gt) : (L.map f).take (k + 1) = (L.map f).take k ++ [f (L.getD k default)] := by
  rw [List.take_succ_eq_append_getElem (by simpa using h)]
  simp [List.getD_eq_getElem?_getD, h]
theorem joinB_iff {p k : Int} {L M : List Gt} : joinB p L M k = true ↔ circB p L = true ∧ circB p M = true ∧ (k = 2 ∨ k = 3) ∧ L.length + M.length < 60 := by
  unfold joinB inB
  simp only [Bool.and_eq_true, decide_eq_true_eq]
  constructor
  · rintro ⟨⟨h1, h2⟩, ⟨h3, h4⟩, h5⟩; exact ⟨h1, h2, by omega, h5⟩
  · rintro ⟨h1, h2, h3, h4⟩; exact ⟨⟨h1, h2⟩, ⟨by omega, by omega⟩, h4⟩
theorem gats_some {p : Int} {w : World} {v : Value} {L : List Gt} (h : Gats w v L) (hv : circB p L = true) :
    ∃ g off cap, v = .slice (some ⟨g, off, none⟩) L.length cap ∧ g < w.heap.size ∧ ∀ j : Nat, j < L.length → GAt w g (off + j * 3) (L.getD j default) := by
  obtain ⟨_, a, cap, rfl, h2⟩ := h
  rcases h2 with rfl | ⟨g, off, rfl, hg, hc⟩
  · have := (circB_iff.1 hv).2.1; simp at this
  · exact ⟨g, off, cap, rfl, hg, hc⟩
theorem addr_add (g o j : Nat) : (⟨g, o, none⟩ : Addr).add j = ⟨g, o + j, none⟩ := by simp [Addr.add]
theorem RowGt.read {w : World} {B g n cap : Nat} {L : List Gt} (h : RowGt w B (.slice (some ⟨g, 0, none⟩) n cap) L) : ∀ (i : Nat) (u : Value), (flatG L)[i]? = some u → w.cell? ((⟨g, 0, none⟩ : Addr).add i) = some u := by
  intro i u hu
  have hn : n = L.length := by
    rcases h.shape with ⟨e, _⟩ | ⟨g', cap', e, _⟩
    · cases e
    · injection e
  subst hn
  have := flat_read (off := 0) (fun j hj => by rw [Nat.zero_add]; exact RowGt.tat h rfl hj) i u hu
  rw [addr_add]; exact this
end Go.Proofs.Ytlidplmpglpkgaa
