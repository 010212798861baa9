/-
  What the law on cut products says, of the contracts' values. Conditions: none.
-/
import Derived.Test.YtlidplmpglpkgaaBa31
import Derived.Test.YtlidplmpglpkgaaBa33
import Derived.Test.YtlidplmpglpkgaaBa27
namespace Go.Proofs.Ytlidplmpglpkgaa
open Go.RowKit
theorem filter_flat {α β : Type} {f : β → Bool} {g : α → List β} : ∀ {l : List α}, (l.flatMap g).filter f = l.flatMap fun x => (g x).filter f
  | [] => rfl
  | x :: r => by rw [List.flatMap_cons, List.filter_append, List.flatMap_cons, filter_flat]
theorem flat_filter {α β : Type} {q : α → Bool} {g : α → List β} : ∀ {l : List α}, (∀ x ∈ l, q x = false → g x = []) → (l.filter q).flatMap g = l.flatMap g
  | [], _ => rfl
  | x :: r, h => by
    have ih := flat_filter (q := q) (g := g) (l := r) fun y hy => h y (List.mem_cons_of_mem _ hy)
    rw [List.filter_cons]
    cases e : q x
    · rw [List.flatMap_cons, h x (List.mem_cons_self ..) e]
      simpa using ih
    · simp only [if_true]
      rw [List.flatMap_cons, List.flatMap_cons, ih]
theorem filter_map_filter {α β : Type} {q : α → Bool} {f : β → Bool} {g : α → β} : ∀ {l : List α}, (∀ x ∈ l, q x = false → f (g x) = false) → ((l.filter q).map g).filter f = (l.map g).filter f
  | [], _ => rfl
  | x :: r, h => by
    have ih := filter_map_filter (q := q) (f := f) (g := g) (l := r) fun y hy => h y (List.mem_cons_of_mem _ hy)
    rw [List.filter_cons]
    cases e : q x
    · rw [List.map_cons, List.filter_cons, h x (List.mem_cons_self ..) e]
      simpa using ih
    · simp only [if_true]
      rw [List.map_cons, List.map_cons, List.filter_cons, List.filter_cons, ih]
/-- cutting both factors before changes nothing -/
theorem cut_both {p k : Int} {L M : List Trm} (hL : validB p L = true) (hM : validB p M = true) : cutL k (prodT p (cutL k L) (cutL k M)) = cutL k (prodT p L M) := by
  unfold cutL fl prodT
  rw [filter_flat, filter_flat]
  rw [flat_filter]
  · refine fmap_congr fun x hx => filter_map_filter fun y hy hq => ?_
    obtain ⟨⟨a0, _⟩, ⟨b0, _⟩, ⟨c0, _⟩⟩ := validB_mem hL hx
    unfold upB at hq ⊢
    unfold mulTT
    simp only [decide_eq_false_iff_not] at hq ⊢
    omega
  · intro x hx hq
    refine List.filter_eq_nil_iff.2 fun z hz => ?_
    obtain ⟨y, hy, rfl⟩ := List.mem_map.1 hz
    obtain ⟨⟨a0, _⟩, ⟨b0, _⟩, ⟨c0, _⟩⟩ := validB_mem hM (List.mem_filter.1 hy).1
    unfold upB at hq ⊢
    unfold mulTT
    simp only [decide_eq_false_iff_not, decide_eq_true_eq] at hq ⊢
    omega
/-- all that the law of cut products asks -/
structure McF (p k : Int) (L M S A B : List Trm) : Prop where
  hp : isP p = true
  ca : cutV p k L = A
  cb : cutV p k M = B
  bo : mcL p k A B = S
  bb : mcOk p k A B = true
  wh : mulOk p L M = true → cutV p k (mulL p L M) = S
  dg : degV p S ≤ max k (-1)
theorem mcF {p k : Int} {L M : List Trm} (h : mcOk p k L M = true) : McF p k L M (mcL p k L M) (cutL k L) (cutL k M) := by
  have hS : mcL p k L M = mcR p k L M := by unfold mcL; rw [if_pos h]
  unfold mcOk at h
  simp only [Bool.and_eq_true] at h
  obtain ⟨⟨⟨hp, hL⟩, _, hM⟩, hV⟩ := h
  have e : mcR p k (cutL k L) (cutL k M) = mcR p k L M := by
    unfold mcR
    rw [cut_prod hp, cut_prod hp, cut_both hL hM]
  have vL : validB p (cutL k L) = true := fl_valid hL
  have vM : validB p (cutL k M) = true := fl_valid hM
  have ob : mcOk p k (cutL k L) (cutL k M) = true := by
    unfold mcOk
    rw [e, hp, vL, vM, hV]
    rfl
  rw [hS]
  refine ⟨hp, by unfold cutV; rw [hp, hL]; rfl, by unfold cutV; rw [hp, hM]; rfl, by unfold mcL; rw [if_pos ob, e], ob, fun hm => ?_, ?_⟩
  · obtain ⟨_, _, _, hv, hm⟩ := mulOk_is2 hm
    rw [hm]
    unfold cutV
    rw [hp, hv]
    rfl
  · unfold degV
    rw [hp, hV]
    simp only [Bool.and_self, if_true]
    rw [topK_deg]
    refine topK_le (by omega) (fun y hy => ?_) _ (Nat.le_refl _)
    have hq := (List.mem_filter.1 hy).2
    unfold upB at hq
    have := of_decide_eq_true hq
    unfold degT
    omega
end Go.Proofs.Ytlidplmpglpkgaa
