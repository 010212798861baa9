/-
  Contracts of the model's ScalePoly. Conditions: what the slice holds is known.
  Contracts of the sum as a polynomial, and of both ScalePoly. Conditions: what the slice holds is known.
-/
import Derived.Test.YtfmpcniehgipfaaBd20
import Derived.Test.YtfmpcniehgipfaaBd9
import Derived.Test.YtfmpcniehgipfaaBd21
import Derived.Test.YtfmpcniehgipfaaBd18
namespace Go.Proofs.Ytfmpcniehgipfaa
open Go.RowKit
theorem new_cells (w : World) (x : Trm) : ∀ j u, x.cs[j]? = some u → (w.alloc (Obj.cells #[.int .i64 x.a, .int .i64 x.b, .int .i64 x.c, .int .i64 x.t] 91)).drew.cell? ((⟨w.heap.size, 0, none⟩ : Addr).add j) = some u := by
  intro j u hu
  rw [Addr.add_lit, Nat.zero_add]
  show (w.alloc _).cell? _ = _
  rw [cell_of_row _ _ _ _ _ _ (heap_alloc_new w _)]
  match j, hu with
  | 0, hu => simpa [Trm.cs] using hu
  | 1, hu => simpa [Trm.cs] using hu
  | 2, hu => simpa [Trm.cs] using hu
  | 3, hu => simpa [Trm.cs] using hu
  | j + 4, hu => simp [Trm.cs] at hu
theorem ownT_base {w : World} {B B' : Nat} {v : Value} {L : List Trm} (h : OwnTrms w B v L) (hB : B' ≤ B) : OwnTrms w B' v L := by
  obtain ⟨h1, a, cap, hv, h2⟩ := h
  refine ⟨h1, a, cap, hv, ?_⟩
  rcases h2 with h2 | ⟨g, off, ha, hb, r⟩
  · exact .inl h2
  · exact .inr ⟨g, off, ha, by omega, r⟩
def GivesTrmsS (L : List Trm) (w : World) (e : Ending) (w' : World) : Prop :=
  ∃ v, e = .returned v ∧ OwnTrms w' w.heap.size v L ∧ Below w.heap.size w w'
/-- what the model has of the first k terms -/
def sclS (p a : Int) (L : List Trm) (k : Nat) : List Trm := sclL p a (L.take k)
theorem sclS_succ {p a : Int} {L : List Trm} {k : Nat} (hk : k < L.length) (h0 : a ≠ 0) : sclS p a L (k + 1) = sclS p a L k ++ [sclT p a (L.getD k default)] := by
  unfold sclS sclL
  rw [if_neg h0, if_neg h0, List.take_succ_eq_append_getElem hk, List.map_append, List.map_singleton]
  simp [List.getD_eq_getElem?_getD, hk]
theorem sclS_zero {p : Int} {L : List Trm} {k : Nat} : sclS p 0 L k = [] := by simp [sclS, sclL]
theorem sclS_len {p a : Int} {L : List Trm} {k : Nat} : (sclS p a L k).length ≤ k := by
  unfold sclS sclL
  split <;> simp <;> omega
/-- what ScalePoly hands back, for all arguments -/
def sclV (p a : Int) (L : List Trm) : List Trm := if (isP p && validB p L) && isE p a then sclL p a L else []
end Go.Proofs.Ytfmpcniehgipfaa
namespace Go.Proofs.Ytfmpcniehgipfaa
open Go.RowKit
theorem PutTo.low {B S : Nat} {p : Int} {v : Value} {L L' : List Trm} {w w' : World} {e : Ending} (h : PutTo B S p v L' w e w') (hR : Row w B v L) (hS : B ≤ S) (hB : B ≤ w.heap.size) : Below B w w' := by
  obtain ⟨_, v', _, _, _, hk, _⟩ := h
  exact ⟨hk.os, hk.tape, hk.output, hk.size, fun k hk2 => hk.block k (by omega) (fun hn => by
    rcases hn with hn | hn
    · omega
    · have := (World.ownsRow.lt hR k hn).1; omega)⟩
set_option maxRecDepth 100000 in
set_option maxHeartbeats 4000000 in
theorem iPolyOf (S : Nat) (p : Int) (a : Option Addr) (cap : Nat) (L : List Trm) (w : World) (hS : SumW w S p (.slice a L.length cap)) (hT : Trms w (.slice a L.length cap) L) :
    Calls Try.prog 106 #[.pointer (some ⟨S, 0, none⟩)] w fun e w' => e = .returned (.tuple #[if (isP p && validB p L) = true then .slice a L.length cap else .slice none 0 0, .bool (isP p && validB p L)]) ∧ Below w.heap.size w w' := by
  have HF := Lib.hid (show ∀ w', Below w.heap.size w w' → (w'.cell? ⟨S, 0, none⟩ = some (.int .i64 p) ∧ w'.cell? ⟨S, 1, none⟩ = some (.slice a L.length cap)) ∧ Trms w' (.slice a L.length cap) L from fun w' hb => ⟨⟨(hS.below hb).c0, (hS.below hb).c1⟩, hT.below hb⟩)
  obtain ⟨r, hr⟩ : ∃ r, r = (isP p && validB p L) := ⟨_, rfl⟩
  rw [← hr]
  have HRR := Lib.hid hr
  clear hS hT hr
  cases r
  · go_enter Try.func106, Try.ntmps106
    go_wp2_with fail
    refine wp_region_below (by kernel_rfl) (by kernel_rfl) ?_
    (with_reducible refine wpQuiet_yes ?_ ?_; (focus (kernel_rfl)); intro K hK; go_simp; refine ⟨_, fun _ _ => rfl, ?_⟩; with_reducible refine hK _ ?_; clear hK K)
    (with_reducible refine wpQuiet_yes ?_ ?_; (focus (kernel_rfl)); intro K hK; go_simp; refine ⟨_, fun _ _ => rfl, ?_⟩; with_reducible refine hK _ ?_; clear hK K)
    (with_reducible refine wpQuiet_yes ?_ ?_; (focus (kernel_rfl)); intro K hK; go_simp; refine ⟨_, fun _ _ => rfl, ?_⟩; with_reducible refine hK _ ?_; clear hK K)
    (with_reducible refine wpQuiet_yes ?_ ?_; (focus (kernel_rfl)); intro K hK; go_simp; refine ⟨(.int .i64 p), ?_, ?_⟩; rotate_left; with_reducible refine hK _ ?_; clear hK K; rotate_left)
    · intro w' hw
      simp only [(HF.out w' hw).1.1, go_sem, Result.andThen, and_self]
    (with_reducible refine wpQuiet_yes ?_ ?_; (focus (kernel_rfl)); intro K hK; go_simp; refine ⟨_, fun _ _ => rfl, ?_⟩; with_reducible refine hK _ ?_; clear hK K)
    (with_reducible refine wpQuiet_yes ?_ ?_; (focus (kernel_rfl)); intro K hK; go_simp; refine ⟨_, fun _ _ => rfl, ?_⟩; with_reducible refine hK _ ?_; clear hK K)
    (with_reducible refine wpQuiet_yes ?_ ?_; (focus (kernel_rfl)); intro K hK; go_simp; refine ⟨_, fun _ _ => rfl, ?_⟩; with_reducible refine hK _ ?_; clear hK K)
    (with_reducible refine wpQuiet_yes ?_ ?_; (focus (kernel_rfl)); intro K hK; go_simp; refine ⟨(.slice a L.length cap), ?_, ?_⟩; rotate_left; with_reducible refine hK _ ?_; clear hK K; rotate_left)
    · intro w' hw
      simp only [(HF.out w' hw).1.2, go_sem, Result.andThen, and_self]
    (with_reducible refine wpQuiet_yes ?_ ?_; (focus (kernel_rfl)); intro K hK; go_simp; refine ⟨(.bool false), ?_, ?_⟩; rotate_left; with_reducible refine hK _ ?_; clear hK K; rotate_left)
    · intro w' hw
      exact (iPolyValid p _ L w' (HF.out w' hw).2).mono fun e w'' ⟨he, h⟩ => ⟨by rw [he, ← HRR.out], hw.trans (h.mono hw.size)⟩
    (with_reducible refine wpQuiet_yes ?_ ?_; (focus (kernel_rfl)); intro K hK; go_simp; refine ⟨_, fun _ _ => rfl, ?_⟩; with_reducible refine hK _ ?_; clear hK K)
    refine wpQuiet_nil fun w2 hb2 => ?_
    have q2 := (HF.out w2 hb2).1.2
    have Hb2 := Lib.hid hb2
    clear hb2
    simp only [Exit.then]
    go_wp2_with fail
    refine bodyPost_ret (v := .tuple #[.slice none 0 0, .bool false]) (by simp [results, Try.results106, go_sem]) rfl ⟨rfl, Hb2.out⟩
  · go_enter Try.func106, Try.ntmps106
    go_wp2_with fail
    refine wp_region_below (by kernel_rfl) (by kernel_rfl) ?_
    (with_reducible refine wpQuiet_yes ?_ ?_; (focus (kernel_rfl)); intro K hK; go_simp; refine ⟨_, fun _ _ => rfl, ?_⟩; with_reducible refine hK _ ?_; clear hK K)
    (with_reducible refine wpQuiet_yes ?_ ?_; (focus (kernel_rfl)); intro K hK; go_simp; refine ⟨_, fun _ _ => rfl, ?_⟩; with_reducible refine hK _ ?_; clear hK K)
    (with_reducible refine wpQuiet_yes ?_ ?_; (focus (kernel_rfl)); intro K hK; go_simp; refine ⟨_, fun _ _ => rfl, ?_⟩; with_reducible refine hK _ ?_; clear hK K)
    (with_reducible refine wpQuiet_yes ?_ ?_; (focus (kernel_rfl)); intro K hK; go_simp; refine ⟨(.int .i64 p), ?_, ?_⟩; rotate_left; with_reducible refine hK _ ?_; clear hK K; rotate_left)
    · intro w' hw
      simp only [(HF.out w' hw).1.1, go_sem, Result.andThen, and_self]
    (with_reducible refine wpQuiet_yes ?_ ?_; (focus (kernel_rfl)); intro K hK; go_simp; refine ⟨_, fun _ _ => rfl, ?_⟩; with_reducible refine hK _ ?_; clear hK K)
    (with_reducible refine wpQuiet_yes ?_ ?_; (focus (kernel_rfl)); intro K hK; go_simp; refine ⟨_, fun _ _ => rfl, ?_⟩; with_reducible refine hK _ ?_; clear hK K)
    (with_reducible refine wpQuiet_yes ?_ ?_; (focus (kernel_rfl)); intro K hK; go_simp; refine ⟨_, fun _ _ => rfl, ?_⟩; with_reducible refine hK _ ?_; clear hK K)
    (with_reducible refine wpQuiet_yes ?_ ?_; (focus (kernel_rfl)); intro K hK; go_simp; refine ⟨(.slice a L.length cap), ?_, ?_⟩; rotate_left; with_reducible refine hK _ ?_; clear hK K; rotate_left)
    · intro w' hw
      simp only [(HF.out w' hw).1.2, go_sem, Result.andThen, and_self]
    (with_reducible refine wpQuiet_yes ?_ ?_; (focus (kernel_rfl)); intro K hK; go_simp; refine ⟨(.bool true), ?_, ?_⟩; rotate_left; with_reducible refine hK _ ?_; clear hK K; rotate_left)
    · intro w' hw
      exact (iPolyValid p _ L w' (HF.out w' hw).2).mono fun e w'' ⟨he, h⟩ => ⟨by rw [he, ← HRR.out], hw.trans (h.mono hw.size)⟩
    (with_reducible refine wpQuiet_yes ?_ ?_; (focus (kernel_rfl)); intro K hK; go_simp; refine ⟨_, fun _ _ => rfl, ?_⟩; with_reducible refine hK _ ?_; clear hK K)
    refine wpQuiet_nil fun w2 hb2 => ?_
    have q2 := (HF.out w2 hb2).1.2
    have Hb2 := Lib.hid hb2
    clear hb2
    simp only [Exit.then]
    go_wp2_with fail
    refine bodyPost_ret (v := .tuple #[.slice a L.length cap, .bool true]) (by simp [results, Try.results106, go_sem]) rfl ⟨rfl, Hb2.out⟩
/-- the terms of the first k of a polynomial times an element, added -/
def sclK (p a : Int) (L : List Trm) (k : Nat) : List Trm := addAll p ((L.take k).map (sclT p a)) []
theorem addAll_srt {p : Int} : ∀ (xs L : List Trm), Srt L → Srt (addAll p xs L)
  | [], _, h => h
  | _ :: xs, _, h => addAll_srt xs _ (srt_addT h)
theorem addAll_els {p : Int} (hp : 0 < p) : ∀ (xs L : List Trm), (∀ x ∈ xs, 0 ≤ x.t ∧ x.t < p) → Els p L → Els p (addAll p xs L)
  | [], _, _, h => h
  | x :: xs, _, hx, h => addAll_els hp xs _ (fun y hy => hx y (by simp [hy])) (els_addT hp (hx x (by simp)) h)
theorem addAll_len {p : Int} : ∀ (xs L : List Trm), (addAll p xs L).length ≤ L.length + xs.length
  | [], _ => by simp [addAll]
  | x :: xs, L => by
    have h1 := addAll_len (p := p) xs (addT p x L)
    have h2 := len_addT (p := p) (x := x) (L := L)
    show (addAll p xs (addT p x L)).length ≤ _
    simp; omega
theorem scl_facts {p a : Int} {L : List Trm} (hp : isP p = true) (k : Nat) : Srt (sclK p a L k) ∧ Els p (sclK p a L k) ∧ (sclK p a L k).length ≤ k := by
  have hb := isP_bd hp
  refine ⟨addAll_srt _ _ List.Pairwise.nil, addAll_els (by omega) _ _ (fun x hx => ?_) (fun y hy => by cases hy), ?_⟩
  · obtain ⟨z, _, rfl⟩ := List.mem_map.1 hx
    exact emod_bd hb.1
  · have := addAll_len (p := p) ((L.take k).map (sclT p a)) []
    simp only [List.length_nil, List.length_map, List.length_take, Nat.zero_add] at this
    unfold sclK
    omega
theorem sclK_succ {p a : Int} {L : List Trm} {k : Nat} (hk : k < L.length) : sclK p a L (k + 1) = addT p (sclT p a (L.getD k default)) (sclK p a L k) := by
  unfold sclK
  rw [List.take_succ_eq_append_getElem hk, List.map_append, List.map_singleton, addAll_snoc]
  simp [List.getD_eq_getElem?_getD, hk]
end Go.Proofs.Ytfmpcniehgipfaa
