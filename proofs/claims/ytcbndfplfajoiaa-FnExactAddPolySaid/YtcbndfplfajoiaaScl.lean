/-
  Contracts of the sum as a polynomial, and of both ScalePoly. Conditions: what the slice holds is known.
-/
import Derived.Test.YtcbndfplfajoiaaPutN
import Derived.Test.YtcbndfplfajoiaaMulT
import Derived.Test.YtcbndfplfajoiaaSclM
import Derived.Test.YtcbndfplfajoiaaSclS
namespace Go.Proofs.Ytcbndfplfajoiaa
open Go.RowKit
theorem PutTo.low {B S : Nat} {p : Int} {v : Value} {L L' : List Trm} {w w' : World} {e : Ending} (h : PutTo B S p v L' w e w') (hR : Row w B v L) (hS : B ≤ S) (hB : B ≤ w.heap.size) : Below B w w' := by
  obtain ⟨_, v', _, _, _, hk, _⟩ := h
  exact ⟨hk.os, hk.tape, hk.output, hk.size, fun k hk2 => hk.block k (by omega) (fun hn => by
    rcases hn with hn | hn
    · omega
    · have := (World.ownsRow.lt hR k hn).1; omega)⟩
set_option maxRecDepth 100000 in
set_option maxHeartbeats 4000000 in
theorem iPolyOf (S : Nat) (p : Int) (a : Option Addr) (cap : Nat) (L : List Trm) (w : World) (hS : SumW w S p (.slice a L.length cap)) (hT : Trms w (.slice a L.length cap) L) :
    Calls Try.prog 79 #[.pointer (some ⟨S, 0, none⟩)] w fun e w' => e = .returned (.tuple #[if (isP p && validB p L) = true then .slice a L.length cap else .slice none 0 0, .bool (isP p && validB p L)]) ∧ Below w.heap.size w w' := by
  have HF := Lib.hid (show ∀ w', Below w.heap.size w w' → (w'.cell? ⟨S, 0, none⟩ = some (.int .i64 p) ∧ w'.cell? ⟨S, 1, none⟩ = some (.slice a L.length cap)) ∧ Trms w' (.slice a L.length cap) L from fun w' hb => ⟨⟨(hS.below hb).c0, (hS.below hb).c1⟩, hT.below hb⟩)
  obtain ⟨r, hr⟩ : ∃ r, r = (isP p && validB p L) := ⟨_, rfl⟩
  rw [← hr]
  have HRR := Lib.hid hr
  clear hS hT hr
  cases r
  · go_enter Try.func79, Try.ntmps79
    go_wp2_with fail
    refine wp_region_below (by kernel_rfl) (by kernel_rfl) ?_
    (with_reducible refine wpQuiet_yes ?_ ?_; (focus (kernel_rfl)); intro K hK; go_simp; refine ⟨_, fun _ _ => rfl, ?_⟩; with_reducible refine hK _ ?_; clear hK K)
    (with_reducible refine wpQuiet_yes ?_ ?_; (focus (kernel_rfl)); intro K hK; go_simp; refine ⟨_, fun _ _ => rfl, ?_⟩; with_reducible refine hK _ ?_; clear hK K)
    (with_reducible refine wpQuiet_yes ?_ ?_; (focus (kernel_rfl)); intro K hK; go_simp; refine ⟨_, fun _ _ => rfl, ?_⟩; with_reducible refine hK _ ?_; clear hK K)
    (with_reducible refine wpQuiet_yes ?_ ?_; (focus (kernel_rfl)); intro K hK; go_simp; refine ⟨(.int .i64 p), ?_, ?_⟩; rotate_left; with_reducible refine hK _ ?_; clear hK K; rotate_left)
    · intro w' hw
      simp only [(HF.out w' hw).1.1, go_sem, Result.andThen, and_self]
    (with_reducible refine wpQuiet_yes ?_ ?_; (focus (kernel_rfl)); intro K hK; go_simp; refine ⟨_, fun _ _ => rfl, ?_⟩; with_reducible refine hK _ ?_; clear hK K)
    (with_reducible refine wpQuiet_yes ?_ ?_; (focus (kernel_rfl)); intro K hK; go_simp; refine ⟨_, fun _ _ => rfl, ?_⟩; with_reducible refine hK _ ?_; clear hK K)
    (with_reducible refine wpQuiet_yes ?_ ?_; (focus (kernel_rfl)); intro K hK; go_simp; refine ⟨_, fun _ _ => rfl, ?_⟩; with_reducible refine hK _ ?_; clear hK K)
    (with_reducible refine wpQuiet_yes ?_ ?_; (focus (kernel_rfl)); intro K hK; go_simp; refine ⟨(.slice a L.length cap), ?_, ?_⟩; rotate_left; with_reducible refine hK _ ?_; clear hK K; rotate_left)
    · intro w' hw
      simp only [(HF.out w' hw).1.2, go_sem, Result.andThen, and_self]
    (with_reducible refine wpQuiet_yes ?_ ?_; (focus (kernel_rfl)); intro K hK; go_simp; refine ⟨(.bool false), ?_, ?_⟩; rotate_left; with_reducible refine hK _ ?_; clear hK K; rotate_left)
    · intro w' hw
      exact (iPolyValid p _ L w' (HF.out w' hw).2).mono fun e w'' ⟨he, h⟩ => ⟨by rw [he, ← HRR.out], hw.trans (h.mono hw.size)⟩
    (with_reducible refine wpQuiet_yes ?_ ?_; (focus (kernel_rfl)); intro K hK; go_simp; refine ⟨_, fun _ _ => rfl, ?_⟩; with_reducible refine hK _ ?_; clear hK K)
    refine wpQuiet_nil fun w2 hb2 => ?_
    have q2 := (HF.out w2 hb2).1.2
    have Hb2 := Lib.hid hb2
    clear hb2
    simp only [Exit.then]
    go_wp2_with fail
    refine bodyPost_ret (v := .tuple #[.slice none 0 0, .bool false]) (by simp [results, Try.results79, go_sem]) rfl ⟨rfl, Hb2.out⟩
  · go_enter Try.func79, Try.ntmps79
    go_wp2_with fail
    refine wp_region_below (by kernel_rfl) (by kernel_rfl) ?_
    (with_reducible refine wpQuiet_yes ?_ ?_; (focus (kernel_rfl)); intro K hK; go_simp; refine ⟨_, fun _ _ => rfl, ?_⟩; with_reducible refine hK _ ?_; clear hK K)
    (with_reducible refine wpQuiet_yes ?_ ?_; (focus (kernel_rfl)); intro K hK; go_simp; refine ⟨_, fun _ _ => rfl, ?_⟩; with_reducible refine hK _ ?_; clear hK K)
    (with_reducible refine wpQuiet_yes ?_ ?_; (focus (kernel_rfl)); intro K hK; go_simp; refine ⟨_, fun _ _ => rfl, ?_⟩; with_reducible refine hK _ ?_; clear hK K)
    (with_reducible refine wpQuiet_yes ?_ ?_; (focus (kernel_rfl)); intro K hK; go_simp; refine ⟨(.int .i64 p), ?_, ?_⟩; rotate_left; with_reducible refine hK _ ?_; clear hK K; rotate_left)
    · intro w' hw
      simp only [(HF.out w' hw).1.1, go_sem, Result.andThen, and_self]
    (with_reducible refine wpQuiet_yes ?_ ?_; (focus (kernel_rfl)); intro K hK; go_simp; refine ⟨_, fun _ _ => rfl, ?_⟩; with_reducible refine hK _ ?_; clear hK K)
    (with_reducible refine wpQuiet_yes ?_ ?_; (focus (kernel_rfl)); intro K hK; go_simp; refine ⟨_, fun _ _ => rfl, ?_⟩; with_reducible refine hK _ ?_; clear hK K)
    (with_reducible refine wpQuiet_yes ?_ ?_; (focus (kernel_rfl)); intro K hK; go_simp; refine ⟨_, fun _ _ => rfl, ?_⟩; with_reducible refine hK _ ?_; clear hK K)
    (with_reducible refine wpQuiet_yes ?_ ?_; (focus (kernel_rfl)); intro K hK; go_simp; refine ⟨(.slice a L.length cap), ?_, ?_⟩; rotate_left; with_reducible refine hK _ ?_; clear hK K; rotate_left)
    · intro w' hw
      simp only [(HF.out w' hw).1.2, go_sem, Result.andThen, and_self]
    (with_reducible refine wpQuiet_yes ?_ ?_; (focus (kernel_rfl)); intro K hK; go_simp; refine ⟨(.bool true), ?_, ?_⟩; rotate_left; with_reducible refine hK _ ?_; clear hK K; rotate_left)
    · intro w' hw
      exact (iPolyValid p _ L w' (HF.out w' hw).2).mono fun e w'' ⟨he, h⟩ => ⟨by rw [he, ← HRR.out], hw.trans (h.mono hw.size)⟩
    (with_reducible refine wpQuiet_yes ?_ ?_; (focus (kernel_rfl)); intro K hK; go_simp; refine ⟨_, fun _ _ => rfl, ?_⟩; with_reducible refine hK _ ?_; clear hK K)
    refine wpQuiet_nil fun w2 hb2 => ?_
    have q2 := (HF.out w2 hb2).1.2
    have Hb2 := Lib.hid hb2
    clear hb2
    simp only [Exit.then]
    go_wp2_with fail
    refine bodyPost_ret (v := .tuple #[.slice a L.length cap, .bool true]) (by simp [results, Try.results79, go_sem]) rfl ⟨rfl, Hb2.out⟩
/-- the terms of the first k of a polynomial times an element, added -/
def sclK (p a : Int) (L : List Trm) (k : Nat) : List Trm := addAll p ((L.take k).map (sclT p a)) []
theorem addAll_srt {p : Int} : ∀ (xs L : List Trm), Srt L → Srt (addAll p xs L)
  | [], _, h => h
  | _ :: xs, _, h => addAll_srt xs _ (srt_addT h)
theorem addAll_els {p : Int} (hp : 0 < p) : ∀ (xs L : List Trm), (∀ x ∈ xs, 0 ≤ x.t ∧ x.t < p) → Els p L → Els p (addAll p xs L)
  | [], _, _, h => h
  | x :: xs, _, hx, h => addAll_els hp xs _ (fun y hy => hx y (by simp [hy])) (els_addT hp (hx x (by simp)) h)
theorem addAll_len {p : Int} : ∀ (xs L : List Trm), (addAll p xs L).length ≤ L.length + xs.length
  | [], _ => by simp [addAll]
  | x :: xs, L => by
    have h1 := addAll_len (p := p) xs (addT p x L)
    have h2 := len_addT (p := p) (x := x) (L := L)
    show (addAll p xs (addT p x L)).length ≤ _
    simp; omega
theorem scl_facts {p a : Int} {L : List Trm} (hp : isP p = true) (k : Nat) : Srt (sclK p a L k) ∧ Els p (sclK p a L k) ∧ (sclK p a L k).length ≤ k := by
  have hb := isP_bd hp
  refine ⟨addAll_srt _ _ List.Pairwise.nil, addAll_els (by omega) _ _ (fun x hx => ?_) (fun y hy => by cases hy), ?_⟩
  · obtain ⟨z, _, rfl⟩ := List.mem_map.1 hx
    exact emod_bd hb.1
  · have := addAll_len (p := p) ((L.take k).map (sclT p a)) []
    simp only [List.length_nil, List.length_map, List.length_take, Nat.zero_add] at this
    unfold sclK
    omega
theorem sclK_succ {p a : Int} {L : List Trm} {k : Nat} (hk : k < L.length) : sclK p a L (k + 1) = addT p (sclT p a (L.getD k default)) (sclK p a L k) := by
  unfold sclK
  rw [List.take_succ_eq_append_getElem hk, List.map_append, List.map_singleton, addAll_snoc]
  simp [List.getD_eq_getElem?_getD, hk]
set_option maxRecDepth 100000 in
set_option maxHeartbeats 8000000 in
theorem iScale_some (p : Int) (g off cap : Nat) (L : List Trm) (a : Int) (w : World) (hp : isP p = true) (hV : validB p L = true) (ha : isE p a = true) (hg : g < w.heap.size)
    (hc : ∀ j : Nat, j < L.length → TAt w g (off + j * 4) (L.getD j default)) :
    Calls Try.prog 35 #[.int .i64 p, .slice (some ⟨g, off, none⟩) L.length cap, .int .i64 a] w (GivesPB (sclL p a L) true w) := by
  have hl := validB_len hV
  have HB := Lib.hid (show ∀ w', Below w.heap.size w w' → Calls Try.prog 89 #[.int .i64 p, .slice (some ⟨g, off, none⟩) L.length cap] w' fun e w'' => e = .returned (.bool true) ∧ Below w'.heap.size w' w'' from
    fun w' hb => (iPolyValid p _ L w' ⟨by omega, _, cap, rfl, .inr ⟨g, off, rfl, Nat.lt_of_lt_of_le hg hb.size, fun j hj => (hc j hj).below hb hg⟩⟩).mono fun e w'' h => by rw [hp, hV] at h; exact h)
  have HC := Lib.hid hc
  have HV := Lib.hid hV
  have HP := Lib.hid hp
  have HA := Lib.hid ha
  clear hc hV hp ha
  go_enter Try.func35, Try.ntmps35
  go_wp2_with fail
  refine (HB.out _ (Below.refl _ _)).mono ?_
  rintro e w1 ⟨rfl, hb1⟩
  have H1 := Lib.hid hb1
  clear hb1
  go_wp2_with (go_at_call 90; refine (iAE1_is true p a HP.out HA.out _ _ (by simp)).mono ?_; rintro e w2 ⟨rfl, rfl⟩)
  obtain ⟨W, hW⟩ : ∃ W, W = (w1.alloc (Obj.cells #[.int .i64 a] 3)).alloc (Obj.cells #[.int .i64 p, .slice none 0 0] 79) := ⟨_, rfl⟩
  have HW := Lib.hid (show SumW W (w1.heap.size + 1) p (.slice none 0 0) ∧ Below w.heap.size w W ∧ w.heap.size ≤ w1.heap.size by
    have h1 := H1.out.size
    rw [hW]
    refine ⟨⟨by simp [go_sem], by simp [go_sem], World.frozen?_alloc_at (w := w1.alloc _) _ _ _ 0 (by simp), World.frozen?_alloc_at (w := w1.alloc _) _ _ _ 1 (by simp), by simp⟩, Below.alloc (Below.alloc H1.out h1 _) (by simp; omega) _, h1⟩)
  rw [← hW]
  clear hW
  obtain ⟨S, hSe⟩ : ∃ S, S = w1.heap.size + 1 := ⟨_, rfl⟩
  rw [← hSe] at HW ⊢
  have hSB : w.heap.size ≤ S := by have := HW.out.2.2; omega
  clear hSe
  go_loopw [26] (fun i wr => ∃ (k : Nat) (v : Value), k ≤ L.length ∧ i = .int .i64 k ∧ SumW wr S p v ∧ Row wr w.heap.size v (sclK p a L k) ∧ v.ownBlock ≠ some S ∧ Below w.heap.size w wr) (fun i _ => L.length - (intOf i).toNat)
  case atStart => exact ⟨0, _, by omega, rfl, HW.out.1, Row.nil _ _, by simp [Value.ownBlock], HW.out.2.1⟩
  case round =>
    clear HW
    obtain ⟨k, v, hk, rfl, hS, hR, hv, hb⟩ := hrel
    by_cases hlt : k < L.length
    · have hltp : (k : Int) < (L.length : Int) := by omega
      have hk0 : (0 : Int) ≤ (k : Int) := by omega
      obtain ⟨a0, a1, a2, a3⟩ := (HC.out k hlt).below hb hg
      obtain ⟨x, hx⟩ : ∃ x, x = L.getD k default := ⟨_, rfl⟩
      rw [← hx] at a0 a1 a2 a3
      have hpw := validB_pows HV.out hlt hx
      have hel := validB_el HV.out hlt hx
      have HM := Lib.hid (fun w => by
        have := iMulT p x ⟨0, 0, 0, a⟩ w hpw ⟨⟨Int.le_refl 0, (by decide : (0 : Int) ≤ 9)⟩, ⟨Int.le_refl 0, (by decide : (0 : Int) ≤ 9)⟩, ⟨Int.le_refl 0, (by decide : (0 : Int) ≤ 9)⟩⟩
        simp only [Int.add_zero] at this
        rw [mulV_is HP.out (isE_iff.2 (by omega)) HA.out] at this
        exact this)
      have HXK := Lib.hid (show addT p (sclT p a x) (sclK p a L k) = sclK p a L (k + 1) by rw [hx, ← sclK_succ hlt])
      have HS := Lib.hid hS
      have HR := Lib.hid hR
      have HV2 := Lib.hid hv
      have Hb := Lib.hid hb
      clear hx hS hR hv hb hpw hel
      go_wp2_with fail
      refine (HM.out _).mono ?_
      rintro e w3 ⟨rfl, hb3⟩
      have Hr := Lib.hid ((Below.alloc (Below.refl _ _) (Nat.le_refl _) (Obj.cells #[.int .i64 x.a, .int .i64 x.b, .int .i64 x.c, .int .i64 x.t] 71)).trans (hb3.mono (by simp)))
      have H3 := Lib.hid (Hb.out.trans (Hr.out.mono Hb.out.size))
      clear hb3
      go_wp2_with fail
      have hf := scl_facts (a := a) (L := L) HP.out k
      have hpb := isP_bd HP.out
      refine (iPut w.heap.size S p v (sclK p a L k) (sclT p a x) w3 (HS.out.below Hr.out) (HR.out.below Hr.out) H3.out.size HP.out hf.1 hf.2.1 (isE_iff.2 (emod_bd hpb.1)) (by omega) HV2.out).mono ?_
      rintro e w4 hP4
      have hlow := hP4.low (HR.out.below Hr.out) hSB H3.out.size
      obtain ⟨rfl, v', hS', hR', hv', _, _⟩ := hP4
      rw [HXK.out] at hR'
      have HQ := Lib.hid (And.intro hS' (And.intro hR' (And.intro hv' (H3.out.trans hlow))))
      clear hS' hR' hv' hlow hf hpb
      go_wp2_with fail
      go_roundw
      case rel => exact ⟨k + 1, v', by omega, by go_num, HQ.out.1, HQ.out.2.1, HQ.out.2.2.1, HQ.out.2.2.2⟩
      case measure => simp [intOf]; omega
    · have hkl : k = L.length := by omega
      subst hkl
      have hf := scl_facts (a := a) (L := L) HP.out L.length
      have hown := hR.own (by omega)
      have e1 : sclK p a L L.length = sclL p a L := by
        have := scl_addAll HP.out HA.out (validB_srt HV.out) (validB_els HV.out) L.length (Nat.le_refl _)
        unfold sclK
        rw [this, List.take_length]
      rw [e1] at hown
      obtain ⟨hl2, ao, cap2, rfl, _⟩ := hown.trms
      have HO := Lib.hid hown
      have HS := Lib.hid hS
      have Hb := Lib.hid hb
      have HVV := Lib.hid (scl_valid HP.out HA.out HV.out)
      clear hown hS hb hR hf e1 hv
      go_wp2_with fail
      refine (iPolyOf S p ao cap2 (sclL p a L) _ HS.out HO.out.trms).mono ?_
      rintro e w5 ⟨rfl, hb5⟩
      rw [HVV.out, HP.out]
      have H5 := Lib.hid (And.intro (HO.out.below hb5) (Hb.out.trans (hb5.mono Hb.out.size)))
      clear hb5
      go_wp2_with fail
      refine bodyPost_ret (v := .tuple #[.slice ao (sclL p a L).length cap2, .bool true]) (by simp [results, Try.results35, go_sem]) rfl ⟨_, rfl, H5.out.1, H5.out.2⟩
set_option maxHeartbeats 4000000 in
theorem iScale_nil (p : Int) (b : Option Addr) (cap : Nat) (a : Int) (w : World) (hp : isP p = true) (ha : isE p a = true) :
    Calls Try.prog 35 #[.int .i64 p, .slice b 0 cap, .int .i64 a] w (GivesPB [] true w) := by
  have HB := Lib.hid (show ∀ w', Calls Try.prog 89 #[.int .i64 p, .slice b 0 cap] w' fun e w'' => e = .returned (.bool true) ∧ Below w'.heap.size w' w'' from
    fun w' => (iPolyValid p _ [] w' ⟨by simp, _, cap, rfl, .inl rfl⟩).mono fun e w'' h => by rw [hp] at h; exact h)
  have HP := Lib.hid hp
  have HA := Lib.hid ha
  clear hp ha
  go_enter Try.func35, Try.ntmps35
  go_wp2_with fail
  refine (HB.out _).mono ?_
  rintro e w1 ⟨rfl, hb1⟩
  have H1 := Lib.hid hb1
  clear hb1
  go_wp2_with (go_at_call 90; refine (iAE1_is true p a HP.out HA.out _ _ (by simp)).mono ?_; rintro e w2 ⟨rfl, rfl⟩)
  obtain ⟨W, hW⟩ : ∃ W, W = (w1.alloc (Obj.cells #[.int .i64 a] 3)).alloc (Obj.cells #[.int .i64 p, .slice none 0 0] 79) := ⟨_, rfl⟩
  have HW := Lib.hid (show SumW W (w1.heap.size + 1) p (.slice none 0 0) ∧ Below w.heap.size w W ∧ w.heap.size ≤ w1.heap.size by
    have h1 := H1.out.size
    rw [hW]
    refine ⟨⟨by simp [go_sem], by simp [go_sem], World.frozen?_alloc_at (w := w1.alloc _) _ _ _ 0 (by simp), World.frozen?_alloc_at (w := w1.alloc _) _ _ _ 1 (by simp), by simp⟩, Below.alloc (Below.alloc H1.out h1 _) (by simp; omega) _, h1⟩)
  rw [← hW]
  clear hW
  go_loop [26] (fun i => i = .int .i64 0) (fun _ => 0)
  case atStart => rfl
  case round =>
    obtain rfl := hrel
    go_wp2_with fail
    refine (iPolyOf (w1.heap.size + 1) p none 0 [] _ HW.out.1 ⟨by simp, _, 0, rfl, .inl rfl⟩).mono ?_
    rintro e w5 ⟨rfl, hb5⟩
    rw [validB_nil, HP.out]
    have H5 := Lib.hid (HW.out.2.1.trans (hb5.mono HW.out.2.1.size))
    clear hb5
    go_wp2_with fail
    refine bodyPost_ret (v := .tuple #[.slice none 0 0, .bool true]) (by simp [results, Try.results35, go_sem]) rfl ⟨_, rfl, ⟨by simp, none, 0, rfl, .inl rfl⟩, H5.out⟩
set_option maxHeartbeats 4000000 in
theorem iScale_no (p : Int) (f : Value) (L : List Trm) (a : Int) (w : World) (h : Trms w f L) (hn : ((isP p && validB p L) && isE p a) = false) :
    Calls Try.prog 35 #[.int .i64 p, f, .int .i64 a] w (GivesPB [] false w) := by
  have HB := Lib.hid (show Calls Try.prog 89 #[.int .i64 p, f] w fun e w'' => e = .returned (.bool (isP p && validB p L)) ∧ Below w.heap.size w w'' from iPolyValid p f L w h)
  cases hv : (isP p && validB p L)
  · have HV := Lib.hid hv
    clear hv h hn
    go_enter Try.func35, Try.ntmps35
    go_wp2_with fail
    refine HB.out.mono ?_
    rintro e w1 ⟨rfl, hb1⟩
    rw [HV.out]
    go_wp2_with fail
    refine bodyPost_ret (v := .tuple #[.slice none 0 0, .bool false]) (by simp [results, Try.results35, go_sem]) rfl ⟨_, rfl, ⟨by simp, none, 0, rfl, .inl rfl⟩, hb1⟩
  · have HV := Lib.hid hv
    have HP := Lib.hid (show isP p = true by simp only [Bool.and_eq_true] at hv; exact hv.1)
    have HA := Lib.hid (show isE p a = false by rw [hv, Bool.true_and] at hn; exact hn)
    clear hv h hn
    go_enter Try.func35, Try.ntmps35
    go_wp2_with fail
    refine HB.out.mono ?_
    rintro e w1 ⟨rfl, hb1⟩
    rw [HV.out]
    go_wp2_with (go_at_call 90; refine (iAE1_is false p a HP.out HA.out _ _ (by simp)).mono ?_; rintro e w2 ⟨rfl, rfl⟩)
    refine bodyPost_ret (v := .tuple #[.slice none 0 0, .bool false]) (by simp [results, Try.results35, go_sem]) rfl ⟨_, rfl, ⟨by simp, none, 0, rfl, .inl rfl⟩, Below.alloc hb1 hb1.size _⟩
theorem iScalePoly (p : Int) (f : Value) (L : List Trm) (a : Int) (w : World) (h : Trms w f L) :
    Calls Try.prog 35 #[.int .i64 p, f, .int .i64 a] w (GivesPB (sclV p a L) ((isP p && validB p L) && isE p a) w) := by
  unfold sclV
  cases hn : ((isP p && validB p L) && isE p a)
  · exact iScale_no p f L a w h hn
  · have hn2 := hn
    simp only [Bool.and_eq_true] at hn2
    obtain ⟨⟨hp, hV⟩, ha⟩ := hn2
    obtain ⟨hl, b, cap, rfl, h2⟩ := h
    rcases h2 with rfl | ⟨g, off, rfl, hg, hc⟩
    · have : sclL p a [] = [] := by unfold sclL; split <;> rfl
      simp only [if_true, this]
      exact iScale_nil p b cap a w hp ha
    · exact iScale_some p g off cap L a w hp hV ha hg hc
end Go.Proofs.Ytcbndfplfajoiaa
