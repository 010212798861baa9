/-
  Terms times what their degrees have, of the program: EulerPoly and ScaleUnknowns. Conditions: what the slice holds is known.
  The walk of the exact law of EulerPoly. Conditions: none but that the slices read as lists.
  The walk of the exact law of ScaleUnknowns. Conditions: none but that the slices read as lists.
-/
import Derived.Test.YtbgcamkclbcaiaaBa24
import Derived.Test.YtbgcamkclbcaiaaBa21
import Derived.Test.YtbgcamkclbcaiaaBa15
namespace Go.Proofs.Ytbgcamkclbcaiaa
open Go.RowKit
/-- what hangs on the degree alone -/
def hOf (H : Int → Int) (x : Trm) : Int := H (degT x)
theorem tm_same {p : Int} {h g : Trm → Int} {L : List Trm} (e : ∀ x ∈ L, x.t * h x % p = x.t * g x % p) : tmL p h L = tmL p g L := by
  unfold tmL
  congr 1
  apply List.map_congr_left
  intro x hx
  unfold tmT
  rw [e x hx]
set_option maxRecDepth 100000 in
set_option maxHeartbeats 8000000 in
theorem iTimesE_some (p : Int) (g off cap : Nat) (L : List Trm) (H : Int → Int) (m0 : Nat) (w : World) (hp : isP p = true) (hV : validB p L = true) (hg : g < w.heap.size)
    (hc : ∀ j : Nat, j < L.length → TAt w g (off + j * 4) (L.getD j default))
    (hH : ∀ w', Below w.heap.size w w' → ∀ d, 0 ≤ d → d ≤ 27 → Calls Try.prog 107 #[.int .i64 d, .pointer (some ⟨m0, 0, none⟩)] w' fun e w'' => e = .returned (.int .i64 (H d)) ∧ Below w'.heap.size w' w'')
    (hE : ∀ d, 0 ≤ d → d ≤ 27 → isE p (H d) = true) :
    Calls Try.prog 106 #[.int .i64 p, .slice (some ⟨g, off, none⟩) L.length cap, .func (.func 107) #[] #[.pointer (some ⟨m0, 0, none⟩)]] w (GivesPB (tmL p (hOf H) L) true w) := by
  have hl := validB_len hV
  have HB := Lib.hid (show ∀ w', Below w.heap.size w w' → Calls Try.prog 116 #[.int .i64 p, .slice (some ⟨g, off, none⟩) L.length cap] w' fun e w'' => e = .returned (.bool true) ∧ Below w'.heap.size w' w'' from
    fun w' hb => (iPolyValid p _ L w' ⟨by omega, _, cap, rfl, .inr ⟨g, off, rfl, Nat.lt_of_lt_of_le hg hb.size, fun j hj => (hc j hj).below hb hg⟩⟩).mono fun e w'' h => by rw [hp, hV] at h; exact h)
  have HC := Lib.hid hc
  have HV := Lib.hid hV
  have HP := Lib.hid hp
  have HH := Lib.hid hH
  have HE := Lib.hid hE
  clear hc hV hp hH hE
  go_enter Try.func106, Try.ntmps106
  go_wp2_with fail
  refine (HB.out _ (Below.refl _ _)).mono ?_
  rintro e w1 ⟨rfl, hb1⟩
  have H1 := Lib.hid hb1
  clear hb1
  go_wp2_with fail
  obtain ⟨W, hW⟩ : ∃ W, W = w1.alloc (Obj.cells #[.int .i64 p, .slice none 0 0] 93) := ⟨_, rfl⟩
  have HW := Lib.hid (show SumW W w1.heap.size p (.slice none 0 0) ∧ Below w.heap.size w W ∧ w.heap.size ≤ w1.heap.size by
    have h1 := H1.out.size
    rw [hW]
    refine ⟨⟨by simp [go_sem], by simp [go_sem], World.frozen?_alloc_at _ _ _ 0 rfl, World.frozen?_alloc_at _ _ _ 1 rfl, by simp⟩, Below.alloc H1.out h1 _, h1⟩)
  rw [← hW]
  clear hW
  obtain ⟨S, hSe⟩ : ∃ S, S = w1.heap.size := ⟨_, rfl⟩
  rw [← hSe] at HW ⊢
  have hSB : w.heap.size ≤ S := by have := HW.out.2.2; omega
  clear hSe
  go_loopw [19] (fun i wr => ∃ (k : Nat) (v : Value), k ≤ L.length ∧ i = .int .i64 k ∧ SumW wr S p v ∧ Row wr w.heap.size v (tmK p (hOf H) L k) ∧ v.ownBlock ≠ some S ∧ Below w.heap.size w wr) (fun i _ => L.length - (intOf i).toNat)
  case atStart => exact ⟨0, _, by omega, rfl, HW.out.1, Row.nil _ _, by simp [Value.ownBlock], HW.out.2.1⟩
  case round =>
    clear HW
    obtain ⟨k, v, hk, rfl, hS, hR, hv, hb⟩ := hrel
    by_cases hlt : k < L.length
    · have hltp : (k : Int) < (L.length : Int) := by omega
      have hk0 : (0 : Int) ≤ (k : Int) := by omega
      obtain ⟨a0, a1, a2, a3⟩ := (HC.out k hlt).below hb hg
      obtain ⟨x, hx⟩ : ∃ x, x = L.getD k default := ⟨_, rfl⟩
      rw [← hx] at a0 a1 a2 a3
      have hpw := validB_pows HV.out hlt hx
      have hel := validB_el HV.out hlt hx
      obtain ⟨d, hd⟩ : ∃ d, d = x.a + x.b + x.c := ⟨_, rfl⟩
      have hd0 : 0 ≤ d ∧ d ≤ 27 := by obtain ⟨⟨q0, q1⟩, ⟨q2, q3⟩, ⟨q4, q5⟩⟩ := hpw; omega
      obtain ⟨s, hs⟩ : ∃ s, s = H d := ⟨_, rfl⟩
      have HDG := Lib.hid (fun w => by have := iDeg x.a x.b x.c x.t w hpw.1 hpw.2.1 hpw.2.2; rw [← hd] at this; exact this)
      have HCL := Lib.hid (fun w' (hb : Below w.heap.size w w') => by have := HH.out w' hb d hd0.1 hd0.2; rw [← hs] at this; exact this)
      have HES := Lib.hid (show isE p s = true by rw [hs]; exact HE.out d hd0.1 hd0.2)
      have HM := Lib.hid (fun w => by
        have := iMulT p x ⟨0, 0, 0, s⟩ w hpw ⟨⟨Int.le_refl 0, (by decide : (0 : Int) ≤ 9)⟩, ⟨Int.le_refl 0, (by decide : (0 : Int) ≤ 9)⟩, ⟨Int.le_refl 0, (by decide : (0 : Int) ≤ 9)⟩⟩
        simp only [Int.add_zero] at this
        rw [mulV_is HP.out (isE_iff.2 (by omega)) HES.out] at this
        exact this)
      have HTT := Lib.hid (show tmT p (hOf H) x = ⟨x.a, x.b, x.c, x.t * s % p⟩ by unfold tmT hOf degT; rw [← hd, ← hs])
      have HXK := Lib.hid (show addT p (tmT p (hOf H) x) (tmK p (hOf H) L k) = tmK p (hOf H) L (k + 1) by rw [hx, ← tmK_succ hlt])
      have HS := Lib.hid hS
      have HR := Lib.hid hR
      have HV2 := Lib.hid hv
      have Hb := Lib.hid hb
      have HF := Lib.hid (show ∀ W, W = wr.alloc (Obj.cells #[.int .i64 x.a, .int .i64 x.b, .int .i64 x.c, .int .i64 x.t] 79) → ∀ w', Below W.heap.size W w' → (w'.cell? ⟨wr.heap.size, 0, none⟩ = some (.int .i64 x.a) ∧ w'.cell? ⟨wr.heap.size, 1, none⟩ = some (.int .i64 x.b) ∧ w'.cell? ⟨wr.heap.size, 2, none⟩ = some (.int .i64 x.c) ∧ w'.cell? ⟨wr.heap.size, 3, none⟩ = some (.int .i64 x.t)) ∧ Below wr.heap.size wr w' from by
        rintro W rfl w' hw
        have hs : wr.heap.size < (wr.alloc (Obj.cells #[.int .i64 x.a, .int .i64 x.b, .int .i64 x.c, .int .i64 x.t] 79)).heap.size := by simp
        refine ⟨⟨?_, ?_, ?_, ?_⟩, (Below.alloc (Below.refl _ _) (Nat.le_refl _) _).trans (hw.mono (by simp))⟩
        · rw [hw.cell (p := ⟨wr.heap.size, 0, none⟩) hs]; simp [go_sem]
        · rw [hw.cell (p := ⟨wr.heap.size, 1, none⟩) hs]; simp [go_sem]
        · rw [hw.cell (p := ⟨wr.heap.size, 2, none⟩) hs]; simp [go_sem]
        · rw [hw.cell (p := ⟨wr.heap.size, 3, none⟩) hs]; simp [go_sem])
      clear hx hS hR hv hb hpw hel hd hs
      go_wp2_with fail
      obtain ⟨W1, hW1⟩ : ∃ W, W = wr.alloc (Obj.cells #[.int .i64 x.a, .int .i64 x.b, .int .i64 x.c, .int .i64 x.t] 79) := ⟨_, rfl⟩
      have HF1 := Lib.hid (HF.out W1 hW1)
      rw [← hW1]
      clear hW1 HF a0 a1 a2 a3
      obtain ⟨n, hne⟩ : ∃ n, n = wr.heap.size := ⟨_, rfl⟩
      have HNE := Lib.hid hne
      rw [← hne] at HF1 ⊢
      clear hne
      refine wp_region_seq [(0, true), (1, true), (2, true), (3, true), (4, false), (5, false), (6, true), (7, false)] (fun w' => w'.cell? ⟨n, 0, none⟩ = some (.int .i64 x.a) ∧ w'.cell? ⟨n, 1, none⟩ = some (.int .i64 x.b) ∧ w'.cell? ⟨n, 2, none⟩ = some (.int .i64 x.c) ∧ w'.cell? ⟨n, 3, none⟩ = some (.int .i64 x.t)) (by kernel_rfl) (by kernel_rfl) rfl (by intro c a d v w h; cases d <;> exact h) (HF1.out _ (Below.drew (Below.refl _ _))).1 ?_
      iterate 4 (refine wpSeq_take (v := ?_) (List.getElem?_toArray.trans rfl) ?_ ?_; rotate_left; (intro w' hSw; (try dsimp only at hSw); go_simp; (try with_reducible rfl)); (try simp only [Act.put, List.setIfInBounds_toArray, List.set_cons_zero, List.set_cons_succ]))
      refine wpSeq_do (List.getElem?_toArray.trans rfl) (fun K hK => ?_)
      go_simp
      refine (HDG.out _).mono ?_
      rintro e w2 ⟨rfl, hb2⟩
      have HB2 := Lib.hid (show Below W1.heap.size W1 w2 from (Below.drew (Below.refl _ _)).trans (hb2.mono (by simp)))
      refine hK _ _ (HF1.out w2 HB2.out).1 ?_
      clear hK K hb2
      refine wpSeq_do (List.getElem?_toArray.trans rfl) (fun K hK => ?_)
      go_simp
      refine (HCL.out w2 (Hb.out.trans ((HF1.out w2 HB2.out).2.mono (HNE.out ▸ Hb.out.size)))).mono ?_
      rintro e w3 ⟨rfl, hb3⟩
      have HB3 := Lib.hid (show Below W1.heap.size W1 w3 from HB2.out.trans (hb3.mono HB2.out.size))
      refine hK _ _ (HF1.out w3 HB3.out).1 ?_
      clear hK K hb3
      (refine wpSeq_take (v := ?_) (List.getElem?_toArray.trans rfl) ?_ ?_; rotate_left; (intro w' hSw; (try dsimp only at hSw); go_simp; (try with_reducible rfl)); (try simp only [Act.put, List.setIfInBounds_toArray, List.set_cons_zero, List.set_cons_succ]))
      refine wpSeq_do (List.getElem?_toArray.trans rfl) (fun K hK => ?_)
      go_simp
      refine (HM.out w3).mono ?_
      rintro e w4 ⟨rfl, hb4⟩
      have HB4 := Lib.hid (show Below W1.heap.size W1 w4 from HB3.out.trans (hb4.mono HB3.out.size))
      refine hK _ _ (HF1.out w4 HB4.out).1 ?_
      clear hK K hb4
      refine wpSeq_nil ?_
      simp only [Exit.then]
      have Hr := Lib.hid (show Below wr.heap.size wr w4 from HNE.out ▸ (HF1.out w4 HB4.out).2)
      have H3 := Lib.hid (Hb.out.trans (Hr.out.mono Hb.out.size))
      go_wp2_with fail
      have hf := tmK_facts (h := hOf H) (L := L) HP.out k
      have hpb := isP_bd HP.out
      have hput := iPut w.heap.size S p v (tmK p (hOf H) L k) (tmT p (hOf H) x) w4 (HS.out.below Hr.out) (HR.out.below Hr.out) H3.out.size HP.out hf.1 hf.2.1 (by rw [HTT.out]; exact isE_iff.2 (emod_bd hpb.1)) (by omega) HV2.out
      rw [HTT.out] at hput
      refine hput.mono ?_
      rintro e w5 hP4
      rw [← HTT.out] at hP4
      have hlow := hP4.low (HR.out.below Hr.out) hSB H3.out.size
      obtain ⟨rfl, v', hS', hR', hv', _, _⟩ := hP4
      rw [HXK.out] at hR'
      have HQ := Lib.hid (And.intro hS' (And.intro hR' (And.intro hv' (H3.out.trans hlow))))
      clear hS' hR' hv' hlow hf hpb
      go_wp2_with fail
      go_roundw
      case rel => exact ⟨k + 1, v', by omega, by go_num, HQ.out.1, HQ.out.2.1, HQ.out.2.2.1, HQ.out.2.2.2⟩
      case measure => simp [intOf]; omega
    · have hkl : k = L.length := by omega
      subst hkl
      have hf := tmK_facts (h := hOf H) (L := L) HP.out L.length
      have hown := hR.own (by omega)
      rw [tmK_all HP.out (validB_srt HV.out)] at hown
      obtain ⟨hl2, ao, cap2, rfl, _⟩ := hown.trms
      have HO := Lib.hid hown
      have HS := Lib.hid hS
      have Hb := Lib.hid hb
      have HVV := Lib.hid (tm_valid (h := hOf H) HP.out HV.out)
      clear hown hS hb hR hf hv
      go_wp2_with fail
      refine (iPolyOf S p ao cap2 (tmL p (hOf H) L) _ HS.out HO.out.trms).mono ?_
      rintro e w5 ⟨rfl, hb5⟩
      rw [HVV.out, HP.out]
      have H5 := Lib.hid (And.intro (HO.out.below hb5) (Hb.out.trans (hb5.mono Hb.out.size)))
      clear hb5
      go_wp2_with fail
      refine bodyPost_ret (v := .tuple #[.slice ao (tmL p (hOf H) L).length cap2, .bool true]) (by simp [results, Try.results106, go_sem]) rfl ⟨_, rfl, H5.out.1, H5.out.2⟩
set_option maxHeartbeats 4000000 in
theorem iTimesE_nil (p : Int) (b : Option Addr) (cap : Nat) (m0 : Nat) (w : World) (hp : isP p = true) :
    Calls Try.prog 106 #[.int .i64 p, .slice b 0 cap, .func (.func 107) #[] #[.pointer (some ⟨m0, 0, none⟩)]] w (GivesPB [] true w) := by
  have HB := Lib.hid (show ∀ w', Calls Try.prog 116 #[.int .i64 p, .slice b 0 cap] w' fun e w'' => e = .returned (.bool true) ∧ Below w'.heap.size w' w'' from
    fun w' => (iPolyValid p _ [] w' ⟨by simp, _, cap, rfl, .inl rfl⟩).mono fun e w'' h => by rw [hp] at h; exact h)
  have HP := Lib.hid hp
  clear hp
  go_enter Try.func106, Try.ntmps106
  go_wp2_with fail
  refine (HB.out _).mono ?_
  rintro e w1 ⟨rfl, hb1⟩
  have H1 := Lib.hid hb1
  clear hb1
  go_wp2_with fail
  obtain ⟨W, hW⟩ : ∃ W, W = w1.alloc (Obj.cells #[.int .i64 p, .slice none 0 0] 93) := ⟨_, rfl⟩
  have HW := Lib.hid (show SumW W w1.heap.size p (.slice none 0 0) ∧ Below w.heap.size w W by
    have h1 := H1.out.size
    rw [hW]
    refine ⟨⟨by simp [go_sem], by simp [go_sem], World.frozen?_alloc_at _ _ _ 0 rfl, World.frozen?_alloc_at _ _ _ 1 rfl, by simp⟩, Below.alloc H1.out h1 _⟩)
  rw [← hW]
  clear hW
  go_loop [19] (fun i => i = .int .i64 0) (fun _ => 0)
  case atStart => rfl
  case round =>
    obtain rfl := hrel
    go_wp2_with fail
    refine (iPolyOf w1.heap.size p none 0 [] _ HW.out.1 ⟨by simp, _, 0, rfl, .inl rfl⟩).mono ?_
    rintro e w5 ⟨rfl, hb5⟩
    rw [validB_nil, HP.out]
    have H5 := Lib.hid (HW.out.2.trans (hb5.mono HW.out.2.size))
    clear hb5
    go_wp2_with fail
    refine bodyPost_ret (v := .tuple #[.slice none 0 0, .bool true]) (by simp [results, Try.results106, go_sem]) rfl ⟨_, rfl, ⟨by simp, none, 0, rfl, .inl rfl⟩, H5.out⟩
set_option maxHeartbeats 4000000 in
theorem iTimesE_no (p : Int) (f : Value) (L : List Trm) (m0 : Nat) (w : World) (h : Trms w f L) (hn : (isP p && validB p L) = false) :
    Calls Try.prog 106 #[.int .i64 p, f, .func (.func 107) #[] #[.pointer (some ⟨m0, 0, none⟩)]] w (GivesPB [] false w) := by
  have HB := Lib.hid (show Calls Try.prog 116 #[.int .i64 p, f] w fun e w'' => e = .returned (.bool false) ∧ Below w.heap.size w w'' from
    (iPolyValid p f L w h).mono fun e w'' h => by rw [hn] at h; exact h)
  clear h hn
  go_enter Try.func106, Try.ntmps106
  go_wp2_with fail
  refine HB.out.mono ?_
  rintro e w1 ⟨rfl, hb1⟩
  go_wp2_with fail
  refine bodyPost_ret (v := .tuple #[.slice none 0 0, .bool false]) (by simp [results, Try.results106, go_sem]) rfl ⟨_, rfl, ⟨by simp, none, 0, rfl, .inl rfl⟩, hb1⟩
theorem iTimesE (p : Int) (f : Value) (L : List Trm) (H : Int → Int) (m0 : Nat) (w : World) (h : Trms w f L)
    (hH : isP p = true → ∀ w', Below w.heap.size w w' → ∀ d, 0 ≤ d → d ≤ 27 → Calls Try.prog 107 #[.int .i64 d, .pointer (some ⟨m0, 0, none⟩)] w' fun e w'' => e = .returned (.int .i64 (H d)) ∧ Below w'.heap.size w' w'')
    (hE : isP p = true → ∀ d, 0 ≤ d → d ≤ 27 → isE p (H d) = true) :
    Calls Try.prog 106 #[.int .i64 p, f, .func (.func 107) #[] #[.pointer (some ⟨m0, 0, none⟩)]] w (GivesPB (if (isP p && validB p L) = true then tmL p (hOf H) L else []) (isP p && validB p L) w) := by
  cases hn : isP p && validB p L
  · exact iTimesE_no p f L m0 w h hn
  · have hn2 := hn
    simp only [Bool.and_eq_true] at hn2
    obtain ⟨hl, a, cap, rfl, h2⟩ := h
    rcases h2 with rfl | ⟨g, off, rfl, hg, hc⟩
    · exact iTimesE_nil p a cap m0 w hn2.1
    · exact iTimesE_some p g off cap L H m0 w hn2.1 hn2.2 hg hc (hH hn2.1) (hE hn2.1)
set_option maxRecDepth 100000 in
set_option maxHeartbeats 8000000 in
theorem iTimesS_some (p : Int) (g off cap : Nat) (L : List Trm) (H : Int → Int) (m0 m1 : Nat) (w : World) (hp : isP p = true) (hV : validB p L = true) (hg : g < w.heap.size)
    (hc : ∀ j : Nat, j < L.length → TAt w g (off + j * 4) (L.getD j default))
    (hH : ∀ w', Below w.heap.size w w' → ∀ d, 0 ≤ d → d ≤ 27 → Calls Try.prog 109 #[.int .i64 d, .pointer (some ⟨m0, 0, none⟩), .pointer (some ⟨m1, 0, none⟩)] w' fun e w'' => e = .returned (.int .i64 (H d)) ∧ Below w'.heap.size w' w'')
    (hE : ∀ d, 0 ≤ d → d ≤ 27 → isE p (H d) = true) :
    Calls Try.prog 106 #[.int .i64 p, .slice (some ⟨g, off, none⟩) L.length cap, .func (.func 109) #[] #[.pointer (some ⟨m0, 0, none⟩), .pointer (some ⟨m1, 0, none⟩)]] w (GivesPB (tmL p (hOf H) L) true w) := by
  have hl := validB_len hV
  have HB := Lib.hid (show ∀ w', Below w.heap.size w w' → Calls Try.prog 116 #[.int .i64 p, .slice (some ⟨g, off, none⟩) L.length cap] w' fun e w'' => e = .returned (.bool true) ∧ Below w'.heap.size w' w'' from
    fun w' hb => (iPolyValid p _ L w' ⟨by omega, _, cap, rfl, .inr ⟨g, off, rfl, Nat.lt_of_lt_of_le hg hb.size, fun j hj => (hc j hj).below hb hg⟩⟩).mono fun e w'' h => by rw [hp, hV] at h; exact h)
  have HC := Lib.hid hc
  have HV := Lib.hid hV
  have HP := Lib.hid hp
  have HH := Lib.hid hH
  have HE := Lib.hid hE
  clear hc hV hp hH hE
  go_enter Try.func106, Try.ntmps106
  go_wp2_with fail
  refine (HB.out _ (Below.refl _ _)).mono ?_
  rintro e w1 ⟨rfl, hb1⟩
  have H1 := Lib.hid hb1
  clear hb1
  go_wp2_with fail
  obtain ⟨W, hW⟩ : ∃ W, W = w1.alloc (Obj.cells #[.int .i64 p, .slice none 0 0] 93) := ⟨_, rfl⟩
  have HW := Lib.hid (show SumW W w1.heap.size p (.slice none 0 0) ∧ Below w.heap.size w W ∧ w.heap.size ≤ w1.heap.size by
    have h1 := H1.out.size
    rw [hW]
    refine ⟨⟨by simp [go_sem], by simp [go_sem], World.frozen?_alloc_at _ _ _ 0 rfl, World.frozen?_alloc_at _ _ _ 1 rfl, by simp⟩, Below.alloc H1.out h1 _, h1⟩)
  rw [← hW]
  clear hW
  obtain ⟨S, hSe⟩ : ∃ S, S = w1.heap.size := ⟨_, rfl⟩
  rw [← hSe] at HW ⊢
  have hSB : w.heap.size ≤ S := by have := HW.out.2.2; omega
  clear hSe
  go_loopw [19] (fun i wr => ∃ (k : Nat) (v : Value), k ≤ L.length ∧ i = .int .i64 k ∧ SumW wr S p v ∧ Row wr w.heap.size v (tmK p (hOf H) L k) ∧ v.ownBlock ≠ some S ∧ Below w.heap.size w wr) (fun i _ => L.length - (intOf i).toNat)
  case atStart => exact ⟨0, _, by omega, rfl, HW.out.1, Row.nil _ _, by simp [Value.ownBlock], HW.out.2.1⟩
  case round =>
    clear HW
    obtain ⟨k, v, hk, rfl, hS, hR, hv, hb⟩ := hrel
    by_cases hlt : k < L.length
    · have hltp : (k : Int) < (L.length : Int) := by omega
      have hk0 : (0 : Int) ≤ (k : Int) := by omega
      obtain ⟨a0, a1, a2, a3⟩ := (HC.out k hlt).below hb hg
      obtain ⟨x, hx⟩ : ∃ x, x = L.getD k default := ⟨_, rfl⟩
      rw [← hx] at a0 a1 a2 a3
      have hpw := validB_pows HV.out hlt hx
      have hel := validB_el HV.out hlt hx
      obtain ⟨d, hd⟩ : ∃ d, d = x.a + x.b + x.c := ⟨_, rfl⟩
      have hd0 : 0 ≤ d ∧ d ≤ 27 := by obtain ⟨⟨q0, q1⟩, ⟨q2, q3⟩, ⟨q4, q5⟩⟩ := hpw; omega
      obtain ⟨s, hs⟩ : ∃ s, s = H d := ⟨_, rfl⟩
      have HDG := Lib.hid (fun w => by have := iDeg x.a x.b x.c x.t w hpw.1 hpw.2.1 hpw.2.2; rw [← hd] at this; exact this)
      have HCL := Lib.hid (fun w' (hb : Below w.heap.size w w') => by have := HH.out w' hb d hd0.1 hd0.2; rw [← hs] at this; exact this)
      have HES := Lib.hid (show isE p s = true by rw [hs]; exact HE.out d hd0.1 hd0.2)
      have HM := Lib.hid (fun w => by
        have := iMulT p x ⟨0, 0, 0, s⟩ w hpw ⟨⟨Int.le_refl 0, (by decide : (0 : Int) ≤ 9)⟩, ⟨Int.le_refl 0, (by decide : (0 : Int) ≤ 9)⟩, ⟨Int.le_refl 0, (by decide : (0 : Int) ≤ 9)⟩⟩
        simp only [Int.add_zero] at this
        rw [mulV_is HP.out (isE_iff.2 (by omega)) HES.out] at this
        exact this)
      have HTT := Lib.hid (show tmT p (hOf H) x = ⟨x.a, x.b, x.c, x.t * s % p⟩ by unfold tmT hOf degT; rw [← hd, ← hs])
      have HXK := Lib.hid (show addT p (tmT p (hOf H) x) (tmK p (hOf H) L k) = tmK p (hOf H) L (k + 1) by rw [hx, ← tmK_succ hlt])
      have HS := Lib.hid hS
      have HR := Lib.hid hR
      have HV2 := Lib.hid hv
      have Hb := Lib.hid hb
      have HF := Lib.hid (show ∀ W, W = wr.alloc (Obj.cells #[.int .i64 x.a, .int .i64 x.b, .int .i64 x.c, .int .i64 x.t] 79) → ∀ w', Below W.heap.size W w' → (w'.cell? ⟨wr.heap.size, 0, none⟩ = some (.int .i64 x.a) ∧ w'.cell? ⟨wr.heap.size, 1, none⟩ = some (.int .i64 x.b) ∧ w'.cell? ⟨wr.heap.size, 2, none⟩ = some (.int .i64 x.c) ∧ w'.cell? ⟨wr.heap.size, 3, none⟩ = some (.int .i64 x.t)) ∧ Below wr.heap.size wr w' from by
        rintro W rfl w' hw
        have hs : wr.heap.size < (wr.alloc (Obj.cells #[.int .i64 x.a, .int .i64 x.b, .int .i64 x.c, .int .i64 x.t] 79)).heap.size := by simp
        refine ⟨⟨?_, ?_, ?_, ?_⟩, (Below.alloc (Below.refl _ _) (Nat.le_refl _) _).trans (hw.mono (by simp))⟩
        · rw [hw.cell (p := ⟨wr.heap.size, 0, none⟩) hs]; simp [go_sem]
        · rw [hw.cell (p := ⟨wr.heap.size, 1, none⟩) hs]; simp [go_sem]
        · rw [hw.cell (p := ⟨wr.heap.size, 2, none⟩) hs]; simp [go_sem]
        · rw [hw.cell (p := ⟨wr.heap.size, 3, none⟩) hs]; simp [go_sem])
      clear hx hS hR hv hb hpw hel hd hs
      go_wp2_with fail
      obtain ⟨W1, hW1⟩ : ∃ W, W = wr.alloc (Obj.cells #[.int .i64 x.a, .int .i64 x.b, .int .i64 x.c, .int .i64 x.t] 79) := ⟨_, rfl⟩
      have HF1 := Lib.hid (HF.out W1 hW1)
      rw [← hW1]
      clear hW1 HF a0 a1 a2 a3
      obtain ⟨n, hne⟩ : ∃ n, n = wr.heap.size := ⟨_, rfl⟩
      have HNE := Lib.hid hne
      rw [← hne] at HF1 ⊢
      clear hne
      refine wp_region_seq [(0, true), (1, true), (2, true), (3, true), (4, false), (5, false), (6, true), (7, false)] (fun w' => w'.cell? ⟨n, 0, none⟩ = some (.int .i64 x.a) ∧ w'.cell? ⟨n, 1, none⟩ = some (.int .i64 x.b) ∧ w'.cell? ⟨n, 2, none⟩ = some (.int .i64 x.c) ∧ w'.cell? ⟨n, 3, none⟩ = some (.int .i64 x.t)) (by kernel_rfl) (by kernel_rfl) rfl (by intro c a d v w h; cases d <;> exact h) (HF1.out _ (Below.drew (Below.refl _ _))).1 ?_
      iterate 4 (refine wpSeq_take (v := ?_) (List.getElem?_toArray.trans rfl) ?_ ?_; rotate_left; (intro w' hSw; (try dsimp only at hSw); go_simp; (try with_reducible rfl)); (try simp only [Act.put, List.setIfInBounds_toArray, List.set_cons_zero, List.set_cons_succ]))
      refine wpSeq_do (List.getElem?_toArray.trans rfl) (fun K hK => ?_)
      go_simp
      refine (HDG.out _).mono ?_
      rintro e w2 ⟨rfl, hb2⟩
      have HB2 := Lib.hid (show Below W1.heap.size W1 w2 from (Below.drew (Below.refl _ _)).trans (hb2.mono (by simp)))
      refine hK _ _ (HF1.out w2 HB2.out).1 ?_
      clear hK K hb2
      refine wpSeq_do (List.getElem?_toArray.trans rfl) (fun K hK => ?_)
      go_simp
      refine (HCL.out w2 (Hb.out.trans ((HF1.out w2 HB2.out).2.mono (HNE.out ▸ Hb.out.size)))).mono ?_
      rintro e w3 ⟨rfl, hb3⟩
      have HB3 := Lib.hid (show Below W1.heap.size W1 w3 from HB2.out.trans (hb3.mono HB2.out.size))
      refine hK _ _ (HF1.out w3 HB3.out).1 ?_
      clear hK K hb3
      (refine wpSeq_take (v := ?_) (List.getElem?_toArray.trans rfl) ?_ ?_; rotate_left; (intro w' hSw; (try dsimp only at hSw); go_simp; (try with_reducible rfl)); (try simp only [Act.put, List.setIfInBounds_toArray, List.set_cons_zero, List.set_cons_succ]))
      refine wpSeq_do (List.getElem?_toArray.trans rfl) (fun K hK => ?_)
      go_simp
      refine (HM.out w3).mono ?_
      rintro e w4 ⟨rfl, hb4⟩
      have HB4 := Lib.hid (show Below W1.heap.size W1 w4 from HB3.out.trans (hb4.mono HB3.out.size))
      refine hK _ _ (HF1.out w4 HB4.out).1 ?_
      clear hK K hb4
      refine wpSeq_nil ?_
      simp only [Exit.then]
      have Hr := Lib.hid (show Below wr.heap.size wr w4 from HNE.out ▸ (HF1.out w4 HB4.out).2)
      have H3 := Lib.hid (Hb.out.trans (Hr.out.mono Hb.out.size))
      go_wp2_with fail
      have hf := tmK_facts (h := hOf H) (L := L) HP.out k
      have hpb := isP_bd HP.out
      have hput := iPut w.heap.size S p v (tmK p (hOf H) L k) (tmT p (hOf H) x) w4 (HS.out.below Hr.out) (HR.out.below Hr.out) H3.out.size HP.out hf.1 hf.2.1 (by rw [HTT.out]; exact isE_iff.2 (emod_bd hpb.1)) (by omega) HV2.out
      rw [HTT.out] at hput
      refine hput.mono ?_
      rintro e w5 hP4
      rw [← HTT.out] at hP4
      have hlow := hP4.low (HR.out.below Hr.out) hSB H3.out.size
      obtain ⟨rfl, v', hS', hR', hv', _, _⟩ := hP4
      rw [HXK.out] at hR'
      have HQ := Lib.hid (And.intro hS' (And.intro hR' (And.intro hv' (H3.out.trans hlow))))
      clear hS' hR' hv' hlow hf hpb
      go_wp2_with fail
      go_roundw
      case rel => exact ⟨k + 1, v', by omega, by go_num, HQ.out.1, HQ.out.2.1, HQ.out.2.2.1, HQ.out.2.2.2⟩
      case measure => simp [intOf]; omega
    · have hkl : k = L.length := by omega
      subst hkl
      have hf := tmK_facts (h := hOf H) (L := L) HP.out L.length
      have hown := hR.own (by omega)
      rw [tmK_all HP.out (validB_srt HV.out)] at hown
      obtain ⟨hl2, ao, cap2, rfl, _⟩ := hown.trms
      have HO := Lib.hid hown
      have HS := Lib.hid hS
      have Hb := Lib.hid hb
      have HVV := Lib.hid (tm_valid (h := hOf H) HP.out HV.out)
      clear hown hS hb hR hf hv
      go_wp2_with fail
      refine (iPolyOf S p ao cap2 (tmL p (hOf H) L) _ HS.out HO.out.trms).mono ?_
      rintro e w5 ⟨rfl, hb5⟩
      rw [HVV.out, HP.out]
      have H5 := Lib.hid (And.intro (HO.out.below hb5) (Hb.out.trans (hb5.mono Hb.out.size)))
      clear hb5
      go_wp2_with fail
      refine bodyPost_ret (v := .tuple #[.slice ao (tmL p (hOf H) L).length cap2, .bool true]) (by simp [results, Try.results106, go_sem]) rfl ⟨_, rfl, H5.out.1, H5.out.2⟩
set_option maxHeartbeats 4000000 in
theorem iTimesS_nil (p : Int) (b : Option Addr) (cap : Nat) (m0 m1 : Nat) (w : World) (hp : isP p = true) :
    Calls Try.prog 106 #[.int .i64 p, .slice b 0 cap, .func (.func 109) #[] #[.pointer (some ⟨m0, 0, none⟩), .pointer (some ⟨m1, 0, none⟩)]] w (GivesPB [] true w) := by
  have HB := Lib.hid (show ∀ w', Calls Try.prog 116 #[.int .i64 p, .slice b 0 cap] w' fun e w'' => e = .returned (.bool true) ∧ Below w'.heap.size w' w'' from
    fun w' => (iPolyValid p _ [] w' ⟨by simp, _, cap, rfl, .inl rfl⟩).mono fun e w'' h => by rw [hp] at h; exact h)
  have HP := Lib.hid hp
  clear hp
  go_enter Try.func106, Try.ntmps106
  go_wp2_with fail
  refine (HB.out _).mono ?_
  rintro e w1 ⟨rfl, hb1⟩
  have H1 := Lib.hid hb1
  clear hb1
  go_wp2_with fail
  obtain ⟨W, hW⟩ : ∃ W, W = w1.alloc (Obj.cells #[.int .i64 p, .slice none 0 0] 93) := ⟨_, rfl⟩
  have HW := Lib.hid (show SumW W w1.heap.size p (.slice none 0 0) ∧ Below w.heap.size w W by
    have h1 := H1.out.size
    rw [hW]
    refine ⟨⟨by simp [go_sem], by simp [go_sem], World.frozen?_alloc_at _ _ _ 0 rfl, World.frozen?_alloc_at _ _ _ 1 rfl, by simp⟩, Below.alloc H1.out h1 _⟩)
  rw [← hW]
  clear hW
  go_loop [19] (fun i => i = .int .i64 0) (fun _ => 0)
  case atStart => rfl
  case round =>
    obtain rfl := hrel
    go_wp2_with fail
    refine (iPolyOf w1.heap.size p none 0 [] _ HW.out.1 ⟨by simp, _, 0, rfl, .inl rfl⟩).mono ?_
    rintro e w5 ⟨rfl, hb5⟩
    rw [validB_nil, HP.out]
    have H5 := Lib.hid (HW.out.2.trans (hb5.mono HW.out.2.size))
    clear hb5
    go_wp2_with fail
    refine bodyPost_ret (v := .tuple #[.slice none 0 0, .bool true]) (by simp [results, Try.results106, go_sem]) rfl ⟨_, rfl, ⟨by simp, none, 0, rfl, .inl rfl⟩, H5.out⟩
set_option maxHeartbeats 4000000 in
theorem iTimesS_no (p : Int) (f : Value) (L : List Trm) (m0 m1 : Nat) (w : World) (h : Trms w f L) (hn : (isP p && validB p L) = false) :
    Calls Try.prog 106 #[.int .i64 p, f, .func (.func 109) #[] #[.pointer (some ⟨m0, 0, none⟩), .pointer (some ⟨m1, 0, none⟩)]] w (GivesPB [] false w) := by
  have HB := Lib.hid (show Calls Try.prog 116 #[.int .i64 p, f] w fun e w'' => e = .returned (.bool false) ∧ Below w.heap.size w w'' from
    (iPolyValid p f L w h).mono fun e w'' h => by rw [hn] at h; exact h)
  clear h hn
  go_enter Try.func106, Try.ntmps106
  go_wp2_with fail
  refine HB.out.mono ?_
  rintro e w1 ⟨rfl, hb1⟩
  go_wp2_with fail
  refine bodyPost_ret (v := .tuple #[.slice none 0 0, .bool false]) (by simp [results, Try.results106, go_sem]) rfl ⟨_, rfl, ⟨by simp, none, 0, rfl, .inl rfl⟩, hb1⟩
theorem iTimesS (p : Int) (f : Value) (L : List Trm) (H : Int → Int) (m0 m1 : Nat) (w : World) (h : Trms w f L)
    (hH : isP p = true → ∀ w', Below w.heap.size w w' → ∀ d, 0 ≤ d → d ≤ 27 → Calls Try.prog 109 #[.int .i64 d, .pointer (some ⟨m0, 0, none⟩), .pointer (some ⟨m1, 0, none⟩)] w' fun e w'' => e = .returned (.int .i64 (H d)) ∧ Below w'.heap.size w' w'')
    (hE : isP p = true → ∀ d, 0 ≤ d → d ≤ 27 → isE p (H d) = true) :
    Calls Try.prog 106 #[.int .i64 p, f, .func (.func 109) #[] #[.pointer (some ⟨m0, 0, none⟩), .pointer (some ⟨m1, 0, none⟩)]] w (GivesPB (if (isP p && validB p L) = true then tmL p (hOf H) L else []) (isP p && validB p L) w) := by
  cases hn : isP p && validB p L
  · exact iTimesS_no p f L m0 m1 w h hn
  · have hn2 := hn
    simp only [Bool.and_eq_true] at hn2
    obtain ⟨hl, a, cap, rfl, h2⟩ := h
    rcases h2 with rfl | ⟨g, off, rfl, hg, hc⟩
    · exact iTimesS_nil p a cap m0 m1 w hn2.1
    · exact iTimesS_some p g off cap L H m0 m1 w hn2.1 hn2.2 hg hc (hH hn2.1) (hE hn2.1)
set_option maxHeartbeats 4000000 in
theorem iCloE (p d : Int) (m0 : Nat) (w : World) (hp : isP p = true) (h : w.cell? ⟨m0, 0, none⟩ = some (.int .i64 p)) :
    Calls Try.prog 107 #[.int .i64 d, .pointer (some ⟨m0, 0, none⟩)] w fun e w'' => e = .returned (.int .i64 (d % p)) ∧ Below w.heap.size w w'' := by
  have HR := Lib.hid (fun w => iRed p d w hp)
  clear hp
  go_enter Try.func107, Try.ntmps107
  go_wp2_with (go_at_call 68; refine (HR.out _).mono ?_; rintro e w2 ⟨rfl, rfl⟩)
  go_ret
  exact ⟨rfl, Below.refl _ _⟩
set_option maxHeartbeats 4000000 in
theorem iEulerPoly (p : Int) (f : Value) (L : List Trm) (w : World) (h : Trms w f L) :
    Calls Try.prog 44 #[.int .i64 p, f] w (GivesPB (eulV p L) (isP p && validB p L) w) := by
  have hb1 : Below w.heap.size w (w.alloc (Obj.cells #[.int .i64 p] 3)) := Below.alloc (Below.refl _ _) (Nat.le_refl _) _
  have HT := Lib.hid (iTimesE p f L (fun d => d % p) w.heap.size (w.alloc (Obj.cells #[.int .i64 p] 3)) (h.below hb1)
    (fun hp w' hb d _ _ => iCloE p d w.heap.size w' hp (by rw [hb.cell (p := ⟨w.heap.size, 0, none⟩) (by simp)]; simp [go_sem]))
    (fun hp d _ _ => isE_mod hp))
  have HE := Lib.hid (show (if (isP p && validB p L) = true then tmL p (hOf fun d => d % p) L else []) = eulV p L by
    unfold eulV
    rw [tm_same fun x _ => ?_]
    show x.t * (degT x % p) % p = x.t * degT x % p
    rw [Int.mul_emod, Int.emod_emod_of_dvd _ (Int.dvd_refl p), ← Int.mul_emod])
  rw [HE.out] at HT
  clear HE
  obtain ⟨R, hR⟩ : ∃ R, R = eulV p L := ⟨_, rfl⟩
  obtain ⟨b, hbq⟩ : ∃ b, b = (isP p && validB p L) := ⟨_, rfl⟩
  rw [← hR, ← hbq] at HT ⊢
  have Hb := Lib.hid hb1
  clear h hR hbq hb1
  go_enter Try.func44, Try.ntmps44
  go_wp2_with fail
  refine HT.out.mono ?_
  rintro e w2 ⟨v, rfl, ho, hb2⟩
  have H2 := Lib.hid (And.intro ho (Hb.out.trans (hb2.mono (by simp))))
  clear ho hb2
  go_wp2_with fail
  refine bodyPost_ret (v := .tuple #[v, .bool b]) (by simp [results, Try.results44, go_sem]) rfl ⟨_, rfl, ownT_base H2.out.1 (by simp), H2.out.2⟩
set_option maxHeartbeats 4000000 in
theorem iCloS (p a d : Int) (m0 m1 : Nat) (w : World) (hp : isP p = true) (ha : isE p a = true) (hd : 0 ≤ d ∧ d ≤ 27) (h : w.cell? ⟨m0, 0, none⟩ = some (.int .i64 p)) (h2 : w.cell? ⟨m1, 0, none⟩ = some (.int .i64 a)) :
    Calls Try.prog 109 #[.int .i64 d, .pointer (some ⟨m0, 0, none⟩), .pointer (some ⟨m1, 0, none⟩)] w fun e w'' => e = .returned (.int .i64 (a ^ d.toNat % p)) ∧ Below w.heap.size w w'' := by
  have HR := Lib.hid (fun w => by
    have := iPowerIn p a d (by omega) w
    rw [show powV p a d = a ^ d.toNat % p by unfold powV; rw [if_pos ⟨by simp [isE1, hp, ha], hd.1⟩]] at this
    exact this)
  clear hp ha hd
  go_enter Try.func109, Try.ntmps109
  go_wp2_with (go_at_call 71; refine (HR.out _).mono ?_; rintro e w2 ⟨rfl, hb2⟩)
  go_ret
  exact ⟨rfl, hb2⟩
set_option maxRecDepth 100000 in
set_option maxHeartbeats 4000000 in
theorem iScaleUnknowns (p : Int) (f : Value) (L : List Trm) (a : Int) (w : World) (h : Trms w f L) :
    Calls Try.prog 46 #[.int .i64 p, f, .int .i64 a] w (GivesPB (scuV p a L) ((isP p && validB p L) && isE p a) w) := by
  obtain ⟨W, hW⟩ : ∃ W, W = ((w.alloc (Obj.cells #[.int .i64 p] 3)).alloc (Obj.cells #[.int .i64 a] 3)).alloc (Obj.cells #[.int .i64 a] 3) := ⟨_, rfl⟩
  have hbW : Below w.heap.size w W := by rw [hW]; exact Below.alloc (Below.alloc (Below.alloc (Below.refl _ _) (Nat.le_refl _) _) (by simp) _) (by simp; omega) _
  have c0 : W.cell? ⟨w.heap.size, 0, none⟩ = some (.int .i64 p) := by rw [hW]; simp [go_sem]
  have c1 : W.cell? ⟨w.heap.size + 1, 0, none⟩ = some (.int .i64 a) := by rw [hW]; simp [go_sem]
  have c2 : W.cell? ⟨w.heap.size + 2, 0, none⟩ = some (.int .i64 a) := by rw [hW]; simp [go_sem]
  have hs : w.heap.size + 2 < W.heap.size := by rw [hW]; simp
  have HA := Lib.hid (iAE1 p a (w.heap.size + 2) W c2)
  have HW := Lib.hid hW
  cases hq : isE1 p a
  · rw [hq] at HA
    have e1 : ((isP p && validB p L) && isE p a) = false := by
      cases h1 : isP p
      · simp
      · have : isE p a = false := by unfold isE1 at hq; rw [h1] at hq; simpa using hq
        rw [this]; simp
    have e2 : scuV p a L = [] := by unfold scuV; rw [if_neg (by rw [e1]; simp)]
    rw [e1, e2]
    have Hb := Lib.hid hbW
    clear h hW hbW c0 c1 c2 hs hq e1 e2
    go_enter Try.func46, Try.ntmps46
    go_wp2_with fail
    rw [← HW.out]
    refine HA.out.mono ?_
    rintro e w2 ⟨rfl, rfl⟩
    go_wp2_with fail
    refine bodyPost_ret (v := .tuple #[.slice none 0 0, .bool false]) (by simp [results, Try.results46, go_sem]) rfl ⟨_, rfl, ⟨by simp, none, 0, rfl, .inl rfl⟩, Hb.out⟩
  · rw [hq] at HA
    have hpa : isP p = true ∧ isE p a = true := by unfold isE1 at hq; simpa using hq
    have e1 : ((isP p && validB p L) && isE p a) = (isP p && validB p L) := by rw [hpa.2, Bool.and_true]
    have e2 : scuV p a L = if (isP p && validB p L) = true then tmL p (hOf fun d => a ^ d.toNat % p) L else [] := by unfold scuV; rw [e1]; rfl
    rw [e1, e2]
    have HT := Lib.hid (iTimesS p f L (fun d => a ^ d.toNat % p) w.heap.size (w.heap.size + 1) W (h.below hbW)
      (fun hp w' hb d h0 h1 => iCloS p a d w.heap.size (w.heap.size + 1) w' hp hpa.2 ⟨h0, h1⟩ (by rw [hb.cell (p := ⟨w.heap.size, 0, none⟩) (by show w.heap.size < _; omega)]; exact c0) (by rw [hb.cell (p := ⟨w.heap.size + 1, 0, none⟩) (by show w.heap.size + 1 < _; omega)]; exact c1))
      (fun hp d _ _ => isE_mod hp))
    obtain ⟨R, hR⟩ : ∃ R, R = (if (isP p && validB p L) = true then tmL p (hOf fun d => a ^ d.toNat % p) L else []) := ⟨_, rfl⟩
    obtain ⟨b, hbq⟩ : ∃ b, b = (isP p && validB p L) := ⟨_, rfl⟩
    rw [← hR, ← hbq] at HT
    rw [← hR, ← hbq]
    have Hb := Lib.hid hbW
    have HC := Lib.hid c0
    clear h hR hbq hW c2 hq hpa e1 e2 hbW c1 c0
    go_enter Try.func46, Try.ntmps46
    go_wp2_with fail
    rw [← HW.out]
    refine HA.out.mono ?_
    rintro e w2 ⟨rfl, rfl⟩
    have c0 := HC.out
    go_wp2_with fail
    refine HT.out.mono ?_
    rintro e w2 ⟨v, rfl, ho, hb2⟩
    have H2 := Lib.hid (And.intro ho (Hb.out.trans (hb2.mono Hb.out.size)))
    clear ho hb2
    go_wp2_with fail
    refine bodyPost_ret (v := .tuple #[v, .bool b]) (by simp [results, Try.results46, go_sem]) rfl ⟨_, rfl, ownT_base H2.out.1 Hb.out.size, H2.out.2⟩
end Go.Proofs.Ytbgcamkclbcaiaa
namespace Go.Proofs.Ytbgcamkclbcaiaa
open Go.RowKit
set_option maxRecDepth 100000 in
set_option maxHeartbeats 8000000 in
theorem xEulerPoly_in (a0 : Int) (a1 : Option Addr) (L1 : List Trm) (c1 : Nat) (r0 : List Trm) (r1 : Bool) (w : World) (h1 : Trms w (.slice a1 L1.length c1) L1) (hl : L1.length ≤ 1048576)
    (hS : ∀ f1, ∀ w, Trms w f1 L1 → Calls Try.prog 43 #[.int .i64 a0, f1] w fun e w' => ∃ u0, e = .returned (.tuple #[u0, .bool r1]) ∧ OwnTrms w' w.heap.size u0 r0 ∧ Below w.heap.size w w')
    (hI : ∀ f1, ∀ w, Trms w f1 L1 → Calls Try.prog 44 #[.int .i64 a0, f1] w fun e w' => ∃ u0, e = .returned (.tuple #[u0, .bool r1]) ∧ OwnTrms w' w.heap.size u0 r0 ∧ Below w.heap.size w w') :
    Calls Try.prog 9 #[.int .i64 a0, .slice a1 L1.length c1] w fun e w' => e = .returned (.bool true) ∧ Below w.heap.size w w' := by
  have m1 : (1048576 : Int) - L1.length ≥ 0 := by omega
  have HS1 := Lib.hid (fun w => szP_at a1 L1.length c1 (1048576) w (by omega) (by omega) (by omega))
  have Q1 := Lib.hid h1
  have n1 : (L1.length : Int) ≤ 1048576 := by omega
  clear h1
  have HSP := Lib.hid hS
  have HIM := Lib.hid hI
  clear hS hI
  have bb1 := bne_self2 r1
  go_enter Try.func9, Try.ntmps9
  go_wp2_with fail
  refine (HS1.out _).mono ?_
  rintro e w' ⟨rfl, rfl⟩
  have B := Lib.hid (Below.refl w.heap.size w)
  go_wp2_with fail
  refine (toP _ L1 _ (Q1.out.below B.out)).mono ?_
  rintro e W1 ⟨s1, rfl, ho, hb⟩
  have Z1 := Lib.hid hb.size
  replace B := Lib.hid (B.out.trans (hb.mono B.out.size))
  clear hb
  have S1 := Lib.hid ho.trms
  clear ho
  go_wp2_with fail
  refine (HSP.out _ _ S1.out).mono ?_
  rintro e W2 ⟨v0, rfl, hv0, hb⟩
  have Z2 := Lib.hid hb.size
  replace B := Lib.hid (B.out.trans (hb.mono B.out.size))
  replace S1 := Lib.hid (S1.out.below hb)
  clear hb
  clear S1
  have V0 := Lib.hid hv0.trms
  have z0 : (r0.length : Int) ≤ 1048576 := by have := hv0.1; omega
  clear hv0
  have X := Lib.hid (Below.refl W2.heap.size W2)
  go_wp2_with fail
  refine (toP _ L1 _ (Q1.out.below B.out)).mono ?_
  rintro e W3 ⟨x1, rfl, ho, hb⟩
  have Z3 := Lib.hid hb.size
  replace B := Lib.hid (B.out.trans (hb.mono B.out.size))
  replace X := Lib.hid (X.out.trans (hb.mono X.out.size))
  clear hb
  have O1 := Lib.hid ho
  clear ho
  have Y1 := Lib.hid (Below.refl W3.heap.size W3)
  go_wp2_with fail
  refine (HIM.out _ _ (O1.out.trms.below Y1.out)).mono ?_
  rintro e W4 ⟨g0, rfl, hg0, hb⟩
  have P1 := Lib.hid (show w.heap.size ≤ W2.heap.size ∧ W2.heap.size ≤ W2.heap.size ∧ W3.heap.size ≤ W3.heap.size by have := B.out.size; have := X.out.size; have := Z1.out; have := Z2.out; have := Z3.out; first | omega | (refine ⟨?_, ?_, ?_⟩ <;> omega))
  have PG := Lib.hid (show w.heap.size ≤ W3.heap.size ∧ W2.heap.size ≤ W3.heap.size by have := Z1.out; have := Z2.out; have := Z3.out; first | omega | (refine ⟨?_, ?_⟩ <;> omega))
  replace B := Lib.hid (B.out.trans (hb.mono B.out.size))
  replace X := Lib.hid (X.out.trans (hb.mono X.out.size))
  replace Y1 := Lib.hid (Y1.out.trans (hb.mono Y1.out.size))
  clear hb
  have G0 := Lib.hid hg0
  clear hg0
  go_wp2_with fail
  refine (eqP g0 v0 r0 _ G0.out.trms (V0.out.below X.out)).mono ?_
  rintro e W5 ⟨rfl, hb⟩
  replace B := Lib.hid (B.out.trans (hb.mono B.out.size))
  replace X := Lib.hid (X.out.trans (hb.mono X.out.size))
  replace Y1 := Lib.hid (Y1.out.trans (hb.mono Y1.out.size))
  replace G0 := Lib.hid (G0.out.below hb)
  clear hb
  go_wp2_with fail
  refine (toP _ L1 _ (Q1.out.below B.out)).mono ?_
  rintro e W6 ⟨y1, rfl, ho, hb⟩
  replace B := Lib.hid (B.out.trans (hb.mono B.out.size))
  replace X := Lib.hid (X.out.trans (hb.mono X.out.size))
  replace Y1 := Lib.hid (Y1.out.trans (hb.mono Y1.out.size))
  replace G0 := Lib.hid (G0.out.below hb)
  clear hb
  have S1 := Lib.hid ho.trms
  clear ho
  go_wp2_with fail
  refine (eqP x1 y1 L1 _ (O1.out.trms.below Y1.out) S1.out).mono ?_
  rintro e W7 ⟨rfl, hb⟩
  clear S1
  replace B := Lib.hid (B.out.trans (hb.mono B.out.size))
  replace X := Lib.hid (X.out.trans (hb.mono X.out.size))
  replace Y1 := Lib.hid (Y1.out.trans (hb.mono Y1.out.size))
  replace G0 := Lib.hid (G0.out.below hb)
  clear hb
  go_wp2_with fail
  refine (markTsame x1 L1 _ (1) W3 _ O1.out (same_of Y1.out) (by omega) (by omega)).mono ?_
  rintro e W8 ⟨rfl, hb⟩
  replace B := Lib.hid (B.out.trans (hb.low.mono P1.out.1))
  replace X := Lib.hid (X.out.trans (hb.low.mono P1.out.2.1))
  replace G0 := Lib.hid (G0.out.betw' P1.out.2.2 hb)
  clear hb
  go_wp2_with fail
  refine (eqP g0 v0 r0 _ G0.out.trms (V0.out.below X.out)).mono ?_
  rintro e W9 ⟨rfl, hb⟩
  replace B := Lib.hid (B.out.trans (hb.mono B.out.size))
  replace X := Lib.hid (X.out.trans (hb.mono X.out.size))
  replace G0 := Lib.hid (G0.out.below hb)
  clear hb
  go_wp2_with fail
  refine (markTown g0 r0 _ (1) _ G0.out (by omega) (by omega)).mono ?_
  rintro e W10 ⟨rfl, hh, hb, hs⟩
  replace B := Lib.hid (B.out.trans (hb.mono PG.out.1))
  replace X := Lib.hid (X.out.trans (hb.mono PG.out.2))
  have D0 := Lib.hid hh
  clear hh hb hs
  go_wp2_with fail
  refine (heldTown g0 r0.length _ 1 _ D0.out (by omega) (by omega)).mono ?_
  rintro e W11 ⟨rfl, rfl⟩
  go_wp2_with fail
  refine (toP _ L1 _ (Q1.out.below B.out)).mono ?_
  rintro e W12 ⟨t1, rfl, ho, hb⟩
  replace B := Lib.hid (B.out.trans (hb.mono B.out.size))
  replace X := Lib.hid (X.out.trans (hb.mono X.out.size))
  replace D0 := Lib.hid (D0.out.below hb)
  clear hb
  have S1 := Lib.hid ho.trms
  clear ho
  go_wp2_with fail
  refine (HIM.out _ _ S1.out).mono ?_
  rintro e W13 ⟨t0, rfl, ht0, hb⟩
  replace B := Lib.hid (B.out.trans (hb.mono B.out.size))
  replace X := Lib.hid (X.out.trans (hb.mono X.out.size))
  replace D0 := Lib.hid (D0.out.below hb)
  replace S1 := Lib.hid (S1.out.below hb)
  clear hb
  clear S1
  have T0 := Lib.hid ht0.trms
  clear ht0
  go_wp2_with fail
  refine (eqP t0 v0 r0 _ T0.out (V0.out.below X.out)).mono ?_
  rintro e W14 ⟨rfl, hb⟩
  replace B := Lib.hid (B.out.trans (hb.mono B.out.size))
  replace X := Lib.hid (X.out.trans (hb.mono X.out.size))
  replace D0 := Lib.hid (D0.out.below hb)
  replace T0 := Lib.hid (T0.out.below hb)
  clear hb
  go_wp2_with fail
  refine (heldTown g0 r0.length _ 1 _ D0.out (by omega) (by omega)).mono ?_
  rintro e W15 ⟨rfl, rfl⟩
  go_wp2_with fail
  go_ret
  exact ⟨rfl, B.out⟩
set_option maxHeartbeats 1000000 in
theorem xEulerPoly_long0 (a0 : Int) (a1 : Option Addr) (n1 c1 : Nat) (w : World) (h1 : 1048576 < n1) (h2 : n1 ≤ 9223372036854775807) :
    Calls Try.prog 9 #[.int .i64 a0, .slice a1 n1 c1] w fun e w' => e = .returned (.bool true) ∧ Below w.heap.size w w' := by
  have HS1 := Lib.hid (fun w => szP_over a1 n1 c1 (1048576) w (by omega) (by omega) (by omega) (by omega))
  clear h1 h2
  go_enter Try.func9, Try.ntmps9
  go_wp2_with fail
  refine (HS1.out _).mono ?_
  rintro e w' ⟨rfl, rfl⟩
  go_wp2_with fail
  go_ret
  exact ⟨rfl, Below.refl _ _⟩

theorem xEulerPoly (a0 : Int) (a1 : Option Addr) (len1 c1 : Nat) (L1 : List Trm) (w : World) (h1 : RowT w a1 len1 L1) :
    Calls Try.prog 9 #[.int .i64 a0, .slice a1 len1 c1] w fun e w' => e = .returned (.bool true) ∧ Below w.heap.size w w' := by
  by_cases q1 : len1 ≤ 1048576
  · skip
    have e1 := h1.1
    subst e1
    exact xEulerPoly_in a0 a1 L1 c1 (eulV a0 L1) (isP a0 && validB a0 L1) w (h1.trms (by omega)) (by omega) (fun f1 w k1 => sEulerPoly a0 f1 L1 w k1) (fun f1 w k1 => iEulerPoly a0 f1 L1 w k1)
  · exact xEulerPoly_long0 a0 a1 len1 c1 w (by omega) h1.2.1
end Go.Proofs.Ytbgcamkclbcaiaa
namespace Go.Proofs.Ytbgcamkclbcaiaa
open Go.RowKit
set_option maxRecDepth 100000 in
set_option maxHeartbeats 8000000 in
theorem xScaleUnknowns_in (a0 : Int) (a1 : Option Addr) (L1 : List Trm) (c1 : Nat) (a2 : Int) (r0 : List Trm) (r1 : Bool) (w : World) (h1 : Trms w (.slice a1 L1.length c1) L1) (hl : L1.length ≤ 1048576)
    (hS : ∀ f1, ∀ w, Trms w f1 L1 → Calls Try.prog 45 #[.int .i64 a0, f1, .int .i64 a2] w fun e w' => ∃ u0, e = .returned (.tuple #[u0, .bool r1]) ∧ OwnTrms w' w.heap.size u0 r0 ∧ Below w.heap.size w w')
    (hI : ∀ f1, ∀ w, Trms w f1 L1 → Calls Try.prog 46 #[.int .i64 a0, f1, .int .i64 a2] w fun e w' => ∃ u0, e = .returned (.tuple #[u0, .bool r1]) ∧ OwnTrms w' w.heap.size u0 r0 ∧ Below w.heap.size w w') :
    Calls Try.prog 10 #[.int .i64 a0, .slice a1 L1.length c1, .int .i64 a2] w fun e w' => e = .returned (.bool true) ∧ Below w.heap.size w w' := by
  have m1 : (1048576 : Int) - L1.length ≥ 0 := by omega
  have HS1 := Lib.hid (fun w => szP_at a1 L1.length c1 (1048576) w (by omega) (by omega) (by omega))
  have Q1 := Lib.hid h1
  have n1 : (L1.length : Int) ≤ 1048576 := by omega
  clear h1
  have HSP := Lib.hid hS
  have HIM := Lib.hid hI
  clear hS hI
  have bb1 := bne_self2 r1
  go_enter Try.func10, Try.ntmps10
  go_wp2_with fail
  refine (HS1.out _).mono ?_
  rintro e w' ⟨rfl, rfl⟩
  have B := Lib.hid (Below.refl w.heap.size w)
  go_wp2_with fail
  refine (toP _ L1 _ (Q1.out.below B.out)).mono ?_
  rintro e W1 ⟨s1, rfl, ho, hb⟩
  have Z1 := Lib.hid hb.size
  replace B := Lib.hid (B.out.trans (hb.mono B.out.size))
  clear hb
  have S1 := Lib.hid ho.trms
  clear ho
  go_wp2_with fail
  refine (HSP.out _ _ S1.out).mono ?_
  rintro e W2 ⟨v0, rfl, hv0, hb⟩
  have Z2 := Lib.hid hb.size
  replace B := Lib.hid (B.out.trans (hb.mono B.out.size))
  replace S1 := Lib.hid (S1.out.below hb)
  clear hb
  clear S1
  have V0 := Lib.hid hv0.trms
  have z0 : (r0.length : Int) ≤ 1048576 := by have := hv0.1; omega
  clear hv0
  have X := Lib.hid (Below.refl W2.heap.size W2)
  go_wp2_with fail
  refine (toP _ L1 _ (Q1.out.below B.out)).mono ?_
  rintro e W3 ⟨x1, rfl, ho, hb⟩
  have Z3 := Lib.hid hb.size
  replace B := Lib.hid (B.out.trans (hb.mono B.out.size))
  replace X := Lib.hid (X.out.trans (hb.mono X.out.size))
  clear hb
  have O1 := Lib.hid ho
  clear ho
  have Y1 := Lib.hid (Below.refl W3.heap.size W3)
  go_wp2_with fail
  refine (HIM.out _ _ (O1.out.trms.below Y1.out)).mono ?_
  rintro e W4 ⟨g0, rfl, hg0, hb⟩
  have P1 := Lib.hid (show w.heap.size ≤ W2.heap.size ∧ W2.heap.size ≤ W2.heap.size ∧ W3.heap.size ≤ W3.heap.size by have := B.out.size; have := X.out.size; have := Z1.out; have := Z2.out; have := Z3.out; first | omega | (refine ⟨?_, ?_, ?_⟩ <;> omega))
  have PG := Lib.hid (show w.heap.size ≤ W3.heap.size ∧ W2.heap.size ≤ W3.heap.size by have := Z1.out; have := Z2.out; have := Z3.out; first | omega | (refine ⟨?_, ?_⟩ <;> omega))
  replace B := Lib.hid (B.out.trans (hb.mono B.out.size))
  replace X := Lib.hid (X.out.trans (hb.mono X.out.size))
  replace Y1 := Lib.hid (Y1.out.trans (hb.mono Y1.out.size))
  clear hb
  have G0 := Lib.hid hg0
  clear hg0
  go_wp2_with fail
  refine (eqP g0 v0 r0 _ G0.out.trms (V0.out.below X.out)).mono ?_
  rintro e W5 ⟨rfl, hb⟩
  replace B := Lib.hid (B.out.trans (hb.mono B.out.size))
  replace X := Lib.hid (X.out.trans (hb.mono X.out.size))
  replace Y1 := Lib.hid (Y1.out.trans (hb.mono Y1.out.size))
  replace G0 := Lib.hid (G0.out.below hb)
  clear hb
  go_wp2_with fail
  refine (toP _ L1 _ (Q1.out.below B.out)).mono ?_
  rintro e W6 ⟨y1, rfl, ho, hb⟩
  replace B := Lib.hid (B.out.trans (hb.mono B.out.size))
  replace X := Lib.hid (X.out.trans (hb.mono X.out.size))
  replace Y1 := Lib.hid (Y1.out.trans (hb.mono Y1.out.size))
  replace G0 := Lib.hid (G0.out.below hb)
  clear hb
  have S1 := Lib.hid ho.trms
  clear ho
  go_wp2_with fail
  refine (eqP x1 y1 L1 _ (O1.out.trms.below Y1.out) S1.out).mono ?_
  rintro e W7 ⟨rfl, hb⟩
  clear S1
  replace B := Lib.hid (B.out.trans (hb.mono B.out.size))
  replace X := Lib.hid (X.out.trans (hb.mono X.out.size))
  replace Y1 := Lib.hid (Y1.out.trans (hb.mono Y1.out.size))
  replace G0 := Lib.hid (G0.out.below hb)
  clear hb
  go_wp2_with fail
  refine (markTsame x1 L1 _ (1) W3 _ O1.out (same_of Y1.out) (by omega) (by omega)).mono ?_
  rintro e W8 ⟨rfl, hb⟩
  replace B := Lib.hid (B.out.trans (hb.low.mono P1.out.1))
  replace X := Lib.hid (X.out.trans (hb.low.mono P1.out.2.1))
  replace G0 := Lib.hid (G0.out.betw' P1.out.2.2 hb)
  clear hb
  go_wp2_with fail
  refine (eqP g0 v0 r0 _ G0.out.trms (V0.out.below X.out)).mono ?_
  rintro e W9 ⟨rfl, hb⟩
  replace B := Lib.hid (B.out.trans (hb.mono B.out.size))
  replace X := Lib.hid (X.out.trans (hb.mono X.out.size))
  replace G0 := Lib.hid (G0.out.below hb)
  clear hb
  go_wp2_with fail
  refine (markTown g0 r0 _ (1) _ G0.out (by omega) (by omega)).mono ?_
  rintro e W10 ⟨rfl, hh, hb, hs⟩
  replace B := Lib.hid (B.out.trans (hb.mono PG.out.1))
  replace X := Lib.hid (X.out.trans (hb.mono PG.out.2))
  have D0 := Lib.hid hh
  clear hh hb hs
  go_wp2_with fail
  refine (heldTown g0 r0.length _ 1 _ D0.out (by omega) (by omega)).mono ?_
  rintro e W11 ⟨rfl, rfl⟩
  go_wp2_with fail
  refine (toP _ L1 _ (Q1.out.below B.out)).mono ?_
  rintro e W12 ⟨t1, rfl, ho, hb⟩
  replace B := Lib.hid (B.out.trans (hb.mono B.out.size))
  replace X := Lib.hid (X.out.trans (hb.mono X.out.size))
  replace D0 := Lib.hid (D0.out.below hb)
  clear hb
  have S1 := Lib.hid ho.trms
  clear ho
  go_wp2_with fail
  refine (HIM.out _ _ S1.out).mono ?_
  rintro e W13 ⟨t0, rfl, ht0, hb⟩
  replace B := Lib.hid (B.out.trans (hb.mono B.out.size))
  replace X := Lib.hid (X.out.trans (hb.mono X.out.size))
  replace D0 := Lib.hid (D0.out.below hb)
  replace S1 := Lib.hid (S1.out.below hb)
  clear hb
  clear S1
  have T0 := Lib.hid ht0.trms
  clear ht0
  go_wp2_with fail
  refine (eqP t0 v0 r0 _ T0.out (V0.out.below X.out)).mono ?_
  rintro e W14 ⟨rfl, hb⟩
  replace B := Lib.hid (B.out.trans (hb.mono B.out.size))
  replace X := Lib.hid (X.out.trans (hb.mono X.out.size))
  replace D0 := Lib.hid (D0.out.below hb)
  replace T0 := Lib.hid (T0.out.below hb)
  clear hb
  go_wp2_with fail
  refine (heldTown g0 r0.length _ 1 _ D0.out (by omega) (by omega)).mono ?_
  rintro e W15 ⟨rfl, rfl⟩
  go_wp2_with fail
  go_ret
  exact ⟨rfl, B.out⟩
set_option maxHeartbeats 1000000 in
theorem xScaleUnknowns_long0 (a0 : Int) (a1 : Option Addr) (n1 c1 : Nat) (a2 : Int) (w : World) (h1 : 1048576 < n1) (h2 : n1 ≤ 9223372036854775807) :
    Calls Try.prog 10 #[.int .i64 a0, .slice a1 n1 c1, .int .i64 a2] w fun e w' => e = .returned (.bool true) ∧ Below w.heap.size w w' := by
  have HS1 := Lib.hid (fun w => szP_over a1 n1 c1 (1048576) w (by omega) (by omega) (by omega) (by omega))
  clear h1 h2
  go_enter Try.func10, Try.ntmps10
  go_wp2_with fail
  refine (HS1.out _).mono ?_
  rintro e w' ⟨rfl, rfl⟩
  go_wp2_with fail
  go_ret
  exact ⟨rfl, Below.refl _ _⟩

theorem xScaleUnknowns (a0 : Int) (a1 : Option Addr) (len1 c1 : Nat) (L1 : List Trm) (a2 : Int) (w : World) (h1 : RowT w a1 len1 L1) :
    Calls Try.prog 10 #[.int .i64 a0, .slice a1 len1 c1, .int .i64 a2] w fun e w' => e = .returned (.bool true) ∧ Below w.heap.size w w' := by
  by_cases q1 : len1 ≤ 1048576
  · skip
    have e1 := h1.1
    subst e1
    exact xScaleUnknowns_in a0 a1 L1 c1 a2 (scuV a0 a2 L1) ((isP a0 && validB a0 L1) && isE a0 a2) w (h1.trms (by omega)) (by omega) (fun f1 w k1 => sScaleUnknowns a0 f1 L1 a2 w k1) (fun f1 w k1 => iScaleUnknowns a0 f1 L1 a2 w k1)
  · exact xScaleUnknowns_long0 a0 a1 len1 c1 a2 w (by omega) h1.2.1
end Go.Proofs.Ytbgcamkclbcaiaa
