/-
  GradientOf of the program. Conditions: what the slice holds is known.
-/
import Derived.Test.YtfpjflghgmcgbaaBd10
import Derived.Test.YtfpjflghgmcgbaaBd13
import Derived.Test.YtfpjflghgmcgbaaBd15
import Derived.Test.YtfpjflghgmcgbaaBd7
import Derived.Test.YtfpjflghgmcgbaaBa13
namespace Go.Proofs.Ytfpjflghgmcgbaa
open Go.RowKit
theorem csD_dm {v : Value} {p : Int} {n i : Nat} (h1 : 1 ≤ i) (h2 : i < 63) : (dmL v p)[i]? = some (csD p (-1) (List.replicate n (-1)) i) := by
  unfold csD dmL
  obtain ⟨j, rfl⟩ : ∃ j, i = j + 1 := ⟨i - 1, by omega⟩
  rw [List.getElem?_cons_succ]
  by_cases e1 : j = 0
  · subst e1
    rw [if_pos rfl]
    rfl
  · obtain ⟨k, rfl⟩ : ∃ k, j = k + 1 := ⟨j - 1, by omega⟩
    rw [List.getElem?_cons_succ, if_neg (by omega)]
    by_cases h : k < 60
    · rw [if_pos (by omega), List.getElem?_append_left (by rw [List.length_replicate]; exact h), List.getElem?_replicate, if_pos h]
      congr 2
      rw [List.getD_eq_getElem?_getD, List.getElem?_replicate]
      split <;> rfl
    · rw [if_neg (by omega), List.getElem?_append_right (by rw [List.length_replicate]; omega), List.length_replicate]
      have : k = 60 := by omega
      subst this
      rfl
/-- the maker in its box -/
theorem DmS.laid {w2 : World} {p : Int} {L : List Gt} {b cap0 B R G : Nat} {ty : TypeId} {zs : List Value} (hG : G = w2.heap.size) (hz : zs.length = 63) (hR : RowGt w2 R (.slice (some ⟨b, 0, none⟩) L.length cap0) L) (hb : b < w2.heap.size) (hBR : B ≤ R) :
    DmS ((w2.alloc (.cells zs.toArray ty)).setCells G 0 (dmL (.slice (some ⟨b, 0, none⟩) L.length cap0) p)) G B (.slice (some ⟨b, 0, none⟩) L.length cap0) p (-1) (L, List.replicate L.length (-1)) := by
  have hT0 : CelW (w2.alloc (.cells zs.toArray ty)) G 63 (fun i => zs.getD i undef) := by rw [hG, ← hz]; exact CelW.newL w2 _ _
  have hAL := dmL_len (.slice (some ⟨b, 0, none⟩) L.length cap0) p
  have key : ∀ i, i < 63 → ((w2.alloc (.cells zs.toArray ty)).setCells G 0 (dmL (.slice (some ⟨b, 0, none⟩) L.length cap0) p)).cell? ⟨G, i, none⟩ = (dmL (.slice (some ⟨b, 0, none⟩) L.length cap0) p)[i]? := fun i hi => by
    have := World.cell?_setCells_in G (dmL (.slice (some ⟨b, 0, none⟩) L.length cap0) p) 0 (w2.alloc (.cells zs.toArray ty)) (fun k hk => by rw [Nat.zero_add, hT0.c k (by omega)]; rfl) i (by omega)
    rw [Nat.zero_add] at this
    rw [this, List.getElem?_eq_getElem (by omega)]
  have hne : (Value.slice (some ⟨b, 0, none⟩) L.length cap0).ownBlock ≠ some G := by
    intro e
    have e2 : b = G := by simpa [Value.ownBlock] using e
    omega
  have hsz : ((w2.alloc (.cells zs.toArray ty)).setCells G 0 (dmL (.slice (some ⟨b, 0, none⟩) L.length cap0) p)).heap.size = w2.heap.size + 1 := by
    rw [(setCells_frame G _ 0 _).2.2.2.1]; simp
  refine ⟨⟨?_, fun i h1 h2 => ?_, by rw [World.frozen?_setCells]; exact hT0.f 0 (by omega), by rw [hsz]; omega, fun i h1 h2 => by rw [World.frozen?_setCells]; exact hT0.f i h2⟩, ?_, hne⟩
  · rw [key 0 (by omega)]; rfl
  · rw [key i h2, csD_dm h1 h2]
  · exact ((hR.mono hBR).below (Below.alloc (Below.refl _ _) (Nat.le_refl _) _)).setCells hne 0 _
theorem MkQ.mak {w : World} {G B : Nat} {v : Value} {p one : Int} {s : List Gt × List Int} (h : DmS w G B v p one s) : MakW w G p v :=
  ⟨h.sh.c0, h.sh.oth 1 (by omega) (by omega), h.sh.f0, h.sh.lt⟩
set_option maxRecDepth 100000 in
set_option maxHeartbeats 16000000 in
theorem iGradientOf (p : Int) (f : Value) (L : List Gt) (w : World) (h : Gats w f L) :
    Calls Try.prog 14 #[.int .i64 p, f] w (GivesGr (grC p L) (grPl p L 0) (grPl p L 1) (grPl p L 2) (grB2 p L) w) := by
  obtain ⟨n, hn⟩ : ∃ n, n = w.heap.size := ⟨_, rfl⟩
  obtain ⟨W, hW⟩ : ∃ W, W = w.alloc (Obj.cells #[.slice none 0 0, .int .i64 0, .int .i64 0, .int .i64 0] 29) := ⟨_, rfl⟩
  have hA : GrAt W n (.slice none 0 0) 0 0 0 := by rw [hW, hn]; refine ⟨?_, ?_, ?_, ?_⟩ <;> simp [go_sem]
  have hAf : ∀ i, W.frozen? ⟨n, i, none⟩ = false := fun i => by rw [hW, hn]; exact World.frozen?_alloc_at _ _ _ i rfl
  have bW : Below n w W := by rw [hW, hn]; exact (by repeat (first | exact Below.refl _ _ | apply Below.drew | apply below_drewN | (refine Below.alloc ?_ (by first | omega | (simp <;> omega)) _)))
  have hsW : W.heap.size = n + 1 := by rw [hW, hn]; simp
  have hT : TBox w W n := ⟨hA, hAf, bW⟩
  have hG := h.below (hn ▸ bW)
  have HCV := Lib.hid (iCircuitValid p f L W hG)
  have HT := Lib.hid hT
  have HW := Lib.hid hW
  have HN := Lib.hid hn
  unfold GivesGr
  rw [← hn]
  cases hv : circB p L
  · have e1 : grB2 p L = false := by unfold grB2; rw [hv]; rfl
    have HE := Lib.hid (show grC p L = [] ∧ (∀ v, grPl p L v = 0) ∧ grB2 p L = false from ⟨by unfold grC; rw [if_neg (by simp [e1])], fun v => by unfold grPl; rw [if_neg (by simp [e1])], e1⟩)
    have HV := Lib.hid hv
    obtain ⟨_, a, cap, rfl, _⟩ := h
    clear hv e1 hW bW hA hAf hT hG hn
    go_enter Try.func14, Try.ntmps14
    go_wp2_with fail
    rw [← HW.out, ← HN.out]
    clear HW HN
    refine HCV.out.mono ?_
    rintro e w1 ⟨he, hb⟩
    rw [HV.out] at he
    subst he
    have hT1 := HT.out.on (hb.mono (by omega))
    obtain ⟨t0, t1, t2, t3⟩ := hT1.g
    have u0 := hT1.f 0
    have u1 := hT1.f 1
    have u2 := hT1.f 2
    have u3 := hT1.f 3
    have HT1 := Lib.hid hT1
    clear hb hT1
    go_wp2_with fail
    refine bodyPost_ret (v := .tuple #[.agg #[.slice none 0 0, .int .i64 0, .int .i64 0, .int .i64 0], .bool false]) (by simp [results, Try.results14, go_sem, t0, t1, t2, t3]) rfl ⟨_, by rw [HE.out.2.1, HE.out.2.1, HE.out.2.1, HE.out.2.2], by rw [HE.out.1]; exact ownG_nil _ _, ?_⟩
    repeat (refine Below.setCell ?_ (by first | omega | (simp; done) | (simp; omega)) _)
    exact HT1.out.b
  · obtain ⟨_, hl1, hl2, _⟩ := circB_iff.1 hv
    obtain ⟨g, off, cap, rfl, hg, hc⟩ := gats_slice h hv
    rw [← hn] at hg
    have HCw := Lib.hid hc
    have HV := Lib.hid hv
    have HPK := Lib.hid (plK_st hv L.length (Nat.le_refl _)).1.max
    have HS := Lib.hid hsW
    clear h hW bW hA hAf hT hG hn hv hc hsW
    go_enter Try.func14, Try.ntmps14
    go_wp2_with fail
    rw [← HW.out, ← HN.out]
    clear HW HN
    refine HCV.out.mono ?_
    rintro e w1 ⟨he, hb⟩
    rw [HV.out] at he
    subst he
    rw [HS.out] at hb
    have hT1 := HT.out.on hb
    have hs1 : n + 1 ≤ w1.heap.size := by have := hb.size; have := HS.out; omega
    have HGO := Lib.hid (iGoOn p L hl1 hl2 g off cap w1 (by omega) (fun j hj => (HCw.out j hj).below hT1.b hg))
    have HT1 := Lib.hid hT1
    clear hb hT1
    go_wp2_with fail
    refine HGO.out.mono ?_
    rintro e w2 ⟨v0, rfl, hR, hb2⟩
    have hz2 := hb2.size
    rcases hR.shape with ⟨_, hln⟩ | ⟨b, cap0, rfl, hb1, hbl, _, _⟩
    · subst hln
      simp at hl1
    have hAL := dmL_len (.slice (some ⟨b, 0, none⟩) L.length cap0) p
    have h1 := all_oneCell_toArray (dmL_one b L.length cap0 p)
    have hI : (Try.prog.info? 92).map (·.size) = some (dmL (.slice (some ⟨b, 0, none⟩) L.length cap0) p).toArray.size := by simp only [List.size_toArray, hAL]; exact infoD
    obtain ⟨G, hGe⟩ : ∃ G, G = w2.heap.size := ⟨_, rfl⟩
    have HGE := Lib.hid hGe
    have hzs : (.slice none 0 0 :: List.replicate 62 (.int .i64 0) : List Value).length = 63 := by simp
    have hD := DmS.laid (B := n + 1) (ty := 92) (p := p) hGe hzs hR hbl hs1
    have hT0 : CelW (w2.alloc (.cells ((.slice none 0 0 :: List.replicate 62 (.int .i64 0) : List Value).toArray) 92)) G 63 (fun i => (.slice none 0 0 :: List.replicate 62 (.int .i64 0) : List Value).getD i undef) := by rw [hGe]; exact CelW.newL w2 _ _
    have hT2 : (w2.alloc (.cells ((.slice none 0 0 :: List.replicate 62 (.int .i64 0) : List Value).toArray) 92)).there G 0 (dmL (.slice (some ⟨b, 0, none⟩) L.length cap0) p).toArray.size := by
      intro j hj
      simp only [List.size_toArray, hAL] at hj
      rw [Nat.zero_add]
      exact ⟨by rw [hT0.c j hj]; rfl, hT0.f j hj⟩
    have hb3 : Below (n + 1) w2 ((w2.alloc (.cells ((.slice none 0 0 :: List.replicate 62 (.int .i64 0) : List Value).toArray) 92)).setCells G 0 (dmL (.slice (some ⟨b, 0, none⟩) L.length cap0) p)) :=
      below_setCellsD _ _ _ _ (Below.alloc (Below.refl _ _) (by omega) _) (by omega)
    obtain ⟨w3, hw3⟩ : ∃ z, z = (w2.alloc (.cells ((.slice none 0 0 :: List.replicate 62 (.int .i64 0) : List Value).toArray) 92)).setCells G 0 (dmL (.slice (some ⟨b, 0, none⟩) L.length cap0) p) := ⟨_, rfl⟩
    rw [← hw3] at hD hb3
    have hT3 := (HT1.out.on (hb2.mono hs1)).on hb3
    have hGn : n + 1 ≤ G := by omega
    have HCB := Lib.hid (iCountBack (n + 1) G p _ L HV.out g off cap w3 hGn (by omega) hD (fun j hj => (HCw.out j hj).below hT3.b hg))
    have HT3 := Lib.hid hT3
    have HW3 := Lib.hid hw3
    clear hAL hzs hT0 hb3 hw3 hD hT3 hR hb2 hGe HGO HCV
    go_upto_region 4 with (first
      | (refine wpList_store_mid rfl 92 _ _ rfl G 0 (dmL (.slice (some ⟨b, 0, none⟩) L.length cap0) p).toArray (by rw [HGE.out]; rfl) rfl hT2 hI h1 ?_))
    change Code.wp _ _ _ _ ((w2.alloc (.cells ((.slice none 0 0 :: List.replicate 62 (.int .i64 0) : List Value).toArray) 92)).setCells G 0 (dmL (.slice (some ⟨b, 0, none⟩) L.length cap0) p))
    rw [← HW3.out, ← HGE.out]
    clear HW3 hT2 hI h1
    go_wp2_with fail
    refine HCB.out.mono ?_
    rintro e w4 ⟨v4, rfl, d4, b4, a4, m4⟩
    have hT4 := HT3.out.on b4
    have HPL := Lib.hid (iPlaces (n + 1) G p v4 L HV.out g off cap w4 hGn (by omega) d4 (fun j hj => (HCw.out j hj).below hT4.b hg))
    have HT4 := Lib.hid hT4
    clear d4 b4 a4 m4 hT4 HCB HT3
    go_wp2_with fail
    refine HPL.out.mono ?_
    rintro e w5 ⟨v5, rfl, d5, b5, a5, m5⟩
    have hT5 := HT4.out.on b5
    obtain ⟨x0, hx0⟩ : ∃ x, x = (grP L).2.getD 0 0 := ⟨_, rfl⟩
    obtain ⟨x1, hx1⟩ : ∃ x, x = (grP L).2.getD 1 0 := ⟨_, rfl⟩
    obtain ⟨x2, hx2⟩ : ∃ x, x = (grP L).2.getD 2 0 := ⟨_, rfl⟩
    rw [← hx0, ← hx1, ← hx2]
    have HX := Lib.hid (And.intro hx0 (And.intro hx1 hx2))
    obtain ⟨m, hm⟩ : ∃ m, m = (grP L).1.length := ⟨_, rfl⟩
    have HM := Lib.hid hm
    have hm361 : m ≤ 361 := by rw [hm]; exact HPK.out
    obtain ⟨q, hq⟩ : ∃ q, q = w5.heap.size := ⟨_, rfl⟩
    obtain ⟨w6, hw6⟩ : ∃ w6, w6 = w5.alloc (.cells #[.int .i64 x0, .int .i64 x1, .int .i64 x2] 27) := ⟨_, rfl⟩
    have b6 : Below w5.heap.size w5 w6 := by rw [hw6]; exact (by repeat (first | exact Below.refl _ _ | apply Below.drew | apply below_drewN | (refine Below.alloc ?_ (by first | omega | (simp <;> omega)) _)))
    have q0 : w6.cell? ⟨q, 0, none⟩ = some (.int .i64 x0) := by rw [hw6, hq]; simp [go_sem]
    have q1 : w6.cell? ⟨q, 1, none⟩ = some (.int .i64 x1) := by rw [hw6, hq]; simp [go_sem]
    have q2 : w6.cell? ⟨q, 2, none⟩ = some (.int .i64 x2) := by rw [hw6, hq]; simp [go_sem]
    have hs6 : w6.heap.size = q + 1 := by rw [hw6, hq]; simp
    have hnq : n < q := by have := d5.sh.lt; omega
    have d6 := d5.below b6
    have hT6 := hT5.on (b6.mono (by omega))
    have hO6 : OwnGats w6 (n + 1) v5 (grP L).1 := RowGt.own d6.row (by show (grP L).1.length ≤ 1048576; omega)
    have HMD := Lib.hid (iMade G p v5 (grP L).1 w6 (MkQ.mak d6) hO6.gats)
    have H6 := Lib.hid (And.intro hT6 hO6)
    have HQ := Lib.hid hq
    have HW6 := Lib.hid hw6
    obtain ⟨av, c5, hv5⟩ := MkQ.slice d6
    clear b6 hw6 hq d5 b5 a5 m5 d6 hT5 hT6 hO6 HPL HT4 hm hx0 hx1 hx2
    go_upto_region 6 with fail
    rw [← HW6.out, ← HQ.out]
    clear HW6 HQ
    go_wp2_with fail
    by_cases hm60 : (grP L).1.length ≤ 60
    · have e1 : grB2 p L = true := by unfold grB2; rw [HV.out, decide_eq_true hm60]; rfl
      have e2 : circB p (grP L).1 = true := by rw [grB2_circ HV.out, decide_eq_true hm60]
      have e3 : madeV p (grP L).1 v5 = v5 := by unfold madeV; rw [if_pos e2]
      rw [e2, e3] at HMD
      have HE := Lib.hid (show grC p L = (grP L).1 ∧ (∀ v, grPl p L v = (grP L).2.getD v 0) ∧ grB2 p L = true from ⟨by unfold grC; rw [if_pos e1], fun v => by unfold grPl; rw [if_pos e1], e1⟩)
      clear e1 e2 e3 hm60
      subst hv5
      refine HMD.out.mono ?_
      rintro e w7 ⟨rfl, b7⟩
      have hT7 := H6.out.1.on (b7.mono (by omega))
      obtain ⟨t0, t1, t2, t3⟩ := hT7.g
      have u0 := hT7.f 0
      have u1 := hT7.f 1
      have u2 := hT7.f 2
      have u3 := hT7.f 3
      have p0 := (b7.cell (p := ⟨q, 0, none⟩) (by show q < _; omega)).trans q0
      have p1 := (b7.cell (p := ⟨q, 1, none⟩) (by show q < _; omega)).trans q1
      have p2 := (b7.cell (p := ⟨q, 2, none⟩) (by show q < _; omega)).trans q2
      have H7 := Lib.hid (And.intro hT7 (H6.out.2.below b7))
      clear b7 hT7 q0 q1 q2 H6 HMD
      go_wp2_with fail
      refine bodyPost_ret (v := .tuple #[.agg #[.slice av (grP L).1.length c5, .int .i64 x0, .int .i64 x1, .int .i64 x2], .bool true]) (by simp [results, Try.results14, go_sem, t0, t1, t2, t3]) rfl ⟨_, by rw [HE.out.2.1, HE.out.2.1, HE.out.2.1, HE.out.2.2, HX.out.1, HX.out.2.1, HX.out.2.2], ?_, ?_⟩
      · rw [HE.out.1]
        exact (OwnGats.setAway (OwnGats.setAway (OwnGats.setAway (OwnGats.setAway H7.out.2 (by omega) _ _) (by omega) _ _) (by omega) _ _) (by omega) _ _).base (by omega)
      · repeat (refine Below.setCell ?_ (by first | omega | (simp; done) | (simp; omega)) _)
        exact H7.out.1.b
    · have e1 : grB2 p L = false := by unfold grB2; rw [decide_eq_false hm60]; simp
      have e2 : circB p (grP L).1 = false := by rw [grB2_circ HV.out, decide_eq_false hm60]
      have e3 : madeV p (grP L).1 v5 = .slice none 0 0 := by unfold madeV; rw [if_neg (by rw [e2]; simp)]
      rw [e2, e3] at HMD
      have HE := Lib.hid (show grC p L = [] ∧ (∀ v, grPl p L v = 0) ∧ grB2 p L = false from ⟨by unfold grC; rw [if_neg (by simp [e1])], fun v => by unfold grPl; rw [if_neg (by simp [e1])], e1⟩)
      clear e1 e2 e3 hm60
      refine HMD.out.mono ?_
      rintro e w7 ⟨rfl, b7⟩
      have hT7 := H6.out.1.on (b7.mono (by omega))
      obtain ⟨t0, t1, t2, t3⟩ := hT7.g
      have u0 := hT7.f 0
      have u1 := hT7.f 1
      have u2 := hT7.f 2
      have u3 := hT7.f 3
      have H7 := Lib.hid hT7
      clear b7 hT7 q0 q1 q2 H6 HMD
      go_wp2_with fail
      refine bodyPost_ret (v := .tuple #[.agg #[.slice none 0 0, .int .i64 0, .int .i64 0, .int .i64 0], .bool false]) (by simp [results, Try.results14, go_sem, t0, t1, t2, t3]) rfl ⟨_, by rw [HE.out.2.1, HE.out.2.1, HE.out.2.1, HE.out.2.2], by rw [HE.out.1]; exact ownG_nil _ _, ?_⟩
      repeat (refine Below.setCell ?_ (by first | omega | (simp; done) | (simp; omega)) _)
      exact H7.out.b
end Go.Proofs.Ytfpjflghgmcgbaa
