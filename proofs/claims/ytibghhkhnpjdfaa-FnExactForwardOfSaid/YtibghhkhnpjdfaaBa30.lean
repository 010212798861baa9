/-
  GradientOf of the program. Conditions: what the slice holds is known.
  ForwardOf of the program. Conditions: what the slice holds is known.
  The model's ForwardOf behind l6Forward. Conditions: what the slice holds is known.
  The model goes forward through the gates of a circuit. Conditions: what the slice holds is known; the gates are a circuit.
-/
import Derived.Test.YtibghhkhnpjdfaaBa29
import Derived.Test.YtibghhkhnpjdfaaBa18
import Derived.Test.YtibghhkhnpjdfaaBa21
import Derived.Test.YtibghhkhnpjdfaaBa17
import Derived.Test.YtibghhkhnpjdfaaBa15
import Derived.Test.YtibghhkhnpjdfaaBa23
import Derived.Test.YtibghhkhnpjdfaaBa22
import Derived.Test.YtibghhkhnpjdfaaBa16
namespace Go.Proofs.Ytibghhkhnpjdfaa
open Go.RowKit
theorem csD_dm {v : Value} {p : Int} {n i : Nat} (h1 : 1 ≤ i) (h2 : i < 63) : (dmL v p)[i]? = some (csD p (-1) (List.replicate n (-1)) i) := by
  unfold csD dmL
  obtain ⟨j, rfl⟩ : ∃ j, i = j + 1 := ⟨i - 1, by omega⟩
  rw [List.getElem?_cons_succ]
  by_cases e1 : j = 0
  · subst e1
    rw [if_pos rfl]
    rfl
  · obtain ⟨k, rfl⟩ : ∃ k, j = k + 1 := ⟨j - 1, by omega⟩
    rw [List.getElem?_cons_succ, if_neg (by omega)]
    by_cases h : k < 60
    · rw [if_pos (by omega), List.getElem?_append_left (by rw [List.length_replicate]; exact h), List.getElem?_replicate, if_pos h]
      congr 2
      rw [List.getD_eq_getElem?_getD, List.getElem?_replicate]
      split <;> rfl
    · rw [if_neg (by omega), List.getElem?_append_right (by rw [List.length_replicate]; omega), List.length_replicate]
      have : k = 60 := by omega
      subst this
      rfl
/-- the maker in its box -/
theorem DmS.laid {w2 : World} {p : Int} {L : List Gt} {b cap0 B R G : Nat} {ty : TypeId} {zs : List Value} (hG : G = w2.heap.size) (hz : zs.length = 63) (hR : RowGt w2 R (.slice (some ⟨b, 0, none⟩) L.length cap0) L) (hb : b < w2.heap.size) (hBR : B ≤ R) :
    DmS ((w2.alloc (.cells zs.toArray ty)).setCells G 0 (dmL (.slice (some ⟨b, 0, none⟩) L.length cap0) p)) G B (.slice (some ⟨b, 0, none⟩) L.length cap0) p (-1) (L, List.replicate L.length (-1)) := by
  have hT0 : CelW (w2.alloc (.cells zs.toArray ty)) G 63 (fun i => zs.getD i undef) := by rw [hG, ← hz]; exact CelW.newL w2 _ _
  have hAL := dmL_len (.slice (some ⟨b, 0, none⟩) L.length cap0) p
  have key : ∀ i, i < 63 → ((w2.alloc (.cells zs.toArray ty)).setCells G 0 (dmL (.slice (some ⟨b, 0, none⟩) L.length cap0) p)).cell? ⟨G, i, none⟩ = (dmL (.slice (some ⟨b, 0, none⟩) L.length cap0) p)[i]? := fun i hi => by
    have := World.cell?_setCells_in G (dmL (.slice (some ⟨b, 0, none⟩) L.length cap0) p) 0 (w2.alloc (.cells zs.toArray ty)) (fun k hk => by rw [Nat.zero_add, hT0.c k (by omega)]; rfl) i (by omega)
    rw [Nat.zero_add] at this
    rw [this, List.getElem?_eq_getElem (by omega)]
  have hne : (Value.slice (some ⟨b, 0, none⟩) L.length cap0).ownBlock ≠ some G := by
    intro e
    have e2 : b = G := by simpa [Value.ownBlock] using e
    omega
  have hsz : ((w2.alloc (.cells zs.toArray ty)).setCells G 0 (dmL (.slice (some ⟨b, 0, none⟩) L.length cap0) p)).heap.size = w2.heap.size + 1 := by
    rw [(setCells_frame G _ 0 _).2.2.2.1]; simp
  refine ⟨⟨?_, fun i h1 h2 => ?_, by rw [World.frozen?_setCells]; exact hT0.f 0 (by omega), by rw [hsz]; omega, fun i h1 h2 => by rw [World.frozen?_setCells]; exact hT0.f i h2⟩, ?_, hne⟩
  · rw [key 0 (by omega)]; rfl
  · rw [key i h2, csD_dm h1 h2]
  · exact ((hR.mono hBR).below (Below.alloc (Below.refl _ _) (Nat.le_refl _) _)).setCells hne 0 _
theorem MkQ.mak {w : World} {G B : Nat} {v : Value} {p one : Int} {s : List Gt × List Int} (h : DmS w G B v p one s) : MakW w G p v :=
  ⟨h.sh.c0, h.sh.oth 1 (by omega) (by omega), h.sh.f0, h.sh.lt⟩
set_option maxRecDepth 100000 in
set_option maxHeartbeats 16000000 in
theorem iGradientOf (p : Int) (f : Value) (L : List Gt) (w : World) (h : Gats w f L) :
    Calls Try.prog 73 #[.int .i64 p, f] w (GivesGr (grC p L) (grPl p L 0) (grPl p L 1) (grPl p L 2) (grB2 p L) w) := by
  obtain ⟨n, hn⟩ : ∃ n, n = w.heap.size := ⟨_, rfl⟩
  obtain ⟨W, hW⟩ : ∃ W, W = w.alloc (Obj.cells #[.slice none 0 0, .int .i64 0, .int .i64 0, .int .i64 0] 78) := ⟨_, rfl⟩
  have hA : GrAt W n (.slice none 0 0) 0 0 0 := by rw [hW, hn]; refine ⟨?_, ?_, ?_, ?_⟩ <;> simp [go_sem]
  have hAf : ∀ i, W.frozen? ⟨n, i, none⟩ = false := fun i => by rw [hW, hn]; exact World.frozen?_alloc_at _ _ _ i rfl
  have bW : Below n w W := by rw [hW, hn]; exact (by repeat (first | exact Below.refl _ _ | apply Below.drew | apply below_drewN | (refine Below.alloc ?_ (by first | omega | (simp <;> omega)) _)))
  have hsW : W.heap.size = n + 1 := by rw [hW, hn]; simp
  have hT : TBox w W n := ⟨hA, hAf, bW⟩
  have hG := h.below (hn ▸ bW)
  have HCV := Lib.hid (iCircuitValid p f L W hG)
  have HT := Lib.hid hT
  have HW := Lib.hid hW
  have HN := Lib.hid hn
  unfold GivesGr
  rw [← hn]
  cases hv : circB p L
  · have e1 : grB2 p L = false := by unfold grB2; rw [hv]; rfl
    have HE := Lib.hid (show grC p L = [] ∧ (∀ v, grPl p L v = 0) ∧ grB2 p L = false from ⟨by unfold grC; rw [if_neg (by simp [e1])], fun v => by unfold grPl; rw [if_neg (by simp [e1])], e1⟩)
    have HV := Lib.hid hv
    obtain ⟨_, a, cap, rfl, _⟩ := h
    clear hv e1 hW bW hA hAf hT hG hn
    go_enter Try.func73, Try.ntmps73
    go_wp2_with fail
    rw [← HW.out, ← HN.out]
    clear HW HN
    refine HCV.out.mono ?_
    rintro e w1 ⟨he, hb⟩
    rw [HV.out] at he
    subst he
    have hT1 := HT.out.on (hb.mono (by omega))
    obtain ⟨t0, t1, t2, t3⟩ := hT1.g
    have u0 := hT1.f 0
    have u1 := hT1.f 1
    have u2 := hT1.f 2
    have u3 := hT1.f 3
    have HT1 := Lib.hid hT1
    clear hb hT1
    go_wp2_with fail
    refine bodyPost_ret (v := .tuple #[.agg #[.slice none 0 0, .int .i64 0, .int .i64 0, .int .i64 0], .bool false]) (by simp [results, Try.results73, go_sem, t0, t1, t2, t3]) rfl ⟨_, by rw [HE.out.2.1, HE.out.2.1, HE.out.2.1, HE.out.2.2], by rw [HE.out.1]; exact ownG_nil _ _, ?_⟩
    repeat (refine Below.setCell ?_ (by first | omega | (simp; done) | (simp; omega)) _)
    exact HT1.out.b
  · obtain ⟨_, hl1, hl2, _⟩ := circB_iff.1 hv
    obtain ⟨g, off, cap, rfl, hg, hc⟩ := gats_slice h hv
    rw [← hn] at hg
    have HCw := Lib.hid hc
    have HV := Lib.hid hv
    have HPK := Lib.hid (plK_st hv L.length (Nat.le_refl _)).1.max
    have HS := Lib.hid hsW
    clear h hW bW hA hAf hT hG hn hv hc hsW
    go_enter Try.func73, Try.ntmps73
    go_wp2_with fail
    rw [← HW.out, ← HN.out]
    clear HW HN
    refine HCV.out.mono ?_
    rintro e w1 ⟨he, hb⟩
    rw [HV.out] at he
    subst he
    rw [HS.out] at hb
    have hT1 := HT.out.on hb
    have hs1 : n + 1 ≤ w1.heap.size := by have := hb.size; have := HS.out; omega
    have HGO := Lib.hid (iGoOn p L hl1 hl2 g off cap w1 (by omega) (fun j hj => (HCw.out j hj).below hT1.b hg))
    have HT1 := Lib.hid hT1
    clear hb hT1
    go_wp2_with fail
    refine HGO.out.mono ?_
    rintro e w2 ⟨v0, rfl, hR, hb2⟩
    have hz2 := hb2.size
    rcases hR.shape with ⟨_, hln⟩ | ⟨b, cap0, rfl, hb1, hbl, _, _⟩
    · subst hln
      simp at hl1
    have hAL := dmL_len (.slice (some ⟨b, 0, none⟩) L.length cap0) p
    have h1 := all_oneCell_toArray (dmL_one b L.length cap0 p)
    have hI : (Try.prog.info? 171).map (·.size) = some (dmL (.slice (some ⟨b, 0, none⟩) L.length cap0) p).toArray.size := by simp only [List.size_toArray, hAL]; exact infoD
    obtain ⟨G, hGe⟩ : ∃ G, G = w2.heap.size := ⟨_, rfl⟩
    have HGE := Lib.hid hGe
    have hzs : (.slice none 0 0 :: List.replicate 62 (.int .i64 0) : List Value).length = 63 := by simp
    have hD := DmS.laid (B := n + 1) (ty := 171) (p := p) hGe hzs hR hbl hs1
    have hT0 : CelW (w2.alloc (.cells ((.slice none 0 0 :: List.replicate 62 (.int .i64 0) : List Value).toArray) 171)) G 63 (fun i => (.slice none 0 0 :: List.replicate 62 (.int .i64 0) : List Value).getD i undef) := by rw [hGe]; exact CelW.newL w2 _ _
    have hT2 : (w2.alloc (.cells ((.slice none 0 0 :: List.replicate 62 (.int .i64 0) : List Value).toArray) 171)).there G 0 (dmL (.slice (some ⟨b, 0, none⟩) L.length cap0) p).toArray.size := by
      intro j hj
      simp only [List.size_toArray, hAL] at hj
      rw [Nat.zero_add]
      exact ⟨by rw [hT0.c j hj]; rfl, hT0.f j hj⟩
    have hb3 : Below (n + 1) w2 ((w2.alloc (.cells ((.slice none 0 0 :: List.replicate 62 (.int .i64 0) : List Value).toArray) 171)).setCells G 0 (dmL (.slice (some ⟨b, 0, none⟩) L.length cap0) p)) :=
      below_setCellsD _ _ _ _ (Below.alloc (Below.refl _ _) (by omega) _) (by omega)
    obtain ⟨w3, hw3⟩ : ∃ z, z = (w2.alloc (.cells ((.slice none 0 0 :: List.replicate 62 (.int .i64 0) : List Value).toArray) 171)).setCells G 0 (dmL (.slice (some ⟨b, 0, none⟩) L.length cap0) p) := ⟨_, rfl⟩
    rw [← hw3] at hD hb3
    have hT3 := (HT1.out.on (hb2.mono hs1)).on hb3
    have hGn : n + 1 ≤ G := by omega
    have HCB := Lib.hid (iCountBack (n + 1) G p _ L HV.out g off cap w3 hGn (by omega) hD (fun j hj => (HCw.out j hj).below hT3.b hg))
    have HT3 := Lib.hid hT3
    have HW3 := Lib.hid hw3
    clear hAL hzs hT0 hb3 hw3 hD hT3 hR hb2 hGe HGO HCV
    go_upto_region 4 with (first
      | (refine wpList_store_mid rfl 171 _ _ rfl G 0 (dmL (.slice (some ⟨b, 0, none⟩) L.length cap0) p).toArray (by rw [HGE.out]; rfl) rfl hT2 hI h1 ?_))
    change Code.wp _ _ _ _ ((w2.alloc (.cells ((.slice none 0 0 :: List.replicate 62 (.int .i64 0) : List Value).toArray) 171)).setCells G 0 (dmL (.slice (some ⟨b, 0, none⟩) L.length cap0) p))
    rw [← HW3.out, ← HGE.out]
    clear HW3 hT2 hI h1
    go_wp2_with fail
    refine HCB.out.mono ?_
    rintro e w4 ⟨v4, rfl, d4, b4, a4, m4⟩
    have hT4 := HT3.out.on b4
    have HPL := Lib.hid (iPlaces (n + 1) G p v4 L HV.out g off cap w4 hGn (by omega) d4 (fun j hj => (HCw.out j hj).below hT4.b hg))
    have HT4 := Lib.hid hT4
    clear d4 b4 a4 m4 hT4 HCB HT3
    go_wp2_with fail
    refine HPL.out.mono ?_
    rintro e w5 ⟨v5, rfl, d5, b5, a5, m5⟩
    have hT5 := HT4.out.on b5
    obtain ⟨x0, hx0⟩ : ∃ x, x = (grP L).2.getD 0 0 := ⟨_, rfl⟩
    obtain ⟨x1, hx1⟩ : ∃ x, x = (grP L).2.getD 1 0 := ⟨_, rfl⟩
    obtain ⟨x2, hx2⟩ : ∃ x, x = (grP L).2.getD 2 0 := ⟨_, rfl⟩
    rw [← hx0, ← hx1, ← hx2]
    have HX := Lib.hid (And.intro hx0 (And.intro hx1 hx2))
    obtain ⟨m, hm⟩ : ∃ m, m = (grP L).1.length := ⟨_, rfl⟩
    have HM := Lib.hid hm
    have hm361 : m ≤ 361 := by rw [hm]; exact HPK.out
    obtain ⟨q, hq⟩ : ∃ q, q = w5.heap.size := ⟨_, rfl⟩
    obtain ⟨w6, hw6⟩ : ∃ w6, w6 = w5.alloc (.cells #[.int .i64 x0, .int .i64 x1, .int .i64 x2] 35) := ⟨_, rfl⟩
    have b6 : Below w5.heap.size w5 w6 := by rw [hw6]; exact (by repeat (first | exact Below.refl _ _ | apply Below.drew | apply below_drewN | (refine Below.alloc ?_ (by first | omega | (simp <;> omega)) _)))
    have q0 : w6.cell? ⟨q, 0, none⟩ = some (.int .i64 x0) := by rw [hw6, hq]; simp [go_sem]
    have q1 : w6.cell? ⟨q, 1, none⟩ = some (.int .i64 x1) := by rw [hw6, hq]; simp [go_sem]
    have q2 : w6.cell? ⟨q, 2, none⟩ = some (.int .i64 x2) := by rw [hw6, hq]; simp [go_sem]
    have hs6 : w6.heap.size = q + 1 := by rw [hw6, hq]; simp
    have hnq : n < q := by have := d5.sh.lt; omega
    have d6 := d5.below b6
    have hT6 := hT5.on (b6.mono (by omega))
    have hO6 : OwnGats w6 (n + 1) v5 (grP L).1 := RowGt.own d6.row (by show (grP L).1.length ≤ 1048576; omega)
    have HMD := Lib.hid (iMade G p v5 (grP L).1 w6 (MkQ.mak d6) hO6.gats)
    have H6 := Lib.hid (And.intro hT6 hO6)
    have HQ := Lib.hid hq
    have HW6 := Lib.hid hw6
    obtain ⟨av, c5, hv5⟩ := MkQ.slice d6
    clear b6 hw6 hq d5 b5 a5 m5 d6 hT5 hT6 hO6 HPL HT4 hm hx0 hx1 hx2
    go_upto_region 6 with fail
    rw [← HW6.out, ← HQ.out]
    clear HW6 HQ
    go_wp2_with fail
    by_cases hm60 : (grP L).1.length ≤ 60
    · have e1 : grB2 p L = true := by unfold grB2; rw [HV.out, decide_eq_true hm60]; rfl
      have e2 : circB p (grP L).1 = true := by rw [grB2_circ HV.out, decide_eq_true hm60]
      have e3 : madeV p (grP L).1 v5 = v5 := by unfold madeV; rw [if_pos e2]
      rw [e2, e3] at HMD
      have HE := Lib.hid (show grC p L = (grP L).1 ∧ (∀ v, grPl p L v = (grP L).2.getD v 0) ∧ grB2 p L = true from ⟨by unfold grC; rw [if_pos e1], fun v => by unfold grPl; rw [if_pos e1], e1⟩)
      clear e1 e2 e3 hm60
      subst hv5
      refine HMD.out.mono ?_
      rintro e w7 ⟨rfl, b7⟩
      have hT7 := H6.out.1.on (b7.mono (by omega))
      obtain ⟨t0, t1, t2, t3⟩ := hT7.g
      have u0 := hT7.f 0
      have u1 := hT7.f 1
      have u2 := hT7.f 2
      have u3 := hT7.f 3
      have p0 := (b7.cell (p := ⟨q, 0, none⟩) (by show q < _; omega)).trans q0
      have p1 := (b7.cell (p := ⟨q, 1, none⟩) (by show q < _; omega)).trans q1
      have p2 := (b7.cell (p := ⟨q, 2, none⟩) (by show q < _; omega)).trans q2
      have H7 := Lib.hid (And.intro hT7 (H6.out.2.below b7))
      clear b7 hT7 q0 q1 q2 H6 HMD
      go_wp2_with fail
      refine bodyPost_ret (v := .tuple #[.agg #[.slice av (grP L).1.length c5, .int .i64 x0, .int .i64 x1, .int .i64 x2], .bool true]) (by simp [results, Try.results73, go_sem, t0, t1, t2, t3]) rfl ⟨_, by rw [HE.out.2.1, HE.out.2.1, HE.out.2.1, HE.out.2.2, HX.out.1, HX.out.2.1, HX.out.2.2], ?_, ?_⟩
      · rw [HE.out.1]
        exact (OwnGats.setAway (OwnGats.setAway (OwnGats.setAway (OwnGats.setAway H7.out.2 (by omega) _ _) (by omega) _ _) (by omega) _ _) (by omega) _ _).base (by omega)
      · repeat (refine Below.setCell ?_ (by first | omega | (simp; done) | (simp; omega)) _)
        exact H7.out.1.b
    · have e1 : grB2 p L = false := by unfold grB2; rw [decide_eq_false hm60]; simp
      have e2 : circB p (grP L).1 = false := by rw [grB2_circ HV.out, decide_eq_false hm60]
      have e3 : madeV p (grP L).1 v5 = .slice none 0 0 := by unfold madeV; rw [if_neg (by rw [e2]; simp)]
      rw [e2, e3] at HMD
      have HE := Lib.hid (show grC p L = [] ∧ (∀ v, grPl p L v = 0) ∧ grB2 p L = false from ⟨by unfold grC; rw [if_neg (by simp [e1])], fun v => by unfold grPl; rw [if_neg (by simp [e1])], e1⟩)
      clear e1 e2 e3 hm60
      refine HMD.out.mono ?_
      rintro e w7 ⟨rfl, b7⟩
      have hT7 := H6.out.1.on (b7.mono (by omega))
      obtain ⟨t0, t1, t2, t3⟩ := hT7.g
      have u0 := hT7.f 0
      have u1 := hT7.f 1
      have u2 := hT7.f 2
      have u3 := hT7.f 3
      have H7 := Lib.hid hT7
      clear b7 hT7 q0 q1 q2 H6 HMD
      go_wp2_with fail
      refine bodyPost_ret (v := .tuple #[.agg #[.slice none 0 0, .int .i64 0, .int .i64 0, .int .i64 0], .bool false]) (by simp [results, Try.results73, go_sem, t0, t1, t2, t3]) rfl ⟨_, by rw [HE.out.2.1, HE.out.2.1, HE.out.2.1, HE.out.2.2], by rw [HE.out.1]; exact ownG_nil _ _, ?_⟩
      repeat (refine Below.setCell ?_ (by first | omega | (simp; done) | (simp; omega)) _)
      exact H7.out.b
end Go.Proofs.Ytibghhkhnpjdfaa
namespace Go.Proofs.Ytibghhkhnpjdfaa
open Go.RowKit
/-- the number of the derivative's gate, or -1 -/
def fwR (L : List Gt) (vv : Int) : Int := (fwN L vv L.length).2.2.getD (L.length - 1) 0
def fwV (p vv : Int) (L : List Gt) : List Gt := if circB p L && inB vv 0 2 then (if fwR L vv < 0 then [⟨1, 0, 0⟩] else prnV p (fwC L vv)) else []
def fwO (p vv : Int) (L : List Gt) : Bool := circB p L && inB vv 0 2 && (decide (fwR L vv < 0) || circB p (fwC L vv))
theorem gats_take {w : World} {B : Nat} {a : Option Addr} {n cap m : Nat} {C : List Gt} (h : OwnGats w B (.slice a n cap) C) (hm : m ≤ C.length) : Gats w (.slice a m cap) (C.take m) := by
  obtain ⟨h1, a', cap', e, h2⟩ := h
  injection e with e1 e2 e3
  subst e1 e3
  refine ⟨by simp; omega, a, cap, by simp [hm], ?_⟩
  rcases h2 with rfl | ⟨g, off, rfl, _, hg, hc, _⟩
  · exact .inl (by simp)
  · refine .inr ⟨g, off, rfl, hg, fun j hj => ?_⟩
    have hj2 : j < m ∧ j < C.length := by
      have : j < min m C.length := by simpa using hj
      omega
    have := hc j hj2.2
    rwa [show (C.take m).getD j default = C.getD j default by simp [List.getD_eq_getElem?_getD, hj2.1]]
set_option maxRecDepth 100000 in
set_option maxHeartbeats 16000000 in
theorem iForwardOf (p vv : Int) (f : Value) (L : List Gt) (w : World) (h : Gats w f L) :
    Calls Try.prog 59 #[.int .i64 p, f, .int .i64 vv] w (GivesGB (fwV p vv L) (fwO p vv L) w) := by
  obtain ⟨n, hn⟩ : ∃ n, n = w.heap.size := ⟨_, rfl⟩
  have HCV := Lib.hid (iCircuitValid p f L w h)
  have HN := Lib.hid hn
  unfold GivesGB
  rw [← hn]
  cases hv : circB p L
  · have HE := Lib.hid (show fwV p vv L = [] ∧ fwO p vv L = false from ⟨by unfold fwV; rw [hv]; rfl, by unfold fwO; rw [hv]; rfl⟩)
    have HV := Lib.hid hv
    obtain ⟨_, a, cap, rfl, _⟩ := h
    clear hv hn
    go_enter Try.func59, Try.ntmps59
    go_wp2_with fail
    refine HCV.out.mono ?_
    rintro e w1 ⟨he, hb⟩
    rw [HV.out] at he
    subst he
    rw [← HN.out] at hb
    have HB := Lib.hid hb
    clear hb
    go_wp2_with fail
    refine bodyPost_ret (v := .tuple #[.slice none 0 0, .bool false]) (by simp [results, Try.results59, go_sem]) rfl ⟨_, by rw [HE.out.2], by rw [HE.out.1]; exact ownG_nil _ _, HB.out⟩
  · obtain ⟨_, hl1, hl2, _⟩ := circB_iff.1 hv
    obtain ⟨g, off, cap, rfl, hg, hc⟩ := gats_slice h hv
    cases hu : inB vv 0 2
    · have HE := Lib.hid (show fwV p vv L = [] ∧ fwO p vv L = false from ⟨by unfold fwV; rw [hv, hu]; rfl, by unfold fwO; rw [hv, hu]; rfl⟩)
      have HV := Lib.hid hv
      have HU := Lib.hid (fun w => iUnkG false vv hu w)
      clear hv hn hu h hg hc
      go_enter Try.func59, Try.ntmps59
      go_wp2_with fail
      refine HCV.out.mono ?_
      rintro e w1 ⟨he, hb⟩
      rw [HV.out] at he
      subst he
      rw [← HN.out] at hb
      have HB := Lib.hid hb
      clear hb
      go_wp2_with fail
      refine (HU.out _).mono ?_
      rintro e w2 ⟨rfl, rfl⟩
      go_wp2_with fail
      refine bodyPost_ret (v := .tuple #[.slice none 0 0, .bool false]) (by simp [results, Try.results59, go_sem]) rfl ⟨_, by rw [HE.out.2], by rw [HE.out.1]; exact ownG_nil _ _, HB.out⟩
    · rw [← hn] at hg
      have HCw := Lib.hid hc
      have HV := Lib.hid hv
      have HUB := Lib.hid hu
      have HU := Lib.hid (fun w => iUnkG true vv hu w)
      obtain ⟨q, hq⟩ : ∃ q, L.length = q + 1 := ⟨L.length - 1, by omega⟩
      have hq1 : (L.length : Int) - 1 = (q : Int) := by omega
      have hq60 : (q : Int) < 60 := by omega
      have hq0 : (0 : Int) ≤ q := by omega
      have HQ := Lib.hid (And.intro hq hq1)
      clear h hv hn hu hc hq hq1
      go_enter Try.func59, Try.ntmps59
      go_wp2_with fail
      refine HCV.out.mono ?_
      rintro e w1 ⟨he, hb⟩
      rw [HV.out] at he
      subst he
      rw [← HN.out] at hb
      have hs1 : n ≤ w1.heap.size := by have := hb.size; have := HN.out; omega
      have HB1 := Lib.hid hb
      have HGO := Lib.hid (iGoOn p L hl1 hl2 g off cap w1 (by omega) (fun j hj => (HCw.out j hj).below hb hg))
      clear hb
      go_wp2_with fail
      refine (HU.out _).mono ?_
      rintro e w1' ⟨rfl, rfl⟩
      go_wp2_with fail
      refine HGO.out.mono ?_
      rintro e w2 ⟨v0, rfl, hR, hb2⟩
      have hz2 := hb2.size
      rcases hR.shape with ⟨_, hln⟩ | ⟨b, cap0, rfl, hb1, hbl, _, _⟩
      · subst hln
        simp at hl1
      have hAL := dmL_len (.slice (some ⟨b, 0, none⟩) L.length cap0) p
      have h1 := all_oneCell_toArray (dmL_one b L.length cap0 p)
      have hI : (Try.prog.info? 171).map (·.size) = some (dmL (.slice (some ⟨b, 0, none⟩) L.length cap0) p).toArray.size := by simp only [List.size_toArray, hAL]; exact infoD
      obtain ⟨G, hGe⟩ : ∃ G, G = w2.heap.size := ⟨_, rfl⟩
      have HGE := Lib.hid hGe
      have hzs : (.slice none 0 0 :: List.replicate 62 (.int .i64 0) : List Value).length = 63 := by simp
      have hD := DmS.laid (B := n) (ty := 171) (p := p) hGe hzs hR hbl hs1
      have hT0 : CelW (w2.alloc (.cells ((.slice none 0 0 :: List.replicate 62 (.int .i64 0) : List Value).toArray) 171)) G 63 (fun i => (.slice none 0 0 :: List.replicate 62 (.int .i64 0) : List Value).getD i undef) := by rw [hGe]; exact CelW.newL w2 _ _
      have hT2 : (w2.alloc (.cells ((.slice none 0 0 :: List.replicate 62 (.int .i64 0) : List Value).toArray) 171)).there G 0 (dmL (.slice (some ⟨b, 0, none⟩) L.length cap0) p).toArray.size := by
        intro j hj
        simp only [List.size_toArray, hAL] at hj
        rw [Nat.zero_add]
        exact ⟨by rw [hT0.c j hj]; rfl, hT0.f j hj⟩
      have hb3 : Below n w2 ((w2.alloc (.cells ((.slice none 0 0 :: List.replicate 62 (.int .i64 0) : List Value).toArray) 171)).setCells G 0 (dmL (.slice (some ⟨b, 0, none⟩) L.length cap0) p)) :=
        below_setCellsD _ _ _ _ (Below.alloc (Below.refl _ _) (by omega) _) (by omega)
      obtain ⟨w3, hw3⟩ : ∃ z, z = (w2.alloc (.cells ((.slice none 0 0 :: List.replicate 62 (.int .i64 0) : List Value).toArray) 171)).setCells G 0 (dmL (.slice (some ⟨b, 0, none⟩) L.length cap0) p) := ⟨_, rfl⟩
      rw [← hw3] at hD hb3
      have hB3 : Below n w w3 := (HB1.out.trans (hb2.mono hs1)).trans hb3
      have hGn : n ≤ G := by omega
      have HCF := Lib.hid (iCountForward n G p vv _ L HV.out g off cap w3 hGn hg hD (fun j hj => (HCw.out j hj).below hB3 hg))
      have HB3 := Lib.hid hB3
      have HW3 := Lib.hid hw3
      clear hAL hzs hT0 hb3 hw3 hD hB3 hR hb2 hGe HGO HCV HB1
      go_upto_region 4 with (first
        | (refine wpList_store_mid rfl 171 _ _ rfl G 0 (dmL (.slice (some ⟨b, 0, none⟩) L.length cap0) p).toArray (by rw [HGE.out]; rfl) rfl hT2 hI h1 ?_))
      change Code.wp _ _ _ _ ((w2.alloc (.cells ((.slice none 0 0 :: List.replicate 62 (.int .i64 0) : List Value).toArray) 171)).setCells G 0 (dmL (.slice (some ⟨b, 0, none⟩) L.length cap0) p))
      rw [← HW3.out, ← HGE.out]
      clear HW3 hT2 hI h1
      go_wp2_with fail
      refine HCF.out.mono ?_
      rintro e w4 ⟨v4, rfl, hF⟩
      obtain ⟨hfs, _, _⟩ := fwN_st (v := vv) HV.out L.length (Nat.le_refl _)
      obtain ⟨r, hr⟩ : ∃ r, r = fwR L vv := ⟨_, rfl⟩
      have hlen := hfs.st.len
      have hmx := hfs.st.max
      have hrb := hfs.st.lo q (by have := HQ.out.1; omega)
      have eq1 : L.length - 1 = q := by have := HQ.out.1; omega
      have hr2 : r = (fwN L vv L.length).2.2.getD q 0 := by rw [hr]; unfold fwR; rw [eq1]
      rw [← hr2] at hrb
      have xg : w4.cell? ⟨G, 2 + q, none⟩ = some (.int .i64 r) := by
        rw [hF.1.sh.oth (2 + q) (by omega) (by omega), hr2]
        exact congrArg some (csD_at (by omega) (by omega))
      have HF := Lib.hid hF
      have HR := Lib.hid (And.intro hr hr2)
      have HLen := Lib.hid hlen
      clear hF HCF hfs hlen eq1 hr hr2
      go_wp2_with fail
      refine (iLast _ L.length _ q (by omega) HQ.out.2 _).mono ?_
      rintro e w' ⟨rfl, rfl⟩
      by_cases hneg : r = -1
      · have HE := Lib.hid (show fwV p vv L = [⟨1, 0, 0⟩] ∧ fwO p vv L = true by
          have : fwR L vv < 0 := by rw [← HR.out.1]; omega
          exact ⟨by unfold fwV; rw [HV.out, HUB.out]; exact (if_pos rfl).trans (if_pos this), by unfold fwO; rw [HV.out, HUB.out, decide_eq_true this]; rfl⟩)
        subst hneg
        go_wp2_with fail
        have bA : Below n w4 (w4.alloc (Obj.cells #[.int .i64 1, .int .i64 0, .int .i64 0] 116)) := Below.alloc (Below.refl _ _) (by have := HF.out.1.sh.lt; omega) _
        refine bodyPost_ret (v := .tuple #[.slice (some ⟨w4.heap.size, 0, none⟩) 1 1, .bool true]) (by simp [results, Try.results59, go_sem]) rfl ⟨_, by rw [HE.out.2], ?_, (HB3.out.trans HF.out.2.1).trans bA⟩
        rw [HE.out.1]
        refine ⟨by simp, _, 1, rfl, .inr ⟨w4.heap.size, 0, rfl, by have := HF.out.1.sh.lt; omega, by simp, fun j hj => ?_, fun i _ => World.frozen?_alloc_at _ _ _ _ rfl⟩⟩
        have : j = 0 := by simpa using hj
        subst this
        refine ⟨?_, ?_, ?_⟩ <;> simp [go_sem]
      · obtain ⟨k, rfl⟩ := Int.eq_ofNat_of_zero_le (show 0 ≤ r by omega)
        obtain ⟨C, hC⟩ : ∃ C, C = (fwN L vv L.length).2.1 := ⟨_, rfl⟩
        rw [← hC] at hrb hmx
        have hkC : k < C.length := by omega
        have hRow : RowGt w4 n v4 C := by rw [hC]; exact HF.out.1.row
        have c0 := HF.out.1.sh.c0
        rcases hRow.shape with ⟨_, hCn⟩ | ⟨g4, c4, rfl, hg4, hg4l, hCc, hcm⟩
        · subst hCn
          simp at hkC
        · have hO := hRow.own (by omega)
          have HPR := Lib.hid (iPruneCircuit p (.slice (some ⟨g4, 0, none⟩) (k + 1) c4) (C.take (k + 1)) w4 (gats_take hO (by omega)))
          have hfc : fwC L vv = C.take (k + 1) := by
            unfold fwC
            have e : (fwN L vv L.length).2.2.getD (L.length - 1) 0 = (k : Int) := HR.out.1.symm
            rw [e, if_neg (by omega), ← hC]
            congr 1
          have HE := Lib.hid (show fwV p vv L = prnV p (C.take (k + 1)) ∧ fwO p vv L = circB p (C.take (k + 1)) by
            have : ¬ fwR L vv < 0 := by rw [← HR.out.1]; omega
            exact ⟨by unfold fwV; rw [HV.out, HUB.out, ← hfc]; exact (if_pos rfl).trans (if_neg this), by unfold fwO; rw [HV.out, HUB.out, decide_eq_false this, ← hfc]; simp⟩)
          have hwk : IntKind.i64.wrap ((k : Int) + 1) = ((k + 1 : Nat) : Int) := by
            rw [IntWalk.i64_in _ (by omega)]; simp
          have hkc : (k : Int) + 1 ≤ (c4 : Int) := by omega
          have hkc2 : k + 1 ≤ c4 := by omega
          clear hRow hO hfc hC hcm
          go_wp2_with fail
          refine HPR.out.mono ?_
          rintro e w5 ⟨u, rfl, hu, hb5⟩
          have hnw : n ≤ w4.heap.size := by have := HF.out.1.sh.lt; omega
          have HR5 := Lib.hid (And.intro (hu.base hnw) ((HB3.out.trans HF.out.2.1).trans (hb5.mono hnw)))
          obtain ⟨o, ho⟩ : ∃ o, o = circB p (C.take (k + 1)) := ⟨_, rfl⟩
          rw [← ho] at HE ⊢
          clear hu hb5 c0 xg ho
          go_wp2_with fail
          refine bodyPost_ret (v := .tuple #[u, .bool o]) (by simp [results, Try.results59, go_sem]) rfl ⟨_, by rw [HE.out.2], by rw [HE.out.1]; exact HR5.out.1, HR5.out.2⟩
end Go.Proofs.Ytibghhkhnpjdfaa
namespace Go.Proofs.Ytibghhkhnpjdfaa
open Go.RowKit
theorem circ1 {p : Int} {L : List Gt} (hv : circB p L = true) : circB p [⟨1, 0, 0⟩] = true := by
  obtain ⟨hp, _, _, _⟩ := circB_iff.1 hv
  have hb := isP_bd hp
  refine circB_iff.2 ⟨hp, by simp, by simp, fun j hj => ?_⟩
  have : j = 0 := by simpa using hj
  subst this
  simp [gOK, inB, gAt]
  omega
theorem prn1 {p : Int} {L : List Gt} (hv : circB p L = true) : prnV p [⟨1, 0, 0⟩] = [⟨1, 0, 0⟩] := by
  unfold prnV
  rw [circ1 hv]
  rfl
/-- what both return of a valid circuit -/
theorem fw_both {p vv : Int} {L : List Gt} (hv : circB p L = true) (hu : inB vv 0 2 = true) : fwV p vv L = prnV p (fwC L vv) ∧ fwO p vv L = circB p (fwC L vv) := by
  by_cases h : fwR L vv < 0
  · have e : fwC L vv = [⟨1, 0, 0⟩] := by unfold fwC; exact if_pos h
    rw [e, prn1 hv, circ1 hv]
    exact ⟨by unfold fwV; rw [hv, hu]; exact (if_pos rfl).trans (if_pos h), by unfold fwO; rw [hv, hu, decide_eq_true h]; rfl⟩
  · exact ⟨by unfold fwV; rw [hv, hu]; exact (if_pos rfl).trans (if_neg h), by unfold fwO; rw [hv, hu, decide_eq_false h]; simp⟩
theorem sWhole (f : Value) (C : List Gt) (w : World) (B : Nat) (h : OwnGats w B f C) :
    Calls Try.prog 97 #[f] w fun e w' => ∃ u, e = .returned u ∧ Gats w' u (if C.length ≤ 60 then C else []) ∧ Below w.heap.size w w' := by
  obtain ⟨hl, a, cap, rfl, _⟩ := id h
  by_cases h60 : C.length ≤ 60
  · have hi : ¬ (C.length : Int) > 60 := by omega
    rw [if_pos h60]
    have H := Lib.hid h
    clear h h60
    go_enter Try.func97, Try.ntmps97
    go_wp2_with fail
    go_ret
    exact ⟨_, rfl, H.out.gats, Below.refl _ _⟩
  · have hi : (C.length : Int) > 60 := by omega
    rw [if_neg h60]
    clear h h60
    go_enter Try.func97, Try.ntmps97
    go_wp2_with fail
    go_ret
    exact ⟨_, rfl, ⟨by simp, _, _, rfl, .inl rfl⟩, Below.alloc (Below.refl _ _) (Nat.le_refl _) _⟩
set_option maxRecDepth 100000 in
set_option maxHeartbeats 8000000 in
theorem sForwardOf (p vv : Int) (f : Value) (L : List Gt) (w : World) (h : Gats w f L)
    (hF : circB p L = true → inB vv 0 2 = true → ∀ w, Gats w f L → Calls Try.prog 145 #[f, .int .i64 vv] w fun e w' => ∃ u, e = .returned u ∧ OwnGats w' w.heap.size u (fwC L vv) ∧ Below w.heap.size w w') :
    Calls Try.prog 57 #[.int .i64 p, f, .int .i64 vv] w (GivesGB (fwV p vv L) (fwO p vv L) w) := by
  have HCV := Lib.hid (sCircuitValid p f L w h)
  have HG := Lib.hid h
  unfold GivesGB
  cases hv : circB p L
  · have HE := Lib.hid (show fwV p vv L = [] ∧ fwO p vv L = false from ⟨by unfold fwV; rw [hv]; rfl, by unfold fwO; rw [hv]; rfl⟩)
    have HV := Lib.hid hv
    obtain ⟨_, a, cap, rfl, _⟩ := h
    clear hv hF
    go_enter Try.func57, Try.ntmps57
    go_wp2_with fail
    refine HCV.out.mono ?_
    rintro e w1 ⟨he, hb⟩
    rw [HV.out] at he
    subst he
    have HB := Lib.hid hb
    clear hb
    go_wp2_with fail
    refine bodyPost_ret (v := .tuple #[.slice (some ⟨w1.heap.size, 0, none⟩) 0 0, .bool false]) (by simp [results, Try.results57, go_sem]) rfl ⟨_, by rw [HE.out.2], by rw [HE.out.1]; exact ⟨by simp, _, _, rfl, .inl rfl⟩, Below.alloc HB.out HB.out.size _⟩
  · cases hu : inB vv 0 2
    · have HE := Lib.hid (show fwV p vv L = [] ∧ fwO p vv L = false from ⟨by unfold fwV; rw [hv, hu]; rfl, by unfold fwO; rw [hv, hu]; rfl⟩)
      have HV := Lib.hid hv
      have HU := Lib.hid (fun w => sIn_at false vv 0 2 hu w)
      obtain ⟨_, a, cap, rfl, _⟩ := h
      clear hv hu hF
      go_enter Try.func57, Try.ntmps57
      go_wp2_with fail
      refine HCV.out.mono ?_
      rintro e w1 ⟨he, hb⟩
      rw [HV.out] at he
      subst he
      have HB := Lib.hid hb
      clear hb
      go_wp2_with fail
      refine (HU.out _).mono ?_
      rintro e w2 ⟨rfl, rfl⟩
      go_wp2_with fail
      refine bodyPost_ret (v := .tuple #[.slice (some ⟨w1.heap.size, 0, none⟩) 0 0, .bool false]) (by simp [results, Try.results57, go_sem]) rfl ⟨_, by rw [HE.out.2], by rw [HE.out.1]; exact ⟨by simp, _, _, rfl, .inl rfl⟩, Below.alloc HB.out HB.out.size _⟩
    · have hfb := fw_both hv hu
      have HV := Lib.hid hv
      have HU := Lib.hid (fun w => sIn_at true vv 0 2 hu w)
      have HFW := Lib.hid (hF hv hu)
      obtain ⟨C, hC⟩ : ∃ C, C = fwC L vv := ⟨_, rfl⟩
      rw [← hC] at hfb HFW
      rw [hfb.1, hfb.2]
      have hcc : prnV p (if C.length ≤ 60 then C else []) = prnV p C ∧ circB p (if C.length ≤ 60 then C else []) = circB p C := by
        by_cases h60 : C.length ≤ 60
        · rw [if_pos h60]; exact ⟨rfl, rfl⟩
        · rw [if_neg h60]
          have e1 : circB p C = false := circB_long (by omega)
          have e2 : circB p [] = false := by simp [circB]
          exact ⟨by unfold prnV; rw [e1, e2]; rfl, by rw [e1, e2]⟩
      have HCC := Lib.hid hcc
      obtain ⟨_, a, cap, rfl, _⟩ := h
      clear hv hu hF hfb hC hcc
      go_enter Try.func57, Try.ntmps57
      go_wp2_with fail
      refine HCV.out.mono ?_
      rintro e w1 ⟨he, hb⟩
      rw [HV.out] at he
      subst he
      have HB := Lib.hid hb
      have HG1 := Lib.hid (HG.out.below hb)
      clear hb
      go_wp2_with fail
      refine (HU.out _).mono ?_
      rintro e w2 ⟨rfl, rfl⟩
      go_wp2_with fail
      refine (HFW.out _ HG1.out).mono ?_
      rintro e w3 ⟨u3, rfl, ho3, hb3⟩
      have HB3 := Lib.hid (HB.out.trans (hb3.mono HB.out.size))
      have HW := Lib.hid (sWhole u3 C w3 _ ho3)
      clear ho3 hb3
      go_wp2_with fail
      refine HW.out.mono ?_
      rintro e w4 ⟨u4, rfl, ho4, hb4⟩
      have HB4 := Lib.hid (HB3.out.trans (hb4.mono HB3.out.size))
      have HP := Lib.hid (sPruneCircuit p u4 _ w4 ho4)
      rw [HCC.out.1, HCC.out.2] at HP
      clear ho4 hb4
      go_wp2_with fail
      refine HP.out.mono ?_
      rintro e w5 ⟨u5, rfl, ho5, hb5⟩
      have HR := Lib.hid (And.intro (ho5.base HB4.out.size) (HB4.out.trans (hb5.mono HB4.out.size)))
      clear ho5 hb5
      obtain ⟨o, ho⟩ : ∃ o, o = circB p C := ⟨_, rfl⟩
      rw [← ho]
      have HO := Lib.hid ho
      cases o
      · have HN := Lib.hid (show prnV p C = [] by unfold prnV; rw [← ho]; rfl)
        clear ho
        go_wp2_with fail
        refine bodyPost_ret (v := .tuple #[.slice (some ⟨w5.heap.size, 0, none⟩) 0 0, .bool false]) (by simp [results, Try.results57, go_sem]) rfl ⟨_, by rw [← HO.out], by rw [HN.out]; exact ⟨by simp, _, _, rfl, .inl rfl⟩, Below.alloc HR.out.2 HR.out.2.size _⟩
      · clear ho
        go_wp2_with fail
        refine bodyPost_ret (v := .tuple #[u5, .bool true]) (by simp [results, Try.results57, go_sem]) rfl ⟨_, by rw [← HO.out], HR.out.1, HR.out.2⟩
end Go.Proofs.Ytibghhkhnpjdfaa
namespace Go.Proofs.Ytibghhkhnpjdfaa
open Go.RowKit
theorem idx2f (a b : Int) (w : World) : (Instr.index 209 (.agg #[.int .i64 a, .int .i64 b]) (.int .i64 0)).run Try.prog w = .ok (.int .i64 a) w ∧ (Instr.index 209 (.agg #[.int .i64 a, .int .i64 b]) (.int .i64 1)).run Try.prog w = .ok (.int .i64 b) w := by
  have hc : Try.prog.cellsOf 3 = 1 := by kernel_rfl
  have hs : (Try.prog.info? 3).isSome = true := by kernel_rfl
  obtain ⟨i, hi⟩ := Option.isSome_iff_exists.1 hs
  have hz := run_sizeOf (w := w) hi
  rw [hc] at hz
  constructor <;> simp [Instr.index, run_underlying Try.underlying209, asIntOf, hz, go_sem]
theorem idx22 (a b c d : Int) (w : World) : (Instr.index 211 (.agg #[.int .i64 a, .int .i64 b, .int .i64 c, .int .i64 d]) (.int .i64 0)).run Try.prog w = .ok (.agg #[.int .i64 a, .int .i64 b]) w ∧ (Instr.index 211 (.agg #[.int .i64 a, .int .i64 b, .int .i64 c, .int .i64 d]) (.int .i64 1)).run Try.prog w = .ok (.agg #[.int .i64 c, .int .i64 d]) w := by
  have hc : Try.prog.cellsOf 209 = 2 := by kernel_rfl
  have hs : (Try.prog.info? 209).isSome = true := by kernel_rfl
  obtain ⟨i, hi⟩ := Option.isSome_iff_exists.1 hs
  have hz := run_sizeOf (w := w) hi
  rw [hc] at hz
  constructor <;> simp [Instr.index, run_underlying Try.underlying211, asIntOf, hz, go_sem]
theorem tmG_l (one k o : Int) (C : List Gt) : (tmG one k o C).2.length ≤ C.length + 1 := by
  unfold tmG
  split <;> simp
/-- the first gates of an owned list are owned -/
theorem own_cut {w : World} {B : Nat} {a : Option Addr} {n cap m : Nat} {C : List Gt} (h : OwnGats w B (.slice a n cap) C) (hm : m ≤ C.length) : OwnGats w B (.slice a m cap) (C.take m) := by
  obtain ⟨h1, a', cap', e, h2⟩ := h
  injection e with e1 e2 e3
  subst e1 e3
  have hl : (C.take m).length = m := by simp; omega
  refine ⟨by omega, a, cap, by rw [hl], ?_⟩
  rcases h2 with rfl | ⟨g, off, rfl, hB, hg, hc, hf⟩
  · exact .inl (by simp)
  · refine .inr ⟨g, off, rfl, hB, hg, fun j hj => ?_, fun i hi => hf i (by omega)⟩
    rw [hl] at hj
    have := hc j (by omega)
    rwa [show (C.take m).getD j default = C.getD j default by simp [List.getD_eq_getElem?_getD, hj]]
set_option maxRecDepth 100000 in
set_option maxHeartbeats 32000000 in
theorem sForward6 (p vv : Int) (L : List Gt) (hv : circB p L = true) (g off cap : Nat) (w : World) (hg : g < w.heap.size)
    (hc : ∀ j : Nat, j < L.length → GAt w g (off + j * 3) (L.getD j default)) :
    Calls Try.prog 145 #[.slice (some ⟨g, off, none⟩) L.length cap, .int .i64 vv] w fun e w' => ∃ u, e = .returned u ∧ OwnGats w' w.heap.size u (fwC L vv) ∧ Below w.heap.size w w' := by
  obtain ⟨ii, hi, hz0, hz1, hz2⟩ := info_parts infoInt
  obtain ⟨ig, hig, hg0, hg1, hg2⟩ := info_parts infoG
  obtain ⟨hp, hl1, hl2, hall⟩ := circB_iff.1 hv
  obtain ⟨n, hn⟩ : ∃ n, n = w.heap.size := ⟨_, rfl⟩
  have HC := Lib.hid hc
  have HAL := Lib.hid hall
  have HFN := Lib.hid (fun k hk => fwN_st (v := vv) hv k hk)
  have HV := Lib.hid hv
  have hl60 : (L.length : Int) ≤ 60 := by omega
  rw [← hn]
  have hgn : g < n := by omega
  clear hc hall hv hg hp
  go_enter Try.func145, Try.ntmps145
  go_wp2_with (at_make; refine wpList_make_full _ rfl _ _ 37 rfl 0 3 ii (.int .i64 0) 1 Try.underlying37 hi hz0 hz1 .i64 .i64 L.length L.length L.length rfl rfl rfl rfl ?c2 ?c3 ?c4 ?_)
  case c2 => rw [hz2]; omega
  case c3 => unfold maxLen; omega
  case c4 => exact Nat.zero_le _
  rw [← hn]
  have HN := Lib.hid hn
  clear hn
  intro w1 hown hgr
  have b1 : Below n w w1 := (Below.refl _ _).grown hgr (by rw [HN.out]; exact Nat.le_refl _) (fun k hk => by cases hk)
  have hBr : BrW w1 n (List.replicate L.length 0) := by
    refine ⟨(hown.lt _ rfl).2, fun j hj => ?_, fun j hj => hown.frozenAt j⟩
    have hj : j < L.length := by simpa using hj
    rw [hown.cellAt j (by omega), madeI _ _ hj]
    simp [List.getD_eq_getElem?_getD, hj]
  obtain ⟨G, hG⟩ : ∃ G, G = w1.heap.size := ⟨_, rfl⟩
  have hs1 : n < G := by have := hBr.lt; omega
  obtain ⟨W2, hW2⟩ : ∃ W2, W2 = w1.alloc (Obj.cells #[.slice none 0 0, .int .i64 0, .int .i64 0, .int .i64 0, .slice (some ⟨n, 0, none⟩) L.length L.length] 208) := ⟨_, rfl⟩
  have b2 : Below w1.heap.size w1 W2 := by rw [hW2]; exact Below.alloc (Below.refl _ _) (Nat.le_refl _) _
  have hSh : ShW W2 G (.slice none 0 0) 5 (brC n L.length) := by
    rw [hW2, hG]
    refine ⟨by simp [go_sem], fun i h1 h2 => ?_, World.frozen?_alloc_at _ _ _ 0 rfl, by simp, fun i h1 h2 => World.frozen?_alloc_at _ _ _ i rfl⟩
    have h4 : i = 1 ∨ i = 2 ∨ i = 3 ∨ i = 4 := by omega
    rcases h4 with rfl | rfl | rfl | rfl <;> simp [go_sem, brC]
  have hs2 : W2.heap.size = G + 1 := by rw [hW2, hG]; simp
  have hBr2 := hBr.below b2
  have bw2 : Below n w W2 := b1.trans (b2.mono b1.size |>.mono (by have := HN.out; omega))
  obtain ⟨W3, hW3⟩ : ∃ W3, W3 = W2.alloc (.cells #[] 116) := ⟨_, rfl⟩
  have b3 : Below W2.heap.size W2 W3 := by rw [hW3]; exact Below.alloc (Below.refl _ _) (Nat.le_refl _) _
  have R3 : RowGt (W2.alloc (.cells #[] 116)) (G + 1) (.slice (some ⟨W2.heap.size, 0, none⟩) 0 0) [] := RowGt.lit0 W2 (G + 1) (by omega)
  have bw3 : Below n w W3 := bw2.trans (b3.mono (by omega))
  have HF := Lib.hid (show ∀ (i : Nat) (u : Value), (flatG L)[i]? = some u → (W2.alloc (.cells #[] 116)).cell? ((⟨g, off, none⟩ : Addr).add i) = some u from hW3 ▸ readG fun j hj => ((HC.out j hj).below bw3 hgn))
  have HSH3 := Lib.hid (hSh.below b3)
  have HBR3 := Lib.hid (hBr2.below b3)
  have HR3 := Lib.hid R3
  have HB3 := Lib.hid bw3
  have hs3 : G + 1 < W3.heap.size := by rw [hW3]; simp; omega
  have HW2 := Lib.hid hW2
  have HW3 := Lib.hid hW3
  have HGe := Lib.hid hG
  have HS2 := Lib.hid hs2
  clear hown hgr b1 hBr hSh hW2 hG b2 hs2 hBr2 hW3 b3 R3 bw2 bw3
  go_upto_region 2 with fail
  rw [← HW2.out, ← HGe.out]
  clear HW2 HGe
  go_wp2_with (at_builtin; refine wpList_append_own_at _ rfl _ _ 24 rfl (G + 1) 116 ig (.agg #[.int .i64 0, .int .i64 0, .int .i64 0]) 3 24 Try.underlying24 hig hg0 hg1 hg2 rfl (by decide) _ _ _ rfl HR3.out ⟨g, off, none⟩ L.length cap (flatG L) rfl (flatG_len L) HF.out (flatG_cell L) (by unfold maxLen; simp; omega) (by simp; omega) (by simp; have := HS2.out; omega) ?_)
  intro v4 w4 hown hgr hnil _
  have hR4 : RowGt w4 (G + 1) v4 L := by simpa [RowGt, flatG] using hown
  have hgr3 : W3.grownBy w4 (some (G + 1)) := by have h := hgr; rw [← HW3.out] at h; simpa [Value.ownBlock, HS2.out] using h
  have hSh4 : ShW w4 G (.slice none 0 0) 5 (brC n L.length) := HSH3.out.grown (u := .slice (some ⟨G + 1, 0, none⟩) 0 0) (by simpa [Value.ownBlock] using hgr3) (by simp [Value.ownBlock])
  have hBr4 : BrW w4 n (List.replicate L.length 0) := HBR3.out.same hgr3.size (hgr3.block _ HBR3.out.lt (fun e => by injection e with e; omega))
  have bb : Below n W3 w4 := (Below.refl _ _).grown hgr3 (by omega) (fun k hk => by injection hk with hk; omega)
  obtain ⟨a4, c4, hv4⟩ : ∃ a c, v4 = .slice a L.length c := by
    rcases hR4.shape with ⟨rfl, e⟩ | ⟨g4, c4, rfl, _⟩
    · exact absurd rfl hnil
    · exact ⟨_, c4, rfl⟩
  subst hv4
  obtain ⟨W5, hW5⟩ : ∃ W5, W5 = w4.setCell ⟨G, 0, none⟩ (.slice a4 L.length c4) := ⟨_, rfl⟩
  have H5 := Lib.hid (show BrS W5 G n (.slice a4 L.length c4) (L, Fr 0 (List.replicate L.length (-1))) ∧ Below n w W5 from by
    rw [hW5, fr0]
    refine ⟨⟨⟨?_, hR4.setFar (Nat.lt_succ_self G) 0 _⟩, hBr4.far (by omega) _, hs1⟩, (HB3.out.trans bb).setCell (by show n ≤ G; omega) _⟩
    rw [show (L, List.replicate L.length (0 : Int)).2.length = L.length by simp]
    exact hSh4.set _)
  have c0 := hSh4.c0
  have f0 := hSh4.f0
  have HW5 := Lib.hid hW5
  clear hown hgr hnil hR4 hgr3 hSh4 hBr4 bb hW5 HSH3 HBR3 HR3 HB3 HF HW3 HS2 hi hz0 hz1 hz2 hig hg0 hg1 hg2
  go_upto_region 3 with fail
  rw [← HW5.out]
  clear HW5 c0 f0
  go_wp2_with fail
  go_loopw [6, 25] (fun o i wr => ∃ (k : Nat) (v' : Value) (t : Int × (List Gt × List Int)), k ≤ L.length ∧ t = fwN L vv k ∧ o = .int .i64 t.1 ∧ i = .int .i64 k ∧ BrS wr G n v' (t.2.1, Fr k t.2.2) ∧ Below n w wr) (fun _ i _ => L.length - (intOf i).toNat)
  case atStart => exact ⟨0, _, fwN L vv 0, by omega, rfl, rfl, rfl, H5.out⟩
  case round =>
    clear H5
    obtain ⟨k, v', t, hk, ht, rfl, rfl, hS, hB⟩ := hrel
    by_cases hlt : k < L.length
    · have hltp : (k : Int) < (L.length : Int) := by omega
      have hk0 : (0 : Int) ≤ (k : Int) := by omega
      obtain ⟨a0, a1, a2⟩ := (HC.out k hlt).below hB hgn
      obtain ⟨x', hx⟩ : ∃ x, x = L.getD k default := ⟨_, rfl⟩
      rw [← hx] at a0 a1 a2
      have hx0 := HAL.out k hlt
      rw [← gat_mk hx] at hx0
      have hcs := gOK_cases hx0
      simp only at hcs
      have hGA := (gat_mk hx).symm
      obtain ⟨hF, hFl, hFn⟩ := HFN.out k (by omega)
      have hts : fwN L vv (k + 1) = fwS L vv k t := by rw [ht]; rfl
      rw [← ht] at hF hFl hFn
      have hlen : t.2.2.length = L.length := hF.st.len
      have hmx := hF.st.max
      have hone := hF.lo
      have hfl : (Fr k t.2.2).length = L.length := by rw [Fr_len _ _ (by omega), hlen]
      have hfl1 : (Fr (k + 1) t.2.2).length = L.length := by rw [Fr_len _ _ (by omega), hlen]
      have hfn := Fr_next (k := k) (b := t.2.2) (by omega) (hFn k (Nat.le_refl _) hlt)
      obtain ⟨xk, xa, xb⟩ := x'
      simp only at a0 a1 a2 hcs hGA
      obtain ⟨tb, htb⟩ : ∃ tb, tb = wr.heap.size := ⟨_, rfl⟩
      obtain ⟨W6, hW6⟩ : ∃ W6, W6 = wr.alloc (Obj.cells #[.int .i64 xk, .int .i64 xa, .int .i64 xb] 116) := ⟨_, rfl⟩
      have b6 : Below wr.heap.size wr W6 := by rw [hW6]; exact (by repeat (first | exact Below.refl _ _ | apply Below.drew | apply below_drewN | (refine Below.alloc ?_ (by first | omega | (simp <;> omega)) _)))
      have t0 : W6.cell? ⟨tb, 0, none⟩ = some (.int .i64 xk) := by rw [hW6, htb]; simp [go_sem]
      have t1 : W6.cell? ⟨tb, 1, none⟩ = some (.int .i64 xa) := by rw [hW6, htb]; simp [go_sem]
      have t2 : W6.cell? ⟨tb, 2, none⟩ = some (.int .i64 xb) := by rw [hW6, htb]; simp [go_sem]
      have hGl := hS.ms.sh.lt
      have tl : tb < W6.heap.size := by rw [hW6, htb]; simp
      have hvb : v'.ownBlock ≠ some tb := by rw [htb]; exact hS.ms.old (Nat.le_refl _)
      have hGb : tb ≠ G := by omega
      have hnb : tb ≠ n := by omega
      have hS6 := hS.below b6
      have c1 : W6.cell? ⟨G, 4, none⟩ = some (.slice (some ⟨n, 0, none⟩) L.length L.length) := by
        have := hS6.ms.sh.oth 4 (by omega) (by omega)
        rw [show (t.2.1, Fr k t.2.2).2.length = L.length from hfl] at this
        exact this
      have d0 := hS6.br.c k (by rw [show (t.2.1, Fr k t.2.2).2.length = L.length from hfl]; exact hlt)
      have e0 := hS6.br.f k (by rw [show (t.2.1, Fr k t.2.2).2.length = L.length from hfl]; exact hlt)
      obtain ⟨W7, hW7⟩ : ∃ W7, W7 = W6.setCell ⟨n, k, none⟩ (.int .i64 (-1)) := ⟨_, rfl⟩
      have hB7 : Below n w W7 := by rw [hW7]; exact (hB.trans (b6.mono (by omega))).setCell (Nat.le_refl _) _
      have hS7 : BrS W7 G n v' (t.2.1, Fr (k + 1) t.2.2) := by
        rw [hW7, ← hfn]
        exact ⟨by rw [show (t.2.1, (Fr k t.2.2).set k (-1)).2.length = (t.2.1, Fr k t.2.2).2.length by simp]; exact hS6.ms.far hs1 _, hS6.br.set (by rw [show (t.2.1, Fr k t.2.2).2.length = L.length from hfl]; exact hlt) (-1), hs1⟩
      have u0 : W7.cell? ⟨tb, 0, none⟩ = some (.int .i64 xk) := by rw [hW7, World.cell?_setCell_other _ _ _ _ (addr_ne (by omega))]; exact t0
      have u1 : W7.cell? ⟨tb, 1, none⟩ = some (.int .i64 xa) := by rw [hW7, World.cell?_setCell_other _ _ _ _ (addr_ne (by omega))]; exact t1
      have u2 : W7.cell? ⟨tb, 2, none⟩ = some (.int .i64 xb) := by rw [hW7, World.cell?_setCell_other _ _ _ _ (addr_ne (by omega))]; exact t2
      have tl7 : tb < W7.heap.size := by rw [hW7]; simpa using tl
      have u4 : W7.cell? ⟨G, 4, none⟩ = some (.slice (some ⟨n, 0, none⟩) L.length L.length) := by rw [hW7, World.cell?_setCell_other _ _ _ _ (addr_ne (by omega))]; exact c1
      have HS7 := Lib.hid hS7
      have HB7 := Lib.hid hB7
      have HW6 := Lib.hid hW6
      have HW7 := Lib.hid hW7
      have HTB := Lib.hid htb
      have HGA := Lib.hid hGA
      have HTS := Lib.hid hts
      have HF := Lib.hid hF
      have HL1 := Lib.hid hfl1
      have HLN := Lib.hid hlen
      clear hx hx0 hW6 hW7 htb b6 hS hS6 hS7 hB hB7 hGA hts ht hF hFn hfl hfl1 hfn hlen
      go_upto_region 7 with fail
      rw [← HW6.out, ← HTB.out]
      clear HW6 HTB a0 a1 a2
      go_upto_region 8 with fail
      rw [← HW7.out]
      clear HW7 t0 t1 t2 c1 d0 e0
      have v0 := HS7.out.br.c k (by rw [show (t.2.1, Fr (k + 1) t.2.2).2.length = L.length from HL1.out]; exact hlt)
      have w0 := HS7.out.br.f k (by rw [show (t.2.1, Fr (k + 1) t.2.2).2.length = L.length from HL1.out]; exact hlt)
      by_cases hx0 : xk = 0
      · subst hx0
        by_cases hxa : xa = vv
        · subst hxa
          by_cases hneg : t.1 < 0
          · have HE := Lib.hid (show fwN L xa (k + 1) = ((t.2.1.length : Int), (t.2.1 ++ [⟨1, 1, 0⟩], t.2.2.set k (t.2.1.length : Int))) by
              rw [HTS.out]; unfold fwS; rw [HGA.out]; simp [hneg])
            go_wp2_with fail
            refine (sPutB n G n _ _ ⟨1, 1, 0⟩ _ (by show t.2.1.length ≤ 5000; omega) (by omega) HS7.out).mono ?_
            rintro e w8 ⟨rfl, v8, hs8, hb8, ha8, hm8⟩
            have k1 := ha8.get tl7 hGb hGb hvb u1
            have k4 : w8.cell? ⟨G, 4, none⟩ = some (.slice (some ⟨n, 0, none⟩) L.length L.length) := by
              have := hs8.ms.sh.oth 4 (by omega) (by omega)
              rw [show (t.2.1 ++ [(⟨1, 1, 0⟩ : Gt)], Fr (k + 1) t.2.2).2.length = L.length from HL1.out] at this
              exact this
            have kc := hs8.br.c k (by rw [show (t.2.1 ++ [(⟨1, 1, 0⟩ : Gt)], Fr (k + 1) t.2.2).2.length = L.length from HL1.out]; exact hlt)
            have kf := hs8.br.f k (by rw [show (t.2.1 ++ [(⟨1, 1, 0⟩ : Gt)], Fr (k + 1) t.2.2).2.length = L.length from HL1.out]; exact hlt)
            have HR := Lib.hid (show BrS (w8.setCell ⟨n, k, none⟩ (.int .i64 (t.2.1.length : Nat))) G n v8 (t.2.1 ++ [⟨1, 1, 0⟩], Fr (k + 1) (t.2.2.set k (t.2.1.length : Int))) ∧ Below n w (w8.setCell ⟨n, k, none⟩ (.int .i64 (t.2.1.length : Nat))) from by
              refine ⟨?_, (HB7.out.trans hb8).setCell (Nat.le_refl _) _⟩
              rw [← Fr_set (Nat.lt_succ_self k)]
              exact ⟨by rw [show (t.2.1 ++ [(⟨1, 1, 0⟩ : Gt)], (Fr (k + 1) t.2.2).set k (t.2.1.length : Int)).2.length = (t.2.1 ++ [(⟨1, 1, 0⟩ : Gt)], Fr (k + 1) t.2.2).2.length by simp]; exact hs8.ms.far hs1 _, hs8.br.set (by rw [show (t.2.1 ++ [(⟨1, 1, 0⟩ : Gt)], Fr (k + 1) t.2.2).2.length = L.length from HL1.out]; exact hlt) _, hs1⟩)
            clear hs8 hb8 ha8 hm8 u0 u1 u2 u4 v0 w0
            go_wp2_with fail
            go_roundw
            case rel => exact ⟨k + 1, v8, fwN L xa (k + 1), by omega, rfl, by rw [HE.out], by go_num, by rw [HE.out]; exact HR.out.1, HR.out.2⟩
            case measure => first | (simp [intOf]; done) | (simp [intOf]; omega)
          · have HE := Lib.hid (show fwN L xa (k + 1) = (t.1, (t.2.1, t.2.2.set k t.1)) by
              rw [HTS.out]; unfold fwS; rw [HGA.out]; simp [hneg])
            have HR := Lib.hid (show BrS (W7.setCell ⟨n, k, none⟩ (.int .i64 t.1)) G n v' (t.2.1, Fr (k + 1) (t.2.2.set k t.1)) ∧ Below n w (W7.setCell ⟨n, k, none⟩ (.int .i64 t.1)) from by
              refine ⟨?_, HB7.out.setCell (Nat.le_refl _) _⟩
              rw [← Fr_set (Nat.lt_succ_self k)]
              exact ⟨by rw [show (t.2.1, (Fr (k + 1) t.2.2).set k t.1).2.length = (t.2.1, Fr (k + 1) t.2.2).2.length by simp]; exact HS7.out.ms.far hs1 _, HS7.out.br.set (by rw [show (t.2.1, Fr (k + 1) t.2.2).2.length = L.length from HL1.out]; exact hlt) _, hs1⟩)
            go_wp2_with fail
            go_roundw
            case rel => exact ⟨k + 1, v', fwN L xa (k + 1), by omega, rfl, by rw [HE.out], by go_num, by rw [HE.out]; exact HR.out.1, HR.out.2⟩
            case measure => first | (simp [intOf]; done) | (simp [intOf]; omega)
        · have HE := Lib.hid (show fwN L vv (k + 1) = t by rw [HTS.out]; unfold fwS; rw [HGA.out]; simp [hxa])
          go_wp2_with fail
          go_roundw
          case rel => exact ⟨k + 1, v', fwN L vv (k + 1), by omega, rfl, by rw [HE.out], by go_num, by rw [HE.out]; exact HS7.out, HB7.out⟩
          case measure => first | (simp [intOf]; done) | (simp [intOf]; omega)
      · by_cases hx1 : xk = 1
        · subst hx1
          have HE := Lib.hid (show fwN L vv (k + 1) = t by rw [HTS.out]; unfold fwS; rw [HGA.out]; simp [joinsB])
          go_wp2_with fail
          go_roundw
          case rel => exact ⟨k + 1, v', fwN L vv (k + 1), by omega, rfl, by rw [HE.out], by go_num, by rw [HE.out]; exact HS7.out, HB7.out⟩
          case measure => first | (simp [intOf]; done) | (simp [intOf]; omega)
        · obtain ⟨ja, rfl⟩ := Int.eq_ofNat_of_zero_le (show 0 ≤ xa by omega)
          obtain ⟨jb, rfl⟩ := Int.eq_ofNat_of_zero_le (show 0 ≤ xb by omega)
          have hja : ja < k := by omega
          have hjb : jb < k := by omega
          have hjal : (ja : Int) < (L.length : Int) := by omega
          have hjbl : (jb : Int) < (L.length : Int) := by omega
          have ja0 : (0 : Int) ≤ ja := by omega
          have jb0 : (0 : Int) ≤ jb := by omega
          have hxx : xk = 2 ∨ xk = 3 := by omega
          obtain ⟨d5, hd5⟩ : ∃ d, d = t.2.2.getD ja 0 := ⟨_, rfl⟩
          obtain ⟨z1, hz1⟩ : ∃ z, z = pasB t.1 xk d5 jb k t.2 := ⟨_, rfl⟩
          obtain ⟨d6, hd6⟩ : ∃ d, d = z1.2.getD jb 0 := ⟨_, rfl⟩
          obtain ⟨z2, hz2⟩ : ∃ z, z = pasB t.1 xk d6 ja k z1 := ⟨_, rfl⟩
          have hst := HF.out.st
          have hp1 := pasB_st (one := t.1) (kd := xk) (k := d5) (o := (jb : Int)) (j := k) hst hlt (by rw [hd5]; exact (hst.lo ja (by omega)).2) (by omega)
          rw [← hz1] at hp1
          have HE := Lib.hid (show fwN L vv (k + 1) = (t.1, z2) by
            rw [HTS.out]; unfold fwS; rw [HGA.out, hz2, hd6, hz1, hd5]
            have hj : joinsB ⟨xk, (ja : Int), (jb : Int)⟩ = true := by rcases hxx with rfl | rfl <;> rfl
            simp only [beq_iff_eq, hx0, if_false, hj, if_true, Int.toNat_natCast])
          have HP1 := Lib.hid hp1
          have Hd5 := Lib.hid (show t.2.2.getD ja 0 = d5 from hd5.symm)
          have Hd6 := Lib.hid (show z1.2.getD jb 0 = d6 from hd6.symm)
          have Hz1 := Lib.hid hz1
          have Hz2 := Lib.hid hz2
          clear hd5 hd6 hz1 hz2 hst hp1 hcs v0 w0 u4
          rcases hxx with rfl | rfl
          · go_wp2_with fail
            go_loopw [65] (fun j wx => ∃ (m : Nat) (v5 : Value) (z : List Gt × List Int), m ≤ 2 ∧ j = .int .i64 m ∧ (m = 0 → z = t.2) ∧ (m = 1 → z = z1) ∧ (m = 2 → z = z2) ∧ BrS wx G n v5 (z.1, Fr (k + 1) z.2) ∧ Below n w wx) (fun j _ => 2 - (intOf j).toNat)
            case atStart => exact ⟨0, v', t.2, by omega, rfl, fun _ => rfl, fun h => by omega, fun h => by omega, HS7.out, HB7.out⟩
            case round =>
              obtain ⟨m, v5, z, hm, rfl, hz0, hz1', hz2, hZ, hB9⟩ := hrel
              by_cases hm2 : m < 2
              · have hm01 : m = 0 ∨ m = 1 := by omega
                rcases hm01 with rfl | rfl
                · have hz := hz0 rfl
                  subst hz
                  clear hz0 hz1' hz2 hm hm2
                  have HI := fun w => (idx2f (ja : Int) (jb : Int) w).1
                  rw [show ((0 : Nat) : Int) = 0 from rfl]
                  have hln : (t.2.1, Fr (k + 1) t.2.2).2.length = L.length := by rw [show (t.2.1, Fr (k + 1) t.2.2).2.length = t.2.2.length from Fr_len _ _ (by have := HF.out.st.len; omega)]; exact HF.out.st.len
                  have x4 : wr.cell? ⟨G, 4, none⟩ = some (.slice (some ⟨n, 0, none⟩) L.length L.length) := by
                    have := hZ.ms.sh.oth 4 (by omega) (by omega)
                    rw [hln] at this
                    exact this
                  have xd : wr.cell? ⟨n, ja, none⟩ = some (.int .i64 d5) := by
                    rw [hZ.br.c ja (by rw [hln]; omega)]
                    show some (Value.int .i64 ((Fr (k + 1) t.2.2).getD ja 0)) = _
                    rw [Fr_at (by omega), Hd5.out]
                  have hmx9 := HF.out.st.max
                  have hlen9 : (t.2.1, Fr (k + 1) t.2.2).1.length ≤ 4000 := by show t.2.1.length ≤ 4000; omega
                  have HZ := Lib.hid (And.intro hZ hB9)
                  have HLN9 := Lib.hid hln
                  clear hZ hB9 hln
                  by_cases hdn : d5 < 0
                  · have HN9 := Lib.hid (show z1 = t.2 by rw [Hz1.out]; unfold pasB; rw [if_pos hdn])
                    have hd0 : ¬ d5 ≥ 0 := by omega
                    go_wp2_with fail
                    go_roundw
                    case rel => exact ⟨0+1, v5, z1, by omega, by (first | rfl | go_num), fun h => by omega, fun _ => rfl, fun h => by omega, by rw [HN9.out]; exact HZ.out.1, HZ.out.2⟩
                    case measure => first | (simp [intOf]; done) | (simp [intOf]; omega)
                  · have HN9 := Lib.hid (show z1 = addB k d5 t.2 by rw [Hz1.out]; unfold pasB; rw [if_neg hdn]; rfl)
                    have hd0 : d5 ≥ 0 := by omega
                    have HA := Lib.hid (sAddB n G n k d5 v5 (t.2.1, Fr (k + 1) t.2.2) wr (by omega) (Nat.le_refl _) (by rw [HLN9.out]; exact hlt) (by rw [HLN9.out]; omega) HZ.out.1)
                    rw [addB_Fr (Nat.lt_succ_self k)] at HA
                    go_wp2_with fail
                    refine HA.out.mono ?_
                    rintro e w9 ⟨rfl, v9, m1, m2, m3, m4⟩
                    have HR := Lib.hid (And.intro m1 (HZ.out.2.trans m2))
                    clear m1 m2 m3 m4 x4 xd
                    go_wp2_with fail
                    go_roundw
                    case rel => exact ⟨0+1, v9, z1, by omega, by (first | rfl | go_num), fun h => by omega, fun _ => rfl, fun h => by omega, by rw [HN9.out]; exact HR.out.1, HR.out.2⟩
                    case measure => first | (simp [intOf]; done) | (simp [intOf]; omega)
                · have hz := hz1' rfl
                  subst hz
                  clear hz0 hz1' hz2 hm hm2
                  have HI := fun w => (idx2f (ja : Int) (jb : Int) w).2
                  rw [show ((1 : Nat) : Int) = 1 from rfl]
                  have hln : (z.1, Fr (k + 1) z.2).2.length = L.length := by rw [show (z.1, Fr (k + 1) z.2).2.length = z.2.length from Fr_len _ _ (by have := HP1.out.1.len; omega)]; exact HP1.out.1.len
                  have x4 : wr.cell? ⟨G, 4, none⟩ = some (.slice (some ⟨n, 0, none⟩) L.length L.length) := by
                    have := hZ.ms.sh.oth 4 (by omega) (by omega)
                    rw [hln] at this
                    exact this
                  have xd : wr.cell? ⟨n, jb, none⟩ = some (.int .i64 d6) := by
                    rw [hZ.br.c jb (by rw [hln]; omega)]
                    show some (Value.int .i64 ((Fr (k + 1) z.2).getD jb 0)) = _
                    rw [Fr_at (by omega), Hd6.out]
                  have hmx9 := HP1.out.1.max
                  have hlen9 : (z.1, Fr (k + 1) z.2).1.length ≤ 4000 := by show z.1.length ≤ 4000; omega
                  have HZ := Lib.hid (And.intro hZ hB9)
                  have HLN9 := Lib.hid hln
                  clear hZ hB9 hln
                  by_cases hdn : d6 < 0
                  · have HN9 := Lib.hid (show z2 = z by rw [Hz2.out]; unfold pasB; rw [if_pos hdn])
                    have hd0 : ¬ d6 ≥ 0 := by omega
                    go_wp2_with fail
                    go_roundw
                    case rel => exact ⟨1+1, v5, z2, by omega, by (first | rfl | go_num), fun h => by omega, fun h => by omega, fun _ => rfl, by rw [HN9.out]; exact HZ.out.1, HZ.out.2⟩
                    case measure => first | (simp [intOf]; done) | (simp [intOf]; omega)
                  · have HN9 := Lib.hid (show z2 = addB k d6 z by rw [Hz2.out]; unfold pasB; rw [if_neg hdn]; rfl)
                    have hd0 : d6 ≥ 0 := by omega
                    have HA := Lib.hid (sAddB n G n k d6 v5 (z.1, Fr (k + 1) z.2) wr (by omega) (Nat.le_refl _) (by rw [HLN9.out]; exact hlt) (by rw [HLN9.out]; omega) HZ.out.1)
                    rw [addB_Fr (Nat.lt_succ_self k)] at HA
                    go_wp2_with fail
                    refine HA.out.mono ?_
                    rintro e w9 ⟨rfl, v9, m1, m2, m3, m4⟩
                    have HR := Lib.hid (And.intro m1 (HZ.out.2.trans m2))
                    clear m1 m2 m3 m4 x4 xd
                    go_wp2_with fail
                    go_roundw
                    case rel => exact ⟨1+1, v9, z2, by omega, by (first | rfl | go_num), fun h => by omega, fun h => by omega, fun _ => rfl, by rw [HN9.out]; exact HR.out.1, HR.out.2⟩
                    case measure => first | (simp [intOf]; done) | (simp [intOf]; omega)
              · have hm3 : m = 2 := by omega
                subst hm3
                have hz := hz2 rfl
                subst hz
                have HR := Lib.hid (And.intro hZ hB9)
                clear hZ hB9 hz0 hz1' hz2 hm hm2
                rw [show ((2 : Nat) : Int) = 2 from rfl]
                go_wp2_with fail
                go_roundw
                case rel => exact ⟨k + 1, v5, fwN L vv (k + 1), by omega, rfl, by rw [HE.out], by go_num, by rw [HE.out]; exact HR.out.1, HR.out.2⟩
                case measure => first | (simp [intOf]; done) | (simp [intOf]; omega)
          · go_wp2_with fail
            go_loopw [95] (fun j wx => ∃ (m : Nat) (v5 : Value) (z : List Gt × List Int), m ≤ 2 ∧ j = .int .i64 m ∧ (m = 0 → z = t.2) ∧ (m = 1 → z = z1) ∧ (m = 2 → z = z2) ∧ BrS wx G n v5 (z.1, Fr (k + 1) z.2) ∧ Below n w wx) (fun j _ => 2 - (intOf j).toNat)
            case atStart => exact ⟨0, v', t.2, by omega, rfl, fun _ => rfl, fun h => by omega, fun h => by omega, HS7.out, HB7.out⟩
            case round =>
              obtain ⟨m, v5, z, hm, rfl, hz0, hz1', hz2, hZ, hB9⟩ := hrel
              by_cases hm2 : m < 2
              · have hm01 : m = 0 ∨ m = 1 := by omega
                rcases hm01 with rfl | rfl
                · have hz := hz0 rfl
                  subst hz
                  clear hz0 hz1' hz2 hm hm2
                  have HI := fun w => (idx22 (ja : Int) (jb : Int) (jb : Int) (ja : Int) w).1
                  rw [show ((0 : Nat) : Int) = 0 from rfl]
                  have hln : (t.2.1, Fr (k + 1) t.2.2).2.length = L.length := by rw [show (t.2.1, Fr (k + 1) t.2.2).2.length = t.2.2.length from Fr_len _ _ (by have := HF.out.st.len; omega)]; exact HF.out.st.len
                  obtain ⟨b2, hb2⟩ : ∃ b, b = wr.heap.size := ⟨_, rfl⟩
                  obtain ⟨W8, hW8⟩ : ∃ W8, W8 = wr.alloc (Obj.cells #[.int .i64 (ja : Int), .int .i64 (jb : Int)] 209) := ⟨_, rfl⟩
                  have b8 : Below wr.heap.size wr W8 := by rw [hW8]; exact (by repeat (first | exact Below.refl _ _ | apply Below.drew | apply below_drewN | (refine Below.alloc ?_ (by first | omega | (simp <;> omega)) _)))
                  have q0 : W8.cell? ⟨b2, 0, none⟩ = some (.int .i64 (ja : Int)) := by rw [hW8, hb2]; simp [go_sem]
                  have q1 : W8.cell? ⟨b2, 1, none⟩ = some (.int .i64 (jb : Int)) := by rw [hW8, hb2]; simp [go_sem]
                  have q2 : b2 < W8.heap.size := by rw [hW8, hb2]; simp
                  have hGr := hZ.ms.sh.lt
                  have hvb2 : v5.ownBlock ≠ some b2 := by rw [hb2]; exact hZ.ms.old (Nat.le_refl _)
                  have hGb2 : b2 ≠ G := by omega
                  have hnb2 : b2 ≠ n := by omega
                  have hZ8 := hZ.below b8
                  have hB8 : Below n w W8 := hB9.trans (b8.mono (by omega))
                  have hnW8 : n ≤ W8.heap.size := by have := b8.size; omega
                  have x4 : W8.cell? ⟨G, 4, none⟩ = some (.slice (some ⟨n, 0, none⟩) L.length L.length) := by
                    have := hZ8.ms.sh.oth 4 (by omega) (by omega)
                    rw [hln] at this
                    exact this
                  have xd : W8.cell? ⟨n, ja, none⟩ = some (.int .i64 d5) := by
                    rw [hZ8.br.c ja (by rw [hln]; omega)]
                    show some (Value.int .i64 ((Fr (k + 1) t.2.2).getD ja 0)) = _
                    rw [Fr_at (by omega), Hd5.out]
                  have hmx9 := HF.out.st.max
                  have hlen9 : (t.2.1, Fr (k + 1) t.2.2).1.length ≤ 4000 := by show t.2.1.length ≤ 4000; omega
                  have HZ := Lib.hid (And.intro hZ8 hB8)
                  have HLN9 := Lib.hid hln
                  have HW8 := Lib.hid hW8
                  have HB2 := Lib.hid hb2
                  clear hZ hB9 hln hZ8 hB8 hW8 b8 hb2
                  go_upto_region 25 with fail
                  rw [← HW8.out, ← HB2.out]
                  clear HW8 HB2
                  by_cases hdn : d5 < 0
                  · have HN9 := Lib.hid (show z1 = t.2 by rw [Hz1.out]; unfold pasB; rw [if_pos hdn])
                    have hd0 : ¬ d5 ≥ 0 := by omega
                    go_wp2_with fail
                    go_roundw
                    case rel => exact ⟨0+1, v5, z1, by omega, by (first | rfl | go_num), fun h => by omega, fun _ => rfl, fun h => by omega, by rw [HN9.out]; exact HZ.out.1, HZ.out.2⟩
                    case measure => first | (simp [intOf]; done) | (simp [intOf]; omega)
                  · have hd0 : d5 ≥ 0 := by omega
                    obtain ⟨T, hT⟩ : ∃ T, T = tmG t.1 d5 (jb : Int) t.2.1 := ⟨_, rfl⟩
                    have hTl : T.2.length ≤ t.2.1.length + 1 := by rw [hT]; exact tmG_l _ _ _ _
                    have HN9 := Lib.hid (show z1 = addB k T.1 (T.2, t.2.2) by rw [Hz1.out]; unfold pasB thrG; rw [if_neg hdn, hT]; rfl)
                    have HT := Lib.hid (fun w' (h : BrS w' G n v5 (t.2.1, Fr (k + 1) t.2.2)) => sTimes n G n t.1 d5 (jb : Int) v5 (t.2.1, Fr (k + 1) t.2.2) w' (by omega) (by omega) h)
                    rw [show (t.2.1, Fr (k + 1) t.2.2).1 = t.2.1 from rfl, show (t.2.1, Fr (k + 1) t.2.2).2 = Fr (k + 1) t.2.2 from rfl, ← hT] at HT
                    have HA := Lib.hid (fun v9 w' (h : BrS w' G n v9 (T.2, Fr (k + 1) t.2.2)) => sAddB n G n k T.1 v9 (T.2, Fr (k + 1) t.2.2) w' (by show T.2.length ≤ 5000; have : t.2.1.length ≤ 4000 := hlen9; omega) (Nat.le_refl _) (by have := HLN9.out; simp only at this ⊢; omega) (by have := HLN9.out; simp only at this ⊢; omega) h)
                    rw [addB_Fr (Nat.lt_succ_self k)] at HA
                    clear hT
                    go_wp2_with fail
                    refine wp_region_seq [(0, true), (1, true), (2, true), (3, true), (4, true), (5, true), (6, true), (7, true), (8, true), (9, true), (10, false)] (fun w' => w'.cell? ⟨G, 4, none⟩ = some (.slice (some ⟨n, 0, none⟩) L.length L.length) ∧ w'.cell? ⟨b2, 0, none⟩ = some (.int .i64 (ja : Int)) ∧ w'.cell? ⟨b2, 1, none⟩ = some (.int .i64 (jb : Int)) ∧ w'.cell? ⟨n, ja, none⟩ = some (.int .i64 d5)) (by kernel_rfl) (by kernel_rfl) rfl (by intro c a d v w h; cases d <;> exact h) ⟨x4, q0, q1, xd⟩ ?_
                    iterate 10 (refine wpSeq_take (v := ?_) (List.getElem?_toArray.trans rfl) ?_ ?_; rotate_left; (intro w' hSw; (try dsimp only at hSw); go_simp; (try with_reducible rfl)); (try simp only [Act.put, List.setIfInBounds_toArray, List.set_cons_zero, List.set_cons_succ]))
                    refine wpSeq_do (List.getElem?_toArray.trans rfl) (fun K hK => ?_)
                    go_simp
                    have hdr : Below W8.heap.size W8 W8.drew := Below.drew (Below.refl _ _)
                    refine (HT.out _ (HZ.out.1.below hdr)).mono ?_
                    rintro e w9 ⟨rfl, v9, m1, m2, m3, m4⟩
                    have y0 : w9.cell? ⟨b2, 0, none⟩ = some (.int .i64 (ja : Int)) := m3.get (by simpa using q2) hGb2 hnb2 hvb2 q0
                    have y1 : w9.cell? ⟨b2, 1, none⟩ = some (.int .i64 (jb : Int)) := m3.get (by simpa using q2) hGb2 hnb2 hvb2 q1
                    have y4 : w9.cell? ⟨G, 4, none⟩ = some (.slice (some ⟨n, 0, none⟩) L.length L.length) := by
                      have := m1.ms.sh.oth 4 (by omega) (by omega)
                      rw [show (T.2, Fr (k + 1) t.2.2).2.length = L.length from HLN9.out] at this
                      exact this
                    have yd : w9.cell? ⟨n, ja, none⟩ = some (.int .i64 d5) := by
                      rw [m1.br.c ja (by rw [show (T.2, Fr (k + 1) t.2.2).2.length = L.length from HLN9.out]; omega)]
                      show some (Value.int .i64 ((Fr (k + 1) t.2.2).getD ja 0)) = _
                      rw [Fr_at (by omega), Hd5.out]
                    have HM := Lib.hid (And.intro m1 (HZ.out.2.trans (hdr.mono hnW8 |>.trans m2)))
                    refine hK _ _ ⟨y4, y0, y1, yd⟩ ?_
                    clear hK K m1 m2 m3 m4 y0 y1 y4 yd hdr x4 xd q0 q1
                    refine wpSeq_nil ?_
                    simp only [Exit.then]
                    go_wp2_with fail
                    refine (HA.out _ _ HM.out.1).mono ?_
                    rintro e w10 ⟨rfl, v10, m1, m2, m3, m4⟩
                    have HR := Lib.hid (And.intro m1 (HM.out.2.trans m2))
                    clear m1 m2 m3 m4
                    go_wp2_with fail
                    go_roundw
                    case rel => exact ⟨0+1, v10, z1, by omega, by (first | rfl | go_num), fun h => by omega, fun _ => rfl, fun h => by omega, by rw [HN9.out]; exact HR.out.1, HR.out.2⟩
                    case measure => first | (simp [intOf]; done) | (simp [intOf]; omega)
                · have hz := hz1' rfl
                  subst hz
                  clear hz0 hz1' hz2 hm hm2
                  have HI := fun w => (idx22 (ja : Int) (jb : Int) (jb : Int) (ja : Int) w).2
                  rw [show ((1 : Nat) : Int) = 1 from rfl]
                  have hln : (z.1, Fr (k + 1) z.2).2.length = L.length := by rw [show (z.1, Fr (k + 1) z.2).2.length = z.2.length from Fr_len _ _ (by have := HP1.out.1.len; omega)]; exact HP1.out.1.len
                  obtain ⟨b2, hb2⟩ : ∃ b, b = wr.heap.size := ⟨_, rfl⟩
                  obtain ⟨W8, hW8⟩ : ∃ W8, W8 = wr.alloc (Obj.cells #[.int .i64 (jb : Int), .int .i64 (ja : Int)] 209) := ⟨_, rfl⟩
                  have b8 : Below wr.heap.size wr W8 := by rw [hW8]; exact (by repeat (first | exact Below.refl _ _ | apply Below.drew | apply below_drewN | (refine Below.alloc ?_ (by first | omega | (simp <;> omega)) _)))
                  have q0 : W8.cell? ⟨b2, 0, none⟩ = some (.int .i64 (jb : Int)) := by rw [hW8, hb2]; simp [go_sem]
                  have q1 : W8.cell? ⟨b2, 1, none⟩ = some (.int .i64 (ja : Int)) := by rw [hW8, hb2]; simp [go_sem]
                  have q2 : b2 < W8.heap.size := by rw [hW8, hb2]; simp
                  have hGr := hZ.ms.sh.lt
                  have hvb2 : v5.ownBlock ≠ some b2 := by rw [hb2]; exact hZ.ms.old (Nat.le_refl _)
                  have hGb2 : b2 ≠ G := by omega
                  have hnb2 : b2 ≠ n := by omega
                  have hZ8 := hZ.below b8
                  have hB8 : Below n w W8 := hB9.trans (b8.mono (by omega))
                  have hnW8 : n ≤ W8.heap.size := by have := b8.size; omega
                  have x4 : W8.cell? ⟨G, 4, none⟩ = some (.slice (some ⟨n, 0, none⟩) L.length L.length) := by
                    have := hZ8.ms.sh.oth 4 (by omega) (by omega)
                    rw [hln] at this
                    exact this
                  have xd : W8.cell? ⟨n, jb, none⟩ = some (.int .i64 d6) := by
                    rw [hZ8.br.c jb (by rw [hln]; omega)]
                    show some (Value.int .i64 ((Fr (k + 1) z.2).getD jb 0)) = _
                    rw [Fr_at (by omega), Hd6.out]
                  have hmx9 := HP1.out.1.max
                  have hlen9 : (z.1, Fr (k + 1) z.2).1.length ≤ 4000 := by show z.1.length ≤ 4000; omega
                  have HZ := Lib.hid (And.intro hZ8 hB8)
                  have HLN9 := Lib.hid hln
                  have HW8 := Lib.hid hW8
                  have HB2 := Lib.hid hb2
                  clear hZ hB9 hln hZ8 hB8 hW8 b8 hb2
                  go_upto_region 25 with fail
                  rw [← HW8.out, ← HB2.out]
                  clear HW8 HB2
                  by_cases hdn : d6 < 0
                  · have HN9 := Lib.hid (show z2 = z by rw [Hz2.out]; unfold pasB; rw [if_pos hdn])
                    have hd0 : ¬ d6 ≥ 0 := by omega
                    go_wp2_with fail
                    go_roundw
                    case rel => exact ⟨1+1, v5, z2, by omega, by (first | rfl | go_num), fun h => by omega, fun h => by omega, fun _ => rfl, by rw [HN9.out]; exact HZ.out.1, HZ.out.2⟩
                    case measure => first | (simp [intOf]; done) | (simp [intOf]; omega)
                  · have hd0 : d6 ≥ 0 := by omega
                    obtain ⟨T, hT⟩ : ∃ T, T = tmG t.1 d6 (ja : Int) z.1 := ⟨_, rfl⟩
                    have hTl : T.2.length ≤ z.1.length + 1 := by rw [hT]; exact tmG_l _ _ _ _
                    have HN9 := Lib.hid (show z2 = addB k T.1 (T.2, z.2) by rw [Hz2.out]; unfold pasB thrG; rw [if_neg hdn, hT]; rfl)
                    have HT := Lib.hid (fun w' (h : BrS w' G n v5 (z.1, Fr (k + 1) z.2)) => sTimes n G n t.1 d6 (ja : Int) v5 (z.1, Fr (k + 1) z.2) w' (by omega) (by omega) h)
                    rw [show (z.1, Fr (k + 1) z.2).1 = z.1 from rfl, show (z.1, Fr (k + 1) z.2).2 = Fr (k + 1) z.2 from rfl, ← hT] at HT
                    have HA := Lib.hid (fun v9 w' (h : BrS w' G n v9 (T.2, Fr (k + 1) z.2)) => sAddB n G n k T.1 v9 (T.2, Fr (k + 1) z.2) w' (by show T.2.length ≤ 5000; have : z.1.length ≤ 4000 := hlen9; omega) (Nat.le_refl _) (by have := HLN9.out; simp only at this ⊢; omega) (by have := HLN9.out; simp only at this ⊢; omega) h)
                    rw [addB_Fr (Nat.lt_succ_self k)] at HA
                    clear hT
                    go_wp2_with fail
                    refine wp_region_seq [(0, true), (1, true), (2, true), (3, true), (4, true), (5, true), (6, true), (7, true), (8, true), (9, true), (10, false)] (fun w' => w'.cell? ⟨G, 4, none⟩ = some (.slice (some ⟨n, 0, none⟩) L.length L.length) ∧ w'.cell? ⟨b2, 0, none⟩ = some (.int .i64 (jb : Int)) ∧ w'.cell? ⟨b2, 1, none⟩ = some (.int .i64 (ja : Int)) ∧ w'.cell? ⟨n, jb, none⟩ = some (.int .i64 d6)) (by kernel_rfl) (by kernel_rfl) rfl (by intro c a d v w h; cases d <;> exact h) ⟨x4, q0, q1, xd⟩ ?_
                    iterate 10 (refine wpSeq_take (v := ?_) (List.getElem?_toArray.trans rfl) ?_ ?_; rotate_left; (intro w' hSw; (try dsimp only at hSw); go_simp; (try with_reducible rfl)); (try simp only [Act.put, List.setIfInBounds_toArray, List.set_cons_zero, List.set_cons_succ]))
                    refine wpSeq_do (List.getElem?_toArray.trans rfl) (fun K hK => ?_)
                    go_simp
                    have hdr : Below W8.heap.size W8 W8.drew := Below.drew (Below.refl _ _)
                    refine (HT.out _ (HZ.out.1.below hdr)).mono ?_
                    rintro e w9 ⟨rfl, v9, m1, m2, m3, m4⟩
                    have y0 : w9.cell? ⟨b2, 0, none⟩ = some (.int .i64 (jb : Int)) := m3.get (by simpa using q2) hGb2 hnb2 hvb2 q0
                    have y1 : w9.cell? ⟨b2, 1, none⟩ = some (.int .i64 (ja : Int)) := m3.get (by simpa using q2) hGb2 hnb2 hvb2 q1
                    have y4 : w9.cell? ⟨G, 4, none⟩ = some (.slice (some ⟨n, 0, none⟩) L.length L.length) := by
                      have := m1.ms.sh.oth 4 (by omega) (by omega)
                      rw [show (T.2, Fr (k + 1) z.2).2.length = L.length from HLN9.out] at this
                      exact this
                    have yd : w9.cell? ⟨n, jb, none⟩ = some (.int .i64 d6) := by
                      rw [m1.br.c jb (by rw [show (T.2, Fr (k + 1) z.2).2.length = L.length from HLN9.out]; omega)]
                      show some (Value.int .i64 ((Fr (k + 1) z.2).getD jb 0)) = _
                      rw [Fr_at (by omega), Hd6.out]
                    have HM := Lib.hid (And.intro m1 (HZ.out.2.trans (hdr.mono hnW8 |>.trans m2)))
                    refine hK _ _ ⟨y4, y0, y1, yd⟩ ?_
                    clear hK K m1 m2 m3 m4 y0 y1 y4 yd hdr x4 xd q0 q1
                    refine wpSeq_nil ?_
                    simp only [Exit.then]
                    go_wp2_with fail
                    refine (HA.out _ _ HM.out.1).mono ?_
                    rintro e w10 ⟨rfl, v10, m1, m2, m3, m4⟩
                    have HR := Lib.hid (And.intro m1 (HM.out.2.trans m2))
                    clear m1 m2 m3 m4
                    go_wp2_with fail
                    go_roundw
                    case rel => exact ⟨1+1, v10, z2, by omega, by (first | rfl | go_num), fun h => by omega, fun h => by omega, fun _ => rfl, by rw [HN9.out]; exact HR.out.1, HR.out.2⟩
                    case measure => first | (simp [intOf]; done) | (simp [intOf]; omega)
              · have hm3 : m = 2 := by omega
                subst hm3
                have hz := hz2 rfl
                subst hz
                have HR := Lib.hid (And.intro hZ hB9)
                clear hZ hB9 hz0 hz1' hz2 hm hm2
                rw [show ((2 : Nat) : Int) = 2 from rfl]
                go_wp2_with fail
                go_roundw
                case rel => exact ⟨k + 1, v5, fwN L vv (k + 1), by omega, rfl, by rw [HE.out], by go_num, by rw [HE.out]; exact HR.out.1, HR.out.2⟩
                case measure => first | (simp [intOf]; done) | (simp [intOf]; omega)
    · have hkl : k = L.length := by omega
      subst hkl
      obtain ⟨hF, hFl, hFn⟩ := HFN.out L.length (Nat.le_refl _)
      rw [← ht] at hF hFl
      obtain ⟨q, hq⟩ : ∃ q, L.length = q + 1 := ⟨L.length - 1, by omega⟩
      obtain ⟨b, hbe⟩ : ∃ b, b = t.2.2.getD q 0 := ⟨_, rfl⟩
      obtain ⟨C, hC⟩ : ∃ C, C = t.2.1 := ⟨_, rfl⟩
      have hlen : t.2.2.length = L.length := hF.st.len
      have hfa : Fr L.length t.2.2 = t.2.2 := by rw [← hlen]; exact Fr_all _
      rw [hfa] at hS
      have hblo := hF.st.lo q (by omega)
      rw [← hbe, ← hC] at hblo
      have hCm := hF.st.max
      rw [← hC] at hCm hFl
      have hwq : IntKind.i64.wrap ((L.length : Int) - 1) = (q : Int) := by rw [IntWalk.i64_in _ (by omega)]; omega
      have hq0 : (0 : Int) ≤ (q : Int) := by omega
      have hql : (q : Int) < (L.length : Int) := by omega
      have x4 : wr.cell? ⟨G, 4, none⟩ = some (.slice (some ⟨n, 0, none⟩) L.length L.length) := by
        have := hS.ms.sh.oth 4 (by omega) (by omega)
        rw [show (t.2.1, t.2.2).2.length = L.length from hlen] at this
        exact this
      have xd : wr.cell? ⟨n, q, none⟩ = some (.int .i64 b) := by
        rw [hS.br.c q (by rw [show (t.2.1, t.2.2).2.length = L.length from hlen]; omega), hbe]
      have c0 := hS.ms.sh.c0
      have hrow := hS.ms.row
      rw [show (t.2.1, t.2.2).1 = C from hC.symm] at hrow
      have hnw : n ≤ wr.heap.size := by have := hS.ms.sh.lt; omega
      have HB := Lib.hid hB
      have HFC := Lib.hid (show fwC L vv = if b < 0 then [⟨1, 0, 0⟩] else C.take (b + 1).toNat by
        unfold fwC
        rw [← ht, ← hC, show L.length - 1 = q by omega, ← hbe])
      clear hS hB hF hFn ht hbe hC hfa hlen hq
      by_cases hneg : b < 0
      · have HE := Lib.hid (show fwC L vv = [⟨1, 0, 0⟩] by rw [HFC.out, if_pos hneg])
        clear hrow c0
        go_wp2_with fail
        have bA : Below n w (wr.alloc (Obj.cells #[.int .i64 1, .int .i64 0, .int .i64 0] 116)) := Below.alloc HB.out hnw _
        go_ret
        rw [HE.out]
        refine ⟨_, rfl, ⟨by simp, _, 1, rfl, .inr ⟨wr.heap.size, 0, rfl, hnw, by simp, fun j hj => ?_, fun i _ => World.frozen?_alloc_at _ _ _ _ rfl⟩⟩, bA⟩
        have : j = 0 := by simpa using hj
        subst this
        refine ⟨?_, ?_, ?_⟩ <;> simp [go_sem]
      · obtain ⟨m, rfl⟩ := Int.eq_ofNat_of_zero_le (show 0 ≤ b by omega)
        have hmC : m < C.length := by have := hblo.2; omega
        have HE := Lib.hid (show fwC L vv = C.take (m + 1) by rw [HFC.out, if_neg hneg]; rfl)
        rcases hrow.shape with ⟨_, hCn⟩ | ⟨g4, c4', rfl, hg4, hg4l, hCc, hcm⟩
        · subst hCn
          simp at hmC
        · have HO := Lib.hid ((hrow.own (by omega)).base (show n ≤ G + 1 by omega))
          have hwC : IntKind.i64.wrap ((C.length : Int) - 1) = (C.length : Int) - 1 := IntWalk.i64_in _ (by omega)
          clear hrow hcm
          by_cases hlast : (m : Int) < (C.length : Int) - 1
          · have hwm : IntKind.i64.wrap ((m : Int) + 1) = ((m + 1 : Nat) : Int) := by rw [IntWalk.i64_in _ (by omega)]; simp
            have hmc : (m : Int) + 1 ≤ (c4' : Int) := by omega
            have hmc2 : m + 1 ≤ c4' := by omega
            have HOC := Lib.hid (own_cut HO.out (show m + 1 ≤ C.length by omega))
            go_wp2_with fail
            go_ret
            rw [HE.out]
            exact ⟨_, rfl, HOC.out, HB.out⟩
          · have HEE := Lib.hid (show fwC L vv = C by rw [HE.out]; exact List.take_of_length_le (by omega))
            go_wp2_with fail
            go_ret
            rw [HEE.out]
            exact ⟨_, rfl, HO.out, HB.out⟩
end Go.Proofs.Ytibghhkhnpjdfaa
