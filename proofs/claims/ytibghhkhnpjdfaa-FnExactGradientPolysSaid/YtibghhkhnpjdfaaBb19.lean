/-
  PolyOfCircuit of the program. Conditions: what the slice holds is known.
  PolyOfCircuit of the model. Conditions: what the slice holds is known.
  GradientPolys: what the three results are, and three slices of terms in a box. Conditions: none.
  GradientPolys of the model. Conditions: the slice reads as a list of gates and has no more length than capacity.
-/
import Derived.Test.YtibghhkhnpjdfaaBb17
import Derived.Test.YtibghhkhnpjdfaaBb18
import Derived.Test.YtibghhkhnpjdfaaBb4
import Derived.Test.YtibghhkhnpjdfaaBb5
namespace Go.Proofs.Ytibghhkhnpjdfaa
open Go.RowKit
theorem ownT_low {w : World} {B B' : Nat} {v : Value} {L : List Trm} (h : OwnTrms w B v L) (hB : B' ≤ B) : OwnTrms w B' v L := ownT_base h hB
/-- one term in a block of its own -/
theorem ownT_one {w : World} {B g : Nat} (x : Trm) (hB : B ≤ g) (hg : g < w.heap.size) (h : TAt w g 0 x) (hf : ∀ i : Nat, i < 4 → w.frozen? ⟨g, i, none⟩ = false) (c : Nat) : OwnTrms w B (.slice (some ⟨g, 0, none⟩) 1 c) [x] := by
  refine ⟨by simp, _, c, rfl, .inr ⟨g, 0, rfl, hB, hg, fun j hj => ?_, fun i hi => ?_⟩⟩
  · have : j = 0 := by simpa using hj
    subst this
    simpa using h
  · rw [Nat.zero_add]
    exact hf i (by simpa using hi)
set_option maxRecDepth 100000 in
set_option maxHeartbeats 4000000 in
theorem iGPoly0 (p a b : Int) (ha : a = 0 ∨ a = 1 ∨ a = 2) (o : Option Addr) (n cap : Nat) (w : World) :
    Calls Try.prog 99 #[.agg #[.int .i64 0, .int .i64 a, .int .i64 b], .int .i64 p, .slice o n cap] w (GivesPB [onT a] true w) := by
  rcases ha with rfl | rfl | rfl
  all_goals
    go_enter Try.func99, Try.ntmps99
    go_wp2_with fail
    refine bodyPost_ret (results_tmp2 rfl _ _ _) rfl ?_
    refine ⟨_, rfl, ownT_one _ (by omega) ?_ ?_ ?_ _, ?_⟩
    · simp
    · simp [onT, TAt, go_sem]
    · intro i hi
      exact World.frozen?_alloc_at _ _ _ i (by simp)
    · repeat (first | exact Below.refl _ _ | (refine Below.setCell ?_ (by first | omega | (simp; done) | (simp; omega)) _) | (refine Below.alloc ?_ (by first | omega | (simp; done) | (simp; omega)) _))
theorem make_cn {p a : Int} (hp : isP p = true) (ha : 0 ≤ a ∧ a < p) : makeV p [⟨0, 0, 0, a⟩] = cnL a ∧ makeOk p [⟨0, 0, 0, a⟩] = true := by
  have hb := isP_bd hp
  have hm : mkK p [⟨0, 0, 0, a⟩] 1 = cnL a := by
    unfold mkK cnL
    simp only [List.take_succ_cons, List.take_zero, List.map_cons, List.map_nil, addAll, mkT]
    rw [Int.emod_eq_of_lt ha.1 ha.2]
    split
    · rename_i h
      rw [h]
      exact addT_zero rfl
    · rename_i h
      exact addT_nil h
  have hv : validB p (cnL a) = true := by
    unfold cnL
    split
    · rfl
    · refine validB_of (List.pairwise_singleton ..) (fun y hy => ?_) (fun y hy => ?_) (by simp)
      · have e : y = ⟨0, 0, 0, a⟩ := by simpa using hy
        subst e
        show 1 ≤ a ∧ a < p
        omega
      · have e : y = ⟨0, 0, 0, a⟩ := by simpa using hy
        subst e
        rfl
  have hk : makeOk p [⟨0, 0, 0, a⟩] = true := by
    unfold makeOk
    rw [hp, show ([⟨0, 0, 0, a⟩] : List Trm).length = 1 from rfl, hm, hv]
    rfl
  exact ⟨by unfold makeV; rw [if_pos hk]; exact hm, hk⟩
set_option maxRecDepth 100000 in
set_option maxHeartbeats 4000000 in
theorem iGPoly1 (p a b : Int) (hp : isP p = true) (ha : 0 ≤ a ∧ a < p) (o : Option Addr) (n cap : Nat) (w : World) :
    Calls Try.prog 99 #[.agg #[.int .i64 1, .int .i64 a, .int .i64 b], .int .i64 p, .slice o n cap] w (GivesPB (cnL a) true w) := by
  have HM := Lib.hid (fun f w' (h : Trms w' f [⟨0, 0, 0, a⟩]) => show Calls Try.prog 179 #[.int .i64 p, f] w' (GivesPB (cnL a) true w') by
    rw [← (make_cn hp ha).1, ← (make_cn hp ha).2]
    exact iMakePoly p f _ w' h)
  clear hp ha
  go_enter Try.func99, Try.ntmps99
  go_wp2_with fail
  refine (HM.out _ _ ?_).mono ?_
  · refine ⟨by simp, _, 1, rfl, .inr ⟨w.heap.size + 1, 0, rfl, by simp, fun j hj => ?_⟩⟩
    have : j = 0 := by simpa using hj
    subst this
    simp [TAt, go_sem]
  rintro e w2 ⟨v, rfl, ho, hb⟩
  have HO := Lib.hid (And.intro ho hb)
  obtain ⟨_, ao, co, rfl, _⟩ := ho
  clear hb
  go_wp2_with fail
  refine bodyPost_ret (results_tmp2 rfl _ _ _) rfl ?_
  exact ⟨_, rfl, ownT_low HO.out.1 (by simp; omega), (by repeat (first | exact Below.refl _ _ | (refine Below.alloc ?_ (by first | omega | (simp; done) | (simp; omega)) _)) : Below w.heap.size w _).trans (HO.out.2.mono (by simp; omega))⟩
/-- the polynomials that a gate joins, as it finds them -/
theorem keepPl {w w1 : World} {n g ja jb : Nat} {a b : Int} {u v : Value} (hb : Below w.heap.size w w1) (hn : n < w.heap.size) (hg : g < w.heap.size)
    (h : w.cell? ⟨n, 1, none⟩ = some (.int .i64 a) ∧ w.cell? ⟨n, 2, none⟩ = some (.int .i64 b) ∧ w.cell? ⟨g, ja, none⟩ = some u ∧ w.cell? ⟨g, jb, none⟩ = some v) :
    w1.cell? ⟨n, 1, none⟩ = some (.int .i64 a) ∧ w1.cell? ⟨n, 2, none⟩ = some (.int .i64 b) ∧ w1.cell? ⟨g, ja, none⟩ = some u ∧ w1.cell? ⟨g, jb, none⟩ = some v := by
  obtain ⟨h1, h2, h3, h4⟩ := h
  exact ⟨by rw [hb.cell (p := ⟨n, 1, none⟩) hn]; exact h1, by rw [hb.cell (p := ⟨n, 2, none⟩) hn]; exact h2, by rw [hb.cell (p := ⟨g, ja, none⟩) hg]; exact h3, by rw [hb.cell (p := ⟨g, jb, none⟩) hg]; exact h4⟩
set_option maxRecDepth 100000 in
set_option maxHeartbeats 4000000 in
theorem iGPoly2 (p k : Int) (hk : k = 2 ∨ k = 3) (ja jb n : Nat) (hja : ja < n) (hjb : jb < n) (hn : n ≤ 60) (g cap : Nat) (u v : Value) (L M : List Trm) (w : World) (hg : g < w.heap.size)
    (h0 : w.cell? ⟨g, ja, none⟩ = some u) (h1 : w.cell? ⟨g, jb, none⟩ = some v) (hL : Trms w u L) (hM : Trms w v M) :
    Calls Try.prog 99 #[.agg #[.int .i64 k, .int .i64 ja, .int .i64 jb], .int .i64 p, .slice (some ⟨g, 0, none⟩) n cap] w
      (GivesPB (if k = 2 then sumV p L M else mulL p L M) (if k = 2 then addOk p L M else mulOk p L M) w) := by
  obtain ⟨W, hW⟩ : ∃ W, W = w.alloc (Obj.cells #[.int .i64 k, .int .i64 ja, .int .i64 jb] 116) := ⟨_, rfl⟩
  have bW : Below w.heap.size w W := by rw [hW]; exact (by repeat (first | exact Below.refl _ _ | apply Below.drew | apply below_drewN | (refine Below.alloc ?_ (by first | omega | (simp <;> omega)) _)))
  have c1 : W.cell? ⟨w.heap.size, 1, none⟩ = some (.int .i64 ja) := by rw [hW]; simp [go_sem]
  have c2 : W.cell? ⟨w.heap.size, 2, none⟩ = some (.int .i64 jb) := by rw [hW]; simp [go_sem]
  have c0 : W.cell? ⟨w.heap.size, 0, none⟩ = some (.int .i64 k) := by rw [hW]; simp [go_sem]
  have ht : w.heap.size < W.heap.size := by rw [hW]; simp
  have d0 := bW.cell (p := ⟨g, ja, none⟩) hg
  have d1 := bW.cell (p := ⟨g, jb, none⟩) hg
  rw [h0] at d0
  rw [h1] at d1
  have hg2 : g < W.heap.size := by omega
  have ja0 : (0 : Int) ≤ ja := by omega
  have jb0 : (0 : Int) ≤ jb := by omega
  have jan : (ja : Int) < (n : Int) := by omega
  have jbn : (jb : Int) < (n : Int) := by omega
  have hn0 : (n : Int) ≤ 60 := by omega
  have HL := Lib.hid (fun w' (hb : Below W.heap.size W w') => And.intro ((hL.below bW).below hb) ((hM.below bW).below hb))
  have HS := Lib.hid (fun w' (hb : Below W.heap.size W w') => iAddPoly p u v L M w' (HL.out w' hb).1 (HL.out w' hb).2)
  have HT := Lib.hid (fun w' (hb : Below W.heap.size W w') => iMulPoly p u v L M w' (HL.out w' hb).1 (HL.out w' hb).2)
  obtain ⟨_, a1, k1, rfl, _⟩ := hL
  obtain ⟨_, a2, k2, rfl, _⟩ := hM
  have HW := Lib.hid hW
  have HB := Lib.hid bW
  clear hW bW h0 h1 HL
  rcases hk with rfl | rfl
  all_goals
    simp only [if_true, show ((3 : Int) = 2) = False by simp, if_false]
    go_enter Try.func99, Try.ntmps99
    go_wp2_with fail
    rw [← HW.out]
    clear HW
    go_wp2_with fail
    go_region_held3 (fun w' => w'.cell? ⟨w.heap.size, 1, none⟩ = some (.int .i64 ja) ∧ w'.cell? ⟨w.heap.size, 2, none⟩ = some (.int .i64 jb) ∧ w'.cell? ⟨g, ja, none⟩ = some (.slice a1 L.length k1) ∧ w'.cell? ⟨g, jb, none⟩ = some (.slice a2 M.length k2)) (first | exact keepPl hb1 (by simpa using ht) (by simpa using hg2) (by assumption) | go_keep)
      (first | (go_at_call 48; refine (HS.out _ (Below.drew (Below.refl _ _))).mono ?_; rintro e w1 ⟨x, rfl, ho, hb1⟩) | (go_at_call 37; refine (HT.out _ (Below.drew (Below.refl _ _))).mono ?_; rintro e w1 ⟨x, rfl, ho, hb1⟩))
    have HO := Lib.hid (And.intro ho (HB.out.trans (((Below.drew (Below.refl _ _) : Below W.heap.size W W.drew).trans (by simpa using hb1)).mono (by omega))))
    obtain ⟨_, ao, co, rfl, _⟩ := ho
    clear hb1
    go_wp2_with fail
    refine bodyPost_ret (results_tmp2 rfl _ _ _) rfl ?_
    exact ⟨_, rfl, ownT_low HO.out.1 (by simp; omega), HO.out.2⟩
theorem iGPoly (p : Int) (L : List Gt) (hv : circB p L = true) (i : Nat) (hi : i < L.length) (x : Gt) (hx : x = L.getD i default) (G n cap : Nat) (F : Nat → Value) (w : World) (hS : StrW w G n F) (hin : i < n) (hn : n ≤ 60)
    (hF : joinsB (gAt L i) = true → Trms w (F (gAt L i).a.toNat) (pcP p L (gAt L i).a.toNat) ∧ Trms w (F (gAt L i).b.toNat) (pcP p L (gAt L i).b.toNat)) :
    Calls Try.prog 99 #[.agg #[.int .i64 x.k, .int .i64 x.a, .int .i64 x.b], .int .i64 p, .slice (some ⟨G, 0, none⟩) n cap] w (GivesPB (pcP p L i) (pcO p L i) w) := by
  have hgx : gAt L i = x := hx.symm
  obtain ⟨hp, _, _, hall⟩ := circB_iff.1 hv
  rcases gOK_cases (hall i hi) with ⟨hk, h0, h1, _⟩ | ⟨hk, h0, h1, _⟩ | ⟨hk, h0, h1, h2, h3⟩
  · rw [(pcP_in hk).1, (pcP_in hk).2]
    rw [hgx] at hk h0 h1 ⊢
    rw [hk]
    exact iGPoly0 p x.a x.b (by omega) _ _ _ w
  · rw [(pcP_cn hk).1, (pcP_cn hk).2]
    rw [hgx] at hk h0 h1 ⊢
    rw [hk]
    exact iGPoly1 p x.a x.b hp (by omega) _ _ _ w
  · obtain ⟨f1, f2⟩ := hF (by simpa [joinsB] using hk)
    have e : pcP p L i = (if (gAt L i).k = 2 then sumV p (pcP p L (gAt L i).a.toNat) (pcP p L (gAt L i).b.toNat) else mulL p (pcP p L (gAt L i).a.toNat) (pcP p L (gAt L i).b.toNat)) ∧ pcO p L i = (if (gAt L i).k = 2 then addOk p (pcP p L (gAt L i).a.toNat) (pcP p L (gAt L i).b.toNat) else mulOk p (pcP p L (gAt L i).a.toNat) (pcP p L (gAt L i).b.toNat)) := by
      rcases hk with hk | hk
      · rw [(pcP_sum hv hi hk).1, (pcP_sum hv hi hk).2, hk]
        exact ⟨rfl, rfl⟩
      · rw [(pcP_mul hv hi hk).1, (pcP_mul hv hi hk).2, hk]
        exact ⟨rfl, rfl⟩
    rw [e.1, e.2]
    rw [hgx] at hk h0 h1 h2 h3 f1 f2 ⊢
    have c1 := (hS.c x.a.toNat (by omega)).1
    have c2 := (hS.c x.b.toNat (by omega)).1
    have := iGPoly2 p x.k hk x.a.toNat x.b.toNat n (by omega) (by omega) hn G cap _ _ _ _ w hS.sz c1 c2 f1 f2
    rw [show ((x.a.toNat : Nat) : Int) = x.a by omega, show ((x.b.toNat : Nat) : Int) = x.b by omega] at this
    exact this
theorem infoPoly : (Try.prog.info? 31).map (fun i => (i.zero, i.size, i.bytes)) = some (some (.slice none 0 0), 1, 24) := by kernel_rfl
theorem ownT_off {w : World} {B G i : Nat} {v u : Value} {L : List Trm} (h : OwnTrms w B v L) (hB : G < B) : OwnTrms (w.setCell ⟨G, i, none⟩ u) B v L := by
  obtain ⟨h1, a, cap, hv, h2⟩ := h
  refine ⟨h1, a, cap, hv, ?_⟩
  rcases h2 with h2 | ⟨g, off, ha, hg, hs, hc, hf⟩
  · exact .inl h2
  · refine .inr ⟨g, off, ha, hg, by simpa using hs, fun j hj => ?_, fun j hj => by rw [World.frozen?_setCell]; exact hf j hj⟩
    have hne : ∀ d, (⟨G, i, none⟩ : Addr) ≠ ⟨g, d, none⟩ := fun d e => by injection e with e1 _; omega
    obtain ⟨t0, t1, t2, t3⟩ := hc j hj
    exact ⟨by rw [World.cell?_setCell_other _ _ _ _ (hne _)]; exact t0, by rw [World.cell?_setCell_other _ _ _ _ (hne _)]; exact t1, by rw [World.cell?_setCell_other _ _ _ _ (hne _)]; exact t2, by rw [World.cell?_setCell_other _ _ _ _ (hne _)]; exact t3⟩
/-- what the program's rounds keep: the polynomials of the used gates so far -/
structure PcW (p : Int) (L : List Gt) (w0 : World) (B G g2 o2 : Nat) (l : List Int) (t : Nat) (F : Nat → Value) (wr : World) : Prop where
  st : StrW wr G L.length F
  li : ∀ j, j < l.length → wr.cell? ⟨g2, o2 + j, none⟩ = some (.int .i64 (l.getD j 0))
  g2s : g2 < wr.heap.size
  ne : g2 ≠ G
  BG : B ≤ G
  low : Below B w0 wr
  ok : ∀ j : Nat, (j : Int) ∈ l.take t → OwnTrms wr (G + 1) (F j) (pcP p L j)
theorem PcW.below {p : Int} {L : List Gt} {w0 : World} {B G g2 o2 t : Nat} {l : List Int} {F : Nat → Value} {wr w1 : World} (h : PcW p L w0 B G g2 o2 l t F wr) (hB : B ≤ w0.heap.size) (hb : Below wr.heap.size wr w1) : PcW p L w0 B G g2 o2 l t F w1 :=
  ⟨h.st.below hb, fun j hj => by rw [hb.cell (p := ⟨g2, o2 + j, none⟩) h.g2s]; exact h.li j hj, Nat.lt_of_lt_of_le h.g2s hb.size, h.ne, h.BG, h.low.trans (hb.mono (Nat.le_trans hB h.low.size)), fun j hj => (h.ok j hj).below hb⟩
theorem PcW.put {p : Int} {L : List Gt} {w0 : World} {B G g2 o2 t i : Nat} {l : List Int} {F : Nat → Value} {wr : World} {v : Value} (h : PcW p L w0 B G g2 o2 l t F wr) (hi : i < L.length) (ht : t < l.length) (hl : l.getD t 0 = (i : Int)) (hv : OwnTrms wr (G + 1) v (pcP p L i)) :
    PcW p L w0 B G g2 o2 l (t + 1) (fun j => if j = i then v else F j) (wr.setCell ⟨G, i, none⟩ v) := by
  refine ⟨h.st.set hi _, fun j hj => ?_, by simpa using h.g2s, h.ne, h.BG, h.low.setCell (p := ⟨G, i, none⟩) h.BG _, fun j hj => ?_⟩
  · rw [World.cell?_setCell_other _ _ _ _ (fun e => h.ne (congrArg Addr.block e).symm)]
    exact h.li j hj
  · by_cases e : j = i
    · rw [if_pos e, e]
      exact ownT_off hv (by omega)
    · rw [if_neg e]
      rw [snocZ ht, hl] at hj
      rcases List.mem_append.1 hj with hj | hj
      · exact ownT_off (h.ok j hj) (by omega)
      · exact absurd (by have : (j : Int) = (i : Int) := by simpa using hj
                         omega) e
set_option maxRecDepth 100000 in
set_option maxHeartbeats 4000000 in
theorem iPoC_no (p : Int) (f : Value) (L : List Gt) (w : World) (h : Gats w f L) (hv : circB p L = false) :
    Calls Try.prog 19 #[.int .i64 p, f] w (GivesPB [] false w) := by
  have HCV := Lib.hid (iCircuitValid p f L w h)
  rw [hv] at HCV
  obtain ⟨_, a, cap, rfl, _⟩ := h
  clear hv
  go_enter Try.func19, Try.ntmps19
  go_wp2_with fail
  refine HCV.out.mono ?_
  rintro e w1 ⟨rfl, hb1⟩
  have HB := Lib.hid hb1
  clear hb1
  go_wp2_with fail
  refine bodyPost_ret (results_tmp2 rfl _ _ _) rfl ?_
  exact ⟨_, rfl, (Row.nil w1 w.heap.size).own (by simp), HB.out⟩
set_option maxRecDepth 100000 in
set_option maxHeartbeats 8000000 in
theorem iPoC_yes (p : Int) (f : Value) (L : List Gt) (w : World) (h : Gats w f L) (hv : circB p L = true) (R : List Trm) (b : Bool) (hR : R = pcV p L) (hb : b = pcOk p L) :
    Calls Try.prog 19 #[.int .i64 p, f] w (GivesPB R b w) := by
  obtain ⟨i0, hi, hz0, hz1, hz2⟩ := info_parts infoPoly
  have HCV := Lib.hid (iCircuitValid p f L w h)
  rw [hv] at HCV
  have HUG := Lib.hid (fun w' (hb : Below w.heap.size w w') => iUsedGates p f L w' (h.below hb))
  rw [show useV p L = useTo (useF L) 60 by simp [useV, hv]] at HUG
  obtain ⟨g, off, cap, rfl, hg, hc⟩ := gats_u h hv
  obtain ⟨hp, hl1, hl2, hall⟩ := circB_iff.1 hv
  obtain ⟨m, hm⟩ : ∃ m, L.length = m + 1 := ⟨L.length - 1, by omega⟩
  have hmm : (L.length : Int) - 1 = (m : Int) := by omega
  obtain ⟨l, hl⟩ : ∃ l, l = useTo (useF L) 60 := ⟨_, rfl⟩
  rw [← hl] at HUG
  have HML := Lib.hid (show ((m : Nat) : Int) ∈ l by
    rw [hl]
    refine sp_mem (by omega) ?_
    have := useF_last hv
    rwa [show L.length - 1 = m by omega] at this)
  have hll : l.length ≤ 60 := by rw [hl]; exact useTo_len _ _
  have HL := Lib.hid hl
  have HV := Lib.hid hv
  have HC := Lib.hid hc
  have HMM := Lib.hid hmm
  have HM1 := Lib.hid hm
  have HRR := Lib.hid hR
  have HBB := Lib.hid hb
  clear hall hl hv hc hm hmm h hp hR hb
  go_enter Try.func19, Try.ntmps19
  go_wp2_with fail
  refine HCV.out.mono ?_
  rintro e w1 ⟨rfl, hb1⟩
  have HB1 := Lib.hid hb1
  have hgr0 := hb1.size
  clear hb1
  go_wp2_with (at_make; refine wpList_make_full _ rfl _ _ 126 rfl w1.heap.size 31 i0 (.slice none 0 0) 1 Try.underlying126 hi hz0 hz1 .i64 .i64 L.length L.length L.length rfl rfl rfl rfl ?c2 ?c3 ?c4 ?_)
  case c2 => rw [hz2]; omega
  case c3 => unfold maxLen; omega
  case c4 => exact Nat.le_refl _
  intro w2 hown hgr
  have hb2 : Below w1.heap.size w1 w2 := (Below.refl _ _).grown hgr (Nat.le_refl _) (fun k hk => by cases hk)
  obtain ⟨F0, hF0⟩ : ∃ F0 : Nat → Value, StrW w2 w1.heap.size L.length F0 := by
    refine ⟨fun j => (w2.cell? ⟨w1.heap.size, j, none⟩).getD undef, (hown.lt _ rfl).2, fun j hj => ⟨?_, hown.frozenAt j⟩⟩
    have e := hown.cellAt j (by omega)
    cases hc : w2.cell? ⟨w1.heap.size, j, none⟩ with
    | some u => rfl
    | none =>
      rw [hc] at e
      obtain ⟨u, hu⟩ := madeS (Value.slice none 0 0).cells L.length j hj
      exact absurd (e.trans hu) (by simp)
  have HS2 := Lib.hid hF0
  have HB2 := Lib.hid (HB1.out.trans (hb2.mono hgr0))
  have hGs : w.heap.size ≤ w1.heap.size := hgr0
  obtain ⟨G, hG⟩ : ∃ G, G = w1.heap.size := ⟨_, rfl⟩
  rw [← hG] at HS2 hGs ⊢
  clear hown hgr hb2 hF0 hG hi hz0 hz1 hz2
  go_wp2_with fail
  refine (HUG.out _ HB2.out).mono ?_
  rintro e w3 ⟨v3, rfl, hO, hb3⟩
  obtain ⟨_, al, cl, rfl, hO⟩ := hO
  have hl0 : 0 < l.length := List.length_pos_of_mem HML.out
  rcases hO with h0 | ⟨g2, o2, rfl, hB2, hg2, hcl, _⟩
  · rw [h0] at hl0; simp at hl0
  have hS3 := HS2.out.below hb3
  have HW := Lib.hid (show PcW p L w w.heap.size G g2 o2 l 0 F0 w3 from
    ⟨hS3, hcl, hg2, by have := HS2.out.sz; omega, hGs, HB2.out.trans (hb3.mono HB2.out.size), fun j hj => by simp at hj⟩)
  clear hcl hb3 hB2 hg2 hS3
  go_wp2_with fail
  go_loopw [22] (fun i wr => ∃ (t : Nat) (F : Nat → Value), t ≤ l.length ∧ i = .int .i64 t ∧ PcW p L w w.heap.size G g2 o2 l t F wr ∧ ∀ j : Nat, (j : Int) ∈ l.take t → pcO p L j = true) (fun i _ => l.length - (intOf i).toNat)
  case atStart => exact ⟨0, F0, by omega, rfl, HW.out, fun j hj => by simp at hj⟩
  case round =>
    clear HW
    obtain ⟨t, F, ht, rfl, hS, hok⟩ := hrel
    have HOK := Lib.hid hok
    clear hok
    by_cases hlt : t < l.length
    · have hltp : (t : Int) < (l.length : Int) := by omega
      have ht0 : (0 : Int) ≤ (t : Int) := by omega
      obtain ⟨j, hj60, huj, hjl, hju⟩ := sp_pos (useF L) 60 t (by rw [← HL.out]; exact hlt)
      rw [← HL.out] at hjl hju
      have hjL : j < L.length := useM_lt HV.out _ j huj
      have hjp : (j : Int) < (L.length : Int) := by omega
      have hj0 : (0 : Int) ≤ (j : Int) := by omega
      have q0 := hS.li t hlt
      rw [hjl] at q0
      obtain ⟨a0, a1, a2⟩ := (HC.out j hjL).below hS.low hg
      obtain ⟨x, hx⟩ : ∃ x, x = L.getD j default := ⟨_, rfl⟩
      rw [← hx] at a0 a1 a2
      have HT := Lib.hid (iGPoly p L HV.out j hjL x hx G L.length L.length F wr hS.st hjL hl2 (fun hg => by
        obtain ⟨u1, u2⟩ := use_closed HV.out hjL huj hg
        obtain ⟨_, l1, l2⟩ := tx_join HV.out hjL hg
        exact ⟨(hS.ok _ (by rw [← hju]; exact sp_mem l1 u1)).trms, (hS.ok _ (by rw [← hju]; exact sp_mem l2 u2)).trms⟩))
      have HS := Lib.hid hS
      have HJL := Lib.hid hjl
      have HU := Lib.hid huj
      clear hS hx huj hjl hju
      rcases Bool.eq_false_or_eq_true (pcO p L j) with ho | ho
      · have HO := Lib.hid ho
        rw [ho] at HT
        clear ho
        go_wp2_with fail
        refine HT.out.mono ?_
        rintro e w4 ⟨v4, rfl, ho4, hb4⟩
        have H4 := Lib.hid (HS.out.below (Nat.le_refl _) hb4)
        have hsz := HS.out.st.sz
        have HV4 := Lib.hid (ownT_low ho4 (show G + 1 ≤ wr.heap.size by omega))
        obtain ⟨_, a4, k4, rfl, _⟩ := ho4
        clear hb4 q0 a0 a1 a2 hsz
        obtain ⟨c4, f4⟩ := H4.out.st.c j hjL
        have hG4 := H4.out.st.sz
        have H5 := Lib.hid (H4.out.put hjL hlt HJL.out HV4.out)
        go_wp2_with fail
        go_roundw
        case rel =>
          refine ⟨t + 1, _, by omega, by go_num, H5.out, fun i hi => ?_⟩
          rw [snocZ hlt, HJL.out] at hi
          rcases List.mem_append.1 hi with hi | hi
          · exact HOK.out i hi
          · have : i = j := by
              have : (i : Int) = (j : Int) := by simpa using hi
              omega
            rw [this]
            exact HO.out
        case measure => simp [intOf]; omega
      · rw [ho] at HT
        have HE := Lib.hid (pc_bad hjL HU.out ho)
        have hz : b = false := by rw [HBB.out, HE.out]
        have hz2 : R = [] := by rw [HRR.out]; unfold pcV; rw [HE.out]; rfl
        subst hz hz2
        clear ho
        go_wp2_with fail
        refine HT.out.mono ?_
        rintro e w4 ⟨v4, rfl, ho4, hb4⟩
        have H4 := Lib.hid (HS.out.below (Nat.le_refl _) hb4)
        obtain ⟨_, a4, k4, rfl, _⟩ := ho4
        clear hb4 q0 a0 a1 a2
        go_wp2_with fail
        refine bodyPost_ret (results_tmp2 rfl _ _ _) rfl ?_
        exact ⟨_, rfl, (Row.nil w4 w.heap.size).own (by simp), H4.out.low⟩
    · have htl : t = l.length := by omega
      subst htl
      have hm1 := HM1.out
      have c9 := (hS.st.c m (by omega)).1
      have HO9 := Lib.hid (ownT_low (hS.ok m (by rw [List.take_length]; exact HML.out)) (show w.heap.size ≤ G + 1 by omega))
      have hzz : pcOk p L = true := pc_good HV.out (fun j hj hu => HOK.out j (by rw [List.take_length, HL.out]; exact sp_mem (by omega) hu))
      have hz : b = true := by rw [HBB.out, hzz]
      have hz2 : R = pcP p L m := by rw [HRR.out]; unfold pcV; rw [hzz, if_pos rfl]; congr 1; omega
      subst hz hz2
      have hm0 : (0 : Int) ≤ (m : Int) := by omega
      have hmL : (m : Int) < (L.length : Int) := by omega
      have HQ := Lib.hid hS.low
      obtain ⟨_, a9, k9, he9, _⟩ := HO9.out
      rw [he9] at c9 HO9
      have hG9 := hS.st.sz
      clear hS hm1 hzz he9
      go_wp2_with (go_at_call 91; refine (iLast _ L.length _ m (by omega) HMM.out _).mono ?_; rintro e w' ⟨rfl, rfl⟩)
      refine bodyPost_ret (results_tmp2 rfl _ _ _) rfl ?_
      exact ⟨_, rfl, HO9.out, HQ.out⟩
theorem iPolyOfCircuit (p : Int) (f : Value) (L : List Gt) (w : World) (h : Gats w f L) :
    Calls Try.prog 19 #[.int .i64 p, f] w (GivesPB (pcV p L) (pcOk p L) w) := by
  cases hv : circB p L
  · rw [(pc_no hv).1, (pc_no hv).2]
    exact iPoC_no p f L w h hv
  · exact iPoC_yes p f L w h hv _ _ rfl rfl
end Go.Proofs.Ytibghhkhnpjdfaa
namespace Go.Proofs.Ytibghhkhnpjdfaa
open Go.RowKit
set_option maxRecDepth 100000 in
set_option maxHeartbeats 4000000 in
theorem sPower1 (a : Int) (ha : a = 0 ∨ a = 1 ∨ a = 2) (w : World) :
    Calls Try.prog 127 #[.int .i64 a, .int .i64 1] w fun e w' => ∃ v, e = .returned v ∧ OwnTrms w' w.heap.size v [onT a] ∧ Below w.heap.size w w' := by
  rcases ha with rfl | rfl | rfl
  all_goals
    go_enter Try.func127, Try.ntmps127
    go_wp2_with fail
    go_ret
    refine ⟨_, rfl, ownT_one _ (by omega) ?_ ?_ ?_ _, ?_⟩
    · simp
    · simp [onT, TAt, go_sem]
    · intro i hi
      exact World.frozen?_alloc_at _ _ _ i (by simp)
    · repeat (first | exact Below.refl _ _ | (refine Below.setCell ?_ (by first | omega | (simp; done) | (simp; omega)) _) | (refine Below.alloc ?_ (by first | omega | (simp; done) | (simp; omega)) _))
set_option maxRecDepth 100000 in
set_option maxHeartbeats 4000000 in
theorem sOne (w : World) :
    Calls Try.prog 129 #[] w fun e w' => ∃ v, e = .returned v ∧ OwnTrms w' w.heap.size v [⟨0, 0, 0, 1⟩] ∧ Below w.heap.size w w' := by
  go_enter Try.func129, Try.ntmps129
  go_wp2_with fail
  go_ret
  refine ⟨_, rfl, ownT_one _ (by omega) ?_ ?_ ?_ _, ?_⟩
  · simp
  · simp [TAt, go_sem]
  · intro i hi
    exact World.frozen?_alloc_at _ _ _ i (by simp)
  · repeat (first | exact Below.refl _ _ | (refine Below.alloc ?_ (by first | omega | (simp; done) | (simp; omega)) _))
theorem scl_cn {p a : Int} (ha : 0 ≤ a ∧ a < p) : sclL p a [⟨0, 0, 0, 1⟩] = cnL a := by
  unfold sclL cnL
  split
  · rfl
  · show [sclT p a ⟨0, 0, 0, 1⟩] = _
    unfold sclT
    simp only [Int.one_mul]
    rw [Int.emod_eq_of_lt ha.1 ha.2]
theorem one_valid (p : Int) (hp : isP p = true) : validB p [⟨0, 0, 0, 1⟩] = true := by
  have hb := isP_bd hp
  refine validB_of (List.pairwise_singleton ..) (fun y hy => ?_) (fun y hy => ?_) (by simp)
  · have e : y = ⟨0, 0, 0, 1⟩ := by simpa using hy
    subst e
    show (1 : Int) ≤ 1 ∧ (1 : Int) < p
    omega
  · have e : y = ⟨0, 0, 0, 1⟩ := by simpa using hy
    subst e
    rfl
/-- a list of terms lies apart from a block -/
def FarT (u : Value) (X : Option Nat) : Prop := ∀ g off n c, u = .slice (some ⟨g, off, none⟩) n c → n ≠ 0 → some g ≠ X
theorem ownT_grown {w w' : World} {B : Nat} {u : Value} {L : List Trm} {X : Option Nat} (h : OwnTrms w B u L) (hf : FarT u X) (hg : w.grownBy w' X) : OwnTrms w' B u L := by
  obtain ⟨h1, a, cap, rfl, h2⟩ := h
  refine ⟨h1, a, cap, rfl, ?_⟩
  rcases h2 with h2 | ⟨g, off, rfl, hb, hs, hc, hz⟩
  · exact .inl h2
  · by_cases hl : L.length = 0
    · exact .inl (List.length_eq_zero_iff.1 hl)
    · have hne := hf g off L.length cap rfl hl
      refine .inr ⟨g, off, rfl, hb, Nat.lt_of_lt_of_le hs hg.size, fun j hj => ?_, fun i hi => by rw [hg.frozen_far ⟨g, off + i, none⟩ hs hne]; exact hz i hi⟩
      obtain ⟨t0, t1, t2, t3⟩ := hc j hj
      exact ⟨by rw [hg.cell_far ⟨g, _, none⟩ hs hne]; exact t0, by rw [hg.cell_far ⟨g, _, none⟩ hs hne]; exact t1, by rw [hg.cell_far ⟨g, _, none⟩ hs hne]; exact t2, by rw [hg.cell_far ⟨g, _, none⟩ hs hne]; exact t3⟩
theorem farT_new {w : World} {B : Nat} {u : Value} {L : List Trm} (h : OwnTrms w B u L) {b : Nat} (hb : b < B) : FarT u (some b) := by
  obtain ⟨_, a, cap, rfl, h2⟩ := h
  intro g off n c e hn he
  injection e with e1 e2 e3
  injection he with he
  rcases h2 with h2 | ⟨g', off', e4, hb', _⟩
  · rw [h2] at e2; simp at e2; omega
  · rw [e4] at e1; injection e1 with e1; injection e1 with e1 _; omega
theorem farT_next {w : World} {B : Nat} {u : Value} {L : List Trm} (h : OwnTrms w B u L) {X : Option Nat} (hf : FarT u X) {g : Nat} (hat : X = some g ∨ g = w.heap.size) : FarT u (some g) := by
  rcases hat with hat | hat
  · rw [← hat]; exact hf
  · obtain ⟨_, a, cap, rfl, h2⟩ := h
    intro g1 off n c e hn he
    injection e with e1 e2 e3
    injection he with he
    rcases h2 with h2 | ⟨g', off', e4, _, hs, _⟩
    · rw [h2] at e2; simp at e2; omega
    · rw [e4] at e1; injection e1 with e1; injection e1 with e1 _; omega
/-- what the model's rounds keep: the polynomials of the gates so far -/
structure PmW (p : Int) (L : List Gt) (w0 : World) (UB k : Nat) (v : Value) (F : Nat → Value) (wr : World) : Prop where
  row : wr.ownsRow w0.heap.size 31 1 v k ((List.range k).map F)
  sl : ∃ g c, v = .slice (some ⟨g, 0, none⟩) k c ∧ g < wr.heap.size ∧ g ≠ UB
  pol : ∀ j, j < k → useF L j = true → OwnTrms wr w0.heap.size (F j) (pcP p L j) ∧ FarT (F j) v.ownBlock
  low : Below w0.heap.size w0 wr
  arr : ArrB wr UB (useF L)
theorem PmW.on {p : Int} {L : List Gt} {w0 : World} {UB k : Nat} {v : Value} {F : Nat → Value} {wr w1 : World} (h : PmW p L w0 UB k v F wr) (hb : Below wr.heap.size wr w1) : PmW p L w0 UB k v F w1 := by
  obtain ⟨g, c, e, hg, hne⟩ := h.sl
  exact ⟨World.ownsRow.kept (row := none) h.row ⟨hb.os, hb.tape, hb.output, hb.size, fun k hk _ => hb.block k hk⟩ (by cases v.ownBlock <;> simp), ⟨g, c, e, Nat.lt_of_lt_of_le hg hb.size, hne⟩,
    fun j hj hu => ⟨(h.pol j hj hu).1.below hb, (h.pol j hj hu).2⟩, h.low.trans (hb.mono h.low.size), h.arr.below hb h.arr.1⟩
theorem PmW.app {p : Int} {L : List Gt} {w0 : World} {UB k : Nat} {v f : Value} {F : Nat → Value} {wr w' : World} {g c : Nat} (h : PmW p L w0 UB k v F wr) (hf : useF L k = true → OwnTrms wr w0.heap.size f (pcP p L k) ∧ FarT f v.ownBlock)
    (hown : w'.ownsRow w0.heap.size 31 1 (.slice (some ⟨g, 0, none⟩) (k + 1) c) (k + 1) ((List.range k).map F ++ [f])) (hg : wr.grownBy w' v.ownBlock) (hat : v.ownBlock = some g ∨ g = wr.heap.size) (hlt : g < w'.heap.size) :
    PmW p L w0 UB (k + 1) (.slice (some ⟨g, 0, none⟩) (k + 1) c) (fun j => if j = k then f else F j) w' := by
  obtain ⟨g0, c0, rfl, hg0, hne⟩ := h.sl
  have hUB := h.arr.1
  have hgU : g ≠ UB := by
    rcases hat with hat | hat
    · have : g0 = g := by simpa [Value.ownBlock] using hat
      omega
    · omega
  have hXU : some UB ≠ Value.ownBlock (.slice (some ⟨g0, 0, none⟩) k c0) := by
    intro e
    have : UB = g0 := by simpa [Value.ownBlock] using e
    omega
  have hR : (List.range (k + 1)).map (fun j => if j = k then f else F j) = (List.range k).map F ++ [f] := by
    rw [List.range_succ, List.map_append, List.map_singleton, if_pos rfl]
    congr 1
    refine List.map_congr_left fun j hj => ?_
    have := List.mem_range.1 hj
    rw [if_neg (by omega)]
  refine ⟨by rw [hR]; exact hown, ⟨g, c, rfl, hlt, hgU⟩, fun j hj hu => ?_, ?_, ?_⟩
  · have key : ∀ {u : Value} {M : List Trm}, OwnTrms wr w0.heap.size u M → FarT u (Value.ownBlock (.slice (some ⟨g0, 0, none⟩) k c0)) → OwnTrms w' w0.heap.size u M ∧ FarT u (some g) := fun h1 h2 => ⟨ownT_grown h1 h2 hg, farT_next h1 h2 hat⟩
    by_cases e : j = k
    · subst e
      rw [if_pos rfl]
      exact key (hf hu).1 (hf hu).2
    · rw [if_neg e]
      obtain ⟨h1, h2⟩ := h.pol j (by omega) hu
      exact key h1 h2
  · have hs := h.low.size
    exact h.low.trans ⟨hg.os, hg.tape, hg.output, hg.size, fun i hi => hg.block i (by omega) (fun e => by have := (World.ownsRow.lt h.row i e.symm).1; omega)⟩
  · exact ⟨Nat.lt_of_lt_of_le hUB hg.size, fun j hj => ⟨by rw [hg.cell_far ⟨UB, j, none⟩ hUB hXU]; exact (h.arr.2 j hj).1, by rw [hg.frozen_far ⟨UB, j, none⟩ hUB hXU]; exact (h.arr.2 j hj).2⟩⟩
theorem PmW.cell {p : Int} {L : List Gt} {w0 : World} {UB k g c j : Nat} {F : Nat → Value} {wr : World} (h : PmW p L w0 UB k (.slice (some ⟨g, 0, none⟩) k c) F wr) (hj : j < k) : wr.cell? ⟨g, j, none⟩ = some (F j) := by
  rw [World.ownsRow.cellAt h.row j (by omega)]
  simp [hj]
theorem keep1 {w w1 : World} {n i : Nat} {u : Value} (hb : Below w.heap.size w w1) (hn : n < w.heap.size) (h : w.cell? ⟨n, i, none⟩ = some u) : w1.cell? ⟨n, i, none⟩ = some u := by rw [hb.cell (p := ⟨n, i, none⟩) hn]; exact h
set_option maxRecDepth 100000 in
set_option maxHeartbeats 4000000 in
theorem sPoC_no (p : Int) (f : Value) (L : List Gt) (w : World) (h : Gats w f L) (hv : circB p L = false) :
    Calls Try.prog 150 #[.int .i64 p, f] w (GivesPB [] false w) := by
  have HCV := Lib.hid (sCircuitValid p f L w h)
  rw [hv] at HCV
  obtain ⟨_, a, cap, rfl, _⟩ := h
  clear hv
  go_enter Try.func150, Try.ntmps150
  go_wp2_with fail
  refine HCV.out.mono ?_
  rintro e w1 ⟨rfl, hb1⟩
  have HB := Lib.hid hb1
  clear hb1
  go_wp2_with fail
  refine bodyPost_ret (results_tmp2 rfl _ _ _) rfl ?_
  exact ⟨_, rfl, (Row.lit0 w1 w.heap.size HB.out.size).own (by simp), Below.alloc HB.out HB.out.size _⟩
set_option maxRecDepth 100000 in
set_option maxHeartbeats 8000000 in
theorem sPoC_yes (p : Int) (f : Value) (L : List Gt) (w : World) (h : Gats w f L) (hv : circB p L = true) (R : List Trm) (b : Bool) (hR : R = pcV p L) (hb : b = pcOk p L) :
    Calls Try.prog 150 #[.int .i64 p, f] w (GivesPB R b w) := by
  obtain ⟨i0, hi, hz0, hz1, hz2⟩ := info_parts infoPoly
  have HCV := Lib.hid (sCircuitValid p f L w h)
  rw [hv] at HCV
  obtain ⟨g, off, cap, rfl, hg, hc⟩ := gats_u h hv
  obtain ⟨hp, hl1, hl2, hall⟩ := circB_iff.1 hv
  have HV := Lib.hid hv
  have HC := Lib.hid hc
  have HP := Lib.hid hp
  have HALL := Lib.hid hall
  have HRR := Lib.hid hR
  have HBB := Lib.hid hb
  clear hall hv hc h hp hR hb
  go_enter Try.func150, Try.ntmps150
  go_wp2_with fail
  refine HCV.out.mono ?_
  rintro e w1 ⟨rfl, hb1⟩
  have hg1 : g < w1.heap.size := by have := hb1.size; omega
  have HC1 := Lib.hid (fun (j : Nat) (hj : j < L.length) => (HC.out j hj).below hb1 hg)
  have B1 := Lib.hid hb1
  clear hb1
  go_wp2_with fail
  refine (sUsed_some p L HV.out g off cap w1 hg1 HC1.out).mono ?_
  rintro e w2 ⟨V, rfl, hV, hb2⟩
  have B2 := B1.out.trans (hb2.mono B1.out.size)
  have hs2 := B2.size
  have HV2 := Lib.hid (show V = .agg (useC (useF L)).toArray from hV)
  have A0 := ArrB.new w2 188
  have hlen := useC_len (useF L)
  have h1 := all_oneCell_toArray (useC_one (useF L))
  have hT2 : (w2.alloc (.cells (Array.replicate 60 (.bool false)) 188)).there w2.heap.size 0 (useC (useF L)).toArray.size := by simp only [List.size_toArray, hlen]; exact A0.there
  have hI2 : (Try.prog.info? 188).map (·.size) = some (useC (useF L)).toArray.size := by simp only [List.size_toArray, hlen]; exact infoB
  have A2 := Lib.hid (arrB_cells A0 (useF L))
  have B3 := Lib.hid (show Below w.heap.size w ((w2.alloc (.cells (Array.replicate 60 (.bool false)) 188)).setCells w2.heap.size 0 (useC (useF L))) from below_setCells _ _ _ _ (Below.alloc B2 hs2 _) hs2)
  clear hb2 hV B2 A0
  go_wp2_with (refine wpList_store_mid rfl 188 _ _ rfl w2.heap.size 0 (useC (useF L)).toArray rfl HV2.out hT2 hI2 h1 ?_)
  obtain ⟨W3, hW3⟩ : ∃ W3, W3 = (w2.alloc (.cells #[.bool false, .bool false, .bool false, .bool false, .bool false, .bool false, .bool false, .bool false, .bool false, .bool false, .bool false, .bool false, .bool false, .bool false, .bool false, .bool false, .bool false, .bool false, .bool false, .bool false, .bool false, .bool false, .bool false, .bool false, .bool false, .bool false, .bool false, .bool false, .bool false, .bool false, .bool false, .bool false, .bool false, .bool false, .bool false, .bool false, .bool false, .bool false, .bool false, .bool false, .bool false, .bool false, .bool false, .bool false, .bool false, .bool false, .bool false, .bool false, .bool false, .bool false, .bool false, .bool false, .bool false, .bool false, .bool false, .bool false, .bool false, .bool false, .bool false, .bool false] 188)).setCells w2.heap.size 0 (useC (useF L)) := ⟨_, rfl⟩
  have HA3 := Lib.hid (show ArrB W3 w2.heap.size (useF L) ∧ Below w.heap.size w W3 by rw [hW3]; exact ⟨A2.out, B3.out⟩)
  rw [← hW3]
  obtain ⟨UB, hUB⟩ : ∃ g, g = w2.heap.size := ⟨_, rfl⟩
  rw [← hUB] at HA3 ⊢
  have H0 := Lib.hid (show PmW p L w UB 0 (.slice (some ⟨W3.heap.size, 0, none⟩) 0 0) (fun _ => undef) (W3.alloc (.cells #[] 31)) from
    ⟨World.ownsRow_lit (size := 1) W3 #[] 0 HA3.out.2.size (by unfold maxLen; omega) rfl, ⟨_, _, rfl, by simp, by have := HA3.out.1.1; omega⟩, fun j hj => by omega, Below.alloc HA3.out.2 HA3.out.2.size _, HA3.out.1.below (Below.alloc (Below.refl _ _) (Nat.le_refl _) _) HA3.out.1.1⟩)
  clear A2 B3 hT2 hI2 h1 hlen hW3 hUB HA3 hs2 HV2
  go_loopw [7, 22] (fun v i wr => ∃ (k : Nat) (F : Nat → Value), k ≤ L.length ∧ i = .int .i64 k ∧ PmW p L w UB k v F wr ∧ ∀ j : Nat, j < k → useF L j = true → pcO p L j = true) (fun _ i _ => L.length - (intOf i).toNat)
  case atStart => exact ⟨0, _, by omega, rfl, H0.out, fun j hj => by omega⟩
  case round =>
    clear H0
    obtain ⟨k, F, hk, rfl, hS, hok⟩ := hrel
    have HOK := Lib.hid hok
    clear hok
    obtain ⟨g5, c5, rfl, hg5, hne5⟩ := hS.sl
    have HS := Lib.hid hS
    have hwr := hS.low.size
    by_cases hlt : k < L.length
    · have hltp : (k : Int) < (L.length : Int) := by omega
      have hk0 : (0 : Int) ≤ (k : Int) := by omega
      have hk60 : (k : Int) < 60 := by omega
      obtain ⟨a0, a1, a2⟩ := (HC.out k hlt).below hS.low hg
      obtain ⟨x, hx⟩ : ∃ x, x = L.getD k default := ⟨_, rfl⟩
      rw [← hx] at a0 a1 a2
      have HX := Lib.hid (show gAt L k = x from hx.symm)
      obtain ⟨q0, _⟩ := hS.arr.2 k (by omega)
      have hUs := hS.arr.1
      have HCS := gOK_cases (HALL.out k hlt)
      obtain ⟨xk, xa, xb⟩ := x
      simp only at a0 a1 a2 HX
      rw [HX.out] at HCS
      obtain ⟨W, hW⟩ : ∃ W, W = (wr.alloc (Obj.cells #[.int .i64 xk, .int .i64 xa, .int .i64 xb] 116)).alloc (.cells #[] 63) := ⟨_, rfl⟩
      have HbW := Lib.hid (show Below wr.heap.size wr W by rw [hW]; exact (by repeat (first | exact Below.refl _ _ | apply Below.drew | apply below_drewN | (refine Below.alloc ?_ (by first | omega | (simp <;> omega)) _))))
      have HSW := Lib.hid (HS.out.on HbW.out)
      have HT0 := Lib.hid (show W.cell? ⟨wr.heap.size, 0, none⟩ = some (.int .i64 xk) ∧ W.cell? ⟨wr.heap.size, 1, none⟩ = some (.int .i64 xa) ∧ W.cell? ⟨wr.heap.size, 2, none⟩ = some (.int .i64 xb) by rw [hW]; refine ⟨?_, ?_, ?_⟩ <;> simp [go_sem])
      have HSZ := Lib.hid (show wr.heap.size < W.heap.size ∧ g5 < W.heap.size by rw [hW]; refine ⟨?_, ?_⟩ <;> simp <;> omega)
      have HW := Lib.hid hW
      clear hW hx hS
      rcases Bool.eq_false_or_eq_true (useF L k) with hu | hu
      · rw [hu] at q0
        have HU := Lib.hid hu
        clear hu
        rcases HCS with ⟨hk0', h0, h1, h2⟩ | ⟨hk0', h0, h1, h2⟩ | ⟨hk0', h0, h1, h2, h3⟩
        · simp only at hk0' h0 h1
          subst hk0'
          have HP1 := Lib.hid (sPower1 xa (by omega))
          have HO := Lib.hid (fun (_ : useF L k = true) => (pcP_in (p := p) (L := L) (j := k) (by rw [HX.out])).2)
          have HE := Lib.hid (pcP_in (p := p) (L := L) (j := k) (by rw [HX.out])).1
          clear h0 h1 h2
          go_wp2_with fail
          rw [← HW.out]
          refine (HP1.out _).mono ?_
          rintro e wA ⟨u, rfl, ho4, hb4⟩
          have HA := Lib.hid (HSW.out.on hb4)
          have HF := Lib.hid (fun (_ : useF L k = true) => show OwnTrms wA w.heap.size u (pcP p L k) ∧ FarT u (some g5) by
            rw [HE.out, HX.out]
            exact ⟨ownT_low ho4 HSW.out.low.size, farT_new ho4 HSZ.out.2⟩)
          obtain ⟨_, af, kf, rfl, _⟩ := ho4
          obtain ⟨nf, hnf⟩ : ∃ nf, nf = [onT xa].length := ⟨_, rfl⟩
          rw [← hnf] at HF ⊢
          clear hb4 hnf a0 a1 a2 q0
          have HAA := Lib.hid (HA.out.on (Below.alloc (Below.refl _ _) (Nat.le_refl _) _ : Below wA.heap.size wA (wA.alloc (.cells #[.slice af nf kf] 31))))
          go_wp2_with (at_builtin; refine wpList_append_lies _ rfl _ _ 126 rfl w.heap.size 31 i0 (.slice none 0 0) 1 24 Try.underlying126 hi hz0 hz1 hz2 rfl (by decide) _ _ _ rfl HAA.out.row ⟨wA.heap.size, 0, none⟩ 1 1 [.slice af nf kf] rfl rfl (by intro j u hj; match j, hj with | 0, hj => (simp at hj; subst hj; simp [Addr.add, go_sem])) (by intro u hu; simp at hu; subst hu; rfl) (by omega) (by unfold maxLen; omega) (by omega) (by have := HAA.out.low.size; exact this) _ rfl ?_)
          intro g8 c8 w8 hown8 hgrow8 hat8 hlt8
          have H8 := Lib.hid (HAA.out.app (fun hu => ⟨(HF.out hu).1.below (Below.alloc (Below.refl _ _) (Nat.le_refl _) _), (HF.out hu).2⟩) hown8 hgrow8 (by simpa using hat8) hlt8)
          clear hown8 hgrow8 hat8 hlt8 HAA
          go_wp2_with fail
          go_roundw
          case rel => exact ⟨k + 1, _, by omega, by go_num, H8.out, fun j hj hu => by by_cases e : j = k; (· subst e; exact HO.out hu); (· exact HOK.out j (by omega) hu)⟩
          case measure => simp [intOf]; omega
        · simp only at hk0' h0 h1
          subst hk0'
          have hpb := isP_bd HP.out
          have HSC := Lib.hid (fun f w' (h : Trms w' f [⟨0, 0, 0, 1⟩]) => show Calls Try.prog 128 #[.int .i64 p, f, .int .i64 xa] w' (GivesTrmsS (cnL xa) w') by
            rw [← scl_cn (p := p) (a := xa) (by omega)]
            exact sScaled p f _ xa w' HP.out (one_valid p HP.out) (isE_iff.2 (by omega)) h)
          have HO := Lib.hid (fun (_ : useF L k = true) => (pcP_cn (p := p) (L := L) (j := k) (by rw [HX.out])).2)
          have HE := Lib.hid (pcP_cn (p := p) (L := L) (j := k) (by rw [HX.out])).1
          clear h0 h1 h2 hpb
          go_wp2_with fail
          rw [← HW.out]
          obtain ⟨d0, d1, d2⟩ := HT0.out
          clear a0 a1 a2 q0
          go_region_held3 (fun w' => w'.cell? ⟨wr.heap.size, 1, none⟩ = some (.int .i64 xa)) (first | exact keep1 hb1 (by simpa using HSZ.out.1) (by assumption) | exact keep1 hb2 (by have := hb1.size; simp at this; have := HSZ.out.1; omega) (by assumption) | go_keep)
            (first | (go_at_call 129; refine (sOne _).mono ?_; rintro e w1 ⟨u1, rfl, ho1, hb1⟩) | (go_at_call 128; refine (HSC.out _ _ ho1.trms).mono ?_; rintro e wA ⟨u, rfl, ho4, hb2⟩))
          all_goals
            have hs1 := hb1.size
            simp at hs1
            have HA := Lib.hid (HSW.out.on (((Below.drew (Below.refl _ _) : Below W.heap.size W W.drew).trans (by simpa using hb1)).trans (hb2.mono hs1)))
            have HF := Lib.hid (fun (_ : useF L k = true) => show OwnTrms wA w.heap.size u (pcP p L k) ∧ FarT u (some g5) by
              rw [HE.out, HX.out]
              exact ⟨ownT_low ho4 (by have := HSW.out.low.size; omega), farT_new ho4 (by have := HSZ.out.2; omega)⟩)
            obtain ⟨_, af, kf, rfl, _⟩ := ho4
            obtain ⟨nf, hnf⟩ : ∃ nf, nf = (cnL xa).length := ⟨_, rfl⟩
            rw [← hnf] at HF ⊢
            clear hb1 hb2 hnf hs1 ho1 d0 d1 d2
            have HAA := Lib.hid (HA.out.on (Below.alloc (Below.refl _ _) (Nat.le_refl _) _ : Below wA.heap.size wA (wA.alloc (.cells #[.slice af nf kf] 31))))
            go_wp2_with (at_builtin; refine wpList_append_lies _ rfl _ _ 126 rfl w.heap.size 31 i0 (.slice none 0 0) 1 24 Try.underlying126 hi hz0 hz1 hz2 rfl (by decide) _ _ _ rfl HAA.out.row ⟨wA.heap.size, 0, none⟩ 1 1 [.slice af nf kf] rfl rfl (by intro j u hj; match j, hj with | 0, hj => (simp at hj; subst hj; simp [Addr.add, go_sem])) (by intro u hu; simp at hu; subst hu; rfl) (by omega) (by unfold maxLen; omega) (by omega) (by have := HAA.out.low.size; exact this) _ rfl ?_)
            intro g8 c8 w8 hown8 hgrow8 hat8 hlt8
            have H8 := Lib.hid (HAA.out.app (fun hu => ⟨(HF.out hu).1.below (Below.alloc (Below.refl _ _) (Nat.le_refl _) _), (HF.out hu).2⟩) hown8 hgrow8 (by simpa using hat8) hlt8)
            clear hown8 hgrow8 hat8 hlt8 HAA
            go_wp2_with fail
            go_roundw
            case rel => exact ⟨k + 1, _, by omega, by go_num, H8.out, fun j hj hu => by by_cases e : j = k; (· subst e; exact HO.out hu); (· exact HOK.out j (by omega) hu)⟩
            case measure => simp [intOf]; omega
        · simp only at hk0' h0 h1 h2 h3
          obtain ⟨ja, rfl⟩ := Int.eq_ofNat_of_zero_le h0
          obtain ⟨jb, rfl⟩ := Int.eq_ofNat_of_zero_le h2
          have hja : ja < k := by omega
          have hjb : jb < k := by omega
          have hjoin : joinsB (gAt L k) = true := by rw [HX.out]; simpa [joinsB] using hk0'
          obtain ⟨u1, u2⟩ := use_closed HV.out hlt HU.out hjoin
          rw [HX.out] at u1 u2
          simp only [Int.toNat_natCast] at u1 u2
          obtain ⟨p1, _⟩ := HSW.out.pol ja hja u1
          obtain ⟨p2, _⟩ := HSW.out.pol jb hjb u2
          have c1 := HSW.out.cell hja
          have c2 := HSW.out.cell hjb
          have HAD := Lib.hid (fun w' (hb : Below W.heap.size W w') => sAddPoly p _ _ _ _ w' (p1.trms.below hb) (p2.trms.below hb))
          have HMU := Lib.hid (fun w' (hb : Below W.heap.size W w') => sMulPoly p _ _ _ _ w' (p1.trms.below hb) (p2.trms.below hb))
          obtain ⟨_, e1, k1, he1, _⟩ := p1
          obtain ⟨_, e2, k2, he2, _⟩ := p2
          rw [he1] at c1 HAD HMU
          rw [he2] at c2 HAD HMU
          have ja0 : (0 : Int) ≤ ja := by omega
          have jb0 : (0 : Int) ≤ jb := by omega
          have jan : (ja : Int) < (k : Int) := by omega
          have jbn : (jb : Int) < (k : Int) := by omega
          clear h0 h1 h2 h3 hjoin u1 u2 he1 he2
          rcases hk0' with rfl | rfl
          · obtain ⟨hE, hO⟩ := pcP_sum HV.out hlt (by rw [HX.out])
            rw [HX.out] at hE hO
            simp only [Int.toNat_natCast] at hE hO
            rw [← hE, ← hO] at HAD
            clear hE hO HMU
            rcases Bool.eq_false_or_eq_true (pcO p L k) with ho | ho
            · rw [ho] at HAD
              have HO := Lib.hid (fun (_ : useF L k = true) => ho)
              clear ho
              go_wp2_with fail
              rw [← HW.out]
              obtain ⟨d0, d1, d2⟩ := HT0.out
              clear a0 a1 a2 q0
              go_region_held3 (fun w' => w'.cell? ⟨wr.heap.size, 1, none⟩ = some (.int .i64 ja) ∧ w'.cell? ⟨wr.heap.size, 2, none⟩ = some (.int .i64 jb) ∧ w'.cell? ⟨g5, ja, none⟩ = some (.slice e1 (pcP p L ja).length k1) ∧ w'.cell? ⟨g5, jb, none⟩ = some (.slice e2 (pcP p L jb).length k2)) (first | exact keepPl hb1 (by simpa using HSZ.out.1) (by simpa using HSZ.out.2) (by assumption) | go_keep)
                (first | (go_at_call 126; refine (HAD.out _ (Below.drew (Below.refl _ _))).mono ?_; rintro e wA ⟨u, rfl, ho4, hb1⟩))
              all_goals
                have hs1 := hb1.size
                simp at hs1
                have HA := Lib.hid (HSW.out.on ((Below.drew (Below.refl _ _) : Below W.heap.size W W.drew).trans (by simpa using hb1)))
                have HF := Lib.hid (fun (_ : useF L k = true) => show OwnTrms wA w.heap.size u (pcP p L k) ∧ FarT u (some g5) from
                  ⟨ownT_low ho4 (by have := HSW.out.low.size; simp; omega), farT_new ho4 (by have := HSZ.out.2; simp; omega)⟩)
                obtain ⟨_, af, kf, rfl, _⟩ := ho4
                obtain ⟨nf, hnf⟩ : ∃ nf, nf = (pcP p L k).length := ⟨_, rfl⟩
                rw [← hnf] at HF ⊢
                clear hb1 hnf hs1 d0 d1 d2 c1 c2
                have HAA := Lib.hid (HA.out.on (Below.alloc (Below.refl _ _) (Nat.le_refl _) _ : Below wA.heap.size wA (wA.alloc (.cells #[.slice af nf kf] 31))))
                go_wp2_with (at_builtin; refine wpList_append_lies _ rfl _ _ 126 rfl w.heap.size 31 i0 (.slice none 0 0) 1 24 Try.underlying126 hi hz0 hz1 hz2 rfl (by decide) _ _ _ rfl HAA.out.row ⟨wA.heap.size, 0, none⟩ 1 1 [.slice af nf kf] rfl rfl (by intro j u hj; match j, hj with | 0, hj => (simp at hj; subst hj; simp [Addr.add, go_sem])) (by intro u hu; simp at hu; subst hu; rfl) (by omega) (by unfold maxLen; omega) (by omega) (by have := HAA.out.low.size; exact this) _ rfl ?_)
                intro g8 c8 w8 hown8 hgrow8 hat8 hlt8
                have H8 := Lib.hid (HAA.out.app (fun hu => ⟨(HF.out hu).1.below (Below.alloc (Below.refl _ _) (Nat.le_refl _) _), (HF.out hu).2⟩) hown8 hgrow8 (by simpa using hat8) hlt8)
                clear hown8 hgrow8 hat8 hlt8 HAA
                go_wp2_with fail
                go_roundw
                case rel => exact ⟨k + 1, _, by omega, by go_num, H8.out, fun j hj hu => by by_cases e : j = k; (· subst e; exact HO.out hu); (· exact HOK.out j (by omega) hu)⟩
                case measure => simp [intOf]; omega
            · rw [ho] at HAD
              have HE := Lib.hid (pc_bad hlt HU.out ho)
              have hz : b = false := by rw [HBB.out, HE.out]
              have hz2 : R = [] := by rw [HRR.out]; unfold pcV; rw [HE.out]; rfl
              subst hz hz2
              clear ho
              go_wp2_with fail
              rw [← HW.out]
              obtain ⟨d0, d1, d2⟩ := HT0.out
              clear a0 a1 a2 q0
              go_region_held3 (fun w' => w'.cell? ⟨wr.heap.size, 1, none⟩ = some (.int .i64 ja) ∧ w'.cell? ⟨wr.heap.size, 2, none⟩ = some (.int .i64 jb) ∧ w'.cell? ⟨g5, ja, none⟩ = some (.slice e1 (pcP p L ja).length k1) ∧ w'.cell? ⟨g5, jb, none⟩ = some (.slice e2 (pcP p L jb).length k2)) (first | exact keepPl hb1 (by simpa using HSZ.out.1) (by simpa using HSZ.out.2) (by assumption) | go_keep)
                (first | (go_at_call 126; refine (HAD.out _ (Below.drew (Below.refl _ _))).mono ?_; rintro e wA ⟨u, rfl, ho4, hb1⟩))
              all_goals
                have HQ := Lib.hid (HSW.out.low.trans (((Below.drew (Below.refl _ _) : Below W.heap.size W W.drew).trans (by simpa using hb1)).mono HSW.out.low.size))
                obtain ⟨_, af, kf, rfl, _⟩ := ho4
                clear hb1 d0 d1 d2 c1 c2
                go_wp2_with fail
                refine bodyPost_ret (results_tmp2 rfl _ _ _) rfl ?_
                exact ⟨_, rfl, (Row.lit0 wA w.heap.size HQ.out.size).own (by simp), Below.alloc HQ.out HQ.out.size _⟩
          · obtain ⟨hE, hO⟩ := pcP_mul HV.out hlt (by rw [HX.out])
            rw [HX.out] at hE hO
            simp only [Int.toNat_natCast] at hE hO
            rw [← hE, ← hO] at HMU
            clear hE hO HAD
            rcases Bool.eq_false_or_eq_true (pcO p L k) with ho | ho
            · rw [ho] at HMU
              have HO := Lib.hid (fun (_ : useF L k = true) => ho)
              clear ho
              go_wp2_with fail
              rw [← HW.out]
              obtain ⟨d0, d1, d2⟩ := HT0.out
              clear a0 a1 a2 q0
              go_region_held3 (fun w' => w'.cell? ⟨wr.heap.size, 1, none⟩ = some (.int .i64 ja) ∧ w'.cell? ⟨wr.heap.size, 2, none⟩ = some (.int .i64 jb) ∧ w'.cell? ⟨g5, ja, none⟩ = some (.slice e1 (pcP p L ja).length k1) ∧ w'.cell? ⟨g5, jb, none⟩ = some (.slice e2 (pcP p L jb).length k2)) (first | exact keepPl hb1 (by simpa using HSZ.out.1) (by simpa using HSZ.out.2) (by assumption) | go_keep)
                (first | (go_at_call 192; refine (HMU.out _ (Below.drew (Below.refl _ _))).mono ?_; rintro e wA ⟨u, rfl, ho4, hb1⟩))
              all_goals
                have hs1 := hb1.size
                simp at hs1
                have HA := Lib.hid (HSW.out.on ((Below.drew (Below.refl _ _) : Below W.heap.size W W.drew).trans (by simpa using hb1)))
                have HF := Lib.hid (fun (_ : useF L k = true) => show OwnTrms wA w.heap.size u (pcP p L k) ∧ FarT u (some g5) from
                  ⟨ownT_low ho4 (by have := HSW.out.low.size; simp; omega), farT_new ho4 (by have := HSZ.out.2; simp; omega)⟩)
                obtain ⟨_, af, kf, rfl, _⟩ := ho4
                obtain ⟨nf, hnf⟩ : ∃ nf, nf = (pcP p L k).length := ⟨_, rfl⟩
                rw [← hnf] at HF ⊢
                clear hb1 hnf hs1 d0 d1 d2 c1 c2
                have HAA := Lib.hid (HA.out.on (Below.alloc (Below.refl _ _) (Nat.le_refl _) _ : Below wA.heap.size wA (wA.alloc (.cells #[.slice af nf kf] 31))))
                go_wp2_with (at_builtin; refine wpList_append_lies _ rfl _ _ 126 rfl w.heap.size 31 i0 (.slice none 0 0) 1 24 Try.underlying126 hi hz0 hz1 hz2 rfl (by decide) _ _ _ rfl HAA.out.row ⟨wA.heap.size, 0, none⟩ 1 1 [.slice af nf kf] rfl rfl (by intro j u hj; match j, hj with | 0, hj => (simp at hj; subst hj; simp [Addr.add, go_sem])) (by intro u hu; simp at hu; subst hu; rfl) (by omega) (by unfold maxLen; omega) (by omega) (by have := HAA.out.low.size; exact this) _ rfl ?_)
                intro g8 c8 w8 hown8 hgrow8 hat8 hlt8
                have H8 := Lib.hid (HAA.out.app (fun hu => ⟨(HF.out hu).1.below (Below.alloc (Below.refl _ _) (Nat.le_refl _) _), (HF.out hu).2⟩) hown8 hgrow8 (by simpa using hat8) hlt8)
                clear hown8 hgrow8 hat8 hlt8 HAA
                go_wp2_with fail
                go_roundw
                case rel => exact ⟨k + 1, _, by omega, by go_num, H8.out, fun j hj hu => by by_cases e : j = k; (· subst e; exact HO.out hu); (· exact HOK.out j (by omega) hu)⟩
                case measure => simp [intOf]; omega
            · rw [ho] at HMU
              have HE := Lib.hid (pc_bad hlt HU.out ho)
              have hz : b = false := by rw [HBB.out, HE.out]
              have hz2 : R = [] := by rw [HRR.out]; unfold pcV; rw [HE.out]; rfl
              subst hz hz2
              clear ho
              go_wp2_with fail
              rw [← HW.out]
              obtain ⟨d0, d1, d2⟩ := HT0.out
              clear a0 a1 a2 q0
              go_region_held3 (fun w' => w'.cell? ⟨wr.heap.size, 1, none⟩ = some (.int .i64 ja) ∧ w'.cell? ⟨wr.heap.size, 2, none⟩ = some (.int .i64 jb) ∧ w'.cell? ⟨g5, ja, none⟩ = some (.slice e1 (pcP p L ja).length k1) ∧ w'.cell? ⟨g5, jb, none⟩ = some (.slice e2 (pcP p L jb).length k2)) (first | exact keepPl hb1 (by simpa using HSZ.out.1) (by simpa using HSZ.out.2) (by assumption) | go_keep)
                (first | (go_at_call 192; refine (HMU.out _ (Below.drew (Below.refl _ _))).mono ?_; rintro e wA ⟨u, rfl, ho4, hb1⟩))
              all_goals
                have HQ := Lib.hid (HSW.out.low.trans (((Below.drew (Below.refl _ _) : Below W.heap.size W W.drew).trans (by simpa using hb1)).mono HSW.out.low.size))
                obtain ⟨_, af, kf, rfl, _⟩ := ho4
                clear hb1 d0 d1 d2 c1 c2
                go_wp2_with fail
                refine bodyPost_ret (results_tmp2 rfl _ _ _) rfl ?_
                exact ⟨_, rfl, (Row.lit0 wA w.heap.size HQ.out.size).own (by simp), Below.alloc HQ.out HQ.out.size _⟩
      · rw [hu] at q0
        have HA := Lib.hid HSW.out
        have HF := Lib.hid (fun (h : useF L k = true) => show OwnTrms W w.heap.size (.slice (some ⟨wr.heap.size + 1, 0, none⟩) 0 0) (pcP p L k) ∧ FarT (.slice (some ⟨wr.heap.size + 1, 0, none⟩) 0 0) (some g5) by rw [hu] at h; cases h)
        have HO := Lib.hid (fun (h : useF L k = true) => show pcO p L k = true by rw [hu] at h; cases h)
        clear hu
        go_upto_region 19 with fail
        rw [← HW.out]
        clear a0 a1 a2 q0
        have HAA := Lib.hid (HA.out.on (Below.alloc (Below.refl _ _) (Nat.le_refl _) _ : Below W.heap.size W (W.alloc (.cells #[.slice (some ⟨wr.heap.size + 1, 0, none⟩) 0 0] 31))))
        go_wp2_with (at_builtin; refine wpList_append_lies _ rfl _ _ 126 rfl w.heap.size 31 i0 (.slice none 0 0) 1 24 Try.underlying126 hi hz0 hz1 hz2 rfl (by decide) _ _ _ rfl HAA.out.row ⟨W.heap.size, 0, none⟩ 1 1 [.slice (some ⟨wr.heap.size + 1, 0, none⟩) 0 0] rfl rfl (by intro j u hj; match j, hj with | 0, hj => (simp at hj; subst hj; simp [Addr.add, go_sem])) (by intro u hu; simp at hu; subst hu; rfl) (by omega) (by unfold maxLen; omega) (by omega) (by have := HAA.out.low.size; exact this) _ rfl ?_)
        intro g8 c8 w8 hown8 hgrow8 hat8 hlt8
        have H8 := Lib.hid (HAA.out.app (fun hu => ⟨(HF.out hu).1.below (Below.alloc (Below.refl _ _) (Nat.le_refl _) _), (HF.out hu).2⟩) hown8 hgrow8 (by simpa using hat8) hlt8)
        clear hown8 hgrow8 hat8 hlt8 HAA
        go_wp2_with fail
        go_roundw
        case rel => exact ⟨k + 1, _, by omega, by go_num, H8.out, fun j hj hu => by by_cases e : j = k; (· subst e; exact HO.out hu); (· exact HOK.out j (by omega) hu)⟩
        case measure => simp [intOf]; omega
    · have hkl : k = L.length := by omega
      subst hkl
      obtain ⟨m, hm⟩ : ∃ m, L.length = m + 1 := ⟨L.length - 1, by omega⟩
      have hum : useF L m = true := by
        have := useF_last HV.out
        rwa [show L.length - 1 = m by omega] at this
      have hzz : pcOk p L = true := pc_good HV.out HOK.out
      have hz : b = true := by rw [HBB.out, hzz]
      have hz2 : R = pcP p L m := by rw [HRR.out]; unfold pcV; rw [hzz, if_pos rfl]; congr 1; omega
      subst hz hz2
      have c9 := HS.out.cell (j := m) (by omega)
      have HO9 := Lib.hid (HS.out.pol m (by omega) hum).1
      obtain ⟨_, a9, k9, he9, _⟩ := HO9.out
      rw [he9] at c9 HO9
      have hmm : IntKind.i64.wrap ((L.length : Int) - 1) = (m : Int) := by rw [IntWalk.i64_in _ (by omega)]; omega
      have hm0 : (0 : Int) ≤ (m : Int) := by omega
      have hmL : (m : Int) < (L.length : Int) := by omega
      have HQ := Lib.hid HS.out.low
      clear hS hzz he9 hum hm
      go_wp2_with fail
      refine bodyPost_ret (results_tmp2 rfl _ _ _) rfl ?_
      exact ⟨_, rfl, HO9.out, HQ.out⟩
theorem sPolyOfCircuit (p : Int) (f : Value) (L : List Gt) (w : World) (h : Gats w f L) :
    Calls Try.prog 150 #[.int .i64 p, f] w (GivesPB (pcV p L) (pcOk p L) w) := by
  cases hv : circB p L
  · rw [(pc_no hv).1, (pc_no hv).2]
    exact sPoC_no p f L w h hv
  · exact sPoC_yes p f L w h hv _ _ rfl rfl
end Go.Proofs.Ytibghhkhnpjdfaa
namespace Go.Proofs.Ytibghhkhnpjdfaa
open Go.RowKit
/-- the gates up to a place -/
def gpT (L : List Gt) (k : Int) : List Gt := L.take (k.toNat + 1)
/-- the polynomial of a place -/
def gpR (p : Int) (L : List Gt) (k : Int) : List Trm := if k < 0 then [] else pcV p (gpT L k)
/-- whether a place has a polynomial -/
def gpK (p : Int) (L : List Gt) (k : Int) : Bool := decide (k < 0) || pcOk p (gpT L k)
/-- whether all of them are there -/
def gpB (p : Int) (L : List Gt) (a b c : Int) : Bool := gvB p L a b c && (gpK p L a && gpK p L b && gpK p L c)
def gpV (p : Int) (L : List Gt) (a b c k : Int) : List Trm := if gpB p L a b c = true then gpR p L k else []
theorem OwnTrms.far {w : World} {B G : Nat} {v : Value} {L : List Trm} (h : OwnTrms w B v L) (hG : G < B) (o : Nat) (u : Value) : OwnTrms (w.setCell ⟨G, o, none⟩ u) B v L := by
  obtain ⟨hl, a, cap, e, h⟩ := h
  refine ⟨hl, a, cap, e, ?_⟩
  rcases h with h | ⟨g, off, e2, h1, h2, h3, h4⟩
  · exact .inl h
  · refine .inr ⟨g, off, e2, h1, by simpa using h2, fun j hj => ?_, fun i hi => by rw [World.frozen?_setCell]; exact h4 i hi⟩
    have hh := h3 j hj
    unfold TAt at hh ⊢
    obtain ⟨t0, t1, t2, t3⟩ := hh
    exact ⟨by rw [World.cell?_setCell_other _ _ _ _ (addr_ne (by omega))]; exact t0, by rw [World.cell?_setCell_other _ _ _ _ (addr_ne (by omega))]; exact t1, by rw [World.cell?_setCell_other _ _ _ _ (addr_ne (by omega))]; exact t2, by rw [World.cell?_setCell_other _ _ _ _ (addr_ne (by omega))]; exact t3⟩
theorem OwnTrms.low {w : World} {B B' : Nat} {v : Value} {L : List Trm} (h : OwnTrms w B v L) (hB : B' ≤ B) : OwnTrms w B' v L := by
  obtain ⟨h1, a, cap, hv, h2⟩ := h
  refine ⟨h1, a, cap, hv, ?_⟩
  rcases h2 with h2 | ⟨g, off, ha, hb, hg, hc, hf⟩
  · exact .inl h2
  · exact .inr ⟨g, off, ha, by omega, hg, hc, hf⟩
/-- terms that lie below -/
def LieT (v : Value) (L : List Trm) (s : Nat) : Prop := L = [] ∨ ∃ g off n c, v = .slice (some ⟨g, off, none⟩) n c ∧ g < s
theorem LieT.mono {v : Value} {L : List Trm} {s s' : Nat} (h : LieT v L s) (hs : s ≤ s') : LieT v L s' := by
  rcases h with h | ⟨g, off, n, c, e, hg⟩
  · exact .inl h
  · exact .inr ⟨g, off, n, c, e, by omega⟩
theorem OwnTrms.lie {w : World} {B : Nat} {v : Value} {L : List Trm} (h : OwnTrms w B v L) : LieT v L w.heap.size := by
  obtain ⟨_, a, cap, hv, h2⟩ := h
  rcases h2 with h2 | ⟨g, off, ha, _, hg, _⟩
  · exact .inl h2
  · exact .inr ⟨g, off, _, _, by rw [hv, ha], hg⟩
/-- a slice by its parts -/
def slV (t : Option Addr × Nat × Nat) : Value := .slice t.1 t.2.1 t.2.2
/-- three slices in a box, of which the first k are there -/
structure OutT (w : World) (q : Nat) (F : Nat → List Trm) (k : Nat) (u : Nat → Option Addr × Nat × Nat) (s : Nat → Nat) : Prop where
  lt : q < s 0
  c : ∀ j, j < 3 → w.cell? ⟨q, j, none⟩ = some (slV (u j))
  f : ∀ j, j < 3 → w.frozen? ⟨q, j, none⟩ = false
  mono : ∀ j, s j ≤ s (j + 1)
  top : s k ≤ w.heap.size
  own : ∀ j, j < k → OwnTrms w (s j) (slV (u j)) (F j) ∧ LieT (slV (u j)) (F j) (s (j + 1))
  nil : ∀ j, k ≤ j → j < 3 → (u j).2.1 = 0
theorem OutT.up {s : Nat → Nat} (h : ∀ j, s j ≤ s (j + 1)) : ∀ i d, s i ≤ s (i + d)
  | _, 0 => Nat.le_refl _
  | i, d + 1 => Nat.le_trans (OutT.up h i d) (h (i + d))
theorem OutT.ltw {w : World} {q k : Nat} {F : Nat → List Trm} {u : Nat → Option Addr × Nat × Nat} {s : Nat → Nat} (h : OutT w q F k u s) : q < w.heap.size := by
  have := OutT.up h.mono 0 k
  rw [Nat.zero_add] at this
  have := h.top
  have := h.lt
  omega
theorem OutT.below {w w' : World} {q k : Nat} {F : Nat → List Trm} {u : Nat → Option Addr × Nat × Nat} {s : Nat → Nat} (h : OutT w q F k u s) (hb : Below w.heap.size w w') : OutT w' q F k u s :=
  ⟨h.lt, fun j hj => by rw [hb.cell (p := ⟨q, j, none⟩) h.ltw]; exact h.c j hj, fun j hj => by rw [hb.frozen (p := ⟨q, j, none⟩) h.ltw]; exact h.f j hj, h.mono, Nat.le_trans h.top hb.size, fun j hj => ⟨(h.own j hj).1.below hb, (h.own j hj).2⟩, h.nil⟩
/-- a cell below is written -/
theorem OutT.far {w : World} {q k G o : Nat} {F : Nat → List Trm} {u : Nat → Option Addr × Nat × Nat} {s : Nat → Nat} (h : OutT w q F k u s) (hG : G < s 0) (hq : G ≠ q) (x : Value) : OutT (w.setCell ⟨G, o, none⟩ x) q F k u s :=
  ⟨h.lt, fun j hj => by rw [World.cell?_setCell_other _ _ _ _ (addr_ne (by omega))]; exact h.c j hj, fun j hj => by rw [World.frozen?_setCell]; exact h.f j hj, h.mono, by simpa using h.top, fun j hj => ⟨(h.own j hj).1.far (by have := OutT.up h.mono 0 j; rw [Nat.zero_add] at this; omega) _ _, (h.own j hj).2⟩, h.nil⟩
theorem own_nil {w : World} {B : Nat} {t : Option Addr × Nat × Nat} (h : t.2.1 = 0) : OwnTrms w B (slV t) [] := ⟨by simp, t.1, t.2.2, by unfold slV; rw [h]; rfl, .inl rfl⟩
/-- a place without a polynomial -/
theorem OutT.skip {w : World} {q k : Nat} {F : Nat → List Trm} {u : Nat → Option Addr × Nat × Nat} {s : Nat → Nat} (h : OutT w q F k u s) (hk : k < 3) (hF : F k = []) : OutT w q F (k + 1) u (fun j => if j ≤ k then s j else s k) := by
  refine ⟨by simpa using h.lt, h.c, h.f, fun j => ?_, by rw [if_neg (by omega)]; exact h.top, fun j hj => ?_, fun j h1 h2 => h.nil j (by omega) h2⟩
  · by_cases e : j + 1 ≤ k
    · rw [if_pos (by omega), if_pos e]; exact h.mono j
    · by_cases e2 : j ≤ k
      · have : j = k := by omega
        subst this
        rw [if_pos (Nat.le_refl _), if_neg e]
        exact Nat.le_refl _
      · rw [if_neg e2, if_neg e]
        exact Nat.le_refl _
  · by_cases e : j < k
    · simp only [if_pos (show j ≤ k by omega), if_pos (show j + 1 ≤ k by omega)]
      exact h.own j e
    · have : j = k := by omega
      subst this
      rw [hF]
      exact ⟨own_nil (h.nil j (Nat.le_refl _) hk), .inl rfl⟩
/-- a polynomial is stored -/
theorem OutT.put {w : World} {q k B : Nat} {F : Nat → List Trm} {u : Nat → Option Addr × Nat × Nat} {s : Nat → Nat} {t : Option Addr × Nat × Nat} (h : OutT w q F k u s) (hk : k < 3) (ho : OwnTrms w B (slV t) (F k)) (hB : s k ≤ B) (hBw : B ≤ w.heap.size) :
    OutT (w.setCell ⟨q, k, none⟩ (slV t)) q F (k + 1) (fun j => if j = k then t else u j) (fun j => if j < k then s j else if j = k then B else w.heap.size) := by
  have h0 : q < (if (0 : Nat) < k then s 0 else if (0 : Nat) = k then B else w.heap.size) := by
    have := h.lt
    have h2 := h.ltw
    split
    · exact this
    · split
      · rename_i e; subst e; omega
      · exact h2
  have hqB : q < B := by
    have := OutT.up h.mono 0 k
    rw [Nat.zero_add] at this
    have := h.lt
    omega
  refine ⟨h0, fun j hj => ?_, fun j hj => by rw [World.frozen?_setCell]; exact h.f j hj, fun j => ?_, ?_, fun j hj => ?_, fun j h1 h2 => ?_⟩
  · by_cases e : j = k
    · subst e
      rw [World.cell?_setCell_same _ _ _ (h.c j hj), if_pos rfl]
    · rw [World.cell?_setCell_other _ _ _ _ (addr_ne (by omega)), if_neg e]
      exact h.c j hj
  · by_cases e1 : j + 1 < k
    · rw [if_pos (by omega), if_pos e1]; exact h.mono j
    · by_cases e2 : j < k
      · have e3 : j + 1 = k := by omega
        rw [if_pos e2, if_neg e1, if_pos e3]
        have := h.mono j
        rw [e3] at this
        omega
      · by_cases e3 : j = k
        · rw [if_neg e2, if_pos e3, if_neg e1, if_neg (by omega)]
          exact hBw
        · rw [if_neg e2, if_neg e3, if_neg e1, if_neg (by omega)]
          exact Nat.le_refl _
  · rw [if_neg (by omega), if_neg (by omega)]
    simp
  · by_cases e : j < k
    · have hj2 : ¬ j = k := by omega
      simp only [if_pos e, if_neg hj2]
      have hs : s j ≤ s k := by
        have := OutT.up h.mono j (k - j)
        rwa [show j + (k - j) = k by omega] at this
      have hq : q < s j := by
        have := OutT.up h.mono 0 j
        rw [Nat.zero_add] at this
        have := h.lt
        omega
      refine ⟨(h.own j e).1.far hq _ _, (h.own j e).2.mono ?_⟩
      by_cases e1 : j + 1 < k
      · rw [if_pos e1]; exact Nat.le_refl _
      · have e3 : j + 1 = k := by omega
        rw [if_neg e1, if_pos e3, e3]
        exact hB
    · have : j = k := by omega
      subst this
      simp only [Nat.lt_irrefl, if_true, if_false, show ¬ j + 1 < j by omega, show ¬ j + 1 = j by omega]
      exact ⟨ho.far hqB _ _, ho.lie⟩
  · have hj2 : ¬ j = k := by omega
    simp only [if_neg hj2]
    exact h.nil j (by omega) h2
/-- three slices by their parts, as an array -/
def agV (u : Nat → Option Addr × Nat × Nat) : Value := .agg #[.slice (u 0).1 (u 0).2.1 (u 0).2.2, .slice (u 1).1 (u 1).2.1 (u 1).2.2, .slice (u 2).1 (u 2).2.1 (u 2).2.2]
/-- a call hands back three slices of terms of its own, each above the ones ahead of it -/
def GivesPA (P : Nat → List Trm) (o : Bool) (w : World) (e : Ending) (w' : World) : Prop :=
  ∃ (u : Nat → Option Addr × Nat × Nat) (s : Nat → Nat), e = .returned (.tuple #[.agg #[.slice (u 0).1 (u 0).2.1 (u 0).2.2, .slice (u 1).1 (u 1).2.1 (u 1).2.2, .slice (u 2).1 (u 2).2.1 (u 2).2.2], .bool o]) ∧ w.heap.size ≤ s 0 ∧ (∀ j, s j ≤ s (j + 1)) ∧ s 3 ≤ w'.heap.size ∧ (∀ j, j < 3 → OwnTrms w' (s j) (slV (u j)) (P j) ∧ LieT (slV (u j)) (P j) (s (j + 1))) ∧ Below w.heap.size w w'
/-- the first gates of a list that is read -/
theorem gats_pre {w : World} {a : Option Addr} {n cap m : Nat} {C : List Gt} (h : Gats w (.slice a n cap) C) (hm : m ≤ C.length) : Gats w (.slice a m cap) (C.take m) := by
  obtain ⟨h1, a', cap', e, h2⟩ := h
  injection e with e1 e2 e3
  subst e1 e3
  have hl : (C.take m).length = m := by simp; omega
  refine ⟨by omega, a, cap, by rw [hl], ?_⟩
  rcases h2 with rfl | ⟨g, off, rfl, hg, hc⟩
  · exact .inl (by simp)
  · refine .inr ⟨g, off, rfl, hg, fun j hj => ?_⟩
    rw [hl] at hj
    have := hc j (by omega)
    rwa [show (C.take m).getD j default = C.getD j default by simp [List.getD_eq_getElem?_getD, hj]]
theorem gvB_place {p : Int} {L : List Gt} {a b c : Int} (h : gvB p L a b c = true) : circB p L = true ∧ ∀ k : Nat, k < 3 → -1 ≤ coord a b c (k : Int) ∧ coord a b c (k : Int) < (L.length : Int) := by
  unfold gvB plB inB at h
  simp only [Bool.and_eq_true, decide_eq_true_eq] at h
  obtain ⟨⟨ha, hb, hc⟩, hv⟩ := h
  refine ⟨hv, fun k hk => ?_⟩
  have h3 : k = 0 ∨ k = 1 ∨ k = 2 := by omega
  rcases h3 with rfl | rfl | rfl <;> simp [coord] <;> omega
end Go.Proofs.Ytibghhkhnpjdfaa
namespace Go.Proofs.Ytibghhkhnpjdfaa
open Go.RowKit
set_option maxRecDepth 100000 in
set_option maxHeartbeats 8000000 in
theorem sGrPo (p : Int) (v : Value) (L : List Gt) (a b c : Int) (w : World) (h : Gats w v L) (hcap : CapOK v) :
    Calls Try.prog 64 #[.int .i64 p, .agg #[v, .int .i64 a, .int .i64 b, .int .i64 c]] w (GivesPA (fun j => gpV p L a b c (coord a b c (j : Int))) (gpB p L a b c) w) := by
  obtain ⟨n, hn⟩ : ∃ n, n = w.heap.size := ⟨_, rfl⟩
  obtain ⟨hl, a9, c9, rfl⟩ := gats_len h
  have hlc := hcap _ _ _ rfl
  obtain ⟨W, hW⟩ : ∃ W, W = (((((w.alloc (Obj.cells #[.slice a9 L.length c9, .int .i64 a, .int .i64 b, .int .i64 c] 78)).alloc (Obj.cells #[.slice none 0 0, .slice none 0 0, .slice none 0 0] 74)).alloc (Obj.cells #[] 63)).alloc (Obj.cells #[] 63)).alloc (Obj.cells #[] 63)).alloc (Obj.cells #[.slice (some ⟨w.heap.size + 1 + 1, 0, none⟩) 0 0, .slice (some ⟨w.heap.size + 1 + 1 + 1, 0, none⟩) 0 0, .slice (some ⟨w.heap.size + 1 + 1 + 1 + 1, 0, none⟩) 0 0] 74) := ⟨_, rfl⟩
  obtain ⟨q, hq⟩ : ∃ q, q = n + 1 + 1 + 1 + 1 + 1 := ⟨_, rfl⟩
  have hO : OutT W q (fun j => gpR p L (coord a b c (j : Int))) 0 (fun j => (some ⟨n + 1 + 1 + j, 0, none⟩, 0, 0)) (fun _ => W.heap.size) := by
    rw [hW, hq, hn]
    refine ⟨by simp, fun j hj => ?_, fun j hj => World.frozen?_alloc_at _ _ _ j (by simp), fun _ => Nat.le_refl _, Nat.le_refl _, fun j hj => absurd hj (Nat.not_lt_zero j), fun _ _ _ => rfl⟩
    have h3 : j = 0 ∨ j = 1 ∨ j = 2 := by omega
    rcases h3 with rfl | rfl | rfl <;> simp [go_sem, slV]
  have hG : GrAt W n (.slice a9 L.length c9) a b c := by rw [hW, hn]; refine ⟨?_, ?_, ?_, ?_⟩ <;> simp [go_sem]
  have hZ : (∀ j, j < 3 → W.cell? ⟨n + 1, j, none⟩ = some (.slice none 0 0)) ∧ ∀ j, j < 3 → W.frozen? ⟨n + 1, j, none⟩ = false := by
    rw [hW, hn]
    refine ⟨fun j hj => ?_, fun j hj => ?_⟩ <;> (have h3 : j = 0 ∨ j = 1 ∨ j = 2 := by omega) <;> rcases h3 with rfl | rfl | rfl <;> simp [go_sem]
  have bW : Below n w W := by rw [hW, hn]; exact (by repeat (first | exact Below.refl _ _ | apply Below.drew | apply below_drewN | (refine Below.alloc ?_ (by first | omega | (simp <;> omega)) _)))
  have HQ := Lib.hid h
  have HVA := Lib.hid (sGrValid p _ L a b c W (h.below (hn ▸ bW)))
  have HW := Lib.hid hW
  have HB := Lib.hid bW
  have HG := Lib.hid hG
  have HZ := Lib.hid hZ
  have hsW : W.heap.size = q + 1 := by rw [hW, hq, hn]; simp
  have hnq : n + 1 < q := by omega
  have HO := Lib.hid hO
  clear hO
  have HN := Lib.hid hn
  clear h hcap hG hZ bW hW
  go_enter Try.func64, Try.ntmps64
  go_upto_region 2 with fail
  rw [← HW.out, ← hn]
  rw [show n + 1 + 1 + 1 + 1 + 1 = q from hq.symm]
  clear hq
  clear HW hn
  obtain ⟨g0, g1, g2, g3⟩ := HG.out
  go_wp2_with fail
  refine HVA.out.mono ?_
  rintro e w2 ⟨rfl, hb⟩
  have HO2 := Lib.hid (HO.out.below hb)
  have HG2 := Lib.hid (HG.out.below hb (by omega))
  have HB2 := Lib.hid (HB.out.trans (hb.mono (by omega)))
  have HZ2 := Lib.hid (show (∀ j, j < 3 → w2.cell? ⟨n + 1, j, none⟩ = some (.slice none 0 0)) ∧ ∀ j, j < 3 → w2.frozen? ⟨n + 1, j, none⟩ = false from ⟨fun j hj => by rw [hb.cell (p := ⟨n + 1, j, none⟩) (by show n + 1 < _; omega)]; exact HZ.out.1 j hj, fun j hj => by rw [hb.frozen (p := ⟨n + 1, j, none⟩) (by show n + 1 < _; omega)]; exact HZ.out.2 j hj⟩)
  have hs2 : q < w2.heap.size := by have := hb.size; omega
  clear hb g0 g1 g2 g3 HG HB HZ HO HVA hsW
  rcases Bool.eq_false_or_eq_true (gvB p L a b c) with hgv | hgv
  rotate_left
  · have HNO := Lib.hid (show gpB p L a b c = false ∧ ∀ k, gpV p L a b c k = [] by
      have e : gpB p L a b c = false := by unfold gpB; rw [hgv]; rfl
      exact ⟨e, fun k => by unfold gpV; rw [e]; rfl⟩)
    rw [hgv]
    clear hgv
    have y0 := HZ2.out.2 0 (by omega)
    have y1 := HZ2.out.2 1 (by omega)
    have y2 := HZ2.out.2 2 (by omega)
    have z0 := HZ2.out.1 0 (by omega)
    have z1 := HZ2.out.1 1 (by omega)
    have z2 := HZ2.out.1 2 (by omega)
    have x0 : w2.cell? ⟨q, 0, none⟩ = some (.slice (some ⟨n + 1 + 1 + 0, 0, none⟩) 0 0) := HO2.out.c 0 (by omega)
    have x1 : w2.cell? ⟨q, 1, none⟩ = some (.slice (some ⟨n + 1 + 1 + 1, 0, none⟩) 0 0) := HO2.out.c 1 (by omega)
    have x2 : w2.cell? ⟨q, 2, none⟩ = some (.slice (some ⟨n + 1 + 1 + 2, 0, none⟩) 0 0) := HO2.out.c 2 (by omega)
    go_wp2_with fail
    refine bodyPost_ret (v := .tuple #[.agg #[.slice (some ⟨n + 1 + 1 + 0, 0, none⟩) 0 0, .slice (some ⟨n + 1 + 1 + 1, 0, none⟩) 0 0, .slice (some ⟨n + 1 + 1 + 2, 0, none⟩) 0 0], .bool false]) (by simp [results, Try.results64, go_sem, z0, z1, z2]) rfl ?_
    rw [HNO.out.1]
    refine ⟨fun j => (some ⟨n + 1 + 1 + j, 0, none⟩, 0, 0), fun _ => w.heap.size, rfl, Nat.le_refl _, fun _ => Nat.le_refl _, ?hs, fun j hj => ⟨by show OwnTrms _ _ _ (gpV p L a b c (coord a b c (j : Int))); rw [HNO.out.2 (coord a b c (j : Int))]; exact own_nil rfl, .inl (HNO.out.2 _)⟩, ?hb⟩
    case hs =>
      have hz := (HB2.out).size
      simp only [World.size_setCell]
      omega
    case hb =>
      rw [← HN.out]
      repeat (first | exact HB2.out | (refine Below.setCell ?_ (by first | omega | (simp; done) | (simp; omega)) _) | (refine Below.alloc ?_ (by first | omega | (simp; omega)) _))
  · have hpl := gvB_place hgv
    have HGV := Lib.hid hgv
    have HPL := Lib.hid hpl
    rw [hgv]
    obtain ⟨g9, o9, cap9, hsl, hg9, -⟩ := gats_slice HQ.out hpl.1
    injection hsl with h91 h92 h93
    subst h91 h93
    have hL60 := (circB_iff.1 hpl.1).2.2.1
    clear hgv hpl
    obtain ⟨g0, g1, g2, g3⟩ := HG2.out
    go_wp2_with fail
    go_loopw [22] (fun i wr => ∃ (k : Nat) (u : Nat → Option Addr × Nat × Nat) (s : Nat → Nat), k ≤ 3 ∧ i = .int .i64 k ∧ OutT wr q (fun j => gpR p L (coord a b c (j : Int))) k u s ∧ Below q w2 wr ∧ ∀ j : Nat, j < k → gpK p L (coord a b c (j : Int)) = true) (fun i _ => 3 - (intOf i).toNat)
    case atStart => exact ⟨0, _, _, by omega, rfl, HO2.out, Below.refl _ _, fun j hj => absurd hj (Nat.not_lt_zero j)⟩
    case round =>
      clear HO2 g0 g1 g2 g3
      obtain ⟨k, u, s, hk, rfl, hO, hB, hK⟩ := hrel
      have hbn : Below n w wr := HB2.out.trans (hB.mono (by omega))
      have HBN := Lib.hid hbn
      obtain ⟨g0, -, -, -⟩ := HG2.out.below hB (show n < q by omega)
      have hz0 : ∀ j, j < 3 → wr.cell? ⟨n + 1, j, none⟩ = some (.slice none 0 0) := fun j hj => by rw [hB.cell (p := ⟨n + 1, j, none⟩) hnq]; exact HZ2.out.1 j hj
      have hz1 : ∀ j, j < 3 → wr.frozen? ⟨n + 1, j, none⟩ = false := fun j hj => by rw [hB.frozen (p := ⟨n + 1, j, none⟩) hnq]; exact HZ2.out.2 j hj
      have HZR := Lib.hid (And.intro hz0 hz1)
      have hqw : q < wr.heap.size := hO.ltw
      have HO := Lib.hid hO
      have HBQ := Lib.hid hB
      have HK := Lib.hid hK
      clear hz0 hz1 hO hB hK
      by_cases hlt : k < 3
      · have hltp : (k : Int) < 3 := by omega
        have hk0 : (0 : Int) ≤ (k : Int) := by omega
        have ki := idxI a b c k hlt
        obtain ⟨b1, b2⟩ := HPL.out.2 k hlt
        obtain ⟨pk, hpk⟩ : ∃ pk, pk = coord a b c (k : Int) := ⟨_, rfl⟩
        rw [← hpk] at ki b1 b2
        have HPK := Lib.hid hpk
        clear hpk hbn
        by_cases hneg : pk < 0
        · have hp1 : pk = -1 := by omega
          have HK1 := Lib.hid (show ∀ j : Nat, j < k + 1 → gpK p L (coord a b c (j : Int)) = true from fun j hj => by
            by_cases e : j < k
            · exact HK.out j e
            · have : j = k := by omega
              subst this
              rw [← HPK.out]
              unfold gpK
              rw [decide_eq_true hneg]
              rfl)
          have HO1 := Lib.hid (HO.out.skip hlt (show gpR p L (coord a b c (k : Int)) = [] by rw [← HPK.out]; unfold gpR; rw [if_pos hneg]))
          subst hp1
          go_wp2_with fail
          go_roundw
          case rel => exact ⟨k + 1, _, _, by omega, by go_num, HO1.out, HBQ.out, HK1.out⟩
          case measure => simp [intOf]; omega
        · obtain ⟨m, rfl⟩ := Int.eq_ofNat_of_zero_le (show 0 ≤ pk by omega)
          have hmn : m < L.length := by omega
          have hm0 : (0 : Int) ≤ (m : Int) := by omega
          have hwm : IntKind.i64.wrap ((m : Int) + 1) = ((m + 1 : Nat) : Int) := by rw [IntWalk.i64_in _ (by omega)]; simp
          have hmc : (m : Int) + 1 ≤ (c9 : Int) := by omega
          have hmc2 : m + 1 ≤ c9 := by omega
          have hne : ¬ (m : Int) = -1 := by omega
          have hne2 : ((m : Int) == -1) = false := by simp
          have HPC := Lib.hid (sPolyOfCircuit p (.slice (some ⟨g9, o9, none⟩) (m + 1) c9) (L.take (m + 1)) wr (gats_pre (HQ.out.below (HN.out ▸ HBN.out)) (by omega)))
          have HRK := Lib.hid (show gpR p L (coord a b c (k : Int)) = pcV p (L.take (m + 1)) ∧ gpK p L (coord a b c (k : Int)) = pcOk p (L.take (m + 1)) by
            rw [← HPK.out]
            unfold gpR gpK gpT
            rw [if_neg hneg, decide_eq_false hneg, Int.toNat_natCast]
            exact ⟨rfl, rfl⟩)
          go_wp2_with fail
          refine HPC.out.mono ?_
          rintro e w5 ⟨u5, rfl, ho5, hb5⟩
          obtain ⟨a5, n5, c5, rfl⟩ : ∃ a n c, u5 = .slice a n c := by
            obtain ⟨_, a, c, hv, _⟩ := ho5
            exact ⟨_, _, _, hv⟩
          have HO5 := Lib.hid (HO.out.below hb5)
          have hs5 := hb5.size
          have HBQ5 := Lib.hid (HBQ.out.trans (hb5.mono (by omega)))
          have HOW := Lib.hid ho5
          have hz0 : ∀ j, j < 3 → w5.cell? ⟨n + 1, j, none⟩ = some (.slice none 0 0) := fun j hj => by rw [hb5.cell (p := ⟨n + 1, j, none⟩) (by show n + 1 < _; omega)]; exact HZR.out.1 j hj
          have hz1 : ∀ j, j < 3 → w5.frozen? ⟨n + 1, j, none⟩ = false := fun j hj => by rw [hb5.frozen (p := ⟨n + 1, j, none⟩) (by show n + 1 < _; omega)]; exact HZR.out.2 j hj
          clear hb5 ho5 g0
          cases hok : pcOk p (L.take (m + 1))
          · have HNO := Lib.hid (show gpB p L a b c = false ∧ ∀ k, gpV p L a b c k = [] by
              have e1 : gpK p L (coord a b c (k : Int)) = false := by rw [HRK.out.2, hok]
              have e : gpB p L a b c = false := by
                unfold gpB
                have h3 : k = 0 ∨ k = 1 ∨ k = 2 := by omega
                rcases h3 with rfl | rfl | rfl
                · rw [show gpK p L a = false from e1]; simp
                · rw [show gpK p L b = false from e1]; simp
                · rw [show gpK p L c = false from e1]; simp
              exact ⟨e, fun k => by unfold gpV; rw [e]; rfl⟩)
            have y0 := hz1 0 (by omega)
            have y1 := hz1 1 (by omega)
            have y2 := hz1 2 (by omega)
            have z0 := hz0 0 (by omega)
            have z1 := hz0 1 (by omega)
            have z2 := hz0 2 (by omega)
            have HBN5 := Lib.hid (HB2.out.trans (HBQ5.out.mono (by omega)))
            have hn5 : n + 1 < w5.heap.size := by omega
            have ne0 : n < w5.heap.size := by omega
            have ne1 : n < w5.heap.size + 1 := by omega
            have ne2 : n + 1 < w5.heap.size + 1 := by omega
            have ne3 : n + 1 < w5.heap.size + 1 + 1 := by omega
            clear hz0 hz1 hok
            go_wp2_with fail
            refine bodyPost_ret (v := .tuple #[.agg #[.slice (some ⟨w5.heap.size, 0, none⟩) 0 0, .slice (some ⟨w5.heap.size + 1, 0, none⟩) 0 0, .slice (some ⟨w5.heap.size + 1 + 1, 0, none⟩) 0 0], .bool false]) (by simp [results, Try.results64, go_sem, z0, z1, z2, hn5, ne2, ne3]) rfl ?_
            rw [HNO.out.1]
            refine ⟨fun j => (some ⟨w5.heap.size + j, 0, none⟩, 0, 0), fun _ => w.heap.size, rfl, Nat.le_refl _, fun _ => Nat.le_refl _, ?hs, fun j hj => ⟨by show OwnTrms _ _ _ (gpV p L a b c (coord a b c (j : Int))); rw [HNO.out.2 (coord a b c (j : Int))]; exact own_nil rfl, .inl (HNO.out.2 _)⟩, ?hb⟩
            case hs =>
              have hz := (HBN5.out).size
              simp only [World.size_setCell, World.size_alloc]
              omega
            case hb =>
              rw [← HN.out]
              repeat (first | exact HBN5.out | (refine Below.setCell ?_ (by first | omega | (simp; done) | (simp; omega)) _) | (refine Below.alloc ?_ (by first | omega | (simp; omega)) _))
          · have HK1 := Lib.hid (show ∀ j : Nat, j < k + 1 → gpK p L (coord a b c (j : Int)) = true from fun j hj => by
              by_cases e : j < k
              · exact HK.out j e
              · have : j = k := by omega
                subst this
                rw [HRK.out.2, hok])
            have HP := Lib.hid (HO5.out.put (t := (a5, n5, c5)) (B := wr.heap.size) hlt (by rw [show gpR p L (coord a b c (k : Int)) = pcV p (L.take (m + 1)) from HRK.out.1]; exact HOW.out) HO.out.top hs5)
            have HB6 := Lib.hid (show Below q w2 (w5.setCell ⟨q, k, none⟩ (slV (a5, n5, c5))) from HBQ5.out.setCell (Nat.le_refl _) _)
            rw [show slV (a5, n5, c5) = .slice a5 n5 c5 from rfl] at HP HB6
            have x0 : w5.cell? ⟨q, k, none⟩ = some (.slice (u k).1 (u k).2.1 (u k).2.2) := HO5.out.c k hlt
            have y0 := HO5.out.f k hlt
            clear hz0 hz1 hok
            go_wp2_with fail
            go_roundw
            case rel => exact ⟨k + 1, _, _, by omega, by go_num, HP.out, HB6.out, HK1.out⟩
            case measure => simp [intOf]; omega
      · have hk3 : k = 3 := by omega
        subst hk3
        have HYES := Lib.hid (show gpB p L a b c = true ∧ ∀ k, gpV p L a b c k = gpR p L k by
          have e : gpB p L a b c = true := by
            unfold gpB
            rw [HGV.out, show gpK p L a = true from HK.out 0 (by omega), show gpK p L b = true from HK.out 1 (by omega), show gpK p L c = true from HK.out 2 (by omega)]
            rfl
          exact ⟨e, fun k => by unfold gpV; rw [if_pos e]⟩)
        obtain ⟨t0, ht0⟩ : ∃ t, t = u 0 := ⟨_, rfl⟩
        obtain ⟨t1, ht1⟩ : ∃ t, t = u 1 := ⟨_, rfl⟩
        obtain ⟨t2, ht2⟩ : ∃ t, t = u 2 := ⟨_, rfl⟩
        have x0 : wr.cell? ⟨q, 0, none⟩ = some (.slice t0.1 t0.2.1 t0.2.2) := by rw [ht0]; exact HO.out.c 0 (by omega)
        have x1 : wr.cell? ⟨q, 1, none⟩ = some (.slice t1.1 t1.2.1 t1.2.2) := by rw [ht1]; exact HO.out.c 1 (by omega)
        have x2 : wr.cell? ⟨q, 2, none⟩ = some (.slice t2.1 t2.2.1 t2.2.2) := by rw [ht2]; exact HO.out.c 2 (by omega)
        have y0 := HZR.out.2 0 (by omega)
        have y1 := HZR.out.2 1 (by omega)
        have y2 := HZR.out.2 2 (by omega)
        have z0 := HZR.out.1 0 (by omega)
        have z1 := HZR.out.1 1 (by omega)
        have z2 := HZR.out.1 2 (by omega)
        have HTT := Lib.hid (And.intro ht0 (And.intro ht1 ht2))
        have hns : n + 1 < s 0 := by have := HO.out.lt; omega
        clear ht0 ht1 ht2 g0
        go_wp2_with fail
        refine bodyPost_ret (v := .tuple #[.agg #[.slice t0.1 t0.2.1 t0.2.2, .slice t1.1 t1.2.1 t1.2.2, .slice t2.1 t2.2.1 t2.2.2], .bool true]) (by simp [results, Try.results64, go_sem, z0, z1, z2]) rfl ?_
        rw [HYES.out.1]
        have hf : ∀ (x0 x1 x2 : Value) (B : Nat) (vv : Value) (M : List Trm), n + 1 < B → OwnTrms wr B vv M → OwnTrms (((wr.setCell ⟨n + 1, 0, none⟩ x0).setCell ⟨n + 1, 1, none⟩ x1).setCell ⟨n + 1, 2, none⟩ x2) B vv M := fun x0 x1 x2 B vv M hB hh => ((hh.far hB _ _).far hB _ _).far hB _ _
        refine ⟨u, s, by rw [HTT.out.1, HTT.out.2.1, HTT.out.2.2], by rw [← HN.out]; omega, HO.out.mono, ?hs, fun j hj => ⟨hf _ _ _ _ _ _ ?hl ?ho, ?hi⟩, ?hb⟩
        case hs => simpa using HO.out.top
        case hl => have := OutT.up HO.out.mono 0 j; rw [Nat.zero_add] at this; omega
        case ho => show OwnTrms _ _ _ (gpV p L a b c (coord a b c (j : Int))); rw [show gpV p L a b c (coord a b c (j : Int)) = gpR p L (coord a b c (j : Int)) from HYES.out.2 _]; exact (HO.out.own j hj).1
        case hi => show LieT _ (gpV p L a b c (coord a b c (j : Int))) _; rw [show gpV p L a b c (coord a b c (j : Int)) = gpR p L (coord a b c (j : Int)) from HYES.out.2 _]; exact (HO.out.own j hj).2
        case hb =>
          rw [← HN.out]
          repeat (first | exact HBN.out | (refine Below.setCell ?_ (by first | omega | (simp; done) | (simp; omega)) _))
end Go.Proofs.Ytibghhkhnpjdfaa
