/-
  PolyOfCircuit of the program. Conditions: what the slice holds is known.
-/
import Derived.Test.YtlidplmpglpkgaaBa29
import Derived.Test.YtlidplmpglpkgaaBe21
namespace Go.Proofs.Ytlidplmpglpkgaa
open Go.RowKit
theorem ownT_low {w : World} {B B' : Nat} {v : Value} {L : List Trm} (h : OwnTrms w B v L) (hB : B' ≤ B) : OwnTrms w B' v L := ownT_base h hB
/-- one term in a block of its own -/
theorem ownT_one {w : World} {B g : Nat} (x : Trm) (hB : B ≤ g) (hg : g < w.heap.size) (h : TAt w g 0 x) (hf : ∀ i : Nat, i < 4 → w.frozen? ⟨g, i, none⟩ = false) (c : Nat) : OwnTrms w B (.slice (some ⟨g, 0, none⟩) 1 c) [x] := by
  refine ⟨by simp, _, c, rfl, .inr ⟨g, 0, rfl, hB, hg, fun j hj => ?_, fun i hi => ?_⟩⟩
  · have : j = 0 := by simpa using hj
    subst this
    simpa using h
  · rw [Nat.zero_add]
    exact hf i (by simpa using hi)
set_option maxRecDepth 100000 in
set_option maxHeartbeats 4000000 in
theorem iGPoly0 (p a b : Int) (ha : a = 0 ∨ a = 1 ∨ a = 2) (o : Option Addr) (n cap : Nat) (w : World) :
    Calls Try.prog 126 #[.agg #[.int .i64 0, .int .i64 a, .int .i64 b], .int .i64 p, .slice o n cap] w (GivesPB [onT a] true w) := by
  rcases ha with rfl | rfl | rfl
  all_goals
    go_enter Try.func126, Try.ntmps126
    go_wp2_with fail
    refine bodyPost_ret (results_tmp2 rfl _ _ _) rfl ?_
    refine ⟨_, rfl, ownT_one _ (by omega) ?_ ?_ ?_ _, ?_⟩
    · simp
    · simp [onT, TAt, go_sem]
    · intro i hi
      exact World.frozen?_alloc_at _ _ _ i (by simp)
    · repeat (first | exact Below.refl _ _ | (refine Below.setCell ?_ (by first | omega | (simp; done) | (simp; omega)) _) | (refine Below.alloc ?_ (by first | omega | (simp; done) | (simp; omega)) _))
theorem make_cn {p a : Int} (hp : isP p = true) (ha : 0 ≤ a ∧ a < p) : makeV p [⟨0, 0, 0, a⟩] = cnL a ∧ makeOk p [⟨0, 0, 0, a⟩] = true := by
  have hb := isP_bd hp
  have hm : mkK p [⟨0, 0, 0, a⟩] 1 = cnL a := by
    unfold mkK cnL
    simp only [List.take_succ_cons, List.take_zero, List.map_cons, List.map_nil, addAll, mkT]
    rw [Int.emod_eq_of_lt ha.1 ha.2]
    split
    · rename_i h
      rw [h]
      exact addT_zero rfl
    · rename_i h
      exact addT_nil h
  have hv : validB p (cnL a) = true := by
    unfold cnL
    split
    · rfl
    · refine validB_of (List.pairwise_singleton ..) (fun y hy => ?_) (fun y hy => ?_) (by simp)
      · have e : y = ⟨0, 0, 0, a⟩ := by simpa using hy
        subst e
        show 1 ≤ a ∧ a < p
        omega
      · have e : y = ⟨0, 0, 0, a⟩ := by simpa using hy
        subst e
        rfl
  have hk : makeOk p [⟨0, 0, 0, a⟩] = true := by
    unfold makeOk
    rw [hp, show ([⟨0, 0, 0, a⟩] : List Trm).length = 1 from rfl, hm, hv]
    rfl
  exact ⟨by unfold makeV; rw [if_pos hk]; exact hm, hk⟩
set_option maxRecDepth 100000 in
set_option maxHeartbeats 4000000 in
theorem iGPoly1 (p a b : Int) (hp : isP p = true) (ha : 0 ≤ a ∧ a < p) (o : Option Addr) (n cap : Nat) (w : World) :
    Calls Try.prog 126 #[.agg #[.int .i64 1, .int .i64 a, .int .i64 b], .int .i64 p, .slice o n cap] w (GivesPB (cnL a) true w) := by
  have HM := Lib.hid (fun f w' (h : Trms w' f [⟨0, 0, 0, a⟩]) => show Calls Try.prog 105 #[.int .i64 p, f] w' (GivesPB (cnL a) true w') by
    rw [← (make_cn hp ha).1, ← (make_cn hp ha).2]
    exact iMakePoly p f _ w' h)
  clear hp ha
  go_enter Try.func126, Try.ntmps126
  go_wp2_with fail
  refine (HM.out _ _ ?_).mono ?_
  · refine ⟨by simp, _, 1, rfl, .inr ⟨w.heap.size + 1, 0, rfl, by simp, fun j hj => ?_⟩⟩
    have : j = 0 := by simpa using hj
    subst this
    simp [TAt, go_sem]
  rintro e w2 ⟨v, rfl, ho, hb⟩
  have HO := Lib.hid (And.intro ho hb)
  obtain ⟨_, ao, co, rfl, _⟩ := ho
  clear hb
  go_wp2_with fail
  refine bodyPost_ret (results_tmp2 rfl _ _ _) rfl ?_
  exact ⟨_, rfl, ownT_low HO.out.1 (by simp; omega), (by repeat (first | exact Below.refl _ _ | (refine Below.alloc ?_ (by first | omega | (simp; done) | (simp; omega)) _)) : Below w.heap.size w _).trans (HO.out.2.mono (by simp; omega))⟩
/-- the polynomials that a gate joins, as it finds them -/
theorem keepPl {w w1 : World} {n g ja jb : Nat} {a b : Int} {u v : Value} (hb : Below w.heap.size w w1) (hn : n < w.heap.size) (hg : g < w.heap.size)
    (h : w.cell? ⟨n, 1, none⟩ = some (.int .i64 a) ∧ w.cell? ⟨n, 2, none⟩ = some (.int .i64 b) ∧ w.cell? ⟨g, ja, none⟩ = some u ∧ w.cell? ⟨g, jb, none⟩ = some v) :
    w1.cell? ⟨n, 1, none⟩ = some (.int .i64 a) ∧ w1.cell? ⟨n, 2, none⟩ = some (.int .i64 b) ∧ w1.cell? ⟨g, ja, none⟩ = some u ∧ w1.cell? ⟨g, jb, none⟩ = some v := by
  obtain ⟨h1, h2, h3, h4⟩ := h
  exact ⟨by rw [hb.cell (p := ⟨n, 1, none⟩) hn]; exact h1, by rw [hb.cell (p := ⟨n, 2, none⟩) hn]; exact h2, by rw [hb.cell (p := ⟨g, ja, none⟩) hg]; exact h3, by rw [hb.cell (p := ⟨g, jb, none⟩) hg]; exact h4⟩
set_option maxRecDepth 100000 in
set_option maxHeartbeats 4000000 in
theorem iGPoly2 (p k : Int) (hk : k = 2 ∨ k = 3) (ja jb n : Nat) (hja : ja < n) (hjb : jb < n) (hn : n ≤ 60) (g cap : Nat) (u v : Value) (L M : List Trm) (w : World) (hg : g < w.heap.size)
    (h0 : w.cell? ⟨g, ja, none⟩ = some u) (h1 : w.cell? ⟨g, jb, none⟩ = some v) (hL : Trms w u L) (hM : Trms w v M) :
    Calls Try.prog 126 #[.agg #[.int .i64 k, .int .i64 ja, .int .i64 jb], .int .i64 p, .slice (some ⟨g, 0, none⟩) n cap] w
      (GivesPB (if k = 2 then sumV p L M else mulL p L M) (if k = 2 then addOk p L M else mulOk p L M) w) := by
  obtain ⟨W, hW⟩ : ∃ W, W = w.alloc (Obj.cells #[.int .i64 k, .int .i64 ja, .int .i64 jb] 137) := ⟨_, rfl⟩
  have bW : Below w.heap.size w W := by rw [hW]; exact (by repeat (first | exact Below.refl _ _ | apply Below.drew | apply below_drewN | (refine Below.alloc ?_ (by first | omega | (simp <;> omega)) _)))
  have c1 : W.cell? ⟨w.heap.size, 1, none⟩ = some (.int .i64 ja) := by rw [hW]; simp [go_sem]
  have c2 : W.cell? ⟨w.heap.size, 2, none⟩ = some (.int .i64 jb) := by rw [hW]; simp [go_sem]
  have c0 : W.cell? ⟨w.heap.size, 0, none⟩ = some (.int .i64 k) := by rw [hW]; simp [go_sem]
  have ht : w.heap.size < W.heap.size := by rw [hW]; simp
  have d0 := bW.cell (p := ⟨g, ja, none⟩) hg
  have d1 := bW.cell (p := ⟨g, jb, none⟩) hg
  rw [h0] at d0
  rw [h1] at d1
  have hg2 : g < W.heap.size := by omega
  have ja0 : (0 : Int) ≤ ja := by omega
  have jb0 : (0 : Int) ≤ jb := by omega
  have jan : (ja : Int) < (n : Int) := by omega
  have jbn : (jb : Int) < (n : Int) := by omega
  have hn0 : (n : Int) ≤ 60 := by omega
  have HL := Lib.hid (fun w' (hb : Below W.heap.size W w') => And.intro ((hL.below bW).below hb) ((hM.below bW).below hb))
  have HS := Lib.hid (fun w' (hb : Below W.heap.size W w') => iAddPoly p u v L M w' (HL.out w' hb).1 (HL.out w' hb).2)
  have HT := Lib.hid (fun w' (hb : Below W.heap.size W w') => iMulPoly p u v L M w' (HL.out w' hb).1 (HL.out w' hb).2)
  obtain ⟨_, a1, k1, rfl, _⟩ := hL
  obtain ⟨_, a2, k2, rfl, _⟩ := hM
  have HW := Lib.hid hW
  have HB := Lib.hid bW
  clear hW bW h0 h1 HL
  rcases hk with rfl | rfl
  all_goals
    simp only [if_true, show ((3 : Int) = 2) = False by simp, if_false]
    go_enter Try.func126, Try.ntmps126
    go_wp2_with fail
    rw [← HW.out]
    clear HW
    go_wp2_with fail
    go_region_held3 (fun w' => w'.cell? ⟨w.heap.size, 1, none⟩ = some (.int .i64 ja) ∧ w'.cell? ⟨w.heap.size, 2, none⟩ = some (.int .i64 jb) ∧ w'.cell? ⟨g, ja, none⟩ = some (.slice a1 L.length k1) ∧ w'.cell? ⟨g, jb, none⟩ = some (.slice a2 M.length k2)) (first | exact keepPl hb1 (by simpa using ht) (by simpa using hg2) (by assumption) | go_keep)
      (first | (go_at_call 23; refine (HS.out _ (Below.drew (Below.refl _ _))).mono ?_; rintro e w1 ⟨x, rfl, ho, hb1⟩) | (go_at_call 70; refine (HT.out _ (Below.drew (Below.refl _ _))).mono ?_; rintro e w1 ⟨x, rfl, ho, hb1⟩))
    have HO := Lib.hid (And.intro ho (HB.out.trans (((Below.drew (Below.refl _ _) : Below W.heap.size W W.drew).trans (by simpa using hb1)).mono (by omega))))
    obtain ⟨_, ao, co, rfl, _⟩ := ho
    clear hb1
    go_wp2_with fail
    refine bodyPost_ret (results_tmp2 rfl _ _ _) rfl ?_
    exact ⟨_, rfl, ownT_low HO.out.1 (by simp; omega), HO.out.2⟩
theorem iGPoly (p : Int) (L : List Gt) (hv : circB p L = true) (i : Nat) (hi : i < L.length) (x : Gt) (hx : x = L.getD i default) (G n cap : Nat) (F : Nat → Value) (w : World) (hS : StrW w G n F) (hin : i < n) (hn : n ≤ 60)
    (hF : joinsB (gAt L i) = true → Trms w (F (gAt L i).a.toNat) (pcP p L (gAt L i).a.toNat) ∧ Trms w (F (gAt L i).b.toNat) (pcP p L (gAt L i).b.toNat)) :
    Calls Try.prog 126 #[.agg #[.int .i64 x.k, .int .i64 x.a, .int .i64 x.b], .int .i64 p, .slice (some ⟨G, 0, none⟩) n cap] w (GivesPB (pcP p L i) (pcO p L i) w) := by
  have hgx : gAt L i = x := hx.symm
  obtain ⟨hp, _, _, hall⟩ := circB_iff.1 hv
  rcases gOK_cases (hall i hi) with ⟨hk, h0, h1, _⟩ | ⟨hk, h0, h1, _⟩ | ⟨hk, h0, h1, h2, h3⟩
  · rw [(pcP_in hk).1, (pcP_in hk).2]
    rw [hgx] at hk h0 h1 ⊢
    rw [hk]
    exact iGPoly0 p x.a x.b (by omega) _ _ _ w
  · rw [(pcP_cn hk).1, (pcP_cn hk).2]
    rw [hgx] at hk h0 h1 ⊢
    rw [hk]
    exact iGPoly1 p x.a x.b hp (by omega) _ _ _ w
  · obtain ⟨f1, f2⟩ := hF (by simpa [joinsB] using hk)
    have e : pcP p L i = (if (gAt L i).k = 2 then sumV p (pcP p L (gAt L i).a.toNat) (pcP p L (gAt L i).b.toNat) else mulL p (pcP p L (gAt L i).a.toNat) (pcP p L (gAt L i).b.toNat)) ∧ pcO p L i = (if (gAt L i).k = 2 then addOk p (pcP p L (gAt L i).a.toNat) (pcP p L (gAt L i).b.toNat) else mulOk p (pcP p L (gAt L i).a.toNat) (pcP p L (gAt L i).b.toNat)) := by
      rcases hk with hk | hk
      · rw [(pcP_sum hv hi hk).1, (pcP_sum hv hi hk).2, hk]
        exact ⟨rfl, rfl⟩
      · rw [(pcP_mul hv hi hk).1, (pcP_mul hv hi hk).2, hk]
        exact ⟨rfl, rfl⟩
    rw [e.1, e.2]
    rw [hgx] at hk h0 h1 h2 h3 f1 f2 ⊢
    have c1 := (hS.c x.a.toNat (by omega)).1
    have c2 := (hS.c x.b.toNat (by omega)).1
    have := iGPoly2 p x.k hk x.a.toNat x.b.toNat n (by omega) (by omega) hn G cap _ _ _ _ w hS.sz c1 c2 f1 f2
    rw [show ((x.a.toNat : Nat) : Int) = x.a by omega, show ((x.b.toNat : Nat) : Int) = x.b by omega] at this
    exact this
theorem infoPoly : (Try.prog.info? 24).map (fun i => (i.zero, i.size, i.bytes)) = some (some (.slice none 0 0), 1, 24) := by kernel_rfl
theorem ownT_off {w : World} {B G i : Nat} {v u : Value} {L : List Trm} (h : OwnTrms w B v L) (hB : G < B) : OwnTrms (w.setCell ⟨G, i, none⟩ u) B v L := by
  obtain ⟨h1, a, cap, hv, h2⟩ := h
  refine ⟨h1, a, cap, hv, ?_⟩
  rcases h2 with h2 | ⟨g, off, ha, hg, hs, hc, hf⟩
  · exact .inl h2
  · refine .inr ⟨g, off, ha, hg, by simpa using hs, fun j hj => ?_, fun j hj => by rw [World.frozen?_setCell]; exact hf j hj⟩
    have hne : ∀ d, (⟨G, i, none⟩ : Addr) ≠ ⟨g, d, none⟩ := fun d e => by injection e with e1 _; omega
    obtain ⟨t0, t1, t2, t3⟩ := hc j hj
    exact ⟨by rw [World.cell?_setCell_other _ _ _ _ (hne _)]; exact t0, by rw [World.cell?_setCell_other _ _ _ _ (hne _)]; exact t1, by rw [World.cell?_setCell_other _ _ _ _ (hne _)]; exact t2, by rw [World.cell?_setCell_other _ _ _ _ (hne _)]; exact t3⟩
/-- what the program's rounds keep: the polynomials of the used gates so far -/
structure PcW (p : Int) (L : List Gt) (w0 : World) (B G g2 o2 : Nat) (l : List Int) (t : Nat) (F : Nat → Value) (wr : World) : Prop where
  st : StrW wr G L.length F
  li : ∀ j, j < l.length → wr.cell? ⟨g2, o2 + j, none⟩ = some (.int .i64 (l.getD j 0))
  g2s : g2 < wr.heap.size
  ne : g2 ≠ G
  BG : B ≤ G
  low : Below B w0 wr
  ok : ∀ j : Nat, (j : Int) ∈ l.take t → OwnTrms wr (G + 1) (F j) (pcP p L j)
theorem PcW.below {p : Int} {L : List Gt} {w0 : World} {B G g2 o2 t : Nat} {l : List Int} {F : Nat → Value} {wr w1 : World} (h : PcW p L w0 B G g2 o2 l t F wr) (hB : B ≤ w0.heap.size) (hb : Below wr.heap.size wr w1) : PcW p L w0 B G g2 o2 l t F w1 :=
  ⟨h.st.below hb, fun j hj => by rw [hb.cell (p := ⟨g2, o2 + j, none⟩) h.g2s]; exact h.li j hj, Nat.lt_of_lt_of_le h.g2s hb.size, h.ne, h.BG, h.low.trans (hb.mono (Nat.le_trans hB h.low.size)), fun j hj => (h.ok j hj).below hb⟩
theorem PcW.put {p : Int} {L : List Gt} {w0 : World} {B G g2 o2 t i : Nat} {l : List Int} {F : Nat → Value} {wr : World} {v : Value} (h : PcW p L w0 B G g2 o2 l t F wr) (hi : i < L.length) (ht : t < l.length) (hl : l.getD t 0 = (i : Int)) (hv : OwnTrms wr (G + 1) v (pcP p L i)) :
    PcW p L w0 B G g2 o2 l (t + 1) (fun j => if j = i then v else F j) (wr.setCell ⟨G, i, none⟩ v) := by
  refine ⟨h.st.set hi _, fun j hj => ?_, by simpa using h.g2s, h.ne, h.BG, h.low.setCell (p := ⟨G, i, none⟩) h.BG _, fun j hj => ?_⟩
  · rw [World.cell?_setCell_other _ _ _ _ (fun e => h.ne (congrArg Addr.block e).symm)]
    exact h.li j hj
  · by_cases e : j = i
    · rw [if_pos e, e]
      exact ownT_off hv (by omega)
    · rw [if_neg e]
      rw [snocZ ht, hl] at hj
      rcases List.mem_append.1 hj with hj | hj
      · exact ownT_off (h.ok j hj) (by omega)
      · exact absurd (by have : (j : Int) = (i : Int) := by simpa using hj
                         omega) e
set_option maxRecDepth 100000 in
set_option maxHeartbeats 4000000 in
theorem iPoC_no (p : Int) (f : Value) (L : List Gt) (w : World) (h : Gats w f L) (hv : circB p L = false) :
    Calls Try.prog 35 #[.int .i64 p, f] w (GivesPB [] false w) := by
  have HCV := Lib.hid (iCircuitValid p f L w h)
  rw [hv] at HCV
  obtain ⟨_, a, cap, rfl, _⟩ := h
  clear hv
  go_enter Try.func35, Try.ntmps35
  go_wp2_with fail
  refine HCV.out.mono ?_
  rintro e w1 ⟨rfl, hb1⟩
  have HB := Lib.hid hb1
  clear hb1
  go_wp2_with fail
  refine bodyPost_ret (results_tmp2 rfl _ _ _) rfl ?_
  exact ⟨_, rfl, (Row.nil w1 w.heap.size).own (by simp), HB.out⟩
set_option maxRecDepth 100000 in
set_option maxHeartbeats 8000000 in
theorem iPoC_yes (p : Int) (f : Value) (L : List Gt) (w : World) (h : Gats w f L) (hv : circB p L = true) (R : List Trm) (b : Bool) (hR : R = pcV p L) (hb : b = pcOk p L) :
    Calls Try.prog 35 #[.int .i64 p, f] w (GivesPB R b w) := by
  obtain ⟨i0, hi, hz0, hz1, hz2⟩ := info_parts infoPoly
  have HCV := Lib.hid (iCircuitValid p f L w h)
  rw [hv] at HCV
  have HUG := Lib.hid (fun w' (hb : Below w.heap.size w w') => iUsedGates p f L w' (h.below hb))
  rw [show useV p L = useTo (useF L) 60 by simp [useV, hv]] at HUG
  obtain ⟨g, off, cap, rfl, hg, hc⟩ := gats_u h hv
  obtain ⟨hp, hl1, hl2, hall⟩ := circB_iff.1 hv
  obtain ⟨m, hm⟩ : ∃ m, L.length = m + 1 := ⟨L.length - 1, by omega⟩
  have hmm : (L.length : Int) - 1 = (m : Int) := by omega
  obtain ⟨l, hl⟩ : ∃ l, l = useTo (useF L) 60 := ⟨_, rfl⟩
  rw [← hl] at HUG
  have HML := Lib.hid (show ((m : Nat) : Int) ∈ l by
    rw [hl]
    refine sp_mem (by omega) ?_
    have := useF_last hv
    rwa [show L.length - 1 = m by omega] at this)
  have hll : l.length ≤ 60 := by rw [hl]; exact useTo_len _ _
  have HL := Lib.hid hl
  have HV := Lib.hid hv
  have HC := Lib.hid hc
  have HMM := Lib.hid hmm
  have HM1 := Lib.hid hm
  have HRR := Lib.hid hR
  have HBB := Lib.hid hb
  clear hall hl hv hc hm hmm h hp hR hb
  go_enter Try.func35, Try.ntmps35
  go_wp2_with fail
  refine HCV.out.mono ?_
  rintro e w1 ⟨rfl, hb1⟩
  have HB1 := Lib.hid hb1
  have hgr0 := hb1.size
  clear hb1
  go_wp2_with (at_make; refine wpList_make_full _ rfl _ _ 138 rfl w1.heap.size 24 i0 (.slice none 0 0) 1 Try.underlying138 hi hz0 hz1 .i64 .i64 L.length L.length L.length rfl rfl rfl rfl ?c2 ?c3 ?c4 ?_)
  case c2 => rw [hz2]; omega
  case c3 => unfold maxLen; omega
  case c4 => exact Nat.le_refl _
  intro w2 hown hgr
  have hb2 : Below w1.heap.size w1 w2 := (Below.refl _ _).grown hgr (Nat.le_refl _) (fun k hk => by cases hk)
  obtain ⟨F0, hF0⟩ : ∃ F0 : Nat → Value, StrW w2 w1.heap.size L.length F0 := by
    refine ⟨fun j => (w2.cell? ⟨w1.heap.size, j, none⟩).getD undef, (hown.lt _ rfl).2, fun j hj => ⟨?_, hown.frozenAt j⟩⟩
    have e := hown.cellAt j (by omega)
    cases hc : w2.cell? ⟨w1.heap.size, j, none⟩ with
    | some u => rfl
    | none =>
      rw [hc] at e
      obtain ⟨u, hu⟩ := madeS (Value.slice none 0 0).cells L.length j hj
      exact absurd (e.trans hu) (by simp)
  have HS2 := Lib.hid hF0
  have HB2 := Lib.hid (HB1.out.trans (hb2.mono hgr0))
  have hGs : w.heap.size ≤ w1.heap.size := hgr0
  obtain ⟨G, hG⟩ : ∃ G, G = w1.heap.size := ⟨_, rfl⟩
  rw [← hG] at HS2 hGs ⊢
  clear hown hgr hb2 hF0 hG hi hz0 hz1 hz2
  go_wp2_with fail
  refine (HUG.out _ HB2.out).mono ?_
  rintro e w3 ⟨v3, rfl, hO, hb3⟩
  obtain ⟨_, al, cl, rfl, hO⟩ := hO
  have hl0 : 0 < l.length := List.length_pos_of_mem HML.out
  rcases hO with h0 | ⟨g2, o2, rfl, hB2, hg2, hcl, _⟩
  · rw [h0] at hl0; simp at hl0
  have hS3 := HS2.out.below hb3
  have HW := Lib.hid (show PcW p L w w.heap.size G g2 o2 l 0 F0 w3 from
    ⟨hS3, hcl, hg2, by have := HS2.out.sz; omega, hGs, HB2.out.trans (hb3.mono HB2.out.size), fun j hj => by simp at hj⟩)
  clear hcl hb3 hB2 hg2 hS3
  go_wp2_with fail
  go_loopw [22] (fun i wr => ∃ (t : Nat) (F : Nat → Value), t ≤ l.length ∧ i = .int .i64 t ∧ PcW p L w w.heap.size G g2 o2 l t F wr ∧ ∀ j : Nat, (j : Int) ∈ l.take t → pcO p L j = true) (fun i _ => l.length - (intOf i).toNat)
  case atStart => exact ⟨0, F0, by omega, rfl, HW.out, fun j hj => by simp at hj⟩
  case round =>
    clear HW
    obtain ⟨t, F, ht, rfl, hS, hok⟩ := hrel
    have HOK := Lib.hid hok
    clear hok
    by_cases hlt : t < l.length
    · have hltp : (t : Int) < (l.length : Int) := by omega
      have ht0 : (0 : Int) ≤ (t : Int) := by omega
      obtain ⟨j, hj60, huj, hjl, hju⟩ := sp_pos (useF L) 60 t (by rw [← HL.out]; exact hlt)
      rw [← HL.out] at hjl hju
      have hjL : j < L.length := useM_lt HV.out _ j huj
      have hjp : (j : Int) < (L.length : Int) := by omega
      have hj0 : (0 : Int) ≤ (j : Int) := by omega
      have q0 := hS.li t hlt
      rw [hjl] at q0
      obtain ⟨a0, a1, a2⟩ := (HC.out j hjL).below hS.low hg
      obtain ⟨x, hx⟩ : ∃ x, x = L.getD j default := ⟨_, rfl⟩
      rw [← hx] at a0 a1 a2
      have HT := Lib.hid (iGPoly p L HV.out j hjL x hx G L.length L.length F wr hS.st hjL hl2 (fun hg => by
        obtain ⟨u1, u2⟩ := use_closed HV.out hjL huj hg
        obtain ⟨_, l1, l2⟩ := tx_join HV.out hjL hg
        exact ⟨(hS.ok _ (by rw [← hju]; exact sp_mem l1 u1)).trms, (hS.ok _ (by rw [← hju]; exact sp_mem l2 u2)).trms⟩))
      have HS := Lib.hid hS
      have HJL := Lib.hid hjl
      have HU := Lib.hid huj
      clear hS hx huj hjl hju
      rcases Bool.eq_false_or_eq_true (pcO p L j) with ho | ho
      · have HO := Lib.hid ho
        rw [ho] at HT
        clear ho
        go_wp2_with fail
        refine HT.out.mono ?_
        rintro e w4 ⟨v4, rfl, ho4, hb4⟩
        have H4 := Lib.hid (HS.out.below (Nat.le_refl _) hb4)
        have hsz := HS.out.st.sz
        have HV4 := Lib.hid (ownT_low ho4 (show G + 1 ≤ wr.heap.size by omega))
        obtain ⟨_, a4, k4, rfl, _⟩ := ho4
        clear hb4 q0 a0 a1 a2 hsz
        obtain ⟨c4, f4⟩ := H4.out.st.c j hjL
        have hG4 := H4.out.st.sz
        have H5 := Lib.hid (H4.out.put hjL hlt HJL.out HV4.out)
        go_wp2_with fail
        go_roundw
        case rel =>
          refine ⟨t + 1, _, by omega, by go_num, H5.out, fun i hi => ?_⟩
          rw [snocZ hlt, HJL.out] at hi
          rcases List.mem_append.1 hi with hi | hi
          · exact HOK.out i hi
          · have : i = j := by
              have : (i : Int) = (j : Int) := by simpa using hi
              omega
            rw [this]
            exact HO.out
        case measure => simp [intOf]; omega
      · rw [ho] at HT
        have HE := Lib.hid (pc_bad hjL HU.out ho)
        have hz : b = false := by rw [HBB.out, HE.out]
        have hz2 : R = [] := by rw [HRR.out]; unfold pcV; rw [HE.out]; rfl
        subst hz hz2
        clear ho
        go_wp2_with fail
        refine HT.out.mono ?_
        rintro e w4 ⟨v4, rfl, ho4, hb4⟩
        have H4 := Lib.hid (HS.out.below (Nat.le_refl _) hb4)
        obtain ⟨_, a4, k4, rfl, _⟩ := ho4
        clear hb4 q0 a0 a1 a2
        go_wp2_with fail
        refine bodyPost_ret (results_tmp2 rfl _ _ _) rfl ?_
        exact ⟨_, rfl, (Row.nil w4 w.heap.size).own (by simp), H4.out.low⟩
    · have htl : t = l.length := by omega
      subst htl
      have hm1 := HM1.out
      have c9 := (hS.st.c m (by omega)).1
      have HO9 := Lib.hid (ownT_low (hS.ok m (by rw [List.take_length]; exact HML.out)) (show w.heap.size ≤ G + 1 by omega))
      have hzz : pcOk p L = true := pc_good HV.out (fun j hj hu => HOK.out j (by rw [List.take_length, HL.out]; exact sp_mem (by omega) hu))
      have hz : b = true := by rw [HBB.out, hzz]
      have hz2 : R = pcP p L m := by rw [HRR.out]; unfold pcV; rw [hzz, if_pos rfl]; congr 1; omega
      subst hz hz2
      have hm0 : (0 : Int) ≤ (m : Int) := by omega
      have hmL : (m : Int) < (L.length : Int) := by omega
      have HQ := Lib.hid hS.low
      obtain ⟨_, a9, k9, he9, _⟩ := HO9.out
      rw [he9] at c9 HO9
      have hG9 := hS.st.sz
      clear hS hm1 hzz he9
      go_wp2_with (go_at_call 127; refine (iLast _ L.length _ m (by omega) HMM.out _).mono ?_; rintro e w' ⟨rfl, rfl⟩)
      refine bodyPost_ret (results_tmp2 rfl _ _ _) rfl ?_
      exact ⟨_, rfl, HO9.out, HQ.out⟩
theorem iPolyOfCircuit (p : Int) (f : Value) (L : List Gt) (w : World) (h : Gats w f L) :
    Calls Try.prog 35 #[.int .i64 p, f] w (GivesPB (pcV p L) (pcOk p L) w) := by
  cases hv : circB p L
  · rw [(pc_no hv).1, (pc_no hv).2]
    exact iPoC_no p f L w h hv
  · exact iPoC_yes p f L w h hv _ _ rfl rfl
end Go.Proofs.Ytlidplmpglpkgaa
