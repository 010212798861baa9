/-
  PolyOfCircuit of the program. Conditions: what the slice holds is known.
  PolyOfCircuit of the model. Conditions: what the slice holds is known.
  ShiftPoly, of the model and of the program. Conditions: what the slice holds is known.
  ShiftPoly of the model. Conditions: what the slice holds is known.
  ShiftPoly of the program. Conditions: what the slice holds is known.
-/
import Derived.Test.YtlidplmpglpkgaaBa29
import Derived.Test.YtlidplmpglpkgaaBd11
import Derived.Test.YtlidplmpglpkgaaBd2
import Derived.Test.YtlidplmpglpkgaaBa27
import Derived.Test.YtlidplmpglpkgaaBa21
namespace Go.Proofs.Ytlidplmpglpkgaa
open Go.RowKit
theorem ownT_low {w : World} {B B' : Nat} {v : Value} {L : List Trm} (h : OwnTrms w B v L) (hB : B' ≤ B) : OwnTrms w B' v L := ownT_base h hB
/-- one term in a block of its own -/
theorem ownT_one {w : World} {B g : Nat} (x : Trm) (hB : B ≤ g) (hg : g < w.heap.size) (h : TAt w g 0 x) (hf : ∀ i : Nat, i < 4 → w.frozen? ⟨g, i, none⟩ = false) (c : Nat) : OwnTrms w B (.slice (some ⟨g, 0, none⟩) 1 c) [x] := by
  refine ⟨by simp, _, c, rfl, .inr ⟨g, 0, rfl, hB, hg, fun j hj => ?_, fun i hi => ?_⟩⟩
  · have : j = 0 := by simpa using hj
    subst this
    simpa using h
  · rw [Nat.zero_add]
    exact hf i (by simpa using hi)
set_option maxRecDepth 100000 in
set_option maxHeartbeats 4000000 in
theorem iGPoly0 (p a b : Int) (ha : a = 0 ∨ a = 1 ∨ a = 2) (o : Option Addr) (n cap : Nat) (w : World) :
    Calls Try.prog 126 #[.agg #[.int .i64 0, .int .i64 a, .int .i64 b], .int .i64 p, .slice o n cap] w (GivesPB [onT a] true w) := by
  rcases ha with rfl | rfl | rfl
  all_goals
    go_enter Try.func126, Try.ntmps126
    go_wp2_with fail
    refine bodyPost_ret (results_tmp2 rfl _ _ _) rfl ?_
    refine ⟨_, rfl, ownT_one _ (by omega) ?_ ?_ ?_ _, ?_⟩
    · simp
    · simp [onT, TAt, go_sem]
    · intro i hi
      exact World.frozen?_alloc_at _ _ _ i (by simp)
    · repeat (first | exact Below.refl _ _ | (refine Below.setCell ?_ (by first | omega | (simp; done) | (simp; omega)) _) | (refine Below.alloc ?_ (by first | omega | (simp; done) | (simp; omega)) _))
theorem make_cn {p a : Int} (hp : isP p = true) (ha : 0 ≤ a ∧ a < p) : makeV p [⟨0, 0, 0, a⟩] = cnL a ∧ makeOk p [⟨0, 0, 0, a⟩] = true := by
  have hb := isP_bd hp
  have hm : mkK p [⟨0, 0, 0, a⟩] 1 = cnL a := by
    unfold mkK cnL
    simp only [List.take_succ_cons, List.take_zero, List.map_cons, List.map_nil, addAll, mkT]
    rw [Int.emod_eq_of_lt ha.1 ha.2]
    split
    · rename_i h
      rw [h]
      exact addT_zero rfl
    · rename_i h
      exact addT_nil h
  have hv : validB p (cnL a) = true := by
    unfold cnL
    split
    · rfl
    · refine validB_of (List.pairwise_singleton ..) (fun y hy => ?_) (fun y hy => ?_) (by simp)
      · have e : y = ⟨0, 0, 0, a⟩ := by simpa using hy
        subst e
        show 1 ≤ a ∧ a < p
        omega
      · have e : y = ⟨0, 0, 0, a⟩ := by simpa using hy
        subst e
        rfl
  have hk : makeOk p [⟨0, 0, 0, a⟩] = true := by
    unfold makeOk
    rw [hp, show ([⟨0, 0, 0, a⟩] : List Trm).length = 1 from rfl, hm, hv]
    rfl
  exact ⟨by unfold makeV; rw [if_pos hk]; exact hm, hk⟩
set_option maxRecDepth 100000 in
set_option maxHeartbeats 4000000 in
theorem iGPoly1 (p a b : Int) (hp : isP p = true) (ha : 0 ≤ a ∧ a < p) (o : Option Addr) (n cap : Nat) (w : World) :
    Calls Try.prog 126 #[.agg #[.int .i64 1, .int .i64 a, .int .i64 b], .int .i64 p, .slice o n cap] w (GivesPB (cnL a) true w) := by
  have HM := Lib.hid (fun f w' (h : Trms w' f [⟨0, 0, 0, a⟩]) => show Calls Try.prog 105 #[.int .i64 p, f] w' (GivesPB (cnL a) true w') by
    rw [← (make_cn hp ha).1, ← (make_cn hp ha).2]
    exact iMakePoly p f _ w' h)
  clear hp ha
  go_enter Try.func126, Try.ntmps126
  go_wp2_with fail
  refine (HM.out _ _ ?_).mono ?_
  · refine ⟨by simp, _, 1, rfl, .inr ⟨w.heap.size + 1, 0, rfl, by simp, fun j hj => ?_⟩⟩
    have : j = 0 := by simpa using hj
    subst this
    simp [TAt, go_sem]
  rintro e w2 ⟨v, rfl, ho, hb⟩
  have HO := Lib.hid (And.intro ho hb)
  obtain ⟨_, ao, co, rfl, _⟩ := ho
  clear hb
  go_wp2_with fail
  refine bodyPost_ret (results_tmp2 rfl _ _ _) rfl ?_
  exact ⟨_, rfl, ownT_low HO.out.1 (by simp; omega), (by repeat (first | exact Below.refl _ _ | (refine Below.alloc ?_ (by first | omega | (simp; done) | (simp; omega)) _)) : Below w.heap.size w _).trans (HO.out.2.mono (by simp; omega))⟩
/-- the polynomials that a gate joins, as it finds them -/
theorem keepPl {w w1 : World} {n g ja jb : Nat} {a b : Int} {u v : Value} (hb : Below w.heap.size w w1) (hn : n < w.heap.size) (hg : g < w.heap.size)
    (h : w.cell? ⟨n, 1, none⟩ = some (.int .i64 a) ∧ w.cell? ⟨n, 2, none⟩ = some (.int .i64 b) ∧ w.cell? ⟨g, ja, none⟩ = some u ∧ w.cell? ⟨g, jb, none⟩ = some v) :
    w1.cell? ⟨n, 1, none⟩ = some (.int .i64 a) ∧ w1.cell? ⟨n, 2, none⟩ = some (.int .i64 b) ∧ w1.cell? ⟨g, ja, none⟩ = some u ∧ w1.cell? ⟨g, jb, none⟩ = some v := by
  obtain ⟨h1, h2, h3, h4⟩ := h
  exact ⟨by rw [hb.cell (p := ⟨n, 1, none⟩) hn]; exact h1, by rw [hb.cell (p := ⟨n, 2, none⟩) hn]; exact h2, by rw [hb.cell (p := ⟨g, ja, none⟩) hg]; exact h3, by rw [hb.cell (p := ⟨g, jb, none⟩) hg]; exact h4⟩
set_option maxRecDepth 100000 in
set_option maxHeartbeats 4000000 in
theorem iGPoly2 (p k : Int) (hk : k = 2 ∨ k = 3) (ja jb n : Nat) (hja : ja < n) (hjb : jb < n) (hn : n ≤ 60) (g cap : Nat) (u v : Value) (L M : List Trm) (w : World) (hg : g < w.heap.size)
    (h0 : w.cell? ⟨g, ja, none⟩ = some u) (h1 : w.cell? ⟨g, jb, none⟩ = some v) (hL : Trms w u L) (hM : Trms w v M) :
    Calls Try.prog 126 #[.agg #[.int .i64 k, .int .i64 ja, .int .i64 jb], .int .i64 p, .slice (some ⟨g, 0, none⟩) n cap] w
      (GivesPB (if k = 2 then sumV p L M else mulL p L M) (if k = 2 then addOk p L M else mulOk p L M) w) := by
  obtain ⟨W, hW⟩ : ∃ W, W = w.alloc (Obj.cells #[.int .i64 k, .int .i64 ja, .int .i64 jb] 137) := ⟨_, rfl⟩
  have bW : Below w.heap.size w W := by rw [hW]; exact (by repeat (first | exact Below.refl _ _ | apply Below.drew | apply below_drewN | (refine Below.alloc ?_ (by first | omega | (simp <;> omega)) _)))
  have c1 : W.cell? ⟨w.heap.size, 1, none⟩ = some (.int .i64 ja) := by rw [hW]; simp [go_sem]
  have c2 : W.cell? ⟨w.heap.size, 2, none⟩ = some (.int .i64 jb) := by rw [hW]; simp [go_sem]
  have c0 : W.cell? ⟨w.heap.size, 0, none⟩ = some (.int .i64 k) := by rw [hW]; simp [go_sem]
  have ht : w.heap.size < W.heap.size := by rw [hW]; simp
  have d0 := bW.cell (p := ⟨g, ja, none⟩) hg
  have d1 := bW.cell (p := ⟨g, jb, none⟩) hg
  rw [h0] at d0
  rw [h1] at d1
  have hg2 : g < W.heap.size := by omega
  have ja0 : (0 : Int) ≤ ja := by omega
  have jb0 : (0 : Int) ≤ jb := by omega
  have jan : (ja : Int) < (n : Int) := by omega
  have jbn : (jb : Int) < (n : Int) := by omega
  have hn0 : (n : Int) ≤ 60 := by omega
  have HL := Lib.hid (fun w' (hb : Below W.heap.size W w') => And.intro ((hL.below bW).below hb) ((hM.below bW).below hb))
  have HS := Lib.hid (fun w' (hb : Below W.heap.size W w') => iAddPoly p u v L M w' (HL.out w' hb).1 (HL.out w' hb).2)
  have HT := Lib.hid (fun w' (hb : Below W.heap.size W w') => iMulPoly p u v L M w' (HL.out w' hb).1 (HL.out w' hb).2)
  obtain ⟨_, a1, k1, rfl, _⟩ := hL
  obtain ⟨_, a2, k2, rfl, _⟩ := hM
  have HW := Lib.hid hW
  have HB := Lib.hid bW
  clear hW bW h0 h1 HL
  rcases hk with rfl | rfl
  all_goals
    simp only [if_true, show ((3 : Int) = 2) = False by simp, if_false]
    go_enter Try.func126, Try.ntmps126
    go_wp2_with fail
    rw [← HW.out]
    clear HW
    go_wp2_with fail
    go_region_held3 (fun w' => w'.cell? ⟨w.heap.size, 1, none⟩ = some (.int .i64 ja) ∧ w'.cell? ⟨w.heap.size, 2, none⟩ = some (.int .i64 jb) ∧ w'.cell? ⟨g, ja, none⟩ = some (.slice a1 L.length k1) ∧ w'.cell? ⟨g, jb, none⟩ = some (.slice a2 M.length k2)) (first | exact keepPl hb1 (by simpa using ht) (by simpa using hg2) (by assumption) | go_keep)
      (first | (go_at_call 23; refine (HS.out _ (Below.drew (Below.refl _ _))).mono ?_; rintro e w1 ⟨x, rfl, ho, hb1⟩) | (go_at_call 70; refine (HT.out _ (Below.drew (Below.refl _ _))).mono ?_; rintro e w1 ⟨x, rfl, ho, hb1⟩))
    have HO := Lib.hid (And.intro ho (HB.out.trans (((Below.drew (Below.refl _ _) : Below W.heap.size W W.drew).trans (by simpa using hb1)).mono (by omega))))
    obtain ⟨_, ao, co, rfl, _⟩ := ho
    clear hb1
    go_wp2_with fail
    refine bodyPost_ret (results_tmp2 rfl _ _ _) rfl ?_
    exact ⟨_, rfl, ownT_low HO.out.1 (by simp; omega), HO.out.2⟩
theorem iGPoly (p : Int) (L : List Gt) (hv : circB p L = true) (i : Nat) (hi : i < L.length) (x : Gt) (hx : x = L.getD i default) (G n cap : Nat) (F : Nat → Value) (w : World) (hS : StrW w G n F) (hin : i < n) (hn : n ≤ 60)
    (hF : joinsB (gAt L i) = true → Trms w (F (gAt L i).a.toNat) (pcP p L (gAt L i).a.toNat) ∧ Trms w (F (gAt L i).b.toNat) (pcP p L (gAt L i).b.toNat)) :
    Calls Try.prog 126 #[.agg #[.int .i64 x.k, .int .i64 x.a, .int .i64 x.b], .int .i64 p, .slice (some ⟨G, 0, none⟩) n cap] w (GivesPB (pcP p L i) (pcO p L i) w) := by
  have hgx : gAt L i = x := hx.symm
  obtain ⟨hp, _, _, hall⟩ := circB_iff.1 hv
  rcases gOK_cases (hall i hi) with ⟨hk, h0, h1, _⟩ | ⟨hk, h0, h1, _⟩ | ⟨hk, h0, h1, h2, h3⟩
  · rw [(pcP_in hk).1, (pcP_in hk).2]
    rw [hgx] at hk h0 h1 ⊢
    rw [hk]
    exact iGPoly0 p x.a x.b (by omega) _ _ _ w
  · rw [(pcP_cn hk).1, (pcP_cn hk).2]
    rw [hgx] at hk h0 h1 ⊢
    rw [hk]
    exact iGPoly1 p x.a x.b hp (by omega) _ _ _ w
  · obtain ⟨f1, f2⟩ := hF (by simpa [joinsB] using hk)
    have e : pcP p L i = (if (gAt L i).k = 2 then sumV p (pcP p L (gAt L i).a.toNat) (pcP p L (gAt L i).b.toNat) else mulL p (pcP p L (gAt L i).a.toNat) (pcP p L (gAt L i).b.toNat)) ∧ pcO p L i = (if (gAt L i).k = 2 then addOk p (pcP p L (gAt L i).a.toNat) (pcP p L (gAt L i).b.toNat) else mulOk p (pcP p L (gAt L i).a.toNat) (pcP p L (gAt L i).b.toNat)) := by
      rcases hk with hk | hk
      · rw [(pcP_sum hv hi hk).1, (pcP_sum hv hi hk).2, hk]
        exact ⟨rfl, rfl⟩
      · rw [(pcP_mul hv hi hk).1, (pcP_mul hv hi hk).2, hk]
        exact ⟨rfl, rfl⟩
    rw [e.1, e.2]
    rw [hgx] at hk h0 h1 h2 h3 f1 f2 ⊢
    have c1 := (hS.c x.a.toNat (by omega)).1
    have c2 := (hS.c x.b.toNat (by omega)).1
    have := iGPoly2 p x.k hk x.a.toNat x.b.toNat n (by omega) (by omega) hn G cap _ _ _ _ w hS.sz c1 c2 f1 f2
    rw [show ((x.a.toNat : Nat) : Int) = x.a by omega, show ((x.b.toNat : Nat) : Int) = x.b by omega] at this
    exact this
theorem infoPoly : (Try.prog.info? 24).map (fun i => (i.zero, i.size, i.bytes)) = some (some (.slice none 0 0), 1, 24) := by kernel_rfl
theorem ownT_off {w : World} {B G i : Nat} {v u : Value} {L : List Trm} (h : OwnTrms w B v L) (hB : G < B) : OwnTrms (w.setCell ⟨G, i, none⟩ u) B v L := by
  obtain ⟨h1, a, cap, hv, h2⟩ := h
  refine ⟨h1, a, cap, hv, ?_⟩
  rcases h2 with h2 | ⟨g, off, ha, hg, hs, hc, hf⟩
  · exact .inl h2
  · refine .inr ⟨g, off, ha, hg, by simpa using hs, fun j hj => ?_, fun j hj => by rw [World.frozen?_setCell]; exact hf j hj⟩
    have hne : ∀ d, (⟨G, i, none⟩ : Addr) ≠ ⟨g, d, none⟩ := fun d e => by injection e with e1 _; omega
    obtain ⟨t0, t1, t2, t3⟩ := hc j hj
    exact ⟨by rw [World.cell?_setCell_other _ _ _ _ (hne _)]; exact t0, by rw [World.cell?_setCell_other _ _ _ _ (hne _)]; exact t1, by rw [World.cell?_setCell_other _ _ _ _ (hne _)]; exact t2, by rw [World.cell?_setCell_other _ _ _ _ (hne _)]; exact t3⟩
/-- what the program's rounds keep: the polynomials of the used gates so far -/
structure PcW (p : Int) (L : List Gt) (w0 : World) (B G g2 o2 : Nat) (l : List Int) (t : Nat) (F : Nat → Value) (wr : World) : Prop where
  st : StrW wr G L.length F
  li : ∀ j, j < l.length → wr.cell? ⟨g2, o2 + j, none⟩ = some (.int .i64 (l.getD j 0))
  g2s : g2 < wr.heap.size
  ne : g2 ≠ G
  BG : B ≤ G
  low : Below B w0 wr
  ok : ∀ j : Nat, (j : Int) ∈ l.take t → OwnTrms wr (G + 1) (F j) (pcP p L j)
theorem PcW.below {p : Int} {L : List Gt} {w0 : World} {B G g2 o2 t : Nat} {l : List Int} {F : Nat → Value} {wr w1 : World} (h : PcW p L w0 B G g2 o2 l t F wr) (hB : B ≤ w0.heap.size) (hb : Below wr.heap.size wr w1) : PcW p L w0 B G g2 o2 l t F w1 :=
  ⟨h.st.below hb, fun j hj => by rw [hb.cell (p := ⟨g2, o2 + j, none⟩) h.g2s]; exact h.li j hj, Nat.lt_of_lt_of_le h.g2s hb.size, h.ne, h.BG, h.low.trans (hb.mono (Nat.le_trans hB h.low.size)), fun j hj => (h.ok j hj).below hb⟩
theorem PcW.put {p : Int} {L : List Gt} {w0 : World} {B G g2 o2 t i : Nat} {l : List Int} {F : Nat → Value} {wr : World} {v : Value} (h : PcW p L w0 B G g2 o2 l t F wr) (hi : i < L.length) (ht : t < l.length) (hl : l.getD t 0 = (i : Int)) (hv : OwnTrms wr (G + 1) v (pcP p L i)) :
    PcW p L w0 B G g2 o2 l (t + 1) (fun j => if j = i then v else F j) (wr.setCell ⟨G, i, none⟩ v) := by
  refine ⟨h.st.set hi _, fun j hj => ?_, by simpa using h.g2s, h.ne, h.BG, h.low.setCell (p := ⟨G, i, none⟩) h.BG _, fun j hj => ?_⟩
  · rw [World.cell?_setCell_other _ _ _ _ (fun e => h.ne (congrArg Addr.block e).symm)]
    exact h.li j hj
  · by_cases e : j = i
    · rw [if_pos e, e]
      exact ownT_off hv (by omega)
    · rw [if_neg e]
      rw [snocZ ht, hl] at hj
      rcases List.mem_append.1 hj with hj | hj
      · exact ownT_off (h.ok j hj) (by omega)
      · exact absurd (by have : (j : Int) = (i : Int) := by simpa using hj
                         omega) e
set_option maxRecDepth 100000 in
set_option maxHeartbeats 4000000 in
theorem iPoC_no (p : Int) (f : Value) (L : List Gt) (w : World) (h : Gats w f L) (hv : circB p L = false) :
    Calls Try.prog 35 #[.int .i64 p, f] w (GivesPB [] false w) := by
  have HCV := Lib.hid (iCircuitValid p f L w h)
  rw [hv] at HCV
  obtain ⟨_, a, cap, rfl, _⟩ := h
  clear hv
  go_enter Try.func35, Try.ntmps35
  go_wp2_with fail
  refine HCV.out.mono ?_
  rintro e w1 ⟨rfl, hb1⟩
  have HB := Lib.hid hb1
  clear hb1
  go_wp2_with fail
  refine bodyPost_ret (results_tmp2 rfl _ _ _) rfl ?_
  exact ⟨_, rfl, (Row.nil w1 w.heap.size).own (by simp), HB.out⟩
set_option maxRecDepth 100000 in
set_option maxHeartbeats 8000000 in
theorem iPoC_yes (p : Int) (f : Value) (L : List Gt) (w : World) (h : Gats w f L) (hv : circB p L = true) (R : List Trm) (b : Bool) (hR : R = pcV p L) (hb : b = pcOk p L) :
    Calls Try.prog 35 #[.int .i64 p, f] w (GivesPB R b w) := by
  obtain ⟨i0, hi, hz0, hz1, hz2⟩ := info_parts infoPoly
  have HCV := Lib.hid (iCircuitValid p f L w h)
  rw [hv] at HCV
  have HUG := Lib.hid (fun w' (hb : Below w.heap.size w w') => iUsedGates p f L w' (h.below hb))
  rw [show useV p L = useTo (useF L) 60 by simp [useV, hv]] at HUG
  obtain ⟨g, off, cap, rfl, hg, hc⟩ := gats_u h hv
  obtain ⟨hp, hl1, hl2, hall⟩ := circB_iff.1 hv
  obtain ⟨m, hm⟩ : ∃ m, L.length = m + 1 := ⟨L.length - 1, by omega⟩
  have hmm : (L.length : Int) - 1 = (m : Int) := by omega
  obtain ⟨l, hl⟩ : ∃ l, l = useTo (useF L) 60 := ⟨_, rfl⟩
  rw [← hl] at HUG
  have HML := Lib.hid (show ((m : Nat) : Int) ∈ l by
    rw [hl]
    refine sp_mem (by omega) ?_
    have := useF_last hv
    rwa [show L.length - 1 = m by omega] at this)
  have hll : l.length ≤ 60 := by rw [hl]; exact useTo_len _ _
  have HL := Lib.hid hl
  have HV := Lib.hid hv
  have HC := Lib.hid hc
  have HMM := Lib.hid hmm
  have HM1 := Lib.hid hm
  have HRR := Lib.hid hR
  have HBB := Lib.hid hb
  clear hall hl hv hc hm hmm h hp hR hb
  go_enter Try.func35, Try.ntmps35
  go_wp2_with fail
  refine HCV.out.mono ?_
  rintro e w1 ⟨rfl, hb1⟩
  have HB1 := Lib.hid hb1
  have hgr0 := hb1.size
  clear hb1
  go_wp2_with (at_make; refine wpList_make_full _ rfl _ _ 138 rfl w1.heap.size 24 i0 (.slice none 0 0) 1 Try.underlying138 hi hz0 hz1 .i64 .i64 L.length L.length L.length rfl rfl rfl rfl ?c2 ?c3 ?c4 ?_)
  case c2 => rw [hz2]; omega
  case c3 => unfold maxLen; omega
  case c4 => exact Nat.le_refl _
  intro w2 hown hgr
  have hb2 : Below w1.heap.size w1 w2 := (Below.refl _ _).grown hgr (Nat.le_refl _) (fun k hk => by cases hk)
  obtain ⟨F0, hF0⟩ : ∃ F0 : Nat → Value, StrW w2 w1.heap.size L.length F0 := by
    refine ⟨fun j => (w2.cell? ⟨w1.heap.size, j, none⟩).getD undef, (hown.lt _ rfl).2, fun j hj => ⟨?_, hown.frozenAt j⟩⟩
    have e := hown.cellAt j (by omega)
    cases hc : w2.cell? ⟨w1.heap.size, j, none⟩ with
    | some u => rfl
    | none =>
      rw [hc] at e
      obtain ⟨u, hu⟩ := madeS (Value.slice none 0 0).cells L.length j hj
      exact absurd (e.trans hu) (by simp)
  have HS2 := Lib.hid hF0
  have HB2 := Lib.hid (HB1.out.trans (hb2.mono hgr0))
  have hGs : w.heap.size ≤ w1.heap.size := hgr0
  obtain ⟨G, hG⟩ : ∃ G, G = w1.heap.size := ⟨_, rfl⟩
  rw [← hG] at HS2 hGs ⊢
  clear hown hgr hb2 hF0 hG hi hz0 hz1 hz2
  go_wp2_with fail
  refine (HUG.out _ HB2.out).mono ?_
  rintro e w3 ⟨v3, rfl, hO, hb3⟩
  obtain ⟨_, al, cl, rfl, hO⟩ := hO
  have hl0 : 0 < l.length := List.length_pos_of_mem HML.out
  rcases hO with h0 | ⟨g2, o2, rfl, hB2, hg2, hcl, _⟩
  · rw [h0] at hl0; simp at hl0
  have hS3 := HS2.out.below hb3
  have HW := Lib.hid (show PcW p L w w.heap.size G g2 o2 l 0 F0 w3 from
    ⟨hS3, hcl, hg2, by have := HS2.out.sz; omega, hGs, HB2.out.trans (hb3.mono HB2.out.size), fun j hj => by simp at hj⟩)
  clear hcl hb3 hB2 hg2 hS3
  go_wp2_with fail
  go_loopw [22] (fun i wr => ∃ (t : Nat) (F : Nat → Value), t ≤ l.length ∧ i = .int .i64 t ∧ PcW p L w w.heap.size G g2 o2 l t F wr ∧ ∀ j : Nat, (j : Int) ∈ l.take t → pcO p L j = true) (fun i _ => l.length - (intOf i).toNat)
  case atStart => exact ⟨0, F0, by omega, rfl, HW.out, fun j hj => by simp at hj⟩
  case round =>
    clear HW
    obtain ⟨t, F, ht, rfl, hS, hok⟩ := hrel
    have HOK := Lib.hid hok
    clear hok
    by_cases hlt : t < l.length
    · have hltp : (t : Int) < (l.length : Int) := by omega
      have ht0 : (0 : Int) ≤ (t : Int) := by omega
      obtain ⟨j, hj60, huj, hjl, hju⟩ := sp_pos (useF L) 60 t (by rw [← HL.out]; exact hlt)
      rw [← HL.out] at hjl hju
      have hjL : j < L.length := useM_lt HV.out _ j huj
      have hjp : (j : Int) < (L.length : Int) := by omega
      have hj0 : (0 : Int) ≤ (j : Int) := by omega
      have q0 := hS.li t hlt
      rw [hjl] at q0
      obtain ⟨a0, a1, a2⟩ := (HC.out j hjL).below hS.low hg
      obtain ⟨x, hx⟩ : ∃ x, x = L.getD j default := ⟨_, rfl⟩
      rw [← hx] at a0 a1 a2
      have HT := Lib.hid (iGPoly p L HV.out j hjL x hx G L.length L.length F wr hS.st hjL hl2 (fun hg => by
        obtain ⟨u1, u2⟩ := use_closed HV.out hjL huj hg
        obtain ⟨_, l1, l2⟩ := tx_join HV.out hjL hg
        exact ⟨(hS.ok _ (by rw [← hju]; exact sp_mem l1 u1)).trms, (hS.ok _ (by rw [← hju]; exact sp_mem l2 u2)).trms⟩))
      have HS := Lib.hid hS
      have HJL := Lib.hid hjl
      have HU := Lib.hid huj
      clear hS hx huj hjl hju
      rcases Bool.eq_false_or_eq_true (pcO p L j) with ho | ho
      · have HO := Lib.hid ho
        rw [ho] at HT
        clear ho
        go_wp2_with fail
        refine HT.out.mono ?_
        rintro e w4 ⟨v4, rfl, ho4, hb4⟩
        have H4 := Lib.hid (HS.out.below (Nat.le_refl _) hb4)
        have hsz := HS.out.st.sz
        have HV4 := Lib.hid (ownT_low ho4 (show G + 1 ≤ wr.heap.size by omega))
        obtain ⟨_, a4, k4, rfl, _⟩ := ho4
        clear hb4 q0 a0 a1 a2 hsz
        obtain ⟨c4, f4⟩ := H4.out.st.c j hjL
        have hG4 := H4.out.st.sz
        have H5 := Lib.hid (H4.out.put hjL hlt HJL.out HV4.out)
        go_wp2_with fail
        go_roundw
        case rel =>
          refine ⟨t + 1, _, by omega, by go_num, H5.out, fun i hi => ?_⟩
          rw [snocZ hlt, HJL.out] at hi
          rcases List.mem_append.1 hi with hi | hi
          · exact HOK.out i hi
          · have : i = j := by
              have : (i : Int) = (j : Int) := by simpa using hi
              omega
            rw [this]
            exact HO.out
        case measure => simp [intOf]; omega
      · rw [ho] at HT
        have HE := Lib.hid (pc_bad hjL HU.out ho)
        have hz : b = false := by rw [HBB.out, HE.out]
        have hz2 : R = [] := by rw [HRR.out]; unfold pcV; rw [HE.out]; rfl
        subst hz hz2
        clear ho
        go_wp2_with fail
        refine HT.out.mono ?_
        rintro e w4 ⟨v4, rfl, ho4, hb4⟩
        have H4 := Lib.hid (HS.out.below (Nat.le_refl _) hb4)
        obtain ⟨_, a4, k4, rfl, _⟩ := ho4
        clear hb4 q0 a0 a1 a2
        go_wp2_with fail
        refine bodyPost_ret (results_tmp2 rfl _ _ _) rfl ?_
        exact ⟨_, rfl, (Row.nil w4 w.heap.size).own (by simp), H4.out.low⟩
    · have htl : t = l.length := by omega
      subst htl
      have hm1 := HM1.out
      have c9 := (hS.st.c m (by omega)).1
      have HO9 := Lib.hid (ownT_low (hS.ok m (by rw [List.take_length]; exact HML.out)) (show w.heap.size ≤ G + 1 by omega))
      have hzz : pcOk p L = true := pc_good HV.out (fun j hj hu => HOK.out j (by rw [List.take_length, HL.out]; exact sp_mem (by omega) hu))
      have hz : b = true := by rw [HBB.out, hzz]
      have hz2 : R = pcP p L m := by rw [HRR.out]; unfold pcV; rw [hzz, if_pos rfl]; congr 1; omega
      subst hz hz2
      have hm0 : (0 : Int) ≤ (m : Int) := by omega
      have hmL : (m : Int) < (L.length : Int) := by omega
      have HQ := Lib.hid hS.low
      obtain ⟨_, a9, k9, he9, _⟩ := HO9.out
      rw [he9] at c9 HO9
      have hG9 := hS.st.sz
      clear hS hm1 hzz he9
      go_wp2_with (go_at_call 127; refine (iLast _ L.length _ m (by omega) HMM.out _).mono ?_; rintro e w' ⟨rfl, rfl⟩)
      refine bodyPost_ret (results_tmp2 rfl _ _ _) rfl ?_
      exact ⟨_, rfl, HO9.out, HQ.out⟩
theorem iPolyOfCircuit (p : Int) (f : Value) (L : List Gt) (w : World) (h : Gats w f L) :
    Calls Try.prog 35 #[.int .i64 p, f] w (GivesPB (pcV p L) (pcOk p L) w) := by
  cases hv : circB p L
  · rw [(pc_no hv).1, (pc_no hv).2]
    exact iPoC_no p f L w h hv
  · exact iPoC_yes p f L w h hv _ _ rfl rfl
end Go.Proofs.Ytlidplmpglpkgaa
namespace Go.Proofs.Ytlidplmpglpkgaa
open Go.RowKit
set_option maxRecDepth 100000 in
set_option maxHeartbeats 4000000 in
theorem sPower1 (a : Int) (ha : a = 0 ∨ a = 1 ∨ a = 2) (w : World) :
    Calls Try.prog 167 #[.int .i64 a, .int .i64 1] w fun e w' => ∃ v, e = .returned v ∧ OwnTrms w' w.heap.size v [onT a] ∧ Below w.heap.size w w' := by
  rcases ha with rfl | rfl | rfl
  all_goals
    go_enter Try.func167, Try.ntmps167
    go_wp2_with fail
    go_ret
    refine ⟨_, rfl, ownT_one _ (by omega) ?_ ?_ ?_ _, ?_⟩
    · simp
    · simp [onT, TAt, go_sem]
    · intro i hi
      exact World.frozen?_alloc_at _ _ _ i (by simp)
    · repeat (first | exact Below.refl _ _ | (refine Below.setCell ?_ (by first | omega | (simp; done) | (simp; omega)) _) | (refine Below.alloc ?_ (by first | omega | (simp; done) | (simp; omega)) _))
set_option maxRecDepth 100000 in
set_option maxHeartbeats 4000000 in
theorem sOne (w : World) :
    Calls Try.prog 169 #[] w fun e w' => ∃ v, e = .returned v ∧ OwnTrms w' w.heap.size v [⟨0, 0, 0, 1⟩] ∧ Below w.heap.size w w' := by
  go_enter Try.func169, Try.ntmps169
  go_wp2_with fail
  go_ret
  refine ⟨_, rfl, ownT_one _ (by omega) ?_ ?_ ?_ _, ?_⟩
  · simp
  · simp [TAt, go_sem]
  · intro i hi
    exact World.frozen?_alloc_at _ _ _ i (by simp)
  · repeat (first | exact Below.refl _ _ | (refine Below.alloc ?_ (by first | omega | (simp; done) | (simp; omega)) _))
theorem scl_cn {p a : Int} (ha : 0 ≤ a ∧ a < p) : sclL p a [⟨0, 0, 0, 1⟩] = cnL a := by
  unfold sclL cnL
  split
  · rfl
  · show [sclT p a ⟨0, 0, 0, 1⟩] = _
    unfold sclT
    simp only [Int.one_mul]
    rw [Int.emod_eq_of_lt ha.1 ha.2]
theorem one_valid (p : Int) (hp : isP p = true) : validB p [⟨0, 0, 0, 1⟩] = true := by
  have hb := isP_bd hp
  refine validB_of (List.pairwise_singleton ..) (fun y hy => ?_) (fun y hy => ?_) (by simp)
  · have e : y = ⟨0, 0, 0, 1⟩ := by simpa using hy
    subst e
    show (1 : Int) ≤ 1 ∧ (1 : Int) < p
    omega
  · have e : y = ⟨0, 0, 0, 1⟩ := by simpa using hy
    subst e
    rfl
/-- a list of terms lies apart from a block -/
def FarT (u : Value) (X : Option Nat) : Prop := ∀ g off n c, u = .slice (some ⟨g, off, none⟩) n c → n ≠ 0 → some g ≠ X
theorem ownT_grown {w w' : World} {B : Nat} {u : Value} {L : List Trm} {X : Option Nat} (h : OwnTrms w B u L) (hf : FarT u X) (hg : w.grownBy w' X) : OwnTrms w' B u L := by
  obtain ⟨h1, a, cap, rfl, h2⟩ := h
  refine ⟨h1, a, cap, rfl, ?_⟩
  rcases h2 with h2 | ⟨g, off, rfl, hb, hs, hc, hz⟩
  · exact .inl h2
  · by_cases hl : L.length = 0
    · exact .inl (List.length_eq_zero_iff.1 hl)
    · have hne := hf g off L.length cap rfl hl
      refine .inr ⟨g, off, rfl, hb, Nat.lt_of_lt_of_le hs hg.size, fun j hj => ?_, fun i hi => by rw [hg.frozen_far ⟨g, off + i, none⟩ hs hne]; exact hz i hi⟩
      obtain ⟨t0, t1, t2, t3⟩ := hc j hj
      exact ⟨by rw [hg.cell_far ⟨g, _, none⟩ hs hne]; exact t0, by rw [hg.cell_far ⟨g, _, none⟩ hs hne]; exact t1, by rw [hg.cell_far ⟨g, _, none⟩ hs hne]; exact t2, by rw [hg.cell_far ⟨g, _, none⟩ hs hne]; exact t3⟩
theorem farT_new {w : World} {B : Nat} {u : Value} {L : List Trm} (h : OwnTrms w B u L) {b : Nat} (hb : b < B) : FarT u (some b) := by
  obtain ⟨_, a, cap, rfl, h2⟩ := h
  intro g off n c e hn he
  injection e with e1 e2 e3
  injection he with he
  rcases h2 with h2 | ⟨g', off', e4, hb', _⟩
  · rw [h2] at e2; simp at e2; omega
  · rw [e4] at e1; injection e1 with e1; injection e1 with e1 _; omega
theorem farT_next {w : World} {B : Nat} {u : Value} {L : List Trm} (h : OwnTrms w B u L) {X : Option Nat} (hf : FarT u X) {g : Nat} (hat : X = some g ∨ g = w.heap.size) : FarT u (some g) := by
  rcases hat with hat | hat
  · rw [← hat]; exact hf
  · obtain ⟨_, a, cap, rfl, h2⟩ := h
    intro g1 off n c e hn he
    injection e with e1 e2 e3
    injection he with he
    rcases h2 with h2 | ⟨g', off', e4, _, hs, _⟩
    · rw [h2] at e2; simp at e2; omega
    · rw [e4] at e1; injection e1 with e1; injection e1 with e1 _; omega
/-- what the model's rounds keep: the polynomials of the gates so far -/
structure PmW (p : Int) (L : List Gt) (w0 : World) (UB k : Nat) (v : Value) (F : Nat → Value) (wr : World) : Prop where
  row : wr.ownsRow w0.heap.size 24 1 v k ((List.range k).map F)
  sl : ∃ g c, v = .slice (some ⟨g, 0, none⟩) k c ∧ g < wr.heap.size ∧ g ≠ UB
  pol : ∀ j, j < k → useF L j = true → OwnTrms wr w0.heap.size (F j) (pcP p L j) ∧ FarT (F j) v.ownBlock
  low : Below w0.heap.size w0 wr
  arr : ArrB wr UB (useF L)
theorem PmW.on {p : Int} {L : List Gt} {w0 : World} {UB k : Nat} {v : Value} {F : Nat → Value} {wr w1 : World} (h : PmW p L w0 UB k v F wr) (hb : Below wr.heap.size wr w1) : PmW p L w0 UB k v F w1 := by
  obtain ⟨g, c, e, hg, hne⟩ := h.sl
  exact ⟨World.ownsRow.kept (row := none) h.row ⟨hb.os, hb.tape, hb.output, hb.size, fun k hk _ => hb.block k hk⟩ (by cases v.ownBlock <;> simp), ⟨g, c, e, Nat.lt_of_lt_of_le hg hb.size, hne⟩,
    fun j hj hu => ⟨(h.pol j hj hu).1.below hb, (h.pol j hj hu).2⟩, h.low.trans (hb.mono h.low.size), h.arr.below hb h.arr.1⟩
theorem PmW.app {p : Int} {L : List Gt} {w0 : World} {UB k : Nat} {v f : Value} {F : Nat → Value} {wr w' : World} {g c : Nat} (h : PmW p L w0 UB k v F wr) (hf : useF L k = true → OwnTrms wr w0.heap.size f (pcP p L k) ∧ FarT f v.ownBlock)
    (hown : w'.ownsRow w0.heap.size 24 1 (.slice (some ⟨g, 0, none⟩) (k + 1) c) (k + 1) ((List.range k).map F ++ [f])) (hg : wr.grownBy w' v.ownBlock) (hat : v.ownBlock = some g ∨ g = wr.heap.size) (hlt : g < w'.heap.size) :
    PmW p L w0 UB (k + 1) (.slice (some ⟨g, 0, none⟩) (k + 1) c) (fun j => if j = k then f else F j) w' := by
  obtain ⟨g0, c0, rfl, hg0, hne⟩ := h.sl
  have hUB := h.arr.1
  have hgU : g ≠ UB := by
    rcases hat with hat | hat
    · have : g0 = g := by simpa [Value.ownBlock] using hat
      omega
    · omega
  have hXU : some UB ≠ Value.ownBlock (.slice (some ⟨g0, 0, none⟩) k c0) := by
    intro e
    have : UB = g0 := by simpa [Value.ownBlock] using e
    omega
  have hR : (List.range (k + 1)).map (fun j => if j = k then f else F j) = (List.range k).map F ++ [f] := by
    rw [List.range_succ, List.map_append, List.map_singleton, if_pos rfl]
    congr 1
    refine List.map_congr_left fun j hj => ?_
    have := List.mem_range.1 hj
    rw [if_neg (by omega)]
  refine ⟨by rw [hR]; exact hown, ⟨g, c, rfl, hlt, hgU⟩, fun j hj hu => ?_, ?_, ?_⟩
  · have key : ∀ {u : Value} {M : List Trm}, OwnTrms wr w0.heap.size u M → FarT u (Value.ownBlock (.slice (some ⟨g0, 0, none⟩) k c0)) → OwnTrms w' w0.heap.size u M ∧ FarT u (some g) := fun h1 h2 => ⟨ownT_grown h1 h2 hg, farT_next h1 h2 hat⟩
    by_cases e : j = k
    · subst e
      rw [if_pos rfl]
      exact key (hf hu).1 (hf hu).2
    · rw [if_neg e]
      obtain ⟨h1, h2⟩ := h.pol j (by omega) hu
      exact key h1 h2
  · have hs := h.low.size
    exact h.low.trans ⟨hg.os, hg.tape, hg.output, hg.size, fun i hi => hg.block i (by omega) (fun e => by have := (World.ownsRow.lt h.row i e.symm).1; omega)⟩
  · exact ⟨Nat.lt_of_lt_of_le hUB hg.size, fun j hj => ⟨by rw [hg.cell_far ⟨UB, j, none⟩ hUB hXU]; exact (h.arr.2 j hj).1, by rw [hg.frozen_far ⟨UB, j, none⟩ hUB hXU]; exact (h.arr.2 j hj).2⟩⟩
theorem PmW.cell {p : Int} {L : List Gt} {w0 : World} {UB k g c j : Nat} {F : Nat → Value} {wr : World} (h : PmW p L w0 UB k (.slice (some ⟨g, 0, none⟩) k c) F wr) (hj : j < k) : wr.cell? ⟨g, j, none⟩ = some (F j) := by
  rw [World.ownsRow.cellAt h.row j (by omega)]
  simp [hj]
theorem keep1 {w w1 : World} {n i : Nat} {u : Value} (hb : Below w.heap.size w w1) (hn : n < w.heap.size) (h : w.cell? ⟨n, i, none⟩ = some u) : w1.cell? ⟨n, i, none⟩ = some u := by rw [hb.cell (p := ⟨n, i, none⟩) hn]; exact h
set_option maxRecDepth 100000 in
set_option maxHeartbeats 4000000 in
theorem sPoC_no (p : Int) (f : Value) (L : List Gt) (w : World) (h : Gats w f L) (hv : circB p L = false) :
    Calls Try.prog 143 #[.int .i64 p, f] w (GivesPB [] false w) := by
  have HCV := Lib.hid (sCircuitValid p f L w h)
  rw [hv] at HCV
  obtain ⟨_, a, cap, rfl, _⟩ := h
  clear hv
  go_enter Try.func143, Try.ntmps143
  go_wp2_with fail
  refine HCV.out.mono ?_
  rintro e w1 ⟨rfl, hb1⟩
  have HB := Lib.hid hb1
  clear hb1
  go_wp2_with fail
  refine bodyPost_ret (results_tmp2 rfl _ _ _) rfl ?_
  exact ⟨_, rfl, (Row.lit0 w1 w.heap.size HB.out.size).own (by simp), Below.alloc HB.out HB.out.size _⟩
set_option maxRecDepth 100000 in
set_option maxHeartbeats 8000000 in
theorem sPoC_yes (p : Int) (f : Value) (L : List Gt) (w : World) (h : Gats w f L) (hv : circB p L = true) (R : List Trm) (b : Bool) (hR : R = pcV p L) (hb : b = pcOk p L) :
    Calls Try.prog 143 #[.int .i64 p, f] w (GivesPB R b w) := by
  obtain ⟨i0, hi, hz0, hz1, hz2⟩ := info_parts infoPoly
  have HCV := Lib.hid (sCircuitValid p f L w h)
  rw [hv] at HCV
  obtain ⟨g, off, cap, rfl, hg, hc⟩ := gats_u h hv
  obtain ⟨hp, hl1, hl2, hall⟩ := circB_iff.1 hv
  have HV := Lib.hid hv
  have HC := Lib.hid hc
  have HP := Lib.hid hp
  have HALL := Lib.hid hall
  have HRR := Lib.hid hR
  have HBB := Lib.hid hb
  clear hall hv hc h hp hR hb
  go_enter Try.func143, Try.ntmps143
  go_wp2_with fail
  refine HCV.out.mono ?_
  rintro e w1 ⟨rfl, hb1⟩
  have hg1 : g < w1.heap.size := by have := hb1.size; omega
  have HC1 := Lib.hid (fun (j : Nat) (hj : j < L.length) => (HC.out j hj).below hb1 hg)
  have B1 := Lib.hid hb1
  clear hb1
  go_wp2_with fail
  refine (sUsed_some p L HV.out g off cap w1 hg1 HC1.out).mono ?_
  rintro e w2 ⟨V, rfl, hV, hb2⟩
  have B2 := B1.out.trans (hb2.mono B1.out.size)
  have hs2 := B2.size
  have HV2 := Lib.hid (show V = .agg (useC (useF L)).toArray from hV)
  have A0 := ArrB.new w2 157
  have hlen := useC_len (useF L)
  have h1 := all_oneCell_toArray (useC_one (useF L))
  have hT2 : (w2.alloc (.cells (Array.replicate 60 (.bool false)) 157)).there w2.heap.size 0 (useC (useF L)).toArray.size := by simp only [List.size_toArray, hlen]; exact A0.there
  have hI2 : (Try.prog.info? 157).map (·.size) = some (useC (useF L)).toArray.size := by simp only [List.size_toArray, hlen]; exact infoB
  have A2 := Lib.hid (arrB_cells A0 (useF L))
  have B3 := Lib.hid (show Below w.heap.size w ((w2.alloc (.cells (Array.replicate 60 (.bool false)) 157)).setCells w2.heap.size 0 (useC (useF L))) from below_setCells _ _ _ _ (Below.alloc B2 hs2 _) hs2)
  clear hb2 hV B2 A0
  go_wp2_with (refine wpList_store_mid rfl 157 _ _ rfl w2.heap.size 0 (useC (useF L)).toArray rfl HV2.out hT2 hI2 h1 ?_)
  obtain ⟨W3, hW3⟩ : ∃ W3, W3 = (w2.alloc (.cells #[.bool false, .bool false, .bool false, .bool false, .bool false, .bool false, .bool false, .bool false, .bool false, .bool false, .bool false, .bool false, .bool false, .bool false, .bool false, .bool false, .bool false, .bool false, .bool false, .bool false, .bool false, .bool false, .bool false, .bool false, .bool false, .bool false, .bool false, .bool false, .bool false, .bool false, .bool false, .bool false, .bool false, .bool false, .bool false, .bool false, .bool false, .bool false, .bool false, .bool false, .bool false, .bool false, .bool false, .bool false, .bool false, .bool false, .bool false, .bool false, .bool false, .bool false, .bool false, .bool false, .bool false, .bool false, .bool false, .bool false, .bool false, .bool false, .bool false, .bool false] 157)).setCells w2.heap.size 0 (useC (useF L)) := ⟨_, rfl⟩
  have HA3 := Lib.hid (show ArrB W3 w2.heap.size (useF L) ∧ Below w.heap.size w W3 by rw [hW3]; exact ⟨A2.out, B3.out⟩)
  rw [← hW3]
  obtain ⟨UB, hUB⟩ : ∃ g, g = w2.heap.size := ⟨_, rfl⟩
  rw [← hUB] at HA3 ⊢
  have H0 := Lib.hid (show PmW p L w UB 0 (.slice (some ⟨W3.heap.size, 0, none⟩) 0 0) (fun _ => undef) (W3.alloc (.cells #[] 24)) from
    ⟨World.ownsRow_lit (size := 1) W3 #[] 0 HA3.out.2.size (by unfold maxLen; omega) rfl, ⟨_, _, rfl, by simp, by have := HA3.out.1.1; omega⟩, fun j hj => by omega, Below.alloc HA3.out.2 HA3.out.2.size _, HA3.out.1.below (Below.alloc (Below.refl _ _) (Nat.le_refl _) _) HA3.out.1.1⟩)
  clear A2 B3 hT2 hI2 h1 hlen hW3 hUB HA3 hs2 HV2
  go_loopw [7, 22] (fun v i wr => ∃ (k : Nat) (F : Nat → Value), k ≤ L.length ∧ i = .int .i64 k ∧ PmW p L w UB k v F wr ∧ ∀ j : Nat, j < k → useF L j = true → pcO p L j = true) (fun _ i _ => L.length - (intOf i).toNat)
  case atStart => exact ⟨0, _, by omega, rfl, H0.out, fun j hj => by omega⟩
  case round =>
    clear H0
    obtain ⟨k, F, hk, rfl, hS, hok⟩ := hrel
    have HOK := Lib.hid hok
    clear hok
    obtain ⟨g5, c5, rfl, hg5, hne5⟩ := hS.sl
    have HS := Lib.hid hS
    have hwr := hS.low.size
    by_cases hlt : k < L.length
    · have hltp : (k : Int) < (L.length : Int) := by omega
      have hk0 : (0 : Int) ≤ (k : Int) := by omega
      have hk60 : (k : Int) < 60 := by omega
      obtain ⟨a0, a1, a2⟩ := (HC.out k hlt).below hS.low hg
      obtain ⟨x, hx⟩ : ∃ x, x = L.getD k default := ⟨_, rfl⟩
      rw [← hx] at a0 a1 a2
      have HX := Lib.hid (show gAt L k = x from hx.symm)
      obtain ⟨q0, _⟩ := hS.arr.2 k (by omega)
      have hUs := hS.arr.1
      have HCS := gOK_cases (HALL.out k hlt)
      obtain ⟨xk, xa, xb⟩ := x
      simp only at a0 a1 a2 HX
      rw [HX.out] at HCS
      obtain ⟨W, hW⟩ : ∃ W, W = (wr.alloc (Obj.cells #[.int .i64 xk, .int .i64 xa, .int .i64 xb] 137)).alloc (.cells #[] 87) := ⟨_, rfl⟩
      have HbW := Lib.hid (show Below wr.heap.size wr W by rw [hW]; exact (by repeat (first | exact Below.refl _ _ | apply Below.drew | apply below_drewN | (refine Below.alloc ?_ (by first | omega | (simp <;> omega)) _))))
      have HSW := Lib.hid (HS.out.on HbW.out)
      have HT0 := Lib.hid (show W.cell? ⟨wr.heap.size, 0, none⟩ = some (.int .i64 xk) ∧ W.cell? ⟨wr.heap.size, 1, none⟩ = some (.int .i64 xa) ∧ W.cell? ⟨wr.heap.size, 2, none⟩ = some (.int .i64 xb) by rw [hW]; refine ⟨?_, ?_, ?_⟩ <;> simp [go_sem])
      have HSZ := Lib.hid (show wr.heap.size < W.heap.size ∧ g5 < W.heap.size by rw [hW]; refine ⟨?_, ?_⟩ <;> simp <;> omega)
      have HW := Lib.hid hW
      clear hW hx hS
      rcases Bool.eq_false_or_eq_true (useF L k) with hu | hu
      · rw [hu] at q0
        have HU := Lib.hid hu
        clear hu
        rcases HCS with ⟨hk0', h0, h1, h2⟩ | ⟨hk0', h0, h1, h2⟩ | ⟨hk0', h0, h1, h2, h3⟩
        · simp only at hk0' h0 h1
          subst hk0'
          have HP1 := Lib.hid (sPower1 xa (by omega))
          have HO := Lib.hid (fun (_ : useF L k = true) => (pcP_in (p := p) (L := L) (j := k) (by rw [HX.out])).2)
          have HE := Lib.hid (pcP_in (p := p) (L := L) (j := k) (by rw [HX.out])).1
          clear h0 h1 h2
          go_wp2_with fail
          rw [← HW.out]
          refine (HP1.out _).mono ?_
          rintro e wA ⟨u, rfl, ho4, hb4⟩
          have HA := Lib.hid (HSW.out.on hb4)
          have HF := Lib.hid (fun (_ : useF L k = true) => show OwnTrms wA w.heap.size u (pcP p L k) ∧ FarT u (some g5) by
            rw [HE.out, HX.out]
            exact ⟨ownT_low ho4 HSW.out.low.size, farT_new ho4 HSZ.out.2⟩)
          obtain ⟨_, af, kf, rfl, _⟩ := ho4
          obtain ⟨nf, hnf⟩ : ∃ nf, nf = [onT xa].length := ⟨_, rfl⟩
          rw [← hnf] at HF ⊢
          clear hb4 hnf a0 a1 a2 q0
          have HAA := Lib.hid (HA.out.on (Below.alloc (Below.refl _ _) (Nat.le_refl _) _ : Below wA.heap.size wA (wA.alloc (.cells #[.slice af nf kf] 24))))
          go_wp2_with (at_builtin; refine wpList_append_lies _ rfl _ _ 138 rfl w.heap.size 24 i0 (.slice none 0 0) 1 24 Try.underlying138 hi hz0 hz1 hz2 rfl (by decide) _ _ _ rfl HAA.out.row ⟨wA.heap.size, 0, none⟩ 1 1 [.slice af nf kf] rfl rfl (by intro j u hj; match j, hj with | 0, hj => (simp at hj; subst hj; simp [Addr.add, go_sem])) (by intro u hu; simp at hu; subst hu; rfl) (by omega) (by unfold maxLen; omega) (by omega) (by have := HAA.out.low.size; exact this) _ rfl ?_)
          intro g8 c8 w8 hown8 hgrow8 hat8 hlt8
          have H8 := Lib.hid (HAA.out.app (fun hu => ⟨(HF.out hu).1.below (Below.alloc (Below.refl _ _) (Nat.le_refl _) _), (HF.out hu).2⟩) hown8 hgrow8 (by simpa using hat8) hlt8)
          clear hown8 hgrow8 hat8 hlt8 HAA
          go_wp2_with fail
          go_roundw
          case rel => exact ⟨k + 1, _, by omega, by go_num, H8.out, fun j hj hu => by by_cases e : j = k; (· subst e; exact HO.out hu); (· exact HOK.out j (by omega) hu)⟩
          case measure => simp [intOf]; omega
        · simp only at hk0' h0 h1
          subst hk0'
          have hpb := isP_bd HP.out
          have HSC := Lib.hid (fun f w' (h : Trms w' f [⟨0, 0, 0, 1⟩]) => show Calls Try.prog 168 #[.int .i64 p, f, .int .i64 xa] w' (GivesTrmsS (cnL xa) w') by
            rw [← scl_cn (p := p) (a := xa) (by omega)]
            exact sScaled p f _ xa w' HP.out (one_valid p HP.out) (isE_iff.2 (by omega)) h)
          have HO := Lib.hid (fun (_ : useF L k = true) => (pcP_cn (p := p) (L := L) (j := k) (by rw [HX.out])).2)
          have HE := Lib.hid (pcP_cn (p := p) (L := L) (j := k) (by rw [HX.out])).1
          clear h0 h1 h2 hpb
          go_wp2_with fail
          rw [← HW.out]
          obtain ⟨d0, d1, d2⟩ := HT0.out
          clear a0 a1 a2 q0
          go_region_held3 (fun w' => w'.cell? ⟨wr.heap.size, 1, none⟩ = some (.int .i64 xa)) (first | exact keep1 hb1 (by simpa using HSZ.out.1) (by assumption) | exact keep1 hb2 (by have := hb1.size; simp at this; have := HSZ.out.1; omega) (by assumption) | go_keep)
            (first | (go_at_call 169; refine (sOne _).mono ?_; rintro e w1 ⟨u1, rfl, ho1, hb1⟩) | (go_at_call 168; refine (HSC.out _ _ ho1.trms).mono ?_; rintro e wA ⟨u, rfl, ho4, hb2⟩))
          all_goals
            have hs1 := hb1.size
            simp at hs1
            have HA := Lib.hid (HSW.out.on (((Below.drew (Below.refl _ _) : Below W.heap.size W W.drew).trans (by simpa using hb1)).trans (hb2.mono hs1)))
            have HF := Lib.hid (fun (_ : useF L k = true) => show OwnTrms wA w.heap.size u (pcP p L k) ∧ FarT u (some g5) by
              rw [HE.out, HX.out]
              exact ⟨ownT_low ho4 (by have := HSW.out.low.size; omega), farT_new ho4 (by have := HSZ.out.2; omega)⟩)
            obtain ⟨_, af, kf, rfl, _⟩ := ho4
            obtain ⟨nf, hnf⟩ : ∃ nf, nf = (cnL xa).length := ⟨_, rfl⟩
            rw [← hnf] at HF ⊢
            clear hb1 hb2 hnf hs1 ho1 d0 d1 d2
            have HAA := Lib.hid (HA.out.on (Below.alloc (Below.refl _ _) (Nat.le_refl _) _ : Below wA.heap.size wA (wA.alloc (.cells #[.slice af nf kf] 24))))
            go_wp2_with (at_builtin; refine wpList_append_lies _ rfl _ _ 138 rfl w.heap.size 24 i0 (.slice none 0 0) 1 24 Try.underlying138 hi hz0 hz1 hz2 rfl (by decide) _ _ _ rfl HAA.out.row ⟨wA.heap.size, 0, none⟩ 1 1 [.slice af nf kf] rfl rfl (by intro j u hj; match j, hj with | 0, hj => (simp at hj; subst hj; simp [Addr.add, go_sem])) (by intro u hu; simp at hu; subst hu; rfl) (by omega) (by unfold maxLen; omega) (by omega) (by have := HAA.out.low.size; exact this) _ rfl ?_)
            intro g8 c8 w8 hown8 hgrow8 hat8 hlt8
            have H8 := Lib.hid (HAA.out.app (fun hu => ⟨(HF.out hu).1.below (Below.alloc (Below.refl _ _) (Nat.le_refl _) _), (HF.out hu).2⟩) hown8 hgrow8 (by simpa using hat8) hlt8)
            clear hown8 hgrow8 hat8 hlt8 HAA
            go_wp2_with fail
            go_roundw
            case rel => exact ⟨k + 1, _, by omega, by go_num, H8.out, fun j hj hu => by by_cases e : j = k; (· subst e; exact HO.out hu); (· exact HOK.out j (by omega) hu)⟩
            case measure => simp [intOf]; omega
        · simp only at hk0' h0 h1 h2 h3
          obtain ⟨ja, rfl⟩ := Int.eq_ofNat_of_zero_le h0
          obtain ⟨jb, rfl⟩ := Int.eq_ofNat_of_zero_le h2
          have hja : ja < k := by omega
          have hjb : jb < k := by omega
          have hjoin : joinsB (gAt L k) = true := by rw [HX.out]; simpa [joinsB] using hk0'
          obtain ⟨u1, u2⟩ := use_closed HV.out hlt HU.out hjoin
          rw [HX.out] at u1 u2
          simp only [Int.toNat_natCast] at u1 u2
          obtain ⟨p1, _⟩ := HSW.out.pol ja hja u1
          obtain ⟨p2, _⟩ := HSW.out.pol jb hjb u2
          have c1 := HSW.out.cell hja
          have c2 := HSW.out.cell hjb
          have HAD := Lib.hid (fun w' (hb : Below W.heap.size W w') => sAddPoly p _ _ _ _ w' (p1.trms.below hb) (p2.trms.below hb))
          have HMU := Lib.hid (fun w' (hb : Below W.heap.size W w') => sMulPoly p _ _ _ _ w' (p1.trms.below hb) (p2.trms.below hb))
          obtain ⟨_, e1, k1, he1, _⟩ := p1
          obtain ⟨_, e2, k2, he2, _⟩ := p2
          rw [he1] at c1 HAD HMU
          rw [he2] at c2 HAD HMU
          have ja0 : (0 : Int) ≤ ja := by omega
          have jb0 : (0 : Int) ≤ jb := by omega
          have jan : (ja : Int) < (k : Int) := by omega
          have jbn : (jb : Int) < (k : Int) := by omega
          clear h0 h1 h2 h3 hjoin u1 u2 he1 he2
          rcases hk0' with rfl | rfl
          · obtain ⟨hE, hO⟩ := pcP_sum HV.out hlt (by rw [HX.out])
            rw [HX.out] at hE hO
            simp only [Int.toNat_natCast] at hE hO
            rw [← hE, ← hO] at HAD
            clear hE hO HMU
            rcases Bool.eq_false_or_eq_true (pcO p L k) with ho | ho
            · rw [ho] at HAD
              have HO := Lib.hid (fun (_ : useF L k = true) => ho)
              clear ho
              go_wp2_with fail
              rw [← HW.out]
              obtain ⟨d0, d1, d2⟩ := HT0.out
              clear a0 a1 a2 q0
              go_region_held3 (fun w' => w'.cell? ⟨wr.heap.size, 1, none⟩ = some (.int .i64 ja) ∧ w'.cell? ⟨wr.heap.size, 2, none⟩ = some (.int .i64 jb) ∧ w'.cell? ⟨g5, ja, none⟩ = some (.slice e1 (pcP p L ja).length k1) ∧ w'.cell? ⟨g5, jb, none⟩ = some (.slice e2 (pcP p L jb).length k2)) (first | exact keepPl hb1 (by simpa using HSZ.out.1) (by simpa using HSZ.out.2) (by assumption) | go_keep)
                (first | (go_at_call 166; refine (HAD.out _ (Below.drew (Below.refl _ _))).mono ?_; rintro e wA ⟨u, rfl, ho4, hb1⟩))
              all_goals
                have hs1 := hb1.size
                simp at hs1
                have HA := Lib.hid (HSW.out.on ((Below.drew (Below.refl _ _) : Below W.heap.size W W.drew).trans (by simpa using hb1)))
                have HF := Lib.hid (fun (_ : useF L k = true) => show OwnTrms wA w.heap.size u (pcP p L k) ∧ FarT u (some g5) from
                  ⟨ownT_low ho4 (by have := HSW.out.low.size; simp; omega), farT_new ho4 (by have := HSZ.out.2; simp; omega)⟩)
                obtain ⟨_, af, kf, rfl, _⟩ := ho4
                obtain ⟨nf, hnf⟩ : ∃ nf, nf = (pcP p L k).length := ⟨_, rfl⟩
                rw [← hnf] at HF ⊢
                clear hb1 hnf hs1 d0 d1 d2 c1 c2
                have HAA := Lib.hid (HA.out.on (Below.alloc (Below.refl _ _) (Nat.le_refl _) _ : Below wA.heap.size wA (wA.alloc (.cells #[.slice af nf kf] 24))))
                go_wp2_with (at_builtin; refine wpList_append_lies _ rfl _ _ 138 rfl w.heap.size 24 i0 (.slice none 0 0) 1 24 Try.underlying138 hi hz0 hz1 hz2 rfl (by decide) _ _ _ rfl HAA.out.row ⟨wA.heap.size, 0, none⟩ 1 1 [.slice af nf kf] rfl rfl (by intro j u hj; match j, hj with | 0, hj => (simp at hj; subst hj; simp [Addr.add, go_sem])) (by intro u hu; simp at hu; subst hu; rfl) (by omega) (by unfold maxLen; omega) (by omega) (by have := HAA.out.low.size; exact this) _ rfl ?_)
                intro g8 c8 w8 hown8 hgrow8 hat8 hlt8
                have H8 := Lib.hid (HAA.out.app (fun hu => ⟨(HF.out hu).1.below (Below.alloc (Below.refl _ _) (Nat.le_refl _) _), (HF.out hu).2⟩) hown8 hgrow8 (by simpa using hat8) hlt8)
                clear hown8 hgrow8 hat8 hlt8 HAA
                go_wp2_with fail
                go_roundw
                case rel => exact ⟨k + 1, _, by omega, by go_num, H8.out, fun j hj hu => by by_cases e : j = k; (· subst e; exact HO.out hu); (· exact HOK.out j (by omega) hu)⟩
                case measure => simp [intOf]; omega
            · rw [ho] at HAD
              have HE := Lib.hid (pc_bad hlt HU.out ho)
              have hz : b = false := by rw [HBB.out, HE.out]
              have hz2 : R = [] := by rw [HRR.out]; unfold pcV; rw [HE.out]; rfl
              subst hz hz2
              clear ho
              go_wp2_with fail
              rw [← HW.out]
              obtain ⟨d0, d1, d2⟩ := HT0.out
              clear a0 a1 a2 q0
              go_region_held3 (fun w' => w'.cell? ⟨wr.heap.size, 1, none⟩ = some (.int .i64 ja) ∧ w'.cell? ⟨wr.heap.size, 2, none⟩ = some (.int .i64 jb) ∧ w'.cell? ⟨g5, ja, none⟩ = some (.slice e1 (pcP p L ja).length k1) ∧ w'.cell? ⟨g5, jb, none⟩ = some (.slice e2 (pcP p L jb).length k2)) (first | exact keepPl hb1 (by simpa using HSZ.out.1) (by simpa using HSZ.out.2) (by assumption) | go_keep)
                (first | (go_at_call 166; refine (HAD.out _ (Below.drew (Below.refl _ _))).mono ?_; rintro e wA ⟨u, rfl, ho4, hb1⟩))
              all_goals
                have HQ := Lib.hid (HSW.out.low.trans (((Below.drew (Below.refl _ _) : Below W.heap.size W W.drew).trans (by simpa using hb1)).mono HSW.out.low.size))
                obtain ⟨_, af, kf, rfl, _⟩ := ho4
                clear hb1 d0 d1 d2 c1 c2
                go_wp2_with fail
                refine bodyPost_ret (results_tmp2 rfl _ _ _) rfl ?_
                exact ⟨_, rfl, (Row.lit0 wA w.heap.size HQ.out.size).own (by simp), Below.alloc HQ.out HQ.out.size _⟩
          · obtain ⟨hE, hO⟩ := pcP_mul HV.out hlt (by rw [HX.out])
            rw [HX.out] at hE hO
            simp only [Int.toNat_natCast] at hE hO
            rw [← hE, ← hO] at HMU
            clear hE hO HAD
            rcases Bool.eq_false_or_eq_true (pcO p L k) with ho | ho
            · rw [ho] at HMU
              have HO := Lib.hid (fun (_ : useF L k = true) => ho)
              clear ho
              go_wp2_with fail
              rw [← HW.out]
              obtain ⟨d0, d1, d2⟩ := HT0.out
              clear a0 a1 a2 q0
              go_region_held3 (fun w' => w'.cell? ⟨wr.heap.size, 1, none⟩ = some (.int .i64 ja) ∧ w'.cell? ⟨wr.heap.size, 2, none⟩ = some (.int .i64 jb) ∧ w'.cell? ⟨g5, ja, none⟩ = some (.slice e1 (pcP p L ja).length k1) ∧ w'.cell? ⟨g5, jb, none⟩ = some (.slice e2 (pcP p L jb).length k2)) (first | exact keepPl hb1 (by simpa using HSZ.out.1) (by simpa using HSZ.out.2) (by assumption) | go_keep)
                (first | (go_at_call 214; refine (HMU.out _ (Below.drew (Below.refl _ _))).mono ?_; rintro e wA ⟨u, rfl, ho4, hb1⟩))
              all_goals
                have hs1 := hb1.size
                simp at hs1
                have HA := Lib.hid (HSW.out.on ((Below.drew (Below.refl _ _) : Below W.heap.size W W.drew).trans (by simpa using hb1)))
                have HF := Lib.hid (fun (_ : useF L k = true) => show OwnTrms wA w.heap.size u (pcP p L k) ∧ FarT u (some g5) from
                  ⟨ownT_low ho4 (by have := HSW.out.low.size; simp; omega), farT_new ho4 (by have := HSZ.out.2; simp; omega)⟩)
                obtain ⟨_, af, kf, rfl, _⟩ := ho4
                obtain ⟨nf, hnf⟩ : ∃ nf, nf = (pcP p L k).length := ⟨_, rfl⟩
                rw [← hnf] at HF ⊢
                clear hb1 hnf hs1 d0 d1 d2 c1 c2
                have HAA := Lib.hid (HA.out.on (Below.alloc (Below.refl _ _) (Nat.le_refl _) _ : Below wA.heap.size wA (wA.alloc (.cells #[.slice af nf kf] 24))))
                go_wp2_with (at_builtin; refine wpList_append_lies _ rfl _ _ 138 rfl w.heap.size 24 i0 (.slice none 0 0) 1 24 Try.underlying138 hi hz0 hz1 hz2 rfl (by decide) _ _ _ rfl HAA.out.row ⟨wA.heap.size, 0, none⟩ 1 1 [.slice af nf kf] rfl rfl (by intro j u hj; match j, hj with | 0, hj => (simp at hj; subst hj; simp [Addr.add, go_sem])) (by intro u hu; simp at hu; subst hu; rfl) (by omega) (by unfold maxLen; omega) (by omega) (by have := HAA.out.low.size; exact this) _ rfl ?_)
                intro g8 c8 w8 hown8 hgrow8 hat8 hlt8
                have H8 := Lib.hid (HAA.out.app (fun hu => ⟨(HF.out hu).1.below (Below.alloc (Below.refl _ _) (Nat.le_refl _) _), (HF.out hu).2⟩) hown8 hgrow8 (by simpa using hat8) hlt8)
                clear hown8 hgrow8 hat8 hlt8 HAA
                go_wp2_with fail
                go_roundw
                case rel => exact ⟨k + 1, _, by omega, by go_num, H8.out, fun j hj hu => by by_cases e : j = k; (· subst e; exact HO.out hu); (· exact HOK.out j (by omega) hu)⟩
                case measure => simp [intOf]; omega
            · rw [ho] at HMU
              have HE := Lib.hid (pc_bad hlt HU.out ho)
              have hz : b = false := by rw [HBB.out, HE.out]
              have hz2 : R = [] := by rw [HRR.out]; unfold pcV; rw [HE.out]; rfl
              subst hz hz2
              clear ho
              go_wp2_with fail
              rw [← HW.out]
              obtain ⟨d0, d1, d2⟩ := HT0.out
              clear a0 a1 a2 q0
              go_region_held3 (fun w' => w'.cell? ⟨wr.heap.size, 1, none⟩ = some (.int .i64 ja) ∧ w'.cell? ⟨wr.heap.size, 2, none⟩ = some (.int .i64 jb) ∧ w'.cell? ⟨g5, ja, none⟩ = some (.slice e1 (pcP p L ja).length k1) ∧ w'.cell? ⟨g5, jb, none⟩ = some (.slice e2 (pcP p L jb).length k2)) (first | exact keepPl hb1 (by simpa using HSZ.out.1) (by simpa using HSZ.out.2) (by assumption) | go_keep)
                (first | (go_at_call 214; refine (HMU.out _ (Below.drew (Below.refl _ _))).mono ?_; rintro e wA ⟨u, rfl, ho4, hb1⟩))
              all_goals
                have HQ := Lib.hid (HSW.out.low.trans (((Below.drew (Below.refl _ _) : Below W.heap.size W W.drew).trans (by simpa using hb1)).mono HSW.out.low.size))
                obtain ⟨_, af, kf, rfl, _⟩ := ho4
                clear hb1 d0 d1 d2 c1 c2
                go_wp2_with fail
                refine bodyPost_ret (results_tmp2 rfl _ _ _) rfl ?_
                exact ⟨_, rfl, (Row.lit0 wA w.heap.size HQ.out.size).own (by simp), Below.alloc HQ.out HQ.out.size _⟩
      · rw [hu] at q0
        have HA := Lib.hid HSW.out
        have HF := Lib.hid (fun (h : useF L k = true) => show OwnTrms W w.heap.size (.slice (some ⟨wr.heap.size + 1, 0, none⟩) 0 0) (pcP p L k) ∧ FarT (.slice (some ⟨wr.heap.size + 1, 0, none⟩) 0 0) (some g5) by rw [hu] at h; cases h)
        have HO := Lib.hid (fun (h : useF L k = true) => show pcO p L k = true by rw [hu] at h; cases h)
        clear hu
        go_upto_region 19 with fail
        rw [← HW.out]
        clear a0 a1 a2 q0
        have HAA := Lib.hid (HA.out.on (Below.alloc (Below.refl _ _) (Nat.le_refl _) _ : Below W.heap.size W (W.alloc (.cells #[.slice (some ⟨wr.heap.size + 1, 0, none⟩) 0 0] 24))))
        go_wp2_with (at_builtin; refine wpList_append_lies _ rfl _ _ 138 rfl w.heap.size 24 i0 (.slice none 0 0) 1 24 Try.underlying138 hi hz0 hz1 hz2 rfl (by decide) _ _ _ rfl HAA.out.row ⟨W.heap.size, 0, none⟩ 1 1 [.slice (some ⟨wr.heap.size + 1, 0, none⟩) 0 0] rfl rfl (by intro j u hj; match j, hj with | 0, hj => (simp at hj; subst hj; simp [Addr.add, go_sem])) (by intro u hu; simp at hu; subst hu; rfl) (by omega) (by unfold maxLen; omega) (by omega) (by have := HAA.out.low.size; exact this) _ rfl ?_)
        intro g8 c8 w8 hown8 hgrow8 hat8 hlt8
        have H8 := Lib.hid (HAA.out.app (fun hu => ⟨(HF.out hu).1.below (Below.alloc (Below.refl _ _) (Nat.le_refl _) _), (HF.out hu).2⟩) hown8 hgrow8 (by simpa using hat8) hlt8)
        clear hown8 hgrow8 hat8 hlt8 HAA
        go_wp2_with fail
        go_roundw
        case rel => exact ⟨k + 1, _, by omega, by go_num, H8.out, fun j hj hu => by by_cases e : j = k; (· subst e; exact HO.out hu); (· exact HOK.out j (by omega) hu)⟩
        case measure => simp [intOf]; omega
    · have hkl : k = L.length := by omega
      subst hkl
      obtain ⟨m, hm⟩ : ∃ m, L.length = m + 1 := ⟨L.length - 1, by omega⟩
      have hum : useF L m = true := by
        have := useF_last HV.out
        rwa [show L.length - 1 = m by omega] at this
      have hzz : pcOk p L = true := pc_good HV.out HOK.out
      have hz : b = true := by rw [HBB.out, hzz]
      have hz2 : R = pcP p L m := by rw [HRR.out]; unfold pcV; rw [hzz, if_pos rfl]; congr 1; omega
      subst hz hz2
      have c9 := HS.out.cell (j := m) (by omega)
      have HO9 := Lib.hid (HS.out.pol m (by omega) hum).1
      obtain ⟨_, a9, k9, he9, _⟩ := HO9.out
      rw [he9] at c9 HO9
      have hmm : IntKind.i64.wrap ((L.length : Int) - 1) = (m : Int) := by rw [IntWalk.i64_in _ (by omega)]; omega
      have hm0 : (0 : Int) ≤ (m : Int) := by omega
      have hmL : (m : Int) < (L.length : Int) := by omega
      have HQ := Lib.hid HS.out.low
      clear hS hzz he9 hum hm
      go_wp2_with fail
      refine bodyPost_ret (results_tmp2 rfl _ _ _) rfl ?_
      exact ⟨_, rfl, HO9.out, HQ.out⟩
theorem sPolyOfCircuit (p : Int) (f : Value) (L : List Gt) (w : World) (h : Gats w f L) :
    Calls Try.prog 143 #[.int .i64 p, f] w (GivesPB (pcV p L) (pcOk p L) w) := by
  cases hv : circB p L
  · rw [(pc_no hv).1, (pc_no hv).2]
    exact sPoC_no p f L w h hv
  · exact sPoC_yes p f L w h hv _ _ rfl rfl
end Go.Proofs.Ytlidplmpglpkgaa
namespace Go.Proofs.Ytlidplmpglpkgaa
open Go.RowKit
/-- an unknown plus an element -/
def gpL (v a : Int) : List Trm := onT v :: cnL a
theorem on_bef (v a : Int) : bef (onT v) ⟨0, 0, 0, a⟩ = true := by
  unfold onT
  rw [bef_iff]
  repeat' split
  all_goals simp
theorem on_val {p : Int} (hp : isP p = true) (v : Int) : validB p [onT v] = true := by
  have hb := isP_bd hp
  refine validB_of (List.pairwise_singleton _ _) (fun y hy => ?_) (fun y hy => ?_) (by simp)
  · have := List.mem_singleton.1 hy
    subst this
    unfold onT
    repeat' split
    all_goals exact ⟨by decide, by show (1 : Int) < p; omega⟩
  · have := List.mem_singleton.1 hy
    subst this
    unfold onT
    repeat' split
    all_goals rfl
theorem gp_val {p v a : Int} (hp : isP p = true) (ha : 0 ≤ a ∧ a < p) : validB p (gpL v a) = true := by
  unfold gpL cnL
  split
  · exact on_val hp v
  · have hb := isP_bd hp
    have h1 := on_val hp v
    refine validB_of (List.pairwise_cons.2 ⟨fun y hy => ?_, List.pairwise_singleton _ _⟩) (fun y hy => ?_) (fun y hy => ?_) (by simp)
    · have := List.mem_singleton.1 hy
      subst this
      exact on_bef v a
    · rcases List.mem_cons.1 hy with h | h
      · exact validB_els h1 y (by rw [h]; simp)
      · have := List.mem_singleton.1 h
        subst this
        exact ⟨by show 1 ≤ a; omega, ha.2⟩
    · rcases List.mem_cons.1 hy with h | h
      · subst h
        unfold onT
        repeat' split
        all_goals rfl
      · have := List.mem_singleton.1 h
        subst this
        rfl
theorem gp_add {p v a : Int} : addAll p (cnL a) [onT v] = gpL v a := by
  unfold gpL cnL
  split
  · rfl
  · rename_i h
    show addT p ⟨0, 0, 0, a⟩ [onT v] = _
    rw [addT_end (fun y hy => by have := List.mem_singleton.1 hy; subst this; exact on_bef v a) h]
    rfl
theorem cn_val {p a : Int} (ha : 0 ≤ a ∧ a < p) : validB p (cnL a) = true := by
  unfold cnL
  split
  · rfl
  · refine validB_of (List.pairwise_singleton ..) (fun y hy => ?_) (fun y hy => ?_) (by simp)
    · have e : y = ⟨0, 0, 0, a⟩ := by simpa using hy
      subst e
      show 1 ≤ a ∧ a < p
      omega
    · have e : y = ⟨0, 0, 0, a⟩ := by simpa using hy
      subst e
      rfl
theorem gp_sum {p v a : Int} (hp : isP p = true) (ha : 0 ≤ a ∧ a < p) : sumV p [onT v] (cnL a) = gpL v a ∧ addOk p [onT v] (cnL a) = true := by
  have e : addOk p [onT v] (cnL a) = true := by
    unfold addOk
    rw [hp, on_val hp, cn_val ha, gp_add, gp_val hp ha]
    rfl
  exact ⟨by unfold sumV; rw [if_pos e, gp_add], e⟩
theorem gp_make {p v a : Int} (hp : isP p = true) (ha : 0 ≤ a ∧ a < p) : makeV p [onT v, ⟨0, 0, 0, a⟩] = gpL v a ∧ makeOk p [onT v, ⟨0, 0, 0, a⟩] = true := by
  have hb := isP_bd hp
  have h1 : mkT p (onT v) = onT v := by
    have h1p : (1 : Int) % p = 1 := Int.emod_eq_of_lt (by omega) (by omega)
    unfold mkT onT
    repeat' split
    all_goals simp [h1p]
  have ht : ¬ (onT v).t = 0 := by
    unfold onT
    repeat' split
    all_goals simp
  have h2 : mkT p ⟨0, 0, 0, a⟩ = ⟨0, 0, 0, a⟩ := by
    unfold mkT
    rw [Int.emod_eq_of_lt ha.1 ha.2]
  have hm : mkK p [onT v, ⟨0, 0, 0, a⟩] 2 = gpL v a := by
    unfold mkK
    simp only [List.take_succ_cons, List.take_zero, List.map_cons, List.map_nil, h1, h2]
    show addT p ⟨0, 0, 0, a⟩ (addT p (onT v) []) = _
    rw [addT_nil ht, ← gp_add]
    unfold cnL
    split
    · rename_i h
      rw [h]
      exact addT_zero rfl
    · rfl
  have hw : pwB (onT v) = true := by
    unfold onT
    repeat' split
    all_goals rfl
  have hk : makeOk p [onT v, ⟨0, 0, 0, a⟩] = true := by
    unfold makeOk
    rw [hp, show ([onT v, ⟨0, 0, 0, a⟩] : List Trm).length = 2 from rfl, hm, gp_val hp ha]
    simp only [List.all_cons, hw]
    rfl
  exact ⟨by unfold makeV; rw [if_pos hk]; exact hm, hk⟩
/-- the elements by number -/
def byF (x y z : Int) (k : Nat) : Int := if k = 0 then x else if k = 1 then y else z
/-- the polynomial whose first k unknowns are greater, if there is one -/
def shK (p x y z : Int) (L : List Trm) : Nat → Option (List Trm)
  | 0 => some L
  | k + 1 => match shK p x y z L k with
    | none => none
    | some F => if putOk p F k (gpL k (byF x y z k)) = true then some (putV p F k (gpL k (byF x y z k))) else none
theorem shK_some {p x y z : Int} {L F : List Trm} {k : Nat} (h : shK p x y z L k = some F) (ho : putOk p F k (gpL k (byF x y z k)) = true) : shK p x y z L (k + 1) = some (putV p F k (gpL k (byF x y z k))) := by
  unfold shK
  rw [h]
  simp [ho]
theorem shK_none {p x y z : Int} {L F : List Trm} {k : Nat} (h : shK p x y z L k = some F) (ho : putOk p F k (gpL k (byF x y z k)) = false) : shK p x y z L (k + 1) = none := by
  unfold shK
  rw [h]
  simp [ho]
theorem shK_stays {p x y z : Int} {L : List Trm} {k : Nat} (h : shK p x y z L k = none) : ∀ d, shK p x y z L (k + d) = none
  | 0 => h
  | d + 1 => by
    show shK p x y z L ((k + d) + 1) = none
    unfold shK
    rw [shK_stays h d]
def shOk (p x y z : Int) (L : List Trm) : Bool := (isP p && isE3 p x y z) && (shK p x y z L 3).isSome
def shV (p x y z : Int) (L : List Trm) : List Trm := if (isP p && isE3 p x y z) = true then (shK p x y z L 3).getD [] else []
theorem shK_bad {p x y z : Int} {L : List Trm} (h : (isP p && validB p L) = false) : shK p x y z L 3 = none := by
  have h1 : shK p x y z L 1 = none := shK_none rfl (by unfold putOk putC okB; dsimp only; rw [h]; rfl)
  exact shK_stays (k := 1) h1 2
theorem sh_no {p x y z : Int} {L : List Trm} (h : (isP p && isE3 p x y z) = false) : shV p x y z L = [] ∧ shOk p x y z L = false := by
  unfold shV shOk
  rw [h]
  exact ⟨rfl, rfl⟩
theorem sh_none {p x y z : Int} {L : List Trm} (h : shK p x y z L 3 = none) : shV p x y z L = [] ∧ shOk p x y z L = false := by
  unfold shV shOk
  rw [h]
  cases (isP p && isE3 p x y z) <;> exact ⟨rfl, rfl⟩
theorem sh_some {p x y z : Int} {L F : List Trm} (hE : (isP p && isE3 p x y z) = true) (h : shK p x y z L 3 = some F) : shV p x y z L = F ∧ shOk p x y z L = true := by
  unfold shV shOk
  rw [h, hE]
  exact ⟨rfl, rfl⟩
theorem by_el {p x y z : Int} (h : isE3 p x y z = true) (k : Nat) : 0 ≤ byF x y z k ∧ byF x y z k < p := by
  simp only [isE3, Bool.and_eq_true] at h
  have h1 := isE_iff.1 h.1
  have h2 := isE_iff.1 h.2.1
  have h3 := isE_iff.1 h.2.2
  unfold byF
  repeat' split
  all_goals omega
set_option maxRecDepth 100000 in
set_option maxHeartbeats 4000000 in
theorem iGreater (p v a : Int) (hp : isP p = true) (ha : 0 ≤ a ∧ a < p) (hv : v = 0 ∨ v = 1 ∨ v = 2) (w : World) :
    Calls Try.prog 163 #[.int .i64 p, .int .i64 v, .int .i64 a] w (GivesPB (gpL v a) true w) := by
  have HM := Lib.hid (fun f w' (h : Trms w' f [onT v, ⟨0, 0, 0, a⟩]) => show Calls Try.prog 105 #[.int .i64 p, f] w' (GivesPB (gpL v a) true w') by
    have := iMakePoly p f _ w' h
    rwa [(gp_make hp ha).1, (gp_make hp ha).2] at this)
  clear hp ha
  rcases hv with rfl | rfl | rfl
  all_goals
    go_enter Try.func163, Try.ntmps163
    go_wp2_with fail
    refine (HM.out _ _ ⟨by simp, _, 2, rfl, .inr ⟨_, 0, rfl, by simp, fun j hj => ?_⟩⟩).mono ?_
    · have : j = 0 ∨ j = 1 := by simp at hj; omega
      rcases this with rfl | rfl
      · refine ⟨?_, ?_, ?_, ?_⟩ <;> simp [go_sem, onT]
      · refine ⟨?_, ?_, ?_, ?_⟩ <;> simp [go_sem]
    rintro e w2 ⟨u, rfl, ho, hb⟩
    have H2 := Lib.hid (And.intro ho hb)
    clear ho hb
    go_wp2_with fail
    refine bodyPost_ret (v := .tuple #[u, .bool true]) (by simp [results, Try.results163, go_sem]) rfl ⟨_, rfl, ownT_base H2.out.1 ?_, ?_⟩
    · simp
      try omega
    · exact Below.trans (by repeat (first | exact Below.refl _ _ | (refine Below.setCell ?_ (by first | omega | (simp; done) | (simp; omega)) _) | (refine Below.alloc ?_ (by first | omega | (simp; done) | (simp; omega)) _))) (H2.out.2.mono (by first | omega | (simp; done) | (simp; omega)))
end Go.Proofs.Ytlidplmpglpkgaa
namespace Go.Proofs.Ytlidplmpglpkgaa
open Go.RowKit
/-- the first k terms -/
def tkL (L : List Trm) (k : Nat) : List Trm := L.take k
set_option maxRecDepth 100000 in
set_option maxHeartbeats 8000000 in
theorem sOwn_some (g off cap : Nat) (L : List Trm) (w : World) (hl : L.length ≤ 1048576) (hg : g < w.heap.size)
    (hc : ∀ j : Nat, j < L.length → TAt w g (off + j * 4) (L.getD j default)) :
    Calls Try.prog 165 #[.slice (some ⟨g, off, none⟩) L.length cap] w fun e w' => ∃ v, e = .returned v ∧ Row w' w.heap.size v L ∧ Below w.heap.size w w' := by
  obtain ⟨i0, hi, hz0, hz1, hz2⟩ := info_parts infoT
  have HC := Lib.hid hc
  clear hc
  go_enter Try.func165, Try.ntmps165
  go_wp2_with fail
  go_loopw [3, 9] (fun v i wr => ∃ k : Nat, k ≤ L.length ∧ i = .int .i64 k ∧ Row wr w.heap.size v (tkL L k) ∧ Below w.heap.size w wr) (fun _ i _ => L.length - (intOf i).toNat)
  case atStart => exact ⟨0, by omega, rfl, Row.lit0 w w.heap.size (Nat.le_refl _), Below.alloc (Below.refl _ _) (Nat.le_refl _) _⟩
  case round =>
    obtain ⟨k, hk, rfl, hrow, hb⟩ := hrel
    have hlen : (tkL L k).length = k := by unfold tkL; simp; omega
    by_cases hlt : k < L.length
    · have hltp : (k : Int) < (L.length : Int) := by omega
      have hk0 : (0 : Int) ≤ (k : Int) := by omega
      obtain ⟨a0, a1, a2, a3⟩ := (HC.out k hlt).below hb hg
      have HN := Lib.hid (show tkL L (k + 1) = tkL L k ++ [L.getD k default] by unfold tkL; rw [List.take_succ_eq_append_getElem hlt]; simp [List.getD_eq_getElem?_getD, hlt])
      obtain ⟨x, hx⟩ : ∃ x, x = L.getD k default := ⟨_, rfl⟩
      rw [← hx] at a0 a1 a2 a3 HN
      have Hb := Lib.hid hb
      have HR := Lib.hid hrow
      have HLN := Lib.hid hlen
      have hls := hb.size
      clear hx hb hrow hlen
      go_wp2_with (at_builtin; refine wpList_append_own _ rfl _ _ 24 rfl w.heap.size 87 i0 (.agg #[.int .i64 0, .int .i64 0, .int .i64 0, .int .i64 0]) 4 32 Try.underlying24 hi hz0 hz1 hz2 rfl (by decide) _ _ _ rfl (World.ownsRow.alloc (World.ownsRow.alloc HR.out _) _) _ 1 1 x.cs rfl rfl ?c1 ?c2 ?c3 ?c4 ?c5 ?_)
      case c1 =>
        intro j u hj
        match j, hj with
        | 0, hj => simp [Trm.cs] at hj; subst hj; simp [Addr.add, go_sem]
        | 1, hj => simp [Trm.cs] at hj; subst hj; simp [Addr.add, go_sem]
        | 2, hj => simp [Trm.cs] at hj; subst hj; simp [Addr.add, go_sem]
        | 3, hj => simp [Trm.cs] at hj; subst hj; simp [Addr.add, go_sem]
        | j + 4, hj => simp [Trm.cs] at hj
      case c2 => intro u hu; exact flat_cell [x] u (by simpa [flat] using hu)
      case c3 => rw [HLN.out]; unfold maxLen; omega
      case c4 => have := HLN.out; omega
      case c5 => simp; omega
      intro v' w3 hown' hgrow _
      have R3 := Lib.hid (show Row w3 w.heap.size v' (tkL L (k + 1)) by
        rw [HN.out]
        show World.ownsRow _ _ _ _ _ _ _
        rw [flat_app, flat_one, List.length_append]
        exact hown')
      have H3 := Lib.hid (show Below w.heap.size w w3 by
        exact Below.trans (Below.alloc (Below.alloc Hb.out hls _) (by simp; omega) _) (Row.low (World.ownsRow.alloc (World.ownsRow.alloc HR.out _) _) (by simp; omega) hgrow))
      clear hown' hgrow
      go_wp2
      go_roundw
      case rel => exact ⟨k + 1, by omega, by go_num, R3.out, H3.out⟩
      case measure => simp [intOf]; omega
    · have hkl : k = L.length := by omega
      subst hkl
      rw [show tkL L L.length = L from List.take_length] at hrow
      have HR := Lib.hid hrow
      have Hb := Lib.hid hb
      clear hrow hb
      go_wp2_with fail
      go_ret
      exact ⟨_, rfl, HR.out, Hb.out⟩
set_option maxHeartbeats 4000000 in
theorem sOwn_nil (a : Option Addr) (cap : Nat) (w : World) :
    Calls Try.prog 165 #[.slice a 0 cap] w fun e w' => ∃ v, e = .returned v ∧ Row w' w.heap.size v [] ∧ Below w.heap.size w w' := by
  go_enter Try.func165, Try.ntmps165
  go_wp2_with fail
  go_loop [3, 9] (fun v i => v = (.slice (some ⟨w.heap.size, 0, none⟩) 0 0) ∧ i = .int .i64 0) (fun _ _ => 0)
  case atStart => exact ⟨rfl, rfl⟩
  case round =>
    obtain ⟨rfl, rfl⟩ := hrel
    go_wp2_with fail
    go_ret
    exact ⟨_, rfl, Row.lit0 w w.heap.size (Nat.le_refl _), Below.alloc (Below.refl _ _) (Nat.le_refl _) _⟩
theorem sOwn (f : Value) (L : List Trm) (w : World) (h : Trms w f L) :
    Calls Try.prog 165 #[f] w fun e w' => ∃ v, e = .returned v ∧ OwnTrms w' w.heap.size v L ∧ Below w.heap.size w w' := by
  obtain ⟨hl, a, cap, rfl, h2⟩ := h
  rcases h2 with rfl | ⟨g, off, rfl, hg, hc⟩
  · exact (sOwn_nil a cap w).mono fun e w' ⟨v, h1, h2, h3⟩ => ⟨v, h1, h2.own (by simp), h3⟩
  · exact (sOwn_some g off cap L w hl hg hc).mono fun e w' ⟨v, h1, h2, h3⟩ => ⟨v, h1, h2.own (by omega), h3⟩
set_option maxRecDepth 100000 in
set_option maxHeartbeats 4000000 in
theorem sShift_no (p x y z : Int) (f : Value) (L : List Trm) (w : World) (h : Trms w f L) (hn : ((isP p && validB p L) && isE3 p x y z) = false) :
    Calls Try.prog 74 #[.int .i64 p, f, .agg #[.int .i64 x, .int .i64 y, .int .i64 z]] w (GivesPB [] false w) := by
  obtain ⟨W, hW⟩ : ∃ W, W = w.alloc (Obj.cells #[.int .i64 x, .int .i64 y, .int .i64 z] 33) := ⟨_, rfl⟩
  have hPt : PtAt W w.heap.size x y z := by rw [hW]; refine ⟨?_, ?_, ?_⟩ <;> simp [go_sem]
  have hsW : w.heap.size < W.heap.size := by rw [hW]; simp
  have bW : Below w.heap.size w W := by rw [hW]; exact Below.alloc (Below.refl _ _) (Nat.le_refl _) _
  have HO := Lib.hid (sOwn f L W (h.below bW))
  have HB := Lib.hid (fun f w' (h : Trms w' f L) => sPolyValid p f L w' h)
  have HW := Lib.hid hW
  have HBW := Lib.hid bW
  have HPT := Lib.hid hPt
  cases hv : (isP p && validB p L)
  · rw [hv] at HB
    clear h hW bW hPt hn hv
    go_enter Try.func74, Try.ntmps74
    go_wp2_with fail
    rw [← HW.out]
    refine HO.out.mono ?_
    rintro e w1 ⟨u, rfl, ho, hb1⟩
    have H1 := Lib.hid (And.intro ho (HBW.out.trans (hb1.mono HBW.out.size)))
    clear ho hb1
    go_wp2_with fail
    refine (HB.out _ _ H1.out.1.trms).mono ?_
    rintro e w2 ⟨rfl, hb2⟩
    have H2 := Lib.hid (H1.out.2.trans (hb2.mono H1.out.2.size))
    clear hb2
    go_wp2_with fail
    refine bodyPost_ret (v := .tuple #[.slice (some ⟨w2.heap.size, 0, none⟩) 0 0, .bool false]) (by simp [results, Try.results74, go_sem]) rfl ⟨_, rfl, (Row.lit0 w2 w.heap.size H2.out.size).own (by simp), Below.alloc H2.out H2.out.size _⟩
  · rw [hv] at HB hn
    rw [Bool.true_and] at hn
    have hp : isP p = true := by simp only [Bool.and_eq_true] at hv; exact hv.1
    have HE := Lib.hid (fun b w (h : PtAt w b x y z) => sEl3 false p x y z hp hn b w h)
    clear h hW bW hPt hn hv hp
    go_enter Try.func74, Try.ntmps74
    go_wp2_with fail
    rw [← HW.out]
    refine HO.out.mono ?_
    rintro e w1 ⟨u, rfl, ho, hb1⟩
    have HP1 := Lib.hid (HPT.out.below hb1 hsW)
    have hs1 := Nat.lt_of_lt_of_le hsW hb1.size
    have H1 := Lib.hid (And.intro ho (HBW.out.trans (hb1.mono HBW.out.size)))
    clear ho hb1
    go_wp2_with fail
    refine (HB.out _ _ H1.out.1.trms).mono ?_
    rintro e w2 ⟨rfl, hb2⟩
    have HP2 := Lib.hid (HP1.out.below hb2 hs1)
    have H2 := Lib.hid (H1.out.2.trans (hb2.mono H1.out.2.size))
    obtain ⟨c0, c1, c2⟩ := HP2.out
    clear hb2
    go_wp2_with fail
    refine (HE.out _ _ HP2.out).mono ?_
    rintro e w3 ⟨rfl, rfl⟩
    go_wp2_with fail
    refine bodyPost_ret (v := .tuple #[.slice (some ⟨w2.heap.size, 0, none⟩) 0 0, .bool false]) (by simp [results, Try.results74, go_sem]) rfl ⟨_, rfl, (Row.lit0 w2 w.heap.size H2.out.size).own (by simp), Below.alloc H2.out H2.out.size _⟩
theorem pt_cell {w : World} {n : Nat} {x y z : Int} (h : PtAt w n x y z) {k : Nat} (hk : k < 3) : w.cell? ⟨n, k, none⟩ = some (.int .i64 (byF x y z k)) := by
  obtain ⟨h0, h1, h2⟩ := h
  have : k = 0 ∨ k = 1 ∨ k = 2 := by omega
  rcases this with rfl | rfl | rfl
  · exact h0
  · exact h1
  · exact h2
set_option maxRecDepth 100000 in
set_option maxHeartbeats 8000000 in
theorem sShift_yes (p x y z : Int) (f : Value) (L : List Trm) (w : World) (h : Trms w f L) (hp : isP p = true) (hV : validB p L = true) (hE : isE3 p x y z = true) (R : List Trm) (b : Bool) (hR : R = shV p x y z L) (hbq : b = shOk p x y z L) :
    Calls Try.prog 74 #[.int .i64 p, f, .agg #[.int .i64 x, .int .i64 y, .int .i64 z]] w (GivesPB R b w) := by
  obtain ⟨W, hW⟩ : ∃ W, W = w.alloc (Obj.cells #[.int .i64 x, .int .i64 y, .int .i64 z] 33) := ⟨_, rfl⟩
  have hPt : PtAt W w.heap.size x y z := by rw [hW]; refine ⟨?_, ?_, ?_⟩ <;> simp [go_sem]
  have hsW : w.heap.size < W.heap.size := by rw [hW]; simp
  have bW : Below w.heap.size w W := by rw [hW]; exact Below.alloc (Below.refl _ _) (Nat.le_refl _) _
  have HO := Lib.hid (sOwn f L W (h.below bW))
  have HB := Lib.hid (fun f w' (h : Trms w' f L) => show Calls Try.prog 113 #[.int .i64 p, f] w' fun e w'' => e = .returned (.bool true) ∧ Below w'.heap.size w' w'' by
    have := sPolyValid p f L w' h
    rwa [hp, hV] at this)
  have HW := Lib.hid hW
  have HBW := Lib.hid bW
  have HPT := Lib.hid hPt
  have HP := Lib.hid hp
  have HV := Lib.hid hV
  have HEE := Lib.hid hE
  have HEL := Lib.hid (fun b w (h : PtAt w b x y z) => sEl3 true p x y z hp hE b w h)
  have HRB := Lib.hid (And.intro hR hbq)
  clear h hW bW hPt hp hV hE hR hbq
  go_enter Try.func74, Try.ntmps74
  go_wp2_with fail
  rw [← HW.out]
  refine HO.out.mono ?_
  rintro e w1 ⟨u, rfl, ho, hb1⟩
  have HP1 := Lib.hid (HPT.out.below hb1 hsW)
  have hs1 := Nat.lt_of_lt_of_le hsW hb1.size
  have H1 := Lib.hid (And.intro (ownT_base ho HBW.out.size) (HBW.out.trans (hb1.mono HBW.out.size)))
  clear ho hb1
  go_wp2_with fail
  refine (HB.out _ _ H1.out.1.trms).mono ?_
  rintro e w2 ⟨rfl, hb2⟩
  have HP2 := Lib.hid (HP1.out.below hb2 hs1)
  have hs2 := Nat.lt_of_lt_of_le hs1 hb2.size
  have H2 := Lib.hid (And.intro (H1.out.1.below hb2) (H1.out.2.trans (hb2.mono H1.out.2.size)))
  obtain ⟨c0, c1, c2⟩ := HP2.out
  clear hb2
  go_wp2_with fail
  refine (HEL.out _ _ HP2.out).mono ?_
  rintro e w3 ⟨rfl, rfl⟩
  clear c0 c1 c2
  obtain ⟨n, hn⟩ : ∃ n, n = w.heap.size := ⟨_, rfl⟩
  have HN := Lib.hid hn
  have HS := Lib.hid (show PtAt w2 n x y z ∧ n < w2.heap.size by rw [hn]; exact ⟨HP2.out, hs2⟩)
  go_wp2_with fail
  rw [← hn]
  clear hn
  go_loopw [1, 26] (fun v i wr => ∃ (k : Nat) (F : List Trm), k ≤ 3 ∧ i = .int .i64 k ∧ shK p x y z L k = some F ∧ OwnTrms wr w.heap.size v F ∧ PtAt wr n x y z ∧ n < wr.heap.size ∧ Below w.heap.size w wr) (fun _ i _ => 3 - (intOf i).toNat)
  case atStart => exact ⟨0, L, by omega, rfl, rfl, H2.out.1, HS.out.1, HS.out.2, H2.out.2⟩
  case round =>
    clear HP1 HP2 H1 H2 HS hs1 hs2
    obtain ⟨k, F, hk, rfl, hF, ho, hPt, hns, hb⟩ := hrel
    by_cases hlt : k < 3
    · have hltp : (k : Int) < 3 := by omega
      have hk0 : (0 : Int) ≤ (k : Int) := by omega
      have c0 := pt_cell hPt hlt
      obtain ⟨a, ha⟩ : ∃ a, a = byF x y z k := ⟨_, rfl⟩
      have hae := by_el HEE.out k
      rw [← ha] at c0 hae
      have HSC := Lib.hid (fun f w' (h : Trms w' f [⟨0, 0, 0, 1⟩]) => show Calls Try.prog 168 #[.int .i64 p, f, .int .i64 a] w' (GivesTrmsS (cnL a) w') by
        rw [← scl_cn (p := p) (a := a) hae]
        exact sScaled p f _ a w' HP.out (one_valid p HP.out) (isE_iff.2 hae) h)
      have HPW := Lib.hid (fun w => sPower1 (k : Int) (by omega) w)
      have HAD := Lib.hid (fun f g w' (h1 : Trms w' f [onT k]) (h2 : Trms w' g (cnL a)) => show Calls Try.prog 166 #[.int .i64 p, f, g] w' (GivesPB (gpL k a) true w') by
        have := sAddPoly p f g _ _ w' h1 h2
        rwa [(gp_sum HP.out hae).1, (gp_sum HP.out hae).2] at this)
      have HPU := Lib.hid (fun f g w' (h1 : Trms w' f F) (h2 : Trms w' g (gpL k a)) => sPutPoly p (k : Int) f g F (gpL k a) w' h1 h2)
      have HF := Lib.hid hF
      have HA := Lib.hid ha
      have HOW := Lib.hid ho
      have Hb := Lib.hid hb
      have HPt := Lib.hid hPt
      clear ha hae hF ho hPt hb
      go_wp2_with fail
      have HC0 := Lib.hid (fun w' (hb : Below wr.heap.size wr w') => show w'.cell? ⟨n, k, none⟩ = some (.int .i64 a) by rw [hb.cell (p := ⟨n, k, none⟩) hns]; exact c0)
      refine wp_region_seq [(0, true), (1, true), (3, true), (5, true), (6, true), (7, true), (2, false), (4, false), (8, false), (9, false), (10, true), (11, true), (12, true), (13, true)] (fun w' => w'.cell? ⟨n, k, none⟩ = some (.int .i64 a)) (by kernel_rfl) (by kernel_rfl) rfl (by intro c a d v w h; cases d <;> exact h) (HC0.out _ (Below.drew (Below.refl _ _))) ?_
      iterate 6 (refine wpSeq_take (v := ?_) (List.getElem?_toArray.trans rfl) ?_ ?_; rotate_left; (intro w' hSw; (try dsimp only at hSw); go_simp; (try with_reducible rfl)); (try simp only [Act.put, List.setIfInBounds_toArray, List.set_cons_zero, List.set_cons_succ]))
      refine wpSeq_do (List.getElem?_toArray.trans rfl) (fun K hK => ?_)
      go_simp
      refine (HPW.out _).mono ?_
      rintro e wP ⟨uP, rfl, hoP, hbP⟩
      have HB1 := Lib.hid (show Below wr.heap.size wr wP from (Below.drew (Below.refl _ _)).trans (hbP.mono (by simp)))
      refine hK _ _ (HC0.out _ HB1.out) ?_
      clear hK K hbP
      refine wpSeq_do (List.getElem?_toArray.trans rfl) (fun K hK => ?_)
      go_simp
      refine (sOne _).mono ?_
      rintro e wO ⟨uO, rfl, hoO, hbO⟩
      have HB2 := Lib.hid (show Below wr.heap.size wr wO from HB1.out.trans (hbO.mono HB1.out.size))
      refine hK _ _ (HC0.out _ HB2.out) ?_
      clear hK K
      refine wpSeq_do (List.getElem?_toArray.trans rfl) (fun K hK => ?_)
      go_simp
      refine (HSC.out _ _ hoO.trms).mono ?_
      rintro e wS ⟨uS, rfl, hoS, hbS⟩
      have HB3 := Lib.hid (show Below wr.heap.size wr wS from HB2.out.trans (hbS.mono HB2.out.size))
      refine hK _ _ (HC0.out _ HB3.out) ?_
      clear hK K
      refine wpSeq_do (List.getElem?_toArray.trans rfl) (fun K hK => ?_)
      go_simp
      refine (HAD.out _ _ _ ((hoP.trms.below hbO).below hbS) hoS.trms).mono ?_
      rintro e wA ⟨uA, rfl, hoA, hbA⟩
      have HB4 := Lib.hid (show Below wr.heap.size wr wA from HB3.out.trans (hbA.mono HB3.out.size))
      refine hK _ _ (HC0.out _ HB4.out) ?_
      clear hK K hbO hbS hbA hoO hoP hoS
      iterate 4 (refine wpSeq_take (v := ?_) (List.getElem?_toArray.trans rfl) ?_ ?_; rotate_left; (intro w' hSw; (try dsimp only at hSw); go_simp; (try with_reducible rfl)); (try simp only [Act.put, List.setIfInBounds_toArray, List.set_cons_zero, List.set_cons_succ]))
      refine wpSeq_nil ?_
      simp only [Exit.then]
      have H4 := Lib.hid (Hb.out.trans (HB4.out.mono Hb.out.size))
      have HTA := Lib.hid hoA.trms
      clear hoA
      obtain ⟨q, hq⟩ : ∃ q, q = putOk p F (k : Int) (gpL k a) := ⟨_, rfl⟩
      rw [← hq] at HPU
      go_wp2_with fail
      refine (HPU.out _ _ _ (HOW.out.trms.below HB4.out) HTA.out).mono ?_
      rintro e w5 ⟨u5, rfl, ho5, hb5⟩
      have H5 := Lib.hid (And.intro (ownT_base ho5 H4.out.size) (H4.out.trans (hb5.mono H4.out.size)))
      have HPt5 := Lib.hid (HPt.out.below (HB4.out.trans (hb5.mono HB4.out.size)) hns)
      have hns5 : n < w5.heap.size := Nat.lt_of_lt_of_le hns (HB4.out.trans (hb5.mono HB4.out.size)).size
      clear ho5 hb5 c0
      cases q
      · have hnone := shK_none HF.out (by rw [← HA.out]; exact hq.symm)
        have e3 := sh_none (p := p) (x := x) (y := y) (z := z) (L := L) (by have := shK_stays hnone (2 - k); rw [show k + 1 + (2 - k) = 3 by omega] at this; exact this)
        have HRR := Lib.hid (show R = [] ∧ b = false from ⟨by rw [HRB.out.1, e3.1], by rw [HRB.out.2, e3.2]⟩)
        clear hnone e3 hq
        go_wp2_with fail
        refine bodyPost_ret (v := .tuple #[.slice (some ⟨w5.heap.size, 0, none⟩) 0 0, .bool false]) (by simp [results, Try.results74, go_sem]) rfl ?_
        rw [HRR.out.1, HRR.out.2]
        exact ⟨_, rfl, (Row.lit0 w5 w.heap.size H5.out.2.size).own (by simp), Below.alloc H5.out.2 H5.out.2.size _⟩
      · have HK := Lib.hid (shK_some HF.out (by rw [← HA.out]; exact hq.symm))
        rw [← HA.out] at HK
        clear hq
        go_wp2_with fail
        go_roundw
        case rel => exact ⟨k + 1, _, by omega, by go_num, HK.out, H5.out.1, HPt5.out, hns5, H5.out.2⟩
        case measure => simp [intOf]; omega
    · have hkl : k = 3 := by omega
      subst hkl
      obtain ⟨e1, e2⟩ := sh_some (by rw [HP.out, HEE.out]; rfl) hF
      have HO := Lib.hid ho
      have Hb := Lib.hid hb
      have HRR := Lib.hid (show R = F ∧ b = true from ⟨by rw [HRB.out.1, e1], by rw [HRB.out.2, e2]⟩)
      clear ho hb hF e1 e2 hPt
      go_wp2_with fail
      refine bodyPost_ret (v := .tuple #[u1, .bool true]) (by simp [results, Try.results74, go_sem]) rfl ?_
      rw [HRR.out.1, HRR.out.2]
      exact ⟨_, rfl, HO.out, Hb.out⟩
theorem sShiftPoly (p x y z : Int) (f : Value) (L : List Trm) (w : World) (h : Trms w f L) :
    Calls Try.prog 74 #[.int .i64 p, f, .agg #[.int .i64 x, .int .i64 y, .int .i64 z]] w (GivesPB (shV p x y z L) (shOk p x y z L) w) := by
  cases hn : ((isP p && validB p L) && isE3 p x y z)
  · have e : shV p x y z L = [] ∧ shOk p x y z L = false := by
      cases hv : (isP p && validB p L)
      · exact sh_none (shK_bad hv)
      · refine sh_no ?_
        rw [hv, Bool.true_and] at hn
        rw [hn, Bool.and_false]
    rw [e.1, e.2]
    exact sShift_no p x y z f L w h hn
  · simp only [Bool.and_eq_true] at hn
    exact sShift_yes p x y z f L w h hn.1.1 hn.1.2 hn.2 _ _ rfl rfl
end Go.Proofs.Ytlidplmpglpkgaa
namespace Go.Proofs.Ytlidplmpglpkgaa
open Go.RowKit
set_option maxRecDepth 100000 in
set_option maxHeartbeats 4000000 in
theorem iShift_no (p x y z : Int) (f : Value) (w : World) (hn : (isP p && isE3 p x y z) = false) :
    Calls Try.prog 73 #[.int .i64 p, f, .agg #[.int .i64 x, .int .i64 y, .int .i64 z]] w (GivesPB [] false w) := by
  obtain ⟨W, hW⟩ : ∃ W, W = w.alloc (Obj.cells #[.int .i64 x, .int .i64 y, .int .i64 z] 33) := ⟨_, rfl⟩
  have hPt : PtAt W w.heap.size x y z := by rw [hW]; refine ⟨?_, ?_, ?_⟩ <;> simp [go_sem]
  have bW : Below w.heap.size w W := by rw [hW]; exact Below.alloc (Below.refl _ _) (Nat.le_refl _) _
  have HE := Lib.hid (show Calls Try.prog 101 #[.int .i64 p, .slice (some ⟨w.heap.size, 0, none⟩) 3 3] W fun e w' => e = .returned (.bool false) ∧ W = w' from by
    cases hp : isP p
    · exact iAE_no p hp _ W
    · rw [hp, Bool.true_and] at hn
      exact iAE3 false p x y z hp hn _ W hPt)
  have HW := Lib.hid hW
  have HBW := Lib.hid bW
  clear hW bW hPt hn
  go_enter Try.func73, Try.ntmps73
  go_wp2_with fail
  rw [← HW.out]
  refine HE.out.mono ?_
  rintro e w1 ⟨rfl, rfl⟩
  go_wp2_with fail
  refine bodyPost_ret (v := .tuple #[.slice none 0 0, .bool false]) (by simp [results, Try.results73, go_sem]) rfl ⟨_, rfl, ⟨by simp, none, 0, rfl, .inl rfl⟩, HBW.out⟩
set_option maxRecDepth 100000 in
set_option maxHeartbeats 8000000 in
theorem iShift_yes (p x y z : Int) (f : Value) (L : List Trm) (w : World) (h : Trms w f L) (hp : isP p = true) (hE : isE3 p x y z = true) (R : List Trm) (b : Bool) (hR : R = shV p x y z L) (hbq : b = shOk p x y z L) :
    Calls Try.prog 73 #[.int .i64 p, f, .agg #[.int .i64 x, .int .i64 y, .int .i64 z]] w (GivesPB R b w) := by
  obtain ⟨W, hW⟩ : ∃ W, W = w.alloc (Obj.cells #[.int .i64 x, .int .i64 y, .int .i64 z] 33) := ⟨_, rfl⟩
  have hPt : PtAt W w.heap.size x y z := by rw [hW]; refine ⟨?_, ?_, ?_⟩ <;> simp [go_sem]
  have bW : Below w.heap.size w W := by rw [hW]; exact Below.alloc (Below.refl _ _) (Nat.le_refl _) _
  have HEL := Lib.hid (iAE3 true p x y z hp hE _ W hPt)
  have HW := Lib.hid hW
  have HBW := Lib.hid bW
  have HP := Lib.hid hp
  have HEE := Lib.hid hE
  have HRB := Lib.hid (And.intro hR hbq)
  have HT := Lib.hid (h.below bW)
  obtain ⟨c0, c1, c2⟩ := hPt
  clear h hW bW hp hE hR hbq
  go_enter Try.func73, Try.ntmps73
  go_wp2_with fail
  rw [← HW.out]
  refine HEL.out.mono ?_
  rintro e w1 ⟨rfl, rfl⟩
  go_wp2_with fail
  go_loopw [1, 19] (fun v i wr => ∃ (k : Nat) (F : List Trm), k ≤ 3 ∧ i = .int .i64 k ∧ shK p x y z L k = some F ∧ Trms wr v F ∧ (0 < k → OwnTrms wr w.heap.size v F) ∧ Below w.heap.size w wr) (fun _ i _ => 3 - (intOf i).toNat)
  case atStart => exact ⟨0, L, by omega, rfl, rfl, HT.out, fun h => absurd h (by omega), HBW.out⟩
  case round =>
    clear c0 c1 c2
    obtain ⟨k, F, hk, rfl, hF, hT, ho, hb⟩ := hrel
    by_cases hlt : k < 3
    · obtain ⟨a, ha⟩ : ∃ a, a = byF x y z k := ⟨_, rfl⟩
      have hae := by_el HEE.out k
      rw [← ha] at hae
      obtain ⟨kk, hkk⟩ : ∃ kk, kk = (k : Int) := ⟨_, rfl⟩
      have hc : (kk = 0 ∧ a = x) ∨ (kk = 1 ∧ a = y) ∨ (kk = 2 ∧ a = z) := by
        have : k = 0 ∨ k = 1 ∨ k = 2 := by omega
        rcases this with rfl | rfl | rfl
        · exact .inl ⟨by omega, ha⟩
        · exact .inr (.inl ⟨by omega, ha⟩)
        · exact .inr (.inr ⟨by omega, ha⟩)
      have HGR := Lib.hid (fun w => iGreater p kk a HP.out hae (by omega) w)
      have HPU := Lib.hid (fun f g w' (h1 : Trms w' f F) (h2 : Trms w' g (gpL kk a)) => iPutPoly p kk f g F (gpL kk a) w' h1 h2)
      obtain ⟨q, hq⟩ : ∃ q, q = putOk p F kk (gpL kk a) := ⟨_, rfl⟩
      have HNO := Lib.hid (fun (e : q = false) => sh_none (p := p) (x := x) (y := y) (z := z) (L := L) (by
        have hnone := shK_none hF (by rw [← ha, ← hkk, ← hq]; exact e)
        have := shK_stays hnone (2 - k)
        rw [show k + 1 + (2 - k) = 3 by omega] at this
        exact this))
      have HYES := Lib.hid (fun (e : q = true) => show shK p x y z L (k + 1) = some (putV p F kk (gpL kk a)) by
        rw [shK_some hF (by rw [← ha, ← hkk, ← hq]; exact e), ← ha, ← hkk])
      rw [← hq] at HPU
      have HTT := Lib.hid hT
      have Hb := Lib.hid hb
      rw [← hkk]
      have HK := Lib.hid hkk
      clear ha hae hF hT ho hb hq hkk
      have hix : (Instr.index 33 (.agg #[.int .i64 x, .int .i64 y, .int .i64 z]) (.int .i64 kk)).run Try.prog wr = .ok (.int .i64 a) wr := by
        rcases hc with ⟨rfl, rfl⟩ | ⟨rfl, rfl⟩ | ⟨rfl, rfl⟩ <;> kernel_rfl
      have hk3 : kk < 3 := by omega
      have hk0 : 0 ≤ kk := by omega
      clear hc
      iterate 1
        go_wp2_with fail
        refine (HGR.out _).mono ?_
        rintro e wA ⟨uA, rfl, hoA, hbA⟩
        have HTA := Lib.hid hoA.trms
        have HBA := Lib.hid hbA
        have H4 := Lib.hid (Hb.out.trans (hbA.mono Hb.out.size))
        clear hoA hbA
        go_wp2_with fail
        refine (HPU.out _ _ _ (HTT.out.below HBA.out) HTA.out).mono ?_
        rintro e w5 ⟨u5, rfl, ho5, hb5⟩
        have H5 := Lib.hid (And.intro (ownT_base ho5 H4.out.size) (H4.out.trans (hb5.mono H4.out.size)))
        clear ho5 hb5
        cases q
        · have HRR := Lib.hid (show R = [] ∧ b = false from ⟨by rw [HRB.out.1, (HNO.out rfl).1], by rw [HRB.out.2, (HNO.out rfl).2]⟩)
          go_wp2_with fail
          refine bodyPost_ret (v := .tuple #[.slice none 0 0, .bool false]) (by simp [results, Try.results73, go_sem]) rfl ?_
          rw [HRR.out.1, HRR.out.2]
          exact ⟨_, rfl, ⟨by simp, none, 0, rfl, .inl rfl⟩, H5.out.2⟩
        · have HKK := Lib.hid (HYES.out rfl)
          have hkn := HK.out
          go_wp2_with fail
          go_roundw
          case rel => exact ⟨k + 1, _, by omega, by rw [show ((k + 1 : Nat) : Int) = (k : Int) + 1 by omega, ← hkn], HKK.out, H5.out.1.trms, fun _ => H5.out.1, H5.out.2⟩
          case measure => simp [intOf]; omega
    · have hkl : k = 3 := by omega
      subst hkl
      obtain ⟨e1, e2⟩ := sh_some (by rw [HP.out, HEE.out]; rfl) hF
      have HO := Lib.hid (ho (by omega))
      have Hb := Lib.hid hb
      have HRR := Lib.hid (show R = F ∧ b = true from ⟨by rw [HRB.out.1, e1], by rw [HRB.out.2, e2]⟩)
      clear ho hb hF e1 e2 hT
      go_wp2_with fail
      refine bodyPost_ret (v := .tuple #[u1, .bool true]) (by simp [results, Try.results73, go_sem]) rfl ?_
      rw [HRR.out.1, HRR.out.2]
      exact ⟨_, rfl, HO.out, Hb.out⟩
theorem iShiftPoly (p x y z : Int) (f : Value) (L : List Trm) (w : World) (h : Trms w f L) :
    Calls Try.prog 73 #[.int .i64 p, f, .agg #[.int .i64 x, .int .i64 y, .int .i64 z]] w (GivesPB (shV p x y z L) (shOk p x y z L) w) := by
  cases hn : (isP p && isE3 p x y z)
  · rw [(sh_no hn).1, (sh_no hn).2]
    exact iShift_no p x y z f w hn
  · have hn2 := hn
    simp only [Bool.and_eq_true] at hn2
    exact iShift_yes p x y z f L w h hn2.1 hn2.2 _ _ rfl rfl
end Go.Proofs.Ytlidplmpglpkgaa
