/-
  PolyOfCircuit of the program. Conditions: what the slice holds is known.
  PolyOfCircuit of the model. Conditions: what the slice holds is known.
-/
import Derived.Test.YtoeghbcolpailaaGreatBa37
import Derived.Test.YtoeghbcolpailaaGreatBa46
namespace Go.Proofs.YtoeghbcolpailaaGreat
open Go.RowKit
theorem ownT_low {w : World} {B B' : Nat} {v : Value} {L : List Trm} (h : OwnTrms w B v L) (hB : B' ≤ B) : OwnTrms w B' v L := ownT_base h hB
/-- one term in a block of its own -/
theorem ownT_one {w : World} {B g : Nat} (x : Trm) (hB : B ≤ g) (hg : g < w.heap.size) (h : TAt w g 0 x) (hf : ∀ i : Nat, i < 4 → w.frozen? ⟨g, i, none⟩ = false) (c : Nat) : OwnTrms w B (.slice (some ⟨g, 0, none⟩) 1 c) [x] := by
  refine ⟨by simp, _, c, rfl, .inr ⟨g, 0, rfl, hB, hg, fun j hj => ?_, fun i hi => ?_⟩⟩
  · have : j = 0 := by simpa using hj
    subst this
    simpa using h
  · rw [Nat.zero_add]
    exact hf i (by simpa using hi)
set_option maxRecDepth 100000 in
set_option maxHeartbeats 4000000 in
theorem iGPoly0 (p a b : Int) (ha : a = 0 ∨ a = 1 ∨ a = 2) (o : Option Addr) (n cap : Nat) (w : World) :
    Calls Tryz.prog 45 #[.agg #[.int .i64 0, .int .i64 a, .int .i64 b], .int .i64 p, .slice o n cap] w (GivesPB [onT a] true w) := by
  rcases ha with rfl | rfl | rfl
  all_goals
    go_enter Tryz.func45, Tryz.ntmps45
    go_wp2_with fail
    refine bodyPost_ret (results_tmp2 rfl _ _ _) rfl ?_
    refine ⟨_, rfl, ownT_one _ (by omega) ?_ ?_ ?_ _, ?_⟩
    · simp
    · simp [onT, TAt, go_sem]
    · intro i hi
      exact World.frozen?_alloc_at _ _ _ i (by simp)
    · repeat (first | exact Below.refl _ _ | (refine Below.setCell ?_ (by first | omega | (simp; done) | (simp; omega)) _) | (refine Below.alloc ?_ (by first | omega | (simp; done) | (simp; omega)) _))
theorem make_cn {p a : Int} (hp : isP p = true) (ha : 0 ≤ a ∧ a < p) : makeV p [⟨0, 0, 0, a⟩] = cnL a ∧ makeOk p [⟨0, 0, 0, a⟩] = true := by
  have hb := isP_bd hp
  have hm : mkK p [⟨0, 0, 0, a⟩] 1 = cnL a := by
    unfold mkK cnL
    simp only [List.take_succ_cons, List.take_zero, List.map_cons, List.map_nil, addAll, mkT]
    rw [Int.emod_eq_of_lt ha.1 ha.2]
    split
    · rename_i h
      rw [h]
      exact addT_zero rfl
    · rename_i h
      exact addT_nil h
  have hv : validB p (cnL a) = true := by
    unfold cnL
    split
    · rfl
    · refine validB_of (List.pairwise_singleton ..) (fun y hy => ?_) (fun y hy => ?_) (by simp)
      · have e : y = ⟨0, 0, 0, a⟩ := by simpa using hy
        subst e
        show 1 ≤ a ∧ a < p
        omega
      · have e : y = ⟨0, 0, 0, a⟩ := by simpa using hy
        subst e
        rfl
  have hk : makeOk p [⟨0, 0, 0, a⟩] = true := by
    unfold makeOk
    rw [hp, show ([⟨0, 0, 0, a⟩] : List Trm).length = 1 from rfl, hm, hv]
    rfl
  exact ⟨by unfold makeV; rw [if_pos hk]; exact hm, hk⟩
set_option maxRecDepth 100000 in
set_option maxHeartbeats 4000000 in
theorem iGPoly1 (p a b : Int) (hp : isP p = true) (ha : 0 ≤ a ∧ a < p) (o : Option Addr) (n cap : Nat) (w : World) :
    Calls Tryz.prog 45 #[.agg #[.int .i64 1, .int .i64 a, .int .i64 b], .int .i64 p, .slice o n cap] w (GivesPB (cnL a) true w) := by
  have HM := Lib.hid (fun f w' (h : Trms w' f [⟨0, 0, 0, a⟩]) => show Calls Tryz.prog 59 #[.int .i64 p, f] w' (GivesPB (cnL a) true w') by
    rw [← (make_cn hp ha).1, ← (make_cn hp ha).2]
    exact iMakePoly p f _ w' h)
  clear hp ha
  go_enter Tryz.func45, Tryz.ntmps45
  go_wp2_with fail
  refine (HM.out _ _ ?_).mono ?_
  · refine ⟨by simp, _, 1, rfl, .inr ⟨w.heap.size + 1, 0, rfl, by simp, fun j hj => ?_⟩⟩
    have : j = 0 := by simpa using hj
    subst this
    simp [TAt, go_sem]
  rintro e w2 ⟨v, rfl, ho, hb⟩
  have HO := Lib.hid (And.intro ho hb)
  obtain ⟨_, ao, co, rfl, _⟩ := ho
  clear hb
  go_wp2_with fail
  refine bodyPost_ret (results_tmp2 rfl _ _ _) rfl ?_
  exact ⟨_, rfl, ownT_low HO.out.1 (by simp; omega), (by repeat (first | exact Below.refl _ _ | (refine Below.alloc ?_ (by first | omega | (simp; done) | (simp; omega)) _)) : Below w.heap.size w _).trans (HO.out.2.mono (by simp; omega))⟩
/-- the polynomials that a gate joins, as it finds them -/
theorem keepPl {w w1 : World} {n g ja jb : Nat} {a b : Int} {u v : Value} (hb : Below w.heap.size w w1) (hn : n < w.heap.size) (hg : g < w.heap.size)
    (h : w.cell? ⟨n, 1, none⟩ = some (.int .i64 a) ∧ w.cell? ⟨n, 2, none⟩ = some (.int .i64 b) ∧ w.cell? ⟨g, ja, none⟩ = some u ∧ w.cell? ⟨g, jb, none⟩ = some v) :
    w1.cell? ⟨n, 1, none⟩ = some (.int .i64 a) ∧ w1.cell? ⟨n, 2, none⟩ = some (.int .i64 b) ∧ w1.cell? ⟨g, ja, none⟩ = some u ∧ w1.cell? ⟨g, jb, none⟩ = some v := by
  obtain ⟨h1, h2, h3, h4⟩ := h
  exact ⟨by rw [hb.cell (p := ⟨n, 1, none⟩) hn]; exact h1, by rw [hb.cell (p := ⟨n, 2, none⟩) hn]; exact h2, by rw [hb.cell (p := ⟨g, ja, none⟩) hg]; exact h3, by rw [hb.cell (p := ⟨g, jb, none⟩) hg]; exact h4⟩
set_option maxRecDepth 100000 in
set_option maxHeartbeats 4000000 in
theorem iGPoly2 (p k : Int) (hk : k = 2 ∨ k = 3) (ja jb n : Nat) (hja : ja < n) (hjb : jb < n) (hn : n ≤ 60) (g cap : Nat) (u v : Value) (L M : List Trm) (w : World) (hg : g < w.heap.size)
    (h0 : w.cell? ⟨g, ja, none⟩ = some u) (h1 : w.cell? ⟨g, jb, none⟩ = some v) (hL : Trms w u L) (hM : Trms w v M) :
    Calls Tryz.prog 45 #[.agg #[.int .i64 k, .int .i64 ja, .int .i64 jb], .int .i64 p, .slice (some ⟨g, 0, none⟩) n cap] w
      (GivesPB (if k = 2 then sumV p L M else mulL p L M) (if k = 2 then addOk p L M else mulOk p L M) w) := by
  obtain ⟨W, hW⟩ : ∃ W, W = w.alloc (Obj.cells #[.int .i64 k, .int .i64 ja, .int .i64 jb] 71) := ⟨_, rfl⟩
  have bW : Below w.heap.size w W := by rw [hW]; exact (by repeat (first | exact Below.refl _ _ | apply Below.drew | apply below_drewN | (refine Below.alloc ?_ (by first | omega | (simp <;> omega)) _)))
  have c1 : W.cell? ⟨w.heap.size, 1, none⟩ = some (.int .i64 ja) := by rw [hW]; simp [go_sem]
  have c2 : W.cell? ⟨w.heap.size, 2, none⟩ = some (.int .i64 jb) := by rw [hW]; simp [go_sem]
  have c0 : W.cell? ⟨w.heap.size, 0, none⟩ = some (.int .i64 k) := by rw [hW]; simp [go_sem]
  have ht : w.heap.size < W.heap.size := by rw [hW]; simp
  have d0 := bW.cell (p := ⟨g, ja, none⟩) hg
  have d1 := bW.cell (p := ⟨g, jb, none⟩) hg
  rw [h0] at d0
  rw [h1] at d1
  have hg2 : g < W.heap.size := by omega
  have ja0 : (0 : Int) ≤ ja := by omega
  have jb0 : (0 : Int) ≤ jb := by omega
  have jan : (ja : Int) < (n : Int) := by omega
  have jbn : (jb : Int) < (n : Int) := by omega
  have hn0 : (n : Int) ≤ 60 := by omega
  have HL := Lib.hid (fun w' (hb : Below W.heap.size W w') => And.intro ((hL.below bW).below hb) ((hM.below bW).below hb))
  have HS := Lib.hid (fun w' (hb : Below W.heap.size W w') => iAddPoly p u v L M w' (HL.out w' hb).1 (HL.out w' hb).2)
  have HT := Lib.hid (fun w' (hb : Below W.heap.size W w') => iMulPoly p u v L M w' (HL.out w' hb).1 (HL.out w' hb).2)
  obtain ⟨_, a1, k1, rfl, _⟩ := hL
  obtain ⟨_, a2, k2, rfl, _⟩ := hM
  have HW := Lib.hid hW
  have HB := Lib.hid bW
  clear hW bW h0 h1 HL
  rcases hk with rfl | rfl
  all_goals
    simp only [if_true, show ((3 : Int) = 2) = False by simp, if_false]
    go_enter Tryz.func45, Tryz.ntmps45
    go_wp2_with fail
    rw [← HW.out]
    clear HW
    go_wp2_with fail
    go_region_held3 (fun w' => w'.cell? ⟨w.heap.size, 1, none⟩ = some (.int .i64 ja) ∧ w'.cell? ⟨w.heap.size, 2, none⟩ = some (.int .i64 jb) ∧ w'.cell? ⟨g, ja, none⟩ = some (.slice a1 L.length k1) ∧ w'.cell? ⟨g, jb, none⟩ = some (.slice a2 M.length k2)) (first | exact keepPl hb1 (by simpa using ht) (by simpa using hg2) (by assumption) | go_keep)
      (first | (go_at_call 57; refine (HS.out _ (Below.drew (Below.refl _ _))).mono ?_; rintro e w1 ⟨x, rfl, ho, hb1⟩) | (go_at_call 58; refine (HT.out _ (Below.drew (Below.refl _ _))).mono ?_; rintro e w1 ⟨x, rfl, ho, hb1⟩))
    have HO := Lib.hid (And.intro ho (HB.out.trans (((Below.drew (Below.refl _ _) : Below W.heap.size W W.drew).trans (by simpa using hb1)).mono (by omega))))
    obtain ⟨_, ao, co, rfl, _⟩ := ho
    clear hb1
    go_wp2_with fail
    refine bodyPost_ret (results_tmp2 rfl _ _ _) rfl ?_
    exact ⟨_, rfl, ownT_low HO.out.1 (by simp; omega), HO.out.2⟩
theorem iGPoly (p : Int) (L : List Gt) (hv : circB p L = true) (i : Nat) (hi : i < L.length) (x : Gt) (hx : x = L.getD i default) (G n cap : Nat) (F : Nat → Value) (w : World) (hS : StrW w G n F) (hin : i < n) (hn : n ≤ 60)
    (hF : joinsB (gAt L i) = true → Trms w (F (gAt L i).a.toNat) (pcP p L (gAt L i).a.toNat) ∧ Trms w (F (gAt L i).b.toNat) (pcP p L (gAt L i).b.toNat)) :
    Calls Tryz.prog 45 #[.agg #[.int .i64 x.k, .int .i64 x.a, .int .i64 x.b], .int .i64 p, .slice (some ⟨G, 0, none⟩) n cap] w (GivesPB (pcP p L i) (pcO p L i) w) := by
  have hgx : gAt L i = x := hx.symm
  obtain ⟨hp, _, _, hall⟩ := circB_iff.1 hv
  rcases gOK_cases (hall i hi) with ⟨hk, h0, h1, _⟩ | ⟨hk, h0, h1, _⟩ | ⟨hk, h0, h1, h2, h3⟩
  · rw [(pcP_in hk).1, (pcP_in hk).2]
    rw [hgx] at hk h0 h1 ⊢
    rw [hk]
    exact iGPoly0 p x.a x.b (by omega) _ _ _ w
  · rw [(pcP_cn hk).1, (pcP_cn hk).2]
    rw [hgx] at hk h0 h1 ⊢
    rw [hk]
    exact iGPoly1 p x.a x.b hp (by omega) _ _ _ w
  · obtain ⟨f1, f2⟩ := hF (by simpa [joinsB] using hk)
    have e : pcP p L i = (if (gAt L i).k = 2 then sumV p (pcP p L (gAt L i).a.toNat) (pcP p L (gAt L i).b.toNat) else mulL p (pcP p L (gAt L i).a.toNat) (pcP p L (gAt L i).b.toNat)) ∧ pcO p L i = (if (gAt L i).k = 2 then addOk p (pcP p L (gAt L i).a.toNat) (pcP p L (gAt L i).b.toNat) else mulOk p (pcP p L (gAt L i).a.toNat) (pcP p L (gAt L i).b.toNat)) := by
      rcases hk with hk | hk
      · rw [(pcP_sum hv hi hk).1, (pcP_sum hv hi hk).2, hk]
        exact ⟨rfl, rfl⟩
      · rw [(pcP_mul hv hi hk).1, (pcP_mul hv hi hk).2, hk]
        exact ⟨rfl, rfl⟩
    rw [e.1, e.2]
    rw [hgx] at hk h0 h1 h2 h3 f1 f2 ⊢
    have c1 := (hS.c x.a.toNat (by omega)).1
    have c2 := (hS.c x.b.toNat (by omega)).1
    have := iGPoly2 p x.k hk x.a.toNat x.b.toNat n (by omega) (by omega) hn G cap _ _ _ _ w hS.sz c1 c2 f1 f2
    rw [show ((x.a.toNat : Nat) : Int) = x.a by omega, show ((x.b.toNat : Nat) : Int) = x.b by omega] at this
    exact this
theorem infoPoly : (Tryz.prog.info? 29).map (fun i => (i.zero, i.size, i.bytes)) = some (some (.slice none 0 0), 1, 24) := by kernel_rfl
theorem ownT_off {w : World} {B G i : Nat} {v u : Value} {L : List Trm} (h : OwnTrms w B v L) (hB : G < B) : OwnTrms (w.setCell ⟨G, i, none⟩ u) B v L := by
  obtain ⟨h1, a, cap, hv, h2⟩ := h
  refine ⟨h1, a, cap, hv, ?_⟩
  rcases h2 with h2 | ⟨g, off, ha, hg, hs, hc, hf⟩
  · exact .inl h2
  · refine .inr ⟨g, off, ha, hg, by simpa using hs, fun j hj => ?_, fun j hj => by rw [World.frozen?_setCell]; exact hf j hj⟩
    have hne : ∀ d, (⟨G, i, none⟩ : Addr) ≠ ⟨g, d, none⟩ := fun d e => by injection e with e1 _; omega
    obtain ⟨t0, t1, t2, t3⟩ := hc j hj
    exact ⟨by rw [World.cell?_setCell_other _ _ _ _ (hne _)]; exact t0, by rw [World.cell?_setCell_other _ _ _ _ (hne _)]; exact t1, by rw [World.cell?_setCell_other _ _ _ _ (hne _)]; exact t2, by rw [World.cell?_setCell_other _ _ _ _ (hne _)]; exact t3⟩
/-- what the program's rounds keep: the polynomials of the used gates so far -/
structure PcW (p : Int) (L : List Gt) (w0 : World) (B G g2 o2 : Nat) (l : List Int) (t : Nat) (F : Nat → Value) (wr : World) : Prop where
  st : StrW wr G L.length F
  li : ∀ j, j < l.length → wr.cell? ⟨g2, o2 + j, none⟩ = some (.int .i64 (l.getD j 0))
  g2s : g2 < wr.heap.size
  ne : g2 ≠ G
  BG : B ≤ G
  low : Below B w0 wr
  ok : ∀ j : Nat, (j : Int) ∈ l.take t → OwnTrms wr (G + 1) (F j) (pcP p L j)
theorem PcW.below {p : Int} {L : List Gt} {w0 : World} {B G g2 o2 t : Nat} {l : List Int} {F : Nat → Value} {wr w1 : World} (h : PcW p L w0 B G g2 o2 l t F wr) (hB : B ≤ w0.heap.size) (hb : Below wr.heap.size wr w1) : PcW p L w0 B G g2 o2 l t F w1 :=
  ⟨h.st.below hb, fun j hj => by rw [hb.cell (p := ⟨g2, o2 + j, none⟩) h.g2s]; exact h.li j hj, Nat.lt_of_lt_of_le h.g2s hb.size, h.ne, h.BG, h.low.trans (hb.mono (Nat.le_trans hB h.low.size)), fun j hj => (h.ok j hj).below hb⟩
theorem PcW.put {p : Int} {L : List Gt} {w0 : World} {B G g2 o2 t i : Nat} {l : List Int} {F : Nat → Value} {wr : World} {v : Value} (h : PcW p L w0 B G g2 o2 l t F wr) (hi : i < L.length) (ht : t < l.length) (hl : l.getD t 0 = (i : Int)) (hv : OwnTrms wr (G + 1) v (pcP p L i)) :
    PcW p L w0 B G g2 o2 l (t + 1) (fun j => if j = i then v else F j) (wr.setCell ⟨G, i, none⟩ v) := by
  refine ⟨h.st.set hi _, fun j hj => ?_, by simpa using h.g2s, h.ne, h.BG, h.low.setCell (p := ⟨G, i, none⟩) h.BG _, fun j hj => ?_⟩
  · rw [World.cell?_setCell_other _ _ _ _ (fun e => h.ne (congrArg Addr.block e).symm)]
    exact h.li j hj
  · by_cases e : j = i
    · rw [if_pos e, e]
      exact ownT_off hv (by omega)
    · rw [if_neg e]
      rw [snocZ ht, hl] at hj
      rcases List.mem_append.1 hj with hj | hj
      · exact ownT_off (h.ok j hj) (by omega)
      · exact absurd (by have : (j : Int) = (i : Int) := by simpa using hj
                         omega) e
end Go.Proofs.YtoeghbcolpailaaGreat
namespace Go.Proofs.YtoeghbcolpailaaGreat
open Go.RowKit
set_option maxRecDepth 100000 in
set_option maxHeartbeats 4000000 in
theorem sPower1 (a : Int) (ha : a = 0 ∨ a = 1 ∨ a = 2) (w : World) :
    Calls Tryz.prog 62 #[.int .i64 a, .int .i64 1] w fun e w' => ∃ v, e = .returned v ∧ OwnTrms w' w.heap.size v [onT a] ∧ Below w.heap.size w w' := by
  rcases ha with rfl | rfl | rfl
  all_goals
    go_enter Tryz.func62, Tryz.ntmps62
    go_wp2_with fail
    go_ret
    refine ⟨_, rfl, ownT_one _ (by omega) ?_ ?_ ?_ _, ?_⟩
    · simp
    · simp [onT, TAt, go_sem]
    · intro i hi
      exact World.frozen?_alloc_at _ _ _ i (by simp)
    · repeat (first | exact Below.refl _ _ | (refine Below.setCell ?_ (by first | omega | (simp; done) | (simp; omega)) _) | (refine Below.alloc ?_ (by first | omega | (simp; done) | (simp; omega)) _))
set_option maxRecDepth 100000 in
set_option maxHeartbeats 4000000 in
theorem sOne (w : World) :
    Calls Tryz.prog 64 #[] w fun e w' => ∃ v, e = .returned v ∧ OwnTrms w' w.heap.size v [⟨0, 0, 0, 1⟩] ∧ Below w.heap.size w w' := by
  go_enter Tryz.func64, Tryz.ntmps64
  go_wp2_with fail
  go_ret
  refine ⟨_, rfl, ownT_one _ (by omega) ?_ ?_ ?_ _, ?_⟩
  · simp
  · simp [TAt, go_sem]
  · intro i hi
    exact World.frozen?_alloc_at _ _ _ i (by simp)
  · repeat (first | exact Below.refl _ _ | (refine Below.alloc ?_ (by first | omega | (simp; done) | (simp; omega)) _))
theorem scl_cn {p a : Int} (ha : 0 ≤ a ∧ a < p) : sclL p a [⟨0, 0, 0, 1⟩] = cnL a := by
  unfold sclL cnL
  split
  · rfl
  · show [sclT p a ⟨0, 0, 0, 1⟩] = _
    unfold sclT
    simp only [Int.one_mul]
    rw [Int.emod_eq_of_lt ha.1 ha.2]
theorem one_valid (p : Int) (hp : isP p = true) : validB p [⟨0, 0, 0, 1⟩] = true := by
  have hb := isP_bd hp
  refine validB_of (List.pairwise_singleton ..) (fun y hy => ?_) (fun y hy => ?_) (by simp)
  · have e : y = ⟨0, 0, 0, 1⟩ := by simpa using hy
    subst e
    show (1 : Int) ≤ 1 ∧ (1 : Int) < p
    omega
  · have e : y = ⟨0, 0, 0, 1⟩ := by simpa using hy
    subst e
    rfl
/-- a list of terms lies apart from a block -/
def FarT (u : Value) (X : Option Nat) : Prop := ∀ g off n c, u = .slice (some ⟨g, off, none⟩) n c → n ≠ 0 → some g ≠ X
theorem ownT_grown {w w' : World} {B : Nat} {u : Value} {L : List Trm} {X : Option Nat} (h : OwnTrms w B u L) (hf : FarT u X) (hg : w.grownBy w' X) : OwnTrms w' B u L := by
  obtain ⟨h1, a, cap, rfl, h2⟩ := h
  refine ⟨h1, a, cap, rfl, ?_⟩
  rcases h2 with h2 | ⟨g, off, rfl, hb, hs, hc, hz⟩
  · exact .inl h2
  · by_cases hl : L.length = 0
    · exact .inl (List.length_eq_zero_iff.1 hl)
    · have hne := hf g off L.length cap rfl hl
      refine .inr ⟨g, off, rfl, hb, Nat.lt_of_lt_of_le hs hg.size, fun j hj => ?_, fun i hi => by rw [hg.frozen_far ⟨g, off + i, none⟩ hs hne]; exact hz i hi⟩
      obtain ⟨t0, t1, t2, t3⟩ := hc j hj
      exact ⟨by rw [hg.cell_far ⟨g, _, none⟩ hs hne]; exact t0, by rw [hg.cell_far ⟨g, _, none⟩ hs hne]; exact t1, by rw [hg.cell_far ⟨g, _, none⟩ hs hne]; exact t2, by rw [hg.cell_far ⟨g, _, none⟩ hs hne]; exact t3⟩
theorem farT_new {w : World} {B : Nat} {u : Value} {L : List Trm} (h : OwnTrms w B u L) {b : Nat} (hb : b < B) : FarT u (some b) := by
  obtain ⟨_, a, cap, rfl, h2⟩ := h
  intro g off n c e hn he
  injection e with e1 e2 e3
  injection he with he
  rcases h2 with h2 | ⟨g', off', e4, hb', _⟩
  · rw [h2] at e2; simp at e2; omega
  · rw [e4] at e1; injection e1 with e1; injection e1 with e1 _; omega
theorem farT_next {w : World} {B : Nat} {u : Value} {L : List Trm} (h : OwnTrms w B u L) {X : Option Nat} (hf : FarT u X) {g : Nat} (hat : X = some g ∨ g = w.heap.size) : FarT u (some g) := by
  rcases hat with hat | hat
  · rw [← hat]; exact hf
  · obtain ⟨_, a, cap, rfl, h2⟩ := h
    intro g1 off n c e hn he
    injection e with e1 e2 e3
    injection he with he
    rcases h2 with h2 | ⟨g', off', e4, _, hs, _⟩
    · rw [h2] at e2; simp at e2; omega
    · rw [e4] at e1; injection e1 with e1; injection e1 with e1 _; omega
/-- what the model's rounds keep: the polynomials of the gates so far -/
structure PmW (p : Int) (L : List Gt) (w0 : World) (UB k : Nat) (v : Value) (F : Nat → Value) (wr : World) : Prop where
  row : wr.ownsRow w0.heap.size 29 1 v k ((List.range k).map F)
  sl : ∃ g c, v = .slice (some ⟨g, 0, none⟩) k c ∧ g < wr.heap.size ∧ g ≠ UB
  pol : ∀ j, j < k → useF L j = true → OwnTrms wr w0.heap.size (F j) (pcP p L j) ∧ FarT (F j) v.ownBlock
  low : Below w0.heap.size w0 wr
  arr : ArrB wr UB (useF L)
theorem PmW.on {p : Int} {L : List Gt} {w0 : World} {UB k : Nat} {v : Value} {F : Nat → Value} {wr w1 : World} (h : PmW p L w0 UB k v F wr) (hb : Below wr.heap.size wr w1) : PmW p L w0 UB k v F w1 := by
  obtain ⟨g, c, e, hg, hne⟩ := h.sl
  exact ⟨World.ownsRow.kept (row := none) h.row ⟨hb.os, hb.tape, hb.output, hb.size, fun k hk _ => hb.block k hk⟩ (by cases v.ownBlock <;> simp), ⟨g, c, e, Nat.lt_of_lt_of_le hg hb.size, hne⟩,
    fun j hj hu => ⟨(h.pol j hj hu).1.below hb, (h.pol j hj hu).2⟩, h.low.trans (hb.mono h.low.size), h.arr.below hb h.arr.1⟩
theorem PmW.app {p : Int} {L : List Gt} {w0 : World} {UB k : Nat} {v f : Value} {F : Nat → Value} {wr w' : World} {g c : Nat} (h : PmW p L w0 UB k v F wr) (hf : useF L k = true → OwnTrms wr w0.heap.size f (pcP p L k) ∧ FarT f v.ownBlock)
    (hown : w'.ownsRow w0.heap.size 29 1 (.slice (some ⟨g, 0, none⟩) (k + 1) c) (k + 1) ((List.range k).map F ++ [f])) (hg : wr.grownBy w' v.ownBlock) (hat : v.ownBlock = some g ∨ g = wr.heap.size) (hlt : g < w'.heap.size) :
    PmW p L w0 UB (k + 1) (.slice (some ⟨g, 0, none⟩) (k + 1) c) (fun j => if j = k then f else F j) w' := by
  obtain ⟨g0, c0, rfl, hg0, hne⟩ := h.sl
  have hUB := h.arr.1
  have hgU : g ≠ UB := by
    rcases hat with hat | hat
    · have : g0 = g := by simpa [Value.ownBlock] using hat
      omega
    · omega
  have hXU : some UB ≠ Value.ownBlock (.slice (some ⟨g0, 0, none⟩) k c0) := by
    intro e
    have : UB = g0 := by simpa [Value.ownBlock] using e
    omega
  have hR : (List.range (k + 1)).map (fun j => if j = k then f else F j) = (List.range k).map F ++ [f] := by
    rw [List.range_succ, List.map_append, List.map_singleton, if_pos rfl]
    congr 1
    refine List.map_congr_left fun j hj => ?_
    have := List.mem_range.1 hj
    rw [if_neg (by omega)]
  refine ⟨by rw [hR]; exact hown, ⟨g, c, rfl, hlt, hgU⟩, fun j hj hu => ?_, ?_, ?_⟩
  · have key : ∀ {u : Value} {M : List Trm}, OwnTrms wr w0.heap.size u M → FarT u (Value.ownBlock (.slice (some ⟨g0, 0, none⟩) k c0)) → OwnTrms w' w0.heap.size u M ∧ FarT u (some g) := fun h1 h2 => ⟨ownT_grown h1 h2 hg, farT_next h1 h2 hat⟩
    by_cases e : j = k
    · subst e
      rw [if_pos rfl]
      exact key (hf hu).1 (hf hu).2
    · rw [if_neg e]
      obtain ⟨h1, h2⟩ := h.pol j (by omega) hu
      exact key h1 h2
  · have hs := h.low.size
    exact h.low.trans ⟨hg.os, hg.tape, hg.output, hg.size, fun i hi => hg.block i (by omega) (fun e => by have := (World.ownsRow.lt h.row i e.symm).1; omega)⟩
  · exact ⟨Nat.lt_of_lt_of_le hUB hg.size, fun j hj => ⟨by rw [hg.cell_far ⟨UB, j, none⟩ hUB hXU]; exact (h.arr.2 j hj).1, by rw [hg.frozen_far ⟨UB, j, none⟩ hUB hXU]; exact (h.arr.2 j hj).2⟩⟩
theorem PmW.cell {p : Int} {L : List Gt} {w0 : World} {UB k g c j : Nat} {F : Nat → Value} {wr : World} (h : PmW p L w0 UB k (.slice (some ⟨g, 0, none⟩) k c) F wr) (hj : j < k) : wr.cell? ⟨g, j, none⟩ = some (F j) := by
  rw [World.ownsRow.cellAt h.row j (by omega)]
  simp [hj]
theorem keep1 {w w1 : World} {n i : Nat} {u : Value} (hb : Below w.heap.size w w1) (hn : n < w.heap.size) (h : w.cell? ⟨n, i, none⟩ = some u) : w1.cell? ⟨n, i, none⟩ = some u := by rw [hb.cell (p := ⟨n, i, none⟩) hn]; exact h
set_option maxRecDepth 100000 in
set_option maxHeartbeats 4000000 in
theorem sPoC_no (p : Int) (f : Value) (L : List Gt) (w : World) (h : Gats w f L) (hv : circB p L = false) :
    Calls Tryz.prog 46 #[.int .i64 p, f] w (GivesPB [] false w) := by
  have HCV := Lib.hid (sCircuitValid p f L w h)
  rw [hv] at HCV
  obtain ⟨_, a, cap, rfl, _⟩ := h
  clear hv
  go_enter Tryz.func46, Tryz.ntmps46
  go_wp2_with fail
  refine HCV.out.mono ?_
  rintro e w1 ⟨rfl, hb1⟩
  have HB := Lib.hid hb1
  clear hb1
  go_wp2_with fail
  refine bodyPost_ret (results_tmp2 rfl _ _ _) rfl ?_
  exact ⟨_, rfl, (Row.lit0 w1 w.heap.size HB.out.size).own (by simp), Below.alloc HB.out HB.out.size _⟩
set_option maxRecDepth 100000 in
set_option maxHeartbeats 8000000 in
theorem sPoC_yes (p : Int) (f : Value) (L : List Gt) (w : World) (h : Gats w f L) (hv : circB p L = true) (R : List Trm) (b : Bool) (hR : R = pcV p L) (hb : b = pcOk p L) :
    Calls Tryz.prog 46 #[.int .i64 p, f] w (GivesPB R b w) := by
  obtain ⟨i0, hi, hz0, hz1, hz2⟩ := info_parts infoPoly
  have HCV := Lib.hid (sCircuitValid p f L w h)
  rw [hv] at HCV
  obtain ⟨g, off, cap, rfl, hg, hc⟩ := gats_u h hv
  obtain ⟨hp, hl1, hl2, hall⟩ := circB_iff.1 hv
  have HV := Lib.hid hv
  have HC := Lib.hid hc
  have HP := Lib.hid hp
  have HALL := Lib.hid hall
  have HRR := Lib.hid hR
  have HBB := Lib.hid hb
  clear hall hv hc h hp hR hb
  go_enter Tryz.func46, Tryz.ntmps46
  go_wp2_with fail
  refine HCV.out.mono ?_
  rintro e w1 ⟨rfl, hb1⟩
  have hg1 : g < w1.heap.size := by have := hb1.size; omega
  have HC1 := Lib.hid (fun (j : Nat) (hj : j < L.length) => (HC.out j hj).below hb1 hg)
  have B1 := Lib.hid hb1
  clear hb1
  go_wp2_with fail
  refine (sUsed_some p L HV.out g off cap w1 hg1 HC1.out).mono ?_
  rintro e w2 ⟨V, rfl, hV, hb2⟩
  have B2 := B1.out.trans (hb2.mono B1.out.size)
  have hs2 := B2.size
  have HV2 := Lib.hid (show V = .agg (useC (useF L)).toArray from hV)
  have A0 := ArrB.new w2 102
  have hlen := useC_len (useF L)
  have h1 := all_oneCell_toArray (useC_one (useF L))
  have hT2 : (w2.alloc (.cells (Array.replicate 60 (.bool false)) 102)).there w2.heap.size 0 (useC (useF L)).toArray.size := by simp only [List.size_toArray, hlen]; exact A0.there
  have hI2 : (Tryz.prog.info? 102).map (·.size) = some (useC (useF L)).toArray.size := by simp only [List.size_toArray, hlen]; exact infoB
  have A2 := Lib.hid (arrB_cells A0 (useF L))
  have B3 := Lib.hid (show Below w.heap.size w ((w2.alloc (.cells (Array.replicate 60 (.bool false)) 102)).setCells w2.heap.size 0 (useC (useF L))) from below_setCells _ _ _ _ (Below.alloc B2 hs2 _) hs2)
  clear hb2 hV B2 A0
  go_wp2_with (refine wpList_store_mid rfl 102 _ _ rfl w2.heap.size 0 (useC (useF L)).toArray rfl HV2.out hT2 hI2 h1 ?_)
  obtain ⟨W3, hW3⟩ : ∃ W3, W3 = (w2.alloc (.cells #[.bool false, .bool false, .bool false, .bool false, .bool false, .bool false, .bool false, .bool false, .bool false, .bool false, .bool false, .bool false, .bool false, .bool false, .bool false, .bool false, .bool false, .bool false, .bool false, .bool false, .bool false, .bool false, .bool false, .bool false, .bool false, .bool false, .bool false, .bool false, .bool false, .bool false, .bool false, .bool false, .bool false, .bool false, .bool false, .bool false, .bool false, .bool false, .bool false, .bool false, .bool false, .bool false, .bool false, .bool false, .bool false, .bool false, .bool false, .bool false, .bool false, .bool false, .bool false, .bool false, .bool false, .bool false, .bool false, .bool false, .bool false, .bool false, .bool false, .bool false] 102)).setCells w2.heap.size 0 (useC (useF L)) := ⟨_, rfl⟩
  have HA3 := Lib.hid (show ArrB W3 w2.heap.size (useF L) ∧ Below w.heap.size w W3 by rw [hW3]; exact ⟨A2.out, B3.out⟩)
  rw [← hW3]
  obtain ⟨UB, hUB⟩ : ∃ g, g = w2.heap.size := ⟨_, rfl⟩
  rw [← hUB] at HA3 ⊢
  have H0 := Lib.hid (show PmW p L w UB 0 (.slice (some ⟨W3.heap.size, 0, none⟩) 0 0) (fun _ => undef) (W3.alloc (.cells #[] 29)) from
    ⟨World.ownsRow_lit (size := 1) W3 #[] 0 HA3.out.2.size (by unfold maxLen; omega) rfl, ⟨_, _, rfl, by simp, by have := HA3.out.1.1; omega⟩, fun j hj => by omega, Below.alloc HA3.out.2 HA3.out.2.size _, HA3.out.1.below (Below.alloc (Below.refl _ _) (Nat.le_refl _) _) HA3.out.1.1⟩)
  clear A2 B3 hT2 hI2 h1 hlen hW3 hUB HA3 hs2 HV2
  go_loopw [7, 22] (fun v i wr => ∃ (k : Nat) (F : Nat → Value), k ≤ L.length ∧ i = .int .i64 k ∧ PmW p L w UB k v F wr ∧ ∀ j : Nat, j < k → useF L j = true → pcO p L j = true) (fun _ i _ => L.length - (intOf i).toNat)
  case atStart => exact ⟨0, _, by omega, rfl, H0.out, fun j hj => by omega⟩
  case round =>
    clear H0
    obtain ⟨k, F, hk, rfl, hS, hok⟩ := hrel
    have HOK := Lib.hid hok
    clear hok
    obtain ⟨g5, c5, rfl, hg5, hne5⟩ := hS.sl
    have HS := Lib.hid hS
    have hwr := hS.low.size
    by_cases hlt : k < L.length
    · have hltp : (k : Int) < (L.length : Int) := by omega
      have hk0 : (0 : Int) ≤ (k : Int) := by omega
      have hk60 : (k : Int) < 60 := by omega
      obtain ⟨a0, a1, a2⟩ := (HC.out k hlt).below hS.low hg
      obtain ⟨x, hx⟩ : ∃ x, x = L.getD k default := ⟨_, rfl⟩
      rw [← hx] at a0 a1 a2
      have HX := Lib.hid (show gAt L k = x from hx.symm)
      obtain ⟨q0, _⟩ := hS.arr.2 k (by omega)
      have hUs := hS.arr.1
      have HCS := gOK_cases (HALL.out k hlt)
      obtain ⟨xk, xa, xb⟩ := x
      simp only at a0 a1 a2 HX
      rw [HX.out] at HCS
      obtain ⟨W, hW⟩ : ∃ W, W = (wr.alloc (Obj.cells #[.int .i64 xk, .int .i64 xa, .int .i64 xb] 71)).alloc (.cells #[] 55) := ⟨_, rfl⟩
      have HbW := Lib.hid (show Below wr.heap.size wr W by rw [hW]; exact (by repeat (first | exact Below.refl _ _ | apply Below.drew | apply below_drewN | (refine Below.alloc ?_ (by first | omega | (simp <;> omega)) _))))
      have HSW := Lib.hid (HS.out.on HbW.out)
      have HT0 := Lib.hid (show W.cell? ⟨wr.heap.size, 0, none⟩ = some (.int .i64 xk) ∧ W.cell? ⟨wr.heap.size, 1, none⟩ = some (.int .i64 xa) ∧ W.cell? ⟨wr.heap.size, 2, none⟩ = some (.int .i64 xb) by rw [hW]; refine ⟨?_, ?_, ?_⟩ <;> simp [go_sem])
      have HSZ := Lib.hid (show wr.heap.size < W.heap.size ∧ g5 < W.heap.size by rw [hW]; refine ⟨?_, ?_⟩ <;> simp <;> omega)
      have HW := Lib.hid hW
      clear hW hx hS
      rcases Bool.eq_false_or_eq_true (useF L k) with hu | hu
      · rw [hu] at q0
        have HU := Lib.hid hu
        clear hu
        rcases HCS with ⟨hk0', h0, h1, h2⟩ | ⟨hk0', h0, h1, h2⟩ | ⟨hk0', h0, h1, h2, h3⟩
        · simp only at hk0' h0 h1
          subst hk0'
          have HP1 := Lib.hid (sPower1 xa (by omega))
          have HO := Lib.hid (fun (_ : useF L k = true) => (pcP_in (p := p) (L := L) (j := k) (by rw [HX.out])).2)
          have HE := Lib.hid (pcP_in (p := p) (L := L) (j := k) (by rw [HX.out])).1
          clear h0 h1 h2
          go_wp2_with fail
          rw [← HW.out]
          refine (HP1.out _).mono ?_
          rintro e wA ⟨u, rfl, ho4, hb4⟩
          have HA := Lib.hid (HSW.out.on hb4)
          have HF := Lib.hid (fun (_ : useF L k = true) => show OwnTrms wA w.heap.size u (pcP p L k) ∧ FarT u (some g5) by
            rw [HE.out, HX.out]
            exact ⟨ownT_low ho4 HSW.out.low.size, farT_new ho4 HSZ.out.2⟩)
          obtain ⟨_, af, kf, rfl, _⟩ := ho4
          obtain ⟨nf, hnf⟩ : ∃ nf, nf = [onT xa].length := ⟨_, rfl⟩
          rw [← hnf] at HF ⊢
          clear hb4 hnf a0 a1 a2 q0
          have HAA := Lib.hid (HA.out.on (Below.alloc (Below.refl _ _) (Nat.le_refl _) _ : Below wA.heap.size wA (wA.alloc (.cells #[.slice af nf kf] 29))))
          go_wp2_with (at_builtin; refine wpList_append_lies _ rfl _ _ 86 rfl w.heap.size 29 i0 (.slice none 0 0) 1 24 Tryz.underlying86 hi hz0 hz1 hz2 rfl (by decide) _ _ _ rfl HAA.out.row ⟨wA.heap.size, 0, none⟩ 1 1 [.slice af nf kf] rfl rfl (by intro j u hj; match j, hj with | 0, hj => (simp at hj; subst hj; simp [Addr.add, go_sem])) (by intro u hu; simp at hu; subst hu; rfl) (by omega) (by unfold maxLen; omega) (by omega) (by have := HAA.out.low.size; exact this) _ rfl ?_)
          intro g8 c8 w8 hown8 hgrow8 hat8 hlt8
          have H8 := Lib.hid (HAA.out.app (fun hu => ⟨(HF.out hu).1.below (Below.alloc (Below.refl _ _) (Nat.le_refl _) _), (HF.out hu).2⟩) hown8 hgrow8 (by simpa using hat8) hlt8)
          clear hown8 hgrow8 hat8 hlt8 HAA
          go_wp2_with fail
          go_roundw
          case rel => exact ⟨k + 1, _, by omega, by go_num, H8.out, fun j hj hu => by by_cases e : j = k; (· subst e; exact HO.out hu); (· exact HOK.out j (by omega) hu)⟩
          case measure => simp [intOf]; omega
        · simp only at hk0' h0 h1
          subst hk0'
          have hpb := isP_bd HP.out
          have HSC := Lib.hid (fun f w' (h : Trms w' f [⟨0, 0, 0, 1⟩]) => show Calls Tryz.prog 63 #[.int .i64 p, f, .int .i64 xa] w' (GivesTrmsS (cnL xa) w') by
            rw [← scl_cn (p := p) (a := xa) (by omega)]
            exact sScaled p f _ xa w' HP.out (one_valid p HP.out) (isE_iff.2 (by omega)) h)
          have HO := Lib.hid (fun (_ : useF L k = true) => (pcP_cn (p := p) (L := L) (j := k) (by rw [HX.out])).2)
          have HE := Lib.hid (pcP_cn (p := p) (L := L) (j := k) (by rw [HX.out])).1
          clear h0 h1 h2 hpb
          go_wp2_with fail
          rw [← HW.out]
          obtain ⟨d0, d1, d2⟩ := HT0.out
          clear a0 a1 a2 q0
          go_region_held3 (fun w' => w'.cell? ⟨wr.heap.size, 1, none⟩ = some (.int .i64 xa)) (first | exact keep1 hb1 (by simpa using HSZ.out.1) (by assumption) | exact keep1 hb2 (by have := hb1.size; simp at this; have := HSZ.out.1; omega) (by assumption) | go_keep)
            (first | (go_at_call 64; refine (sOne _).mono ?_; rintro e w1 ⟨u1, rfl, ho1, hb1⟩) | (go_at_call 63; refine (HSC.out _ _ ho1.trms).mono ?_; rintro e wA ⟨u, rfl, ho4, hb2⟩))
          all_goals
            have hs1 := hb1.size
            simp at hs1
            have HA := Lib.hid (HSW.out.on (((Below.drew (Below.refl _ _) : Below W.heap.size W W.drew).trans (by simpa using hb1)).trans (hb2.mono hs1)))
            have HF := Lib.hid (fun (_ : useF L k = true) => show OwnTrms wA w.heap.size u (pcP p L k) ∧ FarT u (some g5) by
              rw [HE.out, HX.out]
              exact ⟨ownT_low ho4 (by have := HSW.out.low.size; omega), farT_new ho4 (by have := HSZ.out.2; omega)⟩)
            obtain ⟨_, af, kf, rfl, _⟩ := ho4
            obtain ⟨nf, hnf⟩ : ∃ nf, nf = (cnL xa).length := ⟨_, rfl⟩
            rw [← hnf] at HF ⊢
            clear hb1 hb2 hnf hs1 ho1 d0 d1 d2
            have HAA := Lib.hid (HA.out.on (Below.alloc (Below.refl _ _) (Nat.le_refl _) _ : Below wA.heap.size wA (wA.alloc (.cells #[.slice af nf kf] 29))))
            go_wp2_with (at_builtin; refine wpList_append_lies _ rfl _ _ 86 rfl w.heap.size 29 i0 (.slice none 0 0) 1 24 Tryz.underlying86 hi hz0 hz1 hz2 rfl (by decide) _ _ _ rfl HAA.out.row ⟨wA.heap.size, 0, none⟩ 1 1 [.slice af nf kf] rfl rfl (by intro j u hj; match j, hj with | 0, hj => (simp at hj; subst hj; simp [Addr.add, go_sem])) (by intro u hu; simp at hu; subst hu; rfl) (by omega) (by unfold maxLen; omega) (by omega) (by have := HAA.out.low.size; exact this) _ rfl ?_)
            intro g8 c8 w8 hown8 hgrow8 hat8 hlt8
            have H8 := Lib.hid (HAA.out.app (fun hu => ⟨(HF.out hu).1.below (Below.alloc (Below.refl _ _) (Nat.le_refl _) _), (HF.out hu).2⟩) hown8 hgrow8 (by simpa using hat8) hlt8)
            clear hown8 hgrow8 hat8 hlt8 HAA
            go_wp2_with fail
            go_roundw
            case rel => exact ⟨k + 1, _, by omega, by go_num, H8.out, fun j hj hu => by by_cases e : j = k; (· subst e; exact HO.out hu); (· exact HOK.out j (by omega) hu)⟩
            case measure => simp [intOf]; omega
        · simp only at hk0' h0 h1 h2 h3
          obtain ⟨ja, rfl⟩ := Int.eq_ofNat_of_zero_le h0
          obtain ⟨jb, rfl⟩ := Int.eq_ofNat_of_zero_le h2
          have hja : ja < k := by omega
          have hjb : jb < k := by omega
          have hjoin : joinsB (gAt L k) = true := by rw [HX.out]; simpa [joinsB] using hk0'
          obtain ⟨u1, u2⟩ := use_closed HV.out hlt HU.out hjoin
          rw [HX.out] at u1 u2
          simp only [Int.toNat_natCast] at u1 u2
          obtain ⟨p1, _⟩ := HSW.out.pol ja hja u1
          obtain ⟨p2, _⟩ := HSW.out.pol jb hjb u2
          have c1 := HSW.out.cell hja
          have c2 := HSW.out.cell hjb
          have HAD := Lib.hid (fun w' (hb : Below W.heap.size W w') => sAddPoly p _ _ _ _ w' (p1.trms.below hb) (p2.trms.below hb))
          have HMU := Lib.hid (fun w' (hb : Below W.heap.size W w') => sMulPoly p _ _ _ _ w' (p1.trms.below hb) (p2.trms.below hb))
          obtain ⟨_, e1, k1, he1, _⟩ := p1
          obtain ⟨_, e2, k2, he2, _⟩ := p2
          rw [he1] at c1 HAD HMU
          rw [he2] at c2 HAD HMU
          have ja0 : (0 : Int) ≤ ja := by omega
          have jb0 : (0 : Int) ≤ jb := by omega
          have jan : (ja : Int) < (k : Int) := by omega
          have jbn : (jb : Int) < (k : Int) := by omega
          clear h0 h1 h2 h3 hjoin u1 u2 he1 he2
          rcases hk0' with rfl | rfl
          · obtain ⟨hE, hO⟩ := pcP_sum HV.out hlt (by rw [HX.out])
            rw [HX.out] at hE hO
            simp only [Int.toNat_natCast] at hE hO
            rw [← hE, ← hO] at HAD
            clear hE hO HMU
            rcases Bool.eq_false_or_eq_true (pcO p L k) with ho | ho
            · rw [ho] at HAD
              have HO := Lib.hid (fun (_ : useF L k = true) => ho)
              clear ho
              go_wp2_with fail
              rw [← HW.out]
              obtain ⟨d0, d1, d2⟩ := HT0.out
              clear a0 a1 a2 q0
              go_region_held3 (fun w' => w'.cell? ⟨wr.heap.size, 1, none⟩ = some (.int .i64 ja) ∧ w'.cell? ⟨wr.heap.size, 2, none⟩ = some (.int .i64 jb) ∧ w'.cell? ⟨g5, ja, none⟩ = some (.slice e1 (pcP p L ja).length k1) ∧ w'.cell? ⟨g5, jb, none⟩ = some (.slice e2 (pcP p L jb).length k2)) (first | exact keepPl hb1 (by simpa using HSZ.out.1) (by simpa using HSZ.out.2) (by assumption) | go_keep)
                (first | (go_at_call 47; refine (HAD.out _ (Below.drew (Below.refl _ _))).mono ?_; rintro e wA ⟨u, rfl, ho4, hb1⟩))
              all_goals
                have hs1 := hb1.size
                simp at hs1
                have HA := Lib.hid (HSW.out.on ((Below.drew (Below.refl _ _) : Below W.heap.size W W.drew).trans (by simpa using hb1)))
                have HF := Lib.hid (fun (_ : useF L k = true) => show OwnTrms wA w.heap.size u (pcP p L k) ∧ FarT u (some g5) from
                  ⟨ownT_low ho4 (by have := HSW.out.low.size; simp; omega), farT_new ho4 (by have := HSZ.out.2; simp; omega)⟩)
                obtain ⟨_, af, kf, rfl, _⟩ := ho4
                obtain ⟨nf, hnf⟩ : ∃ nf, nf = (pcP p L k).length := ⟨_, rfl⟩
                rw [← hnf] at HF ⊢
                clear hb1 hnf hs1 d0 d1 d2 c1 c2
                have HAA := Lib.hid (HA.out.on (Below.alloc (Below.refl _ _) (Nat.le_refl _) _ : Below wA.heap.size wA (wA.alloc (.cells #[.slice af nf kf] 29))))
                go_wp2_with (at_builtin; refine wpList_append_lies _ rfl _ _ 86 rfl w.heap.size 29 i0 (.slice none 0 0) 1 24 Tryz.underlying86 hi hz0 hz1 hz2 rfl (by decide) _ _ _ rfl HAA.out.row ⟨wA.heap.size, 0, none⟩ 1 1 [.slice af nf kf] rfl rfl (by intro j u hj; match j, hj with | 0, hj => (simp at hj; subst hj; simp [Addr.add, go_sem])) (by intro u hu; simp at hu; subst hu; rfl) (by omega) (by unfold maxLen; omega) (by omega) (by have := HAA.out.low.size; exact this) _ rfl ?_)
                intro g8 c8 w8 hown8 hgrow8 hat8 hlt8
                have H8 := Lib.hid (HAA.out.app (fun hu => ⟨(HF.out hu).1.below (Below.alloc (Below.refl _ _) (Nat.le_refl _) _), (HF.out hu).2⟩) hown8 hgrow8 (by simpa using hat8) hlt8)
                clear hown8 hgrow8 hat8 hlt8 HAA
                go_wp2_with fail
                go_roundw
                case rel => exact ⟨k + 1, _, by omega, by go_num, H8.out, fun j hj hu => by by_cases e : j = k; (· subst e; exact HO.out hu); (· exact HOK.out j (by omega) hu)⟩
                case measure => simp [intOf]; omega
            · rw [ho] at HAD
              have HE := Lib.hid (pc_bad hlt HU.out ho)
              have hz : b = false := by rw [HBB.out, HE.out]
              have hz2 : R = [] := by rw [HRR.out]; unfold pcV; rw [HE.out]; rfl
              subst hz hz2
              clear ho
              go_wp2_with fail
              rw [← HW.out]
              obtain ⟨d0, d1, d2⟩ := HT0.out
              clear a0 a1 a2 q0
              go_region_held3 (fun w' => w'.cell? ⟨wr.heap.size, 1, none⟩ = some (.int .i64 ja) ∧ w'.cell? ⟨wr.heap.size, 2, none⟩ = some (.int .i64 jb) ∧ w'.cell? ⟨g5, ja, none⟩ = some (.slice e1 (pcP p L ja).length k1) ∧ w'.cell? ⟨g5, jb, none⟩ = some (.slice e2 (pcP p L jb).length k2)) (first | exact keepPl hb1 (by simpa using HSZ.out.1) (by simpa using HSZ.out.2) (by assumption) | go_keep)
                (first | (go_at_call 47; refine (HAD.out _ (Below.drew (Below.refl _ _))).mono ?_; rintro e wA ⟨u, rfl, ho4, hb1⟩))
              all_goals
                have HQ := Lib.hid (HSW.out.low.trans (((Below.drew (Below.refl _ _) : Below W.heap.size W W.drew).trans (by simpa using hb1)).mono HSW.out.low.size))
                obtain ⟨_, af, kf, rfl, _⟩ := ho4
                clear hb1 d0 d1 d2 c1 c2
                go_wp2_with fail
                refine bodyPost_ret (results_tmp2 rfl _ _ _) rfl ?_
                exact ⟨_, rfl, (Row.lit0 wA w.heap.size HQ.out.size).own (by simp), Below.alloc HQ.out HQ.out.size _⟩
          · obtain ⟨hE, hO⟩ := pcP_mul HV.out hlt (by rw [HX.out])
            rw [HX.out] at hE hO
            simp only [Int.toNat_natCast] at hE hO
            rw [← hE, ← hO] at HMU
            clear hE hO HAD
            rcases Bool.eq_false_or_eq_true (pcO p L k) with ho | ho
            · rw [ho] at HMU
              have HO := Lib.hid (fun (_ : useF L k = true) => ho)
              clear ho
              go_wp2_with fail
              rw [← HW.out]
              obtain ⟨d0, d1, d2⟩ := HT0.out
              clear a0 a1 a2 q0
              go_region_held3 (fun w' => w'.cell? ⟨wr.heap.size, 1, none⟩ = some (.int .i64 ja) ∧ w'.cell? ⟨wr.heap.size, 2, none⟩ = some (.int .i64 jb) ∧ w'.cell? ⟨g5, ja, none⟩ = some (.slice e1 (pcP p L ja).length k1) ∧ w'.cell? ⟨g5, jb, none⟩ = some (.slice e2 (pcP p L jb).length k2)) (first | exact keepPl hb1 (by simpa using HSZ.out.1) (by simpa using HSZ.out.2) (by assumption) | go_keep)
                (first | (go_at_call 48; refine (HMU.out _ (Below.drew (Below.refl _ _))).mono ?_; rintro e wA ⟨u, rfl, ho4, hb1⟩))
              all_goals
                have hs1 := hb1.size
                simp at hs1
                have HA := Lib.hid (HSW.out.on ((Below.drew (Below.refl _ _) : Below W.heap.size W W.drew).trans (by simpa using hb1)))
                have HF := Lib.hid (fun (_ : useF L k = true) => show OwnTrms wA w.heap.size u (pcP p L k) ∧ FarT u (some g5) from
                  ⟨ownT_low ho4 (by have := HSW.out.low.size; simp; omega), farT_new ho4 (by have := HSZ.out.2; simp; omega)⟩)
                obtain ⟨_, af, kf, rfl, _⟩ := ho4
                obtain ⟨nf, hnf⟩ : ∃ nf, nf = (pcP p L k).length := ⟨_, rfl⟩
                rw [← hnf] at HF ⊢
                clear hb1 hnf hs1 d0 d1 d2 c1 c2
                have HAA := Lib.hid (HA.out.on (Below.alloc (Below.refl _ _) (Nat.le_refl _) _ : Below wA.heap.size wA (wA.alloc (.cells #[.slice af nf kf] 29))))
                go_wp2_with (at_builtin; refine wpList_append_lies _ rfl _ _ 86 rfl w.heap.size 29 i0 (.slice none 0 0) 1 24 Tryz.underlying86 hi hz0 hz1 hz2 rfl (by decide) _ _ _ rfl HAA.out.row ⟨wA.heap.size, 0, none⟩ 1 1 [.slice af nf kf] rfl rfl (by intro j u hj; match j, hj with | 0, hj => (simp at hj; subst hj; simp [Addr.add, go_sem])) (by intro u hu; simp at hu; subst hu; rfl) (by omega) (by unfold maxLen; omega) (by omega) (by have := HAA.out.low.size; exact this) _ rfl ?_)
                intro g8 c8 w8 hown8 hgrow8 hat8 hlt8
                have H8 := Lib.hid (HAA.out.app (fun hu => ⟨(HF.out hu).1.below (Below.alloc (Below.refl _ _) (Nat.le_refl _) _), (HF.out hu).2⟩) hown8 hgrow8 (by simpa using hat8) hlt8)
                clear hown8 hgrow8 hat8 hlt8 HAA
                go_wp2_with fail
                go_roundw
                case rel => exact ⟨k + 1, _, by omega, by go_num, H8.out, fun j hj hu => by by_cases e : j = k; (· subst e; exact HO.out hu); (· exact HOK.out j (by omega) hu)⟩
                case measure => simp [intOf]; omega
            · rw [ho] at HMU
              have HE := Lib.hid (pc_bad hlt HU.out ho)
              have hz : b = false := by rw [HBB.out, HE.out]
              have hz2 : R = [] := by rw [HRR.out]; unfold pcV; rw [HE.out]; rfl
              subst hz hz2
              clear ho
              go_wp2_with fail
              rw [← HW.out]
              obtain ⟨d0, d1, d2⟩ := HT0.out
              clear a0 a1 a2 q0
              go_region_held3 (fun w' => w'.cell? ⟨wr.heap.size, 1, none⟩ = some (.int .i64 ja) ∧ w'.cell? ⟨wr.heap.size, 2, none⟩ = some (.int .i64 jb) ∧ w'.cell? ⟨g5, ja, none⟩ = some (.slice e1 (pcP p L ja).length k1) ∧ w'.cell? ⟨g5, jb, none⟩ = some (.slice e2 (pcP p L jb).length k2)) (first | exact keepPl hb1 (by simpa using HSZ.out.1) (by simpa using HSZ.out.2) (by assumption) | go_keep)
                (first | (go_at_call 48; refine (HMU.out _ (Below.drew (Below.refl _ _))).mono ?_; rintro e wA ⟨u, rfl, ho4, hb1⟩))
              all_goals
                have HQ := Lib.hid (HSW.out.low.trans (((Below.drew (Below.refl _ _) : Below W.heap.size W W.drew).trans (by simpa using hb1)).mono HSW.out.low.size))
                obtain ⟨_, af, kf, rfl, _⟩ := ho4
                clear hb1 d0 d1 d2 c1 c2
                go_wp2_with fail
                refine bodyPost_ret (results_tmp2 rfl _ _ _) rfl ?_
                exact ⟨_, rfl, (Row.lit0 wA w.heap.size HQ.out.size).own (by simp), Below.alloc HQ.out HQ.out.size _⟩
      · rw [hu] at q0
        have HA := Lib.hid HSW.out
        have HF := Lib.hid (fun (h : useF L k = true) => show OwnTrms W w.heap.size (.slice (some ⟨wr.heap.size + 1, 0, none⟩) 0 0) (pcP p L k) ∧ FarT (.slice (some ⟨wr.heap.size + 1, 0, none⟩) 0 0) (some g5) by rw [hu] at h; cases h)
        have HO := Lib.hid (fun (h : useF L k = true) => show pcO p L k = true by rw [hu] at h; cases h)
        clear hu
        go_upto_region 19 with fail
        rw [← HW.out]
        clear a0 a1 a2 q0
        have HAA := Lib.hid (HA.out.on (Below.alloc (Below.refl _ _) (Nat.le_refl _) _ : Below W.heap.size W (W.alloc (.cells #[.slice (some ⟨wr.heap.size + 1, 0, none⟩) 0 0] 29))))
        go_wp2_with (at_builtin; refine wpList_append_lies _ rfl _ _ 86 rfl w.heap.size 29 i0 (.slice none 0 0) 1 24 Tryz.underlying86 hi hz0 hz1 hz2 rfl (by decide) _ _ _ rfl HAA.out.row ⟨W.heap.size, 0, none⟩ 1 1 [.slice (some ⟨wr.heap.size + 1, 0, none⟩) 0 0] rfl rfl (by intro j u hj; match j, hj with | 0, hj => (simp at hj; subst hj; simp [Addr.add, go_sem])) (by intro u hu; simp at hu; subst hu; rfl) (by omega) (by unfold maxLen; omega) (by omega) (by have := HAA.out.low.size; exact this) _ rfl ?_)
        intro g8 c8 w8 hown8 hgrow8 hat8 hlt8
        have H8 := Lib.hid (HAA.out.app (fun hu => ⟨(HF.out hu).1.below (Below.alloc (Below.refl _ _) (Nat.le_refl _) _), (HF.out hu).2⟩) hown8 hgrow8 (by simpa using hat8) hlt8)
        clear hown8 hgrow8 hat8 hlt8 HAA
        go_wp2_with fail
        go_roundw
        case rel => exact ⟨k + 1, _, by omega, by go_num, H8.out, fun j hj hu => by by_cases e : j = k; (· subst e; exact HO.out hu); (· exact HOK.out j (by omega) hu)⟩
        case measure => simp [intOf]; omega
    · have hkl : k = L.length := by omega
      subst hkl
      obtain ⟨m, hm⟩ : ∃ m, L.length = m + 1 := ⟨L.length - 1, by omega⟩
      have hum : useF L m = true := by
        have := useF_last HV.out
        rwa [show L.length - 1 = m by omega] at this
      have hzz : pcOk p L = true := pc_good HV.out HOK.out
      have hz : b = true := by rw [HBB.out, hzz]
      have hz2 : R = pcP p L m := by rw [HRR.out]; unfold pcV; rw [hzz, if_pos rfl]; congr 1; omega
      subst hz hz2
      have c9 := HS.out.cell (j := m) (by omega)
      have HO9 := Lib.hid (HS.out.pol m (by omega) hum).1
      obtain ⟨_, a9, k9, he9, _⟩ := HO9.out
      rw [he9] at c9 HO9
      have hmm : IntKind.i64.wrap ((L.length : Int) - 1) = (m : Int) := by rw [IntWalk.i64_in _ (by omega)]; omega
      have hm0 : (0 : Int) ≤ (m : Int) := by omega
      have hmL : (m : Int) < (L.length : Int) := by omega
      have HQ := Lib.hid HS.out.low
      clear hS hzz he9 hum hm
      go_wp2_with fail
      refine bodyPost_ret (results_tmp2 rfl _ _ _) rfl ?_
      exact ⟨_, rfl, HO9.out, HQ.out⟩
theorem sPolyOfCircuit (p : Int) (f : Value) (L : List Gt) (w : World) (h : Gats w f L) :
    Calls Tryz.prog 46 #[.int .i64 p, f] w (GivesPB (pcV p L) (pcOk p L) w) := by
  cases hv : circB p L
  · rw [(pc_no hv).1, (pc_no hv).2]
    exact sPoC_no p f L w h hv
  · exact sPoC_yes p f L w h hv _ _ rfl rfl
end Go.Proofs.YtoeghbcolpailaaGreat
