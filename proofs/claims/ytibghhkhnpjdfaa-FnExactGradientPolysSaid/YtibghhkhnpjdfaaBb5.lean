/-
  GradientAt, of the model and of the program. Conditions: what the slice holds is known.
-/
import Derived.Test.YtibghhkhnpjdfaaBa28
import Derived.Test.YtibghhkhnpjdfaaBa26
import Derived.Deep.Cut
namespace Go.Proofs.Ytibghhkhnpjdfaa
open Go.RowKit
/-- whether the arguments are a gradient and a point -/
def gaB (p : Int) (L : List Gt) (a b c x y z : Int) : Bool := gvB p L a b c && isE3 p x y z
/-- the value of a result -/
def gaR (p : Int) (L : List Gt) (x y z : Int) (k : Int) : Int := if k < 0 then 0 else (evL p x y z L L.length).getD k.toNat 0
def gaV (p : Int) (L : List Gt) (a b c x y z k : Int) : Int := if gaB p L a b c x y z = true then gaR p L x y z k else 0
theorem idxI (a b c : Int) (k : Nat) (hk : k < 3) (w : World) : (Instr.index 35 (.agg #[.int .i64 a, .int .i64 b, .int .i64 c]) (.int .i64 (k : Int))).run Try.prog w = .ok (.int .i64 (coord a b c (k : Int))) w := by
  have h3 : k = 0 ∨ k = 1 ∨ k = 2 := by omega
  rcases h3 with rfl | rfl | rfl
  · exact idx0 _ _ _ w
  · exact idx1 _ _ _ w
  · exact idx2 _ _ _ w
/-- three cells, of which the first k are filled -/
structure OutW (w : World) (q : Nat) (R : Nat → Int) (k : Nat) : Prop where
  lt : q < w.heap.size
  c : ∀ j, j < 3 → w.cell? ⟨q, j, none⟩ = some (.int .i64 (if j < k then R j else 0))
  f : ∀ j, j < 3 → w.frozen? ⟨q, j, none⟩ = false
theorem OutW.below {w w' : World} {q k : Nat} {R : Nat → Int} (h : OutW w q R k) (hb : Below w.heap.size w w') : OutW w' q R k :=
  ⟨Nat.lt_of_lt_of_le h.lt hb.size, fun j hj => by rw [hb.cell (p := ⟨q, j, none⟩) h.lt]; exact h.c j hj, fun j hj => by rw [hb.frozen (p := ⟨q, j, none⟩) h.lt]; exact h.f j hj⟩
theorem OutW.zero {w : World} {q k : Nat} {R : Nat → Int} (h : OutW w q R k) (hk : R k = 0) : OutW w q R (k + 1) :=
  ⟨h.lt, fun j hj => by
    rw [h.c j hj]
    by_cases e : j = k
    · subst e; simp [hk]
    · have : (j < k + 1) = (j < k) := by rw [eq_iff_iff]; omega
      simp only [this], h.f⟩
theorem OutW.set {w : World} {q k : Nat} {R : Nat → Int} (h : OutW w q R k) (hk : k < 3) : OutW (w.setCell ⟨q, k, none⟩ (.int .i64 (R k))) q R (k + 1) :=
  ⟨by simpa using h.lt, fun j hj => by
    by_cases e : j = k
    · subst e
      rw [World.cell?_setCell_same _ _ _ (h.c j hj)]
      simp
    · rw [World.cell?_setCell_other _ _ _ _ (addr_ne (by omega)), h.c j hj]
      have : (j < k + 1) = (j < k) := by rw [eq_iff_iff]; omega
      simp only [this], fun j hj => by rw [World.frozen?_setCell]; exact h.f j hj⟩
theorem OutW.far {w : World} {q k G o : Nat} {R : Nat → Int} (h : OutW w q R k) (hG : G ≠ q) (u : Value) : OutW (w.setCell ⟨G, o, none⟩ u) q R k :=
  ⟨by simpa using h.lt, fun j hj => by rw [World.cell?_setCell_other _ _ _ _ (addr_ne (by omega))]; exact h.c j hj, fun j hj => by rw [World.frozen?_setCell]; exact h.f j hj⟩
theorem ownI_at {w : World} {B n : Nat} {v : Value} {M : List Int} (h : OwnInts w B v M) (hn : M.length = n) (h0 : 0 < n) :
    ∃ g off cap, v = .slice (some ⟨g, off, none⟩) n cap ∧ B ≤ g ∧ g < w.heap.size ∧ ∀ j, j < n → w.cell? ⟨g, off + j, none⟩ = some (.int .i64 (M.getD j 0)) := by
  obtain ⟨_, a, cap, hv, h2⟩ := h
  rcases h2 with h2 | ⟨g, off, ha, hB, hg, hc, _⟩
  · rw [h2] at hn; simp at hn; omega
  · exact ⟨g, off, cap, by rw [hv, ha, hn], hB, hg, fun j hj => hc j (by omega)⟩
theorem OutW.all {w : World} {q : Nat} {R : Nat → Int} (h : OutW w q R 3) : w.cell? ⟨q, 0, none⟩ = some (.int .i64 (R 0)) ∧ w.cell? ⟨q, 1, none⟩ = some (.int .i64 (R 1)) ∧ w.cell? ⟨q, 2, none⟩ = some (.int .i64 (R 2)) :=
  ⟨h.c 0 (by omega), h.c 1 (by omega), h.c 2 (by omega)⟩
theorem gaB_place {p : Int} {L : List Gt} {a b c x y z : Int} (h : gaB p L a b c x y z = true) : circB p L = true ∧ isE3 p x y z = true ∧ ∀ k : Nat, k < 3 → -1 ≤ coord a b c (k : Int) ∧ coord a b c (k : Int) < (L.length : Int) := by
  unfold gaB gvB plB inB at h
  simp only [Bool.and_eq_true, decide_eq_true_eq] at h
  obtain ⟨⟨⟨ha, hb, hc⟩, hv⟩, he⟩ := h
  refine ⟨hv, he, fun k hk => ?_⟩
  have h3 : k = 0 ∨ k = 1 ∨ k = 2 := by omega
  rcases h3 with rfl | rfl | rfl <;> simp [coord] <;> omega

set_option maxRecDepth 100000 in
set_option maxHeartbeats 8000000 in
theorem sGrAt (p : Int) (v : Value) (L : List Gt) (a b c x y z : Int) (w : World) (h : Gats w v L) :
    Calls Try.prog 83 #[.int .i64 p, .agg #[v, .int .i64 a, .int .i64 b, .int .i64 c], .agg #[.int .i64 x, .int .i64 y, .int .i64 z]] w fun e w' => e = .returned (.tuple #[.agg #[.int .i64 (gaV p L a b c x y z a), .int .i64 (gaV p L a b c x y z b), .int .i64 (gaV p L a b c x y z c)], .bool (gaB p L a b c x y z)]) ∧ Below w.heap.size w w' := by
  obtain ⟨n, hn⟩ : ∃ n, n = w.heap.size := ⟨_, rfl⟩
  obtain ⟨hl, a9, c9, rfl⟩ := gats_len h
  obtain ⟨W, hW⟩ : ∃ W, W = ((w.alloc (Obj.cells #[.slice a9 L.length c9, .int .i64 a, .int .i64 b, .int .i64 c] 78)).alloc (Obj.cells #[.int .i64 x, .int .i64 y, .int .i64 z] 35)).alloc (Obj.cells #[.int .i64 0, .int .i64 0, .int .i64 0] 35) := ⟨_, rfl⟩
  have hG : GrAt W n (.slice a9 L.length c9) a b c := by rw [hW, hn]; refine ⟨?_, ?_, ?_, ?_⟩ <;> simp [go_sem]
  have hP : PtAt W (n + 1) x y z := by rw [hW, hn]; refine ⟨?_, ?_, ?_⟩ <;> simp [go_sem]
  have hZ : OutW W (n + 1 + 1) (fun _ => 0) 0 := by
    rw [hW, hn]
    refine ⟨by simp, fun j hj => ?_, fun j hj => World.frozen?_alloc_at _ _ _ j (by simp)⟩
    have h3 : j = 0 ∨ j = 1 ∨ j = 2 := by omega
    rcases h3 with rfl | rfl | rfl <;> simp [go_sem]
  have bW : Below n w W := by rw [hW, hn]; exact (by repeat (first | exact Below.refl _ _ | apply Below.drew | apply below_drewN | (refine Below.alloc ?_ (by first | omega | (simp <;> omega)) _)))
  have hsW : n + 2 < W.heap.size := by rw [hW, hn]; simp
  have Q := Lib.hid (h.below (hn ▸ bW))
  have HW := Lib.hid hW
  rw [← hn]
  clear hW h
  obtain ⟨V, hV⟩ : ∃ V, V = W.alloc (Obj.cells #[.int .i64 0, .int .i64 0, .int .i64 0] 35) := ⟨_, rfl⟩
  obtain ⟨q, hq⟩ : ∃ q, q = n + 1 + 1 + 1 := ⟨_, rfl⟩
  have hqs : q = W.heap.size := by rw [hq, HW.out, hn]; simp
  have bV : Below W.heap.size W V := by rw [hV]; exact Below.alloc (Below.refl _ _) (Nat.le_refl _) _
  have hO : ∀ R : Nat → Int, OutW V q R 0 := fun R => by
    rw [hV, hqs]
    refine ⟨by simp, fun j hj => ?_, fun j hj => World.frozen?_alloc_at _ _ _ j rfl⟩
    have h3 : j = 0 ∨ j = 1 ∨ j = 2 := by omega
    rcases h3 with rfl | rfl | rfl <;> simp [go_sem]
  have HO := Lib.hid hO
  have HV := Lib.hid hV
  have hnq : n + 2 < q := by omega
  have hsV : n + 2 < V.heap.size := Nat.lt_of_lt_of_le hsW bV.size
  have QV := Lib.hid (Q.out.below bV)
  have HG := Lib.hid (hG.below bV (by omega))
  have HP := Lib.hid (hP.below bV (by omega))
  have HZ := Lib.hid (hZ.below bV)
  have HB := Lib.hid (bW.trans (bV.mono (by omega)))
  have HVA := Lib.hid (sGrValid p _ L a b c V QV.out)
  clear hG hP hZ bW bV Q
  go_enter Try.func83, Try.ntmps83
  go_upto_region 2 with fail
  rw [← HW.out, ← HV.out, ← hn, ← hq]
  clear HW HV hV hsW hqs hq hn
  obtain ⟨g0, g1, g2, g3⟩ := HG.out
  obtain ⟨p0, p1, p2⟩ := HP.out
  go_wp2_with fail
  refine HVA.out.mono ?_
  rintro e w2 ⟨rfl, hb⟩
  have HG2 := Lib.hid (HG.out.below hb (by omega))
  have HP2 := Lib.hid (HP.out.below hb (by omega))
  have HZ2 := Lib.hid (HZ.out.below hb)
  have HB2 := Lib.hid (HB.out.trans (hb.mono (by omega)))
  have Q2 := Lib.hid (QV.out.below hb)
  have hs2 : n + 2 < w2.heap.size := Nat.lt_of_lt_of_le hsV hb.size
  have HO2 := Lib.hid (fun R => (HO.out R).below hb)
  have hq2 : q < w2.heap.size := (HO2.out fun _ => 0).lt
  clear hb g0 g1 g2 g3 p0 p1 p2 HG HP HZ HB QV HVA HO hsV
  obtain ⟨g0, g1, g2, g3⟩ := HG2.out
  obtain ⟨p0, p1, p2⟩ := HP2.out
  obtain ⟨z0, z1, z2⟩ : w2.cell? ⟨n + 1 + 1, 0, none⟩ = some (.int .i64 0) ∧ w2.cell? ⟨n + 1 + 1, 1, none⟩ = some (.int .i64 0) ∧ w2.cell? ⟨n + 1 + 1, 2, none⟩ = some (.int .i64 0) := ⟨HZ2.out.c 0 (by omega), HZ2.out.c 1 (by omega), HZ2.out.c 2 (by omega)⟩
  have y0 := HZ2.out.f 0 (by omega)
  have y1 := HZ2.out.f 1 (by omega)
  have y2 := HZ2.out.f 2 (by omega)
  rcases Bool.eq_false_or_eq_true (gvB p L a b c) with hg | hg
  · have hpp : isP p = true := by
      unfold gvB at hg
      simp only [Bool.and_eq_true] at hg
      exact (circB_iff.1 hg.2).1
    have HEL := Lib.hid (fun r (hr : isE3 p x y z = r) => sEl3 r p x y z hpp hr (n + 1) w2 HP2.out)
    rcases Bool.eq_false_or_eq_true (isE3 p x y z) with he | he
    · have hab : gaB p L a b c x y z = true := by unfold gaB; rw [hg, he]; rfl
      have hpl := gaB_place hab
      have e1 : ∀ k, gaV p L a b c x y z k = gaR p L x y z k := fun k => by unfold gaV; rw [if_pos hab]
      have HAB := Lib.hid (And.intro hab e1)
      rw [hg]
      have HPL := Lib.hid hpl
      have HEY := Lib.hid (HEL.out true he)
      clear hg hpp HEL he hab hpl e1
      go_wp2_with fail
      refine HEY.out.mono ?_
      rintro e w' ⟨rfl, rfl⟩
      clear HEY
      obtain ⟨g9, o9, cap9, hsl, hg9, hc9⟩ := gats_slice Q2.out HPL.out.1
      injection hsl with h91 h92 h93
      subst h91 h93
      have HEV := Lib.hid (sEval_some p x y z L HPL.out.1 HPL.out.2.1 g9 o9 c9 w2 hg9 hc9)
      go_wp2_with fail
      refine HEV.out.mono ?_
      rintro e w3 ⟨u3, rfl, ho, hb⟩
      clear HEV
      have hsz3 : w2.heap.size ≤ w3.heap.size := hb.size
      have HO3 := Lib.hid ((HO2.out fun j => gaR p L x y z (coord a b c (j : Int))).below hb)
      have W3 := Lib.hid (show GrAt w3 n (.slice (some ⟨g9, o9, none⟩) L.length c9) a b c ∧ OutW w3 (n + 1 + 1) (fun _ => 0) 0 ∧ Below n w w3 from ⟨HG2.out.below hb (by omega), HZ2.out.below hb, HB2.out.trans (hb.mono (by omega))⟩)
      have hq3 : w2.heap.size ≤ w3.heap.size := hb.size
      obtain ⟨g, off, cap, rfl, hgB, hgl, hcell⟩ := ownI_at ho (evL_len p x y z L L.length) (circB_iff.1 HPL.out.1).2.1
      have hqg : q ≠ g := by omega
      have hqn : q ≠ n + 1 + 1 := by omega
      have hg3 : g ≠ n + 1 + 1 := by omega
      have hnq' : n ≤ q := by omega
      have hL60 := (circB_iff.1 HPL.out.1).2.2.1
      have HCE := Lib.hid hcell
      clear hb ho hcell y0 y1 y2 z0 z1 z2 g0 g1 g2 g3 p0 p1 p2 HG2 HP2 HZ2 HB2 Q2 HO2
      obtain ⟨g0, g1, g2, g3⟩ := W3.out.1
      go_wp2_with fail
      go_loopw [31] (fun i wr => ∃ k : Nat, k ≤ 3 ∧ i = .int .i64 k ∧ OutW wr q (fun j => gaR p L x y z (coord a b c (j : Int))) k ∧ OutW wr (n + 1 + 1) (fun _ => 0) 0 ∧ Below n w wr ∧ (∀ j : Nat, j < L.length → wr.cell? ⟨g, off + j, none⟩ = some (.int .i64 ((evL p x y z L L.length).getD j 0)))) (fun i _ => 3 - (intOf i).toNat)
      case atStart => exact ⟨0, by omega, rfl, HO3.out, W3.out.2.1, W3.out.2.2, HCE.out⟩
      case round =>
        clear HO3 W3 HCE g0 g1 g2 g3
        obtain ⟨k, hk, rfl, hO, hZ, hB, hC⟩ := hrel
        have HH := Lib.hid (And.intro hO (And.intro hZ (And.intro hB hC)))
        clear hO hZ hB hC
        by_cases hlt : k < 3
        · have hltp : (k : Int) < 3 := by omega
          have hk0 : (0 : Int) ≤ (k : Int) := by omega
          have ki := idxI a b c k hlt
          obtain ⟨b1, b2⟩ := HPL.out.2.2 k hlt
          obtain ⟨pk, hpk⟩ : ∃ pk, pk = coord a b c (k : Int) := ⟨_, rfl⟩
          rw [← hpk] at ki b1 b2
          have HPK := Lib.hid hpk
          clear hpk
          by_cases hneg : pk < 0
          · have hp1 : pk = -1 := by omega
            subst hp1
            have HO1 := Lib.hid (HH.out.1.zero (by show gaR p L x y z (coord a b c (k : Int)) = 0; rw [← HPK.out]; rfl))
            go_wp2_with fail
            go_roundw
            case rel => exact ⟨k + 1, by omega, by go_num, HO1.out, HH.out.2⟩
            case measure => simp [intOf]; omega
          · obtain ⟨m, rfl⟩ := Int.eq_ofNat_of_zero_le (show 0 ≤ pk by omega)
            have hmn : m < L.length := by omega
            have d0 := HH.out.2.2.2 m hmn
            have q0 := HH.out.1.c k hlt
            have f0 := HH.out.1.f k hlt
            obtain ⟨d, hd⟩ : ∃ d, d = (evL p x y z L L.length).getD m 0 := ⟨_, rfl⟩
            rw [← hd] at d0
            have hR : gaR p L x y z (coord a b c (k : Int)) = d := by rw [← HPK.out, hd]; unfold gaR; rw [if_neg (by omega)]; simp
            have HS := Lib.hid (show ∀ wr' : World, wr' = wr.setCell ⟨q, k, none⟩ (.int .i64 d) → OutW wr' q (fun j => gaR p L x y z (coord a b c (j : Int))) (k + 1) ∧ OutW wr' (n + 1 + 1) (fun _ => 0) 0 ∧ Below n w wr' ∧ (∀ j : Nat, j < L.length → wr'.cell? ⟨g, off + j, none⟩ = some (.int .i64 ((evL p x y z L L.length).getD j 0))) from by
              rintro _ rfl
              have e := HH.out.1.set hlt
              simp only [hR] at e
              refine ⟨e, HH.out.2.1.far hqn _, HH.out.2.2.1.setCell hnq' _, fun j hj => ?_⟩
              rw [World.cell?_setCell_other _ _ _ _ (addr_ne (by omega))]
              exact HH.out.2.2.2 j hj)
            have hm0 : (0 : Int) ≤ (m : Int) := by omega
            clear hd hR
            go_wp2_with fail
            go_roundw
            case rel => exact ⟨k + 1, by omega, by go_num, HS.out _ rfl⟩
            case measure => simp [intOf]; omega
        · have hk3 : k = 3 := by omega
          subst hk3
          obtain ⟨q0, q1, q2⟩ := HH.out.1.all
          simp only [show coord a b c ((0 : Nat) : Int) = a from rfl, show coord a b c ((1 : Nat) : Int) = b from rfl, show coord a b c ((2 : Nat) : Int) = c from rfl] at q0 q1 q2
          obtain ⟨z0, z1, z2⟩ : wr.cell? ⟨n + 1 + 1, 0, none⟩ = some (.int .i64 0) ∧ wr.cell? ⟨n + 1 + 1, 1, none⟩ = some (.int .i64 0) ∧ wr.cell? ⟨n + 1 + 1, 2, none⟩ = some (.int .i64 0) := ⟨HH.out.2.1.c 0 (by omega), HH.out.2.1.c 1 (by omega), HH.out.2.1.c 2 (by omega)⟩
          have y0 := HH.out.2.1.f 0 (by omega)
          have y1 := HH.out.2.1.f 1 (by omega)
          have y2 := HH.out.2.1.f 2 (by omega)
          obtain ⟨ra, hra⟩ : ∃ r, r = gaR p L x y z a := ⟨_, rfl⟩
          obtain ⟨rb, hrb⟩ : ∃ r, r = gaR p L x y z b := ⟨_, rfl⟩
          obtain ⟨rc, hrc⟩ : ∃ r, r = gaR p L x y z c := ⟨_, rfl⟩
          rw [← hra] at q0
          rw [← hrb] at q1
          rw [← hrc] at q2
          have HRR := Lib.hid (And.intro hra (And.intro hrb hrc))
          clear hra hrb hrc
          go_wp2_with fail
          refine bodyPost_ret (v := .tuple #[.agg #[.int .i64 ra, .int .i64 rb, .int .i64 rc], .bool true]) (by simp [results, Try.results83, go_sem, z0, z1, z2]) rfl ⟨by rw [HAB.out.1, HAB.out.2, HAB.out.2, HAB.out.2, HRR.out.1, HRR.out.2.1, HRR.out.2.2], ?_⟩
          repeat (first | exact HH.out.2.2.1 | (refine Below.setCell ?_ (by first | omega | (simp; done) | (simp; omega)) _))
    · have hab : gaB p L a b c x y z = false := by unfold gaB; rw [he]; simp
      have e1 : ∀ k, gaV p L a b c x y z k = 0 := fun k => by unfold gaV; rw [if_neg (by simp [hab])]
      have HAB := Lib.hid (And.intro hab e1)
      rw [hg]
      have HEY := Lib.hid (HEL.out false he)
      clear hg hpp HEL he hab e1
      obtain ⟨m0, m1, m2⟩ : w2.cell? ⟨q, 0, none⟩ = some (.int .i64 0) ∧ w2.cell? ⟨q, 1, none⟩ = some (.int .i64 0) ∧ w2.cell? ⟨q, 2, none⟩ = some (.int .i64 0) := ⟨(HO2.out fun _ => 0).c 0 (by omega), (HO2.out fun _ => 0).c 1 (by omega), (HO2.out fun _ => 0).c 2 (by omega)⟩
      go_wp2_with fail
      refine HEY.out.mono ?_
      rintro e w' ⟨rfl, rfl⟩
      clear HEY
      go_wp2_with fail
      refine bodyPost_ret (v := .tuple #[.agg #[.int .i64 0, .int .i64 0, .int .i64 0], .bool false]) (by simp [results, Try.results83, go_sem, z0, z1, z2]) rfl ⟨by rw [HAB.out.1, HAB.out.2, HAB.out.2, HAB.out.2], ?_⟩
      repeat (first | exact HB2.out | (refine Below.setCell ?_ (by first | omega | (simp; done) | (simp; omega)) _))
  · have hab : gaB p L a b c x y z = false := by unfold gaB; rw [hg]; simp
    have e1 : ∀ k, gaV p L a b c x y z k = 0 := fun k => by unfold gaV; rw [if_neg (by simp [hab])]
    have HAB := Lib.hid (And.intro hab e1)
    rw [hg]
    clear hg hab e1
    obtain ⟨m0, m1, m2⟩ : w2.cell? ⟨q, 0, none⟩ = some (.int .i64 0) ∧ w2.cell? ⟨q, 1, none⟩ = some (.int .i64 0) ∧ w2.cell? ⟨q, 2, none⟩ = some (.int .i64 0) := ⟨(HO2.out fun _ => 0).c 0 (by omega), (HO2.out fun _ => 0).c 1 (by omega), (HO2.out fun _ => 0).c 2 (by omega)⟩
    go_wp2_with fail
    refine bodyPost_ret (v := .tuple #[.agg #[.int .i64 0, .int .i64 0, .int .i64 0], .bool false]) (by simp [results, Try.results83, go_sem, z0, z1, z2]) rfl ⟨by rw [HAB.out.1, HAB.out.2, HAB.out.2, HAB.out.2], ?_⟩
    repeat (first | exact HB2.out | (refine Below.setCell ?_ (by first | omega | (simp; done) | (simp; omega)) _))
set_option maxRecDepth 100000 in
set_option maxHeartbeats 8000000 in
theorem iGrAt (p : Int) (v : Value) (L : List Gt) (a b c x y z : Int) (w : World) (h : Gats w v L) :
    Calls Try.prog 80 #[.int .i64 p, .agg #[v, .int .i64 a, .int .i64 b, .int .i64 c], .agg #[.int .i64 x, .int .i64 y, .int .i64 z]] w fun e w' => e = .returned (.tuple #[.agg #[.int .i64 (gaV p L a b c x y z a), .int .i64 (gaV p L a b c x y z b), .int .i64 (gaV p L a b c x y z c)], .bool (gaB p L a b c x y z)]) ∧ Below w.heap.size w w' := by
  obtain ⟨n, hn⟩ : ∃ n, n = w.heap.size := ⟨_, rfl⟩
  obtain ⟨hl, a9, c9, rfl⟩ := gats_len h
  obtain ⟨W, hW⟩ : ∃ W, W = ((w.alloc (Obj.cells #[.slice a9 L.length c9, .int .i64 a, .int .i64 b, .int .i64 c] 78)).alloc (Obj.cells #[.int .i64 x, .int .i64 y, .int .i64 z] 35)).alloc (Obj.cells #[.int .i64 0, .int .i64 0, .int .i64 0] 35) := ⟨_, rfl⟩
  have hG : GrAt W n (.slice a9 L.length c9) a b c := by rw [hW, hn]; refine ⟨?_, ?_, ?_, ?_⟩ <;> simp [go_sem]
  have hP : PtAt W (n + 1) x y z := by rw [hW, hn]; refine ⟨?_, ?_, ?_⟩ <;> simp [go_sem]
  have hZ : OutW W (n + 1 + 1) (fun _ => 0) 0 := by
    rw [hW, hn]
    refine ⟨by simp, fun j hj => ?_, fun j hj => World.frozen?_alloc_at _ _ _ j (by simp)⟩
    have h3 : j = 0 ∨ j = 1 ∨ j = 2 := by omega
    rcases h3 with rfl | rfl | rfl <;> simp [go_sem]
  have bW : Below n w W := by rw [hW, hn]; exact (by repeat (first | exact Below.refl _ _ | apply Below.drew | apply below_drewN | (refine Below.alloc ?_ (by first | omega | (simp <;> omega)) _)))
  have hsW : n + 2 < W.heap.size := by rw [hW, hn]; simp
  have Q := Lib.hid (h.below (hn ▸ bW))
  have HW := Lib.hid hW
  rw [← hn]
  clear hW h
  obtain ⟨V, hV⟩ : ∃ V, V = W := ⟨_, rfl⟩
  have bV : Below W.heap.size W V := by rw [hV]; exact Below.refl _ _
  have hsV : n + 2 < V.heap.size := Nat.lt_of_lt_of_le hsW bV.size
  have QV := Lib.hid (Q.out.below bV)
  have HG := Lib.hid (hG.below bV (by omega))
  have HP := Lib.hid (hP.below bV (by omega))
  have HZ := Lib.hid (hZ.below bV)
  have HB := Lib.hid (bW.trans (bV.mono (by omega)))
  have HVA := Lib.hid (iGrValid p _ L a b c V QV.out)
  clear hG hP hZ bW bV Q
  go_enter Try.func80, Try.ntmps80
  go_upto_region 1 with fail
  rw [← HW.out, ← hn, ← hV]
  clear HW hV hsW hn
  obtain ⟨g0, g1, g2, g3⟩ := HG.out
  obtain ⟨p0, p1, p2⟩ := HP.out
  go_wp2_with fail
  refine HVA.out.mono ?_
  rintro e w2 ⟨rfl, hb⟩
  have HG2 := Lib.hid (HG.out.below hb (by omega))
  have HP2 := Lib.hid (HP.out.below hb (by omega))
  have HZ2 := Lib.hid (HZ.out.below hb)
  have HB2 := Lib.hid (HB.out.trans (hb.mono (by omega)))
  have Q2 := Lib.hid (QV.out.below hb)
  have hs2 : n + 2 < w2.heap.size := Nat.lt_of_lt_of_le hsV hb.size
  clear hb g0 g1 g2 g3 p0 p1 p2 HG HP HZ HB QV HVA hsV
  obtain ⟨g0, g1, g2, g3⟩ := HG2.out
  obtain ⟨p0, p1, p2⟩ := HP2.out
  obtain ⟨z0, z1, z2⟩ : w2.cell? ⟨n + 1 + 1, 0, none⟩ = some (.int .i64 0) ∧ w2.cell? ⟨n + 1 + 1, 1, none⟩ = some (.int .i64 0) ∧ w2.cell? ⟨n + 1 + 1, 2, none⟩ = some (.int .i64 0) := ⟨HZ2.out.c 0 (by omega), HZ2.out.c 1 (by omega), HZ2.out.c 2 (by omega)⟩
  have y0 := HZ2.out.f 0 (by omega)
  have y1 := HZ2.out.f 1 (by omega)
  have y2 := HZ2.out.f 2 (by omega)
  rcases Bool.eq_false_or_eq_true (gvB p L a b c) with hg | hg
  · have hpp : isP p = true := by
      unfold gvB at hg
      simp only [Bool.and_eq_true] at hg
      exact (circB_iff.1 hg.2).1
    have HEL := Lib.hid (fun r (hr : isE3 p x y z = r) => iAE3 r p x y z hpp hr (n + 1) w2 HP2.out)
    rcases Bool.eq_false_or_eq_true (isE3 p x y z) with he | he
    · have hab : gaB p L a b c x y z = true := by unfold gaB; rw [hg, he]; rfl
      have hpl := gaB_place hab
      have e1 : ∀ k, gaV p L a b c x y z k = gaR p L x y z k := fun k => by unfold gaV; rw [if_pos hab]
      have HAB := Lib.hid (And.intro hab e1)
      rw [hg]
      have HPL := Lib.hid hpl
      have HEY := Lib.hid (HEL.out true he)
      clear hg hpp HEL he hab hpl e1
      go_wp2_with fail
      refine HEY.out.mono ?_
      rintro e w' ⟨rfl, rfl⟩
      clear HEY
      have HEV := Lib.hid (show Calls Try.prog 22 #[.int .i64 p, .slice a9 L.length c9, .agg #[.int .i64 x, .int .i64 y, .int .i64 z]] w2 fun e w' => ∃ v, e = .returned v ∧ OwnInts w' w2.heap.size v (evL p x y z L L.length) ∧ Below w2.heap.size w2 w' from by
        have := iEvalGates p x y z _ L w2 Q2.out
        unfold evV2 at this
        rw [HPL.out.1, HPL.out.2.1] at this
        exact this)
      go_wp2_with fail
      refine HEV.out.mono ?_
      rintro e w3 ⟨u3, rfl, ho, hb⟩
      clear HEV
      have hsz3 : w2.heap.size ≤ w3.heap.size := hb.size
      obtain ⟨q, hq⟩ : ∃ q, q = w3.heap.size := ⟨_, rfl⟩
      obtain ⟨w4, hw4⟩ : ∃ w4, w4 = w3.alloc (Obj.cells #[.int .i64 0, .int .i64 0, .int .i64 0] 35) := ⟨_, rfl⟩
      have b4 : Below w3.heap.size w3 w4 := by rw [hw4]; exact Below.alloc (Below.refl _ _) (Nat.le_refl _) _
      have HO3 := Lib.hid (show OutW w4 q (fun j => gaR p L x y z (coord a b c (j : Int))) 0 by
        rw [hw4, hq]
        refine ⟨by simp, fun j hj => ?_, fun j hj => World.frozen?_alloc_at _ _ _ j rfl⟩
        have h3 : j = 0 ∨ j = 1 ∨ j = 2 := by omega
        rcases h3 with rfl | rfl | rfl <;> simp [go_sem])
      replace hb := hb.trans (b4.mono hb.size)
      have hnq : n + 2 < q := by omega
      have HW4 := Lib.hid hw4
      have W3 := Lib.hid (show GrAt w4 n (.slice a9 L.length c9) a b c ∧ OutW w4 (n + 1 + 1) (fun _ => 0) 0 ∧ Below n w w4 from ⟨HG2.out.below hb (by omega), HZ2.out.below hb, HB2.out.trans (hb.mono (by omega))⟩)
      clear hw4
      obtain ⟨g, off, cap, rfl, hgB, hgl, hcell⟩ := ownI_at ho (evL_len p x y z L L.length) (circB_iff.1 HPL.out.1).2.1
      have hqg : q ≠ g := by omega
      replace hcell := fun j (hj : j < L.length) => ((b4.cell (p := ⟨g, off + j, none⟩) hgl).trans (hcell j hj) : w4.cell? ⟨g, off + j, none⟩ = _)
      have hqn : q ≠ n + 1 + 1 := by omega
      have hg3 : g ≠ n + 1 + 1 := by omega
      have hnq' : n ≤ q := by omega
      have hL60 := (circB_iff.1 HPL.out.1).2.2.1
      have HCE := Lib.hid hcell
      clear hb ho hcell y0 y1 y2 z0 z1 z2 g0 g1 g2 g3 p0 p1 p2 HG2 HP2 HZ2 HB2 Q2 b4
      go_upto_region 5 with fail
      rw [← HW4.out, ← hq]
      clear HW4 hq
      obtain ⟨g0, g1, g2, g3⟩ := W3.out.1
      go_wp2_with fail
      go_loopw [30] (fun i wr => ∃ k : Nat, k ≤ 3 ∧ i = .int .i64 k ∧ OutW wr q (fun j => gaR p L x y z (coord a b c (j : Int))) k ∧ OutW wr (n + 1 + 1) (fun _ => 0) 0 ∧ Below n w wr ∧ (∀ j : Nat, j < L.length → wr.cell? ⟨g, off + j, none⟩ = some (.int .i64 ((evL p x y z L L.length).getD j 0)))) (fun i _ => 3 - (intOf i).toNat)
      case atStart => exact ⟨0, by omega, rfl, HO3.out, W3.out.2.1, W3.out.2.2, HCE.out⟩
      case round =>
        clear HO3 W3 HCE g0 g1 g2 g3
        obtain ⟨k, hk, rfl, hO, hZ, hB, hC⟩ := hrel
        have HH := Lib.hid (And.intro hO (And.intro hZ (And.intro hB hC)))
        clear hO hZ hB hC
        by_cases hlt : k < 3
        · have hltp : (k : Int) < 3 := by omega
          have hk0 : (0 : Int) ≤ (k : Int) := by omega
          have ki := idxI a b c k hlt
          obtain ⟨b1, b2⟩ := HPL.out.2.2 k hlt
          obtain ⟨pk, hpk⟩ : ∃ pk, pk = coord a b c (k : Int) := ⟨_, rfl⟩
          rw [← hpk] at ki b1 b2
          have HPK := Lib.hid hpk
          clear hpk
          by_cases hneg : pk < 0
          · have hp1 : pk = -1 := by omega
            subst hp1
            have HO1 := Lib.hid (HH.out.1.zero (by show gaR p L x y z (coord a b c (k : Int)) = 0; rw [← HPK.out]; rfl))
            go_wp2_with fail
            go_roundw
            case rel => exact ⟨k + 1, by omega, by go_num, HO1.out, HH.out.2⟩
            case measure => simp [intOf]; omega
          · obtain ⟨m, rfl⟩ := Int.eq_ofNat_of_zero_le (show 0 ≤ pk by omega)
            have hmn : m < L.length := by omega
            have d0 := HH.out.2.2.2 m hmn
            have q0 := HH.out.1.c k hlt
            have f0 := HH.out.1.f k hlt
            obtain ⟨d, hd⟩ : ∃ d, d = (evL p x y z L L.length).getD m 0 := ⟨_, rfl⟩
            rw [← hd] at d0
            have hR : gaR p L x y z (coord a b c (k : Int)) = d := by rw [← HPK.out, hd]; unfold gaR; rw [if_neg (by omega)]; simp
            have HS := Lib.hid (show ∀ wr' : World, wr' = wr.setCell ⟨q, k, none⟩ (.int .i64 d) → OutW wr' q (fun j => gaR p L x y z (coord a b c (j : Int))) (k + 1) ∧ OutW wr' (n + 1 + 1) (fun _ => 0) 0 ∧ Below n w wr' ∧ (∀ j : Nat, j < L.length → wr'.cell? ⟨g, off + j, none⟩ = some (.int .i64 ((evL p x y z L L.length).getD j 0))) from by
              rintro _ rfl
              have e := HH.out.1.set hlt
              simp only [hR] at e
              refine ⟨e, HH.out.2.1.far hqn _, HH.out.2.2.1.setCell hnq' _, fun j hj => ?_⟩
              rw [World.cell?_setCell_other _ _ _ _ (addr_ne (by omega))]
              exact HH.out.2.2.2 j hj)
            have hm0 : (0 : Int) ≤ (m : Int) := by omega
            clear hd hR
            go_wp2_with fail
            go_roundw
            case rel => exact ⟨k + 1, by omega, by go_num, HS.out _ rfl⟩
            case measure => simp [intOf]; omega
        · have hk3 : k = 3 := by omega
          subst hk3
          obtain ⟨q0, q1, q2⟩ := HH.out.1.all
          simp only [show coord a b c ((0 : Nat) : Int) = a from rfl, show coord a b c ((1 : Nat) : Int) = b from rfl, show coord a b c ((2 : Nat) : Int) = c from rfl] at q0 q1 q2
          obtain ⟨z0, z1, z2⟩ : wr.cell? ⟨n + 1 + 1, 0, none⟩ = some (.int .i64 0) ∧ wr.cell? ⟨n + 1 + 1, 1, none⟩ = some (.int .i64 0) ∧ wr.cell? ⟨n + 1 + 1, 2, none⟩ = some (.int .i64 0) := ⟨HH.out.2.1.c 0 (by omega), HH.out.2.1.c 1 (by omega), HH.out.2.1.c 2 (by omega)⟩
          have y0 := HH.out.2.1.f 0 (by omega)
          have y1 := HH.out.2.1.f 1 (by omega)
          have y2 := HH.out.2.1.f 2 (by omega)
          obtain ⟨ra, hra⟩ : ∃ r, r = gaR p L x y z a := ⟨_, rfl⟩
          obtain ⟨rb, hrb⟩ : ∃ r, r = gaR p L x y z b := ⟨_, rfl⟩
          obtain ⟨rc, hrc⟩ : ∃ r, r = gaR p L x y z c := ⟨_, rfl⟩
          rw [← hra] at q0
          rw [← hrb] at q1
          rw [← hrc] at q2
          have HRR := Lib.hid (And.intro hra (And.intro hrb hrc))
          clear hra hrb hrc
          go_wp2_with fail
          refine bodyPost_ret (v := .tuple #[.agg #[.int .i64 ra, .int .i64 rb, .int .i64 rc], .bool true]) (by simp [results, Try.results80, go_sem, z0, z1, z2]) rfl ⟨by rw [HAB.out.1, HAB.out.2, HAB.out.2, HAB.out.2, HRR.out.1, HRR.out.2.1, HRR.out.2.2], ?_⟩
          repeat (first | exact HH.out.2.2.1 | (refine Below.setCell ?_ (by first | omega | (simp; done) | (simp; omega)) _))
    · have hab : gaB p L a b c x y z = false := by unfold gaB; rw [he]; simp
      have e1 : ∀ k, gaV p L a b c x y z k = 0 := fun k => by unfold gaV; rw [if_neg (by simp [hab])]
      have HAB := Lib.hid (And.intro hab e1)
      rw [hg]
      have HEY := Lib.hid (HEL.out false he)
      clear hg hpp HEL he hab e1
      go_wp2_with fail
      refine HEY.out.mono ?_
      rintro e w' ⟨rfl, rfl⟩
      clear HEY
      go_wp2_with fail
      refine bodyPost_ret (v := .tuple #[.agg #[.int .i64 0, .int .i64 0, .int .i64 0], .bool false]) (by simp [results, Try.results80, go_sem, z0, z1, z2]) rfl ⟨by rw [HAB.out.1, HAB.out.2, HAB.out.2, HAB.out.2], ?_⟩
      repeat (first | exact HB2.out | (refine Below.setCell ?_ (by first | omega | (simp; done) | (simp; omega)) _))
  · have hab : gaB p L a b c x y z = false := by unfold gaB; rw [hg]; simp
    have e1 : ∀ k, gaV p L a b c x y z k = 0 := fun k => by unfold gaV; rw [if_neg (by simp [hab])]
    have HAB := Lib.hid (And.intro hab e1)
    rw [hg]
    clear hg hab e1
    go_wp2_with fail
    refine bodyPost_ret (v := .tuple #[.agg #[.int .i64 0, .int .i64 0, .int .i64 0], .bool false]) (by simp [results, Try.results80, go_sem, z0, z1, z2]) rfl ⟨by rw [HAB.out.1, HAB.out.2, HAB.out.2, HAB.out.2], ?_⟩
    repeat (first | exact HB2.out | (refine Below.setCell ?_ (by first | omega | (simp; done) | (simp; omega)) _))
end Go.Proofs.Ytibghhkhnpjdfaa
