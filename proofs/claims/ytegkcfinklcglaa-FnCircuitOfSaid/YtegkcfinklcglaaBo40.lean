/-
  CircuitOf of the program, on. Conditions: what the slice holds is known.
  CircuitOf of the program, on. Conditions: what the slice holds is known.
-/
import Derived.Test.YtegkcfinklcglaaBo38
namespace Go.Proofs.Ytegkcfinklcglaa
open Go.RowKit
theorem keepU {w w1 : World} {n g : Nat} {a b c d : Value} (hb : Below w.heap.size w w1) (hn : n < w.heap.size) (hg : g < w.heap.size)
    (h : w.cell? ⟨n, 0, none⟩ = some a ∧ w.cell? ⟨n, 1, none⟩ = some b ∧ w.cell? ⟨n, 2, none⟩ = some c ∧ w.cell? ⟨g, 0, none⟩ = some d) :
    w1.cell? ⟨n, 0, none⟩ = some a ∧ w1.cell? ⟨n, 1, none⟩ = some b ∧ w1.cell? ⟨n, 2, none⟩ = some c ∧ w1.cell? ⟨g, 0, none⟩ = some d := by
  obtain ⟨h0, h1, h2, h3⟩ := h
  exact ⟨by rw [hb.cell (p := ⟨n, 0, none⟩) hn]; exact h0, by rw [hb.cell (p := ⟨n, 1, none⟩) hn]; exact h1, by rw [hb.cell (p := ⟨n, 2, none⟩) hn]; exact h2, by rw [hb.cell (p := ⟨g, 0, none⟩) hg]; exact h3⟩
set_option maxRecDepth 100000 in
set_option maxHeartbeats 8000000 in
theorem iUnkM (B G v : Nat) (_ : v < 3) (p : Int) (s : Value) (C : List Gt) (w : World) (hl : C.length ≤ 4000) (hBG : B ≤ G) (h : MkS w G s 2 (prC p) C) :
    Calls Try.prog 177 #[.pointer (some ⟨G, 0, none⟩), .int .i64 (v : Int)] w (MkTo B G G 2 (prC p) (unkG v C).2 s ((unkG v C).1 : Nat) w) := by
  obtain ⟨W, hW⟩ : ∃ W, W = w.alloc (Obj.cells #[.int .i64 0, .int .i64 (v : Int), .int .i64 0] 75) := ⟨_, rfl⟩
  have bW : Below w.heap.size w W := by rw [hW]; exact Below.alloc (Below.refl _ _) (Nat.le_refl _) _
  have hT : GAt W w.heap.size 0 ⟨0, (v : Int), 0⟩ := by rw [hW]; refine ⟨?_, ?_, ?_⟩ <;> simp [go_sem]
  have hsW : w.heap.size < W.heap.size := by rw [hW]; simp
  have hBw : B ≤ w.heap.size := by have := h.sh.lt; omega
  have HS := Lib.hid (fun w' (hb : Below W.heap.size W w') => show MkS w' G s 2 (prC p) C ∧ GAt w' w.heap.size 0 ⟨0, (v : Int), 0⟩ ∧ Below w.heap.size w w' from
    ⟨(h.below bW).below hb, hT.below hb hsW, bW.trans (hb.mono (Nat.le_of_lt hsW))⟩)
  have HIX := Lib.hid (fun w' (h : MkS w' G s 2 (prC p) C) => iIndexG s C ⟨0, (v : Int), 0⟩ w' (by omega) (h.row.own (by omega)).gats)
  have HPU := Lib.hid (fun w' (h : MkS w' G s 2 (prC p) C) => iPutS B G G 2 s (prC p) C ⟨0, (v : Int), 0⟩ w' (by omega) hBG h)
  have hM := h.below bW
  have hG := hM.sh.lt
  have c0 := hM.sh.c0
  obtain ⟨e0, e1, e2⟩ := hT
  simp only [Nat.zero_add] at e0 e1 e2
  obtain ⟨a, cap, rfl⟩ := h.slice
  have HW := Lib.hid hW
  clear hW bW h hM
  cases hix : ixG ⟨0, (v : Int), 0⟩ C with
  | some k =>
    have e : unkG v C = (k, C) := shr_hit hix
    have e3 : ixI ⟨0, (v : Int), 0⟩ C = (k : Int) := by unfold ixI; rw [hix]
    rw [e]
    rw [e3] at HIX
    have hk0 : (0 : Int) ≤ (k : Int) := by omega
    clear e e3 hix
    go_enter Try.func177, Try.ntmps177
    go_wp2_with fail
    rw [← HW.out]
    go_region_held3 (fun w' => w'.cell? ⟨w.heap.size, 0, none⟩ = some (.int .i64 0) ∧ w'.cell? ⟨w.heap.size, 1, none⟩ = some (.int .i64 (v : Int)) ∧ w'.cell? ⟨w.heap.size, 2, none⟩ = some (.int .i64 0) ∧ w'.cell? ⟨G, 0, none⟩ = some (.slice a C.length cap)) (first | exact keepU hb3 (by simpa using hsW) (by simpa using hG) (by assumption) | go_keep)
      (first | (go_at_call 200; refine (HIX.out _ (HS.out _ (Below.drew (Below.refl _ _))).1).mono ?_; rintro e w3 ⟨rfl, hb3⟩))
    all_goals
      have HL := Lib.hid (HS.out w3 ((Below.drew (Below.refl _ _) : Below W.heap.size W W.drew).trans (by simpa using hb3)))
      clear hb3
      go_wp2_with fail
      go_ret
      exact ⟨_, rfl, HL.out.1, HL.out.2.2.mono hBw, Apt.of_below HL.out.2.2, .inl rfl⟩
  | none =>
    have e : unkG v C = (C.length, C ++ [⟨0, (v : Int), 0⟩]) := shr_new hix
    have e3 : ixI ⟨0, (v : Int), 0⟩ C = -1 := by unfold ixI; rw [hix]
    rw [e]
    rw [e3] at HIX
    clear e e3 hix
    go_enter Try.func177, Try.ntmps177
    go_wp2_with fail
    rw [← HW.out]
    go_region_held3 (fun w' => w'.cell? ⟨w.heap.size, 0, none⟩ = some (.int .i64 0) ∧ w'.cell? ⟨w.heap.size, 1, none⟩ = some (.int .i64 (v : Int)) ∧ w'.cell? ⟨w.heap.size, 2, none⟩ = some (.int .i64 0) ∧ w'.cell? ⟨G, 0, none⟩ = some (.slice a C.length cap)) (first | exact keepU hb3 (by simpa using hsW) (by simpa using hG) (by assumption) | go_keep)
      (first | (go_at_call 200; refine (HIX.out _ (HS.out _ (Below.drew (Below.refl _ _))).1).mono ?_; rintro e w3 ⟨rfl, hb3⟩))
    all_goals
      have HL := Lib.hid (HS.out w3 ((Below.drew (Below.refl _ _) : Below W.heap.size W W.drew).trans (by simpa using hb3)))
      obtain ⟨f0, f1, f2⟩ := HL.out.2.1
      simp only [Nat.zero_add] at f0 f1 f2
      clear hb3
      go_wp2_with fail
      refine ((HPU.out _ HL.out.1).mono fun e w' h => h.from HL.out.2.2 hBw).mono ?_
      rintro e w4 ⟨v4, rfl, h1, h2, h3, h4⟩
      have H4 := Lib.hid (And.intro h1 (And.intro h2 (And.intro h3 h4)))
      clear h1 h2 h3 h4 f0 f1 f2
      go_wp2_with fail
      go_ret
      exact ⟨_, rfl, H4.out.1, H4.out.2.1, H4.out.2.2.1, H4.out.2.2.2⟩
set_option maxRecDepth 100000 in
set_option maxHeartbeats 4000000 in
theorem iJoin (B G : Nat) (p k sofar next : Int) (v : Value) (C : List Gt) (w : World) (hlo : -1 ≤ sofar) (hl : C.length ≤ 5000) (hBG : B ≤ G) (h : MkS w G v 2 (prC p) C) :
    Calls Try.prog 139 #[.pointer (some ⟨G, 0, none⟩), .int .i64 k, .int .i64 sofar, .int .i64 next] w (MkTo B G G 2 (prC p) (jnG k sofar next C).2 v (jnG k sofar next C).1 w) := by
  by_cases hneg : sofar < 0
  · have e : jnG k sofar next C = (next, C) := by unfold jnG; rw [if_pos hneg]
    have e2 : sofar = -1 := by omega
    rw [e, e2]
    have H := Lib.hid h
    clear h e e2 hneg hlo
    go_enter Try.func139, Try.ntmps139
    go_wp2_with fail
    go_ret
    exact ⟨_, rfl, H.out, Below.refl _ _, Apt.of_below (Below.refl _ _), .inl rfl⟩
  · have e : jnG k sofar next C = ((C.length : Int), C ++ [⟨k, sofar, next⟩]) := by unfold jnG; rw [if_neg hneg]
    have e2 : ¬ sofar = -1 := by omega
    rw [e]
    have HP := Lib.hid (iPutS B G G 2 v (prC p) C ⟨k, sofar, next⟩ w (by omega) hBG h)
    clear h e hneg hlo
    go_enter Try.func139, Try.ntmps139
    go_wp2_with fail
    refine HP.out.mono ?_
    rintro e w4 ⟨v4, rfl, h1, h2, h3, h4⟩
    have H4 := Lib.hid (And.intro h1 (And.intro h2 (And.intro h3 h4)))
    clear h1 h2 h3 h4
    go_wp2_with fail
    go_ret
    exact ⟨_, rfl, H4.out.1, H4.out.2.1, H4.out.2.2.1, H4.out.2.2.2⟩
set_option maxRecDepth 100000 in
set_option maxHeartbeats 32000000 in
theorem iTermM (B G : Nat) (p q : Int) (s : Value) (C : List Gt) (x : Trm) (w : World) (hl : C.length ≤ 3400) (hBG : B ≤ G) (hx : 1 ≤ x.t ∧ x.t < q) (hpw : (0 ≤ x.a ∧ x.a ≤ 9) ∧ (0 ≤ x.b ∧ x.b ≤ 9) ∧ (0 ≤ x.c ∧ x.c ≤ 9)) (hok : AllOK q C) (h : MkS w G s 2 (prC p) C) :
    Calls Try.prog 140 #[.pointer (some ⟨G, 0, none⟩), .agg #[.int .i64 x.a, .int .i64 x.b, .int .i64 x.c, .int .i64 x.t]] w (MkTo B G G 2 (prC p) (trmG x C 3).2 s (trmG x C 3).1 w) := by
  have HT0 := Lib.hid (trmG_st hx hpw hok 0 (by omega))
  have HT1 := Lib.hid (trmG_st hx hpw hok 1 (by omega))
  have HT2 := Lib.hid (trmG_st hx hpw hok 2 (by omega))
  obtain ⟨W, hW⟩ : ∃ W, W = w.alloc (Obj.cells #[.int .i64 x.a, .int .i64 x.b, .int .i64 x.c, .int .i64 x.t] 32) := ⟨_, rfl⟩
  have bW : Below w.heap.size w W := by rw [hW]; exact Below.alloc (Below.refl _ _) (Nat.le_refl _) _
  have hsW : w.heap.size < W.heap.size := by rw [hW]; simp
  have hB : B ≤ w.heap.size := Nat.le_trans hBG (Nat.le_of_lt h.sh.lt)
  have hGw := h.sh.lt
  have HVN := Lib.hid (h.old (Nat.le_refl _))
  have hTX : TAt W w.heap.size 0 x := by rw [hW]; refine ⟨?_, ?_, ?_, ?_⟩ <;> simp [go_sem]
  have HTX := Lib.hid (fun w' (hb : Below W.heap.size W w') => hTX.below hb hsW)
  have HW := Lib.hid (fun w' (hb : Below W.heap.size W w') => show MkS w' G s 2 (prC p) C ∧ Below B w w' ∧ Apt G G s w w' ∧ Moves s s w by
    have hb2 : Below w.heap.size w w' := bW.trans (hb.mono (Nat.le_of_lt hsW))
    exact ⟨h.below hb2, hb2.mono hB, Apt.of_below hb2, .inl rfl⟩)
  have HPW := Lib.hid hpw
  have HWE := Lib.hid hW
  have hx1 := hx.1
  have k0 := idx0
  have k1 := idx1
  have k2 := idx2
  clear hx hpw hok h hW bW hTX
  by_cases ht : 1 < x.t
  · have HS := Lib.hid (show bgnG x C = ((C.length : Int), C ++ [⟨1, x.t, 0⟩]) by unfold bgnG bgnB; rw [if_pos]; simp; omega)
    have hxn : ¬ x.t = 1 := by omega
    have HBW := Lib.hid (Below.refl W.heap.size W)
    go_enter Try.func140, Try.ntmps140
    go_wp2_with fail
    rw [← HWE.out]
    refine (iPutS B G G 2 s _ C ⟨1, x.t, 0⟩ _ (by omega) hBG (HW.out _ HBW.out).1).mono ?_
    rintro e w2 ⟨v2, rfl, hm2, hb2, ha2, hv2⟩
    have HS0 := Lib.hid (show MkS w2 G v2 2 (prC p) (trmG x C 0).2 ∧ Below B w w2 ∧ Apt G G s w w2 ∧ Moves s v2 w by
      have hq := HW.out _ HBW.out
      show MkS w2 G v2 2 (prC p) (bgnG x C).2 ∧ _
      rw [HS.out]
      exact ⟨hm2, hq.2.1.trans hb2, hq.2.2.1.trans ha2 (.inl rfl) hq.2.1.size, Moves.trans (.inl rfl) hv2 hq.2.1.size⟩)
    have hsl : (C.length : Int) = (trmG x C 0).1 := by show _ = (bgnG x C).1; rw [HS.out]
    obtain ⟨t0, t1, t2, t3⟩ := HTX.out _ HBW.out
    simp only [Nat.zero_add] at t0 t1 t2 t3
    have hz9 := HBW.out.size
    replace t0 := ha2.get (n := w.heap.size) (by omega) (by omega) (by omega) HVN.out t0
    replace t1 := ha2.get (n := w.heap.size) (by omega) (by omega) (by omega) HVN.out t1
    replace t2 := ha2.get (n := w.heap.size) (by omega) (by omega) (by omega) HVN.out t2
    rw [hsl]
    clear hm2 hb2 ha2 hv2 hsl t3 hz9
    go_wp2_with fail
    refine wp_loop_rounds 4 ?_
    clear t0 t1 t2
    rw [rounds_succ]
    go_wp2_with fail
    go_loopw [5, 28] (fun sf i wr => ∃ (j : Nat) (v' : Value), j ≤ (exV x 0).toNat ∧ i = .int .i64 j ∧ sf = .int .i64 (powG 0 j (trmG x C 0)).1 ∧ MkS wr G v' 2 (prC p) (powG 0 j (trmG x C 0)).2 ∧ Below B w wr ∧ Apt G G s w wr ∧ Moves s v' w) (fun _ i _ => (exV x 0).toNat - (intOf i).toNat)
    case atStart => exact ⟨0, _, by omega, rfl, rfl, HS0.out⟩
    case round =>
      clear HS0
      obtain ⟨j, v', hj, rfl, rfl, hSJ⟩ := hrel
      have HSJ := Lib.hid hSJ
      clear hSJ
      have hE : ((exV x 0).toNat : Int) = x.a := by have := HPW.out; simp only [exV]; simp; omega
      obtain ⟨hst, _, _, hlen⟩ := powG_st (p := q) (v := 0) (by omega) j (trmG x C 0) HT0.out.1
      have hlo := hst.lo
      have hL := HT0.out.2.2.1
      by_cases hjt : j < (exV x 0).toNat
      · have hjp : (j : Int) < x.a := by omega
        have hj0 : (0 : Int) ≤ (j : Int) := by omega
        have hp9 := HPW.out
        go_wp2_with fail
        refine (iUnkM B G 0 (by omega) p _ _ _ (by omega) hBG HSJ.out.1).mono ?_
        rintro e w5 ⟨v5, rfl, hm5, hb5, ha5, hv5⟩
        have H5 := Lib.hid (show MkS w5 G v5 2 (prC p) (unkG 0 (powG 0 j (trmG x C 0)).2).2 ∧ Below B w w5 ∧ Apt G G s w w5 ∧ Moves s v5 w from ⟨hm5, HSJ.out.2.1.trans hb5, HSJ.out.2.2.1.trans ha5 HSJ.out.2.2.2 HSJ.out.2.1.size, HSJ.out.2.2.2.trans hv5 HSJ.out.2.1.size⟩)
        clear hm5 hb5 ha5 hv5
        obtain ⟨qi, hqi⟩ : ∃ q, q = (unkG 0 (powG 0 j (trmG x C 0)).2).1 := ⟨_, rfl⟩
        obtain ⟨qc, hqc⟩ : ∃ q, q = (unkG 0 (powG 0 j (trmG x C 0)).2).2 := ⟨_, rfl⟩
        have hfa := shr_facts ⟨0, ((0 : Nat) : Int), 0⟩ (powG 0 j (trmG x C 0)).2
        have hfl : qc.length ≤ (powG 0 j (trmG x C 0)).2.length + 1 := by rw [hqc]; exact hfa.2.2
        have hpe : powG 0 (j + 1) (trmG x C 0) = jnG 3 (powG 0 j (trmG x C 0)).1 (qi : Nat) qc := by rw [hqi, hqc]; rfl
        obtain ⟨sf, hsf⟩ : ∃ sf, sf = (powG 0 j (trmG x C 0)).1 := ⟨_, rfl⟩
        rw [← hqc] at H5
        rw [← hqi, ← hsf]
        rw [← hsf] at hpe hlo
        have HPE := Lib.hid hpe
        clear hqi hqc hsf hfa hpe
        go_wp2_with fail
        refine (iJoin B G p 3 sf (qi : Int) _ _ _ hlo (by omega) hBG H5.out.1).mono ?_
        rintro e w6 ⟨v6, rfl, hm6, hb6, ha6, hv6⟩
        have H6 := Lib.hid (show MkS w6 G v6 2 (prC p) (jnG 3 sf (qi : Int) qc).2 ∧ Below B w w6 ∧ Apt G G s w w6 ∧ Moves s v6 w from
          ⟨hm6, H5.out.2.1.trans hb6, H5.out.2.2.1.trans ha6 H5.out.2.2.2 H5.out.2.1.size, H5.out.2.2.2.trans hv6 H5.out.2.1.size⟩)
        clear hm6 hb6 ha6 hv6
        go_wp2_with fail
        go_roundw
        case rel => exact ⟨j + 1, v6, by omega, by go_num, by rw [HPE.out], by rw [HPE.out]; exact H6.out⟩
        case measure => first | (simp [intOf]; done) | (simp [intOf]; omega)
      · have hje : j = (exV x 0).toNat := by omega
        have hjp : (j : Int) = x.a := by omega
        have HS1 := Lib.hid (show MkS wr G v' 2 (prC p) (trmG x C 1).2 ∧ Below B w wr ∧ Apt G G s w wr ∧ Moves s v' w by
          have e : trmG x C 1 = powG 0 j (trmG x C 0) := by rw [hje]; rfl
          rw [e]
          exact HSJ.out)
        have hsl : (powG 0 j (trmG x C 0)).1 = (trmG x C 1).1 := by rw [hje]; rfl
        rw [hsl]
        clear hsl hst hlen hL HSJ hje
        go_wp2_with fail
        rw [rounds_succ]
        go_wp2_with fail
        go_loopw [5, 28] (fun sf i wr => ∃ (j : Nat) (v' : Value), j ≤ (exV x 1).toNat ∧ i = .int .i64 j ∧ sf = .int .i64 (powG 1 j (trmG x C 1)).1 ∧ MkS wr G v' 2 (prC p) (powG 1 j (trmG x C 1)).2 ∧ Below B w wr ∧ Apt G G s w wr ∧ Moves s v' w) (fun _ i _ => (exV x 1).toNat - (intOf i).toNat)
        case atStart => exact ⟨0, _, by omega, rfl, rfl, HS1.out⟩
        case round =>
          clear HS1
          obtain ⟨j, v', hj, rfl, rfl, hSJ⟩ := hrel
          have HSJ := Lib.hid hSJ
          clear hSJ
          have hE : ((exV x 1).toNat : Int) = x.b := by have := HPW.out; simp only [exV]; simp; omega
          obtain ⟨hst, _, _, hlen⟩ := powG_st (p := q) (v := 1) (by omega) j (trmG x C 1) HT1.out.1
          have hlo := hst.lo
          have hL := HT1.out.2.2.1
          by_cases hjt : j < (exV x 1).toNat
          · have hjp : (j : Int) < x.b := by omega
            have hj0 : (0 : Int) ≤ (j : Int) := by omega
            have hp9 := HPW.out
            go_wp2_with fail
            refine (iUnkM B G 1 (by omega) p _ _ _ (by omega) hBG HSJ.out.1).mono ?_
            rintro e w5 ⟨v5, rfl, hm5, hb5, ha5, hv5⟩
            have H5 := Lib.hid (show MkS w5 G v5 2 (prC p) (unkG 1 (powG 1 j (trmG x C 1)).2).2 ∧ Below B w w5 ∧ Apt G G s w w5 ∧ Moves s v5 w from ⟨hm5, HSJ.out.2.1.trans hb5, HSJ.out.2.2.1.trans ha5 HSJ.out.2.2.2 HSJ.out.2.1.size, HSJ.out.2.2.2.trans hv5 HSJ.out.2.1.size⟩)
            clear hm5 hb5 ha5 hv5
            obtain ⟨qi, hqi⟩ : ∃ q, q = (unkG 1 (powG 1 j (trmG x C 1)).2).1 := ⟨_, rfl⟩
            obtain ⟨qc, hqc⟩ : ∃ q, q = (unkG 1 (powG 1 j (trmG x C 1)).2).2 := ⟨_, rfl⟩
            have hfa := shr_facts ⟨0, ((1 : Nat) : Int), 0⟩ (powG 1 j (trmG x C 1)).2
            have hfl : qc.length ≤ (powG 1 j (trmG x C 1)).2.length + 1 := by rw [hqc]; exact hfa.2.2
            have hpe : powG 1 (j + 1) (trmG x C 1) = jnG 3 (powG 1 j (trmG x C 1)).1 (qi : Nat) qc := by rw [hqi, hqc]; rfl
            obtain ⟨sf, hsf⟩ : ∃ sf, sf = (powG 1 j (trmG x C 1)).1 := ⟨_, rfl⟩
            rw [← hqc] at H5
            rw [← hqi, ← hsf]
            rw [← hsf] at hpe hlo
            have HPE := Lib.hid hpe
            clear hqi hqc hsf hfa hpe
            go_wp2_with fail
            refine (iJoin B G p 3 sf (qi : Int) _ _ _ hlo (by omega) hBG H5.out.1).mono ?_
            rintro e w6 ⟨v6, rfl, hm6, hb6, ha6, hv6⟩
            have H6 := Lib.hid (show MkS w6 G v6 2 (prC p) (jnG 3 sf (qi : Int) qc).2 ∧ Below B w w6 ∧ Apt G G s w w6 ∧ Moves s v6 w from
              ⟨hm6, H5.out.2.1.trans hb6, H5.out.2.2.1.trans ha6 H5.out.2.2.2 H5.out.2.1.size, H5.out.2.2.2.trans hv6 H5.out.2.1.size⟩)
            clear hm6 hb6 ha6 hv6
            go_wp2_with fail
            go_roundw
            case rel => exact ⟨j + 1, v6, by omega, by go_num, by rw [HPE.out], by rw [HPE.out]; exact H6.out⟩
            case measure => first | (simp [intOf]; done) | (simp [intOf]; omega)
          · have hje : j = (exV x 1).toNat := by omega
            have hjp : (j : Int) = x.b := by omega
            have HS2 := Lib.hid (show MkS wr G v' 2 (prC p) (trmG x C 2).2 ∧ Below B w wr ∧ Apt G G s w wr ∧ Moves s v' w by
              have e : trmG x C 2 = powG 1 j (trmG x C 1) := by rw [hje]; rfl
              rw [e]
              exact HSJ.out)
            have hsl : (powG 1 j (trmG x C 1)).1 = (trmG x C 2).1 := by rw [hje]; rfl
            rw [hsl]
            clear hsl hst hlen hL HSJ hje
            go_wp2_with fail
            rw [rounds_succ]
            go_wp2_with fail
            go_loopw [5, 28] (fun sf i wr => ∃ (j : Nat) (v' : Value), j ≤ (exV x 2).toNat ∧ i = .int .i64 j ∧ sf = .int .i64 (powG 2 j (trmG x C 2)).1 ∧ MkS wr G v' 2 (prC p) (powG 2 j (trmG x C 2)).2 ∧ Below B w wr ∧ Apt G G s w wr ∧ Moves s v' w) (fun _ i _ => (exV x 2).toNat - (intOf i).toNat)
            case atStart => exact ⟨0, _, by omega, rfl, rfl, HS2.out⟩
            case round =>
              clear HS2
              obtain ⟨j, v', hj, rfl, rfl, hSJ⟩ := hrel
              have HSJ := Lib.hid hSJ
              clear hSJ
              have hE : ((exV x 2).toNat : Int) = x.c := by have := HPW.out; simp only [exV]; simp; omega
              obtain ⟨hst, _, _, hlen⟩ := powG_st (p := q) (v := 2) (by omega) j (trmG x C 2) HT2.out.1
              have hlo := hst.lo
              have hL := HT2.out.2.2.1
              by_cases hjt : j < (exV x 2).toNat
              · have hjp : (j : Int) < x.c := by omega
                have hj0 : (0 : Int) ≤ (j : Int) := by omega
                have hp9 := HPW.out
                go_wp2_with fail
                refine (iUnkM B G 2 (by omega) p _ _ _ (by omega) hBG HSJ.out.1).mono ?_
                rintro e w5 ⟨v5, rfl, hm5, hb5, ha5, hv5⟩
                have H5 := Lib.hid (show MkS w5 G v5 2 (prC p) (unkG 2 (powG 2 j (trmG x C 2)).2).2 ∧ Below B w w5 ∧ Apt G G s w w5 ∧ Moves s v5 w from ⟨hm5, HSJ.out.2.1.trans hb5, HSJ.out.2.2.1.trans ha5 HSJ.out.2.2.2 HSJ.out.2.1.size, HSJ.out.2.2.2.trans hv5 HSJ.out.2.1.size⟩)
                clear hm5 hb5 ha5 hv5
                obtain ⟨qi, hqi⟩ : ∃ q, q = (unkG 2 (powG 2 j (trmG x C 2)).2).1 := ⟨_, rfl⟩
                obtain ⟨qc, hqc⟩ : ∃ q, q = (unkG 2 (powG 2 j (trmG x C 2)).2).2 := ⟨_, rfl⟩
                have hfa := shr_facts ⟨0, ((2 : Nat) : Int), 0⟩ (powG 2 j (trmG x C 2)).2
                have hfl : qc.length ≤ (powG 2 j (trmG x C 2)).2.length + 1 := by rw [hqc]; exact hfa.2.2
                have hpe : powG 2 (j + 1) (trmG x C 2) = jnG 3 (powG 2 j (trmG x C 2)).1 (qi : Nat) qc := by rw [hqi, hqc]; rfl
                obtain ⟨sf, hsf⟩ : ∃ sf, sf = (powG 2 j (trmG x C 2)).1 := ⟨_, rfl⟩
                rw [← hqc] at H5
                rw [← hqi, ← hsf]
                rw [← hsf] at hpe hlo
                have HPE := Lib.hid hpe
                clear hqi hqc hsf hfa hpe
                go_wp2_with fail
                refine (iJoin B G p 3 sf (qi : Int) _ _ _ hlo (by omega) hBG H5.out.1).mono ?_
                rintro e w6 ⟨v6, rfl, hm6, hb6, ha6, hv6⟩
                have H6 := Lib.hid (show MkS w6 G v6 2 (prC p) (jnG 3 sf (qi : Int) qc).2 ∧ Below B w w6 ∧ Apt G G s w w6 ∧ Moves s v6 w from
                  ⟨hm6, H5.out.2.1.trans hb6, H5.out.2.2.1.trans ha6 H5.out.2.2.2 H5.out.2.1.size, H5.out.2.2.2.trans hv6 H5.out.2.1.size⟩)
                clear hm6 hb6 ha6 hv6
                go_wp2_with fail
                go_roundw
                case rel => exact ⟨j + 1, v6, by omega, by go_num, by rw [HPE.out], by rw [HPE.out]; exact H6.out⟩
                case measure => first | (simp [intOf]; done) | (simp [intOf]; omega)
              · have hje : j = (exV x 2).toNat := by omega
                have hjp : (j : Int) = x.c := by omega
                have HS3 := Lib.hid (show MkS wr G v' 2 (prC p) (trmG x C 3).2 ∧ Below B w wr ∧ Apt G G s w wr ∧ Moves s v' w by
                  have e : trmG x C 3 = powG 2 j (trmG x C 2) := by rw [hje]; rfl
                  rw [e]
                  exact HSJ.out)
                have hsl : (powG 2 j (trmG x C 2)).1 = (trmG x C 3).1 := by rw [hje]; rfl
                rw [hsl]
                clear hsl hst hlen hL HSJ hje
                go_wp2_with fail
                rw [rounds_succ]
                go_wp2_with fail
                go_ret
                exact ⟨_, rfl, HS3.out.1, HS3.out.2.1, HS3.out.2.2.1, HS3.out.2.2.2⟩
  · have HT1E := Lib.hid (show x.t = 1 by omega)
    by_cases hd : x.a + x.b + x.c = 0
    · replace HWE := Lib.hid (show W = w.alloc (Obj.cells #[.int .i64 x.a, .int .i64 x.b, .int .i64 x.c, .int .i64 1] 32) by rw [HWE.out, HT1E.out])
      have HD := Lib.hid hd
      have HS := Lib.hid (show bgnG x C = ((C.length : Int), C ++ [⟨1, 1, 0⟩]) by unfold bgnG bgnB; rw [if_pos, HT1E.out]; unfold degT; simp [hd])
      have hdb : (x.a + x.b + x.c == 0) = true := by simpa using hd
      clear hd
      go_enter Try.func140, Try.ntmps140
      go_wp2_with fail
      rw [← HWE.out]
      refine (iDeg x.a x.b x.c 1 _ HPW.out.1 HPW.out.2.1 HPW.out.2.2).mono ?_
      rintro e w1 ⟨rfl, hb1⟩
      have HBW := Lib.hid hb1
      obtain ⟨t0, t1, t2, t3⟩ := HTX.out _ hb1
      simp only [Nat.zero_add] at t0 t1 t2 t3
      clear hb1
      go_wp2_with fail
      clear t0 t1 t2 t3
      refine (iPutS B G G 2 s _ C ⟨1, 1, 0⟩ _ (by omega) hBG (HW.out _ HBW.out).1).mono ?_
      rintro e w2 ⟨v2, rfl, hm2, hb2, ha2, hv2⟩
      have HS0 := Lib.hid (show MkS w2 G v2 2 (prC p) (trmG x C 0).2 ∧ Below B w w2 ∧ Apt G G s w w2 ∧ Moves s v2 w by
        have hq := HW.out _ HBW.out
        show MkS w2 G v2 2 (prC p) (bgnG x C).2 ∧ _
        rw [HS.out]
        exact ⟨hm2, hq.2.1.trans hb2, hq.2.2.1.trans ha2 (.inl rfl) hq.2.1.size, Moves.trans (.inl rfl) hv2 hq.2.1.size⟩)
      have hsl : (C.length : Int) = (trmG x C 0).1 := by show _ = (bgnG x C).1; rw [HS.out]
      obtain ⟨t0, t1, t2, t3⟩ := HTX.out _ HBW.out
      simp only [Nat.zero_add] at t0 t1 t2 t3
      have hz9 := HBW.out.size
      replace t0 := ha2.get (n := w.heap.size) (by omega) (by omega) (by omega) HVN.out t0
      replace t1 := ha2.get (n := w.heap.size) (by omega) (by omega) (by omega) HVN.out t1
      replace t2 := ha2.get (n := w.heap.size) (by omega) (by omega) (by omega) HVN.out t2
      rw [hsl]
      clear hm2 hb2 ha2 hv2 hsl t3 hz9
      go_wp2_with fail
      refine wp_loop_rounds 4 ?_
      clear t0 t1 t2
      rw [rounds_succ]
      go_wp2_with fail
      go_loopw [5, 28] (fun sf i wr => ∃ (j : Nat) (v' : Value), j ≤ (exV x 0).toNat ∧ i = .int .i64 j ∧ sf = .int .i64 (powG 0 j (trmG x C 0)).1 ∧ MkS wr G v' 2 (prC p) (powG 0 j (trmG x C 0)).2 ∧ Below B w wr ∧ Apt G G s w wr ∧ Moves s v' w) (fun _ i _ => (exV x 0).toNat - (intOf i).toNat)
      case atStart => exact ⟨0, _, by omega, rfl, rfl, HS0.out⟩
      case round =>
        clear HS0
        obtain ⟨j, v', hj, rfl, rfl, hSJ⟩ := hrel
        have HSJ := Lib.hid hSJ
        clear hSJ
        have hE : ((exV x 0).toNat : Int) = x.a := by have := HPW.out; simp only [exV]; simp; omega
        obtain ⟨hst, _, _, hlen⟩ := powG_st (p := q) (v := 0) (by omega) j (trmG x C 0) HT0.out.1
        have hlo := hst.lo
        have hL := HT0.out.2.2.1
        by_cases hjt : j < (exV x 0).toNat
        · have hjp : (j : Int) < x.a := by omega
          have hj0 : (0 : Int) ≤ (j : Int) := by omega
          have hp9 := HPW.out
          have hd9 := HD.out
          omega
        · have hje : j = (exV x 0).toNat := by omega
          have hjp : (j : Int) = x.a := by omega
          have HS1 := Lib.hid (show MkS wr G v' 2 (prC p) (trmG x C 1).2 ∧ Below B w wr ∧ Apt G G s w wr ∧ Moves s v' w by
            have e : trmG x C 1 = powG 0 j (trmG x C 0) := by rw [hje]; rfl
            rw [e]
            exact HSJ.out)
          have hsl : (powG 0 j (trmG x C 0)).1 = (trmG x C 1).1 := by rw [hje]; rfl
          rw [hsl]
          clear hsl hst hlen hL HSJ hje
          go_wp2_with fail
          rw [rounds_succ]
          go_wp2_with fail
          go_loopw [5, 28] (fun sf i wr => ∃ (j : Nat) (v' : Value), j ≤ (exV x 1).toNat ∧ i = .int .i64 j ∧ sf = .int .i64 (powG 1 j (trmG x C 1)).1 ∧ MkS wr G v' 2 (prC p) (powG 1 j (trmG x C 1)).2 ∧ Below B w wr ∧ Apt G G s w wr ∧ Moves s v' w) (fun _ i _ => (exV x 1).toNat - (intOf i).toNat)
          case atStart => exact ⟨0, _, by omega, rfl, rfl, HS1.out⟩
          case round =>
            clear HS1
            obtain ⟨j, v', hj, rfl, rfl, hSJ⟩ := hrel
            have HSJ := Lib.hid hSJ
            clear hSJ
            have hE : ((exV x 1).toNat : Int) = x.b := by have := HPW.out; simp only [exV]; simp; omega
            obtain ⟨hst, _, _, hlen⟩ := powG_st (p := q) (v := 1) (by omega) j (trmG x C 1) HT1.out.1
            have hlo := hst.lo
            have hL := HT1.out.2.2.1
            by_cases hjt : j < (exV x 1).toNat
            · have hjp : (j : Int) < x.b := by omega
              have hj0 : (0 : Int) ≤ (j : Int) := by omega
              have hp9 := HPW.out
              have hd9 := HD.out
              omega
            · have hje : j = (exV x 1).toNat := by omega
              have hjp : (j : Int) = x.b := by omega
              have HS2 := Lib.hid (show MkS wr G v' 2 (prC p) (trmG x C 2).2 ∧ Below B w wr ∧ Apt G G s w wr ∧ Moves s v' w by
                have e : trmG x C 2 = powG 1 j (trmG x C 1) := by rw [hje]; rfl
                rw [e]
                exact HSJ.out)
              have hsl : (powG 1 j (trmG x C 1)).1 = (trmG x C 2).1 := by rw [hje]; rfl
              rw [hsl]
              clear hsl hst hlen hL HSJ hje
              go_wp2_with fail
              rw [rounds_succ]
              go_wp2_with fail
              go_loopw [5, 28] (fun sf i wr => ∃ (j : Nat) (v' : Value), j ≤ (exV x 2).toNat ∧ i = .int .i64 j ∧ sf = .int .i64 (powG 2 j (trmG x C 2)).1 ∧ MkS wr G v' 2 (prC p) (powG 2 j (trmG x C 2)).2 ∧ Below B w wr ∧ Apt G G s w wr ∧ Moves s v' w) (fun _ i _ => (exV x 2).toNat - (intOf i).toNat)
              case atStart => exact ⟨0, _, by omega, rfl, rfl, HS2.out⟩
              case round =>
                clear HS2
                obtain ⟨j, v', hj, rfl, rfl, hSJ⟩ := hrel
                have HSJ := Lib.hid hSJ
                clear hSJ
                have hE : ((exV x 2).toNat : Int) = x.c := by have := HPW.out; simp only [exV]; simp; omega
                obtain ⟨hst, _, _, hlen⟩ := powG_st (p := q) (v := 2) (by omega) j (trmG x C 2) HT2.out.1
                have hlo := hst.lo
                have hL := HT2.out.2.2.1
                by_cases hjt : j < (exV x 2).toNat
                · have hjp : (j : Int) < x.c := by omega
                  have hj0 : (0 : Int) ≤ (j : Int) := by omega
                  have hp9 := HPW.out
                  have hd9 := HD.out
                  omega
                · have hje : j = (exV x 2).toNat := by omega
                  have hjp : (j : Int) = x.c := by omega
                  have HS3 := Lib.hid (show MkS wr G v' 2 (prC p) (trmG x C 3).2 ∧ Below B w wr ∧ Apt G G s w wr ∧ Moves s v' w by
                    have e : trmG x C 3 = powG 2 j (trmG x C 2) := by rw [hje]; rfl
                    rw [e]
                    exact HSJ.out)
                  have hsl : (powG 2 j (trmG x C 2)).1 = (trmG x C 3).1 := by rw [hje]; rfl
                  rw [hsl]
                  clear hsl hst hlen hL HSJ hje
                  go_wp2_with fail
                  rw [rounds_succ]
                  go_wp2_with fail
                  go_ret
                  exact ⟨_, rfl, HS3.out.1, HS3.out.2.1, HS3.out.2.2.1, HS3.out.2.2.2⟩
    · replace HWE := Lib.hid (show W = w.alloc (Obj.cells #[.int .i64 x.a, .int .i64 x.b, .int .i64 x.c, .int .i64 1] 32) by rw [HWE.out, HT1E.out])
      have hdb : (x.a + x.b + x.c == 0) = false := by simpa using hd
      have HS0 := Lib.hid (fun w2 (hb : Below W.heap.size W w2) => show MkS w2 G s 2 (prC p) (trmG x C 0).2 ∧ Below B w w2 ∧ Apt G G s w w2 ∧ Moves s s w by
        have e : trmG x C 0 = (-1, C) := by show bgnG x C = _; unfold bgnG bgnB; rw [if_neg]; unfold degT; simp [HT1E.out, hd]
        rw [e]
        exact HW.out w2 hb)
      have HSL := Lib.hid (show (-1 : Int) = (trmG x C 0).1 by show _ = (bgnG x C).1; unfold bgnG bgnB; rw [if_neg]; unfold degT; simp [HT1E.out, hd])
      go_enter Try.func140, Try.ntmps140
      go_wp2_with fail
      rw [← HWE.out]
      refine (iDeg x.a x.b x.c 1 _ HPW.out.1 HPW.out.2.1 HPW.out.2.2).mono ?_
      rintro e w1 ⟨rfl, hb1⟩
      have HBW := Lib.hid hb1
      obtain ⟨t0, t1, t2, t3⟩ := HTX.out _ hb1
      simp only [Nat.zero_add] at t0 t1 t2 t3
      replace HS0 := Lib.hid (HS0.out w1 hb1)
      clear hb1
      rw [HSL.out]
      go_wp2_with fail
      refine wp_loop_rounds 4 ?_
      clear t0 t1 t2 t3
      rw [rounds_succ]
      go_wp2_with fail
      go_loopw [5, 28] (fun sf i wr => ∃ (j : Nat) (v' : Value), j ≤ (exV x 0).toNat ∧ i = .int .i64 j ∧ sf = .int .i64 (powG 0 j (trmG x C 0)).1 ∧ MkS wr G v' 2 (prC p) (powG 0 j (trmG x C 0)).2 ∧ Below B w wr ∧ Apt G G s w wr ∧ Moves s v' w) (fun _ i _ => (exV x 0).toNat - (intOf i).toNat)
      case atStart => exact ⟨0, _, by omega, rfl, rfl, HS0.out⟩
      case round =>
        clear HS0
        obtain ⟨j, v', hj, rfl, rfl, hSJ⟩ := hrel
        have HSJ := Lib.hid hSJ
        clear hSJ
        have hE : ((exV x 0).toNat : Int) = x.a := by have := HPW.out; simp only [exV]; simp; omega
        obtain ⟨hst, _, _, hlen⟩ := powG_st (p := q) (v := 0) (by omega) j (trmG x C 0) HT0.out.1
        have hlo := hst.lo
        have hL := HT0.out.2.2.1
        by_cases hjt : j < (exV x 0).toNat
        · have hjp : (j : Int) < x.a := by omega
          have hj0 : (0 : Int) ≤ (j : Int) := by omega
          have hp9 := HPW.out
          go_wp2_with fail
          refine (iUnkM B G 0 (by omega) p _ _ _ (by omega) hBG HSJ.out.1).mono ?_
          rintro e w5 ⟨v5, rfl, hm5, hb5, ha5, hv5⟩
          have H5 := Lib.hid (show MkS w5 G v5 2 (prC p) (unkG 0 (powG 0 j (trmG x C 0)).2).2 ∧ Below B w w5 ∧ Apt G G s w w5 ∧ Moves s v5 w from ⟨hm5, HSJ.out.2.1.trans hb5, HSJ.out.2.2.1.trans ha5 HSJ.out.2.2.2 HSJ.out.2.1.size, HSJ.out.2.2.2.trans hv5 HSJ.out.2.1.size⟩)
          clear hm5 hb5 ha5 hv5
          obtain ⟨qi, hqi⟩ : ∃ q, q = (unkG 0 (powG 0 j (trmG x C 0)).2).1 := ⟨_, rfl⟩
          obtain ⟨qc, hqc⟩ : ∃ q, q = (unkG 0 (powG 0 j (trmG x C 0)).2).2 := ⟨_, rfl⟩
          have hfa := shr_facts ⟨0, ((0 : Nat) : Int), 0⟩ (powG 0 j (trmG x C 0)).2
          have hfl : qc.length ≤ (powG 0 j (trmG x C 0)).2.length + 1 := by rw [hqc]; exact hfa.2.2
          have hpe : powG 0 (j + 1) (trmG x C 0) = jnG 3 (powG 0 j (trmG x C 0)).1 (qi : Nat) qc := by rw [hqi, hqc]; rfl
          obtain ⟨sf, hsf⟩ : ∃ sf, sf = (powG 0 j (trmG x C 0)).1 := ⟨_, rfl⟩
          rw [← hqc] at H5
          rw [← hqi, ← hsf]
          rw [← hsf] at hpe hlo
          have HPE := Lib.hid hpe
          clear hqi hqc hsf hfa hpe
          go_wp2_with fail
          refine (iJoin B G p 3 sf (qi : Int) _ _ _ hlo (by omega) hBG H5.out.1).mono ?_
          rintro e w6 ⟨v6, rfl, hm6, hb6, ha6, hv6⟩
          have H6 := Lib.hid (show MkS w6 G v6 2 (prC p) (jnG 3 sf (qi : Int) qc).2 ∧ Below B w w6 ∧ Apt G G s w w6 ∧ Moves s v6 w from
            ⟨hm6, H5.out.2.1.trans hb6, H5.out.2.2.1.trans ha6 H5.out.2.2.2 H5.out.2.1.size, H5.out.2.2.2.trans hv6 H5.out.2.1.size⟩)
          clear hm6 hb6 ha6 hv6
          go_wp2_with fail
          go_roundw
          case rel => exact ⟨j + 1, v6, by omega, by go_num, by rw [HPE.out], by rw [HPE.out]; exact H6.out⟩
          case measure => first | (simp [intOf]; done) | (simp [intOf]; omega)
        · have hje : j = (exV x 0).toNat := by omega
          have hjp : (j : Int) = x.a := by omega
          have HS1 := Lib.hid (show MkS wr G v' 2 (prC p) (trmG x C 1).2 ∧ Below B w wr ∧ Apt G G s w wr ∧ Moves s v' w by
            have e : trmG x C 1 = powG 0 j (trmG x C 0) := by rw [hje]; rfl
            rw [e]
            exact HSJ.out)
          have hsl : (powG 0 j (trmG x C 0)).1 = (trmG x C 1).1 := by rw [hje]; rfl
          rw [hsl]
          clear hsl hst hlen hL HSJ hje
          go_wp2_with fail
          rw [rounds_succ]
          go_wp2_with fail
          go_loopw [5, 28] (fun sf i wr => ∃ (j : Nat) (v' : Value), j ≤ (exV x 1).toNat ∧ i = .int .i64 j ∧ sf = .int .i64 (powG 1 j (trmG x C 1)).1 ∧ MkS wr G v' 2 (prC p) (powG 1 j (trmG x C 1)).2 ∧ Below B w wr ∧ Apt G G s w wr ∧ Moves s v' w) (fun _ i _ => (exV x 1).toNat - (intOf i).toNat)
          case atStart => exact ⟨0, _, by omega, rfl, rfl, HS1.out⟩
          case round =>
            clear HS1
            obtain ⟨j, v', hj, rfl, rfl, hSJ⟩ := hrel
            have HSJ := Lib.hid hSJ
            clear hSJ
            have hE : ((exV x 1).toNat : Int) = x.b := by have := HPW.out; simp only [exV]; simp; omega
            obtain ⟨hst, _, _, hlen⟩ := powG_st (p := q) (v := 1) (by omega) j (trmG x C 1) HT1.out.1
            have hlo := hst.lo
            have hL := HT1.out.2.2.1
            by_cases hjt : j < (exV x 1).toNat
            · have hjp : (j : Int) < x.b := by omega
              have hj0 : (0 : Int) ≤ (j : Int) := by omega
              have hp9 := HPW.out
              go_wp2_with fail
              refine (iUnkM B G 1 (by omega) p _ _ _ (by omega) hBG HSJ.out.1).mono ?_
              rintro e w5 ⟨v5, rfl, hm5, hb5, ha5, hv5⟩
              have H5 := Lib.hid (show MkS w5 G v5 2 (prC p) (unkG 1 (powG 1 j (trmG x C 1)).2).2 ∧ Below B w w5 ∧ Apt G G s w w5 ∧ Moves s v5 w from ⟨hm5, HSJ.out.2.1.trans hb5, HSJ.out.2.2.1.trans ha5 HSJ.out.2.2.2 HSJ.out.2.1.size, HSJ.out.2.2.2.trans hv5 HSJ.out.2.1.size⟩)
              clear hm5 hb5 ha5 hv5
              obtain ⟨qi, hqi⟩ : ∃ q, q = (unkG 1 (powG 1 j (trmG x C 1)).2).1 := ⟨_, rfl⟩
              obtain ⟨qc, hqc⟩ : ∃ q, q = (unkG 1 (powG 1 j (trmG x C 1)).2).2 := ⟨_, rfl⟩
              have hfa := shr_facts ⟨0, ((1 : Nat) : Int), 0⟩ (powG 1 j (trmG x C 1)).2
              have hfl : qc.length ≤ (powG 1 j (trmG x C 1)).2.length + 1 := by rw [hqc]; exact hfa.2.2
              have hpe : powG 1 (j + 1) (trmG x C 1) = jnG 3 (powG 1 j (trmG x C 1)).1 (qi : Nat) qc := by rw [hqi, hqc]; rfl
              obtain ⟨sf, hsf⟩ : ∃ sf, sf = (powG 1 j (trmG x C 1)).1 := ⟨_, rfl⟩
              rw [← hqc] at H5
              rw [← hqi, ← hsf]
              rw [← hsf] at hpe hlo
              have HPE := Lib.hid hpe
              clear hqi hqc hsf hfa hpe
              go_wp2_with fail
              refine (iJoin B G p 3 sf (qi : Int) _ _ _ hlo (by omega) hBG H5.out.1).mono ?_
              rintro e w6 ⟨v6, rfl, hm6, hb6, ha6, hv6⟩
              have H6 := Lib.hid (show MkS w6 G v6 2 (prC p) (jnG 3 sf (qi : Int) qc).2 ∧ Below B w w6 ∧ Apt G G s w w6 ∧ Moves s v6 w from
                ⟨hm6, H5.out.2.1.trans hb6, H5.out.2.2.1.trans ha6 H5.out.2.2.2 H5.out.2.1.size, H5.out.2.2.2.trans hv6 H5.out.2.1.size⟩)
              clear hm6 hb6 ha6 hv6
              go_wp2_with fail
              go_roundw
              case rel => exact ⟨j + 1, v6, by omega, by go_num, by rw [HPE.out], by rw [HPE.out]; exact H6.out⟩
              case measure => first | (simp [intOf]; done) | (simp [intOf]; omega)
            · have hje : j = (exV x 1).toNat := by omega
              have hjp : (j : Int) = x.b := by omega
              have HS2 := Lib.hid (show MkS wr G v' 2 (prC p) (trmG x C 2).2 ∧ Below B w wr ∧ Apt G G s w wr ∧ Moves s v' w by
                have e : trmG x C 2 = powG 1 j (trmG x C 1) := by rw [hje]; rfl
                rw [e]
                exact HSJ.out)
              have hsl : (powG 1 j (trmG x C 1)).1 = (trmG x C 2).1 := by rw [hje]; rfl
              rw [hsl]
              clear hsl hst hlen hL HSJ hje
              go_wp2_with fail
              rw [rounds_succ]
              go_wp2_with fail
              go_loopw [5, 28] (fun sf i wr => ∃ (j : Nat) (v' : Value), j ≤ (exV x 2).toNat ∧ i = .int .i64 j ∧ sf = .int .i64 (powG 2 j (trmG x C 2)).1 ∧ MkS wr G v' 2 (prC p) (powG 2 j (trmG x C 2)).2 ∧ Below B w wr ∧ Apt G G s w wr ∧ Moves s v' w) (fun _ i _ => (exV x 2).toNat - (intOf i).toNat)
              case atStart => exact ⟨0, _, by omega, rfl, rfl, HS2.out⟩
              case round =>
                clear HS2
                obtain ⟨j, v', hj, rfl, rfl, hSJ⟩ := hrel
                have HSJ := Lib.hid hSJ
                clear hSJ
                have hE : ((exV x 2).toNat : Int) = x.c := by have := HPW.out; simp only [exV]; simp; omega
                obtain ⟨hst, _, _, hlen⟩ := powG_st (p := q) (v := 2) (by omega) j (trmG x C 2) HT2.out.1
                have hlo := hst.lo
                have hL := HT2.out.2.2.1
                by_cases hjt : j < (exV x 2).toNat
                · have hjp : (j : Int) < x.c := by omega
                  have hj0 : (0 : Int) ≤ (j : Int) := by omega
                  have hp9 := HPW.out
                  go_wp2_with fail
                  refine (iUnkM B G 2 (by omega) p _ _ _ (by omega) hBG HSJ.out.1).mono ?_
                  rintro e w5 ⟨v5, rfl, hm5, hb5, ha5, hv5⟩
                  have H5 := Lib.hid (show MkS w5 G v5 2 (prC p) (unkG 2 (powG 2 j (trmG x C 2)).2).2 ∧ Below B w w5 ∧ Apt G G s w w5 ∧ Moves s v5 w from ⟨hm5, HSJ.out.2.1.trans hb5, HSJ.out.2.2.1.trans ha5 HSJ.out.2.2.2 HSJ.out.2.1.size, HSJ.out.2.2.2.trans hv5 HSJ.out.2.1.size⟩)
                  clear hm5 hb5 ha5 hv5
                  obtain ⟨qi, hqi⟩ : ∃ q, q = (unkG 2 (powG 2 j (trmG x C 2)).2).1 := ⟨_, rfl⟩
                  obtain ⟨qc, hqc⟩ : ∃ q, q = (unkG 2 (powG 2 j (trmG x C 2)).2).2 := ⟨_, rfl⟩
                  have hfa := shr_facts ⟨0, ((2 : Nat) : Int), 0⟩ (powG 2 j (trmG x C 2)).2
                  have hfl : qc.length ≤ (powG 2 j (trmG x C 2)).2.length + 1 := by rw [hqc]; exact hfa.2.2
                  have hpe : powG 2 (j + 1) (trmG x C 2) = jnG 3 (powG 2 j (trmG x C 2)).1 (qi : Nat) qc := by rw [hqi, hqc]; rfl
                  obtain ⟨sf, hsf⟩ : ∃ sf, sf = (powG 2 j (trmG x C 2)).1 := ⟨_, rfl⟩
                  rw [← hqc] at H5
                  rw [← hqi, ← hsf]
                  rw [← hsf] at hpe hlo
                  have HPE := Lib.hid hpe
                  clear hqi hqc hsf hfa hpe
                  go_wp2_with fail
                  refine (iJoin B G p 3 sf (qi : Int) _ _ _ hlo (by omega) hBG H5.out.1).mono ?_
                  rintro e w6 ⟨v6, rfl, hm6, hb6, ha6, hv6⟩
                  have H6 := Lib.hid (show MkS w6 G v6 2 (prC p) (jnG 3 sf (qi : Int) qc).2 ∧ Below B w w6 ∧ Apt G G s w w6 ∧ Moves s v6 w from
                    ⟨hm6, H5.out.2.1.trans hb6, H5.out.2.2.1.trans ha6 H5.out.2.2.2 H5.out.2.1.size, H5.out.2.2.2.trans hv6 H5.out.2.1.size⟩)
                  clear hm6 hb6 ha6 hv6
                  go_wp2_with fail
                  go_roundw
                  case rel => exact ⟨j + 1, v6, by omega, by go_num, by rw [HPE.out], by rw [HPE.out]; exact H6.out⟩
                  case measure => first | (simp [intOf]; done) | (simp [intOf]; omega)
                · have hje : j = (exV x 2).toNat := by omega
                  have hjp : (j : Int) = x.c := by omega
                  have HS3 := Lib.hid (show MkS wr G v' 2 (prC p) (trmG x C 3).2 ∧ Below B w wr ∧ Apt G G s w wr ∧ Moves s v' w by
                    have e : trmG x C 3 = powG 2 j (trmG x C 2) := by rw [hje]; rfl
                    rw [e]
                    exact HSJ.out)
                  have hsl : (powG 2 j (trmG x C 2)).1 = (trmG x C 3).1 := by rw [hje]; rfl
                  rw [hsl]
                  clear hsl hst hlen hL HSJ hje
                  go_wp2_with fail
                  rw [rounds_succ]
                  go_wp2_with fail
                  go_ret
                  exact ⟨_, rfl, HS3.out.1, HS3.out.2.1, HS3.out.2.2.1, HS3.out.2.2.2⟩
end Go.Proofs.Ytegkcfinklcglaa
namespace Go.Proofs.Ytegkcfinklcglaa
open Go.RowKit
theorem MkS.mak {w : World} {G : Nat} {p : Int} {v : Value} {C : List Gt} (h : MkS w G v 2 (prC p) C) : MakW w G p v := ⟨h.sh.c0, h.sh.oth 1 (by omega) (by omega), h.sh.f0, h.sh.lt⟩
set_option maxRecDepth 100000 in
set_option maxHeartbeats 4000000 in
theorem iCircuitOf_no (p : Int) (f : Value) (L : List Trm) (w : World) (h : Trms w f L) (hv : (isP p && validB p L) = false) :
    Calls Try.prog 64 #[.int .i64 p, f] w (GivesGB [] false w) := by
  have HPV := Lib.hid (iPolyValid p f L w h)
  rw [hv] at HPV
  obtain ⟨_, a, cap, rfl, _⟩ := h
  clear hv
  go_enter Try.func64, Try.ntmps64
  go_wp2_with fail
  refine HPV.out.mono ?_
  rintro e w1 ⟨rfl, hb1⟩
  have HB := Lib.hid hb1
  clear hb1
  go_wp2_with fail
  refine bodyPost_ret (results_tmp2 rfl _ _ _) rfl ?_
  exact ⟨_, rfl, (RowGt.nil w1 w.heap.size).own (by simp), HB.out⟩
set_option maxRecDepth 100000 in
set_option maxHeartbeats 8000000 in
theorem iCircuitOf_yes (p : Int) (f : Value) (L : List Trm) (w : World) (h : Trms w f L) (hp : isP p = true) (hV : validB p L = true) (R : List Gt) (b : Bool) (hR : R = coV p L) (hb : b = coB p L) :
    Calls Try.prog 64 #[.int .i64 p, f] w (GivesGB R b w) := by
  have HPV := Lib.hid (iPolyValid p f L w h)
  rw [show (isP p && validB p L) = true by rw [hp, hV]; rfl] at HPV
  have hl := validB_len hV
  have hl0 : (L.length : Int) ≤ 60 := by omega
  have HV := Lib.hid hV
  have HCG := Lib.hid (coG_st hp hV)
  have HCB := Lib.hid (coB_circ hp hV)
  have HBB := Lib.hid (show b = decide ((coG L).length ≤ 60) by rw [hb]; unfold coB; rw [hp, hV]; rfl)
  have HRR := Lib.hid (show R = if b = true then coG L else [] by rw [hR, hb]; rfl)
  obtain ⟨_, a, cap, rfl, hT⟩ := h
  have HT := Lib.hid hT
  clear hT hV hR hb hp
  go_enter Try.func64, Try.ntmps64
  go_wp2_with fail
  refine HPV.out.mono ?_
  rintro e w1 ⟨rfl, hb1⟩
  obtain ⟨W, hW⟩ : ∃ W, W = w1.alloc (Obj.cells #[.slice none 0 0, .int .i64 p] 135) := ⟨_, rfl⟩
  have HS0 := Lib.hid (show MkS W w1.heap.size (.slice none 0 0) 2 (prC p) [] ∧ Below w.heap.size w W by
    rw [hW]
    refine ⟨⟨⟨by simp [go_sem], fun i h1 h2 => ?_, World.frozen?_alloc_at _ _ _ 0 rfl, by simp, fun i h1 h2 => World.frozen?_alloc_at _ _ _ i (by simp)⟩, RowGt.nil _ _⟩, Below.alloc hb1 hb1.size _⟩
    have : i = 1 := by omega
    subst this
    simp [go_sem, prC])
  have HGW := Lib.hid hb1.size
  obtain ⟨G, hG⟩ : ∃ G, G = w1.heap.size := ⟨_, rfl⟩
  rw [← hG] at HS0 HGW
  have HWE := Lib.hid hW
  have hGE := Lib.hid hG
  clear hW hb1 hG
  by_cases h0 : L.length = 0
  · have hL : L = [] := List.length_eq_zero_iff.1 h0
    have HL := Lib.hid hL
    have HPU := Lib.hid (fun w' h => iPutS w.heap.size G G 2 (.slice none 0 0) (prC p) [] ⟨1, 0, 0⟩ w' (by simp) HGW.out h)
    clear hL
    go_wp2_with fail
    rw [← HWE.out, ← hGE.out]
    refine (HPU.out _ HS0.out.1).mono ?_
    rintro e w2 ⟨v2, rfl, hm2, hb2, ha2, hv2⟩
    have H2 := Lib.hid (And.intro hm2 (HS0.out.2.trans hb2))
    clear hm2 hb2 ha2 hv2
    go_wp2_with fail
    refine wp_loop_rounds 1 ?_
    rw [rounds_succ]
    have HCO := Lib.hid (show coG L = [] ++ [⟨1, 0, 0⟩] by rw [HL.out]; rfl)
    have HG9 := Lib.hid ((H2.out.1.row.mono (show w.heap.size ≤ G + 1 by have := HGW.out; omega)).own (by have := HCG.out.2.2; rw [HCO.out] at this; omega))
    have HMD := Lib.hid (iMade G p v2 ([] ++ [⟨1, 0, 0⟩] : List Gt) w2 H2.out.1.mak HG9.out.gats)
    rw [show circB p ([] ++ [⟨1, 0, 0⟩] : List Gt) = decide ((coG L).length ≤ 60) by rw [← HCO.out]; exact HCB.out, ← HBB.out] at HMD
    have HMV := Lib.hid (show madeV p ([] ++ [⟨1, 0, 0⟩] : List Gt) v2 = if b = true then v2 else .slice none 0 0 by unfold madeV; rw [← HCO.out, HCB.out, ← HBB.out])
    obtain ⟨a9, k9, he9⟩ := H2.out.1.slice
    rw [he9] at HMD HMV HG9
    clear he9
    cases b
    · have hm : madeV p ([] ++ [⟨1, 0, 0⟩] : List Gt) (.slice a9 (([] ++ [⟨1, 0, 0⟩] : List Gt)).length k9) = .slice none 0 0 := HMV.out
      rw [hm] at HMD
      have hr : R = [] := HRR.out
      subst hr
      clear hm
      go_wp2_with fail
      refine HMD.out.mono ?_
      rintro e w5 ⟨rfl, hb5⟩
      have H5 := Lib.hid (H2.out.2.trans (hb5.mono H2.out.2.size))
      clear hb5
      go_wp2_with fail
      refine bodyPost_ret (results_tmp2 rfl _ _ _) rfl ?_
      exact ⟨_, rfl, (RowGt.nil w5 w.heap.size).own (by simp), H5.out⟩
    · have hm : madeV p ([] ++ [⟨1, 0, 0⟩] : List Gt) (.slice a9 (([] ++ [⟨1, 0, 0⟩] : List Gt)).length k9) = .slice a9 (([] ++ [⟨1, 0, 0⟩] : List Gt)).length k9 := HMV.out
      rw [hm] at HMD
      have hr : R = coG L := HRR.out
      subst hr
      clear hm
      go_wp2_with fail
      refine HMD.out.mono ?_
      rintro e w5 ⟨rfl, hb5⟩
      have H5 := Lib.hid (And.intro (HG9.out.below hb5) (H2.out.2.trans (hb5.mono H2.out.2.size)))
      clear hb5
      go_wp2_with fail
      refine bodyPost_ret (results_tmp2 rfl _ _ _) rfl ?_
      refine ⟨_, rfl, ?_, H5.out.2⟩
      rw [HCO.out]
      exact H5.out.1
  · have hb0 : (((L.length : Nat) : Int) == 0) = false := beq_eq_false_iff_ne.2 (by omega)
    go_wp2_with fail
    rw [← HWE.out, ← hGE.out]
    go_loopw [7, 23] (fun s i wr => ∃ (k : Nat) (v' : Value), k ≤ L.length ∧ i = .int .i64 k ∧ s = .int .i64 (polG L k).1 ∧ MkS wr G v' 2 (prC p) (polG L k).2 ∧ Below w.heap.size w wr) (fun _ i _ => L.length - (intOf i).toNat)
    case atStart => exact ⟨0, _, by omega, rfl, rfl, HS0.out⟩
    case round =>
      clear HS0
      obtain ⟨k, v', hk, rfl, rfl, hS, hb⟩ := hrel
      obtain ⟨hst, hln, hpos⟩ := polG_st HV.out k hk
      have hlo := hst.lo
      have HS := Lib.hid (And.intro hS hb)
      by_cases hlt : k < L.length
      · have hltp : (k : Int) < (L.length : Int) := by omega
        have hk0 : (0 : Int) ≤ (k : Int) := by omega
        obtain ⟨g, off, rfl, hg, hc⟩ : ∃ g off, a = some ⟨g, off, none⟩ ∧ g < w.heap.size ∧ ∀ j : Nat, j < L.length → TAt w g (off + j * 4) (L.getD j default) := by
          rcases HT.out with h | h
          · rw [h] at hlt; simp at hlt
          · exact h
        obtain ⟨x, hx⟩ : ∃ x, x = L.getD k default := ⟨_, rfl⟩
        obtain ⟨b0, b1, b2, b3⟩ := (hc k hlt).below hb hg
        rw [← hx] at b0 b1 b2 b3
        have hel := validB_el HV.out hlt hx
        have hpw := validB_pows HV.out hlt hx
        have hbn : Below wr.heap.size wr (wr.alloc (Obj.cells #[.int .i64 x.a, .int .i64 x.b, .int .i64 x.c, .int .i64 x.t] 32)) := Below.alloc (Below.refl _ _) (Nat.le_refl _) _
        have hgb : w.heap.size ≤ wr.heap.size := hb.size
        have HTM := Lib.hid ((iTermM w.heap.size G p p v' (polG L k).2 x _ (by omega) HGW.out hel hpw hst.ok (hS.below hbn)).mono fun e w'' h => h.from hbn hgb)
        have HX := Lib.hid (show polG L (k + 1) = jnG 2 (polG L k).1 (trmG x (polG L k).2 3).1 (trmG x (polG L k).2 3).2 by rw [hx]; rfl)
        have htl := (trmG_st (p := p) (C := (polG L k).2) hel hpw hst.ok 3 (by omega)).2.2.1
        obtain ⟨⟨n1, C1⟩, hN1⟩ : ∃ N, N = trmG x (polG L k).2 3 := ⟨_, rfl⟩
        rw [← hN1] at HTM HX htl
        simp only at HTM HX htl
        obtain ⟨⟨sf, C0⟩, hN0⟩ : ∃ N, N = polG L k := ⟨_, rfl⟩
        rw [← hN0] at HX hlo htl hln HS ⊢
        simp only at HX hlo htl hln HS ⊢
        clear hx hc hb hst hpos hel hpw hbn hN1 hN0 hS
        go_wp2_with fail
        refine HTM.out.mono ?_
        rintro e w5 ⟨v5, rfl, hm5, hb5, ha5, hv5⟩
        have H5 := Lib.hid (And.intro hm5 (HS.out.2.trans hb5))
        clear hm5 hb5 ha5 hv5 b0 b1 b2 b3
        go_wp2_with fail
        refine (iJoin w.heap.size G p 2 sf n1 v5 C1 w5 hlo (by omega) HGW.out H5.out.1).mono ?_
        rintro e w6 ⟨v6, rfl, hm6, hb6, ha6, hv6⟩
        have H6 := Lib.hid (And.intro hm6 (H5.out.2.trans hb6))
        clear hm6 hb6 ha6 hv6
        go_wp2_with fail
        go_roundw
        case rel => exact ⟨k + 1, v6, by omega, by go_num, by rw [HX.out], by rw [HX.out]; exact H6.out⟩
        case measure => simp [intOf]; omega
      · have hkl : k = L.length := by omega
        subst hkl
        have HCO := Lib.hid (show coG L = (polG L L.length).2 by unfold coG; rw [if_neg (fun e => h0 (by rw [e]; rfl))])
        have HG9 := Lib.hid ((HS.out.1.row.mono (show w.heap.size ≤ G + 1 by have := HGW.out; omega)).own (by have := HCG.out.2.2; rw [HCO.out] at this; omega))
        have HMD := Lib.hid (iMade G p v' (polG L L.length).2 wr HS.out.1.mak HG9.out.gats)
        rw [show circB p (polG L L.length).2 = decide ((coG L).length ≤ 60) by rw [← HCO.out]; exact HCB.out, ← HBB.out] at HMD
        have HMV := Lib.hid (show madeV p (polG L L.length).2 v' = if b = true then v' else .slice none 0 0 by unfold madeV; rw [← HCO.out, HCB.out, ← HBB.out])
        obtain ⟨a9, k9, he9⟩ := HS.out.1.slice
        rw [he9] at HMD HMV HG9
        clear hS hb hst hlo hpos hln
        subst he9
        cases b
        · have hm : madeV p (polG L L.length).2 (.slice a9 ((polG L L.length).2).length k9) = .slice none 0 0 := HMV.out
          rw [hm] at HMD
          have hr : R = [] := HRR.out
          subst hr
          clear hm
          go_wp2_with fail
          refine HMD.out.mono ?_
          rintro e w5 ⟨rfl, hb5⟩
          have H5 := Lib.hid (HS.out.2.trans (hb5.mono HS.out.2.size))
          clear hb5
          go_wp2_with fail
          refine bodyPost_ret (results_tmp2 rfl _ _ _) rfl ?_
          exact ⟨_, rfl, (RowGt.nil w5 w.heap.size).own (by simp), H5.out⟩
        · have hm : madeV p (polG L L.length).2 (.slice a9 ((polG L L.length).2).length k9) = .slice a9 ((polG L L.length).2).length k9 := HMV.out
          rw [hm] at HMD
          have hr : R = coG L := HRR.out
          subst hr
          clear hm
          go_wp2_with fail
          refine HMD.out.mono ?_
          rintro e w5 ⟨rfl, hb5⟩
          have H5 := Lib.hid (And.intro (HG9.out.below hb5) (HS.out.2.trans (hb5.mono HS.out.2.size)))
          clear hb5
          go_wp2_with fail
          refine bodyPost_ret (results_tmp2 rfl _ _ _) rfl ?_
          refine ⟨_, rfl, ?_, H5.out.2⟩
          rw [HCO.out]
          exact H5.out.1
theorem iCircuitOf (p : Int) (f : Value) (L : List Trm) (w : World) (h : Trms w f L) :
    Calls Try.prog 64 #[.int .i64 p, f] w (GivesGB (coV p L) (coB p L) w) := by
  cases hv : (isP p && validB p L)
  · have e1 : coB p L = false := by unfold coB; rw [hv]; rfl
    have e2 : coV p L = [] := by unfold coV; rw [e1]; rfl
    rw [e1, e2]
    exact iCircuitOf_no p f L w h hv
  · simp only [Bool.and_eq_true] at hv
    exact iCircuitOf_yes p f L w h hv.1 hv.2 _ _ rfl rfl
end Go.Proofs.Ytegkcfinklcglaa
