/-
  CircuitOf of the model. Conditions: what the slice holds is known.
  CircuitOf of the model, on. Conditions: what the slice holds is known.
  CircuitOf of the model, on. Conditions: what the slice holds is known.
  CircuitOf of the program. Conditions: what the slice holds is known.
-/
import Derived.Test.YtegkcfinklcglaaBo35
import Derived.Test.YtegkcfinklcglaaBo12
import Derived.Test.YtegkcfinklcglaaBo37
import Derived.Test.YtegkcfinklcglaaBo21
import Derived.Test.YtegkcfinklcglaaBo14
namespace Go.Proofs.Ytegkcfinklcglaa
open Go.RowKit
/-- where the one gate of an unknown stands, -1 if there is none -/
def posG (v : Nat) (C : List Gt) : Int := match ixG ⟨0, (v : Int), 0⟩ C with
  | some n => (n : Int)
  | none => -1
/-- the other cells of the model's maker -/
def plC (C : List Gt) (i : Nat) : Value := .int .i64 (posG (i - 1) C)
theorem ixG_snoc (y x : Gt) : ∀ C : List Gt, ixG y (C ++ [x]) = match ixG y C with
    | some n => some n
    | none => if eqGt y x = true then some C.length else none
  | [] => by
    show (if eqGt y x = true then some 0 else (ixG y []).map (· + 1)) = _
    rfl
  | z :: r => by
    show (if eqGt y z = true then some 0 else (ixG y (r ++ [x])).map (· + 1)) = _
    rw [ixG_snoc y x r]
    show _ = (match (if eqGt y z = true then some 0 else (ixG y r).map (· + 1)) with | some n => some n | none => if eqGt y x = true then some (r.length + 1) else none)
    cases h1 : eqGt y z
    · simp only [Bool.false_eq_true, if_false]
      cases h2 : ixG y r with
      | none =>
        simp only [Option.map_none]
        split <;> rfl
      | some n => rfl
    · rfl
theorem posG_far {x : Gt} (hx : x.k ≠ 0) (v : Nat) (C : List Gt) : posG v (C ++ [x]) = posG v C := by
  have hn : eqGt ⟨0, (v : Int), 0⟩ x = false := by
    cases e : eqGt ⟨0, (v : Int), 0⟩ x
    · rfl
    · rw [eqGt_iff] at e
      exact absurd (by rw [← e]) hx
  unfold posG
  rw [ixG_snoc, hn]
  cases ixG ⟨0, (v : Int), 0⟩ C <;> rfl
theorem plC_far {x : Gt} (hx : x.k ≠ 0) (C : List Gt) : plC (C ++ [x]) = plC C := by
  funext i
  unfold plC
  rw [posG_far hx]
theorem posG_new {v : Nat} {C : List Gt} (h : ixG ⟨0, (v : Int), 0⟩ C = none) (u : Nat) : posG u (C ++ [⟨0, (v : Int), 0⟩]) = if u = v then (C.length : Int) else posG u C := by
  unfold posG
  rw [ixG_snoc]
  by_cases e : u = v
  · subst e
    rw [h, if_pos rfl]
    simp [eqGt]
  · rw [if_neg e]
    have hn : eqGt ⟨0, (u : Int), 0⟩ ⟨0, (v : Int), 0⟩ = false := by
      simp [eqGt]
      omega
    rw [hn]
    cases ixG ⟨0, (u : Int), 0⟩ C <;> rfl
theorem MkS.cs {w : World} {G n : Nat} {v : Value} {cs cs' : Nat → Value} {C : List Gt} (h : MkS w G v n cs C) (he : ∀ i, 1 ≤ i → i < n → cs' i = cs i) : MkS w G v n cs' C :=
  ⟨⟨h.sh.c0, fun i h1 h2 => by rw [he i h1 h2]; exact h.sh.oth i h1 h2, h.sh.f0, h.sh.lt, h.sh.fz⟩, h.row⟩
theorem MkS.setC {w : World} {G n i : Nat} {v u : Value} {cs : Nat → Value} {C : List Gt} (h : MkS w G v n cs C) (h1 : 1 ≤ i) (h2 : i < n) : MkS (w.setCell ⟨G, i, none⟩ u) G v n (fun j => if j = i then u else cs j) C := by
  refine ⟨⟨?_, fun j hj1 hj2 => ?_, by rw [World.frozen?_setCell]; exact h.sh.f0, by simpa using h.sh.lt, fun j hj1 hj2 => by rw [World.frozen?_setCell]; exact h.sh.fz j hj1 hj2⟩, h.row.setFar (Nat.lt_succ_self G) i u⟩
  · rw [World.cell?_setCell_other _ _ _ _ (addr_ne (by omega))]; exact h.sh.c0
  · by_cases e : j = i
    · subst e
      rw [if_pos rfl]
      exact World.cell?_setCell_same _ _ _ (h.sh.oth j hj1 hj2)
    · rw [if_neg e, World.cell?_setCell_other _ _ _ _ (addr_ne (by omega))]; exact h.sh.oth j hj1 hj2
set_option maxRecDepth 100000 in
set_option maxHeartbeats 8000000 in
theorem sUnkM (B G v : Nat) (hv : v < 3) (s : Value) (C : List Gt) (w : World) (hl : C.length ≤ 4000) (hBG : B ≤ G) (h : MkS w G s 4 (plC C) C) :
    Calls Try.prog 201 #[.pointer (some ⟨G, 0, none⟩), .int .i64 (v : Int)] w (MkTo B G G 4 (plC (unkG v C).2) (unkG v C).2 s ((unkG v C).1 : Nat) w) := by
  have hv3 : v = 0 ∨ v = 1 ∨ v = 2 := by omega
  have HH := Lib.hid h
  have hlt := h.sh.lt
  have c0 := h.sh.oth (1 + v) (by omega) (by omega)
  have f0 := h.sh.fz (1 + v) (by omega) (by omega)
  have hpl : plC C (1 + v) = .int .i64 (posG v C) := by unfold plC; rw [Nat.add_sub_cancel_left]
  rw [hpl] at c0
  have HP := Lib.hid (sPutS B G G 4 s (plC C) C ⟨0, (v : Int), 0⟩)
  clear hpl
  cases hix : ixG ⟨0, (v : Int), 0⟩ C with
  | some k =>
    have e : unkG v C = (k, C) := shr_hit hix
    have e2 : posG v C = (k : Int) := by unfold posG; rw [hix]
    rw [e]
    rw [e2] at c0
    have hk0 : ¬ (k : Int) < 0 := by omega
    clear e e2 hix f0 h
    rcases hv3 with rfl | rfl | rfl
    all_goals
      go_enter Try.func201, Try.ntmps201
      go_wp2_with fail
      go_ret
      exact ⟨_, rfl, HH.out, Below.refl _ _, Apt.of_below (Below.refl _ _), .inl rfl⟩
  | none =>
    have e : unkG v C = (C.length, C ++ [⟨0, (v : Int), 0⟩]) := shr_new hix
    have e2 : posG v C = -1 := by unfold posG; rw [hix]
    rw [e]
    rw [e2] at c0
    have HIX := Lib.hid hix
    clear e e2 hix h
    rcases hv3 with rfl | rfl | rfl
    · go_enter Try.func201, Try.ntmps201
      go_wp2_with fail
      go_region_held3 (fun w' => G < w'.heap.size) (first | exact Nat.lt_of_lt_of_le (by assumption) hb3.size | go_keep)
        (first | (go_at_call 179; refine (HP.out _ (by omega) hBG (HH.out.below (Below.drew (Below.refl _ _)))).mono ?_; rintro e w3 ⟨v3, rfl, hm3, hb3, ha3, hv3⟩; have k1 := hm3.sh.oth 1 (by omega) (by omega); have k2 := hm3.sh.fz 1 (by omega) (by omega)))
      all_goals
        have hz := HH.out.sh.lt
        have H3 := Lib.hid (show MkS (w3.setCell ⟨G, 1, none⟩ (.int .i64 (C.length : Nat))) G v3 4 (plC (C ++ [⟨0, ((0 : Nat) : Int), 0⟩])) (C ++ [⟨0, ((0 : Nat) : Int), 0⟩]) ∧ Below B w (w3.setCell ⟨G, 1, none⟩ (.int .i64 (C.length : Nat))) ∧ Apt G G s w (w3.setCell ⟨G, 1, none⟩ (.int .i64 (C.length : Nat))) ∧ Moves s v3 w by
          refine ⟨(hm3.setC (by omega) (by omega)).cs fun i h1 h2 => ?_, ?_, fun b hb h1 h2 h3 => ?_, hv3⟩
          · unfold plC
            rw [posG_new HIX.out]
            by_cases e : i = 1
            · subst e
              rfl
            · rw [if_neg e, if_neg (by omega)]
          · exact ((Below.drew (Below.refl B w) : Below B w w.drew).trans hb3).setCell (by show B ≤ G; exact hBG) _
          · exact (Below.heap_setCell _ _ _ _ (by simpa using fun e => h1 e)).trans (ha3 b (by simpa using hb) h1 h2 h3))
        clear hm3 hb3 ha3 hv3
        go_wp2_with fail
        go_ret
        exact ⟨_, rfl, H3.out.1, H3.out.2.1, H3.out.2.2.1, H3.out.2.2.2⟩
    · go_enter Try.func201, Try.ntmps201
      go_wp2_with fail
      go_region_held3 (fun w' => G < w'.heap.size) (first | exact Nat.lt_of_lt_of_le (by assumption) hb3.size | go_keep)
        (first | (go_at_call 179; refine (HP.out _ (by omega) hBG (HH.out.below (Below.drew (Below.refl _ _)))).mono ?_; rintro e w3 ⟨v3, rfl, hm3, hb3, ha3, hv3⟩; have k1 := hm3.sh.oth 2 (by omega) (by omega); have k2 := hm3.sh.fz 2 (by omega) (by omega)))
      all_goals
        have hz := HH.out.sh.lt
        have H3 := Lib.hid (show MkS (w3.setCell ⟨G, 2, none⟩ (.int .i64 (C.length : Nat))) G v3 4 (plC (C ++ [⟨0, ((1 : Nat) : Int), 0⟩])) (C ++ [⟨0, ((1 : Nat) : Int), 0⟩]) ∧ Below B w (w3.setCell ⟨G, 2, none⟩ (.int .i64 (C.length : Nat))) ∧ Apt G G s w (w3.setCell ⟨G, 2, none⟩ (.int .i64 (C.length : Nat))) ∧ Moves s v3 w by
          refine ⟨(hm3.setC (by omega) (by omega)).cs fun i h1 h2 => ?_, ?_, fun b hb h1 h2 h3 => ?_, hv3⟩
          · unfold plC
            rw [posG_new HIX.out]
            by_cases e : i = 2
            · subst e
              rfl
            · rw [if_neg e, if_neg (by omega)]
          · exact ((Below.drew (Below.refl B w) : Below B w w.drew).trans hb3).setCell (by show B ≤ G; exact hBG) _
          · exact (Below.heap_setCell _ _ _ _ (by simpa using fun e => h1 e)).trans (ha3 b (by simpa using hb) h1 h2 h3))
        clear hm3 hb3 ha3 hv3
        go_wp2_with fail
        go_ret
        exact ⟨_, rfl, H3.out.1, H3.out.2.1, H3.out.2.2.1, H3.out.2.2.2⟩
    · go_enter Try.func201, Try.ntmps201
      go_wp2_with fail
      go_region_held3 (fun w' => G < w'.heap.size) (first | exact Nat.lt_of_lt_of_le (by assumption) hb3.size | go_keep)
        (first | (go_at_call 179; refine (HP.out _ (by omega) hBG (HH.out.below (Below.drew (Below.refl _ _)))).mono ?_; rintro e w3 ⟨v3, rfl, hm3, hb3, ha3, hv3⟩; have k1 := hm3.sh.oth 3 (by omega) (by omega); have k2 := hm3.sh.fz 3 (by omega) (by omega)))
      all_goals
        have hz := HH.out.sh.lt
        have H3 := Lib.hid (show MkS (w3.setCell ⟨G, 3, none⟩ (.int .i64 (C.length : Nat))) G v3 4 (plC (C ++ [⟨0, ((2 : Nat) : Int), 0⟩])) (C ++ [⟨0, ((2 : Nat) : Int), 0⟩]) ∧ Below B w (w3.setCell ⟨G, 3, none⟩ (.int .i64 (C.length : Nat))) ∧ Apt G G s w (w3.setCell ⟨G, 3, none⟩ (.int .i64 (C.length : Nat))) ∧ Moves s v3 w by
          refine ⟨(hm3.setC (by omega) (by omega)).cs fun i h1 h2 => ?_, ?_, fun b hb h1 h2 h3 => ?_, hv3⟩
          · unfold plC
            rw [posG_new HIX.out]
            by_cases e : i = 3
            · subst e
              rfl
            · rw [if_neg e, if_neg (by omega)]
          · exact ((Below.drew (Below.refl B w) : Below B w w.drew).trans hb3).setCell (by show B ≤ G; exact hBG) _
          · exact (Below.heap_setCell _ _ _ _ (by simpa using fun e => h1 e)).trans (ha3 b (by simpa using hb) h1 h2 h3))
        clear hm3 hb3 ha3 hv3
        go_wp2_with fail
        go_ret
        exact ⟨_, rfl, H3.out.1, H3.out.2.1, H3.out.2.2.1, H3.out.2.2.2⟩
end Go.Proofs.Ytegkcfinklcglaa
namespace Go.Proofs.Ytegkcfinklcglaa
open Go.RowKit
set_option maxRecDepth 100000 in
set_option maxHeartbeats 32000000 in
theorem sTermM (B G : Nat) (q : Int) (s : Value) (C : List Gt) (x : Trm) (w : World) (hl : C.length ≤ 3400) (hBG : B ≤ G) (hx : 1 ≤ x.t ∧ x.t < q) (hpw : (0 ≤ x.a ∧ x.a ≤ 9) ∧ (0 ≤ x.b ∧ x.b ≤ 9) ∧ (0 ≤ x.c ∧ x.c ≤ 9)) (hok : AllOK q C) (h : MkS w G s 4 (plC C) C) :
    Calls Try.prog 178 #[.pointer (some ⟨G, 0, none⟩), .agg #[.int .i64 x.a, .int .i64 x.b, .int .i64 x.c, .int .i64 x.t]] w (MkTo B G G 4 (plC (trmG x C 3).2) (trmG x C 3).2 s (trmG x C 3).1 w) := by
  have HT0 := Lib.hid (trmG_st hx hpw hok 0 (by omega))
  have HT1 := Lib.hid (trmG_st hx hpw hok 1 (by omega))
  have HT2 := Lib.hid (trmG_st hx hpw hok 2 (by omega))
  obtain ⟨W, hW⟩ : ∃ W, W = w.alloc (Obj.cells #[.int .i64 x.a, .int .i64 x.b, .int .i64 x.c, .int .i64 x.t] 32) := ⟨_, rfl⟩
  have bW : Below w.heap.size w W := by rw [hW]; exact Below.alloc (Below.refl _ _) (Nat.le_refl _) _
  have hsW : w.heap.size < W.heap.size := by rw [hW]; simp
  have hB : B ≤ w.heap.size := Nat.le_trans hBG (Nat.le_of_lt h.sh.lt)
  have hGw := h.sh.lt
  have HVN := Lib.hid (h.old (Nat.le_refl _))
  have hTX : TAt W w.heap.size 0 x := by rw [hW]; refine ⟨?_, ?_, ?_, ?_⟩ <;> simp [go_sem]
  have HTX := Lib.hid (fun w' (hb : Below W.heap.size W w') => hTX.below hb hsW)
  have HW := Lib.hid (fun w' (hb : Below W.heap.size W w') => show MkS w' G s 4 (plC C) C ∧ Below B w w' ∧ Apt G G s w w' ∧ Moves s s w by
    have hb2 : Below w.heap.size w w' := bW.trans (hb.mono (Nat.le_of_lt hsW))
    exact ⟨h.below hb2, hb2.mono hB, Apt.of_below hb2, .inl rfl⟩)
  have HPW := Lib.hid hpw
  have HWE := Lib.hid hW
  have hx1 := hx.1
  have k0 := idx0
  have k1 := idx1
  have k2 := idx2
  clear hx hpw hok h hW bW hTX
  by_cases ht : 1 < x.t
  · have HS := Lib.hid (show bgnG x C = ((C.length : Int), C ++ [⟨1, x.t, 0⟩]) by unfold bgnG bgnB; rw [if_pos]; simp; omega)
    have hxn : ¬ x.t = 1 := by omega
    have HBW := Lib.hid (Below.refl W.heap.size W)
    go_enter Try.func178, Try.ntmps178
    go_wp2_with fail
    rw [← HWE.out]
    refine (sPutS B G G 4 s _ C ⟨1, x.t, 0⟩ _ (by omega) hBG (HW.out _ HBW.out).1).mono ?_
    rintro e w2 ⟨v2, rfl, hm2, hb2, ha2, hv2⟩
    have HS0 := Lib.hid (show MkS w2 G v2 4 (plC (trmG x C 0).2) (trmG x C 0).2 ∧ Below B w w2 ∧ Apt G G s w w2 ∧ Moves s v2 w by
      have hq := HW.out _ HBW.out
      show MkS w2 G v2 4 (plC (bgnG x C).2) (bgnG x C).2 ∧ _
      rw [HS.out]
      exact ⟨by rw [plC_far (show (1 : Int) ≠ 0 by decide)]; exact hm2, hq.2.1.trans hb2, hq.2.2.1.trans ha2 (.inl rfl) hq.2.1.size, Moves.trans (.inl rfl) hv2 hq.2.1.size⟩)
    have hsl : (C.length : Int) = (trmG x C 0).1 := by show _ = (bgnG x C).1; rw [HS.out]
    obtain ⟨t0, t1, t2, t3⟩ := HTX.out _ HBW.out
    simp only [Nat.zero_add] at t0 t1 t2 t3
    have hz9 := HBW.out.size
    replace t0 := ha2.get (n := w.heap.size) (by omega) (by omega) (by omega) HVN.out t0
    replace t1 := ha2.get (n := w.heap.size) (by omega) (by omega) (by omega) HVN.out t1
    replace t2 := ha2.get (n := w.heap.size) (by omega) (by omega) (by omega) HVN.out t2
    rw [hsl]
    clear hm2 hb2 ha2 hv2 hsl t3 hz9
    go_wp2_with fail
    refine wp_loop_rounds 4 ?_
    clear t0 t1 t2
    rw [rounds_succ]
    go_wp2_with fail
    go_loopw [5, 30] (fun sf i wr => ∃ (j : Nat) (v' : Value), j ≤ (exV x 0).toNat ∧ i = .int .i64 j ∧ sf = .int .i64 (powG 0 j (trmG x C 0)).1 ∧ MkS wr G v' 4 (plC (powG 0 j (trmG x C 0)).2) (powG 0 j (trmG x C 0)).2 ∧ Below B w wr ∧ Apt G G s w wr ∧ Moves s v' w) (fun _ i _ => (exV x 0).toNat - (intOf i).toNat)
    case atStart => exact ⟨0, _, by omega, rfl, rfl, HS0.out⟩
    case round =>
      clear HS0
      obtain ⟨j, v', hj, rfl, rfl, hSJ⟩ := hrel
      have HSJ := Lib.hid hSJ
      clear hSJ
      have hE : ((exV x 0).toNat : Int) = x.a := by have := HPW.out; simp only [exV]; simp; omega
      obtain ⟨hst, _, _, hlen⟩ := powG_st (p := q) (v := 0) (by omega) j (trmG x C 0) HT0.out.1
      have hlo := hst.lo
      have hL := HT0.out.2.2.1
      by_cases hjt : j < (exV x 0).toNat
      · have hjp : (j : Int) < x.a := by omega
        have hj0 : (0 : Int) ≤ (j : Int) := by omega
        have hp9 := HPW.out
        go_wp2_with fail
        refine (sUnkM B G 0 (by omega) _ _ _ (by omega) hBG HSJ.out.1).mono ?_
        rintro e w5 ⟨v5, rfl, hm5, hb5, ha5, hv5⟩
        have H5 := Lib.hid (show MkS w5 G v5 4 (plC (unkG 0 (powG 0 j (trmG x C 0)).2).2) (unkG 0 (powG 0 j (trmG x C 0)).2).2 ∧ Below B w w5 ∧ Apt G G s w w5 ∧ Moves s v5 w from ⟨hm5, HSJ.out.2.1.trans hb5, HSJ.out.2.2.1.trans ha5 HSJ.out.2.2.2 HSJ.out.2.1.size, HSJ.out.2.2.2.trans hv5 HSJ.out.2.1.size⟩)
        clear hm5 hb5 ha5 hv5
        obtain ⟨qi, hqi⟩ : ∃ q, q = (unkG 0 (powG 0 j (trmG x C 0)).2).1 := ⟨_, rfl⟩
        obtain ⟨qc, hqc⟩ : ∃ q, q = (unkG 0 (powG 0 j (trmG x C 0)).2).2 := ⟨_, rfl⟩
        have hfa := shr_facts ⟨0, ((0 : Nat) : Int), 0⟩ (powG 0 j (trmG x C 0)).2
        have hfl : qc.length ≤ (powG 0 j (trmG x C 0)).2.length + 1 := by rw [hqc]; exact hfa.2.2
        have hpe : powG 0 (j + 1) (trmG x C 0) = jnG 3 (powG 0 j (trmG x C 0)).1 (qi : Nat) qc := by rw [hqi, hqc]; rfl
        obtain ⟨sf, hsf⟩ : ∃ sf, sf = (powG 0 j (trmG x C 0)).1 := ⟨_, rfl⟩
        rw [← hqc] at H5
        rw [← hqi, ← hsf]
        rw [← hsf] at hpe hlo
        have HPE := Lib.hid hpe
        clear hqi hqc hsf hfa hpe
        by_cases hneg : sf < 0
        · have HE := Lib.hid (show powG 0 (j + 1) (trmG x C 0) = ((qi : Int), qc) by rw [HPE.out]; unfold jnG; rw [if_pos hneg])
          go_wp2_with fail
          go_roundw
          case rel => exact ⟨j + 1, v5, by omega, by go_num, by rw [HE.out], by rw [HE.out]; exact H5.out⟩
          case measure => first | (simp [intOf]; done) | (simp [intOf]; omega)
        · have HE := Lib.hid (show powG 0 (j + 1) (trmG x C 0) = ((qc.length : Int), qc ++ [⟨3, sf, (qi : Int)⟩]) by rw [HPE.out]; unfold jnG; rw [if_neg hneg])
          go_wp2_with fail
          refine (sPutS B G G 4 v5 _ qc ⟨3, sf, (qi : Int)⟩ w5 (by omega) hBG H5.out.1).mono ?_
          rintro e w6 ⟨v6, rfl, hm6, hb6, ha6, hv6⟩
          have H6 := Lib.hid (show MkS w6 G v6 4 (plC (qc ++ [⟨3, sf, (qi : Int)⟩])) (qc ++ [⟨3, sf, (qi : Int)⟩]) ∧ Below B w w6 ∧ Apt G G s w w6 ∧ Moves s v6 w from
            ⟨by rw [plC_far (show (3 : Int) ≠ 0 by decide)]; exact hm6, H5.out.2.1.trans hb6, H5.out.2.2.1.trans ha6 H5.out.2.2.2 H5.out.2.1.size, H5.out.2.2.2.trans hv6 H5.out.2.1.size⟩)
          clear hm6 hb6 ha6 hv6
          go_wp2_with fail
          go_roundw
          case rel => exact ⟨j + 1, v6, by omega, by go_num, by rw [HE.out], by rw [HE.out]; exact H6.out⟩
          case measure => first | (simp [intOf]; done) | (simp [intOf]; omega)
      · have hje : j = (exV x 0).toNat := by omega
        have hjp : (j : Int) = x.a := by omega
        have HS1 := Lib.hid (show MkS wr G v' 4 (plC (trmG x C 1).2) (trmG x C 1).2 ∧ Below B w wr ∧ Apt G G s w wr ∧ Moves s v' w by
          have e : trmG x C 1 = powG 0 j (trmG x C 0) := by rw [hje]; rfl
          rw [e]
          exact HSJ.out)
        have hsl : (powG 0 j (trmG x C 0)).1 = (trmG x C 1).1 := by rw [hje]; rfl
        rw [hsl]
        clear hsl hst hlen hL HSJ hje
        go_wp2_with fail
        rw [rounds_succ]
        go_wp2_with fail
        go_loopw [5, 30] (fun sf i wr => ∃ (j : Nat) (v' : Value), j ≤ (exV x 1).toNat ∧ i = .int .i64 j ∧ sf = .int .i64 (powG 1 j (trmG x C 1)).1 ∧ MkS wr G v' 4 (plC (powG 1 j (trmG x C 1)).2) (powG 1 j (trmG x C 1)).2 ∧ Below B w wr ∧ Apt G G s w wr ∧ Moves s v' w) (fun _ i _ => (exV x 1).toNat - (intOf i).toNat)
        case atStart => exact ⟨0, _, by omega, rfl, rfl, HS1.out⟩
        case round =>
          clear HS1
          obtain ⟨j, v', hj, rfl, rfl, hSJ⟩ := hrel
          have HSJ := Lib.hid hSJ
          clear hSJ
          have hE : ((exV x 1).toNat : Int) = x.b := by have := HPW.out; simp only [exV]; simp; omega
          obtain ⟨hst, _, _, hlen⟩ := powG_st (p := q) (v := 1) (by omega) j (trmG x C 1) HT1.out.1
          have hlo := hst.lo
          have hL := HT1.out.2.2.1
          by_cases hjt : j < (exV x 1).toNat
          · have hjp : (j : Int) < x.b := by omega
            have hj0 : (0 : Int) ≤ (j : Int) := by omega
            have hp9 := HPW.out
            go_wp2_with fail
            refine (sUnkM B G 1 (by omega) _ _ _ (by omega) hBG HSJ.out.1).mono ?_
            rintro e w5 ⟨v5, rfl, hm5, hb5, ha5, hv5⟩
            have H5 := Lib.hid (show MkS w5 G v5 4 (plC (unkG 1 (powG 1 j (trmG x C 1)).2).2) (unkG 1 (powG 1 j (trmG x C 1)).2).2 ∧ Below B w w5 ∧ Apt G G s w w5 ∧ Moves s v5 w from ⟨hm5, HSJ.out.2.1.trans hb5, HSJ.out.2.2.1.trans ha5 HSJ.out.2.2.2 HSJ.out.2.1.size, HSJ.out.2.2.2.trans hv5 HSJ.out.2.1.size⟩)
            clear hm5 hb5 ha5 hv5
            obtain ⟨qi, hqi⟩ : ∃ q, q = (unkG 1 (powG 1 j (trmG x C 1)).2).1 := ⟨_, rfl⟩
            obtain ⟨qc, hqc⟩ : ∃ q, q = (unkG 1 (powG 1 j (trmG x C 1)).2).2 := ⟨_, rfl⟩
            have hfa := shr_facts ⟨0, ((1 : Nat) : Int), 0⟩ (powG 1 j (trmG x C 1)).2
            have hfl : qc.length ≤ (powG 1 j (trmG x C 1)).2.length + 1 := by rw [hqc]; exact hfa.2.2
            have hpe : powG 1 (j + 1) (trmG x C 1) = jnG 3 (powG 1 j (trmG x C 1)).1 (qi : Nat) qc := by rw [hqi, hqc]; rfl
            obtain ⟨sf, hsf⟩ : ∃ sf, sf = (powG 1 j (trmG x C 1)).1 := ⟨_, rfl⟩
            rw [← hqc] at H5
            rw [← hqi, ← hsf]
            rw [← hsf] at hpe hlo
            have HPE := Lib.hid hpe
            clear hqi hqc hsf hfa hpe
            by_cases hneg : sf < 0
            · have HE := Lib.hid (show powG 1 (j + 1) (trmG x C 1) = ((qi : Int), qc) by rw [HPE.out]; unfold jnG; rw [if_pos hneg])
              go_wp2_with fail
              go_roundw
              case rel => exact ⟨j + 1, v5, by omega, by go_num, by rw [HE.out], by rw [HE.out]; exact H5.out⟩
              case measure => first | (simp [intOf]; done) | (simp [intOf]; omega)
            · have HE := Lib.hid (show powG 1 (j + 1) (trmG x C 1) = ((qc.length : Int), qc ++ [⟨3, sf, (qi : Int)⟩]) by rw [HPE.out]; unfold jnG; rw [if_neg hneg])
              go_wp2_with fail
              refine (sPutS B G G 4 v5 _ qc ⟨3, sf, (qi : Int)⟩ w5 (by omega) hBG H5.out.1).mono ?_
              rintro e w6 ⟨v6, rfl, hm6, hb6, ha6, hv6⟩
              have H6 := Lib.hid (show MkS w6 G v6 4 (plC (qc ++ [⟨3, sf, (qi : Int)⟩])) (qc ++ [⟨3, sf, (qi : Int)⟩]) ∧ Below B w w6 ∧ Apt G G s w w6 ∧ Moves s v6 w from
                ⟨by rw [plC_far (show (3 : Int) ≠ 0 by decide)]; exact hm6, H5.out.2.1.trans hb6, H5.out.2.2.1.trans ha6 H5.out.2.2.2 H5.out.2.1.size, H5.out.2.2.2.trans hv6 H5.out.2.1.size⟩)
              clear hm6 hb6 ha6 hv6
              go_wp2_with fail
              go_roundw
              case rel => exact ⟨j + 1, v6, by omega, by go_num, by rw [HE.out], by rw [HE.out]; exact H6.out⟩
              case measure => first | (simp [intOf]; done) | (simp [intOf]; omega)
          · have hje : j = (exV x 1).toNat := by omega
            have hjp : (j : Int) = x.b := by omega
            have HS2 := Lib.hid (show MkS wr G v' 4 (plC (trmG x C 2).2) (trmG x C 2).2 ∧ Below B w wr ∧ Apt G G s w wr ∧ Moves s v' w by
              have e : trmG x C 2 = powG 1 j (trmG x C 1) := by rw [hje]; rfl
              rw [e]
              exact HSJ.out)
            have hsl : (powG 1 j (trmG x C 1)).1 = (trmG x C 2).1 := by rw [hje]; rfl
            rw [hsl]
            clear hsl hst hlen hL HSJ hje
            go_wp2_with fail
            rw [rounds_succ]
            go_wp2_with fail
            go_loopw [5, 30] (fun sf i wr => ∃ (j : Nat) (v' : Value), j ≤ (exV x 2).toNat ∧ i = .int .i64 j ∧ sf = .int .i64 (powG 2 j (trmG x C 2)).1 ∧ MkS wr G v' 4 (plC (powG 2 j (trmG x C 2)).2) (powG 2 j (trmG x C 2)).2 ∧ Below B w wr ∧ Apt G G s w wr ∧ Moves s v' w) (fun _ i _ => (exV x 2).toNat - (intOf i).toNat)
            case atStart => exact ⟨0, _, by omega, rfl, rfl, HS2.out⟩
            case round =>
              clear HS2
              obtain ⟨j, v', hj, rfl, rfl, hSJ⟩ := hrel
              have HSJ := Lib.hid hSJ
              clear hSJ
              have hE : ((exV x 2).toNat : Int) = x.c := by have := HPW.out; simp only [exV]; simp; omega
              obtain ⟨hst, _, _, hlen⟩ := powG_st (p := q) (v := 2) (by omega) j (trmG x C 2) HT2.out.1
              have hlo := hst.lo
              have hL := HT2.out.2.2.1
              by_cases hjt : j < (exV x 2).toNat
              · have hjp : (j : Int) < x.c := by omega
                have hj0 : (0 : Int) ≤ (j : Int) := by omega
                have hp9 := HPW.out
                go_wp2_with fail
                refine (sUnkM B G 2 (by omega) _ _ _ (by omega) hBG HSJ.out.1).mono ?_
                rintro e w5 ⟨v5, rfl, hm5, hb5, ha5, hv5⟩
                have H5 := Lib.hid (show MkS w5 G v5 4 (plC (unkG 2 (powG 2 j (trmG x C 2)).2).2) (unkG 2 (powG 2 j (trmG x C 2)).2).2 ∧ Below B w w5 ∧ Apt G G s w w5 ∧ Moves s v5 w from ⟨hm5, HSJ.out.2.1.trans hb5, HSJ.out.2.2.1.trans ha5 HSJ.out.2.2.2 HSJ.out.2.1.size, HSJ.out.2.2.2.trans hv5 HSJ.out.2.1.size⟩)
                clear hm5 hb5 ha5 hv5
                obtain ⟨qi, hqi⟩ : ∃ q, q = (unkG 2 (powG 2 j (trmG x C 2)).2).1 := ⟨_, rfl⟩
                obtain ⟨qc, hqc⟩ : ∃ q, q = (unkG 2 (powG 2 j (trmG x C 2)).2).2 := ⟨_, rfl⟩
                have hfa := shr_facts ⟨0, ((2 : Nat) : Int), 0⟩ (powG 2 j (trmG x C 2)).2
                have hfl : qc.length ≤ (powG 2 j (trmG x C 2)).2.length + 1 := by rw [hqc]; exact hfa.2.2
                have hpe : powG 2 (j + 1) (trmG x C 2) = jnG 3 (powG 2 j (trmG x C 2)).1 (qi : Nat) qc := by rw [hqi, hqc]; rfl
                obtain ⟨sf, hsf⟩ : ∃ sf, sf = (powG 2 j (trmG x C 2)).1 := ⟨_, rfl⟩
                rw [← hqc] at H5
                rw [← hqi, ← hsf]
                rw [← hsf] at hpe hlo
                have HPE := Lib.hid hpe
                clear hqi hqc hsf hfa hpe
                by_cases hneg : sf < 0
                · have HE := Lib.hid (show powG 2 (j + 1) (trmG x C 2) = ((qi : Int), qc) by rw [HPE.out]; unfold jnG; rw [if_pos hneg])
                  go_wp2_with fail
                  go_roundw
                  case rel => exact ⟨j + 1, v5, by omega, by go_num, by rw [HE.out], by rw [HE.out]; exact H5.out⟩
                  case measure => first | (simp [intOf]; done) | (simp [intOf]; omega)
                · have HE := Lib.hid (show powG 2 (j + 1) (trmG x C 2) = ((qc.length : Int), qc ++ [⟨3, sf, (qi : Int)⟩]) by rw [HPE.out]; unfold jnG; rw [if_neg hneg])
                  go_wp2_with fail
                  refine (sPutS B G G 4 v5 _ qc ⟨3, sf, (qi : Int)⟩ w5 (by omega) hBG H5.out.1).mono ?_
                  rintro e w6 ⟨v6, rfl, hm6, hb6, ha6, hv6⟩
                  have H6 := Lib.hid (show MkS w6 G v6 4 (plC (qc ++ [⟨3, sf, (qi : Int)⟩])) (qc ++ [⟨3, sf, (qi : Int)⟩]) ∧ Below B w w6 ∧ Apt G G s w w6 ∧ Moves s v6 w from
                    ⟨by rw [plC_far (show (3 : Int) ≠ 0 by decide)]; exact hm6, H5.out.2.1.trans hb6, H5.out.2.2.1.trans ha6 H5.out.2.2.2 H5.out.2.1.size, H5.out.2.2.2.trans hv6 H5.out.2.1.size⟩)
                  clear hm6 hb6 ha6 hv6
                  go_wp2_with fail
                  go_roundw
                  case rel => exact ⟨j + 1, v6, by omega, by go_num, by rw [HE.out], by rw [HE.out]; exact H6.out⟩
                  case measure => first | (simp [intOf]; done) | (simp [intOf]; omega)
              · have hje : j = (exV x 2).toNat := by omega
                have hjp : (j : Int) = x.c := by omega
                have HS3 := Lib.hid (show MkS wr G v' 4 (plC (trmG x C 3).2) (trmG x C 3).2 ∧ Below B w wr ∧ Apt G G s w wr ∧ Moves s v' w by
                  have e : trmG x C 3 = powG 2 j (trmG x C 2) := by rw [hje]; rfl
                  rw [e]
                  exact HSJ.out)
                have hsl : (powG 2 j (trmG x C 2)).1 = (trmG x C 3).1 := by rw [hje]; rfl
                rw [hsl]
                clear hsl hst hlen hL HSJ hje
                go_wp2_with fail
                rw [rounds_succ]
                go_wp2_with fail
                go_ret
                exact ⟨_, rfl, HS3.out.1, HS3.out.2.1, HS3.out.2.2.1, HS3.out.2.2.2⟩
  · have HT1E := Lib.hid (show x.t = 1 by omega)
    by_cases hd : x.a + x.b + x.c = 0
    · have HD := Lib.hid hd
      have HS := Lib.hid (show bgnG x C = ((C.length : Int), C ++ [⟨1, x.t, 0⟩]) by unfold bgnG bgnB; rw [if_pos]; unfold degT; simp [hd])
      go_enter Try.func178, Try.ntmps178
      go_wp2_with fail
      rw [← HWE.out]
      refine (sDeg x.a x.b x.c _ HPW.out.1 HPW.out.2.1 HPW.out.2.2).mono ?_
      rintro e w1 ⟨rfl, hb1⟩
      have HBW := Lib.hid hb1
      obtain ⟨t0, t1, t2, t3⟩ := HTX.out _ hb1
      simp only [Nat.zero_add] at t0 t1 t2 t3
      clear hb1
      go_wp2_with fail
      clear t0 t1 t2 t3
      refine (sPutS B G G 4 s _ C ⟨1, x.t, 0⟩ _ (by omega) hBG (HW.out _ HBW.out).1).mono ?_
      rintro e w2 ⟨v2, rfl, hm2, hb2, ha2, hv2⟩
      have HS0 := Lib.hid (show MkS w2 G v2 4 (plC (trmG x C 0).2) (trmG x C 0).2 ∧ Below B w w2 ∧ Apt G G s w w2 ∧ Moves s v2 w by
        have hq := HW.out _ HBW.out
        show MkS w2 G v2 4 (plC (bgnG x C).2) (bgnG x C).2 ∧ _
        rw [HS.out]
        exact ⟨by rw [plC_far (show (1 : Int) ≠ 0 by decide)]; exact hm2, hq.2.1.trans hb2, hq.2.2.1.trans ha2 (.inl rfl) hq.2.1.size, Moves.trans (.inl rfl) hv2 hq.2.1.size⟩)
      have hsl : (C.length : Int) = (trmG x C 0).1 := by show _ = (bgnG x C).1; rw [HS.out]
      obtain ⟨t0, t1, t2, t3⟩ := HTX.out _ HBW.out
      simp only [Nat.zero_add] at t0 t1 t2 t3
      have hz9 := HBW.out.size
      replace t0 := ha2.get (n := w.heap.size) (by omega) (by omega) (by omega) HVN.out t0
      replace t1 := ha2.get (n := w.heap.size) (by omega) (by omega) (by omega) HVN.out t1
      replace t2 := ha2.get (n := w.heap.size) (by omega) (by omega) (by omega) HVN.out t2
      rw [hsl]
      clear hm2 hb2 ha2 hv2 hsl t3 hz9
      go_wp2_with fail
      refine wp_loop_rounds 4 ?_
      clear t0 t1 t2
      rw [rounds_succ]
      go_wp2_with fail
      go_loopw [5, 30] (fun sf i wr => ∃ (j : Nat) (v' : Value), j ≤ (exV x 0).toNat ∧ i = .int .i64 j ∧ sf = .int .i64 (powG 0 j (trmG x C 0)).1 ∧ MkS wr G v' 4 (plC (powG 0 j (trmG x C 0)).2) (powG 0 j (trmG x C 0)).2 ∧ Below B w wr ∧ Apt G G s w wr ∧ Moves s v' w) (fun _ i _ => (exV x 0).toNat - (intOf i).toNat)
      case atStart => exact ⟨0, _, by omega, rfl, rfl, HS0.out⟩
      case round =>
        clear HS0
        obtain ⟨j, v', hj, rfl, rfl, hSJ⟩ := hrel
        have HSJ := Lib.hid hSJ
        clear hSJ
        have hE : ((exV x 0).toNat : Int) = x.a := by have := HPW.out; simp only [exV]; simp; omega
        obtain ⟨hst, _, _, hlen⟩ := powG_st (p := q) (v := 0) (by omega) j (trmG x C 0) HT0.out.1
        have hlo := hst.lo
        have hL := HT0.out.2.2.1
        by_cases hjt : j < (exV x 0).toNat
        · have hjp : (j : Int) < x.a := by omega
          have hj0 : (0 : Int) ≤ (j : Int) := by omega
          have hp9 := HPW.out
          have hd9 := HD.out
          omega
        · have hje : j = (exV x 0).toNat := by omega
          have hjp : (j : Int) = x.a := by omega
          have HS1 := Lib.hid (show MkS wr G v' 4 (plC (trmG x C 1).2) (trmG x C 1).2 ∧ Below B w wr ∧ Apt G G s w wr ∧ Moves s v' w by
            have e : trmG x C 1 = powG 0 j (trmG x C 0) := by rw [hje]; rfl
            rw [e]
            exact HSJ.out)
          have hsl : (powG 0 j (trmG x C 0)).1 = (trmG x C 1).1 := by rw [hje]; rfl
          rw [hsl]
          clear hsl hst hlen hL HSJ hje
          go_wp2_with fail
          rw [rounds_succ]
          go_wp2_with fail
          go_loopw [5, 30] (fun sf i wr => ∃ (j : Nat) (v' : Value), j ≤ (exV x 1).toNat ∧ i = .int .i64 j ∧ sf = .int .i64 (powG 1 j (trmG x C 1)).1 ∧ MkS wr G v' 4 (plC (powG 1 j (trmG x C 1)).2) (powG 1 j (trmG x C 1)).2 ∧ Below B w wr ∧ Apt G G s w wr ∧ Moves s v' w) (fun _ i _ => (exV x 1).toNat - (intOf i).toNat)
          case atStart => exact ⟨0, _, by omega, rfl, rfl, HS1.out⟩
          case round =>
            clear HS1
            obtain ⟨j, v', hj, rfl, rfl, hSJ⟩ := hrel
            have HSJ := Lib.hid hSJ
            clear hSJ
            have hE : ((exV x 1).toNat : Int) = x.b := by have := HPW.out; simp only [exV]; simp; omega
            obtain ⟨hst, _, _, hlen⟩ := powG_st (p := q) (v := 1) (by omega) j (trmG x C 1) HT1.out.1
            have hlo := hst.lo
            have hL := HT1.out.2.2.1
            by_cases hjt : j < (exV x 1).toNat
            · have hjp : (j : Int) < x.b := by omega
              have hj0 : (0 : Int) ≤ (j : Int) := by omega
              have hp9 := HPW.out
              have hd9 := HD.out
              omega
            · have hje : j = (exV x 1).toNat := by omega
              have hjp : (j : Int) = x.b := by omega
              have HS2 := Lib.hid (show MkS wr G v' 4 (plC (trmG x C 2).2) (trmG x C 2).2 ∧ Below B w wr ∧ Apt G G s w wr ∧ Moves s v' w by
                have e : trmG x C 2 = powG 1 j (trmG x C 1) := by rw [hje]; rfl
                rw [e]
                exact HSJ.out)
              have hsl : (powG 1 j (trmG x C 1)).1 = (trmG x C 2).1 := by rw [hje]; rfl
              rw [hsl]
              clear hsl hst hlen hL HSJ hje
              go_wp2_with fail
              rw [rounds_succ]
              go_wp2_with fail
              go_loopw [5, 30] (fun sf i wr => ∃ (j : Nat) (v' : Value), j ≤ (exV x 2).toNat ∧ i = .int .i64 j ∧ sf = .int .i64 (powG 2 j (trmG x C 2)).1 ∧ MkS wr G v' 4 (plC (powG 2 j (trmG x C 2)).2) (powG 2 j (trmG x C 2)).2 ∧ Below B w wr ∧ Apt G G s w wr ∧ Moves s v' w) (fun _ i _ => (exV x 2).toNat - (intOf i).toNat)
              case atStart => exact ⟨0, _, by omega, rfl, rfl, HS2.out⟩
              case round =>
                clear HS2
                obtain ⟨j, v', hj, rfl, rfl, hSJ⟩ := hrel
                have HSJ := Lib.hid hSJ
                clear hSJ
                have hE : ((exV x 2).toNat : Int) = x.c := by have := HPW.out; simp only [exV]; simp; omega
                obtain ⟨hst, _, _, hlen⟩ := powG_st (p := q) (v := 2) (by omega) j (trmG x C 2) HT2.out.1
                have hlo := hst.lo
                have hL := HT2.out.2.2.1
                by_cases hjt : j < (exV x 2).toNat
                · have hjp : (j : Int) < x.c := by omega
                  have hj0 : (0 : Int) ≤ (j : Int) := by omega
                  have hp9 := HPW.out
                  have hd9 := HD.out
                  omega
                · have hje : j = (exV x 2).toNat := by omega
                  have hjp : (j : Int) = x.c := by omega
                  have HS3 := Lib.hid (show MkS wr G v' 4 (plC (trmG x C 3).2) (trmG x C 3).2 ∧ Below B w wr ∧ Apt G G s w wr ∧ Moves s v' w by
                    have e : trmG x C 3 = powG 2 j (trmG x C 2) := by rw [hje]; rfl
                    rw [e]
                    exact HSJ.out)
                  have hsl : (powG 2 j (trmG x C 2)).1 = (trmG x C 3).1 := by rw [hje]; rfl
                  rw [hsl]
                  clear hsl hst hlen hL HSJ hje
                  go_wp2_with fail
                  rw [rounds_succ]
                  go_wp2_with fail
                  go_ret
                  exact ⟨_, rfl, HS3.out.1, HS3.out.2.1, HS3.out.2.2.1, HS3.out.2.2.2⟩
    · have hdb : (x.a + x.b + x.c == 0) = false := by simpa using hd
      have HS0 := Lib.hid (fun w2 (hb : Below W.heap.size W w2) => show MkS w2 G s 4 (plC (trmG x C 0).2) (trmG x C 0).2 ∧ Below B w w2 ∧ Apt G G s w w2 ∧ Moves s s w by
        have e : trmG x C 0 = (-1, C) := by show bgnG x C = _; unfold bgnG bgnB; rw [if_neg]; unfold degT; simp [HT1E.out, hd]
        rw [e]
        exact HW.out w2 hb)
      have HSL := Lib.hid (show (-1 : Int) = (trmG x C 0).1 by show _ = (bgnG x C).1; unfold bgnG bgnB; rw [if_neg]; unfold degT; simp [HT1E.out, hd])
      go_enter Try.func178, Try.ntmps178
      go_wp2_with fail
      rw [← HWE.out]
      refine (sDeg x.a x.b x.c _ HPW.out.1 HPW.out.2.1 HPW.out.2.2).mono ?_
      rintro e w1 ⟨rfl, hb1⟩
      have HBW := Lib.hid hb1
      obtain ⟨t0, t1, t2, t3⟩ := HTX.out _ hb1
      simp only [Nat.zero_add] at t0 t1 t2 t3
      replace HS0 := Lib.hid (HS0.out w1 hb1)
      clear hb1
      rw [HSL.out]
      go_wp2_with fail
      refine wp_loop_rounds 4 ?_
      clear t0 t1 t2 t3
      rw [rounds_succ]
      go_wp2_with fail
      go_loopw [5, 30] (fun sf i wr => ∃ (j : Nat) (v' : Value), j ≤ (exV x 0).toNat ∧ i = .int .i64 j ∧ sf = .int .i64 (powG 0 j (trmG x C 0)).1 ∧ MkS wr G v' 4 (plC (powG 0 j (trmG x C 0)).2) (powG 0 j (trmG x C 0)).2 ∧ Below B w wr ∧ Apt G G s w wr ∧ Moves s v' w) (fun _ i _ => (exV x 0).toNat - (intOf i).toNat)
      case atStart => exact ⟨0, _, by omega, rfl, rfl, HS0.out⟩
      case round =>
        clear HS0
        obtain ⟨j, v', hj, rfl, rfl, hSJ⟩ := hrel
        have HSJ := Lib.hid hSJ
        clear hSJ
        have hE : ((exV x 0).toNat : Int) = x.a := by have := HPW.out; simp only [exV]; simp; omega
        obtain ⟨hst, _, _, hlen⟩ := powG_st (p := q) (v := 0) (by omega) j (trmG x C 0) HT0.out.1
        have hlo := hst.lo
        have hL := HT0.out.2.2.1
        by_cases hjt : j < (exV x 0).toNat
        · have hjp : (j : Int) < x.a := by omega
          have hj0 : (0 : Int) ≤ (j : Int) := by omega
          have hp9 := HPW.out
          go_wp2_with fail
          refine (sUnkM B G 0 (by omega) _ _ _ (by omega) hBG HSJ.out.1).mono ?_
          rintro e w5 ⟨v5, rfl, hm5, hb5, ha5, hv5⟩
          have H5 := Lib.hid (show MkS w5 G v5 4 (plC (unkG 0 (powG 0 j (trmG x C 0)).2).2) (unkG 0 (powG 0 j (trmG x C 0)).2).2 ∧ Below B w w5 ∧ Apt G G s w w5 ∧ Moves s v5 w from ⟨hm5, HSJ.out.2.1.trans hb5, HSJ.out.2.2.1.trans ha5 HSJ.out.2.2.2 HSJ.out.2.1.size, HSJ.out.2.2.2.trans hv5 HSJ.out.2.1.size⟩)
          clear hm5 hb5 ha5 hv5
          obtain ⟨qi, hqi⟩ : ∃ q, q = (unkG 0 (powG 0 j (trmG x C 0)).2).1 := ⟨_, rfl⟩
          obtain ⟨qc, hqc⟩ : ∃ q, q = (unkG 0 (powG 0 j (trmG x C 0)).2).2 := ⟨_, rfl⟩
          have hfa := shr_facts ⟨0, ((0 : Nat) : Int), 0⟩ (powG 0 j (trmG x C 0)).2
          have hfl : qc.length ≤ (powG 0 j (trmG x C 0)).2.length + 1 := by rw [hqc]; exact hfa.2.2
          have hpe : powG 0 (j + 1) (trmG x C 0) = jnG 3 (powG 0 j (trmG x C 0)).1 (qi : Nat) qc := by rw [hqi, hqc]; rfl
          obtain ⟨sf, hsf⟩ : ∃ sf, sf = (powG 0 j (trmG x C 0)).1 := ⟨_, rfl⟩
          rw [← hqc] at H5
          rw [← hqi, ← hsf]
          rw [← hsf] at hpe hlo
          have HPE := Lib.hid hpe
          clear hqi hqc hsf hfa hpe
          by_cases hneg : sf < 0
          · have HE := Lib.hid (show powG 0 (j + 1) (trmG x C 0) = ((qi : Int), qc) by rw [HPE.out]; unfold jnG; rw [if_pos hneg])
            go_wp2_with fail
            go_roundw
            case rel => exact ⟨j + 1, v5, by omega, by go_num, by rw [HE.out], by rw [HE.out]; exact H5.out⟩
            case measure => first | (simp [intOf]; done) | (simp [intOf]; omega)
          · have HE := Lib.hid (show powG 0 (j + 1) (trmG x C 0) = ((qc.length : Int), qc ++ [⟨3, sf, (qi : Int)⟩]) by rw [HPE.out]; unfold jnG; rw [if_neg hneg])
            go_wp2_with fail
            refine (sPutS B G G 4 v5 _ qc ⟨3, sf, (qi : Int)⟩ w5 (by omega) hBG H5.out.1).mono ?_
            rintro e w6 ⟨v6, rfl, hm6, hb6, ha6, hv6⟩
            have H6 := Lib.hid (show MkS w6 G v6 4 (plC (qc ++ [⟨3, sf, (qi : Int)⟩])) (qc ++ [⟨3, sf, (qi : Int)⟩]) ∧ Below B w w6 ∧ Apt G G s w w6 ∧ Moves s v6 w from
              ⟨by rw [plC_far (show (3 : Int) ≠ 0 by decide)]; exact hm6, H5.out.2.1.trans hb6, H5.out.2.2.1.trans ha6 H5.out.2.2.2 H5.out.2.1.size, H5.out.2.2.2.trans hv6 H5.out.2.1.size⟩)
            clear hm6 hb6 ha6 hv6
            go_wp2_with fail
            go_roundw
            case rel => exact ⟨j + 1, v6, by omega, by go_num, by rw [HE.out], by rw [HE.out]; exact H6.out⟩
            case measure => first | (simp [intOf]; done) | (simp [intOf]; omega)
        · have hje : j = (exV x 0).toNat := by omega
          have hjp : (j : Int) = x.a := by omega
          have HS1 := Lib.hid (show MkS wr G v' 4 (plC (trmG x C 1).2) (trmG x C 1).2 ∧ Below B w wr ∧ Apt G G s w wr ∧ Moves s v' w by
            have e : trmG x C 1 = powG 0 j (trmG x C 0) := by rw [hje]; rfl
            rw [e]
            exact HSJ.out)
          have hsl : (powG 0 j (trmG x C 0)).1 = (trmG x C 1).1 := by rw [hje]; rfl
          rw [hsl]
          clear hsl hst hlen hL HSJ hje
          go_wp2_with fail
          rw [rounds_succ]
          go_wp2_with fail
          go_loopw [5, 30] (fun sf i wr => ∃ (j : Nat) (v' : Value), j ≤ (exV x 1).toNat ∧ i = .int .i64 j ∧ sf = .int .i64 (powG 1 j (trmG x C 1)).1 ∧ MkS wr G v' 4 (plC (powG 1 j (trmG x C 1)).2) (powG 1 j (trmG x C 1)).2 ∧ Below B w wr ∧ Apt G G s w wr ∧ Moves s v' w) (fun _ i _ => (exV x 1).toNat - (intOf i).toNat)
          case atStart => exact ⟨0, _, by omega, rfl, rfl, HS1.out⟩
          case round =>
            clear HS1
            obtain ⟨j, v', hj, rfl, rfl, hSJ⟩ := hrel
            have HSJ := Lib.hid hSJ
            clear hSJ
            have hE : ((exV x 1).toNat : Int) = x.b := by have := HPW.out; simp only [exV]; simp; omega
            obtain ⟨hst, _, _, hlen⟩ := powG_st (p := q) (v := 1) (by omega) j (trmG x C 1) HT1.out.1
            have hlo := hst.lo
            have hL := HT1.out.2.2.1
            by_cases hjt : j < (exV x 1).toNat
            · have hjp : (j : Int) < x.b := by omega
              have hj0 : (0 : Int) ≤ (j : Int) := by omega
              have hp9 := HPW.out
              go_wp2_with fail
              refine (sUnkM B G 1 (by omega) _ _ _ (by omega) hBG HSJ.out.1).mono ?_
              rintro e w5 ⟨v5, rfl, hm5, hb5, ha5, hv5⟩
              have H5 := Lib.hid (show MkS w5 G v5 4 (plC (unkG 1 (powG 1 j (trmG x C 1)).2).2) (unkG 1 (powG 1 j (trmG x C 1)).2).2 ∧ Below B w w5 ∧ Apt G G s w w5 ∧ Moves s v5 w from ⟨hm5, HSJ.out.2.1.trans hb5, HSJ.out.2.2.1.trans ha5 HSJ.out.2.2.2 HSJ.out.2.1.size, HSJ.out.2.2.2.trans hv5 HSJ.out.2.1.size⟩)
              clear hm5 hb5 ha5 hv5
              obtain ⟨qi, hqi⟩ : ∃ q, q = (unkG 1 (powG 1 j (trmG x C 1)).2).1 := ⟨_, rfl⟩
              obtain ⟨qc, hqc⟩ : ∃ q, q = (unkG 1 (powG 1 j (trmG x C 1)).2).2 := ⟨_, rfl⟩
              have hfa := shr_facts ⟨0, ((1 : Nat) : Int), 0⟩ (powG 1 j (trmG x C 1)).2
              have hfl : qc.length ≤ (powG 1 j (trmG x C 1)).2.length + 1 := by rw [hqc]; exact hfa.2.2
              have hpe : powG 1 (j + 1) (trmG x C 1) = jnG 3 (powG 1 j (trmG x C 1)).1 (qi : Nat) qc := by rw [hqi, hqc]; rfl
              obtain ⟨sf, hsf⟩ : ∃ sf, sf = (powG 1 j (trmG x C 1)).1 := ⟨_, rfl⟩
              rw [← hqc] at H5
              rw [← hqi, ← hsf]
              rw [← hsf] at hpe hlo
              have HPE := Lib.hid hpe
              clear hqi hqc hsf hfa hpe
              by_cases hneg : sf < 0
              · have HE := Lib.hid (show powG 1 (j + 1) (trmG x C 1) = ((qi : Int), qc) by rw [HPE.out]; unfold jnG; rw [if_pos hneg])
                go_wp2_with fail
                go_roundw
                case rel => exact ⟨j + 1, v5, by omega, by go_num, by rw [HE.out], by rw [HE.out]; exact H5.out⟩
                case measure => first | (simp [intOf]; done) | (simp [intOf]; omega)
              · have HE := Lib.hid (show powG 1 (j + 1) (trmG x C 1) = ((qc.length : Int), qc ++ [⟨3, sf, (qi : Int)⟩]) by rw [HPE.out]; unfold jnG; rw [if_neg hneg])
                go_wp2_with fail
                refine (sPutS B G G 4 v5 _ qc ⟨3, sf, (qi : Int)⟩ w5 (by omega) hBG H5.out.1).mono ?_
                rintro e w6 ⟨v6, rfl, hm6, hb6, ha6, hv6⟩
                have H6 := Lib.hid (show MkS w6 G v6 4 (plC (qc ++ [⟨3, sf, (qi : Int)⟩])) (qc ++ [⟨3, sf, (qi : Int)⟩]) ∧ Below B w w6 ∧ Apt G G s w w6 ∧ Moves s v6 w from
                  ⟨by rw [plC_far (show (3 : Int) ≠ 0 by decide)]; exact hm6, H5.out.2.1.trans hb6, H5.out.2.2.1.trans ha6 H5.out.2.2.2 H5.out.2.1.size, H5.out.2.2.2.trans hv6 H5.out.2.1.size⟩)
                clear hm6 hb6 ha6 hv6
                go_wp2_with fail
                go_roundw
                case rel => exact ⟨j + 1, v6, by omega, by go_num, by rw [HE.out], by rw [HE.out]; exact H6.out⟩
                case measure => first | (simp [intOf]; done) | (simp [intOf]; omega)
            · have hje : j = (exV x 1).toNat := by omega
              have hjp : (j : Int) = x.b := by omega
              have HS2 := Lib.hid (show MkS wr G v' 4 (plC (trmG x C 2).2) (trmG x C 2).2 ∧ Below B w wr ∧ Apt G G s w wr ∧ Moves s v' w by
                have e : trmG x C 2 = powG 1 j (trmG x C 1) := by rw [hje]; rfl
                rw [e]
                exact HSJ.out)
              have hsl : (powG 1 j (trmG x C 1)).1 = (trmG x C 2).1 := by rw [hje]; rfl
              rw [hsl]
              clear hsl hst hlen hL HSJ hje
              go_wp2_with fail
              rw [rounds_succ]
              go_wp2_with fail
              go_loopw [5, 30] (fun sf i wr => ∃ (j : Nat) (v' : Value), j ≤ (exV x 2).toNat ∧ i = .int .i64 j ∧ sf = .int .i64 (powG 2 j (trmG x C 2)).1 ∧ MkS wr G v' 4 (plC (powG 2 j (trmG x C 2)).2) (powG 2 j (trmG x C 2)).2 ∧ Below B w wr ∧ Apt G G s w wr ∧ Moves s v' w) (fun _ i _ => (exV x 2).toNat - (intOf i).toNat)
              case atStart => exact ⟨0, _, by omega, rfl, rfl, HS2.out⟩
              case round =>
                clear HS2
                obtain ⟨j, v', hj, rfl, rfl, hSJ⟩ := hrel
                have HSJ := Lib.hid hSJ
                clear hSJ
                have hE : ((exV x 2).toNat : Int) = x.c := by have := HPW.out; simp only [exV]; simp; omega
                obtain ⟨hst, _, _, hlen⟩ := powG_st (p := q) (v := 2) (by omega) j (trmG x C 2) HT2.out.1
                have hlo := hst.lo
                have hL := HT2.out.2.2.1
                by_cases hjt : j < (exV x 2).toNat
                · have hjp : (j : Int) < x.c := by omega
                  have hj0 : (0 : Int) ≤ (j : Int) := by omega
                  have hp9 := HPW.out
                  go_wp2_with fail
                  refine (sUnkM B G 2 (by omega) _ _ _ (by omega) hBG HSJ.out.1).mono ?_
                  rintro e w5 ⟨v5, rfl, hm5, hb5, ha5, hv5⟩
                  have H5 := Lib.hid (show MkS w5 G v5 4 (plC (unkG 2 (powG 2 j (trmG x C 2)).2).2) (unkG 2 (powG 2 j (trmG x C 2)).2).2 ∧ Below B w w5 ∧ Apt G G s w w5 ∧ Moves s v5 w from ⟨hm5, HSJ.out.2.1.trans hb5, HSJ.out.2.2.1.trans ha5 HSJ.out.2.2.2 HSJ.out.2.1.size, HSJ.out.2.2.2.trans hv5 HSJ.out.2.1.size⟩)
                  clear hm5 hb5 ha5 hv5
                  obtain ⟨qi, hqi⟩ : ∃ q, q = (unkG 2 (powG 2 j (trmG x C 2)).2).1 := ⟨_, rfl⟩
                  obtain ⟨qc, hqc⟩ : ∃ q, q = (unkG 2 (powG 2 j (trmG x C 2)).2).2 := ⟨_, rfl⟩
                  have hfa := shr_facts ⟨0, ((2 : Nat) : Int), 0⟩ (powG 2 j (trmG x C 2)).2
                  have hfl : qc.length ≤ (powG 2 j (trmG x C 2)).2.length + 1 := by rw [hqc]; exact hfa.2.2
                  have hpe : powG 2 (j + 1) (trmG x C 2) = jnG 3 (powG 2 j (trmG x C 2)).1 (qi : Nat) qc := by rw [hqi, hqc]; rfl
                  obtain ⟨sf, hsf⟩ : ∃ sf, sf = (powG 2 j (trmG x C 2)).1 := ⟨_, rfl⟩
                  rw [← hqc] at H5
                  rw [← hqi, ← hsf]
                  rw [← hsf] at hpe hlo
                  have HPE := Lib.hid hpe
                  clear hqi hqc hsf hfa hpe
                  by_cases hneg : sf < 0
                  · have HE := Lib.hid (show powG 2 (j + 1) (trmG x C 2) = ((qi : Int), qc) by rw [HPE.out]; unfold jnG; rw [if_pos hneg])
                    go_wp2_with fail
                    go_roundw
                    case rel => exact ⟨j + 1, v5, by omega, by go_num, by rw [HE.out], by rw [HE.out]; exact H5.out⟩
                    case measure => first | (simp [intOf]; done) | (simp [intOf]; omega)
                  · have HE := Lib.hid (show powG 2 (j + 1) (trmG x C 2) = ((qc.length : Int), qc ++ [⟨3, sf, (qi : Int)⟩]) by rw [HPE.out]; unfold jnG; rw [if_neg hneg])
                    go_wp2_with fail
                    refine (sPutS B G G 4 v5 _ qc ⟨3, sf, (qi : Int)⟩ w5 (by omega) hBG H5.out.1).mono ?_
                    rintro e w6 ⟨v6, rfl, hm6, hb6, ha6, hv6⟩
                    have H6 := Lib.hid (show MkS w6 G v6 4 (plC (qc ++ [⟨3, sf, (qi : Int)⟩])) (qc ++ [⟨3, sf, (qi : Int)⟩]) ∧ Below B w w6 ∧ Apt G G s w w6 ∧ Moves s v6 w from
                      ⟨by rw [plC_far (show (3 : Int) ≠ 0 by decide)]; exact hm6, H5.out.2.1.trans hb6, H5.out.2.2.1.trans ha6 H5.out.2.2.2 H5.out.2.1.size, H5.out.2.2.2.trans hv6 H5.out.2.1.size⟩)
                    clear hm6 hb6 ha6 hv6
                    go_wp2_with fail
                    go_roundw
                    case rel => exact ⟨j + 1, v6, by omega, by go_num, by rw [HE.out], by rw [HE.out]; exact H6.out⟩
                    case measure => first | (simp [intOf]; done) | (simp [intOf]; omega)
                · have hje : j = (exV x 2).toNat := by omega
                  have hjp : (j : Int) = x.c := by omega
                  have HS3 := Lib.hid (show MkS wr G v' 4 (plC (trmG x C 3).2) (trmG x C 3).2 ∧ Below B w wr ∧ Apt G G s w wr ∧ Moves s v' w by
                    have e : trmG x C 3 = powG 2 j (trmG x C 2) := by rw [hje]; rfl
                    rw [e]
                    exact HSJ.out)
                  have hsl : (powG 2 j (trmG x C 2)).1 = (trmG x C 3).1 := by rw [hje]; rfl
                  rw [hsl]
                  clear hsl hst hlen hL HSJ hje
                  go_wp2_with fail
                  rw [rounds_succ]
                  go_wp2_with fail
                  go_ret
                  exact ⟨_, rfl, HS3.out.1, HS3.out.2.1, HS3.out.2.2.1, HS3.out.2.2.2⟩
end Go.Proofs.Ytegkcfinklcglaa
namespace Go.Proofs.Ytegkcfinklcglaa
open Go.RowKit
set_option maxRecDepth 100000 in
set_option maxHeartbeats 8000000 in
theorem sMadeG (p : Int) (hp : isP p = true) (f : Value) (L : List Trm) (w : World) (hV : validB p L = true) (h : Trms w f L) :
    Calls Try.prog 141 #[f] w fun e w' => ∃ v, e = .returned v ∧ OwnGats w' w.heap.size v (coG L) ∧ Below w.heap.size w w' := by
  have hl := validB_len hV
  have hl0 : (L.length : Int) ≤ 60 := by omega
  have HV := Lib.hid hV
  have HCG := Lib.hid (coG_st hp hV)
  obtain ⟨_, a, cap, rfl, hT⟩ := h
  have HT := Lib.hid hT
  obtain ⟨W, hW⟩ : ∃ W, W = w.alloc (Obj.cells #[.slice none 0 0, .int .i64 (-1), .int .i64 (-1), .int .i64 (-1)] 150) := ⟨_, rfl⟩
  have HS0 := Lib.hid (show MkS W w.heap.size (.slice none 0 0) 4 (plC (polG L 0).2) (polG L 0).2 ∧ Below w.heap.size w W by
    rw [hW]
    refine ⟨⟨⟨by simp [go_sem], fun i h1 h2 => ?_, World.frozen?_alloc_at _ _ _ 0 rfl, by simp, fun i h1 h2 => World.frozen?_alloc_at _ _ _ i (by simp)⟩, RowGt.nil _ _⟩, Below.alloc (Below.refl _ _) (Nat.le_refl _) _⟩
    have : i = 1 ∨ i = 2 ∨ i = 3 := by omega
    rcases this with rfl | rfl | rfl <;> simp [go_sem] <;> rfl)
  have HWE := Lib.hid hW
  obtain ⟨G, hG⟩ : ∃ G, G = w.heap.size := ⟨_, rfl⟩
  have HGE := Lib.hid hG
  clear hW hT hV
  go_enter Try.func141, Try.ntmps141
  go_wp2_with fail
  rw [← HWE.out, ← hG]
  rw [← hG] at HS0
  clear hG
  go_loopw [4, 12] (fun s i wr => ∃ (k : Nat) (v' : Value), k ≤ L.length ∧ i = .int .i64 k ∧ s = .int .i64 (polG L k).1 ∧ MkS wr G v' 4 (plC (polG L k).2) (polG L k).2 ∧ Below G w wr) (fun _ i _ => L.length - (intOf i).toNat)
  case atStart => exact ⟨0, _, by omega, rfl, rfl, HS0.out⟩
  case round =>
    clear HS0
    obtain ⟨k, v', hk, rfl, rfl, hS, hb⟩ := hrel
    obtain ⟨hst, hln, hpos⟩ := polG_st HV.out k hk
    have hlo := hst.lo
    have HS := Lib.hid (And.intro hS hb)
    by_cases hlt : k < L.length
    · have hltp : (k : Int) < (L.length : Int) := by omega
      have hk0 : (0 : Int) ≤ (k : Int) := by omega
      obtain ⟨g, off, rfl, hg, hc⟩ : ∃ g off, a = some ⟨g, off, none⟩ ∧ g < w.heap.size ∧ ∀ j : Nat, j < L.length → TAt w g (off + j * 4) (L.getD j default) := by
        rcases HT.out with h | h
        · rw [h] at hlt; simp at hlt
        · exact h
      obtain ⟨x, hx⟩ : ∃ x, x = L.getD k default := ⟨_, rfl⟩
      obtain ⟨b0, b1, b2, b3⟩ := (hc k hlt).below (hb.mono (show G ≤ G by omega)) (by rw [HGE.out]; exact hg)
      rw [← hx] at b0 b1 b2 b3
      have hel := validB_el HV.out hlt hx
      have hpw := validB_pows HV.out hlt hx
      have hbn : Below wr.heap.size wr (wr.alloc (Obj.cells #[.int .i64 x.a, .int .i64 x.b, .int .i64 x.c, .int .i64 x.t] 32)) := Below.alloc (Below.refl _ _) (Nat.le_refl _) _
      have hgb : G ≤ wr.heap.size := Nat.le_of_lt hS.sh.lt
      have HTM := Lib.hid ((sTermM G G p v' (polG L k).2 x _ (by omega) (Nat.le_refl _) hel hpw hst.ok (hS.below hbn)).mono fun e w'' h => h.from hbn hgb)
      have HX := Lib.hid (show polG L (k + 1) = jnG 2 (polG L k).1 (trmG x (polG L k).2 3).1 (trmG x (polG L k).2 3).2 by rw [hx]; rfl)
      have htl := (trmG_st (p := p) (C := (polG L k).2) hel hpw hst.ok 3 (by omega)).2.2.1
      obtain ⟨⟨n1, C1⟩, hN1⟩ : ∃ N, N = trmG x (polG L k).2 3 := ⟨_, rfl⟩
      rw [← hN1] at HTM HX htl
      simp only at HTM HX htl
      obtain ⟨⟨sf, C0⟩, hN0⟩ : ∃ N, N = polG L k := ⟨_, rfl⟩
      rw [← hN0] at HX hlo htl hln HS ⊢
      simp only at HX hlo htl hln HS ⊢
      clear hx hc hb hst hpos hel hpw hbn hN1 hN0 hS
      go_wp2_with fail
      refine HTM.out.mono ?_
      rintro e w5 ⟨v5, rfl, hm5, hb5, ha5, hv5⟩
      have H5 := Lib.hid (And.intro hm5 (HS.out.2.trans hb5))
      clear hm5 hb5 ha5 hv5 b0 b1 b2 b3
      by_cases hneg : sf < 0
      · have HE := Lib.hid (show polG L (k + 1) = (n1, C1) by rw [HX.out]; unfold jnG; rw [if_pos hneg])
        go_wp2_with fail
        go_roundw
        case rel => exact ⟨k + 1, v5, by omega, by go_num, by rw [HE.out], by rw [HE.out]; exact H5.out⟩
        case measure => simp [intOf]; omega
      · have HE := Lib.hid (show polG L (k + 1) = ((C1.length : Int), C1 ++ [⟨2, sf, n1⟩]) by rw [HX.out]; unfold jnG; rw [if_neg hneg])
        go_wp2_with fail
        refine (sPutS G G G 4 v5 _ C1 ⟨2, sf, n1⟩ w5 (by omega) (Nat.le_refl _) H5.out.1).mono ?_
        rintro e w6 ⟨v6, rfl, hm6, hb6, ha6, hv6⟩
        have H6 := Lib.hid (show MkS w6 G v6 4 (plC (C1 ++ [⟨2, sf, n1⟩])) (C1 ++ [⟨2, sf, n1⟩]) ∧ Below G w w6 from ⟨by rw [plC_far (show (2 : Int) ≠ 0 by decide)]; exact hm6, H5.out.2.trans hb6⟩)
        clear hm6 hb6 ha6 hv6
        go_wp2_with fail
        go_roundw
        case rel => exact ⟨k + 1, v6, by omega, by go_num, by rw [HE.out], by rw [HE.out]; exact H6.out⟩
        case measure => simp [intOf]; omega
    · have hkl : k = L.length := by omega
      subst hkl
      by_cases h0 : L.length = 0
      · have hL : L = [] := List.length_eq_zero_iff.1 h0
        have HCO := Lib.hid (show coG L = [] ++ [⟨1, 0, 0⟩] by rw [hL]; rfl)
        have e1 : (polG L L.length).1 = -1 := by rw [hL]; rfl
        have e2 : (polG L L.length).2 = [] := by rw [hL]; rfl
        rw [e2] at hS
        have HS2 := Lib.hid (And.intro hS hb)
        rw [e1]
        clear hS hb hst hlo hpos e1 e2 hL h0 HS hln
        go_wp2_with fail
        refine (sPutS G G G 4 v' _ [] ⟨1, 0, 0⟩ wr (by simp) (Nat.le_refl _) HS2.out.1).mono ?_
        rintro e w6 ⟨v6, rfl, hm6, hb6, ha6, hv6⟩
        have H6 := Lib.hid (show OwnGats w6 w.heap.size v6 (coG L) ∧ Below w.heap.size w w6 by
          rw [HCO.out, ← HGE.out]
          exact ⟨(hm6.row.mono (Nat.le_succ _)).own (by simp), HS2.out.2.trans hb6⟩)
        have c0 := hm6.sh.c0
        have hlt6 := hm6.sh.lt
        obtain ⟨a6, k6, rfl⟩ := hm6.slice
        clear hm6 hb6 ha6 hv6
        go_wp2_with fail
        go_ret
        exact ⟨_, rfl, H6.out.1, H6.out.2⟩
      · have hge := hpos (by omega)
        have HCO := Lib.hid (show coG L = (polG L L.length).2 by unfold coG; rw [if_neg (fun e => h0 (by rw [e]; rfl))])
        have H6 := Lib.hid (show OwnGats wr w.heap.size v' (coG L) ∧ Below w.heap.size w wr by
          rw [HCO.out, ← HGE.out]
          exact ⟨(hS.row.mono (Nat.le_succ _)).own (by omega), hb⟩)
        have c0 := hS.sh.c0
        have hlt6 := hS.sh.lt
        obtain ⟨a6, k6, rfl⟩ := hS.slice
        have hn9 : ¬ (polG L L.length).1 < 0 := by omega
        obtain ⟨sf, hsf⟩ : ∃ sf, sf = (polG L L.length).1 := ⟨_, rfl⟩
        rw [← hsf] at hn9 ⊢
        clear hS hb hst hlo hpos hge hsf HS
        go_wp2_with fail
        go_ret
        exact ⟨_, rfl, H6.out.1, H6.out.2⟩
set_option maxRecDepth 100000 in
set_option maxHeartbeats 4000000 in
theorem sCircuitOf (p : Int) (f : Value) (L : List Trm) (w : World) (h : Trms w f L) :
    Calls Try.prog 65 #[.int .i64 p, f] w (GivesGB (coV p L) (coB p L) w) := by
  have HPV := Lib.hid (sPolyValid p f L w h)
  cases hv : (isP p && validB p L)
  · have e1 : coB p L = false := by unfold coB; rw [hv]; rfl
    have e2 : coV p L = [] := by unfold coV; rw [e1]; rfl
    rw [e1, e2]
    rw [hv] at HPV
    obtain ⟨_, a, cap, rfl, _⟩ := h
    clear hv e1 e2
    go_enter Try.func65, Try.ntmps65
    go_wp2_with fail
    refine HPV.out.mono ?_
    rintro e w1 ⟨rfl, hb1⟩
    have HB := Lib.hid hb1
    clear hb1
    go_wp2_with fail
    refine bodyPost_ret (results_tmp2 rfl _ _ _) rfl ?_
    exact ⟨_, rfl, (RowGt.lit0 w1 w.heap.size HB.out.size).own (by simp), Below.alloc HB.out HB.out.size _⟩
  · rw [hv] at HPV
    have hpv := hv
    simp only [Bool.and_eq_true] at hpv
    have HMG := Lib.hid (fun w' (hb : Below w.heap.size w w') => sMadeG p hpv.1 f L w' hpv.2 (h.below hb))
    have hlen := (coG_st hpv.1 hpv.2).2.2
    have e1 : coB p L = decide ((coG L).length ≤ 60) := by unfold coB; rw [hv]; rfl
    have e2 : coV p L = if coB p L = true then coG L else [] := rfl
    obtain ⟨R, hR⟩ : ∃ R, R = coG L := ⟨_, rfl⟩
    rw [← hR] at HMG e1 e2 hlen
    obtain ⟨_, a, cap, rfl, _⟩ := h
    by_cases h60 : R.length ≤ 60
    · have e3 : coB p L = true := by rw [e1, decide_eq_true h60]
      have e4 : coV p L = R := by rw [e2, e3]; rfl
      rw [e3, e4]
      have h60' : (R.length : Int) ≤ 60 := by omega
      clear e1 e2 e3 e4 hR hv hpv
      go_enter Try.func65, Try.ntmps65
      go_wp2_with fail
      refine HPV.out.mono ?_
      rintro e w1 ⟨rfl, hb1⟩
      have HB := Lib.hid hb1
      clear hb1
      go_wp2_with fail
      refine (HMG.out _ HB.out).mono ?_
      rintro e w2 ⟨v2, rfl, ho2, hb2⟩
      have H2 := Lib.hid (And.intro (ho2.base HB.out.size) (HB.out.trans (hb2.mono HB.out.size)))
      obtain ⟨_, a2, k2, rfl, _⟩ := ho2
      clear hb2
      go_wp2_with fail
      refine bodyPost_ret (results_tmp2 rfl _ _ _) rfl ?_
      exact ⟨_, rfl, H2.out.1, H2.out.2⟩
    · have e3 : coB p L = false := by rw [e1, decide_eq_false h60]
      have e4 : coV p L = [] := by rw [e2, e3]; rfl
      rw [e3, e4]
      have h60' : (60 : Int) < (R.length : Int) := by omega
      clear e1 e2 e3 e4 hR hv hpv
      go_enter Try.func65, Try.ntmps65
      go_wp2_with fail
      refine HPV.out.mono ?_
      rintro e w1 ⟨rfl, hb1⟩
      have HB := Lib.hid hb1
      clear hb1
      go_wp2_with fail
      refine (HMG.out _ HB.out).mono ?_
      rintro e w2 ⟨v2, rfl, ho2, hb2⟩
      have H2 := Lib.hid (HB.out.trans (hb2.mono HB.out.size))
      obtain ⟨_, a2, k2, rfl, _⟩ := ho2
      clear hb2
      go_wp2_with fail
      refine bodyPost_ret (results_tmp2 rfl _ _ _) rfl ?_
      exact ⟨_, rfl, (RowGt.lit0 w2 w.heap.size H2.out.size).own (by simp), Below.alloc H2.out H2.out.size _⟩
end Go.Proofs.Ytegkcfinklcglaa
namespace Go.Proofs.Ytegkcfinklcglaa
open Go.RowKit
/-- the other cells of the program's maker -/
def prC (p : Int) (_ : Nat) : Value := .int .i64 p
theorem keepG3 {w w1 : World} {n g o : Nat} {a b c d e f : Value} (hb : Below w.heap.size w w1) (hn : n < w.heap.size) (hg : g < w.heap.size)
    (h : w.cell? ⟨n, 0, none⟩ = some a ∧ w.cell? ⟨n, 1, none⟩ = some b ∧ w.cell? ⟨n, 2, none⟩ = some c ∧ w.cell? ⟨g, o, none⟩ = some d ∧ w.cell? ⟨g, o + 1, none⟩ = some e ∧ w.cell? ⟨g, o + 2, none⟩ = some f) :
    w1.cell? ⟨n, 0, none⟩ = some a ∧ w1.cell? ⟨n, 1, none⟩ = some b ∧ w1.cell? ⟨n, 2, none⟩ = some c ∧ w1.cell? ⟨g, o, none⟩ = some d ∧ w1.cell? ⟨g, o + 1, none⟩ = some e ∧ w1.cell? ⟨g, o + 2, none⟩ = some f := by
  obtain ⟨h0, h1, h2, h3, h4, h5⟩ := h
  exact ⟨by rw [hb.cell (p := ⟨n, 0, none⟩) hn]; exact h0, by rw [hb.cell (p := ⟨n, 1, none⟩) hn]; exact h1, by rw [hb.cell (p := ⟨n, 2, none⟩) hn]; exact h2, by rw [hb.cell (p := ⟨g, o, none⟩) hg]; exact h3, by rw [hb.cell (p := ⟨g, o + 1, none⟩) hg]; exact h4, by rw [hb.cell (p := ⟨g, o + 2, none⟩) hg]; exact h5⟩
/-- where a gate stands, -1 if nowhere -/
def ixI (x : Gt) (C : List Gt) : Int := match ixG x C with
  | some n => (n : Int)
  | none => -1
set_option maxRecDepth 100000 in
set_option maxHeartbeats 8000000 in
theorem iIndexG (v : Value) (C : List Gt) (x : Gt) (w : World) (hl : C.length ≤ 5000) (h : Gats w v C) :
    Calls Try.prog 200 #[v, .agg #[.int .i64 x.k, .int .i64 x.a, .int .i64 x.b]] w fun e w' => e = .returned (.int .i64 (ixI x C)) ∧ Below w.heap.size w w' := by
  obtain ⟨W, hW⟩ : ∃ W, W = w.alloc (Obj.cells #[.int .i64 x.k, .int .i64 x.a, .int .i64 x.b] 75) := ⟨_, rfl⟩
  have bW : Below w.heap.size w W := by rw [hW]; exact Below.alloc (Below.refl _ _) (Nat.le_refl _) _
  have hT : GAt W w.heap.size 0 x := by rw [hW]; refine ⟨?_, ?_, ?_⟩ <;> simp [go_sem]
  have hsW : w.heap.size < W.heap.size := by rw [hW]; simp
  have HS := Lib.hid (fun w' (hb : Below W.heap.size W w') => show Gats w' v C ∧ GAt w' w.heap.size 0 x ∧ Below w.heap.size w w' from
    ⟨(h.below bW).below hb, hT.below hb hsW, bW.trans (hb.mono (Nat.le_of_lt hsW))⟩)
  obtain ⟨_, a, cap, rfl, _⟩ := h
  have HW := Lib.hid hW
  have hl5 : (C.length : Int) ≤ 5000 := by omega
  clear hW bW hT
  go_enter Try.func200, Try.ntmps200
  go_wp2_with fail
  rw [← HW.out]
  clear HW
  go_loopw [8] (fun i wr => ∃ k : Nat, k ≤ C.length ∧ i = .int .i64 k ∧ Below W.heap.size W wr ∧ ∀ j : Nat, j < k → eqGt x (gAt C j) = false) (fun i _ => C.length - (intOf i).toNat)
  case atStart => exact ⟨0, by omega, rfl, Below.refl _ _, fun j hj => by omega⟩
  case round =>
    obtain ⟨k, hk, rfl, hb, hno⟩ := hrel
    have HN := Lib.hid hno
    have HB := Lib.hid hb
    obtain ⟨hM, hT, hL⟩ := HS.out wr hb
    clear hno hb
    by_cases hlt : k < C.length
    · have hltp : (k : Int) < (C.length : Int) := by omega
      have hk0 : (0 : Int) ≤ (k : Int) := by omega
      obtain ⟨g, off, rfl, hg, hc⟩ : ∃ g off, a = some ⟨g, off, none⟩ ∧ g < wr.heap.size ∧ ∀ j : Nat, j < C.length → GAt wr g (off + j * 3) (C.getD j default) := by
        obtain ⟨_, a', cap', he, h⟩ := hM
        injection he with e1 e2 e3
        subst e1
        rcases h with h | h
        · rw [h] at hlt; simp at hlt
        · exact h
      obtain ⟨d0, d1, d2⟩ := hc k hlt
      obtain ⟨e0, e1, e2⟩ := hT
      simp only [Nat.zero_add] at e0 e1 e2
      obtain ⟨y, hy⟩ : ∃ y, y = C.getD k default := ⟨_, rfl⟩
      have HY := Lib.hid (show gAt C k = y from hy.symm)
      rw [← hy] at d0 d1 d2
      obtain ⟨yk, ya, yb⟩ := y
      obtain ⟨xk, xa, xb⟩ := x
      simp only at d0 d1 d2 e0 e1 e2
      have hEq := run_eqGt ⟨xk, xa, xb⟩ ⟨yk, ya, yb⟩
      unfold Op.equal Gt.v at hEq
      simp only [Op.maxDepth] at hEq
      have hsz := HB.out.size
      have hlt9 : w.heap.size < wr.heap.size := by omega
      have HL := Lib.hid (show Below W.heap.size W wr.drew from HB.out.trans ((Below.drew (Below.refl _ _) : Below wr.heap.size wr _).mono hsz))
      clear hy hM hL hc
      rcases Bool.eq_false_or_eq_true (eqGt ⟨xk, xa, xb⟩ ⟨yk, ya, yb⟩) with hq | hq
      · rw [hq] at hEq
        have HQ := Lib.hid hq
        clear hq hsz
        go_wp2_with fail
        go_region_held3 (fun w' => w'.cell? ⟨w.heap.size, 0, none⟩ = some (.int .i64 xk) ∧ w'.cell? ⟨w.heap.size, 1, none⟩ = some (.int .i64 xa) ∧ w'.cell? ⟨w.heap.size, 2, none⟩ = some (.int .i64 xb) ∧ w'.cell? ⟨g, off + k * 3, none⟩ = some (.int .i64 yk) ∧ w'.cell? ⟨g, off + k * 3 + 1, none⟩ = some (.int .i64 ya) ∧ w'.cell? ⟨g, off + k * 3 + 2, none⟩ = some (.int .i64 yb)) (go_keep) (fail)
        all_goals
          go_wp2_with fail
          go_ret
          obtain ⟨m1, -, m3⟩ := HS.out _ HL.out
          refine ⟨?_, m3⟩
          unfold ixI
          rw [ixG_hit HN.out hlt (by rw [HY.out]; exact HQ.out)]
          rfl
      · rw [hq] at hEq
        have HQ := Lib.hid hq
        clear hq hsz
        go_wp2_with fail
        go_region_held3 (fun w' => w'.cell? ⟨w.heap.size, 0, none⟩ = some (.int .i64 xk) ∧ w'.cell? ⟨w.heap.size, 1, none⟩ = some (.int .i64 xa) ∧ w'.cell? ⟨w.heap.size, 2, none⟩ = some (.int .i64 xb) ∧ w'.cell? ⟨g, off + k * 3, none⟩ = some (.int .i64 yk) ∧ w'.cell? ⟨g, off + k * 3 + 1, none⟩ = some (.int .i64 ya) ∧ w'.cell? ⟨g, off + k * 3 + 2, none⟩ = some (.int .i64 yb)) (go_keep) (fail)
        all_goals
          go_wp2_with fail
          go_roundw
          case rel =>
            refine ⟨k + 1, by omega, by go_num, HL.out, fun j hj => ?_⟩
            by_cases e : j = k
            · rw [e, HY.out]; exact HQ.out
            · exact HN.out j (by omega)
          case measure => simp [intOf]; omega
    · have hkl : k = C.length := by omega
      subst hkl
      go_wp2_with fail
      go_ret
      refine ⟨?_, hL⟩
      unfold ixI
      rw [ixG_none HN.out]
      rfl
end Go.Proofs.Ytegkcfinklcglaa
