/-
  Terms times what their degrees have, of the model: EulerPoly and ScaleUnknowns. Conditions: what the slice holds is known.
  Terms times what their degrees have, of the program: EulerPoly and ScaleUnknowns. Conditions: what the slice holds is known.
-/
import Derived.Test.YtlidplmpglpkgaaBa27
import Derived.Test.YtlidplmpglpkgaaBa25
import Derived.Test.YtlidplmpglpkgaaBa4
import Derived.Test.YtlidplmpglpkgaaBa21
namespace Go.Proofs.Ytlidplmpglpkgaa
open Go.RowKit
theorem tmS_len (p : Int) (h : Trm → Int) (L : List Trm) (k : Nat) : (tmL p h (L.take k)).length ≤ k := by
  refine Nat.le_trans (List.length_filter_le _ _) ?_
  simp
  omega
theorem tm_next {p : Int} {h : Trm → Int} {L : List Trm} {k : Nat} (hk : k < L.length) : tmL p h (L.take (k + 1)) = if 0 < (L.getD k default).t * h (L.getD k default) % p then tmL p h (L.take k) ++ [tmT p h (L.getD k default)] else tmL p h (L.take k) := by
  have e : L.getD k default = L[k] := by simp [List.getD_eq_getElem?_getD, hk]
  rw [List.take_succ_eq_append_getElem hk, tm_snoc, e]
theorem elB2 (p a : Int) : (decide (0 ≤ a) && decide (a ≤ p - 1)) = isE p a := by
  cases h : isE p a
  · rcases isE_no h with h1 | h1 <;> simp <;> omega
  · have := isE_iff.1 h; simp; omega
/-- what a number has that is the degree -/
def hDeg (x : Trm) : Int := degT x
/-- what it has that is a power of an element -/
def hPow (p a : Int) (x : Trm) : Int := a ^ (degT x).toNat % p
set_option maxRecDepth 100000 in
set_option maxHeartbeats 8000000 in
theorem sEulerPoly_some (p : Int) (g off cap : Nat) (L : List Trm) (w : World) (hp : isP p = true) (hV : validB p L = true) (hg : g < w.heap.size)
    (hc : ∀ j : Nat, j < L.length → TAt w g (off + j * 4) (L.getD j default)) :
    Calls Try.prog 78 #[.int .i64 p, .slice (some ⟨g, off, none⟩) L.length cap] w (GivesPB (tmL p (hDeg) L) true w) := by
  have hl := validB_len hV
  obtain ⟨i0, hi, hz0, hz1, hz2⟩ := info_parts infoT
  obtain ⟨p0, p1⟩ := isP_bd hp
  have HB := Lib.hid (show ∀ w', Below w.heap.size w w' → Calls Try.prog 113 #[.int .i64 p, .slice (some ⟨g, off, none⟩) L.length cap] w' fun e w'' => e = .returned (.bool true) ∧ Below w'.heap.size w' w'' from
    fun w' hb => (sPolyValid p _ L w' ⟨by omega, _, cap, rfl, .inr ⟨g, off, rfl, Nat.lt_of_lt_of_le hg hb.size, fun j hj => (hc j hj).below hb hg⟩⟩).mono fun e w'' h => by rw [hp, hV] at h; exact h)
  have HC := Lib.hid hc
  have HV := Lib.hid hV
  have HP := Lib.hid hp
  clear hc hV hp
  go_enter Try.func78, Try.ntmps78
  go_wp2_with fail
  refine (HB.out _ (Below.alloc (Below.refl _ _) (Nat.le_refl _) _)).mono ?_
  rintro e w1 ⟨rfl, hb1⟩
  have H1 := Lib.hid (show Below w.heap.size w w1 from (Below.alloc (Below.refl _ _) (Nat.le_refl _) _).trans (hb1.mono (by simp)))
  have R1 := Lib.hid (show Row w1 w.heap.size (.slice (some ⟨w.heap.size, 0, none⟩) 0 0) (tmL p (hDeg) (L.take 0)) from (Row.lit0 w w.heap.size (Nat.le_refl _)).below hb1)
  clear hb1
  go_wp2_with fail
  go_loopw [6, 17] (fun v i wr => ∃ k : Nat, k ≤ L.length ∧ i = .int .i64 k ∧ Row wr w.heap.size v (tmL p (hDeg) (L.take k)) ∧ Below w.heap.size w wr) (fun _ i _ => L.length - (intOf i).toNat)
  case atStart => exact ⟨0, by omega, rfl, R1.out, H1.out⟩
  case round =>
    clear R1 H1
    obtain ⟨k, hk, rfl, hrow, hb⟩ := hrel
    have hlen := tmS_len p (hDeg) L k
    by_cases hlt : k < L.length
    · have hltp : (k : Int) < (L.length : Int) := by omega
      have hk0 : (0 : Int) ≤ (k : Int) := by omega
      obtain ⟨a0, a1, a2, a3⟩ := (HC.out k hlt).below hb hg
      have HN := Lib.hid (tm_next (p := p) (h := hDeg) hlt)
      obtain ⟨x, hx⟩ : ∃ x, x = L.getD k default := ⟨_, rfl⟩
      rw [← hx] at a0 a1 a2 a3 HN
      have hpw := validB_pows HV.out hlt hx
      obtain ⟨el0, el1⟩ := validB_el HV.out hlt hx
      have HX := Lib.hid hpw
      obtain ⟨d, hd⟩ : ∃ d, d = x.a + x.b + x.c := ⟨_, rfl⟩
      have hd0 : 0 ≤ d ∧ d ≤ 27 := by obtain ⟨⟨q0, q1⟩, ⟨q2, q3⟩, ⟨q4, q5⟩⟩ := hpw; omega
      have HD := Lib.hid hd
      clear hd hx hpw
      obtain ⟨hh, hhe⟩ : ∃ hh, hh = (hDeg) x := ⟨_, rfl⟩
      have hh0 : 0 ≤ hh ∧ hh ≤ 27 := by
        rw [hhe]
        unfold hDeg degT; rw [← HD.out]; exact hd0
      have HHE := Lib.hid hhe
      rw [← hhe] at HN
      clear hhe
      have HSD := Lib.hid (fun w => by have := sDeg x.a x.b x.c w HX.out.1 HX.out.2.1 HX.out.2.2; rw [← HD.out] at this; exact this)
      have m0 : 0 ≤ x.t * hh := Int.mul_nonneg (by omega) hh0.1
      have m1 : x.t * hh ≤ 12 * 27 := Int.mul_le_mul (by omega) hh0.2 hh0.1 (by omega)
      obtain ⟨v, hve⟩ : ∃ v, v = x.t * hh % p := ⟨_, rfl⟩
      have hmw : IntKind.i64.wrap (x.t * hh) = x.t * hh := IntWalk.i64_in _ (by omega)
      have htm : (x.t * hh).tmod p = v := by rw [hve]; exact Int.tmod_eq_emod_of_nonneg m0
      have hp0 : ¬ p = 0 := by omega
      have hpm : (p == 0) = false := by simp [hp0]
      have hem : 0 ≤ v ∧ v < p := by rw [hve]; exact emod_bd p0
      have hwm : IntKind.i64.wrap v = v := IntWalk.i64_in _ (by omega)
      have HVE := Lib.hid (show tmT p (hDeg) x = ⟨x.a, x.b, x.c, v⟩ by unfold tmT; rw [← HHE.out, ← hve])
      rw [← hve] at HN
      clear hve m0 m1
      have HR := Lib.hid hrow
      have Hb := Lib.hid hb
      have hsz := hb.size
      have HF := Lib.hid (show ∀ W, W = wr.alloc (Obj.cells #[.int .i64 x.a, .int .i64 x.b, .int .i64 x.c, .int .i64 x.t] 87) → ∀ w', Below W.heap.size W w' → (w'.cell? ⟨wr.heap.size, 0, none⟩ = some (.int .i64 x.a) ∧ w'.cell? ⟨wr.heap.size, 1, none⟩ = some (.int .i64 x.b) ∧ w'.cell? ⟨wr.heap.size, 2, none⟩ = some (.int .i64 x.c) ∧ w'.cell? ⟨wr.heap.size, 3, none⟩ = some (.int .i64 x.t)) ∧ w'.frozen? ⟨wr.heap.size, 3, none⟩ = false ∧ Below wr.heap.size wr w' ∧ wr.heap.size < w'.heap.size from by
        rintro W rfl w' hw
        have hs : wr.heap.size < (wr.alloc (Obj.cells #[.int .i64 x.a, .int .i64 x.b, .int .i64 x.c, .int .i64 x.t] 87)).heap.size := by simp
        refine ⟨⟨?_, ?_, ?_, ?_⟩, ?_, (Below.alloc (Below.refl _ _) (Nat.le_refl _) _).trans (hw.mono (by simp)), Nat.lt_of_lt_of_le hs hw.size⟩
        · rw [hw.cell (p := ⟨wr.heap.size, 0, none⟩) hs]; simp [go_sem]
        · rw [hw.cell (p := ⟨wr.heap.size, 1, none⟩) hs]; simp [go_sem]
        · rw [hw.cell (p := ⟨wr.heap.size, 2, none⟩) hs]; simp [go_sem]
        · rw [hw.cell (p := ⟨wr.heap.size, 3, none⟩) hs]; simp [go_sem]
        · rw [hw.frozen (p := ⟨wr.heap.size, 3, none⟩) hs]; exact World.frozen?_alloc_at _ _ _ 3 rfl)
      clear hrow hb
      go_wp2_with fail
      obtain ⟨W1, hW1⟩ : ∃ W, W = wr.alloc (Obj.cells #[.int .i64 x.a, .int .i64 x.b, .int .i64 x.c, .int .i64 x.t] 87) := ⟨_, rfl⟩
      have HF1 := Lib.hid (HF.out W1 hW1)
      rw [← hW1]
      clear hW1 HF a0 a1 a2 a3
      obtain ⟨n, hne⟩ : ∃ n, n = wr.heap.size := ⟨_, rfl⟩
      have HNE := Lib.hid hne
      rw [← hne] at HF1 hsz ⊢
      clear hne
      refine wp_region_seq [(0, true), (1, true), (2, true), (3, true), (6, true), (4, false), (5, true), (7, true), (8, true)] (fun w' => w'.cell? ⟨n, 0, none⟩ = some (.int .i64 x.a) ∧ w'.cell? ⟨n, 1, none⟩ = some (.int .i64 x.b) ∧ w'.cell? ⟨n, 2, none⟩ = some (.int .i64 x.c) ∧ w'.cell? ⟨n, 3, none⟩ = some (.int .i64 x.t)) (by kernel_rfl) (by kernel_rfl) rfl (by intro c a d v w h; cases d <;> exact h) (HF1.out _ (Below.drew (Below.refl _ _))).1 ?_
      iterate 5 (refine wpSeq_take (v := ?_) (List.getElem?_toArray.trans rfl) ?_ ?_; rotate_left; (intro w' hSw; (try dsimp only at hSw); go_simp; (try with_reducible rfl)); (try simp only [Act.put, List.setIfInBounds_toArray, List.set_cons_zero, List.set_cons_succ]))
      refine wpSeq_do (List.getElem?_toArray.trans rfl) (fun K hK => ?_)
      go_simp
      refine (HSD.out _).mono ?_
      rintro e w2 ⟨rfl, hb2⟩
      have HB2 := Lib.hid (show Below W1.heap.size W1 w2 from (Below.drew (Below.refl _ _)).trans (hb2.mono (by simp)))
      refine hK _ _ (HF1.out w2 HB2.out).1 ?_
      clear hK K hb2
      have hdh : d = hh := by rw [HHE.out]; exact HD.out
      subst hdh
      iterate 3 (refine wpSeq_take (v := ?_) (List.getElem?_toArray.trans rfl) ?_ ?_; rotate_left; (intro w' hSw; (try dsimp only at hSw); go_simp; (try with_reducible rfl)); (try simp only [Act.put, List.setIfInBounds_toArray, List.set_cons_zero, List.set_cons_succ]))
      refine wpSeq_nil ?_
      simp only [Exit.then]
      have hfz := (HF1.out w2 HB2.out).2.1
      obtain ⟨⟨c0, c1, c2, c3⟩, -, -, hn2⟩ := HF1.out w2 HB2.out
      have HL2 := Lib.hid (show Below n wr (w2.setCell ⟨n, 3, none⟩ (.int .i64 v)) from Below.setCell (HF1.out w2 HB2.out).2.2.1 (Nat.le_refl _) _)
      have HLw := Lib.hid (show Below w.heap.size w (w2.setCell ⟨n, 3, none⟩ (.int .i64 v)) from Hb.out.trans (HL2.out.mono hsz))
      have HR2 := Lib.hid (show Row (w2.setCell ⟨n, 3, none⟩ (.int .i64 v)) w.heap.size u6 (tmL p (hDeg) (L.take k)) from HR.out.below (HNE.out ▸ HL2.out))
      by_cases hv0 : 0 < v
      · have HNX := Lib.hid (show tmL p (hDeg) (L.take (k + 1)) = tmL p (hDeg) (L.take k) ++ [⟨x.a, x.b, x.c, v⟩] by rw [HN.out, if_pos hv0, HVE.out])
        have hle := hlen
        have hls : w.heap.size ≤ (w2.setCell ⟨n, 3, none⟩ (.int .i64 v)).heap.size := HLw.out.size
        go_wp2_with (at_builtin; refine wpList_append_own _ rfl _ _ 24 rfl w.heap.size 87 i0 (.agg #[.int .i64 0, .int .i64 0, .int .i64 0, .int .i64 0]) 4 32 Try.underlying24 hi hz0 hz1 hz2 rfl (by decide) _ _ _ rfl (World.ownsRow.alloc HR2.out _) _ 1 1 (Trm.cs ⟨x.a, x.b, x.c, v⟩) rfl rfl ?c1 ?c2 ?c3 ?c4 ?c5 ?_)
        case c1 =>
          intro j u hj
          match j, hj with
          | 0, hj => simp [Trm.cs] at hj; subst hj; simp [Addr.add, go_sem]
          | 1, hj => simp [Trm.cs] at hj; subst hj; simp [Addr.add, go_sem]
          | 2, hj => simp [Trm.cs] at hj; subst hj; simp [Addr.add, go_sem]
          | 3, hj => simp [Trm.cs] at hj; subst hj; simp [Addr.add, go_sem]
          | j + 4, hj => simp [Trm.cs] at hj
        case c2 => intro u hu; exact flat_cell [⟨x.a, x.b, x.c, v⟩] u (by simpa [flat] using hu)
        case c3 => unfold maxLen; omega
        case c4 => omega
        case c5 => simp at hls ⊢; omega
        intro v' w3 hown' hgrow _
        have R3 := Lib.hid (show Row w3 w.heap.size v' (tmL p (hDeg) (L.take (k + 1))) by
          rw [HNX.out]
          show World.ownsRow _ _ _ _ _ _ _
          rw [flat_app, flat_one, List.length_append]
          exact hown')
        have H3 := Lib.hid (show Below w.heap.size w w3 by
          exact Below.trans (Below.alloc HLw.out hls _) (Row.low (World.ownsRow.alloc HR2.out _) (by simp at hls ⊢; omega) hgrow))
        clear hown' hgrow
        go_wp2
        go_roundw
        case rel => exact ⟨k + 1, by omega, by go_num, R3.out, H3.out⟩
        case measure => simp [intOf]; omega
      · have HNX := Lib.hid (show tmL p (hDeg) (L.take (k + 1)) = tmL p (hDeg) (L.take k) by rw [HN.out, if_neg hv0])
        have hv9 : ¬ v > 0 := hv0
        go_wp2_with fail
        go_roundw
        case rel => exact ⟨k + 1, by omega, by go_num, by rw [HNX.out]; exact HR2.out, HLw.out⟩
        case measure => simp [intOf]; omega
    · have hkl : k = L.length := by omega
      subst hkl
      rw [List.take_length] at hrow hlen
      go_wp2
      refine bodyPost_ret (v := .tuple #[_, .bool true]) (by simp [results, Try.results78, go_sem]) rfl ⟨_, rfl, hrow.own (by omega), hb⟩
set_option maxRecDepth 100000 in
set_option maxHeartbeats 8000000 in
theorem sScaleUnknowns_some (p : Int) (g off cap : Nat) (L : List Trm) (a : Int) (w : World) (hp : isP p = true) (hV : validB p L = true) (ha : isE p a = true) (hg : g < w.heap.size)
    (hc : ∀ j : Nat, j < L.length → TAt w g (off + j * 4) (L.getD j default)) :
    Calls Try.prog 83 #[.int .i64 p, .slice (some ⟨g, off, none⟩) L.length cap, .int .i64 a] w (GivesPB (tmL p (hPow p a) L) true w) := by
  have hl := validB_len hV
  obtain ⟨i0, hi, hz0, hz1, hz2⟩ := info_parts infoT
  obtain ⟨p0, p1⟩ := isP_bd hp
  have HB := Lib.hid (show ∀ w', Below w.heap.size w w' → Calls Try.prog 113 #[.int .i64 p, .slice (some ⟨g, off, none⟩) L.length cap] w' fun e w'' => e = .returned (.bool true) ∧ Below w'.heap.size w' w'' from
    fun w' hb => (sPolyValid p _ L w' ⟨by omega, _, cap, rfl, .inr ⟨g, off, rfl, Nat.lt_of_lt_of_le hg hb.size, fun j hj => (hc j hj).below hb hg⟩⟩).mono fun e w'' h => by rw [hp, hV] at h; exact h)
  have HC := Lib.hid hc
  have HV := Lib.hid hV
  have HP := Lib.hid hp
  have HA := Lib.hid (show (decide (0 ≤ a) && decide (a ≤ p - 1)) = true by rw [elB2]; exact ha)
  obtain ⟨ae0, ae1⟩ := isE_iff.1 ha
  have HPW := Lib.hid (fun d (h0 : 0 ≤ d) h1 w => sPowLoop p a d hp ae0 ae1 h0 h1 w)
  have hwp : IntKind.i64.wrap (p - 1) = p - 1 := IntWalk.i64_in _ (by omega)
  clear ha
  clear hc hV hp
  go_enter Try.func83, Try.ntmps83
  go_wp2_with fail
  refine (HB.out _ (Below.alloc (Below.refl _ _) (Nat.le_refl _) _)).mono ?_
  rintro e w1 ⟨rfl, hb1⟩
  have H1 := Lib.hid (show Below w.heap.size w w1 from (Below.alloc (Below.refl _ _) (Nat.le_refl _) _).trans (hb1.mono (by simp)))
  have R1 := Lib.hid (show Row w1 w.heap.size (.slice (some ⟨w.heap.size, 0, none⟩) 0 0) (tmL p (hPow p a) (L.take 0)) from (Row.lit0 w w.heap.size (Nat.le_refl _)).below hb1)
  clear hb1
  go_wp2_with (go_at_call 133; refine (sIn_is true _ _ _ HA.out _).mono ?_; rintro e w2 ⟨rfl, rfl⟩)
  go_loopw [8, 26] (fun v i wr => ∃ k : Nat, k ≤ L.length ∧ i = .int .i64 k ∧ Row wr w.heap.size v (tmL p (hPow p a) (L.take k)) ∧ Below w.heap.size w wr) (fun _ i _ => L.length - (intOf i).toNat)
  case atStart => exact ⟨0, by omega, rfl, R1.out, H1.out⟩
  case round =>
    clear R1 H1
    obtain ⟨k, hk, rfl, hrow, hb⟩ := hrel
    have hlen := tmS_len p (hPow p a) L k
    by_cases hlt : k < L.length
    · have hltp : (k : Int) < (L.length : Int) := by omega
      have hk0 : (0 : Int) ≤ (k : Int) := by omega
      obtain ⟨a0, a1, a2, a3⟩ := (HC.out k hlt).below hb hg
      have HN := Lib.hid (tm_next (p := p) (h := hPow p a) hlt)
      obtain ⟨x, hx⟩ : ∃ x, x = L.getD k default := ⟨_, rfl⟩
      rw [← hx] at a0 a1 a2 a3 HN
      have hpw := validB_pows HV.out hlt hx
      obtain ⟨el0, el1⟩ := validB_el HV.out hlt hx
      have HX := Lib.hid hpw
      obtain ⟨d, hd⟩ : ∃ d, d = x.a + x.b + x.c := ⟨_, rfl⟩
      have hd0 : 0 ≤ d ∧ d ≤ 27 := by obtain ⟨⟨q0, q1⟩, ⟨q2, q3⟩, ⟨q4, q5⟩⟩ := hpw; omega
      have HD := Lib.hid hd
      clear hd hx hpw
      obtain ⟨hh, hhe⟩ : ∃ hh, hh = (hPow p a) x := ⟨_, rfl⟩
      have hh0 : 0 ≤ hh ∧ hh ≤ 27 := by
        rw [hhe]
        have := emod_bd (n := a ^ (degT x).toNat) p0; unfold hPow; omega
      have HHE := Lib.hid hhe
      rw [← hhe] at HN
      clear hhe
      have HSD := Lib.hid (fun w => by have := sDeg x.a x.b x.c w HX.out.1 HX.out.2.1 HX.out.2.2; rw [← HD.out] at this; exact this)
      have m0 : 0 ≤ x.t * hh := Int.mul_nonneg (by omega) hh0.1
      have m1 : x.t * hh ≤ 12 * 27 := Int.mul_le_mul (by omega) hh0.2 hh0.1 (by omega)
      obtain ⟨v, hve⟩ : ∃ v, v = x.t * hh % p := ⟨_, rfl⟩
      have hmw : IntKind.i64.wrap (x.t * hh) = x.t * hh := IntWalk.i64_in _ (by omega)
      have htm : (x.t * hh).tmod p = v := by rw [hve]; exact Int.tmod_eq_emod_of_nonneg m0
      have hp0 : ¬ p = 0 := by omega
      have hpm : (p == 0) = false := by simp [hp0]
      have hem : 0 ≤ v ∧ v < p := by rw [hve]; exact emod_bd p0
      have hwm : IntKind.i64.wrap v = v := IntWalk.i64_in _ (by omega)
      have HVE := Lib.hid (show tmT p (hPow p a) x = ⟨x.a, x.b, x.c, v⟩ by unfold tmT; rw [← HHE.out, ← hve])
      rw [← hve] at HN
      clear hve m0 m1
      have HR := Lib.hid hrow
      have Hb := Lib.hid hb
      have hsz := hb.size
      have HF := Lib.hid (show ∀ W, W = wr.alloc (Obj.cells #[.int .i64 x.a, .int .i64 x.b, .int .i64 x.c, .int .i64 x.t] 87) → ∀ w', Below W.heap.size W w' → (w'.cell? ⟨wr.heap.size, 0, none⟩ = some (.int .i64 x.a) ∧ w'.cell? ⟨wr.heap.size, 1, none⟩ = some (.int .i64 x.b) ∧ w'.cell? ⟨wr.heap.size, 2, none⟩ = some (.int .i64 x.c) ∧ w'.cell? ⟨wr.heap.size, 3, none⟩ = some (.int .i64 x.t)) ∧ w'.frozen? ⟨wr.heap.size, 3, none⟩ = false ∧ Below wr.heap.size wr w' ∧ wr.heap.size < w'.heap.size from by
        rintro W rfl w' hw
        have hs : wr.heap.size < (wr.alloc (Obj.cells #[.int .i64 x.a, .int .i64 x.b, .int .i64 x.c, .int .i64 x.t] 87)).heap.size := by simp
        refine ⟨⟨?_, ?_, ?_, ?_⟩, ?_, (Below.alloc (Below.refl _ _) (Nat.le_refl _) _).trans (hw.mono (by simp)), Nat.lt_of_lt_of_le hs hw.size⟩
        · rw [hw.cell (p := ⟨wr.heap.size, 0, none⟩) hs]; simp [go_sem]
        · rw [hw.cell (p := ⟨wr.heap.size, 1, none⟩) hs]; simp [go_sem]
        · rw [hw.cell (p := ⟨wr.heap.size, 2, none⟩) hs]; simp [go_sem]
        · rw [hw.cell (p := ⟨wr.heap.size, 3, none⟩) hs]; simp [go_sem]
        · rw [hw.frozen (p := ⟨wr.heap.size, 3, none⟩) hs]; exact World.frozen?_alloc_at _ _ _ 3 rfl)
      clear hrow hb
      go_wp2_with fail
      obtain ⟨W1, hW1⟩ : ∃ W, W = wr.alloc (Obj.cells #[.int .i64 x.a, .int .i64 x.b, .int .i64 x.c, .int .i64 x.t] 87) := ⟨_, rfl⟩
      have HF1 := Lib.hid (HF.out W1 hW1)
      rw [← hW1]
      clear hW1 HF a0 a1 a2 a3
      obtain ⟨n, hne⟩ : ∃ n, n = wr.heap.size := ⟨_, rfl⟩
      have HNE := Lib.hid hne
      rw [← hne] at HF1 hsz ⊢
      clear hne
      refine wp_region_seq [(0, true), (1, true), (2, true), (3, true), (4, true), (5, true), (9, true), (6, false), (7, false), (8, true), (10, true), (11, true)] (fun w' => w'.cell? ⟨n, 0, none⟩ = some (.int .i64 x.a) ∧ w'.cell? ⟨n, 1, none⟩ = some (.int .i64 x.b) ∧ w'.cell? ⟨n, 2, none⟩ = some (.int .i64 x.c) ∧ w'.cell? ⟨n, 3, none⟩ = some (.int .i64 x.t)) (by kernel_rfl) (by kernel_rfl) rfl (by intro c a d v w h; cases d <;> exact h) (HF1.out _ (Below.drew (Below.refl _ _))).1 ?_
      iterate 7 (refine wpSeq_take (v := ?_) (List.getElem?_toArray.trans rfl) ?_ ?_; rotate_left; (intro w' hSw; (try dsimp only at hSw); go_simp; (try with_reducible rfl)); (try simp only [Act.put, List.setIfInBounds_toArray, List.set_cons_zero, List.set_cons_succ]))
      refine wpSeq_do (List.getElem?_toArray.trans rfl) (fun K hK => ?_)
      go_simp
      refine (HSD.out _).mono ?_
      rintro e w2 ⟨rfl, hb2⟩
      have HB2 := Lib.hid (show Below W1.heap.size W1 w2 from (Below.drew (Below.refl _ _)).trans (hb2.mono (by simp)))
      refine hK _ _ (HF1.out w2 HB2.out).1 ?_
      clear hK K hb2
      refine wpSeq_do (List.getElem?_toArray.trans rfl) (fun K hK => ?_)
      go_simp
      refine (HPW.out d hd0.1 (by omega) w2).mono ?_
      rintro e w3 ⟨rfl, rfl⟩
      rw [show a ^ d.toNat % p = hh by rw [HHE.out]; unfold hPow degT; rw [← HD.out]]
      refine hK _ _ (HF1.out w2 HB2.out).1 ?_
      clear hK K
      iterate 3 (refine wpSeq_take (v := ?_) (List.getElem?_toArray.trans rfl) ?_ ?_; rotate_left; (intro w' hSw; (try dsimp only at hSw); go_simp; (try with_reducible rfl)); (try simp only [Act.put, List.setIfInBounds_toArray, List.set_cons_zero, List.set_cons_succ]))
      refine wpSeq_nil ?_
      simp only [Exit.then]
      have hfz := (HF1.out w2 HB2.out).2.1
      obtain ⟨⟨c0, c1, c2, c3⟩, -, -, hn2⟩ := HF1.out w2 HB2.out
      have HL2 := Lib.hid (show Below n wr (w2.setCell ⟨n, 3, none⟩ (.int .i64 v)) from Below.setCell (HF1.out w2 HB2.out).2.2.1 (Nat.le_refl _) _)
      have HLw := Lib.hid (show Below w.heap.size w (w2.setCell ⟨n, 3, none⟩ (.int .i64 v)) from Hb.out.trans (HL2.out.mono hsz))
      have HR2 := Lib.hid (show Row (w2.setCell ⟨n, 3, none⟩ (.int .i64 v)) w.heap.size u8 (tmL p (hPow p a) (L.take k)) from HR.out.below (HNE.out ▸ HL2.out))
      by_cases hv0 : 0 < v
      · have HNX := Lib.hid (show tmL p (hPow p a) (L.take (k + 1)) = tmL p (hPow p a) (L.take k) ++ [⟨x.a, x.b, x.c, v⟩] by rw [HN.out, if_pos hv0, HVE.out])
        have hle := hlen
        have hls : w.heap.size ≤ (w2.setCell ⟨n, 3, none⟩ (.int .i64 v)).heap.size := HLw.out.size
        go_wp2_with (at_builtin; refine wpList_append_own _ rfl _ _ 24 rfl w.heap.size 87 i0 (.agg #[.int .i64 0, .int .i64 0, .int .i64 0, .int .i64 0]) 4 32 Try.underlying24 hi hz0 hz1 hz2 rfl (by decide) _ _ _ rfl (World.ownsRow.alloc HR2.out _) _ 1 1 (Trm.cs ⟨x.a, x.b, x.c, v⟩) rfl rfl ?c1 ?c2 ?c3 ?c4 ?c5 ?_)
        case c1 =>
          intro j u hj
          match j, hj with
          | 0, hj => simp [Trm.cs] at hj; subst hj; simp [Addr.add, go_sem]
          | 1, hj => simp [Trm.cs] at hj; subst hj; simp [Addr.add, go_sem]
          | 2, hj => simp [Trm.cs] at hj; subst hj; simp [Addr.add, go_sem]
          | 3, hj => simp [Trm.cs] at hj; subst hj; simp [Addr.add, go_sem]
          | j + 4, hj => simp [Trm.cs] at hj
        case c2 => intro u hu; exact flat_cell [⟨x.a, x.b, x.c, v⟩] u (by simpa [flat] using hu)
        case c3 => unfold maxLen; omega
        case c4 => omega
        case c5 => simp at hls ⊢; omega
        intro v' w3 hown' hgrow _
        have R3 := Lib.hid (show Row w3 w.heap.size v' (tmL p (hPow p a) (L.take (k + 1))) by
          rw [HNX.out]
          show World.ownsRow _ _ _ _ _ _ _
          rw [flat_app, flat_one, List.length_append]
          exact hown')
        have H3 := Lib.hid (show Below w.heap.size w w3 by
          exact Below.trans (Below.alloc HLw.out hls _) (Row.low (World.ownsRow.alloc HR2.out _) (by simp at hls ⊢; omega) hgrow))
        clear hown' hgrow
        go_wp2
        go_roundw
        case rel => exact ⟨k + 1, by omega, by go_num, R3.out, H3.out⟩
        case measure => simp [intOf]; omega
      · have HNX := Lib.hid (show tmL p (hPow p a) (L.take (k + 1)) = tmL p (hPow p a) (L.take k) by rw [HN.out, if_neg hv0])
        have hv9 : ¬ v > 0 := hv0
        go_wp2_with fail
        go_roundw
        case rel => exact ⟨k + 1, by omega, by go_num, by rw [HNX.out]; exact HR2.out, HLw.out⟩
        case measure => simp [intOf]; omega
    · have hkl : k = L.length := by omega
      subst hkl
      rw [List.take_length] at hrow hlen
      go_wp2
      refine bodyPost_ret (v := .tuple #[_, .bool true]) (by simp [results, Try.results83, go_sem]) rfl ⟨_, rfl, hrow.own (by omega), hb⟩
set_option maxHeartbeats 4000000 in
theorem sEulerPoly_nil (p : Int) (b : Option Addr) (cap : Nat) (w : World) (hp : isP p = true) :
    Calls Try.prog 78 #[.int .i64 p, .slice b 0 cap] w (GivesPB [] true w) := by
  have HB := Lib.hid (show ∀ w', Calls Try.prog 113 #[.int .i64 p, .slice b 0 cap] w' fun e w'' => e = .returned (.bool true) ∧ Below w'.heap.size w' w'' from
    fun w' => (sPolyValid p (.slice b 0 cap) [] w' ⟨by simp, b, cap, rfl, .inl rfl⟩).mono fun e w'' h => by rw [hp] at h; exact h)
  clear hp
  go_enter Try.func78, Try.ntmps78
  go_wp2_with fail
  refine (HB.out _).mono ?_
  rintro e w1 ⟨rfl, hb1⟩
  have H1 := Lib.hid (show Below w.heap.size w w1 from (Below.alloc (Below.refl _ _) (Nat.le_refl _) _).trans (hb1.mono (by simp)))
  have R1 := Lib.hid (show Row w1 w.heap.size (.slice (some ⟨w.heap.size, 0, none⟩) 0 0) [] from (Row.lit0 w w.heap.size (Nat.le_refl _)).below hb1)
  clear hb1
  go_wp2_with fail
  go_loop [6, 17] (fun v i => v = (.slice (some ⟨w.heap.size, 0, none⟩) 0 0) ∧ i = .int .i64 0) (fun _ _ => 0)
  case atStart => exact ⟨rfl, rfl⟩
  case round =>
    obtain ⟨rfl, rfl⟩ := hrel
    go_wp2_with fail
    refine bodyPost_ret (v := .tuple #[(.slice (some ⟨w.heap.size, 0, none⟩) 0 0), .bool true]) (by simp [results, Try.results78, go_sem]) rfl ⟨_, rfl, R1.out.own (by simp), H1.out⟩
set_option maxHeartbeats 4000000 in
theorem sEulerPoly_no (p : Int) (f : Value) (L : List Trm) (w : World) (h : Trms w f L) (hn : (isP p && validB p L) = false) :
    Calls Try.prog 78 #[.int .i64 p, f] w (GivesPB [] false w) := by
  have HB := Lib.hid (show ∀ w', Below w.heap.size w w' → Calls Try.prog 113 #[.int .i64 p, f] w' fun e w'' => e = .returned (.bool false) ∧ Below w'.heap.size w' w'' from
    fun w' hb => (sPolyValid p f L w' (h.below hb)).mono fun e w' h => by rw [hn] at h; exact h)
  clear hn h
  go_enter Try.func78, Try.ntmps78
  go_wp2_with fail
  refine (HB.out _ (Below.alloc (Below.refl _ _) (Nat.le_refl _) _)).mono ?_
  rintro e w1 ⟨rfl, hb1⟩
  have H1 := Lib.hid (show Below w.heap.size w w1 from (Below.alloc (Below.refl _ _) (Nat.le_refl _) _).trans (hb1.mono (by simp)))
  have R1 := Lib.hid (show Row w1 w.heap.size (.slice (some ⟨w.heap.size, 0, none⟩) 0 0) [] from (Row.lit0 w w.heap.size (Nat.le_refl _)).below hb1)
  clear hb1
  go_wp2_with fail
  refine bodyPost_ret (v := .tuple #[_, .bool false]) (by simp [results, Try.results78, go_sem]) rfl ⟨_, rfl, R1.out.own (by simp), H1.out⟩
def eulV (p : Int) (L : List Trm) : List Trm := if (isP p && validB p L) = true then tmL p hDeg L else []
theorem sEulerPoly (p : Int) (f : Value) (L : List Trm) (w : World) (h : Trms w f L) :
    Calls Try.prog 78 #[.int .i64 p, f] w (GivesPB (eulV p L) (isP p && validB p L) w) := by
  unfold eulV
  cases hn : isP p && validB p L
  · exact sEulerPoly_no p f L w h hn
  · have hn2 := hn
    simp only [Bool.and_eq_true] at hn2
    obtain ⟨hl, a, cap, rfl, h2⟩ := h
    rcases h2 with rfl | ⟨g, off, rfl, hg, hc⟩
    · exact sEulerPoly_nil p a cap w hn2.1
    · exact sEulerPoly_some p g off cap L w hn2.1 hn2.2 hg hc
set_option maxHeartbeats 4000000 in
theorem sScaleUnknowns_nil (p : Int) (b : Option Addr) (cap : Nat) (a : Int) (w : World) (hp : isP p = true) (ha : isE p a = true) :
    Calls Try.prog 83 #[.int .i64 p, .slice b 0 cap, .int .i64 a] w (GivesPB [] true w) := by
  have HB := Lib.hid (show ∀ w', Calls Try.prog 113 #[.int .i64 p, .slice b 0 cap] w' fun e w'' => e = .returned (.bool true) ∧ Below w'.heap.size w' w'' from
    fun w' => (sPolyValid p (.slice b 0 cap) [] w' ⟨by simp, b, cap, rfl, .inl rfl⟩).mono fun e w'' h => by rw [hp] at h; exact h)
  have HA := Lib.hid (show (decide (0 ≤ a) && decide (a ≤ p - 1)) = true by rw [elB2]; exact ha)
  obtain ⟨p0, p1⟩ := isP_bd hp
  have hwp : IntKind.i64.wrap (p - 1) = p - 1 := IntWalk.i64_in _ (by omega)
  clear ha
  clear hp
  go_enter Try.func83, Try.ntmps83
  go_wp2_with fail
  refine (HB.out _).mono ?_
  rintro e w1 ⟨rfl, hb1⟩
  have H1 := Lib.hid (show Below w.heap.size w w1 from (Below.alloc (Below.refl _ _) (Nat.le_refl _) _).trans (hb1.mono (by simp)))
  have R1 := Lib.hid (show Row w1 w.heap.size (.slice (some ⟨w.heap.size, 0, none⟩) 0 0) [] from (Row.lit0 w w.heap.size (Nat.le_refl _)).below hb1)
  clear hb1
  go_wp2_with (go_at_call 133; refine (sIn_is true _ _ _ HA.out _).mono ?_; rintro e w2 ⟨rfl, rfl⟩)
  go_loop [8, 26] (fun v i => v = (.slice (some ⟨w.heap.size, 0, none⟩) 0 0) ∧ i = .int .i64 0) (fun _ _ => 0)
  case atStart => exact ⟨rfl, rfl⟩
  case round =>
    obtain ⟨rfl, rfl⟩ := hrel
    go_wp2_with fail
    refine bodyPost_ret (v := .tuple #[(.slice (some ⟨w.heap.size, 0, none⟩) 0 0), .bool true]) (by simp [results, Try.results83, go_sem]) rfl ⟨_, rfl, R1.out.own (by simp), H1.out⟩
set_option maxHeartbeats 4000000 in
theorem sScaleUnknowns_no (p : Int) (f : Value) (L : List Trm) (a : Int) (w : World) (h : Trms w f L) (hn : (isP p && validB p L) = false) :
    Calls Try.prog 83 #[.int .i64 p, f, .int .i64 a] w (GivesPB [] false w) := by
  have HB := Lib.hid (show ∀ w', Below w.heap.size w w' → Calls Try.prog 113 #[.int .i64 p, f] w' fun e w'' => e = .returned (.bool false) ∧ Below w'.heap.size w' w'' from
    fun w' hb => (sPolyValid p f L w' (h.below hb)).mono fun e w' h => by rw [hn] at h; exact h)
  clear hn h
  go_enter Try.func83, Try.ntmps83
  go_wp2_with fail
  refine (HB.out _ (Below.alloc (Below.refl _ _) (Nat.le_refl _) _)).mono ?_
  rintro e w1 ⟨rfl, hb1⟩
  have H1 := Lib.hid (show Below w.heap.size w w1 from (Below.alloc (Below.refl _ _) (Nat.le_refl _) _).trans (hb1.mono (by simp)))
  have R1 := Lib.hid (show Row w1 w.heap.size (.slice (some ⟨w.heap.size, 0, none⟩) 0 0) [] from (Row.lit0 w w.heap.size (Nat.le_refl _)).below hb1)
  clear hb1
  go_wp2_with fail
  refine bodyPost_ret (v := .tuple #[_, .bool false]) (by simp [results, Try.results83, go_sem]) rfl ⟨_, rfl, R1.out.own (by simp), H1.out⟩
set_option maxHeartbeats 4000000 in
theorem sScaleUnknowns_out (p : Int) (f : Value) (L : List Trm) (a : Int) (w : World) (h : Trms w f L) (hn : (isP p && validB p L) = true) (ha : isE p a = false) :
    Calls Try.prog 83 #[.int .i64 p, f, .int .i64 a] w (GivesPB [] false w) := by
  have HB := Lib.hid (show ∀ w', Below w.heap.size w w' → Calls Try.prog 113 #[.int .i64 p, f] w' fun e w'' => e = .returned (.bool true) ∧ Below w'.heap.size w' w'' from
    fun w' hb => (sPolyValid p f L w' (h.below hb)).mono fun e w' h => by rw [hn] at h; exact h)
  have HA := Lib.hid (show (decide (0 ≤ a) && decide (a ≤ p - 1)) = false by rw [elB2]; exact ha)
  have hp : isP p = true := by simp only [Bool.and_eq_true] at hn; exact hn.1
  obtain ⟨p0, p1⟩ := isP_bd hp
  have hwp : IntKind.i64.wrap (p - 1) = p - 1 := IntWalk.i64_in _ (by omega)
  clear hn h ha hp
  go_enter Try.func83, Try.ntmps83
  go_wp2_with fail
  refine (HB.out _ (Below.alloc (Below.refl _ _) (Nat.le_refl _) _)).mono ?_
  rintro e w1 ⟨rfl, hb1⟩
  have H1 := Lib.hid (show Below w.heap.size w w1 from (Below.alloc (Below.refl _ _) (Nat.le_refl _) _).trans (hb1.mono (by simp)))
  have R1 := Lib.hid (show Row w1 w.heap.size (.slice (some ⟨w.heap.size, 0, none⟩) 0 0) [] from (Row.lit0 w w.heap.size (Nat.le_refl _)).below hb1)
  clear hb1
  go_wp2_with (go_at_call 133; refine (sIn_is false _ _ _ HA.out _).mono ?_; rintro e w2 ⟨rfl, rfl⟩)
  refine bodyPost_ret (v := .tuple #[_, .bool false]) (by simp [results, Try.results83, go_sem]) rfl ⟨_, rfl, R1.out.own (by simp), H1.out⟩
def scuV (p a : Int) (L : List Trm) : List Trm := if ((isP p && validB p L) && isE p a) = true then tmL p (hPow p a) L else []
theorem sScaleUnknowns (p : Int) (f : Value) (L : List Trm) (a : Int) (w : World) (h : Trms w f L) :
    Calls Try.prog 83 #[.int .i64 p, f, .int .i64 a] w (GivesPB (scuV p a L) ((isP p && validB p L) && isE p a) w) := by
  unfold scuV
  cases hn : isP p && validB p L
  · exact sScaleUnknowns_no p f L a w h hn
  · cases ha : isE p a
    · exact sScaleUnknowns_out p f L a w h hn ha
    · have hn2 := hn
      simp only [Bool.and_eq_true] at hn2
      obtain ⟨hl, b, cap, rfl, h2⟩ := h
      rcases h2 with rfl | ⟨g, off, rfl, hg, hc⟩
      · exact sScaleUnknowns_nil p b cap a w hn2.1 ha
      · exact sScaleUnknowns_some p g off cap L a w hn2.1 hn2.2 ha hg hc
end Go.Proofs.Ytlidplmpglpkgaa
namespace Go.Proofs.Ytlidplmpglpkgaa
open Go.RowKit
/-- what hangs on the degree alone -/
def hOf (H : Int → Int) (x : Trm) : Int := H (degT x)
theorem tm_same {p : Int} {h g : Trm → Int} {L : List Trm} (e : ∀ x ∈ L, x.t * h x % p = x.t * g x % p) : tmL p h L = tmL p g L := by
  unfold tmL
  congr 1
  apply List.map_congr_left
  intro x hx
  unfold tmT
  rw [e x hx]
set_option maxRecDepth 100000 in
set_option maxHeartbeats 8000000 in
theorem iTimesE_some (p : Int) (g off cap : Nat) (L : List Trm) (H : Int → Int) (m0 : Nat) (w : World) (hp : isP p = true) (hV : validB p L = true) (hg : g < w.heap.size)
    (hc : ∀ j : Nat, j < L.length → TAt w g (off + j * 4) (L.getD j default))
    (hH : ∀ w', Below w.heap.size w w' → ∀ d, 0 ≤ d → d ≤ 27 → Calls Try.prog 174 #[.int .i64 d, .pointer (some ⟨m0, 0, none⟩)] w' fun e w'' => e = .returned (.int .i64 (H d)) ∧ Below w'.heap.size w' w'')
    (hE : ∀ d, 0 ≤ d → d ≤ 27 → isE p (H d) = true) :
    Calls Try.prog 173 #[.int .i64 p, .slice (some ⟨g, off, none⟩) L.length cap, .func (.func 174) #[] #[.pointer (some ⟨m0, 0, none⟩)]] w (GivesPB (tmL p (hOf H) L) true w) := by
  have hl := validB_len hV
  have HB := Lib.hid (show ∀ w', Below w.heap.size w w' → Calls Try.prog 20 #[.int .i64 p, .slice (some ⟨g, off, none⟩) L.length cap] w' fun e w'' => e = .returned (.bool true) ∧ Below w'.heap.size w' w'' from
    fun w' hb => (iPolyValid p _ L w' ⟨by omega, _, cap, rfl, .inr ⟨g, off, rfl, Nat.lt_of_lt_of_le hg hb.size, fun j hj => (hc j hj).below hb hg⟩⟩).mono fun e w'' h => by rw [hp, hV] at h; exact h)
  have HC := Lib.hid hc
  have HV := Lib.hid hV
  have HP := Lib.hid hp
  have HH := Lib.hid hH
  have HE := Lib.hid hE
  clear hc hV hp hH hE
  go_enter Try.func173, Try.ntmps173
  go_wp2_with fail
  refine (HB.out _ (Below.refl _ _)).mono ?_
  rintro e w1 ⟨rfl, hb1⟩
  have H1 := Lib.hid hb1
  clear hb1
  go_wp2_with fail
  obtain ⟨W, hW⟩ : ∃ W, W = w1.alloc (Obj.cells #[.int .i64 p, .slice none 0 0] 114) := ⟨_, rfl⟩
  have HW := Lib.hid (show SumW W w1.heap.size p (.slice none 0 0) ∧ Below w.heap.size w W ∧ w.heap.size ≤ w1.heap.size by
    have h1 := H1.out.size
    rw [hW]
    refine ⟨⟨by simp [go_sem], by simp [go_sem], World.frozen?_alloc_at _ _ _ 0 rfl, World.frozen?_alloc_at _ _ _ 1 rfl, by simp⟩, Below.alloc H1.out h1 _, h1⟩)
  rw [← hW]
  clear hW
  obtain ⟨S, hSe⟩ : ∃ S, S = w1.heap.size := ⟨_, rfl⟩
  rw [← hSe] at HW ⊢
  have hSB : w.heap.size ≤ S := by have := HW.out.2.2; omega
  clear hSe
  go_loopw [19] (fun i wr => ∃ (k : Nat) (v : Value), k ≤ L.length ∧ i = .int .i64 k ∧ SumW wr S p v ∧ Row wr w.heap.size v (tmK p (hOf H) L k) ∧ v.ownBlock ≠ some S ∧ Below w.heap.size w wr) (fun i _ => L.length - (intOf i).toNat)
  case atStart => exact ⟨0, _, by omega, rfl, HW.out.1, Row.nil _ _, by simp [Value.ownBlock], HW.out.2.1⟩
  case round =>
    clear HW
    obtain ⟨k, v, hk, rfl, hS, hR, hv, hb⟩ := hrel
    by_cases hlt : k < L.length
    · have hltp : (k : Int) < (L.length : Int) := by omega
      have hk0 : (0 : Int) ≤ (k : Int) := by omega
      obtain ⟨a0, a1, a2, a3⟩ := (HC.out k hlt).below hb hg
      obtain ⟨x, hx⟩ : ∃ x, x = L.getD k default := ⟨_, rfl⟩
      rw [← hx] at a0 a1 a2 a3
      have hpw := validB_pows HV.out hlt hx
      have hel := validB_el HV.out hlt hx
      obtain ⟨d, hd⟩ : ∃ d, d = x.a + x.b + x.c := ⟨_, rfl⟩
      have hd0 : 0 ≤ d ∧ d ≤ 27 := by obtain ⟨⟨q0, q1⟩, ⟨q2, q3⟩, ⟨q4, q5⟩⟩ := hpw; omega
      obtain ⟨s, hs⟩ : ∃ s, s = H d := ⟨_, rfl⟩
      have HDG := Lib.hid (fun w => by have := iDeg x.a x.b x.c x.t w hpw.1 hpw.2.1 hpw.2.2; rw [← hd] at this; exact this)
      have HCL := Lib.hid (fun w' (hb : Below w.heap.size w w') => by have := HH.out w' hb d hd0.1 hd0.2; rw [← hs] at this; exact this)
      have HES := Lib.hid (show isE p s = true by rw [hs]; exact HE.out d hd0.1 hd0.2)
      have HM := Lib.hid (fun w => by
        have := iMulT p x ⟨0, 0, 0, s⟩ w hpw ⟨⟨Int.le_refl 0, (by decide : (0 : Int) ≤ 9)⟩, ⟨Int.le_refl 0, (by decide : (0 : Int) ≤ 9)⟩, ⟨Int.le_refl 0, (by decide : (0 : Int) ≤ 9)⟩⟩
        simp only [Int.add_zero] at this
        rw [mulV_is HP.out (isE_iff.2 (by omega)) HES.out] at this
        exact this)
      have HTT := Lib.hid (show tmT p (hOf H) x = ⟨x.a, x.b, x.c, x.t * s % p⟩ by unfold tmT hOf degT; rw [← hd, ← hs])
      have HXK := Lib.hid (show addT p (tmT p (hOf H) x) (tmK p (hOf H) L k) = tmK p (hOf H) L (k + 1) by rw [hx, ← tmK_succ hlt])
      have HS := Lib.hid hS
      have HR := Lib.hid hR
      have HV2 := Lib.hid hv
      have Hb := Lib.hid hb
      have HF := Lib.hid (show ∀ W, W = wr.alloc (Obj.cells #[.int .i64 x.a, .int .i64 x.b, .int .i64 x.c, .int .i64 x.t] 87) → ∀ w', Below W.heap.size W w' → (w'.cell? ⟨wr.heap.size, 0, none⟩ = some (.int .i64 x.a) ∧ w'.cell? ⟨wr.heap.size, 1, none⟩ = some (.int .i64 x.b) ∧ w'.cell? ⟨wr.heap.size, 2, none⟩ = some (.int .i64 x.c) ∧ w'.cell? ⟨wr.heap.size, 3, none⟩ = some (.int .i64 x.t)) ∧ Below wr.heap.size wr w' from by
        rintro W rfl w' hw
        have hs : wr.heap.size < (wr.alloc (Obj.cells #[.int .i64 x.a, .int .i64 x.b, .int .i64 x.c, .int .i64 x.t] 87)).heap.size := by simp
        refine ⟨⟨?_, ?_, ?_, ?_⟩, (Below.alloc (Below.refl _ _) (Nat.le_refl _) _).trans (hw.mono (by simp))⟩
        · rw [hw.cell (p := ⟨wr.heap.size, 0, none⟩) hs]; simp [go_sem]
        · rw [hw.cell (p := ⟨wr.heap.size, 1, none⟩) hs]; simp [go_sem]
        · rw [hw.cell (p := ⟨wr.heap.size, 2, none⟩) hs]; simp [go_sem]
        · rw [hw.cell (p := ⟨wr.heap.size, 3, none⟩) hs]; simp [go_sem])
      clear hx hS hR hv hb hpw hel hd hs
      go_wp2_with fail
      obtain ⟨W1, hW1⟩ : ∃ W, W = wr.alloc (Obj.cells #[.int .i64 x.a, .int .i64 x.b, .int .i64 x.c, .int .i64 x.t] 87) := ⟨_, rfl⟩
      have HF1 := Lib.hid (HF.out W1 hW1)
      rw [← hW1]
      clear hW1 HF a0 a1 a2 a3
      obtain ⟨n, hne⟩ : ∃ n, n = wr.heap.size := ⟨_, rfl⟩
      have HNE := Lib.hid hne
      rw [← hne] at HF1 ⊢
      clear hne
      refine wp_region_seq [(0, true), (1, true), (2, true), (3, true), (4, false), (5, false), (6, true), (7, false)] (fun w' => w'.cell? ⟨n, 0, none⟩ = some (.int .i64 x.a) ∧ w'.cell? ⟨n, 1, none⟩ = some (.int .i64 x.b) ∧ w'.cell? ⟨n, 2, none⟩ = some (.int .i64 x.c) ∧ w'.cell? ⟨n, 3, none⟩ = some (.int .i64 x.t)) (by kernel_rfl) (by kernel_rfl) rfl (by intro c a d v w h; cases d <;> exact h) (HF1.out _ (Below.drew (Below.refl _ _))).1 ?_
      iterate 4 (refine wpSeq_take (v := ?_) (List.getElem?_toArray.trans rfl) ?_ ?_; rotate_left; (intro w' hSw; (try dsimp only at hSw); go_simp; (try with_reducible rfl)); (try simp only [Act.put, List.setIfInBounds_toArray, List.set_cons_zero, List.set_cons_succ]))
      refine wpSeq_do (List.getElem?_toArray.trans rfl) (fun K hK => ?_)
      go_simp
      refine (HDG.out _).mono ?_
      rintro e w2 ⟨rfl, hb2⟩
      have HB2 := Lib.hid (show Below W1.heap.size W1 w2 from (Below.drew (Below.refl _ _)).trans (hb2.mono (by simp)))
      refine hK _ _ (HF1.out w2 HB2.out).1 ?_
      clear hK K hb2
      refine wpSeq_do (List.getElem?_toArray.trans rfl) (fun K hK => ?_)
      go_simp
      refine (HCL.out w2 (Hb.out.trans ((HF1.out w2 HB2.out).2.mono (HNE.out ▸ Hb.out.size)))).mono ?_
      rintro e w3 ⟨rfl, hb3⟩
      have HB3 := Lib.hid (show Below W1.heap.size W1 w3 from HB2.out.trans (hb3.mono HB2.out.size))
      refine hK _ _ (HF1.out w3 HB3.out).1 ?_
      clear hK K hb3
      (refine wpSeq_take (v := ?_) (List.getElem?_toArray.trans rfl) ?_ ?_; rotate_left; (intro w' hSw; (try dsimp only at hSw); go_simp; (try with_reducible rfl)); (try simp only [Act.put, List.setIfInBounds_toArray, List.set_cons_zero, List.set_cons_succ]))
      refine wpSeq_do (List.getElem?_toArray.trans rfl) (fun K hK => ?_)
      go_simp
      refine (HM.out w3).mono ?_
      rintro e w4 ⟨rfl, hb4⟩
      have HB4 := Lib.hid (show Below W1.heap.size W1 w4 from HB3.out.trans (hb4.mono HB3.out.size))
      refine hK _ _ (HF1.out w4 HB4.out).1 ?_
      clear hK K hb4
      refine wpSeq_nil ?_
      simp only [Exit.then]
      have Hr := Lib.hid (show Below wr.heap.size wr w4 from HNE.out ▸ (HF1.out w4 HB4.out).2)
      have H3 := Lib.hid (Hb.out.trans (Hr.out.mono Hb.out.size))
      go_wp2_with fail
      have hf := tmK_facts (h := hOf H) (L := L) HP.out k
      have hpb := isP_bd HP.out
      have hput := iPut w.heap.size S p v (tmK p (hOf H) L k) (tmT p (hOf H) x) w4 (HS.out.below Hr.out) (HR.out.below Hr.out) H3.out.size HP.out hf.1 hf.2.1 (by rw [HTT.out]; exact isE_iff.2 (emod_bd hpb.1)) (by omega) HV2.out
      rw [HTT.out] at hput
      refine hput.mono ?_
      rintro e w5 hP4
      rw [← HTT.out] at hP4
      have hlow := hP4.low (HR.out.below Hr.out) hSB H3.out.size
      obtain ⟨rfl, v', hS', hR', hv', _, _⟩ := hP4
      rw [HXK.out] at hR'
      have HQ := Lib.hid (And.intro hS' (And.intro hR' (And.intro hv' (H3.out.trans hlow))))
      clear hS' hR' hv' hlow hf hpb
      go_wp2_with fail
      go_roundw
      case rel => exact ⟨k + 1, v', by omega, by go_num, HQ.out.1, HQ.out.2.1, HQ.out.2.2.1, HQ.out.2.2.2⟩
      case measure => simp [intOf]; omega
    · have hkl : k = L.length := by omega
      subst hkl
      have hf := tmK_facts (h := hOf H) (L := L) HP.out L.length
      have hown := hR.own (by omega)
      rw [tmK_all HP.out (validB_srt HV.out)] at hown
      obtain ⟨hl2, ao, cap2, rfl, _⟩ := hown.trms
      have HO := Lib.hid hown
      have HS := Lib.hid hS
      have Hb := Lib.hid hb
      have HVV := Lib.hid (tm_valid (h := hOf H) HP.out HV.out)
      clear hown hS hb hR hf hv
      go_wp2_with fail
      refine (iPolyOf S p ao cap2 (tmL p (hOf H) L) _ HS.out HO.out.trms).mono ?_
      rintro e w5 ⟨rfl, hb5⟩
      rw [HVV.out, HP.out]
      have H5 := Lib.hid (And.intro (HO.out.below hb5) (Hb.out.trans (hb5.mono Hb.out.size)))
      clear hb5
      go_wp2_with fail
      refine bodyPost_ret (v := .tuple #[.slice ao (tmL p (hOf H) L).length cap2, .bool true]) (by simp [results, Try.results173, go_sem]) rfl ⟨_, rfl, H5.out.1, H5.out.2⟩
set_option maxHeartbeats 4000000 in
theorem iTimesE_nil (p : Int) (b : Option Addr) (cap : Nat) (m0 : Nat) (w : World) (hp : isP p = true) :
    Calls Try.prog 173 #[.int .i64 p, .slice b 0 cap, .func (.func 174) #[] #[.pointer (some ⟨m0, 0, none⟩)]] w (GivesPB [] true w) := by
  have HB := Lib.hid (show ∀ w', Calls Try.prog 20 #[.int .i64 p, .slice b 0 cap] w' fun e w'' => e = .returned (.bool true) ∧ Below w'.heap.size w' w'' from
    fun w' => (iPolyValid p _ [] w' ⟨by simp, _, cap, rfl, .inl rfl⟩).mono fun e w'' h => by rw [hp] at h; exact h)
  have HP := Lib.hid hp
  clear hp
  go_enter Try.func173, Try.ntmps173
  go_wp2_with fail
  refine (HB.out _).mono ?_
  rintro e w1 ⟨rfl, hb1⟩
  have H1 := Lib.hid hb1
  clear hb1
  go_wp2_with fail
  obtain ⟨W, hW⟩ : ∃ W, W = w1.alloc (Obj.cells #[.int .i64 p, .slice none 0 0] 114) := ⟨_, rfl⟩
  have HW := Lib.hid (show SumW W w1.heap.size p (.slice none 0 0) ∧ Below w.heap.size w W by
    have h1 := H1.out.size
    rw [hW]
    refine ⟨⟨by simp [go_sem], by simp [go_sem], World.frozen?_alloc_at _ _ _ 0 rfl, World.frozen?_alloc_at _ _ _ 1 rfl, by simp⟩, Below.alloc H1.out h1 _⟩)
  rw [← hW]
  clear hW
  go_loop [19] (fun i => i = .int .i64 0) (fun _ => 0)
  case atStart => rfl
  case round =>
    obtain rfl := hrel
    go_wp2_with fail
    refine (iPolyOf w1.heap.size p none 0 [] _ HW.out.1 ⟨by simp, _, 0, rfl, .inl rfl⟩).mono ?_
    rintro e w5 ⟨rfl, hb5⟩
    rw [validB_nil, HP.out]
    have H5 := Lib.hid (HW.out.2.trans (hb5.mono HW.out.2.size))
    clear hb5
    go_wp2_with fail
    refine bodyPost_ret (v := .tuple #[.slice none 0 0, .bool true]) (by simp [results, Try.results173, go_sem]) rfl ⟨_, rfl, ⟨by simp, none, 0, rfl, .inl rfl⟩, H5.out⟩
set_option maxHeartbeats 4000000 in
theorem iTimesE_no (p : Int) (f : Value) (L : List Trm) (m0 : Nat) (w : World) (h : Trms w f L) (hn : (isP p && validB p L) = false) :
    Calls Try.prog 173 #[.int .i64 p, f, .func (.func 174) #[] #[.pointer (some ⟨m0, 0, none⟩)]] w (GivesPB [] false w) := by
  have HB := Lib.hid (show Calls Try.prog 20 #[.int .i64 p, f] w fun e w'' => e = .returned (.bool false) ∧ Below w.heap.size w w'' from
    (iPolyValid p f L w h).mono fun e w'' h => by rw [hn] at h; exact h)
  clear h hn
  go_enter Try.func173, Try.ntmps173
  go_wp2_with fail
  refine HB.out.mono ?_
  rintro e w1 ⟨rfl, hb1⟩
  go_wp2_with fail
  refine bodyPost_ret (v := .tuple #[.slice none 0 0, .bool false]) (by simp [results, Try.results173, go_sem]) rfl ⟨_, rfl, ⟨by simp, none, 0, rfl, .inl rfl⟩, hb1⟩
theorem iTimesE (p : Int) (f : Value) (L : List Trm) (H : Int → Int) (m0 : Nat) (w : World) (h : Trms w f L)
    (hH : isP p = true → ∀ w', Below w.heap.size w w' → ∀ d, 0 ≤ d → d ≤ 27 → Calls Try.prog 174 #[.int .i64 d, .pointer (some ⟨m0, 0, none⟩)] w' fun e w'' => e = .returned (.int .i64 (H d)) ∧ Below w'.heap.size w' w'')
    (hE : isP p = true → ∀ d, 0 ≤ d → d ≤ 27 → isE p (H d) = true) :
    Calls Try.prog 173 #[.int .i64 p, f, .func (.func 174) #[] #[.pointer (some ⟨m0, 0, none⟩)]] w (GivesPB (if (isP p && validB p L) = true then tmL p (hOf H) L else []) (isP p && validB p L) w) := by
  cases hn : isP p && validB p L
  · exact iTimesE_no p f L m0 w h hn
  · have hn2 := hn
    simp only [Bool.and_eq_true] at hn2
    obtain ⟨hl, a, cap, rfl, h2⟩ := h
    rcases h2 with rfl | ⟨g, off, rfl, hg, hc⟩
    · exact iTimesE_nil p a cap m0 w hn2.1
    · exact iTimesE_some p g off cap L H m0 w hn2.1 hn2.2 hg hc (hH hn2.1) (hE hn2.1)
set_option maxRecDepth 100000 in
set_option maxHeartbeats 8000000 in
theorem iTimesS_some (p : Int) (g off cap : Nat) (L : List Trm) (H : Int → Int) (m0 m1 : Nat) (w : World) (hp : isP p = true) (hV : validB p L = true) (hg : g < w.heap.size)
    (hc : ∀ j : Nat, j < L.length → TAt w g (off + j * 4) (L.getD j default))
    (hH : ∀ w', Below w.heap.size w w' → ∀ d, 0 ≤ d → d ≤ 27 → Calls Try.prog 178 #[.int .i64 d, .pointer (some ⟨m0, 0, none⟩), .pointer (some ⟨m1, 0, none⟩)] w' fun e w'' => e = .returned (.int .i64 (H d)) ∧ Below w'.heap.size w' w'')
    (hE : ∀ d, 0 ≤ d → d ≤ 27 → isE p (H d) = true) :
    Calls Try.prog 173 #[.int .i64 p, .slice (some ⟨g, off, none⟩) L.length cap, .func (.func 178) #[] #[.pointer (some ⟨m0, 0, none⟩), .pointer (some ⟨m1, 0, none⟩)]] w (GivesPB (tmL p (hOf H) L) true w) := by
  have hl := validB_len hV
  have HB := Lib.hid (show ∀ w', Below w.heap.size w w' → Calls Try.prog 20 #[.int .i64 p, .slice (some ⟨g, off, none⟩) L.length cap] w' fun e w'' => e = .returned (.bool true) ∧ Below w'.heap.size w' w'' from
    fun w' hb => (iPolyValid p _ L w' ⟨by omega, _, cap, rfl, .inr ⟨g, off, rfl, Nat.lt_of_lt_of_le hg hb.size, fun j hj => (hc j hj).below hb hg⟩⟩).mono fun e w'' h => by rw [hp, hV] at h; exact h)
  have HC := Lib.hid hc
  have HV := Lib.hid hV
  have HP := Lib.hid hp
  have HH := Lib.hid hH
  have HE := Lib.hid hE
  clear hc hV hp hH hE
  go_enter Try.func173, Try.ntmps173
  go_wp2_with fail
  refine (HB.out _ (Below.refl _ _)).mono ?_
  rintro e w1 ⟨rfl, hb1⟩
  have H1 := Lib.hid hb1
  clear hb1
  go_wp2_with fail
  obtain ⟨W, hW⟩ : ∃ W, W = w1.alloc (Obj.cells #[.int .i64 p, .slice none 0 0] 114) := ⟨_, rfl⟩
  have HW := Lib.hid (show SumW W w1.heap.size p (.slice none 0 0) ∧ Below w.heap.size w W ∧ w.heap.size ≤ w1.heap.size by
    have h1 := H1.out.size
    rw [hW]
    refine ⟨⟨by simp [go_sem], by simp [go_sem], World.frozen?_alloc_at _ _ _ 0 rfl, World.frozen?_alloc_at _ _ _ 1 rfl, by simp⟩, Below.alloc H1.out h1 _, h1⟩)
  rw [← hW]
  clear hW
  obtain ⟨S, hSe⟩ : ∃ S, S = w1.heap.size := ⟨_, rfl⟩
  rw [← hSe] at HW ⊢
  have hSB : w.heap.size ≤ S := by have := HW.out.2.2; omega
  clear hSe
  go_loopw [19] (fun i wr => ∃ (k : Nat) (v : Value), k ≤ L.length ∧ i = .int .i64 k ∧ SumW wr S p v ∧ Row wr w.heap.size v (tmK p (hOf H) L k) ∧ v.ownBlock ≠ some S ∧ Below w.heap.size w wr) (fun i _ => L.length - (intOf i).toNat)
  case atStart => exact ⟨0, _, by omega, rfl, HW.out.1, Row.nil _ _, by simp [Value.ownBlock], HW.out.2.1⟩
  case round =>
    clear HW
    obtain ⟨k, v, hk, rfl, hS, hR, hv, hb⟩ := hrel
    by_cases hlt : k < L.length
    · have hltp : (k : Int) < (L.length : Int) := by omega
      have hk0 : (0 : Int) ≤ (k : Int) := by omega
      obtain ⟨a0, a1, a2, a3⟩ := (HC.out k hlt).below hb hg
      obtain ⟨x, hx⟩ : ∃ x, x = L.getD k default := ⟨_, rfl⟩
      rw [← hx] at a0 a1 a2 a3
      have hpw := validB_pows HV.out hlt hx
      have hel := validB_el HV.out hlt hx
      obtain ⟨d, hd⟩ : ∃ d, d = x.a + x.b + x.c := ⟨_, rfl⟩
      have hd0 : 0 ≤ d ∧ d ≤ 27 := by obtain ⟨⟨q0, q1⟩, ⟨q2, q3⟩, ⟨q4, q5⟩⟩ := hpw; omega
      obtain ⟨s, hs⟩ : ∃ s, s = H d := ⟨_, rfl⟩
      have HDG := Lib.hid (fun w => by have := iDeg x.a x.b x.c x.t w hpw.1 hpw.2.1 hpw.2.2; rw [← hd] at this; exact this)
      have HCL := Lib.hid (fun w' (hb : Below w.heap.size w w') => by have := HH.out w' hb d hd0.1 hd0.2; rw [← hs] at this; exact this)
      have HES := Lib.hid (show isE p s = true by rw [hs]; exact HE.out d hd0.1 hd0.2)
      have HM := Lib.hid (fun w => by
        have := iMulT p x ⟨0, 0, 0, s⟩ w hpw ⟨⟨Int.le_refl 0, (by decide : (0 : Int) ≤ 9)⟩, ⟨Int.le_refl 0, (by decide : (0 : Int) ≤ 9)⟩, ⟨Int.le_refl 0, (by decide : (0 : Int) ≤ 9)⟩⟩
        simp only [Int.add_zero] at this
        rw [mulV_is HP.out (isE_iff.2 (by omega)) HES.out] at this
        exact this)
      have HTT := Lib.hid (show tmT p (hOf H) x = ⟨x.a, x.b, x.c, x.t * s % p⟩ by unfold tmT hOf degT; rw [← hd, ← hs])
      have HXK := Lib.hid (show addT p (tmT p (hOf H) x) (tmK p (hOf H) L k) = tmK p (hOf H) L (k + 1) by rw [hx, ← tmK_succ hlt])
      have HS := Lib.hid hS
      have HR := Lib.hid hR
      have HV2 := Lib.hid hv
      have Hb := Lib.hid hb
      have HF := Lib.hid (show ∀ W, W = wr.alloc (Obj.cells #[.int .i64 x.a, .int .i64 x.b, .int .i64 x.c, .int .i64 x.t] 87) → ∀ w', Below W.heap.size W w' → (w'.cell? ⟨wr.heap.size, 0, none⟩ = some (.int .i64 x.a) ∧ w'.cell? ⟨wr.heap.size, 1, none⟩ = some (.int .i64 x.b) ∧ w'.cell? ⟨wr.heap.size, 2, none⟩ = some (.int .i64 x.c) ∧ w'.cell? ⟨wr.heap.size, 3, none⟩ = some (.int .i64 x.t)) ∧ Below wr.heap.size wr w' from by
        rintro W rfl w' hw
        have hs : wr.heap.size < (wr.alloc (Obj.cells #[.int .i64 x.a, .int .i64 x.b, .int .i64 x.c, .int .i64 x.t] 87)).heap.size := by simp
        refine ⟨⟨?_, ?_, ?_, ?_⟩, (Below.alloc (Below.refl _ _) (Nat.le_refl _) _).trans (hw.mono (by simp))⟩
        · rw [hw.cell (p := ⟨wr.heap.size, 0, none⟩) hs]; simp [go_sem]
        · rw [hw.cell (p := ⟨wr.heap.size, 1, none⟩) hs]; simp [go_sem]
        · rw [hw.cell (p := ⟨wr.heap.size, 2, none⟩) hs]; simp [go_sem]
        · rw [hw.cell (p := ⟨wr.heap.size, 3, none⟩) hs]; simp [go_sem])
      clear hx hS hR hv hb hpw hel hd hs
      go_wp2_with fail
      obtain ⟨W1, hW1⟩ : ∃ W, W = wr.alloc (Obj.cells #[.int .i64 x.a, .int .i64 x.b, .int .i64 x.c, .int .i64 x.t] 87) := ⟨_, rfl⟩
      have HF1 := Lib.hid (HF.out W1 hW1)
      rw [← hW1]
      clear hW1 HF a0 a1 a2 a3
      obtain ⟨n, hne⟩ : ∃ n, n = wr.heap.size := ⟨_, rfl⟩
      have HNE := Lib.hid hne
      rw [← hne] at HF1 ⊢
      clear hne
      refine wp_region_seq [(0, true), (1, true), (2, true), (3, true), (4, false), (5, false), (6, true), (7, false)] (fun w' => w'.cell? ⟨n, 0, none⟩ = some (.int .i64 x.a) ∧ w'.cell? ⟨n, 1, none⟩ = some (.int .i64 x.b) ∧ w'.cell? ⟨n, 2, none⟩ = some (.int .i64 x.c) ∧ w'.cell? ⟨n, 3, none⟩ = some (.int .i64 x.t)) (by kernel_rfl) (by kernel_rfl) rfl (by intro c a d v w h; cases d <;> exact h) (HF1.out _ (Below.drew (Below.refl _ _))).1 ?_
      iterate 4 (refine wpSeq_take (v := ?_) (List.getElem?_toArray.trans rfl) ?_ ?_; rotate_left; (intro w' hSw; (try dsimp only at hSw); go_simp; (try with_reducible rfl)); (try simp only [Act.put, List.setIfInBounds_toArray, List.set_cons_zero, List.set_cons_succ]))
      refine wpSeq_do (List.getElem?_toArray.trans rfl) (fun K hK => ?_)
      go_simp
      refine (HDG.out _).mono ?_
      rintro e w2 ⟨rfl, hb2⟩
      have HB2 := Lib.hid (show Below W1.heap.size W1 w2 from (Below.drew (Below.refl _ _)).trans (hb2.mono (by simp)))
      refine hK _ _ (HF1.out w2 HB2.out).1 ?_
      clear hK K hb2
      refine wpSeq_do (List.getElem?_toArray.trans rfl) (fun K hK => ?_)
      go_simp
      refine (HCL.out w2 (Hb.out.trans ((HF1.out w2 HB2.out).2.mono (HNE.out ▸ Hb.out.size)))).mono ?_
      rintro e w3 ⟨rfl, hb3⟩
      have HB3 := Lib.hid (show Below W1.heap.size W1 w3 from HB2.out.trans (hb3.mono HB2.out.size))
      refine hK _ _ (HF1.out w3 HB3.out).1 ?_
      clear hK K hb3
      (refine wpSeq_take (v := ?_) (List.getElem?_toArray.trans rfl) ?_ ?_; rotate_left; (intro w' hSw; (try dsimp only at hSw); go_simp; (try with_reducible rfl)); (try simp only [Act.put, List.setIfInBounds_toArray, List.set_cons_zero, List.set_cons_succ]))
      refine wpSeq_do (List.getElem?_toArray.trans rfl) (fun K hK => ?_)
      go_simp
      refine (HM.out w3).mono ?_
      rintro e w4 ⟨rfl, hb4⟩
      have HB4 := Lib.hid (show Below W1.heap.size W1 w4 from HB3.out.trans (hb4.mono HB3.out.size))
      refine hK _ _ (HF1.out w4 HB4.out).1 ?_
      clear hK K hb4
      refine wpSeq_nil ?_
      simp only [Exit.then]
      have Hr := Lib.hid (show Below wr.heap.size wr w4 from HNE.out ▸ (HF1.out w4 HB4.out).2)
      have H3 := Lib.hid (Hb.out.trans (Hr.out.mono Hb.out.size))
      go_wp2_with fail
      have hf := tmK_facts (h := hOf H) (L := L) HP.out k
      have hpb := isP_bd HP.out
      have hput := iPut w.heap.size S p v (tmK p (hOf H) L k) (tmT p (hOf H) x) w4 (HS.out.below Hr.out) (HR.out.below Hr.out) H3.out.size HP.out hf.1 hf.2.1 (by rw [HTT.out]; exact isE_iff.2 (emod_bd hpb.1)) (by omega) HV2.out
      rw [HTT.out] at hput
      refine hput.mono ?_
      rintro e w5 hP4
      rw [← HTT.out] at hP4
      have hlow := hP4.low (HR.out.below Hr.out) hSB H3.out.size
      obtain ⟨rfl, v', hS', hR', hv', _, _⟩ := hP4
      rw [HXK.out] at hR'
      have HQ := Lib.hid (And.intro hS' (And.intro hR' (And.intro hv' (H3.out.trans hlow))))
      clear hS' hR' hv' hlow hf hpb
      go_wp2_with fail
      go_roundw
      case rel => exact ⟨k + 1, v', by omega, by go_num, HQ.out.1, HQ.out.2.1, HQ.out.2.2.1, HQ.out.2.2.2⟩
      case measure => simp [intOf]; omega
    · have hkl : k = L.length := by omega
      subst hkl
      have hf := tmK_facts (h := hOf H) (L := L) HP.out L.length
      have hown := hR.own (by omega)
      rw [tmK_all HP.out (validB_srt HV.out)] at hown
      obtain ⟨hl2, ao, cap2, rfl, _⟩ := hown.trms
      have HO := Lib.hid hown
      have HS := Lib.hid hS
      have Hb := Lib.hid hb
      have HVV := Lib.hid (tm_valid (h := hOf H) HP.out HV.out)
      clear hown hS hb hR hf hv
      go_wp2_with fail
      refine (iPolyOf S p ao cap2 (tmL p (hOf H) L) _ HS.out HO.out.trms).mono ?_
      rintro e w5 ⟨rfl, hb5⟩
      rw [HVV.out, HP.out]
      have H5 := Lib.hid (And.intro (HO.out.below hb5) (Hb.out.trans (hb5.mono Hb.out.size)))
      clear hb5
      go_wp2_with fail
      refine bodyPost_ret (v := .tuple #[.slice ao (tmL p (hOf H) L).length cap2, .bool true]) (by simp [results, Try.results173, go_sem]) rfl ⟨_, rfl, H5.out.1, H5.out.2⟩
set_option maxHeartbeats 4000000 in
theorem iTimesS_nil (p : Int) (b : Option Addr) (cap : Nat) (m0 m1 : Nat) (w : World) (hp : isP p = true) :
    Calls Try.prog 173 #[.int .i64 p, .slice b 0 cap, .func (.func 178) #[] #[.pointer (some ⟨m0, 0, none⟩), .pointer (some ⟨m1, 0, none⟩)]] w (GivesPB [] true w) := by
  have HB := Lib.hid (show ∀ w', Calls Try.prog 20 #[.int .i64 p, .slice b 0 cap] w' fun e w'' => e = .returned (.bool true) ∧ Below w'.heap.size w' w'' from
    fun w' => (iPolyValid p _ [] w' ⟨by simp, _, cap, rfl, .inl rfl⟩).mono fun e w'' h => by rw [hp] at h; exact h)
  have HP := Lib.hid hp
  clear hp
  go_enter Try.func173, Try.ntmps173
  go_wp2_with fail
  refine (HB.out _).mono ?_
  rintro e w1 ⟨rfl, hb1⟩
  have H1 := Lib.hid hb1
  clear hb1
  go_wp2_with fail
  obtain ⟨W, hW⟩ : ∃ W, W = w1.alloc (Obj.cells #[.int .i64 p, .slice none 0 0] 114) := ⟨_, rfl⟩
  have HW := Lib.hid (show SumW W w1.heap.size p (.slice none 0 0) ∧ Below w.heap.size w W by
    have h1 := H1.out.size
    rw [hW]
    refine ⟨⟨by simp [go_sem], by simp [go_sem], World.frozen?_alloc_at _ _ _ 0 rfl, World.frozen?_alloc_at _ _ _ 1 rfl, by simp⟩, Below.alloc H1.out h1 _⟩)
  rw [← hW]
  clear hW
  go_loop [19] (fun i => i = .int .i64 0) (fun _ => 0)
  case atStart => rfl
  case round =>
    obtain rfl := hrel
    go_wp2_with fail
    refine (iPolyOf w1.heap.size p none 0 [] _ HW.out.1 ⟨by simp, _, 0, rfl, .inl rfl⟩).mono ?_
    rintro e w5 ⟨rfl, hb5⟩
    rw [validB_nil, HP.out]
    have H5 := Lib.hid (HW.out.2.trans (hb5.mono HW.out.2.size))
    clear hb5
    go_wp2_with fail
    refine bodyPost_ret (v := .tuple #[.slice none 0 0, .bool true]) (by simp [results, Try.results173, go_sem]) rfl ⟨_, rfl, ⟨by simp, none, 0, rfl, .inl rfl⟩, H5.out⟩
set_option maxHeartbeats 4000000 in
theorem iTimesS_no (p : Int) (f : Value) (L : List Trm) (m0 m1 : Nat) (w : World) (h : Trms w f L) (hn : (isP p && validB p L) = false) :
    Calls Try.prog 173 #[.int .i64 p, f, .func (.func 178) #[] #[.pointer (some ⟨m0, 0, none⟩), .pointer (some ⟨m1, 0, none⟩)]] w (GivesPB [] false w) := by
  have HB := Lib.hid (show Calls Try.prog 20 #[.int .i64 p, f] w fun e w'' => e = .returned (.bool false) ∧ Below w.heap.size w w'' from
    (iPolyValid p f L w h).mono fun e w'' h => by rw [hn] at h; exact h)
  clear h hn
  go_enter Try.func173, Try.ntmps173
  go_wp2_with fail
  refine HB.out.mono ?_
  rintro e w1 ⟨rfl, hb1⟩
  go_wp2_with fail
  refine bodyPost_ret (v := .tuple #[.slice none 0 0, .bool false]) (by simp [results, Try.results173, go_sem]) rfl ⟨_, rfl, ⟨by simp, none, 0, rfl, .inl rfl⟩, hb1⟩
theorem iTimesS (p : Int) (f : Value) (L : List Trm) (H : Int → Int) (m0 m1 : Nat) (w : World) (h : Trms w f L)
    (hH : isP p = true → ∀ w', Below w.heap.size w w' → ∀ d, 0 ≤ d → d ≤ 27 → Calls Try.prog 178 #[.int .i64 d, .pointer (some ⟨m0, 0, none⟩), .pointer (some ⟨m1, 0, none⟩)] w' fun e w'' => e = .returned (.int .i64 (H d)) ∧ Below w'.heap.size w' w'')
    (hE : isP p = true → ∀ d, 0 ≤ d → d ≤ 27 → isE p (H d) = true) :
    Calls Try.prog 173 #[.int .i64 p, f, .func (.func 178) #[] #[.pointer (some ⟨m0, 0, none⟩), .pointer (some ⟨m1, 0, none⟩)]] w (GivesPB (if (isP p && validB p L) = true then tmL p (hOf H) L else []) (isP p && validB p L) w) := by
  cases hn : isP p && validB p L
  · exact iTimesS_no p f L m0 m1 w h hn
  · have hn2 := hn
    simp only [Bool.and_eq_true] at hn2
    obtain ⟨hl, a, cap, rfl, h2⟩ := h
    rcases h2 with rfl | ⟨g, off, rfl, hg, hc⟩
    · exact iTimesS_nil p a cap m0 m1 w hn2.1
    · exact iTimesS_some p g off cap L H m0 m1 w hn2.1 hn2.2 hg hc (hH hn2.1) (hE hn2.1)
set_option maxHeartbeats 4000000 in
theorem iCloE (p d : Int) (m0 : Nat) (w : World) (hp : isP p = true) (h : w.cell? ⟨m0, 0, none⟩ = some (.int .i64 p)) :
    Calls Try.prog 174 #[.int .i64 d, .pointer (some ⟨m0, 0, none⟩)] w fun e w'' => e = .returned (.int .i64 (d % p)) ∧ Below w.heap.size w w'' := by
  have HR := Lib.hid (fun w => iRed p d w hp)
  clear hp
  go_enter Try.func174, Try.ntmps174
  go_wp2_with (go_at_call 80; refine (HR.out _).mono ?_; rintro e w2 ⟨rfl, rfl⟩)
  go_ret
  exact ⟨rfl, Below.refl _ _⟩
set_option maxHeartbeats 4000000 in
theorem iEulerPoly (p : Int) (f : Value) (L : List Trm) (w : World) (h : Trms w f L) :
    Calls Try.prog 77 #[.int .i64 p, f] w (GivesPB (eulV p L) (isP p && validB p L) w) := by
  have hb1 : Below w.heap.size w (w.alloc (Obj.cells #[.int .i64 p] 3)) := Below.alloc (Below.refl _ _) (Nat.le_refl _) _
  have HT := Lib.hid (iTimesE p f L (fun d => d % p) w.heap.size (w.alloc (Obj.cells #[.int .i64 p] 3)) (h.below hb1)
    (fun hp w' hb d _ _ => iCloE p d w.heap.size w' hp (by rw [hb.cell (p := ⟨w.heap.size, 0, none⟩) (by simp)]; simp [go_sem]))
    (fun hp d _ _ => isE_mod hp))
  have HE := Lib.hid (show (if (isP p && validB p L) = true then tmL p (hOf fun d => d % p) L else []) = eulV p L by
    unfold eulV
    rw [tm_same fun x _ => ?_]
    show x.t * (degT x % p) % p = x.t * degT x % p
    rw [Int.mul_emod, Int.emod_emod_of_dvd _ (Int.dvd_refl p), ← Int.mul_emod])
  rw [HE.out] at HT
  clear HE
  obtain ⟨R, hR⟩ : ∃ R, R = eulV p L := ⟨_, rfl⟩
  obtain ⟨b, hbq⟩ : ∃ b, b = (isP p && validB p L) := ⟨_, rfl⟩
  rw [← hR, ← hbq] at HT ⊢
  have Hb := Lib.hid hb1
  clear h hR hbq hb1
  go_enter Try.func77, Try.ntmps77
  go_wp2_with fail
  refine HT.out.mono ?_
  rintro e w2 ⟨v, rfl, ho, hb2⟩
  have H2 := Lib.hid (And.intro ho (Hb.out.trans (hb2.mono (by simp))))
  clear ho hb2
  go_wp2_with fail
  refine bodyPost_ret (v := .tuple #[v, .bool b]) (by simp [results, Try.results77, go_sem]) rfl ⟨_, rfl, ownT_base H2.out.1 (by simp), H2.out.2⟩
set_option maxHeartbeats 4000000 in
theorem iCloS (p a d : Int) (m0 m1 : Nat) (w : World) (hp : isP p = true) (ha : isE p a = true) (hd : 0 ≤ d ∧ d ≤ 27) (h : w.cell? ⟨m0, 0, none⟩ = some (.int .i64 p)) (h2 : w.cell? ⟨m1, 0, none⟩ = some (.int .i64 a)) :
    Calls Try.prog 178 #[.int .i64 d, .pointer (some ⟨m0, 0, none⟩), .pointer (some ⟨m1, 0, none⟩)] w fun e w'' => e = .returned (.int .i64 (a ^ d.toNat % p)) ∧ Below w.heap.size w w'' := by
  have HR := Lib.hid (fun w => by
    have := iPowerIn p a d (by omega) w
    rw [show powV p a d = a ^ d.toNat % p by unfold powV; rw [if_pos ⟨by simp [isE1, hp, ha], hd.1⟩]] at this
    exact this)
  clear hp ha hd
  go_enter Try.func178, Try.ntmps178
  go_wp2_with (go_at_call 85; refine (HR.out _).mono ?_; rintro e w2 ⟨rfl, hb2⟩)
  go_ret
  exact ⟨rfl, hb2⟩
set_option maxRecDepth 100000 in
set_option maxHeartbeats 4000000 in
theorem iScaleUnknowns (p : Int) (f : Value) (L : List Trm) (a : Int) (w : World) (h : Trms w f L) :
    Calls Try.prog 82 #[.int .i64 p, f, .int .i64 a] w (GivesPB (scuV p a L) ((isP p && validB p L) && isE p a) w) := by
  obtain ⟨W, hW⟩ : ∃ W, W = ((w.alloc (Obj.cells #[.int .i64 p] 3)).alloc (Obj.cells #[.int .i64 a] 3)).alloc (Obj.cells #[.int .i64 a] 3) := ⟨_, rfl⟩
  have hbW : Below w.heap.size w W := by rw [hW]; exact Below.alloc (Below.alloc (Below.alloc (Below.refl _ _) (Nat.le_refl _) _) (by simp) _) (by simp; omega) _
  have c0 : W.cell? ⟨w.heap.size, 0, none⟩ = some (.int .i64 p) := by rw [hW]; simp [go_sem]
  have c1 : W.cell? ⟨w.heap.size + 1, 0, none⟩ = some (.int .i64 a) := by rw [hW]; simp [go_sem]
  have c2 : W.cell? ⟨w.heap.size + 2, 0, none⟩ = some (.int .i64 a) := by rw [hW]; simp [go_sem]
  have hs : w.heap.size + 2 < W.heap.size := by rw [hW]; simp
  have HA := Lib.hid (iAE1 p a (w.heap.size + 2) W c2)
  have HW := Lib.hid hW
  cases hq : isE1 p a
  · rw [hq] at HA
    have e1 : ((isP p && validB p L) && isE p a) = false := by
      cases h1 : isP p
      · simp
      · have : isE p a = false := by unfold isE1 at hq; rw [h1] at hq; simpa using hq
        rw [this]; simp
    have e2 : scuV p a L = [] := by unfold scuV; rw [if_neg (by rw [e1]; simp)]
    rw [e1, e2]
    have Hb := Lib.hid hbW
    clear h hW hbW c0 c1 c2 hs hq e1 e2
    go_enter Try.func82, Try.ntmps82
    go_wp2_with fail
    rw [← HW.out]
    refine HA.out.mono ?_
    rintro e w2 ⟨rfl, rfl⟩
    go_wp2_with fail
    refine bodyPost_ret (v := .tuple #[.slice none 0 0, .bool false]) (by simp [results, Try.results82, go_sem]) rfl ⟨_, rfl, ⟨by simp, none, 0, rfl, .inl rfl⟩, Hb.out⟩
  · rw [hq] at HA
    have hpa : isP p = true ∧ isE p a = true := by unfold isE1 at hq; simpa using hq
    have e1 : ((isP p && validB p L) && isE p a) = (isP p && validB p L) := by rw [hpa.2, Bool.and_true]
    have e2 : scuV p a L = if (isP p && validB p L) = true then tmL p (hOf fun d => a ^ d.toNat % p) L else [] := by unfold scuV; rw [e1]; rfl
    rw [e1, e2]
    have HT := Lib.hid (iTimesS p f L (fun d => a ^ d.toNat % p) w.heap.size (w.heap.size + 1) W (h.below hbW)
      (fun hp w' hb d h0 h1 => iCloS p a d w.heap.size (w.heap.size + 1) w' hp hpa.2 ⟨h0, h1⟩ (by rw [hb.cell (p := ⟨w.heap.size, 0, none⟩) (by show w.heap.size < _; omega)]; exact c0) (by rw [hb.cell (p := ⟨w.heap.size + 1, 0, none⟩) (by show w.heap.size + 1 < _; omega)]; exact c1))
      (fun hp d _ _ => isE_mod hp))
    obtain ⟨R, hR⟩ : ∃ R, R = (if (isP p && validB p L) = true then tmL p (hOf fun d => a ^ d.toNat % p) L else []) := ⟨_, rfl⟩
    obtain ⟨b, hbq⟩ : ∃ b, b = (isP p && validB p L) := ⟨_, rfl⟩
    rw [← hR, ← hbq] at HT
    rw [← hR, ← hbq]
    have Hb := Lib.hid hbW
    have HC := Lib.hid c0
    clear h hR hbq hW c2 hq hpa e1 e2 hbW c1 c0
    go_enter Try.func82, Try.ntmps82
    go_wp2_with fail
    rw [← HW.out]
    refine HA.out.mono ?_
    rintro e w2 ⟨rfl, rfl⟩
    have c0 := HC.out
    go_wp2_with fail
    refine HT.out.mono ?_
    rintro e w2 ⟨v, rfl, ho, hb2⟩
    have H2 := Lib.hid (And.intro ho (Hb.out.trans (hb2.mono Hb.out.size)))
    clear ho hb2
    go_wp2_with fail
    refine bodyPost_ret (v := .tuple #[v, .bool b]) (by simp [results, Try.results82, go_sem]) rfl ⟨_, rfl, ownT_base H2.out.1 Hb.out.size, H2.out.2⟩
end Go.Proofs.Ytlidplmpglpkgaa
