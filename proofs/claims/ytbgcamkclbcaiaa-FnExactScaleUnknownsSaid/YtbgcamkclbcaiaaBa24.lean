/-
  The program's MulCut and CutPoly. Conditions: what the slices hold is known.
  The walk of the exact law of CutPoly. Conditions: none but that the slices read as lists.
  The walk of the exact law of MulCut. Conditions: none but that the slices read as lists.
  Terms times what their degrees have, of the model: EulerPoly and ScaleUnknowns. Conditions: what the slice holds is known.
-/
import Derived.Test.YtbgcamkclbcaiaaBa23
import Derived.Test.YtbgcamkclbcaiaaBa15
import Derived.Test.YtbgcamkclbcaiaaBa21
import Derived.Test.YtbgcamkclbcaiaaBa3
import Derived.Test.YtbgcamkclbcaiaaBa17
namespace Go.Proofs.Ytbgcamkclbcaiaa
open Go.RowKit
/-- the products that come first: of the first k terms with all, and of the next one with the first j -/
def prodF (p : Int) (L M : List Trm) (k j : Nat) : List Trm := prodT p (L.take k) M ++ (M.take j).map (mulTT p (L.getD k default))
/-- the sum of those up to a degree -/
def mcK (p n : Int) (L M : List Trm) (k j : Nat) : List Trm := addAll p (cutL n (prodF p L M k j)) []
theorem cut_snoc (n : Int) (L : List Trm) (x : Trm) : cutL n (L ++ [x]) = if degT x ≤ n then cutL n L ++ [x] else cutL n L := by
  unfold cutL fl
  rw [List.filter_append]
  by_cases h : degT x ≤ n
  · rw [if_pos h, List.filter_cons_of_pos (by unfold upB; rw [decide_eq_true_eq]; exact h)]; rfl
  · rw [if_neg h, List.filter_cons_of_neg (by unfold upB; rw [decide_eq_true_eq]; exact h)]; simp
theorem prodF_next {p : Int} {L M : List Trm} {k j : Nat} (hj : j < M.length) : prodF p L M k (j + 1) = prodF p L M k j ++ [mulTT p (L.getD k default) (M.getD j default)] := by
  unfold prodF
  rw [List.take_succ_eq_append_getElem hj, List.map_append, List.map_singleton, ← List.append_assoc]
  simp [List.getD_eq_getElem?_getD, hj]
theorem mcK_next {p n : Int} {L M : List Trm} {k j : Nat} (hj : j < M.length) : mcK p n L M k (j + 1) = if degT (mulTT p (L.getD k default) (M.getD j default)) ≤ n then addT p (mulTT p (L.getD k default) (M.getD j default)) (mcK p n L M k j) else mcK p n L M k j := by
  unfold mcK
  rw [prodF_next hj, cut_snoc]
  split
  · rw [addAll_snoc]
  · rfl
theorem mcK_zero (p n : Int) (L M : List Trm) : mcK p n L M 0 0 = [] := by simp [mcK, prodF, prodT, cutL, fl, addAll]
theorem mcK_row {p n : Int} {L M : List Trm} {k : Nat} (hk : k < L.length) : mcK p n L M k M.length = mcK p n L M (k + 1) 0 := by
  unfold mcK prodF prodT
  rw [List.take_succ_eq_append_getElem hk, List.flatMap_append, List.take_length]
  simp [List.getD_eq_getElem?_getD, hk]
theorem mcK_end {p n : Int} (hp : isP p = true) (L M : List Trm) : mcK p n L M L.length 0 = mcR p n L M := by
  unfold mcK mcR prodF
  rw [cut_prod hp]
  simp
theorem mcK_facts {p n : Int} {L M : List Trm} (hp : isP p = true) {k j : Nat} (hk : k ≤ L.length) (hj : j ≤ M.length) (hL : L.length ≤ 60) (hM : M.length ≤ 60) : Srt (mcK p n L M k j) ∧ Els p (mcK p n L M k j) ∧ (mcK p n L M k j).length ≤ 3660 := by
  have hb := isP_bd hp
  have e : mcK p n L M k j = cutL n (prodK p L M k j) := by
    unfold mcK prodK
    rw [show cutL n (addAll p (prodT p (L.take k) M ++ (M.take j).map (mulTT p (L.getD k default))) []) = _ from fl_addAll (by omega) _ (fun x hx => by
      rcases List.mem_append.1 hx with h | h
      · exact prod_bd (by omega) x h
      · obtain ⟨z, _, rfl⟩ := List.mem_map.1 h
        exact emod_bd hb.1)]
    rfl
  have h := prodK_facts hp hk hj hL hM
  rw [e]
  exact ⟨fl_srt h.1, fl_els h.2.1, Nat.le_trans (List.length_filter_le _ _) h.2.2⟩
theorem iDegS (x : Trm) (w : World) (h : sml x) :
    Calls Try.prog 82 #[.agg #[.int .i64 x.a, .int .i64 x.b, .int .i64 x.c, .int .i64 x.t]] w fun e w' => e = .returned (.int .i64 (degT x)) ∧ Below w.heap.size w w' := by
  obtain ⟨⟨a0, a1⟩, ⟨b0, b1⟩, ⟨c0, c1⟩⟩ := h
  have w1 : IntKind.i64.wrap (x.a + x.b) = x.a + x.b := IntWalk.i64_in _ (by omega)
  have w2 : IntKind.i64.wrap (x.a + x.b + x.c) = x.a + x.b + x.c := IntWalk.i64_in _ (by omega)
  go_enter Try.func82, Try.ntmps82
  go_wp2_with fail
  go_ret
  exact ⟨rfl, by repeat (first | exact Below.refl _ _ | apply Below.drew | apply below_drewN | (refine Below.setCell ?_ (by simp <;> omega) _) | (refine Below.alloc ?_ (by simp <;> omega) _))⟩
set_option maxRecDepth 100000 in
set_option maxHeartbeats 4000000 in
theorem iMulCut_no (p : Int) (fv gv : Value) (L M : List Trm) (n0 : Int) (w : World) (hL : Trms w fv L) (hM : Trms w gv M) (hr : (okB p (fv, L) && okB p (gv, M)) = false) :
    Calls Try.prog 27 #[.int .i64 p, fv, gv, .int .i64 n0] w (GivesPB [] false w) := by
  have HB := Lib.hid (iBothAt p fv gv L M w hL hM false hr)
  clear hr
  obtain ⟨_, a, cap, rfl, _⟩ := hL
  obtain ⟨_, a2, cap2, rfl, _⟩ := hM
  go_enter Try.func27, Try.ntmps27
  go_wp2_with (go_at_call 80; refine HB.out.mono ?_; rintro e w2 ⟨rfl, hb2⟩)
  refine bodyPost_ret (v := .tuple #[.slice none 0 0, .bool false]) (by simp [results, Try.results27, go_sem]) rfl ⟨_, rfl, (Row.nil w2 w.heap.size).own (by simp), hb2⟩
set_option maxRecDepth 100000 in
set_option maxHeartbeats 8000000 in
theorem iMulCut_yes (p : Int) (fv gv : Value) (L M : List Trm) (n0 : Int) (w : World) (hL : Trms w fv L) (hM : Trms w gv M) (hp : isP p = true) (hVL : validB p L = true) (hVM : validB p M = true) :
    Calls Try.prog 27 #[.int .i64 p, fv, gv, .int .i64 n0] w (GivesPB (if validB p (mcR p n0 L M) = true then mcR p n0 L M else []) (validB p (mcR p n0 L M)) w) := by
  have HB := Lib.hid (iBothAt p fv gv L M w hL hM true (by unfold okB; dsimp only; rw [hp, hVL, hVM]; rfl))
  have HP := Lib.hid hp
  have HVL := Lib.hid hVL
  have HVM := Lib.hid hVM
  have hl1 := validB_len hVL
  have hm1 := validB_len hVM
  obtain ⟨m0, a2, cap2, rfl, m1⟩ := hM
  have HM := Lib.hid (show Trms w (.slice a2 M.length cap2) M from ⟨m0, a2, cap2, rfl, m1⟩)
  obtain ⟨l0, a, cap, rfl, l1⟩ := hL
  have HL := Lib.hid (show Trms w (.slice a L.length cap) L from ⟨l0, a, cap, rfl, l1⟩)
  obtain ⟨R, hRe⟩ : ∃ R, R = mcR p n0 L M := ⟨_, rfl⟩
  rw [← hRe]
  obtain ⟨b, hbe⟩ : ∃ b, b = validB p R := ⟨_, rfl⟩
  rw [← hbe]
  obtain ⟨R2, hR2⟩ : ∃ R2, R2 = (if b = true then R else []) := ⟨_, rfl⟩
  rw [← hR2]
  have HRE := Lib.hid hRe
  have HBE := Lib.hid hbe
  have HR2 := Lib.hid hR2
  clear m0 m1 l0 l1 hp hVL hVM hRe hbe hR2
  go_enter Try.func27, Try.ntmps27
  go_wp2_with (go_at_call 80; refine HB.out.mono ?_; rintro e w2 ⟨rfl, hb2⟩)
  obtain ⟨W, hW⟩ : ∃ W, W = w2.alloc (Obj.cells #[.int .i64 p, .slice none 0 0] 93) := ⟨_, rfl⟩
  have HW := Lib.hid (show SumW W w2.heap.size p (.slice none 0 0) ∧ Row W w.heap.size (.slice none 0 0) (mcK p n0 L M 0 0) ∧ Value.ownBlock (.slice none 0 0) ≠ some w2.heap.size ∧ Below w.heap.size w W by
    rw [hW, mcK_zero]
    exact ⟨⟨by simp [go_sem], by simp [go_sem], World.frozen?_alloc_at _ _ _ 0 rfl, World.frozen?_alloc_at _ _ _ 1 rfl, by simp⟩, Row.nil _ _, by simp [Value.ownBlock], Below.alloc hb2 hb2.size _⟩)
  rw [← hW]
  obtain ⟨S, hSe⟩ : ∃ S, S = w2.heap.size := ⟨_, rfl⟩
  have hSB : w.heap.size ≤ S := by rw [hSe]; exact hb2.size
  rw [← hSe] at HW ⊢
  clear hSe hW hb2
  go_loopw [26] (fun i wr => ∃ (k : Nat) (v : Value), k ≤ L.length ∧ i = .int .i64 k ∧ SumW wr S p v ∧ Row wr w.heap.size v (mcK p n0 L M k 0) ∧ v.ownBlock ≠ some S ∧ Below w.heap.size w wr) (fun i _ => L.length - (intOf i).toNat)
  case atStart => exact ⟨0, _, by omega, rfl, HW.out⟩
  case round =>
    clear HW
    obtain ⟨k, v, hk, rfl, hS, hR, hv, hb⟩ := hrel
    by_cases hlt : k < L.length
    · have hltp : (k : Int) < (L.length : Int) := by omega
      have hk0 : (0 : Int) ≤ (k : Int) := by omega
      obtain ⟨x, hx⟩ : ∃ x, x = L.getD k default := ⟨_, rfl⟩
      have HX := Lib.hid hx
      have HEX := Lib.hid (validB_el HVL.out hlt hx)
      have HPX := Lib.hid (validB_pows HVL.out hlt hx)
      obtain ⟨g, off, rfl, hg, hc⟩ : ∃ g off, a = some ⟨g, off, none⟩ ∧ g < w.heap.size ∧ ∀ j : Nat, j < L.length → TAt w g (off + j * 4) (L.getD j default) := by
        obtain ⟨_, a', cap', he, h⟩ := HL.out
        injection he with e1 e2 e3
        subst e1
        rcases h with h | h
        · rw [h] at hlt; simp at hlt
        · exact h
      obtain ⟨b0, b1, b2, b3⟩ := (hc k hlt).below hb hg
      rw [← hx] at b0 b1 b2 b3
      have hn : v.ownBlock ≠ some wr.heap.size := fun e => by have := (World.ownsRow.lt hR _ e).2; omega
      have HIN := Lib.hid (show ∀ W, W = wr.alloc (Obj.cells #[.int .i64 x.a, .int .i64 x.b, .int .i64 x.c, .int .i64 x.t] 79) → SumW W S p v ∧ Row W w.heap.size v (mcK p n0 L M k 0) ∧ v.ownBlock ≠ some S ∧ v.ownBlock ≠ some wr.heap.size ∧ TAt W wr.heap.size 0 x ∧ wr.heap.size < W.heap.size ∧ Below w.heap.size w W from fun W hW => by
        have hb2 : Below wr.heap.size wr W := by rw [hW]; exact Below.alloc (Below.refl _ _) (Nat.le_refl _) _
        exact ⟨hS.below hb2, hR.below hb2, hv, hn, by rw [hW]; refine ⟨?_, ?_, ?_, ?_⟩ <;> simp [go_sem], by rw [hW]; simp, hb.trans (hb2.mono hb.size)⟩)
      have hSn : S < wr.heap.size := hS.sz
      clear hx hS hR hv hb hc hn
      go_wp2_with fail
      obtain ⟨W1, hW1⟩ : ∃ W, W = wr.alloc (Obj.cells #[.int .i64 x.a, .int .i64 x.b, .int .i64 x.c, .int .i64 x.t] 79) := ⟨_, rfl⟩
      have HI1 := Lib.hid (HIN.out W1 hW1)
      rw [← hW1]
      obtain ⟨n, hne⟩ : ∃ n, n = wr.heap.size := ⟨_, rfl⟩
      rw [← hne] at HI1 hSn ⊢
      clear hW1 hne HIN b0 b1 b2 b3
      go_loopw [32] (fun i wr => ∃ (j : Nat) (v : Value), j ≤ M.length ∧ i = .int .i64 j ∧ SumW wr S p v ∧ Row wr w.heap.size v (mcK p n0 L M k j) ∧ v.ownBlock ≠ some S ∧ v.ownBlock ≠ some n ∧ TAt wr n 0 x ∧ n < wr.heap.size ∧ Below w.heap.size w wr) (fun i _ => M.length - (intOf i).toNat)
      case atStart => exact ⟨0, _, by omega, rfl, HI1.out⟩
      case round =>
        clear HI1
        obtain ⟨j, v, hj, rfl, hS, hR, hv, hvn, hT, hnw, hb⟩ := hrel
        by_cases hjt : j < M.length
        · have hjtp : (j : Int) < (M.length : Int) := by omega
          have hj0 : (0 : Int) ≤ (j : Int) := by omega
          obtain ⟨y, hy⟩ : ∃ y, y = M.getD j default := ⟨_, rfl⟩
          have hely := validB_el HVM.out hjt hy
          have hpy := validB_pows HVM.out hjt hy
          obtain ⟨g2, off2, rfl, hg2, hc⟩ : ∃ g off, a2 = some ⟨g, off, none⟩ ∧ g < w.heap.size ∧ ∀ j : Nat, j < M.length → TAt w g (off + j * 4) (M.getD j default) := by
            obtain ⟨_, a', cap', he, h⟩ := HM.out
            injection he with e1 e2 e3
            subst e1
            rcases h with h | h
            · rw [h] at hjt; simp at hjt
            · exact h
          obtain ⟨b0, b1, b2, b3⟩ := (hc j hjt).below hb hg2
          rw [← hy] at b0 b1 b2 b3
          have hex := HEX.out
          have HMT := Lib.hid (fun w => by
            have := iMulT p x y w HPX.out hpy
            rw [mulV_is HP.out (isE_iff.2 (by omega)) (isE_iff.2 (by omega))] at this
            exact (show Calls _ _ _ _ (fun e w' => e = .returned (.agg #[.int .i64 (mulTT p x y).a, .int .i64 (mulTT p x y).b, .int .i64 (mulTT p x y).c, .int .i64 (mulTT p x y).t]) ∧ _) from this))
          have HXK := Lib.hid (show mcK p n0 L M k (j + 1) = if degT (mulTT p x y) ≤ n0 then addT p (mulTT p x y) (mcK p n0 L M k j) else mcK p n0 L M k j by rw [HX.out, hy, mcK_next hjt])
          have hsz : sml (mulTT p x y) := by
            have h1 := HPX.out
            unfold sml mulTT
            show (0 ≤ x.a + y.a ∧ x.a + y.a ≤ 18) ∧ (0 ≤ x.b + y.b ∧ x.b + y.b ≤ 18) ∧ (0 ≤ x.c + y.c ∧ x.c + y.c ≤ 18)
            omega
          have HDG := Lib.hid (fun w => iDegS (mulTT p x y) w hsz)
          obtain ⟨z, hz⟩ : ∃ z, z = mulTT p x y := ⟨_, rfl⟩
          have HZ := Lib.hid hz
          rw [← hz] at HXK HDG HMT
          have HZT := Lib.hid (show (0 ≤ z.t ∧ z.t < p) by rw [hz]; exact emod_bd (isP_bd HP.out).1)
          have HS := Lib.hid hS
          have HR := Lib.hid hR
          have HV2 := Lib.hid hv
          have HV3 := Lib.hid hvn
          have HT := Lib.hid hT
          have Hb := Lib.hid hb
          have Ha := Lib.hid (Below.alloc (Below.refl wr.heap.size wr) (Nat.le_refl _) (Obj.cells #[.int .i64 y.a, .int .i64 y.b, .int .i64 y.c, .int .i64 y.t] 79))
          obtain ⟨t0, t1, t2, t3⟩ := hT
          simp only [Nat.zero_add] at t0 t1 t2 t3
          clear hy hS hR hv hvn hb hc hely hpy hex hz hsz
          go_wp2_with fail
          refine (HMT.out _).mono ?_
          rintro e w3 ⟨rfl, hb3⟩
          have Hr := Lib.hid (Ha.out.trans (hb3.mono Ha.out.size))
          have H3 := Lib.hid (Hb.out.trans (Hr.out.mono Hb.out.size))
          clear hb3
          go_wp2_with fail
          refine (HDG.out _).mono ?_
          rintro e w4 ⟨rfl, hb4⟩
          have b4 : Below w3.heap.size w3 w4 := (Below.alloc (Below.refl _ _) (Nat.le_refl _) _).trans (hb4.mono (by simp))
          have hz4 : TAt w4 w3.heap.size 0 z := TAt.below (B := _) (by refine ⟨?_, ?_, ?_, ?_⟩ <;> simp [go_sem]) hb4 (by simp)
          replace Hr := Lib.hid (Hr.out.trans (b4.mono Hr.out.size))
          replace H3 := Lib.hid (Hb.out.trans (Hr.out.mono Hb.out.size))
          obtain ⟨q0, q1, q2, q3⟩ := hz4
          simp only [Nat.zero_add] at q0 q1 q2 q3
          clear hb4 b4
          by_cases hd : degT z ≤ n0
          · have HXY := Lib.hid (show addT p z (mcK p n0 L M k j) = mcK p n0 L M k (j + 1) by rw [HXK.out, if_pos hd])
            go_wp2_with fail
            have hf := mcK_facts (p := p) (n := n0) HP.out (k := k) (j := j) hk hj hl1 hm1
            have hpb := isP_bd HP.out
            have hn3 : n < w4.heap.size := Nat.lt_of_lt_of_le hnw Hr.out.size
            refine (iPut w.heap.size S p v (mcK p n0 L M k j) z w4 (HS.out.below Hr.out) (HR.out.below Hr.out) H3.out.size HP.out hf.1 hf.2.1 (isE_iff.2 HZT.out) (by omega) HV2.out).mono ?_
            rintro e w5 hP4
            have hlow := hP4.low (HR.out.below Hr.out) hSB H3.out.size
            obtain ⟨rfl, v', hS', hR', hv', hk', hd'⟩ := hP4
            rw [HXY.out] at hR'
            have hTn : TAt w5 n 0 x := TAt.kept (HT.out.below Hr.out hnw) hk' hn3 (fun h => by
              rcases h with h | h
              · omega
              · exact HV3.out h)
            have hvn' : v'.ownBlock ≠ some n := by
              rcases hd' with h | ⟨q, h, hq⟩
              · rw [h]; exact HV3.out
              · rw [h]; intro e; injection e with e; omega
            have HQ := Lib.hid (And.intro hS' (And.intro hR' (And.intro hv' (And.intro hvn' (And.intro hTn (And.intro (Nat.lt_of_lt_of_le hn3 hk'.size) (H3.out.trans hlow)))))))
            clear hS' hR' hv' hvn' hTn hlow hf hk' hd' t0 t1 t2 t3 q0 q1 q2 q3
            go_wp2_with fail
            go_roundw
            case rel => exact ⟨j + 1, v', by omega, by go_num, HQ.out⟩
            case measure => simp [intOf]; omega
          · have HXY := Lib.hid (show mcK p n0 L M k j = mcK p n0 L M k (j + 1) by rw [HXK.out, if_neg hd])
            have HQ := Lib.hid (And.intro (HS.out.below Hr.out) (And.intro (HXY.out ▸ HR.out.below Hr.out) (And.intro HV2.out (And.intro HV3.out (And.intro (HT.out.below Hr.out hnw) (And.intro (Nat.lt_of_lt_of_le hnw Hr.out.size) H3.out))))))
            clear t0 t1 t2 t3 q0 q1 q2 q3
            go_wp2_with fail
            go_roundw
            case rel => exact ⟨j + 1, v, by omega, by go_num, HQ.out⟩
            case measure => simp [intOf]; omega
        · have hjl : j = M.length := by omega
          subst hjl
          rw [mcK_row hlt] at hR
          have HQ := Lib.hid (And.intro hS (And.intro hR (And.intro hv hb)))
          clear hS hR hv hvn hT hb
          go_wp2_with fail
          go_roundw
          case rel => exact ⟨k + 1, v, by omega, by go_num, HQ.out⟩
          case measure => simp [intOf]; omega
    · have hkl : k = L.length := by omega
      subst hkl
      have hf := mcK_facts (p := p) (n := n0) HP.out (k := L.length) (j := 0) (Nat.le_refl _) (Nat.zero_le _) hl1 hm1
      have hown := hR.own (by omega)
      rw [mcK_end HP.out, ← HRE.out] at hown
      obtain ⟨hl2, ao, co, rfl, _⟩ := hown.trms
      have HO := Lib.hid hown
      have HS := Lib.hid hS
      have Hb := Lib.hid hb
      have HT := Lib.hid (iPolyOf S p ao co R wr hS hown.trms)
      rw [HP.out, ← HBE.out] at HT
      clear hown hS hb hR hf hv
      cases b
      · have hz : R2 = [] := by rw [HR2.out]; rfl
        subst hz
        go_wp2_with (go_at_call 84; refine HT.out.mono ?_; rintro e w5 ⟨rfl, hb5⟩)
        have H5 := Lib.hid (Hb.out.trans (hb5.mono Hb.out.size))
        refine bodyPost_ret (v := .tuple #[.slice none 0 0, .bool false]) (by simp [results, Try.results27, go_sem]) rfl ⟨_, rfl, (Row.nil _ w.heap.size).own (by simp), H5.out⟩
      · have hz : R2 = R := by rw [HR2.out]; rfl
        subst hz
        go_wp2_with (go_at_call 84; refine HT.out.mono ?_; rintro e w5 ⟨rfl, hb5⟩)
        have H5 := Lib.hid (And.intro (HO.out.below hb5) (Hb.out.trans (hb5.mono Hb.out.size)))
        refine bodyPost_ret (v := .tuple #[.slice ao R2.length co, .bool true]) (by simp [results, Try.results27, go_sem]) rfl ⟨_, rfl, H5.out.1, H5.out.2⟩
theorem iMulCut (p : Int) (f g : Value) (L M : List Trm) (k : Int) (w : World) (hL : Trms w f L) (hM : Trms w g M) :
    Calls Try.prog 27 #[.int .i64 p, f, g, .int .i64 k] w (GivesPB (mcL p k L M) (mcOk p k L M) w) := by
  cases h : ((isP p && validB p L) && (isP p && validB p M))
  · rw [(mcOk_no h).1, (mcOk_no h).2]
    exact iMulCut_no p f g L M k w hL hM h
  · rw [(mcOk_yes h).1, (mcOk_yes h).2]
    simp only [Bool.and_eq_true] at h
    exact iMulCut_yes p f g L M k w hL hM h.1.1 h.1.2 h.2.2
theorem one1_valid {p : Int} (hp : isP p = true) : validB p [one1] = true := by
  have hb := isP_bd hp
  refine validB_of (List.pairwise_singleton _ _) (fun y hy => ?_) (fun y hy => ?_) (by simp)
  · have : y = one1 := by simpa using hy
    subst this
    exact ⟨by decide, by show (1 : Int) < p; omega⟩
  · have : y = one1 := by simpa using hy
    subst this
    rfl
theorem cut_is (p k : Int) (L : List Trm) : mcL p k L [one1] = cutV p k L ∧ mcOk p k L [one1] = (isP p && validB p L) := by
  cases hp : isP p
  · have h := mcOk_no (p := p) (k := k) (L := L) (M := [one1]) (by rw [hp]; rfl)
    rw [h.1, h.2]
    unfold cutV
    rw [hp]
    exact ⟨rfl, rfl⟩
  · cases hV : validB p L
    · have h := mcOk_no (p := p) (k := k) (L := L) (M := [one1]) (by rw [hV]; simp)
      rw [h.1, h.2]
      unfold cutV
      rw [hp, hV]
      exact ⟨rfl, rfl⟩
    · have h := mcOk_yes (p := p) (k := k) (L := L) (M := [one1]) (by rw [hp, hV, one1_valid hp]; rfl)
      have e : mcR p k L [one1] = cutL k L := by
        unfold mcR
        rw [cut_prod hp, cut_one hp hV]
      have hv : validB p (cutL k L) = true := fl_valid hV
      rw [h.1, h.2, e, hv]
      unfold cutV
      rw [hp, hV]
      exact ⟨rfl, rfl⟩
set_option maxHeartbeats 4000000 in
theorem iCutPoly (p : Int) (f : Value) (L : List Trm) (k : Int) (w : World) (h : Trms w f L) :
    Calls Try.prog 23 #[.int .i64 p, f, .int .i64 k] w (GivesPB (cutV p k L) (isP p && validB p L) w) := by
  obtain ⟨W, hW⟩ : ∃ W, W = w.alloc (Obj.cells #[.int .i64 0, .int .i64 0, .int .i64 0, .int .i64 1] 79) := ⟨_, rfl⟩
  have hbW : Below w.heap.size w W := by rw [hW]; exact Below.alloc (Below.refl _ _) (Nat.le_refl _) _
  have HM := Lib.hid (iMulCut p f (.slice (some ⟨w.heap.size, 0, none⟩) 1 1) L [one1] k W (h.below hbW) ⟨by simp, _, 1, rfl, .inr ⟨w.heap.size, 0, rfl, by rw [hW]; simp, fun j hj => by
    have : j = 0 := by simpa using hj
    subst this
    rw [hW]
    refine ⟨?_, ?_, ?_, ?_⟩ <;> simp [go_sem, one1]⟩⟩)
  rw [(cut_is p k L).1, (cut_is p k L).2] at HM
  have HW := Lib.hid hW
  have Hb := Lib.hid hbW
  obtain ⟨R, hR⟩ : ∃ R, R = cutV p k L := ⟨_, rfl⟩
  obtain ⟨b, hb⟩ : ∃ b, b = (isP p && validB p L) := ⟨_, rfl⟩
  rw [← hR, ← hb] at HM ⊢
  clear h hW hbW hR hb
  go_enter Try.func23, Try.ntmps23
  go_wp2_with fail
  rw [← HW.out]
  refine HM.out.mono ?_
  rintro e w2 ⟨v, rfl, ho, hb2⟩
  have H2 := Lib.hid (And.intro ho (Hb.out.trans (hb2.mono Hb.out.size)))
  clear ho hb2
  go_wp2_with fail
  refine bodyPost_ret (v := .tuple #[v, .bool b]) (by simp [results, Try.results23, go_sem]) rfl ⟨_, rfl, ownT_base H2.out.1 Hb.out.size, H2.out.2⟩
end Go.Proofs.Ytbgcamkclbcaiaa
namespace Go.Proofs.Ytbgcamkclbcaiaa
open Go.RowKit
set_option maxRecDepth 100000 in
set_option maxHeartbeats 8000000 in
theorem xCutPoly_in (a0 : Int) (a1 : Option Addr) (L1 : List Trm) (c1 : Nat) (a2 : Int) (r0 : List Trm) (r1 : Bool) (w : World) (h1 : Trms w (.slice a1 L1.length c1) L1) (hl : L1.length ≤ 1048576)
    (hS : ∀ f1, ∀ w, Trms w f1 L1 → Calls Try.prog 22 #[.int .i64 a0, f1, .int .i64 a2] w fun e w' => ∃ u0, e = .returned (.tuple #[u0, .bool r1]) ∧ OwnTrms w' w.heap.size u0 r0 ∧ Below w.heap.size w w')
    (hI : ∀ f1, ∀ w, Trms w f1 L1 → Calls Try.prog 23 #[.int .i64 a0, f1, .int .i64 a2] w fun e w' => ∃ u0, e = .returned (.tuple #[u0, .bool r1]) ∧ OwnTrms w' w.heap.size u0 r0 ∧ Below w.heap.size w w') :
    Calls Try.prog 4 #[.int .i64 a0, .slice a1 L1.length c1, .int .i64 a2] w fun e w' => e = .returned (.bool true) ∧ Below w.heap.size w w' := by
  have m1 : (1048576 : Int) - L1.length ≥ 0 := by omega
  have HS1 := Lib.hid (fun w => szP_at a1 L1.length c1 (1048576) w (by omega) (by omega) (by omega))
  have Q1 := Lib.hid h1
  have n1 : (L1.length : Int) ≤ 1048576 := by omega
  clear h1
  have HSP := Lib.hid hS
  have HIM := Lib.hid hI
  clear hS hI
  have bb1 := bne_self2 r1
  go_enter Try.func4, Try.ntmps4
  go_wp2_with fail
  refine (HS1.out _).mono ?_
  rintro e w' ⟨rfl, rfl⟩
  have B := Lib.hid (Below.refl w.heap.size w)
  go_wp2_with fail
  refine (toP _ L1 _ (Q1.out.below B.out)).mono ?_
  rintro e W1 ⟨s1, rfl, ho, hb⟩
  have Z1 := Lib.hid hb.size
  replace B := Lib.hid (B.out.trans (hb.mono B.out.size))
  clear hb
  have S1 := Lib.hid ho.trms
  clear ho
  go_wp2_with fail
  refine (HSP.out _ _ S1.out).mono ?_
  rintro e W2 ⟨v0, rfl, hv0, hb⟩
  have Z2 := Lib.hid hb.size
  replace B := Lib.hid (B.out.trans (hb.mono B.out.size))
  replace S1 := Lib.hid (S1.out.below hb)
  clear hb
  clear S1
  have V0 := Lib.hid hv0.trms
  have z0 : (r0.length : Int) ≤ 1048576 := by have := hv0.1; omega
  clear hv0
  have X := Lib.hid (Below.refl W2.heap.size W2)
  go_wp2_with fail
  refine (toP _ L1 _ (Q1.out.below B.out)).mono ?_
  rintro e W3 ⟨x1, rfl, ho, hb⟩
  have Z3 := Lib.hid hb.size
  replace B := Lib.hid (B.out.trans (hb.mono B.out.size))
  replace X := Lib.hid (X.out.trans (hb.mono X.out.size))
  clear hb
  have O1 := Lib.hid ho
  clear ho
  have Y1 := Lib.hid (Below.refl W3.heap.size W3)
  go_wp2_with fail
  refine (HIM.out _ _ (O1.out.trms.below Y1.out)).mono ?_
  rintro e W4 ⟨g0, rfl, hg0, hb⟩
  have P1 := Lib.hid (show w.heap.size ≤ W2.heap.size ∧ W2.heap.size ≤ W2.heap.size ∧ W3.heap.size ≤ W3.heap.size by have := B.out.size; have := X.out.size; have := Z1.out; have := Z2.out; have := Z3.out; first | omega | (refine ⟨?_, ?_, ?_⟩ <;> omega))
  have PG := Lib.hid (show w.heap.size ≤ W3.heap.size ∧ W2.heap.size ≤ W3.heap.size by have := Z1.out; have := Z2.out; have := Z3.out; first | omega | (refine ⟨?_, ?_⟩ <;> omega))
  replace B := Lib.hid (B.out.trans (hb.mono B.out.size))
  replace X := Lib.hid (X.out.trans (hb.mono X.out.size))
  replace Y1 := Lib.hid (Y1.out.trans (hb.mono Y1.out.size))
  clear hb
  have G0 := Lib.hid hg0
  clear hg0
  go_wp2_with fail
  refine (eqP g0 v0 r0 _ G0.out.trms (V0.out.below X.out)).mono ?_
  rintro e W5 ⟨rfl, hb⟩
  replace B := Lib.hid (B.out.trans (hb.mono B.out.size))
  replace X := Lib.hid (X.out.trans (hb.mono X.out.size))
  replace Y1 := Lib.hid (Y1.out.trans (hb.mono Y1.out.size))
  replace G0 := Lib.hid (G0.out.below hb)
  clear hb
  go_wp2_with fail
  refine (toP _ L1 _ (Q1.out.below B.out)).mono ?_
  rintro e W6 ⟨y1, rfl, ho, hb⟩
  replace B := Lib.hid (B.out.trans (hb.mono B.out.size))
  replace X := Lib.hid (X.out.trans (hb.mono X.out.size))
  replace Y1 := Lib.hid (Y1.out.trans (hb.mono Y1.out.size))
  replace G0 := Lib.hid (G0.out.below hb)
  clear hb
  have S1 := Lib.hid ho.trms
  clear ho
  go_wp2_with fail
  refine (eqP x1 y1 L1 _ (O1.out.trms.below Y1.out) S1.out).mono ?_
  rintro e W7 ⟨rfl, hb⟩
  clear S1
  replace B := Lib.hid (B.out.trans (hb.mono B.out.size))
  replace X := Lib.hid (X.out.trans (hb.mono X.out.size))
  replace Y1 := Lib.hid (Y1.out.trans (hb.mono Y1.out.size))
  replace G0 := Lib.hid (G0.out.below hb)
  clear hb
  go_wp2_with fail
  refine (markTsame x1 L1 _ (1) W3 _ O1.out (same_of Y1.out) (by omega) (by omega)).mono ?_
  rintro e W8 ⟨rfl, hb⟩
  replace B := Lib.hid (B.out.trans (hb.low.mono P1.out.1))
  replace X := Lib.hid (X.out.trans (hb.low.mono P1.out.2.1))
  replace G0 := Lib.hid (G0.out.betw' P1.out.2.2 hb)
  clear hb
  go_wp2_with fail
  refine (eqP g0 v0 r0 _ G0.out.trms (V0.out.below X.out)).mono ?_
  rintro e W9 ⟨rfl, hb⟩
  replace B := Lib.hid (B.out.trans (hb.mono B.out.size))
  replace X := Lib.hid (X.out.trans (hb.mono X.out.size))
  replace G0 := Lib.hid (G0.out.below hb)
  clear hb
  go_wp2_with fail
  refine (markTown g0 r0 _ (1) _ G0.out (by omega) (by omega)).mono ?_
  rintro e W10 ⟨rfl, hh, hb, hs⟩
  replace B := Lib.hid (B.out.trans (hb.mono PG.out.1))
  replace X := Lib.hid (X.out.trans (hb.mono PG.out.2))
  have D0 := Lib.hid hh
  clear hh hb hs
  go_wp2_with fail
  refine (heldTown g0 r0.length _ 1 _ D0.out (by omega) (by omega)).mono ?_
  rintro e W11 ⟨rfl, rfl⟩
  go_wp2_with fail
  refine (toP _ L1 _ (Q1.out.below B.out)).mono ?_
  rintro e W12 ⟨t1, rfl, ho, hb⟩
  replace B := Lib.hid (B.out.trans (hb.mono B.out.size))
  replace X := Lib.hid (X.out.trans (hb.mono X.out.size))
  replace D0 := Lib.hid (D0.out.below hb)
  clear hb
  have S1 := Lib.hid ho.trms
  clear ho
  go_wp2_with fail
  refine (HIM.out _ _ S1.out).mono ?_
  rintro e W13 ⟨t0, rfl, ht0, hb⟩
  replace B := Lib.hid (B.out.trans (hb.mono B.out.size))
  replace X := Lib.hid (X.out.trans (hb.mono X.out.size))
  replace D0 := Lib.hid (D0.out.below hb)
  replace S1 := Lib.hid (S1.out.below hb)
  clear hb
  clear S1
  have T0 := Lib.hid ht0.trms
  clear ht0
  go_wp2_with fail
  refine (eqP t0 v0 r0 _ T0.out (V0.out.below X.out)).mono ?_
  rintro e W14 ⟨rfl, hb⟩
  replace B := Lib.hid (B.out.trans (hb.mono B.out.size))
  replace X := Lib.hid (X.out.trans (hb.mono X.out.size))
  replace D0 := Lib.hid (D0.out.below hb)
  replace T0 := Lib.hid (T0.out.below hb)
  clear hb
  go_wp2_with fail
  refine (heldTown g0 r0.length _ 1 _ D0.out (by omega) (by omega)).mono ?_
  rintro e W15 ⟨rfl, rfl⟩
  go_wp2_with fail
  go_ret
  exact ⟨rfl, B.out⟩
set_option maxHeartbeats 1000000 in
theorem xCutPoly_long0 (a0 : Int) (a1 : Option Addr) (n1 c1 : Nat) (a2 : Int) (w : World) (h1 : 1048576 < n1) (h2 : n1 ≤ 9223372036854775807) :
    Calls Try.prog 4 #[.int .i64 a0, .slice a1 n1 c1, .int .i64 a2] w fun e w' => e = .returned (.bool true) ∧ Below w.heap.size w w' := by
  have HS1 := Lib.hid (fun w => szP_over a1 n1 c1 (1048576) w (by omega) (by omega) (by omega) (by omega))
  clear h1 h2
  go_enter Try.func4, Try.ntmps4
  go_wp2_with fail
  refine (HS1.out _).mono ?_
  rintro e w' ⟨rfl, rfl⟩
  go_wp2_with fail
  go_ret
  exact ⟨rfl, Below.refl _ _⟩

theorem xCutPoly (a0 : Int) (a1 : Option Addr) (len1 c1 : Nat) (L1 : List Trm) (a2 : Int) (w : World) (h1 : RowT w a1 len1 L1) :
    Calls Try.prog 4 #[.int .i64 a0, .slice a1 len1 c1, .int .i64 a2] w fun e w' => e = .returned (.bool true) ∧ Below w.heap.size w w' := by
  by_cases q1 : len1 ≤ 1048576
  · skip
    have e1 := h1.1
    subst e1
    exact xCutPoly_in a0 a1 L1 c1 a2 (cutV a0 a2 L1) (isP a0 && validB a0 L1) w (h1.trms (by omega)) (by omega) (fun f1 w k1 => sCutPoly a0 f1 L1 a2 w k1) (fun f1 w k1 => iCutPoly a0 f1 L1 a2 w k1)
  · exact xCutPoly_long0 a0 a1 len1 c1 a2 w (by omega) h1.2.1
end Go.Proofs.Ytbgcamkclbcaiaa
namespace Go.Proofs.Ytbgcamkclbcaiaa
open Go.RowKit
set_option maxRecDepth 100000 in
set_option maxHeartbeats 8000000 in
theorem xMulCut_in (a0 : Int) (a1 : Option Addr) (L1 : List Trm) (c1 : Nat) (a2 : Option Addr) (L2 : List Trm) (c2 : Nat) (a3 : Int) (r0 : List Trm) (r1 : Bool) (w : World) (h1 : Trms w (.slice a1 L1.length c1) L1) (h2 : Trms w (.slice a2 L2.length c2) L2) (hl : L1.length + L2.length ≤ 1048576)
    (hS : ∀ f1, ∀ f2, ∀ w, Trms w f1 L1 → Trms w f2 L2 → Calls Try.prog 26 #[.int .i64 a0, f1, f2, .int .i64 a3] w fun e w' => ∃ u0, e = .returned (.tuple #[u0, .bool r1]) ∧ OwnTrms w' w.heap.size u0 r0 ∧ Below w.heap.size w w')
    (hI : ∀ f1, ∀ f2, ∀ w, Trms w f1 L1 → Trms w f2 L2 → Calls Try.prog 27 #[.int .i64 a0, f1, f2, .int .i64 a3] w fun e w' => ∃ u0, e = .returned (.tuple #[u0, .bool r1]) ∧ OwnTrms w' w.heap.size u0 r0 ∧ Below w.heap.size w w') :
    Calls Try.prog 5 #[.int .i64 a0, .slice a1 L1.length c1, .slice a2 L2.length c2, .int .i64 a3] w fun e w' => e = .returned (.bool true) ∧ Below w.heap.size w w' := by
  have m1 : (1048576 : Int) - L1.length ≥ 0 := by omega
  have HS1 := Lib.hid (fun w => szP_at a1 L1.length c1 (1048576) w (by omega) (by omega) (by omega))
  have Q1 := Lib.hid h1
  have m2 : (1048576 - L1.length : Int) - L2.length ≥ 0 := by omega
  have HS2 := Lib.hid (fun w => szP_at a2 L2.length c2 (1048576 - L1.length) w (by omega) (by omega) (by omega))
  have Q2 := Lib.hid h2
  have n1 : (L1.length : Int) ≤ 1048576 := by omega
  have n2 : (L2.length : Int) ≤ 1048576 := by omega
  clear h1 h2
  have HSP := Lib.hid hS
  have HIM := Lib.hid hI
  clear hS hI
  have bb1 := bne_self2 r1
  go_enter Try.func5, Try.ntmps5
  go_wp2_with fail
  refine (HS1.out _).mono ?_
  rintro e w' ⟨rfl, rfl⟩
  go_wp2_with fail
  refine (HS2.out _).mono ?_
  rintro e w' ⟨rfl, rfl⟩
  have B := Lib.hid (Below.refl w.heap.size w)
  go_wp2_with fail
  refine (toP _ L1 _ (Q1.out.below B.out)).mono ?_
  rintro e W1 ⟨s1, rfl, ho, hb⟩
  have Z1 := Lib.hid hb.size
  replace B := Lib.hid (B.out.trans (hb.mono B.out.size))
  clear hb
  have S1 := Lib.hid ho.trms
  clear ho
  go_wp2_with fail
  refine (toP _ L2 _ (Q2.out.below B.out)).mono ?_
  rintro e W2 ⟨s2, rfl, ho, hb⟩
  have Z2 := Lib.hid hb.size
  replace B := Lib.hid (B.out.trans (hb.mono B.out.size))
  replace S1 := Lib.hid (S1.out.below hb)
  clear hb
  have S2 := Lib.hid ho.trms
  clear ho
  go_wp2_with fail
  refine (HSP.out _ _ _ S1.out S2.out).mono ?_
  rintro e W3 ⟨v0, rfl, hv0, hb⟩
  have Z3 := Lib.hid hb.size
  replace B := Lib.hid (B.out.trans (hb.mono B.out.size))
  replace S1 := Lib.hid (S1.out.below hb)
  replace S2 := Lib.hid (S2.out.below hb)
  clear hb
  clear S1
  clear S2
  have V0 := Lib.hid hv0.trms
  have z0 : (r0.length : Int) ≤ 1048576 := by have := hv0.1; omega
  clear hv0
  have X := Lib.hid (Below.refl W3.heap.size W3)
  go_wp2_with fail
  refine (toP _ L1 _ (Q1.out.below B.out)).mono ?_
  rintro e W4 ⟨x1, rfl, ho, hb⟩
  have Z4 := Lib.hid hb.size
  replace B := Lib.hid (B.out.trans (hb.mono B.out.size))
  replace X := Lib.hid (X.out.trans (hb.mono X.out.size))
  clear hb
  have O1 := Lib.hid ho
  clear ho
  have Y1 := Lib.hid (Below.refl W4.heap.size W4)
  go_wp2_with fail
  refine (toP _ L2 _ (Q2.out.below B.out)).mono ?_
  rintro e W5 ⟨x2, rfl, ho, hb⟩
  have Z5 := Lib.hid hb.size
  replace B := Lib.hid (B.out.trans (hb.mono B.out.size))
  replace X := Lib.hid (X.out.trans (hb.mono X.out.size))
  replace Y1 := Lib.hid (Y1.out.trans (hb.mono Y1.out.size))
  clear hb
  have O2 := Lib.hid ho
  clear ho
  have Y2 := Lib.hid (Below.refl W5.heap.size W5)
  go_wp2_with fail
  refine (HIM.out _ _ _ (O1.out.trms.below Y1.out) (O2.out.trms.below Y2.out)).mono ?_
  rintro e W6 ⟨g0, rfl, hg0, hb⟩
  have P1 := Lib.hid (show w.heap.size ≤ W3.heap.size ∧ W3.heap.size ≤ W3.heap.size ∧ W4.heap.size ≤ W5.heap.size by have := B.out.size; have := X.out.size; have := Z1.out; have := Z2.out; have := Z3.out; have := Z4.out; have := Z5.out; first | omega | (refine ⟨?_, ?_, ?_⟩ <;> omega))
  have P2 := Lib.hid (show w.heap.size ≤ W4.heap.size ∧ W3.heap.size ≤ W4.heap.size ∧ W5.heap.size ≤ W5.heap.size by have := B.out.size; have := X.out.size; have := Z1.out; have := Z2.out; have := Z3.out; have := Z4.out; have := Z5.out; first | omega | (refine ⟨?_, ?_, ?_⟩ <;> omega))
  have PG := Lib.hid (show w.heap.size ≤ W5.heap.size ∧ W3.heap.size ≤ W5.heap.size by have := Z1.out; have := Z2.out; have := Z3.out; have := Z4.out; have := Z5.out; first | omega | (refine ⟨?_, ?_⟩ <;> omega))
  replace B := Lib.hid (B.out.trans (hb.mono B.out.size))
  replace X := Lib.hid (X.out.trans (hb.mono X.out.size))
  replace Y1 := Lib.hid (Y1.out.trans (hb.mono Y1.out.size))
  replace Y2 := Lib.hid (Y2.out.trans (hb.mono Y2.out.size))
  clear hb
  have G0 := Lib.hid hg0
  clear hg0
  go_wp2_with fail
  refine (eqP g0 v0 r0 _ G0.out.trms (V0.out.below X.out)).mono ?_
  rintro e W7 ⟨rfl, hb⟩
  replace B := Lib.hid (B.out.trans (hb.mono B.out.size))
  replace X := Lib.hid (X.out.trans (hb.mono X.out.size))
  replace Y1 := Lib.hid (Y1.out.trans (hb.mono Y1.out.size))
  replace Y2 := Lib.hid (Y2.out.trans (hb.mono Y2.out.size))
  replace G0 := Lib.hid (G0.out.below hb)
  clear hb
  go_wp2_with fail
  refine (toP _ L1 _ (Q1.out.below B.out)).mono ?_
  rintro e W8 ⟨y1, rfl, ho, hb⟩
  replace B := Lib.hid (B.out.trans (hb.mono B.out.size))
  replace X := Lib.hid (X.out.trans (hb.mono X.out.size))
  replace Y1 := Lib.hid (Y1.out.trans (hb.mono Y1.out.size))
  replace Y2 := Lib.hid (Y2.out.trans (hb.mono Y2.out.size))
  replace G0 := Lib.hid (G0.out.below hb)
  clear hb
  have S1 := Lib.hid ho.trms
  clear ho
  go_wp2_with fail
  refine (eqP x1 y1 L1 _ (O1.out.trms.below Y1.out) S1.out).mono ?_
  rintro e W9 ⟨rfl, hb⟩
  clear S1
  replace B := Lib.hid (B.out.trans (hb.mono B.out.size))
  replace X := Lib.hid (X.out.trans (hb.mono X.out.size))
  replace Y1 := Lib.hid (Y1.out.trans (hb.mono Y1.out.size))
  replace Y2 := Lib.hid (Y2.out.trans (hb.mono Y2.out.size))
  replace G0 := Lib.hid (G0.out.below hb)
  clear hb
  go_wp2_with fail
  refine (toP _ L2 _ (Q2.out.below B.out)).mono ?_
  rintro e W10 ⟨y2, rfl, ho, hb⟩
  replace B := Lib.hid (B.out.trans (hb.mono B.out.size))
  replace X := Lib.hid (X.out.trans (hb.mono X.out.size))
  replace Y1 := Lib.hid (Y1.out.trans (hb.mono Y1.out.size))
  replace Y2 := Lib.hid (Y2.out.trans (hb.mono Y2.out.size))
  replace G0 := Lib.hid (G0.out.below hb)
  clear hb
  have S2 := Lib.hid ho.trms
  clear ho
  go_wp2_with fail
  refine (eqP x2 y2 L2 _ (O2.out.trms.below Y2.out) S2.out).mono ?_
  rintro e W11 ⟨rfl, hb⟩
  clear S2
  replace B := Lib.hid (B.out.trans (hb.mono B.out.size))
  replace X := Lib.hid (X.out.trans (hb.mono X.out.size))
  replace Y1 := Lib.hid (Y1.out.trans (hb.mono Y1.out.size))
  replace Y2 := Lib.hid (Y2.out.trans (hb.mono Y2.out.size))
  replace G0 := Lib.hid (G0.out.below hb)
  clear hb
  go_wp2_with fail
  refine (markTsame x1 L1 _ (1) W4 _ O1.out (same_of Y1.out) (by omega) (by omega)).mono ?_
  rintro e W12 ⟨rfl, hb⟩
  have E1 := Lib.hid hb
  replace B := Lib.hid (B.out.trans (hb.low.mono P1.out.1))
  replace X := Lib.hid (X.out.trans (hb.low.mono P1.out.2.1))
  replace G0 := Lib.hid (G0.out.betw' P1.out.2.2 hb)
  clear hb
  go_wp2_with fail
  refine (markTsame x2 L2 _ (1 + 4 * (L1.length : Int)) W5 _ O2.out ((same_of Y2.out).betw E1.out) (by omega) (by omega)).mono ?_
  rintro e W13 ⟨rfl, hb⟩
  replace B := Lib.hid (B.out.trans (hb.low.mono P2.out.1))
  replace X := Lib.hid (X.out.trans (hb.low.mono P2.out.2.1))
  replace G0 := Lib.hid (G0.out.betw' P2.out.2.2 hb)
  clear hb
  go_wp2_with fail
  refine (eqP g0 v0 r0 _ G0.out.trms (V0.out.below X.out)).mono ?_
  rintro e W14 ⟨rfl, hb⟩
  replace B := Lib.hid (B.out.trans (hb.mono B.out.size))
  replace X := Lib.hid (X.out.trans (hb.mono X.out.size))
  replace G0 := Lib.hid (G0.out.below hb)
  clear hb
  go_wp2_with fail
  refine (markTown g0 r0 _ (1) _ G0.out (by omega) (by omega)).mono ?_
  rintro e W15 ⟨rfl, hh, hb, hs⟩
  replace B := Lib.hid (B.out.trans (hb.mono PG.out.1))
  replace X := Lib.hid (X.out.trans (hb.mono PG.out.2))
  have D0 := Lib.hid hh
  clear hh hb hs
  go_wp2_with fail
  refine (heldTown g0 r0.length _ 1 _ D0.out (by omega) (by omega)).mono ?_
  rintro e W16 ⟨rfl, rfl⟩
  go_wp2_with fail
  refine (toP _ L1 _ (Q1.out.below B.out)).mono ?_
  rintro e W17 ⟨t1, rfl, ho, hb⟩
  replace B := Lib.hid (B.out.trans (hb.mono B.out.size))
  replace X := Lib.hid (X.out.trans (hb.mono X.out.size))
  replace D0 := Lib.hid (D0.out.below hb)
  clear hb
  have S1 := Lib.hid ho.trms
  clear ho
  go_wp2_with fail
  refine (toP _ L2 _ (Q2.out.below B.out)).mono ?_
  rintro e W18 ⟨t2, rfl, ho, hb⟩
  replace B := Lib.hid (B.out.trans (hb.mono B.out.size))
  replace X := Lib.hid (X.out.trans (hb.mono X.out.size))
  replace D0 := Lib.hid (D0.out.below hb)
  replace S1 := Lib.hid (S1.out.below hb)
  clear hb
  have S2 := Lib.hid ho.trms
  clear ho
  go_wp2_with fail
  refine (HIM.out _ _ _ S1.out S2.out).mono ?_
  rintro e W19 ⟨t0, rfl, ht0, hb⟩
  replace B := Lib.hid (B.out.trans (hb.mono B.out.size))
  replace X := Lib.hid (X.out.trans (hb.mono X.out.size))
  replace D0 := Lib.hid (D0.out.below hb)
  replace S1 := Lib.hid (S1.out.below hb)
  replace S2 := Lib.hid (S2.out.below hb)
  clear hb
  clear S1
  clear S2
  have T0 := Lib.hid ht0.trms
  clear ht0
  go_wp2_with fail
  refine (eqP t0 v0 r0 _ T0.out (V0.out.below X.out)).mono ?_
  rintro e W20 ⟨rfl, hb⟩
  replace B := Lib.hid (B.out.trans (hb.mono B.out.size))
  replace X := Lib.hid (X.out.trans (hb.mono X.out.size))
  replace D0 := Lib.hid (D0.out.below hb)
  replace T0 := Lib.hid (T0.out.below hb)
  clear hb
  go_wp2_with fail
  refine (heldTown g0 r0.length _ 1 _ D0.out (by omega) (by omega)).mono ?_
  rintro e W21 ⟨rfl, rfl⟩
  go_wp2_with fail
  go_ret
  exact ⟨rfl, B.out⟩
set_option maxHeartbeats 1000000 in
theorem xMulCut_long0 (a0 : Int) (a1 : Option Addr) (n1 c1 : Nat) (a2 : Option Addr) (n2 c2 : Nat) (a3 : Int) (w : World) (h1 : 1048576 < n1) (h2 : n1 ≤ 9223372036854775807) :
    Calls Try.prog 5 #[.int .i64 a0, .slice a1 n1 c1, .slice a2 n2 c2, .int .i64 a3] w fun e w' => e = .returned (.bool true) ∧ Below w.heap.size w w' := by
  have HS1 := Lib.hid (fun w => szP_over a1 n1 c1 (1048576) w (by omega) (by omega) (by omega) (by omega))
  clear h1 h2
  go_enter Try.func5, Try.ntmps5
  go_wp2_with fail
  refine (HS1.out _).mono ?_
  rintro e w' ⟨rfl, rfl⟩
  go_wp2_with fail
  go_ret
  exact ⟨rfl, Below.refl _ _⟩
set_option maxHeartbeats 1000000 in
theorem xMulCut_long1 (a0 : Int) (a1 : Option Addr) (n1 c1 : Nat) (a2 : Option Addr) (n2 c2 : Nat) (a3 : Int) (w : World) (k1 : n1 ≤ 1048576) (h1 : 1048576 < n1 + n2) (h2 : n2 ≤ 9223372036854775807) :
    Calls Try.prog 5 #[.int .i64 a0, .slice a1 n1 c1, .slice a2 n2 c2, .int .i64 a3] w fun e w' => e = .returned (.bool true) ∧ Below w.heap.size w w' := by
  have m1 : (1048576 : Int) - n1 ≥ 0 := by omega
  have HS1 := Lib.hid (fun w => szP_at a1 n1 c1 (1048576) w (by omega) (by omega) (by omega))
  have HS2 := Lib.hid (fun w => szP_over a2 n2 c2 (1048576 - n1) w (by omega) (by omega) (by omega) (by omega))
  clear h1 h2
  go_enter Try.func5, Try.ntmps5
  go_wp2_with fail
  refine (HS1.out _).mono ?_
  rintro e w' ⟨rfl, rfl⟩
  go_wp2_with fail
  refine (HS2.out _).mono ?_
  rintro e w' ⟨rfl, rfl⟩
  go_wp2_with fail
  go_ret
  exact ⟨rfl, Below.refl _ _⟩

theorem xMulCut (a0 : Int) (a1 : Option Addr) (len1 c1 : Nat) (L1 : List Trm) (a2 : Option Addr) (len2 c2 : Nat) (L2 : List Trm) (a3 : Int) (w : World) (h1 : RowT w a1 len1 L1) (h2 : RowT w a2 len2 L2) :
    Calls Try.prog 5 #[.int .i64 a0, .slice a1 len1 c1, .slice a2 len2 c2, .int .i64 a3] w fun e w' => e = .returned (.bool true) ∧ Below w.heap.size w w' := by
  by_cases q1 : len1 ≤ 1048576
  · skip
    by_cases q2 : len1 + len2 ≤ 1048576
    · skip
      have e1 := h1.1
      have e2 := h2.1
      subst e1 e2
      exact xMulCut_in a0 a1 L1 c1 a2 L2 c2 a3 (mcL a0 a3 L1 L2) (mcOk a0 a3 L1 L2) w (h1.trms (by omega)) (h2.trms (by omega)) (by omega) (fun f1 f2 w k1 k2 => sMulCut a0 f1 f2 L1 L2 a3 w k1 k2) (fun f1 f2 w k1 k2 => iMulCut a0 f1 f2 L1 L2 a3 w k1 k2)
    · exact xMulCut_long1 a0 a1 len1 c1 a2 len2 c2 a3 w q1 (by omega) h2.2.1
  · exact xMulCut_long0 a0 a1 len1 c1 a2 len2 c2 a3 w (by omega) h1.2.1
end Go.Proofs.Ytbgcamkclbcaiaa
namespace Go.Proofs.Ytbgcamkclbcaiaa
open Go.RowKit
theorem tmS_len (p : Int) (h : Trm → Int) (L : List Trm) (k : Nat) : (tmL p h (L.take k)).length ≤ k := by
  refine Nat.le_trans (List.length_filter_le _ _) ?_
  simp
  omega
theorem tm_next {p : Int} {h : Trm → Int} {L : List Trm} {k : Nat} (hk : k < L.length) : tmL p h (L.take (k + 1)) = if 0 < (L.getD k default).t * h (L.getD k default) % p then tmL p h (L.take k) ++ [tmT p h (L.getD k default)] else tmL p h (L.take k) := by
  have e : L.getD k default = L[k] := by simp [List.getD_eq_getElem?_getD, hk]
  rw [List.take_succ_eq_append_getElem hk, tm_snoc, e]
theorem elB2 (p a : Int) : (decide (0 ≤ a) && decide (a ≤ p - 1)) = isE p a := by
  cases h : isE p a
  · rcases isE_no h with h1 | h1 <;> simp <;> omega
  · have := isE_iff.1 h; simp; omega
/-- what a number has that is the degree -/
def hDeg (x : Trm) : Int := degT x
/-- what it has that is a power of an element -/
def hPow (p a : Int) (x : Trm) : Int := a ^ (degT x).toNat % p
set_option maxRecDepth 100000 in
set_option maxHeartbeats 8000000 in
theorem sEulerPoly_some (p : Int) (g off cap : Nat) (L : List Trm) (w : World) (hp : isP p = true) (hV : validB p L = true) (hg : g < w.heap.size)
    (hc : ∀ j : Nat, j < L.length → TAt w g (off + j * 4) (L.getD j default)) :
    Calls Try.prog 43 #[.int .i64 p, .slice (some ⟨g, off, none⟩) L.length cap] w (GivesPB (tmL p (hDeg) L) true w) := by
  have hl := validB_len hV
  obtain ⟨i0, hi, hz0, hz1, hz2⟩ := info_parts infoT
  obtain ⟨p0, p1⟩ := isP_bd hp
  have HB := Lib.hid (show ∀ w', Below w.heap.size w w' → Calls Try.prog 73 #[.int .i64 p, .slice (some ⟨g, off, none⟩) L.length cap] w' fun e w'' => e = .returned (.bool true) ∧ Below w'.heap.size w' w'' from
    fun w' hb => (sPolyValid p _ L w' ⟨by omega, _, cap, rfl, .inr ⟨g, off, rfl, Nat.lt_of_lt_of_le hg hb.size, fun j hj => (hc j hj).below hb hg⟩⟩).mono fun e w'' h => by rw [hp, hV] at h; exact h)
  have HC := Lib.hid hc
  have HV := Lib.hid hV
  have HP := Lib.hid hp
  clear hc hV hp
  go_enter Try.func43, Try.ntmps43
  go_wp2_with fail
  refine (HB.out _ (Below.alloc (Below.refl _ _) (Nat.le_refl _) _)).mono ?_
  rintro e w1 ⟨rfl, hb1⟩
  have H1 := Lib.hid (show Below w.heap.size w w1 from (Below.alloc (Below.refl _ _) (Nat.le_refl _) _).trans (hb1.mono (by simp)))
  have R1 := Lib.hid (show Row w1 w.heap.size (.slice (some ⟨w.heap.size, 0, none⟩) 0 0) (tmL p (hDeg) (L.take 0)) from (Row.lit0 w w.heap.size (Nat.le_refl _)).below hb1)
  clear hb1
  go_wp2_with fail
  go_loopw [6, 17] (fun v i wr => ∃ k : Nat, k ≤ L.length ∧ i = .int .i64 k ∧ Row wr w.heap.size v (tmL p (hDeg) (L.take k)) ∧ Below w.heap.size w wr) (fun _ i _ => L.length - (intOf i).toNat)
  case atStart => exact ⟨0, by omega, rfl, R1.out, H1.out⟩
  case round =>
    clear R1 H1
    obtain ⟨k, hk, rfl, hrow, hb⟩ := hrel
    have hlen := tmS_len p (hDeg) L k
    by_cases hlt : k < L.length
    · have hltp : (k : Int) < (L.length : Int) := by omega
      have hk0 : (0 : Int) ≤ (k : Int) := by omega
      obtain ⟨a0, a1, a2, a3⟩ := (HC.out k hlt).below hb hg
      have HN := Lib.hid (tm_next (p := p) (h := hDeg) hlt)
      obtain ⟨x, hx⟩ : ∃ x, x = L.getD k default := ⟨_, rfl⟩
      rw [← hx] at a0 a1 a2 a3 HN
      have hpw := validB_pows HV.out hlt hx
      obtain ⟨el0, el1⟩ := validB_el HV.out hlt hx
      have HX := Lib.hid hpw
      obtain ⟨d, hd⟩ : ∃ d, d = x.a + x.b + x.c := ⟨_, rfl⟩
      have hd0 : 0 ≤ d ∧ d ≤ 27 := by obtain ⟨⟨q0, q1⟩, ⟨q2, q3⟩, ⟨q4, q5⟩⟩ := hpw; omega
      have HD := Lib.hid hd
      clear hd hx hpw
      obtain ⟨hh, hhe⟩ : ∃ hh, hh = (hDeg) x := ⟨_, rfl⟩
      have hh0 : 0 ≤ hh ∧ hh ≤ 27 := by
        rw [hhe]
        unfold hDeg degT; rw [← HD.out]; exact hd0
      have HHE := Lib.hid hhe
      rw [← hhe] at HN
      clear hhe
      have HSD := Lib.hid (fun w => by have := sDeg x.a x.b x.c w HX.out.1 HX.out.2.1 HX.out.2.2; rw [← HD.out] at this; exact this)
      have m0 : 0 ≤ x.t * hh := Int.mul_nonneg (by omega) hh0.1
      have m1 : x.t * hh ≤ 12 * 27 := Int.mul_le_mul (by omega) hh0.2 hh0.1 (by omega)
      obtain ⟨v, hve⟩ : ∃ v, v = x.t * hh % p := ⟨_, rfl⟩
      have hmw : IntKind.i64.wrap (x.t * hh) = x.t * hh := IntWalk.i64_in _ (by omega)
      have htm : (x.t * hh).tmod p = v := by rw [hve]; exact Int.tmod_eq_emod_of_nonneg m0
      have hp0 : ¬ p = 0 := by omega
      have hpm : (p == 0) = false := by simp [hp0]
      have hem : 0 ≤ v ∧ v < p := by rw [hve]; exact emod_bd p0
      have hwm : IntKind.i64.wrap v = v := IntWalk.i64_in _ (by omega)
      have HVE := Lib.hid (show tmT p (hDeg) x = ⟨x.a, x.b, x.c, v⟩ by unfold tmT; rw [← HHE.out, ← hve])
      rw [← hve] at HN
      clear hve m0 m1
      have HR := Lib.hid hrow
      have Hb := Lib.hid hb
      have hsz := hb.size
      have HF := Lib.hid (show ∀ W, W = wr.alloc (Obj.cells #[.int .i64 x.a, .int .i64 x.b, .int .i64 x.c, .int .i64 x.t] 79) → ∀ w', Below W.heap.size W w' → (w'.cell? ⟨wr.heap.size, 0, none⟩ = some (.int .i64 x.a) ∧ w'.cell? ⟨wr.heap.size, 1, none⟩ = some (.int .i64 x.b) ∧ w'.cell? ⟨wr.heap.size, 2, none⟩ = some (.int .i64 x.c) ∧ w'.cell? ⟨wr.heap.size, 3, none⟩ = some (.int .i64 x.t)) ∧ w'.frozen? ⟨wr.heap.size, 3, none⟩ = false ∧ Below wr.heap.size wr w' ∧ wr.heap.size < w'.heap.size from by
        rintro W rfl w' hw
        have hs : wr.heap.size < (wr.alloc (Obj.cells #[.int .i64 x.a, .int .i64 x.b, .int .i64 x.c, .int .i64 x.t] 79)).heap.size := by simp
        refine ⟨⟨?_, ?_, ?_, ?_⟩, ?_, (Below.alloc (Below.refl _ _) (Nat.le_refl _) _).trans (hw.mono (by simp)), Nat.lt_of_lt_of_le hs hw.size⟩
        · rw [hw.cell (p := ⟨wr.heap.size, 0, none⟩) hs]; simp [go_sem]
        · rw [hw.cell (p := ⟨wr.heap.size, 1, none⟩) hs]; simp [go_sem]
        · rw [hw.cell (p := ⟨wr.heap.size, 2, none⟩) hs]; simp [go_sem]
        · rw [hw.cell (p := ⟨wr.heap.size, 3, none⟩) hs]; simp [go_sem]
        · rw [hw.frozen (p := ⟨wr.heap.size, 3, none⟩) hs]; exact World.frozen?_alloc_at _ _ _ 3 rfl)
      clear hrow hb
      go_wp2_with fail
      obtain ⟨W1, hW1⟩ : ∃ W, W = wr.alloc (Obj.cells #[.int .i64 x.a, .int .i64 x.b, .int .i64 x.c, .int .i64 x.t] 79) := ⟨_, rfl⟩
      have HF1 := Lib.hid (HF.out W1 hW1)
      rw [← hW1]
      clear hW1 HF a0 a1 a2 a3
      obtain ⟨n, hne⟩ : ∃ n, n = wr.heap.size := ⟨_, rfl⟩
      have HNE := Lib.hid hne
      rw [← hne] at HF1 hsz ⊢
      clear hne
      refine wp_region_seq [(0, true), (1, true), (2, true), (3, true), (6, true), (4, false), (5, true), (7, true), (8, true)] (fun w' => w'.cell? ⟨n, 0, none⟩ = some (.int .i64 x.a) ∧ w'.cell? ⟨n, 1, none⟩ = some (.int .i64 x.b) ∧ w'.cell? ⟨n, 2, none⟩ = some (.int .i64 x.c) ∧ w'.cell? ⟨n, 3, none⟩ = some (.int .i64 x.t)) (by kernel_rfl) (by kernel_rfl) rfl (by intro c a d v w h; cases d <;> exact h) (HF1.out _ (Below.drew (Below.refl _ _))).1 ?_
      iterate 5 (refine wpSeq_take (v := ?_) (List.getElem?_toArray.trans rfl) ?_ ?_; rotate_left; (intro w' hSw; (try dsimp only at hSw); go_simp; (try with_reducible rfl)); (try simp only [Act.put, List.setIfInBounds_toArray, List.set_cons_zero, List.set_cons_succ]))
      refine wpSeq_do (List.getElem?_toArray.trans rfl) (fun K hK => ?_)
      go_simp
      refine (HSD.out _).mono ?_
      rintro e w2 ⟨rfl, hb2⟩
      have HB2 := Lib.hid (show Below W1.heap.size W1 w2 from (Below.drew (Below.refl _ _)).trans (hb2.mono (by simp)))
      refine hK _ _ (HF1.out w2 HB2.out).1 ?_
      clear hK K hb2
      have hdh : d = hh := by rw [HHE.out]; exact HD.out
      subst hdh
      iterate 3 (refine wpSeq_take (v := ?_) (List.getElem?_toArray.trans rfl) ?_ ?_; rotate_left; (intro w' hSw; (try dsimp only at hSw); go_simp; (try with_reducible rfl)); (try simp only [Act.put, List.setIfInBounds_toArray, List.set_cons_zero, List.set_cons_succ]))
      refine wpSeq_nil ?_
      simp only [Exit.then]
      have hfz := (HF1.out w2 HB2.out).2.1
      obtain ⟨⟨c0, c1, c2, c3⟩, -, -, hn2⟩ := HF1.out w2 HB2.out
      have HL2 := Lib.hid (show Below n wr (w2.setCell ⟨n, 3, none⟩ (.int .i64 v)) from Below.setCell (HF1.out w2 HB2.out).2.2.1 (Nat.le_refl _) _)
      have HLw := Lib.hid (show Below w.heap.size w (w2.setCell ⟨n, 3, none⟩ (.int .i64 v)) from Hb.out.trans (HL2.out.mono hsz))
      have HR2 := Lib.hid (show Row (w2.setCell ⟨n, 3, none⟩ (.int .i64 v)) w.heap.size u6 (tmL p (hDeg) (L.take k)) from HR.out.below (HNE.out ▸ HL2.out))
      by_cases hv0 : 0 < v
      · have HNX := Lib.hid (show tmL p (hDeg) (L.take (k + 1)) = tmL p (hDeg) (L.take k) ++ [⟨x.a, x.b, x.c, v⟩] by rw [HN.out, if_pos hv0, HVE.out])
        have hle := hlen
        have hls : w.heap.size ≤ (w2.setCell ⟨n, 3, none⟩ (.int .i64 v)).heap.size := HLw.out.size
        go_wp2_with (at_builtin; refine wpList_append_own _ rfl _ _ 26 rfl w.heap.size 79 i0 (.agg #[.int .i64 0, .int .i64 0, .int .i64 0, .int .i64 0]) 4 32 Try.underlying26 hi hz0 hz1 hz2 rfl (by decide) _ _ _ rfl (World.ownsRow.alloc HR2.out _) _ 1 1 (Trm.cs ⟨x.a, x.b, x.c, v⟩) rfl rfl ?c1 ?c2 ?c3 ?c4 ?c5 ?_)
        case c1 =>
          intro j u hj
          match j, hj with
          | 0, hj => simp [Trm.cs] at hj; subst hj; simp [Addr.add, go_sem]
          | 1, hj => simp [Trm.cs] at hj; subst hj; simp [Addr.add, go_sem]
          | 2, hj => simp [Trm.cs] at hj; subst hj; simp [Addr.add, go_sem]
          | 3, hj => simp [Trm.cs] at hj; subst hj; simp [Addr.add, go_sem]
          | j + 4, hj => simp [Trm.cs] at hj
        case c2 => intro u hu; exact flat_cell [⟨x.a, x.b, x.c, v⟩] u (by simpa [flat] using hu)
        case c3 => unfold maxLen; omega
        case c4 => omega
        case c5 => simp at hls ⊢; omega
        intro v' w3 hown' hgrow _
        have R3 := Lib.hid (show Row w3 w.heap.size v' (tmL p (hDeg) (L.take (k + 1))) by
          rw [HNX.out]
          show World.ownsRow _ _ _ _ _ _ _
          rw [flat_app, flat_one, List.length_append]
          exact hown')
        have H3 := Lib.hid (show Below w.heap.size w w3 by
          exact Below.trans (Below.alloc HLw.out hls _) (Row.low (World.ownsRow.alloc HR2.out _) (by simp at hls ⊢; omega) hgrow))
        clear hown' hgrow
        go_wp2
        go_roundw
        case rel => exact ⟨k + 1, by omega, by go_num, R3.out, H3.out⟩
        case measure => simp [intOf]; omega
      · have HNX := Lib.hid (show tmL p (hDeg) (L.take (k + 1)) = tmL p (hDeg) (L.take k) by rw [HN.out, if_neg hv0])
        have hv9 : ¬ v > 0 := hv0
        go_wp2_with fail
        go_roundw
        case rel => exact ⟨k + 1, by omega, by go_num, by rw [HNX.out]; exact HR2.out, HLw.out⟩
        case measure => simp [intOf]; omega
    · have hkl : k = L.length := by omega
      subst hkl
      rw [List.take_length] at hrow hlen
      go_wp2
      refine bodyPost_ret (v := .tuple #[_, .bool true]) (by simp [results, Try.results43, go_sem]) rfl ⟨_, rfl, hrow.own (by omega), hb⟩
set_option maxRecDepth 100000 in
set_option maxHeartbeats 8000000 in
theorem sScaleUnknowns_some (p : Int) (g off cap : Nat) (L : List Trm) (a : Int) (w : World) (hp : isP p = true) (hV : validB p L = true) (ha : isE p a = true) (hg : g < w.heap.size)
    (hc : ∀ j : Nat, j < L.length → TAt w g (off + j * 4) (L.getD j default)) :
    Calls Try.prog 45 #[.int .i64 p, .slice (some ⟨g, off, none⟩) L.length cap, .int .i64 a] w (GivesPB (tmL p (hPow p a) L) true w) := by
  have hl := validB_len hV
  obtain ⟨i0, hi, hz0, hz1, hz2⟩ := info_parts infoT
  obtain ⟨p0, p1⟩ := isP_bd hp
  have HB := Lib.hid (show ∀ w', Below w.heap.size w w' → Calls Try.prog 73 #[.int .i64 p, .slice (some ⟨g, off, none⟩) L.length cap] w' fun e w'' => e = .returned (.bool true) ∧ Below w'.heap.size w' w'' from
    fun w' hb => (sPolyValid p _ L w' ⟨by omega, _, cap, rfl, .inr ⟨g, off, rfl, Nat.lt_of_lt_of_le hg hb.size, fun j hj => (hc j hj).below hb hg⟩⟩).mono fun e w'' h => by rw [hp, hV] at h; exact h)
  have HC := Lib.hid hc
  have HV := Lib.hid hV
  have HP := Lib.hid hp
  have HA := Lib.hid (show (decide (0 ≤ a) && decide (a ≤ p - 1)) = true by rw [elB2]; exact ha)
  obtain ⟨ae0, ae1⟩ := isE_iff.1 ha
  have HPW := Lib.hid (fun d (h0 : 0 ≤ d) h1 w => sPowLoop p a d hp ae0 ae1 h0 h1 w)
  have hwp : IntKind.i64.wrap (p - 1) = p - 1 := IntWalk.i64_in _ (by omega)
  clear ha
  clear hc hV hp
  go_enter Try.func45, Try.ntmps45
  go_wp2_with fail
  refine (HB.out _ (Below.alloc (Below.refl _ _) (Nat.le_refl _) _)).mono ?_
  rintro e w1 ⟨rfl, hb1⟩
  have H1 := Lib.hid (show Below w.heap.size w w1 from (Below.alloc (Below.refl _ _) (Nat.le_refl _) _).trans (hb1.mono (by simp)))
  have R1 := Lib.hid (show Row w1 w.heap.size (.slice (some ⟨w.heap.size, 0, none⟩) 0 0) (tmL p (hPow p a) (L.take 0)) from (Row.lit0 w w.heap.size (Nat.le_refl _)).below hb1)
  clear hb1
  go_wp2_with (go_at_call 96; refine (sIn_is true _ _ _ HA.out _).mono ?_; rintro e w2 ⟨rfl, rfl⟩)
  go_loopw [8, 26] (fun v i wr => ∃ k : Nat, k ≤ L.length ∧ i = .int .i64 k ∧ Row wr w.heap.size v (tmL p (hPow p a) (L.take k)) ∧ Below w.heap.size w wr) (fun _ i _ => L.length - (intOf i).toNat)
  case atStart => exact ⟨0, by omega, rfl, R1.out, H1.out⟩
  case round =>
    clear R1 H1
    obtain ⟨k, hk, rfl, hrow, hb⟩ := hrel
    have hlen := tmS_len p (hPow p a) L k
    by_cases hlt : k < L.length
    · have hltp : (k : Int) < (L.length : Int) := by omega
      have hk0 : (0 : Int) ≤ (k : Int) := by omega
      obtain ⟨a0, a1, a2, a3⟩ := (HC.out k hlt).below hb hg
      have HN := Lib.hid (tm_next (p := p) (h := hPow p a) hlt)
      obtain ⟨x, hx⟩ : ∃ x, x = L.getD k default := ⟨_, rfl⟩
      rw [← hx] at a0 a1 a2 a3 HN
      have hpw := validB_pows HV.out hlt hx
      obtain ⟨el0, el1⟩ := validB_el HV.out hlt hx
      have HX := Lib.hid hpw
      obtain ⟨d, hd⟩ : ∃ d, d = x.a + x.b + x.c := ⟨_, rfl⟩
      have hd0 : 0 ≤ d ∧ d ≤ 27 := by obtain ⟨⟨q0, q1⟩, ⟨q2, q3⟩, ⟨q4, q5⟩⟩ := hpw; omega
      have HD := Lib.hid hd
      clear hd hx hpw
      obtain ⟨hh, hhe⟩ : ∃ hh, hh = (hPow p a) x := ⟨_, rfl⟩
      have hh0 : 0 ≤ hh ∧ hh ≤ 27 := by
        rw [hhe]
        have := emod_bd (n := a ^ (degT x).toNat) p0; unfold hPow; omega
      have HHE := Lib.hid hhe
      rw [← hhe] at HN
      clear hhe
      have HSD := Lib.hid (fun w => by have := sDeg x.a x.b x.c w HX.out.1 HX.out.2.1 HX.out.2.2; rw [← HD.out] at this; exact this)
      have m0 : 0 ≤ x.t * hh := Int.mul_nonneg (by omega) hh0.1
      have m1 : x.t * hh ≤ 12 * 27 := Int.mul_le_mul (by omega) hh0.2 hh0.1 (by omega)
      obtain ⟨v, hve⟩ : ∃ v, v = x.t * hh % p := ⟨_, rfl⟩
      have hmw : IntKind.i64.wrap (x.t * hh) = x.t * hh := IntWalk.i64_in _ (by omega)
      have htm : (x.t * hh).tmod p = v := by rw [hve]; exact Int.tmod_eq_emod_of_nonneg m0
      have hp0 : ¬ p = 0 := by omega
      have hpm : (p == 0) = false := by simp [hp0]
      have hem : 0 ≤ v ∧ v < p := by rw [hve]; exact emod_bd p0
      have hwm : IntKind.i64.wrap v = v := IntWalk.i64_in _ (by omega)
      have HVE := Lib.hid (show tmT p (hPow p a) x = ⟨x.a, x.b, x.c, v⟩ by unfold tmT; rw [← HHE.out, ← hve])
      rw [← hve] at HN
      clear hve m0 m1
      have HR := Lib.hid hrow
      have Hb := Lib.hid hb
      have hsz := hb.size
      have HF := Lib.hid (show ∀ W, W = wr.alloc (Obj.cells #[.int .i64 x.a, .int .i64 x.b, .int .i64 x.c, .int .i64 x.t] 79) → ∀ w', Below W.heap.size W w' → (w'.cell? ⟨wr.heap.size, 0, none⟩ = some (.int .i64 x.a) ∧ w'.cell? ⟨wr.heap.size, 1, none⟩ = some (.int .i64 x.b) ∧ w'.cell? ⟨wr.heap.size, 2, none⟩ = some (.int .i64 x.c) ∧ w'.cell? ⟨wr.heap.size, 3, none⟩ = some (.int .i64 x.t)) ∧ w'.frozen? ⟨wr.heap.size, 3, none⟩ = false ∧ Below wr.heap.size wr w' ∧ wr.heap.size < w'.heap.size from by
        rintro W rfl w' hw
        have hs : wr.heap.size < (wr.alloc (Obj.cells #[.int .i64 x.a, .int .i64 x.b, .int .i64 x.c, .int .i64 x.t] 79)).heap.size := by simp
        refine ⟨⟨?_, ?_, ?_, ?_⟩, ?_, (Below.alloc (Below.refl _ _) (Nat.le_refl _) _).trans (hw.mono (by simp)), Nat.lt_of_lt_of_le hs hw.size⟩
        · rw [hw.cell (p := ⟨wr.heap.size, 0, none⟩) hs]; simp [go_sem]
        · rw [hw.cell (p := ⟨wr.heap.size, 1, none⟩) hs]; simp [go_sem]
        · rw [hw.cell (p := ⟨wr.heap.size, 2, none⟩) hs]; simp [go_sem]
        · rw [hw.cell (p := ⟨wr.heap.size, 3, none⟩) hs]; simp [go_sem]
        · rw [hw.frozen (p := ⟨wr.heap.size, 3, none⟩) hs]; exact World.frozen?_alloc_at _ _ _ 3 rfl)
      clear hrow hb
      go_wp2_with fail
      obtain ⟨W1, hW1⟩ : ∃ W, W = wr.alloc (Obj.cells #[.int .i64 x.a, .int .i64 x.b, .int .i64 x.c, .int .i64 x.t] 79) := ⟨_, rfl⟩
      have HF1 := Lib.hid (HF.out W1 hW1)
      rw [← hW1]
      clear hW1 HF a0 a1 a2 a3
      obtain ⟨n, hne⟩ : ∃ n, n = wr.heap.size := ⟨_, rfl⟩
      have HNE := Lib.hid hne
      rw [← hne] at HF1 hsz ⊢
      clear hne
      refine wp_region_seq [(0, true), (1, true), (2, true), (3, true), (4, true), (5, true), (9, true), (6, false), (7, false), (8, true), (10, true), (11, true)] (fun w' => w'.cell? ⟨n, 0, none⟩ = some (.int .i64 x.a) ∧ w'.cell? ⟨n, 1, none⟩ = some (.int .i64 x.b) ∧ w'.cell? ⟨n, 2, none⟩ = some (.int .i64 x.c) ∧ w'.cell? ⟨n, 3, none⟩ = some (.int .i64 x.t)) (by kernel_rfl) (by kernel_rfl) rfl (by intro c a d v w h; cases d <;> exact h) (HF1.out _ (Below.drew (Below.refl _ _))).1 ?_
      iterate 7 (refine wpSeq_take (v := ?_) (List.getElem?_toArray.trans rfl) ?_ ?_; rotate_left; (intro w' hSw; (try dsimp only at hSw); go_simp; (try with_reducible rfl)); (try simp only [Act.put, List.setIfInBounds_toArray, List.set_cons_zero, List.set_cons_succ]))
      refine wpSeq_do (List.getElem?_toArray.trans rfl) (fun K hK => ?_)
      go_simp
      refine (HSD.out _).mono ?_
      rintro e w2 ⟨rfl, hb2⟩
      have HB2 := Lib.hid (show Below W1.heap.size W1 w2 from (Below.drew (Below.refl _ _)).trans (hb2.mono (by simp)))
      refine hK _ _ (HF1.out w2 HB2.out).1 ?_
      clear hK K hb2
      refine wpSeq_do (List.getElem?_toArray.trans rfl) (fun K hK => ?_)
      go_simp
      refine (HPW.out d hd0.1 (by omega) w2).mono ?_
      rintro e w3 ⟨rfl, rfl⟩
      rw [show a ^ d.toNat % p = hh by rw [HHE.out]; unfold hPow degT; rw [← HD.out]]
      refine hK _ _ (HF1.out w2 HB2.out).1 ?_
      clear hK K
      iterate 3 (refine wpSeq_take (v := ?_) (List.getElem?_toArray.trans rfl) ?_ ?_; rotate_left; (intro w' hSw; (try dsimp only at hSw); go_simp; (try with_reducible rfl)); (try simp only [Act.put, List.setIfInBounds_toArray, List.set_cons_zero, List.set_cons_succ]))
      refine wpSeq_nil ?_
      simp only [Exit.then]
      have hfz := (HF1.out w2 HB2.out).2.1
      obtain ⟨⟨c0, c1, c2, c3⟩, -, -, hn2⟩ := HF1.out w2 HB2.out
      have HL2 := Lib.hid (show Below n wr (w2.setCell ⟨n, 3, none⟩ (.int .i64 v)) from Below.setCell (HF1.out w2 HB2.out).2.2.1 (Nat.le_refl _) _)
      have HLw := Lib.hid (show Below w.heap.size w (w2.setCell ⟨n, 3, none⟩ (.int .i64 v)) from Hb.out.trans (HL2.out.mono hsz))
      have HR2 := Lib.hid (show Row (w2.setCell ⟨n, 3, none⟩ (.int .i64 v)) w.heap.size u8 (tmL p (hPow p a) (L.take k)) from HR.out.below (HNE.out ▸ HL2.out))
      by_cases hv0 : 0 < v
      · have HNX := Lib.hid (show tmL p (hPow p a) (L.take (k + 1)) = tmL p (hPow p a) (L.take k) ++ [⟨x.a, x.b, x.c, v⟩] by rw [HN.out, if_pos hv0, HVE.out])
        have hle := hlen
        have hls : w.heap.size ≤ (w2.setCell ⟨n, 3, none⟩ (.int .i64 v)).heap.size := HLw.out.size
        go_wp2_with (at_builtin; refine wpList_append_own _ rfl _ _ 26 rfl w.heap.size 79 i0 (.agg #[.int .i64 0, .int .i64 0, .int .i64 0, .int .i64 0]) 4 32 Try.underlying26 hi hz0 hz1 hz2 rfl (by decide) _ _ _ rfl (World.ownsRow.alloc HR2.out _) _ 1 1 (Trm.cs ⟨x.a, x.b, x.c, v⟩) rfl rfl ?c1 ?c2 ?c3 ?c4 ?c5 ?_)
        case c1 =>
          intro j u hj
          match j, hj with
          | 0, hj => simp [Trm.cs] at hj; subst hj; simp [Addr.add, go_sem]
          | 1, hj => simp [Trm.cs] at hj; subst hj; simp [Addr.add, go_sem]
          | 2, hj => simp [Trm.cs] at hj; subst hj; simp [Addr.add, go_sem]
          | 3, hj => simp [Trm.cs] at hj; subst hj; simp [Addr.add, go_sem]
          | j + 4, hj => simp [Trm.cs] at hj
        case c2 => intro u hu; exact flat_cell [⟨x.a, x.b, x.c, v⟩] u (by simpa [flat] using hu)
        case c3 => unfold maxLen; omega
        case c4 => omega
        case c5 => simp at hls ⊢; omega
        intro v' w3 hown' hgrow _
        have R3 := Lib.hid (show Row w3 w.heap.size v' (tmL p (hPow p a) (L.take (k + 1))) by
          rw [HNX.out]
          show World.ownsRow _ _ _ _ _ _ _
          rw [flat_app, flat_one, List.length_append]
          exact hown')
        have H3 := Lib.hid (show Below w.heap.size w w3 by
          exact Below.trans (Below.alloc HLw.out hls _) (Row.low (World.ownsRow.alloc HR2.out _) (by simp at hls ⊢; omega) hgrow))
        clear hown' hgrow
        go_wp2
        go_roundw
        case rel => exact ⟨k + 1, by omega, by go_num, R3.out, H3.out⟩
        case measure => simp [intOf]; omega
      · have HNX := Lib.hid (show tmL p (hPow p a) (L.take (k + 1)) = tmL p (hPow p a) (L.take k) by rw [HN.out, if_neg hv0])
        have hv9 : ¬ v > 0 := hv0
        go_wp2_with fail
        go_roundw
        case rel => exact ⟨k + 1, by omega, by go_num, by rw [HNX.out]; exact HR2.out, HLw.out⟩
        case measure => simp [intOf]; omega
    · have hkl : k = L.length := by omega
      subst hkl
      rw [List.take_length] at hrow hlen
      go_wp2
      refine bodyPost_ret (v := .tuple #[_, .bool true]) (by simp [results, Try.results45, go_sem]) rfl ⟨_, rfl, hrow.own (by omega), hb⟩
set_option maxHeartbeats 4000000 in
theorem sEulerPoly_nil (p : Int) (b : Option Addr) (cap : Nat) (w : World) (hp : isP p = true) :
    Calls Try.prog 43 #[.int .i64 p, .slice b 0 cap] w (GivesPB [] true w) := by
  have HB := Lib.hid (show ∀ w', Calls Try.prog 73 #[.int .i64 p, .slice b 0 cap] w' fun e w'' => e = .returned (.bool true) ∧ Below w'.heap.size w' w'' from
    fun w' => (sPolyValid p (.slice b 0 cap) [] w' ⟨by simp, b, cap, rfl, .inl rfl⟩).mono fun e w'' h => by rw [hp] at h; exact h)
  clear hp
  go_enter Try.func43, Try.ntmps43
  go_wp2_with fail
  refine (HB.out _).mono ?_
  rintro e w1 ⟨rfl, hb1⟩
  have H1 := Lib.hid (show Below w.heap.size w w1 from (Below.alloc (Below.refl _ _) (Nat.le_refl _) _).trans (hb1.mono (by simp)))
  have R1 := Lib.hid (show Row w1 w.heap.size (.slice (some ⟨w.heap.size, 0, none⟩) 0 0) [] from (Row.lit0 w w.heap.size (Nat.le_refl _)).below hb1)
  clear hb1
  go_wp2_with fail
  go_loop [6, 17] (fun v i => v = (.slice (some ⟨w.heap.size, 0, none⟩) 0 0) ∧ i = .int .i64 0) (fun _ _ => 0)
  case atStart => exact ⟨rfl, rfl⟩
  case round =>
    obtain ⟨rfl, rfl⟩ := hrel
    go_wp2_with fail
    refine bodyPost_ret (v := .tuple #[(.slice (some ⟨w.heap.size, 0, none⟩) 0 0), .bool true]) (by simp [results, Try.results43, go_sem]) rfl ⟨_, rfl, R1.out.own (by simp), H1.out⟩
set_option maxHeartbeats 4000000 in
theorem sEulerPoly_no (p : Int) (f : Value) (L : List Trm) (w : World) (h : Trms w f L) (hn : (isP p && validB p L) = false) :
    Calls Try.prog 43 #[.int .i64 p, f] w (GivesPB [] false w) := by
  have HB := Lib.hid (show ∀ w', Below w.heap.size w w' → Calls Try.prog 73 #[.int .i64 p, f] w' fun e w'' => e = .returned (.bool false) ∧ Below w'.heap.size w' w'' from
    fun w' hb => (sPolyValid p f L w' (h.below hb)).mono fun e w' h => by rw [hn] at h; exact h)
  clear hn h
  go_enter Try.func43, Try.ntmps43
  go_wp2_with fail
  refine (HB.out _ (Below.alloc (Below.refl _ _) (Nat.le_refl _) _)).mono ?_
  rintro e w1 ⟨rfl, hb1⟩
  have H1 := Lib.hid (show Below w.heap.size w w1 from (Below.alloc (Below.refl _ _) (Nat.le_refl _) _).trans (hb1.mono (by simp)))
  have R1 := Lib.hid (show Row w1 w.heap.size (.slice (some ⟨w.heap.size, 0, none⟩) 0 0) [] from (Row.lit0 w w.heap.size (Nat.le_refl _)).below hb1)
  clear hb1
  go_wp2_with fail
  refine bodyPost_ret (v := .tuple #[_, .bool false]) (by simp [results, Try.results43, go_sem]) rfl ⟨_, rfl, R1.out.own (by simp), H1.out⟩
def eulV (p : Int) (L : List Trm) : List Trm := if (isP p && validB p L) = true then tmL p hDeg L else []
theorem sEulerPoly (p : Int) (f : Value) (L : List Trm) (w : World) (h : Trms w f L) :
    Calls Try.prog 43 #[.int .i64 p, f] w (GivesPB (eulV p L) (isP p && validB p L) w) := by
  unfold eulV
  cases hn : isP p && validB p L
  · exact sEulerPoly_no p f L w h hn
  · have hn2 := hn
    simp only [Bool.and_eq_true] at hn2
    obtain ⟨hl, a, cap, rfl, h2⟩ := h
    rcases h2 with rfl | ⟨g, off, rfl, hg, hc⟩
    · exact sEulerPoly_nil p a cap w hn2.1
    · exact sEulerPoly_some p g off cap L w hn2.1 hn2.2 hg hc
set_option maxHeartbeats 4000000 in
theorem sScaleUnknowns_nil (p : Int) (b : Option Addr) (cap : Nat) (a : Int) (w : World) (hp : isP p = true) (ha : isE p a = true) :
    Calls Try.prog 45 #[.int .i64 p, .slice b 0 cap, .int .i64 a] w (GivesPB [] true w) := by
  have HB := Lib.hid (show ∀ w', Calls Try.prog 73 #[.int .i64 p, .slice b 0 cap] w' fun e w'' => e = .returned (.bool true) ∧ Below w'.heap.size w' w'' from
    fun w' => (sPolyValid p (.slice b 0 cap) [] w' ⟨by simp, b, cap, rfl, .inl rfl⟩).mono fun e w'' h => by rw [hp] at h; exact h)
  have HA := Lib.hid (show (decide (0 ≤ a) && decide (a ≤ p - 1)) = true by rw [elB2]; exact ha)
  obtain ⟨p0, p1⟩ := isP_bd hp
  have hwp : IntKind.i64.wrap (p - 1) = p - 1 := IntWalk.i64_in _ (by omega)
  clear ha
  clear hp
  go_enter Try.func45, Try.ntmps45
  go_wp2_with fail
  refine (HB.out _).mono ?_
  rintro e w1 ⟨rfl, hb1⟩
  have H1 := Lib.hid (show Below w.heap.size w w1 from (Below.alloc (Below.refl _ _) (Nat.le_refl _) _).trans (hb1.mono (by simp)))
  have R1 := Lib.hid (show Row w1 w.heap.size (.slice (some ⟨w.heap.size, 0, none⟩) 0 0) [] from (Row.lit0 w w.heap.size (Nat.le_refl _)).below hb1)
  clear hb1
  go_wp2_with (go_at_call 96; refine (sIn_is true _ _ _ HA.out _).mono ?_; rintro e w2 ⟨rfl, rfl⟩)
  go_loop [8, 26] (fun v i => v = (.slice (some ⟨w.heap.size, 0, none⟩) 0 0) ∧ i = .int .i64 0) (fun _ _ => 0)
  case atStart => exact ⟨rfl, rfl⟩
  case round =>
    obtain ⟨rfl, rfl⟩ := hrel
    go_wp2_with fail
    refine bodyPost_ret (v := .tuple #[(.slice (some ⟨w.heap.size, 0, none⟩) 0 0), .bool true]) (by simp [results, Try.results45, go_sem]) rfl ⟨_, rfl, R1.out.own (by simp), H1.out⟩
set_option maxHeartbeats 4000000 in
theorem sScaleUnknowns_no (p : Int) (f : Value) (L : List Trm) (a : Int) (w : World) (h : Trms w f L) (hn : (isP p && validB p L) = false) :
    Calls Try.prog 45 #[.int .i64 p, f, .int .i64 a] w (GivesPB [] false w) := by
  have HB := Lib.hid (show ∀ w', Below w.heap.size w w' → Calls Try.prog 73 #[.int .i64 p, f] w' fun e w'' => e = .returned (.bool false) ∧ Below w'.heap.size w' w'' from
    fun w' hb => (sPolyValid p f L w' (h.below hb)).mono fun e w' h => by rw [hn] at h; exact h)
  clear hn h
  go_enter Try.func45, Try.ntmps45
  go_wp2_with fail
  refine (HB.out _ (Below.alloc (Below.refl _ _) (Nat.le_refl _) _)).mono ?_
  rintro e w1 ⟨rfl, hb1⟩
  have H1 := Lib.hid (show Below w.heap.size w w1 from (Below.alloc (Below.refl _ _) (Nat.le_refl _) _).trans (hb1.mono (by simp)))
  have R1 := Lib.hid (show Row w1 w.heap.size (.slice (some ⟨w.heap.size, 0, none⟩) 0 0) [] from (Row.lit0 w w.heap.size (Nat.le_refl _)).below hb1)
  clear hb1
  go_wp2_with fail
  refine bodyPost_ret (v := .tuple #[_, .bool false]) (by simp [results, Try.results45, go_sem]) rfl ⟨_, rfl, R1.out.own (by simp), H1.out⟩
set_option maxHeartbeats 4000000 in
theorem sScaleUnknowns_out (p : Int) (f : Value) (L : List Trm) (a : Int) (w : World) (h : Trms w f L) (hn : (isP p && validB p L) = true) (ha : isE p a = false) :
    Calls Try.prog 45 #[.int .i64 p, f, .int .i64 a] w (GivesPB [] false w) := by
  have HB := Lib.hid (show ∀ w', Below w.heap.size w w' → Calls Try.prog 73 #[.int .i64 p, f] w' fun e w'' => e = .returned (.bool true) ∧ Below w'.heap.size w' w'' from
    fun w' hb => (sPolyValid p f L w' (h.below hb)).mono fun e w' h => by rw [hn] at h; exact h)
  have HA := Lib.hid (show (decide (0 ≤ a) && decide (a ≤ p - 1)) = false by rw [elB2]; exact ha)
  have hp : isP p = true := by simp only [Bool.and_eq_true] at hn; exact hn.1
  obtain ⟨p0, p1⟩ := isP_bd hp
  have hwp : IntKind.i64.wrap (p - 1) = p - 1 := IntWalk.i64_in _ (by omega)
  clear hn h ha hp
  go_enter Try.func45, Try.ntmps45
  go_wp2_with fail
  refine (HB.out _ (Below.alloc (Below.refl _ _) (Nat.le_refl _) _)).mono ?_
  rintro e w1 ⟨rfl, hb1⟩
  have H1 := Lib.hid (show Below w.heap.size w w1 from (Below.alloc (Below.refl _ _) (Nat.le_refl _) _).trans (hb1.mono (by simp)))
  have R1 := Lib.hid (show Row w1 w.heap.size (.slice (some ⟨w.heap.size, 0, none⟩) 0 0) [] from (Row.lit0 w w.heap.size (Nat.le_refl _)).below hb1)
  clear hb1
  go_wp2_with (go_at_call 96; refine (sIn_is false _ _ _ HA.out _).mono ?_; rintro e w2 ⟨rfl, rfl⟩)
  refine bodyPost_ret (v := .tuple #[_, .bool false]) (by simp [results, Try.results45, go_sem]) rfl ⟨_, rfl, R1.out.own (by simp), H1.out⟩
def scuV (p a : Int) (L : List Trm) : List Trm := if ((isP p && validB p L) && isE p a) = true then tmL p (hPow p a) L else []
theorem sScaleUnknowns (p : Int) (f : Value) (L : List Trm) (a : Int) (w : World) (h : Trms w f L) :
    Calls Try.prog 45 #[.int .i64 p, f, .int .i64 a] w (GivesPB (scuV p a L) ((isP p && validB p L) && isE p a) w) := by
  unfold scuV
  cases hn : isP p && validB p L
  · exact sScaleUnknowns_no p f L a w h hn
  · cases ha : isE p a
    · exact sScaleUnknowns_out p f L a w h hn ha
    · have hn2 := hn
      simp only [Bool.and_eq_true] at hn2
      obtain ⟨hl, b, cap, rfl, h2⟩ := h
      rcases h2 with rfl | ⟨g, off, rfl, hg, hc⟩
      · exact sScaleUnknowns_nil p b cap a w hn2.1 ha
      · exact sScaleUnknowns_some p g off cap L a w hn2.1 hn2.2 ha hg hc
end Go.Proofs.Ytbgcamkclbcaiaa
