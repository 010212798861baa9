/-
  The program's MulPoly. Conditions: what the slices hold is known.
-/
import Derived.Test.YtiahcaihmgnicaaAddB
namespace Go.Proofs.Ytiahcaihmgnicaa
open Go.RowKit
/-- the product of two terms -/
def mulTT (p : Int) (x y : Trm) : Trm := ⟨x.a + y.a, x.b + y.b, x.c + y.c, x.t * y.t % p⟩
/-- the products of all terms of two polynomials, in order -/
def prodT (p : Int) (L M : List Trm) : List Trm := L.flatMap fun x => M.map (mulTT p x)
/-- the sum of the products of the first k terms with all, and of the next one with the first j -/
def prodK (p : Int) (L M : List Trm) (k j : Nat) : List Trm := addAll p (prodT p (L.take k) M ++ (M.take j).map (mulTT p (L.getD k default))) []
theorem prodK_zero (p : Int) (L M : List Trm) : prodK p L M 0 0 = [] := by simp [prodK, prodT, addAll]
theorem prodK_next {p : Int} {L M : List Trm} {k j : Nat} (hj : j < M.length) : addT p (mulTT p (L.getD k default) (M.getD j default)) (prodK p L M k j) = prodK p L M k (j + 1) := by
  unfold prodK
  rw [List.take_succ_eq_append_getElem hj, List.map_append, List.map_singleton, ← List.append_assoc, addAll_snoc]
  simp [List.getD_eq_getElem?_getD, hj]
theorem prodK_row {p : Int} {L M : List Trm} {k : Nat} (hk : k < L.length) : prodK p L M k M.length = prodK p L M (k + 1) 0 := by
  unfold prodK prodT
  rw [List.take_succ_eq_append_getElem hk, List.flatMap_append, List.take_length]
  simp [List.getD_eq_getElem?_getD, hk]
theorem prodK_end (p : Int) (L M : List Trm) : prodK p L M L.length 0 = addAll p (prodT p L M) [] := by
  unfold prodK
  simp
theorem prodT_len (p : Int) (M : List Trm) : ∀ L : List Trm, (prodT p L M).length = L.length * M.length
  | [] => by simp [prodT]
  | x :: r => by
    have h := prodT_len p M r
    unfold prodT at h ⊢
    rw [List.flatMap_cons, List.length_append, h, List.length_map, List.length_cons, Nat.add_mul]
    omega
theorem prodK_facts {p : Int} {L M : List Trm} (hp : isP p = true) {k j : Nat} (hk : k ≤ L.length) (hj : j ≤ M.length) (hL : L.length ≤ 60) (hM : M.length ≤ 60) : Srt (prodK p L M k j) ∧ Els p (prodK p L M k j) ∧ (prodK p L M k j).length ≤ 3660 := by
  have hb := isP_bd hp
  refine ⟨addAll_srt _ _ List.Pairwise.nil, addAll_els (by omega) _ _ (fun x hx => ?_) (fun y hy => by cases hy), ?_⟩
  · rcases List.mem_append.1 hx with h | h
    · obtain ⟨y, _, h⟩ := List.mem_flatMap.1 h
      obtain ⟨z, _, rfl⟩ := List.mem_map.1 h
      exact emod_bd hb.1
    · obtain ⟨z, _, rfl⟩ := List.mem_map.1 h
      exact emod_bd hb.1
  · have := addAll_len (p := p) (prodT p (L.take k) M ++ (M.take j).map (mulTT p (L.getD k default))) []
    rw [List.length_append, prodT_len, List.length_map, List.length_take, List.length_take, List.length_nil] at this
    have h1 : min k L.length * M.length ≤ 60 * 60 := Nat.mul_le_mul (by omega) hM
    unfold prodK
    omega
set_option maxRecDepth 100000 in
set_option maxHeartbeats 4000000 in
theorem iMulPoly_no (p : Int) (fv gv : Value) (L M : List Trm) (w : World) (hL : Trms w fv L) (hM : Trms w gv M) (hr : (okB p (fv, L) && okB p (gv, M)) = false) :
    Calls Try.prog 29 #[.int .i64 p, fv, gv] w (GivesPB [] false w) := by
  have HB := Lib.hid (iBothAt p fv gv L M w hL hM false hr)
  clear hr
  obtain ⟨_, a, cap, rfl, _⟩ := hL
  obtain ⟨_, a2, cap2, rfl, _⟩ := hM
  go_enter Try.func29, Try.ntmps29
  go_wp2_with (go_at_call 74; refine HB.out.mono ?_; rintro e w2 ⟨rfl, hb2⟩)
  refine bodyPost_ret (v := .tuple #[.slice none 0 0, .bool false]) (by simp [results, Try.results29, go_sem]) rfl ⟨_, rfl, (Row.nil w2 w.heap.size).own (by simp), hb2⟩
set_option maxRecDepth 100000 in
set_option maxHeartbeats 8000000 in
theorem iMulPoly_yes (p : Int) (fv gv : Value) (L M : List Trm) (w : World) (hL : Trms w fv L) (hM : Trms w gv M) (hp : isP p = true) (hVL : validB p L = true) (hVM : validB p M = true) :
    Calls Try.prog 29 #[.int .i64 p, fv, gv] w (GivesPB (if validB p (addAll p (prodT p L M) []) = true then addAll p (prodT p L M) [] else []) (validB p (addAll p (prodT p L M) [])) w) := by
  have HB := Lib.hid (iBothAt p fv gv L M w hL hM true (by unfold okB; dsimp only; rw [hp, hVL, hVM]; rfl))
  have HP := Lib.hid hp
  have HVL := Lib.hid hVL
  have HVM := Lib.hid hVM
  have hl1 := validB_len hVL
  have hm1 := validB_len hVM
  obtain ⟨m0, a2, cap2, rfl, m1⟩ := hM
  have HM := Lib.hid (show Trms w (.slice a2 M.length cap2) M from ⟨m0, a2, cap2, rfl, m1⟩)
  obtain ⟨l0, a, cap, rfl, l1⟩ := hL
  have HL := Lib.hid (show Trms w (.slice a L.length cap) L from ⟨l0, a, cap, rfl, l1⟩)
  obtain ⟨R, hRe⟩ : ∃ R, R = addAll p (prodT p L M) [] := ⟨_, rfl⟩
  rw [← hRe]
  obtain ⟨b, hbe⟩ : ∃ b, b = validB p R := ⟨_, rfl⟩
  rw [← hbe]
  obtain ⟨R2, hR2⟩ : ∃ R2, R2 = (if b = true then R else []) := ⟨_, rfl⟩
  rw [← hR2]
  have HRE := Lib.hid hRe
  have HBE := Lib.hid hbe
  have HR2 := Lib.hid hR2
  clear m0 m1 l0 l1 hp hVL hVM hRe hbe hR2
  go_enter Try.func29, Try.ntmps29
  go_wp2_with (go_at_call 74; refine HB.out.mono ?_; rintro e w2 ⟨rfl, hb2⟩)
  obtain ⟨W, hW⟩ : ∃ W, W = w2.alloc (Obj.cells #[.int .i64 p, .slice none 0 0] 76) := ⟨_, rfl⟩
  have HW := Lib.hid (show SumW W w2.heap.size p (.slice none 0 0) ∧ Row W w.heap.size (.slice none 0 0) (prodK p L M 0 0) ∧ Value.ownBlock (.slice none 0 0) ≠ some w2.heap.size ∧ Below w.heap.size w W by
    rw [hW, prodK_zero]
    exact ⟨⟨by simp [go_sem], by simp [go_sem], World.frozen?_alloc_at _ _ _ 0 rfl, World.frozen?_alloc_at _ _ _ 1 rfl, by simp⟩, Row.nil _ _, by simp [Value.ownBlock], Below.alloc hb2 hb2.size _⟩)
  rw [← hW]
  obtain ⟨S, hSe⟩ : ∃ S, S = w2.heap.size := ⟨_, rfl⟩
  have hSB : w.heap.size ≤ S := by rw [hSe]; exact hb2.size
  rw [← hSe] at HW ⊢
  clear hSe hW hb2
  go_loopw [23] (fun i wr => ∃ (k : Nat) (v : Value), k ≤ L.length ∧ i = .int .i64 k ∧ SumW wr S p v ∧ Row wr w.heap.size v (prodK p L M k 0) ∧ v.ownBlock ≠ some S ∧ Below w.heap.size w wr) (fun i _ => L.length - (intOf i).toNat)
  case atStart => exact ⟨0, _, by omega, rfl, HW.out⟩
  case round =>
    clear HW
    obtain ⟨k, v, hk, rfl, hS, hR, hv, hb⟩ := hrel
    by_cases hlt : k < L.length
    · have hltp : (k : Int) < (L.length : Int) := by omega
      have hk0 : (0 : Int) ≤ (k : Int) := by omega
      obtain ⟨x, hx⟩ : ∃ x, x = L.getD k default := ⟨_, rfl⟩
      have HX := Lib.hid hx
      have HEX := Lib.hid (validB_el HVL.out hlt hx)
      have HPX := Lib.hid (validB_pows HVL.out hlt hx)
      obtain ⟨g, off, rfl, hg, hc⟩ : ∃ g off, a = some ⟨g, off, none⟩ ∧ g < w.heap.size ∧ ∀ j : Nat, j < L.length → TAt w g (off + j * 4) (L.getD j default) := by
        obtain ⟨_, a', cap', he, h⟩ := HL.out
        injection he with e1 e2 e3
        subst e1
        rcases h with h | h
        · rw [h] at hlt; simp at hlt
        · exact h
      obtain ⟨b0, b1, b2, b3⟩ := (hc k hlt).below hb hg
      rw [← hx] at b0 b1 b2 b3
      have hn : v.ownBlock ≠ some wr.heap.size := fun e => by have := (World.ownsRow.lt hR _ e).2; omega
      have HIN := Lib.hid (show ∀ W, W = wr.alloc (Obj.cells #[.int .i64 x.a, .int .i64 x.b, .int .i64 x.c, .int .i64 x.t] 68) → SumW W S p v ∧ Row W w.heap.size v (prodK p L M k 0) ∧ v.ownBlock ≠ some S ∧ v.ownBlock ≠ some wr.heap.size ∧ TAt W wr.heap.size 0 x ∧ wr.heap.size < W.heap.size ∧ Below w.heap.size w W from fun W hW => by
        have hb2 : Below wr.heap.size wr W := by rw [hW]; exact Below.alloc (Below.refl _ _) (Nat.le_refl _) _
        exact ⟨hS.below hb2, hR.below hb2, hv, hn, by rw [hW]; refine ⟨?_, ?_, ?_, ?_⟩ <;> simp [go_sem], by rw [hW]; simp, hb.trans (hb2.mono hb.size)⟩)
      have hSn : S < wr.heap.size := hS.sz
      clear hx hS hR hv hb hc hn
      go_wp2_with fail
      obtain ⟨W1, hW1⟩ : ∃ W, W = wr.alloc (Obj.cells #[.int .i64 x.a, .int .i64 x.b, .int .i64 x.c, .int .i64 x.t] 68) := ⟨_, rfl⟩
      have HI1 := Lib.hid (HIN.out W1 hW1)
      rw [← hW1]
      obtain ⟨n, hne⟩ : ∃ n, n = wr.heap.size := ⟨_, rfl⟩
      rw [← hne] at HI1 hSn ⊢
      clear hW1 hne HIN b0 b1 b2 b3
      go_loopw [29] (fun i wr => ∃ (j : Nat) (v : Value), j ≤ M.length ∧ i = .int .i64 j ∧ SumW wr S p v ∧ Row wr w.heap.size v (prodK p L M k j) ∧ v.ownBlock ≠ some S ∧ v.ownBlock ≠ some n ∧ TAt wr n 0 x ∧ n < wr.heap.size ∧ Below w.heap.size w wr) (fun i _ => M.length - (intOf i).toNat)
      case atStart => exact ⟨0, _, by omega, rfl, HI1.out⟩
      case round =>
        clear HI1
        obtain ⟨j, v, hj, rfl, hS, hR, hv, hvn, hT, hnw, hb⟩ := hrel
        by_cases hjt : j < M.length
        · have hjtp : (j : Int) < (M.length : Int) := by omega
          have hj0 : (0 : Int) ≤ (j : Int) := by omega
          obtain ⟨y, hy⟩ : ∃ y, y = M.getD j default := ⟨_, rfl⟩
          have hely := validB_el HVM.out hjt hy
          have hpy := validB_pows HVM.out hjt hy
          obtain ⟨g2, off2, rfl, hg2, hc⟩ : ∃ g off, a2 = some ⟨g, off, none⟩ ∧ g < w.heap.size ∧ ∀ j : Nat, j < M.length → TAt w g (off + j * 4) (M.getD j default) := by
            obtain ⟨_, a', cap', he, h⟩ := HM.out
            injection he with e1 e2 e3
            subst e1
            rcases h with h | h
            · rw [h] at hjt; simp at hjt
            · exact h
          obtain ⟨b0, b1, b2, b3⟩ := (hc j hjt).below hb hg2
          rw [← hy] at b0 b1 b2 b3
          have hex := HEX.out
          have HMT := Lib.hid (fun w => by
            have := iMulT p x y w HPX.out hpy
            rw [mulV_is HP.out (isE_iff.2 (by omega)) (isE_iff.2 (by omega))] at this
            exact this)
          have HXK := Lib.hid (show addT p (mulTT p x y) (prodK p L M k j) = prodK p L M k (j + 1) by rw [HX.out, hy, prodK_next hjt])
          have HS := Lib.hid hS
          have HR := Lib.hid hR
          have HV2 := Lib.hid hv
          have HV3 := Lib.hid hvn
          have HT := Lib.hid hT
          have Hb := Lib.hid hb
          have Ha := Lib.hid (Below.alloc (Below.refl wr.heap.size wr) (Nat.le_refl _) (Obj.cells #[.int .i64 y.a, .int .i64 y.b, .int .i64 y.c, .int .i64 y.t] 68))
          obtain ⟨t0, t1, t2, t3⟩ := hT
          simp only [Nat.zero_add] at t0 t1 t2 t3
          clear hy hS hR hv hvn hb hc hely hpy hex
          go_wp2_with fail
          refine (HMT.out _).mono ?_
          rintro e w3 ⟨rfl, hb3⟩
          have Hr := Lib.hid (Ha.out.trans (hb3.mono Ha.out.size))
          have H3 := Lib.hid (Hb.out.trans (Hr.out.mono Hb.out.size))
          clear hb3
          go_wp2_with fail
          have hf := prodK_facts (p := p) HP.out (k := k) (j := j) hk hj hl1 hm1
          have hpb := isP_bd HP.out
          have hn3 : n < w3.heap.size := Nat.lt_of_lt_of_le hnw Hr.out.size
          refine (iPut w.heap.size S p v (prodK p L M k j) (mulTT p x y) w3 (HS.out.below Hr.out) (HR.out.below Hr.out) H3.out.size HP.out hf.1 hf.2.1 (isE_iff.2 (emod_bd hpb.1)) (by omega) HV2.out).mono ?_
          rintro e w4 hP4
          have hlow := hP4.low (HR.out.below Hr.out) hSB H3.out.size
          obtain ⟨rfl, v', hS', hR', hv', hk', hd'⟩ := hP4
          rw [HXK.out] at hR'
          have hTn : TAt w4 n 0 x := TAt.kept (HT.out.below Hr.out hnw) hk' hn3 (fun h => by
            rcases h with h | h
            · omega
            · exact HV3.out h)
          have hvn' : v'.ownBlock ≠ some n := by
            rcases hd' with h | ⟨q, h, hq⟩
            · rw [h]; exact HV3.out
            · rw [h]; intro e; injection e with e; omega
          have HQ := Lib.hid (And.intro hS' (And.intro hR' (And.intro hv' (And.intro hvn' (And.intro hTn (And.intro (Nat.lt_of_lt_of_le hn3 hk'.size) (H3.out.trans hlow)))))))
          clear hS' hR' hv' hvn' hTn hlow hf hk' hd' t0 t1 t2 t3
          go_wp2_with fail
          go_roundw
          case rel => exact ⟨j + 1, v', by omega, by go_num, HQ.out⟩
          case measure => simp [intOf]; omega
        · have hjl : j = M.length := by omega
          subst hjl
          rw [prodK_row hlt] at hR
          have HQ := Lib.hid (And.intro hS (And.intro hR (And.intro hv hb)))
          clear hS hR hv hvn hT hb
          go_wp2_with fail
          go_roundw
          case rel => exact ⟨k + 1, v, by omega, by go_num, HQ.out⟩
          case measure => simp [intOf]; omega
    · have hkl : k = L.length := by omega
      subst hkl
      have hf := prodK_facts (p := p) HP.out (k := L.length) (j := 0) (Nat.le_refl _) (Nat.zero_le _) hl1 hm1
      have hown := hR.own (by omega)
      rw [prodK_end, ← HRE.out] at hown
      obtain ⟨hl2, ao, co, rfl, _⟩ := hown.trms
      have HO := Lib.hid hown
      have HS := Lib.hid hS
      have Hb := Lib.hid hb
      have HT := Lib.hid (iPolyOf S p ao co R wr hS hown.trms)
      rw [HP.out, ← HBE.out] at HT
      clear hown hS hb hR hf hv
      cases b
      · have hz : R2 = [] := by rw [HR2.out]; rfl
        subst hz
        go_wp2_with (go_at_call 70; refine HT.out.mono ?_; rintro e w5 ⟨rfl, hb5⟩)
        have H5 := Lib.hid (Hb.out.trans (hb5.mono Hb.out.size))
        refine bodyPost_ret (v := .tuple #[.slice none 0 0, .bool false]) (by simp [results, Try.results29, go_sem]) rfl ⟨_, rfl, (Row.nil _ w.heap.size).own (by simp), H5.out⟩
      · have hz : R2 = R := by rw [HR2.out]; rfl
        subst hz
        go_wp2_with (go_at_call 70; refine HT.out.mono ?_; rintro e w5 ⟨rfl, hb5⟩)
        have H5 := Lib.hid (And.intro (HO.out.below hb5) (Hb.out.trans (hb5.mono Hb.out.size)))
        refine bodyPost_ret (v := .tuple #[.slice ao R2.length co, .bool true]) (by simp [results, Try.results29, go_sem]) rfl ⟨_, rfl, H5.out.1, H5.out.2⟩
end Go.Proofs.Ytiahcaihmgnicaa
