/-
  The exact law of MulPoly: the model's and the program's products of two polynomials, and the walk. Conditions: none but that the slices read as lists of terms.
  MakePoly, of the model and of the program. Conditions: what the slice holds is known.
  Sums and products of polynomials as lists of terms: order, values, degrees. Mathematics alone. Conditions: the lists are polynomials over one field.
  What the laws on sums and products say, of the contracts' values. Conditions: none.
  The laws' comparison of polynomials, at equal lists. Conditions: what the slices hold is known.
-/
import Derived.Test.YtoeghbcolpailaaGreatBa34
import Derived.Test.YtoeghbcolpailaaGreatBa1
import Derived.Test.YtoeghbcolpailaaGreatBa13
import Derived.Test.YtoeghbcolpailaaGreatBa27
import Derived.Test.YtoeghbcolpailaaGreatBa30
namespace Go.Proofs.YtoeghbcolpailaaGreat
open Go.RowKit
set_option maxRecDepth 100000 in
set_option maxHeartbeats 4000000 in
theorem sMulPoly_no (p : Int) (fv gv : Value) (L M : List Trm) (w : World) (hL : Trms w fv L) (hM : Trms w gv M) (hr : (okB p (fv, L) && okB p (gv, M)) = false) :
    Calls Tryz.prog 48 #[.int .i64 p, fv, gv] w (GivesPB [] false w) := by
  have HB := Lib.hid (bothAt p fv gv L M w hL hM false hr)
  clear hr
  obtain ⟨_, a, cap, rfl, _⟩ := hL
  obtain ⟨_, a2, cap2, rfl, _⟩ := hM
  go_enter Tryz.func48, Tryz.ntmps48
  go_wp2_with (go_at_call 65; refine HB.out.mono ?_; rintro e w2 ⟨rfl, hb2⟩)
  refine bodyPost_ret (v := .tuple #[.slice (some ⟨w2.heap.size, 0, none⟩) 0 0, .bool false]) (by simp [results, Tryz.results48, go_sem]) rfl ⟨_, rfl, (Row.lit0 w2 w.heap.size hb2.size).own (by simp), Below.alloc hb2 hb2.size _⟩
set_option maxRecDepth 100000 in
set_option maxHeartbeats 4000000 in
theorem sMulPoly_yes (p : Int) (fv gv : Value) (L M : List Trm) (w : World) (hL : Trms w fv L) (hM : Trms w gv M) (hp : isP p = true) (hVL : validB p L = true) (hVM : validB p M = true) :
    Calls Tryz.prog 48 #[.int .i64 p, fv, gv] w (GivesPB (if validB p (addAll p (prodT p L M) []) = true then addAll p (prodT p L M) [] else []) (validB p (addAll p (prodT p L M) [])) w) := by
  have HB := Lib.hid (bothAt p fv gv L M w hL hM true (by unfold okB; dsimp only; rw [hp, hVL, hVM]; rfl))
  obtain ⟨m0, a2, cap2, rfl, m1⟩ := hM
  obtain ⟨l0, a, cap, rfl, l1⟩ := hL
  have HS := Lib.hid (fun (w' : World) (hb : Below w.heap.size w w') => sProduct p a a2 cap cap2 L M w' hp (Trms.below ⟨l0, a, cap, rfl, l1⟩ hb) (Trms.below ⟨m0, a2, cap2, rfl, m1⟩ hb) hVL hVM)
  have HT := Lib.hid (fun (B : Nat) (v : Value) (w' : World) (hR : Row w' B v (addAll p (prodT p L M) [])) => sTold B p hp (addAll p (prodT p L M) []) v w' hR (by
    have h := (prodK_facts hp (k := L.length) (j := 0) (Nat.le_refl _) (Nat.zero_le _) (validB_len hVL) (validB_len hVM)).2.2
    rw [prodK_end] at h
    omega))
  clear m1 l1
  obtain ⟨R, hR⟩ : ∃ R, R = addAll p (prodT p L M) [] := ⟨_, rfl⟩
  rw [← hR] at HS HT ⊢
  obtain ⟨b, hb⟩ : ∃ b, b = validB p R := ⟨_, rfl⟩
  rw [← hb] at HT ⊢
  obtain ⟨R2, hR2⟩ : ∃ R2, R2 = (if b = true then R else []) := ⟨_, rfl⟩
  rw [← hR2] at HT ⊢
  clear hR hb hR2 hp hVL hVM
  go_enter Tryz.func48, Tryz.ntmps48
  go_wp2_with first
    | (go_at_call 65; refine HB.out.mono ?_; rintro e w2 ⟨rfl, hb2⟩)
    | (go_at_call 68; refine (HS.out _ hb2).mono ?_; rintro e w3 ⟨v3, rfl, hR3, hb3⟩)
    | (go_at_call 66; refine (HT.out _ _ _ hR3).mono ?_; rintro e w4 ⟨v4, rfl, ho4, hb4⟩)
  have h3 := hb2.trans (hb3.mono hb2.size)
  refine bodyPost_ret (v := .tuple #[v4, .bool b]) (by simp [results, Tryz.results48, go_sem]) rfl ⟨_, rfl, ownTrms_mono ho4 h3.size, h3.trans (hb4.mono h3.size)⟩
def mulOk (p : Int) (L M : List Trm) : Bool := ((isP p && validB p L) && (isP p && validB p M)) && validB p (addAll p (prodT p L M) [])
def mulL (p : Int) (L M : List Trm) : List Trm := if mulOk p L M = true then addAll p (prodT p L M) [] else []
theorem mulOk_no {p : Int} {L M : List Trm} (h : ((isP p && validB p L) && (isP p && validB p M)) = false) : mulOk p L M = false ∧ mulL p L M = [] := by
  have e : mulOk p L M = false := by unfold mulOk; rw [h]; rfl
  exact ⟨e, by unfold mulL; rw [e]; rfl⟩
theorem mulOk_yes {p : Int} {L M : List Trm} (h : ((isP p && validB p L) && (isP p && validB p M)) = true) : mulOk p L M = validB p (addAll p (prodT p L M) []) ∧ mulL p L M = (if validB p (addAll p (prodT p L M) []) = true then addAll p (prodT p L M) [] else []) := by
  have e : mulOk p L M = validB p (addAll p (prodT p L M) []) := by unfold mulOk; rw [h, Bool.true_and]
  exact ⟨e, by unfold mulL; rw [e]⟩
theorem sMulPoly (p : Int) (f g : Value) (L M : List Trm) (w : World) (hL : Trms w f L) (hM : Trms w g M) :
    Calls Tryz.prog 48 #[.int .i64 p, f, g] w (GivesPB (mulL p L M) (mulOk p L M) w) := by
  cases h : ((isP p && validB p L) && (isP p && validB p M))
  · rw [(mulOk_no h).1, (mulOk_no h).2]
    exact sMulPoly_no p f g L M w hL hM h
  · rw [(mulOk_yes h).1, (mulOk_yes h).2]
    simp only [Bool.and_eq_true] at h
    exact sMulPoly_yes p f g L M w hL hM h.1.1 h.1.2 h.2.2
theorem iMulPoly (p : Int) (f g : Value) (L M : List Trm) (w : World) (hL : Trms w f L) (hM : Trms w g M) :
    Calls Tryz.prog 58 #[.int .i64 p, f, g] w (GivesPB (mulL p L M) (mulOk p L M) w) := by
  cases h : ((isP p && validB p L) && (isP p && validB p M))
  · rw [(mulOk_no h).1, (mulOk_no h).2]
    exact iMulPoly_no p f g L M w hL hM h
  · rw [(mulOk_yes h).1, (mulOk_yes h).2]
    simp only [Bool.and_eq_true] at h
    exact iMulPoly_yes p f g L M w hL hM h.1.1 h.1.2 h.2.2
end Go.Proofs.YtoeghbcolpailaaGreat
namespace Go.Proofs.YtoeghbcolpailaaGreat
open Go.RowKit
/-- a term whose coefficient is made an element -/
def mkT (p : Int) (x : Trm) : Trm := ⟨x.a, x.b, x.c, x.t % p⟩
/-- the sum of the first k terms of a list -/
def mkK (p : Int) (L : List Trm) (k : Nat) : List Trm := addAll p ((L.take k).map (mkT p)) []
def pwB (x : Trm) : Bool := powsB x.a x.b x.c
theorem mkK_zero (p : Int) (L : List Trm) : mkK p L 0 = [] := by simp [mkK, addAll]
theorem mkK_next {p : Int} {L : List Trm} {k : Nat} (hk : k < L.length) : addT p (mkT p (L.getD k default)) (mkK p L k) = mkK p L (k + 1) := by
  unfold mkK
  rw [List.take_succ_eq_append_getElem hk, List.map_append, List.map_singleton, addAll_snoc]
  simp [List.getD_eq_getElem?_getD, hk]
theorem mkK_facts {p : Int} {L : List Trm} (hp : isP p = true) {k : Nat} (hk : k ≤ L.length) (hL : L.length ≤ 60) : Srt (mkK p L k) ∧ Els p (mkK p L k) ∧ (mkK p L k).length ≤ 60 := by
  have hb := isP_bd hp
  refine ⟨addAll_srt _ _ List.Pairwise.nil, addAll_els (by omega) _ _ (fun x hx => ?_) (fun y hy => by cases hy), ?_⟩
  · obtain ⟨z, _, rfl⟩ := List.mem_map.1 hx
    exact emod_bd hb.1
  · have := addAll_len (p := p) ((L.take k).map (mkT p)) []
    rw [List.length_map, List.length_take, List.length_nil] at this
    unfold mkK
    omega
theorem pw_snoc {L : List Trm} {k : Nat} (h : k < L.length) : (L.take (k + 1)).all pwB = ((L.take k).all pwB && pwB (L.getD k default)) := by
  rw [List.take_succ_eq_append_getElem h, List.all_append]
  simp [List.getD_eq_getElem?_getD, h]
theorem pw_no {L : List Trm} {k : Nat} (h : k < L.length) (hn : pwB (L.getD k default) = false) : L.all pwB = false := by
  rw [List.getD_eq_getElem?_getD, List.getElem?_eq_getElem h] at hn
  exact List.all_eq_false.2 ⟨_, List.getElem_mem h, by simpa using hn⟩
def makeOk (p : Int) (L : List Trm) : Bool := (isP p && decide (L.length ≤ 60)) && (L.all pwB && validB p (mkK p L L.length))
def makeV (p : Int) (L : List Trm) : List Trm := if makeOk p L = true then mkK p L L.length else []
set_option maxRecDepth 100000 in
set_option maxHeartbeats 4000000 in
theorem iMakePoly_no (p : Int) (a : Option Addr) (n cap : Nat) (w : World) (hr : (isP p && decide (n ≤ 60)) = false) :
    Calls Tryz.prog 59 #[.int .i64 p, .slice a n cap] w (GivesPB [] false w) := by
  cases hp : isP p
  · have HP := Lib.hid hp
    clear hr hp
    go_enter Tryz.func59, Tryz.ntmps59
    go_wp2_with (go_at_call 38; refine (iPV_no p _ HP.out).mono ?_; rintro e w' ⟨rfl, rfl⟩)
    refine bodyPost_ret (v := .tuple #[.slice none 0 0, .bool false]) (by simp [results, Tryz.results59, go_sem]) rfl ⟨_, rfl, (Row.nil w w.heap.size).own (by simp), Below.refl _ _⟩
  · have HP := Lib.hid hp
    have hn2 : (60 : Int) < (n : Int) := by rw [hp] at hr; simp at hr; omega
    clear hr hp
    go_enter Tryz.func59, Tryz.ntmps59
    go_wp2_with (go_at_call 38; refine (iPV_yes p _ HP.out).mono ?_; rintro e w' ⟨rfl, rfl⟩)
    refine bodyPost_ret (v := .tuple #[.slice none 0 0, .bool false]) (by simp [results, Tryz.results59, go_sem]) rfl ⟨_, rfl, (Row.nil w w.heap.size).own (by simp), Below.refl _ _⟩
set_option maxRecDepth 100000 in
set_option maxHeartbeats 8000000 in
theorem iMakePoly_yes (p : Int) (a : Option Addr) (cap : Nat) (L : List Trm) (w : World) (hp : isP p = true) (hl : L.length ≤ 60) (hL : Trms w (.slice a L.length cap) L) (R : List Trm) (b : Bool) (hR : R = makeV p L) (hb : b = makeOk p L) :
    Calls Tryz.prog 59 #[.int .i64 p, .slice a L.length cap] w (GivesPB R b w) := by
  have HP := Lib.hid hp
  have HL := Lib.hid hL
  have HRE := Lib.hid hR
  have HBE := Lib.hid hb
  have hl1 : (L.length : Int) ≤ 60 := by omega
  clear hp hL hR hb
  go_enter Tryz.func59, Tryz.ntmps59
  go_wp2_with (go_at_call 38; refine (iPV_yes p _ HP.out).mono ?_; rintro e w' ⟨rfl, rfl⟩)
  obtain ⟨W, hW⟩ : ∃ W, W = w.alloc (Obj.cells #[.int .i64 p, .slice none 0 0] 116) := ⟨_, rfl⟩
  obtain ⟨S, hSe⟩ : ∃ S, S = w.heap.size := ⟨_, rfl⟩
  have hSB : w.heap.size ≤ S := by rw [hSe]; exact Nat.le_refl _
  have HW := Lib.hid (show SumW W S p (.slice none 0 0) ∧ Row W w.heap.size (.slice none 0 0) (mkK p L 0) ∧ Value.ownBlock (.slice none 0 0) ≠ some S ∧ Below w.heap.size w W by
    rw [hW, hSe, mkK_zero]
    exact ⟨⟨by simp [go_sem], by simp [go_sem], World.frozen?_alloc_at _ _ _ 0 rfl, World.frozen?_alloc_at _ _ _ 1 rfl, by simp⟩, Row.nil _ _, by simp [Value.ownBlock], Below.alloc (Below.refl _ _) (Nat.le_refl _) _⟩)
  rw [← hW, ← hSe]
  clear hSe hW
  go_loopw [21] (fun i wr => ∃ (k : Nat) (v : Value), k ≤ L.length ∧ i = .int .i64 k ∧ (L.take k).all pwB = true ∧ SumW wr S p v ∧ Row wr w.heap.size v (mkK p L k) ∧ v.ownBlock ≠ some S ∧ Below w.heap.size w wr) (fun i _ => L.length - (intOf i).toNat)
  case atStart => exact ⟨0, _, by omega, rfl, by simp, HW.out⟩
  case round =>
    clear HW
    obtain ⟨k, v, hk, rfl, hpw, hS, hR, hv, hb⟩ := hrel
    by_cases hlt : k < L.length
    · have hltp : (k : Int) < (L.length : Int) := by omega
      have hk0 : (0 : Int) ≤ (k : Int) := by omega
      obtain ⟨x, hx⟩ : ∃ x, x = L.getD k default := ⟨_, rfl⟩
      obtain ⟨g, off, rfl, hg, hc⟩ : ∃ g off, a = some ⟨g, off, none⟩ ∧ g < w.heap.size ∧ ∀ j : Nat, j < L.length → TAt w g (off + j * 4) (L.getD j default) := by
        obtain ⟨_, a', cap', he, h⟩ := HL.out
        injection he with e1 e2 e3
        subst e1
        rcases h with h | h
        · rw [h] at hlt; simp at hlt
        · exact h
      obtain ⟨b0, b1, b2, b3⟩ := (hc k hlt).below hb hg
      rw [← hx] at b0 b1 b2 b3
      have HV2 := Lib.hid hv
      obtain ⟨n, hne⟩ : ∃ n, n = wr.heap.size := ⟨_, rfl⟩
      obtain ⟨W1, hW1⟩ : ∃ W1, W1 = wr.alloc (Obj.cells #[.int .i64 x.a, .int .i64 x.b, .int .i64 x.c, .int .i64 x.t] 55) := ⟨_, rfl⟩
      have hr1 : Below wr.heap.size wr W1 := by rw [hW1]; exact Below.alloc (Below.refl _ _) (Nat.le_refl _) _
      have hT1 : TAt W1 n 0 x := by rw [hW1, hne]; refine ⟨?_, ?_, ?_, ?_⟩ <;> simp [go_sem]
      have hn1 : n < W1.heap.size := by rw [hW1, hne]; simp
      have hf1 : ∀ i, W1.frozen? ⟨n, i, none⟩ = false := fun i => by rw [hW1, hne]; exact World.frozen?_alloc_at _ _ _ i rfl
      have hnv : v.ownBlock ≠ some n := fun e => by have := (World.ownsRow.lt hR _ e).2; omega
      have hSn : S < n := by rw [hne]; exact hS.sz
      have hwn : w.heap.size ≤ n := by rw [hne]; exact hb.size
      have HF := Lib.hid (fun W' (hb' : Below W1.heap.size W1 W') => show TAt W' n 0 x ∧ W'.frozen? ⟨n, 3, none⟩ = false ∧ n < W'.heap.size ∧ SumW W' S p v ∧ Row W' w.heap.size v (mkK p L k) ∧ Below w.heap.size w W' from
        ⟨hT1.below hb' hn1, by rw [hb'.frozen (p := ⟨n, 3, none⟩) hn1]; exact hf1 3, Nat.lt_of_lt_of_le hn1 hb'.size, (hS.below hr1).below hb', (hR.below hr1).below hb', (hb.trans (hr1.mono hb.size)).trans (hb'.mono (Nat.le_trans hb.size hr1.size))⟩)
      have HW1 := Lib.hid hW1
      have HNV := Lib.hid (And.intro hnv (And.intro hSn hwn))
      obtain ⟨t0, t1, t2, t3⟩ := hT1
      simp only [Nat.zero_add] at t0 t1 t2 t3
      have HFit := Lib.hid (fun w => iFit x.a x.b x.c x.t w)
      cases hpx : pwB x
      · rw [show powsB x.a x.b x.c = false from hpx] at HFit
        have HE := Lib.hid (show makeOk p L = false by unfold makeOk; rw [pw_no hlt (by rw [← hx]; exact hpx)]; simp)
        have hz : b = false := by rw [HBE.out, HE.out]
        have hz2 : R = [] := by rw [HRE.out]; unfold makeV; rw [HE.out]; rfl
        subst hz hz2
        clear hx hS hR hv hb hc hpw hpx hr1 hW1 hf1 hn1 hnv hSn hwn
        go_wp2_with fail
        rw [← HW1.out, ← hne]
        clear hne
        go_wp2_with fail
        refine (HFit.out _).mono ?_
        rintro e w2 ⟨rfl, hb2⟩
        have HQ := Lib.hid (HF.out w2 hb2).2.2.2.2.2
        clear hb2 t0 t1 t2 t3
        go_wp2_with fail
        refine bodyPost_ret (v := .tuple #[.slice none 0 0, .bool false]) (by simp [results, Tryz.results59, go_sem]) rfl ⟨_, rfl, (Row.nil w2 w.heap.size).own (by simp), HQ.out⟩
      · rw [show powsB x.a x.b x.c = true from hpx] at HFit
        have HXK := Lib.hid (show addT p (mkT p x) (mkK p L k) = mkK p L (k + 1) by rw [hx, mkK_next hlt])
        have HPK := Lib.hid (show (L.take (k + 1)).all pwB = true by rw [pw_snoc hlt, hpw, ← hx, hpx]; rfl)
        clear hx hS hR hv hb hc hpw hpx hr1 hW1 hf1 hn1 hnv hSn hwn
        go_wp2_with fail
        rw [← HW1.out, ← hne]
        clear hne
        go_wp2_with fail
        refine (HFit.out _).mono ?_
        rintro e w2 ⟨rfl, hb2⟩
        clear t0 t1 t2 t3
        obtain ⟨⟨t0, t1, t2, t3⟩, f3, hn2, -, -, -⟩ := HF.out w2 hb2
        simp only [Nat.zero_add] at t0 t1 t2 t3
        have HB2 := Lib.hid hb2
        clear hb2
        go_wp2_with fail
        refine (iRed p x.t _ HP.out).mono ?_
        rintro e w3 ⟨rfl, rfl⟩
        go_wp2_with fail
        obtain ⟨hT2, -, hn2', hS2, hR2, hB2⟩ := HF.out w2 HB2.out
        obtain ⟨hv0, hSn, hwn⟩ := HNV.out
        obtain ⟨W3, hW3⟩ : ∃ W3, W3 = w2.setCell ⟨n, 3, none⟩ (.int .i64 (x.t % p)) := ⟨_, rfl⟩
        have hS3 : SumW W3 S p v := by
          rw [hW3]
          have ne : ∀ i, (⟨n, 3, none⟩ : Addr) ≠ ⟨S, i, none⟩ := fun i e => by have := congrArg Addr.block e; simp at this; omega
          exact ⟨by rw [World.cell?_setCell_other _ _ _ _ (ne 0)]; exact hS2.c0, by rw [World.cell?_setCell_other _ _ _ _ (ne 1)]; exact hS2.c1, by rw [World.frozen?_setCell]; exact hS2.f0, by rw [World.frozen?_setCell]; exact hS2.f1, by simpa using hS2.sz⟩
        have hR3 : Row W3 w.heap.size v (mkK p L k) := by
          rw [hW3]
          exact World.ownsRow.kept (row := some n) hR2 ⟨rfl, rfl, rfl, by simp, fun k hk hne => Below.heap_setCell _ _ _ _ (fun e => hne (by rw [e]))⟩ (.inr hv0)
        have hB3 : Below w.heap.size w W3 := by rw [hW3]; exact hB2.setCell hwn _
        have hc3 : W3.cell? ⟨n, 0, none⟩ = some (.int .i64 x.a) ∧ W3.cell? ⟨n, 1, none⟩ = some (.int .i64 x.b) ∧ W3.cell? ⟨n, 2, none⟩ = some (.int .i64 x.c) ∧ W3.cell? ⟨n, 3, none⟩ = some (.int .i64 (x.t % p)) := by
          rw [hW3]
          refine ⟨?_, ?_, ?_, World.cell?_setCell_same _ _ _ t3⟩
          · rw [World.cell?_setCell_other _ _ _ _ (by simp)]; exact t0
          · rw [World.cell?_setCell_other _ _ _ _ (by simp)]; exact t1
          · rw [World.cell?_setCell_other _ _ _ _ (by simp)]; exact t2
        have H3 := Lib.hid (And.intro hS3 (And.intro hR3 hB3))
        rw [← hW3]
        clear t0 t1 t2 t3 f3 hT2 hS2 hR2 hB2 hS3 hR3 hB3 hW3 hv0
        obtain ⟨t0, t1, t2, t3⟩ := hc3
        go_wp2_with fail
        have hf := mkK_facts (p := p) (L := L) HP.out hk hl
        have hpb := isP_bd HP.out
        refine (iPut w.heap.size S p v (mkK p L k) (mkT p x) W3 H3.out.1 H3.out.2.1 H3.out.2.2.size HP.out hf.1 hf.2.1 (isE_iff.2 (emod_bd hpb.1)) (by omega) HV2.out).mono ?_
        rintro e w4 hP4
        have hlow := hP4.low H3.out.2.1 hSB H3.out.2.2.size
        obtain ⟨rfl, v', hS', hR', hv', _, _⟩ := hP4
        rw [HXK.out] at hR'
        have HQ := Lib.hid (And.intro HPK.out (And.intro hS' (And.intro hR' (And.intro hv' (H3.out.2.2.trans hlow)))))
        clear hS' hR' hv' hlow hf hpb t0 t1 t2 t3
        go_wp2_with fail
        go_roundw
        case rel => exact ⟨k + 1, v', by omega, by go_num, HQ.out⟩
        case measure => simp [intOf]; omega
    · have hkl : k = L.length := by omega
      subst hkl
      rw [List.take_length] at hpw
      have hok : makeOk p L = validB p (mkK p L L.length) := by unfold makeOk; rw [HP.out, hpw, decide_eq_true hl]; rfl
      have hb1 : b = validB p (mkK p L L.length) := by rw [HBE.out, hok]
      have hR1 : R = if b = true then mkK p L L.length else [] := by rw [HRE.out]; unfold makeV; rw [hok, hb1]
      have hf := mkK_facts (p := p) (L := L) HP.out (Nat.le_refl _) hl
      have hown := hR.own (by omega)
      obtain ⟨M, hM⟩ : ∃ M, M = mkK p L L.length := ⟨_, rfl⟩
      rw [← hM] at hown hb1 hR1
      obtain ⟨hl2, ao, co, rfl, _⟩ := hown.trms
      have HO := Lib.hid hown
      have Hb := Lib.hid hb
      have HT := Lib.hid (iPolyOf S p ao co M wr hS hown.trms)
      rw [HP.out, ← hb1] at HT
      clear hown hS hb hR hf hv hpw hok hM
      cases b
      · have hz : R = [] := by rw [hR1]; rfl
        subst hz
        clear hb1 hR1
        go_wp2_with (go_at_call 75; refine HT.out.mono ?_; rintro e w5 ⟨rfl, hb5⟩)
        have H5 := Lib.hid (Hb.out.trans (hb5.mono Hb.out.size))
        refine bodyPost_ret (v := .tuple #[.slice none 0 0, .bool false]) (by simp [results, Tryz.results59, go_sem]) rfl ⟨_, rfl, (Row.nil _ w.heap.size).own (by simp), H5.out⟩
      · have hz : R = M := by rw [hR1]; rfl
        subst hz
        clear hb1 hR1
        go_wp2_with (go_at_call 75; refine HT.out.mono ?_; rintro e w5 ⟨rfl, hb5⟩)
        have H5 := Lib.hid (And.intro (HO.out.below hb5) (Hb.out.trans (hb5.mono Hb.out.size)))
        refine bodyPost_ret (v := .tuple #[.slice ao R.length co, .bool true]) (by simp [results, Tryz.results59, go_sem]) rfl ⟨_, rfl, H5.out.1, H5.out.2⟩
theorem makeOk_no {p : Int} {L : List Trm} (h : (isP p && decide (L.length ≤ 60)) = false) : makeOk p L = false ∧ makeV p L = [] := by
  have e : makeOk p L = false := by unfold makeOk; rw [h]; rfl
  exact ⟨e, by unfold makeV; rw [e]; rfl⟩
theorem iMakePoly (p : Int) (f : Value) (L : List Trm) (w : World) (hL : Trms w f L) : Calls Tryz.prog 59 #[.int .i64 p, f] w (GivesPB (makeV p L) (makeOk p L) w) := by
  obtain ⟨l0, a, cap, rfl, l1⟩ := hL
  cases h : (isP p && decide (L.length ≤ 60))
  · rw [(makeOk_no h).1, (makeOk_no h).2]
    exact iMakePoly_no p a L.length cap w h
  · simp only [Bool.and_eq_true, decide_eq_true_eq] at h
    exact iMakePoly_yes p a cap L w h.1 h.2 ⟨l0, a, cap, rfl, l1⟩ _ _ rfl rfl
end Go.Proofs.YtoeghbcolpailaaGreat
namespace Go.Proofs.YtoeghbcolpailaaGreat
theorem addAll_eq {p : Int} (hp : 0 < p) {xs ys L M : List Trm} (hL : Srt L) (hM : Srt M) (eL : Els p L) (eM : Els p M) (hx : ∀ x ∈ xs, 0 ≤ x.t ∧ x.t < p) (hy : ∀ x ∈ ys, 0 ≤ x.t ∧ x.t < p)
    (h : ∀ m, Cg p (wS m L + wS m xs) (wS m M + wS m ys)) : addAll p xs L = addAll p ys M :=
  ind_inj (addAll_srt _ _ hL) (addAll_srt _ _ hM) (addAll_els hp _ _ hx eL) (addAll_els hp _ _ hy eM) fun _ _ _ => (wS_addAll _ _ _).trans ((h _).trans (wS_addAll _ _ _).symm)
theorem addAll_is {p : Int} (hp : 0 < p) {xs L M : List Trm} (hL : Srt L) (hM : Srt M) (eL : Els p L) (eM : Els p M) (hx : ∀ x ∈ xs, 0 ≤ x.t ∧ x.t < p)
    (h : ∀ m, Cg p (wS m L + wS m xs) (wS m M)) : addAll p xs L = M :=
  ind_inj (addAll_srt _ _ hL) hM (addAll_els hp _ _ hx eL) eM fun _ _ _ => (wS_addAll _ _ _).trans (h _)
theorem els_in {p : Int} {L : List Trm} (h : Els p L) : ∀ x ∈ L, 0 ≤ x.t ∧ x.t < p := fun x hx => by have := h x hx; omega
/-- the powers in a sum are those of what was added -/
theorem addT_mem {p : Int} {x y : Trm} {L : List Trm} (h : y ∈ addT p x L) : y ∈ L ∨ (x.t ≠ 0 ∧ y.a = x.a ∧ y.b = x.b ∧ y.c = x.c) := by
  unfold addT at h
  split at h
  · exact .inl h
  · rename_i h0
    split at h
    · split at h
      · rcases List.mem_append.1 h with h | h
        · exact .inl (List.mem_of_mem_take h)
        · exact .inl (List.mem_of_mem_drop h)
      · rcases List.mem_append.1 h with h | h
        · exact .inl (List.mem_of_mem_take h)
        · rcases List.mem_cons.1 h with rfl | h
          · exact .inr ⟨h0, rfl, rfl, rfl⟩
          · exact .inl (List.mem_of_mem_drop h)
    · rcases List.mem_append.1 h with h | h
      · exact .inl (List.mem_of_mem_take h)
      · rcases List.mem_cons.1 h with rfl | h
        · exact .inr ⟨h0, rfl, rfl, rfl⟩
        · exact .inl (List.mem_of_mem_drop h)
theorem addAll_mem {p : Int} {y : Trm} : ∀ {xs L : List Trm}, y ∈ addAll p xs L → y ∈ L ∨ ∃ x ∈ xs, x.t ≠ 0 ∧ y.a = x.a ∧ y.b = x.b ∧ y.c = x.c
  | [], _, h => .inl h
  | x :: xs, L, h => by
    rcases addAll_mem (xs := xs) (L := addT p x L) h with h | ⟨z, hz, h⟩
    · rcases addT_mem h with h | h
      · exact .inl h
      · exact .inr ⟨x, List.mem_cons_self .., h⟩
    · exact .inr ⟨z, List.mem_cons_of_mem _ hz, h⟩
theorem ind_mem {p a b c : Int} {L : List Trm} (h : ¬ Cg p (wS (indM a b c) L) 0) : ∃ y ∈ L, y.a = a ∧ y.b = b ∧ y.c = c := by
  apply Classical.byContradiction
  intro hn
  exact h (Cg.of_eq (ind_none fun y hy e => hn ⟨y, hy, e⟩))
/-- the greatest of some numbers of terms, -1 of none -/
def topK (f : Trm → Int) (L : List Trm) : Nat → Int
  | 0 => -1
  | k + 1 => if topK f L k < f (L.getD k default) then f (L.getD k default) else topK f L k
theorem topK_deg (L : List Trm) : ∀ k, degK L k = topK degT L k
  | 0 => rfl
  | k + 1 => by unfold degK topK; rw [topK_deg L k]
theorem topK_in (L : List Trm) (v : Int) : ∀ k, degI L v k = topK (pw v) L k
  | 0 => rfl
  | k + 1 => by unfold degI topK; rw [topK_in L v k]
theorem topK_le {f : Trm → Int} {L : List Trm} {d : Int} (hd : -1 ≤ d) (h : ∀ y ∈ L, f y ≤ d) : ∀ k, k ≤ L.length → topK f L k ≤ d
  | 0, _ => hd
  | k + 1, hk => by
    have ih := topK_le hd h k (by omega)
    unfold topK
    split
    · exact h _ (by simp [List.getD_eq_getElem?_getD, List.getElem?_eq_getElem (show k < L.length by omega)])
    · exact ih
theorem topK_mono {f : Trm → Int} {L : List Trm} {j : Nat} : ∀ k, j < k → f (L.getD j default) ≤ topK f L k
  | 0, h => by omega
  | k + 1, h => by
    by_cases e : j = k
    · subst e
      unfold topK
      split <;> omega
    · have := topK_mono (f := f) (L := L) (j := j) k (by omega)
      unfold topK
      split <;> omega
theorem topK_ge {f : Trm → Int} {L : List Trm} {y : Trm} (h : y ∈ L) : f y ≤ topK f L L.length := by
  obtain ⟨j, hj, rfl⟩ := List.getElem_of_mem h
  have := topK_mono (f := f) (L := L) L.length hj
  simpa [List.getD_eq_getElem?_getD, hj] using this
theorem topK_min (f : Trm → Int) (L : List Trm) : ∀ k, -1 ≤ topK f L k
  | 0 => Int.le_refl _
  | k + 1 => by
    have := topK_min f L k
    unfold topK
    split <;> omega
/-- the one that is reached -/
theorem topK_at {f : Trm → Int} {L : List Trm} : ∀ k, k ≤ L.length → 0 ≤ topK f L k → ∃ y ∈ L, f y = topK f L k
  | 0, _, h => absurd (show (0 : Int) ≤ -1 from h) (by decide)
  | k + 1, hk, h => by
    unfold topK at h ⊢
    split
    · exact ⟨_, by simp [List.getD_eq_getElem?_getD, List.getElem?_eq_getElem (show k < L.length by omega)], rfl⟩
    · rename_i hn
      rw [if_neg hn] at h
      exact topK_at k (by omega) h
theorem validB_mem {p : Int} {L : List Trm} (h : validB p L = true) {y : Trm} (hy : y ∈ L) : (0 ≤ y.a ∧ y.a ≤ 9) ∧ (0 ≤ y.b ∧ y.b ≤ 9) ∧ (0 ≤ y.c ∧ y.c ≤ 9) := by
  obtain ⟨k, hk, rfl⟩ := List.getElem_of_mem hy
  exact validB_pows h hk (x := L[k]) (by simp [List.getD_eq_getElem?_getD, hk])
/-- the powers of a point -/
def mon (x y z : Int) : Int → Int → Int → Int := fun a b c => x ^ a.toNat * y ^ b.toNat * z ^ c.toNat
theorem valT_cg (p x y z : Int) (T : Trm) : Cg p (valT p x y z T) (T.t * mon x y z T.a T.b T.c) := by
  unfold valT mon
  refine (Cg.mod _ _).trans ?_
  refine (Cg.mul ((Cg.mod _ _).trans (Cg.mul ((Cg.mod _ _).trans (Cg.mul (Cg.refl p T.t) (Cg.mod p _))) (Cg.mod p _))) (Cg.mod p _)).trans (Cg.of_eq ?_)
  grind
theorem evK_cg (p x y z : Int) (L : List Trm) : ∀ k, k ≤ L.length → Cg p (evK p x y z L k) (wS (mon x y z) (L.take k))
  | 0, _ => Cg.of_eq (by simp [evK, wS])
  | k + 1, hk => by
    have ih := evK_cg p x y z L k (by omega)
    rw [List.take_succ_eq_append_getElem (show k < L.length by omega), wS_app]
    unfold evK
    refine (Cg.mod _ _).trans (ih.add ?_)
    rw [show L.getD k default = L[k] by simp [List.getD_eq_getElem?_getD, List.getElem?_eq_getElem (show k < L.length by omega)]]
    exact (valT_cg ..).trans (Cg.of_eq (by simp [wS]))
theorem evK_all (p x y z : Int) (L : List Trm) : Cg p (evK p x y z L L.length) (wS (mon x y z) L) := by
  have := evK_cg p x y z L L.length (Nat.le_refl _)
  rwa [List.take_length] at this
/-- the value is known by the sum -/
theorem evK_is {p x y z n : Int} {L : List Trm} (hp : isP p = true) (h : Cg p (wS (mon x y z) L) n) (hn : 0 ≤ n ∧ n < p) : evK p x y z L L.length = n :=
  ((evK_all p x y z L).trans h).eq (evK_bd hp x y z L L.length) hn
theorem scl_wS {p a : Int} {L : List Trm} (m : Int → Int → Int → Int) : Cg p (wS m (sclL p a L)) (a * wS m L) := by
  unfold sclL
  split
  · rename_i h
    rw [h]
    exact Cg.of_eq (by simp [wS])
  · rw [wS_map, wS_sum, ← sumI_mul]
    refine sumI_cg fun x _ => ?_
    unfold sclT
    exact ((Cg.mod p _).mul (Cg.refl _ _)).trans (Cg.of_eq (by grind))
/-- the sum of two polynomials, the other way round -/
theorem add_comm {p : Int} (hp : isP p = true) {L M : List Trm} (hL : validB p L = true) (hM : validB p M = true) : addAll p L M = addAll p M L :=
  have hb := isP_bd hp
  addAll_eq (by omega) (validB_srt hM) (validB_srt hL) (validB_els hM) (validB_els hL) (els_in (validB_els hL)) (els_in (validB_els hM)) fun _ => Cg.of_eq (by omega)
/-- what was added is taken away -/
theorem add_back {p : Int} (hp : isP p = true) {L M : List Trm} (hL : validB p L = true) (hM : validB p M = true) : addAll p (sclL p (p - 1) M) (addAll p M L) = L := by
  have hb := isP_bd hp
  have hs : validB p (sclL p (p - 1) M) = true := scl_valid hp (isE_iff.2 (by omega)) hM
  refine addAll_is (by omega) (addAll_srt _ _ (validB_srt hL)) (validB_srt hL) (addAll_els (by omega) _ _ (els_in (validB_els hM)) (validB_els hL)) (validB_els hL) (els_in (validB_els hs)) fun m => ?_
  refine ((wS_addAll m _ _).add (scl_wS m)).trans ⟨wS m M, ?_⟩
  grind
theorem add_ev {p x y z : Int} (hp : isP p = true) {L M : List Trm} : evK p x y z (addAll p M L) (addAll p M L).length = (evK p x y z L L.length + evK p x y z M M.length) % p := by
  have hb := isP_bd hp
  exact evK_is hp ((wS_addAll _ _ _).trans (((evK_all p x y z L).symm.add (evK_all p x y z M).symm).trans (Cg.mod _ _).symm)) (emod_bd (by omega))
theorem add_top {p : Int} (f : Trm → Int) (hf : ∀ x y : Trm, x.a = y.a → x.b = y.b → x.c = y.c → f x = f y) {L M : List Trm} : topK f (addAll p M L) (addAll p M L).length ≤ max (topK f L L.length) (topK f M M.length) := by
  have h1 := topK_min f L L.length
  have h2 := topK_min f M M.length
  refine topK_le (by omega) (fun y hy => ?_) _ (Nat.le_refl _)
  rcases addAll_mem hy with h | ⟨x, hx, _, e1, e2, e3⟩
  · have := topK_ge (f := f) h
    omega
  · have := topK_ge (f := f) hx
    have := hf y x e1 e2 e3
    omega
theorem degT_eq (x y : Trm) (h1 : x.a = y.a) (h2 : x.b = y.b) (h3 : x.c = y.c) : degT x = degT y := by unfold degT; omega
theorem pw_eq (v : Int) (x y : Trm) (h1 : x.a = y.a) (h2 : x.b = y.b) (h3 : x.c = y.c) : pw v x = pw v y := by
  unfold pw
  repeat' split
  all_goals assumption
/-- products of lists of terms -/
theorem prod_wS {p : Int} (m : Int → Int → Int → Int) (L M : List Trm) : Cg p (wS m (prodT p L M)) (sumI (fun x => sumI (fun y => x.t * y.t * m (x.a + y.a) (x.b + y.b) (x.c + y.c)) M) L) := by
  unfold prodT
  rw [wS_bind]
  refine sumI_cg fun x _ => ?_
  rw [wS_map]
  exact sumI_cg fun y _ => (Cg.mod p _).mul (Cg.refl _ _)
theorem prod_in {p : Int} (hp : 0 < p) {L M : List Trm} : ∀ x ∈ prodT p L M, 0 ≤ x.t ∧ x.t < p := by
  intro x hx
  obtain ⟨y, _, h⟩ := List.mem_flatMap.1 hx
  obtain ⟨z, _, rfl⟩ := List.mem_map.1 h
  exact ⟨Int.emod_nonneg _ (by omega), Int.emod_lt_of_pos _ hp⟩
theorem mul_comm' {p : Int} (hp : isP p = true) {L M : List Trm} : addAll p (prodT p M L) [] = addAll p (prodT p L M) [] := by
  have hb := isP_bd hp
  refine addAll_eq (by omega) List.Pairwise.nil List.Pairwise.nil (fun _ h => by cases h) (fun _ h => by cases h) (prod_in (by omega)) (prod_in (by omega)) fun m => (Cg.refl p _).add ?_
  refine (prod_wS m M L).trans (Cg.trans (Cg.of_eq ?_) (prod_wS m L M).symm)
  rw [sumI_swap]
  exact sumI_congr fun x _ => sumI_congr fun y _ => by rw [Int.mul_comm y.t, Int.add_comm y.a, Int.add_comm y.b, Int.add_comm y.c]
theorem mon_add {x y z a b c d e f : Int} (ha : 0 ≤ a) (hb : 0 ≤ b) (hc : 0 ≤ c) (hd : 0 ≤ d) (he : 0 ≤ e) (hf : 0 ≤ f) : mon x y z (a + d) (b + e) (c + f) = mon x y z a b c * mon x y z d e f := by
  unfold mon
  rw [Int.toNat_add ha hd, Int.toNat_add hb he, Int.toNat_add hc hf, Int.pow_add, Int.pow_add, Int.pow_add]
  grind
theorem mul_ev {p x y z : Int} (hp : isP p = true) {L M : List Trm} (hL : validB p L = true) (hM : validB p M = true) : evK p x y z (addAll p (prodT p L M) []) (addAll p (prodT p L M) []).length = (evK p x y z L L.length * evK p x y z M M.length) % p := by
  have hb := isP_bd hp
  refine evK_is hp ((wS_addAll _ _ _).trans ?_) (emod_bd (by omega))
  refine Cg.trans ?_ (((evK_all p x y z L).symm.mul (evK_all p x y z M).symm).trans (Cg.mod _ _).symm)
  refine ((Cg.refl p _).add (prod_wS _ L M)).trans (Cg.of_eq ?_)
  rw [show wS (mon x y z) [] = 0 from rfl, Int.zero_add, wS_sum, wS_sum, Int.mul_comm, ← sumI_mul]
  refine sumI_congr fun u hu => ?_
  rw [Int.mul_comm, ← sumI_mul]
  refine sumI_congr fun v hv => ?_
  obtain ⟨⟨a0, _⟩, ⟨b0, _⟩, ⟨c0, _⟩⟩ := validB_mem hL hu
  obtain ⟨⟨d0, _⟩, ⟨e0, _⟩, ⟨f0, _⟩⟩ := validB_mem hM hv
  rw [mon_add a0 b0 c0 d0 e0 f0]
  grind
/-- the term that stands first by a weight, and by the order of powers -/
theorem top_one (f : Trm → Int) : ∀ {L : List Trm}, Srt L → L ≠ [] → ∃ x ∈ L, ∀ y ∈ L, f y < f x ∨ (f y = f x ∧ (y = x ∨ bef x y = true))
  | [], _, h => absurd rfl h
  | [x], _, _ => ⟨x, List.mem_cons_self .., fun y hy => .inr (by
    have e : y = x := by simpa using hy
    subst e
    exact ⟨rfl, .inl rfl⟩)⟩
  | x :: z :: r, hs, _ => by
    obtain ⟨u, hu, h⟩ := top_one f (L := z :: r) (List.pairwise_cons.1 hs).2 (by simp)
    have hxu := (List.pairwise_cons.1 hs).1 u hu
    by_cases hle : f u ≤ f x
    · refine ⟨x, List.mem_cons_self .., fun y hy => ?_⟩
      rcases List.mem_cons.1 hy with rfl | hy
      · exact .inr ⟨rfl, .inl rfl⟩
      · have hxy := (List.pairwise_cons.1 hs).1 y hy
        rcases h y hy with h | ⟨h, _⟩
        · exact .inl (by omega)
        · by_cases e : f u = f x
          · exact .inr ⟨by omega, .inr hxy⟩
          · exact .inl (by omega)
    · refine ⟨u, List.mem_cons_of_mem _ hu, fun y hy => ?_⟩
      rcases List.mem_cons.1 hy with rfl | hy
      · exact .inl (by omega)
      · exact h y hy
theorem top_is {f : Trm → Int} {L : List Trm} {x : Trm} (hx : x ∈ L) (h0 : ∀ y ∈ L, 0 ≤ f y) (h : ∀ y ∈ L, f y < f x ∨ (f y = f x ∧ (y = x ∨ bef x y = true))) : topK f L L.length = f x := by
  have h1 := topK_ge (f := f) hx
  have h2 := topK_le (f := f) (L := L) (d := f x) (by have := h0 x hx; omega) (fun y hy => by rcases h y hy with h | h <;> omega) L.length (Nat.le_refl _)
  omega
theorem sumI_one {α : Type} {g : α → Int} {x : α} : ∀ {l : List α}, l.Pairwise (fun u v => u ≠ v) → x ∈ l → (∀ y ∈ l, y ≠ x → g y = 0) → sumI g l = g x
  | [], _, h, _ => by cases h
  | u :: r, hn, hx, h => by
    have hnr := List.pairwise_cons.1 hn
    show g u + sumI g r = g x
    by_cases e : u = x
    · subst e
      rw [show sumI g r = sumI (fun _ => 0) r from sumI_congr fun y hy => h y (List.mem_cons_of_mem _ hy) (fun e => hnr.1 y hy e.symm), sumI_zero]
      omega
    · rcases List.mem_cons.1 hx with rfl | hx
      · exact absurd rfl e
      · rw [h u (List.mem_cons_self ..) e, sumI_one hnr.2 hx fun y hy => h y (List.mem_cons_of_mem _ hy)]
        omega
theorem srt_ne {L : List Trm} (h : Srt L) : L.Pairwise (fun u v => u ≠ v) := h.imp fun {u v} hb e => by subst e; rw [bef_iff] at hb; omega
/-- the first terms of two polynomials make one of the product that does not fall away -/
theorem mul_top {p : Int} (hp : isP p = true) {f : Trm → Int} (hf : ∀ x y : Trm, f (mulTT p x y) = f x + f y) (he : ∀ x y : Trm, x.a = y.a → x.b = y.b → x.c = y.c → f x = f y) {L M : List Trm} (hL : validB p L = true) (hM : validB p M = true)
    (pL : ∀ y ∈ L, 0 ≤ f y) (pM : ∀ y ∈ M, 0 ≤ f y) (nL : L ≠ []) (nM : M ≠ []) :
    topK f (addAll p (prodT p L M) []) (addAll p (prodT p L M) []).length = topK f L L.length + topK f M M.length := by
  have hb := isP_bd hp
  obtain ⟨x, hx, tx⟩ := top_one f (validB_srt hL) nL
  obtain ⟨y, hy, ty⟩ := top_one f (validB_srt hM) nM
  rw [top_is hx pL tx, top_is hy pM ty]
  obtain ⟨H, hH⟩ : ∃ H, H = addAll p (prodT p L M) [] := ⟨_, rfl⟩
  rw [← hH]
  have px := pL x hx
  have py := pM y hy
  have hle : topK f H H.length ≤ f x + f y := by
    refine topK_le (by omega) (fun h hh => ?_) _ (Nat.le_refl _)
    rw [hH] at hh
    rcases addAll_mem hh with h | ⟨z, hz, _, e1, e2, e3⟩
    · cases h
    · obtain ⟨u, hu, h⟩ := List.mem_flatMap.1 hz
      obtain ⟨v, hv, rfl⟩ := List.mem_map.1 h
      rw [he _ _ e1 e2 e3, hf]
      have h1 := tx u hu
      have h2 := ty v hv
      rcases h1 with h1 | h1 <;> rcases h2 with h2 | h2 <;> omega
  have hc : Cg p (wS (indM (x.a + y.a) (x.b + y.b) (x.c + y.c)) H) (x.t * y.t) := by
    rw [hH]
    refine (wS_addAll _ _ _).trans (((Cg.refl p _).add (prod_wS _ L M)).trans (Cg.of_eq ?_))
    rw [show wS (indM (x.a + y.a) (x.b + y.b) (x.c + y.c)) [] = 0 from rfl, Int.zero_add]
    have key : ∀ u ∈ L, ∀ v ∈ M, u.a + v.a = x.a + y.a ∧ u.b + v.b = x.b + y.b ∧ u.c + v.c = x.c + y.c → u = x ∧ v = y := by
      intro u hu v hv ⟨e1, e2, e3⟩
      have e := he (mulTT p u v) (mulTT p x y) e1 e2 e3
      rw [hf, hf] at e
      have h1 := tx u hu
      have h2 := ty v hv
      have f1 : f u = f x := by rcases h1 with h1 | h1 <;> rcases h2 with h2 | h2 <;> omega
      have f2 : f v = f y := by omega
      have h1 : u = x ∨ bef x u = true := by rcases h1 with h1 | h1; omega; exact h1.2
      have h2 : v = y ∨ bef y v = true := by rcases h2 with h2 | h2; omega; exact h2.2
      rcases h1 with h1 | h1
      · rcases h2 with h2 | h2
        · exact ⟨h1, h2⟩
        · subst h1
          rw [bef_iff] at h2
          omega
      · rcases h2 with h2 | h2
        · subst h2
          rw [bef_iff] at h1
          omega
        · rw [bef_iff] at h1 h2
          omega
    rw [sumI_one (x := x) (srt_ne (validB_srt hL)) hx, sumI_one (x := y) (srt_ne (validB_srt hM)) hy]
    · simp [indM]
    · intro v hv hne
      unfold indM
      rw [if_neg, Int.mul_zero]
      intro e
      exact hne (key x hx v hv e).2
    · intro u hu hne
      rw [← sumI_zero M]
      refine sumI_congr fun v hv => ?_
      unfold indM
      rw [if_neg, Int.mul_zero]
      intro e
      exact hne (key u hu v hv e).1
  obtain ⟨h, hh, e1, e2, e3⟩ := ind_mem (p := p) (L := H) (a := x.a + y.a) (b := x.b + y.b) (c := x.c + y.c) (fun h => by
    have h3 := (hc.symm.trans h).emod
    rw [Int.zero_emod] at h3
    exact prime_mul hp (validB_els hL x hx) (validB_els hM y hy) h3)
  have := topK_ge (f := f) hh
  rw [he h (mulTT p x y) e1 e2 e3, hf] at this
  omega
theorem degT_mul (p : Int) (x y : Trm) : degT (mulTT p x y) = degT x + degT y := by unfold degT mulTT; simp only; omega
theorem pw_mul (p v : Int) (x y : Trm) : pw v (mulTT p x y) = pw v x + pw v y := by
  unfold pw mulTT
  repeat' split
  all_goals rfl
theorem mul_nil (p : Int) (L M : List Trm) (h : L = [] ∨ M = []) : addAll p (prodT p L M) [] = [] := by
  rcases h with rfl | rfl
  · rfl
  · have : prodT p L [] = [] := by unfold prodT; simp
    rw [this]
    rfl
end Go.Proofs.YtoeghbcolpailaaGreat
namespace Go.Proofs.YtoeghbcolpailaaGreat
open Go.RowKit
theorem addOk_is {p : Int} {L M : List Trm} (h : addOk p L M = true) : isP p = true ∧ validB p L = true ∧ validB p M = true ∧ validB p (addAll p M L) = true ∧ sumV p L M = addAll p M L := by
  have e : sumV p L M = addAll p M L := by unfold sumV; rw [if_pos h]
  unfold addOk at h
  simp only [Bool.and_eq_true] at h
  exact ⟨h.1.1.1, h.1.1.2, h.1.2.2, h.2, e⟩
theorem addOk_of {p : Int} {L M : List Trm} (hp : isP p = true) (hL : validB p L = true) (hM : validB p M = true) (hS : validB p (addAll p M L) = true) : addOk p L M = true ∧ sumV p L M = addAll p M L := by
  have e : addOk p L M = true := by unfold addOk; rw [hp, hL, hM, hS]; rfl
  exact ⟨e, by unfold sumV; rw [if_pos e]⟩
/-- all that the law of sums asks -/
structure AddF (p : Int) (L M S N : List Trm) : Prop where
  hp : isP p = true
  tu : sumV p M L = S
  tb : addOk p M L = true
  mi : sclV p (p - 1) M = N
  mb : ((isP p && validB p M) && isE p (p - 1)) = true
  ba : sumV p S N = L
  bb : addOk p S N = true
  vL : validB p L = true
  vM : validB p M = true
  vS : validB p S = true
  ev : ∀ x y z : Int, isE3 p x y z = true → evV p x y z S = addV p (evV p x y z L) (evV p x y z M)
  dg : degV p S ≤ max (degV p L) (degV p M)
theorem addF {p : Int} {L M : List Trm} (h : addOk p L M = true) : ∃ N, AddF p L M (sumV p L M) N := by
  obtain ⟨hp, hL, hM, hS, hs⟩ := addOk_is h
  have hb := isP_bd hp
  have hE : isE p (p - 1) = true := isE_iff.2 (by omega)
  have hN : validB p (sclL p (p - 1) M) = true := scl_valid hp hE hM
  have hc := add_comm (p := p) hp hL hM
  have h1 := addOk_of (p := p) (L := M) (M := L) hp hM hL (by rw [hc]; exact hS)
  have hk := add_back (p := p) hp hL hM
  have h2 := addOk_of (p := p) (L := addAll p M L) (M := sclL p (p - 1) M) hp hS hN (by rw [hk]; exact hL)
  refine ⟨sclL p (p - 1) M, ?_⟩
  rw [hs]
  refine ⟨hp, by rw [h1.2, hc], h1.1, by unfold sclV; rw [hp, hM, hE]; rfl, by rw [hp, hM, hE]; rfl, by rw [h2.2, hk], h2.1, hL, hM, hS, fun x y z he => ?_, ?_⟩
  · have b1 := evK_bd hp x y z L L.length
    have b2 := evK_bd hp x y z M M.length
    unfold evV addV
    rw [hp, hL, hM, hS, he]
    simp only [Bool.and_self, if_true]
    rw [if_pos (isE2_iff.2 ⟨hp, b1, b2⟩), add_ev hp]
  · unfold degV
    rw [hp, hL, hM, hS]
    simp only [Bool.and_self, if_true]
    rw [topK_deg, topK_deg, topK_deg]
    exact add_top degT degT_eq
end Go.Proofs.YtoeghbcolpailaaGreat
namespace Go.Proofs.YtoeghbcolpailaaGreat
open Go.RowKit
set_option maxRecDepth 100000 in
set_option maxHeartbeats 4000000 in
theorem acP_some (g1 o1 c1 g2 o2 c2 : Nat) (A : List Trm) (w : World) (hA : A.length ≤ 1048576) (hg1 : g1 < w.heap.size) (hg2 : g2 < w.heap.size)
    (h1 : ∀ j : Nat, j < A.length → TAt w g1 (o1 + j * 4) (A.getD j default)) (h2 : ∀ j : Nat, j < A.length → TAt w g2 (o2 + j * 4) (A.getD j default)) :
    Calls Tryz.prog 11 #[.slice (some ⟨g1, o1, none⟩) A.length c1, .slice (some ⟨g2, o2, none⟩) A.length c2] w fun e w' => e = .returned (.bool true) ∧ Below w.heap.size w w' := by
  have H1 := Lib.hid h1
  have H2 := Lib.hid h2
  have hle : (A.length : Int) ≤ (A.length : Int) := Int.le_refl _
  clear h1 h2
  go_enter Tryz.func11, Tryz.ntmps11
  go_wp2_with fail
  go_loopw [11] (fun i wr => ∃ k : Nat, k ≤ A.length ∧ i = .int .i64 k ∧ Below w.heap.size w wr) (fun i _ => A.length - (intOf i).toNat)
  case atStart => exact ⟨0, by omega, rfl, Below.refl _ _⟩
  case round =>
    obtain ⟨k, hk, rfl, hb⟩ := hrel
    by_cases hlt : k < A.length
    · have hltp : (k : Int) < (A.length : Int) := by omega
      have hk0 : (0 : Int) ≤ (k : Int) := by omega
      obtain ⟨a0, a1, a2, a3⟩ := (H1.out k hlt).below hb hg1
      obtain ⟨b0, b1, b2, b3⟩ := (H2.out k hlt).below hb hg2
      have hq := fun w => runEqT (A.getD k default) (A.getD k default) w
      obtain ⟨x, hx⟩ : ∃ x, x = A.getD k default := ⟨_, rfl⟩
      rw [← hx] at a0 a1 a2 a3 b0 b1 b2 b3 hq
      unfold Trm.v at hq
      rw [decide_eq_true rfl] at hq
      have HB := Lib.hid hb
      clear hx hb
      go_wp2_with fail
      go_quiet (fail)
      go_wp2_with fail
      go_roundw
      case rel => exact ⟨k + 1, by omega, by go_num, below_drewN HB.out _⟩
      case measure => simp [intOf]; omega
    · have hkl : k = A.length := by omega
      have hbe : ((A.length : Int) == (A.length : Int)) = true := by simp
      subst hkl
      go_wp2_with fail
      go_ret
      exact ⟨rfl, hb⟩
theorem acP_nil (a1 a2 : Option Addr) (c1 c2 : Nat) (w : World) :
    Calls Tryz.prog 11 #[.slice a1 0 c1, .slice a2 0 c2] w fun e w' => e = .returned (.bool true) ∧ Below w.heap.size w w' := by
  go_enter Tryz.func11, Tryz.ntmps11
  go_wp2_with fail
  go_loopw [11] (fun i wr => i = .int .i64 0 ∧ Below w.heap.size w wr) (fun _ _ => 0)
  case atStart => exact ⟨rfl, Below.refl _ _⟩
  case round =>
    obtain ⟨rfl, hb⟩ := hrel
    go_wp2_with fail
    go_ret
    exact ⟨rfl, hb⟩
theorem acP (v1 v2 : Value) (A : List Trm) (w : World) (h1 : Trms w v1 A) (h2 : Trms w v2 A) :
    Calls Tryz.prog 11 #[v1, v2] w fun e w' => e = .returned (.bool true) ∧ Below w.heap.size w w' := by
  obtain ⟨l1, a1, c1, rfl, h1⟩ := h1
  obtain ⟨l2, a2, c2, rfl, h2⟩ := h2
  rcases h1 with rfl | ⟨g1, o1, rfl, hg1, hc1⟩
  · exact acP_nil a1 a2 c1 c2 w
  · rcases h2 with rfl | ⟨g2, o2, rfl, hg2, hc2⟩
    · exact acP_nil _ a2 c1 c2 w
    · exact acP_some g1 o1 c1 g2 o2 c2 A w l1 hg1 hg2 hc1 hc2
/-- polynomials that read behind a world -/
structure PK (w0 : World) (zs : List VT) (wr : World) : Prop where
  low : Below w0.heap.size w0 wr
  rd : ∀ z ∈ zs, Trms wr z.1 z.2
theorem PK.on {w0 wr w' : World} {zs : List VT} (h : PK w0 zs wr) (hb : Below wr.heap.size wr w') : PK w0 zs w' :=
  ⟨h.low.trans (hb.mono h.low.size), fun z hz => (h.rd z hz).below hb⟩
theorem PK.add {w0 wr : World} {zs : List VT} (h : PK w0 zs wr) {v : Value} {L : List Trm} (hv : Trms wr v L) : PK w0 ((v, L) :: zs) wr :=
  ⟨h.low, fun z hz => by
    rcases List.mem_cons.1 hz with rfl | hz
    · exact hv
    · exact h.rd z hz⟩
theorem PK.g {w0 wr : World} {zs : List VT} (h : PK w0 zs wr) {v : Value} {L : List Trm} (hm : (v, L) ∈ zs) : Trms wr v L := h.rd _ hm
end Go.Proofs.YtoeghbcolpailaaGreat
