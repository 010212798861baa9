/-
  The exact law of MulPoly: the model's and the program's products of two polynomials, and the walk. Conditions: none but that the slices read as lists of terms.
  MakePoly, of the model and of the program. Conditions: what the slice holds is known.
  PointPoly of the program: zeros at an element, and the product of all factors. Conditions: what the arguments are is known.
  PointPoly of the model: the polynomial of one unknown that is 1 for an element, and the product of three. Conditions: what the arguments are is known.
  PointPoly, of the program and of the model. Conditions: none.
  ReducePoly, of the model and of the program, and the walk of its exact law. Conditions: none but that the slice reads as a list of terms.
-/
import Derived.Test.YtajabchbdhjdiaaBa25
import Derived.Test.YtajabchbdhjdiaaBa14
import Derived.Test.YtajabchbdhjdiaaBa15
import Derived.Test.YtajabchbdhjdiaaBa24
import Derived.Test.YtajabchbdhjdiaaBa17
namespace Go.Proofs.Ytajabchbdhjdiaa
open Go.RowKit
set_option maxRecDepth 100000 in
set_option maxHeartbeats 4000000 in
theorem sMulPoly_no (p : Int) (fv gv : Value) (L M : List Trm) (w : World) (hL : Trms w fv L) (hM : Trms w gv M) (hr : (okB p (fv, L) && okB p (gv, M)) = false) :
    Calls Try.prog 122 #[.int .i64 p, fv, gv] w (GivesPB [] false w) := by
  have HB := Lib.hid (bothAt p fv gv L M w hL hM false hr)
  clear hr
  obtain ⟨_, a, cap, rfl, _⟩ := hL
  obtain ⟨_, a2, cap2, rfl, _⟩ := hM
  go_enter Try.func122, Try.ntmps122
  go_wp2_with (go_at_call 108; refine HB.out.mono ?_; rintro e w2 ⟨rfl, hb2⟩)
  refine bodyPost_ret (v := .tuple #[.slice (some ⟨w2.heap.size, 0, none⟩) 0 0, .bool false]) (by simp [results, Try.results122, go_sem]) rfl ⟨_, rfl, (Row.lit0 w2 w.heap.size hb2.size).own (by simp), Below.alloc hb2 hb2.size _⟩
set_option maxRecDepth 100000 in
set_option maxHeartbeats 4000000 in
theorem sMulPoly_yes (p : Int) (fv gv : Value) (L M : List Trm) (w : World) (hL : Trms w fv L) (hM : Trms w gv M) (hp : isP p = true) (hVL : validB p L = true) (hVM : validB p M = true) :
    Calls Try.prog 122 #[.int .i64 p, fv, gv] w (GivesPB (if validB p (addAll p (prodT p L M) []) = true then addAll p (prodT p L M) [] else []) (validB p (addAll p (prodT p L M) [])) w) := by
  have HB := Lib.hid (bothAt p fv gv L M w hL hM true (by unfold okB; dsimp only; rw [hp, hVL, hVM]; rfl))
  obtain ⟨m0, a2, cap2, rfl, m1⟩ := hM
  obtain ⟨l0, a, cap, rfl, l1⟩ := hL
  have HS := Lib.hid (fun (w' : World) (hb : Below w.heap.size w w') => sProduct p a a2 cap cap2 L M w' hp (Trms.below ⟨l0, a, cap, rfl, l1⟩ hb) (Trms.below ⟨m0, a2, cap2, rfl, m1⟩ hb) hVL hVM)
  have HT := Lib.hid (fun (B : Nat) (v : Value) (w' : World) (hR : Row w' B v (addAll p (prodT p L M) [])) => sTold B p hp (addAll p (prodT p L M) []) v w' hR (by
    have h := (prodK_facts hp (k := L.length) (j := 0) (Nat.le_refl _) (Nat.zero_le _) (validB_len hVL) (validB_len hVM)).2.2
    rw [prodK_end] at h
    omega))
  clear m1 l1
  obtain ⟨R, hR⟩ : ∃ R, R = addAll p (prodT p L M) [] := ⟨_, rfl⟩
  rw [← hR] at HS HT ⊢
  obtain ⟨b, hb⟩ : ∃ b, b = validB p R := ⟨_, rfl⟩
  rw [← hb] at HT ⊢
  obtain ⟨R2, hR2⟩ : ∃ R2, R2 = (if b = true then R else []) := ⟨_, rfl⟩
  rw [← hR2] at HT ⊢
  clear hR hb hR2 hp hVL hVM
  go_enter Try.func122, Try.ntmps122
  go_wp2_with first
    | (go_at_call 108; refine HB.out.mono ?_; rintro e w2 ⟨rfl, hb2⟩)
    | (go_at_call 151; refine (HS.out _ hb2).mono ?_; rintro e w3 ⟨v3, rfl, hR3, hb3⟩)
    | (go_at_call 119; refine (HT.out _ _ _ hR3).mono ?_; rintro e w4 ⟨v4, rfl, ho4, hb4⟩)
  have h3 := hb2.trans (hb3.mono hb2.size)
  refine bodyPost_ret (v := .tuple #[v4, .bool b]) (by simp [results, Try.results122, go_sem]) rfl ⟨_, rfl, ownTrms_mono ho4 h3.size, h3.trans (hb4.mono h3.size)⟩
def mulOk (p : Int) (L M : List Trm) : Bool := ((isP p && validB p L) && (isP p && validB p M)) && validB p (addAll p (prodT p L M) [])
def mulL (p : Int) (L M : List Trm) : List Trm := if mulOk p L M = true then addAll p (prodT p L M) [] else []
theorem mulOk_no {p : Int} {L M : List Trm} (h : ((isP p && validB p L) && (isP p && validB p M)) = false) : mulOk p L M = false ∧ mulL p L M = [] := by
  have e : mulOk p L M = false := by unfold mulOk; rw [h]; rfl
  exact ⟨e, by unfold mulL; rw [e]; rfl⟩
theorem mulOk_yes {p : Int} {L M : List Trm} (h : ((isP p && validB p L) && (isP p && validB p M)) = true) : mulOk p L M = validB p (addAll p (prodT p L M) []) ∧ mulL p L M = (if validB p (addAll p (prodT p L M) []) = true then addAll p (prodT p L M) [] else []) := by
  have e : mulOk p L M = validB p (addAll p (prodT p L M) []) := by unfold mulOk; rw [h, Bool.true_and]
  exact ⟨e, by unfold mulL; rw [e]⟩
theorem sMulPoly (p : Int) (f g : Value) (L M : List Trm) (w : World) (hL : Trms w f L) (hM : Trms w g M) :
    Calls Try.prog 122 #[.int .i64 p, f, g] w (GivesPB (mulL p L M) (mulOk p L M) w) := by
  cases h : ((isP p && validB p L) && (isP p && validB p M))
  · rw [(mulOk_no h).1, (mulOk_no h).2]
    exact sMulPoly_no p f g L M w hL hM h
  · rw [(mulOk_yes h).1, (mulOk_yes h).2]
    simp only [Bool.and_eq_true] at h
    exact sMulPoly_yes p f g L M w hL hM h.1.1 h.1.2 h.2.2
theorem iMulPoly (p : Int) (f g : Value) (L M : List Trm) (w : World) (hL : Trms w f L) (hM : Trms w g M) :
    Calls Try.prog 79 #[.int .i64 p, f, g] w (GivesPB (mulL p L M) (mulOk p L M) w) := by
  cases h : ((isP p && validB p L) && (isP p && validB p M))
  · rw [(mulOk_no h).1, (mulOk_no h).2]
    exact iMulPoly_no p f g L M w hL hM h
  · rw [(mulOk_yes h).1, (mulOk_yes h).2]
    simp only [Bool.and_eq_true] at h
    exact iMulPoly_yes p f g L M w hL hM h.1.1 h.1.2 h.2.2
end Go.Proofs.Ytajabchbdhjdiaa
namespace Go.Proofs.Ytajabchbdhjdiaa
open Go.RowKit
/-- a term whose coefficient is made an element -/
def mkT (p : Int) (x : Trm) : Trm := ⟨x.a, x.b, x.c, x.t % p⟩
/-- the sum of the first k terms of a list -/
def mkK (p : Int) (L : List Trm) (k : Nat) : List Trm := addAll p ((L.take k).map (mkT p)) []
def pwB (x : Trm) : Bool := powsB x.a x.b x.c
theorem mkK_zero (p : Int) (L : List Trm) : mkK p L 0 = [] := by simp [mkK, addAll]
theorem mkK_next {p : Int} {L : List Trm} {k : Nat} (hk : k < L.length) : addT p (mkT p (L.getD k default)) (mkK p L k) = mkK p L (k + 1) := by
  unfold mkK
  rw [List.take_succ_eq_append_getElem hk, List.map_append, List.map_singleton, addAll_snoc]
  simp [List.getD_eq_getElem?_getD, hk]
theorem mkK_facts {p : Int} {L : List Trm} (hp : isP p = true) {k : Nat} (hk : k ≤ L.length) (hL : L.length ≤ 60) : Srt (mkK p L k) ∧ Els p (mkK p L k) ∧ (mkK p L k).length ≤ 60 := by
  have hb := isP_bd hp
  refine ⟨addAll_srt _ _ List.Pairwise.nil, addAll_els (by omega) _ _ (fun x hx => ?_) (fun y hy => by cases hy), ?_⟩
  · obtain ⟨z, _, rfl⟩ := List.mem_map.1 hx
    exact emod_bd hb.1
  · have := addAll_len (p := p) ((L.take k).map (mkT p)) []
    rw [List.length_map, List.length_take, List.length_nil] at this
    unfold mkK
    omega
theorem pw_snoc {L : List Trm} {k : Nat} (h : k < L.length) : (L.take (k + 1)).all pwB = ((L.take k).all pwB && pwB (L.getD k default)) := by
  rw [List.take_succ_eq_append_getElem h, List.all_append]
  simp [List.getD_eq_getElem?_getD, h]
theorem pw_no {L : List Trm} {k : Nat} (h : k < L.length) (hn : pwB (L.getD k default) = false) : L.all pwB = false := by
  rw [List.getD_eq_getElem?_getD, List.getElem?_eq_getElem h] at hn
  exact List.all_eq_false.2 ⟨_, List.getElem_mem h, by simpa using hn⟩
def makeOk (p : Int) (L : List Trm) : Bool := (isP p && decide (L.length ≤ 60)) && (L.all pwB && validB p (mkK p L L.length))
def makeV (p : Int) (L : List Trm) : List Trm := if makeOk p L = true then mkK p L L.length else []
set_option maxRecDepth 100000 in
set_option maxHeartbeats 4000000 in
theorem iMakePoly_no (p : Int) (a : Option Addr) (n cap : Nat) (w : World) (hr : (isP p && decide (n ≤ 60)) = false) :
    Calls Try.prog 88 #[.int .i64 p, .slice a n cap] w (GivesPB [] false w) := by
  cases hp : isP p
  · have HP := Lib.hid hp
    clear hr hp
    go_enter Try.func88, Try.ntmps88
    go_wp2_with (go_at_call 90; refine (iPV_no p _ HP.out).mono ?_; rintro e w' ⟨rfl, rfl⟩)
    refine bodyPost_ret (v := .tuple #[.slice none 0 0, .bool false]) (by simp [results, Try.results88, go_sem]) rfl ⟨_, rfl, (Row.nil w w.heap.size).own (by simp), Below.refl _ _⟩
  · have HP := Lib.hid hp
    have hn2 : (60 : Int) < (n : Int) := by rw [hp] at hr; simp at hr; omega
    clear hr hp
    go_enter Try.func88, Try.ntmps88
    go_wp2_with (go_at_call 90; refine (iPV_yes p _ HP.out).mono ?_; rintro e w' ⟨rfl, rfl⟩)
    refine bodyPost_ret (v := .tuple #[.slice none 0 0, .bool false]) (by simp [results, Try.results88, go_sem]) rfl ⟨_, rfl, (Row.nil w w.heap.size).own (by simp), Below.refl _ _⟩
set_option maxRecDepth 100000 in
set_option maxHeartbeats 8000000 in
theorem iMakePoly_yes (p : Int) (a : Option Addr) (cap : Nat) (L : List Trm) (w : World) (hp : isP p = true) (hl : L.length ≤ 60) (hL : Trms w (.slice a L.length cap) L) (R : List Trm) (b : Bool) (hR : R = makeV p L) (hb : b = makeOk p L) :
    Calls Try.prog 88 #[.int .i64 p, .slice a L.length cap] w (GivesPB R b w) := by
  have HP := Lib.hid hp
  have HL := Lib.hid hL
  have HRE := Lib.hid hR
  have HBE := Lib.hid hb
  have hl1 : (L.length : Int) ≤ 60 := by omega
  clear hp hL hR hb
  go_enter Try.func88, Try.ntmps88
  go_wp2_with (go_at_call 90; refine (iPV_yes p _ HP.out).mono ?_; rintro e w' ⟨rfl, rfl⟩)
  obtain ⟨W, hW⟩ : ∃ W, W = w.alloc (Obj.cells #[.int .i64 p, .slice none 0 0] 125) := ⟨_, rfl⟩
  obtain ⟨S, hSe⟩ : ∃ S, S = w.heap.size := ⟨_, rfl⟩
  have hSB : w.heap.size ≤ S := by rw [hSe]; exact Nat.le_refl _
  have HW := Lib.hid (show SumW W S p (.slice none 0 0) ∧ Row W w.heap.size (.slice none 0 0) (mkK p L 0) ∧ Value.ownBlock (.slice none 0 0) ≠ some S ∧ Below w.heap.size w W by
    rw [hW, hSe, mkK_zero]
    exact ⟨⟨by simp [go_sem], by simp [go_sem], World.frozen?_alloc_at _ _ _ 0 rfl, World.frozen?_alloc_at _ _ _ 1 rfl, by simp⟩, Row.nil _ _, by simp [Value.ownBlock], Below.alloc (Below.refl _ _) (Nat.le_refl _) _⟩)
  rw [← hW, ← hSe]
  clear hSe hW
  go_loopw [21] (fun i wr => ∃ (k : Nat) (v : Value), k ≤ L.length ∧ i = .int .i64 k ∧ (L.take k).all pwB = true ∧ SumW wr S p v ∧ Row wr w.heap.size v (mkK p L k) ∧ v.ownBlock ≠ some S ∧ Below w.heap.size w wr) (fun i _ => L.length - (intOf i).toNat)
  case atStart => exact ⟨0, _, by omega, rfl, by simp, HW.out⟩
  case round =>
    clear HW
    obtain ⟨k, v, hk, rfl, hpw, hS, hR, hv, hb⟩ := hrel
    by_cases hlt : k < L.length
    · have hltp : (k : Int) < (L.length : Int) := by omega
      have hk0 : (0 : Int) ≤ (k : Int) := by omega
      obtain ⟨x, hx⟩ : ∃ x, x = L.getD k default := ⟨_, rfl⟩
      obtain ⟨g, off, rfl, hg, hc⟩ : ∃ g off, a = some ⟨g, off, none⟩ ∧ g < w.heap.size ∧ ∀ j : Nat, j < L.length → TAt w g (off + j * 4) (L.getD j default) := by
        obtain ⟨_, a', cap', he, h⟩ := HL.out
        injection he with e1 e2 e3
        subst e1
        rcases h with h | h
        · rw [h] at hlt; simp at hlt
        · exact h
      obtain ⟨b0, b1, b2, b3⟩ := (hc k hlt).below hb hg
      rw [← hx] at b0 b1 b2 b3
      have HV2 := Lib.hid hv
      obtain ⟨n, hne⟩ : ∃ n, n = wr.heap.size := ⟨_, rfl⟩
      obtain ⟨W1, hW1⟩ : ∃ W1, W1 = wr.alloc (Obj.cells #[.int .i64 x.a, .int .i64 x.b, .int .i64 x.c, .int .i64 x.t] 69) := ⟨_, rfl⟩
      have hr1 : Below wr.heap.size wr W1 := by rw [hW1]; exact Below.alloc (Below.refl _ _) (Nat.le_refl _) _
      have hT1 : TAt W1 n 0 x := by rw [hW1, hne]; refine ⟨?_, ?_, ?_, ?_⟩ <;> simp [go_sem]
      have hn1 : n < W1.heap.size := by rw [hW1, hne]; simp
      have hf1 : ∀ i, W1.frozen? ⟨n, i, none⟩ = false := fun i => by rw [hW1, hne]; exact World.frozen?_alloc_at _ _ _ i rfl
      have hnv : v.ownBlock ≠ some n := fun e => by have := (World.ownsRow.lt hR _ e).2; omega
      have hSn : S < n := by rw [hne]; exact hS.sz
      have hwn : w.heap.size ≤ n := by rw [hne]; exact hb.size
      have HF := Lib.hid (fun W' (hb' : Below W1.heap.size W1 W') => show TAt W' n 0 x ∧ W'.frozen? ⟨n, 3, none⟩ = false ∧ n < W'.heap.size ∧ SumW W' S p v ∧ Row W' w.heap.size v (mkK p L k) ∧ Below w.heap.size w W' from
        ⟨hT1.below hb' hn1, by rw [hb'.frozen (p := ⟨n, 3, none⟩) hn1]; exact hf1 3, Nat.lt_of_lt_of_le hn1 hb'.size, (hS.below hr1).below hb', (hR.below hr1).below hb', (hb.trans (hr1.mono hb.size)).trans (hb'.mono (Nat.le_trans hb.size hr1.size))⟩)
      have HW1 := Lib.hid hW1
      have HNV := Lib.hid (And.intro hnv (And.intro hSn hwn))
      obtain ⟨t0, t1, t2, t3⟩ := hT1
      simp only [Nat.zero_add] at t0 t1 t2 t3
      have HFit := Lib.hid (fun w => iFit x.a x.b x.c x.t w)
      cases hpx : pwB x
      · rw [show powsB x.a x.b x.c = false from hpx] at HFit
        have HE := Lib.hid (show makeOk p L = false by unfold makeOk; rw [pw_no hlt (by rw [← hx]; exact hpx)]; simp)
        have hz : b = false := by rw [HBE.out, HE.out]
        have hz2 : R = [] := by rw [HRE.out]; unfold makeV; rw [HE.out]; rfl
        subst hz hz2
        clear hx hS hR hv hb hc hpw hpx hr1 hW1 hf1 hn1 hnv hSn hwn
        go_wp2_with fail
        rw [← HW1.out, ← hne]
        clear hne
        go_wp2_with fail
        refine (HFit.out _).mono ?_
        rintro e w2 ⟨rfl, hb2⟩
        have HQ := Lib.hid (HF.out w2 hb2).2.2.2.2.2
        clear hb2 t0 t1 t2 t3
        go_wp2_with fail
        refine bodyPost_ret (v := .tuple #[.slice none 0 0, .bool false]) (by simp [results, Try.results88, go_sem]) rfl ⟨_, rfl, (Row.nil w2 w.heap.size).own (by simp), HQ.out⟩
      · rw [show powsB x.a x.b x.c = true from hpx] at HFit
        have HXK := Lib.hid (show addT p (mkT p x) (mkK p L k) = mkK p L (k + 1) by rw [hx, mkK_next hlt])
        have HPK := Lib.hid (show (L.take (k + 1)).all pwB = true by rw [pw_snoc hlt, hpw, ← hx, hpx]; rfl)
        clear hx hS hR hv hb hc hpw hpx hr1 hW1 hf1 hn1 hnv hSn hwn
        go_wp2_with fail
        rw [← HW1.out, ← hne]
        clear hne
        go_wp2_with fail
        refine (HFit.out _).mono ?_
        rintro e w2 ⟨rfl, hb2⟩
        clear t0 t1 t2 t3
        obtain ⟨⟨t0, t1, t2, t3⟩, f3, hn2, -, -, -⟩ := HF.out w2 hb2
        simp only [Nat.zero_add] at t0 t1 t2 t3
        have HB2 := Lib.hid hb2
        clear hb2
        go_wp2_with fail
        refine (iRed p x.t _ HP.out).mono ?_
        rintro e w3 ⟨rfl, rfl⟩
        go_wp2_with fail
        obtain ⟨hT2, -, hn2', hS2, hR2, hB2⟩ := HF.out w2 HB2.out
        obtain ⟨hv0, hSn, hwn⟩ := HNV.out
        obtain ⟨W3, hW3⟩ : ∃ W3, W3 = w2.setCell ⟨n, 3, none⟩ (.int .i64 (x.t % p)) := ⟨_, rfl⟩
        have hS3 : SumW W3 S p v := by
          rw [hW3]
          have ne : ∀ i, (⟨n, 3, none⟩ : Addr) ≠ ⟨S, i, none⟩ := fun i e => by have := congrArg Addr.block e; simp at this; omega
          exact ⟨by rw [World.cell?_setCell_other _ _ _ _ (ne 0)]; exact hS2.c0, by rw [World.cell?_setCell_other _ _ _ _ (ne 1)]; exact hS2.c1, by rw [World.frozen?_setCell]; exact hS2.f0, by rw [World.frozen?_setCell]; exact hS2.f1, by simpa using hS2.sz⟩
        have hR3 : Row W3 w.heap.size v (mkK p L k) := by
          rw [hW3]
          exact World.ownsRow.kept (row := some n) hR2 ⟨rfl, rfl, rfl, by simp, fun k hk hne => Below.heap_setCell _ _ _ _ (fun e => hne (by rw [e]))⟩ (.inr hv0)
        have hB3 : Below w.heap.size w W3 := by rw [hW3]; exact hB2.setCell hwn _
        have hc3 : W3.cell? ⟨n, 0, none⟩ = some (.int .i64 x.a) ∧ W3.cell? ⟨n, 1, none⟩ = some (.int .i64 x.b) ∧ W3.cell? ⟨n, 2, none⟩ = some (.int .i64 x.c) ∧ W3.cell? ⟨n, 3, none⟩ = some (.int .i64 (x.t % p)) := by
          rw [hW3]
          refine ⟨?_, ?_, ?_, World.cell?_setCell_same _ _ _ t3⟩
          · rw [World.cell?_setCell_other _ _ _ _ (by simp)]; exact t0
          · rw [World.cell?_setCell_other _ _ _ _ (by simp)]; exact t1
          · rw [World.cell?_setCell_other _ _ _ _ (by simp)]; exact t2
        have H3 := Lib.hid (And.intro hS3 (And.intro hR3 hB3))
        rw [← hW3]
        clear t0 t1 t2 t3 f3 hT2 hS2 hR2 hB2 hS3 hR3 hB3 hW3 hv0
        obtain ⟨t0, t1, t2, t3⟩ := hc3
        go_wp2_with fail
        have hf := mkK_facts (p := p) (L := L) HP.out hk hl
        have hpb := isP_bd HP.out
        refine (iPut w.heap.size S p v (mkK p L k) (mkT p x) W3 H3.out.1 H3.out.2.1 H3.out.2.2.size HP.out hf.1 hf.2.1 (isE_iff.2 (emod_bd hpb.1)) (by omega) HV2.out).mono ?_
        rintro e w4 hP4
        have hlow := hP4.low H3.out.2.1 hSB H3.out.2.2.size
        obtain ⟨rfl, v', hS', hR', hv', _, _⟩ := hP4
        rw [HXK.out] at hR'
        have HQ := Lib.hid (And.intro HPK.out (And.intro hS' (And.intro hR' (And.intro hv' (H3.out.2.2.trans hlow)))))
        clear hS' hR' hv' hlow hf hpb t0 t1 t2 t3
        go_wp2_with fail
        go_roundw
        case rel => exact ⟨k + 1, v', by omega, by go_num, HQ.out⟩
        case measure => simp [intOf]; omega
    · have hkl : k = L.length := by omega
      subst hkl
      rw [List.take_length] at hpw
      have hok : makeOk p L = validB p (mkK p L L.length) := by unfold makeOk; rw [HP.out, hpw, decide_eq_true hl]; rfl
      have hb1 : b = validB p (mkK p L L.length) := by rw [HBE.out, hok]
      have hR1 : R = if b = true then mkK p L L.length else [] := by rw [HRE.out]; unfold makeV; rw [hok, hb1]
      have hf := mkK_facts (p := p) (L := L) HP.out (Nat.le_refl _) hl
      have hown := hR.own (by omega)
      obtain ⟨M, hM⟩ : ∃ M, M = mkK p L L.length := ⟨_, rfl⟩
      rw [← hM] at hown hb1 hR1
      obtain ⟨hl2, ao, co, rfl, _⟩ := hown.trms
      have HO := Lib.hid hown
      have Hb := Lib.hid hb
      have HT := Lib.hid (iPolyOf S p ao co M wr hS hown.trms)
      rw [HP.out, ← hb1] at HT
      clear hown hS hb hR hf hv hpw hok hM
      cases b
      · have hz : R = [] := by rw [hR1]; rfl
        subst hz
        clear hb1 hR1
        go_wp2_with (go_at_call 111; refine HT.out.mono ?_; rintro e w5 ⟨rfl, hb5⟩)
        have H5 := Lib.hid (Hb.out.trans (hb5.mono Hb.out.size))
        refine bodyPost_ret (v := .tuple #[.slice none 0 0, .bool false]) (by simp [results, Try.results88, go_sem]) rfl ⟨_, rfl, (Row.nil _ w.heap.size).own (by simp), H5.out⟩
      · have hz : R = M := by rw [hR1]; rfl
        subst hz
        clear hb1 hR1
        go_wp2_with (go_at_call 111; refine HT.out.mono ?_; rintro e w5 ⟨rfl, hb5⟩)
        have H5 := Lib.hid (And.intro (HO.out.below hb5) (Hb.out.trans (hb5.mono Hb.out.size)))
        refine bodyPost_ret (v := .tuple #[.slice ao R.length co, .bool true]) (by simp [results, Try.results88, go_sem]) rfl ⟨_, rfl, H5.out.1, H5.out.2⟩
theorem makeOk_no {p : Int} {L : List Trm} (h : (isP p && decide (L.length ≤ 60)) = false) : makeOk p L = false ∧ makeV p L = [] := by
  have e : makeOk p L = false := by unfold makeOk; rw [h]; rfl
  exact ⟨e, by unfold makeV; rw [e]; rfl⟩
theorem iMakePoly (p : Int) (f : Value) (L : List Trm) (w : World) (hL : Trms w f L) : Calls Try.prog 88 #[.int .i64 p, f] w (GivesPB (makeV p L) (makeOk p L) w) := by
  obtain ⟨l0, a, cap, rfl, l1⟩ := hL
  cases h : (isP p && decide (L.length ≤ 60))
  · rw [(makeOk_no h).1, (makeOk_no h).2]
    exact iMakePoly_no p a L.length cap w h
  · simp only [Bool.and_eq_true, decide_eq_true_eq] at h
    exact iMakePoly_yes p a cap L w h.1 h.2 ⟨l0, a, cap, rfl, l1⟩ _ _ rfl rfl
end Go.Proofs.Ytajabchbdhjdiaa
namespace Go.Proofs.Ytajabchbdhjdiaa
set_option linter.unusedVariables false
open Go.RowKit
/-- an unknown as a term -/
def ukT (v : Int) : Trm := if v = 0 then ⟨1, 0, 0, 1⟩ else if v = 1 then ⟨0, 1, 0, 1⟩ else ⟨0, 0, 1, 1⟩
/-- the unknown minus an element -/
def zerL (p v a : Int) : List Trm := makeV p [ukT v, ⟨0, 0, 0, -a⟩]
/-- the coordinates of a point -/
def crd (x y z v : Int) : Int := if v = 0 then x else if v = 1 then y else z
/-- the product with the factors of one unknown, for the first k elements -/
def pqI (p v here : Int) : Nat → List Trm → List Trm
  | 0, F => F
  | k + 1, F => if (k : Int) = here then pqI p v here k F else mulL p (pqI p v here k F) (zerL p v k)
/-- the product with all factors of the first unknowns -/
def pqO (p x y z : Int) : Nat → List Trm
  | 0 => [⟨0, 0, 0, minV p 1⟩]
  | v + 1 => pqI p v (crd x y z v) p.toNat (pqO p x y z v)
theorem ownT_low7 {w : World} {B B' : Nat} {v : Value} {L : List Trm} (h : OwnTrms w B v L) (hB : B' ≤ B) : OwnTrms w B' v L := by
  obtain ⟨h1, a, cap, hv, h2⟩ := h
  refine ⟨h1, a, cap, hv, ?_⟩
  rcases h2 with h2 | ⟨g, off, ha, hg, r⟩
  · exact .inl h2
  · exact .inr ⟨g, off, ha, Nat.le_trans hB hg, r⟩
theorem ownT_nil7 (w : World) (B : Nat) : OwnTrms w B (.slice none 0 0) [] := ⟨by simp, none, 0, rfl, .inl rfl⟩
theorem ownT_one7 {w : World} {B g : Nat} {x : Trm} (hg : B ≤ g) (hs : g < w.heap.size) (h : TAt w g 0 x) (hf : ∀ i : Nat, i < 4 → w.frozen? ⟨g, i, none⟩ = false) (cap : Nat) : OwnTrms w B (.slice (some ⟨g, 0, none⟩) 1 cap) [x] :=
  ⟨by simp, some ⟨g, 0, none⟩, cap, rfl, .inr ⟨g, 0, rfl, hg, hs, fun j hj => by
    have : j = 0 := by simp at hj; omega
    subst this; simpa using h, fun i hi => by rw [Nat.zero_add]; exact hf i (by simpa using hi)⟩⟩
set_option maxRecDepth 100000 in
set_option maxHeartbeats 4000000 in
theorem iZeroAt (p v a : Int) (hv : v = 0 ∨ v = 1 ∨ v = 2) (ha : 0 ≤ a) (ha2 : a ≤ 13) (w : World) :
    Calls Try.prog 80 #[.int .i64 p, .int .i64 v, .int .i64 a] w fun e w' => ∃ u, e = .returned u ∧ OwnTrms w' w.heap.size u (zerL p v a) ∧ Below w.heap.size w w' := by
  have hneg : IntKind.i64.wrap (-a) = -a := IntWalk.i64_in _ (by omega)
  obtain ⟨na, hna⟩ : ∃ na, na = -a := ⟨_, rfl⟩
  rw [← hna] at hneg
  have HZ := Lib.hid (show zerL p v a = makeV p [ukT v, ⟨0, 0, 0, na⟩] by rw [hna]; rfl)
  have hneg2 : IntKind.i64.wrap (-a) = na := by rw [← hna]; exact hneg
  clear hneg
  have HNA := Lib.hid hna
  clear hna
  rcases hv with rfl | rfl | rfl
  · go_enter Try.func80, Try.ntmps80
    go_wp2_with fail
    refine (iMakePoly p _ [ukT 0, ⟨0, 0, 0, na⟩] _ ⟨by simp, _, _, rfl, .inr ⟨_, 0, rfl, by simp, fun j hj => ?_⟩⟩).mono ?_
    · have hj2 : j = 0 ∨ j = 1 := by simp at hj; omega
      rcases hj2 with rfl | rfl <;> simp [TAt, ukT, go_sem]
    · rintro e w2 ⟨u, rfl, hu, hb⟩
      go_wp2_with fail
      go_ret
      refine ⟨_, rfl, ?_, ?_⟩
      · rw [HZ.out]
        exact ownT_low7 hu (by simp; omega)
      · refine Below.trans ?_ (hb.mono (by simp; omega))
        repeat (first | exact Below.refl _ _ | (refine Below.setCell ?_ (by first | omega | (simp; done) | (simp; omega)) _) | (refine Below.alloc ?_ (by first | omega | (simp; done) | (simp; omega)) _))
  · go_enter Try.func80, Try.ntmps80
    go_wp2_with fail
    refine (iMakePoly p _ [ukT 1, ⟨0, 0, 0, na⟩] _ ⟨by simp, _, _, rfl, .inr ⟨_, 0, rfl, by simp, fun j hj => ?_⟩⟩).mono ?_
    · have hj2 : j = 0 ∨ j = 1 := by simp at hj; omega
      rcases hj2 with rfl | rfl <;> simp [TAt, ukT, go_sem]
    · rintro e w2 ⟨u, rfl, hu, hb⟩
      go_wp2_with fail
      go_ret
      refine ⟨_, rfl, ?_, ?_⟩
      · rw [HZ.out]
        exact ownT_low7 hu (by simp; omega)
      · refine Below.trans ?_ (hb.mono (by simp; omega))
        repeat (first | exact Below.refl _ _ | (refine Below.setCell ?_ (by first | omega | (simp; done) | (simp; omega)) _) | (refine Below.alloc ?_ (by first | omega | (simp; done) | (simp; omega)) _))
  · go_enter Try.func80, Try.ntmps80
    go_wp2_with fail
    refine (iMakePoly p _ [ukT 2, ⟨0, 0, 0, na⟩] _ ⟨by simp, _, _, rfl, .inr ⟨_, 0, rfl, by simp, fun j hj => ?_⟩⟩).mono ?_
    · have hj2 : j = 0 ∨ j = 1 := by simp at hj; omega
      rcases hj2 with rfl | rfl <;> simp [TAt, ukT, go_sem]
    · rintro e w2 ⟨u, rfl, hu, hb⟩
      go_wp2_with fail
      go_ret
      refine ⟨_, rfl, ?_, ?_⟩
      · rw [HZ.out]
        exact ownT_low7 hu (by simp; omega)
      · refine Below.trans ?_ (hb.mono (by simp; omega))
        repeat (first | exact Below.refl _ _ | (refine Below.setCell ?_ (by first | omega | (simp; done) | (simp; omega)) _) | (refine Below.alloc ?_ (by first | omega | (simp; done) | (simp; omega)) _))
end Go.Proofs.Ytajabchbdhjdiaa
namespace Go.Proofs.Ytajabchbdhjdiaa
set_option linter.unusedVariables false
open Go.RowKit
/-- the inverse of an element, 0 if there is none -/
def invI (p a : Int) : Int := (((invO p a).getD 0 : Nat) : Int)
/-- the factors of one unknown, for the first k elements -/
def unS (p v a : Int) : Nat → List Trm
  | 0 => sclL p 1 [⟨0, 0, 0, 1⟩]
  | k + 1 => if (k : Int) = a then unS p v a k else mulL p (unS p v a k) (sclL p (invI p ((a - k) % p)) (sumV p [ukT v] (sclL p ((-(k : Int)) % p) [⟨0, 0, 0, 1⟩])))
/-- the product of the first v -/
def pqS (p x y z : Int) : Nat → List Trm
  | 0 => [⟨0, 0, 0, 1⟩]
  | v + 1 => mulL p (pqS p x y z v) (unS p v (crd x y z v) p.toNat)
set_option maxRecDepth 100000 in
set_option maxHeartbeats 4000000 in
theorem sPower7 (a : Int) (ha : a = 0 ∨ a = 1 ∨ a = 2) (w : World) :
    Calls Try.prog 152 #[.int .i64 a, .int .i64 1] w fun e w' => ∃ v, e = .returned v ∧ OwnTrms w' w.heap.size v [ukT a] ∧ Below w.heap.size w w' := by
  rcases ha with rfl | rfl | rfl
  all_goals
    go_enter Try.func152, Try.ntmps152
    go_wp2_with fail
    go_ret
    refine ⟨_, rfl, ownT_one7 (by omega) ?_ ?_ ?_ _, ?_⟩
    · simp
    · simp [ukT, TAt, go_sem]
    · intro i hi
      exact World.frozen?_alloc_at _ _ _ i (by simp)
    · repeat (first | exact Below.refl _ _ | (refine Below.setCell ?_ (by first | omega | (simp; done) | (simp; omega)) _) | (refine Below.alloc ?_ (by first | omega | (simp; done) | (simp; omega)) _))
set_option maxRecDepth 100000 in
set_option maxHeartbeats 4000000 in
theorem sOne7 (w : World) :
    Calls Try.prog 121 #[] w fun e w' => ∃ v, e = .returned v ∧ OwnTrms w' w.heap.size v [⟨0, 0, 0, 1⟩] ∧ Below w.heap.size w w' := by
  go_enter Try.func121, Try.ntmps121
  go_wp2_with fail
  go_ret
  refine ⟨_, rfl, ownT_one7 (by omega) ?_ ?_ ?_ _, ?_⟩
  · simp
  · simp [TAt, go_sem]
  · intro i hi
    exact World.frozen?_alloc_at _ _ _ i (by simp)
  · repeat (first | exact Below.refl _ _ | (refine Below.alloc ?_ (by first | omega | (simp; done) | (simp; omega)) _))
theorem uk_ok {p v : Int} (hp : isP p = true) (hv : v = 0 ∨ v = 1 ∨ v = 2) : validB p [ukT v] = true := by
  have h : p = 2 ∨ p = 3 ∨ p = 5 ∨ p = 7 ∨ p = 11 ∨ p = 13 := by simp [isP] at hp; omega
  rcases h with rfl | rfl | rfl | rfl | rfl | rfl <;> rcases hv with rfl | rfl | rfl <;> decide
theorem one_ok7 {p : Int} (hp : isP p = true) : validB p [⟨0, 0, 0, 1⟩] = true := by
  have h : p = 2 ∨ p = 3 ∨ p = 5 ∨ p = 7 ∨ p = 11 ∨ p = 13 := by simp [isP] at hp; omega
  rcases h with rfl | rfl | rfl | rfl | rfl | rfl <;> decide
theorem isE_mod7 {p n : Int} (hp : isP p = true) : isE p (n % p) = true := by
  have := isP_bd hp
  have h1 := Int.emod_nonneg n (show p ≠ 0 by omega)
  have h2 := Int.emod_lt_of_pos n (show 0 < p by omega)
  exact isE_iff.2 ⟨h1, h2⟩
theorem isE_inv {p a : Int} (hp : isP p = true) : isE p (invI p a) = true := by
  have := isP_bd hp
  refine isE_iff.2 ⟨by unfold invI; omega, ?_⟩
  unfold invI
  cases h : invO p a with
  | none => simp; omega
  | some k =>
    unfold invO at h
    have := List.mem_range.1 (List.mem_of_find?_eq_some h)
    simp only [Option.getD_some]
    omega
theorem mulL_ok {p : Int} {L M : List Trm} : validB p (mulL p L M) = true := by
  unfold mulL
  split
  · rename_i h
    unfold mulOk at h
    simp only [Bool.and_eq_true] at h
    exact h.2
  · rfl
theorem sumV_ok {p : Int} {L M : List Trm} : validB p (sumV p L M) = true := by
  unfold sumV
  split
  · rename_i h
    unfold addOk at h
    simp only [Bool.and_eq_true] at h
    exact h.2
  · rfl
set_option maxRecDepth 100000 in
set_option maxHeartbeats 8000000 in
theorem sUnit (p v a : Int) (hp : isP p = true) (hv : v = 0 ∨ v = 1 ∨ v = 2) (ha : 0 ≤ a ∧ a < p) (w : World) :
    Calls Try.prog 123 #[.int .i64 p, .int .i64 v, .int .i64 a] w fun e w' => ∃ u, e = .returned u ∧ OwnTrms w' w.heap.size u (unS p v a p.toNat) ∧ Below w.heap.size w w' := by
  obtain ⟨p0, p1⟩ := isP_bd hp
  have HP := Lib.hid hp
  have HV := Lib.hid hv
  obtain ⟨ha0, ha1⟩ := ha
  have hE1 : isE p 1 = true := isE_iff.2 ⟨by omega, by omega⟩
  have HE1 := Lib.hid hE1
  clear hp hv hE1
  go_enter Try.func123, Try.ntmps123
  go_wp2_with fail
  refine (sOne7 _).mono ?_
  rintro e w1 ⟨u1, rfl, hu1, hb1⟩
  have H1 := Lib.hid (show OwnTrms w1 w.heap.size u1 [⟨0, 0, 0, 1⟩] ∧ Below w.heap.size w w1 from ⟨hu1, hb1⟩)
  clear hu1 hb1
  go_wp2_with fail
  refine (sScaled p u1 [⟨0, 0, 0, 1⟩] 1 w1 HP.out (one_ok7 HP.out) HE1.out H1.out.1.trms).mono ?_
  rintro e w2 hg2
  obtain ⟨u2, rfl, hu2, hb2⟩ := hg2
  have H2 := Lib.hid (show OwnTrms w2 w.heap.size u2 (unS p v a 0) ∧ Below w.heap.size w w2 from ⟨ownT_low7 hu2 H1.out.2.size, H1.out.2.trans (hb2.mono H1.out.2.size)⟩)
  clear hu2 hb2 H1
  go_wp2_with fail
  go_loopw [7, 15] (fun f i wr => ∃ k : Nat, (k : Int) ≤ p ∧ i = .int .i64 k ∧ OwnTrms wr w.heap.size f (unS p v a k) ∧ Below w.heap.size w wr) (fun _ i _ => p.toNat - (intOf i).toNat)
  case atStart => exact ⟨0, by omega, rfl, H2.out⟩
  case round =>
    obtain ⟨k, hk, rfl, hf, hb⟩ := hrel
    have HF := Lib.hid hf
    have HB := Lib.hid hb
    clear hf hb
    by_cases hlt : (k : Int) < p
    · by_cases hka : (k : Int) = a
      · have HU := Lib.hid (show unS p v a (k + 1) = unS p v a k from by show (if (k : Int) = a then _ else _) = _; rw [if_pos hka])
        have hq : ((k : Int) == a) = true := by simp [hka]
        have HKA := Lib.hid hka
        clear hka
        go_wp2_with fail
        go_roundw
        case rel => exact ⟨k + 1, by omega, by go_num, by rw [HU.out]; exact HF.out, HB.out⟩
        case measure => simp [intOf]; omega
      · have HU := Lib.hid (show unS p v a (k + 1) = mulL p (unS p v a k) (sclL p (invI p ((a - k) % p)) (sumV p [ukT v] (sclL p ((-(k : Int)) % p) [⟨0, 0, 0, 1⟩]))) from by show (if (k : Int) = a then _ else _) = _; rw [if_neg hka])
        have hq : ((k : Int) == a) = false := by simp [hka]
        have hneg : IntKind.i64.wrap (-(k : Int)) = -(k : Int) := IntWalk.i64_in _ (by omega)
        have hsub : IntKind.i64.wrap (a - (k : Int)) = a - (k : Int) := IntWalk.i64_in _ (by omega)
        obtain ⟨mk, hmk⟩ : ∃ mk, mk = (-(k : Int)) % p := ⟨_, rfl⟩
        obtain ⟨md, hmd⟩ : ∃ md, md = (a - (k : Int)) % p := ⟨_, rfl⟩
        have HM1 := Lib.hid (fun w => (by rw [hmk]; exact sMod p (-(k : Int)) w HP.out : Calls Try.prog 153 #[.int .i64 p, .int .i64 (-(k : Int))] w fun e w' => e = .returned (.int .i64 mk) ∧ w = w'))
        have HM2 := Lib.hid (fun w => (by rw [hmd]; exact sMod p (a - (k : Int)) w HP.out : Calls Try.prog 153 #[.int .i64 p, .int .i64 (a - (k : Int))] w fun e w' => e = .returned (.int .i64 md) ∧ w = w'))
        obtain ⟨iv, hiv⟩ : ∃ iv, iv = invI p md := ⟨_, rfl⟩
        have e1 : isE p mk = true := by rw [hmk]; exact isE_mod7 HP.out
        have e2 : isE p iv = true := by rw [hiv]; exact isE_inv HP.out
        have hmd2 := isE_iff.1 (show isE p md = true by rw [hmd]; exact isE_mod7 HP.out)
        have HIV := Lib.hid (fun w => (by rw [hiv]; exact sInvLoop p md HP.out hmd2.1 hmd2.2 w : Calls Try.prog 154 #[.int .i64 p, .int .i64 md] w fun e w' => e = .returned (.int .i64 iv) ∧ w = w'))
        rw [← hmk, ← hmd, ← hiv] at HU
        have HE := Lib.hid (And.intro e1 e2)
        have HKA := Lib.hid hka
        clear hka hmk hmd hiv e1 e2 hmd2
        go_wp2_with fail
        refine (sPower7 v HV.out _).mono ?_
        rintro e w3 ⟨u3, rfl, hu3, hb3⟩
        have H3 := Lib.hid (show OwnTrms w3 w.heap.size u3 [ukT v] ∧ Below wr.heap.size wr w3 from ⟨ownT_low7 hu3 HB.out.size, hb3⟩)
        clear hu3 hb3
        go_wp2_with fail
        refine (sOne7 _).mono ?_
        rintro e w4 ⟨u4, rfl, hu4, hb4⟩
        have H4 := Lib.hid (show OwnTrms w4 w3.heap.size u4 [⟨0, 0, 0, 1⟩] ∧ Below w3.heap.size w3 w4 from ⟨hu4, hb4⟩)
        clear hu4 hb4
        go_wp2_with fail
        refine (HM1.out _).mono ?_
        rintro e w5 ⟨rfl, rfl⟩
        go_wp2_with fail
        refine (sScaled p u4 [⟨0, 0, 0, 1⟩] mk w4 HP.out (one_ok7 HP.out) HE.out.1 H4.out.1.trms).mono ?_
        rintro e w6 hg6
        obtain ⟨u6, rfl, hu6, hb6⟩ := hg6
        have H6 := Lib.hid (show OwnTrms w6 w4.heap.size u6 (sclL p mk [⟨0, 0, 0, 1⟩]) ∧ Below w3.heap.size w3 w6 from ⟨hu6, H4.out.2.trans (hb6.mono H4.out.2.size)⟩)
        clear hu6 hb6
        go_wp2_with fail
        refine (sAddPoly p u3 u6 [ukT v] (sclL p mk [⟨0, 0, 0, 1⟩]) w6 (H3.out.1.below H6.out.2).trms H6.out.1.trms).mono ?_
        rintro e w7 ⟨u7, rfl, hu7, hb7⟩
        have H7 := Lib.hid (show OwnTrms w7 w6.heap.size u7 (sumV p [ukT v] (sclL p mk [⟨0, 0, 0, 1⟩])) ∧ Below wr.heap.size wr w7 from ⟨hu7, H3.out.2.trans ((H6.out.2.mono H3.out.2.size).trans (hb7.mono (Nat.le_trans H3.out.2.size H6.out.2.size)))⟩)
        clear hu7 hb7
        go_wp2_with fail
        refine (HM2.out _).mono ?_
        rintro e w8 ⟨rfl, rfl⟩
        go_wp2_with fail
        refine (HIV.out _).mono ?_
        rintro e w8 ⟨rfl, rfl⟩
        go_wp2_with fail
        refine (sScaled p u7 _ iv w7 HP.out sumV_ok HE.out.2 H7.out.1.trms).mono ?_
        rintro e w9 hg9
        obtain ⟨u9, rfl, hu9, hb9⟩ := hg9
        have H9 := Lib.hid (show OwnTrms w9 w7.heap.size u9 (sclL p iv (sumV p [ukT v] (sclL p mk [⟨0, 0, 0, 1⟩]))) ∧ Below wr.heap.size wr w9 from ⟨hu9, H7.out.2.trans (hb9.mono H7.out.2.size)⟩)
        clear hu9 hb9
        go_wp2_with fail
        refine (sMulPoly p _ u9 (unS p v a k) _ w9 (HF.out.below H9.out.2).trms H9.out.1.trms).mono ?_
        rintro e w10 ⟨u10, rfl, hu10, hb10⟩
        have H10 := Lib.hid (show OwnTrms w10 w.heap.size u10 (unS p v a (k + 1)) ∧ Below w.heap.size w w10 from
          ⟨by rw [HU.out]; exact ownT_low7 hu10 (Nat.le_trans HB.out.size H9.out.2.size), HB.out.trans ((H9.out.2.mono HB.out.size).trans (hb10.mono (Nat.le_trans HB.out.size H9.out.2.size)))⟩)
        clear hu10 hb10
        go_wp2_with fail
        go_roundw
        case rel => exact ⟨k + 1, by omega, by go_num, H10.out⟩
        case measure => simp [intOf]; omega
    · have hkp : k = p.toNat := by omega
      have hnl : ¬ (k : Int) < p := hlt
      have HR := Lib.hid (show OwnTrms wr w.heap.size u7 (unS p v a p.toNat) ∧ Below w.heap.size w wr from ⟨by rw [← hkp]; exact HF.out, HB.out⟩)
      clear hkp
      go_wp2_with fail
      go_ret
      exact ⟨_, rfl, HR.out⟩
end Go.Proofs.Ytajabchbdhjdiaa
namespace Go.Proofs.Ytajabchbdhjdiaa
set_option linter.unusedVariables false
open Go.RowKit
/-- the primes for which values are listed -/
def lst (p : Int) : Bool := p == 2 || p == 3
theorem lst_isP {p : Int} (h : lst p = true) : isP p = true := by
  have : p = 2 ∨ p = 3 := by simpa [lst] using h
  rcases this with rfl | rfl <;> rfl
theorem lst_cases {p : Int} (h : lst p = true) : p = 2 ∨ p = 3 := by simpa [lst] using h
theorem iHas (p : Int) (w : World) : Calls Try.prog 67 #[.int .i64 p] w fun e w' => e = .returned (.bool (lst p)) ∧ w = w' := by
  by_cases h2 : p = 2
  · subst h2
    go_enter Try.func67, Try.ntmps67
    go_wp2_with fail
    go_ret
    exact ⟨rfl, rfl⟩
  · have e2 : (p == 2) = false := by simp [h2]
    have HL := Lib.hid (show lst p = (p == 3) by unfold lst; rw [e2, Bool.false_or])
    clear h2
    obtain ⟨b, hb⟩ : ∃ b, b = (p == 3) := ⟨_, rfl⟩
    rw [← hb] at HL
    have hb2 : (p == 3) = b := hb.symm
    clear hb
    go_enter Try.func67, Try.ntmps67
    go_wp2_with fail
    go_ret
    rw [HL.out]
    exact ⟨rfl, rfl⟩
theorem sSmall10 (p : Int) (w : World) : Calls Try.prog 64 #[.int .i64 p] w fun e w' => e = .returned (.bool (lst p)) ∧ w = w' := by
  by_cases h2 : p = 2
  · subst h2
    go_enter Try.func64, Try.ntmps64
    go_wp2_with fail
    go_ret
    exact ⟨rfl, rfl⟩
  · have e2 : (p == 2) = false := by simp [h2]
    have HL := Lib.hid (show lst p = (p == 3) by unfold lst; rw [e2, Bool.false_or])
    clear h2
    obtain ⟨b, hb⟩ : ∃ b, b = (p == 3) := ⟨_, rfl⟩
    rw [← hb] at HL
    have hb2 : (p == 3) = b := hb.symm
    clear hb
    go_enter Try.func64, Try.ntmps64
    go_wp2_with fail
    go_ret
    rw [HL.out]
    exact ⟨rfl, rfl⟩
def ppB (p n : Int) : Bool := ptB p n && lst p
def ppV (p n : Int) : List Trm := if ppB p n = true then pqO p (ptX p n) (ptY p n) (ptZ p n) 3 else []
theorem pqO_same (p : Int) (h : p = 2 ∨ p = 3) (n : Int) (h0 : 0 ≤ n) (h1 : n < p * p * p) : pqO p (n / p / p) (n / p % p) (n % p) 3 = pqS p (n / p / p) (n / p % p) (n % p) 3 ∧ validB p (pqS p (n / p / p) (n / p % p) (n % p) 3) = true := by
  have k2 : ((List.range 8).all fun (n : Nat) => (pqO 2 ((n : Int) / 2 / 2) ((n : Int) / 2 % 2) ((n : Int) % 2) 3 == pqS 2 ((n : Int) / 2 / 2) ((n : Int) / 2 % 2) ((n : Int) % 2) 3) && validB 2 (pqS 2 ((n : Int) / 2 / 2) ((n : Int) / 2 % 2) ((n : Int) % 2) 3)) = true := by decide +kernel
  have k3 : ((List.range 27).all fun (n : Nat) => (pqO 3 ((n : Int) / 3 / 3) ((n : Int) / 3 % 3) ((n : Int) % 3) 3 == pqS 3 ((n : Int) / 3 / 3) ((n : Int) / 3 % 3) ((n : Int) % 3) 3) && validB 3 (pqS 3 ((n : Int) / 3 / 3) ((n : Int) / 3 % 3) ((n : Int) % 3) 3)) = true := by decide +kernel
  obtain ⟨m, rfl⟩ := Int.eq_ofNat_of_zero_le h0
  rcases h with rfl | rfl
  · have := List.all_eq_true.1 k2 m (List.mem_range.2 (by omega))
    simp only [Bool.and_eq_true, beq_iff_eq] at this
    exact this
  · have := List.all_eq_true.1 k3 m (List.mem_range.2 (by omega))
    simp only [Bool.and_eq_true, beq_iff_eq] at this
    exact this
theorem idxC (a b c : Int) (k : Nat) (hk : k < 3) (w : World) : (Instr.index 48 (.agg #[.int .i64 a, .int .i64 b, .int .i64 c]) (.int .i64 (k : Int))).run Try.prog w = .ok (.int .i64 (crd a b c (k : Int))) w := by
  have h3 : k = 0 ∨ k = 1 ∨ k = 2 := by omega
  rcases h3 with rfl | rfl | rfl
  · exact idx0 _ _ _ w
  · exact idx1 _ _ _ w
  · exact idx2 _ _ _ w
set_option maxRecDepth 100000 in
set_option maxHeartbeats 8000000 in
theorem iPointPoly (p n : Int) (w : World) : Calls Try.prog 31 #[.int .i64 p, .int .i64 n] w (GivesPB (ppV p n) (ppB p n) w) := by
  have hg : ∀ u : Value, Below w.heap.size w w → True := fun _ _ => trivial
  cases hB : ptB p n
  · have hV : ppV p n = [] ∧ ppB p n = false := by unfold ppV ppB; rw [hB]; exact ⟨rfl, rfl⟩
    rw [hV.1, hV.2]
    have HA := Lib.hid (iPointAt p n w)
    rw [hB] at HA
    clear hV hB
    go_enter Try.func31, Try.ntmps31
    go_wp2_with fail
    refine HA.out.mono ?_
    rintro e w1 ⟨rfl, hb1⟩
    have HB1 := Lib.hid hb1
    clear hb1
    go_wp2_with fail
    refine bodyPost_ret (v := .tuple #[.slice none 0 0, .bool false]) (by simp [results, Try.results31, go_sem]) rfl ⟨_, rfl, ownT_nil7 _ _, Below.alloc HB1.out HB1.out.size _⟩
  · have HA := Lib.hid (iPointAt p n w)
    rw [hB] at HA
    cases hL : lst p
    · have hV : ppV p n = [] ∧ ppB p n = false := by unfold ppV ppB; rw [hB, hL]; exact ⟨rfl, rfl⟩
      rw [hV.1, hV.2]
      have HH := Lib.hid (iHas p)
      rw [hL] at HH
      clear hV hB hL
      go_enter Try.func31, Try.ntmps31
      go_wp2_with fail
      refine HA.out.mono ?_
      rintro e w1 ⟨rfl, hb1⟩
      have HB1 := Lib.hid hb1
      clear hb1
      go_wp2_with fail
      refine (HH.out _).mono ?_
      rintro e w2 ⟨rfl, rfl⟩
      go_wp2_with fail
      refine bodyPost_ret (v := .tuple #[.slice none 0 0, .bool false]) (by simp [results, Try.results31, go_sem]) rfl ⟨_, rfl, ownT_nil7 _ _, Below.alloc HB1.out HB1.out.size _⟩
    · have hV : ppV p n = pqO p (ptX p n) (ptY p n) (ptZ p n) 3 ∧ ppB p n = true := by
        have e : ppB p n = true := by unfold ppB; rw [hB, hL]; rfl
        exact ⟨by unfold ppV; rw [if_pos e], e⟩
      rw [hV.1, hV.2]
      have hp := lst_isP hL
      obtain ⟨p0, p1⟩ := isP_bd hp
      have HH := Lib.hid (iHas p)
      rw [hL] at HH
      obtain ⟨x, hx⟩ : ∃ x, x = ptX p n := ⟨_, rfl⟩
      obtain ⟨y, hy⟩ : ∃ y, y = ptY p n := ⟨_, rfl⟩
      obtain ⟨z, hz⟩ : ∃ z, z = ptZ p n := ⟨_, rfl⟩
      rw [← hx, ← hy, ← hz] at HA
      rw [← hx, ← hy, ← hz]
      clear hV hB hL hx hy hz
      go_enter Try.func31, Try.ntmps31
      go_wp2_with fail
      refine HA.out.mono ?_
      rintro e w1 ⟨rfl, hb1⟩
      have HB1 := Lib.hid hb1
      clear hb1
      go_wp2_with fail
      refine (HH.out _).mono ?_
      rintro e w2 ⟨rfl, rfl⟩
      go_wp2_with fail
      refine (iMin p 1 _).mono ?_
      rintro e w3 ⟨rfl, hb3⟩
      have hs3 := hb3.size
      have hs1 := HB1.out.size
      have ct : ∀ j (hj : j < 3), w3.cell? ⟨w1.heap.size, j, none⟩ = some (.int .i64 (crd x y z j)) := by
        intro j hj
        rw [hb3.cell (p := ⟨w1.heap.size, j, none⟩) (by simp)]
        have h3 : j = 0 ∨ j = 1 ∨ j = 2 := by omega
        rcases h3 with rfl | rfl | rfl <;> exact World.cell?_alloc_at _ _ _ _ rfl
      have c0 := ct 0 (by omega)
      have c1 := ct 1 (by omega)
      have c2 := ct 2 (by omega)
      have d0 : crd x y z (0 : Nat) = x := rfl
      have d1 : crd x y z (1 : Nat) = y := rfl
      have d2 : crd x y z (2 : Nat) = z := rfl
      rw [d0] at c0
      rw [d1] at c1
      rw [d2] at c2
      have HB3 := Lib.hid (show Below w.heap.size w w3 from (HB1.out.alloc HB1.out.size _).trans (hb3.mono (by simp; omega)))
      obtain ⟨g, hg2⟩ : ∃ g, g = w1.heap.size := ⟨_, rfl⟩
      have hg3 : g < w3.heap.size := by have : w1.heap.size + 1 ≤ w3.heap.size := by simpa using hs3
                                        omega
      rw [← hg2] at c0 c1 c2
      rw [← hg2]
      clear ct d0 d1 d2 hb3 hg hg2 hs3 hs1
      obtain ⟨mv, hmv⟩ : ∃ mv, mv = minV p 1 := ⟨_, rfl⟩
      rw [← hmv]
      have H0 := Lib.hid (show OwnTrms (w3.alloc (Obj.cells #[.int .i64 0, .int .i64 0, .int .i64 0, .int .i64 mv] 69)) w.heap.size (.slice (some ⟨w3.heap.size, 0, none⟩) 1 1) (pqO p x y z 0) from by
        show OwnTrms _ _ _ [⟨0, 0, 0, minV p 1⟩]
        rw [← hmv]
        exact ownT_one7 HB3.out.size (by simp) ⟨World.cell?_alloc_at _ _ _ 0 rfl, World.cell?_alloc_at _ _ _ 1 rfl, World.cell?_alloc_at _ _ _ 2 rfl, World.cell?_alloc_at _ _ _ 3 rfl⟩ (fun i hi => World.frozen?_alloc_at _ _ _ i rfl) _)
      have HB4 := Lib.hid (show Below w.heap.size w (w3.alloc (Obj.cells #[.int .i64 0, .int .i64 0, .int .i64 0, .int .i64 mv] 69)) from HB3.out.alloc HB3.out.size _)
      clear hmv
      go_wp2_with fail
      clear c0 c1 c2
      go_loopw [8, 30] (fun f i wr => ∃ v : Nat, v ≤ 3 ∧ i = .int .i64 v ∧ OwnTrms wr w.heap.size f (pqO p x y z v) ∧ Below w.heap.size w wr) (fun _ i _ => 3 - (intOf i).toNat)
      case atStart => exact ⟨0, by omega, rfl, H0.out, HB4.out⟩
      case round =>
        clear H0 HB4
        obtain ⟨v, hv, rfl, hf, hb⟩ := hrel
        have HF := Lib.hid hf
        have HB := Lib.hid hb
        clear hf hb
        by_cases hlt : v < 3
        · have hltp : (v : Int) < 3 := by omega
          have hv0 : (0 : Int) ≤ (v : Int) := by omega
          have hix := idxC x y z v hlt wr
          have hvv : (v : Int) = 0 ∨ (v : Int) = 1 ∨ (v : Int) = 2 := by omega
          have HVV := Lib.hid hvv
          obtain ⟨hr, hhr⟩ : ∃ hr, hr = crd x y z (v : Int) := ⟨_, rfl⟩
          rw [← hhr] at hix
          have HN := Lib.hid (show pqO p x y z (v + 1) = pqI p v hr p.toNat (pqO p x y z v) by rw [hhr]; rfl)
          obtain ⟨F0, hF0⟩ : ∃ F0, F0 = pqO p x y z v := ⟨_, rfl⟩
          rw [← hF0] at HN HF
          clear hvv hhr hF0
          go_wp2_with fail
          clear hix
          go_loopw [8, 35] (fun f i wr => ∃ k : Nat, (k : Int) ≤ p ∧ i = .int .i64 k ∧ OwnTrms wr w.heap.size f (pqI p v hr k F0) ∧ Below w.heap.size w wr) (fun _ i _ => p.toNat - (intOf i).toNat)
          case atStart => exact ⟨0, by omega, rfl, HF.out, HB.out⟩
          case round =>
            clear HF HB
            obtain ⟨k, hk, rfl, hf, hb⟩ := hrel
            have HF := Lib.hid hf
            have HB := Lib.hid hb
            clear hf hb
            by_cases hlk : (k : Int) < p
            · have hk0 : (0 : Int) ≤ (k : Int) := by omega
              by_cases hka : (k : Int) = hr
              · have HU := Lib.hid (show pqI p v hr (k + 1) F0 = pqI p v hr k F0 from by show (if (k : Int) = hr then _ else _) = _; rw [if_pos hka])
                have hq : ((k : Int) != hr) = false := by simp [hka]
                clear hka
                go_wp2_with fail
                go_roundw
                case rel => exact ⟨k + 1, by omega, by go_num, by rw [HU.out]; exact HF.out, HB.out⟩
                case measure => simp [intOf]; omega
              · have HU := Lib.hid (show pqI p v hr (k + 1) F0 = mulL p (pqI p v hr k F0) (zerL p v k) from by show (if (k : Int) = hr then _ else _) = _; rw [if_neg hka])
                have hq : ((k : Int) != hr) = true := by simp [hka]
                clear hka
                go_wp2_with fail
                refine (iZeroAt p v k HVV.out hk0 (by omega) _).mono ?_
                rintro e w5 ⟨u5, rfl, hu5, hb5⟩
                have H5 := Lib.hid (show OwnTrms w5 wr.heap.size u5 (zerL p v k) ∧ Below wr.heap.size wr w5 from ⟨hu5, hb5⟩)
                clear hu5 hb5
                go_wp2_with fail
                refine (iMulPoly p _ u5 (pqI p v hr k F0) (zerL p v k) w5 (HF.out.below H5.out.2).trms H5.out.1.trms).mono ?_
                rintro e w6 ⟨u6, rfl, hu6, hb6⟩
                have H6 := Lib.hid (show OwnTrms w6 w.heap.size u6 (pqI p v hr (k + 1) F0) ∧ Below w.heap.size w w6 from
                  ⟨by rw [HU.out]; exact ownT_low7 hu6 (Nat.le_trans HB.out.size H5.out.2.size), HB.out.trans ((H5.out.2.mono HB.out.size).trans (hb6.mono (Nat.le_trans HB.out.size H5.out.2.size)))⟩)
                clear hu6 hb6
                go_wp2_with fail
                go_roundw
                case rel => exact ⟨k + 1, by omega, by go_num, H6.out⟩
                case measure => simp [intOf]; omega
            · have hkp : k = p.toNat := by omega
              have HR := Lib.hid (show OwnTrms wr w.heap.size u8 (pqO p x y z (v + 1)) ∧ Below w.heap.size w wr from ⟨by rw [HN.out, ← hkp]; exact HF.out, HB.out⟩)
              clear hkp
              go_wp2_with fail
              go_roundw
              case rel => exact ⟨v + 1, by omega, by go_num, HR.out⟩
              case measure => simp [intOf]; omega
        · have hvp : v = 3 := by omega
          subst hvp
          go_wp2_with fail
          refine bodyPost_ret (v := .tuple #[u8, .bool true]) (by simp [results, Try.results31, go_sem]) rfl ⟨_, rfl, HF.out, HB.out⟩
set_option maxRecDepth 100000 in
set_option maxHeartbeats 8000000 in
theorem sPoint10 (p x y z : Int) (hp : isP p = true) (hx : 0 ≤ x ∧ x < p) (hy : 0 ≤ y ∧ y < p) (hz : 0 ≤ z ∧ z < p) (w : World) :
    Calls Try.prog 74 #[.int .i64 p, .agg #[.int .i64 x, .int .i64 y, .int .i64 z]] w fun e w' => ∃ u, e = .returned u ∧ OwnTrms w' w.heap.size u (pqS p x y z 3) ∧ Below w.heap.size w w' := by
  have HC := Lib.hid (show ∀ v : Nat, v < 3 → 0 ≤ crd x y z v ∧ crd x y z v < p from by
    intro v hv
    have h3 : v = 0 ∨ v = 1 ∨ v = 2 := by omega
    rcases h3 with rfl | rfl | rfl
    · exact hx
    · exact hy
    · exact hz)
  have HP := Lib.hid hp
  clear hp hx hy hz
  go_enter Try.func74, Try.ntmps74
  go_wp2_with fail
  obtain ⟨W, hW⟩ : ∃ W, W = w.alloc (Obj.cells #[.int .i64 x, .int .i64 y, .int .i64 z] 48) := ⟨_, rfl⟩
  rw [← hW]
  have bW : Below w.heap.size w W := by rw [hW]; exact (by repeat (first | exact Below.refl _ _ | apply Below.drew | apply below_drewN | (refine Below.alloc ?_ (by first | omega | (simp <;> omega)) _)))
  have c0 : W.cell? ⟨w.heap.size, 0, none⟩ = some (.int .i64 x) := by rw [hW]; exact World.cell?_alloc_at _ _ _ 0 rfl
  have c1 : W.cell? ⟨w.heap.size, 1, none⟩ = some (.int .i64 y) := by rw [hW]; exact World.cell?_alloc_at _ _ _ 1 rfl
  have c2 : W.cell? ⟨w.heap.size, 2, none⟩ = some (.int .i64 z) := by rw [hW]; exact World.cell?_alloc_at _ _ _ 2 rfl
  have sW : W.heap.size = w.heap.size + 1 := by rw [hW]; simp
  clear hW
  have HBW := Lib.hid bW
  clear bW
  refine (sOne7 _).mono ?_
  rintro e w1 ⟨u1, rfl, hu1, hb1⟩
  have k0 : w1.cell? ⟨w.heap.size, 0, none⟩ = some (.int .i64 x) := (hb1.cell (p := ⟨w.heap.size, 0, none⟩) (by show w.heap.size < _; omega)).trans c0
  have k1 : w1.cell? ⟨w.heap.size, 1, none⟩ = some (.int .i64 y) := (hb1.cell (p := ⟨w.heap.size, 1, none⟩) (by show w.heap.size < _; omega)).trans c1
  have k2 : w1.cell? ⟨w.heap.size, 2, none⟩ = some (.int .i64 z) := (hb1.cell (p := ⟨w.heap.size, 2, none⟩) (by show w.heap.size < _; omega)).trans c2
  have H1 := Lib.hid (show OwnTrms w1 w.heap.size u1 (pqS p x y z 0) ∧ Below w.heap.size w w1 from ⟨ownT_low7 hu1 HBW.out.size, HBW.out.trans (hb1.mono HBW.out.size)⟩)
  clear hu1 hb1 c0 c1 c2
  go_wp2_with fail
  clear k0 k1 k2
  go_loopw [5, 10] (fun f i wr => ∃ v : Nat, v ≤ 3 ∧ i = .int .i64 v ∧ OwnTrms wr w.heap.size f (pqS p x y z v) ∧ Below w.heap.size w wr) (fun _ i _ => 3 - (intOf i).toNat)
  case atStart => exact ⟨0, by omega, rfl, H1.out⟩
  case round =>
    clear H1
    obtain ⟨v, hv, rfl, hf, hb⟩ := hrel
    have HF := Lib.hid hf
    have HB := Lib.hid hb
    clear hf hb
    by_cases hlt : v < 3
    · have hltp : (v : Int) < 3 := by omega
      have hv0 : (0 : Int) ≤ (v : Int) := by omega
      have hix := idxC x y z v hlt wr
      have HVV := Lib.hid (show (v : Int) = 0 ∨ (v : Int) = 1 ∨ (v : Int) = 2 by omega)
      obtain ⟨hr, hhr⟩ : ∃ hr, hr = crd x y z (v : Int) := ⟨_, rfl⟩
      have HHR := Lib.hid (HC.out v hlt)
      rw [← hhr] at hix HHR
      have HN := Lib.hid (show pqS p x y z (v + 1) = mulL p (pqS p x y z v) (unS p v hr p.toNat) by rw [hhr]; rfl)
      clear hhr
      go_wp2_with fail
      refine (sUnit p v hr HP.out HVV.out HHR.out _).mono ?_
      rintro e w5 ⟨u5, rfl, hu5, hb5⟩
      have H5 := Lib.hid (show OwnTrms w5 wr.heap.size u5 (unS p v hr p.toNat) ∧ Below wr.heap.size wr w5 from ⟨hu5, hb5⟩)
      clear hu5 hb5
      go_wp2_with fail
      refine (sMulPoly p _ u5 (pqS p x y z v) _ w5 (HF.out.below H5.out.2).trms H5.out.1.trms).mono ?_
      rintro e w6 ⟨u6, rfl, hu6, hb6⟩
      have H6 := Lib.hid (show OwnTrms w6 w.heap.size u6 (pqS p x y z (v + 1)) ∧ Below w.heap.size w w6 from
        ⟨by rw [HN.out]; exact ownT_low7 hu6 (Nat.le_trans HB.out.size H5.out.2.size), HB.out.trans ((H5.out.2.mono HB.out.size).trans (hb6.mono (Nat.le_trans HB.out.size H5.out.2.size)))⟩)
      clear hu6 hb6
      go_wp2_with fail
      go_roundw
      case rel => exact ⟨v + 1, by omega, by go_num, H6.out⟩
      case measure => simp [intOf]; omega
    · have hvp : v = 3 := by omega
      subst hvp
      go_wp2_with fail
      go_ret
      exact ⟨_, rfl, HF.out, HB.out⟩
theorem ptX_bd {p n : Int} (h : ptB p n = true) : (0 ≤ ptX p n ∧ ptX p n < p) ∧ (0 ≤ ptY p n ∧ ptY p n < p) ∧ (0 ≤ ptZ p n ∧ ptZ p n < p) := by
  obtain ⟨h1, h2, h3⟩ := ptB_yes h
  have hp := isP_bd h1
  unfold ptX ptY ptZ
  simp only [h, if_true]
  refine ⟨⟨?_, ?_⟩, ⟨Int.emod_nonneg _ (by omega), Int.emod_lt_of_pos _ (by omega)⟩, ⟨Int.emod_nonneg _ (by omega), Int.emod_lt_of_pos _ (by omega)⟩⟩
  · exact Int.ediv_nonneg (Int.ediv_nonneg h2 (by omega)) (by omega)
  · refine Int.ediv_lt_of_lt_mul (by omega) (Int.ediv_lt_of_lt_mul (by omega) ?_)
    exact h3
theorem ppV_s {p n : Int} (h : ppB p n = true) : ppV p n = pqS p (ptX p n) (ptY p n) (ptZ p n) 3 ∧ validB p (ppV p n) = true := by
  have hb : ptB p n = true ∧ lst p = true := by simpa [ppB] using h
  obtain ⟨h1, h2, h3⟩ := ptB_yes hb.1
  have k := pqO_same p (lst_cases hb.2) n h2 h3
  have e : ppV p n = pqO p (ptX p n) (ptY p n) (ptZ p n) 3 := by unfold ppV; rw [if_pos h]
  have ex : ptX p n = n / p / p := by unfold ptX; rw [if_pos hb.1]
  have ey : ptY p n = n / p % p := by unfold ptY; rw [if_pos hb.1]
  have ez : ptZ p n = n % p := by unfold ptZ; rw [if_pos hb.1]
  rw [e, ex, ey, ez]
  exact ⟨k.1, k.1 ▸ k.2⟩
set_option maxRecDepth 100000 in
set_option maxHeartbeats 8000000 in
theorem sPointPoly (p n : Int) (w : World) : Calls Try.prog 30 #[.int .i64 p, .int .i64 n] w (GivesPB (ppV p n) (ppB p n) w) := by
  have HA := Lib.hid (sPointAt p n w)
  cases hB : ptB p n
  · have hV : ppV p n = [] ∧ ppB p n = false := by unfold ppV ppB; rw [hB]; exact ⟨rfl, rfl⟩
    rw [hV.1, hV.2]
    rw [hB] at HA
    clear hV hB
    go_enter Try.func30, Try.ntmps30
    go_wp2_with fail
    refine HA.out.mono ?_
    rintro e w1 ⟨rfl, hb1⟩
    have HB1 := Lib.hid hb1
    clear hb1
    go_wp2_with fail
    refine bodyPost_ret (v := .tuple #[.slice (some ⟨w1.heap.size + 1, 0, none⟩) 0 0, .bool false]) (by simp [results, Try.results30, go_sem]) rfl ⟨_, rfl, ⟨by simp, _, _, rfl, .inl rfl⟩, Below.alloc (Below.alloc HB1.out HB1.out.size _) (by have := HB1.out.size; simp; omega) _⟩
  · rw [hB] at HA
    cases hL : lst p
    · have hV : ppV p n = [] ∧ ppB p n = false := by unfold ppV ppB; rw [hB, hL]; exact ⟨rfl, rfl⟩
      rw [hV.1, hV.2]
      have HH := Lib.hid (sSmall10 p)
      rw [hL] at HH
      clear hV hB hL
      go_enter Try.func30, Try.ntmps30
      go_wp2_with fail
      refine HA.out.mono ?_
      rintro e w1 ⟨rfl, hb1⟩
      have HB1 := Lib.hid hb1
      clear hb1
      go_wp2_with fail
      refine (HH.out _).mono ?_
      rintro e w2 ⟨rfl, rfl⟩
      go_wp2_with fail
      refine bodyPost_ret (v := .tuple #[.slice (some ⟨w1.heap.size + 1, 0, none⟩) 0 0, .bool false]) (by simp [results, Try.results30, go_sem]) rfl ⟨_, rfl, ⟨by simp, _, _, rfl, .inl rfl⟩, Below.alloc (Below.alloc HB1.out HB1.out.size _) (by have := HB1.out.size; simp; omega) _⟩
    · have e : ppB p n = true := by unfold ppB; rw [hB, hL]; rfl
      have HV := Lib.hid (ppV_s e).1
      rw [e, HV.out]
      have HP := Lib.hid (lst_isP hL)
      have HH := Lib.hid (sSmall10 p)
      rw [hL] at HH
      have HBD := Lib.hid (ptX_bd hB)
      obtain ⟨x, hx⟩ : ∃ x, x = ptX p n := ⟨_, rfl⟩
      obtain ⟨y, hy⟩ : ∃ y, y = ptY p n := ⟨_, rfl⟩
      obtain ⟨z, hz⟩ : ∃ z, z = ptZ p n := ⟨_, rfl⟩
      rw [← hx, ← hy, ← hz] at HA HBD
      rw [← hx, ← hy, ← hz]
      clear hB hL hx hy hz HV e
      go_enter Try.func30, Try.ntmps30
      go_wp2_with fail
      refine HA.out.mono ?_
      rintro e w1 ⟨rfl, hb1⟩
      have HB1 := Lib.hid hb1
      clear hb1
      go_wp2_with fail
      refine (HH.out _).mono ?_
      rintro e w2 ⟨rfl, rfl⟩
      go_wp2_with fail
      refine (sPoint10 p x y z HP.out HBD.out.1 HBD.out.2.1 HBD.out.2.2 _).mono ?_
      rintro e w3 ⟨u3, rfl, hu3, hb3⟩
      have H3 := Lib.hid (show OwnTrms w3 w.heap.size u3 (pqS p x y z 3) ∧ Below w.heap.size w w3 from
        ⟨ownT_low7 hu3 (by have := HB1.out.size; simp; omega), (HB1.out.alloc HB1.out.size _).trans (hb3.mono (by have := HB1.out.size; simp; omega))⟩)
      clear hu3 hb3
      go_wp2_with fail
      refine bodyPost_ret (v := .tuple #[u3, .bool true]) (by simp [results, Try.results30, go_sem]) rfl ⟨_, rfl, H3.out⟩
end Go.Proofs.Ytajabchbdhjdiaa
namespace Go.Proofs.Ytajabchbdhjdiaa
open Go.RowKit
/-- a term with exponents below the prime -/
def lowT (p : Int) (x : Trm) : Trm := ⟨lowE p x.a, lowE p x.b, lowE p x.c, x.t⟩
def redL (p : Int) (L : List Trm) : List Trm := L.map (lowT p)
theorem redL_len (p : Int) (L : List Trm) : (redL p L).length = L.length := by simp [redL]
theorem redL_getD (p : Int) (L : List Trm) (k : Nat) (h : k < L.length) : (redL p L).getD k default = lowT p (L.getD k default) := by
  simp [redL, List.getD_eq_getElem?_getD, h]
theorem mkT_low {p : Int} {L : List Trm} (h : validB p L = true) {k : Nat} (hk : k < L.length) : mkT p (lowT p (L.getD k default)) = lowT p (L.getD k default) := by
  obtain ⟨h1, h2⟩ := validB_el h hk rfl
  unfold mkT
  rw [show (lowT p (L.getD k default)).t = (L.getD k default).t from rfl, Int.emod_eq_of_lt (by omega) h2]
  rfl
theorem red_next {p : Int} {L : List Trm} (h : validB p L = true) {k : Nat} (hk : k < L.length) : addT p (lowT p (L.getD k default)) (mkK p (redL p L) k) = mkK p (redL p L) (k + 1) := by
  rw [← mkK_next (p := p) (L := redL p L) (k := k) (by rw [redL_len]; exact hk), redL_getD p L k hk, mkT_low h hk]
theorem red_pw {p : Int} {L : List Trm} (hp : isP p = true) (h : validB p L = true) : (redL p L).all pwB = true := by
  rw [List.all_eq_true]
  intro y hy
  obtain ⟨x, hx, rfl⟩ := List.mem_map.1 hy
  obtain ⟨k, hk, rfl⟩ := List.getElem_of_mem hx
  have hb := validB_pows h hk (x := L.getD k default) rfl
  rw [List.getD_eq_getElem?_getD, List.getElem?_eq_getElem hk, Option.getD_some] at hb
  have h1 := lowE_bd hp hb.1.1 hb.1.2
  have h2 := lowE_bd hp hb.2.1.1 hb.2.1.2
  have h3 := lowE_bd hp hb.2.2.1 hb.2.2.2
  simp only [pwB, powsB, powB, lowT, Bool.and_eq_true]
  exact ⟨⟨⟨decide_eq_true h1.1, decide_eq_true h1.2.1⟩, ⟨decide_eq_true h2.1, decide_eq_true h2.2.1⟩⟩, ⟨decide_eq_true h3.1, decide_eq_true h3.2.1⟩⟩
def rdOk (p : Int) (L : List Trm) : Bool := (isP p && validB p L) && makeOk p (redL p L)
def rdV (p : Int) (L : List Trm) : List Trm := if rdOk p L = true then makeV p (redL p L) else []
theorem rdOk_yes {p : Int} {L : List Trm} (hp : isP p = true) (h : validB p L = true) : rdOk p L = validB p (mkK p (redL p L) L.length) ∧ rdV p L = if validB p (mkK p (redL p L) L.length) = true then mkK p (redL p L) L.length else [] := by
  have h1 : makeOk p (redL p L) = validB p (mkK p (redL p L) L.length) := by
    unfold makeOk
    rw [hp, red_pw hp h, redL_len, decide_eq_true (validB_len h)]
    rfl
  have h2 : rdOk p L = validB p (mkK p (redL p L) L.length) := by unfold rdOk; rw [hp, h, h1]; rfl
  refine ⟨h2, ?_⟩
  unfold rdV
  rw [h2]
  split
  · rename_i hv
    unfold makeV
    rw [h1, if_pos hv, redL_len]
  · rfl
theorem rdOk_no {p : Int} {L : List Trm} (h : (isP p && validB p L) = false) : rdOk p L = false ∧ rdV p L = [] := by
  have e : rdOk p L = false := by unfold rdOk; rw [h]; rfl
  exact ⟨e, by unfold rdV; rw [e]; rfl⟩
set_option maxRecDepth 100000 in
set_option maxHeartbeats 8000000 in
theorem sReduced (p : Int) (a : Option Addr) (cap : Nat) (L : List Trm) (w : World) (hp : isP p = true) (hV : validB p L = true) (hL : Trms w (.slice a L.length cap) L) :
    Calls Try.prog 83 #[.int .i64 p, .slice a L.length cap] w fun e w' => ∃ v, e = .returned (.agg #[v]) ∧ Row w' w.heap.size v (mkK p (redL p L) L.length) ∧ Below w.heap.size w w' := by
  have HP := Lib.hid hp
  have HV := Lib.hid hV
  have HL := Lib.hid hL
  have hl := validB_len hV
  clear hp hV hL
  go_enter Try.func83, Try.ntmps83
  go_upto_region 2 with fail
  obtain ⟨W, hW⟩ : ∃ W, W = (w.alloc (Obj.cells #[.slice none 0 0] 101)).alloc (Obj.cells #[.slice none 0 0] 101) := ⟨_, rfl⟩
  obtain ⟨S, hSe⟩ : ∃ S, S = w.heap.size + 1 := ⟨_, rfl⟩
  have hWs : W.heap.size = w.heap.size + 2 := by rw [hW]; simp
  have HW := Lib.hid (show ModW W S (.slice none 0 0) ∧ Row W S (.slice none 0 0) (mkK p (redL p L) 0) ∧ Value.ownBlock (.slice none 0 0) ≠ some S ∧ Below S W W by
    rw [hW, hSe, mkK_zero]
    exact ⟨⟨by simp [go_sem], World.frozen?_alloc_at _ _ _ 0 (by simp), by simp⟩, Row.nil _ _, by simp [Value.ownBlock], Below.refl _ _⟩)
  have HR := Lib.hid (show W.cell? ⟨w.heap.size, 0, none⟩ = some (.slice none 0 0) ∧ W.frozen? ⟨w.heap.size, 0, none⟩ = false ∧ Below w.heap.size w W by
    rw [hW]
    have hb : Below (w.heap.size + 1) (w.alloc (Obj.cells #[.slice none 0 0] 101)) ((w.alloc (Obj.cells #[.slice none 0 0] 101)).alloc (Obj.cells #[.slice none 0 0] 101)) := Below.alloc (Below.refl _ _) (by simp) _
    exact ⟨by rw [hb.cell (p := ⟨w.heap.size, 0, none⟩) (by simp)]; simp [go_sem], by rw [hb.frozen (p := ⟨w.heap.size, 0, none⟩) (by simp)]; exact World.frozen?_alloc_at _ _ _ 0 rfl, Below.alloc (Below.alloc (Below.refl _ _) (Nat.le_refl _) _) (by simp) _⟩)
  rw [← hW]
  subst hSe
  clear hW
  go_wp2_with fail
  go_loopw [12] (fun i wr => ∃ (k : Nat) (v : Value), k ≤ L.length ∧ i = .int .i64 k ∧ ModW wr (w.heap.size + 1) v ∧ Row wr (w.heap.size + 1) v (mkK p (redL p L) k) ∧ v.ownBlock ≠ some (w.heap.size + 1) ∧ Below (w.heap.size + 1) W wr) (fun i _ => L.length - (intOf i).toNat)
  case atStart => exact ⟨0, _, by omega, rfl, HW.out⟩
  case round =>
    clear HW
    obtain ⟨k, v, hk, rfl, hS, hR, hv, hb⟩ := hrel
    by_cases hlt : k < L.length
    · have hltp : (k : Int) < (L.length : Int) := by omega
      have hk0 : (0 : Int) ≤ (k : Int) := by omega
      obtain ⟨x, hx⟩ : ∃ x, x = L.getD k default := ⟨_, rfl⟩
      obtain ⟨g, off, rfl, hg, hc⟩ : ∃ g off, a = some ⟨g, off, none⟩ ∧ g < w.heap.size ∧ ∀ j : Nat, j < L.length → TAt w g (off + j * 4) (L.getD j default) := by
        obtain ⟨_, a', cap', he, h⟩ := HL.out
        injection he with e1 e2 e3
        subst e1
        rcases h with h | h
        · rw [h] at hlt; simp at hlt
        · exact h
      obtain ⟨b0, b1, b2, b3⟩ := ((hc k hlt).below HR.out.2.2 hg).below hb (by omega)
      rw [← hx] at b0 b1 b2 b3
      have hpw := validB_pows HV.out hlt hx
      have htt := validB_el HV.out hlt hx
      have HXK := Lib.hid (show addT p (lowT p x) (mkK p (redL p L) k) = mkK p (redL p L) (k + 1) by rw [hx, red_next HV.out hlt])
      obtain ⟨n, hne⟩ : ∃ n, n = wr.heap.size := ⟨_, rfl⟩
      obtain ⟨W1, hW1⟩ : ∃ W1, W1 = wr.alloc (Obj.cells #[.int .i64 x.a, .int .i64 x.b, .int .i64 x.c, .int .i64 x.t] 69) := ⟨_, rfl⟩
      have hT1 : TAt W1 n 0 x := by rw [hW1, hne]; refine ⟨?_, ?_, ?_, ?_⟩ <;> simp [go_sem]
      have hf1 : ∀ i, W1.frozen? ⟨n, i, none⟩ = false := fun i => by rw [hW1, hne]; exact World.frozen?_alloc_at _ _ _ i rfl
      have hf10 := hf1 0
      have hf11 := hf1 1
      have hf12 := hf1 2
      have hr1 : Below wr.heap.size wr W1 := by rw [hW1]; exact Below.alloc (Below.refl _ _) (Nat.le_refl _) _
      have hsS := hb.size
      have H1 := Lib.hid (fun (W' : World) (hb' : Below wr.heap.size wr W') => show ModW W' (w.heap.size + 1) v ∧ Row W' (w.heap.size + 1) v (mkK p (redL p L) k) ∧ Below (w.heap.size + 1) W W' from
        ⟨hS.below hb', hR.below hb', hb.trans (hb'.mono (by omega))⟩)
      have HV2 := Lib.hid hv
      have HW1 := Lib.hid hW1
      have HR1 := Lib.hid (And.intro hr1 hne)
      have HX := Lib.hid (And.intro hpw htt)
      obtain ⟨t0, t1, t2, t3⟩ := hT1
      simp only [Nat.zero_add] at t0 t1 t2 t3
      clear hx hS hR hv hb hc hpw htt hW1 hr1 hf1
      go_upto_region 5 with fail
      rw [← HW1.out, ← hne]
      clear hne
      go_wp2_with fail
      refine wp_loop_rounds 4 ?_
      rw [rounds_succ]
      go_wp2_with fail
      refine (sLow p x.a HP.out HX.out.1.1.1 HX.out.1.1.2 _).mono ?_
      rintro e w' ⟨rfl, rfl⟩
      go_wp2_with fail
      rw [rounds_succ]
      go_wp2_with fail
      refine (sLow p x.b HP.out HX.out.1.2.1.1 HX.out.1.2.1.2 _).mono ?_
      rintro e w' ⟨rfl, rfl⟩
      go_wp2_with fail
      rw [rounds_succ]
      go_wp2_with fail
      refine (sLow p x.c HP.out HX.out.1.2.2.1 HX.out.1.2.2.2 _).mono ?_
      rintro e w' ⟨rfl, rfl⟩
      go_wp2_with fail
      rw [rounds_succ]
      go_wp2_with fail
      have hb2 : Below wr.heap.size wr (((W1.setCell ⟨n, 0, none⟩ (.int .i64 (lowE p x.a))).setCell ⟨n, 1, none⟩ (.int .i64 (lowE p x.b))).setCell ⟨n, 2, none⟩ (.int .i64 (lowE p x.c))) := by
        obtain ⟨hr1, hne⟩ := HR1.out
        exact ((hr1.setCell (by rw [hne]; exact Nat.le_refl _) _).setCell (by rw [hne]; exact Nat.le_refl _) _).setCell (by rw [hne]; exact Nat.le_refl _) _
      obtain ⟨hS, hR, hb⟩ := H1.out _ hb2
      have hf := mkK_facts (p := p) (L := redL p L) HP.out (k := k) (by rw [redL_len]; omega) (by rw [redL_len]; exact hl)
      have hbs := hb.size
      refine (sAdd (w.heap.size + 1) (w.heap.size + 1) p (mkK p (redL p L) k) (lowT p x) v _ hS hR (by omega) hf.1 HV2.out HP.out hf.2.1 ⟨by have := HX.out.2.1; show 0 ≤ x.t; omega, HX.out.2.2⟩ (by omega)).mono ?_
      rintro e w4 hP4
      have hlow := hP4.low hR (Nat.le_refl _) (by omega)
      obtain ⟨rfl, v', hS', hR', hv', _, _⟩ := hP4
      rw [HXK.out] at hR'
      have HQ := Lib.hid (And.intro hS' (And.intro hR' (And.intro hv' (hb.trans hlow))))
      clear hS' hR' hv' hlow hf hS hR hb hbs hb2 t0 t1 t2 t3
      go_wp2_with fail
      go_roundw
      case rel => exact ⟨k + 1, v', by omega, by go_num, HQ.out⟩
      case measure => simp [intOf]; omega
    · have hkl : k = L.length := by omega
      subst hkl
      obtain ⟨s0, sf, ssz⟩ := hS
      have c0 : wr.cell? ⟨w.heap.size, 0, none⟩ = some (.slice none 0 0) := by rw [hb.cell (p := ⟨w.heap.size, 0, none⟩) (by simp)]; exact HR.out.1
      have f0 : wr.frozen? ⟨w.heap.size, 0, none⟩ = false := by rw [hb.frozen (p := ⟨w.heap.size, 0, none⟩) (by simp)]; exact HR.out.2.1
      have hRn : v.ownBlock ≠ some w.heap.size := fun e => by have := (World.ownsRow.lt hR _ e).1; omega
      have HQ := Lib.hid (show Row (wr.setCell ⟨w.heap.size, 0, none⟩ v) w.heap.size v (mkK p (redL p L) L.length) ∧ Below w.heap.size w (wr.setCell ⟨w.heap.size, 0, none⟩ v) from
        ⟨row_base (World.ownsRow.kept (row := some w.heap.size) hR ⟨rfl, rfl, rfl, by simp, fun k hk hne => Below.heap_setCell _ _ _ _ (fun e => hne (by rw [e]))⟩ (.inr hRn)) (by omega),
          (HR.out.2.2.trans (hb.mono (by omega))).setCell (Nat.le_refl _) _⟩)
      obtain ⟨ao, no, co, rfl⟩ : ∃ ao no co, v = .slice ao no co := by
        rcases hR.shape with ⟨rfl, _⟩ | ⟨b, cap, rfl, _⟩
        · exact ⟨_, _, _, rfl⟩
        · exact ⟨_, _, _, rfl⟩
      clear hR hb hRn hv
      go_wp2_with fail
      refine bodyPost_ret (v := .agg #[.slice ao no co]) (by simp [results, Try.results83, go_sem, c0]) rfl ⟨_, rfl, HQ.out⟩
set_option maxHeartbeats 4000000 in
theorem sReducePoly (p : Int) (f : Value) (L : List Trm) (w : World) (hL : Trms w f L) : Calls Try.prog 143 #[.int .i64 p, f] w (GivesPB (rdV p L) (rdOk p L) w) := by
  cases hn : (isP p && validB p L)
  · rw [(rdOk_no hn).1, (rdOk_no hn).2]
    have HB := Lib.hid (show Calls Try.prog 63 #[.int .i64 p, f] w fun e w' => e = .returned (.bool false) ∧ Below w.heap.size w w' from
      (sPolyValid p f L w hL).mono fun e w' h => by rw [hn] at h; exact h)
    clear hn hL
    go_enter Try.func143, Try.ntmps143
    go_wp2_with fail
    refine HB.out.mono ?_
    rintro e w1 ⟨rfl, hb1⟩
    go_wp2_with fail
    refine bodyPost_ret (v := .tuple #[.slice (some ⟨w1.heap.size, 0, none⟩) 0 0, .bool false]) (by simp [results, Try.results143, go_sem]) rfl ⟨_, rfl, (Row.lit0 w1 w.heap.size hb1.size).own (by simp), Below.alloc hb1 hb1.size _⟩
  · have hn2 := hn
    simp only [Bool.and_eq_true] at hn2
    obtain ⟨hp, hV⟩ := hn2
    have HB := Lib.hid (show Calls Try.prog 63 #[.int .i64 p, f] w fun e w' => e = .returned (.bool true) ∧ Below w.heap.size w w' from
      (sPolyValid p f L w hL).mono fun e w' h => by rw [hn] at h; exact h)
    obtain ⟨h1, h2⟩ := rdOk_yes hp hV
    rw [h1, h2]
    have hl := validB_len hV
    obtain ⟨l0, a, cap, rfl, l1⟩ := hL
    have HD := Lib.hid (fun w1 (hb : Below w.heap.size w w1) => sReduced p a cap L w1 hp hV (Trms.below ⟨l0, a, cap, rfl, l1⟩ hb))
    obtain ⟨M, hM⟩ : ∃ M, M = mkK p (redL p L) L.length := ⟨_, rfl⟩
    have hMl : M.length ≤ 60 := by rw [hM]; exact (mkK_facts (p := p) (L := redL p L) hp (k := L.length) (by rw [redL_len]; omega) (by rw [redL_len]; exact hl)).2.2
    rw [← hM] at HD ⊢
    have HP := Lib.hid hp
    have HT0 := Lib.hid (fun B v w hR => sTold B p hp M v w hR (by omega))
    obtain ⟨R, hR⟩ : ∃ R, R = (if validB p M = true then M else []) := ⟨_, rfl⟩
    obtain ⟨b, hb⟩ : ∃ b, b = validB p M := ⟨_, rfl⟩
    rw [← hR, ← hb] at HT0 ⊢
    clear hn l1 h1 h2 hM hV hp hR hb
    go_enter Try.func143, Try.ntmps143
    go_wp2_with fail
    refine HB.out.mono ?_
    rintro e w1 ⟨rfl, hb1⟩
    have HB1 := Lib.hid hb1
    clear hb1
    go_wp2_with fail
    refine (HD.out _ HB1.out).mono ?_
    rintro e w2 ⟨v, rfl, hR, hb2⟩
    have HT := Lib.hid (HT0.out w1.heap.size v w2 hR)
    have HB2 := Lib.hid (HB1.out.trans (hb2.mono HB1.out.size))
    clear hb2 hR
    go_wp2_with fail
    refine HT.out.mono ?_
    rintro e w5 ⟨v5, rfl, ho5, hb5⟩
    have H5 := Lib.hid (And.intro (ownTrms_mono ho5 HB2.out.size) (HB2.out.trans (hb5.mono HB2.out.size)))
    clear ho5 hb5
    go_wp2_with fail
    refine bodyPost_ret (v := .tuple #[v5, .bool b]) (by simp [results, Try.results143, go_sem]) rfl ⟨_, rfl, H5.out⟩
theorem below_setCells4 {B : Nat} {a : World} (b : Nat) : ∀ (vs : List Value) (o : Nat) (w : World), Below B a w → B ≤ b → Below B a (w.setCells b o vs)
  | [], _, _, h, _ => h
  | v :: r, o, w, h, hb => by
    rw [World.setCells]
    exact below_setCells4 b r (o + 1) _ (h.setCell hb _) hb
/-- the world in which the first k terms of a copy have exponents below the prime -/
structure LowW (p : Int) (L : List Trm) (G k : Nat) (w wr : World) : Prop where
  cells : ∀ j : Nat, j < L.length → TAt wr G (j * 4) (if j < k then lowT p (L.getD j default) else L.getD j default)
  froz : ∀ i : Nat, i < L.length * 4 → wr.frozen? ⟨G, i, none⟩ = false
  sz : G < wr.heap.size
  low : Below w.heap.size w wr
theorem LowW.step {p : Int} {L : List Trm} {G k : Nat} {w wr w' : World} (h : LowW p L G k w wr) (hk : k < L.length) (hG : w.heap.size ≤ G) {F : Nat → Int}
    (ht : LowTo wr w' G (k * 4) F) (h0 : F 0 = lowE p (L.getD k default).a) (h1 : F 1 = lowE p (L.getD k default).b) (h2 : F 2 = lowE p (L.getD k default).c) : LowW p L G (k + 1) w w' := by
  refine ⟨fun j hj => ?_, fun i hi => by rw [ht.froz]; exact h.froz i hi, Nat.lt_of_lt_of_le h.sz (ht.low 0 (Nat.zero_le _)).size, h.low.trans (ht.low _ hG)⟩
  have hc := h.cells j hj
  by_cases e : j = k
  · subst e
    rw [if_pos (by omega)]
    rw [if_neg (by omega)] at hc
    obtain ⟨_, _, _, c3⟩ := hc
    have d0 := ht.cells 0 (by omega)
    have d1 := ht.cells 1 (by omega)
    have d2 := ht.cells 2 (by omega)
    rw [h0] at d0
    rw [h1] at d1
    rw [h2] at d2
    exact ⟨d0, d1, d2, by rw [ht.far _ _ (by omega)]; exact c3⟩
  · have e2 : (if j < k + 1 then lowT p (L.getD j default) else L.getD j default) = (if j < k then lowT p (L.getD j default) else L.getD j default) := by
      by_cases e3 : j < k
      · rw [if_pos e3, if_pos (by omega)]
      · rw [if_neg e3, if_neg (by omega)]
    rw [e2]
    obtain ⟨c0, c1, c2, c3⟩ := hc
    exact ⟨by rw [ht.far _ _ (by omega)]; exact c0, by rw [ht.far _ _ (by omega)]; exact c1, by rw [ht.far _ _ (by omega)]; exact c2, by rw [ht.far _ _ (by omega)]; exact c3⟩
theorem run_copy4P (w : World) (t2 ty : TypeId) (b o dLen dCap : Nat) (a : Addr) (sLen sCap n : Nat) (cs : List Value)
    (hn : Nat.min sLen dLen = n) (hl : cs.length = n * 4)
    (hsrc : ∀ j v, cs[j]? = some v → w.cell? (a.add j) = some v) (hc : ∀ j, j < cs.length → (w.cell? ⟨b, o + j, none⟩).isSome = true) (hf : ∀ j, j < cs.length → w.frozen? ⟨b, o + j, none⟩ = false) (h1 : ∀ v ∈ cs, v.oneCell' = true) :
    (Builtin.copy_ #[26, t2] ty #[.slice (some ⟨b, o, none⟩) dLen dCap, .slice (some a) sLen sCap]).run Try.prog w = .ok (goInt n) (w.setCells b o cs) := by
  have hld := run_loadCells_list (P := Try.prog) w a cs hsrc
  have hst := run_storeCells_cells (P := Try.prog) b o cs 0 w (by simpa using hc) (by simpa using hf) h1
  obtain ⟨i, hq, hz0, hz1, hz2⟩ := info_parts infoT
  simp [Builtin.copy_, run_underlying Try.underlying26, Builtin.lenOf, Builtin.firstCells, sizeOf, typeInfo, hq, hz1, hn, ← hl, hld, hst]
set_option maxRecDepth 100000 in
set_option maxHeartbeats 4000000 in
theorem iReduce_some (p : Int) (g off cap : Nat) (L : List Trm) (w : World) (hp : isP p = true) (hV : validB p L = true) (h0 : 0 < L.length) (hg : g < w.heap.size) (hc : ∀ j : Nat, j < L.length → TAt w g (off + j * 4) (L.getD j default)) (hL : Trms w (.slice (some ⟨g, off, none⟩) L.length cap) L) :
    Calls Try.prog 42 #[.int .i64 p, .slice (some ⟨g, off, none⟩) L.length cap] w (GivesPB (makeV p (redL p L)) (makeOk p (redL p L)) w) := by
  have HB := Lib.hid (show Calls Try.prog 48 #[.int .i64 p, .slice (some ⟨g, off, none⟩) L.length cap] w fun e w' => e = .returned (.bool true) ∧ Below w.heap.size w w' from
    (iPolyValid p _ L w hL).mono fun e w' h => by rw [hp, hV] at h; exact h)
  have HC := Lib.hid hc
  have HP := Lib.hid hp
  have HV := Lib.hid hV
  have hl := validB_len hV
  have HM := Lib.hid (fun f (w' : World) (h : Trms w' f (redL p L)) => iMakePoly p f (redL p L) w' h)
  obtain ⟨R, hR⟩ : ∃ R, R = makeV p (redL p L) := ⟨_, rfl⟩
  obtain ⟨b, hb⟩ : ∃ b, b = makeOk p (redL p L) := ⟨_, rfl⟩
  rw [← hR, ← hb] at HM ⊢
  obtain ⟨i0, hi, hz0, hz1, hz2⟩ := info_parts infoT
  clear hc hV hL hR hb hp
  go_enter Try.func42, Try.ntmps42
  go_wp2_with fail
  refine HB.out.mono ?_
  rintro e w1 ⟨rfl, hb1⟩
  go_wp2_with (at_make; refine wpList_make_full _ rfl _ _ 26 rfl w1.heap.size 69 i0 (.agg #[.int .i64 0, .int .i64 0, .int .i64 0, .int .i64 0]) 4 Try.underlying26 hi hz0 hz1 .i64 .i64 L.length L.length L.length rfl rfl rfl rfl ?c2 ?c3 ?c4 ?_)
  case c2 => rw [hz2]; omega
  case c3 => unfold maxLen; omega
  case c4 => exact Nat.le_refl _
  intro w2 hown hgr
  have hb2 : Below w1.heap.size w1 w2 := (Below.refl _ _).grown hgr (Nat.le_refl _) (fun k hk => by cases hk)
  have hfl := flat_len L
  have hgs : g < w1.heap.size := Nat.lt_of_lt_of_le hg hb1.size
  have hread := flatT_read (w := w2) (g := g) (off := off) (L := L) (fun j hj => ((HC.out j hj).below hb1 hg).below hb2 hgs)
  have hsp : ∀ i, i < L.length * 4 → (w2.cell? ⟨w1.heap.size, i, none⟩).isSome = true := fun i hi => by
    rw [hown.cellAt i hi]
    obtain ⟨u, hu⟩ := made_some _ _ _ hi
    rw [hu]; rfl
  have hcp := run_copy4P w2 27 3 w1.heap.size 0 L.length L.length ⟨g, off, none⟩ L.length cap L.length (flat L) (by simp) hfl hread
    (fun j hj => by rw [Nat.zero_add]; exact hsp j (by omega)) (fun j _ => by rw [Nat.zero_add]; exact hown.frozenAt j) (fun v hv => flat_cell L v hv)
  have hsG : w1.heap.size < w2.heap.size := (hown.lt _ rfl).2
  have hW : LowW p L w1.heap.size 0 w (w2.setCells w1.heap.size 0 (flat L)) := by
    refine ⟨fun j hj => ?_, fun i _ => by rw [World.frozen?_setCells]; exact hown.frozenAt i, Nat.lt_of_lt_of_le hsG (below_setCells4 w1.heap.size _ _ _ (Below.refl w1.heap.size w2) (Nat.le_refl _)).size, below_setCells4 _ _ _ _ (hb1.trans (hb2.mono hb1.size)) hb1.size⟩
    rw [if_neg (by omega)]
    have hin : ∀ d u, d < 4 → (L.getD j default).cs[d]? = some u → (w2.setCells w1.heap.size 0 (flat L)).cell? ⟨w1.heap.size, j * 4 + d, none⟩ = some u := fun d u hd hu => by
      have h1 := flat_at L j d hj hd
      have hjl : j * 4 + d < (flat L).length := by omega
      have := World.cell?_setCells_in w1.heap.size (flat L) 0 w2 (fun k hk => by rw [Nat.zero_add]; exact hsp k (by omega)) (j * 4 + d) hjl
      rw [Nat.zero_add] at this
      rw [this]
      rw [hu, List.getElem?_eq_getElem hjl] at h1
      exact h1
    exact ⟨hin 0 _ (by omega) rfl, hin 1 _ (by omega) rfl, hin 2 _ (by omega) rfl, hin 3 _ (by omega) rfl⟩
  have HW := Lib.hid hW
  have HCP := Lib.hid hcp
  obtain ⟨G, hG⟩ : ∃ G, G = w1.heap.size := ⟨_, rfl⟩
  have hGw : w.heap.size ≤ G := by rw [hG]; exact hb1.size
  rw [← hG] at HW HCP
  rw [← hG]
  clear hown hgr hi hz0 hz1 hz2 hW hsp hread hb2 hb1 hcp hG hsG
  go_wp2_with (simp only [HCP.out])
  clear HCP
  go_loopw [20] (fun i wr => ∃ k : Nat, k ≤ L.length ∧ i = .int .i64 k ∧ LowW p L G k w wr) (fun i _ => L.length - (intOf i).toNat)
  case atStart => exact ⟨0, by omega, rfl, HW.out⟩
  case round =>
    clear HW
    obtain ⟨k, hk, rfl, hS⟩ := hrel
    by_cases hlt : k < L.length
    · have hltp : (k : Int) < (L.length : Int) := by omega
      have hk0 : (0 : Int) ≤ (k : Int) := by omega
      have HS := Lib.hid hS
      have hT := hS.cells k hlt
      rw [if_neg (by omega)] at hT
      obtain ⟨x, hx⟩ : ∃ x, x = L.getD k default := ⟨_, rfl⟩
      have HX := Lib.hid (validB_pows HV.out hlt hx)
      rw [← hx] at hT
      have Hx := Lib.hid hx
      have HT := Lib.hid hT
      clear hx hS hT
      go_wp2_with fail
      refine (iLower p HP.out G (k * 4) (fun j => if j = 0 then x.a else if j = 1 then x.b else x.c) (fun j hj => by
        obtain ⟨h1, h2, h3⟩ := HX.out
        split
        · exact h1
        · split
          · exact h2
          · exact h3) wr (fun j hj => by
        obtain ⟨t0, t1, t2, t3⟩ := HT.out
        match j, hj with
        | 0, _ => exact t0
        | 1, _ => exact t1
        | 2, _ => exact t2) (fun j hj => HS.out.froz _ (by omega))).mono ?_
      rintro e w3 ⟨rfl, ht⟩
      have HN := Lib.hid (HS.out.step hlt hGw ht (by rw [← Hx.out]; rfl) (by rw [← Hx.out]; rfl) (by rw [← Hx.out]; rfl))
      clear ht HS
      go_wp2_with fail
      go_roundw
      case rel => exact ⟨k + 1, by omega, by go_num, HN.out⟩
      case measure => simp [intOf]; omega
    · have hkl : k = L.length := by omega
      subst hkl
      have hTr : Trms wr (.slice (some ⟨G, 0, none⟩) L.length L.length) (redL p L) := by
        refine ⟨by rw [redL_len]; omega, _, _, by rw [redL_len], .inr ⟨G, 0, rfl, hS.sz, fun j hj => ?_⟩⟩
        rw [redL_len] at hj
        rw [redL_getD p L j hj, Nat.zero_add]
        have := hS.cells j hj
        rwa [if_pos hj] at this
      have HR := Lib.hid (HM.out _ wr hTr)
      have HL := Lib.hid hS.low
      clear hS hTr
      go_wp2_with fail
      refine HR.out.mono ?_
      rintro e w5 ⟨v5, rfl, ho5, hb5⟩
      have H5 := Lib.hid (And.intro (ownTrms_mono ho5 HL.out.size) (HL.out.trans (hb5.mono HL.out.size)))
      clear ho5 hb5
      go_wp2_with fail
      refine bodyPost_ret (v := .tuple #[v5, .bool b]) (by simp [results, Try.results42, go_sem]) rfl ⟨_, rfl, H5.out⟩
theorem run_copy40 (w : World) (t2 ty : TypeId) (b : Nat) (a : Option Addr) (dCap sCap : Nat) :
    (Builtin.copy_ #[26, t2] ty #[.slice (some ⟨b, 0, none⟩) 0 dCap, .slice a 0 sCap]).run Try.prog w = .ok (goInt 0) w := by
  obtain ⟨i, hq, hz0, hz1, hz2⟩ := info_parts infoT
  have hld : ∀ x : Addr, (loadCells x 0).run Try.prog w = .ok #[] w := fun x => by simp [loadCells, loadCellsFrom]
  have hst : ∀ x : Addr, (storeCells x [] 0).run Try.prog w = .ok () w := fun x => rfl
  cases a <;> simp [Builtin.copy_, run_underlying Try.underlying26, Builtin.lenOf, Builtin.firstCells, sizeOf, typeInfo, hq, hld, hst]
set_option maxRecDepth 100000 in
set_option maxHeartbeats 4000000 in
theorem iReduce_nil (p : Int) (a : Option Addr) (cap : Nat) (w : World) (hp : isP p = true) :
    Calls Try.prog 42 #[.int .i64 p, .slice a 0 cap] w (GivesPB (makeV p []) (makeOk p []) w) := by
  have HB := Lib.hid (iPolyValid_nil p hp a cap w)
  have HM := Lib.hid (fun f (w' : World) (h : Trms w' f []) => iMakePoly p f [] w' h)
  obtain ⟨R, hR⟩ : ∃ R, R = makeV p [] := ⟨_, rfl⟩
  obtain ⟨b, hb⟩ : ∃ b, b = makeOk p [] := ⟨_, rfl⟩
  rw [← hR, ← hb] at HM ⊢
  obtain ⟨i0, hi, hz0, hz1, hz2⟩ := info_parts infoT
  clear hR hb hp
  go_enter Try.func42, Try.ntmps42
  go_wp2_with fail
  refine HB.out.mono ?_
  rintro e w1 ⟨rfl, rfl⟩
  go_wp2_with (at_make; refine wpList_make_full _ rfl _ _ 26 rfl w.heap.size 69 i0 (.agg #[.int .i64 0, .int .i64 0, .int .i64 0, .int .i64 0]) 4 Try.underlying26 hi hz0 hz1 .i64 .i64 0 0 0 rfl rfl rfl rfl ?c2 ?c3 ?c4 ?_)
  case c2 => rw [hz2]; omega
  case c3 => unfold maxLen; omega
  case c4 => exact Nat.le_refl _
  intro w2 hown hgr
  have HB2 := Lib.hid (show Below w.heap.size w w2 from (Below.refl _ _).grown hgr (Nat.le_refl _) (fun k hk => by cases hk))
  clear hown hgr hi hz0 hz1 hz2
  have HCP := Lib.hid (run_copy40 w2 27 3 w.heap.size a 0 cap)
  go_wp2_with (simp only [HCP.out])
  go_loopw [20] (fun i wr => i = .int .i64 0 ∧ wr = w2) (fun _ _ => 0)
  case atStart => exact ⟨rfl, rfl⟩
  case round =>
    obtain ⟨rfl, rfl⟩ := hrel
    go_wp2_with fail
    refine (HM.out _ _ ⟨by simp, _, _, rfl, .inl rfl⟩).mono ?_
    rintro e w5 ⟨v5, rfl, ho5, hb5⟩
    have H5 := Lib.hid (And.intro (ownTrms_mono ho5 HB2.out.size) (HB2.out.trans (hb5.mono HB2.out.size)))
    clear ho5 hb5
    go_wp2_with fail
    refine bodyPost_ret (v := .tuple #[v5, .bool b]) (by simp [results, Try.results42, go_sem]) rfl ⟨_, rfl, H5.out⟩
theorem iReduce_no (p : Int) (f : Value) (L : List Trm) (w : World) (hL : Trms w f L) (hn : (isP p && validB p L) = false) :
    Calls Try.prog 42 #[.int .i64 p, f] w (GivesPB [] false w) := by
  have HB := Lib.hid (show Calls Try.prog 48 #[.int .i64 p, f] w fun e w' => e = .returned (.bool false) ∧ Below w.heap.size w w' from
    (iPolyValid p f L w hL).mono fun e w' h => by rw [hn] at h; exact h)
  clear hn hL
  go_enter Try.func42, Try.ntmps42
  go_wp2_with fail
  refine HB.out.mono ?_
  rintro e w1 ⟨rfl, hb1⟩
  go_wp2_with fail
  refine bodyPost_ret (v := .tuple #[.slice none 0 0, .bool false]) (by simp [results, Try.results42, go_sem]) rfl ⟨_, rfl, (Row.nil w1 w.heap.size).own (by simp), hb1⟩
theorem iReducePoly (p : Int) (f : Value) (L : List Trm) (w : World) (hL : Trms w f L) : Calls Try.prog 42 #[.int .i64 p, f] w (GivesPB (rdV p L) (rdOk p L) w) := by
  cases hn : (isP p && validB p L)
  · rw [(rdOk_no hn).1, (rdOk_no hn).2]
    exact iReduce_no p f L w hL hn
  · have hn2 := hn
    simp only [Bool.and_eq_true] at hn2
    have e1 : rdOk p L = makeOk p (redL p L) := by unfold rdOk; rw [hn]; rfl
    have e2 : rdV p L = makeV p (redL p L) := by
      unfold rdV
      rw [e1]
      split
      · rfl
      · rename_i h; unfold makeV; rw [if_neg h]
    rw [e1, e2]
    obtain ⟨l0, a, cap, rfl, l1⟩ := hL
    rcases l1 with rfl | ⟨g, off, rfl, hg, hc⟩
    · exact iReduce_nil p a cap w hn2.1
    · by_cases h0 : 0 < L.length
      · exact iReduce_some p g off cap L w hn2.1 hn2.2 h0 hg hc ⟨l0, _, cap, rfl, .inr ⟨g, off, rfl, hg, hc⟩⟩
      · have : L = [] := List.length_eq_zero_iff.1 (by omega)
        subst this
        exact iReduce_nil p _ cap w hn2.1
end Go.Proofs.Ytajabchbdhjdiaa
