/-
  The exact law of MulPoly: the model's and the program's products of two polynomials, and the walk. Conditions: none but that the slices read as lists of terms.
  MakePoly, of the model and of the program. Conditions: what the slice holds is known.
-/
import Derived.Test.YtibghhkhnpjdfaaBb15
namespace Go.Proofs.Ytibghhkhnpjdfaa
open Go.RowKit
set_option maxRecDepth 100000 in
set_option maxHeartbeats 4000000 in
theorem sMulPoly_no (p : Int) (fv gv : Value) (L M : List Trm) (w : World) (hL : Trms w fv L) (hM : Trms w gv M) (hr : (okB p (fv, L) && okB p (gv, M)) = false) :
    Calls Try.prog 192 #[.int .i64 p, fv, gv] w (GivesPB [] false w) := by
  have HB := Lib.hid (bothAt p fv gv L M w hL hM false hr)
  clear hr
  obtain ⟨_, a, cap, rfl, _⟩ := hL
  obtain ⟨_, a2, cap2, rfl, _⟩ := hM
  go_enter Try.func192, Try.ntmps192
  go_wp2_with (go_at_call 114; refine HB.out.mono ?_; rintro e w2 ⟨rfl, hb2⟩)
  refine bodyPost_ret (v := .tuple #[.slice (some ⟨w2.heap.size, 0, none⟩) 0 0, .bool false]) (by simp [results, Try.results192, go_sem]) rfl ⟨_, rfl, (Row.lit0 w2 w.heap.size hb2.size).own (by simp), Below.alloc hb2 hb2.size _⟩
set_option maxRecDepth 100000 in
set_option maxHeartbeats 4000000 in
theorem sMulPoly_yes (p : Int) (fv gv : Value) (L M : List Trm) (w : World) (hL : Trms w fv L) (hM : Trms w gv M) (hp : isP p = true) (hVL : validB p L = true) (hVM : validB p M = true) :
    Calls Try.prog 192 #[.int .i64 p, fv, gv] w (GivesPB (if validB p (addAll p (prodT p L M) []) = true then addAll p (prodT p L M) [] else []) (validB p (addAll p (prodT p L M) [])) w) := by
  have HB := Lib.hid (bothAt p fv gv L M w hL hM true (by unfold okB; dsimp only; rw [hp, hVL, hVM]; rfl))
  obtain ⟨m0, a2, cap2, rfl, m1⟩ := hM
  obtain ⟨l0, a, cap, rfl, l1⟩ := hL
  have HS := Lib.hid (fun (w' : World) (hb : Below w.heap.size w w') => sProduct p a a2 cap cap2 L M w' hp (Trms.below ⟨l0, a, cap, rfl, l1⟩ hb) (Trms.below ⟨m0, a2, cap2, rfl, m1⟩ hb) hVL hVM)
  have HT := Lib.hid (fun (B : Nat) (v : Value) (w' : World) (hR : Row w' B v (addAll p (prodT p L M) [])) => sTold B p hp (addAll p (prodT p L M) []) v w' hR (by
    have h := (prodK_facts hp (k := L.length) (j := 0) (Nat.le_refl _) (Nat.zero_le _) (validB_len hVL) (validB_len hVM)).2.2
    rw [prodK_end] at h
    omega))
  clear m1 l1
  obtain ⟨R, hR⟩ : ∃ R, R = addAll p (prodT p L M) [] := ⟨_, rfl⟩
  rw [← hR] at HS HT ⊢
  obtain ⟨b, hb⟩ : ∃ b, b = validB p R := ⟨_, rfl⟩
  rw [← hb] at HT ⊢
  obtain ⟨R2, hR2⟩ : ∃ R2, R2 = (if b = true then R else []) := ⟨_, rfl⟩
  rw [← hR2] at HT ⊢
  clear hR hb hR2 hp hVL hVM
  go_enter Try.func192, Try.ntmps192
  go_wp2_with first
    | (go_at_call 114; refine HB.out.mono ?_; rintro e w2 ⟨rfl, hb2⟩)
    | (go_at_call 115; refine (HS.out _ hb2).mono ?_; rintro e w3 ⟨v3, rfl, hR3, hb3⟩)
    | (go_at_call 117; refine (HT.out _ _ _ hR3).mono ?_; rintro e w4 ⟨v4, rfl, ho4, hb4⟩)
  have h3 := hb2.trans (hb3.mono hb2.size)
  refine bodyPost_ret (v := .tuple #[v4, .bool b]) (by simp [results, Try.results192, go_sem]) rfl ⟨_, rfl, ownTrms_mono ho4 h3.size, h3.trans (hb4.mono h3.size)⟩
def mulOk (p : Int) (L M : List Trm) : Bool := ((isP p && validB p L) && (isP p && validB p M)) && validB p (addAll p (prodT p L M) [])
def mulL (p : Int) (L M : List Trm) : List Trm := if mulOk p L M = true then addAll p (prodT p L M) [] else []
theorem mulOk_no {p : Int} {L M : List Trm} (h : ((isP p && validB p L) && (isP p && validB p M)) = false) : mulOk p L M = false ∧ mulL p L M = [] := by
  have e : mulOk p L M = false := by unfold mulOk; rw [h]; rfl
  exact ⟨e, by unfold mulL; rw [e]; rfl⟩
theorem mulOk_yes {p : Int} {L M : List Trm} (h : ((isP p && validB p L) && (isP p && validB p M)) = true) : mulOk p L M = validB p (addAll p (prodT p L M) []) ∧ mulL p L M = (if validB p (addAll p (prodT p L M) []) = true then addAll p (prodT p L M) [] else []) := by
  have e : mulOk p L M = validB p (addAll p (prodT p L M) []) := by unfold mulOk; rw [h, Bool.true_and]
  exact ⟨e, by unfold mulL; rw [e]⟩
theorem sMulPoly (p : Int) (f g : Value) (L M : List Trm) (w : World) (hL : Trms w f L) (hM : Trms w g M) :
    Calls Try.prog 192 #[.int .i64 p, f, g] w (GivesPB (mulL p L M) (mulOk p L M) w) := by
  cases h : ((isP p && validB p L) && (isP p && validB p M))
  · rw [(mulOk_no h).1, (mulOk_no h).2]
    exact sMulPoly_no p f g L M w hL hM h
  · rw [(mulOk_yes h).1, (mulOk_yes h).2]
    simp only [Bool.and_eq_true] at h
    exact sMulPoly_yes p f g L M w hL hM h.1.1 h.1.2 h.2.2
theorem iMulPoly (p : Int) (f g : Value) (L M : List Trm) (w : World) (hL : Trms w f L) (hM : Trms w g M) :
    Calls Try.prog 37 #[.int .i64 p, f, g] w (GivesPB (mulL p L M) (mulOk p L M) w) := by
  cases h : ((isP p && validB p L) && (isP p && validB p M))
  · rw [(mulOk_no h).1, (mulOk_no h).2]
    exact iMulPoly_no p f g L M w hL hM h
  · rw [(mulOk_yes h).1, (mulOk_yes h).2]
    simp only [Bool.and_eq_true] at h
    exact iMulPoly_yes p f g L M w hL hM h.1.1 h.1.2 h.2.2
end Go.Proofs.Ytibghhkhnpjdfaa
namespace Go.Proofs.Ytibghhkhnpjdfaa
open Go.RowKit
/-- a term whose coefficient is made an element -/
def mkT (p : Int) (x : Trm) : Trm := ⟨x.a, x.b, x.c, x.t % p⟩
/-- the sum of the first k terms of a list -/
def mkK (p : Int) (L : List Trm) (k : Nat) : List Trm := addAll p ((L.take k).map (mkT p)) []
def pwB (x : Trm) : Bool := powsB x.a x.b x.c
theorem mkK_zero (p : Int) (L : List Trm) : mkK p L 0 = [] := by simp [mkK, addAll]
theorem mkK_next {p : Int} {L : List Trm} {k : Nat} (hk : k < L.length) : addT p (mkT p (L.getD k default)) (mkK p L k) = mkK p L (k + 1) := by
  unfold mkK
  rw [List.take_succ_eq_append_getElem hk, List.map_append, List.map_singleton, addAll_snoc]
  simp [List.getD_eq_getElem?_getD, hk]
theorem mkK_facts {p : Int} {L : List Trm} (hp : isP p = true) {k : Nat} (hk : k ≤ L.length) (hL : L.length ≤ 60) : Srt (mkK p L k) ∧ Els p (mkK p L k) ∧ (mkK p L k).length ≤ 60 := by
  have hb := isP_bd hp
  refine ⟨addAll_srt _ _ List.Pairwise.nil, addAll_els (by omega) _ _ (fun x hx => ?_) (fun y hy => by cases hy), ?_⟩
  · obtain ⟨z, _, rfl⟩ := List.mem_map.1 hx
    exact emod_bd hb.1
  · have := addAll_len (p := p) ((L.take k).map (mkT p)) []
    rw [List.length_map, List.length_take, List.length_nil] at this
    unfold mkK
    omega
theorem pw_snoc {L : List Trm} {k : Nat} (h : k < L.length) : (L.take (k + 1)).all pwB = ((L.take k).all pwB && pwB (L.getD k default)) := by
  rw [List.take_succ_eq_append_getElem h, List.all_append]
  simp [List.getD_eq_getElem?_getD, h]
theorem pw_no {L : List Trm} {k : Nat} (h : k < L.length) (hn : pwB (L.getD k default) = false) : L.all pwB = false := by
  rw [List.getD_eq_getElem?_getD, List.getElem?_eq_getElem h] at hn
  exact List.all_eq_false.2 ⟨_, List.getElem_mem h, by simpa using hn⟩
def makeOk (p : Int) (L : List Trm) : Bool := (isP p && decide (L.length ≤ 60)) && (L.all pwB && validB p (mkK p L L.length))
def makeV (p : Int) (L : List Trm) : List Trm := if makeOk p L = true then mkK p L L.length else []
set_option maxRecDepth 100000 in
set_option maxHeartbeats 4000000 in
theorem iMakePoly_no (p : Int) (a : Option Addr) (n cap : Nat) (w : World) (hr : (isP p && decide (n ≤ 60)) = false) :
    Calls Try.prog 179 #[.int .i64 p, .slice a n cap] w (GivesPB [] false w) := by
  cases hp : isP p
  · have HP := Lib.hid hp
    clear hr hp
    go_enter Try.func179, Try.ntmps179
    go_wp2_with (go_at_call 138; refine (iPV_no p _ HP.out).mono ?_; rintro e w' ⟨rfl, rfl⟩)
    refine bodyPost_ret (v := .tuple #[.slice none 0 0, .bool false]) (by simp [results, Try.results179, go_sem]) rfl ⟨_, rfl, (Row.nil w w.heap.size).own (by simp), Below.refl _ _⟩
  · have HP := Lib.hid hp
    have hn2 : (60 : Int) < (n : Int) := by rw [hp] at hr; simp at hr; omega
    clear hr hp
    go_enter Try.func179, Try.ntmps179
    go_wp2_with (go_at_call 138; refine (iPV_yes p _ HP.out).mono ?_; rintro e w' ⟨rfl, rfl⟩)
    refine bodyPost_ret (v := .tuple #[.slice none 0 0, .bool false]) (by simp [results, Try.results179, go_sem]) rfl ⟨_, rfl, (Row.nil w w.heap.size).own (by simp), Below.refl _ _⟩
set_option maxRecDepth 100000 in
set_option maxHeartbeats 8000000 in
theorem iMakePoly_yes (p : Int) (a : Option Addr) (cap : Nat) (L : List Trm) (w : World) (hp : isP p = true) (hl : L.length ≤ 60) (hL : Trms w (.slice a L.length cap) L) (R : List Trm) (b : Bool) (hR : R = makeV p L) (hb : b = makeOk p L) :
    Calls Try.prog 179 #[.int .i64 p, .slice a L.length cap] w (GivesPB R b w) := by
  have HP := Lib.hid hp
  have HL := Lib.hid hL
  have HRE := Lib.hid hR
  have HBE := Lib.hid hb
  have hl1 : (L.length : Int) ≤ 60 := by omega
  clear hp hL hR hb
  go_enter Try.func179, Try.ntmps179
  go_wp2_with (go_at_call 138; refine (iPV_yes p _ HP.out).mono ?_; rintro e w' ⟨rfl, rfl⟩)
  obtain ⟨W, hW⟩ : ∃ W, W = w.alloc (Obj.cells #[.int .i64 p, .slice none 0 0] 141) := ⟨_, rfl⟩
  obtain ⟨S, hSe⟩ : ∃ S, S = w.heap.size := ⟨_, rfl⟩
  have hSB : w.heap.size ≤ S := by rw [hSe]; exact Nat.le_refl _
  have HW := Lib.hid (show SumW W S p (.slice none 0 0) ∧ Row W w.heap.size (.slice none 0 0) (mkK p L 0) ∧ Value.ownBlock (.slice none 0 0) ≠ some S ∧ Below w.heap.size w W by
    rw [hW, hSe, mkK_zero]
    exact ⟨⟨by simp [go_sem], by simp [go_sem], World.frozen?_alloc_at _ _ _ 0 rfl, World.frozen?_alloc_at _ _ _ 1 rfl, by simp⟩, Row.nil _ _, by simp [Value.ownBlock], Below.alloc (Below.refl _ _) (Nat.le_refl _) _⟩)
  rw [← hW, ← hSe]
  clear hSe hW
  go_loopw [21] (fun i wr => ∃ (k : Nat) (v : Value), k ≤ L.length ∧ i = .int .i64 k ∧ (L.take k).all pwB = true ∧ SumW wr S p v ∧ Row wr w.heap.size v (mkK p L k) ∧ v.ownBlock ≠ some S ∧ Below w.heap.size w wr) (fun i _ => L.length - (intOf i).toNat)
  case atStart => exact ⟨0, _, by omega, rfl, by simp, HW.out⟩
  case round =>
    clear HW
    obtain ⟨k, v, hk, rfl, hpw, hS, hR, hv, hb⟩ := hrel
    by_cases hlt : k < L.length
    · have hltp : (k : Int) < (L.length : Int) := by omega
      have hk0 : (0 : Int) ≤ (k : Int) := by omega
      obtain ⟨x, hx⟩ : ∃ x, x = L.getD k default := ⟨_, rfl⟩
      obtain ⟨g, off, rfl, hg, hc⟩ : ∃ g off, a = some ⟨g, off, none⟩ ∧ g < w.heap.size ∧ ∀ j : Nat, j < L.length → TAt w g (off + j * 4) (L.getD j default) := by
        obtain ⟨_, a', cap', he, h⟩ := HL.out
        injection he with e1 e2 e3
        subst e1
        rcases h with h | h
        · rw [h] at hlt; simp at hlt
        · exact h
      obtain ⟨b0, b1, b2, b3⟩ := (hc k hlt).below hb hg
      rw [← hx] at b0 b1 b2 b3
      have HV2 := Lib.hid hv
      obtain ⟨n, hne⟩ : ∃ n, n = wr.heap.size := ⟨_, rfl⟩
      obtain ⟨W1, hW1⟩ : ∃ W1, W1 = wr.alloc (Obj.cells #[.int .i64 x.a, .int .i64 x.b, .int .i64 x.c, .int .i64 x.t] 63) := ⟨_, rfl⟩
      have hr1 : Below wr.heap.size wr W1 := by rw [hW1]; exact Below.alloc (Below.refl _ _) (Nat.le_refl _) _
      have hT1 : TAt W1 n 0 x := by rw [hW1, hne]; refine ⟨?_, ?_, ?_, ?_⟩ <;> simp [go_sem]
      have hn1 : n < W1.heap.size := by rw [hW1, hne]; simp
      have hf1 : ∀ i, W1.frozen? ⟨n, i, none⟩ = false := fun i => by rw [hW1, hne]; exact World.frozen?_alloc_at _ _ _ i rfl
      have hnv : v.ownBlock ≠ some n := fun e => by have := (World.ownsRow.lt hR _ e).2; omega
      have hSn : S < n := by rw [hne]; exact hS.sz
      have hwn : w.heap.size ≤ n := by rw [hne]; exact hb.size
      have HF := Lib.hid (fun W' (hb' : Below W1.heap.size W1 W') => show TAt W' n 0 x ∧ W'.frozen? ⟨n, 3, none⟩ = false ∧ n < W'.heap.size ∧ SumW W' S p v ∧ Row W' w.heap.size v (mkK p L k) ∧ Below w.heap.size w W' from
        ⟨hT1.below hb' hn1, by rw [hb'.frozen (p := ⟨n, 3, none⟩) hn1]; exact hf1 3, Nat.lt_of_lt_of_le hn1 hb'.size, (hS.below hr1).below hb', (hR.below hr1).below hb', (hb.trans (hr1.mono hb.size)).trans (hb'.mono (Nat.le_trans hb.size hr1.size))⟩)
      have HW1 := Lib.hid hW1
      have HNV := Lib.hid (And.intro hnv (And.intro hSn hwn))
      obtain ⟨t0, t1, t2, t3⟩ := hT1
      simp only [Nat.zero_add] at t0 t1 t2 t3
      have HFit := Lib.hid (fun w => iFit x.a x.b x.c x.t w)
      cases hpx : pwB x
      · rw [show powsB x.a x.b x.c = false from hpx] at HFit
        have HE := Lib.hid (show makeOk p L = false by unfold makeOk; rw [pw_no hlt (by rw [← hx]; exact hpx)]; simp)
        have hz : b = false := by rw [HBE.out, HE.out]
        have hz2 : R = [] := by rw [HRE.out]; unfold makeV; rw [HE.out]; rfl
        subst hz hz2
        clear hx hS hR hv hb hc hpw hpx hr1 hW1 hf1 hn1 hnv hSn hwn
        go_wp2_with fail
        rw [← HW1.out, ← hne]
        clear hne
        go_wp2_with fail
        refine (HFit.out _).mono ?_
        rintro e w2 ⟨rfl, hb2⟩
        have HQ := Lib.hid (HF.out w2 hb2).2.2.2.2.2
        clear hb2 t0 t1 t2 t3
        go_wp2_with fail
        refine bodyPost_ret (v := .tuple #[.slice none 0 0, .bool false]) (by simp [results, Try.results179, go_sem]) rfl ⟨_, rfl, (Row.nil w2 w.heap.size).own (by simp), HQ.out⟩
      · rw [show powsB x.a x.b x.c = true from hpx] at HFit
        have HXK := Lib.hid (show addT p (mkT p x) (mkK p L k) = mkK p L (k + 1) by rw [hx, mkK_next hlt])
        have HPK := Lib.hid (show (L.take (k + 1)).all pwB = true by rw [pw_snoc hlt, hpw, ← hx, hpx]; rfl)
        clear hx hS hR hv hb hc hpw hpx hr1 hW1 hf1 hn1 hnv hSn hwn
        go_wp2_with fail
        rw [← HW1.out, ← hne]
        clear hne
        go_wp2_with fail
        refine (HFit.out _).mono ?_
        rintro e w2 ⟨rfl, hb2⟩
        clear t0 t1 t2 t3
        obtain ⟨⟨t0, t1, t2, t3⟩, f3, hn2, -, -, -⟩ := HF.out w2 hb2
        simp only [Nat.zero_add] at t0 t1 t2 t3
        have HB2 := Lib.hid hb2
        clear hb2
        go_wp2_with fail
        refine (iRed p x.t _ HP.out).mono ?_
        rintro e w3 ⟨rfl, rfl⟩
        go_wp2_with fail
        obtain ⟨hT2, -, hn2', hS2, hR2, hB2⟩ := HF.out w2 HB2.out
        obtain ⟨hv0, hSn, hwn⟩ := HNV.out
        obtain ⟨W3, hW3⟩ : ∃ W3, W3 = w2.setCell ⟨n, 3, none⟩ (.int .i64 (x.t % p)) := ⟨_, rfl⟩
        have hS3 : SumW W3 S p v := by
          rw [hW3]
          have ne : ∀ i, (⟨n, 3, none⟩ : Addr) ≠ ⟨S, i, none⟩ := fun i e => by have := congrArg Addr.block e; simp at this; omega
          exact ⟨by rw [World.cell?_setCell_other _ _ _ _ (ne 0)]; exact hS2.c0, by rw [World.cell?_setCell_other _ _ _ _ (ne 1)]; exact hS2.c1, by rw [World.frozen?_setCell]; exact hS2.f0, by rw [World.frozen?_setCell]; exact hS2.f1, by simpa using hS2.sz⟩
        have hR3 : Row W3 w.heap.size v (mkK p L k) := by
          rw [hW3]
          exact World.ownsRow.kept (row := some n) hR2 ⟨rfl, rfl, rfl, by simp, fun k hk hne => Below.heap_setCell _ _ _ _ (fun e => hne (by rw [e]))⟩ (.inr hv0)
        have hB3 : Below w.heap.size w W3 := by rw [hW3]; exact hB2.setCell hwn _
        have hc3 : W3.cell? ⟨n, 0, none⟩ = some (.int .i64 x.a) ∧ W3.cell? ⟨n, 1, none⟩ = some (.int .i64 x.b) ∧ W3.cell? ⟨n, 2, none⟩ = some (.int .i64 x.c) ∧ W3.cell? ⟨n, 3, none⟩ = some (.int .i64 (x.t % p)) := by
          rw [hW3]
          refine ⟨?_, ?_, ?_, World.cell?_setCell_same _ _ _ t3⟩
          · rw [World.cell?_setCell_other _ _ _ _ (by simp)]; exact t0
          · rw [World.cell?_setCell_other _ _ _ _ (by simp)]; exact t1
          · rw [World.cell?_setCell_other _ _ _ _ (by simp)]; exact t2
        have H3 := Lib.hid (And.intro hS3 (And.intro hR3 hB3))
        rw [← hW3]
        clear t0 t1 t2 t3 f3 hT2 hS2 hR2 hB2 hS3 hR3 hB3 hW3 hv0
        obtain ⟨t0, t1, t2, t3⟩ := hc3
        go_wp2_with fail
        have hf := mkK_facts (p := p) (L := L) HP.out hk hl
        have hpb := isP_bd HP.out
        refine (iPut w.heap.size S p v (mkK p L k) (mkT p x) W3 H3.out.1 H3.out.2.1 H3.out.2.2.size HP.out hf.1 hf.2.1 (isE_iff.2 (emod_bd hpb.1)) (by omega) HV2.out).mono ?_
        rintro e w4 hP4
        have hlow := hP4.low H3.out.2.1 hSB H3.out.2.2.size
        obtain ⟨rfl, v', hS', hR', hv', _, _⟩ := hP4
        rw [HXK.out] at hR'
        have HQ := Lib.hid (And.intro HPK.out (And.intro hS' (And.intro hR' (And.intro hv' (H3.out.2.2.trans hlow)))))
        clear hS' hR' hv' hlow hf hpb t0 t1 t2 t3
        go_wp2_with fail
        go_roundw
        case rel => exact ⟨k + 1, v', by omega, by go_num, HQ.out⟩
        case measure => simp [intOf]; omega
    · have hkl : k = L.length := by omega
      subst hkl
      rw [List.take_length] at hpw
      have hok : makeOk p L = validB p (mkK p L L.length) := by unfold makeOk; rw [HP.out, hpw, decide_eq_true hl]; rfl
      have hb1 : b = validB p (mkK p L L.length) := by rw [HBE.out, hok]
      have hR1 : R = if b = true then mkK p L L.length else [] := by rw [HRE.out]; unfold makeV; rw [hok, hb1]
      have hf := mkK_facts (p := p) (L := L) HP.out (Nat.le_refl _) hl
      have hown := hR.own (by omega)
      obtain ⟨M, hM⟩ : ∃ M, M = mkK p L L.length := ⟨_, rfl⟩
      rw [← hM] at hown hb1 hR1
      obtain ⟨hl2, ao, co, rfl, _⟩ := hown.trms
      have HO := Lib.hid hown
      have Hb := Lib.hid hb
      have HT := Lib.hid (iPolyOf S p ao co M wr hS hown.trms)
      rw [HP.out, ← hb1] at HT
      clear hown hS hb hR hf hv hpw hok hM
      cases b
      · have hz : R = [] := by rw [hR1]; rfl
        subst hz
        clear hb1 hR1
        go_wp2_with (go_at_call 113; refine HT.out.mono ?_; rintro e w5 ⟨rfl, hb5⟩)
        have H5 := Lib.hid (Hb.out.trans (hb5.mono Hb.out.size))
        refine bodyPost_ret (v := .tuple #[.slice none 0 0, .bool false]) (by simp [results, Try.results179, go_sem]) rfl ⟨_, rfl, (Row.nil _ w.heap.size).own (by simp), H5.out⟩
      · have hz : R = M := by rw [hR1]; rfl
        subst hz
        clear hb1 hR1
        go_wp2_with (go_at_call 113; refine HT.out.mono ?_; rintro e w5 ⟨rfl, hb5⟩)
        have H5 := Lib.hid (And.intro (HO.out.below hb5) (Hb.out.trans (hb5.mono Hb.out.size)))
        refine bodyPost_ret (v := .tuple #[.slice ao R.length co, .bool true]) (by simp [results, Try.results179, go_sem]) rfl ⟨_, rfl, H5.out.1, H5.out.2⟩
theorem makeOk_no {p : Int} {L : List Trm} (h : (isP p && decide (L.length ≤ 60)) = false) : makeOk p L = false ∧ makeV p L = [] := by
  have e : makeOk p L = false := by unfold makeOk; rw [h]; rfl
  exact ⟨e, by unfold makeV; rw [e]; rfl⟩
theorem iMakePoly (p : Int) (f : Value) (L : List Trm) (w : World) (hL : Trms w f L) : Calls Try.prog 179 #[.int .i64 p, f] w (GivesPB (makeV p L) (makeOk p L) w) := by
  obtain ⟨l0, a, cap, rfl, l1⟩ := hL
  cases h : (isP p && decide (L.length ≤ 60))
  · rw [(makeOk_no h).1, (makeOk_no h).2]
    exact iMakePoly_no p a L.length cap w h
  · simp only [Bool.and_eq_true, decide_eq_true_eq] at h
    exact iMakePoly_yes p a cap L w h.1 h.2 ⟨l0, a, cap, rfl, l1⟩ _ _ rfl rfl
end Go.Proofs.Ytibghhkhnpjdfaa
