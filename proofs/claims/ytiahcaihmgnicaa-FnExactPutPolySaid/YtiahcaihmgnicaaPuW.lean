/-
  PutPoly, of the model and of the program, and the walk of its exact law (with the products that it is made of). Conditions: none but that the slices read as lists of terms.
-/
import Derived.Test.YtiahcaihmgnicaaMulS
namespace Go.Proofs.Ytiahcaihmgnicaa
open Go.RowKit
set_option maxRecDepth 100000 in
set_option maxHeartbeats 4000000 in
theorem sMulPoly_no (p : Int) (fv gv : Value) (L M : List Trm) (w : World) (hL : Trms w fv L) (hM : Trms w gv M) (hr : (okB p (fv, L) && okB p (gv, M)) = false) :
    Calls Try.prog 27 #[.int .i64 p, fv, gv] w (GivesPB [] false w) := by
  have HB := Lib.hid (bothAt p fv gv L M w hL hM false hr)
  clear hr
  obtain ⟨_, a, cap, rfl, _⟩ := hL
  obtain ⟨_, a2, cap2, rfl, _⟩ := hM
  go_enter Try.func27, Try.ntmps27
  go_wp2_with (go_at_call 72; refine HB.out.mono ?_; rintro e w2 ⟨rfl, hb2⟩)
  refine bodyPost_ret (v := .tuple #[.slice (some ⟨w2.heap.size, 0, none⟩) 0 0, .bool false]) (by simp [results, Try.results27, go_sem]) rfl ⟨_, rfl, (Row.lit0 w2 w.heap.size hb2.size).own (by simp), Below.alloc hb2 hb2.size _⟩
set_option maxRecDepth 100000 in
set_option maxHeartbeats 4000000 in
theorem sMulPoly_yes (p : Int) (fv gv : Value) (L M : List Trm) (w : World) (hL : Trms w fv L) (hM : Trms w gv M) (hp : isP p = true) (hVL : validB p L = true) (hVM : validB p M = true) :
    Calls Try.prog 27 #[.int .i64 p, fv, gv] w (GivesPB (if validB p (addAll p (prodT p L M) []) = true then addAll p (prodT p L M) [] else []) (validB p (addAll p (prodT p L M) [])) w) := by
  have HB := Lib.hid (bothAt p fv gv L M w hL hM true (by unfold okB; dsimp only; rw [hp, hVL, hVM]; rfl))
  obtain ⟨m0, a2, cap2, rfl, m1⟩ := hM
  obtain ⟨l0, a, cap, rfl, l1⟩ := hL
  have HS := Lib.hid (fun (w' : World) (hb : Below w.heap.size w w') => sProduct p a a2 cap cap2 L M w' hp (Trms.below ⟨l0, a, cap, rfl, l1⟩ hb) (Trms.below ⟨m0, a2, cap2, rfl, m1⟩ hb) hVL hVM)
  have HT := Lib.hid (fun (B : Nat) (v : Value) (w' : World) (hR : Row w' B v (addAll p (prodT p L M) [])) => sTold B p hp (addAll p (prodT p L M) []) v w' hR (by
    have h := (prodK_facts hp (k := L.length) (j := 0) (Nat.le_refl _) (Nat.zero_le _) (validB_len hVL) (validB_len hVM)).2.2
    rw [prodK_end] at h
    omega))
  clear m1 l1
  obtain ⟨R, hR⟩ : ∃ R, R = addAll p (prodT p L M) [] := ⟨_, rfl⟩
  rw [← hR] at HS HT ⊢
  obtain ⟨b, hb⟩ : ∃ b, b = validB p R := ⟨_, rfl⟩
  rw [← hb] at HT ⊢
  obtain ⟨R2, hR2⟩ : ∃ R2, R2 = (if b = true then R else []) := ⟨_, rfl⟩
  rw [← hR2] at HT ⊢
  clear hR hb hR2 hp hVL hVM
  go_enter Try.func27, Try.ntmps27
  go_wp2_with first
    | (go_at_call 72; refine HB.out.mono ?_; rintro e w2 ⟨rfl, hb2⟩)
    | (go_at_call 73; refine (HS.out _ hb2).mono ?_; rintro e w3 ⟨v3, rfl, hR3, hb3⟩)
    | (go_at_call 64; refine (HT.out _ _ _ hR3).mono ?_; rintro e w4 ⟨v4, rfl, ho4, hb4⟩)
  have h3 := hb2.trans (hb3.mono hb2.size)
  refine bodyPost_ret (v := .tuple #[v4, .bool b]) (by simp [results, Try.results27, go_sem]) rfl ⟨_, rfl, ownTrms_mono ho4 h3.size, h3.trans (hb4.mono h3.size)⟩
def mulOk (p : Int) (L M : List Trm) : Bool := ((isP p && validB p L) && (isP p && validB p M)) && validB p (addAll p (prodT p L M) [])
def mulL (p : Int) (L M : List Trm) : List Trm := if mulOk p L M = true then addAll p (prodT p L M) [] else []
theorem mulOk_no {p : Int} {L M : List Trm} (h : ((isP p && validB p L) && (isP p && validB p M)) = false) : mulOk p L M = false ∧ mulL p L M = [] := by
  have e : mulOk p L M = false := by unfold mulOk; rw [h]; rfl
  exact ⟨e, by unfold mulL; rw [e]; rfl⟩
theorem mulOk_yes {p : Int} {L M : List Trm} (h : ((isP p && validB p L) && (isP p && validB p M)) = true) : mulOk p L M = validB p (addAll p (prodT p L M) []) ∧ mulL p L M = (if validB p (addAll p (prodT p L M) []) = true then addAll p (prodT p L M) [] else []) := by
  have e : mulOk p L M = validB p (addAll p (prodT p L M) []) := by unfold mulOk; rw [h, Bool.true_and]
  exact ⟨e, by unfold mulL; rw [e]⟩
theorem sMulPoly (p : Int) (f g : Value) (L M : List Trm) (w : World) (hL : Trms w f L) (hM : Trms w g M) :
    Calls Try.prog 27 #[.int .i64 p, f, g] w (GivesPB (mulL p L M) (mulOk p L M) w) := by
  cases h : ((isP p && validB p L) && (isP p && validB p M))
  · rw [(mulOk_no h).1, (mulOk_no h).2]
    exact sMulPoly_no p f g L M w hL hM h
  · rw [(mulOk_yes h).1, (mulOk_yes h).2]
    simp only [Bool.and_eq_true] at h
    exact sMulPoly_yes p f g L M w hL hM h.1.1 h.1.2 h.2.2
theorem iMulPoly (p : Int) (f g : Value) (L M : List Trm) (w : World) (hL : Trms w f L) (hM : Trms w g M) :
    Calls Try.prog 29 #[.int .i64 p, f, g] w (GivesPB (mulL p L M) (mulOk p L M) w) := by
  cases h : ((isP p && validB p L) && (isP p && validB p M))
  · rw [(mulOk_no h).1, (mulOk_no h).2]
    exact iMulPoly_no p f g L M w hL hM h
  · rw [(mulOk_yes h).1, (mulOk_yes h).2]
    simp only [Bool.and_eq_true] at h
    exact iMulPoly_yes p f g L M w hL hM h.1.1 h.1.2 h.2.2
/-- the power of an unknown in a term -/
def pwr (v : Int) (x : Trm) : Int := if v = 0 then x.a else if v = 1 then x.b else x.c
def setp (v m : Int) (x : Trm) : Trm := if v = 0 then ⟨m, x.b, x.c, x.t⟩ else if v = 1 then ⟨x.a, m, x.c, x.t⟩ else ⟨x.a, x.b, m, x.t⟩
def vB (v : Int) : Bool := decide (0 ≤ v) && decide (v ≤ 2)
theorem vB_cases {v : Int} (h : vB v = true) : v = 0 ∨ v = 1 ∨ v = 2 := by simp [vB] at h; omega
theorem iUnk2 (v : Int) (w : World) : Calls Try.prog 79 #[.int .i64 v] w fun e w' => e = .returned (.bool (vB v)) ∧ w = w' := by
  unfold vB
  by_cases h0 : 0 ≤ v
  · have hb : decide (v < 3) = decide (v ≤ 2) := by by_cases h : v < 3 <;> simp <;> omega
    rw [decide_eq_true h0, Bool.true_and, ← hb]
    clear hb
    go_enter Try.func79, Try.ntmps79
    go_wp2_with fail
    go_ret
    exact ⟨rfl, rfl⟩
  · rw [decide_eq_false h0, Bool.false_and]
    go_enter Try.func79, Try.ntmps79
    go_wp2_with fail
    go_ret
    exact ⟨rfl, rfl⟩
/-- a polynomial times another one, some times -/
def partK (p : Int) (M P0 : List Trm) : Nat → Option (List Trm)
  | 0 => some P0
  | k + 1 => match partK p M P0 k with
    | none => none
    | some P => if mulOk p P M = true then some (mulL p P M) else none
/-- the sum of what the first terms become -/
def sumK (p v : Int) (L M : List Trm) : Nat → Option (List Trm)
  | 0 => some []
  | k + 1 => match sumK p v L M k with
    | none => none
    | some s => match partK p M [setp v 0 (L.getD k default)] (pwr v (L.getD k default)).toNat with
      | none => none
      | some q => if addOk p s q = true then some (sumV p s q) else none
theorem partK_none {p : Int} {M P0 : List Trm} {k : Nat} (h : partK p M P0 k = none) : ∀ d, partK p M P0 (k + d) = none
  | 0 => h
  | d + 1 => by show (match partK p M P0 (k + d) with | none => none | some P => _) = none; rw [partK_none h d]
theorem sumK_none {p v : Int} {L M : List Trm} {k : Nat} (h : sumK p v L M k = none) : ∀ d, sumK p v L M (k + d) = none
  | 0 => h
  | d + 1 => by show (match sumK p v L M (k + d) with | none => none | some P => _) = none; rw [sumK_none h d]
theorem partK_step {p : Int} {M P0 P : List Trm} {k : Nat} (h : partK p M P0 k = some P) : partK p M P0 (k + 1) = if mulOk p P M = true then some (mulL p P M) else none := by
  show (match partK p M P0 k with | none => none | some P => _) = _
  rw [h]
theorem sumK_step {p v : Int} {L M s q : List Trm} {k : Nat} (h : sumK p v L M k = some s) (h2 : partK p M [setp v 0 (L.getD k default)] (pwr v (L.getD k default)).toNat = some q) : sumK p v L M (k + 1) = if addOk p s q = true then some (sumV p s q) else none := by
  show (match sumK p v L M k with | none => none | some s => _) = _
  rw [h]
  simp only [h2]
theorem sumK_stop {p v : Int} {L M s : List Trm} {k : Nat} (h : sumK p v L M k = some s) (h2 : partK p M [setp v 0 (L.getD k default)] (pwr v (L.getD k default)).toNat = none) : sumK p v L M (k + 1) = none := by
  show (match sumK p v L M k with | none => none | some s => _) = _
  rw [h]
  simp only [h2]
def putC (p : Int) (L : List Trm) (v : Int) (M : List Trm) : Bool := (okB p (default, L) && okB p (default, M)) && vB v
def putOk (p : Int) (L : List Trm) (v : Int) (M : List Trm) : Bool := putC p L v M && (sumK p v L M L.length).isSome
def putV (p : Int) (L : List Trm) (v : Int) (M : List Trm) : List Trm := if putC p L v M = true then (sumK p v L M L.length).getD [] else []
theorem putC_no {p v : Int} {L M : List Trm} (h : putC p L v M = false) : putOk p L v M = false ∧ putV p L v M = [] := by
  exact ⟨by unfold putOk; rw [h]; rfl, by unfold putV; rw [h]; rfl⟩
theorem putC_yes {p v : Int} {L M : List Trm} (h : putC p L v M = true) : putOk p L v M = (sumK p v L M L.length).isSome ∧ putV p L v M = (sumK p v L M L.length).getD [] := by
  exact ⟨by unfold putOk; rw [h, Bool.true_and], by unfold putV; rw [h]; rfl⟩
theorem one_trms {w : World} {n : Nat} {x : Trm} (h : TAt w n 0 x) (hs : n < w.heap.size) : Trms w (.slice (some ⟨n, 0, none⟩) 1 1) [x] := by
  refine ⟨by simp, _, _, rfl, .inr ⟨n, 0, rfl, hs, fun j hj => ?_⟩⟩
  have : j = 0 := by simpa using hj
  subst this
  simpa using h
set_option maxRecDepth 100000 in
set_option maxHeartbeats 8000000 in
theorem sPut_yes0 (p : Int) (a : Option Addr) (cap : Nat) (gv : Value) (L M : List Trm) (w : World) (hp : isP p = true) (hV : validB p L = true) (hVM : validB p M = true) (hL : Trms w (.slice a L.length cap) L) (hM : Trms w gv M) (R : List Trm) (b : Bool) (hR : R = (sumK p 0 L M L.length).getD []) (hb : b = (sumK p 0 L M L.length).isSome) :
    Calls Try.prog 32 #[.int .i64 p, .slice a L.length cap, .int .i64 0, gv] w (GivesPB R b w) := by
  have HB := Lib.hid (bothAt p (.slice a L.length cap) gv L M w hL hM true (by unfold okB; dsimp only; rw [hp, hV, hVM]; rfl))
  have HV := Lib.hid hV
  have HL := Lib.hid hL
  have HM := Lib.hid hM
  have HRE := Lib.hid hR
  have HBE := Lib.hid hb
  have hl := validB_len hV
  have HIN := Lib.hid (sIn 0 0 2)
  rw [show (decide ((0 : Int) ≤ 0) && decide ((0 : Int) ≤ 2)) = true by decide] at HIN
  obtain ⟨_, a2, cap2, rfl, _⟩ := hM
  clear hp hV hVM hL hR hb
  go_enter Try.func32, Try.ntmps32
  go_wp2_with fail
  refine HB.out.mono ?_
  rintro e w2 ⟨rfl, hb2⟩
  have HB2 := Lib.hid hb2
  clear hb2 HB
  go_wp2_with fail
  refine (HIN.out _).mono ?_
  rintro e w3 ⟨rfl, rfl⟩
  go_wp2_with fail
  obtain ⟨W, hW⟩ : ∃ W, W = w2.alloc (Obj.cells #[] 68) := ⟨_, rfl⟩
  have HW := Lib.hid (show OwnTrms W w.heap.size (.slice (some ⟨w2.heap.size, 0, none⟩) 0 0) [] ∧ Below w.heap.size w W by
    rw [hW]
    exact ⟨(Row.lit0 w2 w.heap.size HB2.out.size).own (by simp), Below.alloc HB2.out HB2.out.size _⟩)
  rw [← hW]
  generalize (Value.slice (some ⟨w2.heap.size, 0, none⟩) 0 0) = vo0 at HW ⊢
  clear hW
  go_loopw [10, 34] (fun u i wr => ∃ (vo : Value) (k : Nat) (s : List Trm), vo = u ∧ k ≤ L.length ∧ i = .int .i64 k ∧ sumK p 0 L M k = some s ∧ OwnTrms wr w.heap.size vo s ∧ Below w.heap.size w wr) (fun _ i _ => L.length - (intOf i).toNat)
  case atStart => exact ⟨_, 0, [], rfl, by omega, rfl, rfl, HW.out⟩
  case round =>
    clear HW
    obtain ⟨vo, k, s, rfl, hk, rfl, hsk, hO, hb⟩ := hrel
    by_cases hlt : k < L.length
    · have hltp : (k : Int) < (L.length : Int) := by omega
      have hk0 : (0 : Int) ≤ (k : Int) := by omega
      obtain ⟨x, hx⟩ : ∃ x, x = L.getD k default := ⟨_, rfl⟩
      obtain ⟨ha, hbb, hcc⟩ := validB_pows HV.out hlt hx
      have hxn : (x.a.toNat : Int) = x.a := by omega
      obtain ⟨c, hcn⟩ : ∃ c, c = x.a.toNat := ⟨_, rfl⟩
      have hc9 : c ≤ 9 := by omega
      rw [← hcn] at hxn
      obtain ⟨g, off, rfl, hg, hc⟩ : ∃ g off, a = some ⟨g, off, none⟩ ∧ g < w.heap.size ∧ ∀ j : Nat, j < L.length → TAt w g (off + j * 4) (L.getD j default) := by
        obtain ⟨_, a', cap', he, h⟩ := HL.out
        injection he with e1 e2 e3
        subst e1
        rcases h with h | h
        · rw [h] at hlt; simp at hlt
        · exact h
      obtain ⟨b0, b1, b2, b3⟩ := (hc k hlt).below hb hg
      rw [← hx] at b0 b1 b2 b3
      have HX := Lib.hid (show setp 0 0 (L.getD k default) = ⟨0, x.b, x.c, x.t⟩ ∧ (pwr 0 (L.getD k default)).toNat = c by rw [← hx, hcn]; exact ⟨rfl, rfl⟩)
      obtain ⟨W1, hW1⟩ : ∃ W1, W1 = (wr.alloc (Obj.cells #[.int .i64 0, .int .i64 x.b, .int .i64 x.c, .int .i64 x.t] 68)).alloc (Obj.cells #[.int .i64 0, .int .i64 x.b, .int .i64 x.c, .int .i64 x.t] 68) := ⟨_, rfl⟩
      have h01 : Below wr.heap.size wr W1 := by rw [hW1]; exact Below.alloc (Below.alloc (Below.refl _ _) (Nat.le_refl _) _) (by simp) _
      have H1 := Lib.hid (show Trms W1 (.slice (some ⟨wr.heap.size + 1, 0, none⟩) 1 1) [⟨0, x.b, x.c, x.t⟩] ∧ OwnTrms W1 w.heap.size vo s ∧ Below w.heap.size w W1 from
        ⟨one_trms (by rw [hW1]; refine ⟨?_, ?_, ?_, ?_⟩ <;> simp [go_sem]) (by rw [hW1]; simp), hO.below h01, hb.trans (h01.mono hb.size)⟩)
      have HW1 := Lib.hid hW1
      have HSK := Lib.hid hsk
      clear hx hsk hO hb hc hcn h01 hW1 ha hbb hcc
      go_wp2_with fail
      rw [← HW1.out]
      clear HW1 b0 b1 b2 b3
      generalize (Value.slice (some ⟨wr.heap.size + 1, 0, none⟩) 1 1) = vp0 at H1 ⊢
      rw [← hxn]
      clear hxn
      go_loopw [14, 48] (fun u i wr => ∃ (vp : Value) (m : Nat) (q : List Trm), vp = u ∧ m ≤ c ∧ i = .int .i64 m ∧ partK p M [⟨0, x.b, x.c, x.t⟩] m = some q ∧ Trms wr vp q ∧ OwnTrms wr w.heap.size vo s ∧ Below w.heap.size w wr) (fun _ i _ => c - (intOf i).toNat)
      case atStart => exact ⟨_, 0, _, rfl, by omega, rfl, rfl, H1.out⟩
      case round =>
        clear H1
        obtain ⟨vp, m, q, rfl, hm, rfl, hpk, hT, hO, hb⟩ := hrel
        by_cases hmt : m < c
        · have hmtp : (m : Int) < (c : Int) := by omega
          have HMUL := Lib.hid (sMulPoly p vp (.slice a2 M.length cap2) q M wr hT (HM.out.below hb))
          have HPS := Lib.hid (partK_step hpk)
          have HO := Lib.hid hO
          have Hb := Lib.hid hb
          obtain ⟨_, ap, cp, rfl, _⟩ := hT
          obtain ⟨r, hr⟩ : ∃ r, r = mulOk p q M := ⟨_, rfl⟩
          rw [← hr] at HMUL HPS
          clear hpk hO hb hr
          go_wp2_with fail
          refine HMUL.out.mono ?_
          rintro e w4 ⟨v4, rfl, hown, hb4⟩
          have H4 := Lib.hid (And.intro hown.trms (And.intro (HO.out.below hb4) (Hb.out.trans (hb4.mono Hb.out.size))))
          clear hown hb4
          cases r
          · have HN := Lib.hid (show sumK p 0 L M L.length = none by
              have e := sumK_stop HSK.out (by rw [HX.out.1, HX.out.2]; have := partK_none HPS.out (c - (m + 1)); rwa [show m + 1 + (c - (m + 1)) = c by omega] at this)
              have := sumK_none e (L.length - (k + 1))
              rwa [show k + 1 + (L.length - (k + 1)) = L.length by omega] at this)
            have hz : b = false := by rw [HBE.out, HN.out]; rfl
            have hz2 : R = [] := by rw [HRE.out, HN.out]; rfl
            subst hz hz2
            go_wp2_with fail
            refine bodyPost_ret (v := .tuple #[.slice (some ⟨w4.heap.size, 0, none⟩) 0 0, .bool false]) (by simp [results, Try.results32, go_sem]) rfl ⟨_, rfl, (Row.lit0 w4 w.heap.size H4.out.2.2.size).own (by simp), Below.alloc H4.out.2.2 H4.out.2.2.size _⟩
          · rw [if_pos rfl] at HPS
            go_wp2_with fail
            go_roundw
            case rel => exact ⟨_, m + 1, _, rfl, by omega, by go_num, HPS.out, H4.out⟩
            case measure => simp [intOf]; omega
        · have hml : m = c := by omega
          subst hml
          have HADD := Lib.hid (sAddPoly p vo vp s q wr hO.trms hT)
          have HSS := Lib.hid (sumK_step HSK.out (by rw [HX.out.1, HX.out.2]; exact hpk))
          have Hb := Lib.hid hb
          obtain ⟨_, ap, cp, rfl, _⟩ := hT
          obtain ⟨_, ao, co, rfl, _⟩ := hO.trms
          obtain ⟨r, hr⟩ : ∃ r, r = addOk p s q := ⟨_, rfl⟩
          rw [← hr] at HADD HSS
          clear hpk hO hb hr
          go_wp2_with fail
          refine HADD.out.mono ?_
          rintro e w4 ⟨v4, rfl, hown, hb4⟩
          have H4 := Lib.hid (And.intro (ownTrms_mono hown Hb.out.size) (Hb.out.trans (hb4.mono Hb.out.size)))
          clear hown hb4
          cases r
          · have HN := Lib.hid (show sumK p 0 L M L.length = none by
              have := sumK_none HSS.out (L.length - (k + 1))
              rwa [show k + 1 + (L.length - (k + 1)) = L.length by omega] at this)
            have hz : b = false := by rw [HBE.out, HN.out]; rfl
            have hz2 : R = [] := by rw [HRE.out, HN.out]; rfl
            subst hz hz2
            go_wp2_with fail
            refine bodyPost_ret (v := .tuple #[.slice (some ⟨w4.heap.size, 0, none⟩) 0 0, .bool false]) (by simp [results, Try.results32, go_sem]) rfl ⟨_, rfl, (Row.lit0 w4 w.heap.size H4.out.2.size).own (by simp), Below.alloc H4.out.2 H4.out.2.size _⟩
          · rw [if_pos rfl] at HSS
            go_wp2_with fail
            go_roundw
            case rel => exact ⟨_, k + 1, _, rfl, by omega, by go_num, HSS.out, H4.out⟩
            case measure => simp [intOf]; omega
    · have hkl : k = L.length := by omega
      subst hkl
      have hz : b = true := by rw [HBE.out, hsk]; rfl
      have hz2 : R = s := by rw [HRE.out, hsk]; rfl
      subst hz hz2
      have HQ := Lib.hid (And.intro hO hb)
      clear hO hb hsk
      go_wp2_with fail
      refine bodyPost_ret (v := .tuple #[vo, .bool true]) (by simp [results, Try.results32, go_sem]) rfl ⟨_, rfl, HQ.out⟩
set_option maxRecDepth 100000 in
set_option maxHeartbeats 8000000 in
theorem sPut_yes1 (p : Int) (a : Option Addr) (cap : Nat) (gv : Value) (L M : List Trm) (w : World) (hp : isP p = true) (hV : validB p L = true) (hVM : validB p M = true) (hL : Trms w (.slice a L.length cap) L) (hM : Trms w gv M) (R : List Trm) (b : Bool) (hR : R = (sumK p 1 L M L.length).getD []) (hb : b = (sumK p 1 L M L.length).isSome) :
    Calls Try.prog 32 #[.int .i64 p, .slice a L.length cap, .int .i64 1, gv] w (GivesPB R b w) := by
  have HB := Lib.hid (bothAt p (.slice a L.length cap) gv L M w hL hM true (by unfold okB; dsimp only; rw [hp, hV, hVM]; rfl))
  have HV := Lib.hid hV
  have HL := Lib.hid hL
  have HM := Lib.hid hM
  have HRE := Lib.hid hR
  have HBE := Lib.hid hb
  have hl := validB_len hV
  have HIN := Lib.hid (sIn 1 0 2)
  rw [show (decide ((0 : Int) ≤ 1) && decide ((1 : Int) ≤ 2)) = true by decide] at HIN
  obtain ⟨_, a2, cap2, rfl, _⟩ := hM
  clear hp hV hVM hL hR hb
  go_enter Try.func32, Try.ntmps32
  go_wp2_with fail
  refine HB.out.mono ?_
  rintro e w2 ⟨rfl, hb2⟩
  have HB2 := Lib.hid hb2
  clear hb2 HB
  go_wp2_with fail
  refine (HIN.out _).mono ?_
  rintro e w3 ⟨rfl, rfl⟩
  go_wp2_with fail
  obtain ⟨W, hW⟩ : ∃ W, W = w2.alloc (Obj.cells #[] 68) := ⟨_, rfl⟩
  have HW := Lib.hid (show OwnTrms W w.heap.size (.slice (some ⟨w2.heap.size, 0, none⟩) 0 0) [] ∧ Below w.heap.size w W by
    rw [hW]
    exact ⟨(Row.lit0 w2 w.heap.size HB2.out.size).own (by simp), Below.alloc HB2.out HB2.out.size _⟩)
  rw [← hW]
  generalize (Value.slice (some ⟨w2.heap.size, 0, none⟩) 0 0) = vo0 at HW ⊢
  clear hW
  go_loopw [10, 34] (fun u i wr => ∃ (vo : Value) (k : Nat) (s : List Trm), vo = u ∧ k ≤ L.length ∧ i = .int .i64 k ∧ sumK p 1 L M k = some s ∧ OwnTrms wr w.heap.size vo s ∧ Below w.heap.size w wr) (fun _ i _ => L.length - (intOf i).toNat)
  case atStart => exact ⟨_, 0, [], rfl, by omega, rfl, rfl, HW.out⟩
  case round =>
    clear HW
    obtain ⟨vo, k, s, rfl, hk, rfl, hsk, hO, hb⟩ := hrel
    by_cases hlt : k < L.length
    · have hltp : (k : Int) < (L.length : Int) := by omega
      have hk0 : (0 : Int) ≤ (k : Int) := by omega
      obtain ⟨x, hx⟩ : ∃ x, x = L.getD k default := ⟨_, rfl⟩
      obtain ⟨ha, hbb, hcc⟩ := validB_pows HV.out hlt hx
      have hxn : (x.b.toNat : Int) = x.b := by omega
      obtain ⟨c, hcn⟩ : ∃ c, c = x.b.toNat := ⟨_, rfl⟩
      have hc9 : c ≤ 9 := by omega
      rw [← hcn] at hxn
      obtain ⟨g, off, rfl, hg, hc⟩ : ∃ g off, a = some ⟨g, off, none⟩ ∧ g < w.heap.size ∧ ∀ j : Nat, j < L.length → TAt w g (off + j * 4) (L.getD j default) := by
        obtain ⟨_, a', cap', he, h⟩ := HL.out
        injection he with e1 e2 e3
        subst e1
        rcases h with h | h
        · rw [h] at hlt; simp at hlt
        · exact h
      obtain ⟨b0, b1, b2, b3⟩ := (hc k hlt).below hb hg
      rw [← hx] at b0 b1 b2 b3
      have HX := Lib.hid (show setp 1 0 (L.getD k default) = ⟨x.a, 0, x.c, x.t⟩ ∧ (pwr 1 (L.getD k default)).toNat = c by rw [← hx, hcn]; exact ⟨rfl, rfl⟩)
      obtain ⟨W1, hW1⟩ : ∃ W1, W1 = (wr.alloc (Obj.cells #[.int .i64 x.a, .int .i64 0, .int .i64 x.c, .int .i64 x.t] 68)).alloc (Obj.cells #[.int .i64 x.a, .int .i64 0, .int .i64 x.c, .int .i64 x.t] 68) := ⟨_, rfl⟩
      have h01 : Below wr.heap.size wr W1 := by rw [hW1]; exact Below.alloc (Below.alloc (Below.refl _ _) (Nat.le_refl _) _) (by simp) _
      have H1 := Lib.hid (show Trms W1 (.slice (some ⟨wr.heap.size + 1, 0, none⟩) 1 1) [⟨x.a, 0, x.c, x.t⟩] ∧ OwnTrms W1 w.heap.size vo s ∧ Below w.heap.size w W1 from
        ⟨one_trms (by rw [hW1]; refine ⟨?_, ?_, ?_, ?_⟩ <;> simp [go_sem]) (by rw [hW1]; simp), hO.below h01, hb.trans (h01.mono hb.size)⟩)
      have HW1 := Lib.hid hW1
      have HSK := Lib.hid hsk
      clear hx hsk hO hb hc hcn h01 hW1 ha hbb hcc
      go_wp2_with fail
      rw [← HW1.out]
      clear HW1 b0 b1 b2 b3
      generalize (Value.slice (some ⟨wr.heap.size + 1, 0, none⟩) 1 1) = vp0 at H1 ⊢
      rw [← hxn]
      clear hxn
      go_loopw [14, 48] (fun u i wr => ∃ (vp : Value) (m : Nat) (q : List Trm), vp = u ∧ m ≤ c ∧ i = .int .i64 m ∧ partK p M [⟨x.a, 0, x.c, x.t⟩] m = some q ∧ Trms wr vp q ∧ OwnTrms wr w.heap.size vo s ∧ Below w.heap.size w wr) (fun _ i _ => c - (intOf i).toNat)
      case atStart => exact ⟨_, 0, _, rfl, by omega, rfl, rfl, H1.out⟩
      case round =>
        clear H1
        obtain ⟨vp, m, q, rfl, hm, rfl, hpk, hT, hO, hb⟩ := hrel
        by_cases hmt : m < c
        · have hmtp : (m : Int) < (c : Int) := by omega
          have HMUL := Lib.hid (sMulPoly p vp (.slice a2 M.length cap2) q M wr hT (HM.out.below hb))
          have HPS := Lib.hid (partK_step hpk)
          have HO := Lib.hid hO
          have Hb := Lib.hid hb
          obtain ⟨_, ap, cp, rfl, _⟩ := hT
          obtain ⟨r, hr⟩ : ∃ r, r = mulOk p q M := ⟨_, rfl⟩
          rw [← hr] at HMUL HPS
          clear hpk hO hb hr
          go_wp2_with fail
          refine HMUL.out.mono ?_
          rintro e w4 ⟨v4, rfl, hown, hb4⟩
          have H4 := Lib.hid (And.intro hown.trms (And.intro (HO.out.below hb4) (Hb.out.trans (hb4.mono Hb.out.size))))
          clear hown hb4
          cases r
          · have HN := Lib.hid (show sumK p 1 L M L.length = none by
              have e := sumK_stop HSK.out (by rw [HX.out.1, HX.out.2]; have := partK_none HPS.out (c - (m + 1)); rwa [show m + 1 + (c - (m + 1)) = c by omega] at this)
              have := sumK_none e (L.length - (k + 1))
              rwa [show k + 1 + (L.length - (k + 1)) = L.length by omega] at this)
            have hz : b = false := by rw [HBE.out, HN.out]; rfl
            have hz2 : R = [] := by rw [HRE.out, HN.out]; rfl
            subst hz hz2
            go_wp2_with fail
            refine bodyPost_ret (v := .tuple #[.slice (some ⟨w4.heap.size, 0, none⟩) 0 0, .bool false]) (by simp [results, Try.results32, go_sem]) rfl ⟨_, rfl, (Row.lit0 w4 w.heap.size H4.out.2.2.size).own (by simp), Below.alloc H4.out.2.2 H4.out.2.2.size _⟩
          · rw [if_pos rfl] at HPS
            go_wp2_with fail
            go_roundw
            case rel => exact ⟨_, m + 1, _, rfl, by omega, by go_num, HPS.out, H4.out⟩
            case measure => simp [intOf]; omega
        · have hml : m = c := by omega
          subst hml
          have HADD := Lib.hid (sAddPoly p vo vp s q wr hO.trms hT)
          have HSS := Lib.hid (sumK_step HSK.out (by rw [HX.out.1, HX.out.2]; exact hpk))
          have Hb := Lib.hid hb
          obtain ⟨_, ap, cp, rfl, _⟩ := hT
          obtain ⟨_, ao, co, rfl, _⟩ := hO.trms
          obtain ⟨r, hr⟩ : ∃ r, r = addOk p s q := ⟨_, rfl⟩
          rw [← hr] at HADD HSS
          clear hpk hO hb hr
          go_wp2_with fail
          refine HADD.out.mono ?_
          rintro e w4 ⟨v4, rfl, hown, hb4⟩
          have H4 := Lib.hid (And.intro (ownTrms_mono hown Hb.out.size) (Hb.out.trans (hb4.mono Hb.out.size)))
          clear hown hb4
          cases r
          · have HN := Lib.hid (show sumK p 1 L M L.length = none by
              have := sumK_none HSS.out (L.length - (k + 1))
              rwa [show k + 1 + (L.length - (k + 1)) = L.length by omega] at this)
            have hz : b = false := by rw [HBE.out, HN.out]; rfl
            have hz2 : R = [] := by rw [HRE.out, HN.out]; rfl
            subst hz hz2
            go_wp2_with fail
            refine bodyPost_ret (v := .tuple #[.slice (some ⟨w4.heap.size, 0, none⟩) 0 0, .bool false]) (by simp [results, Try.results32, go_sem]) rfl ⟨_, rfl, (Row.lit0 w4 w.heap.size H4.out.2.size).own (by simp), Below.alloc H4.out.2 H4.out.2.size _⟩
          · rw [if_pos rfl] at HSS
            go_wp2_with fail
            go_roundw
            case rel => exact ⟨_, k + 1, _, rfl, by omega, by go_num, HSS.out, H4.out⟩
            case measure => simp [intOf]; omega
    · have hkl : k = L.length := by omega
      subst hkl
      have hz : b = true := by rw [HBE.out, hsk]; rfl
      have hz2 : R = s := by rw [HRE.out, hsk]; rfl
      subst hz hz2
      have HQ := Lib.hid (And.intro hO hb)
      clear hO hb hsk
      go_wp2_with fail
      refine bodyPost_ret (v := .tuple #[vo, .bool true]) (by simp [results, Try.results32, go_sem]) rfl ⟨_, rfl, HQ.out⟩
set_option maxRecDepth 100000 in
set_option maxHeartbeats 8000000 in
theorem sPut_yes2 (p : Int) (a : Option Addr) (cap : Nat) (gv : Value) (L M : List Trm) (w : World) (hp : isP p = true) (hV : validB p L = true) (hVM : validB p M = true) (hL : Trms w (.slice a L.length cap) L) (hM : Trms w gv M) (R : List Trm) (b : Bool) (hR : R = (sumK p 2 L M L.length).getD []) (hb : b = (sumK p 2 L M L.length).isSome) :
    Calls Try.prog 32 #[.int .i64 p, .slice a L.length cap, .int .i64 2, gv] w (GivesPB R b w) := by
  have HB := Lib.hid (bothAt p (.slice a L.length cap) gv L M w hL hM true (by unfold okB; dsimp only; rw [hp, hV, hVM]; rfl))
  have HV := Lib.hid hV
  have HL := Lib.hid hL
  have HM := Lib.hid hM
  have HRE := Lib.hid hR
  have HBE := Lib.hid hb
  have hl := validB_len hV
  have HIN := Lib.hid (sIn 2 0 2)
  rw [show (decide ((0 : Int) ≤ 2) && decide ((2 : Int) ≤ 2)) = true by decide] at HIN
  obtain ⟨_, a2, cap2, rfl, _⟩ := hM
  clear hp hV hVM hL hR hb
  go_enter Try.func32, Try.ntmps32
  go_wp2_with fail
  refine HB.out.mono ?_
  rintro e w2 ⟨rfl, hb2⟩
  have HB2 := Lib.hid hb2
  clear hb2 HB
  go_wp2_with fail
  refine (HIN.out _).mono ?_
  rintro e w3 ⟨rfl, rfl⟩
  go_wp2_with fail
  obtain ⟨W, hW⟩ : ∃ W, W = w2.alloc (Obj.cells #[] 68) := ⟨_, rfl⟩
  have HW := Lib.hid (show OwnTrms W w.heap.size (.slice (some ⟨w2.heap.size, 0, none⟩) 0 0) [] ∧ Below w.heap.size w W by
    rw [hW]
    exact ⟨(Row.lit0 w2 w.heap.size HB2.out.size).own (by simp), Below.alloc HB2.out HB2.out.size _⟩)
  rw [← hW]
  generalize (Value.slice (some ⟨w2.heap.size, 0, none⟩) 0 0) = vo0 at HW ⊢
  clear hW
  go_loopw [10, 34] (fun u i wr => ∃ (vo : Value) (k : Nat) (s : List Trm), vo = u ∧ k ≤ L.length ∧ i = .int .i64 k ∧ sumK p 2 L M k = some s ∧ OwnTrms wr w.heap.size vo s ∧ Below w.heap.size w wr) (fun _ i _ => L.length - (intOf i).toNat)
  case atStart => exact ⟨_, 0, [], rfl, by omega, rfl, rfl, HW.out⟩
  case round =>
    clear HW
    obtain ⟨vo, k, s, rfl, hk, rfl, hsk, hO, hb⟩ := hrel
    by_cases hlt : k < L.length
    · have hltp : (k : Int) < (L.length : Int) := by omega
      have hk0 : (0 : Int) ≤ (k : Int) := by omega
      obtain ⟨x, hx⟩ : ∃ x, x = L.getD k default := ⟨_, rfl⟩
      obtain ⟨ha, hbb, hcc⟩ := validB_pows HV.out hlt hx
      have hxn : (x.c.toNat : Int) = x.c := by omega
      obtain ⟨c, hcn⟩ : ∃ c, c = x.c.toNat := ⟨_, rfl⟩
      have hc9 : c ≤ 9 := by omega
      rw [← hcn] at hxn
      obtain ⟨g, off, rfl, hg, hc⟩ : ∃ g off, a = some ⟨g, off, none⟩ ∧ g < w.heap.size ∧ ∀ j : Nat, j < L.length → TAt w g (off + j * 4) (L.getD j default) := by
        obtain ⟨_, a', cap', he, h⟩ := HL.out
        injection he with e1 e2 e3
        subst e1
        rcases h with h | h
        · rw [h] at hlt; simp at hlt
        · exact h
      obtain ⟨b0, b1, b2, b3⟩ := (hc k hlt).below hb hg
      rw [← hx] at b0 b1 b2 b3
      have HX := Lib.hid (show setp 2 0 (L.getD k default) = ⟨x.a, x.b, 0, x.t⟩ ∧ (pwr 2 (L.getD k default)).toNat = c by rw [← hx, hcn]; exact ⟨rfl, rfl⟩)
      obtain ⟨W1, hW1⟩ : ∃ W1, W1 = (wr.alloc (Obj.cells #[.int .i64 x.a, .int .i64 x.b, .int .i64 0, .int .i64 x.t] 68)).alloc (Obj.cells #[.int .i64 x.a, .int .i64 x.b, .int .i64 0, .int .i64 x.t] 68) := ⟨_, rfl⟩
      have h01 : Below wr.heap.size wr W1 := by rw [hW1]; exact Below.alloc (Below.alloc (Below.refl _ _) (Nat.le_refl _) _) (by simp) _
      have H1 := Lib.hid (show Trms W1 (.slice (some ⟨wr.heap.size + 1, 0, none⟩) 1 1) [⟨x.a, x.b, 0, x.t⟩] ∧ OwnTrms W1 w.heap.size vo s ∧ Below w.heap.size w W1 from
        ⟨one_trms (by rw [hW1]; refine ⟨?_, ?_, ?_, ?_⟩ <;> simp [go_sem]) (by rw [hW1]; simp), hO.below h01, hb.trans (h01.mono hb.size)⟩)
      have HW1 := Lib.hid hW1
      have HSK := Lib.hid hsk
      clear hx hsk hO hb hc hcn h01 hW1 ha hbb hcc
      go_wp2_with fail
      rw [← HW1.out]
      clear HW1 b0 b1 b2 b3
      generalize (Value.slice (some ⟨wr.heap.size + 1, 0, none⟩) 1 1) = vp0 at H1 ⊢
      rw [← hxn]
      clear hxn
      go_loopw [14, 48] (fun u i wr => ∃ (vp : Value) (m : Nat) (q : List Trm), vp = u ∧ m ≤ c ∧ i = .int .i64 m ∧ partK p M [⟨x.a, x.b, 0, x.t⟩] m = some q ∧ Trms wr vp q ∧ OwnTrms wr w.heap.size vo s ∧ Below w.heap.size w wr) (fun _ i _ => c - (intOf i).toNat)
      case atStart => exact ⟨_, 0, _, rfl, by omega, rfl, rfl, H1.out⟩
      case round =>
        clear H1
        obtain ⟨vp, m, q, rfl, hm, rfl, hpk, hT, hO, hb⟩ := hrel
        by_cases hmt : m < c
        · have hmtp : (m : Int) < (c : Int) := by omega
          have HMUL := Lib.hid (sMulPoly p vp (.slice a2 M.length cap2) q M wr hT (HM.out.below hb))
          have HPS := Lib.hid (partK_step hpk)
          have HO := Lib.hid hO
          have Hb := Lib.hid hb
          obtain ⟨_, ap, cp, rfl, _⟩ := hT
          obtain ⟨r, hr⟩ : ∃ r, r = mulOk p q M := ⟨_, rfl⟩
          rw [← hr] at HMUL HPS
          clear hpk hO hb hr
          go_wp2_with fail
          refine HMUL.out.mono ?_
          rintro e w4 ⟨v4, rfl, hown, hb4⟩
          have H4 := Lib.hid (And.intro hown.trms (And.intro (HO.out.below hb4) (Hb.out.trans (hb4.mono Hb.out.size))))
          clear hown hb4
          cases r
          · have HN := Lib.hid (show sumK p 2 L M L.length = none by
              have e := sumK_stop HSK.out (by rw [HX.out.1, HX.out.2]; have := partK_none HPS.out (c - (m + 1)); rwa [show m + 1 + (c - (m + 1)) = c by omega] at this)
              have := sumK_none e (L.length - (k + 1))
              rwa [show k + 1 + (L.length - (k + 1)) = L.length by omega] at this)
            have hz : b = false := by rw [HBE.out, HN.out]; rfl
            have hz2 : R = [] := by rw [HRE.out, HN.out]; rfl
            subst hz hz2
            go_wp2_with fail
            refine bodyPost_ret (v := .tuple #[.slice (some ⟨w4.heap.size, 0, none⟩) 0 0, .bool false]) (by simp [results, Try.results32, go_sem]) rfl ⟨_, rfl, (Row.lit0 w4 w.heap.size H4.out.2.2.size).own (by simp), Below.alloc H4.out.2.2 H4.out.2.2.size _⟩
          · rw [if_pos rfl] at HPS
            go_wp2_with fail
            go_roundw
            case rel => exact ⟨_, m + 1, _, rfl, by omega, by go_num, HPS.out, H4.out⟩
            case measure => simp [intOf]; omega
        · have hml : m = c := by omega
          subst hml
          have HADD := Lib.hid (sAddPoly p vo vp s q wr hO.trms hT)
          have HSS := Lib.hid (sumK_step HSK.out (by rw [HX.out.1, HX.out.2]; exact hpk))
          have Hb := Lib.hid hb
          obtain ⟨_, ap, cp, rfl, _⟩ := hT
          obtain ⟨_, ao, co, rfl, _⟩ := hO.trms
          obtain ⟨r, hr⟩ : ∃ r, r = addOk p s q := ⟨_, rfl⟩
          rw [← hr] at HADD HSS
          clear hpk hO hb hr
          go_wp2_with fail
          refine HADD.out.mono ?_
          rintro e w4 ⟨v4, rfl, hown, hb4⟩
          have H4 := Lib.hid (And.intro (ownTrms_mono hown Hb.out.size) (Hb.out.trans (hb4.mono Hb.out.size)))
          clear hown hb4
          cases r
          · have HN := Lib.hid (show sumK p 2 L M L.length = none by
              have := sumK_none HSS.out (L.length - (k + 1))
              rwa [show k + 1 + (L.length - (k + 1)) = L.length by omega] at this)
            have hz : b = false := by rw [HBE.out, HN.out]; rfl
            have hz2 : R = [] := by rw [HRE.out, HN.out]; rfl
            subst hz hz2
            go_wp2_with fail
            refine bodyPost_ret (v := .tuple #[.slice (some ⟨w4.heap.size, 0, none⟩) 0 0, .bool false]) (by simp [results, Try.results32, go_sem]) rfl ⟨_, rfl, (Row.lit0 w4 w.heap.size H4.out.2.size).own (by simp), Below.alloc H4.out.2 H4.out.2.size _⟩
          · rw [if_pos rfl] at HSS
            go_wp2_with fail
            go_roundw
            case rel => exact ⟨_, k + 1, _, rfl, by omega, by go_num, HSS.out, H4.out⟩
            case measure => simp [intOf]; omega
    · have hkl : k = L.length := by omega
      subst hkl
      have hz : b = true := by rw [HBE.out, hsk]; rfl
      have hz2 : R = s := by rw [HRE.out, hsk]; rfl
      subst hz hz2
      have HQ := Lib.hid (And.intro hO hb)
      clear hO hb hsk
      go_wp2_with fail
      refine bodyPost_ret (v := .tuple #[vo, .bool true]) (by simp [results, Try.results32, go_sem]) rfl ⟨_, rfl, HQ.out⟩
set_option maxRecDepth 100000 in
set_option maxHeartbeats 4000000 in
theorem sPut_no (p v : Int) (fv gv : Value) (L M : List Trm) (w : World) (hL : Trms w fv L) (hM : Trms w gv M) (hr : putC p L v M = false) :
    Calls Try.prog 32 #[.int .i64 p, fv, .int .i64 v, gv] w (GivesPB [] false w) := by
  have HIN := Lib.hid (sIn v 0 2)
  rw [show (decide (0 ≤ v) && decide (v ≤ 2)) = vB v from rfl] at HIN
  obtain ⟨r, hr1⟩ : ∃ r, (okB p (fv, L) && okB p (gv, M)) = r := ⟨_, rfl⟩
  have HB := Lib.hid (bothAt p fv gv L M w hL hM r hr1)
  rw [show putC p L v M = ((okB p (fv, L) && okB p (gv, M)) && vB v) from rfl, hr1] at hr
  obtain ⟨q, hq⟩ : ∃ q, q = vB v := ⟨_, rfl⟩
  rw [← hq] at HIN hr
  obtain ⟨_, a, cap, rfl, _⟩ := hL
  obtain ⟨_, a2, cap2, rfl, _⟩ := hM
  clear hr1 hq
  cases r
  · clear hr
    go_enter Try.func32, Try.ntmps32
    go_wp2_with fail
    refine HB.out.mono ?_
    rintro e w2 ⟨rfl, hb2⟩
    have HQ := Lib.hid hb2
    clear hb2
    go_wp2_with fail
    refine bodyPost_ret (v := .tuple #[.slice (some ⟨w2.heap.size, 0, none⟩) 0 0, .bool false]) (by simp [results, Try.results32, go_sem]) rfl ⟨_, rfl, (Row.lit0 w2 w.heap.size HQ.out.size).own (by simp), Below.alloc HQ.out HQ.out.size _⟩
  · rw [Bool.true_and] at hr
    subst hr
    go_enter Try.func32, Try.ntmps32
    go_wp2_with fail
    refine HB.out.mono ?_
    rintro e w2 ⟨rfl, hb2⟩
    have HQ := Lib.hid hb2
    clear hb2
    go_wp2_with fail
    refine (HIN.out _).mono ?_
    rintro e w3 ⟨rfl, rfl⟩
    go_wp2_with fail
    refine bodyPost_ret (v := .tuple #[.slice (some ⟨w2.heap.size, 0, none⟩) 0 0, .bool false]) (by simp [results, Try.results32, go_sem]) rfl ⟨_, rfl, (Row.lit0 w2 w.heap.size HQ.out.size).own (by simp), Below.alloc HQ.out HQ.out.size _⟩
set_option maxRecDepth 100000 in
set_option maxHeartbeats 4000000 in
theorem iPut_no (p v : Int) (fv gv : Value) (L M : List Trm) (w : World) (hL : Trms w fv L) (hM : Trms w gv M) (hr : putC p L v M = false) :
    Calls Try.prog 33 #[.int .i64 p, fv, .int .i64 v, gv] w (GivesPB [] false w) := by
  have HIN := Lib.hid (iUnk2 v)
  obtain ⟨r, hr1⟩ : ∃ r, (okB p (fv, L) && okB p (gv, M)) = r := ⟨_, rfl⟩
  have HB := Lib.hid (iBothAt p fv gv L M w hL hM r hr1)
  rw [show putC p L v M = ((okB p (fv, L) && okB p (gv, M)) && vB v) from rfl, hr1] at hr
  obtain ⟨q, hq⟩ : ∃ q, q = vB v := ⟨_, rfl⟩
  rw [← hq] at HIN hr
  obtain ⟨_, a, cap, rfl, _⟩ := hL
  obtain ⟨_, a2, cap2, rfl, _⟩ := hM
  clear hr1 hq
  cases r
  · clear hr
    go_enter Try.func33, Try.ntmps33
    go_wp2_with fail
    refine HB.out.mono ?_
    rintro e w2 ⟨rfl, hb2⟩
    have HQ := Lib.hid hb2
    clear hb2
    go_wp2_with fail
    refine bodyPost_ret (v := .tuple #[.slice none 0 0, .bool false]) (by simp [results, Try.results33, go_sem]) rfl ⟨_, rfl, (Row.nil w2 w.heap.size).own (by simp), HQ.out⟩
  · rw [Bool.true_and] at hr
    subst hr
    go_enter Try.func33, Try.ntmps33
    go_wp2_with fail
    refine HB.out.mono ?_
    rintro e w2 ⟨rfl, hb2⟩
    have HQ := Lib.hid hb2
    clear hb2
    go_wp2_with fail
    refine (HIN.out _).mono ?_
    rintro e w3 ⟨rfl, rfl⟩
    go_wp2_with fail
    refine bodyPost_ret (v := .tuple #[.slice none 0 0, .bool false]) (by simp [results, Try.results33, go_sem]) rfl ⟨_, rfl, (Row.nil w2 w.heap.size).own (by simp), HQ.out⟩
/-- what substituted hands back -/
def SubTo (o : Option (List Trm)) (w : World) (e : Ending) (w' : World) : Prop := ∃ v', e = .returned (.tuple #[v', .bool o.isSome]) ∧ (∀ q, o = some q → Trms w' v' q) ∧ Below w.heap.size w w'
set_option maxRecDepth 100000 in
set_option maxHeartbeats 8000000 in
theorem iSubst0 (p : Int) (x : Trm) (gv : Value) (M : List Trm) (w : World) (hf : 0 ≤ x.a ∧ x.a ≤ 9) (hM : Trms w gv M) :
    Calls Try.prog 82 #[.agg #[.int .i64 x.a, .int .i64 x.b, .int .i64 x.c, .int .i64 x.t], .int .i64 p, .int .i64 0, gv] w (SubTo (partK p M [setp 0 0 x] (pwr 0 x).toNat) w) := by
  have HM := Lib.hid hM
  obtain ⟨_, a2, cap2, rfl, _⟩ := hM
  have hxn : (x.a.toNat : Int) = x.a := by omega
  obtain ⟨c, hcn⟩ : ∃ c, c = x.a.toNat := ⟨_, rfl⟩
  have hc9 : c ≤ 9 := by omega
  rw [← hcn] at hxn
  rw [show setp 0 0 x = ⟨0, x.b, x.c, x.t⟩ from rfl, show (pwr 0 x).toNat = c by rw [hcn]; rfl]
  obtain ⟨o, ho⟩ : ∃ o, o = partK p M [⟨0, x.b, x.c, x.t⟩] c := ⟨_, rfl⟩
  rw [← ho]
  have HOE := Lib.hid ho
  obtain ⟨W1, hW1⟩ : ∃ W1, W1 = (w.alloc (Obj.cells #[.int .i64 0, .int .i64 x.b, .int .i64 x.c, .int .i64 x.t] 68)).alloc (Obj.cells #[.int .i64 0, .int .i64 x.b, .int .i64 x.c, .int .i64 x.t] 68) := ⟨_, rfl⟩
  have h01 : Below w.heap.size w W1 := by rw [hW1]; exact Below.alloc (Below.alloc (Below.refl _ _) (Nat.le_refl _) _) (by simp) _
  have H1 := Lib.hid (show Trms W1 (.slice (some ⟨w.heap.size + 1, 0, none⟩) 1 1) [⟨0, x.b, x.c, x.t⟩] ∧ Below w.heap.size w W1 from
    ⟨one_trms (by rw [hW1]; refine ⟨?_, ?_, ?_, ?_⟩ <;> simp [go_sem]) (by rw [hW1]; simp), h01⟩)
  have HW1 := Lib.hid hW1
  clear hcn ho h01 hW1 hf
  go_enter Try.func82, Try.ntmps82
  go_wp2_with fail
  rw [← HW1.out]
  clear HW1
  generalize (Value.slice (some ⟨w.heap.size + 1, 0, none⟩) 1 1) = vp0 at H1 ⊢
  rw [← hxn]
  clear hxn
  go_loopw [11, 23] (fun u i wr => ∃ (vp : Value) (m : Nat) (q : List Trm), vp = u ∧ m ≤ c ∧ i = .int .i64 m ∧ partK p M [⟨0, x.b, x.c, x.t⟩] m = some q ∧ Trms wr vp q ∧ Below w.heap.size w wr) (fun _ i _ => c - (intOf i).toNat)
  case atStart => exact ⟨_, 0, _, rfl, by omega, rfl, rfl, H1.out⟩
  case round =>
    clear H1
    obtain ⟨vp, m, q, rfl, hm, rfl, hpk, hT, hb⟩ := hrel
    by_cases hmt : m < c
    · have hmtp : (m : Int) < (c : Int) := by omega
      have HMUL := Lib.hid (iMulPoly p vp (.slice a2 M.length cap2) q M wr hT (HM.out.below hb))
      have HPS := Lib.hid (partK_step hpk)
      have Hb := Lib.hid hb
      obtain ⟨_, ap, cp, rfl, _⟩ := hT
      obtain ⟨r, hr⟩ : ∃ r, r = mulOk p q M := ⟨_, rfl⟩
      rw [← hr] at HMUL HPS
      clear hpk hb hr
      go_wp2_with fail
      refine HMUL.out.mono ?_
      rintro e w4 ⟨v4, rfl, hown, hb4⟩
      have H4 := Lib.hid (And.intro hown.trms (Hb.out.trans (hb4.mono Hb.out.size)))
      clear hown hb4
      cases r
      · have hz : o = none := by
          rw [HOE.out]
          have := partK_none HPS.out (c - (m + 1))
          rwa [show m + 1 + (c - (m + 1)) = c by omega] at this
        subst hz
        go_wp2_with fail
        refine bodyPost_ret (v := .tuple #[.slice none 0 0, .bool false]) (by simp [results, Try.results82, go_sem]) rfl ⟨_, rfl, ?_, H4.out.2⟩
        intro q hq
        cases hq
      · rw [if_pos rfl] at HPS
        go_wp2_with fail
        go_roundw
        case rel => exact ⟨_, m + 1, _, rfl, by omega, by go_num, HPS.out, H4.out⟩
        case measure => simp [intOf]; omega
    · have hml : m = c := by omega
      subst hml
      have hz : o = some q := by rw [HOE.out]; exact hpk
      subst hz
      have HQ := Lib.hid (And.intro hT hb)
      clear hpk hT hb
      go_wp2_with fail
      refine bodyPost_ret (v := .tuple #[vp, .bool true]) (by simp [results, Try.results82, go_sem]) rfl ⟨_, rfl, ?_, HQ.out.2⟩
      intro q' hq
      injection hq with hq
      subst hq
      exact HQ.out.1
set_option maxRecDepth 100000 in
set_option maxHeartbeats 8000000 in
theorem iSubst1 (p : Int) (x : Trm) (gv : Value) (M : List Trm) (w : World) (hf : 0 ≤ x.b ∧ x.b ≤ 9) (hM : Trms w gv M) :
    Calls Try.prog 82 #[.agg #[.int .i64 x.a, .int .i64 x.b, .int .i64 x.c, .int .i64 x.t], .int .i64 p, .int .i64 1, gv] w (SubTo (partK p M [setp 1 0 x] (pwr 1 x).toNat) w) := by
  have HM := Lib.hid hM
  obtain ⟨_, a2, cap2, rfl, _⟩ := hM
  have hxn : (x.b.toNat : Int) = x.b := by omega
  obtain ⟨c, hcn⟩ : ∃ c, c = x.b.toNat := ⟨_, rfl⟩
  have hc9 : c ≤ 9 := by omega
  rw [← hcn] at hxn
  rw [show setp 1 0 x = ⟨x.a, 0, x.c, x.t⟩ from rfl, show (pwr 1 x).toNat = c by rw [hcn]; rfl]
  obtain ⟨o, ho⟩ : ∃ o, o = partK p M [⟨x.a, 0, x.c, x.t⟩] c := ⟨_, rfl⟩
  rw [← ho]
  have HOE := Lib.hid ho
  obtain ⟨W1, hW1⟩ : ∃ W1, W1 = (w.alloc (Obj.cells #[.int .i64 x.a, .int .i64 0, .int .i64 x.c, .int .i64 x.t] 68)).alloc (Obj.cells #[.int .i64 x.a, .int .i64 0, .int .i64 x.c, .int .i64 x.t] 68) := ⟨_, rfl⟩
  have h01 : Below w.heap.size w W1 := by rw [hW1]; exact Below.alloc (Below.alloc (Below.refl _ _) (Nat.le_refl _) _) (by simp) _
  have H1 := Lib.hid (show Trms W1 (.slice (some ⟨w.heap.size + 1, 0, none⟩) 1 1) [⟨x.a, 0, x.c, x.t⟩] ∧ Below w.heap.size w W1 from
    ⟨one_trms (by rw [hW1]; refine ⟨?_, ?_, ?_, ?_⟩ <;> simp [go_sem]) (by rw [hW1]; simp), h01⟩)
  have HW1 := Lib.hid hW1
  clear hcn ho h01 hW1 hf
  go_enter Try.func82, Try.ntmps82
  go_wp2_with fail
  rw [← HW1.out]
  clear HW1
  generalize (Value.slice (some ⟨w.heap.size + 1, 0, none⟩) 1 1) = vp0 at H1 ⊢
  rw [← hxn]
  clear hxn
  go_loopw [11, 23] (fun u i wr => ∃ (vp : Value) (m : Nat) (q : List Trm), vp = u ∧ m ≤ c ∧ i = .int .i64 m ∧ partK p M [⟨x.a, 0, x.c, x.t⟩] m = some q ∧ Trms wr vp q ∧ Below w.heap.size w wr) (fun _ i _ => c - (intOf i).toNat)
  case atStart => exact ⟨_, 0, _, rfl, by omega, rfl, rfl, H1.out⟩
  case round =>
    clear H1
    obtain ⟨vp, m, q, rfl, hm, rfl, hpk, hT, hb⟩ := hrel
    by_cases hmt : m < c
    · have hmtp : (m : Int) < (c : Int) := by omega
      have HMUL := Lib.hid (iMulPoly p vp (.slice a2 M.length cap2) q M wr hT (HM.out.below hb))
      have HPS := Lib.hid (partK_step hpk)
      have Hb := Lib.hid hb
      obtain ⟨_, ap, cp, rfl, _⟩ := hT
      obtain ⟨r, hr⟩ : ∃ r, r = mulOk p q M := ⟨_, rfl⟩
      rw [← hr] at HMUL HPS
      clear hpk hb hr
      go_wp2_with fail
      refine HMUL.out.mono ?_
      rintro e w4 ⟨v4, rfl, hown, hb4⟩
      have H4 := Lib.hid (And.intro hown.trms (Hb.out.trans (hb4.mono Hb.out.size)))
      clear hown hb4
      cases r
      · have hz : o = none := by
          rw [HOE.out]
          have := partK_none HPS.out (c - (m + 1))
          rwa [show m + 1 + (c - (m + 1)) = c by omega] at this
        subst hz
        go_wp2_with fail
        refine bodyPost_ret (v := .tuple #[.slice none 0 0, .bool false]) (by simp [results, Try.results82, go_sem]) rfl ⟨_, rfl, ?_, H4.out.2⟩
        intro q hq
        cases hq
      · rw [if_pos rfl] at HPS
        go_wp2_with fail
        go_roundw
        case rel => exact ⟨_, m + 1, _, rfl, by omega, by go_num, HPS.out, H4.out⟩
        case measure => simp [intOf]; omega
    · have hml : m = c := by omega
      subst hml
      have hz : o = some q := by rw [HOE.out]; exact hpk
      subst hz
      have HQ := Lib.hid (And.intro hT hb)
      clear hpk hT hb
      go_wp2_with fail
      refine bodyPost_ret (v := .tuple #[vp, .bool true]) (by simp [results, Try.results82, go_sem]) rfl ⟨_, rfl, ?_, HQ.out.2⟩
      intro q' hq
      injection hq with hq
      subst hq
      exact HQ.out.1
set_option maxRecDepth 100000 in
set_option maxHeartbeats 8000000 in
theorem iSubst2 (p : Int) (x : Trm) (gv : Value) (M : List Trm) (w : World) (hf : 0 ≤ x.c ∧ x.c ≤ 9) (hM : Trms w gv M) :
    Calls Try.prog 82 #[.agg #[.int .i64 x.a, .int .i64 x.b, .int .i64 x.c, .int .i64 x.t], .int .i64 p, .int .i64 2, gv] w (SubTo (partK p M [setp 2 0 x] (pwr 2 x).toNat) w) := by
  have HM := Lib.hid hM
  obtain ⟨_, a2, cap2, rfl, _⟩ := hM
  have hxn : (x.c.toNat : Int) = x.c := by omega
  obtain ⟨c, hcn⟩ : ∃ c, c = x.c.toNat := ⟨_, rfl⟩
  have hc9 : c ≤ 9 := by omega
  rw [← hcn] at hxn
  rw [show setp 2 0 x = ⟨x.a, x.b, 0, x.t⟩ from rfl, show (pwr 2 x).toNat = c by rw [hcn]; rfl]
  obtain ⟨o, ho⟩ : ∃ o, o = partK p M [⟨x.a, x.b, 0, x.t⟩] c := ⟨_, rfl⟩
  rw [← ho]
  have HOE := Lib.hid ho
  obtain ⟨W1, hW1⟩ : ∃ W1, W1 = (w.alloc (Obj.cells #[.int .i64 x.a, .int .i64 x.b, .int .i64 0, .int .i64 x.t] 68)).alloc (Obj.cells #[.int .i64 x.a, .int .i64 x.b, .int .i64 0, .int .i64 x.t] 68) := ⟨_, rfl⟩
  have h01 : Below w.heap.size w W1 := by rw [hW1]; exact Below.alloc (Below.alloc (Below.refl _ _) (Nat.le_refl _) _) (by simp) _
  have H1 := Lib.hid (show Trms W1 (.slice (some ⟨w.heap.size + 1, 0, none⟩) 1 1) [⟨x.a, x.b, 0, x.t⟩] ∧ Below w.heap.size w W1 from
    ⟨one_trms (by rw [hW1]; refine ⟨?_, ?_, ?_, ?_⟩ <;> simp [go_sem]) (by rw [hW1]; simp), h01⟩)
  have HW1 := Lib.hid hW1
  clear hcn ho h01 hW1 hf
  go_enter Try.func82, Try.ntmps82
  go_wp2_with fail
  rw [← HW1.out]
  clear HW1
  generalize (Value.slice (some ⟨w.heap.size + 1, 0, none⟩) 1 1) = vp0 at H1 ⊢
  rw [← hxn]
  clear hxn
  go_loopw [11, 23] (fun u i wr => ∃ (vp : Value) (m : Nat) (q : List Trm), vp = u ∧ m ≤ c ∧ i = .int .i64 m ∧ partK p M [⟨x.a, x.b, 0, x.t⟩] m = some q ∧ Trms wr vp q ∧ Below w.heap.size w wr) (fun _ i _ => c - (intOf i).toNat)
  case atStart => exact ⟨_, 0, _, rfl, by omega, rfl, rfl, H1.out⟩
  case round =>
    clear H1
    obtain ⟨vp, m, q, rfl, hm, rfl, hpk, hT, hb⟩ := hrel
    by_cases hmt : m < c
    · have hmtp : (m : Int) < (c : Int) := by omega
      have HMUL := Lib.hid (iMulPoly p vp (.slice a2 M.length cap2) q M wr hT (HM.out.below hb))
      have HPS := Lib.hid (partK_step hpk)
      have Hb := Lib.hid hb
      obtain ⟨_, ap, cp, rfl, _⟩ := hT
      obtain ⟨r, hr⟩ : ∃ r, r = mulOk p q M := ⟨_, rfl⟩
      rw [← hr] at HMUL HPS
      clear hpk hb hr
      go_wp2_with fail
      refine HMUL.out.mono ?_
      rintro e w4 ⟨v4, rfl, hown, hb4⟩
      have H4 := Lib.hid (And.intro hown.trms (Hb.out.trans (hb4.mono Hb.out.size)))
      clear hown hb4
      cases r
      · have hz : o = none := by
          rw [HOE.out]
          have := partK_none HPS.out (c - (m + 1))
          rwa [show m + 1 + (c - (m + 1)) = c by omega] at this
        subst hz
        go_wp2_with fail
        refine bodyPost_ret (v := .tuple #[.slice none 0 0, .bool false]) (by simp [results, Try.results82, go_sem]) rfl ⟨_, rfl, ?_, H4.out.2⟩
        intro q hq
        cases hq
      · rw [if_pos rfl] at HPS
        go_wp2_with fail
        go_roundw
        case rel => exact ⟨_, m + 1, _, rfl, by omega, by go_num, HPS.out, H4.out⟩
        case measure => simp [intOf]; omega
    · have hml : m = c := by omega
      subst hml
      have hz : o = some q := by rw [HOE.out]; exact hpk
      subst hz
      have HQ := Lib.hid (And.intro hT hb)
      clear hpk hT hb
      go_wp2_with fail
      refine bodyPost_ret (v := .tuple #[vp, .bool true]) (by simp [results, Try.results82, go_sem]) rfl ⟨_, rfl, ?_, HQ.out.2⟩
      intro q' hq
      injection hq with hq
      subst hq
      exact HQ.out.1
theorem iSubst (p v : Int) (x : Trm) (gv : Value) (M : List Trm) (w : World) (hv : vB v = true) (hf : (0 ≤ x.a ∧ x.a ≤ 9) ∧ (0 ≤ x.b ∧ x.b ≤ 9) ∧ (0 ≤ x.c ∧ x.c ≤ 9)) (hM : Trms w gv M) :
    Calls Try.prog 82 #[.agg #[.int .i64 x.a, .int .i64 x.b, .int .i64 x.c, .int .i64 x.t], .int .i64 p, .int .i64 v, gv] w (SubTo (partK p M [setp v 0 x] (pwr v x).toNat) w) := by
  rcases vB_cases hv with rfl | rfl | rfl
  · exact iSubst0 p x gv M w hf.1 hM
  · exact iSubst1 p x gv M w hf.2.1 hM
  · exact iSubst2 p x gv M w hf.2.2 hM
set_option maxRecDepth 100000 in
set_option maxHeartbeats 8000000 in
theorem iPut_yes (p v : Int) (a : Option Addr) (cap : Nat) (gv : Value) (L M : List Trm) (w : World) (hv : vB v = true) (hp : isP p = true) (hV : validB p L = true) (hVM : validB p M = true) (hL : Trms w (.slice a L.length cap) L) (hM : Trms w gv M) (R : List Trm) (b : Bool) (hR : R = (sumK p v L M L.length).getD []) (hb : b = (sumK p v L M L.length).isSome) :
    Calls Try.prog 33 #[.int .i64 p, .slice a L.length cap, .int .i64 v, gv] w (GivesPB R b w) := by
  have HB := Lib.hid (iBothAt p (.slice a L.length cap) gv L M w hL hM true (by unfold okB; dsimp only; rw [hp, hV, hVM]; rfl))
  have HV := Lib.hid hV
  have HVB := Lib.hid hv
  have HL := Lib.hid hL
  have HM := Lib.hid hM
  have HRE := Lib.hid hR
  have HBE := Lib.hid hb
  have hl := validB_len hV
  have HIN := Lib.hid (iUnk2 v)
  rw [hv] at HIN
  obtain ⟨_, a2, cap2, rfl, _⟩ := hM
  clear hp hV hVM hL hR hb hv
  go_enter Try.func33, Try.ntmps33
  go_wp2_with fail
  refine HB.out.mono ?_
  rintro e w2 ⟨rfl, hb2⟩
  have HW := Lib.hid (show OwnTrms w2 w.heap.size (.slice none 0 0) [] ∧ Below w.heap.size w w2 from ⟨(Row.nil w2 w.heap.size).own (by simp), hb2⟩)
  clear hb2 HB
  go_wp2_with fail
  refine (HIN.out _).mono ?_
  rintro e w3 ⟨rfl, rfl⟩
  go_wp2_with fail
  go_loopw [10, 28] (fun u i wr => ∃ (vo : Value) (k : Nat) (s : List Trm), vo = u ∧ k ≤ L.length ∧ i = .int .i64 k ∧ sumK p v L M k = some s ∧ OwnTrms wr w.heap.size vo s ∧ Below w.heap.size w wr) (fun _ i _ => L.length - (intOf i).toNat)
  case atStart => exact ⟨_, 0, [], rfl, by omega, rfl, rfl, HW.out⟩
  case round =>
    clear HW
    obtain ⟨vo, k, s, rfl, hk, rfl, hsk, hO, hb⟩ := hrel
    by_cases hlt : k < L.length
    · have hltp : (k : Int) < (L.length : Int) := by omega
      have hk0 : (0 : Int) ≤ (k : Int) := by omega
      obtain ⟨x, hx⟩ : ∃ x, x = L.getD k default := ⟨_, rfl⟩
      have hpw := validB_pows HV.out hlt hx
      obtain ⟨g, off, rfl, hg, hc⟩ : ∃ g off, a = some ⟨g, off, none⟩ ∧ g < w.heap.size ∧ ∀ j : Nat, j < L.length → TAt w g (off + j * 4) (L.getD j default) := by
        obtain ⟨_, a', cap', he, h⟩ := HL.out
        injection he with e1 e2 e3
        subst e1
        rcases h with h | h
        · rw [h] at hlt; simp at hlt
        · exact h
      obtain ⟨b0, b1, b2, b3⟩ := (hc k hlt).below hb hg
      rw [← hx] at b0 b1 b2 b3
      have h01 : Below wr.heap.size wr (wr.alloc (Obj.cells #[.int .i64 x.a, .int .i64 x.b, .int .i64 x.c, .int .i64 x.t] 68)) := Below.alloc (Below.refl _ _) (Nat.le_refl _) _
      have HS := Lib.hid (iSubst p v x (.slice a2 M.length cap2) M (wr.alloc (Obj.cells #[.int .i64 x.a, .int .i64 x.b, .int .i64 x.c, .int .i64 x.t] 68)) HVB.out hpw ((HM.out.below hb).below h01))
      have HX := Lib.hid hx
      obtain ⟨o, ho⟩ : ∃ o, o = partK p M [setp v 0 x] (pwr v x).toNat := ⟨_, rfl⟩
      rw [← ho] at HS
      have HOE := Lib.hid ho
      have HSK := Lib.hid hsk
      have HO := Lib.hid (hO.below h01)
      have Hb := Lib.hid (hb.trans (h01.mono hb.size))
      clear hx hpw hsk hO hb hc ho h01
      go_wp2_with fail
      refine HS.out.mono ?_
      rintro e w4 ⟨v4, rfl, hq4, hb4⟩
      cases o with
      | none =>
        have HN := Lib.hid (show sumK p v L M L.length = none by
          have e := sumK_stop HSK.out (by rw [← HX.out]; exact HOE.out.symm)
          have := sumK_none e (L.length - (k + 1))
          rwa [show k + 1 + (L.length - (k + 1)) = L.length by omega] at this)
        have hz : b = false := by rw [HBE.out, HN.out]; rfl
        have hz2 : R = [] := by rw [HRE.out, HN.out]; rfl
        subst hz hz2
        have HQ := Lib.hid (Hb.out.trans (hb4.mono Hb.out.size))
        clear hq4 hb4
        simp only [Option.isSome]
        go_wp2_with fail
        refine bodyPost_ret (v := .tuple #[.slice none 0 0, .bool false]) (by simp [results, Try.results33, go_sem]) rfl ⟨_, rfl, (Row.nil _ w.heap.size).own (by simp), HQ.out⟩
      | some q =>
        have hT := hq4 q rfl
        have hO4 := HO.out.below hb4
        have HADD := Lib.hid (iAddPoly p vo v4 s q w4 hO4.trms hT)
        have HSS := Lib.hid (sumK_step HSK.out (by rw [← HX.out]; exact HOE.out.symm))
        have H3 := Lib.hid (Hb.out.trans (hb4.mono Hb.out.size))
        obtain ⟨_, ap, cp, rfl, _⟩ := hT
        obtain ⟨_, ao, co, rfl, _⟩ := hO4.trms
        obtain ⟨r, hr⟩ : ∃ r, r = addOk p s q := ⟨_, rfl⟩
        rw [← hr] at HADD HSS
        clear hq4 hb4 hO4 hr
        simp only [Option.isSome]
        go_wp2_with fail
        refine HADD.out.mono ?_
        rintro e w5 ⟨v5, rfl, hown, hb5⟩
        have H4 := Lib.hid (And.intro (ownTrms_mono hown H3.out.size) (H3.out.trans (hb5.mono H3.out.size)))
        clear hown hb5
        cases r
        · have HN := Lib.hid (show sumK p v L M L.length = none by
            have := sumK_none HSS.out (L.length - (k + 1))
            rwa [show k + 1 + (L.length - (k + 1)) = L.length by omega] at this)
          have hz : b = false := by rw [HBE.out, HN.out]; rfl
          have hz2 : R = [] := by rw [HRE.out, HN.out]; rfl
          subst hz hz2
          go_wp2_with fail
          refine bodyPost_ret (v := .tuple #[.slice none 0 0, .bool false]) (by simp [results, Try.results33, go_sem]) rfl ⟨_, rfl, (Row.nil _ w.heap.size).own (by simp), H4.out.2⟩
        · rw [if_pos rfl] at HSS
          go_wp2_with fail
          go_roundw
          case rel => exact ⟨_, k + 1, _, rfl, by omega, by go_num, HSS.out, H4.out⟩
          case measure => simp [intOf]; omega
    · have hkl : k = L.length := by omega
      subst hkl
      have hz : b = true := by rw [HBE.out, hsk]; rfl
      have hz2 : R = s := by rw [HRE.out, hsk]; rfl
      subst hz hz2
      have HQ := Lib.hid (And.intro hO hb)
      clear hO hb hsk
      go_wp2_with fail
      refine bodyPost_ret (v := .tuple #[vo, .bool true]) (by simp [results, Try.results33, go_sem]) rfl ⟨_, rfl, HQ.out⟩
theorem sPutPoly (p v : Int) (f g : Value) (L M : List Trm) (w : World) (hL : Trms w f L) (hM : Trms w g M) : Calls Try.prog 32 #[.int .i64 p, f, .int .i64 v, g] w (GivesPB (putV p L v M) (putOk p L v M) w) := by
  cases h : putC p L v M
  · rw [(putC_no h).1, (putC_no h).2]
    exact sPut_no p v f g L M w hL hM h
  · rw [(putC_yes h).1, (putC_yes h).2]
    simp only [putC, okB, Bool.and_eq_true] at h
    obtain ⟨l0, a, cap, rfl, l1⟩ := hL
    rcases vB_cases h.2 with rfl | rfl | rfl
    · exact sPut_yes0 p a cap g L M w h.1.1.1 h.1.1.2 h.1.2.2 ⟨l0, a, cap, rfl, l1⟩ hM _ _ rfl rfl
    · exact sPut_yes1 p a cap g L M w h.1.1.1 h.1.1.2 h.1.2.2 ⟨l0, a, cap, rfl, l1⟩ hM _ _ rfl rfl
    · exact sPut_yes2 p a cap g L M w h.1.1.1 h.1.1.2 h.1.2.2 ⟨l0, a, cap, rfl, l1⟩ hM _ _ rfl rfl
theorem iPutPoly (p v : Int) (f g : Value) (L M : List Trm) (w : World) (hL : Trms w f L) (hM : Trms w g M) : Calls Try.prog 33 #[.int .i64 p, f, .int .i64 v, g] w (GivesPB (putV p L v M) (putOk p L v M) w) := by
  cases h : putC p L v M
  · rw [(putC_no h).1, (putC_no h).2]
    exact iPut_no p v f g L M w hL hM h
  · rw [(putC_yes h).1, (putC_yes h).2]
    simp only [putC, okB, Bool.and_eq_true] at h
    obtain ⟨l0, a, cap, rfl, l1⟩ := hL
    exact iPut_yes p v a cap g L M w h.2 h.1.1.1 h.1.1.2 h.1.2.2 ⟨l0, a, cap, rfl, l1⟩ hM _ _ rfl rfl
set_option maxRecDepth 100000 in
set_option maxHeartbeats 8000000 in
theorem xPutPoly_in (a0 : Int) (a1 : Option Addr) (L1 : List Trm) (c1 : Nat) (a2 : Int) (a3 : Option Addr) (L3 : List Trm) (c3 : Nat) (r0 : List Trm) (r1 : Bool) (w : World) (h1 : Trms w (.slice a1 L1.length c1) L1) (h3 : Trms w (.slice a3 L3.length c3) L3) (hl : L1.length + L3.length ≤ 1048576)
    (hS : ∀ f1, ∀ f3, ∀ w, Trms w f1 L1 → Trms w f3 L3 → Calls Try.prog 32 #[.int .i64 a0, f1, .int .i64 a2, f3] w fun e w' => ∃ u0, e = .returned (.tuple #[u0, .bool r1]) ∧ OwnTrms w' w.heap.size u0 r0 ∧ Below w.heap.size w w')
    (hI : ∀ f1, ∀ f3, ∀ w, Trms w f1 L1 → Trms w f3 L3 → Calls Try.prog 33 #[.int .i64 a0, f1, .int .i64 a2, f3] w fun e w' => ∃ u0, e = .returned (.tuple #[u0, .bool r1]) ∧ OwnTrms w' w.heap.size u0 r0 ∧ Below w.heap.size w w') :
    Calls Try.prog 6 #[.int .i64 a0, .slice a1 L1.length c1, .int .i64 a2, .slice a3 L3.length c3] w fun e w' => e = .returned (.bool true) ∧ Below w.heap.size w w' := by
  have m1 : (1048576 : Int) - L1.length ≥ 0 := by omega
  have HS1 := Lib.hid (fun w => szP_at a1 L1.length c1 (1048576) w (by omega) (by omega) (by omega))
  have Q1 := Lib.hid h1
  have m3 : (1048576 - L1.length : Int) - L3.length ≥ 0 := by omega
  have HS3 := Lib.hid (fun w => szP_at a3 L3.length c3 (1048576 - L1.length) w (by omega) (by omega) (by omega))
  have Q3 := Lib.hid h3
  have n1 : (L1.length : Int) ≤ 1048576 := by omega
  have n3 : (L3.length : Int) ≤ 1048576 := by omega
  clear h1 h3
  have HSP := Lib.hid hS
  have HIM := Lib.hid hI
  clear hS hI
  have bb1 := bne_self2 r1
  go_enter Try.func6, Try.ntmps6
  go_wp2_with fail
  refine (HS1.out _).mono ?_
  rintro e w' ⟨rfl, rfl⟩
  go_wp2_with fail
  refine (HS3.out _).mono ?_
  rintro e w' ⟨rfl, rfl⟩
  have B := Lib.hid (Below.refl w.heap.size w)
  go_wp2_with fail
  refine (toP _ L1 _ (Q1.out.below B.out)).mono ?_
  rintro e W1 ⟨s1, rfl, ho, hb⟩
  have Z1 := Lib.hid hb.size
  replace B := Lib.hid (B.out.trans (hb.mono B.out.size))
  clear hb
  have S1 := Lib.hid ho.trms
  clear ho
  go_wp2_with fail
  refine (toP _ L3 _ (Q3.out.below B.out)).mono ?_
  rintro e W2 ⟨s3, rfl, ho, hb⟩
  have Z2 := Lib.hid hb.size
  replace B := Lib.hid (B.out.trans (hb.mono B.out.size))
  replace S1 := Lib.hid (S1.out.below hb)
  clear hb
  have S3 := Lib.hid ho.trms
  clear ho
  go_wp2_with fail
  refine (HSP.out _ _ _ S1.out S3.out).mono ?_
  rintro e W3 ⟨v0, rfl, hv0, hb⟩
  have Z3 := Lib.hid hb.size
  replace B := Lib.hid (B.out.trans (hb.mono B.out.size))
  replace S1 := Lib.hid (S1.out.below hb)
  replace S3 := Lib.hid (S3.out.below hb)
  clear hb
  clear S1
  clear S3
  have V0 := Lib.hid hv0.trms
  have z0 : (r0.length : Int) ≤ 1048576 := by have := hv0.1; omega
  clear hv0
  have X := Lib.hid (Below.refl W3.heap.size W3)
  go_wp2_with fail
  refine (toP _ L1 _ (Q1.out.below B.out)).mono ?_
  rintro e W4 ⟨x1, rfl, ho, hb⟩
  have Z4 := Lib.hid hb.size
  replace B := Lib.hid (B.out.trans (hb.mono B.out.size))
  replace X := Lib.hid (X.out.trans (hb.mono X.out.size))
  clear hb
  have O1 := Lib.hid ho
  clear ho
  have Y1 := Lib.hid (Below.refl W4.heap.size W4)
  go_wp2_with fail
  refine (toP _ L3 _ (Q3.out.below B.out)).mono ?_
  rintro e W5 ⟨x3, rfl, ho, hb⟩
  have Z5 := Lib.hid hb.size
  replace B := Lib.hid (B.out.trans (hb.mono B.out.size))
  replace X := Lib.hid (X.out.trans (hb.mono X.out.size))
  replace Y1 := Lib.hid (Y1.out.trans (hb.mono Y1.out.size))
  clear hb
  have O3 := Lib.hid ho
  clear ho
  have Y3 := Lib.hid (Below.refl W5.heap.size W5)
  go_wp2_with fail
  refine (HIM.out _ _ _ (O1.out.trms.below Y1.out) (O3.out.trms.below Y3.out)).mono ?_
  rintro e W6 ⟨g0, rfl, hg0, hb⟩
  have P1 := Lib.hid (show w.heap.size ≤ W3.heap.size ∧ W3.heap.size ≤ W3.heap.size ∧ W4.heap.size ≤ W5.heap.size by have := B.out.size; have := X.out.size; have := Z1.out; have := Z2.out; have := Z3.out; have := Z4.out; have := Z5.out; first | omega | (refine ⟨?_, ?_, ?_⟩ <;> omega))
  have P3 := Lib.hid (show w.heap.size ≤ W4.heap.size ∧ W3.heap.size ≤ W4.heap.size ∧ W5.heap.size ≤ W5.heap.size by have := B.out.size; have := X.out.size; have := Z1.out; have := Z2.out; have := Z3.out; have := Z4.out; have := Z5.out; first | omega | (refine ⟨?_, ?_, ?_⟩ <;> omega))
  have PG := Lib.hid (show w.heap.size ≤ W5.heap.size ∧ W3.heap.size ≤ W5.heap.size by have := Z1.out; have := Z2.out; have := Z3.out; have := Z4.out; have := Z5.out; first | omega | (refine ⟨?_, ?_⟩ <;> omega))
  replace B := Lib.hid (B.out.trans (hb.mono B.out.size))
  replace X := Lib.hid (X.out.trans (hb.mono X.out.size))
  replace Y1 := Lib.hid (Y1.out.trans (hb.mono Y1.out.size))
  replace Y3 := Lib.hid (Y3.out.trans (hb.mono Y3.out.size))
  clear hb
  have G0 := Lib.hid hg0
  clear hg0
  go_wp2_with fail
  refine (eqP g0 v0 r0 _ G0.out.trms (V0.out.below X.out)).mono ?_
  rintro e W7 ⟨rfl, hb⟩
  replace B := Lib.hid (B.out.trans (hb.mono B.out.size))
  replace X := Lib.hid (X.out.trans (hb.mono X.out.size))
  replace Y1 := Lib.hid (Y1.out.trans (hb.mono Y1.out.size))
  replace Y3 := Lib.hid (Y3.out.trans (hb.mono Y3.out.size))
  replace G0 := Lib.hid (G0.out.below hb)
  clear hb
  go_wp2_with fail
  refine (toP _ L1 _ (Q1.out.below B.out)).mono ?_
  rintro e W8 ⟨y1, rfl, ho, hb⟩
  replace B := Lib.hid (B.out.trans (hb.mono B.out.size))
  replace X := Lib.hid (X.out.trans (hb.mono X.out.size))
  replace Y1 := Lib.hid (Y1.out.trans (hb.mono Y1.out.size))
  replace Y3 := Lib.hid (Y3.out.trans (hb.mono Y3.out.size))
  replace G0 := Lib.hid (G0.out.below hb)
  clear hb
  have S1 := Lib.hid ho.trms
  clear ho
  go_wp2_with fail
  refine (eqP x1 y1 L1 _ (O1.out.trms.below Y1.out) S1.out).mono ?_
  rintro e W9 ⟨rfl, hb⟩
  clear S1
  replace B := Lib.hid (B.out.trans (hb.mono B.out.size))
  replace X := Lib.hid (X.out.trans (hb.mono X.out.size))
  replace Y1 := Lib.hid (Y1.out.trans (hb.mono Y1.out.size))
  replace Y3 := Lib.hid (Y3.out.trans (hb.mono Y3.out.size))
  replace G0 := Lib.hid (G0.out.below hb)
  clear hb
  go_wp2_with fail
  refine (toP _ L3 _ (Q3.out.below B.out)).mono ?_
  rintro e W10 ⟨y3, rfl, ho, hb⟩
  replace B := Lib.hid (B.out.trans (hb.mono B.out.size))
  replace X := Lib.hid (X.out.trans (hb.mono X.out.size))
  replace Y1 := Lib.hid (Y1.out.trans (hb.mono Y1.out.size))
  replace Y3 := Lib.hid (Y3.out.trans (hb.mono Y3.out.size))
  replace G0 := Lib.hid (G0.out.below hb)
  clear hb
  have S3 := Lib.hid ho.trms
  clear ho
  go_wp2_with fail
  refine (eqP x3 y3 L3 _ (O3.out.trms.below Y3.out) S3.out).mono ?_
  rintro e W11 ⟨rfl, hb⟩
  clear S3
  replace B := Lib.hid (B.out.trans (hb.mono B.out.size))
  replace X := Lib.hid (X.out.trans (hb.mono X.out.size))
  replace Y1 := Lib.hid (Y1.out.trans (hb.mono Y1.out.size))
  replace Y3 := Lib.hid (Y3.out.trans (hb.mono Y3.out.size))
  replace G0 := Lib.hid (G0.out.below hb)
  clear hb
  go_wp2_with fail
  refine (markTsame x1 L1 _ (1) W4 _ O1.out (same_of Y1.out) (by omega) (by omega)).mono ?_
  rintro e W12 ⟨rfl, hb⟩
  have E1 := Lib.hid hb
  replace B := Lib.hid (B.out.trans (hb.low.mono P1.out.1))
  replace X := Lib.hid (X.out.trans (hb.low.mono P1.out.2.1))
  replace G0 := Lib.hid (G0.out.betw' P1.out.2.2 hb)
  clear hb
  go_wp2_with fail
  refine (markTsame x3 L3 _ (1 + 4 * (L1.length : Int)) W5 _ O3.out ((same_of Y3.out).betw E1.out) (by omega) (by omega)).mono ?_
  rintro e W13 ⟨rfl, hb⟩
  replace B := Lib.hid (B.out.trans (hb.low.mono P3.out.1))
  replace X := Lib.hid (X.out.trans (hb.low.mono P3.out.2.1))
  replace G0 := Lib.hid (G0.out.betw' P3.out.2.2 hb)
  clear hb
  go_wp2_with fail
  refine (eqP g0 v0 r0 _ G0.out.trms (V0.out.below X.out)).mono ?_
  rintro e W14 ⟨rfl, hb⟩
  replace B := Lib.hid (B.out.trans (hb.mono B.out.size))
  replace X := Lib.hid (X.out.trans (hb.mono X.out.size))
  replace G0 := Lib.hid (G0.out.below hb)
  clear hb
  go_wp2_with fail
  refine (markTown g0 r0 _ (1) _ G0.out (by omega) (by omega)).mono ?_
  rintro e W15 ⟨rfl, hh, hb, hs⟩
  replace B := Lib.hid (B.out.trans (hb.mono PG.out.1))
  replace X := Lib.hid (X.out.trans (hb.mono PG.out.2))
  have D0 := Lib.hid hh
  clear hh hb hs
  go_wp2_with fail
  refine (heldTown g0 r0.length _ 1 _ D0.out (by omega) (by omega)).mono ?_
  rintro e W16 ⟨rfl, rfl⟩
  go_wp2_with fail
  refine (toP _ L1 _ (Q1.out.below B.out)).mono ?_
  rintro e W17 ⟨t1, rfl, ho, hb⟩
  replace B := Lib.hid (B.out.trans (hb.mono B.out.size))
  replace X := Lib.hid (X.out.trans (hb.mono X.out.size))
  replace D0 := Lib.hid (D0.out.below hb)
  clear hb
  have S1 := Lib.hid ho.trms
  clear ho
  go_wp2_with fail
  refine (toP _ L3 _ (Q3.out.below B.out)).mono ?_
  rintro e W18 ⟨t3, rfl, ho, hb⟩
  replace B := Lib.hid (B.out.trans (hb.mono B.out.size))
  replace X := Lib.hid (X.out.trans (hb.mono X.out.size))
  replace D0 := Lib.hid (D0.out.below hb)
  replace S1 := Lib.hid (S1.out.below hb)
  clear hb
  have S3 := Lib.hid ho.trms
  clear ho
  go_wp2_with fail
  refine (HIM.out _ _ _ S1.out S3.out).mono ?_
  rintro e W19 ⟨t0, rfl, ht0, hb⟩
  replace B := Lib.hid (B.out.trans (hb.mono B.out.size))
  replace X := Lib.hid (X.out.trans (hb.mono X.out.size))
  replace D0 := Lib.hid (D0.out.below hb)
  replace S1 := Lib.hid (S1.out.below hb)
  replace S3 := Lib.hid (S3.out.below hb)
  clear hb
  clear S1
  clear S3
  have T0 := Lib.hid ht0.trms
  clear ht0
  go_wp2_with fail
  refine (eqP t0 v0 r0 _ T0.out (V0.out.below X.out)).mono ?_
  rintro e W20 ⟨rfl, hb⟩
  replace B := Lib.hid (B.out.trans (hb.mono B.out.size))
  replace X := Lib.hid (X.out.trans (hb.mono X.out.size))
  replace D0 := Lib.hid (D0.out.below hb)
  replace T0 := Lib.hid (T0.out.below hb)
  clear hb
  go_wp2_with fail
  refine (heldTown g0 r0.length _ 1 _ D0.out (by omega) (by omega)).mono ?_
  rintro e W21 ⟨rfl, rfl⟩
  go_wp2_with fail
  go_ret
  exact ⟨rfl, B.out⟩
set_option maxHeartbeats 1000000 in
theorem xPutPoly_long0 (a0 : Int) (a1 : Option Addr) (n1 c1 : Nat) (a2 : Int) (a3 : Option Addr) (n3 c3 : Nat) (w : World) (h1 : 1048576 < n1) (h2 : n1 ≤ 9223372036854775807) :
    Calls Try.prog 6 #[.int .i64 a0, .slice a1 n1 c1, .int .i64 a2, .slice a3 n3 c3] w fun e w' => e = .returned (.bool true) ∧ Below w.heap.size w w' := by
  have HS1 := Lib.hid (fun w => szP_over a1 n1 c1 (1048576) w (by omega) (by omega) (by omega) (by omega))
  clear h1 h2
  go_enter Try.func6, Try.ntmps6
  go_wp2_with fail
  refine (HS1.out _).mono ?_
  rintro e w' ⟨rfl, rfl⟩
  go_wp2_with fail
  go_ret
  exact ⟨rfl, Below.refl _ _⟩
set_option maxHeartbeats 1000000 in
theorem xPutPoly_long1 (a0 : Int) (a1 : Option Addr) (n1 c1 : Nat) (a2 : Int) (a3 : Option Addr) (n3 c3 : Nat) (w : World) (k1 : n1 ≤ 1048576) (h1 : 1048576 < n1 + n3) (h2 : n3 ≤ 9223372036854775807) :
    Calls Try.prog 6 #[.int .i64 a0, .slice a1 n1 c1, .int .i64 a2, .slice a3 n3 c3] w fun e w' => e = .returned (.bool true) ∧ Below w.heap.size w w' := by
  have m1 : (1048576 : Int) - n1 ≥ 0 := by omega
  have HS1 := Lib.hid (fun w => szP_at a1 n1 c1 (1048576) w (by omega) (by omega) (by omega))
  have HS3 := Lib.hid (fun w => szP_over a3 n3 c3 (1048576 - n1) w (by omega) (by omega) (by omega) (by omega))
  clear h1 h2
  go_enter Try.func6, Try.ntmps6
  go_wp2_with fail
  refine (HS1.out _).mono ?_
  rintro e w' ⟨rfl, rfl⟩
  go_wp2_with fail
  refine (HS3.out _).mono ?_
  rintro e w' ⟨rfl, rfl⟩
  go_wp2_with fail
  go_ret
  exact ⟨rfl, Below.refl _ _⟩
theorem xPutPoly (p : Int) (a : Option Addr) (len cap : Nat) (L : List Trm) (v : Int) (a' : Option Addr) (len' cap' : Nat) (M : List Trm) (w : World) (h : RowT w a len L) (h' : RowT w a' len' M) :
    Calls Try.prog 6 #[.int .i64 p, .slice a len cap, .int .i64 v, .slice a' len' cap'] w fun e w' => e = .returned (.bool true) ∧ Below w.heap.size w w' := by
  by_cases hl : len ≤ 1048576
  · by_cases hl' : len + len' ≤ 1048576
    · have e1 := h.1
      have e2 := h'.1
      subst e1 e2
      exact xPutPoly_in p a L cap v a' M cap' (putV p L v M) (putOk p L v M) w (h.trms hl) (h'.trms (by omega)) hl' (fun f d w hf hd => sPutPoly p v f d L M w hf hd) (fun f d w hf hd => iPutPoly p v f d L M w hf hd)
    · exact xPutPoly_long1 p a len cap v a' len' cap' w hl (by omega) h'.2.1
  · exact xPutPoly_long0 p a len cap v a' len' cap' w (by omega) h.2.1
end Go.Proofs.Ytiahcaihmgnicaa
