/-
  PutPoly, of the model and of the program, and the walk of its exact law (with the products that it is made of). Conditions: none but that the slices read as lists of terms.
  The walk of the exact law of MakePoly, with the laws' own helpers at slices of terms. Conditions: none but that the slice reads as a list of terms.
-/
import Derived.Test.YtlidplmpglpkgaaBa27
namespace Go.Proofs.Ytlidplmpglpkgaa
open Go.RowKit
/-- the power of an unknown in a term -/
def pwr (v : Int) (x : Trm) : Int := if v = 0 then x.a else if v = 1 then x.b else x.c
def setp (v m : Int) (x : Trm) : Trm := if v = 0 then ⟨m, x.b, x.c, x.t⟩ else if v = 1 then ⟨x.a, m, x.c, x.t⟩ else ⟨x.a, x.b, m, x.t⟩
def vB (v : Int) : Bool := decide (0 ≤ v) && decide (v ≤ 2)
theorem vB_cases {v : Int} (h : vB v = true) : v = 0 ∨ v = 1 ∨ v = 2 := by simp [vB] at h; omega
theorem iUnk2 (v : Int) (w : World) : Calls Try.prog 128 #[.int .i64 v] w fun e w' => e = .returned (.bool (vB v)) ∧ w = w' := by
  unfold vB
  by_cases h0 : 0 ≤ v
  · have hb : decide (v < 3) = decide (v ≤ 2) := by by_cases h : v < 3 <;> simp <;> omega
    rw [decide_eq_true h0, Bool.true_and, ← hb]
    clear hb
    go_enter Try.func128, Try.ntmps128
    go_wp2_with fail
    go_ret
    exact ⟨rfl, rfl⟩
  · rw [decide_eq_false h0, Bool.false_and]
    go_enter Try.func128, Try.ntmps128
    go_wp2_with fail
    go_ret
    exact ⟨rfl, rfl⟩
/-- a polynomial times another one, some times -/
def partU (p : Int) (M P0 : List Trm) : Nat → Option (List Trm)
  | 0 => some P0
  | k + 1 => match partU p M P0 k with
    | none => none
    | some P => if mulOk p P M = true then some (mulL p P M) else none
/-- the sum of what the first terms become -/
def sumK (p v : Int) (L M : List Trm) : Nat → Option (List Trm)
  | 0 => some []
  | k + 1 => match sumK p v L M k with
    | none => none
    | some s => match partU p M [setp v 0 (L.getD k default)] (pwr v (L.getD k default)).toNat with
      | none => none
      | some q => if addOk p s q = true then some (sumV p s q) else none
theorem partU_none {p : Int} {M P0 : List Trm} {k : Nat} (h : partU p M P0 k = none) : ∀ d, partU p M P0 (k + d) = none
  | 0 => h
  | d + 1 => by show (match partU p M P0 (k + d) with | none => none | some P => _) = none; rw [partU_none h d]
theorem sumK_none {p v : Int} {L M : List Trm} {k : Nat} (h : sumK p v L M k = none) : ∀ d, sumK p v L M (k + d) = none
  | 0 => h
  | d + 1 => by show (match sumK p v L M (k + d) with | none => none | some P => _) = none; rw [sumK_none h d]
theorem partU_step {p : Int} {M P0 P : List Trm} {k : Nat} (h : partU p M P0 k = some P) : partU p M P0 (k + 1) = if mulOk p P M = true then some (mulL p P M) else none := by
  show (match partU p M P0 k with | none => none | some P => _) = _
  rw [h]
theorem sumK_step {p v : Int} {L M s q : List Trm} {k : Nat} (h : sumK p v L M k = some s) (h2 : partU p M [setp v 0 (L.getD k default)] (pwr v (L.getD k default)).toNat = some q) : sumK p v L M (k + 1) = if addOk p s q = true then some (sumV p s q) else none := by
  show (match sumK p v L M k with | none => none | some s => _) = _
  rw [h]
  simp only [h2]
theorem sumK_stop {p v : Int} {L M s : List Trm} {k : Nat} (h : sumK p v L M k = some s) (h2 : partU p M [setp v 0 (L.getD k default)] (pwr v (L.getD k default)).toNat = none) : sumK p v L M (k + 1) = none := by
  show (match sumK p v L M k with | none => none | some s => _) = _
  rw [h]
  simp only [h2]
def putC (p : Int) (L : List Trm) (v : Int) (M : List Trm) : Bool := (okB p (default, L) && okB p (default, M)) && vB v
def putOk (p : Int) (L : List Trm) (v : Int) (M : List Trm) : Bool := putC p L v M && (sumK p v L M L.length).isSome
def putV (p : Int) (L : List Trm) (v : Int) (M : List Trm) : List Trm := if putC p L v M = true then (sumK p v L M L.length).getD [] else []
theorem putC_no {p v : Int} {L M : List Trm} (h : putC p L v M = false) : putOk p L v M = false ∧ putV p L v M = [] := by
  exact ⟨by unfold putOk; rw [h]; rfl, by unfold putV; rw [h]; rfl⟩
theorem putC_yes {p v : Int} {L M : List Trm} (h : putC p L v M = true) : putOk p L v M = (sumK p v L M L.length).isSome ∧ putV p L v M = (sumK p v L M L.length).getD [] := by
  exact ⟨by unfold putOk; rw [h, Bool.true_and], by unfold putV; rw [h]; rfl⟩
theorem one_trms {w : World} {n : Nat} {x : Trm} (h : TAt w n 0 x) (hs : n < w.heap.size) : Trms w (.slice (some ⟨n, 0, none⟩) 1 1) [x] := by
  refine ⟨by simp, _, _, rfl, .inr ⟨n, 0, rfl, hs, fun j hj => ?_⟩⟩
  have : j = 0 := by simpa using hj
  subst this
  simpa using h
set_option maxRecDepth 100000 in
set_option maxHeartbeats 8000000 in
theorem sPut_yes0 (p : Int) (a : Option Addr) (cap : Nat) (gv : Value) (L M : List Trm) (w : World) (hp : isP p = true) (hV : validB p L = true) (hVM : validB p M = true) (hL : Trms w (.slice a L.length cap) L) (hM : Trms w gv M) (R : List Trm) (b : Bool) (hR : R = (sumK p 0 L M L.length).getD []) (hb : b = (sumK p 0 L M L.length).isSome) :
    Calls Try.prog 170 #[.int .i64 p, .slice a L.length cap, .int .i64 0, gv] w (GivesPB R b w) := by
  have HB := Lib.hid (bothAt p (.slice a L.length cap) gv L M w hL hM true (by unfold okB; dsimp only; rw [hp, hV, hVM]; rfl))
  have HV := Lib.hid hV
  have HL := Lib.hid hL
  have HM := Lib.hid hM
  have HRE := Lib.hid hR
  have HBE := Lib.hid hb
  have hl := validB_len hV
  have HIN := Lib.hid (sIn 0 0 2)
  rw [show (decide ((0 : Int) ≤ 0) && decide ((0 : Int) ≤ 2)) = true by decide] at HIN
  obtain ⟨_, a2, cap2, rfl, _⟩ := hM
  clear hp hV hVM hL hR hb
  go_enter Try.func170, Try.ntmps170
  go_wp2_with fail
  refine HB.out.mono ?_
  rintro e w2 ⟨rfl, hb2⟩
  have HB2 := Lib.hid hb2
  clear hb2 HB
  go_wp2_with fail
  refine (HIN.out _).mono ?_
  rintro e w3 ⟨rfl, rfl⟩
  go_wp2_with fail
  obtain ⟨W, hW⟩ : ∃ W, W = w2.alloc (Obj.cells #[] 87) := ⟨_, rfl⟩
  have HW := Lib.hid (show OwnTrms W w.heap.size (.slice (some ⟨w2.heap.size, 0, none⟩) 0 0) [] ∧ Below w.heap.size w W by
    rw [hW]
    exact ⟨(Row.lit0 w2 w.heap.size HB2.out.size).own (by simp), Below.alloc HB2.out HB2.out.size _⟩)
  rw [← hW]
  generalize (Value.slice (some ⟨w2.heap.size, 0, none⟩) 0 0) = vo0 at HW ⊢
  clear hW
  go_loopw [10, 34] (fun u i wr => ∃ (vo : Value) (k : Nat) (s : List Trm), vo = u ∧ k ≤ L.length ∧ i = .int .i64 k ∧ sumK p 0 L M k = some s ∧ OwnTrms wr w.heap.size vo s ∧ Below w.heap.size w wr) (fun _ i _ => L.length - (intOf i).toNat)
  case atStart => exact ⟨_, 0, [], rfl, by omega, rfl, rfl, HW.out⟩
  case round =>
    clear HW
    obtain ⟨vo, k, s, rfl, hk, rfl, hsk, hO, hb⟩ := hrel
    by_cases hlt : k < L.length
    · have hltp : (k : Int) < (L.length : Int) := by omega
      have hk0 : (0 : Int) ≤ (k : Int) := by omega
      obtain ⟨x, hx⟩ : ∃ x, x = L.getD k default := ⟨_, rfl⟩
      obtain ⟨ha, hbb, hcc⟩ := validB_pows HV.out hlt hx
      have hxn : (x.a.toNat : Int) = x.a := by omega
      obtain ⟨c, hcn⟩ : ∃ c, c = x.a.toNat := ⟨_, rfl⟩
      have hc9 : c ≤ 9 := by omega
      rw [← hcn] at hxn
      obtain ⟨g, off, rfl, hg, hc⟩ : ∃ g off, a = some ⟨g, off, none⟩ ∧ g < w.heap.size ∧ ∀ j : Nat, j < L.length → TAt w g (off + j * 4) (L.getD j default) := by
        obtain ⟨_, a', cap', he, h⟩ := HL.out
        injection he with e1 e2 e3
        subst e1
        rcases h with h | h
        · rw [h] at hlt; simp at hlt
        · exact h
      obtain ⟨b0, b1, b2, b3⟩ := (hc k hlt).below hb hg
      rw [← hx] at b0 b1 b2 b3
      have HX := Lib.hid (show setp 0 0 (L.getD k default) = ⟨0, x.b, x.c, x.t⟩ ∧ (pwr 0 (L.getD k default)).toNat = c by rw [← hx, hcn]; exact ⟨rfl, rfl⟩)
      obtain ⟨W1, hW1⟩ : ∃ W1, W1 = (wr.alloc (Obj.cells #[.int .i64 0, .int .i64 x.b, .int .i64 x.c, .int .i64 x.t] 87)).alloc (Obj.cells #[.int .i64 0, .int .i64 x.b, .int .i64 x.c, .int .i64 x.t] 87) := ⟨_, rfl⟩
      have h01 : Below wr.heap.size wr W1 := by rw [hW1]; exact Below.alloc (Below.alloc (Below.refl _ _) (Nat.le_refl _) _) (by simp) _
      have H1 := Lib.hid (show Trms W1 (.slice (some ⟨wr.heap.size + 1, 0, none⟩) 1 1) [⟨0, x.b, x.c, x.t⟩] ∧ OwnTrms W1 w.heap.size vo s ∧ Below w.heap.size w W1 from
        ⟨one_trms (by rw [hW1]; refine ⟨?_, ?_, ?_, ?_⟩ <;> simp [go_sem]) (by rw [hW1]; simp), hO.below h01, hb.trans (h01.mono hb.size)⟩)
      have HW1 := Lib.hid hW1
      have HSK := Lib.hid hsk
      clear hx hsk hO hb hc hcn h01 hW1 ha hbb hcc
      go_wp2_with fail
      rw [← HW1.out]
      clear HW1 b0 b1 b2 b3
      generalize (Value.slice (some ⟨wr.heap.size + 1, 0, none⟩) 1 1) = vp0 at H1 ⊢
      rw [← hxn]
      clear hxn
      go_loopw [14, 48] (fun u i wr => ∃ (vp : Value) (m : Nat) (q : List Trm), vp = u ∧ m ≤ c ∧ i = .int .i64 m ∧ partU p M [⟨0, x.b, x.c, x.t⟩] m = some q ∧ Trms wr vp q ∧ OwnTrms wr w.heap.size vo s ∧ Below w.heap.size w wr) (fun _ i _ => c - (intOf i).toNat)
      case atStart => exact ⟨_, 0, _, rfl, by omega, rfl, rfl, H1.out⟩
      case round =>
        clear H1
        obtain ⟨vp, m, q, rfl, hm, rfl, hpk, hT, hO, hb⟩ := hrel
        by_cases hmt : m < c
        · have hmtp : (m : Int) < (c : Int) := by omega
          have HMUL := Lib.hid (sMulPoly p vp (.slice a2 M.length cap2) q M wr hT (HM.out.below hb))
          have HPS := Lib.hid (partU_step hpk)
          have HO := Lib.hid hO
          have Hb := Lib.hid hb
          obtain ⟨_, ap, cp, rfl, _⟩ := hT
          obtain ⟨r, hr⟩ : ∃ r, r = mulOk p q M := ⟨_, rfl⟩
          rw [← hr] at HMUL HPS
          clear hpk hO hb hr
          go_wp2_with fail
          refine HMUL.out.mono ?_
          rintro e w4 ⟨v4, rfl, hown, hb4⟩
          have H4 := Lib.hid (And.intro hown.trms (And.intro (HO.out.below hb4) (Hb.out.trans (hb4.mono Hb.out.size))))
          clear hown hb4
          cases r
          · have HN := Lib.hid (show sumK p 0 L M L.length = none by
              have e := sumK_stop HSK.out (by rw [HX.out.1, HX.out.2]; have := partU_none HPS.out (c - (m + 1)); rwa [show m + 1 + (c - (m + 1)) = c by omega] at this)
              have := sumK_none e (L.length - (k + 1))
              rwa [show k + 1 + (L.length - (k + 1)) = L.length by omega] at this)
            have hz : b = false := by rw [HBE.out, HN.out]; rfl
            have hz2 : R = [] := by rw [HRE.out, HN.out]; rfl
            subst hz hz2
            go_wp2_with fail
            refine bodyPost_ret (v := .tuple #[.slice (some ⟨w4.heap.size, 0, none⟩) 0 0, .bool false]) (by simp [results, Try.results170, go_sem]) rfl ⟨_, rfl, (Row.lit0 w4 w.heap.size H4.out.2.2.size).own (by simp), Below.alloc H4.out.2.2 H4.out.2.2.size _⟩
          · rw [if_pos rfl] at HPS
            go_wp2_with fail
            go_roundw
            case rel => exact ⟨_, m + 1, _, rfl, by omega, by go_num, HPS.out, H4.out⟩
            case measure => simp [intOf]; omega
        · have hml : m = c := by omega
          subst hml
          have HADD := Lib.hid (sAddPoly p vo vp s q wr hO.trms hT)
          have HSS := Lib.hid (sumK_step HSK.out (by rw [HX.out.1, HX.out.2]; exact hpk))
          have Hb := Lib.hid hb
          obtain ⟨_, ap, cp, rfl, _⟩ := hT
          obtain ⟨_, ao, co, rfl, _⟩ := hO.trms
          obtain ⟨r, hr⟩ : ∃ r, r = addOk p s q := ⟨_, rfl⟩
          rw [← hr] at HADD HSS
          clear hpk hO hb hr
          go_wp2_with fail
          refine HADD.out.mono ?_
          rintro e w4 ⟨v4, rfl, hown, hb4⟩
          have H4 := Lib.hid (And.intro (ownTrms_mono hown Hb.out.size) (Hb.out.trans (hb4.mono Hb.out.size)))
          clear hown hb4
          cases r
          · have HN := Lib.hid (show sumK p 0 L M L.length = none by
              have := sumK_none HSS.out (L.length - (k + 1))
              rwa [show k + 1 + (L.length - (k + 1)) = L.length by omega] at this)
            have hz : b = false := by rw [HBE.out, HN.out]; rfl
            have hz2 : R = [] := by rw [HRE.out, HN.out]; rfl
            subst hz hz2
            go_wp2_with fail
            refine bodyPost_ret (v := .tuple #[.slice (some ⟨w4.heap.size, 0, none⟩) 0 0, .bool false]) (by simp [results, Try.results170, go_sem]) rfl ⟨_, rfl, (Row.lit0 w4 w.heap.size H4.out.2.size).own (by simp), Below.alloc H4.out.2 H4.out.2.size _⟩
          · rw [if_pos rfl] at HSS
            go_wp2_with fail
            go_roundw
            case rel => exact ⟨_, k + 1, _, rfl, by omega, by go_num, HSS.out, H4.out⟩
            case measure => simp [intOf]; omega
    · have hkl : k = L.length := by omega
      subst hkl
      have hz : b = true := by rw [HBE.out, hsk]; rfl
      have hz2 : R = s := by rw [HRE.out, hsk]; rfl
      subst hz hz2
      have HQ := Lib.hid (And.intro hO hb)
      clear hO hb hsk
      go_wp2_with fail
      refine bodyPost_ret (v := .tuple #[vo, .bool true]) (by simp [results, Try.results170, go_sem]) rfl ⟨_, rfl, HQ.out⟩
set_option maxRecDepth 100000 in
set_option maxHeartbeats 8000000 in
theorem sPut_yes1 (p : Int) (a : Option Addr) (cap : Nat) (gv : Value) (L M : List Trm) (w : World) (hp : isP p = true) (hV : validB p L = true) (hVM : validB p M = true) (hL : Trms w (.slice a L.length cap) L) (hM : Trms w gv M) (R : List Trm) (b : Bool) (hR : R = (sumK p 1 L M L.length).getD []) (hb : b = (sumK p 1 L M L.length).isSome) :
    Calls Try.prog 170 #[.int .i64 p, .slice a L.length cap, .int .i64 1, gv] w (GivesPB R b w) := by
  have HB := Lib.hid (bothAt p (.slice a L.length cap) gv L M w hL hM true (by unfold okB; dsimp only; rw [hp, hV, hVM]; rfl))
  have HV := Lib.hid hV
  have HL := Lib.hid hL
  have HM := Lib.hid hM
  have HRE := Lib.hid hR
  have HBE := Lib.hid hb
  have hl := validB_len hV
  have HIN := Lib.hid (sIn 1 0 2)
  rw [show (decide ((0 : Int) ≤ 1) && decide ((1 : Int) ≤ 2)) = true by decide] at HIN
  obtain ⟨_, a2, cap2, rfl, _⟩ := hM
  clear hp hV hVM hL hR hb
  go_enter Try.func170, Try.ntmps170
  go_wp2_with fail
  refine HB.out.mono ?_
  rintro e w2 ⟨rfl, hb2⟩
  have HB2 := Lib.hid hb2
  clear hb2 HB
  go_wp2_with fail
  refine (HIN.out _).mono ?_
  rintro e w3 ⟨rfl, rfl⟩
  go_wp2_with fail
  obtain ⟨W, hW⟩ : ∃ W, W = w2.alloc (Obj.cells #[] 87) := ⟨_, rfl⟩
  have HW := Lib.hid (show OwnTrms W w.heap.size (.slice (some ⟨w2.heap.size, 0, none⟩) 0 0) [] ∧ Below w.heap.size w W by
    rw [hW]
    exact ⟨(Row.lit0 w2 w.heap.size HB2.out.size).own (by simp), Below.alloc HB2.out HB2.out.size _⟩)
  rw [← hW]
  generalize (Value.slice (some ⟨w2.heap.size, 0, none⟩) 0 0) = vo0 at HW ⊢
  clear hW
  go_loopw [10, 34] (fun u i wr => ∃ (vo : Value) (k : Nat) (s : List Trm), vo = u ∧ k ≤ L.length ∧ i = .int .i64 k ∧ sumK p 1 L M k = some s ∧ OwnTrms wr w.heap.size vo s ∧ Below w.heap.size w wr) (fun _ i _ => L.length - (intOf i).toNat)
  case atStart => exact ⟨_, 0, [], rfl, by omega, rfl, rfl, HW.out⟩
  case round =>
    clear HW
    obtain ⟨vo, k, s, rfl, hk, rfl, hsk, hO, hb⟩ := hrel
    by_cases hlt : k < L.length
    · have hltp : (k : Int) < (L.length : Int) := by omega
      have hk0 : (0 : Int) ≤ (k : Int) := by omega
      obtain ⟨x, hx⟩ : ∃ x, x = L.getD k default := ⟨_, rfl⟩
      obtain ⟨ha, hbb, hcc⟩ := validB_pows HV.out hlt hx
      have hxn : (x.b.toNat : Int) = x.b := by omega
      obtain ⟨c, hcn⟩ : ∃ c, c = x.b.toNat := ⟨_, rfl⟩
      have hc9 : c ≤ 9 := by omega
      rw [← hcn] at hxn
      obtain ⟨g, off, rfl, hg, hc⟩ : ∃ g off, a = some ⟨g, off, none⟩ ∧ g < w.heap.size ∧ ∀ j : Nat, j < L.length → TAt w g (off + j * 4) (L.getD j default) := by
        obtain ⟨_, a', cap', he, h⟩ := HL.out
        injection he with e1 e2 e3
        subst e1
        rcases h with h | h
        · rw [h] at hlt; simp at hlt
        · exact h
      obtain ⟨b0, b1, b2, b3⟩ := (hc k hlt).below hb hg
      rw [← hx] at b0 b1 b2 b3
      have HX := Lib.hid (show setp 1 0 (L.getD k default) = ⟨x.a, 0, x.c, x.t⟩ ∧ (pwr 1 (L.getD k default)).toNat = c by rw [← hx, hcn]; exact ⟨rfl, rfl⟩)
      obtain ⟨W1, hW1⟩ : ∃ W1, W1 = (wr.alloc (Obj.cells #[.int .i64 x.a, .int .i64 0, .int .i64 x.c, .int .i64 x.t] 87)).alloc (Obj.cells #[.int .i64 x.a, .int .i64 0, .int .i64 x.c, .int .i64 x.t] 87) := ⟨_, rfl⟩
      have h01 : Below wr.heap.size wr W1 := by rw [hW1]; exact Below.alloc (Below.alloc (Below.refl _ _) (Nat.le_refl _) _) (by simp) _
      have H1 := Lib.hid (show Trms W1 (.slice (some ⟨wr.heap.size + 1, 0, none⟩) 1 1) [⟨x.a, 0, x.c, x.t⟩] ∧ OwnTrms W1 w.heap.size vo s ∧ Below w.heap.size w W1 from
        ⟨one_trms (by rw [hW1]; refine ⟨?_, ?_, ?_, ?_⟩ <;> simp [go_sem]) (by rw [hW1]; simp), hO.below h01, hb.trans (h01.mono hb.size)⟩)
      have HW1 := Lib.hid hW1
      have HSK := Lib.hid hsk
      clear hx hsk hO hb hc hcn h01 hW1 ha hbb hcc
      go_wp2_with fail
      rw [← HW1.out]
      clear HW1 b0 b1 b2 b3
      generalize (Value.slice (some ⟨wr.heap.size + 1, 0, none⟩) 1 1) = vp0 at H1 ⊢
      rw [← hxn]
      clear hxn
      go_loopw [14, 48] (fun u i wr => ∃ (vp : Value) (m : Nat) (q : List Trm), vp = u ∧ m ≤ c ∧ i = .int .i64 m ∧ partU p M [⟨x.a, 0, x.c, x.t⟩] m = some q ∧ Trms wr vp q ∧ OwnTrms wr w.heap.size vo s ∧ Below w.heap.size w wr) (fun _ i _ => c - (intOf i).toNat)
      case atStart => exact ⟨_, 0, _, rfl, by omega, rfl, rfl, H1.out⟩
      case round =>
        clear H1
        obtain ⟨vp, m, q, rfl, hm, rfl, hpk, hT, hO, hb⟩ := hrel
        by_cases hmt : m < c
        · have hmtp : (m : Int) < (c : Int) := by omega
          have HMUL := Lib.hid (sMulPoly p vp (.slice a2 M.length cap2) q M wr hT (HM.out.below hb))
          have HPS := Lib.hid (partU_step hpk)
          have HO := Lib.hid hO
          have Hb := Lib.hid hb
          obtain ⟨_, ap, cp, rfl, _⟩ := hT
          obtain ⟨r, hr⟩ : ∃ r, r = mulOk p q M := ⟨_, rfl⟩
          rw [← hr] at HMUL HPS
          clear hpk hO hb hr
          go_wp2_with fail
          refine HMUL.out.mono ?_
          rintro e w4 ⟨v4, rfl, hown, hb4⟩
          have H4 := Lib.hid (And.intro hown.trms (And.intro (HO.out.below hb4) (Hb.out.trans (hb4.mono Hb.out.size))))
          clear hown hb4
          cases r
          · have HN := Lib.hid (show sumK p 1 L M L.length = none by
              have e := sumK_stop HSK.out (by rw [HX.out.1, HX.out.2]; have := partU_none HPS.out (c - (m + 1)); rwa [show m + 1 + (c - (m + 1)) = c by omega] at this)
              have := sumK_none e (L.length - (k + 1))
              rwa [show k + 1 + (L.length - (k + 1)) = L.length by omega] at this)
            have hz : b = false := by rw [HBE.out, HN.out]; rfl
            have hz2 : R = [] := by rw [HRE.out, HN.out]; rfl
            subst hz hz2
            go_wp2_with fail
            refine bodyPost_ret (v := .tuple #[.slice (some ⟨w4.heap.size, 0, none⟩) 0 0, .bool false]) (by simp [results, Try.results170, go_sem]) rfl ⟨_, rfl, (Row.lit0 w4 w.heap.size H4.out.2.2.size).own (by simp), Below.alloc H4.out.2.2 H4.out.2.2.size _⟩
          · rw [if_pos rfl] at HPS
            go_wp2_with fail
            go_roundw
            case rel => exact ⟨_, m + 1, _, rfl, by omega, by go_num, HPS.out, H4.out⟩
            case measure => simp [intOf]; omega
        · have hml : m = c := by omega
          subst hml
          have HADD := Lib.hid (sAddPoly p vo vp s q wr hO.trms hT)
          have HSS := Lib.hid (sumK_step HSK.out (by rw [HX.out.1, HX.out.2]; exact hpk))
          have Hb := Lib.hid hb
          obtain ⟨_, ap, cp, rfl, _⟩ := hT
          obtain ⟨_, ao, co, rfl, _⟩ := hO.trms
          obtain ⟨r, hr⟩ : ∃ r, r = addOk p s q := ⟨_, rfl⟩
          rw [← hr] at HADD HSS
          clear hpk hO hb hr
          go_wp2_with fail
          refine HADD.out.mono ?_
          rintro e w4 ⟨v4, rfl, hown, hb4⟩
          have H4 := Lib.hid (And.intro (ownTrms_mono hown Hb.out.size) (Hb.out.trans (hb4.mono Hb.out.size)))
          clear hown hb4
          cases r
          · have HN := Lib.hid (show sumK p 1 L M L.length = none by
              have := sumK_none HSS.out (L.length - (k + 1))
              rwa [show k + 1 + (L.length - (k + 1)) = L.length by omega] at this)
            have hz : b = false := by rw [HBE.out, HN.out]; rfl
            have hz2 : R = [] := by rw [HRE.out, HN.out]; rfl
            subst hz hz2
            go_wp2_with fail
            refine bodyPost_ret (v := .tuple #[.slice (some ⟨w4.heap.size, 0, none⟩) 0 0, .bool false]) (by simp [results, Try.results170, go_sem]) rfl ⟨_, rfl, (Row.lit0 w4 w.heap.size H4.out.2.size).own (by simp), Below.alloc H4.out.2 H4.out.2.size _⟩
          · rw [if_pos rfl] at HSS
            go_wp2_with fail
            go_roundw
            case rel => exact ⟨_, k + 1, _, rfl, by omega, by go_num, HSS.out, H4.out⟩
            case measure => simp [intOf]; omega
    · have hkl : k = L.length := by omega
      subst hkl
      have hz : b = true := by rw [HBE.out, hsk]; rfl
      have hz2 : R = s := by rw [HRE.out, hsk]; rfl
      subst hz hz2
      have HQ := Lib.hid (And.intro hO hb)
      clear hO hb hsk
      go_wp2_with fail
      refine bodyPost_ret (v := .tuple #[vo, .bool true]) (by simp [results, Try.results170, go_sem]) rfl ⟨_, rfl, HQ.out⟩
set_option maxRecDepth 100000 in
set_option maxHeartbeats 8000000 in
theorem sPut_yes2 (p : Int) (a : Option Addr) (cap : Nat) (gv : Value) (L M : List Trm) (w : World) (hp : isP p = true) (hV : validB p L = true) (hVM : validB p M = true) (hL : Trms w (.slice a L.length cap) L) (hM : Trms w gv M) (R : List Trm) (b : Bool) (hR : R = (sumK p 2 L M L.length).getD []) (hb : b = (sumK p 2 L M L.length).isSome) :
    Calls Try.prog 170 #[.int .i64 p, .slice a L.length cap, .int .i64 2, gv] w (GivesPB R b w) := by
  have HB := Lib.hid (bothAt p (.slice a L.length cap) gv L M w hL hM true (by unfold okB; dsimp only; rw [hp, hV, hVM]; rfl))
  have HV := Lib.hid hV
  have HL := Lib.hid hL
  have HM := Lib.hid hM
  have HRE := Lib.hid hR
  have HBE := Lib.hid hb
  have hl := validB_len hV
  have HIN := Lib.hid (sIn 2 0 2)
  rw [show (decide ((0 : Int) ≤ 2) && decide ((2 : Int) ≤ 2)) = true by decide] at HIN
  obtain ⟨_, a2, cap2, rfl, _⟩ := hM
  clear hp hV hVM hL hR hb
  go_enter Try.func170, Try.ntmps170
  go_wp2_with fail
  refine HB.out.mono ?_
  rintro e w2 ⟨rfl, hb2⟩
  have HB2 := Lib.hid hb2
  clear hb2 HB
  go_wp2_with fail
  refine (HIN.out _).mono ?_
  rintro e w3 ⟨rfl, rfl⟩
  go_wp2_with fail
  obtain ⟨W, hW⟩ : ∃ W, W = w2.alloc (Obj.cells #[] 87) := ⟨_, rfl⟩
  have HW := Lib.hid (show OwnTrms W w.heap.size (.slice (some ⟨w2.heap.size, 0, none⟩) 0 0) [] ∧ Below w.heap.size w W by
    rw [hW]
    exact ⟨(Row.lit0 w2 w.heap.size HB2.out.size).own (by simp), Below.alloc HB2.out HB2.out.size _⟩)
  rw [← hW]
  generalize (Value.slice (some ⟨w2.heap.size, 0, none⟩) 0 0) = vo0 at HW ⊢
  clear hW
  go_loopw [10, 34] (fun u i wr => ∃ (vo : Value) (k : Nat) (s : List Trm), vo = u ∧ k ≤ L.length ∧ i = .int .i64 k ∧ sumK p 2 L M k = some s ∧ OwnTrms wr w.heap.size vo s ∧ Below w.heap.size w wr) (fun _ i _ => L.length - (intOf i).toNat)
  case atStart => exact ⟨_, 0, [], rfl, by omega, rfl, rfl, HW.out⟩
  case round =>
    clear HW
    obtain ⟨vo, k, s, rfl, hk, rfl, hsk, hO, hb⟩ := hrel
    by_cases hlt : k < L.length
    · have hltp : (k : Int) < (L.length : Int) := by omega
      have hk0 : (0 : Int) ≤ (k : Int) := by omega
      obtain ⟨x, hx⟩ : ∃ x, x = L.getD k default := ⟨_, rfl⟩
      obtain ⟨ha, hbb, hcc⟩ := validB_pows HV.out hlt hx
      have hxn : (x.c.toNat : Int) = x.c := by omega
      obtain ⟨c, hcn⟩ : ∃ c, c = x.c.toNat := ⟨_, rfl⟩
      have hc9 : c ≤ 9 := by omega
      rw [← hcn] at hxn
      obtain ⟨g, off, rfl, hg, hc⟩ : ∃ g off, a = some ⟨g, off, none⟩ ∧ g < w.heap.size ∧ ∀ j : Nat, j < L.length → TAt w g (off + j * 4) (L.getD j default) := by
        obtain ⟨_, a', cap', he, h⟩ := HL.out
        injection he with e1 e2 e3
        subst e1
        rcases h with h | h
        · rw [h] at hlt; simp at hlt
        · exact h
      obtain ⟨b0, b1, b2, b3⟩ := (hc k hlt).below hb hg
      rw [← hx] at b0 b1 b2 b3
      have HX := Lib.hid (show setp 2 0 (L.getD k default) = ⟨x.a, x.b, 0, x.t⟩ ∧ (pwr 2 (L.getD k default)).toNat = c by rw [← hx, hcn]; exact ⟨rfl, rfl⟩)
      obtain ⟨W1, hW1⟩ : ∃ W1, W1 = (wr.alloc (Obj.cells #[.int .i64 x.a, .int .i64 x.b, .int .i64 0, .int .i64 x.t] 87)).alloc (Obj.cells #[.int .i64 x.a, .int .i64 x.b, .int .i64 0, .int .i64 x.t] 87) := ⟨_, rfl⟩
      have h01 : Below wr.heap.size wr W1 := by rw [hW1]; exact Below.alloc (Below.alloc (Below.refl _ _) (Nat.le_refl _) _) (by simp) _
      have H1 := Lib.hid (show Trms W1 (.slice (some ⟨wr.heap.size + 1, 0, none⟩) 1 1) [⟨x.a, x.b, 0, x.t⟩] ∧ OwnTrms W1 w.heap.size vo s ∧ Below w.heap.size w W1 from
        ⟨one_trms (by rw [hW1]; refine ⟨?_, ?_, ?_, ?_⟩ <;> simp [go_sem]) (by rw [hW1]; simp), hO.below h01, hb.trans (h01.mono hb.size)⟩)
      have HW1 := Lib.hid hW1
      have HSK := Lib.hid hsk
      clear hx hsk hO hb hc hcn h01 hW1 ha hbb hcc
      go_wp2_with fail
      rw [← HW1.out]
      clear HW1 b0 b1 b2 b3
      generalize (Value.slice (some ⟨wr.heap.size + 1, 0, none⟩) 1 1) = vp0 at H1 ⊢
      rw [← hxn]
      clear hxn
      go_loopw [14, 48] (fun u i wr => ∃ (vp : Value) (m : Nat) (q : List Trm), vp = u ∧ m ≤ c ∧ i = .int .i64 m ∧ partU p M [⟨x.a, x.b, 0, x.t⟩] m = some q ∧ Trms wr vp q ∧ OwnTrms wr w.heap.size vo s ∧ Below w.heap.size w wr) (fun _ i _ => c - (intOf i).toNat)
      case atStart => exact ⟨_, 0, _, rfl, by omega, rfl, rfl, H1.out⟩
      case round =>
        clear H1
        obtain ⟨vp, m, q, rfl, hm, rfl, hpk, hT, hO, hb⟩ := hrel
        by_cases hmt : m < c
        · have hmtp : (m : Int) < (c : Int) := by omega
          have HMUL := Lib.hid (sMulPoly p vp (.slice a2 M.length cap2) q M wr hT (HM.out.below hb))
          have HPS := Lib.hid (partU_step hpk)
          have HO := Lib.hid hO
          have Hb := Lib.hid hb
          obtain ⟨_, ap, cp, rfl, _⟩ := hT
          obtain ⟨r, hr⟩ : ∃ r, r = mulOk p q M := ⟨_, rfl⟩
          rw [← hr] at HMUL HPS
          clear hpk hO hb hr
          go_wp2_with fail
          refine HMUL.out.mono ?_
          rintro e w4 ⟨v4, rfl, hown, hb4⟩
          have H4 := Lib.hid (And.intro hown.trms (And.intro (HO.out.below hb4) (Hb.out.trans (hb4.mono Hb.out.size))))
          clear hown hb4
          cases r
          · have HN := Lib.hid (show sumK p 2 L M L.length = none by
              have e := sumK_stop HSK.out (by rw [HX.out.1, HX.out.2]; have := partU_none HPS.out (c - (m + 1)); rwa [show m + 1 + (c - (m + 1)) = c by omega] at this)
              have := sumK_none e (L.length - (k + 1))
              rwa [show k + 1 + (L.length - (k + 1)) = L.length by omega] at this)
            have hz : b = false := by rw [HBE.out, HN.out]; rfl
            have hz2 : R = [] := by rw [HRE.out, HN.out]; rfl
            subst hz hz2
            go_wp2_with fail
            refine bodyPost_ret (v := .tuple #[.slice (some ⟨w4.heap.size, 0, none⟩) 0 0, .bool false]) (by simp [results, Try.results170, go_sem]) rfl ⟨_, rfl, (Row.lit0 w4 w.heap.size H4.out.2.2.size).own (by simp), Below.alloc H4.out.2.2 H4.out.2.2.size _⟩
          · rw [if_pos rfl] at HPS
            go_wp2_with fail
            go_roundw
            case rel => exact ⟨_, m + 1, _, rfl, by omega, by go_num, HPS.out, H4.out⟩
            case measure => simp [intOf]; omega
        · have hml : m = c := by omega
          subst hml
          have HADD := Lib.hid (sAddPoly p vo vp s q wr hO.trms hT)
          have HSS := Lib.hid (sumK_step HSK.out (by rw [HX.out.1, HX.out.2]; exact hpk))
          have Hb := Lib.hid hb
          obtain ⟨_, ap, cp, rfl, _⟩ := hT
          obtain ⟨_, ao, co, rfl, _⟩ := hO.trms
          obtain ⟨r, hr⟩ : ∃ r, r = addOk p s q := ⟨_, rfl⟩
          rw [← hr] at HADD HSS
          clear hpk hO hb hr
          go_wp2_with fail
          refine HADD.out.mono ?_
          rintro e w4 ⟨v4, rfl, hown, hb4⟩
          have H4 := Lib.hid (And.intro (ownTrms_mono hown Hb.out.size) (Hb.out.trans (hb4.mono Hb.out.size)))
          clear hown hb4
          cases r
          · have HN := Lib.hid (show sumK p 2 L M L.length = none by
              have := sumK_none HSS.out (L.length - (k + 1))
              rwa [show k + 1 + (L.length - (k + 1)) = L.length by omega] at this)
            have hz : b = false := by rw [HBE.out, HN.out]; rfl
            have hz2 : R = [] := by rw [HRE.out, HN.out]; rfl
            subst hz hz2
            go_wp2_with fail
            refine bodyPost_ret (v := .tuple #[.slice (some ⟨w4.heap.size, 0, none⟩) 0 0, .bool false]) (by simp [results, Try.results170, go_sem]) rfl ⟨_, rfl, (Row.lit0 w4 w.heap.size H4.out.2.size).own (by simp), Below.alloc H4.out.2 H4.out.2.size _⟩
          · rw [if_pos rfl] at HSS
            go_wp2_with fail
            go_roundw
            case rel => exact ⟨_, k + 1, _, rfl, by omega, by go_num, HSS.out, H4.out⟩
            case measure => simp [intOf]; omega
    · have hkl : k = L.length := by omega
      subst hkl
      have hz : b = true := by rw [HBE.out, hsk]; rfl
      have hz2 : R = s := by rw [HRE.out, hsk]; rfl
      subst hz hz2
      have HQ := Lib.hid (And.intro hO hb)
      clear hO hb hsk
      go_wp2_with fail
      refine bodyPost_ret (v := .tuple #[vo, .bool true]) (by simp [results, Try.results170, go_sem]) rfl ⟨_, rfl, HQ.out⟩
set_option maxRecDepth 100000 in
set_option maxHeartbeats 4000000 in
theorem sPut_no (p v : Int) (fv gv : Value) (L M : List Trm) (w : World) (hL : Trms w fv L) (hM : Trms w gv M) (hr : putC p L v M = false) :
    Calls Try.prog 170 #[.int .i64 p, fv, .int .i64 v, gv] w (GivesPB [] false w) := by
  have HIN := Lib.hid (sIn v 0 2)
  rw [show (decide (0 ≤ v) && decide (v ≤ 2)) = vB v from rfl] at HIN
  obtain ⟨r, hr1⟩ : ∃ r, (okB p (fv, L) && okB p (gv, M)) = r := ⟨_, rfl⟩
  have HB := Lib.hid (bothAt p fv gv L M w hL hM r hr1)
  rw [show putC p L v M = ((okB p (fv, L) && okB p (gv, M)) && vB v) from rfl, hr1] at hr
  obtain ⟨q, hq⟩ : ∃ q, q = vB v := ⟨_, rfl⟩
  rw [← hq] at HIN hr
  obtain ⟨_, a, cap, rfl, _⟩ := hL
  obtain ⟨_, a2, cap2, rfl, _⟩ := hM
  clear hr1 hq
  cases r
  · clear hr
    go_enter Try.func170, Try.ntmps170
    go_wp2_with fail
    refine HB.out.mono ?_
    rintro e w2 ⟨rfl, hb2⟩
    have HQ := Lib.hid hb2
    clear hb2
    go_wp2_with fail
    refine bodyPost_ret (v := .tuple #[.slice (some ⟨w2.heap.size, 0, none⟩) 0 0, .bool false]) (by simp [results, Try.results170, go_sem]) rfl ⟨_, rfl, (Row.lit0 w2 w.heap.size HQ.out.size).own (by simp), Below.alloc HQ.out HQ.out.size _⟩
  · rw [Bool.true_and] at hr
    subst hr
    go_enter Try.func170, Try.ntmps170
    go_wp2_with fail
    refine HB.out.mono ?_
    rintro e w2 ⟨rfl, hb2⟩
    have HQ := Lib.hid hb2
    clear hb2
    go_wp2_with fail
    refine (HIN.out _).mono ?_
    rintro e w3 ⟨rfl, rfl⟩
    go_wp2_with fail
    refine bodyPost_ret (v := .tuple #[.slice (some ⟨w2.heap.size, 0, none⟩) 0 0, .bool false]) (by simp [results, Try.results170, go_sem]) rfl ⟨_, rfl, (Row.lit0 w2 w.heap.size HQ.out.size).own (by simp), Below.alloc HQ.out HQ.out.size _⟩
set_option maxRecDepth 100000 in
set_option maxHeartbeats 4000000 in
theorem iPut_no (p v : Int) (fv gv : Value) (L M : List Trm) (w : World) (hL : Trms w fv L) (hM : Trms w gv M) (hr : putC p L v M = false) :
    Calls Try.prog 164 #[.int .i64 p, fv, .int .i64 v, gv] w (GivesPB [] false w) := by
  have HIN := Lib.hid (iUnk2 v)
  obtain ⟨r, hr1⟩ : ∃ r, (okB p (fv, L) && okB p (gv, M)) = r := ⟨_, rfl⟩
  have HB := Lib.hid (iBothAt p fv gv L M w hL hM r hr1)
  rw [show putC p L v M = ((okB p (fv, L) && okB p (gv, M)) && vB v) from rfl, hr1] at hr
  obtain ⟨q, hq⟩ : ∃ q, q = vB v := ⟨_, rfl⟩
  rw [← hq] at HIN hr
  obtain ⟨_, a, cap, rfl, _⟩ := hL
  obtain ⟨_, a2, cap2, rfl, _⟩ := hM
  clear hr1 hq
  cases r
  · clear hr
    go_enter Try.func164, Try.ntmps164
    go_wp2_with fail
    refine HB.out.mono ?_
    rintro e w2 ⟨rfl, hb2⟩
    have HQ := Lib.hid hb2
    clear hb2
    go_wp2_with fail
    refine bodyPost_ret (v := .tuple #[.slice none 0 0, .bool false]) (by simp [results, Try.results164, go_sem]) rfl ⟨_, rfl, (Row.nil w2 w.heap.size).own (by simp), HQ.out⟩
  · rw [Bool.true_and] at hr
    subst hr
    go_enter Try.func164, Try.ntmps164
    go_wp2_with fail
    refine HB.out.mono ?_
    rintro e w2 ⟨rfl, hb2⟩
    have HQ := Lib.hid hb2
    clear hb2
    go_wp2_with fail
    refine (HIN.out _).mono ?_
    rintro e w3 ⟨rfl, rfl⟩
    go_wp2_with fail
    refine bodyPost_ret (v := .tuple #[.slice none 0 0, .bool false]) (by simp [results, Try.results164, go_sem]) rfl ⟨_, rfl, (Row.nil w2 w.heap.size).own (by simp), HQ.out⟩
/-- what substituted hands back -/
def SubTo (o : Option (List Trm)) (w : World) (e : Ending) (w' : World) : Prop := ∃ v', e = .returned (.tuple #[v', .bool o.isSome]) ∧ (∀ q, o = some q → Trms w' v' q) ∧ Below w.heap.size w w'
set_option maxRecDepth 100000 in
set_option maxHeartbeats 8000000 in
theorem iSubst0 (p : Int) (x : Trm) (gv : Value) (M : List Trm) (w : World) (hf : 0 ≤ x.a ∧ x.a ≤ 9) (hM : Trms w gv M) :
    Calls Try.prog 220 #[.agg #[.int .i64 x.a, .int .i64 x.b, .int .i64 x.c, .int .i64 x.t], .int .i64 p, .int .i64 0, gv] w (SubTo (partU p M [setp 0 0 x] (pwr 0 x).toNat) w) := by
  have HM := Lib.hid hM
  obtain ⟨_, a2, cap2, rfl, _⟩ := hM
  have hxn : (x.a.toNat : Int) = x.a := by omega
  obtain ⟨c, hcn⟩ : ∃ c, c = x.a.toNat := ⟨_, rfl⟩
  have hc9 : c ≤ 9 := by omega
  rw [← hcn] at hxn
  rw [show setp 0 0 x = ⟨0, x.b, x.c, x.t⟩ from rfl, show (pwr 0 x).toNat = c by rw [hcn]; rfl]
  obtain ⟨o, ho⟩ : ∃ o, o = partU p M [⟨0, x.b, x.c, x.t⟩] c := ⟨_, rfl⟩
  rw [← ho]
  have HOE := Lib.hid ho
  obtain ⟨W1, hW1⟩ : ∃ W1, W1 = (w.alloc (Obj.cells #[.int .i64 0, .int .i64 x.b, .int .i64 x.c, .int .i64 x.t] 87)).alloc (Obj.cells #[.int .i64 0, .int .i64 x.b, .int .i64 x.c, .int .i64 x.t] 87) := ⟨_, rfl⟩
  have h01 : Below w.heap.size w W1 := by rw [hW1]; exact Below.alloc (Below.alloc (Below.refl _ _) (Nat.le_refl _) _) (by simp) _
  have H1 := Lib.hid (show Trms W1 (.slice (some ⟨w.heap.size + 1, 0, none⟩) 1 1) [⟨0, x.b, x.c, x.t⟩] ∧ Below w.heap.size w W1 from
    ⟨one_trms (by rw [hW1]; refine ⟨?_, ?_, ?_, ?_⟩ <;> simp [go_sem]) (by rw [hW1]; simp), h01⟩)
  have HW1 := Lib.hid hW1
  clear hcn ho h01 hW1 hf
  go_enter Try.func220, Try.ntmps220
  go_wp2_with fail
  rw [← HW1.out]
  clear HW1
  generalize (Value.slice (some ⟨w.heap.size + 1, 0, none⟩) 1 1) = vp0 at H1 ⊢
  rw [← hxn]
  clear hxn
  go_loopw [11, 23] (fun u i wr => ∃ (vp : Value) (m : Nat) (q : List Trm), vp = u ∧ m ≤ c ∧ i = .int .i64 m ∧ partU p M [⟨0, x.b, x.c, x.t⟩] m = some q ∧ Trms wr vp q ∧ Below w.heap.size w wr) (fun _ i _ => c - (intOf i).toNat)
  case atStart => exact ⟨_, 0, _, rfl, by omega, rfl, rfl, H1.out⟩
  case round =>
    clear H1
    obtain ⟨vp, m, q, rfl, hm, rfl, hpk, hT, hb⟩ := hrel
    by_cases hmt : m < c
    · have hmtp : (m : Int) < (c : Int) := by omega
      have HMUL := Lib.hid (iMulPoly p vp (.slice a2 M.length cap2) q M wr hT (HM.out.below hb))
      have HPS := Lib.hid (partU_step hpk)
      have Hb := Lib.hid hb
      obtain ⟨_, ap, cp, rfl, _⟩ := hT
      obtain ⟨r, hr⟩ : ∃ r, r = mulOk p q M := ⟨_, rfl⟩
      rw [← hr] at HMUL HPS
      clear hpk hb hr
      go_wp2_with fail
      refine HMUL.out.mono ?_
      rintro e w4 ⟨v4, rfl, hown, hb4⟩
      have H4 := Lib.hid (And.intro hown.trms (Hb.out.trans (hb4.mono Hb.out.size)))
      clear hown hb4
      cases r
      · have hz : o = none := by
          rw [HOE.out]
          have := partU_none HPS.out (c - (m + 1))
          rwa [show m + 1 + (c - (m + 1)) = c by omega] at this
        subst hz
        go_wp2_with fail
        refine bodyPost_ret (v := .tuple #[.slice none 0 0, .bool false]) (by simp [results, Try.results220, go_sem]) rfl ⟨_, rfl, ?_, H4.out.2⟩
        intro q hq
        cases hq
      · rw [if_pos rfl] at HPS
        go_wp2_with fail
        go_roundw
        case rel => exact ⟨_, m + 1, _, rfl, by omega, by go_num, HPS.out, H4.out⟩
        case measure => simp [intOf]; omega
    · have hml : m = c := by omega
      subst hml
      have hz : o = some q := by rw [HOE.out]; exact hpk
      subst hz
      have HQ := Lib.hid (And.intro hT hb)
      clear hpk hT hb
      go_wp2_with fail
      refine bodyPost_ret (v := .tuple #[vp, .bool true]) (by simp [results, Try.results220, go_sem]) rfl ⟨_, rfl, ?_, HQ.out.2⟩
      intro q' hq
      injection hq with hq
      subst hq
      exact HQ.out.1
set_option maxRecDepth 100000 in
set_option maxHeartbeats 8000000 in
theorem iSubst1 (p : Int) (x : Trm) (gv : Value) (M : List Trm) (w : World) (hf : 0 ≤ x.b ∧ x.b ≤ 9) (hM : Trms w gv M) :
    Calls Try.prog 220 #[.agg #[.int .i64 x.a, .int .i64 x.b, .int .i64 x.c, .int .i64 x.t], .int .i64 p, .int .i64 1, gv] w (SubTo (partU p M [setp 1 0 x] (pwr 1 x).toNat) w) := by
  have HM := Lib.hid hM
  obtain ⟨_, a2, cap2, rfl, _⟩ := hM
  have hxn : (x.b.toNat : Int) = x.b := by omega
  obtain ⟨c, hcn⟩ : ∃ c, c = x.b.toNat := ⟨_, rfl⟩
  have hc9 : c ≤ 9 := by omega
  rw [← hcn] at hxn
  rw [show setp 1 0 x = ⟨x.a, 0, x.c, x.t⟩ from rfl, show (pwr 1 x).toNat = c by rw [hcn]; rfl]
  obtain ⟨o, ho⟩ : ∃ o, o = partU p M [⟨x.a, 0, x.c, x.t⟩] c := ⟨_, rfl⟩
  rw [← ho]
  have HOE := Lib.hid ho
  obtain ⟨W1, hW1⟩ : ∃ W1, W1 = (w.alloc (Obj.cells #[.int .i64 x.a, .int .i64 0, .int .i64 x.c, .int .i64 x.t] 87)).alloc (Obj.cells #[.int .i64 x.a, .int .i64 0, .int .i64 x.c, .int .i64 x.t] 87) := ⟨_, rfl⟩
  have h01 : Below w.heap.size w W1 := by rw [hW1]; exact Below.alloc (Below.alloc (Below.refl _ _) (Nat.le_refl _) _) (by simp) _
  have H1 := Lib.hid (show Trms W1 (.slice (some ⟨w.heap.size + 1, 0, none⟩) 1 1) [⟨x.a, 0, x.c, x.t⟩] ∧ Below w.heap.size w W1 from
    ⟨one_trms (by rw [hW1]; refine ⟨?_, ?_, ?_, ?_⟩ <;> simp [go_sem]) (by rw [hW1]; simp), h01⟩)
  have HW1 := Lib.hid hW1
  clear hcn ho h01 hW1 hf
  go_enter Try.func220, Try.ntmps220
  go_wp2_with fail
  rw [← HW1.out]
  clear HW1
  generalize (Value.slice (some ⟨w.heap.size + 1, 0, none⟩) 1 1) = vp0 at H1 ⊢
  rw [← hxn]
  clear hxn
  go_loopw [11, 23] (fun u i wr => ∃ (vp : Value) (m : Nat) (q : List Trm), vp = u ∧ m ≤ c ∧ i = .int .i64 m ∧ partU p M [⟨x.a, 0, x.c, x.t⟩] m = some q ∧ Trms wr vp q ∧ Below w.heap.size w wr) (fun _ i _ => c - (intOf i).toNat)
  case atStart => exact ⟨_, 0, _, rfl, by omega, rfl, rfl, H1.out⟩
  case round =>
    clear H1
    obtain ⟨vp, m, q, rfl, hm, rfl, hpk, hT, hb⟩ := hrel
    by_cases hmt : m < c
    · have hmtp : (m : Int) < (c : Int) := by omega
      have HMUL := Lib.hid (iMulPoly p vp (.slice a2 M.length cap2) q M wr hT (HM.out.below hb))
      have HPS := Lib.hid (partU_step hpk)
      have Hb := Lib.hid hb
      obtain ⟨_, ap, cp, rfl, _⟩ := hT
      obtain ⟨r, hr⟩ : ∃ r, r = mulOk p q M := ⟨_, rfl⟩
      rw [← hr] at HMUL HPS
      clear hpk hb hr
      go_wp2_with fail
      refine HMUL.out.mono ?_
      rintro e w4 ⟨v4, rfl, hown, hb4⟩
      have H4 := Lib.hid (And.intro hown.trms (Hb.out.trans (hb4.mono Hb.out.size)))
      clear hown hb4
      cases r
      · have hz : o = none := by
          rw [HOE.out]
          have := partU_none HPS.out (c - (m + 1))
          rwa [show m + 1 + (c - (m + 1)) = c by omega] at this
        subst hz
        go_wp2_with fail
        refine bodyPost_ret (v := .tuple #[.slice none 0 0, .bool false]) (by simp [results, Try.results220, go_sem]) rfl ⟨_, rfl, ?_, H4.out.2⟩
        intro q hq
        cases hq
      · rw [if_pos rfl] at HPS
        go_wp2_with fail
        go_roundw
        case rel => exact ⟨_, m + 1, _, rfl, by omega, by go_num, HPS.out, H4.out⟩
        case measure => simp [intOf]; omega
    · have hml : m = c := by omega
      subst hml
      have hz : o = some q := by rw [HOE.out]; exact hpk
      subst hz
      have HQ := Lib.hid (And.intro hT hb)
      clear hpk hT hb
      go_wp2_with fail
      refine bodyPost_ret (v := .tuple #[vp, .bool true]) (by simp [results, Try.results220, go_sem]) rfl ⟨_, rfl, ?_, HQ.out.2⟩
      intro q' hq
      injection hq with hq
      subst hq
      exact HQ.out.1
set_option maxRecDepth 100000 in
set_option maxHeartbeats 8000000 in
theorem iSubst2 (p : Int) (x : Trm) (gv : Value) (M : List Trm) (w : World) (hf : 0 ≤ x.c ∧ x.c ≤ 9) (hM : Trms w gv M) :
    Calls Try.prog 220 #[.agg #[.int .i64 x.a, .int .i64 x.b, .int .i64 x.c, .int .i64 x.t], .int .i64 p, .int .i64 2, gv] w (SubTo (partU p M [setp 2 0 x] (pwr 2 x).toNat) w) := by
  have HM := Lib.hid hM
  obtain ⟨_, a2, cap2, rfl, _⟩ := hM
  have hxn : (x.c.toNat : Int) = x.c := by omega
  obtain ⟨c, hcn⟩ : ∃ c, c = x.c.toNat := ⟨_, rfl⟩
  have hc9 : c ≤ 9 := by omega
  rw [← hcn] at hxn
  rw [show setp 2 0 x = ⟨x.a, x.b, 0, x.t⟩ from rfl, show (pwr 2 x).toNat = c by rw [hcn]; rfl]
  obtain ⟨o, ho⟩ : ∃ o, o = partU p M [⟨x.a, x.b, 0, x.t⟩] c := ⟨_, rfl⟩
  rw [← ho]
  have HOE := Lib.hid ho
  obtain ⟨W1, hW1⟩ : ∃ W1, W1 = (w.alloc (Obj.cells #[.int .i64 x.a, .int .i64 x.b, .int .i64 0, .int .i64 x.t] 87)).alloc (Obj.cells #[.int .i64 x.a, .int .i64 x.b, .int .i64 0, .int .i64 x.t] 87) := ⟨_, rfl⟩
  have h01 : Below w.heap.size w W1 := by rw [hW1]; exact Below.alloc (Below.alloc (Below.refl _ _) (Nat.le_refl _) _) (by simp) _
  have H1 := Lib.hid (show Trms W1 (.slice (some ⟨w.heap.size + 1, 0, none⟩) 1 1) [⟨x.a, x.b, 0, x.t⟩] ∧ Below w.heap.size w W1 from
    ⟨one_trms (by rw [hW1]; refine ⟨?_, ?_, ?_, ?_⟩ <;> simp [go_sem]) (by rw [hW1]; simp), h01⟩)
  have HW1 := Lib.hid hW1
  clear hcn ho h01 hW1 hf
  go_enter Try.func220, Try.ntmps220
  go_wp2_with fail
  rw [← HW1.out]
  clear HW1
  generalize (Value.slice (some ⟨w.heap.size + 1, 0, none⟩) 1 1) = vp0 at H1 ⊢
  rw [← hxn]
  clear hxn
  go_loopw [11, 23] (fun u i wr => ∃ (vp : Value) (m : Nat) (q : List Trm), vp = u ∧ m ≤ c ∧ i = .int .i64 m ∧ partU p M [⟨x.a, x.b, 0, x.t⟩] m = some q ∧ Trms wr vp q ∧ Below w.heap.size w wr) (fun _ i _ => c - (intOf i).toNat)
  case atStart => exact ⟨_, 0, _, rfl, by omega, rfl, rfl, H1.out⟩
  case round =>
    clear H1
    obtain ⟨vp, m, q, rfl, hm, rfl, hpk, hT, hb⟩ := hrel
    by_cases hmt : m < c
    · have hmtp : (m : Int) < (c : Int) := by omega
      have HMUL := Lib.hid (iMulPoly p vp (.slice a2 M.length cap2) q M wr hT (HM.out.below hb))
      have HPS := Lib.hid (partU_step hpk)
      have Hb := Lib.hid hb
      obtain ⟨_, ap, cp, rfl, _⟩ := hT
      obtain ⟨r, hr⟩ : ∃ r, r = mulOk p q M := ⟨_, rfl⟩
      rw [← hr] at HMUL HPS
      clear hpk hb hr
      go_wp2_with fail
      refine HMUL.out.mono ?_
      rintro e w4 ⟨v4, rfl, hown, hb4⟩
      have H4 := Lib.hid (And.intro hown.trms (Hb.out.trans (hb4.mono Hb.out.size)))
      clear hown hb4
      cases r
      · have hz : o = none := by
          rw [HOE.out]
          have := partU_none HPS.out (c - (m + 1))
          rwa [show m + 1 + (c - (m + 1)) = c by omega] at this
        subst hz
        go_wp2_with fail
        refine bodyPost_ret (v := .tuple #[.slice none 0 0, .bool false]) (by simp [results, Try.results220, go_sem]) rfl ⟨_, rfl, ?_, H4.out.2⟩
        intro q hq
        cases hq
      · rw [if_pos rfl] at HPS
        go_wp2_with fail
        go_roundw
        case rel => exact ⟨_, m + 1, _, rfl, by omega, by go_num, HPS.out, H4.out⟩
        case measure => simp [intOf]; omega
    · have hml : m = c := by omega
      subst hml
      have hz : o = some q := by rw [HOE.out]; exact hpk
      subst hz
      have HQ := Lib.hid (And.intro hT hb)
      clear hpk hT hb
      go_wp2_with fail
      refine bodyPost_ret (v := .tuple #[vp, .bool true]) (by simp [results, Try.results220, go_sem]) rfl ⟨_, rfl, ?_, HQ.out.2⟩
      intro q' hq
      injection hq with hq
      subst hq
      exact HQ.out.1
theorem iSubst (p v : Int) (x : Trm) (gv : Value) (M : List Trm) (w : World) (hv : vB v = true) (hf : (0 ≤ x.a ∧ x.a ≤ 9) ∧ (0 ≤ x.b ∧ x.b ≤ 9) ∧ (0 ≤ x.c ∧ x.c ≤ 9)) (hM : Trms w gv M) :
    Calls Try.prog 220 #[.agg #[.int .i64 x.a, .int .i64 x.b, .int .i64 x.c, .int .i64 x.t], .int .i64 p, .int .i64 v, gv] w (SubTo (partU p M [setp v 0 x] (pwr v x).toNat) w) := by
  rcases vB_cases hv with rfl | rfl | rfl
  · exact iSubst0 p x gv M w hf.1 hM
  · exact iSubst1 p x gv M w hf.2.1 hM
  · exact iSubst2 p x gv M w hf.2.2 hM
set_option maxRecDepth 100000 in
set_option maxHeartbeats 8000000 in
theorem iPut_yes (p v : Int) (a : Option Addr) (cap : Nat) (gv : Value) (L M : List Trm) (w : World) (hv : vB v = true) (hp : isP p = true) (hV : validB p L = true) (hVM : validB p M = true) (hL : Trms w (.slice a L.length cap) L) (hM : Trms w gv M) (R : List Trm) (b : Bool) (hR : R = (sumK p v L M L.length).getD []) (hb : b = (sumK p v L M L.length).isSome) :
    Calls Try.prog 164 #[.int .i64 p, .slice a L.length cap, .int .i64 v, gv] w (GivesPB R b w) := by
  have HB := Lib.hid (iBothAt p (.slice a L.length cap) gv L M w hL hM true (by unfold okB; dsimp only; rw [hp, hV, hVM]; rfl))
  have HV := Lib.hid hV
  have HVB := Lib.hid hv
  have HL := Lib.hid hL
  have HM := Lib.hid hM
  have HRE := Lib.hid hR
  have HBE := Lib.hid hb
  have hl := validB_len hV
  have HIN := Lib.hid (iUnk2 v)
  rw [hv] at HIN
  obtain ⟨_, a2, cap2, rfl, _⟩ := hM
  clear hp hV hVM hL hR hb hv
  go_enter Try.func164, Try.ntmps164
  go_wp2_with fail
  refine HB.out.mono ?_
  rintro e w2 ⟨rfl, hb2⟩
  have HW := Lib.hid (show OwnTrms w2 w.heap.size (.slice none 0 0) [] ∧ Below w.heap.size w w2 from ⟨(Row.nil w2 w.heap.size).own (by simp), hb2⟩)
  clear hb2 HB
  go_wp2_with fail
  refine (HIN.out _).mono ?_
  rintro e w3 ⟨rfl, rfl⟩
  go_wp2_with fail
  go_loopw [10, 28] (fun u i wr => ∃ (vo : Value) (k : Nat) (s : List Trm), vo = u ∧ k ≤ L.length ∧ i = .int .i64 k ∧ sumK p v L M k = some s ∧ OwnTrms wr w.heap.size vo s ∧ Below w.heap.size w wr) (fun _ i _ => L.length - (intOf i).toNat)
  case atStart => exact ⟨_, 0, [], rfl, by omega, rfl, rfl, HW.out⟩
  case round =>
    clear HW
    obtain ⟨vo, k, s, rfl, hk, rfl, hsk, hO, hb⟩ := hrel
    by_cases hlt : k < L.length
    · have hltp : (k : Int) < (L.length : Int) := by omega
      have hk0 : (0 : Int) ≤ (k : Int) := by omega
      obtain ⟨x, hx⟩ : ∃ x, x = L.getD k default := ⟨_, rfl⟩
      have hpw := validB_pows HV.out hlt hx
      obtain ⟨g, off, rfl, hg, hc⟩ : ∃ g off, a = some ⟨g, off, none⟩ ∧ g < w.heap.size ∧ ∀ j : Nat, j < L.length → TAt w g (off + j * 4) (L.getD j default) := by
        obtain ⟨_, a', cap', he, h⟩ := HL.out
        injection he with e1 e2 e3
        subst e1
        rcases h with h | h
        · rw [h] at hlt; simp at hlt
        · exact h
      obtain ⟨b0, b1, b2, b3⟩ := (hc k hlt).below hb hg
      rw [← hx] at b0 b1 b2 b3
      have h01 : Below wr.heap.size wr (wr.alloc (Obj.cells #[.int .i64 x.a, .int .i64 x.b, .int .i64 x.c, .int .i64 x.t] 87)) := Below.alloc (Below.refl _ _) (Nat.le_refl _) _
      have HS := Lib.hid (iSubst p v x (.slice a2 M.length cap2) M (wr.alloc (Obj.cells #[.int .i64 x.a, .int .i64 x.b, .int .i64 x.c, .int .i64 x.t] 87)) HVB.out hpw ((HM.out.below hb).below h01))
      have HX := Lib.hid hx
      obtain ⟨o, ho⟩ : ∃ o, o = partU p M [setp v 0 x] (pwr v x).toNat := ⟨_, rfl⟩
      rw [← ho] at HS
      have HOE := Lib.hid ho
      have HSK := Lib.hid hsk
      have HO := Lib.hid (hO.below h01)
      have Hb := Lib.hid (hb.trans (h01.mono hb.size))
      clear hx hpw hsk hO hb hc ho h01
      go_wp2_with fail
      refine HS.out.mono ?_
      rintro e w4 ⟨v4, rfl, hq4, hb4⟩
      cases o with
      | none =>
        have HN := Lib.hid (show sumK p v L M L.length = none by
          have e := sumK_stop HSK.out (by rw [← HX.out]; exact HOE.out.symm)
          have := sumK_none e (L.length - (k + 1))
          rwa [show k + 1 + (L.length - (k + 1)) = L.length by omega] at this)
        have hz : b = false := by rw [HBE.out, HN.out]; rfl
        have hz2 : R = [] := by rw [HRE.out, HN.out]; rfl
        subst hz hz2
        have HQ := Lib.hid (Hb.out.trans (hb4.mono Hb.out.size))
        clear hq4 hb4
        simp only [Option.isSome]
        go_wp2_with fail
        refine bodyPost_ret (v := .tuple #[.slice none 0 0, .bool false]) (by simp [results, Try.results164, go_sem]) rfl ⟨_, rfl, (Row.nil _ w.heap.size).own (by simp), HQ.out⟩
      | some q =>
        have hT := hq4 q rfl
        have hO4 := HO.out.below hb4
        have HADD := Lib.hid (iAddPoly p vo v4 s q w4 hO4.trms hT)
        have HSS := Lib.hid (sumK_step HSK.out (by rw [← HX.out]; exact HOE.out.symm))
        have H3 := Lib.hid (Hb.out.trans (hb4.mono Hb.out.size))
        obtain ⟨_, ap, cp, rfl, _⟩ := hT
        obtain ⟨_, ao, co, rfl, _⟩ := hO4.trms
        obtain ⟨r, hr⟩ : ∃ r, r = addOk p s q := ⟨_, rfl⟩
        rw [← hr] at HADD HSS
        clear hq4 hb4 hO4 hr
        simp only [Option.isSome]
        go_wp2_with fail
        refine HADD.out.mono ?_
        rintro e w5 ⟨v5, rfl, hown, hb5⟩
        have H4 := Lib.hid (And.intro (ownTrms_mono hown H3.out.size) (H3.out.trans (hb5.mono H3.out.size)))
        clear hown hb5
        cases r
        · have HN := Lib.hid (show sumK p v L M L.length = none by
            have := sumK_none HSS.out (L.length - (k + 1))
            rwa [show k + 1 + (L.length - (k + 1)) = L.length by omega] at this)
          have hz : b = false := by rw [HBE.out, HN.out]; rfl
          have hz2 : R = [] := by rw [HRE.out, HN.out]; rfl
          subst hz hz2
          go_wp2_with fail
          refine bodyPost_ret (v := .tuple #[.slice none 0 0, .bool false]) (by simp [results, Try.results164, go_sem]) rfl ⟨_, rfl, (Row.nil _ w.heap.size).own (by simp), H4.out.2⟩
        · rw [if_pos rfl] at HSS
          go_wp2_with fail
          go_roundw
          case rel => exact ⟨_, k + 1, _, rfl, by omega, by go_num, HSS.out, H4.out⟩
          case measure => simp [intOf]; omega
    · have hkl : k = L.length := by omega
      subst hkl
      have hz : b = true := by rw [HBE.out, hsk]; rfl
      have hz2 : R = s := by rw [HRE.out, hsk]; rfl
      subst hz hz2
      have HQ := Lib.hid (And.intro hO hb)
      clear hO hb hsk
      go_wp2_with fail
      refine bodyPost_ret (v := .tuple #[vo, .bool true]) (by simp [results, Try.results164, go_sem]) rfl ⟨_, rfl, HQ.out⟩
theorem sPutPoly (p v : Int) (f g : Value) (L M : List Trm) (w : World) (hL : Trms w f L) (hM : Trms w g M) : Calls Try.prog 170 #[.int .i64 p, f, .int .i64 v, g] w (GivesPB (putV p L v M) (putOk p L v M) w) := by
  cases h : putC p L v M
  · rw [(putC_no h).1, (putC_no h).2]
    exact sPut_no p v f g L M w hL hM h
  · rw [(putC_yes h).1, (putC_yes h).2]
    simp only [putC, okB, Bool.and_eq_true] at h
    obtain ⟨l0, a, cap, rfl, l1⟩ := hL
    rcases vB_cases h.2 with rfl | rfl | rfl
    · exact sPut_yes0 p a cap g L M w h.1.1.1 h.1.1.2 h.1.2.2 ⟨l0, a, cap, rfl, l1⟩ hM _ _ rfl rfl
    · exact sPut_yes1 p a cap g L M w h.1.1.1 h.1.1.2 h.1.2.2 ⟨l0, a, cap, rfl, l1⟩ hM _ _ rfl rfl
    · exact sPut_yes2 p a cap g L M w h.1.1.1 h.1.1.2 h.1.2.2 ⟨l0, a, cap, rfl, l1⟩ hM _ _ rfl rfl
theorem iPutPoly (p v : Int) (f g : Value) (L M : List Trm) (w : World) (hL : Trms w f L) (hM : Trms w g M) : Calls Try.prog 164 #[.int .i64 p, f, .int .i64 v, g] w (GivesPB (putV p L v M) (putOk p L v M) w) := by
  cases h : putC p L v M
  · rw [(putC_no h).1, (putC_no h).2]
    exact iPut_no p v f g L M w hL hM h
  · rw [(putC_yes h).1, (putC_yes h).2]
    simp only [putC, okB, Bool.and_eq_true] at h
    obtain ⟨l0, a, cap, rfl, l1⟩ := hL
    exact iPut_yes p v a cap g L M w h.2 h.1.1.1 h.1.1.2 h.1.2.2 ⟨l0, a, cap, rfl, l1⟩ hM _ _ rfl rfl
end Go.Proofs.Ytlidplmpglpkgaa
namespace Go.Proofs.Ytlidplmpglpkgaa
open Go.RowKit
end Go.Proofs.Ytlidplmpglpkgaa
