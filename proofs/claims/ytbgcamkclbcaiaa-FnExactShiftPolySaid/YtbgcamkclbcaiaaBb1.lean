/-
  PutPoly, of the model and of the program, and the walk of its exact law (with the products that it is made of). Conditions: none but that the slices read as lists of terms.
  MakePoly, of the model and of the program. Conditions: what the slice holds is known.
  The walk of the exact law of MakePoly, with the laws' own helpers at slices of terms. Conditions: none but that the slice reads as a list of terms.
-/
import Derived.Test.YtbgcamkclbcaiaaBa23
import Derived.Test.YtbgcamkclbcaiaaBa22
namespace Go.Proofs.Ytbgcamkclbcaiaa
open Go.RowKit
/-- the power of an unknown in a term -/
def pwr (v : Int) (x : Trm) : Int := if v = 0 then x.a else if v = 1 then x.b else x.c
def setp (v m : Int) (x : Trm) : Trm := if v = 0 then ⟨m, x.b, x.c, x.t⟩ else if v = 1 then ⟨x.a, m, x.c, x.t⟩ else ⟨x.a, x.b, m, x.t⟩
def vB (v : Int) : Bool := decide (0 ≤ v) && decide (v ≤ 2)
theorem vB_cases {v : Int} (h : vB v = true) : v = 0 ∨ v = 1 ∨ v = 2 := by simp [vB] at h; omega
theorem iUnk2 (v : Int) (w : World) : Calls Try.prog 128 #[.int .i64 v] w fun e w' => e = .returned (.bool (vB v)) ∧ w = w' := by
  unfold vB
  by_cases h0 : 0 ≤ v
  · have hb : decide (v < 3) = decide (v ≤ 2) := by by_cases h : v < 3 <;> simp <;> omega
    rw [decide_eq_true h0, Bool.true_and, ← hb]
    clear hb
    go_enter Try.func128, Try.ntmps128
    go_wp2_with fail
    go_ret
    exact ⟨rfl, rfl⟩
  · rw [decide_eq_false h0, Bool.false_and]
    go_enter Try.func128, Try.ntmps128
    go_wp2_with fail
    go_ret
    exact ⟨rfl, rfl⟩
/-- a polynomial times another one, some times -/
def partU (p : Int) (M P0 : List Trm) : Nat → Option (List Trm)
  | 0 => some P0
  | k + 1 => match partU p M P0 k with
    | none => none
    | some P => if mulOk p P M = true then some (mulL p P M) else none
/-- the sum of what the first terms become -/
def sumK (p v : Int) (L M : List Trm) : Nat → Option (List Trm)
  | 0 => some []
  | k + 1 => match sumK p v L M k with
    | none => none
    | some s => match partU p M [setp v 0 (L.getD k default)] (pwr v (L.getD k default)).toNat with
      | none => none
      | some q => if addOk p s q = true then some (sumV p s q) else none
theorem partU_none {p : Int} {M P0 : List Trm} {k : Nat} (h : partU p M P0 k = none) : ∀ d, partU p M P0 (k + d) = none
  | 0 => h
  | d + 1 => by show (match partU p M P0 (k + d) with | none => none | some P => _) = none; rw [partU_none h d]
theorem sumK_none {p v : Int} {L M : List Trm} {k : Nat} (h : sumK p v L M k = none) : ∀ d, sumK p v L M (k + d) = none
  | 0 => h
  | d + 1 => by show (match sumK p v L M (k + d) with | none => none | some P => _) = none; rw [sumK_none h d]
theorem partU_step {p : Int} {M P0 P : List Trm} {k : Nat} (h : partU p M P0 k = some P) : partU p M P0 (k + 1) = if mulOk p P M = true then some (mulL p P M) else none := by
  show (match partU p M P0 k with | none => none | some P => _) = _
  rw [h]
theorem sumK_step {p v : Int} {L M s q : List Trm} {k : Nat} (h : sumK p v L M k = some s) (h2 : partU p M [setp v 0 (L.getD k default)] (pwr v (L.getD k default)).toNat = some q) : sumK p v L M (k + 1) = if addOk p s q = true then some (sumV p s q) else none := by
  show (match sumK p v L M k with | none => none | some s => _) = _
  rw [h]
  simp only [h2]
theorem sumK_stop {p v : Int} {L M s : List Trm} {k : Nat} (h : sumK p v L M k = some s) (h2 : partU p M [setp v 0 (L.getD k default)] (pwr v (L.getD k default)).toNat = none) : sumK p v L M (k + 1) = none := by
  show (match sumK p v L M k with | none => none | some s => _) = _
  rw [h]
  simp only [h2]
def putC (p : Int) (L : List Trm) (v : Int) (M : List Trm) : Bool := (okB p (default, L) && okB p (default, M)) && vB v
def putOk (p : Int) (L : List Trm) (v : Int) (M : List Trm) : Bool := putC p L v M && (sumK p v L M L.length).isSome
def putV (p : Int) (L : List Trm) (v : Int) (M : List Trm) : List Trm := if putC p L v M = true then (sumK p v L M L.length).getD [] else []
theorem putC_no {p v : Int} {L M : List Trm} (h : putC p L v M = false) : putOk p L v M = false ∧ putV p L v M = [] := by
  exact ⟨by unfold putOk; rw [h]; rfl, by unfold putV; rw [h]; rfl⟩
theorem putC_yes {p v : Int} {L M : List Trm} (h : putC p L v M = true) : putOk p L v M = (sumK p v L M L.length).isSome ∧ putV p L v M = (sumK p v L M L.length).getD [] := by
  exact ⟨by unfold putOk; rw [h, Bool.true_and], by unfold putV; rw [h]; rfl⟩
theorem one_trms {w : World} {n : Nat} {x : Trm} (h : TAt w n 0 x) (hs : n < w.heap.size) : Trms w (.slice (some ⟨n, 0, none⟩) 1 1) [x] := by
  refine ⟨by simp, _, _, rfl, .inr ⟨n, 0, rfl, hs, fun j hj => ?_⟩⟩
  have : j = 0 := by simpa using hj
  subst this
  simpa using h
set_option maxRecDepth 100000 in
set_option maxHeartbeats 8000000 in
theorem sPut_yes0 (p : Int) (a : Option Addr) (cap : Nat) (gv : Value) (L M : List Trm) (w : World) (hp : isP p = true) (hV : validB p L = true) (hVM : validB p M = true) (hL : Trms w (.slice a L.length cap) L) (hM : Trms w gv M) (R : List Trm) (b : Bool) (hR : R = (sumK p 0 L M L.length).getD []) (hb : b = (sumK p 0 L M L.length).isSome) :
    Calls Try.prog 91 #[.int .i64 p, .slice a L.length cap, .int .i64 0, gv] w (GivesPB R b w) := by
  have HB := Lib.hid (bothAt p (.slice a L.length cap) gv L M w hL hM true (by unfold okB; dsimp only; rw [hp, hV, hVM]; rfl))
  have HV := Lib.hid hV
  have HL := Lib.hid hL
  have HM := Lib.hid hM
  have HRE := Lib.hid hR
  have HBE := Lib.hid hb
  have hl := validB_len hV
  have HIN := Lib.hid (sIn 0 0 2)
  rw [show (decide ((0 : Int) ≤ 0) && decide ((0 : Int) ≤ 2)) = true by decide] at HIN
  obtain ⟨_, a2, cap2, rfl, _⟩ := hM
  clear hp hV hVM hL hR hb
  go_enter Try.func91, Try.ntmps91
  go_wp2_with fail
  refine HB.out.mono ?_
  rintro e w2 ⟨rfl, hb2⟩
  have HB2 := Lib.hid hb2
  clear hb2 HB
  go_wp2_with fail
  refine (HIN.out _).mono ?_
  rintro e w3 ⟨rfl, rfl⟩
  go_wp2_with fail
  obtain ⟨W, hW⟩ : ∃ W, W = w2.alloc (Obj.cells #[] 79) := ⟨_, rfl⟩
  have HW := Lib.hid (show OwnTrms W w.heap.size (.slice (some ⟨w2.heap.size, 0, none⟩) 0 0) [] ∧ Below w.heap.size w W by
    rw [hW]
    exact ⟨(Row.lit0 w2 w.heap.size HB2.out.size).own (by simp), Below.alloc HB2.out HB2.out.size _⟩)
  rw [← hW]
  generalize (Value.slice (some ⟨w2.heap.size, 0, none⟩) 0 0) = vo0 at HW ⊢
  clear hW
  go_loopw [10, 34] (fun u i wr => ∃ (vo : Value) (k : Nat) (s : List Trm), vo = u ∧ k ≤ L.length ∧ i = .int .i64 k ∧ sumK p 0 L M k = some s ∧ OwnTrms wr w.heap.size vo s ∧ Below w.heap.size w wr) (fun _ i _ => L.length - (intOf i).toNat)
  case atStart => exact ⟨_, 0, [], rfl, by omega, rfl, rfl, HW.out⟩
  case round =>
    clear HW
    obtain ⟨vo, k, s, rfl, hk, rfl, hsk, hO, hb⟩ := hrel
    by_cases hlt : k < L.length
    · have hltp : (k : Int) < (L.length : Int) := by omega
      have hk0 : (0 : Int) ≤ (k : Int) := by omega
      obtain ⟨x, hx⟩ : ∃ x, x = L.getD k default := ⟨_, rfl⟩
      obtain ⟨ha, hbb, hcc⟩ := validB_pows HV.out hlt hx
      have hxn : (x.a.toNat : Int) = x.a := by omega
      obtain ⟨c, hcn⟩ : ∃ c, c = x.a.toNat := ⟨_, rfl⟩
      have hc9 : c ≤ 9 := by omega
      rw [← hcn] at hxn
      obtain ⟨g, off, rfl, hg, hc⟩ : ∃ g off, a = some ⟨g, off, none⟩ ∧ g < w.heap.size ∧ ∀ j : Nat, j < L.length → TAt w g (off + j * 4) (L.getD j default) := by
        obtain ⟨_, a', cap', he, h⟩ := HL.out
        injection he with e1 e2 e3
        subst e1
        rcases h with h | h
        · rw [h] at hlt; simp at hlt
        · exact h
      obtain ⟨b0, b1, b2, b3⟩ := (hc k hlt).below hb hg
      rw [← hx] at b0 b1 b2 b3
      have HX := Lib.hid (show setp 0 0 (L.getD k default) = ⟨0, x.b, x.c, x.t⟩ ∧ (pwr 0 (L.getD k default)).toNat = c by rw [← hx, hcn]; exact ⟨rfl, rfl⟩)
      obtain ⟨W1, hW1⟩ : ∃ W1, W1 = (wr.alloc (Obj.cells #[.int .i64 0, .int .i64 x.b, .int .i64 x.c, .int .i64 x.t] 79)).alloc (Obj.cells #[.int .i64 0, .int .i64 x.b, .int .i64 x.c, .int .i64 x.t] 79) := ⟨_, rfl⟩
      have h01 : Below wr.heap.size wr W1 := by rw [hW1]; exact Below.alloc (Below.alloc (Below.refl _ _) (Nat.le_refl _) _) (by simp) _
      have H1 := Lib.hid (show Trms W1 (.slice (some ⟨wr.heap.size + 1, 0, none⟩) 1 1) [⟨0, x.b, x.c, x.t⟩] ∧ OwnTrms W1 w.heap.size vo s ∧ Below w.heap.size w W1 from
        ⟨one_trms (by rw [hW1]; refine ⟨?_, ?_, ?_, ?_⟩ <;> simp [go_sem]) (by rw [hW1]; simp), hO.below h01, hb.trans (h01.mono hb.size)⟩)
      have HW1 := Lib.hid hW1
      have HSK := Lib.hid hsk
      clear hx hsk hO hb hc hcn h01 hW1 ha hbb hcc
      go_wp2_with fail
      rw [← HW1.out]
      clear HW1 b0 b1 b2 b3
      generalize (Value.slice (some ⟨wr.heap.size + 1, 0, none⟩) 1 1) = vp0 at H1 ⊢
      rw [← hxn]
      clear hxn
      go_loopw [14, 48] (fun u i wr => ∃ (vp : Value) (m : Nat) (q : List Trm), vp = u ∧ m ≤ c ∧ i = .int .i64 m ∧ partU p M [⟨0, x.b, x.c, x.t⟩] m = some q ∧ Trms wr vp q ∧ OwnTrms wr w.heap.size vo s ∧ Below w.heap.size w wr) (fun _ i _ => c - (intOf i).toNat)
      case atStart => exact ⟨_, 0, _, rfl, by omega, rfl, rfl, H1.out⟩
      case round =>
        clear H1
        obtain ⟨vp, m, q, rfl, hm, rfl, hpk, hT, hO, hb⟩ := hrel
        by_cases hmt : m < c
        · have hmtp : (m : Int) < (c : Int) := by omega
          have HMUL := Lib.hid (sMulPoly p vp (.slice a2 M.length cap2) q M wr hT (HM.out.below hb))
          have HPS := Lib.hid (partU_step hpk)
          have HO := Lib.hid hO
          have Hb := Lib.hid hb
          obtain ⟨_, ap, cp, rfl, _⟩ := hT
          obtain ⟨r, hr⟩ : ∃ r, r = mulOk p q M := ⟨_, rfl⟩
          rw [← hr] at HMUL HPS
          clear hpk hO hb hr
          go_wp2_with fail
          refine HMUL.out.mono ?_
          rintro e w4 ⟨v4, rfl, hown, hb4⟩
          have H4 := Lib.hid (And.intro hown.trms (And.intro (HO.out.below hb4) (Hb.out.trans (hb4.mono Hb.out.size))))
          clear hown hb4
          cases r
          · have HN := Lib.hid (show sumK p 0 L M L.length = none by
              have e := sumK_stop HSK.out (by rw [HX.out.1, HX.out.2]; have := partU_none HPS.out (c - (m + 1)); rwa [show m + 1 + (c - (m + 1)) = c by omega] at this)
              have := sumK_none e (L.length - (k + 1))
              rwa [show k + 1 + (L.length - (k + 1)) = L.length by omega] at this)
            have hz : b = false := by rw [HBE.out, HN.out]; rfl
            have hz2 : R = [] := by rw [HRE.out, HN.out]; rfl
            subst hz hz2
            go_wp2_with fail
            refine bodyPost_ret (v := .tuple #[.slice (some ⟨w4.heap.size, 0, none⟩) 0 0, .bool false]) (by simp [results, Try.results91, go_sem]) rfl ⟨_, rfl, (Row.lit0 w4 w.heap.size H4.out.2.2.size).own (by simp), Below.alloc H4.out.2.2 H4.out.2.2.size _⟩
          · rw [if_pos rfl] at HPS
            go_wp2_with fail
            go_roundw
            case rel => exact ⟨_, m + 1, _, rfl, by omega, by go_num, HPS.out, H4.out⟩
            case measure => simp [intOf]; omega
        · have hml : m = c := by omega
          subst hml
          have HADD := Lib.hid (sAddPoly p vo vp s q wr hO.trms hT)
          have HSS := Lib.hid (sumK_step HSK.out (by rw [HX.out.1, HX.out.2]; exact hpk))
          have Hb := Lib.hid hb
          obtain ⟨_, ap, cp, rfl, _⟩ := hT
          obtain ⟨_, ao, co, rfl, _⟩ := hO.trms
          obtain ⟨r, hr⟩ : ∃ r, r = addOk p s q := ⟨_, rfl⟩
          rw [← hr] at HADD HSS
          clear hpk hO hb hr
          go_wp2_with fail
          refine HADD.out.mono ?_
          rintro e w4 ⟨v4, rfl, hown, hb4⟩
          have H4 := Lib.hid (And.intro (ownTrms_mono hown Hb.out.size) (Hb.out.trans (hb4.mono Hb.out.size)))
          clear hown hb4
          cases r
          · have HN := Lib.hid (show sumK p 0 L M L.length = none by
              have := sumK_none HSS.out (L.length - (k + 1))
              rwa [show k + 1 + (L.length - (k + 1)) = L.length by omega] at this)
            have hz : b = false := by rw [HBE.out, HN.out]; rfl
            have hz2 : R = [] := by rw [HRE.out, HN.out]; rfl
            subst hz hz2
            go_wp2_with fail
            refine bodyPost_ret (v := .tuple #[.slice (some ⟨w4.heap.size, 0, none⟩) 0 0, .bool false]) (by simp [results, Try.results91, go_sem]) rfl ⟨_, rfl, (Row.lit0 w4 w.heap.size H4.out.2.size).own (by simp), Below.alloc H4.out.2 H4.out.2.size _⟩
          · rw [if_pos rfl] at HSS
            go_wp2_with fail
            go_roundw
            case rel => exact ⟨_, k + 1, _, rfl, by omega, by go_num, HSS.out, H4.out⟩
            case measure => simp [intOf]; omega
    · have hkl : k = L.length := by omega
      subst hkl
      have hz : b = true := by rw [HBE.out, hsk]; rfl
      have hz2 : R = s := by rw [HRE.out, hsk]; rfl
      subst hz hz2
      have HQ := Lib.hid (And.intro hO hb)
      clear hO hb hsk
      go_wp2_with fail
      refine bodyPost_ret (v := .tuple #[vo, .bool true]) (by simp [results, Try.results91, go_sem]) rfl ⟨_, rfl, HQ.out⟩
set_option maxRecDepth 100000 in
set_option maxHeartbeats 8000000 in
theorem sPut_yes1 (p : Int) (a : Option Addr) (cap : Nat) (gv : Value) (L M : List Trm) (w : World) (hp : isP p = true) (hV : validB p L = true) (hVM : validB p M = true) (hL : Trms w (.slice a L.length cap) L) (hM : Trms w gv M) (R : List Trm) (b : Bool) (hR : R = (sumK p 1 L M L.length).getD []) (hb : b = (sumK p 1 L M L.length).isSome) :
    Calls Try.prog 91 #[.int .i64 p, .slice a L.length cap, .int .i64 1, gv] w (GivesPB R b w) := by
  have HB := Lib.hid (bothAt p (.slice a L.length cap) gv L M w hL hM true (by unfold okB; dsimp only; rw [hp, hV, hVM]; rfl))
  have HV := Lib.hid hV
  have HL := Lib.hid hL
  have HM := Lib.hid hM
  have HRE := Lib.hid hR
  have HBE := Lib.hid hb
  have hl := validB_len hV
  have HIN := Lib.hid (sIn 1 0 2)
  rw [show (decide ((0 : Int) ≤ 1) && decide ((1 : Int) ≤ 2)) = true by decide] at HIN
  obtain ⟨_, a2, cap2, rfl, _⟩ := hM
  clear hp hV hVM hL hR hb
  go_enter Try.func91, Try.ntmps91
  go_wp2_with fail
  refine HB.out.mono ?_
  rintro e w2 ⟨rfl, hb2⟩
  have HB2 := Lib.hid hb2
  clear hb2 HB
  go_wp2_with fail
  refine (HIN.out _).mono ?_
  rintro e w3 ⟨rfl, rfl⟩
  go_wp2_with fail
  obtain ⟨W, hW⟩ : ∃ W, W = w2.alloc (Obj.cells #[] 79) := ⟨_, rfl⟩
  have HW := Lib.hid (show OwnTrms W w.heap.size (.slice (some ⟨w2.heap.size, 0, none⟩) 0 0) [] ∧ Below w.heap.size w W by
    rw [hW]
    exact ⟨(Row.lit0 w2 w.heap.size HB2.out.size).own (by simp), Below.alloc HB2.out HB2.out.size _⟩)
  rw [← hW]
  generalize (Value.slice (some ⟨w2.heap.size, 0, none⟩) 0 0) = vo0 at HW ⊢
  clear hW
  go_loopw [10, 34] (fun u i wr => ∃ (vo : Value) (k : Nat) (s : List Trm), vo = u ∧ k ≤ L.length ∧ i = .int .i64 k ∧ sumK p 1 L M k = some s ∧ OwnTrms wr w.heap.size vo s ∧ Below w.heap.size w wr) (fun _ i _ => L.length - (intOf i).toNat)
  case atStart => exact ⟨_, 0, [], rfl, by omega, rfl, rfl, HW.out⟩
  case round =>
    clear HW
    obtain ⟨vo, k, s, rfl, hk, rfl, hsk, hO, hb⟩ := hrel
    by_cases hlt : k < L.length
    · have hltp : (k : Int) < (L.length : Int) := by omega
      have hk0 : (0 : Int) ≤ (k : Int) := by omega
      obtain ⟨x, hx⟩ : ∃ x, x = L.getD k default := ⟨_, rfl⟩
      obtain ⟨ha, hbb, hcc⟩ := validB_pows HV.out hlt hx
      have hxn : (x.b.toNat : Int) = x.b := by omega
      obtain ⟨c, hcn⟩ : ∃ c, c = x.b.toNat := ⟨_, rfl⟩
      have hc9 : c ≤ 9 := by omega
      rw [← hcn] at hxn
      obtain ⟨g, off, rfl, hg, hc⟩ : ∃ g off, a = some ⟨g, off, none⟩ ∧ g < w.heap.size ∧ ∀ j : Nat, j < L.length → TAt w g (off + j * 4) (L.getD j default) := by
        obtain ⟨_, a', cap', he, h⟩ := HL.out
        injection he with e1 e2 e3
        subst e1
        rcases h with h | h
        · rw [h] at hlt; simp at hlt
        · exact h
      obtain ⟨b0, b1, b2, b3⟩ := (hc k hlt).below hb hg
      rw [← hx] at b0 b1 b2 b3
      have HX := Lib.hid (show setp 1 0 (L.getD k default) = ⟨x.a, 0, x.c, x.t⟩ ∧ (pwr 1 (L.getD k default)).toNat = c by rw [← hx, hcn]; exact ⟨rfl, rfl⟩)
      obtain ⟨W1, hW1⟩ : ∃ W1, W1 = (wr.alloc (Obj.cells #[.int .i64 x.a, .int .i64 0, .int .i64 x.c, .int .i64 x.t] 79)).alloc (Obj.cells #[.int .i64 x.a, .int .i64 0, .int .i64 x.c, .int .i64 x.t] 79) := ⟨_, rfl⟩
      have h01 : Below wr.heap.size wr W1 := by rw [hW1]; exact Below.alloc (Below.alloc (Below.refl _ _) (Nat.le_refl _) _) (by simp) _
      have H1 := Lib.hid (show Trms W1 (.slice (some ⟨wr.heap.size + 1, 0, none⟩) 1 1) [⟨x.a, 0, x.c, x.t⟩] ∧ OwnTrms W1 w.heap.size vo s ∧ Below w.heap.size w W1 from
        ⟨one_trms (by rw [hW1]; refine ⟨?_, ?_, ?_, ?_⟩ <;> simp [go_sem]) (by rw [hW1]; simp), hO.below h01, hb.trans (h01.mono hb.size)⟩)
      have HW1 := Lib.hid hW1
      have HSK := Lib.hid hsk
      clear hx hsk hO hb hc hcn h01 hW1 ha hbb hcc
      go_wp2_with fail
      rw [← HW1.out]
      clear HW1 b0 b1 b2 b3
      generalize (Value.slice (some ⟨wr.heap.size + 1, 0, none⟩) 1 1) = vp0 at H1 ⊢
      rw [← hxn]
      clear hxn
      go_loopw [14, 48] (fun u i wr => ∃ (vp : Value) (m : Nat) (q : List Trm), vp = u ∧ m ≤ c ∧ i = .int .i64 m ∧ partU p M [⟨x.a, 0, x.c, x.t⟩] m = some q ∧ Trms wr vp q ∧ OwnTrms wr w.heap.size vo s ∧ Below w.heap.size w wr) (fun _ i _ => c - (intOf i).toNat)
      case atStart => exact ⟨_, 0, _, rfl, by omega, rfl, rfl, H1.out⟩
      case round =>
        clear H1
        obtain ⟨vp, m, q, rfl, hm, rfl, hpk, hT, hO, hb⟩ := hrel
        by_cases hmt : m < c
        · have hmtp : (m : Int) < (c : Int) := by omega
          have HMUL := Lib.hid (sMulPoly p vp (.slice a2 M.length cap2) q M wr hT (HM.out.below hb))
          have HPS := Lib.hid (partU_step hpk)
          have HO := Lib.hid hO
          have Hb := Lib.hid hb
          obtain ⟨_, ap, cp, rfl, _⟩ := hT
          obtain ⟨r, hr⟩ : ∃ r, r = mulOk p q M := ⟨_, rfl⟩
          rw [← hr] at HMUL HPS
          clear hpk hO hb hr
          go_wp2_with fail
          refine HMUL.out.mono ?_
          rintro e w4 ⟨v4, rfl, hown, hb4⟩
          have H4 := Lib.hid (And.intro hown.trms (And.intro (HO.out.below hb4) (Hb.out.trans (hb4.mono Hb.out.size))))
          clear hown hb4
          cases r
          · have HN := Lib.hid (show sumK p 1 L M L.length = none by
              have e := sumK_stop HSK.out (by rw [HX.out.1, HX.out.2]; have := partU_none HPS.out (c - (m + 1)); rwa [show m + 1 + (c - (m + 1)) = c by omega] at this)
              have := sumK_none e (L.length - (k + 1))
              rwa [show k + 1 + (L.length - (k + 1)) = L.length by omega] at this)
            have hz : b = false := by rw [HBE.out, HN.out]; rfl
            have hz2 : R = [] := by rw [HRE.out, HN.out]; rfl
            subst hz hz2
            go_wp2_with fail
            refine bodyPost_ret (v := .tuple #[.slice (some ⟨w4.heap.size, 0, none⟩) 0 0, .bool false]) (by simp [results, Try.results91, go_sem]) rfl ⟨_, rfl, (Row.lit0 w4 w.heap.size H4.out.2.2.size).own (by simp), Below.alloc H4.out.2.2 H4.out.2.2.size _⟩
          · rw [if_pos rfl] at HPS
            go_wp2_with fail
            go_roundw
            case rel => exact ⟨_, m + 1, _, rfl, by omega, by go_num, HPS.out, H4.out⟩
            case measure => simp [intOf]; omega
        · have hml : m = c := by omega
          subst hml
          have HADD := Lib.hid (sAddPoly p vo vp s q wr hO.trms hT)
          have HSS := Lib.hid (sumK_step HSK.out (by rw [HX.out.1, HX.out.2]; exact hpk))
          have Hb := Lib.hid hb
          obtain ⟨_, ap, cp, rfl, _⟩ := hT
          obtain ⟨_, ao, co, rfl, _⟩ := hO.trms
          obtain ⟨r, hr⟩ : ∃ r, r = addOk p s q := ⟨_, rfl⟩
          rw [← hr] at HADD HSS
          clear hpk hO hb hr
          go_wp2_with fail
          refine HADD.out.mono ?_
          rintro e w4 ⟨v4, rfl, hown, hb4⟩
          have H4 := Lib.hid (And.intro (ownTrms_mono hown Hb.out.size) (Hb.out.trans (hb4.mono Hb.out.size)))
          clear hown hb4
          cases r
          · have HN := Lib.hid (show sumK p 1 L M L.length = none by
              have := sumK_none HSS.out (L.length - (k + 1))
              rwa [show k + 1 + (L.length - (k + 1)) = L.length by omega] at this)
            have hz : b = false := by rw [HBE.out, HN.out]; rfl
            have hz2 : R = [] := by rw [HRE.out, HN.out]; rfl
            subst hz hz2
            go_wp2_with fail
            refine bodyPost_ret (v := .tuple #[.slice (some ⟨w4.heap.size, 0, none⟩) 0 0, .bool false]) (by simp [results, Try.results91, go_sem]) rfl ⟨_, rfl, (Row.lit0 w4 w.heap.size H4.out.2.size).own (by simp), Below.alloc H4.out.2 H4.out.2.size _⟩
          · rw [if_pos rfl] at HSS
            go_wp2_with fail
            go_roundw
            case rel => exact ⟨_, k + 1, _, rfl, by omega, by go_num, HSS.out, H4.out⟩
            case measure => simp [intOf]; omega
    · have hkl : k = L.length := by omega
      subst hkl
      have hz : b = true := by rw [HBE.out, hsk]; rfl
      have hz2 : R = s := by rw [HRE.out, hsk]; rfl
      subst hz hz2
      have HQ := Lib.hid (And.intro hO hb)
      clear hO hb hsk
      go_wp2_with fail
      refine bodyPost_ret (v := .tuple #[vo, .bool true]) (by simp [results, Try.results91, go_sem]) rfl ⟨_, rfl, HQ.out⟩
set_option maxRecDepth 100000 in
set_option maxHeartbeats 8000000 in
theorem sPut_yes2 (p : Int) (a : Option Addr) (cap : Nat) (gv : Value) (L M : List Trm) (w : World) (hp : isP p = true) (hV : validB p L = true) (hVM : validB p M = true) (hL : Trms w (.slice a L.length cap) L) (hM : Trms w gv M) (R : List Trm) (b : Bool) (hR : R = (sumK p 2 L M L.length).getD []) (hb : b = (sumK p 2 L M L.length).isSome) :
    Calls Try.prog 91 #[.int .i64 p, .slice a L.length cap, .int .i64 2, gv] w (GivesPB R b w) := by
  have HB := Lib.hid (bothAt p (.slice a L.length cap) gv L M w hL hM true (by unfold okB; dsimp only; rw [hp, hV, hVM]; rfl))
  have HV := Lib.hid hV
  have HL := Lib.hid hL
  have HM := Lib.hid hM
  have HRE := Lib.hid hR
  have HBE := Lib.hid hb
  have hl := validB_len hV
  have HIN := Lib.hid (sIn 2 0 2)
  rw [show (decide ((0 : Int) ≤ 2) && decide ((2 : Int) ≤ 2)) = true by decide] at HIN
  obtain ⟨_, a2, cap2, rfl, _⟩ := hM
  clear hp hV hVM hL hR hb
  go_enter Try.func91, Try.ntmps91
  go_wp2_with fail
  refine HB.out.mono ?_
  rintro e w2 ⟨rfl, hb2⟩
  have HB2 := Lib.hid hb2
  clear hb2 HB
  go_wp2_with fail
  refine (HIN.out _).mono ?_
  rintro e w3 ⟨rfl, rfl⟩
  go_wp2_with fail
  obtain ⟨W, hW⟩ : ∃ W, W = w2.alloc (Obj.cells #[] 79) := ⟨_, rfl⟩
  have HW := Lib.hid (show OwnTrms W w.heap.size (.slice (some ⟨w2.heap.size, 0, none⟩) 0 0) [] ∧ Below w.heap.size w W by
    rw [hW]
    exact ⟨(Row.lit0 w2 w.heap.size HB2.out.size).own (by simp), Below.alloc HB2.out HB2.out.size _⟩)
  rw [← hW]
  generalize (Value.slice (some ⟨w2.heap.size, 0, none⟩) 0 0) = vo0 at HW ⊢
  clear hW
  go_loopw [10, 34] (fun u i wr => ∃ (vo : Value) (k : Nat) (s : List Trm), vo = u ∧ k ≤ L.length ∧ i = .int .i64 k ∧ sumK p 2 L M k = some s ∧ OwnTrms wr w.heap.size vo s ∧ Below w.heap.size w wr) (fun _ i _ => L.length - (intOf i).toNat)
  case atStart => exact ⟨_, 0, [], rfl, by omega, rfl, rfl, HW.out⟩
  case round =>
    clear HW
    obtain ⟨vo, k, s, rfl, hk, rfl, hsk, hO, hb⟩ := hrel
    by_cases hlt : k < L.length
    · have hltp : (k : Int) < (L.length : Int) := by omega
      have hk0 : (0 : Int) ≤ (k : Int) := by omega
      obtain ⟨x, hx⟩ : ∃ x, x = L.getD k default := ⟨_, rfl⟩
      obtain ⟨ha, hbb, hcc⟩ := validB_pows HV.out hlt hx
      have hxn : (x.c.toNat : Int) = x.c := by omega
      obtain ⟨c, hcn⟩ : ∃ c, c = x.c.toNat := ⟨_, rfl⟩
      have hc9 : c ≤ 9 := by omega
      rw [← hcn] at hxn
      obtain ⟨g, off, rfl, hg, hc⟩ : ∃ g off, a = some ⟨g, off, none⟩ ∧ g < w.heap.size ∧ ∀ j : Nat, j < L.length → TAt w g (off + j * 4) (L.getD j default) := by
        obtain ⟨_, a', cap', he, h⟩ := HL.out
        injection he with e1 e2 e3
        subst e1
        rcases h with h | h
        · rw [h] at hlt; simp at hlt
        · exact h
      obtain ⟨b0, b1, b2, b3⟩ := (hc k hlt).below hb hg
      rw [← hx] at b0 b1 b2 b3
      have HX := Lib.hid (show setp 2 0 (L.getD k default) = ⟨x.a, x.b, 0, x.t⟩ ∧ (pwr 2 (L.getD k default)).toNat = c by rw [← hx, hcn]; exact ⟨rfl, rfl⟩)
      obtain ⟨W1, hW1⟩ : ∃ W1, W1 = (wr.alloc (Obj.cells #[.int .i64 x.a, .int .i64 x.b, .int .i64 0, .int .i64 x.t] 79)).alloc (Obj.cells #[.int .i64 x.a, .int .i64 x.b, .int .i64 0, .int .i64 x.t] 79) := ⟨_, rfl⟩
      have h01 : Below wr.heap.size wr W1 := by rw [hW1]; exact Below.alloc (Below.alloc (Below.refl _ _) (Nat.le_refl _) _) (by simp) _
      have H1 := Lib.hid (show Trms W1 (.slice (some ⟨wr.heap.size + 1, 0, none⟩) 1 1) [⟨x.a, x.b, 0, x.t⟩] ∧ OwnTrms W1 w.heap.size vo s ∧ Below w.heap.size w W1 from
        ⟨one_trms (by rw [hW1]; refine ⟨?_, ?_, ?_, ?_⟩ <;> simp [go_sem]) (by rw [hW1]; simp), hO.below h01, hb.trans (h01.mono hb.size)⟩)
      have HW1 := Lib.hid hW1
      have HSK := Lib.hid hsk
      clear hx hsk hO hb hc hcn h01 hW1 ha hbb hcc
      go_wp2_with fail
      rw [← HW1.out]
      clear HW1 b0 b1 b2 b3
      generalize (Value.slice (some ⟨wr.heap.size + 1, 0, none⟩) 1 1) = vp0 at H1 ⊢
      rw [← hxn]
      clear hxn
      go_loopw [14, 48] (fun u i wr => ∃ (vp : Value) (m : Nat) (q : List Trm), vp = u ∧ m ≤ c ∧ i = .int .i64 m ∧ partU p M [⟨x.a, x.b, 0, x.t⟩] m = some q ∧ Trms wr vp q ∧ OwnTrms wr w.heap.size vo s ∧ Below w.heap.size w wr) (fun _ i _ => c - (intOf i).toNat)
      case atStart => exact ⟨_, 0, _, rfl, by omega, rfl, rfl, H1.out⟩
      case round =>
        clear H1
        obtain ⟨vp, m, q, rfl, hm, rfl, hpk, hT, hO, hb⟩ := hrel
        by_cases hmt : m < c
        · have hmtp : (m : Int) < (c : Int) := by omega
          have HMUL := Lib.hid (sMulPoly p vp (.slice a2 M.length cap2) q M wr hT (HM.out.below hb))
          have HPS := Lib.hid (partU_step hpk)
          have HO := Lib.hid hO
          have Hb := Lib.hid hb
          obtain ⟨_, ap, cp, rfl, _⟩ := hT
          obtain ⟨r, hr⟩ : ∃ r, r = mulOk p q M := ⟨_, rfl⟩
          rw [← hr] at HMUL HPS
          clear hpk hO hb hr
          go_wp2_with fail
          refine HMUL.out.mono ?_
          rintro e w4 ⟨v4, rfl, hown, hb4⟩
          have H4 := Lib.hid (And.intro hown.trms (And.intro (HO.out.below hb4) (Hb.out.trans (hb4.mono Hb.out.size))))
          clear hown hb4
          cases r
          · have HN := Lib.hid (show sumK p 2 L M L.length = none by
              have e := sumK_stop HSK.out (by rw [HX.out.1, HX.out.2]; have := partU_none HPS.out (c - (m + 1)); rwa [show m + 1 + (c - (m + 1)) = c by omega] at this)
              have := sumK_none e (L.length - (k + 1))
              rwa [show k + 1 + (L.length - (k + 1)) = L.length by omega] at this)
            have hz : b = false := by rw [HBE.out, HN.out]; rfl
            have hz2 : R = [] := by rw [HRE.out, HN.out]; rfl
            subst hz hz2
            go_wp2_with fail
            refine bodyPost_ret (v := .tuple #[.slice (some ⟨w4.heap.size, 0, none⟩) 0 0, .bool false]) (by simp [results, Try.results91, go_sem]) rfl ⟨_, rfl, (Row.lit0 w4 w.heap.size H4.out.2.2.size).own (by simp), Below.alloc H4.out.2.2 H4.out.2.2.size _⟩
          · rw [if_pos rfl] at HPS
            go_wp2_with fail
            go_roundw
            case rel => exact ⟨_, m + 1, _, rfl, by omega, by go_num, HPS.out, H4.out⟩
            case measure => simp [intOf]; omega
        · have hml : m = c := by omega
          subst hml
          have HADD := Lib.hid (sAddPoly p vo vp s q wr hO.trms hT)
          have HSS := Lib.hid (sumK_step HSK.out (by rw [HX.out.1, HX.out.2]; exact hpk))
          have Hb := Lib.hid hb
          obtain ⟨_, ap, cp, rfl, _⟩ := hT
          obtain ⟨_, ao, co, rfl, _⟩ := hO.trms
          obtain ⟨r, hr⟩ : ∃ r, r = addOk p s q := ⟨_, rfl⟩
          rw [← hr] at HADD HSS
          clear hpk hO hb hr
          go_wp2_with fail
          refine HADD.out.mono ?_
          rintro e w4 ⟨v4, rfl, hown, hb4⟩
          have H4 := Lib.hid (And.intro (ownTrms_mono hown Hb.out.size) (Hb.out.trans (hb4.mono Hb.out.size)))
          clear hown hb4
          cases r
          · have HN := Lib.hid (show sumK p 2 L M L.length = none by
              have := sumK_none HSS.out (L.length - (k + 1))
              rwa [show k + 1 + (L.length - (k + 1)) = L.length by omega] at this)
            have hz : b = false := by rw [HBE.out, HN.out]; rfl
            have hz2 : R = [] := by rw [HRE.out, HN.out]; rfl
            subst hz hz2
            go_wp2_with fail
            refine bodyPost_ret (v := .tuple #[.slice (some ⟨w4.heap.size, 0, none⟩) 0 0, .bool false]) (by simp [results, Try.results91, go_sem]) rfl ⟨_, rfl, (Row.lit0 w4 w.heap.size H4.out.2.size).own (by simp), Below.alloc H4.out.2 H4.out.2.size _⟩
          · rw [if_pos rfl] at HSS
            go_wp2_with fail
            go_roundw
            case rel => exact ⟨_, k + 1, _, rfl, by omega, by go_num, HSS.out, H4.out⟩
            case measure => simp [intOf]; omega
    · have hkl : k = L.length := by omega
      subst hkl
      have hz : b = true := by rw [HBE.out, hsk]; rfl
      have hz2 : R = s := by rw [HRE.out, hsk]; rfl
      subst hz hz2
      have HQ := Lib.hid (And.intro hO hb)
      clear hO hb hsk
      go_wp2_with fail
      refine bodyPost_ret (v := .tuple #[vo, .bool true]) (by simp [results, Try.results91, go_sem]) rfl ⟨_, rfl, HQ.out⟩
set_option maxRecDepth 100000 in
set_option maxHeartbeats 4000000 in
theorem sPut_no (p v : Int) (fv gv : Value) (L M : List Trm) (w : World) (hL : Trms w fv L) (hM : Trms w gv M) (hr : putC p L v M = false) :
    Calls Try.prog 91 #[.int .i64 p, fv, .int .i64 v, gv] w (GivesPB [] false w) := by
  have HIN := Lib.hid (sIn v 0 2)
  rw [show (decide (0 ≤ v) && decide (v ≤ 2)) = vB v from rfl] at HIN
  obtain ⟨r, hr1⟩ : ∃ r, (okB p (fv, L) && okB p (gv, M)) = r := ⟨_, rfl⟩
  have HB := Lib.hid (bothAt p fv gv L M w hL hM r hr1)
  rw [show putC p L v M = ((okB p (fv, L) && okB p (gv, M)) && vB v) from rfl, hr1] at hr
  obtain ⟨q, hq⟩ : ∃ q, q = vB v := ⟨_, rfl⟩
  rw [← hq] at HIN hr
  obtain ⟨_, a, cap, rfl, _⟩ := hL
  obtain ⟨_, a2, cap2, rfl, _⟩ := hM
  clear hr1 hq
  cases r
  · clear hr
    go_enter Try.func91, Try.ntmps91
    go_wp2_with fail
    refine HB.out.mono ?_
    rintro e w2 ⟨rfl, hb2⟩
    have HQ := Lib.hid hb2
    clear hb2
    go_wp2_with fail
    refine bodyPost_ret (v := .tuple #[.slice (some ⟨w2.heap.size, 0, none⟩) 0 0, .bool false]) (by simp [results, Try.results91, go_sem]) rfl ⟨_, rfl, (Row.lit0 w2 w.heap.size HQ.out.size).own (by simp), Below.alloc HQ.out HQ.out.size _⟩
  · rw [Bool.true_and] at hr
    subst hr
    go_enter Try.func91, Try.ntmps91
    go_wp2_with fail
    refine HB.out.mono ?_
    rintro e w2 ⟨rfl, hb2⟩
    have HQ := Lib.hid hb2
    clear hb2
    go_wp2_with fail
    refine (HIN.out _).mono ?_
    rintro e w3 ⟨rfl, rfl⟩
    go_wp2_with fail
    refine bodyPost_ret (v := .tuple #[.slice (some ⟨w2.heap.size, 0, none⟩) 0 0, .bool false]) (by simp [results, Try.results91, go_sem]) rfl ⟨_, rfl, (Row.lit0 w2 w.heap.size HQ.out.size).own (by simp), Below.alloc HQ.out HQ.out.size _⟩
set_option maxRecDepth 100000 in
set_option maxHeartbeats 4000000 in
theorem iPut_no (p v : Int) (fv gv : Value) (L M : List Trm) (w : World) (hL : Trms w fv L) (hM : Trms w gv M) (hr : putC p L v M = false) :
    Calls Try.prog 94 #[.int .i64 p, fv, .int .i64 v, gv] w (GivesPB [] false w) := by
  have HIN := Lib.hid (iUnk2 v)
  obtain ⟨r, hr1⟩ : ∃ r, (okB p (fv, L) && okB p (gv, M)) = r := ⟨_, rfl⟩
  have HB := Lib.hid (iBothAt p fv gv L M w hL hM r hr1)
  rw [show putC p L v M = ((okB p (fv, L) && okB p (gv, M)) && vB v) from rfl, hr1] at hr
  obtain ⟨q, hq⟩ : ∃ q, q = vB v := ⟨_, rfl⟩
  rw [← hq] at HIN hr
  obtain ⟨_, a, cap, rfl, _⟩ := hL
  obtain ⟨_, a2, cap2, rfl, _⟩ := hM
  clear hr1 hq
  cases r
  · clear hr
    go_enter Try.func94, Try.ntmps94
    go_wp2_with fail
    refine HB.out.mono ?_
    rintro e w2 ⟨rfl, hb2⟩
    have HQ := Lib.hid hb2
    clear hb2
    go_wp2_with fail
    refine bodyPost_ret (v := .tuple #[.slice none 0 0, .bool false]) (by simp [results, Try.results94, go_sem]) rfl ⟨_, rfl, (Row.nil w2 w.heap.size).own (by simp), HQ.out⟩
  · rw [Bool.true_and] at hr
    subst hr
    go_enter Try.func94, Try.ntmps94
    go_wp2_with fail
    refine HB.out.mono ?_
    rintro e w2 ⟨rfl, hb2⟩
    have HQ := Lib.hid hb2
    clear hb2
    go_wp2_with fail
    refine (HIN.out _).mono ?_
    rintro e w3 ⟨rfl, rfl⟩
    go_wp2_with fail
    refine bodyPost_ret (v := .tuple #[.slice none 0 0, .bool false]) (by simp [results, Try.results94, go_sem]) rfl ⟨_, rfl, (Row.nil w2 w.heap.size).own (by simp), HQ.out⟩
/-- what substituted hands back -/
def SubTo (o : Option (List Trm)) (w : World) (e : Ending) (w' : World) : Prop := ∃ v', e = .returned (.tuple #[v', .bool o.isSome]) ∧ (∀ q, o = some q → Trms w' v' q) ∧ Below w.heap.size w w'
set_option maxRecDepth 100000 in
set_option maxHeartbeats 8000000 in
theorem iSubst0 (p : Int) (x : Trm) (gv : Value) (M : List Trm) (w : World) (hf : 0 ≤ x.a ∧ x.a ≤ 9) (hM : Trms w gv M) :
    Calls Try.prog 147 #[.agg #[.int .i64 x.a, .int .i64 x.b, .int .i64 x.c, .int .i64 x.t], .int .i64 p, .int .i64 0, gv] w (SubTo (partU p M [setp 0 0 x] (pwr 0 x).toNat) w) := by
  have HM := Lib.hid hM
  obtain ⟨_, a2, cap2, rfl, _⟩ := hM
  have hxn : (x.a.toNat : Int) = x.a := by omega
  obtain ⟨c, hcn⟩ : ∃ c, c = x.a.toNat := ⟨_, rfl⟩
  have hc9 : c ≤ 9 := by omega
  rw [← hcn] at hxn
  rw [show setp 0 0 x = ⟨0, x.b, x.c, x.t⟩ from rfl, show (pwr 0 x).toNat = c by rw [hcn]; rfl]
  obtain ⟨o, ho⟩ : ∃ o, o = partU p M [⟨0, x.b, x.c, x.t⟩] c := ⟨_, rfl⟩
  rw [← ho]
  have HOE := Lib.hid ho
  obtain ⟨W1, hW1⟩ : ∃ W1, W1 = (w.alloc (Obj.cells #[.int .i64 0, .int .i64 x.b, .int .i64 x.c, .int .i64 x.t] 79)).alloc (Obj.cells #[.int .i64 0, .int .i64 x.b, .int .i64 x.c, .int .i64 x.t] 79) := ⟨_, rfl⟩
  have h01 : Below w.heap.size w W1 := by rw [hW1]; exact Below.alloc (Below.alloc (Below.refl _ _) (Nat.le_refl _) _) (by simp) _
  have H1 := Lib.hid (show Trms W1 (.slice (some ⟨w.heap.size + 1, 0, none⟩) 1 1) [⟨0, x.b, x.c, x.t⟩] ∧ Below w.heap.size w W1 from
    ⟨one_trms (by rw [hW1]; refine ⟨?_, ?_, ?_, ?_⟩ <;> simp [go_sem]) (by rw [hW1]; simp), h01⟩)
  have HW1 := Lib.hid hW1
  clear hcn ho h01 hW1 hf
  go_enter Try.func147, Try.ntmps147
  go_wp2_with fail
  rw [← HW1.out]
  clear HW1
  generalize (Value.slice (some ⟨w.heap.size + 1, 0, none⟩) 1 1) = vp0 at H1 ⊢
  rw [← hxn]
  clear hxn
  go_loopw [11, 23] (fun u i wr => ∃ (vp : Value) (m : Nat) (q : List Trm), vp = u ∧ m ≤ c ∧ i = .int .i64 m ∧ partU p M [⟨0, x.b, x.c, x.t⟩] m = some q ∧ Trms wr vp q ∧ Below w.heap.size w wr) (fun _ i _ => c - (intOf i).toNat)
  case atStart => exact ⟨_, 0, _, rfl, by omega, rfl, rfl, H1.out⟩
  case round =>
    clear H1
    obtain ⟨vp, m, q, rfl, hm, rfl, hpk, hT, hb⟩ := hrel
    by_cases hmt : m < c
    · have hmtp : (m : Int) < (c : Int) := by omega
      have HMUL := Lib.hid (iMulPoly p vp (.slice a2 M.length cap2) q M wr hT (HM.out.below hb))
      have HPS := Lib.hid (partU_step hpk)
      have Hb := Lib.hid hb
      obtain ⟨_, ap, cp, rfl, _⟩ := hT
      obtain ⟨r, hr⟩ : ∃ r, r = mulOk p q M := ⟨_, rfl⟩
      rw [← hr] at HMUL HPS
      clear hpk hb hr
      go_wp2_with fail
      refine HMUL.out.mono ?_
      rintro e w4 ⟨v4, rfl, hown, hb4⟩
      have H4 := Lib.hid (And.intro hown.trms (Hb.out.trans (hb4.mono Hb.out.size)))
      clear hown hb4
      cases r
      · have hz : o = none := by
          rw [HOE.out]
          have := partU_none HPS.out (c - (m + 1))
          rwa [show m + 1 + (c - (m + 1)) = c by omega] at this
        subst hz
        go_wp2_with fail
        refine bodyPost_ret (v := .tuple #[.slice none 0 0, .bool false]) (by simp [results, Try.results147, go_sem]) rfl ⟨_, rfl, ?_, H4.out.2⟩
        intro q hq
        cases hq
      · rw [if_pos rfl] at HPS
        go_wp2_with fail
        go_roundw
        case rel => exact ⟨_, m + 1, _, rfl, by omega, by go_num, HPS.out, H4.out⟩
        case measure => simp [intOf]; omega
    · have hml : m = c := by omega
      subst hml
      have hz : o = some q := by rw [HOE.out]; exact hpk
      subst hz
      have HQ := Lib.hid (And.intro hT hb)
      clear hpk hT hb
      go_wp2_with fail
      refine bodyPost_ret (v := .tuple #[vp, .bool true]) (by simp [results, Try.results147, go_sem]) rfl ⟨_, rfl, ?_, HQ.out.2⟩
      intro q' hq
      injection hq with hq
      subst hq
      exact HQ.out.1
set_option maxRecDepth 100000 in
set_option maxHeartbeats 8000000 in
theorem iSubst1 (p : Int) (x : Trm) (gv : Value) (M : List Trm) (w : World) (hf : 0 ≤ x.b ∧ x.b ≤ 9) (hM : Trms w gv M) :
    Calls Try.prog 147 #[.agg #[.int .i64 x.a, .int .i64 x.b, .int .i64 x.c, .int .i64 x.t], .int .i64 p, .int .i64 1, gv] w (SubTo (partU p M [setp 1 0 x] (pwr 1 x).toNat) w) := by
  have HM := Lib.hid hM
  obtain ⟨_, a2, cap2, rfl, _⟩ := hM
  have hxn : (x.b.toNat : Int) = x.b := by omega
  obtain ⟨c, hcn⟩ : ∃ c, c = x.b.toNat := ⟨_, rfl⟩
  have hc9 : c ≤ 9 := by omega
  rw [← hcn] at hxn
  rw [show setp 1 0 x = ⟨x.a, 0, x.c, x.t⟩ from rfl, show (pwr 1 x).toNat = c by rw [hcn]; rfl]
  obtain ⟨o, ho⟩ : ∃ o, o = partU p M [⟨x.a, 0, x.c, x.t⟩] c := ⟨_, rfl⟩
  rw [← ho]
  have HOE := Lib.hid ho
  obtain ⟨W1, hW1⟩ : ∃ W1, W1 = (w.alloc (Obj.cells #[.int .i64 x.a, .int .i64 0, .int .i64 x.c, .int .i64 x.t] 79)).alloc (Obj.cells #[.int .i64 x.a, .int .i64 0, .int .i64 x.c, .int .i64 x.t] 79) := ⟨_, rfl⟩
  have h01 : Below w.heap.size w W1 := by rw [hW1]; exact Below.alloc (Below.alloc (Below.refl _ _) (Nat.le_refl _) _) (by simp) _
  have H1 := Lib.hid (show Trms W1 (.slice (some ⟨w.heap.size + 1, 0, none⟩) 1 1) [⟨x.a, 0, x.c, x.t⟩] ∧ Below w.heap.size w W1 from
    ⟨one_trms (by rw [hW1]; refine ⟨?_, ?_, ?_, ?_⟩ <;> simp [go_sem]) (by rw [hW1]; simp), h01⟩)
  have HW1 := Lib.hid hW1
  clear hcn ho h01 hW1 hf
  go_enter Try.func147, Try.ntmps147
  go_wp2_with fail
  rw [← HW1.out]
  clear HW1
  generalize (Value.slice (some ⟨w.heap.size + 1, 0, none⟩) 1 1) = vp0 at H1 ⊢
  rw [← hxn]
  clear hxn
  go_loopw [11, 23] (fun u i wr => ∃ (vp : Value) (m : Nat) (q : List Trm), vp = u ∧ m ≤ c ∧ i = .int .i64 m ∧ partU p M [⟨x.a, 0, x.c, x.t⟩] m = some q ∧ Trms wr vp q ∧ Below w.heap.size w wr) (fun _ i _ => c - (intOf i).toNat)
  case atStart => exact ⟨_, 0, _, rfl, by omega, rfl, rfl, H1.out⟩
  case round =>
    clear H1
    obtain ⟨vp, m, q, rfl, hm, rfl, hpk, hT, hb⟩ := hrel
    by_cases hmt : m < c
    · have hmtp : (m : Int) < (c : Int) := by omega
      have HMUL := Lib.hid (iMulPoly p vp (.slice a2 M.length cap2) q M wr hT (HM.out.below hb))
      have HPS := Lib.hid (partU_step hpk)
      have Hb := Lib.hid hb
      obtain ⟨_, ap, cp, rfl, _⟩ := hT
      obtain ⟨r, hr⟩ : ∃ r, r = mulOk p q M := ⟨_, rfl⟩
      rw [← hr] at HMUL HPS
      clear hpk hb hr
      go_wp2_with fail
      refine HMUL.out.mono ?_
      rintro e w4 ⟨v4, rfl, hown, hb4⟩
      have H4 := Lib.hid (And.intro hown.trms (Hb.out.trans (hb4.mono Hb.out.size)))
      clear hown hb4
      cases r
      · have hz : o = none := by
          rw [HOE.out]
          have := partU_none HPS.out (c - (m + 1))
          rwa [show m + 1 + (c - (m + 1)) = c by omega] at this
        subst hz
        go_wp2_with fail
        refine bodyPost_ret (v := .tuple #[.slice none 0 0, .bool false]) (by simp [results, Try.results147, go_sem]) rfl ⟨_, rfl, ?_, H4.out.2⟩
        intro q hq
        cases hq
      · rw [if_pos rfl] at HPS
        go_wp2_with fail
        go_roundw
        case rel => exact ⟨_, m + 1, _, rfl, by omega, by go_num, HPS.out, H4.out⟩
        case measure => simp [intOf]; omega
    · have hml : m = c := by omega
      subst hml
      have hz : o = some q := by rw [HOE.out]; exact hpk
      subst hz
      have HQ := Lib.hid (And.intro hT hb)
      clear hpk hT hb
      go_wp2_with fail
      refine bodyPost_ret (v := .tuple #[vp, .bool true]) (by simp [results, Try.results147, go_sem]) rfl ⟨_, rfl, ?_, HQ.out.2⟩
      intro q' hq
      injection hq with hq
      subst hq
      exact HQ.out.1
set_option maxRecDepth 100000 in
set_option maxHeartbeats 8000000 in
theorem iSubst2 (p : Int) (x : Trm) (gv : Value) (M : List Trm) (w : World) (hf : 0 ≤ x.c ∧ x.c ≤ 9) (hM : Trms w gv M) :
    Calls Try.prog 147 #[.agg #[.int .i64 x.a, .int .i64 x.b, .int .i64 x.c, .int .i64 x.t], .int .i64 p, .int .i64 2, gv] w (SubTo (partU p M [setp 2 0 x] (pwr 2 x).toNat) w) := by
  have HM := Lib.hid hM
  obtain ⟨_, a2, cap2, rfl, _⟩ := hM
  have hxn : (x.c.toNat : Int) = x.c := by omega
  obtain ⟨c, hcn⟩ : ∃ c, c = x.c.toNat := ⟨_, rfl⟩
  have hc9 : c ≤ 9 := by omega
  rw [← hcn] at hxn
  rw [show setp 2 0 x = ⟨x.a, x.b, 0, x.t⟩ from rfl, show (pwr 2 x).toNat = c by rw [hcn]; rfl]
  obtain ⟨o, ho⟩ : ∃ o, o = partU p M [⟨x.a, x.b, 0, x.t⟩] c := ⟨_, rfl⟩
  rw [← ho]
  have HOE := Lib.hid ho
  obtain ⟨W1, hW1⟩ : ∃ W1, W1 = (w.alloc (Obj.cells #[.int .i64 x.a, .int .i64 x.b, .int .i64 0, .int .i64 x.t] 79)).alloc (Obj.cells #[.int .i64 x.a, .int .i64 x.b, .int .i64 0, .int .i64 x.t] 79) := ⟨_, rfl⟩
  have h01 : Below w.heap.size w W1 := by rw [hW1]; exact Below.alloc (Below.alloc (Below.refl _ _) (Nat.le_refl _) _) (by simp) _
  have H1 := Lib.hid (show Trms W1 (.slice (some ⟨w.heap.size + 1, 0, none⟩) 1 1) [⟨x.a, x.b, 0, x.t⟩] ∧ Below w.heap.size w W1 from
    ⟨one_trms (by rw [hW1]; refine ⟨?_, ?_, ?_, ?_⟩ <;> simp [go_sem]) (by rw [hW1]; simp), h01⟩)
  have HW1 := Lib.hid hW1
  clear hcn ho h01 hW1 hf
  go_enter Try.func147, Try.ntmps147
  go_wp2_with fail
  rw [← HW1.out]
  clear HW1
  generalize (Value.slice (some ⟨w.heap.size + 1, 0, none⟩) 1 1) = vp0 at H1 ⊢
  rw [← hxn]
  clear hxn
  go_loopw [11, 23] (fun u i wr => ∃ (vp : Value) (m : Nat) (q : List Trm), vp = u ∧ m ≤ c ∧ i = .int .i64 m ∧ partU p M [⟨x.a, x.b, 0, x.t⟩] m = some q ∧ Trms wr vp q ∧ Below w.heap.size w wr) (fun _ i _ => c - (intOf i).toNat)
  case atStart => exact ⟨_, 0, _, rfl, by omega, rfl, rfl, H1.out⟩
  case round =>
    clear H1
    obtain ⟨vp, m, q, rfl, hm, rfl, hpk, hT, hb⟩ := hrel
    by_cases hmt : m < c
    · have hmtp : (m : Int) < (c : Int) := by omega
      have HMUL := Lib.hid (iMulPoly p vp (.slice a2 M.length cap2) q M wr hT (HM.out.below hb))
      have HPS := Lib.hid (partU_step hpk)
      have Hb := Lib.hid hb
      obtain ⟨_, ap, cp, rfl, _⟩ := hT
      obtain ⟨r, hr⟩ : ∃ r, r = mulOk p q M := ⟨_, rfl⟩
      rw [← hr] at HMUL HPS
      clear hpk hb hr
      go_wp2_with fail
      refine HMUL.out.mono ?_
      rintro e w4 ⟨v4, rfl, hown, hb4⟩
      have H4 := Lib.hid (And.intro hown.trms (Hb.out.trans (hb4.mono Hb.out.size)))
      clear hown hb4
      cases r
      · have hz : o = none := by
          rw [HOE.out]
          have := partU_none HPS.out (c - (m + 1))
          rwa [show m + 1 + (c - (m + 1)) = c by omega] at this
        subst hz
        go_wp2_with fail
        refine bodyPost_ret (v := .tuple #[.slice none 0 0, .bool false]) (by simp [results, Try.results147, go_sem]) rfl ⟨_, rfl, ?_, H4.out.2⟩
        intro q hq
        cases hq
      · rw [if_pos rfl] at HPS
        go_wp2_with fail
        go_roundw
        case rel => exact ⟨_, m + 1, _, rfl, by omega, by go_num, HPS.out, H4.out⟩
        case measure => simp [intOf]; omega
    · have hml : m = c := by omega
      subst hml
      have hz : o = some q := by rw [HOE.out]; exact hpk
      subst hz
      have HQ := Lib.hid (And.intro hT hb)
      clear hpk hT hb
      go_wp2_with fail
      refine bodyPost_ret (v := .tuple #[vp, .bool true]) (by simp [results, Try.results147, go_sem]) rfl ⟨_, rfl, ?_, HQ.out.2⟩
      intro q' hq
      injection hq with hq
      subst hq
      exact HQ.out.1
theorem iSubst (p v : Int) (x : Trm) (gv : Value) (M : List Trm) (w : World) (hv : vB v = true) (hf : (0 ≤ x.a ∧ x.a ≤ 9) ∧ (0 ≤ x.b ∧ x.b ≤ 9) ∧ (0 ≤ x.c ∧ x.c ≤ 9)) (hM : Trms w gv M) :
    Calls Try.prog 147 #[.agg #[.int .i64 x.a, .int .i64 x.b, .int .i64 x.c, .int .i64 x.t], .int .i64 p, .int .i64 v, gv] w (SubTo (partU p M [setp v 0 x] (pwr v x).toNat) w) := by
  rcases vB_cases hv with rfl | rfl | rfl
  · exact iSubst0 p x gv M w hf.1 hM
  · exact iSubst1 p x gv M w hf.2.1 hM
  · exact iSubst2 p x gv M w hf.2.2 hM
set_option maxRecDepth 100000 in
set_option maxHeartbeats 8000000 in
theorem iPut_yes (p v : Int) (a : Option Addr) (cap : Nat) (gv : Value) (L M : List Trm) (w : World) (hv : vB v = true) (hp : isP p = true) (hV : validB p L = true) (hVM : validB p M = true) (hL : Trms w (.slice a L.length cap) L) (hM : Trms w gv M) (R : List Trm) (b : Bool) (hR : R = (sumK p v L M L.length).getD []) (hb : b = (sumK p v L M L.length).isSome) :
    Calls Try.prog 94 #[.int .i64 p, .slice a L.length cap, .int .i64 v, gv] w (GivesPB R b w) := by
  have HB := Lib.hid (iBothAt p (.slice a L.length cap) gv L M w hL hM true (by unfold okB; dsimp only; rw [hp, hV, hVM]; rfl))
  have HV := Lib.hid hV
  have HVB := Lib.hid hv
  have HL := Lib.hid hL
  have HM := Lib.hid hM
  have HRE := Lib.hid hR
  have HBE := Lib.hid hb
  have hl := validB_len hV
  have HIN := Lib.hid (iUnk2 v)
  rw [hv] at HIN
  obtain ⟨_, a2, cap2, rfl, _⟩ := hM
  clear hp hV hVM hL hR hb hv
  go_enter Try.func94, Try.ntmps94
  go_wp2_with fail
  refine HB.out.mono ?_
  rintro e w2 ⟨rfl, hb2⟩
  have HW := Lib.hid (show OwnTrms w2 w.heap.size (.slice none 0 0) [] ∧ Below w.heap.size w w2 from ⟨(Row.nil w2 w.heap.size).own (by simp), hb2⟩)
  clear hb2 HB
  go_wp2_with fail
  refine (HIN.out _).mono ?_
  rintro e w3 ⟨rfl, rfl⟩
  go_wp2_with fail
  go_loopw [10, 28] (fun u i wr => ∃ (vo : Value) (k : Nat) (s : List Trm), vo = u ∧ k ≤ L.length ∧ i = .int .i64 k ∧ sumK p v L M k = some s ∧ OwnTrms wr w.heap.size vo s ∧ Below w.heap.size w wr) (fun _ i _ => L.length - (intOf i).toNat)
  case atStart => exact ⟨_, 0, [], rfl, by omega, rfl, rfl, HW.out⟩
  case round =>
    clear HW
    obtain ⟨vo, k, s, rfl, hk, rfl, hsk, hO, hb⟩ := hrel
    by_cases hlt : k < L.length
    · have hltp : (k : Int) < (L.length : Int) := by omega
      have hk0 : (0 : Int) ≤ (k : Int) := by omega
      obtain ⟨x, hx⟩ : ∃ x, x = L.getD k default := ⟨_, rfl⟩
      have hpw := validB_pows HV.out hlt hx
      obtain ⟨g, off, rfl, hg, hc⟩ : ∃ g off, a = some ⟨g, off, none⟩ ∧ g < w.heap.size ∧ ∀ j : Nat, j < L.length → TAt w g (off + j * 4) (L.getD j default) := by
        obtain ⟨_, a', cap', he, h⟩ := HL.out
        injection he with e1 e2 e3
        subst e1
        rcases h with h | h
        · rw [h] at hlt; simp at hlt
        · exact h
      obtain ⟨b0, b1, b2, b3⟩ := (hc k hlt).below hb hg
      rw [← hx] at b0 b1 b2 b3
      have h01 : Below wr.heap.size wr (wr.alloc (Obj.cells #[.int .i64 x.a, .int .i64 x.b, .int .i64 x.c, .int .i64 x.t] 79)) := Below.alloc (Below.refl _ _) (Nat.le_refl _) _
      have HS := Lib.hid (iSubst p v x (.slice a2 M.length cap2) M (wr.alloc (Obj.cells #[.int .i64 x.a, .int .i64 x.b, .int .i64 x.c, .int .i64 x.t] 79)) HVB.out hpw ((HM.out.below hb).below h01))
      have HX := Lib.hid hx
      obtain ⟨o, ho⟩ : ∃ o, o = partU p M [setp v 0 x] (pwr v x).toNat := ⟨_, rfl⟩
      rw [← ho] at HS
      have HOE := Lib.hid ho
      have HSK := Lib.hid hsk
      have HO := Lib.hid (hO.below h01)
      have Hb := Lib.hid (hb.trans (h01.mono hb.size))
      clear hx hpw hsk hO hb hc ho h01
      go_wp2_with fail
      refine HS.out.mono ?_
      rintro e w4 ⟨v4, rfl, hq4, hb4⟩
      cases o with
      | none =>
        have HN := Lib.hid (show sumK p v L M L.length = none by
          have e := sumK_stop HSK.out (by rw [← HX.out]; exact HOE.out.symm)
          have := sumK_none e (L.length - (k + 1))
          rwa [show k + 1 + (L.length - (k + 1)) = L.length by omega] at this)
        have hz : b = false := by rw [HBE.out, HN.out]; rfl
        have hz2 : R = [] := by rw [HRE.out, HN.out]; rfl
        subst hz hz2
        have HQ := Lib.hid (Hb.out.trans (hb4.mono Hb.out.size))
        clear hq4 hb4
        simp only [Option.isSome]
        go_wp2_with fail
        refine bodyPost_ret (v := .tuple #[.slice none 0 0, .bool false]) (by simp [results, Try.results94, go_sem]) rfl ⟨_, rfl, (Row.nil _ w.heap.size).own (by simp), HQ.out⟩
      | some q =>
        have hT := hq4 q rfl
        have hO4 := HO.out.below hb4
        have HADD := Lib.hid (iAddPoly p vo v4 s q w4 hO4.trms hT)
        have HSS := Lib.hid (sumK_step HSK.out (by rw [← HX.out]; exact HOE.out.symm))
        have H3 := Lib.hid (Hb.out.trans (hb4.mono Hb.out.size))
        obtain ⟨_, ap, cp, rfl, _⟩ := hT
        obtain ⟨_, ao, co, rfl, _⟩ := hO4.trms
        obtain ⟨r, hr⟩ : ∃ r, r = addOk p s q := ⟨_, rfl⟩
        rw [← hr] at HADD HSS
        clear hq4 hb4 hO4 hr
        simp only [Option.isSome]
        go_wp2_with fail
        refine HADD.out.mono ?_
        rintro e w5 ⟨v5, rfl, hown, hb5⟩
        have H4 := Lib.hid (And.intro (ownTrms_mono hown H3.out.size) (H3.out.trans (hb5.mono H3.out.size)))
        clear hown hb5
        cases r
        · have HN := Lib.hid (show sumK p v L M L.length = none by
            have := sumK_none HSS.out (L.length - (k + 1))
            rwa [show k + 1 + (L.length - (k + 1)) = L.length by omega] at this)
          have hz : b = false := by rw [HBE.out, HN.out]; rfl
          have hz2 : R = [] := by rw [HRE.out, HN.out]; rfl
          subst hz hz2
          go_wp2_with fail
          refine bodyPost_ret (v := .tuple #[.slice none 0 0, .bool false]) (by simp [results, Try.results94, go_sem]) rfl ⟨_, rfl, (Row.nil _ w.heap.size).own (by simp), H4.out.2⟩
        · rw [if_pos rfl] at HSS
          go_wp2_with fail
          go_roundw
          case rel => exact ⟨_, k + 1, _, rfl, by omega, by go_num, HSS.out, H4.out⟩
          case measure => simp [intOf]; omega
    · have hkl : k = L.length := by omega
      subst hkl
      have hz : b = true := by rw [HBE.out, hsk]; rfl
      have hz2 : R = s := by rw [HRE.out, hsk]; rfl
      subst hz hz2
      have HQ := Lib.hid (And.intro hO hb)
      clear hO hb hsk
      go_wp2_with fail
      refine bodyPost_ret (v := .tuple #[vo, .bool true]) (by simp [results, Try.results94, go_sem]) rfl ⟨_, rfl, HQ.out⟩
theorem sPutPoly (p v : Int) (f g : Value) (L M : List Trm) (w : World) (hL : Trms w f L) (hM : Trms w g M) : Calls Try.prog 91 #[.int .i64 p, f, .int .i64 v, g] w (GivesPB (putV p L v M) (putOk p L v M) w) := by
  cases h : putC p L v M
  · rw [(putC_no h).1, (putC_no h).2]
    exact sPut_no p v f g L M w hL hM h
  · rw [(putC_yes h).1, (putC_yes h).2]
    simp only [putC, okB, Bool.and_eq_true] at h
    obtain ⟨l0, a, cap, rfl, l1⟩ := hL
    rcases vB_cases h.2 with rfl | rfl | rfl
    · exact sPut_yes0 p a cap g L M w h.1.1.1 h.1.1.2 h.1.2.2 ⟨l0, a, cap, rfl, l1⟩ hM _ _ rfl rfl
    · exact sPut_yes1 p a cap g L M w h.1.1.1 h.1.1.2 h.1.2.2 ⟨l0, a, cap, rfl, l1⟩ hM _ _ rfl rfl
    · exact sPut_yes2 p a cap g L M w h.1.1.1 h.1.1.2 h.1.2.2 ⟨l0, a, cap, rfl, l1⟩ hM _ _ rfl rfl
theorem iPutPoly (p v : Int) (f g : Value) (L M : List Trm) (w : World) (hL : Trms w f L) (hM : Trms w g M) : Calls Try.prog 94 #[.int .i64 p, f, .int .i64 v, g] w (GivesPB (putV p L v M) (putOk p L v M) w) := by
  cases h : putC p L v M
  · rw [(putC_no h).1, (putC_no h).2]
    exact iPut_no p v f g L M w hL hM h
  · rw [(putC_yes h).1, (putC_yes h).2]
    simp only [putC, okB, Bool.and_eq_true] at h
    obtain ⟨l0, a, cap, rfl, l1⟩ := hL
    exact iPut_yes p v a cap g L M w h.2 h.1.1.1 h.1.1.2 h.1.2.2 ⟨l0, a, cap, rfl, l1⟩ hM _ _ rfl rfl
end Go.Proofs.Ytbgcamkclbcaiaa
namespace Go.Proofs.Ytbgcamkclbcaiaa
open Go.RowKit
/-- a term whose coefficient is made an element -/
def mkT (p : Int) (x : Trm) : Trm := ⟨x.a, x.b, x.c, x.t % p⟩
/-- the sum of the first k terms of a list -/
def mkK (p : Int) (L : List Trm) (k : Nat) : List Trm := addAll p ((L.take k).map (mkT p)) []
def pwB (x : Trm) : Bool := powsB x.a x.b x.c
theorem mkK_zero (p : Int) (L : List Trm) : mkK p L 0 = [] := by simp [mkK, addAll]
theorem mkK_next {p : Int} {L : List Trm} {k : Nat} (hk : k < L.length) : addT p (mkT p (L.getD k default)) (mkK p L k) = mkK p L (k + 1) := by
  unfold mkK
  rw [List.take_succ_eq_append_getElem hk, List.map_append, List.map_singleton, addAll_snoc]
  simp [List.getD_eq_getElem?_getD, hk]
theorem mkK_facts {p : Int} {L : List Trm} (hp : isP p = true) {k : Nat} (hk : k ≤ L.length) (hL : L.length ≤ 60) : Srt (mkK p L k) ∧ Els p (mkK p L k) ∧ (mkK p L k).length ≤ 60 := by
  have hb := isP_bd hp
  refine ⟨addAll_srt _ _ List.Pairwise.nil, addAll_els (by omega) _ _ (fun x hx => ?_) (fun y hy => by cases hy), ?_⟩
  · obtain ⟨z, _, rfl⟩ := List.mem_map.1 hx
    exact emod_bd hb.1
  · have := addAll_len (p := p) ((L.take k).map (mkT p)) []
    rw [List.length_map, List.length_take, List.length_nil] at this
    unfold mkK
    omega
theorem pw_snoc {L : List Trm} {k : Nat} (h : k < L.length) : (L.take (k + 1)).all pwB = ((L.take k).all pwB && pwB (L.getD k default)) := by
  rw [List.take_succ_eq_append_getElem h, List.all_append]
  simp [List.getD_eq_getElem?_getD, h]
theorem pw_no {L : List Trm} {k : Nat} (h : k < L.length) (hn : pwB (L.getD k default) = false) : L.all pwB = false := by
  rw [List.getD_eq_getElem?_getD, List.getElem?_eq_getElem h] at hn
  exact List.all_eq_false.2 ⟨_, List.getElem_mem h, by simpa using hn⟩
def makeOk (p : Int) (L : List Trm) : Bool := (isP p && decide (L.length ≤ 60)) && (L.all pwB && validB p (mkK p L L.length))
def makeV (p : Int) (L : List Trm) : List Trm := if makeOk p L = true then mkK p L L.length else []
set_option maxRecDepth 100000 in
set_option maxHeartbeats 4000000 in
theorem iMakePoly_no (p : Int) (a : Option Addr) (n cap : Nat) (w : World) (hr : (isP p && decide (n ≤ 60)) = false) :
    Calls Try.prog 146 #[.int .i64 p, .slice a n cap] w (GivesPB [] false w) := by
  cases hp : isP p
  · have HP := Lib.hid hp
    clear hr hp
    go_enter Try.func146, Try.ntmps146
    go_wp2_with (go_at_call 130; refine (iPV_no p _ HP.out).mono ?_; rintro e w' ⟨rfl, rfl⟩)
    refine bodyPost_ret (v := .tuple #[.slice none 0 0, .bool false]) (by simp [results, Try.results146, go_sem]) rfl ⟨_, rfl, (Row.nil w w.heap.size).own (by simp), Below.refl _ _⟩
  · have HP := Lib.hid hp
    have hn2 : (60 : Int) < (n : Int) := by rw [hp] at hr; simp at hr; omega
    clear hr hp
    go_enter Try.func146, Try.ntmps146
    go_wp2_with (go_at_call 130; refine (iPV_yes p _ HP.out).mono ?_; rintro e w' ⟨rfl, rfl⟩)
    refine bodyPost_ret (v := .tuple #[.slice none 0 0, .bool false]) (by simp [results, Try.results146, go_sem]) rfl ⟨_, rfl, (Row.nil w w.heap.size).own (by simp), Below.refl _ _⟩
set_option maxRecDepth 100000 in
set_option maxHeartbeats 8000000 in
theorem iMakePoly_yes (p : Int) (a : Option Addr) (cap : Nat) (L : List Trm) (w : World) (hp : isP p = true) (hl : L.length ≤ 60) (hL : Trms w (.slice a L.length cap) L) (R : List Trm) (b : Bool) (hR : R = makeV p L) (hb : b = makeOk p L) :
    Calls Try.prog 146 #[.int .i64 p, .slice a L.length cap] w (GivesPB R b w) := by
  have HP := Lib.hid hp
  have HL := Lib.hid hL
  have HRE := Lib.hid hR
  have HBE := Lib.hid hb
  have hl1 : (L.length : Int) ≤ 60 := by omega
  clear hp hL hR hb
  go_enter Try.func146, Try.ntmps146
  go_wp2_with (go_at_call 130; refine (iPV_yes p _ HP.out).mono ?_; rintro e w' ⟨rfl, rfl⟩)
  obtain ⟨W, hW⟩ : ∃ W, W = w.alloc (Obj.cells #[.int .i64 p, .slice none 0 0] 93) := ⟨_, rfl⟩
  obtain ⟨S, hSe⟩ : ∃ S, S = w.heap.size := ⟨_, rfl⟩
  have hSB : w.heap.size ≤ S := by rw [hSe]; exact Nat.le_refl _
  have HW := Lib.hid (show SumW W S p (.slice none 0 0) ∧ Row W w.heap.size (.slice none 0 0) (mkK p L 0) ∧ Value.ownBlock (.slice none 0 0) ≠ some S ∧ Below w.heap.size w W by
    rw [hW, hSe, mkK_zero]
    exact ⟨⟨by simp [go_sem], by simp [go_sem], World.frozen?_alloc_at _ _ _ 0 rfl, World.frozen?_alloc_at _ _ _ 1 rfl, by simp⟩, Row.nil _ _, by simp [Value.ownBlock], Below.alloc (Below.refl _ _) (Nat.le_refl _) _⟩)
  rw [← hW, ← hSe]
  clear hSe hW
  go_loopw [21] (fun i wr => ∃ (k : Nat) (v : Value), k ≤ L.length ∧ i = .int .i64 k ∧ (L.take k).all pwB = true ∧ SumW wr S p v ∧ Row wr w.heap.size v (mkK p L k) ∧ v.ownBlock ≠ some S ∧ Below w.heap.size w wr) (fun i _ => L.length - (intOf i).toNat)
  case atStart => exact ⟨0, _, by omega, rfl, by simp, HW.out⟩
  case round =>
    clear HW
    obtain ⟨k, v, hk, rfl, hpw, hS, hR, hv, hb⟩ := hrel
    by_cases hlt : k < L.length
    · have hltp : (k : Int) < (L.length : Int) := by omega
      have hk0 : (0 : Int) ≤ (k : Int) := by omega
      obtain ⟨x, hx⟩ : ∃ x, x = L.getD k default := ⟨_, rfl⟩
      obtain ⟨g, off, rfl, hg, hc⟩ : ∃ g off, a = some ⟨g, off, none⟩ ∧ g < w.heap.size ∧ ∀ j : Nat, j < L.length → TAt w g (off + j * 4) (L.getD j default) := by
        obtain ⟨_, a', cap', he, h⟩ := HL.out
        injection he with e1 e2 e3
        subst e1
        rcases h with h | h
        · rw [h] at hlt; simp at hlt
        · exact h
      obtain ⟨b0, b1, b2, b3⟩ := (hc k hlt).below hb hg
      rw [← hx] at b0 b1 b2 b3
      have HV2 := Lib.hid hv
      obtain ⟨n, hne⟩ : ∃ n, n = wr.heap.size := ⟨_, rfl⟩
      obtain ⟨W1, hW1⟩ : ∃ W1, W1 = wr.alloc (Obj.cells #[.int .i64 x.a, .int .i64 x.b, .int .i64 x.c, .int .i64 x.t] 79) := ⟨_, rfl⟩
      have hr1 : Below wr.heap.size wr W1 := by rw [hW1]; exact Below.alloc (Below.refl _ _) (Nat.le_refl _) _
      have hT1 : TAt W1 n 0 x := by rw [hW1, hne]; refine ⟨?_, ?_, ?_, ?_⟩ <;> simp [go_sem]
      have hn1 : n < W1.heap.size := by rw [hW1, hne]; simp
      have hf1 : ∀ i, W1.frozen? ⟨n, i, none⟩ = false := fun i => by rw [hW1, hne]; exact World.frozen?_alloc_at _ _ _ i rfl
      have hnv : v.ownBlock ≠ some n := fun e => by have := (World.ownsRow.lt hR _ e).2; omega
      have hSn : S < n := by rw [hne]; exact hS.sz
      have hwn : w.heap.size ≤ n := by rw [hne]; exact hb.size
      have HF := Lib.hid (fun W' (hb' : Below W1.heap.size W1 W') => show TAt W' n 0 x ∧ W'.frozen? ⟨n, 3, none⟩ = false ∧ n < W'.heap.size ∧ SumW W' S p v ∧ Row W' w.heap.size v (mkK p L k) ∧ Below w.heap.size w W' from
        ⟨hT1.below hb' hn1, by rw [hb'.frozen (p := ⟨n, 3, none⟩) hn1]; exact hf1 3, Nat.lt_of_lt_of_le hn1 hb'.size, (hS.below hr1).below hb', (hR.below hr1).below hb', (hb.trans (hr1.mono hb.size)).trans (hb'.mono (Nat.le_trans hb.size hr1.size))⟩)
      have HW1 := Lib.hid hW1
      have HNV := Lib.hid (And.intro hnv (And.intro hSn hwn))
      obtain ⟨t0, t1, t2, t3⟩ := hT1
      simp only [Nat.zero_add] at t0 t1 t2 t3
      have HFit := Lib.hid (fun w => iFit x.a x.b x.c x.t w)
      cases hpx : pwB x
      · rw [show powsB x.a x.b x.c = false from hpx] at HFit
        have HE := Lib.hid (show makeOk p L = false by unfold makeOk; rw [pw_no hlt (by rw [← hx]; exact hpx)]; simp)
        have hz : b = false := by rw [HBE.out, HE.out]
        have hz2 : R = [] := by rw [HRE.out]; unfold makeV; rw [HE.out]; rfl
        subst hz hz2
        clear hx hS hR hv hb hc hpw hpx hr1 hW1 hf1 hn1 hnv hSn hwn
        go_wp2_with fail
        rw [← HW1.out, ← hne]
        clear hne
        go_wp2_with fail
        refine (HFit.out _).mono ?_
        rintro e w2 ⟨rfl, hb2⟩
        have HQ := Lib.hid (HF.out w2 hb2).2.2.2.2.2
        clear hb2 t0 t1 t2 t3
        go_wp2_with fail
        refine bodyPost_ret (v := .tuple #[.slice none 0 0, .bool false]) (by simp [results, Try.results146, go_sem]) rfl ⟨_, rfl, (Row.nil w2 w.heap.size).own (by simp), HQ.out⟩
      · rw [show powsB x.a x.b x.c = true from hpx] at HFit
        have HXK := Lib.hid (show addT p (mkT p x) (mkK p L k) = mkK p L (k + 1) by rw [hx, mkK_next hlt])
        have HPK := Lib.hid (show (L.take (k + 1)).all pwB = true by rw [pw_snoc hlt, hpw, ← hx, hpx]; rfl)
        clear hx hS hR hv hb hc hpw hpx hr1 hW1 hf1 hn1 hnv hSn hwn
        go_wp2_with fail
        rw [← HW1.out, ← hne]
        clear hne
        go_wp2_with fail
        refine (HFit.out _).mono ?_
        rintro e w2 ⟨rfl, hb2⟩
        clear t0 t1 t2 t3
        obtain ⟨⟨t0, t1, t2, t3⟩, f3, hn2, -, -, -⟩ := HF.out w2 hb2
        simp only [Nat.zero_add] at t0 t1 t2 t3
        have HB2 := Lib.hid hb2
        clear hb2
        go_wp2_with fail
        refine (iRed p x.t _ HP.out).mono ?_
        rintro e w3 ⟨rfl, rfl⟩
        go_wp2_with fail
        obtain ⟨hT2, -, hn2', hS2, hR2, hB2⟩ := HF.out w2 HB2.out
        obtain ⟨hv0, hSn, hwn⟩ := HNV.out
        obtain ⟨W3, hW3⟩ : ∃ W3, W3 = w2.setCell ⟨n, 3, none⟩ (.int .i64 (x.t % p)) := ⟨_, rfl⟩
        have hS3 : SumW W3 S p v := by
          rw [hW3]
          have ne : ∀ i, (⟨n, 3, none⟩ : Addr) ≠ ⟨S, i, none⟩ := fun i e => by have := congrArg Addr.block e; simp at this; omega
          exact ⟨by rw [World.cell?_setCell_other _ _ _ _ (ne 0)]; exact hS2.c0, by rw [World.cell?_setCell_other _ _ _ _ (ne 1)]; exact hS2.c1, by rw [World.frozen?_setCell]; exact hS2.f0, by rw [World.frozen?_setCell]; exact hS2.f1, by simpa using hS2.sz⟩
        have hR3 : Row W3 w.heap.size v (mkK p L k) := by
          rw [hW3]
          exact World.ownsRow.kept (row := some n) hR2 ⟨rfl, rfl, rfl, by simp, fun k hk hne => Below.heap_setCell _ _ _ _ (fun e => hne (by rw [e]))⟩ (.inr hv0)
        have hB3 : Below w.heap.size w W3 := by rw [hW3]; exact hB2.setCell hwn _
        have hc3 : W3.cell? ⟨n, 0, none⟩ = some (.int .i64 x.a) ∧ W3.cell? ⟨n, 1, none⟩ = some (.int .i64 x.b) ∧ W3.cell? ⟨n, 2, none⟩ = some (.int .i64 x.c) ∧ W3.cell? ⟨n, 3, none⟩ = some (.int .i64 (x.t % p)) := by
          rw [hW3]
          refine ⟨?_, ?_, ?_, World.cell?_setCell_same _ _ _ t3⟩
          · rw [World.cell?_setCell_other _ _ _ _ (by simp)]; exact t0
          · rw [World.cell?_setCell_other _ _ _ _ (by simp)]; exact t1
          · rw [World.cell?_setCell_other _ _ _ _ (by simp)]; exact t2
        have H3 := Lib.hid (And.intro hS3 (And.intro hR3 hB3))
        rw [← hW3]
        clear t0 t1 t2 t3 f3 hT2 hS2 hR2 hB2 hS3 hR3 hB3 hW3 hv0
        obtain ⟨t0, t1, t2, t3⟩ := hc3
        go_wp2_with fail
        have hf := mkK_facts (p := p) (L := L) HP.out hk hl
        have hpb := isP_bd HP.out
        refine (iPut w.heap.size S p v (mkK p L k) (mkT p x) W3 H3.out.1 H3.out.2.1 H3.out.2.2.size HP.out hf.1 hf.2.1 (isE_iff.2 (emod_bd hpb.1)) (by omega) HV2.out).mono ?_
        rintro e w4 hP4
        have hlow := hP4.low H3.out.2.1 hSB H3.out.2.2.size
        obtain ⟨rfl, v', hS', hR', hv', _, _⟩ := hP4
        rw [HXK.out] at hR'
        have HQ := Lib.hid (And.intro HPK.out (And.intro hS' (And.intro hR' (And.intro hv' (H3.out.2.2.trans hlow)))))
        clear hS' hR' hv' hlow hf hpb t0 t1 t2 t3
        go_wp2_with fail
        go_roundw
        case rel => exact ⟨k + 1, v', by omega, by go_num, HQ.out⟩
        case measure => simp [intOf]; omega
    · have hkl : k = L.length := by omega
      subst hkl
      rw [List.take_length] at hpw
      have hok : makeOk p L = validB p (mkK p L L.length) := by unfold makeOk; rw [HP.out, hpw, decide_eq_true hl]; rfl
      have hb1 : b = validB p (mkK p L L.length) := by rw [HBE.out, hok]
      have hR1 : R = if b = true then mkK p L L.length else [] := by rw [HRE.out]; unfold makeV; rw [hok, hb1]
      have hf := mkK_facts (p := p) (L := L) HP.out (Nat.le_refl _) hl
      have hown := hR.own (by omega)
      obtain ⟨M, hM⟩ : ∃ M, M = mkK p L L.length := ⟨_, rfl⟩
      rw [← hM] at hown hb1 hR1
      obtain ⟨hl2, ao, co, rfl, _⟩ := hown.trms
      have HO := Lib.hid hown
      have Hb := Lib.hid hb
      have HT := Lib.hid (iPolyOf S p ao co M wr hS hown.trms)
      rw [HP.out, ← hb1] at HT
      clear hown hS hb hR hf hv hpw hok hM
      cases b
      · have hz : R = [] := by rw [hR1]; rfl
        subst hz
        clear hb1 hR1
        go_wp2_with (go_at_call 84; refine HT.out.mono ?_; rintro e w5 ⟨rfl, hb5⟩)
        have H5 := Lib.hid (Hb.out.trans (hb5.mono Hb.out.size))
        refine bodyPost_ret (v := .tuple #[.slice none 0 0, .bool false]) (by simp [results, Try.results146, go_sem]) rfl ⟨_, rfl, (Row.nil _ w.heap.size).own (by simp), H5.out⟩
      · have hz : R = M := by rw [hR1]; rfl
        subst hz
        clear hb1 hR1
        go_wp2_with (go_at_call 84; refine HT.out.mono ?_; rintro e w5 ⟨rfl, hb5⟩)
        have H5 := Lib.hid (And.intro (HO.out.below hb5) (Hb.out.trans (hb5.mono Hb.out.size)))
        refine bodyPost_ret (v := .tuple #[.slice ao R.length co, .bool true]) (by simp [results, Try.results146, go_sem]) rfl ⟨_, rfl, H5.out.1, H5.out.2⟩
theorem makeOk_no {p : Int} {L : List Trm} (h : (isP p && decide (L.length ≤ 60)) = false) : makeOk p L = false ∧ makeV p L = [] := by
  have e : makeOk p L = false := by unfold makeOk; rw [h]; rfl
  exact ⟨e, by unfold makeV; rw [e]; rfl⟩
theorem iMakePoly (p : Int) (f : Value) (L : List Trm) (w : World) (hL : Trms w f L) : Calls Try.prog 146 #[.int .i64 p, f] w (GivesPB (makeV p L) (makeOk p L) w) := by
  obtain ⟨l0, a, cap, rfl, l1⟩ := hL
  cases h : (isP p && decide (L.length ≤ 60))
  · rw [(makeOk_no h).1, (makeOk_no h).2]
    exact iMakePoly_no p a L.length cap w h
  · simp only [Bool.and_eq_true, decide_eq_true_eq] at h
    exact iMakePoly_yes p a cap L w h.1 h.2 ⟨l0, a, cap, rfl, l1⟩ _ _ rfl rfl
end Go.Proofs.Ytbgcamkclbcaiaa
namespace Go.Proofs.Ytbgcamkclbcaiaa
open Go.RowKit
end Go.Proofs.Ytbgcamkclbcaiaa
