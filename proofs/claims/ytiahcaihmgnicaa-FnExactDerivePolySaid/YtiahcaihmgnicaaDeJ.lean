/-
  DerivePoly, of the program, and the walk of its exact law. Conditions: none but that the slice reads as a list of terms.
-/
import Derived.Test.YtiahcaihmgnicaaDeI
namespace Go.Proofs.Ytiahcaihmgnicaa
open Go.RowKit
set_option maxRecDepth 100000 in
set_option maxHeartbeats 8000000 in
theorem iDerive_yes0 (p : Int) (a : Option Addr) (cap : Nat) (L : List Trm) (w : World) (hp : isP p = true) (hV : validB p L = true) (hL : Trms w (.slice a L.length cap) L) (R : List Trm) (b : Bool) (hR : R = if b = true then derK p 0 L L.length else []) (hb : b = validB p (derK p 0 L L.length)) :
    Calls Try.prog 31 #[.int .i64 p, .slice a L.length cap, .int .i64 0] w (GivesPB R b w) := by
  have HP := Lib.hid hp
  have HV := Lib.hid hV
  have HRE := Lib.hid hR
  have HBE := Lib.hid hb
  have hl := validB_len hV
  have HIN := Lib.hid (iUnk2 0)
  rw [show vB 0 = true by decide] at HIN
  have HPV := Lib.hid (iPolyValid p _ L w hL)
  rw [hp, hV, show (true && true) = true from rfl] at HPV
  have HL := Lib.hid hL
  clear hp hV hL hR hb
  go_enter Try.func31, Try.ntmps31
  go_wp2_with fail
  refine HPV.out.mono ?_
  rintro e w2 ⟨rfl, hb2⟩
  have HB2 := Lib.hid hb2
  clear hb2
  go_wp2_with fail
  refine (HIN.out _).mono ?_
  rintro e w3 ⟨rfl, rfl⟩
  go_wp2_with fail
  obtain ⟨W, hW⟩ : ∃ W, W = w2.alloc (Obj.cells #[.int .i64 p, .slice none 0 0] 76) := ⟨_, rfl⟩
  obtain ⟨S, hSe⟩ : ∃ S, S = w2.heap.size := ⟨_, rfl⟩
  have hSB : w.heap.size ≤ S := by rw [hSe]; exact HB2.out.size
  have HW := Lib.hid (show SumW W S p (.slice none 0 0) ∧ Row W w.heap.size (.slice none 0 0) (derK p 0 L 0) ∧ Value.ownBlock (.slice none 0 0) ≠ some S ∧ Below w.heap.size w W by
    rw [hW, hSe, derK_zero]
    exact ⟨⟨by simp [go_sem], by simp [go_sem], World.frozen?_alloc_at _ _ _ 0 rfl, World.frozen?_alloc_at _ _ _ 1 rfl, by simp⟩, Row.nil _ _, by simp [Value.ownBlock], Below.alloc HB2.out HB2.out.size _⟩)
  rw [← hW, ← hSe]
  clear hSe hW
  go_loopw [24] (fun i wr => ∃ (k : Nat) (v : Value), k ≤ L.length ∧ i = .int .i64 k ∧ SumW wr S p v ∧ Row wr w.heap.size v (derK p 0 L k) ∧ v.ownBlock ≠ some S ∧ Below w.heap.size w wr) (fun i _ => L.length - (intOf i).toNat)
  case atStart => exact ⟨0, _, by omega, rfl, HW.out⟩
  case round =>
    clear HW
    obtain ⟨k, v, hk, rfl, hS, hR, hv, hb⟩ := hrel
    by_cases hlt : k < L.length
    · have hltp : (k : Int) < (L.length : Int) := by omega
      have hk0 : (0 : Int) ≤ (k : Int) := by omega
      obtain ⟨x, hx⟩ : ∃ x, x = L.getD k default := ⟨_, rfl⟩
      have hel := validB_el HV.out hlt hx
      obtain ⟨ha, hbb, hcc⟩ := validB_pows HV.out hlt hx
      have HD := Lib.hid (fun w => iDerived0 p x w HP.out (isE_iff.2 (by omega)) ha)
      have HXK := Lib.hid (show addT p ⟨x.a - 1, x.b, x.c, x.t * x.a % p⟩ (derK p 0 L k) = derK p 0 L (k + 1) by
        rw [← derK_next hlt, ← hx]
        by_cases hz : x.a = 0
        · rw [derT_z0 p x hz, addT_zero0 (by show x.t * x.a % p = 0; rw [hz]; simp), addT_zero0 (by show x.t * x.a % p = 0; rw [hz]; simp)]
        · rw [derT_at0 p x hz])
      obtain ⟨g, off, rfl, hg, hc⟩ : ∃ g off, a = some ⟨g, off, none⟩ ∧ g < w.heap.size ∧ ∀ j : Nat, j < L.length → TAt w g (off + j * 4) (L.getD j default) := by
        obtain ⟨_, a', cap', he, h⟩ := HL.out
        injection he with e1 e2 e3
        subst e1
        rcases h with h | h
        · rw [h] at hlt; simp at hlt
        · exact h
      obtain ⟨b0, b1, b2, b3⟩ := (hc k hlt).below hb hg
      rw [← hx] at b0 b1 b2 b3
      have HV2 := Lib.hid hv
      have HS := Lib.hid hS
      have HR := Lib.hid hR
      have Hb := Lib.hid hb
      have H0 := Lib.hid (Below.alloc (Below.refl wr.heap.size wr) (Nat.le_refl _) (Obj.cells #[.int .i64 x.a, .int .i64 x.b, .int .i64 x.c, .int .i64 x.t] 68))
      clear hx hS hR hv hb hc hel ha hbb hcc
      go_wp2_with fail
      refine (HD.out _).mono ?_
      rintro e w3 ⟨rfl, hb3⟩
      have H3 := Lib.hid (H0.out.trans (hb3.mono H0.out.size))
      have H4 := Lib.hid (Hb.out.trans (H3.out.mono Hb.out.size))
      clear hb3
      go_wp2_with fail
      have hf := derK_facts (p := p) (v := 0) (L := L) HP.out hk hl
      have hpb := isP_bd HP.out
      refine (iPut w.heap.size S p v (derK p 0 L k) ⟨x.a - 1, x.b, x.c, x.t * x.a % p⟩ w3 (HS.out.below H3.out) (HR.out.below H3.out) H4.out.size HP.out hf.1 hf.2.1 (isE_iff.2 (emod_bd hpb.1)) (by omega) HV2.out).mono ?_
      rintro e w4 hP4
      have hlow := hP4.low (HR.out.below H3.out) hSB H4.out.size
      obtain ⟨rfl, v', hS', hR', hv', _, _⟩ := hP4
      rw [HXK.out] at hR'
      have HQ := Lib.hid (And.intro hS' (And.intro hR' (And.intro hv' (H4.out.trans hlow))))
      clear hS' hR' hv' hlow hf hpb
      go_wp2_with fail
      go_roundw
      case rel => exact ⟨k + 1, v', by omega, by go_num, HQ.out⟩
      case measure => simp [intOf]; omega
    · have hkl : k = L.length := by omega
      subst hkl
      have hb1 := HBE.out
      have hR1 := HRE.out
      have hf := derK_facts (p := p) (v := 0) (L := L) HP.out (Nat.le_refl _) hl
      have hown := hR.own (by omega)
      obtain ⟨M, hM⟩ : ∃ M, M = derK p 0 L L.length := ⟨_, rfl⟩
      rw [← hM] at hown hb1 hR1
      obtain ⟨hl2, ao, co, rfl, _⟩ := hown.trms
      have HO := Lib.hid hown
      have Hb := Lib.hid hb
      have HT := Lib.hid (iPolyOf S p ao co M wr hS hown.trms)
      rw [HP.out, ← hb1] at HT
      clear hown hS hb hR hf hv hM
      cases b
      · have hz : R = [] := by rw [hR1]; rfl
        subst hz
        clear hb1 hR1
        go_wp2_with (go_at_call 70; refine HT.out.mono ?_; rintro e w5 ⟨rfl, hb5⟩)
        have H5 := Lib.hid (Hb.out.trans (hb5.mono Hb.out.size))
        refine bodyPost_ret (v := .tuple #[.slice none 0 0, .bool false]) (by simp [results, Try.results31, go_sem]) rfl ⟨_, rfl, (Row.nil _ w.heap.size).own (by simp), H5.out⟩
      · have hz : R = M := by rw [hR1]; rfl
        subst hz
        clear hb1 hR1
        go_wp2_with (go_at_call 70; refine HT.out.mono ?_; rintro e w5 ⟨rfl, hb5⟩)
        have H5 := Lib.hid (And.intro (HO.out.below hb5) (Hb.out.trans (hb5.mono Hb.out.size)))
        refine bodyPost_ret (v := .tuple #[.slice ao R.length co, .bool true]) (by simp [results, Try.results31, go_sem]) rfl ⟨_, rfl, H5.out.1, H5.out.2⟩
set_option maxRecDepth 100000 in
set_option maxHeartbeats 8000000 in
theorem iDerive_yes1 (p : Int) (a : Option Addr) (cap : Nat) (L : List Trm) (w : World) (hp : isP p = true) (hV : validB p L = true) (hL : Trms w (.slice a L.length cap) L) (R : List Trm) (b : Bool) (hR : R = if b = true then derK p 1 L L.length else []) (hb : b = validB p (derK p 1 L L.length)) :
    Calls Try.prog 31 #[.int .i64 p, .slice a L.length cap, .int .i64 1] w (GivesPB R b w) := by
  have HP := Lib.hid hp
  have HV := Lib.hid hV
  have HRE := Lib.hid hR
  have HBE := Lib.hid hb
  have hl := validB_len hV
  have HIN := Lib.hid (iUnk2 1)
  rw [show vB 1 = true by decide] at HIN
  have HPV := Lib.hid (iPolyValid p _ L w hL)
  rw [hp, hV, show (true && true) = true from rfl] at HPV
  have HL := Lib.hid hL
  clear hp hV hL hR hb
  go_enter Try.func31, Try.ntmps31
  go_wp2_with fail
  refine HPV.out.mono ?_
  rintro e w2 ⟨rfl, hb2⟩
  have HB2 := Lib.hid hb2
  clear hb2
  go_wp2_with fail
  refine (HIN.out _).mono ?_
  rintro e w3 ⟨rfl, rfl⟩
  go_wp2_with fail
  obtain ⟨W, hW⟩ : ∃ W, W = w2.alloc (Obj.cells #[.int .i64 p, .slice none 0 0] 76) := ⟨_, rfl⟩
  obtain ⟨S, hSe⟩ : ∃ S, S = w2.heap.size := ⟨_, rfl⟩
  have hSB : w.heap.size ≤ S := by rw [hSe]; exact HB2.out.size
  have HW := Lib.hid (show SumW W S p (.slice none 0 0) ∧ Row W w.heap.size (.slice none 0 0) (derK p 1 L 0) ∧ Value.ownBlock (.slice none 0 0) ≠ some S ∧ Below w.heap.size w W by
    rw [hW, hSe, derK_zero]
    exact ⟨⟨by simp [go_sem], by simp [go_sem], World.frozen?_alloc_at _ _ _ 0 rfl, World.frozen?_alloc_at _ _ _ 1 rfl, by simp⟩, Row.nil _ _, by simp [Value.ownBlock], Below.alloc HB2.out HB2.out.size _⟩)
  rw [← hW, ← hSe]
  clear hSe hW
  go_loopw [24] (fun i wr => ∃ (k : Nat) (v : Value), k ≤ L.length ∧ i = .int .i64 k ∧ SumW wr S p v ∧ Row wr w.heap.size v (derK p 1 L k) ∧ v.ownBlock ≠ some S ∧ Below w.heap.size w wr) (fun i _ => L.length - (intOf i).toNat)
  case atStart => exact ⟨0, _, by omega, rfl, HW.out⟩
  case round =>
    clear HW
    obtain ⟨k, v, hk, rfl, hS, hR, hv, hb⟩ := hrel
    by_cases hlt : k < L.length
    · have hltp : (k : Int) < (L.length : Int) := by omega
      have hk0 : (0 : Int) ≤ (k : Int) := by omega
      obtain ⟨x, hx⟩ : ∃ x, x = L.getD k default := ⟨_, rfl⟩
      have hel := validB_el HV.out hlt hx
      obtain ⟨ha, hbb, hcc⟩ := validB_pows HV.out hlt hx
      have HD := Lib.hid (fun w => iDerived1 p x w HP.out (isE_iff.2 (by omega)) hbb)
      have HXK := Lib.hid (show addT p ⟨x.a, x.b - 1, x.c, x.t * x.b % p⟩ (derK p 1 L k) = derK p 1 L (k + 1) by
        rw [← derK_next hlt, ← hx]
        by_cases hz : x.b = 0
        · rw [derT_z1 p x hz, addT_zero0 (by show x.t * x.b % p = 0; rw [hz]; simp), addT_zero0 (by show x.t * x.b % p = 0; rw [hz]; simp)]
        · rw [derT_at1 p x hz])
      obtain ⟨g, off, rfl, hg, hc⟩ : ∃ g off, a = some ⟨g, off, none⟩ ∧ g < w.heap.size ∧ ∀ j : Nat, j < L.length → TAt w g (off + j * 4) (L.getD j default) := by
        obtain ⟨_, a', cap', he, h⟩ := HL.out
        injection he with e1 e2 e3
        subst e1
        rcases h with h | h
        · rw [h] at hlt; simp at hlt
        · exact h
      obtain ⟨b0, b1, b2, b3⟩ := (hc k hlt).below hb hg
      rw [← hx] at b0 b1 b2 b3
      have HV2 := Lib.hid hv
      have HS := Lib.hid hS
      have HR := Lib.hid hR
      have Hb := Lib.hid hb
      have H0 := Lib.hid (Below.alloc (Below.refl wr.heap.size wr) (Nat.le_refl _) (Obj.cells #[.int .i64 x.a, .int .i64 x.b, .int .i64 x.c, .int .i64 x.t] 68))
      clear hx hS hR hv hb hc hel ha hbb hcc
      go_wp2_with fail
      refine (HD.out _).mono ?_
      rintro e w3 ⟨rfl, hb3⟩
      have H3 := Lib.hid (H0.out.trans (hb3.mono H0.out.size))
      have H4 := Lib.hid (Hb.out.trans (H3.out.mono Hb.out.size))
      clear hb3
      go_wp2_with fail
      have hf := derK_facts (p := p) (v := 1) (L := L) HP.out hk hl
      have hpb := isP_bd HP.out
      refine (iPut w.heap.size S p v (derK p 1 L k) ⟨x.a, x.b - 1, x.c, x.t * x.b % p⟩ w3 (HS.out.below H3.out) (HR.out.below H3.out) H4.out.size HP.out hf.1 hf.2.1 (isE_iff.2 (emod_bd hpb.1)) (by omega) HV2.out).mono ?_
      rintro e w4 hP4
      have hlow := hP4.low (HR.out.below H3.out) hSB H4.out.size
      obtain ⟨rfl, v', hS', hR', hv', _, _⟩ := hP4
      rw [HXK.out] at hR'
      have HQ := Lib.hid (And.intro hS' (And.intro hR' (And.intro hv' (H4.out.trans hlow))))
      clear hS' hR' hv' hlow hf hpb
      go_wp2_with fail
      go_roundw
      case rel => exact ⟨k + 1, v', by omega, by go_num, HQ.out⟩
      case measure => simp [intOf]; omega
    · have hkl : k = L.length := by omega
      subst hkl
      have hb1 := HBE.out
      have hR1 := HRE.out
      have hf := derK_facts (p := p) (v := 1) (L := L) HP.out (Nat.le_refl _) hl
      have hown := hR.own (by omega)
      obtain ⟨M, hM⟩ : ∃ M, M = derK p 1 L L.length := ⟨_, rfl⟩
      rw [← hM] at hown hb1 hR1
      obtain ⟨hl2, ao, co, rfl, _⟩ := hown.trms
      have HO := Lib.hid hown
      have Hb := Lib.hid hb
      have HT := Lib.hid (iPolyOf S p ao co M wr hS hown.trms)
      rw [HP.out, ← hb1] at HT
      clear hown hS hb hR hf hv hM
      cases b
      · have hz : R = [] := by rw [hR1]; rfl
        subst hz
        clear hb1 hR1
        go_wp2_with (go_at_call 70; refine HT.out.mono ?_; rintro e w5 ⟨rfl, hb5⟩)
        have H5 := Lib.hid (Hb.out.trans (hb5.mono Hb.out.size))
        refine bodyPost_ret (v := .tuple #[.slice none 0 0, .bool false]) (by simp [results, Try.results31, go_sem]) rfl ⟨_, rfl, (Row.nil _ w.heap.size).own (by simp), H5.out⟩
      · have hz : R = M := by rw [hR1]; rfl
        subst hz
        clear hb1 hR1
        go_wp2_with (go_at_call 70; refine HT.out.mono ?_; rintro e w5 ⟨rfl, hb5⟩)
        have H5 := Lib.hid (And.intro (HO.out.below hb5) (Hb.out.trans (hb5.mono Hb.out.size)))
        refine bodyPost_ret (v := .tuple #[.slice ao R.length co, .bool true]) (by simp [results, Try.results31, go_sem]) rfl ⟨_, rfl, H5.out.1, H5.out.2⟩
set_option maxRecDepth 100000 in
set_option maxHeartbeats 8000000 in
theorem iDerive_yes2 (p : Int) (a : Option Addr) (cap : Nat) (L : List Trm) (w : World) (hp : isP p = true) (hV : validB p L = true) (hL : Trms w (.slice a L.length cap) L) (R : List Trm) (b : Bool) (hR : R = if b = true then derK p 2 L L.length else []) (hb : b = validB p (derK p 2 L L.length)) :
    Calls Try.prog 31 #[.int .i64 p, .slice a L.length cap, .int .i64 2] w (GivesPB R b w) := by
  have HP := Lib.hid hp
  have HV := Lib.hid hV
  have HRE := Lib.hid hR
  have HBE := Lib.hid hb
  have hl := validB_len hV
  have HIN := Lib.hid (iUnk2 2)
  rw [show vB 2 = true by decide] at HIN
  have HPV := Lib.hid (iPolyValid p _ L w hL)
  rw [hp, hV, show (true && true) = true from rfl] at HPV
  have HL := Lib.hid hL
  clear hp hV hL hR hb
  go_enter Try.func31, Try.ntmps31
  go_wp2_with fail
  refine HPV.out.mono ?_
  rintro e w2 ⟨rfl, hb2⟩
  have HB2 := Lib.hid hb2
  clear hb2
  go_wp2_with fail
  refine (HIN.out _).mono ?_
  rintro e w3 ⟨rfl, rfl⟩
  go_wp2_with fail
  obtain ⟨W, hW⟩ : ∃ W, W = w2.alloc (Obj.cells #[.int .i64 p, .slice none 0 0] 76) := ⟨_, rfl⟩
  obtain ⟨S, hSe⟩ : ∃ S, S = w2.heap.size := ⟨_, rfl⟩
  have hSB : w.heap.size ≤ S := by rw [hSe]; exact HB2.out.size
  have HW := Lib.hid (show SumW W S p (.slice none 0 0) ∧ Row W w.heap.size (.slice none 0 0) (derK p 2 L 0) ∧ Value.ownBlock (.slice none 0 0) ≠ some S ∧ Below w.heap.size w W by
    rw [hW, hSe, derK_zero]
    exact ⟨⟨by simp [go_sem], by simp [go_sem], World.frozen?_alloc_at _ _ _ 0 rfl, World.frozen?_alloc_at _ _ _ 1 rfl, by simp⟩, Row.nil _ _, by simp [Value.ownBlock], Below.alloc HB2.out HB2.out.size _⟩)
  rw [← hW, ← hSe]
  clear hSe hW
  go_loopw [24] (fun i wr => ∃ (k : Nat) (v : Value), k ≤ L.length ∧ i = .int .i64 k ∧ SumW wr S p v ∧ Row wr w.heap.size v (derK p 2 L k) ∧ v.ownBlock ≠ some S ∧ Below w.heap.size w wr) (fun i _ => L.length - (intOf i).toNat)
  case atStart => exact ⟨0, _, by omega, rfl, HW.out⟩
  case round =>
    clear HW
    obtain ⟨k, v, hk, rfl, hS, hR, hv, hb⟩ := hrel
    by_cases hlt : k < L.length
    · have hltp : (k : Int) < (L.length : Int) := by omega
      have hk0 : (0 : Int) ≤ (k : Int) := by omega
      obtain ⟨x, hx⟩ : ∃ x, x = L.getD k default := ⟨_, rfl⟩
      have hel := validB_el HV.out hlt hx
      obtain ⟨ha, hbb, hcc⟩ := validB_pows HV.out hlt hx
      have HD := Lib.hid (fun w => iDerived2 p x w HP.out (isE_iff.2 (by omega)) hcc)
      have HXK := Lib.hid (show addT p ⟨x.a, x.b, x.c - 1, x.t * x.c % p⟩ (derK p 2 L k) = derK p 2 L (k + 1) by
        rw [← derK_next hlt, ← hx]
        by_cases hz : x.c = 0
        · rw [derT_z2 p x hz, addT_zero0 (by show x.t * x.c % p = 0; rw [hz]; simp), addT_zero0 (by show x.t * x.c % p = 0; rw [hz]; simp)]
        · rw [derT_at2 p x hz])
      obtain ⟨g, off, rfl, hg, hc⟩ : ∃ g off, a = some ⟨g, off, none⟩ ∧ g < w.heap.size ∧ ∀ j : Nat, j < L.length → TAt w g (off + j * 4) (L.getD j default) := by
        obtain ⟨_, a', cap', he, h⟩ := HL.out
        injection he with e1 e2 e3
        subst e1
        rcases h with h | h
        · rw [h] at hlt; simp at hlt
        · exact h
      obtain ⟨b0, b1, b2, b3⟩ := (hc k hlt).below hb hg
      rw [← hx] at b0 b1 b2 b3
      have HV2 := Lib.hid hv
      have HS := Lib.hid hS
      have HR := Lib.hid hR
      have Hb := Lib.hid hb
      have H0 := Lib.hid (Below.alloc (Below.refl wr.heap.size wr) (Nat.le_refl _) (Obj.cells #[.int .i64 x.a, .int .i64 x.b, .int .i64 x.c, .int .i64 x.t] 68))
      clear hx hS hR hv hb hc hel ha hbb hcc
      go_wp2_with fail
      refine (HD.out _).mono ?_
      rintro e w3 ⟨rfl, hb3⟩
      have H3 := Lib.hid (H0.out.trans (hb3.mono H0.out.size))
      have H4 := Lib.hid (Hb.out.trans (H3.out.mono Hb.out.size))
      clear hb3
      go_wp2_with fail
      have hf := derK_facts (p := p) (v := 2) (L := L) HP.out hk hl
      have hpb := isP_bd HP.out
      refine (iPut w.heap.size S p v (derK p 2 L k) ⟨x.a, x.b, x.c - 1, x.t * x.c % p⟩ w3 (HS.out.below H3.out) (HR.out.below H3.out) H4.out.size HP.out hf.1 hf.2.1 (isE_iff.2 (emod_bd hpb.1)) (by omega) HV2.out).mono ?_
      rintro e w4 hP4
      have hlow := hP4.low (HR.out.below H3.out) hSB H4.out.size
      obtain ⟨rfl, v', hS', hR', hv', _, _⟩ := hP4
      rw [HXK.out] at hR'
      have HQ := Lib.hid (And.intro hS' (And.intro hR' (And.intro hv' (H4.out.trans hlow))))
      clear hS' hR' hv' hlow hf hpb
      go_wp2_with fail
      go_roundw
      case rel => exact ⟨k + 1, v', by omega, by go_num, HQ.out⟩
      case measure => simp [intOf]; omega
    · have hkl : k = L.length := by omega
      subst hkl
      have hb1 := HBE.out
      have hR1 := HRE.out
      have hf := derK_facts (p := p) (v := 2) (L := L) HP.out (Nat.le_refl _) hl
      have hown := hR.own (by omega)
      obtain ⟨M, hM⟩ : ∃ M, M = derK p 2 L L.length := ⟨_, rfl⟩
      rw [← hM] at hown hb1 hR1
      obtain ⟨hl2, ao, co, rfl, _⟩ := hown.trms
      have HO := Lib.hid hown
      have Hb := Lib.hid hb
      have HT := Lib.hid (iPolyOf S p ao co M wr hS hown.trms)
      rw [HP.out, ← hb1] at HT
      clear hown hS hb hR hf hv hM
      cases b
      · have hz : R = [] := by rw [hR1]; rfl
        subst hz
        clear hb1 hR1
        go_wp2_with (go_at_call 70; refine HT.out.mono ?_; rintro e w5 ⟨rfl, hb5⟩)
        have H5 := Lib.hid (Hb.out.trans (hb5.mono Hb.out.size))
        refine bodyPost_ret (v := .tuple #[.slice none 0 0, .bool false]) (by simp [results, Try.results31, go_sem]) rfl ⟨_, rfl, (Row.nil _ w.heap.size).own (by simp), H5.out⟩
      · have hz : R = M := by rw [hR1]; rfl
        subst hz
        clear hb1 hR1
        go_wp2_with (go_at_call 70; refine HT.out.mono ?_; rintro e w5 ⟨rfl, hb5⟩)
        have H5 := Lib.hid (And.intro (HO.out.below hb5) (Hb.out.trans (hb5.mono Hb.out.size)))
        refine bodyPost_ret (v := .tuple #[.slice ao R.length co, .bool true]) (by simp [results, Try.results31, go_sem]) rfl ⟨_, rfl, H5.out.1, H5.out.2⟩
theorem sDerivePoly (p v : Int) (f : Value) (L : List Trm) (w : World) (hL : Trms w f L) : Calls Try.prog 30 #[.int .i64 p, f, .int .i64 v] w (GivesPB (derV p L v) (derOk p L v) w) := by
  cases h : ((isP p && validB p L) && vB v)
  · rw [(derOk_no h).1, (derOk_no h).2]
    exact sDerive_no p v f L w hL h
  · rw [(derOk_yes h).1, (derOk_yes h).2]
    simp only [Bool.and_eq_true] at h
    obtain ⟨l0, a, cap, rfl, l1⟩ := hL
    rcases vB_cases h.2 with rfl | rfl | rfl
    · exact sDerive_yes0 p a cap L w h.1.1 h.1.2 ⟨l0, a, cap, rfl, l1⟩ _ _ rfl rfl
    · exact sDerive_yes1 p a cap L w h.1.1 h.1.2 ⟨l0, a, cap, rfl, l1⟩ _ _ rfl rfl
    · exact sDerive_yes2 p a cap L w h.1.1 h.1.2 ⟨l0, a, cap, rfl, l1⟩ _ _ rfl rfl
theorem iDerivePoly (p v : Int) (f : Value) (L : List Trm) (w : World) (hL : Trms w f L) : Calls Try.prog 31 #[.int .i64 p, f, .int .i64 v] w (GivesPB (derV p L v) (derOk p L v) w) := by
  cases h : ((isP p && validB p L) && vB v)
  · rw [(derOk_no h).1, (derOk_no h).2]
    exact iDerive_no p v f L w hL h
  · rw [(derOk_yes h).1, (derOk_yes h).2]
    simp only [Bool.and_eq_true] at h
    obtain ⟨l0, a, cap, rfl, l1⟩ := hL
    rcases vB_cases h.2 with rfl | rfl | rfl
    · exact iDerive_yes0 p a cap L w h.1.1 h.1.2 ⟨l0, a, cap, rfl, l1⟩ _ _ rfl rfl
    · exact iDerive_yes1 p a cap L w h.1.1 h.1.2 ⟨l0, a, cap, rfl, l1⟩ _ _ rfl rfl
    · exact iDerive_yes2 p a cap L w h.1.1 h.1.2 ⟨l0, a, cap, rfl, l1⟩ _ _ rfl rfl
set_option maxRecDepth 100000 in
set_option maxHeartbeats 8000000 in
theorem xDerivePoly_in (a0 : Int) (a1 : Option Addr) (L1 : List Trm) (c1 : Nat) (a2 : Int) (r0 : List Trm) (r1 : Bool) (w : World) (h1 : Trms w (.slice a1 L1.length c1) L1) (hl : L1.length ≤ 1048576)
    (hS : ∀ f1, ∀ w, Trms w f1 L1 → Calls Try.prog 30 #[.int .i64 a0, f1, .int .i64 a2] w fun e w' => ∃ u0, e = .returned (.tuple #[u0, .bool r1]) ∧ OwnTrms w' w.heap.size u0 r0 ∧ Below w.heap.size w w')
    (hI : ∀ f1, ∀ w, Trms w f1 L1 → Calls Try.prog 31 #[.int .i64 a0, f1, .int .i64 a2] w fun e w' => ∃ u0, e = .returned (.tuple #[u0, .bool r1]) ∧ OwnTrms w' w.heap.size u0 r0 ∧ Below w.heap.size w w') :
    Calls Try.prog 5 #[.int .i64 a0, .slice a1 L1.length c1, .int .i64 a2] w fun e w' => e = .returned (.bool true) ∧ Below w.heap.size w w' := by
  have m1 : (1048576 : Int) - L1.length ≥ 0 := by omega
  have HS1 := Lib.hid (fun w => szP_at a1 L1.length c1 (1048576) w (by omega) (by omega) (by omega))
  have Q1 := Lib.hid h1
  have n1 : (L1.length : Int) ≤ 1048576 := by omega
  clear h1
  have HSP := Lib.hid hS
  have HIM := Lib.hid hI
  clear hS hI
  have bb1 := bne_self2 r1
  go_enter Try.func5, Try.ntmps5
  go_wp2_with fail
  refine (HS1.out _).mono ?_
  rintro e w' ⟨rfl, rfl⟩
  have B := Lib.hid (Below.refl w.heap.size w)
  go_wp2_with fail
  refine (toP _ L1 _ (Q1.out.below B.out)).mono ?_
  rintro e W1 ⟨s1, rfl, ho, hb⟩
  have Z1 := Lib.hid hb.size
  replace B := Lib.hid (B.out.trans (hb.mono B.out.size))
  clear hb
  have S1 := Lib.hid ho.trms
  clear ho
  go_wp2_with fail
  refine (HSP.out _ _ S1.out).mono ?_
  rintro e W2 ⟨v0, rfl, hv0, hb⟩
  have Z2 := Lib.hid hb.size
  replace B := Lib.hid (B.out.trans (hb.mono B.out.size))
  replace S1 := Lib.hid (S1.out.below hb)
  clear hb
  clear S1
  have V0 := Lib.hid hv0.trms
  have z0 : (r0.length : Int) ≤ 1048576 := by have := hv0.1; omega
  clear hv0
  have X := Lib.hid (Below.refl W2.heap.size W2)
  go_wp2_with fail
  refine (toP _ L1 _ (Q1.out.below B.out)).mono ?_
  rintro e W3 ⟨x1, rfl, ho, hb⟩
  have Z3 := Lib.hid hb.size
  replace B := Lib.hid (B.out.trans (hb.mono B.out.size))
  replace X := Lib.hid (X.out.trans (hb.mono X.out.size))
  clear hb
  have O1 := Lib.hid ho
  clear ho
  have Y1 := Lib.hid (Below.refl W3.heap.size W3)
  go_wp2_with fail
  refine (HIM.out _ _ (O1.out.trms.below Y1.out)).mono ?_
  rintro e W4 ⟨g0, rfl, hg0, hb⟩
  have P1 := Lib.hid (show w.heap.size ≤ W2.heap.size ∧ W2.heap.size ≤ W2.heap.size ∧ W3.heap.size ≤ W3.heap.size by have := B.out.size; have := X.out.size; have := Z1.out; have := Z2.out; have := Z3.out; first | omega | (refine ⟨?_, ?_, ?_⟩ <;> omega))
  have PG := Lib.hid (show w.heap.size ≤ W3.heap.size ∧ W2.heap.size ≤ W3.heap.size by have := Z1.out; have := Z2.out; have := Z3.out; first | omega | (refine ⟨?_, ?_⟩ <;> omega))
  replace B := Lib.hid (B.out.trans (hb.mono B.out.size))
  replace X := Lib.hid (X.out.trans (hb.mono X.out.size))
  replace Y1 := Lib.hid (Y1.out.trans (hb.mono Y1.out.size))
  clear hb
  have G0 := Lib.hid hg0
  clear hg0
  go_wp2_with fail
  refine (eqP g0 v0 r0 _ G0.out.trms (V0.out.below X.out)).mono ?_
  rintro e W5 ⟨rfl, hb⟩
  replace B := Lib.hid (B.out.trans (hb.mono B.out.size))
  replace X := Lib.hid (X.out.trans (hb.mono X.out.size))
  replace Y1 := Lib.hid (Y1.out.trans (hb.mono Y1.out.size))
  replace G0 := Lib.hid (G0.out.below hb)
  clear hb
  go_wp2_with fail
  refine (toP _ L1 _ (Q1.out.below B.out)).mono ?_
  rintro e W6 ⟨y1, rfl, ho, hb⟩
  replace B := Lib.hid (B.out.trans (hb.mono B.out.size))
  replace X := Lib.hid (X.out.trans (hb.mono X.out.size))
  replace Y1 := Lib.hid (Y1.out.trans (hb.mono Y1.out.size))
  replace G0 := Lib.hid (G0.out.below hb)
  clear hb
  have S1 := Lib.hid ho.trms
  clear ho
  go_wp2_with fail
  refine (eqP x1 y1 L1 _ (O1.out.trms.below Y1.out) S1.out).mono ?_
  rintro e W7 ⟨rfl, hb⟩
  clear S1
  replace B := Lib.hid (B.out.trans (hb.mono B.out.size))
  replace X := Lib.hid (X.out.trans (hb.mono X.out.size))
  replace Y1 := Lib.hid (Y1.out.trans (hb.mono Y1.out.size))
  replace G0 := Lib.hid (G0.out.below hb)
  clear hb
  go_wp2_with fail
  refine (markTsame x1 L1 _ (1) W3 _ O1.out (same_of Y1.out) (by omega) (by omega)).mono ?_
  rintro e W8 ⟨rfl, hb⟩
  replace B := Lib.hid (B.out.trans (hb.low.mono P1.out.1))
  replace X := Lib.hid (X.out.trans (hb.low.mono P1.out.2.1))
  replace G0 := Lib.hid (G0.out.betw' P1.out.2.2 hb)
  clear hb
  go_wp2_with fail
  refine (eqP g0 v0 r0 _ G0.out.trms (V0.out.below X.out)).mono ?_
  rintro e W9 ⟨rfl, hb⟩
  replace B := Lib.hid (B.out.trans (hb.mono B.out.size))
  replace X := Lib.hid (X.out.trans (hb.mono X.out.size))
  replace G0 := Lib.hid (G0.out.below hb)
  clear hb
  go_wp2_with fail
  refine (markTown g0 r0 _ (1) _ G0.out (by omega) (by omega)).mono ?_
  rintro e W10 ⟨rfl, hh, hb, hs⟩
  replace B := Lib.hid (B.out.trans (hb.mono PG.out.1))
  replace X := Lib.hid (X.out.trans (hb.mono PG.out.2))
  have D0 := Lib.hid hh
  clear hh hb hs
  go_wp2_with fail
  refine (heldTown g0 r0.length _ 1 _ D0.out (by omega) (by omega)).mono ?_
  rintro e W11 ⟨rfl, rfl⟩
  go_wp2_with fail
  refine (toP _ L1 _ (Q1.out.below B.out)).mono ?_
  rintro e W12 ⟨t1, rfl, ho, hb⟩
  replace B := Lib.hid (B.out.trans (hb.mono B.out.size))
  replace X := Lib.hid (X.out.trans (hb.mono X.out.size))
  replace D0 := Lib.hid (D0.out.below hb)
  clear hb
  have S1 := Lib.hid ho.trms
  clear ho
  go_wp2_with fail
  refine (HIM.out _ _ S1.out).mono ?_
  rintro e W13 ⟨t0, rfl, ht0, hb⟩
  replace B := Lib.hid (B.out.trans (hb.mono B.out.size))
  replace X := Lib.hid (X.out.trans (hb.mono X.out.size))
  replace D0 := Lib.hid (D0.out.below hb)
  replace S1 := Lib.hid (S1.out.below hb)
  clear hb
  clear S1
  have T0 := Lib.hid ht0.trms
  clear ht0
  go_wp2_with fail
  refine (eqP t0 v0 r0 _ T0.out (V0.out.below X.out)).mono ?_
  rintro e W14 ⟨rfl, hb⟩
  replace B := Lib.hid (B.out.trans (hb.mono B.out.size))
  replace X := Lib.hid (X.out.trans (hb.mono X.out.size))
  replace D0 := Lib.hid (D0.out.below hb)
  replace T0 := Lib.hid (T0.out.below hb)
  clear hb
  go_wp2_with fail
  refine (heldTown g0 r0.length _ 1 _ D0.out (by omega) (by omega)).mono ?_
  rintro e W15 ⟨rfl, rfl⟩
  go_wp2_with fail
  go_ret
  exact ⟨rfl, B.out⟩
set_option maxHeartbeats 1000000 in
theorem xDerivePoly_long0 (a0 : Int) (a1 : Option Addr) (n1 c1 : Nat) (a2 : Int) (w : World) (h1 : 1048576 < n1) (h2 : n1 ≤ 9223372036854775807) :
    Calls Try.prog 5 #[.int .i64 a0, .slice a1 n1 c1, .int .i64 a2] w fun e w' => e = .returned (.bool true) ∧ Below w.heap.size w w' := by
  have HS1 := Lib.hid (fun w => szP_over a1 n1 c1 (1048576) w (by omega) (by omega) (by omega) (by omega))
  clear h1 h2
  go_enter Try.func5, Try.ntmps5
  go_wp2_with fail
  refine (HS1.out _).mono ?_
  rintro e w' ⟨rfl, rfl⟩
  go_wp2_with fail
  go_ret
  exact ⟨rfl, Below.refl _ _⟩
theorem xDerivePoly (p : Int) (a : Option Addr) (len cap : Nat) (L : List Trm) (v : Int) (w : World) (h : RowT w a len L) :
    Calls Try.prog 5 #[.int .i64 p, .slice a len cap, .int .i64 v] w fun e w' => e = .returned (.bool true) ∧ Below w.heap.size w w' := by
  by_cases hl : len ≤ 1048576
  · have e1 := h.1
    subst e1
    exact xDerivePoly_in p a L cap v (derV p L v) (derOk p L v) w (h.trms hl) hl (fun f w hf => sDerivePoly p v f L w hf) (fun f w hf => iDerivePoly p v f L w hf)
  · exact xDerivePoly_long0 p a len cap v w (by omega) h.2.1
end Go.Proofs.Ytiahcaihmgnicaa
