/-
  Contracts of both PartPoly. Conditions: what the slice holds is known.
-/
import Derived.Test.YtlidplmpglpkgaaBa12
import Derived.Test.YtlidplmpglpkgaaBa2
namespace Go.Proofs.Ytlidplmpglpkgaa
open Go.RowKit
/-- those of the first k terms that have the degree n -/
def partK (L : List Trm) (n : Int) : Nat → List Trm
  | 0 => []
  | k + 1 => if degT (L.getD k default) = n then partK L n k ++ [L.getD k default] else partK L n k
theorem partK_le (L : List Trm) (n : Int) : ∀ k, (partK L n k).length ≤ k
  | 0 => by simp [partK]
  | k + 1 => by
    have := partK_le L n k
    unfold partK
    split <;> simp <;> omega
def partL (p : Int) (L : List Trm) (n : Int) : List Trm := if isP p && validB p L then partK L n L.length else []
set_option maxRecDepth 100000 in
set_option maxHeartbeats 8000000 in
theorem sPart_some (p : Int) (g off cap : Nat) (L : List Trm) (n : Int) (w : World) (hL : isP p = true) (hV : validB p L = true) (hg : g < w.heap.size)
    (hc : ∀ j : Nat, j < L.length → TAt w g (off + j * 4) (L.getD j default)) :
    Calls Try.prog 222 #[.int .i64 p, .slice (some ⟨g, off, none⟩) L.length cap, .int .i64 n] w (GivesPB (partK L n L.length) true w) := by
  have hl := validB_len hV
  obtain ⟨i0, hi, hz0, hz1, hz2⟩ := info_parts infoT
  have HB := Lib.hid (show ∀ w', Below w.heap.size w w' → Calls Try.prog 113 #[.int .i64 p, .slice (some ⟨g, off, none⟩) L.length cap] w' fun e w'' => e = .returned (.bool true) ∧ Below w'.heap.size w' w'' from
    fun w' hb => (sPolyValid p _ L w' ⟨by omega, _, cap, rfl, .inr ⟨g, off, rfl, Nat.lt_of_lt_of_le hg hb.size, fun j hj => (hc j hj).below hb hg⟩⟩).mono fun e w'' h => by rw [hL, hV] at h; exact h)
  have HC := Lib.hid hc
  have HV := Lib.hid hV
  clear hc hV
  go_enter Try.func222, Try.ntmps222
  go_wp2_with fail
  refine (HB.out _ (Below.alloc (Below.refl _ _) (Nat.le_refl _) _)).mono ?_
  rintro e w1 ⟨rfl, hb1⟩
  have H1 := Lib.hid (show Below w.heap.size w w1 from (Below.alloc (Below.refl _ _) (Nat.le_refl _) _).trans (hb1.mono (by simp)))
  have R1 := Lib.hid (show Row w1 w.heap.size (.slice (some ⟨w.heap.size, 0, none⟩) 0 0) [] from (Row.lit0 w w.heap.size (Nat.le_refl _)).below hb1)
  clear hb1
  go_wp2_with fail
  go_loopw [8, 19] (fun v i wr => ∃ k : Nat, k ≤ L.length ∧ i = .int .i64 k ∧ Row wr w.heap.size v (partK L n k) ∧ Below w.heap.size w wr) (fun _ i _ => L.length - (intOf i).toNat)
  case atStart => exact ⟨0, by omega, rfl, R1.out, H1.out⟩
  case round =>
    clear R1 H1
    obtain ⟨k, hk, rfl, hrow, hb⟩ := hrel
    by_cases hlt : k < L.length
    · have hltp : (k : Int) < (L.length : Int) := by omega
      have hk0 : (0 : Int) ≤ (k : Int) := by omega
      obtain ⟨a0, a1, a2, a3⟩ := (HC.out k hlt).below hb hg
      obtain ⟨x, hx⟩ : ∃ x, x = L.getD k default := ⟨_, rfl⟩
      rw [← hx] at a0 a1 a2 a3
      have HX := Lib.hid (validB_pows HV.out hlt hx)
      have HD := Lib.hid (show (if degT x = n then partK L n k ++ [x] else partK L n k) = partK L n (k + 1) by rw [hx]; rfl)
      have Hb := Lib.hid hb
      have HR := Lib.hid hrow
      clear hx hb hrow
      go_wp2_with fail
      refine (sDeg x.a x.b x.c _ HX.out.1 HX.out.2.1 HX.out.2.2).mono ?_
      rintro e w2 ⟨rfl, hb2⟩
      have hT2 : TAt w2 wr.heap.size 0 x := by
        refine TAt.below (B := _) ?_ hb2 (by simp)
        refine ⟨?_, ?_, ?_, ?_⟩ <;> simp [go_sem]
      have hs2 : wr.heap.size < w2.heap.size := by have := hb2.size; simp at this; omega
      have Hr := Lib.hid ((Below.alloc (Below.refl _ _) (Nat.le_refl _) _).trans (hb2.mono (by simp)))
      have H2 := Lib.hid (Hb.out.trans (Hr.out.mono Hb.out.size))
      have HR2 := Lib.hid (HR.out.below Hr.out)
      clear hb2 HR
      obtain ⟨t0, t1, t2, t3⟩ := hT2
      by_cases hd : x.a + x.b + x.c = n
      · have HDn := Lib.hid (show partK L n (k + 1) = partK L n k ++ [x] by rw [← HD.out, if_pos (show degT x = n from hd)])
        have hle := partK_le L n k
        go_wp2_with (at_builtin; refine wpList_append_own _ rfl _ _ 24 rfl w.heap.size 87 i0 (.agg #[.int .i64 0, .int .i64 0, .int .i64 0, .int .i64 0]) 4 32 Try.underlying24 hi hz0 hz1 hz2 rfl (by decide) _ _ _ rfl (World.ownsRow.alloc HR2.out _) ⟨w2.heap.size, 0, none⟩ 1 1 x.cs rfl rfl ?c1 ?c2 ?c3 ?c4 ?c5 ?_)
        case c1 =>
          intro j u hj
          match j, hj with
          | 0, hj => simp [Trm.cs] at hj; subst hj; simp [Addr.add]
          | 1, hj => simp [Trm.cs] at hj; subst hj; simp [Addr.add]
          | 2, hj => simp [Trm.cs] at hj; subst hj; simp [Addr.add]
          | 3, hj => simp [Trm.cs] at hj; subst hj; simp [Addr.add]
          | j + 4, hj => simp [Trm.cs] at hj
        case c2 => intro u hu; exact flat_cell [x] u (by simpa [flat] using hu)
        case c3 => unfold maxLen; omega
        case c4 => omega
        case c5 => have := H2.out.size; simp; omega
        intro v' w3 hown' hgrow _
        have R3 := Lib.hid (show Row w3 w.heap.size v' (partK L n (k + 1)) by
          rw [HDn.out]
          show World.ownsRow _ _ _ _ _ _ _
          rw [flat_app, flat_one, List.length_append]
          exact hown')
        have H3 := Lib.hid (show Below w.heap.size w w3 by
          exact Below.trans (Below.alloc H2.out H2.out.size _) (Row.low (World.ownsRow.alloc HR2.out _) (by have := H2.out.size; simp; omega) hgrow))
        clear hown' hgrow
        go_wp2
        go_roundw
        case rel => exact ⟨k + 1, by omega, by go_num, R3.out, H3.out⟩
        case measure => simp [intOf]; omega
      · have HDn := Lib.hid (show partK L n (k + 1) = partK L n k by rw [← HD.out, if_neg (show ¬ degT x = n from hd)])
        go_wp2_with fail
        go_roundw
        case rel => exact ⟨k + 1, by omega, by go_num, by rw [HDn.out]; exact HR2.out, H2.out⟩
        case measure => simp [intOf]; omega
    · have hkl : k = L.length := by omega
      subst hkl
      have hle := partK_le L n L.length
      go_wp2
      refine bodyPost_ret (v := .tuple #[_, .bool true]) (by simp [results, Try.results222, go_sem]) rfl ⟨_, rfl, hrow.own (by omega), hb⟩
set_option maxHeartbeats 4000000 in
theorem sPart_nil (p : Int) (a : Option Addr) (cap : Nat) (n : Int) (w : World) (hp : isP p = true) :
    Calls Try.prog 222 #[.int .i64 p, .slice a 0 cap, .int .i64 n] w (GivesPB [] true w) := by
  have HB := Lib.hid (show ∀ w', Below w.heap.size w w' → Calls Try.prog 113 #[.int .i64 p, .slice a 0 cap] w' fun e w'' => e = .returned (.bool true) ∧ Below w'.heap.size w' w'' from
    fun w' hb => (sPolyValid p (.slice a 0 cap) [] w' ⟨by simp, a, cap, rfl, .inl rfl⟩).mono fun e w' h => by rw [hp] at h; exact h)
  clear hp
  go_enter Try.func222, Try.ntmps222
  go_wp2_with fail
  refine (HB.out _ (Below.alloc (Below.refl _ _) (Nat.le_refl _) _)).mono ?_
  rintro e w1 ⟨rfl, hb1⟩
  have H1 := Lib.hid (show Below w.heap.size w w1 from (Below.alloc (Below.refl _ _) (Nat.le_refl _) _).trans (hb1.mono (by simp)))
  have R1 := Lib.hid (show Row w1 w.heap.size (.slice (some ⟨w.heap.size, 0, none⟩) 0 0) [] from (Row.lit0 w w.heap.size (Nat.le_refl _)).below hb1)
  clear hb1
  go_wp2_with fail
  go_loop [8, 19] (fun v i => v = (.slice (some ⟨w.heap.size, 0, none⟩) 0 0) ∧ i = .int .i64 0) (fun _ _ => 0)
  case atStart => exact ⟨rfl, rfl⟩
  case round =>
    obtain ⟨rfl, rfl⟩ := hrel
    go_wp2_with fail
    refine bodyPost_ret (v := .tuple #[(.slice (some ⟨w.heap.size, 0, none⟩) 0 0), .bool true]) (by simp [results, Try.results222, go_sem]) rfl ⟨_, rfl, R1.out.own (by simp), H1.out⟩
set_option maxHeartbeats 4000000 in
theorem sPart_no (p : Int) (f : Value) (L : List Trm) (n : Int) (w : World) (h : Trms w f L) (hn : (isP p && validB p L) = false) :
    Calls Try.prog 222 #[.int .i64 p, f, .int .i64 n] w (GivesPB [] false w) := by
  have HB := Lib.hid (show ∀ w', Below w.heap.size w w' → Calls Try.prog 113 #[.int .i64 p, f] w' fun e w'' => e = .returned (.bool false) ∧ Below w'.heap.size w' w'' from
    fun w' hb => (sPolyValid p f L w' (h.below hb)).mono fun e w' h => by rw [hn] at h; exact h)
  clear hn h
  go_enter Try.func222, Try.ntmps222
  go_wp2_with fail
  refine (HB.out _ (Below.alloc (Below.refl _ _) (Nat.le_refl _) _)).mono ?_
  rintro e w1 ⟨rfl, hb1⟩
  have H1 := Lib.hid (show Below w.heap.size w w1 from (Below.alloc (Below.refl _ _) (Nat.le_refl _) _).trans (hb1.mono (by simp)))
  have R1 := Lib.hid (show Row w1 w.heap.size (.slice (some ⟨w.heap.size, 0, none⟩) 0 0) [] from (Row.lit0 w w.heap.size (Nat.le_refl _)).below hb1)
  clear hb1
  go_wp2_with fail
  refine bodyPost_ret (v := .tuple #[_, .bool false]) (by simp [results, Try.results222, go_sem]) rfl ⟨_, rfl, R1.out.own (by simp), H1.out⟩
theorem sPartPoly (p : Int) (f : Value) (L : List Trm) (n : Int) (w : World) (h : Trms w f L) :
    Calls Try.prog 222 #[.int .i64 p, f, .int .i64 n] w (GivesPB (partL p L n) (isP p && validB p L) w) := by
  unfold partL
  cases hn : isP p && validB p L
  · exact sPart_no p f L n w h hn
  · have hn2 := hn
    simp only [Bool.and_eq_true] at hn2
    obtain ⟨hl, a, cap, rfl, h2⟩ := h
    rcases h2 with rfl | ⟨g, off, rfl, hg, hc⟩
    · exact sPart_nil p a cap n w hn2.1
    · exact sPart_some p g off cap L n w hn2.1 hn2.2 hg hc
set_option maxRecDepth 100000 in
set_option maxHeartbeats 8000000 in
theorem iPart_some (p : Int) (g off cap : Nat) (L : List Trm) (n : Int) (w : World) (hL : isP p = true) (hV : validB p L = true) (hg : g < w.heap.size)
    (hc : ∀ j : Nat, j < L.length → TAt w g (off + j * 4) (L.getD j default)) :
    Calls Try.prog 58 #[.int .i64 p, .slice (some ⟨g, off, none⟩) L.length cap, .int .i64 n] w (GivesPB (partK L n L.length) true w) := by
  have hl := validB_len hV
  obtain ⟨i0, hi, hz0, hz1, hz2⟩ := info_parts infoT
  have HB := Lib.hid (show ∀ w', Below w.heap.size w w' → Calls Try.prog 20 #[.int .i64 p, .slice (some ⟨g, off, none⟩) L.length cap] w' fun e w'' => e = .returned (.bool true) ∧ Below w'.heap.size w' w'' from
    fun w' hb => (iPolyValid p _ L w' ⟨by omega, _, cap, rfl, .inr ⟨g, off, rfl, Nat.lt_of_lt_of_le hg hb.size, fun j hj => (hc j hj).below hb hg⟩⟩).mono fun e w'' h => by rw [hL, hV] at h; exact h)
  have HC := Lib.hid hc
  have HV := Lib.hid hV
  clear hc hV
  go_enter Try.func58, Try.ntmps58
  go_wp2_with fail
  refine (HB.out _ (Below.refl _ _)).mono ?_
  rintro e w1 ⟨rfl, hb1⟩
  have H1 := Lib.hid (show Below w.heap.size w w1 from hb1)
  have R1 := Lib.hid (show Row w1 w.heap.size (.slice none 0 0) [] from Row.nil _ _)
  clear hb1
  go_wp2_with fail
  go_loopw [8, 17] (fun v i wr => ∃ k : Nat, k ≤ L.length ∧ i = .int .i64 k ∧ Row wr w.heap.size v (partK L n k) ∧ Below w.heap.size w wr) (fun _ i _ => L.length - (intOf i).toNat)
  case atStart => exact ⟨0, by omega, rfl, R1.out, H1.out⟩
  case round =>
    clear R1 H1
    obtain ⟨k, hk, rfl, hrow, hb⟩ := hrel
    by_cases hlt : k < L.length
    · have hltp : (k : Int) < (L.length : Int) := by omega
      have hk0 : (0 : Int) ≤ (k : Int) := by omega
      obtain ⟨a0, a1, a2, a3⟩ := (HC.out k hlt).below hb hg
      obtain ⟨x, hx⟩ : ∃ x, x = L.getD k default := ⟨_, rfl⟩
      rw [← hx] at a0 a1 a2 a3
      have HX := Lib.hid (validB_pows HV.out hlt hx)
      have HD := Lib.hid (show (if degT x = n then partK L n k ++ [x] else partK L n k) = partK L n (k + 1) by rw [hx]; rfl)
      have Hb := Lib.hid hb
      have HR := Lib.hid hrow
      clear hx hb hrow
      go_wp2_with fail
      refine (iDeg x.a x.b x.c x.t _ HX.out.1 HX.out.2.1 HX.out.2.2).mono ?_
      rintro e w2 ⟨rfl, hb2⟩
      have hT2 : TAt w2 wr.heap.size 0 x := by
        refine TAt.below (B := _) ?_ hb2 (by simp)
        refine ⟨?_, ?_, ?_, ?_⟩ <;> simp [go_sem]
      have hs2 : wr.heap.size < w2.heap.size := by have := hb2.size; simp at this; omega
      have Hr := Lib.hid ((Below.alloc (Below.refl _ _) (Nat.le_refl _) _).trans (hb2.mono (by simp)))
      have H2 := Lib.hid (Hb.out.trans (Hr.out.mono Hb.out.size))
      have HR2 := Lib.hid (HR.out.below Hr.out)
      clear hb2 HR
      obtain ⟨t0, t1, t2, t3⟩ := hT2
      by_cases hd : x.a + x.b + x.c = n
      · have HDn := Lib.hid (show partK L n (k + 1) = partK L n k ++ [x] by rw [← HD.out, if_pos (show degT x = n from hd)])
        have hle := partK_le L n k
        go_wp2_with (at_builtin; refine wpList_append_own _ rfl _ _ 24 rfl w.heap.size 87 i0 (.agg #[.int .i64 0, .int .i64 0, .int .i64 0, .int .i64 0]) 4 32 Try.underlying24 hi hz0 hz1 hz2 rfl (by decide) _ _ _ rfl (World.ownsRow.alloc HR2.out _) ⟨w2.heap.size, 0, none⟩ 1 1 x.cs rfl rfl ?c1 ?c2 ?c3 ?c4 ?c5 ?_)
        case c1 =>
          intro j u hj
          match j, hj with
          | 0, hj => simp [Trm.cs] at hj; subst hj; simp [Addr.add]
          | 1, hj => simp [Trm.cs] at hj; subst hj; simp [Addr.add]
          | 2, hj => simp [Trm.cs] at hj; subst hj; simp [Addr.add]
          | 3, hj => simp [Trm.cs] at hj; subst hj; simp [Addr.add]
          | j + 4, hj => simp [Trm.cs] at hj
        case c2 => intro u hu; exact flat_cell [x] u (by simpa [flat] using hu)
        case c3 => unfold maxLen; omega
        case c4 => omega
        case c5 => have := H2.out.size; simp; omega
        intro v' w3 hown' hgrow _
        have R3 := Lib.hid (show Row w3 w.heap.size v' (partK L n (k + 1)) by
          rw [HDn.out]
          show World.ownsRow _ _ _ _ _ _ _
          rw [flat_app, flat_one, List.length_append]
          exact hown')
        have H3 := Lib.hid (show Below w.heap.size w w3 by
          exact Below.trans (Below.alloc H2.out H2.out.size _) (Row.low (World.ownsRow.alloc HR2.out _) (by have := H2.out.size; simp; omega) hgrow))
        clear hown' hgrow
        go_wp2
        go_roundw
        case rel => exact ⟨k + 1, by omega, by go_num, R3.out, H3.out⟩
        case measure => simp [intOf]; omega
      · have HDn := Lib.hid (show partK L n (k + 1) = partK L n k by rw [← HD.out, if_neg (show ¬ degT x = n from hd)])
        go_wp2_with fail
        go_roundw
        case rel => exact ⟨k + 1, by omega, by go_num, by rw [HDn.out]; exact HR2.out, H2.out⟩
        case measure => simp [intOf]; omega
    · have hkl : k = L.length := by omega
      subst hkl
      have hle := partK_le L n L.length
      go_wp2
      refine bodyPost_ret (v := .tuple #[_, .bool true]) (by simp [results, Try.results58, go_sem]) rfl ⟨_, rfl, hrow.own (by omega), hb⟩
set_option maxHeartbeats 4000000 in
theorem iPart_nil (p : Int) (a : Option Addr) (cap : Nat) (n : Int) (w : World) (hp : isP p = true) :
    Calls Try.prog 58 #[.int .i64 p, .slice a 0 cap, .int .i64 n] w (GivesPB [] true w) := by
  have HB := Lib.hid (show ∀ w', Below w.heap.size w w' → Calls Try.prog 20 #[.int .i64 p, .slice a 0 cap] w' fun e w'' => e = .returned (.bool true) ∧ Below w'.heap.size w' w'' from
    fun w' hb => (iPolyValid p (.slice a 0 cap) [] w' ⟨by simp, a, cap, rfl, .inl rfl⟩).mono fun e w' h => by rw [hp] at h; exact h)
  clear hp
  go_enter Try.func58, Try.ntmps58
  go_wp2_with fail
  refine (HB.out _ (Below.refl _ _)).mono ?_
  rintro e w1 ⟨rfl, hb1⟩
  have H1 := Lib.hid (show Below w.heap.size w w1 from hb1)
  have R1 := Lib.hid (show Row w1 w.heap.size (.slice none 0 0) [] from Row.nil _ _)
  clear hb1
  go_wp2_with fail
  go_loop [8, 17] (fun v i => v = (.slice none 0 0) ∧ i = .int .i64 0) (fun _ _ => 0)
  case atStart => exact ⟨rfl, rfl⟩
  case round =>
    obtain ⟨rfl, rfl⟩ := hrel
    go_wp2_with fail
    refine bodyPost_ret (v := .tuple #[(.slice none 0 0), .bool true]) (by simp [results, Try.results58, go_sem]) rfl ⟨_, rfl, R1.out.own (by simp), H1.out⟩
set_option maxHeartbeats 4000000 in
theorem iPart_no (p : Int) (f : Value) (L : List Trm) (n : Int) (w : World) (h : Trms w f L) (hn : (isP p && validB p L) = false) :
    Calls Try.prog 58 #[.int .i64 p, f, .int .i64 n] w (GivesPB [] false w) := by
  have HB := Lib.hid (show ∀ w', Below w.heap.size w w' → Calls Try.prog 20 #[.int .i64 p, f] w' fun e w'' => e = .returned (.bool false) ∧ Below w'.heap.size w' w'' from
    fun w' hb => (iPolyValid p f L w' (h.below hb)).mono fun e w' h => by rw [hn] at h; exact h)
  clear hn h
  go_enter Try.func58, Try.ntmps58
  go_wp2_with fail
  refine (HB.out _ (Below.refl _ _)).mono ?_
  rintro e w1 ⟨rfl, hb1⟩
  have H1 := Lib.hid (show Below w.heap.size w w1 from hb1)
  have R1 := Lib.hid (show Row w1 w.heap.size (.slice none 0 0) [] from Row.nil _ _)
  clear hb1
  go_wp2_with fail
  refine bodyPost_ret (v := .tuple #[_, .bool false]) (by simp [results, Try.results58, go_sem]) rfl ⟨_, rfl, R1.out.own (by simp), H1.out⟩
theorem iPartPoly (p : Int) (f : Value) (L : List Trm) (n : Int) (w : World) (h : Trms w f L) :
    Calls Try.prog 58 #[.int .i64 p, f, .int .i64 n] w (GivesPB (partL p L n) (isP p && validB p L) w) := by
  unfold partL
  cases hn : isP p && validB p L
  · exact iPart_no p f L n w h hn
  · have hn2 := hn
    simp only [Bool.and_eq_true] at hn2
    obtain ⟨hl, a, cap, rfl, h2⟩ := h
    rcases h2 with rfl | ⟨g, off, rfl, hg, hc⟩
    · exact iPart_nil p a cap n w hn2.1
    · exact iPart_some p g off cap L n w hn2.1 hn2.2 hg hc
end Go.Proofs.Ytlidplmpglpkgaa
