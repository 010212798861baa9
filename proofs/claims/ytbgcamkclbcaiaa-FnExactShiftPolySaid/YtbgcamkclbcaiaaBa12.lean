/-
  Contracts of the program's own PolyValid. Conditions: what the slice holds is known.
  Contracts of the program's DegreeOf, and of both DegreeIn.
  Contracts of both DegreeIn.
  Contracts of both PartPoly. Conditions: what the slice holds is known.
-/
import Derived.Test.YtbgcamkclbcaiaaBa10
import Derived.Test.YtbgcamkclbcaiaaBa11
import Derived.Test.YtbgcamkclbcaiaaBa2
namespace Go.Proofs.Ytbgcamkclbcaiaa
open Go.RowKit
theorem elem_tok {p t : Int} : (decide (1 ≤ t) && decide (t ≤ p - 1)) = (decide (t ≠ 0) && isE p t) := by
  by_cases h1 : t = 0
  · subst h1; simp
  · cases hE : isE p t
    · rcases isE_no hE with h | h <;> simp <;> omega
    · have := isE_iff.1 hE; simp [h1]; omega
theorem validB_long {p : Int} {L : List Trm} (h : 60 < L.length) : validB p L = false := by
  unfold validB
  rw [Bool.and_eq_false_iff]
  right; simp; omega
theorem iAE1_is (r : Bool) (p a : Int) (hp : isP p = true) (h : isE p a = r) (b : Nat) (w : World) (h0 : w.cell? ⟨b, 0, none⟩ = some (.int .i64 a)) :
    Calls Try.prog 92 #[.int .i64 p, .slice (some ⟨b, 0, none⟩) 1 1] w fun e w' => e = .returned (.bool r) ∧ w = w' := by
  have := iAE1 p a b w h0
  simp only [isE1, hp, Bool.true_and, h] at this
  exact this
set_option maxHeartbeats 4000000 in
theorem iPolyValid_some (p : Int) (hp : isP p = true) (g off cap : Nat) (L : List Trm) (w : World) (hl : L.length ≤ 60) (hg : g < w.heap.size)
    (hc : ∀ j : Nat, j < L.length → TAt w g (off + j * 4) (L.getD j default)) :
    Calls Try.prog 116 #[.int .i64 p, .slice (some ⟨g, off, none⟩) L.length cap] w fun e w' => e = .returned (.bool (validB p L)) ∧ Below w.heap.size w w' := by
  have HP := Lib.hid hp
  obtain ⟨p0, p1⟩ := isP_bd hp
  have HC := Lib.hid hc
  clear hc hp
  have hlp : (L.length : Int) ≤ 60 := by omega
  go_enter Try.func116, Try.ntmps116
  go_wp2_with (go_at_call 130; refine (iPV_yes _ _ HP.out).mono ?_; rintro e w' ⟨rfl, rfl⟩)
  go_loopw [17] (fun i wr => ∃ k : Nat, k ≤ L.length ∧ i = .int .i64 k ∧ (∀ j : Nat, j < k → okAt p L j = true) ∧ Below w.heap.size w wr) (fun i _ => L.length - (intOf i).toNat)
  case atStart => exact ⟨0, by omega, rfl, fun j hj => by omega, Below.refl _ _⟩
  case round =>
    obtain ⟨k, hk, rfl, hall, hb⟩ := hrel
    have Hall := Lib.hid hall
    clear hall
    by_cases hlt : k < L.length
    · have hltp : (k : Int) < (L.length : Int) := by omega
      have hk0 : (0 : Int) ≤ (k : Int) := by omega
      obtain ⟨a0, a1, a2, a3⟩ := (HC.out k hlt).below hb hg
      obtain ⟨x, hx⟩ : ∃ x, x = L.getD k default := ⟨_, rfl⟩
      rw [← hx] at a0 a1 a2 a3
      have Hx := Lib.hid hx
      have Hb := Lib.hid hb
      have hr1 : g < wr.heap.size := Nat.lt_of_lt_of_le hg hb.size
      clear hx hb
      rcases Bool.eq_false_or_eq_true (decide (x.t ≠ 0) && isE p x.t) with h2 | h2
      · obtain ⟨hx0, hxE⟩ : x.t ≠ 0 ∧ isE p x.t = true := by simpa using h2
        have H2 := Lib.hid (elem_tok.trans h2)
        have HE := Lib.hid hxE
        clear h2 hxE
        rcases Bool.eq_false_or_eq_true (powsB x.a x.b x.c) with h1 | h1
        · have H1 := Lib.hid h1
          clear h1
          go_wp2_with (first
            | (go_at_call 92; refine (iAE1_is true p x.t HP.out HE.out _ _ (by simp)).mono ?_; rintro e w1 ⟨rfl, rfl⟩)
            | (go_at_call 162; refine (iFit_is true x.a x.b x.c x.t H1.out _).mono ?_; rintro e w1 ⟨rfl, hb1⟩))
          have hT : TAt w1 wr.heap.size 0 x := by
            refine TAt.below (B := _) ?_ hb1 (by simp; omega)
            refine ⟨?_, ?_, ?_, ?_⟩ <;> simp [go_sem]
          have hsz : wr.heap.size < w1.heap.size := by have := hb1.size; simp at this; omega
          have HbW := Lib.hid (show Below w.heap.size w w1 by
            have hs := Hb.out.size
            refine Below.trans ?_ (hb1.mono (by first | omega | (simp; omega)))
            repeat (first | exact Hb.out | apply Below.drew | apply below_drewN | (refine Below.setCell ?_ (by first | omega | (simp; omega)) _) | (refine Below.alloc ?_ (by first | omega | (simp; omega)) _)))
          clear hb1 a0 a1 a2 a3
          have F : ∀ w', Below w1.heap.size w1 w' → (w'.cell? ⟨wr.heap.size, 0, none⟩ = some (.int .i64 x.a) ∧ w'.cell? ⟨wr.heap.size, 1, none⟩ = some (.int .i64 x.b) ∧ w'.cell? ⟨wr.heap.size, 2, none⟩ = some (.int .i64 x.c) ∧ w'.cell? ⟨wr.heap.size, 3, none⟩ = some (.int .i64 x.t)) := fun w' h => hT.below h hsz
          have HF := Lib.hid F
          have hgW : g < w1.heap.size := by omega
          have HG := Lib.hid (fun (j : Nat) (hj : j < L.length) w' (h : Below w1.heap.size w1 w') => ((HC.out j hj).below HbW.out hg).below h hgW)
          clear F hT
          by_cases hk1 : k = 0
          · have HK := Lib.hid hk1
            clear hk1
            refine wp_region_below (by kernel_rfl) (by kernel_rfl) ?_
            (with_reducible refine wpQuiet_yes ?_ ?_; (focus (kernel_rfl)); intro K hK; go_simp; refine ⟨_, fun _ _ => rfl, ?_⟩; with_reducible refine hK _ ?_; clear hK K)
            (with_reducible refine wpQuiet_yes ?_ ?_; (focus (kernel_rfl)); intro K hK; go_simp; refine ⟨(.bool false), ?_, ?_⟩; rotate_left; with_reducible refine hK _ ?_; clear hK K; rotate_left)
            · intro w' hw
              simp [HK.out]
            (with_reducible refine wpQuiet_yes ?_ ?_; (focus (kernel_rfl)); intro K hK; go_simp; refine ⟨_, fun _ _ => rfl, ?_⟩; with_reducible refine hK _ ?_; clear hK K)
            iterate 10 (with_reducible refine wpQuiet_no ?_ ?_; (focus (kernel_rfl)); intro K hK; go_simp; with_reducible refine hK _ ?_; clear hK K)
            (with_reducible refine wpQuiet_yes ?_ ?_; (focus (kernel_rfl)); intro K hK; go_simp; refine ⟨_, fun _ _ => rfl, ?_⟩; with_reducible refine hK _ ?_; clear hK K)
            refine wpQuiet_nil fun w2 hb2 => ?_
            have Hb2 := Lib.hid hb2
            clear hb2
            simp only [Exit.then]
            go_wp2_with fail
            go_roundw
            case rel => exact ⟨k + 1, by omega, by go_num, okAt_snoc Hall.out (by rw [okAt_is Hx.out H1.out H2.out, HK.out]; simp), HbW.out.trans (Hb2.out.mono HbW.out.size)⟩
            case measure => simp [intOf]; omega
          · obtain ⟨j, hkj⟩ : ∃ j, k = j + 1 := ⟨k - 1, by omega⟩
            have HJ := Lib.hid hkj
            have WK := Lib.hid (show IntKind.i64.wrap ((k : Int) - 1) = (j : Int) from (IntWalk.i64_in _ (by omega)).trans (by omega))
            clear hk1 hkj
            have hjl : j < L.length := by have := HJ.out; omega
            have hjl' : (j : Int) < (L.length : Int) := by omega
            have hj0 : (0 : Int) ≤ (j : Int) := by omega
            obtain ⟨y, hy⟩ : ∃ y, y = L.getD j default := ⟨_, rfl⟩
            have HY := Lib.hid (HG.out j hjl)
            rw [← hy] at HY
            have Hy := Lib.hid hy
            clear hy
            rcases Bool.eq_false_or_eq_true (befB y.a y.b y.c x.a x.b x.c) with h3 | h3
            · have H3 := Lib.hid h3
              clear h3
              refine wp_region_below (by kernel_rfl) (by kernel_rfl) ?_
              (with_reducible refine wpQuiet_yes ?_ ?_; (focus (kernel_rfl)); intro K hK; go_simp; refine ⟨_, fun _ _ => rfl, ?_⟩; with_reducible refine hK _ ?_; clear hK K)
              (with_reducible refine wpQuiet_yes ?_ ?_; (focus (kernel_rfl)); intro K hK; go_simp; refine ⟨(.bool true), ?_, ?_⟩; rotate_left; with_reducible refine hK _ ?_; clear hK K; rotate_left)
              · intro w' hw
                have := HJ.out
                simp
                try omega
              (with_reducible refine wpQuiet_yes ?_ ?_; (focus (kernel_rfl)); intro K hK; go_simp; refine ⟨_, fun _ _ => rfl, ?_⟩; with_reducible refine hK _ ?_; clear hK K)
              (with_reducible refine wpQuiet_yes ?_ ?_; (focus (kernel_rfl)); intro K hK; go_simp; refine ⟨_, fun _ _ => rfl, ?_⟩; with_reducible refine hK _ ?_; clear hK K)
              (with_reducible refine wpQuiet_yes ?_ ?_; (focus (kernel_rfl)); intro K hK; go_simp; refine ⟨_, fun _ _ => rfl, ?_⟩; with_reducible refine hK _ ?_; clear hK K)
              (with_reducible refine wpQuiet_yes ?_ ?_; (focus (kernel_rfl)); intro K hK; go_simp; refine ⟨(.int .i64 (j : Int)), ?_, ?_⟩; rotate_left; with_reducible refine hK _ ?_; clear hK K; rotate_left)
              · intro w' hw
                simp only [WK.out]
              (with_reducible refine wpQuiet_yes ?_ ?_; (focus (kernel_rfl)); intro K hK; go_simp; refine ⟨_, fun _ _ => rfl, ?_⟩; with_reducible refine hK _ ?_; clear hK K)
              (with_reducible refine wpQuiet_yes ?_ ?_; (focus (kernel_rfl)); intro K hK; go_simp; refine ⟨_, fun _ _ => rfl, ?_⟩; with_reducible refine hK _ ?_; clear hK K)
              (with_reducible refine wpQuiet_yes ?_ ?_; (focus (kernel_rfl)); intro K hK; go_simp; refine ⟨(.agg #[.int .i64 y.a, .int .i64 y.b, .int .i64 y.c]), ?_, ?_⟩; rotate_left; with_reducible refine hK _ ?_; clear hK K; rotate_left)
              · intro w' hw
                obtain ⟨c0, c1, c2, c3⟩ := HY.out w' hw
                simp only [c0, c1, c2, go_sem, Result.andThen, and_self]
              (with_reducible refine wpQuiet_yes ?_ ?_; (focus (kernel_rfl)); intro K hK; go_simp; refine ⟨_, fun _ _ => rfl, ?_⟩; with_reducible refine hK _ ?_; clear hK K)
              (with_reducible refine wpQuiet_yes ?_ ?_; (focus (kernel_rfl)); intro K hK; go_simp; refine ⟨(.agg #[.int .i64 x.a, .int .i64 x.b, .int .i64 x.c]), ?_, ?_⟩; rotate_left; with_reducible refine hK _ ?_; clear hK K; rotate_left)
              · intro w' hw
                obtain ⟨c0, c1, c2, c3⟩ := HF.out w' hw
                simp only [c0, c1, c2, go_sem, Result.andThen, and_self]
              (with_reducible refine wpQuiet_yes ?_ ?_; (focus (kernel_rfl)); intro K hK; go_simp; refine ⟨(.bool true), ?_, ?_⟩; rotate_left; with_reducible refine hK _ ?_; clear hK K; rotate_left)
              · intro w' hw
                exact (iGrt_is true _ _ _ _ _ _ H3.out _).mono fun e w'' ⟨he, h⟩ => ⟨he, h.below' (Below.alloc (Below.alloc hw hw.size _) (by simpa using Nat.le_succ_of_le hw.size) _)⟩
              (with_reducible refine wpQuiet_yes ?_ ?_; (focus (kernel_rfl)); intro K hK; go_simp; refine ⟨_, fun _ _ => rfl, ?_⟩; with_reducible refine hK _ ?_; clear hK K)
              (with_reducible refine wpQuiet_yes ?_ ?_; (focus (kernel_rfl)); intro K hK; go_simp; refine ⟨_, fun _ _ => rfl, ?_⟩; with_reducible refine hK _ ?_; clear hK K)
              refine wpQuiet_nil fun w2 hb2 => ?_
              have Hb2 := Lib.hid hb2
              clear hb2
              simp only [Exit.then]
              go_wp2_with fail
              go_roundw
              case rel => exact ⟨k + 1, by omega, by go_num, okAt_snoc Hall.out ((okAt_is2 HJ.out Hx.out Hy.out H1.out H2.out H3.out).trans rfl), HbW.out.trans (Hb2.out.mono HbW.out.size)⟩
              case measure => simp [intOf]; omega
            · have H3 := Lib.hid h3
              clear h3
              refine wp_region_below (by kernel_rfl) (by kernel_rfl) ?_
              (with_reducible refine wpQuiet_yes ?_ ?_; (focus (kernel_rfl)); intro K hK; go_simp; refine ⟨_, fun _ _ => rfl, ?_⟩; with_reducible refine hK _ ?_; clear hK K)
              (with_reducible refine wpQuiet_yes ?_ ?_; (focus (kernel_rfl)); intro K hK; go_simp; refine ⟨(.bool true), ?_, ?_⟩; rotate_left; with_reducible refine hK _ ?_; clear hK K; rotate_left)
              · intro w' hw
                have := HJ.out
                simp
                try omega
              (with_reducible refine wpQuiet_yes ?_ ?_; (focus (kernel_rfl)); intro K hK; go_simp; refine ⟨_, fun _ _ => rfl, ?_⟩; with_reducible refine hK _ ?_; clear hK K)
              (with_reducible refine wpQuiet_yes ?_ ?_; (focus (kernel_rfl)); intro K hK; go_simp; refine ⟨_, fun _ _ => rfl, ?_⟩; with_reducible refine hK _ ?_; clear hK K)
              (with_reducible refine wpQuiet_yes ?_ ?_; (focus (kernel_rfl)); intro K hK; go_simp; refine ⟨_, fun _ _ => rfl, ?_⟩; with_reducible refine hK _ ?_; clear hK K)
              (with_reducible refine wpQuiet_yes ?_ ?_; (focus (kernel_rfl)); intro K hK; go_simp; refine ⟨(.int .i64 (j : Int)), ?_, ?_⟩; rotate_left; with_reducible refine hK _ ?_; clear hK K; rotate_left)
              · intro w' hw
                simp only [WK.out]
              (with_reducible refine wpQuiet_yes ?_ ?_; (focus (kernel_rfl)); intro K hK; go_simp; refine ⟨_, fun _ _ => rfl, ?_⟩; with_reducible refine hK _ ?_; clear hK K)
              (with_reducible refine wpQuiet_yes ?_ ?_; (focus (kernel_rfl)); intro K hK; go_simp; refine ⟨_, fun _ _ => rfl, ?_⟩; with_reducible refine hK _ ?_; clear hK K)
              (with_reducible refine wpQuiet_yes ?_ ?_; (focus (kernel_rfl)); intro K hK; go_simp; refine ⟨(.agg #[.int .i64 y.a, .int .i64 y.b, .int .i64 y.c]), ?_, ?_⟩; rotate_left; with_reducible refine hK _ ?_; clear hK K; rotate_left)
              · intro w' hw
                obtain ⟨c0, c1, c2, c3⟩ := HY.out w' hw
                simp only [c0, c1, c2, go_sem, Result.andThen, and_self]
              (with_reducible refine wpQuiet_yes ?_ ?_; (focus (kernel_rfl)); intro K hK; go_simp; refine ⟨_, fun _ _ => rfl, ?_⟩; with_reducible refine hK _ ?_; clear hK K)
              (with_reducible refine wpQuiet_yes ?_ ?_; (focus (kernel_rfl)); intro K hK; go_simp; refine ⟨(.agg #[.int .i64 x.a, .int .i64 x.b, .int .i64 x.c]), ?_, ?_⟩; rotate_left; with_reducible refine hK _ ?_; clear hK K; rotate_left)
              · intro w' hw
                obtain ⟨c0, c1, c2, c3⟩ := HF.out w' hw
                simp only [c0, c1, c2, go_sem, Result.andThen, and_self]
              (with_reducible refine wpQuiet_yes ?_ ?_; (focus (kernel_rfl)); intro K hK; go_simp; refine ⟨(.bool false), ?_, ?_⟩; rotate_left; with_reducible refine hK _ ?_; clear hK K; rotate_left)
              · intro w' hw
                exact (iGrt_is false _ _ _ _ _ _ H3.out _).mono fun e w'' ⟨he, h⟩ => ⟨he, h.below' (Below.alloc (Below.alloc hw hw.size _) (by simpa using Nat.le_succ_of_le hw.size) _)⟩
              (with_reducible refine wpQuiet_yes ?_ ?_; (focus (kernel_rfl)); intro K hK; go_simp; refine ⟨_, fun _ _ => rfl, ?_⟩; with_reducible refine hK _ ?_; clear hK K)
              (with_reducible refine wpQuiet_yes ?_ ?_; (focus (kernel_rfl)); intro K hK; go_simp; refine ⟨_, fun _ _ => rfl, ?_⟩; with_reducible refine hK _ ?_; clear hK K)
              refine wpQuiet_nil fun w2 hb2 => ?_
              have Hb2 := Lib.hid hb2
              clear hb2
              simp only [Exit.then]
              go_wp2_with fail
              go_ret
              exact ⟨ret_bool (validB_no hlt ((okAt_is2 HJ.out Hx.out Hy.out H1.out H2.out H3.out).trans rfl)).symm, HbW.out.trans (Hb2.out.mono HbW.out.size)⟩
        · have H1 := Lib.hid h1
          clear h1
          go_wp2_with (first
            | (go_at_call 92; refine (iAE1_is true p x.t HP.out HE.out _ _ (by simp)).mono ?_; rintro e w1 ⟨rfl, rfl⟩)
            | (go_at_call 162; refine (iFit_is false x.a x.b x.c x.t H1.out _).mono ?_; rintro e w1 ⟨rfl, hb1⟩))
          go_ret
          exact ⟨ret_bool (validB_no hlt ((okAt_is Hx.out H1.out H2.out).trans (by simp))).symm, by have hs := Hb.out.size; refine Below.trans ?_ (hb1.mono (by first | omega | (simp; omega))); repeat (first | exact Hb.out | apply Below.drew | apply below_drewN | (refine Below.setCell ?_ (by first | omega | (simp; omega)) _) | (refine Below.alloc ?_ (by first | omega | (simp; omega)) _))⟩
      · have H2 := Lib.hid (elem_tok.trans h2)
        by_cases hx0 : x.t = 0
        · clear h2
          go_wp2_with fail
          go_ret
          exact ⟨ret_bool (validB_no hlt ((okAt_is Hx.out rfl H2.out).trans (by simp))).symm, by have hs := Hb.out.size; repeat (first | exact Hb.out | apply Below.drew | apply below_drewN | (refine Below.setCell ?_ (by first | omega | (simp; omega)) _) | (refine Below.alloc ?_ (by first | omega | (simp; omega)) _))⟩
        · have HE := Lib.hid (show isE p x.t = false by simpa [hx0] using h2)
          clear h2
          go_wp2_with (go_at_call 92; refine (iAE1_is false p x.t HP.out HE.out _ _ (by simp)).mono ?_; rintro e w1 ⟨rfl, rfl⟩)
          go_ret
          exact ⟨ret_bool (validB_no hlt ((okAt_is Hx.out rfl H2.out).trans (by simp))).symm, by have hs := Hb.out.size; repeat (first | exact Hb.out | apply Below.drew | apply below_drewN | (refine Below.setCell ?_ (by first | omega | (simp; omega)) _) | (refine Below.alloc ?_ (by first | omega | (simp; omega)) _))⟩
    · have hkl : k = L.length := by omega
      go_wp2_with fail
      go_ret
      exact ⟨ret_bool ((validB_all (hkl ▸ Hall.out)).trans (decide_eq_true hlp)).symm, hb⟩
set_option maxHeartbeats 2000000 in
theorem iPolyValid_no (p : Int) (hp : isP p = false) (v : Value) (w : World) :
    Calls Try.prog 116 #[.int .i64 p, v] w fun e w' => e = .returned (.bool false) ∧ w = w' := by
  have HP := Lib.hid hp
  clear hp
  go_enter Try.func116, Try.ntmps116
  go_wp2_with (go_at_call 130; refine (iPV_no _ _ HP.out).mono ?_; rintro e w' ⟨rfl, rfl⟩)
  go_ret
  exact ⟨rfl, rfl⟩
set_option maxHeartbeats 2000000 in
theorem iPolyValid_long (p : Int) (hp : isP p = true) (a : Option Addr) (n cap : Nat) (w : World) (hl : 60 < n) :
    Calls Try.prog 116 #[.int .i64 p, .slice a n cap] w fun e w' => e = .returned (.bool false) ∧ w = w' := by
  have HP := Lib.hid hp
  clear hp
  have hlp : (60 : Int) < (n : Int) := by omega
  go_enter Try.func116, Try.ntmps116
  go_wp2_with (go_at_call 130; refine (iPV_yes _ _ HP.out).mono ?_; rintro e w' ⟨rfl, rfl⟩)
  go_ret
  exact ⟨rfl, rfl⟩
set_option maxHeartbeats 2000000 in
theorem iPolyValid_nil (p : Int) (hp : isP p = true) (a : Option Addr) (cap : Nat) (w : World) :
    Calls Try.prog 116 #[.int .i64 p, .slice a 0 cap] w fun e w' => e = .returned (.bool true) ∧ w = w' := by
  have HP := Lib.hid hp
  clear hp
  go_enter Try.func116, Try.ntmps116
  go_wp2_with (go_at_call 130; refine (iPV_yes _ _ HP.out).mono ?_; rintro e w' ⟨rfl, rfl⟩)
  go_loop [17] (fun i => i = .int .i64 0) (fun _ => 0)
  case atStart => exact rfl
  case round =>
    subst hrel
    go_wp2_with fail
    go_ret
    exact ⟨ret_bool (by simp), rfl⟩
/-- the program's PolyValid, for any prime or none and any list of terms -/
theorem iPolyValid (p : Int) (v : Value) (L : List Trm) (w : World) (h : Trms w v L) :
    Calls Try.prog 116 #[.int .i64 p, v] w fun e w' => e = .returned (.bool (isP p && validB p L)) ∧ Below w.heap.size w w' := by
  cases hp : isP p
  · exact (iPolyValid_no p hp v w).mono fun e w' ⟨h1, h2⟩ => ⟨h1, h2 ▸ Below.refl _ _⟩
  · obtain ⟨hl, a, cap, rfl, h2⟩ := h
    by_cases h60 : L.length ≤ 60
    · rcases h2 with rfl | ⟨g, off, rfl, hg, hc⟩
      · exact (iPolyValid_nil p hp a cap w).mono fun e w' ⟨h1, h2⟩ => ⟨by rw [h1, validB_nil]; rfl, h2 ▸ Below.refl _ _⟩
      · exact (iPolyValid_some p hp g off cap L w h60 hg hc).mono fun e w' ⟨h1, h2⟩ => ⟨by rw [h1, Bool.true_and], h2⟩
    · exact (iPolyValid_long p hp a L.length cap w (by omega)).mono fun e w' ⟨h1, h2⟩ => ⟨by rw [h1, validB_long (by omega)]; rfl, h2 ▸ Below.refl _ _⟩
end Go.Proofs.Ytbgcamkclbcaiaa
namespace Go.Proofs.Ytbgcamkclbcaiaa
open Go.RowKit
set_option maxHeartbeats 2000000 in
theorem iDeg (a b c t : Int) (w : World) (ha : 0 ≤ a ∧ a ≤ 9) (hb : 0 ≤ b ∧ b ≤ 9) (hc : 0 ≤ c ∧ c ≤ 9) :
    Calls Try.prog 82 #[.agg #[.int .i64 a, .int .i64 b, .int .i64 c, .int .i64 t]] w fun e w' => e = .returned (.int .i64 (a + b + c)) ∧ Below w.heap.size w w' := by
  obtain ⟨a0, a1⟩ := ha
  obtain ⟨b0, b1⟩ := hb
  obtain ⟨c0, c1⟩ := hc
  have w1 : IntKind.i64.wrap (a + b) = a + b := IntWalk.i64_in _ (by omega)
  have w2 : IntKind.i64.wrap (a + b + c) = a + b + c := IntWalk.i64_in _ (by omega)
  go_enter Try.func82, Try.ntmps82
  go_wp2_with fail
  go_ret
  exact ⟨rfl, by repeat (first | exact Below.refl _ _ | apply Below.drew | apply below_drewN | (refine Below.setCell ?_ (by first | omega | (simp; omega)) _) | (refine Below.alloc ?_ (by first | omega | (simp; omega)) _))⟩
set_option maxHeartbeats 4000000 in
theorem iDegreeOf_some (p : Int) (g off cap : Nat) (L : List Trm) (w : World) (hL : isP p = true) (hV : validB p L = true) (hg : g < w.heap.size)
    (hc : ∀ j : Nat, j < L.length → TAt w g (off + j * 4) (L.getD j default)) :
    Calls Try.prog 61 #[.int .i64 p, .slice (some ⟨g, off, none⟩) L.length cap] w fun e w' => e = .returned (.int .i64 (degK L L.length)) ∧ Below w.heap.size w w' := by
  have hl := validB_len hV
  have HB := Lib.hid (show ∀ w', Below w.heap.size w w' → Calls Try.prog 116 #[.int .i64 p, .slice (some ⟨g, off, none⟩) L.length cap] w' fun e w'' => e = .returned (.bool true) ∧ Below w'.heap.size w' w'' from
    fun w' hb => (iPolyValid p _ L w' ⟨by omega, _, cap, rfl, .inr ⟨g, off, rfl, Nat.lt_of_lt_of_le hg hb.size, fun j hj => (hc j hj).below hb hg⟩⟩).mono fun e w'' h => by rw [hL, hV] at h; exact h)
  have HC := Lib.hid hc
  have HV := Lib.hid hV
  clear hc hV
  go_enter Try.func61, Try.ntmps61
  go_wp2_with fail
  refine (HB.out _ (Below.refl _ _)).mono ?_
  rintro e w1 ⟨rfl, hb1⟩
  go_wp2_with fail
  go_loopw [5, 14] (fun n i wr => ∃ k : Nat, k ≤ L.length ∧ i = .int .i64 k ∧ n = .int .i64 (degK L k) ∧ Below w.heap.size w wr) (fun _ i _ => L.length - (intOf i).toNat)
  case atStart => exact ⟨0, by omega, rfl, rfl, hb1⟩
  case round =>
    obtain ⟨k, hk, rfl, rfl, hb⟩ := hrel
    by_cases hlt : k < L.length
    · have hltp : (k : Int) < (L.length : Int) := by omega
      have hk0 : (0 : Int) ≤ (k : Int) := by omega
      obtain ⟨a0, a1, a2, a3⟩ := (HC.out k hlt).below hb hg
      obtain ⟨x, hx⟩ : ∃ x, x = L.getD k default := ⟨_, rfl⟩
      rw [← hx] at a0 a1 a2 a3
      have HX := Lib.hid (validB_pows HV.out hlt hx)
      have HD := Lib.hid (show (if degK L k < x.a + x.b + x.c then x.a + x.b + x.c else degK L k) = degK L (k + 1) by rw [hx]; rfl)
      have Hb := Lib.hid hb
      clear hx hb hb1
      go_wp2_with fail
      refine (iDeg x.a x.b x.c x.t _ HX.out.1 HX.out.2.1 HX.out.2.2).mono ?_
      rintro e w2 ⟨rfl, hb2⟩
      have H2 := Lib.hid (Hb.out.trans (((Below.alloc (Below.refl _ _) (Nat.le_refl _) _).trans (hb2.mono (by simp))).mono Hb.out.size))
      clear hb2
      go_wp2_with fail
      go_roundw
      case rel => exact ⟨k + 1, by omega, by go_num, by rw [HD.out], H2.out⟩
      case measure => simp [intOf]; omega
    · have hkl : k = L.length := by omega
      subst hkl
      go_wp2
      go_ret
      exact ⟨rfl, hb⟩
theorem iDegreeOf_nil (p : Int) (a : Option Addr) (cap : Nat) (w : World) (hp : isP p = true) :
    Calls Try.prog 61 #[.int .i64 p, .slice a 0 cap] w fun e w' => e = .returned (.int .i64 (-1)) ∧ Below w.heap.size w w' := by
  have HB := Lib.hid (show Calls Try.prog 116 #[.int .i64 p, .slice a 0 cap] w fun e w' => e = .returned (.bool true) ∧ Below w.heap.size w w' from
    (iPolyValid p (.slice a 0 cap) [] w ⟨by simp, a, cap, rfl, .inl rfl⟩).mono fun e w' h => by rw [hp] at h; exact h)
  clear hp
  go_enter Try.func61, Try.ntmps61
  go_wp2_with fail
  refine HB.out.mono ?_
  rintro e w1 ⟨rfl, hb1⟩
  go_wp2_with fail
  go_loop [5, 14] (fun n i => n = .int .i64 (-1) ∧ i = .int .i64 0) (fun _ _ => 0)
  case atStart => exact ⟨rfl, rfl⟩
  case round =>
    obtain ⟨rfl, rfl⟩ := hrel
    go_wp2_with fail
    go_ret
    exact ⟨rfl, hb1⟩
theorem iDegreeOf_no (p : Int) (v : Value) (L : List Trm) (w : World) (h : Trms w v L) (hn : (isP p && validB p L) = false) :
    Calls Try.prog 61 #[.int .i64 p, v] w fun e w' => e = .returned (.int .i64 (-2)) ∧ Below w.heap.size w w' := by
  have HB := Lib.hid (show Calls Try.prog 116 #[.int .i64 p, v] w fun e w' => e = .returned (.bool false) ∧ Below w.heap.size w w' from
    (iPolyValid p v L w h).mono fun e w' h => by rw [hn] at h; exact h)
  clear hn h
  go_enter Try.func61, Try.ntmps61
  go_wp2_with fail
  refine HB.out.mono ?_
  rintro e w1 ⟨rfl, hb1⟩
  go_wp2_with fail
  go_ret
  exact ⟨rfl, hb1⟩
theorem iDegreeOf (p : Int) (v : Value) (L : List Trm) (w : World) (h : Trms w v L) :
    Calls Try.prog 61 #[.int .i64 p, v] w fun e w' => e = .returned (.int .i64 (degV p L)) ∧ Below w.heap.size w w' := by
  unfold degV
  cases hn : isP p && validB p L
  · exact iDegreeOf_no p v L w h hn
  · have hn2 := hn
    simp only [Bool.and_eq_true] at hn2
    obtain ⟨hl, a, cap, rfl, h2⟩ := h
    rcases h2 with rfl | ⟨g, off, rfl, hg, hc⟩
    · exact iDegreeOf_nil p a cap w hn2.1
    · exact iDegreeOf_some p g off cap L w hn2.1 hn2.2 hg hc
end Go.Proofs.Ytbgcamkclbcaiaa
namespace Go.Proofs.Ytbgcamkclbcaiaa
open Go.RowKit
/-- the exponent of the unknown v -/
def pw (v : Int) (x : Trm) : Int := if v = 0 then x.a else if v = 1 then x.b else x.c
def inV (v : Int) : Bool := decide (0 ≤ v) && decide (v ≤ 2)
theorem inV_cases {v : Int} (h : inV v = true) : v = 0 ∨ v = 1 ∨ v = 2 := by
  simp only [inV, Bool.and_eq_true, decide_eq_true_eq] at h; omega
/-- the greatest exponent of v in the first k terms; -1 of none -/
def degI (L : List Trm) (v : Int) : Nat → Int
  | 0 => -1
  | k + 1 => if degI L v k < pw v (L.getD k default) then pw v (L.getD k default) else degI L v k
def degIV (p : Int) (L : List Trm) (v : Int) : Int := if (isP p && validB p L) && inV v then degI L v L.length else -2
theorem iUnk (r : Bool) (v : Int) (h : inV v = r) (w : World) :
    Calls Try.prog 128 #[.int .i64 v] w fun e w' => e = .returned (.bool r) ∧ w = w' := by
  unfold inV at h
  by_cases h0 : 0 ≤ v
  · by_cases h2 : v < 3
    · have hr := Lib.hid (show r = true by rw [← h]; simp; omega)
      clear h
      go_enter Try.func128, Try.ntmps128
      go_wp2
      go_ret
      exact ⟨ret_bool hr.out.symm, rfl⟩
    · have hr := Lib.hid (show r = false by rw [← h]; simp; omega)
      clear h
      go_enter Try.func128, Try.ntmps128
      go_wp2
      go_ret
      exact ⟨ret_bool hr.out.symm, rfl⟩
  · have hr := Lib.hid (show r = false by rw [← h]; simp; omega)
    clear h
    go_enter Try.func128, Try.ntmps128
    go_wp2
    go_ret
    exact ⟨ret_bool hr.out.symm, rfl⟩
theorem sUnk (r : Bool) (v : Int) (h : inV v = r) (w : World) :
    Calls Try.prog 96 #[.int .i64 v, .int .i64 0, .int .i64 2] w fun e w' => e = .returned (.bool r) ∧ w = w' := sIn_is r v 0 2 h w
end Go.Proofs.Ytbgcamkclbcaiaa
namespace Go.Proofs.Ytbgcamkclbcaiaa
open Go.RowKit
/-- those of the first k terms that have the degree n -/
def partK (L : List Trm) (n : Int) : Nat → List Trm
  | 0 => []
  | k + 1 => if degT (L.getD k default) = n then partK L n k ++ [L.getD k default] else partK L n k
theorem partK_le (L : List Trm) (n : Int) : ∀ k, (partK L n k).length ≤ k
  | 0 => by simp [partK]
  | k + 1 => by
    have := partK_le L n k
    unfold partK
    split <;> simp <;> omega
def partL (p : Int) (L : List Trm) (n : Int) : List Trm := if isP p && validB p L then partK L n L.length else []
set_option maxRecDepth 100000 in
set_option maxHeartbeats 8000000 in
theorem sPart_some (p : Int) (g off cap : Nat) (L : List Trm) (n : Int) (w : World) (hL : isP p = true) (hV : validB p L = true) (hg : g < w.heap.size)
    (hc : ∀ j : Nat, j < L.length → TAt w g (off + j * 4) (L.getD j default)) :
    Calls Try.prog 165 #[.int .i64 p, .slice (some ⟨g, off, none⟩) L.length cap, .int .i64 n] w (GivesPB (partK L n L.length) true w) := by
  have hl := validB_len hV
  obtain ⟨i0, hi, hz0, hz1, hz2⟩ := info_parts infoT
  have HB := Lib.hid (show ∀ w', Below w.heap.size w w' → Calls Try.prog 73 #[.int .i64 p, .slice (some ⟨g, off, none⟩) L.length cap] w' fun e w'' => e = .returned (.bool true) ∧ Below w'.heap.size w' w'' from
    fun w' hb => (sPolyValid p _ L w' ⟨by omega, _, cap, rfl, .inr ⟨g, off, rfl, Nat.lt_of_lt_of_le hg hb.size, fun j hj => (hc j hj).below hb hg⟩⟩).mono fun e w'' h => by rw [hL, hV] at h; exact h)
  have HC := Lib.hid hc
  have HV := Lib.hid hV
  clear hc hV
  go_enter Try.func165, Try.ntmps165
  go_wp2_with fail
  refine (HB.out _ (Below.alloc (Below.refl _ _) (Nat.le_refl _) _)).mono ?_
  rintro e w1 ⟨rfl, hb1⟩
  have H1 := Lib.hid (show Below w.heap.size w w1 from (Below.alloc (Below.refl _ _) (Nat.le_refl _) _).trans (hb1.mono (by simp)))
  have R1 := Lib.hid (show Row w1 w.heap.size (.slice (some ⟨w.heap.size, 0, none⟩) 0 0) [] from (Row.lit0 w w.heap.size (Nat.le_refl _)).below hb1)
  clear hb1
  go_wp2_with fail
  go_loopw [8, 19] (fun v i wr => ∃ k : Nat, k ≤ L.length ∧ i = .int .i64 k ∧ Row wr w.heap.size v (partK L n k) ∧ Below w.heap.size w wr) (fun _ i _ => L.length - (intOf i).toNat)
  case atStart => exact ⟨0, by omega, rfl, R1.out, H1.out⟩
  case round =>
    clear R1 H1
    obtain ⟨k, hk, rfl, hrow, hb⟩ := hrel
    by_cases hlt : k < L.length
    · have hltp : (k : Int) < (L.length : Int) := by omega
      have hk0 : (0 : Int) ≤ (k : Int) := by omega
      obtain ⟨a0, a1, a2, a3⟩ := (HC.out k hlt).below hb hg
      obtain ⟨x, hx⟩ : ∃ x, x = L.getD k default := ⟨_, rfl⟩
      rw [← hx] at a0 a1 a2 a3
      have HX := Lib.hid (validB_pows HV.out hlt hx)
      have HD := Lib.hid (show (if degT x = n then partK L n k ++ [x] else partK L n k) = partK L n (k + 1) by rw [hx]; rfl)
      have Hb := Lib.hid hb
      have HR := Lib.hid hrow
      clear hx hb hrow
      go_wp2_with fail
      refine (sDeg x.a x.b x.c _ HX.out.1 HX.out.2.1 HX.out.2.2).mono ?_
      rintro e w2 ⟨rfl, hb2⟩
      have hT2 : TAt w2 wr.heap.size 0 x := by
        refine TAt.below (B := _) ?_ hb2 (by simp)
        refine ⟨?_, ?_, ?_, ?_⟩ <;> simp [go_sem]
      have hs2 : wr.heap.size < w2.heap.size := by have := hb2.size; simp at this; omega
      have Hr := Lib.hid ((Below.alloc (Below.refl _ _) (Nat.le_refl _) _).trans (hb2.mono (by simp)))
      have H2 := Lib.hid (Hb.out.trans (Hr.out.mono Hb.out.size))
      have HR2 := Lib.hid (HR.out.below Hr.out)
      clear hb2 HR
      obtain ⟨t0, t1, t2, t3⟩ := hT2
      by_cases hd : x.a + x.b + x.c = n
      · have HDn := Lib.hid (show partK L n (k + 1) = partK L n k ++ [x] by rw [← HD.out, if_pos (show degT x = n from hd)])
        have hle := partK_le L n k
        go_wp2_with (at_builtin; refine wpList_append_own _ rfl _ _ 26 rfl w.heap.size 79 i0 (.agg #[.int .i64 0, .int .i64 0, .int .i64 0, .int .i64 0]) 4 32 Try.underlying26 hi hz0 hz1 hz2 rfl (by decide) _ _ _ rfl (World.ownsRow.alloc HR2.out _) ⟨w2.heap.size, 0, none⟩ 1 1 x.cs rfl rfl ?c1 ?c2 ?c3 ?c4 ?c5 ?_)
        case c1 =>
          intro j u hj
          match j, hj with
          | 0, hj => simp [Trm.cs] at hj; subst hj; simp [Addr.add]
          | 1, hj => simp [Trm.cs] at hj; subst hj; simp [Addr.add]
          | 2, hj => simp [Trm.cs] at hj; subst hj; simp [Addr.add]
          | 3, hj => simp [Trm.cs] at hj; subst hj; simp [Addr.add]
          | j + 4, hj => simp [Trm.cs] at hj
        case c2 => intro u hu; exact flat_cell [x] u (by simpa [flat] using hu)
        case c3 => unfold maxLen; omega
        case c4 => omega
        case c5 => have := H2.out.size; simp; omega
        intro v' w3 hown' hgrow _
        have R3 := Lib.hid (show Row w3 w.heap.size v' (partK L n (k + 1)) by
          rw [HDn.out]
          show World.ownsRow _ _ _ _ _ _ _
          rw [flat_app, flat_one, List.length_append]
          exact hown')
        have H3 := Lib.hid (show Below w.heap.size w w3 by
          exact Below.trans (Below.alloc H2.out H2.out.size _) (Row.low (World.ownsRow.alloc HR2.out _) (by have := H2.out.size; simp; omega) hgrow))
        clear hown' hgrow
        go_wp2
        go_roundw
        case rel => exact ⟨k + 1, by omega, by go_num, R3.out, H3.out⟩
        case measure => simp [intOf]; omega
      · have HDn := Lib.hid (show partK L n (k + 1) = partK L n k by rw [← HD.out, if_neg (show ¬ degT x = n from hd)])
        go_wp2_with fail
        go_roundw
        case rel => exact ⟨k + 1, by omega, by go_num, by rw [HDn.out]; exact HR2.out, H2.out⟩
        case measure => simp [intOf]; omega
    · have hkl : k = L.length := by omega
      subst hkl
      have hle := partK_le L n L.length
      go_wp2
      refine bodyPost_ret (v := .tuple #[_, .bool true]) (by simp [results, Try.results165, go_sem]) rfl ⟨_, rfl, hrow.own (by omega), hb⟩
set_option maxHeartbeats 4000000 in
theorem sPart_nil (p : Int) (a : Option Addr) (cap : Nat) (n : Int) (w : World) (hp : isP p = true) :
    Calls Try.prog 165 #[.int .i64 p, .slice a 0 cap, .int .i64 n] w (GivesPB [] true w) := by
  have HB := Lib.hid (show ∀ w', Below w.heap.size w w' → Calls Try.prog 73 #[.int .i64 p, .slice a 0 cap] w' fun e w'' => e = .returned (.bool true) ∧ Below w'.heap.size w' w'' from
    fun w' hb => (sPolyValid p (.slice a 0 cap) [] w' ⟨by simp, a, cap, rfl, .inl rfl⟩).mono fun e w' h => by rw [hp] at h; exact h)
  clear hp
  go_enter Try.func165, Try.ntmps165
  go_wp2_with fail
  refine (HB.out _ (Below.alloc (Below.refl _ _) (Nat.le_refl _) _)).mono ?_
  rintro e w1 ⟨rfl, hb1⟩
  have H1 := Lib.hid (show Below w.heap.size w w1 from (Below.alloc (Below.refl _ _) (Nat.le_refl _) _).trans (hb1.mono (by simp)))
  have R1 := Lib.hid (show Row w1 w.heap.size (.slice (some ⟨w.heap.size, 0, none⟩) 0 0) [] from (Row.lit0 w w.heap.size (Nat.le_refl _)).below hb1)
  clear hb1
  go_wp2_with fail
  go_loop [8, 19] (fun v i => v = (.slice (some ⟨w.heap.size, 0, none⟩) 0 0) ∧ i = .int .i64 0) (fun _ _ => 0)
  case atStart => exact ⟨rfl, rfl⟩
  case round =>
    obtain ⟨rfl, rfl⟩ := hrel
    go_wp2_with fail
    refine bodyPost_ret (v := .tuple #[(.slice (some ⟨w.heap.size, 0, none⟩) 0 0), .bool true]) (by simp [results, Try.results165, go_sem]) rfl ⟨_, rfl, R1.out.own (by simp), H1.out⟩
set_option maxHeartbeats 4000000 in
theorem sPart_no (p : Int) (f : Value) (L : List Trm) (n : Int) (w : World) (h : Trms w f L) (hn : (isP p && validB p L) = false) :
    Calls Try.prog 165 #[.int .i64 p, f, .int .i64 n] w (GivesPB [] false w) := by
  have HB := Lib.hid (show ∀ w', Below w.heap.size w w' → Calls Try.prog 73 #[.int .i64 p, f] w' fun e w'' => e = .returned (.bool false) ∧ Below w'.heap.size w' w'' from
    fun w' hb => (sPolyValid p f L w' (h.below hb)).mono fun e w' h => by rw [hn] at h; exact h)
  clear hn h
  go_enter Try.func165, Try.ntmps165
  go_wp2_with fail
  refine (HB.out _ (Below.alloc (Below.refl _ _) (Nat.le_refl _) _)).mono ?_
  rintro e w1 ⟨rfl, hb1⟩
  have H1 := Lib.hid (show Below w.heap.size w w1 from (Below.alloc (Below.refl _ _) (Nat.le_refl _) _).trans (hb1.mono (by simp)))
  have R1 := Lib.hid (show Row w1 w.heap.size (.slice (some ⟨w.heap.size, 0, none⟩) 0 0) [] from (Row.lit0 w w.heap.size (Nat.le_refl _)).below hb1)
  clear hb1
  go_wp2_with fail
  refine bodyPost_ret (v := .tuple #[_, .bool false]) (by simp [results, Try.results165, go_sem]) rfl ⟨_, rfl, R1.out.own (by simp), H1.out⟩
theorem sPartPoly (p : Int) (f : Value) (L : List Trm) (n : Int) (w : World) (h : Trms w f L) :
    Calls Try.prog 165 #[.int .i64 p, f, .int .i64 n] w (GivesPB (partL p L n) (isP p && validB p L) w) := by
  unfold partL
  cases hn : isP p && validB p L
  · exact sPart_no p f L n w h hn
  · have hn2 := hn
    simp only [Bool.and_eq_true] at hn2
    obtain ⟨hl, a, cap, rfl, h2⟩ := h
    rcases h2 with rfl | ⟨g, off, rfl, hg, hc⟩
    · exact sPart_nil p a cap n w hn2.1
    · exact sPart_some p g off cap L n w hn2.1 hn2.2 hg hc
set_option maxRecDepth 100000 in
set_option maxHeartbeats 8000000 in
theorem iPart_some (p : Int) (g off cap : Nat) (L : List Trm) (n : Int) (w : World) (hL : isP p = true) (hV : validB p L = true) (hg : g < w.heap.size)
    (hc : ∀ j : Nat, j < L.length → TAt w g (off + j * 4) (L.getD j default)) :
    Calls Try.prog 50 #[.int .i64 p, .slice (some ⟨g, off, none⟩) L.length cap, .int .i64 n] w (GivesPB (partK L n L.length) true w) := by
  have hl := validB_len hV
  obtain ⟨i0, hi, hz0, hz1, hz2⟩ := info_parts infoT
  have HB := Lib.hid (show ∀ w', Below w.heap.size w w' → Calls Try.prog 116 #[.int .i64 p, .slice (some ⟨g, off, none⟩) L.length cap] w' fun e w'' => e = .returned (.bool true) ∧ Below w'.heap.size w' w'' from
    fun w' hb => (iPolyValid p _ L w' ⟨by omega, _, cap, rfl, .inr ⟨g, off, rfl, Nat.lt_of_lt_of_le hg hb.size, fun j hj => (hc j hj).below hb hg⟩⟩).mono fun e w'' h => by rw [hL, hV] at h; exact h)
  have HC := Lib.hid hc
  have HV := Lib.hid hV
  clear hc hV
  go_enter Try.func50, Try.ntmps50
  go_wp2_with fail
  refine (HB.out _ (Below.refl _ _)).mono ?_
  rintro e w1 ⟨rfl, hb1⟩
  have H1 := Lib.hid (show Below w.heap.size w w1 from hb1)
  have R1 := Lib.hid (show Row w1 w.heap.size (.slice none 0 0) [] from Row.nil _ _)
  clear hb1
  go_wp2_with fail
  go_loopw [8, 17] (fun v i wr => ∃ k : Nat, k ≤ L.length ∧ i = .int .i64 k ∧ Row wr w.heap.size v (partK L n k) ∧ Below w.heap.size w wr) (fun _ i _ => L.length - (intOf i).toNat)
  case atStart => exact ⟨0, by omega, rfl, R1.out, H1.out⟩
  case round =>
    clear R1 H1
    obtain ⟨k, hk, rfl, hrow, hb⟩ := hrel
    by_cases hlt : k < L.length
    · have hltp : (k : Int) < (L.length : Int) := by omega
      have hk0 : (0 : Int) ≤ (k : Int) := by omega
      obtain ⟨a0, a1, a2, a3⟩ := (HC.out k hlt).below hb hg
      obtain ⟨x, hx⟩ : ∃ x, x = L.getD k default := ⟨_, rfl⟩
      rw [← hx] at a0 a1 a2 a3
      have HX := Lib.hid (validB_pows HV.out hlt hx)
      have HD := Lib.hid (show (if degT x = n then partK L n k ++ [x] else partK L n k) = partK L n (k + 1) by rw [hx]; rfl)
      have Hb := Lib.hid hb
      have HR := Lib.hid hrow
      clear hx hb hrow
      go_wp2_with fail
      refine (iDeg x.a x.b x.c x.t _ HX.out.1 HX.out.2.1 HX.out.2.2).mono ?_
      rintro e w2 ⟨rfl, hb2⟩
      have hT2 : TAt w2 wr.heap.size 0 x := by
        refine TAt.below (B := _) ?_ hb2 (by simp)
        refine ⟨?_, ?_, ?_, ?_⟩ <;> simp [go_sem]
      have hs2 : wr.heap.size < w2.heap.size := by have := hb2.size; simp at this; omega
      have Hr := Lib.hid ((Below.alloc (Below.refl _ _) (Nat.le_refl _) _).trans (hb2.mono (by simp)))
      have H2 := Lib.hid (Hb.out.trans (Hr.out.mono Hb.out.size))
      have HR2 := Lib.hid (HR.out.below Hr.out)
      clear hb2 HR
      obtain ⟨t0, t1, t2, t3⟩ := hT2
      by_cases hd : x.a + x.b + x.c = n
      · have HDn := Lib.hid (show partK L n (k + 1) = partK L n k ++ [x] by rw [← HD.out, if_pos (show degT x = n from hd)])
        have hle := partK_le L n k
        go_wp2_with (at_builtin; refine wpList_append_own _ rfl _ _ 26 rfl w.heap.size 79 i0 (.agg #[.int .i64 0, .int .i64 0, .int .i64 0, .int .i64 0]) 4 32 Try.underlying26 hi hz0 hz1 hz2 rfl (by decide) _ _ _ rfl (World.ownsRow.alloc HR2.out _) ⟨w2.heap.size, 0, none⟩ 1 1 x.cs rfl rfl ?c1 ?c2 ?c3 ?c4 ?c5 ?_)
        case c1 =>
          intro j u hj
          match j, hj with
          | 0, hj => simp [Trm.cs] at hj; subst hj; simp [Addr.add]
          | 1, hj => simp [Trm.cs] at hj; subst hj; simp [Addr.add]
          | 2, hj => simp [Trm.cs] at hj; subst hj; simp [Addr.add]
          | 3, hj => simp [Trm.cs] at hj; subst hj; simp [Addr.add]
          | j + 4, hj => simp [Trm.cs] at hj
        case c2 => intro u hu; exact flat_cell [x] u (by simpa [flat] using hu)
        case c3 => unfold maxLen; omega
        case c4 => omega
        case c5 => have := H2.out.size; simp; omega
        intro v' w3 hown' hgrow _
        have R3 := Lib.hid (show Row w3 w.heap.size v' (partK L n (k + 1)) by
          rw [HDn.out]
          show World.ownsRow _ _ _ _ _ _ _
          rw [flat_app, flat_one, List.length_append]
          exact hown')
        have H3 := Lib.hid (show Below w.heap.size w w3 by
          exact Below.trans (Below.alloc H2.out H2.out.size _) (Row.low (World.ownsRow.alloc HR2.out _) (by have := H2.out.size; simp; omega) hgrow))
        clear hown' hgrow
        go_wp2
        go_roundw
        case rel => exact ⟨k + 1, by omega, by go_num, R3.out, H3.out⟩
        case measure => simp [intOf]; omega
      · have HDn := Lib.hid (show partK L n (k + 1) = partK L n k by rw [← HD.out, if_neg (show ¬ degT x = n from hd)])
        go_wp2_with fail
        go_roundw
        case rel => exact ⟨k + 1, by omega, by go_num, by rw [HDn.out]; exact HR2.out, H2.out⟩
        case measure => simp [intOf]; omega
    · have hkl : k = L.length := by omega
      subst hkl
      have hle := partK_le L n L.length
      go_wp2
      refine bodyPost_ret (v := .tuple #[_, .bool true]) (by simp [results, Try.results50, go_sem]) rfl ⟨_, rfl, hrow.own (by omega), hb⟩
set_option maxHeartbeats 4000000 in
theorem iPart_nil (p : Int) (a : Option Addr) (cap : Nat) (n : Int) (w : World) (hp : isP p = true) :
    Calls Try.prog 50 #[.int .i64 p, .slice a 0 cap, .int .i64 n] w (GivesPB [] true w) := by
  have HB := Lib.hid (show ∀ w', Below w.heap.size w w' → Calls Try.prog 116 #[.int .i64 p, .slice a 0 cap] w' fun e w'' => e = .returned (.bool true) ∧ Below w'.heap.size w' w'' from
    fun w' hb => (iPolyValid p (.slice a 0 cap) [] w' ⟨by simp, a, cap, rfl, .inl rfl⟩).mono fun e w' h => by rw [hp] at h; exact h)
  clear hp
  go_enter Try.func50, Try.ntmps50
  go_wp2_with fail
  refine (HB.out _ (Below.refl _ _)).mono ?_
  rintro e w1 ⟨rfl, hb1⟩
  have H1 := Lib.hid (show Below w.heap.size w w1 from hb1)
  have R1 := Lib.hid (show Row w1 w.heap.size (.slice none 0 0) [] from Row.nil _ _)
  clear hb1
  go_wp2_with fail
  go_loop [8, 17] (fun v i => v = (.slice none 0 0) ∧ i = .int .i64 0) (fun _ _ => 0)
  case atStart => exact ⟨rfl, rfl⟩
  case round =>
    obtain ⟨rfl, rfl⟩ := hrel
    go_wp2_with fail
    refine bodyPost_ret (v := .tuple #[(.slice none 0 0), .bool true]) (by simp [results, Try.results50, go_sem]) rfl ⟨_, rfl, R1.out.own (by simp), H1.out⟩
set_option maxHeartbeats 4000000 in
theorem iPart_no (p : Int) (f : Value) (L : List Trm) (n : Int) (w : World) (h : Trms w f L) (hn : (isP p && validB p L) = false) :
    Calls Try.prog 50 #[.int .i64 p, f, .int .i64 n] w (GivesPB [] false w) := by
  have HB := Lib.hid (show ∀ w', Below w.heap.size w w' → Calls Try.prog 116 #[.int .i64 p, f] w' fun e w'' => e = .returned (.bool false) ∧ Below w'.heap.size w' w'' from
    fun w' hb => (iPolyValid p f L w' (h.below hb)).mono fun e w' h => by rw [hn] at h; exact h)
  clear hn h
  go_enter Try.func50, Try.ntmps50
  go_wp2_with fail
  refine (HB.out _ (Below.refl _ _)).mono ?_
  rintro e w1 ⟨rfl, hb1⟩
  have H1 := Lib.hid (show Below w.heap.size w w1 from hb1)
  have R1 := Lib.hid (show Row w1 w.heap.size (.slice none 0 0) [] from Row.nil _ _)
  clear hb1
  go_wp2_with fail
  refine bodyPost_ret (v := .tuple #[_, .bool false]) (by simp [results, Try.results50, go_sem]) rfl ⟨_, rfl, R1.out.own (by simp), H1.out⟩
theorem iPartPoly (p : Int) (f : Value) (L : List Trm) (n : Int) (w : World) (h : Trms w f L) :
    Calls Try.prog 50 #[.int .i64 p, f, .int .i64 n] w (GivesPB (partL p L n) (isP p && validB p L) w) := by
  unfold partL
  cases hn : isP p && validB p L
  · exact iPart_no p f L n w h hn
  · have hn2 := hn
    simp only [Bool.and_eq_true] at hn2
    obtain ⟨hl, a, cap, rfl, h2⟩ := h
    rcases h2 with rfl | ⟨g, off, rfl, hg, hc⟩
    · exact iPart_nil p a cap n w hn2.1
    · exact iPart_some p g off cap L n w hn2.1 hn2.2 hg hc
end Go.Proofs.Ytbgcamkclbcaiaa
