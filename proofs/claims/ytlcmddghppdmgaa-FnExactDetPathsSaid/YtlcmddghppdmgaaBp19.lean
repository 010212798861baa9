/-
  Contracts of the program's own PolyValid. Conditions: what the slice holds is known.
  Contracts of the program's DegreeOf, and of both DegreeIn.
  ProgramValid, of both. Conditions: none but that the slices read as arrows.
  Contracts of both DegreeIn.
-/
import Derived.Test.YtlcmddghppdmgaaBp17
import Derived.Test.YtlcmddghppdmgaaBp18
import Derived.Test.YtlcmddghppdmgaaBp3
namespace Go.Proofs.Ytlcmddghppdmgaa
open Go.RowKit
theorem elem_tok {p t : Int} : (decide (1 ≤ t) && decide (t ≤ p - 1)) = (decide (t ≠ 0) && isE p t) := by
  by_cases h1 : t = 0
  · subst h1; simp
  · cases hE : isE p t
    · rcases isE_no hE with h | h <;> simp <;> omega
    · have := isE_iff.1 hE; simp [h1]; omega
theorem validB_long {p : Int} {L : List Trm} (h : 60 < L.length) : validB p L = false := by
  unfold validB
  rw [Bool.and_eq_false_iff]
  right; simp; omega
theorem iAE1_is (r : Bool) (p a : Int) (hp : isP p = true) (h : isE p a = r) (b : Nat) (w : World) (h0 : w.cell? ⟨b, 0, none⟩ = some (.int .i64 a)) :
    Calls Try.prog 140 #[.int .i64 p, .slice (some ⟨b, 0, none⟩) 1 1] w fun e w' => e = .returned (.bool r) ∧ w = w' := by
  have := iAE1 p a b w h0
  simp only [isE1, hp, Bool.true_and, h] at this
  exact this
set_option maxHeartbeats 4000000 in
theorem iPolyValid_some (p : Int) (hp : isP p = true) (g off cap : Nat) (L : List Trm) (w : World) (hl : L.length ≤ 60) (hg : g < w.heap.size)
    (hc : ∀ j : Nat, j < L.length → TAt w g (off + j * 4) (L.getD j default)) :
    Calls Try.prog 150 #[.int .i64 p, .slice (some ⟨g, off, none⟩) L.length cap] w fun e w' => e = .returned (.bool (validB p L)) ∧ Below w.heap.size w w' := by
  have HP := Lib.hid hp
  obtain ⟨p0, p1⟩ := isP_bd hp
  have HC := Lib.hid hc
  clear hc hp
  have hlp : (L.length : Int) ≤ 60 := by omega
  go_enter Try.func150, Try.ntmps150
  go_wp2_with (go_at_call 81; refine (iPV_yes _ _ HP.out).mono ?_; rintro e w' ⟨rfl, rfl⟩)
  go_loopw [17] (fun i wr => ∃ k : Nat, k ≤ L.length ∧ i = .int .i64 k ∧ (∀ j : Nat, j < k → okAt p L j = true) ∧ Below w.heap.size w wr) (fun i _ => L.length - (intOf i).toNat)
  case atStart => exact ⟨0, by omega, rfl, fun j hj => by omega, Below.refl _ _⟩
  case round =>
    obtain ⟨k, hk, rfl, hall, hb⟩ := hrel
    have Hall := Lib.hid hall
    clear hall
    by_cases hlt : k < L.length
    · have hltp : (k : Int) < (L.length : Int) := by omega
      have hk0 : (0 : Int) ≤ (k : Int) := by omega
      obtain ⟨a0, a1, a2, a3⟩ := (HC.out k hlt).below hb hg
      obtain ⟨x, hx⟩ : ∃ x, x = L.getD k default := ⟨_, rfl⟩
      rw [← hx] at a0 a1 a2 a3
      have Hx := Lib.hid hx
      have Hb := Lib.hid hb
      have hr1 : g < wr.heap.size := Nat.lt_of_lt_of_le hg hb.size
      clear hx hb
      rcases Bool.eq_false_or_eq_true (decide (x.t ≠ 0) && isE p x.t) with h2 | h2
      · obtain ⟨hx0, hxE⟩ : x.t ≠ 0 ∧ isE p x.t = true := by simpa using h2
        have H2 := Lib.hid (elem_tok.trans h2)
        have HE := Lib.hid hxE
        clear h2 hxE
        rcases Bool.eq_false_or_eq_true (powsB x.a x.b x.c) with h1 | h1
        · have H1 := Lib.hid h1
          clear h1
          go_wp2_with (first
            | (go_at_call 140; refine (iAE1_is true p x.t HP.out HE.out _ _ (by simp)).mono ?_; rintro e w1 ⟨rfl, rfl⟩)
            | (go_at_call 186; refine (iFit_is true x.a x.b x.c x.t H1.out _).mono ?_; rintro e w1 ⟨rfl, hb1⟩))
          have hT : TAt w1 wr.heap.size 0 x := by
            refine TAt.below (B := _) ?_ hb1 (by simp; omega)
            refine ⟨?_, ?_, ?_, ?_⟩ <;> simp [go_sem]
          have hsz : wr.heap.size < w1.heap.size := by have := hb1.size; simp at this; omega
          have HbW := Lib.hid (show Below w.heap.size w w1 by
            have hs := Hb.out.size
            refine Below.trans ?_ (hb1.mono (by first | omega | (simp; omega)))
            repeat (first | exact Hb.out | apply Below.drew | apply below_drewN | (refine Below.setCell ?_ (by first | omega | (simp; omega)) _) | (refine Below.alloc ?_ (by first | omega | (simp; omega)) _)))
          clear hb1 a0 a1 a2 a3
          have F : ∀ w', Below w1.heap.size w1 w' → (w'.cell? ⟨wr.heap.size, 0, none⟩ = some (.int .i64 x.a) ∧ w'.cell? ⟨wr.heap.size, 1, none⟩ = some (.int .i64 x.b) ∧ w'.cell? ⟨wr.heap.size, 2, none⟩ = some (.int .i64 x.c) ∧ w'.cell? ⟨wr.heap.size, 3, none⟩ = some (.int .i64 x.t)) := fun w' h => hT.below h hsz
          have HF := Lib.hid F
          have hgW : g < w1.heap.size := by omega
          have HG := Lib.hid (fun (j : Nat) (hj : j < L.length) w' (h : Below w1.heap.size w1 w') => ((HC.out j hj).below HbW.out hg).below h hgW)
          clear F hT
          by_cases hk1 : k = 0
          · have HK := Lib.hid hk1
            clear hk1
            refine wp_region_below (by kernel_rfl) (by kernel_rfl) ?_
            (with_reducible refine wpQuiet_yes ?_ ?_; (focus (kernel_rfl)); intro K hK; go_simp; refine ⟨_, fun _ _ => rfl, ?_⟩; with_reducible refine hK _ ?_; clear hK K)
            (with_reducible refine wpQuiet_yes ?_ ?_; (focus (kernel_rfl)); intro K hK; go_simp; refine ⟨(.bool false), ?_, ?_⟩; rotate_left; with_reducible refine hK _ ?_; clear hK K; rotate_left)
            · intro w' hw
              simp [HK.out]
            (with_reducible refine wpQuiet_yes ?_ ?_; (focus (kernel_rfl)); intro K hK; go_simp; refine ⟨_, fun _ _ => rfl, ?_⟩; with_reducible refine hK _ ?_; clear hK K)
            iterate 10 (with_reducible refine wpQuiet_no ?_ ?_; (focus (kernel_rfl)); intro K hK; go_simp; with_reducible refine hK _ ?_; clear hK K)
            (with_reducible refine wpQuiet_yes ?_ ?_; (focus (kernel_rfl)); intro K hK; go_simp; refine ⟨_, fun _ _ => rfl, ?_⟩; with_reducible refine hK _ ?_; clear hK K)
            refine wpQuiet_nil fun w2 hb2 => ?_
            have Hb2 := Lib.hid hb2
            clear hb2
            simp only [Exit.then]
            go_wp2_with fail
            go_roundw
            case rel => exact ⟨k + 1, by omega, by go_num, okAt_snoc Hall.out (by rw [okAt_is Hx.out H1.out H2.out, HK.out]; simp), HbW.out.trans (Hb2.out.mono HbW.out.size)⟩
            case measure => simp [intOf]; omega
          · obtain ⟨j, hkj⟩ : ∃ j, k = j + 1 := ⟨k - 1, by omega⟩
            have HJ := Lib.hid hkj
            have WK := Lib.hid (show IntKind.i64.wrap ((k : Int) - 1) = (j : Int) from (IntWalk.i64_in _ (by omega)).trans (by omega))
            clear hk1 hkj
            have hjl : j < L.length := by have := HJ.out; omega
            have hjl' : (j : Int) < (L.length : Int) := by omega
            have hj0 : (0 : Int) ≤ (j : Int) := by omega
            obtain ⟨y, hy⟩ : ∃ y, y = L.getD j default := ⟨_, rfl⟩
            have HY := Lib.hid (HG.out j hjl)
            rw [← hy] at HY
            have Hy := Lib.hid hy
            clear hy
            rcases Bool.eq_false_or_eq_true (befB y.a y.b y.c x.a x.b x.c) with h3 | h3
            · have H3 := Lib.hid h3
              clear h3
              refine wp_region_below (by kernel_rfl) (by kernel_rfl) ?_
              (with_reducible refine wpQuiet_yes ?_ ?_; (focus (kernel_rfl)); intro K hK; go_simp; refine ⟨_, fun _ _ => rfl, ?_⟩; with_reducible refine hK _ ?_; clear hK K)
              (with_reducible refine wpQuiet_yes ?_ ?_; (focus (kernel_rfl)); intro K hK; go_simp; refine ⟨(.bool true), ?_, ?_⟩; rotate_left; with_reducible refine hK _ ?_; clear hK K; rotate_left)
              · intro w' hw
                have := HJ.out
                simp
                try omega
              (with_reducible refine wpQuiet_yes ?_ ?_; (focus (kernel_rfl)); intro K hK; go_simp; refine ⟨_, fun _ _ => rfl, ?_⟩; with_reducible refine hK _ ?_; clear hK K)
              (with_reducible refine wpQuiet_yes ?_ ?_; (focus (kernel_rfl)); intro K hK; go_simp; refine ⟨_, fun _ _ => rfl, ?_⟩; with_reducible refine hK _ ?_; clear hK K)
              (with_reducible refine wpQuiet_yes ?_ ?_; (focus (kernel_rfl)); intro K hK; go_simp; refine ⟨_, fun _ _ => rfl, ?_⟩; with_reducible refine hK _ ?_; clear hK K)
              (with_reducible refine wpQuiet_yes ?_ ?_; (focus (kernel_rfl)); intro K hK; go_simp; refine ⟨(.int .i64 (j : Int)), ?_, ?_⟩; rotate_left; with_reducible refine hK _ ?_; clear hK K; rotate_left)
              · intro w' hw
                simp only [WK.out]
              (with_reducible refine wpQuiet_yes ?_ ?_; (focus (kernel_rfl)); intro K hK; go_simp; refine ⟨_, fun _ _ => rfl, ?_⟩; with_reducible refine hK _ ?_; clear hK K)
              (with_reducible refine wpQuiet_yes ?_ ?_; (focus (kernel_rfl)); intro K hK; go_simp; refine ⟨_, fun _ _ => rfl, ?_⟩; with_reducible refine hK _ ?_; clear hK K)
              (with_reducible refine wpQuiet_yes ?_ ?_; (focus (kernel_rfl)); intro K hK; go_simp; refine ⟨(.agg #[.int .i64 y.a, .int .i64 y.b, .int .i64 y.c]), ?_, ?_⟩; rotate_left; with_reducible refine hK _ ?_; clear hK K; rotate_left)
              · intro w' hw
                obtain ⟨c0, c1, c2, c3⟩ := HY.out w' hw
                simp only [c0, c1, c2, go_sem, Result.andThen, and_self]
              (with_reducible refine wpQuiet_yes ?_ ?_; (focus (kernel_rfl)); intro K hK; go_simp; refine ⟨_, fun _ _ => rfl, ?_⟩; with_reducible refine hK _ ?_; clear hK K)
              (with_reducible refine wpQuiet_yes ?_ ?_; (focus (kernel_rfl)); intro K hK; go_simp; refine ⟨(.agg #[.int .i64 x.a, .int .i64 x.b, .int .i64 x.c]), ?_, ?_⟩; rotate_left; with_reducible refine hK _ ?_; clear hK K; rotate_left)
              · intro w' hw
                obtain ⟨c0, c1, c2, c3⟩ := HF.out w' hw
                simp only [c0, c1, c2, go_sem, Result.andThen, and_self]
              (with_reducible refine wpQuiet_yes ?_ ?_; (focus (kernel_rfl)); intro K hK; go_simp; refine ⟨(.bool true), ?_, ?_⟩; rotate_left; with_reducible refine hK _ ?_; clear hK K; rotate_left)
              · intro w' hw
                exact (iGrt_is true _ _ _ _ _ _ H3.out _).mono fun e w'' ⟨he, h⟩ => ⟨he, h.below' (Below.alloc (Below.alloc hw hw.size _) (by simpa using Nat.le_succ_of_le hw.size) _)⟩
              (with_reducible refine wpQuiet_yes ?_ ?_; (focus (kernel_rfl)); intro K hK; go_simp; refine ⟨_, fun _ _ => rfl, ?_⟩; with_reducible refine hK _ ?_; clear hK K)
              (with_reducible refine wpQuiet_yes ?_ ?_; (focus (kernel_rfl)); intro K hK; go_simp; refine ⟨_, fun _ _ => rfl, ?_⟩; with_reducible refine hK _ ?_; clear hK K)
              refine wpQuiet_nil fun w2 hb2 => ?_
              have Hb2 := Lib.hid hb2
              clear hb2
              simp only [Exit.then]
              go_wp2_with fail
              go_roundw
              case rel => exact ⟨k + 1, by omega, by go_num, okAt_snoc Hall.out ((okAt_is2 HJ.out Hx.out Hy.out H1.out H2.out H3.out).trans rfl), HbW.out.trans (Hb2.out.mono HbW.out.size)⟩
              case measure => simp [intOf]; omega
            · have H3 := Lib.hid h3
              clear h3
              refine wp_region_below (by kernel_rfl) (by kernel_rfl) ?_
              (with_reducible refine wpQuiet_yes ?_ ?_; (focus (kernel_rfl)); intro K hK; go_simp; refine ⟨_, fun _ _ => rfl, ?_⟩; with_reducible refine hK _ ?_; clear hK K)
              (with_reducible refine wpQuiet_yes ?_ ?_; (focus (kernel_rfl)); intro K hK; go_simp; refine ⟨(.bool true), ?_, ?_⟩; rotate_left; with_reducible refine hK _ ?_; clear hK K; rotate_left)
              · intro w' hw
                have := HJ.out
                simp
                try omega
              (with_reducible refine wpQuiet_yes ?_ ?_; (focus (kernel_rfl)); intro K hK; go_simp; refine ⟨_, fun _ _ => rfl, ?_⟩; with_reducible refine hK _ ?_; clear hK K)
              (with_reducible refine wpQuiet_yes ?_ ?_; (focus (kernel_rfl)); intro K hK; go_simp; refine ⟨_, fun _ _ => rfl, ?_⟩; with_reducible refine hK _ ?_; clear hK K)
              (with_reducible refine wpQuiet_yes ?_ ?_; (focus (kernel_rfl)); intro K hK; go_simp; refine ⟨_, fun _ _ => rfl, ?_⟩; with_reducible refine hK _ ?_; clear hK K)
              (with_reducible refine wpQuiet_yes ?_ ?_; (focus (kernel_rfl)); intro K hK; go_simp; refine ⟨(.int .i64 (j : Int)), ?_, ?_⟩; rotate_left; with_reducible refine hK _ ?_; clear hK K; rotate_left)
              · intro w' hw
                simp only [WK.out]
              (with_reducible refine wpQuiet_yes ?_ ?_; (focus (kernel_rfl)); intro K hK; go_simp; refine ⟨_, fun _ _ => rfl, ?_⟩; with_reducible refine hK _ ?_; clear hK K)
              (with_reducible refine wpQuiet_yes ?_ ?_; (focus (kernel_rfl)); intro K hK; go_simp; refine ⟨_, fun _ _ => rfl, ?_⟩; with_reducible refine hK _ ?_; clear hK K)
              (with_reducible refine wpQuiet_yes ?_ ?_; (focus (kernel_rfl)); intro K hK; go_simp; refine ⟨(.agg #[.int .i64 y.a, .int .i64 y.b, .int .i64 y.c]), ?_, ?_⟩; rotate_left; with_reducible refine hK _ ?_; clear hK K; rotate_left)
              · intro w' hw
                obtain ⟨c0, c1, c2, c3⟩ := HY.out w' hw
                simp only [c0, c1, c2, go_sem, Result.andThen, and_self]
              (with_reducible refine wpQuiet_yes ?_ ?_; (focus (kernel_rfl)); intro K hK; go_simp; refine ⟨_, fun _ _ => rfl, ?_⟩; with_reducible refine hK _ ?_; clear hK K)
              (with_reducible refine wpQuiet_yes ?_ ?_; (focus (kernel_rfl)); intro K hK; go_simp; refine ⟨(.agg #[.int .i64 x.a, .int .i64 x.b, .int .i64 x.c]), ?_, ?_⟩; rotate_left; with_reducible refine hK _ ?_; clear hK K; rotate_left)
              · intro w' hw
                obtain ⟨c0, c1, c2, c3⟩ := HF.out w' hw
                simp only [c0, c1, c2, go_sem, Result.andThen, and_self]
              (with_reducible refine wpQuiet_yes ?_ ?_; (focus (kernel_rfl)); intro K hK; go_simp; refine ⟨(.bool false), ?_, ?_⟩; rotate_left; with_reducible refine hK _ ?_; clear hK K; rotate_left)
              · intro w' hw
                exact (iGrt_is false _ _ _ _ _ _ H3.out _).mono fun e w'' ⟨he, h⟩ => ⟨he, h.below' (Below.alloc (Below.alloc hw hw.size _) (by simpa using Nat.le_succ_of_le hw.size) _)⟩
              (with_reducible refine wpQuiet_yes ?_ ?_; (focus (kernel_rfl)); intro K hK; go_simp; refine ⟨_, fun _ _ => rfl, ?_⟩; with_reducible refine hK _ ?_; clear hK K)
              (with_reducible refine wpQuiet_yes ?_ ?_; (focus (kernel_rfl)); intro K hK; go_simp; refine ⟨_, fun _ _ => rfl, ?_⟩; with_reducible refine hK _ ?_; clear hK K)
              refine wpQuiet_nil fun w2 hb2 => ?_
              have Hb2 := Lib.hid hb2
              clear hb2
              simp only [Exit.then]
              go_wp2_with fail
              go_ret
              exact ⟨ret_bool (validB_no hlt ((okAt_is2 HJ.out Hx.out Hy.out H1.out H2.out H3.out).trans rfl)).symm, HbW.out.trans (Hb2.out.mono HbW.out.size)⟩
        · have H1 := Lib.hid h1
          clear h1
          go_wp2_with (first
            | (go_at_call 140; refine (iAE1_is true p x.t HP.out HE.out _ _ (by simp)).mono ?_; rintro e w1 ⟨rfl, rfl⟩)
            | (go_at_call 186; refine (iFit_is false x.a x.b x.c x.t H1.out _).mono ?_; rintro e w1 ⟨rfl, hb1⟩))
          go_ret
          exact ⟨ret_bool (validB_no hlt ((okAt_is Hx.out H1.out H2.out).trans (by simp))).symm, by have hs := Hb.out.size; refine Below.trans ?_ (hb1.mono (by first | omega | (simp; omega))); repeat (first | exact Hb.out | apply Below.drew | apply below_drewN | (refine Below.setCell ?_ (by first | omega | (simp; omega)) _) | (refine Below.alloc ?_ (by first | omega | (simp; omega)) _))⟩
      · have H2 := Lib.hid (elem_tok.trans h2)
        by_cases hx0 : x.t = 0
        · clear h2
          go_wp2_with fail
          go_ret
          exact ⟨ret_bool (validB_no hlt ((okAt_is Hx.out rfl H2.out).trans (by simp))).symm, by have hs := Hb.out.size; repeat (first | exact Hb.out | apply Below.drew | apply below_drewN | (refine Below.setCell ?_ (by first | omega | (simp; omega)) _) | (refine Below.alloc ?_ (by first | omega | (simp; omega)) _))⟩
        · have HE := Lib.hid (show isE p x.t = false by simpa [hx0] using h2)
          clear h2
          go_wp2_with (go_at_call 140; refine (iAE1_is false p x.t HP.out HE.out _ _ (by simp)).mono ?_; rintro e w1 ⟨rfl, rfl⟩)
          go_ret
          exact ⟨ret_bool (validB_no hlt ((okAt_is Hx.out rfl H2.out).trans (by simp))).symm, by have hs := Hb.out.size; repeat (first | exact Hb.out | apply Below.drew | apply below_drewN | (refine Below.setCell ?_ (by first | omega | (simp; omega)) _) | (refine Below.alloc ?_ (by first | omega | (simp; omega)) _))⟩
    · have hkl : k = L.length := by omega
      go_wp2_with fail
      go_ret
      exact ⟨ret_bool ((validB_all (hkl ▸ Hall.out)).trans (decide_eq_true hlp)).symm, hb⟩
set_option maxHeartbeats 2000000 in
theorem iPolyValid_no (p : Int) (hp : isP p = false) (v : Value) (w : World) :
    Calls Try.prog 150 #[.int .i64 p, v] w fun e w' => e = .returned (.bool false) ∧ w = w' := by
  have HP := Lib.hid hp
  clear hp
  go_enter Try.func150, Try.ntmps150
  go_wp2_with (go_at_call 81; refine (iPV_no _ _ HP.out).mono ?_; rintro e w' ⟨rfl, rfl⟩)
  go_ret
  exact ⟨rfl, rfl⟩
set_option maxHeartbeats 2000000 in
theorem iPolyValid_long (p : Int) (hp : isP p = true) (a : Option Addr) (n cap : Nat) (w : World) (hl : 60 < n) :
    Calls Try.prog 150 #[.int .i64 p, .slice a n cap] w fun e w' => e = .returned (.bool false) ∧ w = w' := by
  have HP := Lib.hid hp
  clear hp
  have hlp : (60 : Int) < (n : Int) := by omega
  go_enter Try.func150, Try.ntmps150
  go_wp2_with (go_at_call 81; refine (iPV_yes _ _ HP.out).mono ?_; rintro e w' ⟨rfl, rfl⟩)
  go_ret
  exact ⟨rfl, rfl⟩
set_option maxHeartbeats 2000000 in
theorem iPolyValid_nil (p : Int) (hp : isP p = true) (a : Option Addr) (cap : Nat) (w : World) :
    Calls Try.prog 150 #[.int .i64 p, .slice a 0 cap] w fun e w' => e = .returned (.bool true) ∧ w = w' := by
  have HP := Lib.hid hp
  clear hp
  go_enter Try.func150, Try.ntmps150
  go_wp2_with (go_at_call 81; refine (iPV_yes _ _ HP.out).mono ?_; rintro e w' ⟨rfl, rfl⟩)
  go_loop [17] (fun i => i = .int .i64 0) (fun _ => 0)
  case atStart => exact rfl
  case round =>
    subst hrel
    go_wp2_with fail
    go_ret
    exact ⟨ret_bool (by simp), rfl⟩
/-- the program's PolyValid, for any prime or none and any list of terms -/
theorem iPolyValid (p : Int) (v : Value) (L : List Trm) (w : World) (h : Trms w v L) :
    Calls Try.prog 150 #[.int .i64 p, v] w fun e w' => e = .returned (.bool (isP p && validB p L)) ∧ Below w.heap.size w w' := by
  cases hp : isP p
  · exact (iPolyValid_no p hp v w).mono fun e w' ⟨h1, h2⟩ => ⟨h1, h2 ▸ Below.refl _ _⟩
  · obtain ⟨hl, a, cap, rfl, h2⟩ := h
    by_cases h60 : L.length ≤ 60
    · rcases h2 with rfl | ⟨g, off, rfl, hg, hc⟩
      · exact (iPolyValid_nil p hp a cap w).mono fun e w' ⟨h1, h2⟩ => ⟨by rw [h1, validB_nil]; rfl, h2 ▸ Below.refl _ _⟩
      · exact (iPolyValid_some p hp g off cap L w h60 hg hc).mono fun e w' ⟨h1, h2⟩ => ⟨by rw [h1, Bool.true_and], h2⟩
    · exact (iPolyValid_long p hp a L.length cap w (by omega)).mono fun e w' ⟨h1, h2⟩ => ⟨by rw [h1, validB_long (by omega)]; rfl, h2 ▸ Below.refl _ _⟩
end Go.Proofs.Ytlcmddghppdmgaa
namespace Go.Proofs.Ytlcmddghppdmgaa
open Go.RowKit
set_option maxHeartbeats 2000000 in
theorem iDeg (a b c t : Int) (w : World) (ha : 0 ≤ a ∧ a ≤ 9) (hb : 0 ≤ b ∧ b ≤ 9) (hc : 0 ≤ c ∧ c ≤ 9) :
    Calls Try.prog 152 #[.agg #[.int .i64 a, .int .i64 b, .int .i64 c, .int .i64 t]] w fun e w' => e = .returned (.int .i64 (a + b + c)) ∧ Below w.heap.size w w' := by
  obtain ⟨a0, a1⟩ := ha
  obtain ⟨b0, b1⟩ := hb
  obtain ⟨c0, c1⟩ := hc
  have w1 : IntKind.i64.wrap (a + b) = a + b := IntWalk.i64_in _ (by omega)
  have w2 : IntKind.i64.wrap (a + b + c) = a + b + c := IntWalk.i64_in _ (by omega)
  go_enter Try.func152, Try.ntmps152
  go_wp2_with fail
  go_ret
  exact ⟨rfl, by repeat (first | exact Below.refl _ _ | apply Below.drew | apply below_drewN | (refine Below.setCell ?_ (by first | omega | (simp; omega)) _) | (refine Below.alloc ?_ (by first | omega | (simp; omega)) _))⟩
set_option maxHeartbeats 4000000 in
theorem iDegreeOf_some (p : Int) (g off cap : Nat) (L : List Trm) (w : World) (hL : isP p = true) (hV : validB p L = true) (hg : g < w.heap.size)
    (hc : ∀ j : Nat, j < L.length → TAt w g (off + j * 4) (L.getD j default)) :
    Calls Try.prog 75 #[.int .i64 p, .slice (some ⟨g, off, none⟩) L.length cap] w fun e w' => e = .returned (.int .i64 (degK L L.length)) ∧ Below w.heap.size w w' := by
  have hl := validB_len hV
  have HB := Lib.hid (show ∀ w', Below w.heap.size w w' → Calls Try.prog 150 #[.int .i64 p, .slice (some ⟨g, off, none⟩) L.length cap] w' fun e w'' => e = .returned (.bool true) ∧ Below w'.heap.size w' w'' from
    fun w' hb => (iPolyValid p _ L w' ⟨by omega, _, cap, rfl, .inr ⟨g, off, rfl, Nat.lt_of_lt_of_le hg hb.size, fun j hj => (hc j hj).below hb hg⟩⟩).mono fun e w'' h => by rw [hL, hV] at h; exact h)
  have HC := Lib.hid hc
  have HV := Lib.hid hV
  clear hc hV
  go_enter Try.func75, Try.ntmps75
  go_wp2_with fail
  refine (HB.out _ (Below.refl _ _)).mono ?_
  rintro e w1 ⟨rfl, hb1⟩
  go_wp2_with fail
  go_loopw [5, 14] (fun n i wr => ∃ k : Nat, k ≤ L.length ∧ i = .int .i64 k ∧ n = .int .i64 (degK L k) ∧ Below w.heap.size w wr) (fun _ i _ => L.length - (intOf i).toNat)
  case atStart => exact ⟨0, by omega, rfl, rfl, hb1⟩
  case round =>
    obtain ⟨k, hk, rfl, rfl, hb⟩ := hrel
    by_cases hlt : k < L.length
    · have hltp : (k : Int) < (L.length : Int) := by omega
      have hk0 : (0 : Int) ≤ (k : Int) := by omega
      obtain ⟨a0, a1, a2, a3⟩ := (HC.out k hlt).below hb hg
      obtain ⟨x, hx⟩ : ∃ x, x = L.getD k default := ⟨_, rfl⟩
      rw [← hx] at a0 a1 a2 a3
      have HX := Lib.hid (validB_pows HV.out hlt hx)
      have HD := Lib.hid (show (if degK L k < x.a + x.b + x.c then x.a + x.b + x.c else degK L k) = degK L (k + 1) by rw [hx]; rfl)
      have Hb := Lib.hid hb
      clear hx hb hb1
      go_wp2_with fail
      refine (iDeg x.a x.b x.c x.t _ HX.out.1 HX.out.2.1 HX.out.2.2).mono ?_
      rintro e w2 ⟨rfl, hb2⟩
      have H2 := Lib.hid (Hb.out.trans (((Below.alloc (Below.refl _ _) (Nat.le_refl _) _).trans (hb2.mono (by simp))).mono Hb.out.size))
      clear hb2
      go_wp2_with fail
      go_roundw
      case rel => exact ⟨k + 1, by omega, by go_num, by rw [HD.out], H2.out⟩
      case measure => simp [intOf]; omega
    · have hkl : k = L.length := by omega
      subst hkl
      go_wp2
      go_ret
      exact ⟨rfl, hb⟩
theorem iDegreeOf_nil (p : Int) (a : Option Addr) (cap : Nat) (w : World) (hp : isP p = true) :
    Calls Try.prog 75 #[.int .i64 p, .slice a 0 cap] w fun e w' => e = .returned (.int .i64 (-1)) ∧ Below w.heap.size w w' := by
  have HB := Lib.hid (show Calls Try.prog 150 #[.int .i64 p, .slice a 0 cap] w fun e w' => e = .returned (.bool true) ∧ Below w.heap.size w w' from
    (iPolyValid p (.slice a 0 cap) [] w ⟨by simp, a, cap, rfl, .inl rfl⟩).mono fun e w' h => by rw [hp] at h; exact h)
  clear hp
  go_enter Try.func75, Try.ntmps75
  go_wp2_with fail
  refine HB.out.mono ?_
  rintro e w1 ⟨rfl, hb1⟩
  go_wp2_with fail
  go_loop [5, 14] (fun n i => n = .int .i64 (-1) ∧ i = .int .i64 0) (fun _ _ => 0)
  case atStart => exact ⟨rfl, rfl⟩
  case round =>
    obtain ⟨rfl, rfl⟩ := hrel
    go_wp2_with fail
    go_ret
    exact ⟨rfl, hb1⟩
theorem iDegreeOf_no (p : Int) (v : Value) (L : List Trm) (w : World) (h : Trms w v L) (hn : (isP p && validB p L) = false) :
    Calls Try.prog 75 #[.int .i64 p, v] w fun e w' => e = .returned (.int .i64 (-2)) ∧ Below w.heap.size w w' := by
  have HB := Lib.hid (show Calls Try.prog 150 #[.int .i64 p, v] w fun e w' => e = .returned (.bool false) ∧ Below w.heap.size w w' from
    (iPolyValid p v L w h).mono fun e w' h => by rw [hn] at h; exact h)
  clear hn h
  go_enter Try.func75, Try.ntmps75
  go_wp2_with fail
  refine HB.out.mono ?_
  rintro e w1 ⟨rfl, hb1⟩
  go_wp2_with fail
  go_ret
  exact ⟨rfl, hb1⟩
theorem iDegreeOf (p : Int) (v : Value) (L : List Trm) (w : World) (h : Trms w v L) :
    Calls Try.prog 75 #[.int .i64 p, v] w fun e w' => e = .returned (.int .i64 (degV p L)) ∧ Below w.heap.size w w' := by
  unfold degV
  cases hn : isP p && validB p L
  · exact iDegreeOf_no p v L w h hn
  · have hn2 := hn
    simp only [Bool.and_eq_true] at hn2
    obtain ⟨hl, a, cap, rfl, h2⟩ := h
    rcases h2 with rfl | ⟨g, off, rfl, hg, hc⟩
    · exact iDegreeOf_nil p a cap w hn2.1
    · exact iDegreeOf_some p g off cap L w hn2.1 hn2.2 hg hc
end Go.Proofs.Ytlcmddghppdmgaa
namespace Go.Proofs.Ytlcmddghppdmgaa
set_option linter.unusedVariables false
open Go.RowKit
/-- a label over the field of p -/
def labB (p : Int) (L : List Trm) : Bool := (isP p && validB p L) && decide (degV p L ≤ 1)
/-- an arrow that may stand in a program of n nodes -/
def arwB (p n : Int) (x : Arr) : Bool := decide (0 ≤ x.f) && decide (x.f < x.t) && decide (x.t < n) && labB p x.L
/-- a program over the field of p -/
def prgB (p n : Int) (A : List Arr) : Bool := isP p && (decide (2 ≤ n) && decide (n ≤ 5)) && decide (A.length ≤ 10) && A.all (arwB p n)
theorem prgB_iff {p n : Int} {A : List Arr} : prgB p n A = true ↔ isP p = true ∧ (2 ≤ n ∧ n ≤ 5) ∧ A.length ≤ 10 ∧ ∀ i, i < A.length → arwB p n (arw A i) = true := by
  have : (∀ i, i < A.length → arwB p n (arw A i) = true) ↔ A.all (arwB p n) = true := by
    rw [List.all_eq_true]
    constructor
    · intro h r hr
      obtain ⟨i, hi, rfl⟩ := List.getElem_of_mem hr
      have := h i hi
      simpa [arw, List.getD_eq_getElem?_getD, hi] using this
    · exact fun h i hi => h _ (arw_mem hi)
  rw [this]
  simp [prgB, and_assoc]
theorem prgB_no {p n : Int} {A : List Arr} {i : Nat} (h : i < A.length) (hr : arwB p n (arw A i) = false) : prgB p n A = false := by
  have : A.all (arwB p n) = false := List.all_eq_false.2 ⟨_, arw_mem h, by simp [hr]⟩
  simp [prgB, this]
theorem sLab (p : Int) (u : Value) (L : List Trm) (w : World) (h : Trms w u L) :
    Calls Try.prog 79 #[.int .i64 p, u] w fun e w' => e = .returned (.bool (labB p L)) ∧ Below w.heap.size w w' := by
  have HV := Lib.hid (sPolyValid p u L w h)
  have HD := Lib.hid (fun W (hb : Below w.heap.size w W) => sDegreeOf p u L W (h.below hb))
  obtain ⟨_, a, cap, rfl, _⟩ := h
  cases hv : isP p && validB p L
  · rw [hv] at HV
    have HF := Lib.hid (show labB p L = false by simp only [labB, hv]; rfl)
    clear hv
    go_enter Try.func79, Try.ntmps79
    go_wp2_with fail
    refine HV.out.mono ?_
    rintro e w1 ⟨rfl, hb⟩
    have HB := Lib.hid hb
    clear hb
    go_wp2
    go_ret
    exact ⟨ret_bool2 HF.out.symm, HB.out⟩
  · rw [hv] at HV
    by_cases hd : degV p L ≤ 1
    · have HF := Lib.hid (show labB p L = true by simp [labB, hv, hd])
      clear hv
      go_enter Try.func79, Try.ntmps79
      go_wp2_with fail
      refine HV.out.mono ?_
      rintro e w1 ⟨rfl, hb⟩
      have HB := Lib.hid hb
      clear hb
      go_wp2_with fail
      refine (HD.out _ HB.out).mono ?_
      rintro e w2 ⟨rfl, hb⟩
      have HC := Lib.hid (HB.out.trans (hb.mono HB.out.size))
      clear hb
      go_wp2
      go_ret
      exact ⟨ret_bool2 HF.out.symm, HC.out⟩
    · have HF := Lib.hid (show labB p L = false by simp [labB, hv, hd])
      clear hv
      go_enter Try.func79, Try.ntmps79
      go_wp2_with fail
      refine HV.out.mono ?_
      rintro e w1 ⟨rfl, hb⟩
      have HB := Lib.hid hb
      clear hb
      go_wp2_with fail
      refine (HD.out _ HB.out).mono ?_
      rintro e w2 ⟨rfl, hb⟩
      have HC := Lib.hid (HB.out.trans (hb.mono HB.out.size))
      clear hb
      go_wp2
      go_ret
      exact ⟨ret_bool2 ((decide_eq_false (by omega)).trans HF.out.symm), HC.out⟩
theorem iFits (p n f t : Int) (u : Value) (L : List Trm) (w : World) (h : Trms w u L) :
    Calls Try.prog 82 #[.agg #[.int .i64 f, .int .i64 t, u], .int .i64 p, .int .i64 n] w fun e w' => e = .returned (.bool (arwB p n ⟨f, t, L⟩)) ∧ Below w.heap.size w w' := by
  have HV := Lib.hid (fun W (hb : Below w.heap.size w W) => iPolyValid p u L W (h.below hb))
  have HD := Lib.hid (fun W (hb : Below w.heap.size w W) => iDegreeOf p u L W (h.below hb))
  obtain ⟨_, a, cap, rfl, _⟩ := h
  by_cases h1 : f < 0
  · have HF := Lib.hid (show arwB p n ⟨f, t, L⟩ = false by simp [arwB]; omega)
    go_enter Try.func82, Try.ntmps82
    go_wp2
    go_ret
    exact ⟨ret_bool2 HF.out.symm, (by repeat (first | exact Below.refl _ _ | apply Below.drew | apply below_drewN | (refine Below.alloc ?_ (by first | omega | (simp <;> omega)) _)))⟩
  by_cases h2 : f ≥ t
  · have HF := Lib.hid (show arwB p n ⟨f, t, L⟩ = false by simp [arwB]; omega)
    go_enter Try.func82, Try.ntmps82
    go_wp2
    go_ret
    exact ⟨ret_bool2 HF.out.symm, (by repeat (first | exact Below.refl _ _ | apply Below.drew | apply below_drewN | (refine Below.alloc ?_ (by first | omega | (simp <;> omega)) _)))⟩
  by_cases h3 : t ≥ n
  · have HF := Lib.hid (show arwB p n ⟨f, t, L⟩ = false by simp [arwB]; omega)
    go_enter Try.func82, Try.ntmps82
    go_wp2
    go_ret
    exact ⟨ret_bool2 HF.out.symm, (by repeat (first | exact Below.refl _ _ | apply Below.drew | apply below_drewN | (refine Below.alloc ?_ (by first | omega | (simp <;> omega)) _)))⟩
  have hE : arwB p n ⟨f, t, L⟩ = labB p L := by
    have e1 : decide (0 ≤ f) = true := by simp; omega
    have e2 : decide (f < t) = true := by simp; omega
    have e3 : decide (t < n) = true := by simp; omega
    simp only [arwB, e1, e2, e3, Bool.true_and]
  cases hv : isP p && validB p L
  · rw [hv] at HV
    have HF := Lib.hid (show arwB p n ⟨f, t, L⟩ = false by rw [hE]; simp only [labB, hv]; rfl)
    clear hv hE
    go_enter Try.func82, Try.ntmps82
    go_wp2_with fail
    refine (HV.out _ (by repeat (first | exact Below.refl _ _ | apply Below.drew | apply below_drewN | (refine Below.alloc ?_ (by first | omega | (simp <;> omega)) _)))).mono ?_
    rintro e w1 ⟨rfl, hb⟩
    have HB := Lib.hid (show Below w.heap.size w w1 from Below.trans (by repeat (first | exact Below.refl _ _ | apply Below.drew | apply below_drewN | (refine Below.alloc ?_ (by first | omega | (simp <;> omega)) _))) (hb.mono (by simp)))
    clear hb
    go_wp2
    go_ret
    exact ⟨ret_bool2 HF.out.symm, HB.out⟩
  · rw [hv] at HV
    obtain ⟨d, hd⟩ : ∃ d, d = degV p L := ⟨_, rfl⟩
    have hl : labB p L = decide (d ≤ 1) := by simp only [labB, hv, hd, Bool.true_and]
    by_cases hd1 : d ≤ 1
    · have HF := Lib.hid (show arwB p n ⟨f, t, L⟩ = true by rw [hE, hl]; simp [hd1])
      rw [← hd] at HD
      clear hv hE hl hd
      go_enter Try.func82, Try.ntmps82
      go_wp2_with fail
      refine (HV.out _ (by repeat (first | exact Below.refl _ _ | apply Below.drew | apply below_drewN | (refine Below.alloc ?_ (by first | omega | (simp <;> omega)) _)))).mono ?_
      rintro e w1 ⟨rfl, hb⟩
      have c2 : w1.cell? ⟨w.heap.size, 2, none⟩ = some (.slice a L.length cap) := by
        rw [hb.cell (p := ⟨w.heap.size, 2, none⟩) (by simp)]; exact World.cell?_alloc_at _ _ _ _ rfl
      have HB := Lib.hid (show Below w.heap.size w w1 from Below.trans (by repeat (first | exact Below.refl _ _ | apply Below.drew | apply below_drewN | (refine Below.alloc ?_ (by first | omega | (simp <;> omega)) _))) (hb.mono (by simp)))
      clear hb
      go_wp2_with fail
      refine (HD.out _ HB.out).mono ?_
      rintro e w2 ⟨rfl, hb⟩
      have HC := Lib.hid (HB.out.trans (hb.mono HB.out.size))
      clear hb
      go_wp2
      go_ret
      exact ⟨ret_bool2 HF.out.symm, HC.out⟩
    · have HF := Lib.hid (show arwB p n ⟨f, t, L⟩ = false by rw [hE, hl]; simp [hd1])
      rw [← hd] at HD
      clear hv hE hl hd
      go_enter Try.func82, Try.ntmps82
      go_wp2_with fail
      refine (HV.out _ (by repeat (first | exact Below.refl _ _ | apply Below.drew | apply below_drewN | (refine Below.alloc ?_ (by first | omega | (simp <;> omega)) _)))).mono ?_
      rintro e w1 ⟨rfl, hb⟩
      have c2 : w1.cell? ⟨w.heap.size, 2, none⟩ = some (.slice a L.length cap) := by
        rw [hb.cell (p := ⟨w.heap.size, 2, none⟩) (by simp)]; exact World.cell?_alloc_at _ _ _ _ rfl
      have HB := Lib.hid (show Below w.heap.size w w1 from Below.trans (by repeat (first | exact Below.refl _ _ | apply Below.drew | apply below_drewN | (refine Below.alloc ?_ (by first | omega | (simp <;> omega)) _))) (hb.mono (by simp)))
      clear hb
      go_wp2_with fail
      refine (HD.out _ HB.out).mono ?_
      rintro e w2 ⟨rfl, hb⟩
      have HC := Lib.hid (HB.out.trans (hb.mono HB.out.size))
      clear hb
      go_wp2
      go_ret
      exact ⟨ret_bool2 ((decide_eq_false (by omega)).trans HF.out.symm), HC.out⟩
set_option maxHeartbeats 4000000 in
theorem iPgV (p n : Int) (v : Value) (A : List Arr) (w : World) (h : Arrs w v A) :
    Calls Try.prog 21 #[.int .i64 p, .agg #[.int .i64 n, v]] w fun e w' => e = .returned (.bool (prgB p n A)) ∧ Below w.heap.size w w' := by
  obtain ⟨hl, hl2, a, cap, rfl, h3⟩ := h
  cases hp : isP p
  · have HF := Lib.hid (show prgB p n A = false by simp [prgB, hp])
    have HP := Lib.hid hp
    clear hp h3
    go_enter Try.func21, Try.ntmps21
    go_wp2_with (go_at_call 81; refine (iPV_no _ _ HP.out).mono ?_; rintro e w' ⟨rfl, rfl⟩)
    go_ret
    exact ⟨ret_bool2 HF.out.symm, (by repeat (first | exact Below.refl _ _ | apply Below.drew | apply below_drewN | (refine Below.alloc ?_ (by first | omega | (simp <;> omega)) _)))⟩
  have HP := Lib.hid hp
  by_cases h1 : n < 2
  · have HF := Lib.hid (show prgB p n A = false by simp [prgB]; omega)
    clear hp h3
    go_enter Try.func21, Try.ntmps21
    go_wp2_with (go_at_call 81; refine (iPV_yes _ _ HP.out).mono ?_; rintro e w' ⟨rfl, rfl⟩)
    go_ret
    exact ⟨ret_bool2 HF.out.symm, (by repeat (first | exact Below.refl _ _ | apply Below.drew | apply below_drewN | (refine Below.alloc ?_ (by first | omega | (simp <;> omega)) _)))⟩
  by_cases h2 : n > 5
  · have HF := Lib.hid (show prgB p n A = false by simp [prgB]; omega)
    clear hp h3
    go_enter Try.func21, Try.ntmps21
    go_wp2_with (go_at_call 81; refine (iPV_yes _ _ HP.out).mono ?_; rintro e w' ⟨rfl, rfl⟩)
    go_ret
    exact ⟨ret_bool2 HF.out.symm, (by repeat (first | exact Below.refl _ _ | apply Below.drew | apply below_drewN | (refine Below.alloc ?_ (by first | omega | (simp <;> omega)) _)))⟩
  by_cases h4 : (A.length : Int) > 10
  · have HF := Lib.hid (show prgB p n A = false by simp [prgB]; omega)
    clear hp h3
    go_enter Try.func21, Try.ntmps21
    go_wp2_with (go_at_call 81; refine (iPV_yes _ _ HP.out).mono ?_; rintro e w' ⟨rfl, rfl⟩)
    go_ret
    exact ⟨ret_bool2 HF.out.symm, (by repeat (first | exact Below.refl _ _ | apply Below.drew | apply below_drewN | (refine Below.alloc ?_ (by first | omega | (simp <;> omega)) _)))⟩
  have HNO := Lib.hid (fun i (hi : i < A.length) (hb : arwB p n (arw A i) = false) => prgB_no hi hb)
  have HYES := Lib.hid (fun (ha : ∀ i, i < A.length → arwB p n (arw A i) = true) => prgB_iff.2 ⟨hp, ⟨by omega, by omega⟩, by omega, ha⟩)
  have HD := Lib.hid h3
  clear hp h3
  go_enter Try.func21, Try.ntmps21
  go_wp2_with (go_at_call 81; refine (iPV_yes _ _ HP.out).mono ?_; rintro e w' ⟨rfl, rfl⟩)
  go_loopw [29] (fun i wr => ∃ k : Nat, k ≤ A.length ∧ i = .int .i64 k ∧ (∀ i, i < k → arwB p n (arw A i) = true) ∧ Below w.heap.size w wr ∧ w.heap.size < wr.heap.size ∧ wr.cell? ⟨w.heap.size, 0, none⟩ = some (.int .i64 n)) (fun i _ => A.length - (intOf i).toNat)
  case atStart => exact ⟨0, by omega, rfl, fun i hi => by omega, (by repeat (first | exact Below.refl _ _ | apply Below.drew | apply below_drewN | (refine Below.alloc ?_ (by first | omega | (simp <;> omega)) _))), by simp, World.cell?_alloc_at _ _ _ _ rfl⟩
  case round =>
    obtain ⟨k, hk, rfl, hall, hb, hsz, hn⟩ := hrel
    have Hall := Lib.hid hall
    clear hall
    by_cases hlt : k < A.length
    · have hltp : (k : Int) < (A.length : Int) := by omega
      have hk0 : (0 : Int) ≤ (k : Int) := by omega
      rcases HD.out with h | ⟨g, off, rfl, hg, hc⟩
      · rw [h] at hlt; simp at hlt
      obtain ⟨q0, q1, u, q2, q3⟩ := (hc k hlt).below hb hg
      obtain ⟨x, hx⟩ : ∃ x, x = arw A k := ⟨_, rfl⟩
      rw [← hx] at q0 q1 q3
      have HI := Lib.hid (fun W (hw : Below wr.heap.size wr W) => iFits p n x.f x.t u x.L W (q3.below hw))
      have HX := Lib.hid hx
      have HB := Lib.hid hb
      obtain ⟨_, ua, uc, rfl, _⟩ := q3
      clear hc hx hb
      go_wp2_with fail
      refine (HI.out _ (by repeat (first | exact Below.refl _ _ | apply Below.drew | apply below_drewN | (refine Below.alloc ?_ (by first | omega | (simp <;> omega)) _)))).mono ?_
      rintro e w1 ⟨rfl, hb1⟩
      have hb2 : Below wr.heap.size wr w1 := Below.trans (by repeat (first | exact Below.refl _ _ | apply Below.drew | apply below_drewN | (refine Below.alloc ?_ (by first | omega | (simp <;> omega)) _))) (hb1.mono (by simp))
      have hsz1 : w.heap.size < w1.heap.size := Nat.lt_of_lt_of_le hsz hb2.size
      have hn1 : w1.cell? ⟨w.heap.size, 0, none⟩ = some (.int .i64 n) := by rw [hb2.cell (p := ⟨w.heap.size, 0, none⟩) hsz]; exact hn
      have HB2 := Lib.hid (HB.out.trans (hb2.mono HB.out.size))
      cases hE : arwB p n x
      · have hE' : arwB p n ⟨x.f, x.t, x.L⟩ = false := hE
        have HF := Lib.hid (HNO.out k hlt (by rw [← HX.out]; exact hE))
        clear hE hE' hb1 hb2 HI HNO HYES
        go_wp2
        go_ret
        exact ⟨ret_bool2 HF.out.symm, HB2.out⟩
      · have hE' : arwB p n ⟨x.f, x.t, x.L⟩ = true := hE
        have HF := Lib.hid (show ∀ i, i < k + 1 → arwB p n (arw A i) = true from fun i hi => by
          by_cases e : i < k
          · exact Hall.out i e
          · rw [show i = k by omega, ← HX.out]; exact hE)
        clear hE hE' hb1 hb2 HI q0 q1 q2 hn
        go_wp2
        go_roundw
        case rel => exact ⟨k + 1, by omega, by go_num, HF.out, HB2.out, hsz1, hn1⟩
        case measure => simp [intOf]; omega
    · have hkl : k = A.length := by omega
      subst hkl
      have HF := Lib.hid (HYES.out Hall.out)
      go_wp2
      go_ret
      exact ⟨ret_bool2 HF.out.symm, hb⟩
set_option maxHeartbeats 4000000 in
theorem sPgV (p n : Int) (v : Value) (A : List Arr) (w : World) (h : Arrs w v A) :
    Calls Try.prog 19 #[.int .i64 p, .agg #[.int .i64 n, v]] w fun e w' => e = .returned (.bool (prgB p n A)) ∧ Below w.heap.size w w' := by
  obtain ⟨hl, hl2, a, cap, rfl, h3⟩ := h
  cases hp : isP p
  · have HF := Lib.hid (show prgB p n A = false by simp [prgB, hp])
    have HP := Lib.hid hp
    clear hp h3
    go_enter Try.func19, Try.ntmps19
    go_wp2_with (go_at_call 77; refine (sPV_no _ _ HP.out).mono ?_; rintro e w' ⟨rfl, rfl⟩)
    go_ret
    exact ⟨ret_bool2 HF.out.symm, (by repeat (first | exact Below.refl _ _ | apply Below.drew | apply below_drewN | (refine Below.alloc ?_ (by first | omega | (simp <;> omega)) _)))⟩
  have HP := Lib.hid hp
  by_cases h1 : 2 ≤ n ∧ n ≤ 5
  rotate_left
  · have HF := Lib.hid (show prgB p n A = false by simp [prgB]; omega)
    have HI := Lib.hid (show (decide (2 ≤ n) && decide (n ≤ 5)) = false by simp; omega)
    clear hp h3
    go_enter Try.func19, Try.ntmps19
    go_wp2_with first
      | (go_at_call 77; refine (sPV_yes _ _ HP.out).mono ?_; rintro e w' ⟨rfl, rfl⟩)
      | (go_at_call 78; refine (sIn _ _ _ _).mono ?_; rw [HI.out]; rintro e w' ⟨rfl, rfl⟩)
    go_ret
    exact ⟨ret_bool2 HF.out.symm, (by repeat (first | exact Below.refl _ _ | apply Below.drew | apply below_drewN | (refine Below.alloc ?_ (by first | omega | (simp <;> omega)) _)))⟩
  have HI := Lib.hid (show (decide (2 ≤ n) && decide (n ≤ 5)) = true by simp; omega)
  by_cases h4 : (A.length : Int) > 10
  · have HF := Lib.hid (show prgB p n A = false by simp [prgB]; omega)
    clear hp h3
    go_enter Try.func19, Try.ntmps19
    go_wp2_with first
      | (go_at_call 77; refine (sPV_yes _ _ HP.out).mono ?_; rintro e w' ⟨rfl, rfl⟩)
      | (go_at_call 78; refine (sIn _ _ _ _).mono ?_; rw [HI.out]; rintro e w' ⟨rfl, rfl⟩)
    go_ret
    exact ⟨ret_bool2 HF.out.symm, (by repeat (first | exact Below.refl _ _ | apply Below.drew | apply below_drewN | (refine Below.alloc ?_ (by first | omega | (simp <;> omega)) _)))⟩
  have HNO := Lib.hid (fun i (hi : i < A.length) (hb : arwB p n (arw A i) = false) => prgB_no hi hb)
  have HYES := Lib.hid (fun (ha : ∀ i, i < A.length → arwB p n (arw A i) = true) => prgB_iff.2 ⟨hp, h1, by omega, ha⟩)
  have HD := Lib.hid h3
  obtain ⟨hn2, hn5⟩ := h1
  clear hp h3
  go_enter Try.func19, Try.ntmps19
  go_wp2_with first
    | (go_at_call 77; refine (sPV_yes _ _ HP.out).mono ?_; rintro e w' ⟨rfl, rfl⟩)
    | (go_at_call 78; refine (sIn _ _ _ _).mono ?_; rw [HI.out]; rintro e w' ⟨rfl, rfl⟩)
  go_loopw [25] (fun i wr => ∃ k : Nat, k ≤ A.length ∧ i = .int .i64 k ∧ (∀ i, i < k → arwB p n (arw A i) = true) ∧ Below w.heap.size w wr ∧ w.heap.size < wr.heap.size ∧ wr.cell? ⟨w.heap.size, 0, none⟩ = some (.int .i64 n)) (fun i _ => A.length - (intOf i).toNat)
  case atStart => exact ⟨0, by omega, rfl, fun i hi => by omega, (by repeat (first | exact Below.refl _ _ | apply Below.drew | apply below_drewN | (refine Below.alloc ?_ (by first | omega | (simp <;> omega)) _))), by simp, World.cell?_alloc_at _ _ _ _ rfl⟩
  case round =>
    obtain ⟨k, hk, rfl, hall, hb, hsz, hn⟩ := hrel
    have Hall := Lib.hid hall
    clear hall
    by_cases hlt : k < A.length
    · have hltp : (k : Int) < (A.length : Int) := by omega
      have hk0 : (0 : Int) ≤ (k : Int) := by omega
      rcases HD.out with h | ⟨g, off, rfl, hg, hc⟩
      · rw [h] at hlt; simp at hlt
      obtain ⟨q0, q1, u, q2, q3⟩ := (hc k hlt).below hb hg
      obtain ⟨x, hx⟩ : ∃ x, x = arw A k := ⟨_, rfl⟩
      rw [← hx] at q0 q1 q3
      have HL := Lib.hid (fun W (hw : Below wr.heap.size wr W) => sLab p u x.L W (q3.below hw))
      have HX := Lib.hid hx
      have HB := Lib.hid hb
      obtain ⟨_, ua, uc, rfl, _⟩ := q3
      clear hc hx hb
      by_cases hc1 : 0 ≤ x.f ∧ x.f ≤ n - 1
      rotate_left
      · have H1 := Lib.hid (show (decide (0 ≤ x.f) && decide (x.f ≤ n - 1)) = false by simp; omega)
        have HF := Lib.hid (HNO.out k hlt (by rw [← HX.out]; simp [arwB]; omega))
        clear HNO HYES hc1
        go_wp2_with (go_at_call 78; refine (sIn _ _ _ _).mono ?_; rw [H1.out]; rintro e w' ⟨rfl, rfl⟩)
        go_ret
        exact ⟨ret_bool2 HF.out.symm, HB.out.trans (Below.mono (by repeat (first | exact Below.refl _ _ | apply Below.drew | apply below_drewN | (refine Below.alloc ?_ (by first | omega | (simp <;> omega)) _))) HB.out.size)⟩
      have H1 := Lib.hid (show (decide (0 ≤ x.f) && decide (x.f ≤ n - 1)) = true by simp; omega)
      obtain ⟨hc1, hc2⟩ := hc1
      by_cases hc3 : x.f + 1 ≤ x.t ∧ x.t ≤ n - 1
      rotate_left
      · have H2 := Lib.hid (show (decide (x.f + 1 ≤ x.t) && decide (x.t ≤ n - 1)) = false by simp; omega)
        have HF := Lib.hid (HNO.out k hlt (by rw [← HX.out]; simp [arwB]; omega))
        clear HNO HYES hc3
        go_wp2_with (go_at_call 78; refine (sIn _ _ _ _).mono ?_; (first | rw [H1.out] | rw [H2.out]); rintro e w' ⟨rfl, rfl⟩)
        go_ret
        exact ⟨ret_bool2 HF.out.symm, HB.out.trans (Below.mono (by repeat (first | exact Below.refl _ _ | apply Below.drew | apply below_drewN | (refine Below.alloc ?_ (by first | omega | (simp <;> omega)) _))) HB.out.size)⟩
      have H2 := Lib.hid (show (decide (x.f + 1 ≤ x.t) && decide (x.t ≤ n - 1)) = true by simp; omega)
      obtain ⟨hc3, hc4⟩ := hc3
      have hE : arwB p n x = labB p x.L := by
        have e1 : decide (0 ≤ x.f) = true := by simp; omega
        have e2 : decide (x.f < x.t) = true := by simp; omega
        have e3 : decide (x.t < n) = true := by simp; omega
        simp only [arwB, e1, e2, e3, Bool.true_and]
      have HE := Lib.hid hE
      clear hE
      go_wp2_with (go_at_call 78; refine (sIn _ _ _ _).mono ?_; (first | rw [H1.out] | rw [H2.out]); rintro e w' ⟨rfl, rfl⟩)
      refine (HL.out _ (by repeat (first | exact Below.refl _ _ | apply Below.drew | apply below_drewN | (refine Below.alloc ?_ (by first | omega | (simp <;> omega)) _)))).mono ?_
      rintro e w1 ⟨rfl, hb1⟩
      have hb2 : Below wr.heap.size wr w1 := Below.trans (by repeat (first | exact Below.refl _ _ | apply Below.drew | apply below_drewN | (refine Below.alloc ?_ (by first | omega | (simp <;> omega)) _))) (hb1.mono (by simp))
      have hsz1 : w.heap.size < w1.heap.size := Nat.lt_of_lt_of_le hsz hb2.size
      have hn1 : w1.cell? ⟨w.heap.size, 0, none⟩ = some (.int .i64 n) := by rw [hb2.cell (p := ⟨w.heap.size, 0, none⟩) hsz]; exact hn
      have HB2 := Lib.hid (HB.out.trans (hb2.mono HB.out.size))
      cases hLb : labB p x.L
      · have HF := Lib.hid (HNO.out k hlt (by rw [← HX.out, HE.out]; exact hLb))
        clear hLb hb1 hb2 HL HNO HYES
        go_wp2
        go_ret
        exact ⟨ret_bool2 HF.out.symm, HB2.out⟩
      · have HF := Lib.hid (show ∀ i, i < k + 1 → arwB p n (arw A i) = true from fun i hi => by
          by_cases e : i < k
          · exact Hall.out i e
          · rw [show i = k by omega, ← HX.out, HE.out]; exact hLb)
        clear hLb hb1 hb2 HL q0 q1 q2 hn
        go_wp2
        go_roundw
        case rel => exact ⟨k + 1, by omega, by go_num, HF.out, HB2.out, hsz1, hn1⟩
        case measure => simp [intOf]; omega
    · have hkl : k = A.length := by omega
      subst hkl
      have HF := Lib.hid (HYES.out Hall.out)
      go_wp2
      go_ret
      exact ⟨ret_bool2 HF.out.symm, hb⟩
end Go.Proofs.Ytlcmddghppdmgaa
namespace Go.Proofs.Ytlcmddghppdmgaa
open Go.RowKit
/-- the exponent of the unknown v -/
def pw (v : Int) (x : Trm) : Int := if v = 0 then x.a else if v = 1 then x.b else x.c
def inV (v : Int) : Bool := decide (0 ≤ v) && decide (v ≤ 2)
theorem inV_cases {v : Int} (h : inV v = true) : v = 0 ∨ v = 1 ∨ v = 2 := by
  simp only [inV, Bool.and_eq_true, decide_eq_true_eq] at h; omega
/-- the greatest exponent of v in the first k terms; -1 of none -/
def degI (L : List Trm) (v : Int) : Nat → Int
  | 0 => -1
  | k + 1 => if degI L v k < pw v (L.getD k default) then pw v (L.getD k default) else degI L v k
def degIV (p : Int) (L : List Trm) (v : Int) : Int := if (isP p && validB p L) && inV v then degI L v L.length else -2
theorem sUnk (r : Bool) (v : Int) (h : inV v = r) (w : World) :
    Calls Try.prog 78 #[.int .i64 v, .int .i64 0, .int .i64 2] w fun e w' => e = .returned (.bool r) ∧ w = w' := sIn_is r v 0 2 h w
end Go.Proofs.Ytlcmddghppdmgaa
