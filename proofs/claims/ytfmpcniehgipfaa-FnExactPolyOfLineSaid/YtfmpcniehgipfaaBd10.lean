/-
  Contracts of the program's own PolyValid. Conditions: what the slice holds is known.
  Contracts of the program's DegreeOf, and of both DegreeIn.
  Contracts of both DegreeIn.
-/
import Derived.Test.YtfmpcniehgipfaaBd8
import Derived.Test.YtfmpcniehgipfaaBd9
namespace Go.Proofs.Ytfmpcniehgipfaa
open Go.RowKit
theorem elem_tok {p t : Int} : (decide (1 ≤ t) && decide (t ≤ p - 1)) = (decide (t ≠ 0) && isE p t) := by
  by_cases h1 : t = 0
  · subst h1; simp
  · cases hE : isE p t
    · rcases isE_no hE with h | h <;> simp <;> omega
    · have := isE_iff.1 hE; simp [h1]; omega
theorem validB_long {p : Int} {L : List Trm} (h : 60 < L.length) : validB p L = false := by
  unfold validB
  rw [Bool.and_eq_false_iff]
  right; simp; omega
theorem iAE1_is (r : Bool) (p a : Int) (hp : isP p = true) (h : isE p a = r) (b : Nat) (w : World) (h0 : w.cell? ⟨b, 0, none⟩ = some (.int .i64 a)) :
    Calls Try.prog 66 #[.int .i64 p, .slice (some ⟨b, 0, none⟩) 1 1] w fun e w' => e = .returned (.bool r) ∧ w = w' := by
  have := iAE1 p a b w h0
  simp only [isE1, hp, Bool.true_and, h] at this
  exact this
set_option maxHeartbeats 4000000 in
theorem iPolyValid_some (p : Int) (hp : isP p = true) (g off cap : Nat) (L : List Trm) (w : World) (hl : L.length ≤ 60) (hg : g < w.heap.size)
    (hc : ∀ j : Nat, j < L.length → TAt w g (off + j * 4) (L.getD j default)) :
    Calls Try.prog 134 #[.int .i64 p, .slice (some ⟨g, off, none⟩) L.length cap] w fun e w' => e = .returned (.bool (validB p L)) ∧ Below w.heap.size w w' := by
  have HP := Lib.hid hp
  obtain ⟨p0, p1⟩ := isP_bd hp
  have HC := Lib.hid hc
  clear hc hp
  have hlp : (L.length : Int) ≤ 60 := by omega
  go_enter Try.func134, Try.ntmps134
  go_wp2_with (go_at_call 115; refine (iPV_yes _ _ HP.out).mono ?_; rintro e w' ⟨rfl, rfl⟩)
  go_loopw [17] (fun i wr => ∃ k : Nat, k ≤ L.length ∧ i = .int .i64 k ∧ (∀ j : Nat, j < k → okAt p L j = true) ∧ Below w.heap.size w wr) (fun i _ => L.length - (intOf i).toNat)
  case atStart => exact ⟨0, by omega, rfl, fun j hj => by omega, Below.refl _ _⟩
  case round =>
    obtain ⟨k, hk, rfl, hall, hb⟩ := hrel
    have Hall := Lib.hid hall
    clear hall
    by_cases hlt : k < L.length
    · have hltp : (k : Int) < (L.length : Int) := by omega
      have hk0 : (0 : Int) ≤ (k : Int) := by omega
      obtain ⟨a0, a1, a2, a3⟩ := (HC.out k hlt).below hb hg
      obtain ⟨x, hx⟩ : ∃ x, x = L.getD k default := ⟨_, rfl⟩
      rw [← hx] at a0 a1 a2 a3
      have Hx := Lib.hid hx
      have Hb := Lib.hid hb
      have hr1 : g < wr.heap.size := Nat.lt_of_lt_of_le hg hb.size
      clear hx hb
      rcases Bool.eq_false_or_eq_true (decide (x.t ≠ 0) && isE p x.t) with h2 | h2
      · obtain ⟨hx0, hxE⟩ : x.t ≠ 0 ∧ isE p x.t = true := by simpa using h2
        have H2 := Lib.hid (elem_tok.trans h2)
        have HE := Lib.hid hxE
        clear h2 hxE
        rcases Bool.eq_false_or_eq_true (powsB x.a x.b x.c) with h1 | h1
        · have H1 := Lib.hid h1
          clear h1
          go_wp2_with (first
            | (go_at_call 66; refine (iAE1_is true p x.t HP.out HE.out _ _ (by simp)).mono ?_; rintro e w1 ⟨rfl, rfl⟩)
            | (go_at_call 130; refine (iFit_is true x.a x.b x.c x.t H1.out _).mono ?_; rintro e w1 ⟨rfl, hb1⟩))
          have hT : TAt w1 wr.heap.size 0 x := by
            refine TAt.below (B := _) ?_ hb1 (by simp; omega)
            refine ⟨?_, ?_, ?_, ?_⟩ <;> simp [go_sem]
          have hsz : wr.heap.size < w1.heap.size := by have := hb1.size; simp at this; omega
          have HbW := Lib.hid (show Below w.heap.size w w1 by
            have hs := Hb.out.size
            refine Below.trans ?_ (hb1.mono (by first | omega | (simp; omega)))
            repeat (first | exact Hb.out | apply Below.drew | apply below_drewN | (refine Below.setCell ?_ (by first | omega | (simp; omega)) _) | (refine Below.alloc ?_ (by first | omega | (simp; omega)) _)))
          clear hb1 a0 a1 a2 a3
          have F : ∀ w', Below w1.heap.size w1 w' → (w'.cell? ⟨wr.heap.size, 0, none⟩ = some (.int .i64 x.a) ∧ w'.cell? ⟨wr.heap.size, 1, none⟩ = some (.int .i64 x.b) ∧ w'.cell? ⟨wr.heap.size, 2, none⟩ = some (.int .i64 x.c) ∧ w'.cell? ⟨wr.heap.size, 3, none⟩ = some (.int .i64 x.t)) := fun w' h => hT.below h hsz
          have HF := Lib.hid F
          have hgW : g < w1.heap.size := by omega
          have HG := Lib.hid (fun (j : Nat) (hj : j < L.length) w' (h : Below w1.heap.size w1 w') => ((HC.out j hj).below HbW.out hg).below h hgW)
          clear F hT
          by_cases hk1 : k = 0
          · have HK := Lib.hid hk1
            clear hk1
            refine wp_region_below (by kernel_rfl) (by kernel_rfl) ?_
            (with_reducible refine wpQuiet_yes ?_ ?_; (focus (kernel_rfl)); intro K hK; go_simp; refine ⟨_, fun _ _ => rfl, ?_⟩; with_reducible refine hK _ ?_; clear hK K)
            (with_reducible refine wpQuiet_yes ?_ ?_; (focus (kernel_rfl)); intro K hK; go_simp; refine ⟨(.bool false), ?_, ?_⟩; rotate_left; with_reducible refine hK _ ?_; clear hK K; rotate_left)
            · intro w' hw
              simp [HK.out]
            (with_reducible refine wpQuiet_yes ?_ ?_; (focus (kernel_rfl)); intro K hK; go_simp; refine ⟨_, fun _ _ => rfl, ?_⟩; with_reducible refine hK _ ?_; clear hK K)
            iterate 10 (with_reducible refine wpQuiet_no ?_ ?_; (focus (kernel_rfl)); intro K hK; go_simp; with_reducible refine hK _ ?_; clear hK K)
            (with_reducible refine wpQuiet_yes ?_ ?_; (focus (kernel_rfl)); intro K hK; go_simp; refine ⟨_, fun _ _ => rfl, ?_⟩; with_reducible refine hK _ ?_; clear hK K)
            refine wpQuiet_nil fun w2 hb2 => ?_
            have Hb2 := Lib.hid hb2
            clear hb2
            simp only [Exit.then]
            go_wp2_with fail
            go_roundw
            case rel => exact ⟨k + 1, by omega, by go_num, okAt_snoc Hall.out (by rw [okAt_is Hx.out H1.out H2.out, HK.out]; simp), HbW.out.trans (Hb2.out.mono HbW.out.size)⟩
            case measure => simp [intOf]; omega
          · obtain ⟨j, hkj⟩ : ∃ j, k = j + 1 := ⟨k - 1, by omega⟩
            have HJ := Lib.hid hkj
            have WK := Lib.hid (show IntKind.i64.wrap ((k : Int) - 1) = (j : Int) from (IntWalk.i64_in _ (by omega)).trans (by omega))
            clear hk1 hkj
            have hjl : j < L.length := by have := HJ.out; omega
            have hjl' : (j : Int) < (L.length : Int) := by omega
            have hj0 : (0 : Int) ≤ (j : Int) := by omega
            obtain ⟨y, hy⟩ : ∃ y, y = L.getD j default := ⟨_, rfl⟩
            have HY := Lib.hid (HG.out j hjl)
            rw [← hy] at HY
            have Hy := Lib.hid hy
            clear hy
            rcases Bool.eq_false_or_eq_true (befB y.a y.b y.c x.a x.b x.c) with h3 | h3
            · have H3 := Lib.hid h3
              clear h3
              refine wp_region_below (by kernel_rfl) (by kernel_rfl) ?_
              (with_reducible refine wpQuiet_yes ?_ ?_; (focus (kernel_rfl)); intro K hK; go_simp; refine ⟨_, fun _ _ => rfl, ?_⟩; with_reducible refine hK _ ?_; clear hK K)
              (with_reducible refine wpQuiet_yes ?_ ?_; (focus (kernel_rfl)); intro K hK; go_simp; refine ⟨(.bool true), ?_, ?_⟩; rotate_left; with_reducible refine hK _ ?_; clear hK K; rotate_left)
              · intro w' hw
                have := HJ.out
                simp
                try omega
              (with_reducible refine wpQuiet_yes ?_ ?_; (focus (kernel_rfl)); intro K hK; go_simp; refine ⟨_, fun _ _ => rfl, ?_⟩; with_reducible refine hK _ ?_; clear hK K)
              (with_reducible refine wpQuiet_yes ?_ ?_; (focus (kernel_rfl)); intro K hK; go_simp; refine ⟨_, fun _ _ => rfl, ?_⟩; with_reducible refine hK _ ?_; clear hK K)
              (with_reducible refine wpQuiet_yes ?_ ?_; (focus (kernel_rfl)); intro K hK; go_simp; refine ⟨_, fun _ _ => rfl, ?_⟩; with_reducible refine hK _ ?_; clear hK K)
              (with_reducible refine wpQuiet_yes ?_ ?_; (focus (kernel_rfl)); intro K hK; go_simp; refine ⟨(.int .i64 (j : Int)), ?_, ?_⟩; rotate_left; with_reducible refine hK _ ?_; clear hK K; rotate_left)
              · intro w' hw
                simp only [WK.out]
              (with_reducible refine wpQuiet_yes ?_ ?_; (focus (kernel_rfl)); intro K hK; go_simp; refine ⟨_, fun _ _ => rfl, ?_⟩; with_reducible refine hK _ ?_; clear hK K)
              (with_reducible refine wpQuiet_yes ?_ ?_; (focus (kernel_rfl)); intro K hK; go_simp; refine ⟨_, fun _ _ => rfl, ?_⟩; with_reducible refine hK _ ?_; clear hK K)
              (with_reducible refine wpQuiet_yes ?_ ?_; (focus (kernel_rfl)); intro K hK; go_simp; refine ⟨(.agg #[.int .i64 y.a, .int .i64 y.b, .int .i64 y.c]), ?_, ?_⟩; rotate_left; with_reducible refine hK _ ?_; clear hK K; rotate_left)
              · intro w' hw
                obtain ⟨c0, c1, c2, c3⟩ := HY.out w' hw
                simp only [c0, c1, c2, go_sem, Result.andThen, and_self]
              (with_reducible refine wpQuiet_yes ?_ ?_; (focus (kernel_rfl)); intro K hK; go_simp; refine ⟨_, fun _ _ => rfl, ?_⟩; with_reducible refine hK _ ?_; clear hK K)
              (with_reducible refine wpQuiet_yes ?_ ?_; (focus (kernel_rfl)); intro K hK; go_simp; refine ⟨(.agg #[.int .i64 x.a, .int .i64 x.b, .int .i64 x.c]), ?_, ?_⟩; rotate_left; with_reducible refine hK _ ?_; clear hK K; rotate_left)
              · intro w' hw
                obtain ⟨c0, c1, c2, c3⟩ := HF.out w' hw
                simp only [c0, c1, c2, go_sem, Result.andThen, and_self]
              (with_reducible refine wpQuiet_yes ?_ ?_; (focus (kernel_rfl)); intro K hK; go_simp; refine ⟨(.bool true), ?_, ?_⟩; rotate_left; with_reducible refine hK _ ?_; clear hK K; rotate_left)
              · intro w' hw
                exact (iGrt_is true _ _ _ _ _ _ H3.out _).mono fun e w'' ⟨he, h⟩ => ⟨he, h.below' (Below.alloc (Below.alloc hw hw.size _) (by simpa using Nat.le_succ_of_le hw.size) _)⟩
              (with_reducible refine wpQuiet_yes ?_ ?_; (focus (kernel_rfl)); intro K hK; go_simp; refine ⟨_, fun _ _ => rfl, ?_⟩; with_reducible refine hK _ ?_; clear hK K)
              (with_reducible refine wpQuiet_yes ?_ ?_; (focus (kernel_rfl)); intro K hK; go_simp; refine ⟨_, fun _ _ => rfl, ?_⟩; with_reducible refine hK _ ?_; clear hK K)
              refine wpQuiet_nil fun w2 hb2 => ?_
              have Hb2 := Lib.hid hb2
              clear hb2
              simp only [Exit.then]
              go_wp2_with fail
              go_roundw
              case rel => exact ⟨k + 1, by omega, by go_num, okAt_snoc Hall.out ((okAt_is2 HJ.out Hx.out Hy.out H1.out H2.out H3.out).trans rfl), HbW.out.trans (Hb2.out.mono HbW.out.size)⟩
              case measure => simp [intOf]; omega
            · have H3 := Lib.hid h3
              clear h3
              refine wp_region_below (by kernel_rfl) (by kernel_rfl) ?_
              (with_reducible refine wpQuiet_yes ?_ ?_; (focus (kernel_rfl)); intro K hK; go_simp; refine ⟨_, fun _ _ => rfl, ?_⟩; with_reducible refine hK _ ?_; clear hK K)
              (with_reducible refine wpQuiet_yes ?_ ?_; (focus (kernel_rfl)); intro K hK; go_simp; refine ⟨(.bool true), ?_, ?_⟩; rotate_left; with_reducible refine hK _ ?_; clear hK K; rotate_left)
              · intro w' hw
                have := HJ.out
                simp
                try omega
              (with_reducible refine wpQuiet_yes ?_ ?_; (focus (kernel_rfl)); intro K hK; go_simp; refine ⟨_, fun _ _ => rfl, ?_⟩; with_reducible refine hK _ ?_; clear hK K)
              (with_reducible refine wpQuiet_yes ?_ ?_; (focus (kernel_rfl)); intro K hK; go_simp; refine ⟨_, fun _ _ => rfl, ?_⟩; with_reducible refine hK _ ?_; clear hK K)
              (with_reducible refine wpQuiet_yes ?_ ?_; (focus (kernel_rfl)); intro K hK; go_simp; refine ⟨_, fun _ _ => rfl, ?_⟩; with_reducible refine hK _ ?_; clear hK K)
              (with_reducible refine wpQuiet_yes ?_ ?_; (focus (kernel_rfl)); intro K hK; go_simp; refine ⟨(.int .i64 (j : Int)), ?_, ?_⟩; rotate_left; with_reducible refine hK _ ?_; clear hK K; rotate_left)
              · intro w' hw
                simp only [WK.out]
              (with_reducible refine wpQuiet_yes ?_ ?_; (focus (kernel_rfl)); intro K hK; go_simp; refine ⟨_, fun _ _ => rfl, ?_⟩; with_reducible refine hK _ ?_; clear hK K)
              (with_reducible refine wpQuiet_yes ?_ ?_; (focus (kernel_rfl)); intro K hK; go_simp; refine ⟨_, fun _ _ => rfl, ?_⟩; with_reducible refine hK _ ?_; clear hK K)
              (with_reducible refine wpQuiet_yes ?_ ?_; (focus (kernel_rfl)); intro K hK; go_simp; refine ⟨(.agg #[.int .i64 y.a, .int .i64 y.b, .int .i64 y.c]), ?_, ?_⟩; rotate_left; with_reducible refine hK _ ?_; clear hK K; rotate_left)
              · intro w' hw
                obtain ⟨c0, c1, c2, c3⟩ := HY.out w' hw
                simp only [c0, c1, c2, go_sem, Result.andThen, and_self]
              (with_reducible refine wpQuiet_yes ?_ ?_; (focus (kernel_rfl)); intro K hK; go_simp; refine ⟨_, fun _ _ => rfl, ?_⟩; with_reducible refine hK _ ?_; clear hK K)
              (with_reducible refine wpQuiet_yes ?_ ?_; (focus (kernel_rfl)); intro K hK; go_simp; refine ⟨(.agg #[.int .i64 x.a, .int .i64 x.b, .int .i64 x.c]), ?_, ?_⟩; rotate_left; with_reducible refine hK _ ?_; clear hK K; rotate_left)
              · intro w' hw
                obtain ⟨c0, c1, c2, c3⟩ := HF.out w' hw
                simp only [c0, c1, c2, go_sem, Result.andThen, and_self]
              (with_reducible refine wpQuiet_yes ?_ ?_; (focus (kernel_rfl)); intro K hK; go_simp; refine ⟨(.bool false), ?_, ?_⟩; rotate_left; with_reducible refine hK _ ?_; clear hK K; rotate_left)
              · intro w' hw
                exact (iGrt_is false _ _ _ _ _ _ H3.out _).mono fun e w'' ⟨he, h⟩ => ⟨he, h.below' (Below.alloc (Below.alloc hw hw.size _) (by simpa using Nat.le_succ_of_le hw.size) _)⟩
              (with_reducible refine wpQuiet_yes ?_ ?_; (focus (kernel_rfl)); intro K hK; go_simp; refine ⟨_, fun _ _ => rfl, ?_⟩; with_reducible refine hK _ ?_; clear hK K)
              (with_reducible refine wpQuiet_yes ?_ ?_; (focus (kernel_rfl)); intro K hK; go_simp; refine ⟨_, fun _ _ => rfl, ?_⟩; with_reducible refine hK _ ?_; clear hK K)
              refine wpQuiet_nil fun w2 hb2 => ?_
              have Hb2 := Lib.hid hb2
              clear hb2
              simp only [Exit.then]
              go_wp2_with fail
              go_ret
              exact ⟨ret_bool (validB_no hlt ((okAt_is2 HJ.out Hx.out Hy.out H1.out H2.out H3.out).trans rfl)).symm, HbW.out.trans (Hb2.out.mono HbW.out.size)⟩
        · have H1 := Lib.hid h1
          clear h1
          go_wp2_with (first
            | (go_at_call 66; refine (iAE1_is true p x.t HP.out HE.out _ _ (by simp)).mono ?_; rintro e w1 ⟨rfl, rfl⟩)
            | (go_at_call 130; refine (iFit_is false x.a x.b x.c x.t H1.out _).mono ?_; rintro e w1 ⟨rfl, hb1⟩))
          go_ret
          exact ⟨ret_bool (validB_no hlt ((okAt_is Hx.out H1.out H2.out).trans (by simp))).symm, by have hs := Hb.out.size; refine Below.trans ?_ (hb1.mono (by first | omega | (simp; omega))); repeat (first | exact Hb.out | apply Below.drew | apply below_drewN | (refine Below.setCell ?_ (by first | omega | (simp; omega)) _) | (refine Below.alloc ?_ (by first | omega | (simp; omega)) _))⟩
      · have H2 := Lib.hid (elem_tok.trans h2)
        by_cases hx0 : x.t = 0
        · clear h2
          go_wp2_with fail
          go_ret
          exact ⟨ret_bool (validB_no hlt ((okAt_is Hx.out rfl H2.out).trans (by simp))).symm, by have hs := Hb.out.size; repeat (first | exact Hb.out | apply Below.drew | apply below_drewN | (refine Below.setCell ?_ (by first | omega | (simp; omega)) _) | (refine Below.alloc ?_ (by first | omega | (simp; omega)) _))⟩
        · have HE := Lib.hid (show isE p x.t = false by simpa [hx0] using h2)
          clear h2
          go_wp2_with (go_at_call 66; refine (iAE1_is false p x.t HP.out HE.out _ _ (by simp)).mono ?_; rintro e w1 ⟨rfl, rfl⟩)
          go_ret
          exact ⟨ret_bool (validB_no hlt ((okAt_is Hx.out rfl H2.out).trans (by simp))).symm, by have hs := Hb.out.size; repeat (first | exact Hb.out | apply Below.drew | apply below_drewN | (refine Below.setCell ?_ (by first | omega | (simp; omega)) _) | (refine Below.alloc ?_ (by first | omega | (simp; omega)) _))⟩
    · have hkl : k = L.length := by omega
      go_wp2_with fail
      go_ret
      exact ⟨ret_bool ((validB_all (hkl ▸ Hall.out)).trans (decide_eq_true hlp)).symm, hb⟩
set_option maxHeartbeats 2000000 in
theorem iPolyValid_no (p : Int) (hp : isP p = false) (v : Value) (w : World) :
    Calls Try.prog 134 #[.int .i64 p, v] w fun e w' => e = .returned (.bool false) ∧ w = w' := by
  have HP := Lib.hid hp
  clear hp
  go_enter Try.func134, Try.ntmps134
  go_wp2_with (go_at_call 115; refine (iPV_no _ _ HP.out).mono ?_; rintro e w' ⟨rfl, rfl⟩)
  go_ret
  exact ⟨rfl, rfl⟩
set_option maxHeartbeats 2000000 in
theorem iPolyValid_long (p : Int) (hp : isP p = true) (a : Option Addr) (n cap : Nat) (w : World) (hl : 60 < n) :
    Calls Try.prog 134 #[.int .i64 p, .slice a n cap] w fun e w' => e = .returned (.bool false) ∧ w = w' := by
  have HP := Lib.hid hp
  clear hp
  have hlp : (60 : Int) < (n : Int) := by omega
  go_enter Try.func134, Try.ntmps134
  go_wp2_with (go_at_call 115; refine (iPV_yes _ _ HP.out).mono ?_; rintro e w' ⟨rfl, rfl⟩)
  go_ret
  exact ⟨rfl, rfl⟩
set_option maxHeartbeats 2000000 in
theorem iPolyValid_nil (p : Int) (hp : isP p = true) (a : Option Addr) (cap : Nat) (w : World) :
    Calls Try.prog 134 #[.int .i64 p, .slice a 0 cap] w fun e w' => e = .returned (.bool true) ∧ w = w' := by
  have HP := Lib.hid hp
  clear hp
  go_enter Try.func134, Try.ntmps134
  go_wp2_with (go_at_call 115; refine (iPV_yes _ _ HP.out).mono ?_; rintro e w' ⟨rfl, rfl⟩)
  go_loop [17] (fun i => i = .int .i64 0) (fun _ => 0)
  case atStart => exact rfl
  case round =>
    subst hrel
    go_wp2_with fail
    go_ret
    exact ⟨ret_bool (by simp), rfl⟩
/-- the program's PolyValid, for any prime or none and any list of terms -/
theorem iPolyValid (p : Int) (v : Value) (L : List Trm) (w : World) (h : Trms w v L) :
    Calls Try.prog 134 #[.int .i64 p, v] w fun e w' => e = .returned (.bool (isP p && validB p L)) ∧ Below w.heap.size w w' := by
  cases hp : isP p
  · exact (iPolyValid_no p hp v w).mono fun e w' ⟨h1, h2⟩ => ⟨h1, h2 ▸ Below.refl _ _⟩
  · obtain ⟨hl, a, cap, rfl, h2⟩ := h
    by_cases h60 : L.length ≤ 60
    · rcases h2 with rfl | ⟨g, off, rfl, hg, hc⟩
      · exact (iPolyValid_nil p hp a cap w).mono fun e w' ⟨h1, h2⟩ => ⟨by rw [h1, validB_nil]; rfl, h2 ▸ Below.refl _ _⟩
      · exact (iPolyValid_some p hp g off cap L w h60 hg hc).mono fun e w' ⟨h1, h2⟩ => ⟨by rw [h1, Bool.true_and], h2⟩
    · exact (iPolyValid_long p hp a L.length cap w (by omega)).mono fun e w' ⟨h1, h2⟩ => ⟨by rw [h1, validB_long (by omega)]; rfl, h2 ▸ Below.refl _ _⟩
end Go.Proofs.Ytfmpcniehgipfaa
namespace Go.Proofs.Ytfmpcniehgipfaa
open Go.RowKit
end Go.Proofs.Ytfmpcniehgipfaa
namespace Go.Proofs.Ytfmpcniehgipfaa
open Go.RowKit
/-- the exponent of the unknown v -/
def pw (v : Int) (x : Trm) : Int := if v = 0 then x.a else if v = 1 then x.b else x.c
def inV (v : Int) : Bool := decide (0 ≤ v) && decide (v ≤ 2)
theorem inV_cases {v : Int} (h : inV v = true) : v = 0 ∨ v = 1 ∨ v = 2 := by
  simp only [inV, Bool.and_eq_true, decide_eq_true_eq] at h; omega
/-- the greatest exponent of v in the first k terms; -1 of none -/
def degI (L : List Trm) (v : Int) : Nat → Int
  | 0 => -1
  | k + 1 => if degI L v k < pw v (L.getD k default) then pw v (L.getD k default) else degI L v k
def degIV (p : Int) (L : List Trm) (v : Int) : Int := if (isP p && validB p L) && inV v then degI L v L.length else -2
theorem iUnk (r : Bool) (v : Int) (h : inV v = r) (w : World) :
    Calls Try.prog 98 #[.int .i64 v] w fun e w' => e = .returned (.bool r) ∧ w = w' := by
  unfold inV at h
  by_cases h0 : 0 ≤ v
  · by_cases h2 : v < 3
    · have hr := Lib.hid (show r = true by rw [← h]; simp; omega)
      clear h
      go_enter Try.func98, Try.ntmps98
      go_wp2
      go_ret
      exact ⟨ret_bool hr.out.symm, rfl⟩
    · have hr := Lib.hid (show r = false by rw [← h]; simp; omega)
      clear h
      go_enter Try.func98, Try.ntmps98
      go_wp2
      go_ret
      exact ⟨ret_bool hr.out.symm, rfl⟩
  · have hr := Lib.hid (show r = false by rw [← h]; simp; omega)
    clear h
    go_enter Try.func98, Try.ntmps98
    go_wp2
    go_ret
    exact ⟨ret_bool hr.out.symm, rfl⟩
theorem sUnk (r : Bool) (v : Int) (h : inV v = r) (w : World) :
    Calls Try.prog 67 #[.int .i64 v, .int .i64 0, .int .i64 2] w fun e w' => e = .returned (.bool r) ∧ w = w' := sIn_is r v 0 2 h w
end Go.Proofs.Ytfmpcniehgipfaa
