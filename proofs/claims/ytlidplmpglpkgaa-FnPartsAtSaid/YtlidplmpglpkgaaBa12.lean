/-
  Contracts of the program's own PolyValid. Conditions: what the slice holds is known.
  Contracts of the program's DegreeOf, and of both DegreeIn.
  Contracts of both DegreeIn.
  Contracts of what tells whether a gate may stand at an index, of the model and of the program. Conditions: the index is no less than 0; for the program the number is a prime.
  Contracts of CircuitValid, of the model and of the program. Conditions: what the slice holds is known.
  Contracts of DepthOf, of the model and of the program. Conditions: what the slice holds is known.
  Contracts of the model's FormalDegree. Conditions: what the slice holds is known.
  Contracts of the program's DepthOf and FormalDegree. Conditions: what the slice holds is known.
  Contracts of the program's FormalDegree, and of both functions of both for any list of gates. Conditions: what the slice holds is known.
  Contracts of SpreadSize, of the model and of the program. Conditions: what the slice holds is known.
-/
import Derived.Test.YtlidplmpglpkgaaBa10
import Derived.Test.YtlidplmpglpkgaaBa11
import Derived.Test.YtlidplmpglpkgaaBa2
import Derived.Test.YtlidplmpglpkgaaBa8
import Derived.BigQuiet
import Derived.Deep.QuietTactic
import Derived.Deep.RegionHeld3
namespace Go.Proofs.Ytlidplmpglpkgaa
open Go.RowKit
theorem elem_tok {p t : Int} : (decide (1 ≤ t) && decide (t ≤ p - 1)) = (decide (t ≠ 0) && isE p t) := by
  by_cases h1 : t = 0
  · subst h1; simp
  · cases hE : isE p t
    · rcases isE_no hE with h | h <;> simp <;> omega
    · have := isE_iff.1 hE; simp [h1]; omega
theorem validB_long {p : Int} {L : List Trm} (h : 60 < L.length) : validB p L = false := by
  unfold validB
  rw [Bool.and_eq_false_iff]
  right; simp; omega
theorem iAE1_is (r : Bool) (p a : Int) (hp : isP p = true) (h : isE p a = r) (b : Nat) (w : World) (h0 : w.cell? ⟨b, 0, none⟩ = some (.int .i64 a)) :
    Calls Try.prog 101 #[.int .i64 p, .slice (some ⟨b, 0, none⟩) 1 1] w fun e w' => e = .returned (.bool r) ∧ w = w' := by
  have := iAE1 p a b w h0
  simp only [isE1, hp, Bool.true_and, h] at this
  exact this
set_option maxHeartbeats 4000000 in
theorem iPolyValid_some (p : Int) (hp : isP p = true) (g off cap : Nat) (L : List Trm) (w : World) (hl : L.length ≤ 60) (hg : g < w.heap.size)
    (hc : ∀ j : Nat, j < L.length → TAt w g (off + j * 4) (L.getD j default)) :
    Calls Try.prog 20 #[.int .i64 p, .slice (some ⟨g, off, none⟩) L.length cap] w fun e w' => e = .returned (.bool (validB p L)) ∧ Below w.heap.size w w' := by
  have HP := Lib.hid hp
  obtain ⟨p0, p1⟩ := isP_bd hp
  have HC := Lib.hid hc
  clear hc hp
  have hlp : (L.length : Int) ≤ 60 := by omega
  go_enter Try.func20, Try.ntmps20
  go_wp2_with (go_at_call 100; refine (iPV_yes _ _ HP.out).mono ?_; rintro e w' ⟨rfl, rfl⟩)
  go_loopw [17] (fun i wr => ∃ k : Nat, k ≤ L.length ∧ i = .int .i64 k ∧ (∀ j : Nat, j < k → okAt p L j = true) ∧ Below w.heap.size w wr) (fun i _ => L.length - (intOf i).toNat)
  case atStart => exact ⟨0, by omega, rfl, fun j hj => by omega, Below.refl _ _⟩
  case round =>
    obtain ⟨k, hk, rfl, hall, hb⟩ := hrel
    have Hall := Lib.hid hall
    clear hall
    by_cases hlt : k < L.length
    · have hltp : (k : Int) < (L.length : Int) := by omega
      have hk0 : (0 : Int) ≤ (k : Int) := by omega
      obtain ⟨a0, a1, a2, a3⟩ := (HC.out k hlt).below hb hg
      obtain ⟨x, hx⟩ : ∃ x, x = L.getD k default := ⟨_, rfl⟩
      rw [← hx] at a0 a1 a2 a3
      have Hx := Lib.hid hx
      have Hb := Lib.hid hb
      have hr1 : g < wr.heap.size := Nat.lt_of_lt_of_le hg hb.size
      clear hx hb
      rcases Bool.eq_false_or_eq_true (decide (x.t ≠ 0) && isE p x.t) with h2 | h2
      · obtain ⟨hx0, hxE⟩ : x.t ≠ 0 ∧ isE p x.t = true := by simpa using h2
        have H2 := Lib.hid (elem_tok.trans h2)
        have HE := Lib.hid hxE
        clear h2 hxE
        rcases Bool.eq_false_or_eq_true (powsB x.a x.b x.c) with h1 | h1
        · have H1 := Lib.hid h1
          clear h1
          go_wp2_with (first
            | (go_at_call 101; refine (iAE1_is true p x.t HP.out HE.out _ _ (by simp)).mono ?_; rintro e w1 ⟨rfl, rfl⟩)
            | (go_at_call 102; refine (iFit_is true x.a x.b x.c x.t H1.out _).mono ?_; rintro e w1 ⟨rfl, hb1⟩))
          have hT : TAt w1 wr.heap.size 0 x := by
            refine TAt.below (B := _) ?_ hb1 (by simp; omega)
            refine ⟨?_, ?_, ?_, ?_⟩ <;> simp [go_sem]
          have hsz : wr.heap.size < w1.heap.size := by have := hb1.size; simp at this; omega
          have HbW := Lib.hid (show Below w.heap.size w w1 by
            have hs := Hb.out.size
            refine Below.trans ?_ (hb1.mono (by first | omega | (simp; omega)))
            repeat (first | exact Hb.out | apply Below.drew | apply below_drewN | (refine Below.setCell ?_ (by first | omega | (simp; omega)) _) | (refine Below.alloc ?_ (by first | omega | (simp; omega)) _)))
          clear hb1 a0 a1 a2 a3
          have F : ∀ w', Below w1.heap.size w1 w' → (w'.cell? ⟨wr.heap.size, 0, none⟩ = some (.int .i64 x.a) ∧ w'.cell? ⟨wr.heap.size, 1, none⟩ = some (.int .i64 x.b) ∧ w'.cell? ⟨wr.heap.size, 2, none⟩ = some (.int .i64 x.c) ∧ w'.cell? ⟨wr.heap.size, 3, none⟩ = some (.int .i64 x.t)) := fun w' h => hT.below h hsz
          have HF := Lib.hid F
          have hgW : g < w1.heap.size := by omega
          have HG := Lib.hid (fun (j : Nat) (hj : j < L.length) w' (h : Below w1.heap.size w1 w') => ((HC.out j hj).below HbW.out hg).below h hgW)
          clear F hT
          by_cases hk1 : k = 0
          · have HK := Lib.hid hk1
            clear hk1
            refine wp_region_below (by kernel_rfl) (by kernel_rfl) ?_
            (with_reducible refine wpQuiet_yes ?_ ?_; (focus (kernel_rfl)); intro K hK; go_simp; refine ⟨_, fun _ _ => rfl, ?_⟩; with_reducible refine hK _ ?_; clear hK K)
            (with_reducible refine wpQuiet_yes ?_ ?_; (focus (kernel_rfl)); intro K hK; go_simp; refine ⟨(.bool false), ?_, ?_⟩; rotate_left; with_reducible refine hK _ ?_; clear hK K; rotate_left)
            · intro w' hw
              simp [HK.out]
            (with_reducible refine wpQuiet_yes ?_ ?_; (focus (kernel_rfl)); intro K hK; go_simp; refine ⟨_, fun _ _ => rfl, ?_⟩; with_reducible refine hK _ ?_; clear hK K)
            iterate 10 (with_reducible refine wpQuiet_no ?_ ?_; (focus (kernel_rfl)); intro K hK; go_simp; with_reducible refine hK _ ?_; clear hK K)
            (with_reducible refine wpQuiet_yes ?_ ?_; (focus (kernel_rfl)); intro K hK; go_simp; refine ⟨_, fun _ _ => rfl, ?_⟩; with_reducible refine hK _ ?_; clear hK K)
            refine wpQuiet_nil fun w2 hb2 => ?_
            have Hb2 := Lib.hid hb2
            clear hb2
            simp only [Exit.then]
            go_wp2_with fail
            go_roundw
            case rel => exact ⟨k + 1, by omega, by go_num, okAt_snoc Hall.out (by rw [okAt_is Hx.out H1.out H2.out, HK.out]; simp), HbW.out.trans (Hb2.out.mono HbW.out.size)⟩
            case measure => simp [intOf]; omega
          · obtain ⟨j, hkj⟩ : ∃ j, k = j + 1 := ⟨k - 1, by omega⟩
            have HJ := Lib.hid hkj
            have WK := Lib.hid (show IntKind.i64.wrap ((k : Int) - 1) = (j : Int) from (IntWalk.i64_in _ (by omega)).trans (by omega))
            clear hk1 hkj
            have hjl : j < L.length := by have := HJ.out; omega
            have hjl' : (j : Int) < (L.length : Int) := by omega
            have hj0 : (0 : Int) ≤ (j : Int) := by omega
            obtain ⟨y, hy⟩ : ∃ y, y = L.getD j default := ⟨_, rfl⟩
            have HY := Lib.hid (HG.out j hjl)
            rw [← hy] at HY
            have Hy := Lib.hid hy
            clear hy
            rcases Bool.eq_false_or_eq_true (befB y.a y.b y.c x.a x.b x.c) with h3 | h3
            · have H3 := Lib.hid h3
              clear h3
              refine wp_region_below (by kernel_rfl) (by kernel_rfl) ?_
              (with_reducible refine wpQuiet_yes ?_ ?_; (focus (kernel_rfl)); intro K hK; go_simp; refine ⟨_, fun _ _ => rfl, ?_⟩; with_reducible refine hK _ ?_; clear hK K)
              (with_reducible refine wpQuiet_yes ?_ ?_; (focus (kernel_rfl)); intro K hK; go_simp; refine ⟨(.bool true), ?_, ?_⟩; rotate_left; with_reducible refine hK _ ?_; clear hK K; rotate_left)
              · intro w' hw
                have := HJ.out
                simp
                try omega
              (with_reducible refine wpQuiet_yes ?_ ?_; (focus (kernel_rfl)); intro K hK; go_simp; refine ⟨_, fun _ _ => rfl, ?_⟩; with_reducible refine hK _ ?_; clear hK K)
              (with_reducible refine wpQuiet_yes ?_ ?_; (focus (kernel_rfl)); intro K hK; go_simp; refine ⟨_, fun _ _ => rfl, ?_⟩; with_reducible refine hK _ ?_; clear hK K)
              (with_reducible refine wpQuiet_yes ?_ ?_; (focus (kernel_rfl)); intro K hK; go_simp; refine ⟨_, fun _ _ => rfl, ?_⟩; with_reducible refine hK _ ?_; clear hK K)
              (with_reducible refine wpQuiet_yes ?_ ?_; (focus (kernel_rfl)); intro K hK; go_simp; refine ⟨(.int .i64 (j : Int)), ?_, ?_⟩; rotate_left; with_reducible refine hK _ ?_; clear hK K; rotate_left)
              · intro w' hw
                simp only [WK.out]
              (with_reducible refine wpQuiet_yes ?_ ?_; (focus (kernel_rfl)); intro K hK; go_simp; refine ⟨_, fun _ _ => rfl, ?_⟩; with_reducible refine hK _ ?_; clear hK K)
              (with_reducible refine wpQuiet_yes ?_ ?_; (focus (kernel_rfl)); intro K hK; go_simp; refine ⟨_, fun _ _ => rfl, ?_⟩; with_reducible refine hK _ ?_; clear hK K)
              (with_reducible refine wpQuiet_yes ?_ ?_; (focus (kernel_rfl)); intro K hK; go_simp; refine ⟨(.agg #[.int .i64 y.a, .int .i64 y.b, .int .i64 y.c]), ?_, ?_⟩; rotate_left; with_reducible refine hK _ ?_; clear hK K; rotate_left)
              · intro w' hw
                obtain ⟨c0, c1, c2, c3⟩ := HY.out w' hw
                simp only [c0, c1, c2, go_sem, Result.andThen, and_self]
              (with_reducible refine wpQuiet_yes ?_ ?_; (focus (kernel_rfl)); intro K hK; go_simp; refine ⟨_, fun _ _ => rfl, ?_⟩; with_reducible refine hK _ ?_; clear hK K)
              (with_reducible refine wpQuiet_yes ?_ ?_; (focus (kernel_rfl)); intro K hK; go_simp; refine ⟨(.agg #[.int .i64 x.a, .int .i64 x.b, .int .i64 x.c]), ?_, ?_⟩; rotate_left; with_reducible refine hK _ ?_; clear hK K; rotate_left)
              · intro w' hw
                obtain ⟨c0, c1, c2, c3⟩ := HF.out w' hw
                simp only [c0, c1, c2, go_sem, Result.andThen, and_self]
              (with_reducible refine wpQuiet_yes ?_ ?_; (focus (kernel_rfl)); intro K hK; go_simp; refine ⟨(.bool true), ?_, ?_⟩; rotate_left; with_reducible refine hK _ ?_; clear hK K; rotate_left)
              · intro w' hw
                exact (iGrt_is true _ _ _ _ _ _ H3.out _).mono fun e w'' ⟨he, h⟩ => ⟨he, h.below' (Below.alloc (Below.alloc hw hw.size _) (by simpa using Nat.le_succ_of_le hw.size) _)⟩
              (with_reducible refine wpQuiet_yes ?_ ?_; (focus (kernel_rfl)); intro K hK; go_simp; refine ⟨_, fun _ _ => rfl, ?_⟩; with_reducible refine hK _ ?_; clear hK K)
              (with_reducible refine wpQuiet_yes ?_ ?_; (focus (kernel_rfl)); intro K hK; go_simp; refine ⟨_, fun _ _ => rfl, ?_⟩; with_reducible refine hK _ ?_; clear hK K)
              refine wpQuiet_nil fun w2 hb2 => ?_
              have Hb2 := Lib.hid hb2
              clear hb2
              simp only [Exit.then]
              go_wp2_with fail
              go_roundw
              case rel => exact ⟨k + 1, by omega, by go_num, okAt_snoc Hall.out ((okAt_is2 HJ.out Hx.out Hy.out H1.out H2.out H3.out).trans rfl), HbW.out.trans (Hb2.out.mono HbW.out.size)⟩
              case measure => simp [intOf]; omega
            · have H3 := Lib.hid h3
              clear h3
              refine wp_region_below (by kernel_rfl) (by kernel_rfl) ?_
              (with_reducible refine wpQuiet_yes ?_ ?_; (focus (kernel_rfl)); intro K hK; go_simp; refine ⟨_, fun _ _ => rfl, ?_⟩; with_reducible refine hK _ ?_; clear hK K)
              (with_reducible refine wpQuiet_yes ?_ ?_; (focus (kernel_rfl)); intro K hK; go_simp; refine ⟨(.bool true), ?_, ?_⟩; rotate_left; with_reducible refine hK _ ?_; clear hK K; rotate_left)
              · intro w' hw
                have := HJ.out
                simp
                try omega
              (with_reducible refine wpQuiet_yes ?_ ?_; (focus (kernel_rfl)); intro K hK; go_simp; refine ⟨_, fun _ _ => rfl, ?_⟩; with_reducible refine hK _ ?_; clear hK K)
              (with_reducible refine wpQuiet_yes ?_ ?_; (focus (kernel_rfl)); intro K hK; go_simp; refine ⟨_, fun _ _ => rfl, ?_⟩; with_reducible refine hK _ ?_; clear hK K)
              (with_reducible refine wpQuiet_yes ?_ ?_; (focus (kernel_rfl)); intro K hK; go_simp; refine ⟨_, fun _ _ => rfl, ?_⟩; with_reducible refine hK _ ?_; clear hK K)
              (with_reducible refine wpQuiet_yes ?_ ?_; (focus (kernel_rfl)); intro K hK; go_simp; refine ⟨(.int .i64 (j : Int)), ?_, ?_⟩; rotate_left; with_reducible refine hK _ ?_; clear hK K; rotate_left)
              · intro w' hw
                simp only [WK.out]
              (with_reducible refine wpQuiet_yes ?_ ?_; (focus (kernel_rfl)); intro K hK; go_simp; refine ⟨_, fun _ _ => rfl, ?_⟩; with_reducible refine hK _ ?_; clear hK K)
              (with_reducible refine wpQuiet_yes ?_ ?_; (focus (kernel_rfl)); intro K hK; go_simp; refine ⟨_, fun _ _ => rfl, ?_⟩; with_reducible refine hK _ ?_; clear hK K)
              (with_reducible refine wpQuiet_yes ?_ ?_; (focus (kernel_rfl)); intro K hK; go_simp; refine ⟨(.agg #[.int .i64 y.a, .int .i64 y.b, .int .i64 y.c]), ?_, ?_⟩; rotate_left; with_reducible refine hK _ ?_; clear hK K; rotate_left)
              · intro w' hw
                obtain ⟨c0, c1, c2, c3⟩ := HY.out w' hw
                simp only [c0, c1, c2, go_sem, Result.andThen, and_self]
              (with_reducible refine wpQuiet_yes ?_ ?_; (focus (kernel_rfl)); intro K hK; go_simp; refine ⟨_, fun _ _ => rfl, ?_⟩; with_reducible refine hK _ ?_; clear hK K)
              (with_reducible refine wpQuiet_yes ?_ ?_; (focus (kernel_rfl)); intro K hK; go_simp; refine ⟨(.agg #[.int .i64 x.a, .int .i64 x.b, .int .i64 x.c]), ?_, ?_⟩; rotate_left; with_reducible refine hK _ ?_; clear hK K; rotate_left)
              · intro w' hw
                obtain ⟨c0, c1, c2, c3⟩ := HF.out w' hw
                simp only [c0, c1, c2, go_sem, Result.andThen, and_self]
              (with_reducible refine wpQuiet_yes ?_ ?_; (focus (kernel_rfl)); intro K hK; go_simp; refine ⟨(.bool false), ?_, ?_⟩; rotate_left; with_reducible refine hK _ ?_; clear hK K; rotate_left)
              · intro w' hw
                exact (iGrt_is false _ _ _ _ _ _ H3.out _).mono fun e w'' ⟨he, h⟩ => ⟨he, h.below' (Below.alloc (Below.alloc hw hw.size _) (by simpa using Nat.le_succ_of_le hw.size) _)⟩
              (with_reducible refine wpQuiet_yes ?_ ?_; (focus (kernel_rfl)); intro K hK; go_simp; refine ⟨_, fun _ _ => rfl, ?_⟩; with_reducible refine hK _ ?_; clear hK K)
              (with_reducible refine wpQuiet_yes ?_ ?_; (focus (kernel_rfl)); intro K hK; go_simp; refine ⟨_, fun _ _ => rfl, ?_⟩; with_reducible refine hK _ ?_; clear hK K)
              refine wpQuiet_nil fun w2 hb2 => ?_
              have Hb2 := Lib.hid hb2
              clear hb2
              simp only [Exit.then]
              go_wp2_with fail
              go_ret
              exact ⟨ret_bool (validB_no hlt ((okAt_is2 HJ.out Hx.out Hy.out H1.out H2.out H3.out).trans rfl)).symm, HbW.out.trans (Hb2.out.mono HbW.out.size)⟩
        · have H1 := Lib.hid h1
          clear h1
          go_wp2_with (first
            | (go_at_call 101; refine (iAE1_is true p x.t HP.out HE.out _ _ (by simp)).mono ?_; rintro e w1 ⟨rfl, rfl⟩)
            | (go_at_call 102; refine (iFit_is false x.a x.b x.c x.t H1.out _).mono ?_; rintro e w1 ⟨rfl, hb1⟩))
          go_ret
          exact ⟨ret_bool (validB_no hlt ((okAt_is Hx.out H1.out H2.out).trans (by simp))).symm, by have hs := Hb.out.size; refine Below.trans ?_ (hb1.mono (by first | omega | (simp; omega))); repeat (first | exact Hb.out | apply Below.drew | apply below_drewN | (refine Below.setCell ?_ (by first | omega | (simp; omega)) _) | (refine Below.alloc ?_ (by first | omega | (simp; omega)) _))⟩
      · have H2 := Lib.hid (elem_tok.trans h2)
        by_cases hx0 : x.t = 0
        · clear h2
          go_wp2_with fail
          go_ret
          exact ⟨ret_bool (validB_no hlt ((okAt_is Hx.out rfl H2.out).trans (by simp))).symm, by have hs := Hb.out.size; repeat (first | exact Hb.out | apply Below.drew | apply below_drewN | (refine Below.setCell ?_ (by first | omega | (simp; omega)) _) | (refine Below.alloc ?_ (by first | omega | (simp; omega)) _))⟩
        · have HE := Lib.hid (show isE p x.t = false by simpa [hx0] using h2)
          clear h2
          go_wp2_with (go_at_call 101; refine (iAE1_is false p x.t HP.out HE.out _ _ (by simp)).mono ?_; rintro e w1 ⟨rfl, rfl⟩)
          go_ret
          exact ⟨ret_bool (validB_no hlt ((okAt_is Hx.out rfl H2.out).trans (by simp))).symm, by have hs := Hb.out.size; repeat (first | exact Hb.out | apply Below.drew | apply below_drewN | (refine Below.setCell ?_ (by first | omega | (simp; omega)) _) | (refine Below.alloc ?_ (by first | omega | (simp; omega)) _))⟩
    · have hkl : k = L.length := by omega
      go_wp2_with fail
      go_ret
      exact ⟨ret_bool ((validB_all (hkl ▸ Hall.out)).trans (decide_eq_true hlp)).symm, hb⟩
set_option maxHeartbeats 2000000 in
theorem iPolyValid_no (p : Int) (hp : isP p = false) (v : Value) (w : World) :
    Calls Try.prog 20 #[.int .i64 p, v] w fun e w' => e = .returned (.bool false) ∧ w = w' := by
  have HP := Lib.hid hp
  clear hp
  go_enter Try.func20, Try.ntmps20
  go_wp2_with (go_at_call 100; refine (iPV_no _ _ HP.out).mono ?_; rintro e w' ⟨rfl, rfl⟩)
  go_ret
  exact ⟨rfl, rfl⟩
set_option maxHeartbeats 2000000 in
theorem iPolyValid_long (p : Int) (hp : isP p = true) (a : Option Addr) (n cap : Nat) (w : World) (hl : 60 < n) :
    Calls Try.prog 20 #[.int .i64 p, .slice a n cap] w fun e w' => e = .returned (.bool false) ∧ w = w' := by
  have HP := Lib.hid hp
  clear hp
  have hlp : (60 : Int) < (n : Int) := by omega
  go_enter Try.func20, Try.ntmps20
  go_wp2_with (go_at_call 100; refine (iPV_yes _ _ HP.out).mono ?_; rintro e w' ⟨rfl, rfl⟩)
  go_ret
  exact ⟨rfl, rfl⟩
set_option maxHeartbeats 2000000 in
theorem iPolyValid_nil (p : Int) (hp : isP p = true) (a : Option Addr) (cap : Nat) (w : World) :
    Calls Try.prog 20 #[.int .i64 p, .slice a 0 cap] w fun e w' => e = .returned (.bool true) ∧ w = w' := by
  have HP := Lib.hid hp
  clear hp
  go_enter Try.func20, Try.ntmps20
  go_wp2_with (go_at_call 100; refine (iPV_yes _ _ HP.out).mono ?_; rintro e w' ⟨rfl, rfl⟩)
  go_loop [17] (fun i => i = .int .i64 0) (fun _ => 0)
  case atStart => exact rfl
  case round =>
    subst hrel
    go_wp2_with fail
    go_ret
    exact ⟨ret_bool (by simp), rfl⟩
/-- the program's PolyValid, for any prime or none and any list of terms -/
theorem iPolyValid (p : Int) (v : Value) (L : List Trm) (w : World) (h : Trms w v L) :
    Calls Try.prog 20 #[.int .i64 p, v] w fun e w' => e = .returned (.bool (isP p && validB p L)) ∧ Below w.heap.size w w' := by
  cases hp : isP p
  · exact (iPolyValid_no p hp v w).mono fun e w' ⟨h1, h2⟩ => ⟨h1, h2 ▸ Below.refl _ _⟩
  · obtain ⟨hl, a, cap, rfl, h2⟩ := h
    by_cases h60 : L.length ≤ 60
    · rcases h2 with rfl | ⟨g, off, rfl, hg, hc⟩
      · exact (iPolyValid_nil p hp a cap w).mono fun e w' ⟨h1, h2⟩ => ⟨by rw [h1, validB_nil]; rfl, h2 ▸ Below.refl _ _⟩
      · exact (iPolyValid_some p hp g off cap L w h60 hg hc).mono fun e w' ⟨h1, h2⟩ => ⟨by rw [h1, Bool.true_and], h2⟩
    · exact (iPolyValid_long p hp a L.length cap w (by omega)).mono fun e w' ⟨h1, h2⟩ => ⟨by rw [h1, validB_long (by omega)]; rfl, h2 ▸ Below.refl _ _⟩
end Go.Proofs.Ytlidplmpglpkgaa
namespace Go.Proofs.Ytlidplmpglpkgaa
open Go.RowKit
set_option maxHeartbeats 2000000 in
theorem iDeg (a b c t : Int) (w : World) (ha : 0 ≤ a ∧ a ≤ 9) (hb : 0 ≤ b ∧ b ≤ 9) (hc : 0 ≤ c ∧ c ≤ 9) :
    Calls Try.prog 153 #[.agg #[.int .i64 a, .int .i64 b, .int .i64 c, .int .i64 t]] w fun e w' => e = .returned (.int .i64 (a + b + c)) ∧ Below w.heap.size w w' := by
  obtain ⟨a0, a1⟩ := ha
  obtain ⟨b0, b1⟩ := hb
  obtain ⟨c0, c1⟩ := hc
  have w1 : IntKind.i64.wrap (a + b) = a + b := IntWalk.i64_in _ (by omega)
  have w2 : IntKind.i64.wrap (a + b + c) = a + b + c := IntWalk.i64_in _ (by omega)
  go_enter Try.func153, Try.ntmps153
  go_wp2_with fail
  go_ret
  exact ⟨rfl, by repeat (first | exact Below.refl _ _ | apply Below.drew | apply below_drewN | (refine Below.setCell ?_ (by first | omega | (simp; omega)) _) | (refine Below.alloc ?_ (by first | omega | (simp; omega)) _))⟩
set_option maxHeartbeats 4000000 in
theorem iDegreeOf_some (p : Int) (g off cap : Nat) (L : List Trm) (w : World) (hL : isP p = true) (hV : validB p L = true) (hg : g < w.heap.size)
    (hc : ∀ j : Nat, j < L.length → TAt w g (off + j * 4) (L.getD j default)) :
    Calls Try.prog 71 #[.int .i64 p, .slice (some ⟨g, off, none⟩) L.length cap] w fun e w' => e = .returned (.int .i64 (degK L L.length)) ∧ Below w.heap.size w w' := by
  have hl := validB_len hV
  have HB := Lib.hid (show ∀ w', Below w.heap.size w w' → Calls Try.prog 20 #[.int .i64 p, .slice (some ⟨g, off, none⟩) L.length cap] w' fun e w'' => e = .returned (.bool true) ∧ Below w'.heap.size w' w'' from
    fun w' hb => (iPolyValid p _ L w' ⟨by omega, _, cap, rfl, .inr ⟨g, off, rfl, Nat.lt_of_lt_of_le hg hb.size, fun j hj => (hc j hj).below hb hg⟩⟩).mono fun e w'' h => by rw [hL, hV] at h; exact h)
  have HC := Lib.hid hc
  have HV := Lib.hid hV
  clear hc hV
  go_enter Try.func71, Try.ntmps71
  go_wp2_with fail
  refine (HB.out _ (Below.refl _ _)).mono ?_
  rintro e w1 ⟨rfl, hb1⟩
  go_wp2_with fail
  go_loopw [5, 14] (fun n i wr => ∃ k : Nat, k ≤ L.length ∧ i = .int .i64 k ∧ n = .int .i64 (degK L k) ∧ Below w.heap.size w wr) (fun _ i _ => L.length - (intOf i).toNat)
  case atStart => exact ⟨0, by omega, rfl, rfl, hb1⟩
  case round =>
    obtain ⟨k, hk, rfl, rfl, hb⟩ := hrel
    by_cases hlt : k < L.length
    · have hltp : (k : Int) < (L.length : Int) := by omega
      have hk0 : (0 : Int) ≤ (k : Int) := by omega
      obtain ⟨a0, a1, a2, a3⟩ := (HC.out k hlt).below hb hg
      obtain ⟨x, hx⟩ : ∃ x, x = L.getD k default := ⟨_, rfl⟩
      rw [← hx] at a0 a1 a2 a3
      have HX := Lib.hid (validB_pows HV.out hlt hx)
      have HD := Lib.hid (show (if degK L k < x.a + x.b + x.c then x.a + x.b + x.c else degK L k) = degK L (k + 1) by rw [hx]; rfl)
      have Hb := Lib.hid hb
      clear hx hb hb1
      go_wp2_with fail
      refine (iDeg x.a x.b x.c x.t _ HX.out.1 HX.out.2.1 HX.out.2.2).mono ?_
      rintro e w2 ⟨rfl, hb2⟩
      have H2 := Lib.hid (Hb.out.trans (((Below.alloc (Below.refl _ _) (Nat.le_refl _) _).trans (hb2.mono (by simp))).mono Hb.out.size))
      clear hb2
      go_wp2_with fail
      go_roundw
      case rel => exact ⟨k + 1, by omega, by go_num, by rw [HD.out], H2.out⟩
      case measure => simp [intOf]; omega
    · have hkl : k = L.length := by omega
      subst hkl
      go_wp2
      go_ret
      exact ⟨rfl, hb⟩
theorem iDegreeOf_nil (p : Int) (a : Option Addr) (cap : Nat) (w : World) (hp : isP p = true) :
    Calls Try.prog 71 #[.int .i64 p, .slice a 0 cap] w fun e w' => e = .returned (.int .i64 (-1)) ∧ Below w.heap.size w w' := by
  have HB := Lib.hid (show Calls Try.prog 20 #[.int .i64 p, .slice a 0 cap] w fun e w' => e = .returned (.bool true) ∧ Below w.heap.size w w' from
    (iPolyValid p (.slice a 0 cap) [] w ⟨by simp, a, cap, rfl, .inl rfl⟩).mono fun e w' h => by rw [hp] at h; exact h)
  clear hp
  go_enter Try.func71, Try.ntmps71
  go_wp2_with fail
  refine HB.out.mono ?_
  rintro e w1 ⟨rfl, hb1⟩
  go_wp2_with fail
  go_loop [5, 14] (fun n i => n = .int .i64 (-1) ∧ i = .int .i64 0) (fun _ _ => 0)
  case atStart => exact ⟨rfl, rfl⟩
  case round =>
    obtain ⟨rfl, rfl⟩ := hrel
    go_wp2_with fail
    go_ret
    exact ⟨rfl, hb1⟩
theorem iDegreeOf_no (p : Int) (v : Value) (L : List Trm) (w : World) (h : Trms w v L) (hn : (isP p && validB p L) = false) :
    Calls Try.prog 71 #[.int .i64 p, v] w fun e w' => e = .returned (.int .i64 (-2)) ∧ Below w.heap.size w w' := by
  have HB := Lib.hid (show Calls Try.prog 20 #[.int .i64 p, v] w fun e w' => e = .returned (.bool false) ∧ Below w.heap.size w w' from
    (iPolyValid p v L w h).mono fun e w' h => by rw [hn] at h; exact h)
  clear hn h
  go_enter Try.func71, Try.ntmps71
  go_wp2_with fail
  refine HB.out.mono ?_
  rintro e w1 ⟨rfl, hb1⟩
  go_wp2_with fail
  go_ret
  exact ⟨rfl, hb1⟩
theorem iDegreeOf (p : Int) (v : Value) (L : List Trm) (w : World) (h : Trms w v L) :
    Calls Try.prog 71 #[.int .i64 p, v] w fun e w' => e = .returned (.int .i64 (degV p L)) ∧ Below w.heap.size w w' := by
  unfold degV
  cases hn : isP p && validB p L
  · exact iDegreeOf_no p v L w h hn
  · have hn2 := hn
    simp only [Bool.and_eq_true] at hn2
    obtain ⟨hl, a, cap, rfl, h2⟩ := h
    rcases h2 with rfl | ⟨g, off, rfl, hg, hc⟩
    · exact iDegreeOf_nil p a cap w hn2.1
    · exact iDegreeOf_some p g off cap L w hn2.1 hn2.2 hg hc
end Go.Proofs.Ytlidplmpglpkgaa
namespace Go.Proofs.Ytlidplmpglpkgaa
open Go.RowKit
/-- the exponent of the unknown v -/
def pw (v : Int) (x : Trm) : Int := if v = 0 then x.a else if v = 1 then x.b else x.c
def inV (v : Int) : Bool := decide (0 ≤ v) && decide (v ≤ 2)
theorem inV_cases {v : Int} (h : inV v = true) : v = 0 ∨ v = 1 ∨ v = 2 := by
  simp only [inV, Bool.and_eq_true, decide_eq_true_eq] at h; omega
/-- the greatest exponent of v in the first k terms; -1 of none -/
def degI (L : List Trm) (v : Int) : Nat → Int
  | 0 => -1
  | k + 1 => if degI L v k < pw v (L.getD k default) then pw v (L.getD k default) else degI L v k
def degIV (p : Int) (L : List Trm) (v : Int) : Int := if (isP p && validB p L) && inV v then degI L v L.length else -2
theorem iUnk (r : Bool) (v : Int) (h : inV v = r) (w : World) :
    Calls Try.prog 128 #[.int .i64 v] w fun e w' => e = .returned (.bool r) ∧ w = w' := by
  unfold inV at h
  by_cases h0 : 0 ≤ v
  · by_cases h2 : v < 3
    · have hr := Lib.hid (show r = true by rw [← h]; simp; omega)
      clear h
      go_enter Try.func128, Try.ntmps128
      go_wp2
      go_ret
      exact ⟨ret_bool hr.out.symm, rfl⟩
    · have hr := Lib.hid (show r = false by rw [← h]; simp; omega)
      clear h
      go_enter Try.func128, Try.ntmps128
      go_wp2
      go_ret
      exact ⟨ret_bool hr.out.symm, rfl⟩
  · have hr := Lib.hid (show r = false by rw [← h]; simp; omega)
    clear h
    go_enter Try.func128, Try.ntmps128
    go_wp2
    go_ret
    exact ⟨ret_bool hr.out.symm, rfl⟩
theorem sUnk (r : Bool) (v : Int) (h : inV v = r) (w : World) :
    Calls Try.prog 133 #[.int .i64 v, .int .i64 0, .int .i64 2] w fun e w' => e = .returned (.bool r) ∧ w = w' := sIn_is r v 0 2 h w
end Go.Proofs.Ytlidplmpglpkgaa
namespace Go.Proofs.Ytlidplmpglpkgaa
open Go.RowKit
theorem sIn_at (r : Bool) (n lo hi : Int) (h : inB n lo hi = r) (w : World) :
    Calls Try.prog 133 #[.int .i64 n, .int .i64 lo, .int .i64 hi] w fun e w' => e = .returned (.bool r) ∧ w = w' := by
  subst h; exact sIn n lo hi w
set_option maxHeartbeats 2000000 in
theorem sGate (p q : Int) (hq : IntKind.i64.wrap (p - 1) = q) (k a b i : Int) (hi0 : 0 ≤ i) (hi1 : i ≤ 1048576) (w : World) :
    Calls Try.prog 208 #[.int .i64 p, .agg #[.int .i64 k, .int .i64 a, .int .i64 b], .int .i64 i] w fun e w' => e = .returned (.bool (gOK q ⟨k, a, b⟩ i)) ∧ Below w.heap.size w w' := by
  by_cases h0 : k = 0
  · subst h0
    clear hq
    rcases Bool.eq_false_or_eq_true (inB a 0 2) with h | h
    all_goals
      have H := Lib.hid h
      clear h
      go_enter Try.func208, Try.ntmps208
      go_wp2_with (go_at_call 133; refine (sIn_at _ _ _ _ H.out _).mono ?_; rintro e w' ⟨rfl, rfl⟩)
      go_ret
      exact ⟨ret_bool (by simp [gOK, H.out]), by repeat (first | exact Below.refl _ _ | apply Below.drew | apply below_drewN | (refine Below.setCell ?_ (by simp <;> omega) _) | (refine Below.alloc ?_ (by simp <;> omega) _))⟩
  · by_cases h1 : k = 1
    · subst h1
      rcases Bool.eq_false_or_eq_true (inB a 0 q) with h | h
      all_goals
        have H := Lib.hid h
        clear h h0
        go_enter Try.func208, Try.ntmps208
        go_wp2_with (go_at_call 133; refine (sIn_at _ _ _ _ H.out _).mono ?_; rintro e w' ⟨rfl, rfl⟩)
        go_ret
        exact ⟨ret_bool (by simp [gOK, H.out]), by repeat (first | exact Below.refl _ _ | apply Below.drew | apply below_drewN | (refine Below.setCell ?_ (by simp <;> omega) _) | (refine Below.alloc ?_ (by simp <;> omega) _))⟩
    · by_cases h2 : k = 2 ∨ k = 3
      · rcases Bool.eq_false_or_eq_true (inB a 0 (i - 1)) with h | h
        · rcases Bool.eq_false_or_eq_true (inB b 0 (i - 1)) with h' | h'
          all_goals
            rcases h2 with rfl | rfl
            all_goals
              have H := Lib.hid h
              have H' := Lib.hid h'
              clear h h' h0 h1 hq
              go_enter Try.func208, Try.ntmps208
              go_wp2_with fail
              refine (sIn_at true a 0 (i - 1) H.out _).mono ?_
              rintro e w' ⟨rfl, rfl⟩
              go_wp2_with fail
              refine (sIn_at _ b 0 (i - 1) H'.out _).mono ?_
              rintro e w' ⟨rfl, rfl⟩
              go_wp2_with fail
              go_ret
              exact ⟨ret_bool (by simp [gOK, H.out, H'.out]), by repeat (first | exact Below.refl _ _ | apply Below.drew | apply below_drewN | (refine Below.setCell ?_ (by simp <;> omega) _) | (refine Below.alloc ?_ (by simp <;> omega) _))⟩
        · rcases h2 with rfl | rfl
          all_goals
            have H := Lib.hid h
            clear h h0 h1 hq
            go_enter Try.func208, Try.ntmps208
            go_wp2_with (go_at_call 133; refine (sIn_at _ _ _ _ H.out _).mono ?_; rintro e w' ⟨rfl, rfl⟩)
            go_ret
            exact ⟨ret_bool (by simp [gOK, H.out]), by repeat (first | exact Below.refl _ _ | apply Below.drew | apply below_drewN | (refine Below.setCell ?_ (by simp <;> omega) _) | (refine Below.alloc ?_ (by simp <;> omega) _))⟩
      · have h3 : (k == 0) = false := by simpa using h0
        have h4 : (k == 1) = false := by simpa using h1
        have h5 : (k == 2) = false := by simp; omega
        have h6 : (k == 3) = false := by simp; omega
        clear h0 h1 h2 hq
        go_enter Try.func208, Try.ntmps208
        go_wp2
        go_ret
        exact ⟨ret_bool (by simp [gOK, h3, h4, h5, h6]), by repeat (first | exact Below.refl _ _ | apply Below.drew | apply below_drewN | (refine Below.setCell ?_ (by simp <;> omega) _) | (refine Below.alloc ?_ (by simp <;> omega) _))⟩
theorem iUnkG (r : Bool) (a : Int) (h : inB a 0 2 = r) (w : World) :
    Calls Try.prog 128 #[.int .i64 a] w fun e w' => e = .returned (.bool r) ∧ w = w' := by
  subst h
  by_cases h0 : 0 ≤ a
  · have hb : decide (a < 3) = decide (a ≤ 2) := by by_cases h : a < 3 <;> simp <;> omega
    go_enter Try.func128, Try.ntmps128
    go_wp2
    go_ret
    exact ⟨ret_bool (by simp [inB, h0]; try omega), rfl⟩
  · go_enter Try.func128, Try.ntmps128
    go_wp2
    go_ret
    exact ⟨ret_bool (by simp [inB]; omega), rfl⟩
theorem iJoins (k a b : Int) (w : World) :
    Calls Try.prog 144 #[.agg #[.int .i64 k, .int .i64 a, .int .i64 b]] w fun e w' => e = .returned (.bool (joinsB ⟨k, a, b⟩)) ∧ Below w.heap.size w w' := by
  by_cases h0 : k = 2
  · subst h0
    go_enter Try.func144, Try.ntmps144
    go_wp2
    go_ret
    exact ⟨ret_bool (by simp [joinsB]), by repeat (first | exact Below.refl _ _ | apply Below.drew | apply below_drewN | (refine Below.setCell ?_ (by simp <;> omega) _) | (refine Below.alloc ?_ (by simp <;> omega) _))⟩
  · have h1 : (k == 2) = false := by simpa using h0
    clear h0
    go_enter Try.func144, Try.ntmps144
    go_wp2
    go_ret
    exact ⟨ret_bool (by simp [joinsB, h1]), by repeat (first | exact Below.refl _ _ | apply Below.drew | apply below_drewN | (refine Below.setCell ?_ (by simp <;> omega) _) | (refine Below.alloc ?_ (by simp <;> omega) _))⟩
theorem iJoins_is (r : Bool) (k a b : Int) (h : joinsB ⟨k, a, b⟩ = r) (w : World) :
    Calls Try.prog 144 #[.agg #[.int .i64 k, .int .i64 a, .int .i64 b]] w fun e w' => e = .returned (.bool r) ∧ Below w.heap.size w w' := by
  subst h; exact iJoins k a b w
theorem iAE1_at (r : Bool) (p a : Int) (hp : isP p = true) (h : inB a 0 (p - 1) = r) (b : Nat) (w : World) (h0 : w.cell? ⟨b, 0, none⟩ = some (.int .i64 a)) :
    Calls Try.prog 101 #[.int .i64 p, .slice (some ⟨b, 0, none⟩) 1 1] w fun e w' => e = .returned (.bool r) ∧ w = w' := by
  have := iAE1 p a b w h0
  have e : isE p a = inB a 0 (p - 1) := by
    unfold isE inB
    by_cases h1 : a < p
    · have h2 : a ≤ p - 1 := by omega
      simp [h1, h2]
    · have h2 : ¬ a ≤ p - 1 := by omega
      simp [h1, h2]
  simp only [isE1, hp, Bool.true_and, e, h] at this
  exact this
set_option maxHeartbeats 2000000 in
theorem iFits (p : Int) (hp : isP p = true) (k a b i : Int) (w : World) :
    Calls Try.prog 203 #[.agg #[.int .i64 k, .int .i64 a, .int .i64 b], .int .i64 p, .int .i64 i] w fun e w' => e = .returned (.bool (gOK (p - 1) ⟨k, a, b⟩ i)) ∧ Below w.heap.size w w' := by
  have HP := Lib.hid hp
  clear hp
  by_cases h0 : k = 0
  · subst h0
    rcases Bool.eq_false_or_eq_true (inB a 0 2) with h | h
    all_goals
      have H := Lib.hid h
      clear h
      go_enter Try.func203, Try.ntmps203
      go_wp2_with (go_at_call 128; refine (iUnkG _ _ H.out _).mono ?_; rintro e w' ⟨rfl, rfl⟩)
      go_ret
      exact ⟨ret_bool (by simp [gOK, H.out]), by repeat (first | exact Below.refl _ _ | apply Below.drew | apply below_drewN | (refine Below.setCell ?_ (by simp <;> omega) _) | (refine Below.alloc ?_ (by simp <;> omega) _))⟩
  · by_cases h1 : k = 1
    · subst h1
      rcases Bool.eq_false_or_eq_true (inB a 0 (p - 1)) with h | h
      all_goals
        have H := Lib.hid h
        clear h h0
        go_enter Try.func203, Try.ntmps203
        go_wp2_with (go_at_call 101; refine (iAE1_at _ p a HP.out H.out _ _ (by simp)).mono ?_; rintro e w1 ⟨rfl, rfl⟩)
        go_ret
        exact ⟨ret_bool (by simp [gOK, H.out]), by repeat (first | exact Below.refl _ _ | apply Below.drew | apply below_drewN | (refine Below.setCell ?_ (by simp <;> omega) _) | (refine Below.alloc ?_ (by simp <;> omega) _))⟩
    · by_cases h2 : k = 2 ∨ k = 3
      · have hj : joinsB ⟨k, a, b⟩ = true := by simp [joinsB, h2]
        have HJ := Lib.hid hj
        have h3 : (k == 0) = false := by simpa using h0
        have h4 : (k == 1) = false := by simpa using h1
        have H2 := Lib.hid h2
        clear h0 h1 hj h2
        have key : ∀ r : Bool, (r = (inB a 0 (i - 1) && inB b 0 (i - 1))) → (gOK (p - 1) ⟨k, a, b⟩ i) = r := by
          intro r hr
          rw [hr]
          unfold gOK
          rcases H2.out with rfl | rfl <;> simp
        have HK := Lib.hid key
        clear key
        have B0 : Below w.heap.size w (w.alloc (Obj.cells #[.int .i64 k, .int .i64 a, .int .i64 b] 137)) := Below.alloc (Below.refl _ _) (Nat.le_refl _) _
        by_cases h5 : 0 ≤ a
        · by_cases h6 : 0 ≤ b
          · by_cases h7 : a ≤ b
            · have h8 : min a b = a := by omega
              have h9 : max a b = b := by omega
              go_enter Try.func203, Try.ntmps203
              go_wp2_with fail
              refine (iJoins_is true k a b HJ.out _).mono ?_
              rintro e w1 ⟨rfl, hb2⟩
              have c0 := hb2.cell (p := ⟨w.heap.size, 0, none⟩) (by simp)
              have c1 := hb2.cell (p := ⟨w.heap.size, 1, none⟩) (by simp)
              have c2 := hb2.cell (p := ⟨w.heap.size, 2, none⟩) (by simp)
              simp [go_sem] at c0 c1 c2
              have B1 := B0.trans (hb2.mono B0.size)
              clear hb2
              go_wp2_with fail
              all_goals (go_ret; exact ⟨ret_bool (HK.out _ (by unfold inB; rw [Bool.eq_iff_iff]; simp; omega)).symm, B1⟩)
            · have h8 : min a b = b := by omega
              have h9 : max a b = a := by omega
              go_enter Try.func203, Try.ntmps203
              go_wp2_with fail
              refine (iJoins_is true k a b HJ.out _).mono ?_
              rintro e w1 ⟨rfl, hb2⟩
              have c0 := hb2.cell (p := ⟨w.heap.size, 0, none⟩) (by simp)
              have c1 := hb2.cell (p := ⟨w.heap.size, 1, none⟩) (by simp)
              have c2 := hb2.cell (p := ⟨w.heap.size, 2, none⟩) (by simp)
              simp [go_sem] at c0 c1 c2
              have B1 := B0.trans (hb2.mono B0.size)
              clear hb2
              go_wp2_with fail
              all_goals (go_ret; exact ⟨ret_bool (HK.out _ (by unfold inB; rw [Bool.eq_iff_iff]; simp; omega)).symm, B1⟩)
          · have h8 : min a b < 0 := by omega
            go_enter Try.func203, Try.ntmps203
            go_wp2_with fail
            refine (iJoins_is true k a b HJ.out _).mono ?_
            rintro e w1 ⟨rfl, hb2⟩
            have c0 := hb2.cell (p := ⟨w.heap.size, 0, none⟩) (by simp)
            have c1 := hb2.cell (p := ⟨w.heap.size, 1, none⟩) (by simp)
            have c2 := hb2.cell (p := ⟨w.heap.size, 2, none⟩) (by simp)
            simp [go_sem] at c0 c1 c2
            have B1 := B0.trans (hb2.mono B0.size)
            clear hb2
            go_wp2_with fail
            all_goals (go_ret; exact ⟨ret_bool (HK.out _ (by unfold inB; rw [Bool.eq_iff_iff]; simp; omega)).symm, B1⟩)
        · have h8 : min a b < 0 := by omega
          go_enter Try.func203, Try.ntmps203
          go_wp2_with fail
          refine (iJoins_is true k a b HJ.out _).mono ?_
          rintro e w1 ⟨rfl, hb2⟩
          have c0 := hb2.cell (p := ⟨w.heap.size, 0, none⟩) (by simp)
          have c1 := hb2.cell (p := ⟨w.heap.size, 1, none⟩) (by simp)
          have c2 := hb2.cell (p := ⟨w.heap.size, 2, none⟩) (by simp)
          simp [go_sem] at c0 c1 c2
          have B1 := B0.trans (hb2.mono B0.size)
          clear hb2
          go_wp2_with fail
          all_goals (go_ret; exact ⟨ret_bool (HK.out _ (by unfold inB; rw [Bool.eq_iff_iff]; simp; omega)).symm, B1⟩)
      · have hj : joinsB ⟨k, a, b⟩ = false := by simp [joinsB]; omega
        have HJ := Lib.hid hj
        have h3 : (k == 0) = false := by simpa using h0
        have h4 : (k == 1) = false := by simpa using h1
        have h5 : (k == 2) = false := by simp; omega
        have h6 : (k == 3) = false := by simp; omega
        have HF := Lib.hid (show gOK (p - 1) ⟨k, a, b⟩ i = false by simp [gOK, h3, h4, h5, h6])
        have B0 : Below w.heap.size w (w.alloc (Obj.cells #[.int .i64 k, .int .i64 a, .int .i64 b] 137)) := Below.alloc (Below.refl _ _) (Nat.le_refl _) _
        clear h0 h1 hj h2 h5 h6
        go_enter Try.func203, Try.ntmps203
        go_wp2_with (go_at_call 144; refine (iJoins_is false k a b HJ.out _).mono ?_; rintro e w1 ⟨rfl, hb1⟩)
        have B1 := B0.trans (hb1.mono B0.size)
        clear hb1
        go_wp2_with fail
        go_ret
        exact ⟨ret_bool HF.out.symm, B1⟩
end Go.Proofs.Ytlidplmpglpkgaa
namespace Go.Proofs.Ytlidplmpglpkgaa
open Go.RowKit
theorem circB_no {p q : Int} (hq : isP p = true → q = p - 1) {L : List Gt} {k : Nat} (hk : k < L.length) (h : gOK q (gAt L k) k = false) : circB p L = false := by
  cases hp : isP p
  · simp [circB, hp]
  · rw [hq hp] at h
    simp [circB, allG_no hk h]
theorem circB_all {p q : Int} (hq : isP p = true → q = p - 1) {L : List Gt} (h : ∀ j : Nat, j < L.length → gOK q (gAt L j) j = true) : circB p L = (isP p && inB (L.length : Int) 1 60) := by
  cases hp : isP p
  · simp [circB, hp]
  · rw [hq hp] at h
    have e1 : decide ((1 : Int) ≤ (L.length : Int)) = decide (1 ≤ L.length) := by by_cases h : 1 ≤ L.length <;> simp [h] <;> omega
    have e2 : decide ((L.length : Int) ≤ 60) = decide (L.length ≤ 60) := by by_cases h : L.length ≤ 60 <;> simp [h] <;> omega
    simp [circB, hp, allG_all h, inB, e1, e2]
theorem wrap_hi {p q : Int} (h : IntKind.i64.wrap (p - 1) = q) : isP p = true → q = p - 1 := by
  intro hp
  have := isP_bd hp
  rw [← h]
  exact IntWalk.i64_in _ (by omega)
theorem gOK_snoc {P : Nat → Prop} {k : Nat} (h : ∀ j : Nat, j < k → P j) (hk : P k) : ∀ j : Nat, j < k + 1 → P j := by
  intro j hj
  by_cases e : j = k
  · rw [e]; exact hk
  · exact h j (by omega)
theorem gat_mk {L : List Gt} {k : Nat} {x : Gt} (h : x = L.getD k default) : (⟨x.k, x.a, x.b⟩ : Gt) = gAt L k := by subst h; rfl
set_option maxHeartbeats 4000000 in
theorem sCirc_some (p : Int) (g off cap : Nat) (L : List Gt) (w : World) (hl : L.length ≤ 1048576) (hg : g < w.heap.size)
    (hc : ∀ j : Nat, j < L.length → GAt w g (off + j * 3) (L.getD j default)) :
    Calls Try.prog 124 #[.int .i64 p, .slice (some ⟨g, off, none⟩) L.length cap] w fun e w' => e = .returned (.bool (circB p L)) ∧ Below w.heap.size w w' := by
  have HC := Lib.hid hc
  obtain ⟨q, hq⟩ : ∃ q, IntKind.i64.wrap (p - 1) = q := ⟨_, rfl⟩
  have HQ := Lib.hid hq
  clear hc hq
  go_enter Try.func124, Try.ntmps124
  go_wp2_with fail
  go_loopw [9] (fun i wr => ∃ k : Nat, k ≤ L.length ∧ i = .int .i64 k ∧ (∀ j : Nat, j < k → gOK q (gAt L j) j = true) ∧ Below w.heap.size w wr) (fun i _ => L.length - (intOf i).toNat)
  case atStart => exact ⟨0, by omega, rfl, fun j hj => by omega, Below.refl _ _⟩
  case round =>
    obtain ⟨k, hk, rfl, hall, hb⟩ := hrel
    have Hall := Lib.hid hall
    clear hall
    by_cases hlt : k < L.length
    · have hltp : (k : Int) < (L.length : Int) := by omega
      have hk0 : (0 : Int) ≤ (k : Int) := by omega
      obtain ⟨a0, a1, a2⟩ := (HC.out k hlt).below hb hg
      obtain ⟨x, hx⟩ : ∃ x, x = L.getD k default := ⟨_, rfl⟩
      rw [← hx] at a0 a1 a2
      have Hx := Lib.hid hx
      have Hb := Lib.hid hb
      clear hx hb
      rcases Bool.eq_false_or_eq_true (gOK q ⟨x.k, x.a, x.b⟩ k) with h1 | h1
      · have H1 := Lib.hid h1
        clear h1
        go_wp2_with fail
        refine (sGate p q HQ.out x.k x.a x.b k (by omega) (by omega) _).mono ?_
        rintro e w1 ⟨he, hb1⟩
        rw [H1.out] at he
        subst he
        have HB := Lib.hid (show Below w.heap.size w w1 by
          have hs := Hb.out.size
          refine Below.trans ?_ (hb1.mono (by first | omega | (simp; omega)))
          repeat (first | exact Hb.out | apply Below.drew | apply below_drewN | (refine Below.setCell ?_ (by first | omega | (simp; omega)) _) | (refine Below.alloc ?_ (by first | omega | (simp; omega)) _)))
        clear hb1
        go_wp2_with fail
        go_roundw
        case rel => exact ⟨k + 1, by omega, by go_num, gOK_snoc Hall.out (by rw [← gat_mk Hx.out]; exact H1.out), HB.out⟩
        case measure => simp [intOf]; omega
      · have H1 := Lib.hid h1
        clear h1
        go_wp2_with fail
        refine (sGate p q HQ.out x.k x.a x.b k (by omega) (by omega) _).mono ?_
        rintro e w1 ⟨he, hb1⟩
        rw [H1.out] at he
        subst he
        have HB := Lib.hid (show Below w.heap.size w w1 by
          have hs := Hb.out.size
          refine Below.trans ?_ (hb1.mono (by first | omega | (simp; omega)))
          repeat (first | exact Hb.out | apply Below.drew | apply below_drewN | (refine Below.setCell ?_ (by first | omega | (simp; omega)) _) | (refine Below.alloc ?_ (by first | omega | (simp; omega)) _)))
        clear hb1
        go_wp2_with fail
        go_ret
        exact ⟨ret_bool (circB_no (wrap_hi HQ.out) hlt (by rw [← gat_mk Hx.out]; exact H1.out)).symm, HB.out⟩
    · have hkl : k = L.length := by omega
      subst hkl
      have HB := Lib.hid hb
      have HR := Lib.hid (circB_all (wrap_hi HQ.out) Hall.out)
      clear hb
      cases hp : isP p
      · have HP := Lib.hid hp
        clear hp
        go_wp2_with (go_at_call 199; refine (sPV_no _ _ HP.out).mono ?_; rintro e w' ⟨rfl, rfl⟩)
        go_ret
        exact ⟨ret_bool (by rw [HR.out, HP.out]; rfl), HB.out⟩
      · have HP := Lib.hid hp
        clear hp
        go_wp2_with first
          | (go_at_call 199; refine (sPV_yes _ _ HP.out).mono ?_; rintro e w' ⟨rfl, rfl⟩)
          | (go_at_call 133; refine (sIn_at _ _ _ _ rfl _).mono ?_; rintro e w' ⟨rfl, rfl⟩)
        go_ret
        exact ⟨ret_bool (by rw [HR.out, HP.out]; rfl), HB.out⟩
set_option maxHeartbeats 4000000 in
theorem sCirc_nil (p : Int) (a : Option Addr) (cap : Nat) (w : World) :
    Calls Try.prog 124 #[.int .i64 p, .slice a 0 cap] w fun e w' => e = .returned (.bool false) ∧ Below w.heap.size w w' := by
  go_enter Try.func124, Try.ntmps124
  go_wp2_with fail
  go_loop [9] (fun i => i = .int .i64 0) (fun _ => 0)
  case atStart => exact rfl
  case round =>
    subst hrel
    cases hp : isP p
    · have HP := Lib.hid hp
      clear hp
      go_wp2_with (go_at_call 199; refine (sPV_no _ _ HP.out).mono ?_; rintro e w' ⟨rfl, rfl⟩)
      go_ret
      exact ⟨rfl, Below.refl _ _⟩
    · have HP := Lib.hid hp
      clear hp
      go_wp2_with first
        | (go_at_call 199; refine (sPV_yes _ _ HP.out).mono ?_; rintro e w' ⟨rfl, rfl⟩)
        | (go_at_call 133; refine (sIn_at false _ _ _ (by decide) _).mono ?_; rintro e w' ⟨rfl, rfl⟩)
      go_ret
      exact ⟨rfl, Below.refl _ _⟩
theorem circB_nil (p : Int) : circB p [] = false := by simp [circB]
/-- the model's CircuitValid, for any number and any list of gates -/
theorem sCircuitValid (p : Int) (v : Value) (L : List Gt) (w : World) (h : Gats w v L) :
    Calls Try.prog 124 #[.int .i64 p, v] w fun e w' => e = .returned (.bool (circB p L)) ∧ Below w.heap.size w w' := by
  obtain ⟨hl, a, cap, rfl, h2⟩ := h
  rcases h2 with rfl | ⟨g, off, rfl, hg, hc⟩
  · exact (sCirc_nil p a cap w).mono fun e w' ⟨h1, h2⟩ => ⟨by rw [h1, circB_nil], h2⟩
  · exact sCirc_some p g off cap L w hl hg hc
set_option maxHeartbeats 4000000 in
theorem iCirc_some (p : Int) (hp : isP p = true) (g off cap : Nat) (L : List Gt) (w : World) (h1 : 1 ≤ L.length) (hl : L.length ≤ 60) (hg : g < w.heap.size)
    (hc : ∀ j : Nat, j < L.length → GAt w g (off + j * 3) (L.getD j default)) :
    Calls Try.prog 119 #[.int .i64 p, .slice (some ⟨g, off, none⟩) L.length cap] w fun e w' => e = .returned (.bool (circB p L)) ∧ Below w.heap.size w w' := by
  have HC := Lib.hid hc
  have HP := Lib.hid hp
  have hl0 : ((L.length : Int) == 0) = false := by simp; intro h; rw [h] at h1; simp at h1
  have hl1 : (L.length : Int) ≤ 60 := by omega
  have HL := Lib.hid h1
  clear hc hp h1
  go_enter Try.func119, Try.ntmps119
  go_wp2_with (go_at_call 100; refine (iPV_yes _ _ HP.out).mono ?_; rintro e w' ⟨rfl, rfl⟩)
  go_loopw [22] (fun i wr => ∃ k : Nat, k ≤ L.length ∧ i = .int .i64 k ∧ (∀ j : Nat, j < k → gOK (p - 1) (gAt L j) j = true) ∧ Below w.heap.size w wr) (fun i _ => L.length - (intOf i).toNat)
  case atStart => exact ⟨0, by omega, rfl, fun j hj => by omega, Below.refl _ _⟩
  case round =>
    obtain ⟨k, hk, rfl, hall, hb⟩ := hrel
    have Hall := Lib.hid hall
    clear hall
    by_cases hlt : k < L.length
    · have hltp : (k : Int) < (L.length : Int) := by omega
      have hk0 : (0 : Int) ≤ (k : Int) := by omega
      obtain ⟨a0, a1, a2⟩ := (HC.out k hlt).below hb hg
      obtain ⟨x, hx⟩ : ∃ x, x = L.getD k default := ⟨_, rfl⟩
      rw [← hx] at a0 a1 a2
      have Hx := Lib.hid hx
      have Hb := Lib.hid hb
      clear hx hb
      rcases Bool.eq_false_or_eq_true (gOK (p - 1) ⟨x.k, x.a, x.b⟩ k) with h1 | h1
      · have H1 := Lib.hid h1
        clear h1
        go_wp2_with fail
        refine (iFits p HP.out x.k x.a x.b k _).mono ?_
        rintro e w1 ⟨he, hb1⟩
        rw [H1.out] at he
        subst he
        have HB := Lib.hid (show Below w.heap.size w w1 by
          have hs := Hb.out.size
          refine Below.trans ?_ (hb1.mono (by first | omega | (simp; omega)))
          repeat (first | exact Hb.out | apply Below.drew | apply below_drewN | (refine Below.setCell ?_ (by first | omega | (simp; omega)) _) | (refine Below.alloc ?_ (by first | omega | (simp; omega)) _)))
        clear hb1
        go_wp2_with fail
        go_roundw
        case rel => exact ⟨k + 1, by omega, by go_num, gOK_snoc Hall.out (by rw [← gat_mk Hx.out]; exact H1.out), HB.out⟩
        case measure => simp [intOf]; omega
      · have H1 := Lib.hid h1
        clear h1
        go_wp2_with fail
        refine (iFits p HP.out x.k x.a x.b k _).mono ?_
        rintro e w1 ⟨he, hb1⟩
        rw [H1.out] at he
        subst he
        have HB := Lib.hid (show Below w.heap.size w w1 by
          have hs := Hb.out.size
          refine Below.trans ?_ (hb1.mono (by first | omega | (simp; omega)))
          repeat (first | exact Hb.out | apply Below.drew | apply below_drewN | (refine Below.setCell ?_ (by first | omega | (simp; omega)) _) | (refine Below.alloc ?_ (by first | omega | (simp; omega)) _)))
        clear hb1
        go_wp2_with fail
        go_ret
        exact ⟨ret_bool (circB_no (fun _ => rfl) hlt (by rw [← gat_mk Hx.out]; exact H1.out)).symm, HB.out⟩
    · have hkl : k = L.length := by omega
      subst hkl
      have HR := Lib.hid (circB_all (p := p) (fun _ => rfl) Hall.out)
      go_wp2_with fail
      go_ret
      exact ⟨ret_bool (by rw [HR.out, HP.out]; have := HL.out; simp [inB]; omega), hb⟩
set_option maxHeartbeats 2000000 in
theorem iCirc_no (p : Int) (hp : isP p = false) (v : Value) (w : World) :
    Calls Try.prog 119 #[.int .i64 p, v] w fun e w' => e = .returned (.bool false) ∧ w = w' := by
  have HP := Lib.hid hp
  clear hp
  go_enter Try.func119, Try.ntmps119
  go_wp2_with (go_at_call 100; refine (iPV_no _ _ HP.out).mono ?_; rintro e w' ⟨rfl, rfl⟩)
  go_ret
  exact ⟨rfl, rfl⟩
set_option maxHeartbeats 2000000 in
theorem iCirc_nil (p : Int) (hp : isP p = true) (a : Option Addr) (cap : Nat) (w : World) :
    Calls Try.prog 119 #[.int .i64 p, .slice a 0 cap] w fun e w' => e = .returned (.bool false) ∧ w = w' := by
  have HP := Lib.hid hp
  clear hp
  go_enter Try.func119, Try.ntmps119
  go_wp2_with (go_at_call 100; refine (iPV_yes _ _ HP.out).mono ?_; rintro e w' ⟨rfl, rfl⟩)
  go_ret
  exact ⟨rfl, rfl⟩
set_option maxHeartbeats 2000000 in
theorem iCirc_long (p : Int) (hp : isP p = true) (a : Option Addr) (n cap : Nat) (w : World) (hl : 60 < n) :
    Calls Try.prog 119 #[.int .i64 p, .slice a n cap] w fun e w' => e = .returned (.bool false) ∧ w = w' := by
  have HP := Lib.hid hp
  clear hp
  have hl0 : ((n : Int) == 0) = false := by simp; omega
  have hlp : (60 : Int) < (n : Int) := by omega
  go_enter Try.func119, Try.ntmps119
  go_wp2_with (go_at_call 100; refine (iPV_yes _ _ HP.out).mono ?_; rintro e w' ⟨rfl, rfl⟩)
  go_ret
  exact ⟨rfl, rfl⟩
theorem circB_long {p : Int} {L : List Gt} (h : 60 < L.length) : circB p L = false := by
  have : decide (L.length ≤ 60) = false := by simp; omega
  simp [circB, this]
/-- the program's CircuitValid, for any number and any list of gates -/
theorem iCircuitValid (p : Int) (v : Value) (L : List Gt) (w : World) (h : Gats w v L) :
    Calls Try.prog 119 #[.int .i64 p, v] w fun e w' => e = .returned (.bool (circB p L)) ∧ Below w.heap.size w w' := by
  cases hp : isP p
  · exact (iCirc_no p hp v w).mono fun e w' ⟨h1, h2⟩ => ⟨by rw [h1]; simp [circB, hp], h2 ▸ Below.refl _ _⟩
  · obtain ⟨hl, a, cap, rfl, h2⟩ := h
    by_cases h0 : L.length = 0
    · have : L = [] := List.length_eq_zero_iff.1 h0
      subst this
      exact (iCirc_nil p hp a cap w).mono fun e w' ⟨h1, h2⟩ => ⟨by rw [h1, circB_nil], h2 ▸ Below.refl _ _⟩
    · by_cases h60 : L.length ≤ 60
      · rcases h2 with rfl | ⟨g, off, rfl, hg, hc⟩
        · simp at h0
        · exact iCirc_some p hp g off cap L w (by omega) h60 hg hc
      · exact (iCirc_long p hp a L.length cap w (by omega)).mono fun e w' ⟨h1, h2⟩ => ⟨by rw [h1, circB_long (by omega)], h2 ▸ Below.refl _ _⟩
end Go.Proofs.Ytlidplmpglpkgaa
namespace Go.Proofs.Ytlidplmpglpkgaa
open Go.RowKit
theorem depL_bd (L : List Gt) : ∀ k j : Nat, 0 ≤ (depL L k).getD j 0 ∧ (depL L k).getD j 0 ≤ k
  | 0, j => by simp [depL]
  | k + 1, j => by
    have ih := depL_bd L k
    simp only [depL, List.getD_eq_getElem?_getD] at ih ⊢
    by_cases hj : j < (depL L k).length
    · rw [List.getElem?_append_left hj]
      have := ih j
      omega
    · rw [List.getElem?_append_right (by omega)]
      by_cases he : j - (depL L k).length = 0
      · rw [he]
        simp only [List.getElem?_cons_zero, Option.getD_some]
        have h1 := ih (gAt L k).a.toNat
        have h2 := ih (gAt L k).b.toNat
        split <;> omega
      · rw [List.getElem?_eq_none (by simp; omega)]
        simp; omega
/-- what DepthOf returns -/
def depV (p : Int) (L : List Gt) : Int := if circB p L = true then (depL L L.length).getD (L.length - 1) 0 else -1
end Go.Proofs.Ytlidplmpglpkgaa
namespace Go.Proofs.Ytlidplmpglpkgaa
open Go.RowKit
theorem degL_bd (L : List Gt) : ∀ k j : Nat, 0 ≤ (degL L k).getD j 0 ∧ (degL L k).getD j 0 ≤ 1000
  | 0, j => by simp [degL]
  | k + 1, j => by
    have ih := degL_bd L k
    simp only [degL, List.getD_eq_getElem?_getD] at ih ⊢
    by_cases hj : j < (degL L k).length
    · rw [List.getElem?_append_left hj]
      exact ih j
    · rw [List.getElem?_append_right (by omega)]
      by_cases he : j - (degL L k).length = 0
      · rw [he]
        simp only [List.getElem?_cons_zero, Option.getD_some]
        have h1 := ih (gAt L k).a.toNat
        have h2 := ih (gAt L k).b.toNat
        split
        · omega
        · split
          · omega
          · split <;> omega
      · rw [List.getElem?_eq_none (by simp; omega)]
        simp
/-- what FormalDegree returns -/
def fdgV (p : Int) (L : List Gt) : Int := if circB p L = true then (degL L L.length).getD (L.length - 1) 0 else -1
end Go.Proofs.Ytlidplmpglpkgaa
namespace Go.Proofs.Ytlidplmpglpkgaa
open Go.RowKit
/-- a block whose first sixty cells hold the numbers of a list, and 0 behind them -/
def ArrI (w : World) (g : Nat) (D : List Int) : Prop :=
  g < w.heap.size ∧ ∀ j : Nat, j < 60 → w.cell? ⟨g, j, none⟩ = some (.int .i64 (D.getD j 0)) ∧ w.frozen? ⟨g, j, none⟩ = false
theorem ArrI.below {w w' : World} {B g : Nat} {D : List Int} (h : ArrI w g D) (hb : Below B w w') (hg : g < B) : ArrI w' g D :=
  ⟨Nat.lt_of_lt_of_le h.1 hb.size, fun j hj => ⟨by rw [hb.cell (p := ⟨g, j, none⟩) hg]; exact (h.2 j hj).1, by rw [hb.frozen (p := ⟨g, j, none⟩) hg]; exact (h.2 j hj).2⟩⟩
theorem getD_snoc (D : List Int) (v : Int) (i : Nat) : (D ++ [v]).getD i 0 = if i = D.length then v else D.getD i 0 := by
  simp only [List.getD_eq_getElem?_getD]
  by_cases h : i < D.length
  · rw [List.getElem?_append_left h, if_neg (by omega)]
  · rw [List.getElem?_append_right (by omega)]
    by_cases e : i = D.length
    · rw [if_pos e, e]; simp
    · rw [if_neg e, List.getElem?_eq_none (by simp; omega), List.getElem?_eq_none (by omega)]
theorem ArrI.zero {w : World} {g : Nat} {D : List Int} (h : ArrI w g D) : ArrI w g (D ++ [0]) :=
  ⟨h.1, fun j hj => ⟨by rw [(h.2 j hj).1, getD_snoc]; split
                        · rename_i e; rw [List.getD_eq_getElem?_getD, List.getElem?_eq_none (by omega)]; rfl
                        · rfl, (h.2 j hj).2⟩⟩
theorem ArrI.set {w : World} {g k : Nat} {D : List Int} (h : ArrI w g D) (hl : D.length = k) (hk : k < 60) (v : Int) : ArrI (w.setCell ⟨g, k, none⟩ (.int .i64 v)) g (D ++ [v]) := by
  refine ⟨by simpa using h.1, fun j hj => ⟨?_, by rw [World.frozen?_setCell]; exact (h.2 j hj).2⟩⟩
  rw [getD_snoc]
  by_cases e : j = k
  · rw [if_pos (by omega), e]
    exact World.cell?_setCell_same _ _ _ (h.2 k hk).1
  · rw [if_neg (by omega), World.cell?_setCell_other _ _ _ _ (by simp <;> omega)]
    exact (h.2 j hj).1
theorem ArrI.new (w : World) (ty : TypeId) : ArrI (w.alloc (.cells (Array.replicate 60 (.int .i64 0)) ty)) w.heap.size [] := by
  refine ⟨by simp, fun j hj => ⟨?_, ?_⟩⟩
  · rw [World.cell?_alloc_new]; simp [hj]
  · rw [World.frozen?_alloc_new]
theorem addr_ne {b b' o o' : Nat} (h : b ≠ b' ∨ o ≠ o') : (⟨b, o, none⟩ : Addr) ≠ ⟨b', o', none⟩ := by
  intro e
  injection e with e1 e2
  omega
theorem iLast (a : Option Addr) (n cap m : Nat) (hn : n ≤ 1048576) (hm : (n : Int) - 1 = (m : Int)) (w : World) :
    Calls Try.prog 127 #[.slice a n cap] w fun e w' => e = .returned (.int .i64 m) ∧ w = w' := by
  have hw := IntWalk.i64_in ((n : Int) - 1) (by omega)
  rw [hm] at hw
  go_enter Try.func127, Try.ntmps127
  go_wp2
  go_ret
  exact ⟨rfl, rfl⟩
end Go.Proofs.Ytlidplmpglpkgaa
namespace Go.Proofs.Ytlidplmpglpkgaa
open Go.RowKit
set_option maxRecDepth 100000 in
set_option maxHeartbeats 4000000 in
theorem iFdg_some (p : Int) (L : List Gt) (hv : circB p L = true) (g off cap : Nat) (r : Int) (hr : (degL L L.length).getD (L.length - 1) 0 = r) (w : World) (hg : g < w.heap.size)
    (hc : ∀ j : Nat, j < L.length → GAt w g (off + j * 3) (L.getD j default)) :
    Calls Try.prog 64 #[.int .i64 p, .slice (some ⟨g, off, none⟩) L.length cap] w fun e w' => e = .returned (.int .i64 r) ∧ Below w.heap.size w w' := by
  obtain ⟨hp, hl1, hl2, hall⟩ := circB_iff.1 hv
  have HC := Lib.hid hc
  have HV := Lib.hid hv
  have HR := Lib.hid hr
  clear hr
  have HA := Lib.hid hall
  have hG : Gats w (.slice (some ⟨g, off, none⟩) L.length cap) L := ⟨by omega, _, _, rfl, .inr ⟨g, off, rfl, hg, hc⟩⟩
  have HG := Lib.hid hG
  clear hc hv hall hp hG
  go_enter Try.func64, Try.ntmps64
  go_wp2_with fail
  refine (iCircuitValid p _ L _ HG.out).mono ?_
  rintro e w1 ⟨he, hb1⟩
  rw [HV.out] at he
  subst he
  obtain ⟨G, hG⟩ : ∃ G, G = w1.heap.size := ⟨_, rfl⟩
  have hGw : w.heap.size ≤ G := by rw [hG]; exact hb1.size
  have A0 : ArrI (w1.alloc (.cells (Array.replicate 60 (.int .i64 0)) 128)) G [] := by rw [hG]; exact ArrI.new w1 _
  have B0 : Below w.heap.size w (w1.alloc (.cells (Array.replicate 60 (.int .i64 0)) 128)) := Below.alloc hb1 hb1.size _
  clear hb1
  go_wp2_with fail
  rw [← hG]
  go_loopw [14] (fun i wr => ∃ k : Nat, k ≤ L.length ∧ i = .int .i64 k ∧ ArrI wr G (degL L k) ∧ Below w.heap.size w wr) (fun i _ => L.length - (intOf i).toNat)
  case atStart => exact ⟨0, by omega, rfl, A0, B0⟩
  case round =>
    clear A0 B0 hG
    obtain ⟨k, hk, rfl, hR, hb⟩ := hrel
    by_cases hlt : k < L.length
    · have hltp : (k : Int) < (L.length : Int) := by omega
      have hk0 : (0 : Int) ≤ (k : Int) := by omega
      obtain ⟨a0, a1, a2⟩ := (HC.out k hlt).below hb hg
      have hx0 := HA.out k hlt
      obtain ⟨x, hx⟩ : ∃ x, x = L.getD k default := ⟨_, rfl⟩
      rw [← hx] at a0 a1 a2
      rw [← gat_mk hx] at hx0
      have hcs := gOK_cases hx0
      simp only at hcs
      have Hb := Lib.hid hb
      have hs := hb.size
      have hlen : (degL L k).length = k := degL_len L k
      obtain ⟨xk, xa, xb⟩ := x
      simp only at a0 a1 a2 hcs
      by_cases hk2 : xk = 2
      · subst hk2
        obtain ⟨ja, rfl⟩ := Int.eq_ofNat_of_zero_le (show 0 ≤ xa by omega)
        obtain ⟨jb, rfl⟩ := Int.eq_ofNat_of_zero_le (show 0 ≤ xb by omega)
        have hja : ja < k := by omega
        have hjb : jb < k := by omega
        obtain ⟨da, hda⟩ : ∃ d, d = (degL L k).getD ja 0 := ⟨_, rfl⟩
        obtain ⟨db, hdb⟩ : ∃ d, d = (degL L k).getD jb 0 := ⟨_, rfl⟩
        have b1 := degL_bd L k ja
        have b2 := degL_bd L k jb
        rw [← hda] at b1
        rw [← hdb] at b2
        obtain ⟨m, hm⟩ : ∃ m, (if da < db then db else da) = m := ⟨_, rfl⟩
        have hmm : max da db = m := by rw [← hm]; split <;> omega
        have hm0 : 0 ≤ m ∧ m ≤ 1000 := by rw [← hm]; split <;> omega
        have HE := Lib.hid (show degL L (k + 1) = degL L k ++ [m] by
          have e : gAt L k = ⟨2, ja, jb⟩ := (gat_mk hx).symm
          rw [← hmm, hda, hdb]
          simp [degL, e])
        obtain ⟨W, hW⟩ : ∃ W, W = wr.alloc (Obj.cells #[.int .i64 2, .int .i64 ja, .int .i64 jb] 137) := ⟨_, rfl⟩
        have bW : Below wr.heap.size wr W := by rw [hW]; exact Below.alloc (Below.refl _ _) (Nat.le_refl _) _
        have c1 : W.cell? ⟨wr.heap.size, 1, none⟩ = some (.int .i64 ja) := by rw [hW]; simp [go_sem]
        have c2 : W.cell? ⟨wr.heap.size, 2, none⟩ = some (.int .i64 jb) := by rw [hW]; simp [go_sem]
        have ht : wr.heap.size < W.heap.size := by rw [hW]; simp
        have A1 := hR.below bW hR.1
        have B1 := hb.trans (bW.mono hs)
        have hG1 := A1.1
        obtain ⟨d0, _⟩ := A1.2 ja (by omega)
        obtain ⟨d1, _⟩ := A1.2 jb (by omega)
        obtain ⟨dk, fk⟩ := A1.2 k (by omega)
        rw [← hda] at d0
        rw [← hdb] at d1
        have hGr := hR.1
        have ja60 : (ja : Int) < 60 := by omega
        have jb60 : (jb : Int) < 60 := by omega
        have k60 : (k : Int) < 60 := by omega
        have ja0 : (0 : Int) ≤ ja := by omega
        have jb0 : (0 : Int) ≤ jb := by omega
        have HA1 := Lib.hid A1
        have HB1 := Lib.hid B1
        have HW := Lib.hid hW
        clear hx hR hb hx0 hcs hda hdb hmm A1 B1 bW hW
        go_wp2_with fail
        rw [← HW.out]
        clear HW a0 a1 a2
        go_region_held3 (fun w' => w'.cell? ⟨wr.heap.size, 1, none⟩ = some (.int .i64 ja) ∧ w'.cell? ⟨wr.heap.size, 2, none⟩ = some (.int .i64 jb) ∧ w'.cell? ⟨G, ja, none⟩ = some (.int .i64 da) ∧ w'.cell? ⟨G, jb, none⟩ = some (.int .i64 db)) (first | (refine ⟨?_, ?_, ?_, ?_⟩ <;> (rw [World.cell?_drew, World.cell?_setCell_other _ _ _ _ (addr_ne (by omega))]; assumption)) | go_keep) (fail)
        have hR2 : ArrI (W.setCell ⟨G, k, none⟩ (.int .i64 m)).drew G (degL L (k + 1)) := by
          rw [HE.out]
          have h := HA1.out.set hlen (by omega) m
          exact h.below (Below.drew (Below.refl _ _)) h.1
        have hb2 : Below w.heap.size w (W.setCell ⟨G, k, none⟩ (.int .i64 m)).drew := Below.drew (HB1.out.setCell hGw _)
        clear c1 c2 d0 d1 dk fk
        go_wp2_with fail
        go_roundw
        case rel => exact ⟨k + 1, by omega, by go_num, hR2, hb2⟩
        case measure => simp [intOf]; omega
      by_cases hk3 : xk = 3
      · subst hk3
        obtain ⟨ja, rfl⟩ := Int.eq_ofNat_of_zero_le (show 0 ≤ xa by omega)
        obtain ⟨jb, rfl⟩ := Int.eq_ofNat_of_zero_le (show 0 ≤ xb by omega)
        have hja : ja < k := by omega
        have hjb : jb < k := by omega
        obtain ⟨da, hda⟩ : ∃ d, d = (degL L k).getD ja 0 := ⟨_, rfl⟩
        obtain ⟨db, hdb⟩ : ∃ d, d = (degL L k).getD jb 0 := ⟨_, rfl⟩
        have b1 := degL_bd L k ja
        have b2 := degL_bd L k jb
        rw [← hda] at b1
        rw [← hdb] at b2
        by_cases h7 : da + db < 1000
        · have hmm : min (da + db) 1000 = da + db := by omega
          have hw2 : IntKind.i64.wrap (da + db) = da + db := IntWalk.i64_in _ (by omega)
          have HE := Lib.hid (show degL L (k + 1) = degL L k ++ [da + db] by
            have e : gAt L k = ⟨3, ja, jb⟩ := (gat_mk hx).symm
            rw [← hmm, hda, hdb]
            simp [degL, e])
          obtain ⟨W, hW⟩ : ∃ W, W = wr.alloc (Obj.cells #[.int .i64 3, .int .i64 ja, .int .i64 jb] 137) := ⟨_, rfl⟩
          have bW : Below wr.heap.size wr W := by rw [hW]; exact Below.alloc (Below.refl _ _) (Nat.le_refl _) _
          have c1 : W.cell? ⟨wr.heap.size, 1, none⟩ = some (.int .i64 ja) := by rw [hW]; simp [go_sem]
          have c2 : W.cell? ⟨wr.heap.size, 2, none⟩ = some (.int .i64 jb) := by rw [hW]; simp [go_sem]
          have ht : wr.heap.size < W.heap.size := by rw [hW]; simp
          have A1 := hR.below bW hR.1
          have B1 := hb.trans (bW.mono hs)
          have hG1 := A1.1
          obtain ⟨d0, _⟩ := A1.2 ja (by omega)
          obtain ⟨d1, _⟩ := A1.2 jb (by omega)
          obtain ⟨dk, fk⟩ := A1.2 k (by omega)
          rw [← hda] at d0
          rw [← hdb] at d1
          have hGr := hR.1
          have ja60 : (ja : Int) < 60 := by omega
          have jb60 : (jb : Int) < 60 := by omega
          have k60 : (k : Int) < 60 := by omega
          have ja0 : (0 : Int) ≤ ja := by omega
          have jb0 : (0 : Int) ≤ jb := by omega
          have HA1 := Lib.hid A1
          have HB1 := Lib.hid B1
          have HW := Lib.hid hW
          clear hx hR hb hx0 hcs hda hdb hmm A1 B1 bW hW
          go_wp2_with fail
          rw [← HW.out]
          clear HW a0 a1 a2
          go_region_held3 (fun w' => w'.cell? ⟨wr.heap.size, 1, none⟩ = some (.int .i64 ja) ∧ w'.cell? ⟨wr.heap.size, 2, none⟩ = some (.int .i64 jb) ∧ w'.cell? ⟨G, ja, none⟩ = some (.int .i64 da) ∧ w'.cell? ⟨G, jb, none⟩ = some (.int .i64 db)) (first | (refine ⟨?_, ?_, ?_, ?_⟩ <;> (rw [World.cell?_drew, World.cell?_setCell_other _ _ _ _ (addr_ne (by omega))]; assumption)) | go_keep) (fail)
          have hR2 : ArrI (W.setCell ⟨G, k, none⟩ (.int .i64 (da + db))).drew G (degL L (k + 1)) := by
            rw [HE.out]
            have h := HA1.out.set hlen (by omega) (da + db)
            exact h.below (Below.drew (Below.refl _ _)) h.1
          have hb2 : Below w.heap.size w (W.setCell ⟨G, k, none⟩ (.int .i64 (da + db))).drew := Below.drew (HB1.out.setCell hGw _)
          clear c1 c2 d0 d1 dk fk
          go_wp2_with fail
          go_roundw
          case rel => exact ⟨k + 1, by omega, by go_num, hR2, hb2⟩
          case measure => simp [intOf]; omega
        · have hmm : min (da + db) 1000 = 1000 := by omega
          have hw2 : IntKind.i64.wrap (da + db) = da + db := IntWalk.i64_in _ (by omega)
          have HE := Lib.hid (show degL L (k + 1) = degL L k ++ [1000] by
            have e : gAt L k = ⟨3, ja, jb⟩ := (gat_mk hx).symm
            rw [← hmm, hda, hdb]
            simp [degL, e])
          obtain ⟨W, hW⟩ : ∃ W, W = wr.alloc (Obj.cells #[.int .i64 3, .int .i64 ja, .int .i64 jb] 137) := ⟨_, rfl⟩
          have bW : Below wr.heap.size wr W := by rw [hW]; exact Below.alloc (Below.refl _ _) (Nat.le_refl _) _
          have c1 : W.cell? ⟨wr.heap.size, 1, none⟩ = some (.int .i64 ja) := by rw [hW]; simp [go_sem]
          have c2 : W.cell? ⟨wr.heap.size, 2, none⟩ = some (.int .i64 jb) := by rw [hW]; simp [go_sem]
          have ht : wr.heap.size < W.heap.size := by rw [hW]; simp
          have A1 := hR.below bW hR.1
          have B1 := hb.trans (bW.mono hs)
          have hG1 := A1.1
          obtain ⟨d0, _⟩ := A1.2 ja (by omega)
          obtain ⟨d1, _⟩ := A1.2 jb (by omega)
          obtain ⟨dk, fk⟩ := A1.2 k (by omega)
          rw [← hda] at d0
          rw [← hdb] at d1
          have hGr := hR.1
          have ja60 : (ja : Int) < 60 := by omega
          have jb60 : (jb : Int) < 60 := by omega
          have k60 : (k : Int) < 60 := by omega
          have ja0 : (0 : Int) ≤ ja := by omega
          have jb0 : (0 : Int) ≤ jb := by omega
          have HA1 := Lib.hid A1
          have HB1 := Lib.hid B1
          have HW := Lib.hid hW
          clear hx hR hb hx0 hcs hda hdb hmm A1 B1 bW hW
          go_wp2_with fail
          rw [← HW.out]
          clear HW a0 a1 a2
          go_region_held3 (fun w' => w'.cell? ⟨wr.heap.size, 1, none⟩ = some (.int .i64 ja) ∧ w'.cell? ⟨wr.heap.size, 2, none⟩ = some (.int .i64 jb) ∧ w'.cell? ⟨G, ja, none⟩ = some (.int .i64 da) ∧ w'.cell? ⟨G, jb, none⟩ = some (.int .i64 db)) (first | (refine ⟨?_, ?_, ?_, ?_⟩ <;> (rw [World.cell?_drew, World.cell?_setCell_other _ _ _ _ (addr_ne (by omega))]; assumption)) | go_keep) (fail)
          have hR2 : ArrI (W.setCell ⟨G, k, none⟩ (.int .i64 (1000))).drew G (degL L (k + 1)) := by
            rw [HE.out]
            have h := HA1.out.set hlen (by omega) (1000)
            exact h.below (Below.drew (Below.refl _ _)) h.1
          have hb2 : Below w.heap.size w (W.setCell ⟨G, k, none⟩ (.int .i64 (1000))).drew := Below.drew (HB1.out.setCell hGw _)
          clear c1 c2 d0 d1 dk fk
          go_wp2_with fail
          go_roundw
          case rel => exact ⟨k + 1, by omega, by go_num, hR2, hb2⟩
          case measure => simp [intOf]; omega
      by_cases hk0' : xk = 0
      · subst hk0'
        have HE := Lib.hid (show degL L (k + 1) = degL L k ++ [1] by
          have e : gAt L k = ⟨0, xa, xb⟩ := (gat_mk hx).symm
          simp [degL, e])
        obtain ⟨dk, fk⟩ := hR.2 k (by omega)
        have hGr := hR.1
        have k60 : (k : Int) < 60 := by omega
        have hR1 : ArrI (wr.setCell ⟨G, k, none⟩ (.int .i64 1)) G (degL L (k + 1)) := by
          rw [HE.out]
          exact hR.set hlen (by omega) 1
        have hR2 : ArrI ((wr.setCell ⟨G, k, none⟩ (.int .i64 1)).alloc (Obj.cells #[.int .i64 0, .int .i64 xa, .int .i64 xb] 137)) G (degL L (k + 1)) := hR1.below (Below.alloc (Below.refl _ _) (Nat.le_refl _) _) hR1.1
        have hb2 : Below w.heap.size w ((wr.setCell ⟨G, k, none⟩ (.int .i64 1)).alloc (Obj.cells #[.int .i64 0, .int .i64 xa, .int .i64 xb] 137)) := Below.alloc (hb.setCell hGw _) (by simpa using hs) _
        clear hx hR hb hx0 hcs hR1
        go_wp2_with fail
        go_roundw
        case rel => exact ⟨k + 1, by omega, by go_num, hR2, hb2⟩
        case measure => simp [intOf]; omega
      · have hk1' : xk = 1 := by omega
        subst hk1'
        have HE := Lib.hid (show degL L (k + 1) = degL L k ++ [0] by
          have e : gAt L k = ⟨1, xa, xb⟩ := (gat_mk hx).symm
          simp [degL, e])
        have bW : Below wr.heap.size wr (wr.alloc (Obj.cells #[.int .i64 1, .int .i64 xa, .int .i64 xb] 137)) := Below.alloc (Below.refl _ _) (Nat.le_refl _) _
        have hR2 : ArrI (wr.alloc (Obj.cells #[.int .i64 1, .int .i64 xa, .int .i64 xb] 137)) G (degL L (k + 1)) := by rw [HE.out]; exact (hR.below bW hR.1).zero
        have hb2 := hb.trans (bW.mono hs)
        clear hx hR hb hx0 hcs bW
        go_wp2_with fail
        go_roundw
        case rel => exact ⟨k + 1, by omega, by go_num, hR2, hb2⟩
        case measure => simp [intOf]; omega
    · have hkl : k = L.length := by omega
      subst hkl
      obtain ⟨d0, _⟩ := hR.2 (L.length - 1) (by omega)
      rw [HR.out] at d0
      obtain ⟨n, hn⟩ : ∃ n, L.length = n + 1 := ⟨L.length - 1, by omega⟩
      rw [hn] at d0
      simp only [Nat.add_sub_cancel] at d0
      have hnn : (L.length : Int) - 1 = (n : Int) := by omega
      have hn1 : (n : Int) < 60 := by omega
      have hn0 : (0 : Int) ≤ n := by omega
      have HN := Lib.hid hnn
      clear hR hn hnn
      go_wp2_with (go_at_call 127; refine (iLast _ L.length _ n (by omega) HN.out _).mono ?_; rintro e w' ⟨rfl, rfl⟩)
      go_ret
      exact ⟨rfl, hb⟩
set_option maxHeartbeats 1000000 in
theorem iFormalDegree (p : Int) (v : Value) (L : List Gt) (w : World) (h : Gats w v L) :
    Calls Try.prog 64 #[.int .i64 p, v] w fun e w' => e = .returned (.int .i64 (fdgV p L)) ∧ Below w.heap.size w w' := by
  cases hv : circB p L
  · have e1 : fdgV p L = -1 := by simp [fdgV, hv]
    rw [e1]
    have HV := Lib.hid hv
    have HG := Lib.hid h
    clear hv e1 h
    go_enter Try.func64, Try.ntmps64
    go_wp2_with fail
    refine (iCircuitValid p _ L _ HG.out).mono ?_
    rintro e w1 ⟨he, hb1⟩
    rw [HV.out] at he
    subst he
    have B1 := hb1
    clear hb1
    go_wp2_with fail
    go_ret
    exact ⟨rfl, B1⟩
  · have e1 : fdgV p L = (degL L L.length).getD (L.length - 1) 0 := by simp [fdgV, hv]
    obtain ⟨hl, a, cap, rfl, h2⟩ := h
    rcases h2 with rfl | ⟨g, off, rfl, hg, hc⟩
    · have := (circB_iff.1 hv).2.1
      simp at this
    · exact iFdg_some p L hv g off cap _ e1.symm w hg hc
end Go.Proofs.Ytlidplmpglpkgaa
namespace Go.Proofs.Ytlidplmpglpkgaa
open Go.RowKit
/-- the lengths of the formulas of the first gates, each at most 1000 -/
def sizL (L : List Gt) : Nat → List Int
  | 0 => []
  | k + 1 => sizL L k ++ [if joinsB (gAt L k) = true then min (1 + (sizL L k).getD (gAt L k).a.toNat 0 + (sizL L k).getD (gAt L k).b.toNat 0) 1000 else 1]
theorem sizL_len (L : List Gt) : ∀ k : Nat, (sizL L k).length = k
  | 0 => rfl
  | k + 1 => by simp [sizL, sizL_len L k]
theorem sizL_bd (L : List Gt) : ∀ k j : Nat, 0 ≤ (sizL L k).getD j 0 ∧ (sizL L k).getD j 0 ≤ 1000
  | 0, j => by simp [sizL]
  | k + 1, j => by
    have ih := sizL_bd L k
    simp only [sizL, List.getD_eq_getElem?_getD] at ih ⊢
    by_cases hj : j < (sizL L k).length
    · rw [List.getElem?_append_left hj]
      exact ih j
    · rw [List.getElem?_append_right (by omega)]
      by_cases he : j - (sizL L k).length = 0
      · rw [he]
        simp only [List.getElem?_cons_zero, Option.getD_some]
        have h1 := ih (gAt L k).a.toNat
        have h2 := ih (gAt L k).b.toNat
        split <;> omega
      · rw [List.getElem?_eq_none (by simp; omega)]
        simp
/-- what SpreadSize returns -/
def sprV (p : Int) (L : List Gt) : Int := if circB p L = true then (sizL L L.length).getD (L.length - 1) 0 else -1
theorem ArrI.put {w : World} {g k : Nat} {D : List Int} {u : Int} (h : ArrI w g (D ++ [u])) (hl : D.length = k) (hk : k < 60) (v : Int) : ArrI (w.setCell ⟨g, k, none⟩ (.int .i64 v)) g (D ++ [v]) := by
  refine ⟨by simpa using h.1, fun j hj => ⟨?_, by rw [World.frozen?_setCell]; exact (h.2 j hj).2⟩⟩
  rw [getD_snoc]
  by_cases e : j = k
  · rw [if_pos (by omega), e]
    exact World.cell?_setCell_same _ _ _ (h.2 k hk).1
  · rw [if_neg (by omega), World.cell?_setCell_other _ _ _ _ (by simp <;> omega), (h.2 j hj).1, getD_snoc, if_neg (by omega)]
end Go.Proofs.Ytlidplmpglpkgaa
