/-
  Contracts of the model's checks on powers. Conditions: none.
  Contracts of the model's order of powers. Conditions: none.
  Contracts of the model's check of polynomials. Conditions: the prime is one, what the slice holds is known.
  Contracts of the program's own checks on powers. Conditions: none.
  Contracts of the model's PolyValid.
  Contracts of the model's degrees.
  What the walks of the exact laws need of slices of terms, gates and integers: sizes, marks. Conditions: what the slices hold is known.
  PointAt, of the model and of the program, and the walk of its exact law. Conditions: none.
-/
import Derived.Test.YtajabchbdhjdiaaBa3
import Derived.Test.YtajabchbdhjdiaaBa13
import Derived.Test.YtajabchbdhjdiaaBa2
import Derived.Deep.RegionHeld3
import Derived.Deep.RegionWith
import Derived.Test.YtajabchbdhjdiaaBa9
namespace Go.Proofs.Ytajabchbdhjdiaa
open Go.RowKit
theorem idx0 (x y z : Value) (w : World) : (Instr.index 48 (.agg #[x, y, z]) (.int .i64 0)).run Try.prog w = .ok x w := by kernel_rfl
theorem idx1 (x y z : Value) (w : World) : (Instr.index 48 (.agg #[x, y, z]) (.int .i64 1)).run Try.prog w = .ok y w := by kernel_rfl
theorem idx2 (x y z : Value) (w : World) : (Instr.index 48 (.agg #[x, y, z]) (.int .i64 2)).run Try.prog w = .ok z w := by kernel_rfl
set_option maxHeartbeats 2000000 in
theorem sPows (a b c : Int) (w : World) :
    Calls Try.prog 148 #[.agg #[.int .i64 a, .int .i64 b, .int .i64 c]] w fun x w' => x = .returned (.bool (powsB a b c)) ∧ w.alloc (Obj.cells #[.int .i64 a, .int .i64 b, .int .i64 c] 48) = w' := by
  have k0 := idx0
  have k1 := idx1
  have k2 := idx2
  cases h0 : powB a
  · have hF := Lib.hid (show powsB a b c = false by simp [powsB, h0])
    have H0 := Lib.hid (show (decide (0 ≤ a) && decide (a ≤ 9)) = false from h0)
    clear h0
    go_enter Try.func148, Try.ntmps148
    go_wp2_with fail
    refine wp_loop_rounds 4 ?_
    rw [rounds_succ]
    go_wp2_with (go_at_call 118; refine (sIn _ _ _ _).mono ?_; rw [H0.out]; rintro e w' ⟨rfl, rfl⟩)
    go_ret
    exact ⟨ret_bool hF.out.symm, rfl⟩
  · have H0 := Lib.hid (show (decide (0 ≤ a) && decide (a ≤ 9)) = true from h0)
    cases h1 : powB b
    · have hF := Lib.hid (show powsB a b c = false by simp [powsB, h1])
      have H1 := Lib.hid (show (decide (0 ≤ b) && decide (b ≤ 9)) = false from h1)
      clear h0 h1
      go_enter Try.func148, Try.ntmps148
      go_wp2_with fail
      refine wp_loop_rounds 4 ?_
      rw [rounds_succ]
      go_wp2_with (go_at_call 118; refine (sIn _ _ _ _).mono ?_; rw [H0.out]; rintro e w' ⟨rfl, rfl⟩)
      rw [rounds_succ]
      go_wp2_with (go_at_call 118; refine (sIn _ _ _ _).mono ?_; rw [H1.out]; rintro e w' ⟨rfl, rfl⟩)
      go_ret
      exact ⟨ret_bool hF.out.symm, rfl⟩
    · have H1 := Lib.hid (show (decide (0 ≤ b) && decide (b ≤ 9)) = true from h1)
      cases h2 : powB c
      · have hF := Lib.hid (show powsB a b c = false by simp [powsB, h2])
        have H2 := Lib.hid (show (decide (0 ≤ c) && decide (c ≤ 9)) = false from h2)
        clear h0 h1 h2
        go_enter Try.func148, Try.ntmps148
        go_wp2_with fail
        refine wp_loop_rounds 4 ?_
        rw [rounds_succ]
        go_wp2_with (go_at_call 118; refine (sIn _ _ _ _).mono ?_; rw [H0.out]; rintro e w' ⟨rfl, rfl⟩)
        rw [rounds_succ]
        go_wp2_with (go_at_call 118; refine (sIn _ _ _ _).mono ?_; rw [H1.out]; rintro e w' ⟨rfl, rfl⟩)
        rw [rounds_succ]
        go_wp2_with (go_at_call 118; refine (sIn _ _ _ _).mono ?_; rw [H2.out]; rintro e w' ⟨rfl, rfl⟩)
        go_ret
        exact ⟨ret_bool hF.out.symm, rfl⟩
      · have hF := Lib.hid (show powsB a b c = true by simp [powsB, h0, h1, h2])
        have H2 := Lib.hid (show (decide (0 ≤ c) && decide (c ≤ 9)) = true from h2)
        clear h0 h1 h2
        go_enter Try.func148, Try.ntmps148
        go_wp2_with fail
        refine wp_loop_rounds 4 ?_
        rw [rounds_succ]
        go_wp2_with (go_at_call 118; refine (sIn _ _ _ _).mono ?_; rw [H0.out]; rintro e w' ⟨rfl, rfl⟩)
        rw [rounds_succ]
        go_wp2_with (go_at_call 118; refine (sIn _ _ _ _).mono ?_; rw [H1.out]; rintro e w' ⟨rfl, rfl⟩)
        rw [rounds_succ]
        go_wp2_with (go_at_call 118; refine (sIn _ _ _ _).mono ?_; rw [H2.out]; rintro e w' ⟨rfl, rfl⟩)
        rw [rounds_succ]
        go_wp2
        go_ret
        exact ⟨ret_bool hF.out.symm, rfl⟩
end Go.Proofs.Ytajabchbdhjdiaa
namespace Go.Proofs.Ytajabchbdhjdiaa
open Go.RowKit
theorem DrawnFrom.refl (W : World) : DrawnFrom W W := ⟨0, rfl⟩
theorem DrawnFrom.more {W w' : World} (h : DrawnFrom W w') (n : Nat) : DrawnFrom W (w'.drewN n) := by
  obtain ⟨m, rfl⟩ := h; exact ⟨m + n, by simp⟩
set_option maxHeartbeats 4000000 in
theorem sBef (a b c d e f : Int) (w : World) :
    Calls Try.prog 149 #[.agg #[.int .i64 a, .int .i64 b, .int .i64 c], .agg #[.int .i64 d, .int .i64 e, .int .i64 f]] w fun x w' => x = .returned (.bool (befB a b c d e f)) ∧ DrawnFrom ((w.alloc (Obj.cells #[.int .i64 a, .int .i64 b, .int .i64 c] 48)).alloc (Obj.cells #[.int .i64 d, .int .i64 e, .int .i64 f] 48)) w' := by
  cases h1 : (a != d)
  · cases h2 : (b != e)
    · cases h3 : (c != f)
      · have hF := Lib.hid (show befB a b c d e f = false by simp [befB, h1, h2, h3])
        go_enter Try.func149, Try.ntmps149
        go_wp2_with fail
        refine wp_loop_rounds 4 ?_
        iterate 3 (rw [rounds_succ]; go_wp2; go_quiet (fail); go_wp2)
        rw [rounds_succ]; go_wp2
        go_ret
        exact ⟨ret_bool hF.out.symm, by repeat (first | exact DrawnFrom.refl _ | apply DrawnFrom.more)⟩
      · have hF := Lib.hid (show befB a b c d e f = decide (f < c) by simp [befB, h1, h2, h3])
        go_enter Try.func149, Try.ntmps149
        go_wp2_with fail
        refine wp_loop_rounds 4 ?_
        iterate 3 (rw [rounds_succ]; go_wp2; go_quiet (fail); go_wp2)
        go_quiet (fail)
        go_wp2
        go_ret
        exact ⟨ret_bool hF.out.symm, by repeat (first | exact DrawnFrom.refl _ | apply DrawnFrom.more)⟩
    · have hF := Lib.hid (show befB a b c d e f = decide (e < b) by simp [befB, h1, h2])
      go_enter Try.func149, Try.ntmps149
      go_wp2_with fail
      refine wp_loop_rounds 4 ?_
      iterate 2 (rw [rounds_succ]; go_wp2; go_quiet (fail); go_wp2)
      go_quiet (fail)
      go_wp2
      go_ret
      exact ⟨ret_bool hF.out.symm, by repeat (first | exact DrawnFrom.refl _ | apply DrawnFrom.more)⟩
  · have hF := Lib.hid (show befB a b c d e f = decide (d < a) by simp [befB, h1])
    go_enter Try.func149, Try.ntmps149
    go_wp2_with fail
    refine wp_loop_rounds 4 ?_
    rw [rounds_succ]; go_wp2; go_quiet (fail); go_wp2
    go_quiet (fail)
    go_wp2
    go_ret
    exact ⟨ret_bool hF.out.symm, by repeat (first | exact DrawnFrom.refl _ | apply DrawnFrom.more)⟩
end Go.Proofs.Ytajabchbdhjdiaa
namespace Go.Proofs.Ytajabchbdhjdiaa
open Go.RowKit
theorem sPows_is (r : Bool) (a b c : Int) (h : powsB a b c = r) (w : World) :
    Calls Try.prog 148 #[.agg #[.int .i64 a, .int .i64 b, .int .i64 c]] w fun x w' => x = .returned (.bool r) ∧ w.alloc (Obj.cells #[.int .i64 a, .int .i64 b, .int .i64 c] 48) = w' := by
  subst h; exact sPows a b c w
theorem sIn_is (r : Bool) (n lo hi : Int) (h : (decide (lo ≤ n) && decide (n ≤ hi)) = r) (w : World) :
    Calls Try.prog 118 #[.int .i64 n, .int .i64 lo, .int .i64 hi] w fun e w' => e = .returned (.bool r) ∧ w = w' := by
  subst h; exact sIn n lo hi w
theorem sBef_is (r : Bool) (a b c d e f : Int) (h : befB a b c d e f = r) (w : World) :
    Calls Try.prog 149 #[.agg #[.int .i64 a, .int .i64 b, .int .i64 c], .agg #[.int .i64 d, .int .i64 e, .int .i64 f]] w fun x w' => x = .returned (.bool r) ∧ DrawnFrom ((w.alloc (Obj.cells #[.int .i64 a, .int .i64 b, .int .i64 c] 48)).alloc (Obj.cells #[.int .i64 d, .int .i64 e, .int .i64 f] 48)) w' := by
  subst h; exact sBef a b c d e f w
def tokB (p : Int) (x : Trm) : Bool := powsB x.a x.b x.c && (decide (1 ≤ x.t) && decide (x.t ≤ p - 1))
/-- the place k of a list of terms is in order -/
def okAt (p : Int) (L : List Trm) (k : Nat) : Bool := tokB p (L.getD k default) && (k == 0 || bef (L.getD (k - 1) default) (L.getD k default))
def validB (p : Int) (L : List Trm) : Bool := ((List.range L.length).all fun k => okAt p L k) && decide (L.length ≤ 60)
theorem validB_no {p : Int} {L : List Trm} {k : Nat} (hk : k < L.length) (h : okAt p L k = false) : validB p L = false := by
  unfold validB
  rw [Bool.and_eq_false_iff]
  exact .inl (List.all_eq_false.2 ⟨k, List.mem_range.2 hk, by simp [h]⟩)
theorem validB_all {p : Int} {L : List Trm} (h : ∀ j : Nat, j < L.length → okAt p L j = true) : validB p L = decide ((L.length : Int) ≤ 60) := by
  unfold validB
  rw [List.all_eq_true.2 (fun k hk => h k (List.mem_range.1 hk)), Bool.true_and]
  simp only [decide_eq_decide]; omega
theorem okAt_snoc {P : Nat → Prop} {k : Nat} (h : ∀ j : Nat, j < k → P j) (hk : P k) : ∀ j : Nat, j < k + 1 → P j := by
  intro j hj
  by_cases e : j = k
  · rw [e]; exact hk
  · exact h j (by omega)
theorem okAt_is {p : Int} {L : List Trm} {k : Nat} {x : Trm} (hx : x = L.getD k default) {r1 r2 : Bool} (h1 : powsB x.a x.b x.c = r1) (h2 : (decide (1 ≤ x.t) && decide (x.t ≤ p - 1)) = r2) :
    okAt p L k = ((r1 && r2) && (k == 0 || bef (L.getD (k - 1) default) x)) := by
  subst hx h1 h2; rfl
theorem okAt_is2 {p : Int} {L : List Trm} {k j : Nat} {x y : Trm} (hk : k = j + 1) (hx : x = L.getD k default) (hy : y = L.getD j default) {r1 r2 r3 : Bool} (h1 : powsB x.a x.b x.c = r1)
    (h2 : (decide (1 ≤ x.t) && decide (x.t ≤ p - 1)) = r2) (h3 : befB y.a y.b y.c x.a x.b x.c = r3) : okAt p L k = ((r1 && r2) && r3) := by
  subst hk
  rw [okAt_is hx h1 h2, Nat.add_sub_cancel, ← hy, ← h3]
  rfl
set_option maxHeartbeats 4000000 in
theorem sVal_some (p : Int) (hp : isP p = true) (g off cap : Nat) (L : List Trm) (w : World) (hl : L.length ≤ 1048576) (hg : g < w.heap.size)
    (hc : ∀ j : Nat, j < L.length → TAt w g (off + j * 4) (L.getD j default)) :
    Calls Try.prog 114 #[.int .i64 p, .slice (some ⟨g, off, none⟩) L.length cap] w fun e w' => e = .returned (.bool (validB p L)) ∧ Below w.heap.size w w' := by
  obtain ⟨p0, p1⟩ := isP_bd hp
  have HC := Lib.hid hc
  clear hc
  go_enter Try.func114, Try.ntmps114
  go_wp2_with fail
  go_loopw [9] (fun i wr => ∃ k : Nat, k ≤ L.length ∧ i = .int .i64 k ∧ (∀ j : Nat, j < k → okAt p L j = true) ∧ Below w.heap.size w wr) (fun i _ => L.length - (intOf i).toNat)
  case atStart => exact ⟨0, by omega, rfl, fun j hj => by omega, Below.refl _ _⟩
  case round =>
    obtain ⟨k, hk, rfl, hall, hb⟩ := hrel
    have Hall := Lib.hid hall
    clear hall
    by_cases hlt : k < L.length
    · have hltp : (k : Int) < (L.length : Int) := by omega
      have hk0 : (0 : Int) ≤ (k : Int) := by omega
      obtain ⟨a0, a1, a2, a3⟩ := (HC.out k hlt).below hb hg
      obtain ⟨x, hx⟩ : ∃ x, x = L.getD k default := ⟨_, rfl⟩
      rw [← hx] at a0 a1 a2 a3
      have Hx := Lib.hid hx
      have hr1 : g < wr.heap.size := Nat.lt_of_lt_of_le hg hb.size
      have Hb := Lib.hid hb
      clear hx hb
      go_wp2_with fail
      obtain ⟨W, hW⟩ : ∃ W, W = wr.alloc (Obj.cells #[.int .i64 x.a, .int .i64 x.b, .int .i64 x.c, .int .i64 x.t] 69) := ⟨_, rfl⟩
      have hT : TAt W wr.heap.size 0 x := by rw [hW]; refine ⟨?_, ?_, ?_, ?_⟩ <;> simp [go_sem]
      have hsz : wr.heap.size < W.heap.size := by rw [hW]; simp
      have HbW := Lib.hid (show Below w.heap.size w W by rw [hW]; exact Below.alloc Hb.out Hb.out.size _)
      rw [← hW]
      have F : ∀ w', Below W.heap.size W w' → (w'.cell? ⟨wr.heap.size, 0, none⟩ = some (.int .i64 x.a) ∧ w'.cell? ⟨wr.heap.size, 1, none⟩ = some (.int .i64 x.b) ∧ w'.cell? ⟨wr.heap.size, 2, none⟩ = some (.int .i64 x.c) ∧ w'.cell? ⟨wr.heap.size, 3, none⟩ = some (.int .i64 x.t)) := fun w' h => hT.below h hsz
      have HF := Lib.hid F
      have WP := Lib.hid (show IntKind.i64.wrap (p - 1) = p - 1 from IntWalk.i64_in _ (by omega))
      have hgW : g < W.heap.size := by omega
      have HG := Lib.hid (fun (j : Nat) (hj : j < L.length) w' (h : Below W.heap.size W w') => ((HC.out j hj).below HbW.out hg).below h hgW)
      clear F hT a0 a1 a2 a3 hW
      rcases Bool.eq_false_or_eq_true (powsB x.a x.b x.c) with h1 | h1
      · have H1 := Lib.hid h1
        clear h1
        rcases Bool.eq_false_or_eq_true (decide (1 ≤ x.t) && decide (x.t ≤ p - 1)) with h2 | h2
        · have H2 := Lib.hid h2
          clear h2
          by_cases hk1 : k = 0
          · have HK := Lib.hid hk1
            clear hk1
            refine wp_region_below (by kernel_rfl) (by kernel_rfl) ?_
            (with_reducible refine wpQuiet_yes ?_ ?_; (focus (kernel_rfl)); intro K hK; go_simp; refine ⟨_, fun _ _ => rfl, ?_⟩; with_reducible refine hK _ ?_; clear hK K)
            (with_reducible refine wpQuiet_yes ?_ ?_; (focus (kernel_rfl)); intro K hK; go_simp; refine ⟨(.agg #[.int .i64 x.a, .int .i64 x.b, .int .i64 x.c]), ?_, ?_⟩; rotate_left; with_reducible refine hK _ ?_; clear hK K; rotate_left)
            · intro w' hw
              obtain ⟨c0, c1, c2, c3⟩ := HF.out w' hw
              simp only [c0, c1, c2, go_sem, Result.andThen, and_self]
            (with_reducible refine wpQuiet_yes ?_ ?_; (focus (kernel_rfl)); intro K hK; go_simp; refine ⟨(.bool true), ?_, ?_⟩; rotate_left; with_reducible refine hK _ ?_; clear hK K; rotate_left)
            · intro w' hw
              exact (sPows_is true _ _ _ H1.out _).mono fun e w'' ⟨he, h⟩ => ⟨he, h ▸ Below.alloc hw hw.size _⟩
            (with_reducible refine wpQuiet_yes ?_ ?_; (focus (kernel_rfl)); intro K hK; go_simp; refine ⟨_, fun _ _ => rfl, ?_⟩; with_reducible refine hK _ ?_; clear hK K)
            (with_reducible refine wpQuiet_yes ?_ ?_; (focus (kernel_rfl)); intro K hK; go_simp; refine ⟨_, fun _ _ => rfl, ?_⟩; with_reducible refine hK _ ?_; clear hK K)
            (with_reducible refine wpQuiet_yes ?_ ?_; (focus (kernel_rfl)); intro K hK; go_simp; refine ⟨_, fun _ _ => rfl, ?_⟩; with_reducible refine hK _ ?_; clear hK K)
            (with_reducible refine wpQuiet_yes ?_ ?_; (focus (kernel_rfl)); intro K hK; go_simp; refine ⟨(.int .i64 x.t), ?_, ?_⟩; rotate_left; with_reducible refine hK _ ?_; clear hK K; rotate_left)
            · intro w' hw
              obtain ⟨c0, c1, c2, c3⟩ := HF.out w' hw
              simp only [c3, go_sem, Result.andThen, and_self]
            (with_reducible refine wpQuiet_yes ?_ ?_; (focus (kernel_rfl)); intro K hK; go_simp; refine ⟨_, fun _ _ => rfl, ?_⟩; with_reducible refine hK _ ?_; clear hK K)
            (with_reducible refine wpQuiet_yes ?_ ?_; (focus (kernel_rfl)); intro K hK; go_simp; refine ⟨(.int .i64 (p - 1)), ?_, ?_⟩; rotate_left; with_reducible refine hK _ ?_; clear hK K; rotate_left)
            · intro w' hw
              simp only [WP.out]
            (with_reducible refine wpQuiet_yes ?_ ?_; (focus (kernel_rfl)); intro K hK; go_simp; refine ⟨(.bool true), ?_, ?_⟩; rotate_left; with_reducible refine hK _ ?_; clear hK K; rotate_left)
            · intro w' hw
              exact (sIn_is true _ _ _ H2.out _).mono fun e w'' ⟨he, h⟩ => ⟨he, h ▸ hw⟩
            (with_reducible refine wpQuiet_yes ?_ ?_; (focus (kernel_rfl)); intro K hK; go_simp; refine ⟨_, fun _ _ => rfl, ?_⟩; with_reducible refine hK _ ?_; clear hK K)
            (with_reducible refine wpQuiet_yes ?_ ?_; (focus (kernel_rfl)); intro K hK; go_simp; refine ⟨_, fun _ _ => rfl, ?_⟩; with_reducible refine hK _ ?_; clear hK K)
            (with_reducible refine wpQuiet_yes ?_ ?_; (focus (kernel_rfl)); intro K hK; go_simp; refine ⟨_, fun _ _ => rfl, ?_⟩; with_reducible refine hK _ ?_; clear hK K)
            (with_reducible refine wpQuiet_yes ?_ ?_; (focus (kernel_rfl)); intro K hK; go_simp; refine ⟨_, fun _ _ => rfl, ?_⟩; with_reducible refine hK _ ?_; clear hK K)
            (with_reducible refine wpQuiet_yes ?_ ?_; (focus (kernel_rfl)); intro K hK; go_simp; refine ⟨(.bool false), ?_, ?_⟩; rotate_left; with_reducible refine hK _ ?_; clear hK K; rotate_left)
            · intro w' hw
              simp [HK.out]
            (with_reducible refine wpQuiet_yes ?_ ?_; (focus (kernel_rfl)); intro K hK; go_simp; refine ⟨_, fun _ _ => rfl, ?_⟩; with_reducible refine hK _ ?_; clear hK K)
            iterate 10 (with_reducible refine wpQuiet_no ?_ ?_; (focus (kernel_rfl)); intro K hK; go_simp; with_reducible refine hK _ ?_; clear hK K)
            (with_reducible refine wpQuiet_yes ?_ ?_; (focus (kernel_rfl)); intro K hK; go_simp; refine ⟨_, fun _ _ => rfl, ?_⟩; with_reducible refine hK _ ?_; clear hK K)
            (with_reducible refine wpQuiet_yes ?_ ?_; (focus (kernel_rfl)); intro K hK; go_simp; refine ⟨_, fun _ _ => rfl, ?_⟩; with_reducible refine hK _ ?_; clear hK K)
            refine wpQuiet_nil fun w2 hb2 => ?_
            have Hb2 := Lib.hid hb2
            clear hb2
            simp only [Exit.then]
            go_wp2_with fail
            go_roundw
            case rel => exact ⟨k + 1, by omega, by go_num, okAt_snoc Hall.out (by rw [okAt_is Hx.out H1.out H2.out, HK.out]; simp), HbW.out.trans (Hb2.out.mono HbW.out.size)⟩
            case measure => simp [intOf]; omega
          · obtain ⟨j, hkj⟩ : ∃ j, k = j + 1 := ⟨k - 1, by omega⟩
            have HJ := Lib.hid hkj
            have WK := Lib.hid (show IntKind.i64.wrap ((k : Int) - 1) = (j : Int) from (IntWalk.i64_in _ (by omega)).trans (by omega))
            clear hk1 hkj
            have hjl : j < L.length := by have := HJ.out; omega
            have hjl' : (j : Int) < (L.length : Int) := by omega
            have hj0 : (0 : Int) ≤ (j : Int) := by omega
            obtain ⟨y, hy⟩ : ∃ y, y = L.getD j default := ⟨_, rfl⟩
            have HY := Lib.hid (HG.out j hjl)
            rw [← hy] at HY
            have Hy := Lib.hid hy
            clear hy
            rcases Bool.eq_false_or_eq_true (befB y.a y.b y.c x.a x.b x.c) with h3 | h3
            · have H3 := Lib.hid h3
              clear h3
              refine wp_region_below (by kernel_rfl) (by kernel_rfl) ?_
              (with_reducible refine wpQuiet_yes ?_ ?_; (focus (kernel_rfl)); intro K hK; go_simp; refine ⟨_, fun _ _ => rfl, ?_⟩; with_reducible refine hK _ ?_; clear hK K)
              (with_reducible refine wpQuiet_yes ?_ ?_; (focus (kernel_rfl)); intro K hK; go_simp; refine ⟨(.agg #[.int .i64 x.a, .int .i64 x.b, .int .i64 x.c]), ?_, ?_⟩; rotate_left; with_reducible refine hK _ ?_; clear hK K; rotate_left)
              · intro w' hw
                obtain ⟨c0, c1, c2, c3⟩ := HF.out w' hw
                simp only [c0, c1, c2, go_sem, Result.andThen, and_self]
              (with_reducible refine wpQuiet_yes ?_ ?_; (focus (kernel_rfl)); intro K hK; go_simp; refine ⟨(.bool true), ?_, ?_⟩; rotate_left; with_reducible refine hK _ ?_; clear hK K; rotate_left)
              · intro w' hw
                exact (sPows_is true _ _ _ H1.out _).mono fun e w'' ⟨he, h⟩ => ⟨he, h ▸ Below.alloc hw hw.size _⟩
              (with_reducible refine wpQuiet_yes ?_ ?_; (focus (kernel_rfl)); intro K hK; go_simp; refine ⟨_, fun _ _ => rfl, ?_⟩; with_reducible refine hK _ ?_; clear hK K)
              (with_reducible refine wpQuiet_yes ?_ ?_; (focus (kernel_rfl)); intro K hK; go_simp; refine ⟨_, fun _ _ => rfl, ?_⟩; with_reducible refine hK _ ?_; clear hK K)
              (with_reducible refine wpQuiet_yes ?_ ?_; (focus (kernel_rfl)); intro K hK; go_simp; refine ⟨_, fun _ _ => rfl, ?_⟩; with_reducible refine hK _ ?_; clear hK K)
              (with_reducible refine wpQuiet_yes ?_ ?_; (focus (kernel_rfl)); intro K hK; go_simp; refine ⟨(.int .i64 x.t), ?_, ?_⟩; rotate_left; with_reducible refine hK _ ?_; clear hK K; rotate_left)
              · intro w' hw
                obtain ⟨c0, c1, c2, c3⟩ := HF.out w' hw
                simp only [c3, go_sem, Result.andThen, and_self]
              (with_reducible refine wpQuiet_yes ?_ ?_; (focus (kernel_rfl)); intro K hK; go_simp; refine ⟨_, fun _ _ => rfl, ?_⟩; with_reducible refine hK _ ?_; clear hK K)
              (with_reducible refine wpQuiet_yes ?_ ?_; (focus (kernel_rfl)); intro K hK; go_simp; refine ⟨(.int .i64 (p - 1)), ?_, ?_⟩; rotate_left; with_reducible refine hK _ ?_; clear hK K; rotate_left)
              · intro w' hw
                simp only [WP.out]
              (with_reducible refine wpQuiet_yes ?_ ?_; (focus (kernel_rfl)); intro K hK; go_simp; refine ⟨(.bool true), ?_, ?_⟩; rotate_left; with_reducible refine hK _ ?_; clear hK K; rotate_left)
              · intro w' hw
                exact (sIn_is true _ _ _ H2.out _).mono fun e w'' ⟨he, h⟩ => ⟨he, h ▸ hw⟩
              (with_reducible refine wpQuiet_yes ?_ ?_; (focus (kernel_rfl)); intro K hK; go_simp; refine ⟨_, fun _ _ => rfl, ?_⟩; with_reducible refine hK _ ?_; clear hK K)
              (with_reducible refine wpQuiet_yes ?_ ?_; (focus (kernel_rfl)); intro K hK; go_simp; refine ⟨_, fun _ _ => rfl, ?_⟩; with_reducible refine hK _ ?_; clear hK K)
              (with_reducible refine wpQuiet_yes ?_ ?_; (focus (kernel_rfl)); intro K hK; go_simp; refine ⟨_, fun _ _ => rfl, ?_⟩; with_reducible refine hK _ ?_; clear hK K)
              (with_reducible refine wpQuiet_yes ?_ ?_; (focus (kernel_rfl)); intro K hK; go_simp; refine ⟨_, fun _ _ => rfl, ?_⟩; with_reducible refine hK _ ?_; clear hK K)
              (with_reducible refine wpQuiet_yes ?_ ?_; (focus (kernel_rfl)); intro K hK; go_simp; refine ⟨(.bool true), ?_, ?_⟩; rotate_left; with_reducible refine hK _ ?_; clear hK K; rotate_left)
              · intro w' hw
                have := HJ.out
                simp
                try omega
              (with_reducible refine wpQuiet_yes ?_ ?_; (focus (kernel_rfl)); intro K hK; go_simp; refine ⟨_, fun _ _ => rfl, ?_⟩; with_reducible refine hK _ ?_; clear hK K)
              (with_reducible refine wpQuiet_yes ?_ ?_; (focus (kernel_rfl)); intro K hK; go_simp; refine ⟨_, fun _ _ => rfl, ?_⟩; with_reducible refine hK _ ?_; clear hK K)
              (with_reducible refine wpQuiet_yes ?_ ?_; (focus (kernel_rfl)); intro K hK; go_simp; refine ⟨_, fun _ _ => rfl, ?_⟩; with_reducible refine hK _ ?_; clear hK K)
              (with_reducible refine wpQuiet_yes ?_ ?_; (focus (kernel_rfl)); intro K hK; go_simp; refine ⟨(.int .i64 (j : Int)), ?_, ?_⟩; rotate_left; with_reducible refine hK _ ?_; clear hK K; rotate_left)
              · intro w' hw
                simp only [WK.out]
              (with_reducible refine wpQuiet_yes ?_ ?_; (focus (kernel_rfl)); intro K hK; go_simp; refine ⟨_, fun _ _ => rfl, ?_⟩; with_reducible refine hK _ ?_; clear hK K)
              (with_reducible refine wpQuiet_yes ?_ ?_; (focus (kernel_rfl)); intro K hK; go_simp; refine ⟨_, fun _ _ => rfl, ?_⟩; with_reducible refine hK _ ?_; clear hK K)
              (with_reducible refine wpQuiet_yes ?_ ?_; (focus (kernel_rfl)); intro K hK; go_simp; refine ⟨(.agg #[.int .i64 y.a, .int .i64 y.b, .int .i64 y.c]), ?_, ?_⟩; rotate_left; with_reducible refine hK _ ?_; clear hK K; rotate_left)
              · intro w' hw
                obtain ⟨c0, c1, c2, c3⟩ := HY.out w' hw
                simp only [c0, c1, c2, go_sem, Result.andThen, and_self]
              (with_reducible refine wpQuiet_yes ?_ ?_; (focus (kernel_rfl)); intro K hK; go_simp; refine ⟨_, fun _ _ => rfl, ?_⟩; with_reducible refine hK _ ?_; clear hK K)
              (with_reducible refine wpQuiet_yes ?_ ?_; (focus (kernel_rfl)); intro K hK; go_simp; refine ⟨(.agg #[.int .i64 x.a, .int .i64 x.b, .int .i64 x.c]), ?_, ?_⟩; rotate_left; with_reducible refine hK _ ?_; clear hK K; rotate_left)
              · intro w' hw
                obtain ⟨c0, c1, c2, c3⟩ := HF.out w' hw
                simp only [c0, c1, c2, go_sem, Result.andThen, and_self]
              (with_reducible refine wpQuiet_yes ?_ ?_; (focus (kernel_rfl)); intro K hK; go_simp; refine ⟨(.bool true), ?_, ?_⟩; rotate_left; with_reducible refine hK _ ?_; clear hK K; rotate_left)
              · intro w' hw
                exact (sBef_is true _ _ _ _ _ _ H3.out _).mono fun e w'' ⟨he, h⟩ => ⟨he, h.below' (Below.alloc (Below.alloc hw hw.size _) (by simpa using Nat.le_succ_of_le hw.size) _)⟩
              (with_reducible refine wpQuiet_yes ?_ ?_; (focus (kernel_rfl)); intro K hK; go_simp; refine ⟨_, fun _ _ => rfl, ?_⟩; with_reducible refine hK _ ?_; clear hK K)
              (with_reducible refine wpQuiet_yes ?_ ?_; (focus (kernel_rfl)); intro K hK; go_simp; refine ⟨_, fun _ _ => rfl, ?_⟩; with_reducible refine hK _ ?_; clear hK K)
              (with_reducible refine wpQuiet_yes ?_ ?_; (focus (kernel_rfl)); intro K hK; go_simp; refine ⟨_, fun _ _ => rfl, ?_⟩; with_reducible refine hK _ ?_; clear hK K)
              refine wpQuiet_nil fun w2 hb2 => ?_
              have Hb2 := Lib.hid hb2
              clear hb2
              simp only [Exit.then]
              go_wp2_with fail
              go_roundw
              case rel => exact ⟨k + 1, by omega, by go_num, okAt_snoc Hall.out ((okAt_is2 HJ.out Hx.out Hy.out H1.out H2.out H3.out).trans rfl), HbW.out.trans (Hb2.out.mono HbW.out.size)⟩
              case measure => simp [intOf]; omega
            · have H3 := Lib.hid h3
              clear h3
              refine wp_region_below (by kernel_rfl) (by kernel_rfl) ?_
              (with_reducible refine wpQuiet_yes ?_ ?_; (focus (kernel_rfl)); intro K hK; go_simp; refine ⟨_, fun _ _ => rfl, ?_⟩; with_reducible refine hK _ ?_; clear hK K)
              (with_reducible refine wpQuiet_yes ?_ ?_; (focus (kernel_rfl)); intro K hK; go_simp; refine ⟨(.agg #[.int .i64 x.a, .int .i64 x.b, .int .i64 x.c]), ?_, ?_⟩; rotate_left; with_reducible refine hK _ ?_; clear hK K; rotate_left)
              · intro w' hw
                obtain ⟨c0, c1, c2, c3⟩ := HF.out w' hw
                simp only [c0, c1, c2, go_sem, Result.andThen, and_self]
              (with_reducible refine wpQuiet_yes ?_ ?_; (focus (kernel_rfl)); intro K hK; go_simp; refine ⟨(.bool true), ?_, ?_⟩; rotate_left; with_reducible refine hK _ ?_; clear hK K; rotate_left)
              · intro w' hw
                exact (sPows_is true _ _ _ H1.out _).mono fun e w'' ⟨he, h⟩ => ⟨he, h ▸ Below.alloc hw hw.size _⟩
              (with_reducible refine wpQuiet_yes ?_ ?_; (focus (kernel_rfl)); intro K hK; go_simp; refine ⟨_, fun _ _ => rfl, ?_⟩; with_reducible refine hK _ ?_; clear hK K)
              (with_reducible refine wpQuiet_yes ?_ ?_; (focus (kernel_rfl)); intro K hK; go_simp; refine ⟨_, fun _ _ => rfl, ?_⟩; with_reducible refine hK _ ?_; clear hK K)
              (with_reducible refine wpQuiet_yes ?_ ?_; (focus (kernel_rfl)); intro K hK; go_simp; refine ⟨_, fun _ _ => rfl, ?_⟩; with_reducible refine hK _ ?_; clear hK K)
              (with_reducible refine wpQuiet_yes ?_ ?_; (focus (kernel_rfl)); intro K hK; go_simp; refine ⟨(.int .i64 x.t), ?_, ?_⟩; rotate_left; with_reducible refine hK _ ?_; clear hK K; rotate_left)
              · intro w' hw
                obtain ⟨c0, c1, c2, c3⟩ := HF.out w' hw
                simp only [c3, go_sem, Result.andThen, and_self]
              (with_reducible refine wpQuiet_yes ?_ ?_; (focus (kernel_rfl)); intro K hK; go_simp; refine ⟨_, fun _ _ => rfl, ?_⟩; with_reducible refine hK _ ?_; clear hK K)
              (with_reducible refine wpQuiet_yes ?_ ?_; (focus (kernel_rfl)); intro K hK; go_simp; refine ⟨(.int .i64 (p - 1)), ?_, ?_⟩; rotate_left; with_reducible refine hK _ ?_; clear hK K; rotate_left)
              · intro w' hw
                simp only [WP.out]
              (with_reducible refine wpQuiet_yes ?_ ?_; (focus (kernel_rfl)); intro K hK; go_simp; refine ⟨(.bool true), ?_, ?_⟩; rotate_left; with_reducible refine hK _ ?_; clear hK K; rotate_left)
              · intro w' hw
                exact (sIn_is true _ _ _ H2.out _).mono fun e w'' ⟨he, h⟩ => ⟨he, h ▸ hw⟩
              (with_reducible refine wpQuiet_yes ?_ ?_; (focus (kernel_rfl)); intro K hK; go_simp; refine ⟨_, fun _ _ => rfl, ?_⟩; with_reducible refine hK _ ?_; clear hK K)
              (with_reducible refine wpQuiet_yes ?_ ?_; (focus (kernel_rfl)); intro K hK; go_simp; refine ⟨_, fun _ _ => rfl, ?_⟩; with_reducible refine hK _ ?_; clear hK K)
              (with_reducible refine wpQuiet_yes ?_ ?_; (focus (kernel_rfl)); intro K hK; go_simp; refine ⟨_, fun _ _ => rfl, ?_⟩; with_reducible refine hK _ ?_; clear hK K)
              (with_reducible refine wpQuiet_yes ?_ ?_; (focus (kernel_rfl)); intro K hK; go_simp; refine ⟨_, fun _ _ => rfl, ?_⟩; with_reducible refine hK _ ?_; clear hK K)
              (with_reducible refine wpQuiet_yes ?_ ?_; (focus (kernel_rfl)); intro K hK; go_simp; refine ⟨(.bool true), ?_, ?_⟩; rotate_left; with_reducible refine hK _ ?_; clear hK K; rotate_left)
              · intro w' hw
                have := HJ.out
                simp
                try omega
              (with_reducible refine wpQuiet_yes ?_ ?_; (focus (kernel_rfl)); intro K hK; go_simp; refine ⟨_, fun _ _ => rfl, ?_⟩; with_reducible refine hK _ ?_; clear hK K)
              (with_reducible refine wpQuiet_yes ?_ ?_; (focus (kernel_rfl)); intro K hK; go_simp; refine ⟨_, fun _ _ => rfl, ?_⟩; with_reducible refine hK _ ?_; clear hK K)
              (with_reducible refine wpQuiet_yes ?_ ?_; (focus (kernel_rfl)); intro K hK; go_simp; refine ⟨_, fun _ _ => rfl, ?_⟩; with_reducible refine hK _ ?_; clear hK K)
              (with_reducible refine wpQuiet_yes ?_ ?_; (focus (kernel_rfl)); intro K hK; go_simp; refine ⟨(.int .i64 (j : Int)), ?_, ?_⟩; rotate_left; with_reducible refine hK _ ?_; clear hK K; rotate_left)
              · intro w' hw
                simp only [WK.out]
              (with_reducible refine wpQuiet_yes ?_ ?_; (focus (kernel_rfl)); intro K hK; go_simp; refine ⟨_, fun _ _ => rfl, ?_⟩; with_reducible refine hK _ ?_; clear hK K)
              (with_reducible refine wpQuiet_yes ?_ ?_; (focus (kernel_rfl)); intro K hK; go_simp; refine ⟨_, fun _ _ => rfl, ?_⟩; with_reducible refine hK _ ?_; clear hK K)
              (with_reducible refine wpQuiet_yes ?_ ?_; (focus (kernel_rfl)); intro K hK; go_simp; refine ⟨(.agg #[.int .i64 y.a, .int .i64 y.b, .int .i64 y.c]), ?_, ?_⟩; rotate_left; with_reducible refine hK _ ?_; clear hK K; rotate_left)
              · intro w' hw
                obtain ⟨c0, c1, c2, c3⟩ := HY.out w' hw
                simp only [c0, c1, c2, go_sem, Result.andThen, and_self]
              (with_reducible refine wpQuiet_yes ?_ ?_; (focus (kernel_rfl)); intro K hK; go_simp; refine ⟨_, fun _ _ => rfl, ?_⟩; with_reducible refine hK _ ?_; clear hK K)
              (with_reducible refine wpQuiet_yes ?_ ?_; (focus (kernel_rfl)); intro K hK; go_simp; refine ⟨(.agg #[.int .i64 x.a, .int .i64 x.b, .int .i64 x.c]), ?_, ?_⟩; rotate_left; with_reducible refine hK _ ?_; clear hK K; rotate_left)
              · intro w' hw
                obtain ⟨c0, c1, c2, c3⟩ := HF.out w' hw
                simp only [c0, c1, c2, go_sem, Result.andThen, and_self]
              (with_reducible refine wpQuiet_yes ?_ ?_; (focus (kernel_rfl)); intro K hK; go_simp; refine ⟨(.bool false), ?_, ?_⟩; rotate_left; with_reducible refine hK _ ?_; clear hK K; rotate_left)
              · intro w' hw
                exact (sBef_is false _ _ _ _ _ _ H3.out _).mono fun e w'' ⟨he, h⟩ => ⟨he, h.below' (Below.alloc (Below.alloc hw hw.size _) (by simpa using Nat.le_succ_of_le hw.size) _)⟩
              (with_reducible refine wpQuiet_yes ?_ ?_; (focus (kernel_rfl)); intro K hK; go_simp; refine ⟨_, fun _ _ => rfl, ?_⟩; with_reducible refine hK _ ?_; clear hK K)
              (with_reducible refine wpQuiet_yes ?_ ?_; (focus (kernel_rfl)); intro K hK; go_simp; refine ⟨_, fun _ _ => rfl, ?_⟩; with_reducible refine hK _ ?_; clear hK K)
              (with_reducible refine wpQuiet_yes ?_ ?_; (focus (kernel_rfl)); intro K hK; go_simp; refine ⟨_, fun _ _ => rfl, ?_⟩; with_reducible refine hK _ ?_; clear hK K)
              refine wpQuiet_nil fun w2 hb2 => ?_
              have Hb2 := Lib.hid hb2
              clear hb2
              simp only [Exit.then]
              go_wp2_with fail
              go_ret
              exact ⟨ret_bool (validB_no hlt ((okAt_is2 HJ.out Hx.out Hy.out H1.out H2.out H3.out).trans rfl)).symm, HbW.out.trans (Hb2.out.mono HbW.out.size)⟩
        · have H2 := Lib.hid h2
          clear h2
          refine wp_region_below (by kernel_rfl) (by kernel_rfl) ?_
          (with_reducible refine wpQuiet_yes ?_ ?_; (focus (kernel_rfl)); intro K hK; go_simp; refine ⟨_, fun _ _ => rfl, ?_⟩; with_reducible refine hK _ ?_; clear hK K)
          (with_reducible refine wpQuiet_yes ?_ ?_; (focus (kernel_rfl)); intro K hK; go_simp; refine ⟨(.agg #[.int .i64 x.a, .int .i64 x.b, .int .i64 x.c]), ?_, ?_⟩; rotate_left; with_reducible refine hK _ ?_; clear hK K; rotate_left)
          · intro w' hw
            obtain ⟨c0, c1, c2, c3⟩ := HF.out w' hw
            simp only [c0, c1, c2, go_sem, Result.andThen, and_self]
          (with_reducible refine wpQuiet_yes ?_ ?_; (focus (kernel_rfl)); intro K hK; go_simp; refine ⟨(.bool true), ?_, ?_⟩; rotate_left; with_reducible refine hK _ ?_; clear hK K; rotate_left)
          · intro w' hw
            exact (sPows_is true _ _ _ H1.out _).mono fun e w'' ⟨he, h⟩ => ⟨he, h ▸ Below.alloc hw hw.size _⟩
          (with_reducible refine wpQuiet_yes ?_ ?_; (focus (kernel_rfl)); intro K hK; go_simp; refine ⟨_, fun _ _ => rfl, ?_⟩; with_reducible refine hK _ ?_; clear hK K)
          (with_reducible refine wpQuiet_yes ?_ ?_; (focus (kernel_rfl)); intro K hK; go_simp; refine ⟨_, fun _ _ => rfl, ?_⟩; with_reducible refine hK _ ?_; clear hK K)
          (with_reducible refine wpQuiet_yes ?_ ?_; (focus (kernel_rfl)); intro K hK; go_simp; refine ⟨_, fun _ _ => rfl, ?_⟩; with_reducible refine hK _ ?_; clear hK K)
          (with_reducible refine wpQuiet_yes ?_ ?_; (focus (kernel_rfl)); intro K hK; go_simp; refine ⟨(.int .i64 x.t), ?_, ?_⟩; rotate_left; with_reducible refine hK _ ?_; clear hK K; rotate_left)
          · intro w' hw
            obtain ⟨c0, c1, c2, c3⟩ := HF.out w' hw
            simp only [c3, go_sem, Result.andThen, and_self]
          (with_reducible refine wpQuiet_yes ?_ ?_; (focus (kernel_rfl)); intro K hK; go_simp; refine ⟨_, fun _ _ => rfl, ?_⟩; with_reducible refine hK _ ?_; clear hK K)
          (with_reducible refine wpQuiet_yes ?_ ?_; (focus (kernel_rfl)); intro K hK; go_simp; refine ⟨(.int .i64 (p - 1)), ?_, ?_⟩; rotate_left; with_reducible refine hK _ ?_; clear hK K; rotate_left)
          · intro w' hw
            simp only [WP.out]
          (with_reducible refine wpQuiet_yes ?_ ?_; (focus (kernel_rfl)); intro K hK; go_simp; refine ⟨(.bool false), ?_, ?_⟩; rotate_left; with_reducible refine hK _ ?_; clear hK K; rotate_left)
          · intro w' hw
            exact (sIn_is false _ _ _ H2.out _).mono fun e w'' ⟨he, h⟩ => ⟨he, h ▸ hw⟩
          (with_reducible refine wpQuiet_yes ?_ ?_; (focus (kernel_rfl)); intro K hK; go_simp; refine ⟨_, fun _ _ => rfl, ?_⟩; with_reducible refine hK _ ?_; clear hK K)
          (with_reducible refine wpQuiet_yes ?_ ?_; (focus (kernel_rfl)); intro K hK; go_simp; refine ⟨_, fun _ _ => rfl, ?_⟩; with_reducible refine hK _ ?_; clear hK K)
          (with_reducible refine wpQuiet_yes ?_ ?_; (focus (kernel_rfl)); intro K hK; go_simp; refine ⟨_, fun _ _ => rfl, ?_⟩; with_reducible refine hK _ ?_; clear hK K)
          iterate 14 (with_reducible refine wpQuiet_no ?_ ?_; (focus (kernel_rfl)); intro K hK; go_simp; with_reducible refine hK _ ?_; clear hK K)
          (with_reducible refine wpQuiet_yes ?_ ?_; (focus (kernel_rfl)); intro K hK; go_simp; refine ⟨_, fun _ _ => rfl, ?_⟩; with_reducible refine hK _ ?_; clear hK K)
          refine wpQuiet_nil fun w2 hb2 => ?_
          have Hb2 := Lib.hid hb2
          clear hb2
          simp only [Exit.then]
          go_wp2_with fail
          go_ret
          exact ⟨ret_bool (validB_no hlt ((okAt_is Hx.out H1.out H2.out).trans (by simp))).symm, HbW.out.trans (Hb2.out.mono HbW.out.size)⟩
      · have H1 := Lib.hid h1
        clear h1
        refine wp_region_below (by kernel_rfl) (by kernel_rfl) ?_
        (with_reducible refine wpQuiet_yes ?_ ?_; (focus (kernel_rfl)); intro K hK; go_simp; refine ⟨_, fun _ _ => rfl, ?_⟩; with_reducible refine hK _ ?_; clear hK K)
        (with_reducible refine wpQuiet_yes ?_ ?_; (focus (kernel_rfl)); intro K hK; go_simp; refine ⟨(.agg #[.int .i64 x.a, .int .i64 x.b, .int .i64 x.c]), ?_, ?_⟩; rotate_left; with_reducible refine hK _ ?_; clear hK K; rotate_left)
        · intro w' hw
          obtain ⟨c0, c1, c2, c3⟩ := HF.out w' hw
          simp only [c0, c1, c2, go_sem, Result.andThen, and_self]
        (with_reducible refine wpQuiet_yes ?_ ?_; (focus (kernel_rfl)); intro K hK; go_simp; refine ⟨(.bool false), ?_, ?_⟩; rotate_left; with_reducible refine hK _ ?_; clear hK K; rotate_left)
        · intro w' hw
          exact (sPows_is false _ _ _ H1.out _).mono fun e w'' ⟨he, h⟩ => ⟨he, h ▸ Below.alloc hw hw.size _⟩
        (with_reducible refine wpQuiet_yes ?_ ?_; (focus (kernel_rfl)); intro K hK; go_simp; refine ⟨_, fun _ _ => rfl, ?_⟩; with_reducible refine hK _ ?_; clear hK K)
        (with_reducible refine wpQuiet_yes ?_ ?_; (focus (kernel_rfl)); intro K hK; go_simp; refine ⟨_, fun _ _ => rfl, ?_⟩; with_reducible refine hK _ ?_; clear hK K)
        iterate 6 (with_reducible refine wpQuiet_no ?_ ?_; (focus (kernel_rfl)); intro K hK; go_simp; with_reducible refine hK _ ?_; clear hK K)
        (with_reducible refine wpQuiet_yes ?_ ?_; (focus (kernel_rfl)); intro K hK; go_simp; refine ⟨_, fun _ _ => rfl, ?_⟩; with_reducible refine hK _ ?_; clear hK K)
        (with_reducible refine wpQuiet_yes ?_ ?_; (focus (kernel_rfl)); intro K hK; go_simp; refine ⟨_, fun _ _ => rfl, ?_⟩; with_reducible refine hK _ ?_; clear hK K)
        iterate 14 (with_reducible refine wpQuiet_no ?_ ?_; (focus (kernel_rfl)); intro K hK; go_simp; with_reducible refine hK _ ?_; clear hK K)
        (with_reducible refine wpQuiet_yes ?_ ?_; (focus (kernel_rfl)); intro K hK; go_simp; refine ⟨_, fun _ _ => rfl, ?_⟩; with_reducible refine hK _ ?_; clear hK K)
        refine wpQuiet_nil fun w2 hb2 => ?_
        have Hb2 := Lib.hid hb2
        clear hb2
        simp only [Exit.then]
        go_wp2_with fail
        go_ret
        exact ⟨ret_bool (validB_no hlt ((okAt_is Hx.out H1.out rfl).trans (by simp))).symm, HbW.out.trans (Hb2.out.mono HbW.out.size)⟩
    · have hkl : k = L.length := by omega
      go_wp2_with fail
      go_ret
      exact ⟨ret_bool (validB_all (hkl ▸ Hall.out)).symm, hb⟩
theorem sVal_nil (p : Int) (a : Option Addr) (cap : Nat) (w : World) :
    Calls Try.prog 114 #[.int .i64 p, .slice a 0 cap] w fun e w' => e = .returned (.bool true) ∧ w = w' := by
  go_enter Try.func114, Try.ntmps114
  go_wp2_with fail
  go_loop [9] (fun i => i = .int .i64 0) (fun _ => 0)
  case atStart => exact rfl
  case round =>
    subst hrel
    go_wp2_with fail
    go_ret
    exact ⟨ret_bool (by simp), rfl⟩
end Go.Proofs.Ytajabchbdhjdiaa
namespace Go.Proofs.Ytajabchbdhjdiaa
open Go.RowKit
set_option maxHeartbeats 4000000 in
theorem iGrt (a b c d e f : Int) (w : World) :
    Calls Try.prog 96 #[.agg #[.int .i64 a, .int .i64 b, .int .i64 c], .agg #[.int .i64 d, .int .i64 e, .int .i64 f]] w fun x w' => x = .returned (.bool (befB a b c d e f)) ∧ DrawnFrom ((w.alloc (Obj.cells #[.int .i64 a, .int .i64 b, .int .i64 c] 48)).alloc (Obj.cells #[.int .i64 d, .int .i64 e, .int .i64 f] 48)) w' := by
  cases h1 : (a != d)
  · cases h2 : (b != e)
    · cases h3 : (c != f)
      · have hF := Lib.hid (show befB a b c d e f = false by simp [befB, h1, h2, h3])
        go_enter Try.func96, Try.ntmps96
        go_wp2_with fail
        refine wp_loop_rounds 4 ?_
        iterate 3 (rw [rounds_succ]; go_wp2; go_quiet (fail); go_wp2)
        rw [rounds_succ]; go_wp2
        go_ret
        exact ⟨ret_bool hF.out.symm, by repeat (first | exact DrawnFrom.refl _ | apply DrawnFrom.more)⟩
      · have hF := Lib.hid (show befB a b c d e f = decide (f < c) by simp [befB, h1, h2, h3])
        go_enter Try.func96, Try.ntmps96
        go_wp2_with fail
        refine wp_loop_rounds 4 ?_
        iterate 3 (rw [rounds_succ]; go_wp2; go_quiet (fail); go_wp2)
        go_quiet (fail)
        go_wp2
        go_ret
        exact ⟨ret_bool hF.out.symm, by repeat (first | exact DrawnFrom.refl _ | apply DrawnFrom.more)⟩
    · have hF := Lib.hid (show befB a b c d e f = decide (e < b) by simp [befB, h1, h2])
      go_enter Try.func96, Try.ntmps96
      go_wp2_with fail
      refine wp_loop_rounds 4 ?_
      iterate 2 (rw [rounds_succ]; go_wp2; go_quiet (fail); go_wp2)
      go_quiet (fail)
      go_wp2
      go_ret
      exact ⟨ret_bool hF.out.symm, by repeat (first | exact DrawnFrom.refl _ | apply DrawnFrom.more)⟩
  · have hF := Lib.hid (show befB a b c d e f = decide (d < a) by simp [befB, h1])
    go_enter Try.func96, Try.ntmps96
    go_wp2_with fail
    refine wp_loop_rounds 4 ?_
    rw [rounds_succ]; go_wp2; go_quiet (fail); go_wp2
    go_quiet (fail)
    go_wp2
    go_ret
    exact ⟨ret_bool hF.out.symm, by repeat (first | exact DrawnFrom.refl _ | apply DrawnFrom.more)⟩
theorem iGrt_is (r : Bool) (a b c d e f : Int) (h : befB a b c d e f = r) (w : World) :
    Calls Try.prog 96 #[.agg #[.int .i64 a, .int .i64 b, .int .i64 c], .agg #[.int .i64 d, .int .i64 e, .int .i64 f]] w fun x w' => x = .returned (.bool r) ∧ DrawnFrom ((w.alloc (Obj.cells #[.int .i64 a, .int .i64 b, .int .i64 c] 48)).alloc (Obj.cells #[.int .i64 d, .int .i64 e, .int .i64 f] 48)) w' := by
  subst h; exact iGrt a b c d e f w
theorem powB_split {n : Int} : (powB n = true ∧ 0 ≤ n ∧ n ≤ 9) ∨ (powB n = false ∧ (n < 0 ∨ (0 ≤ n ∧ 9 < n))) := by
  unfold powB
  by_cases h0 : n < 0
  · right; refine ⟨by simp; omega, .inl h0⟩
  · by_cases h9 : 9 < n
    · right; refine ⟨by simp; omega, .inr ⟨by omega, h9⟩⟩
    · left; refine ⟨by simp; omega, by omega, by omega⟩
set_option maxHeartbeats 4000000 in
theorem iFit (a b c t : Int) (w : World) :
    Calls Try.prog 95 #[.agg #[.int .i64 a, .int .i64 b, .int .i64 c, .int .i64 t]] w fun x w' => x = .returned (.bool (powsB a b c)) ∧ Below w.heap.size w w' := by
  have k0 := idx0
  have k1 := idx1
  have k2 := idx2
  rcases @powB_split a with ⟨h0, a0, a9⟩ | ⟨h0, ha⟩
  · rcases @powB_split b with ⟨h1, b0, b9⟩ | ⟨h1, hb⟩
    · rcases @powB_split c with ⟨h2, c0, c9⟩ | ⟨h2, hc⟩
      · have hF := Lib.hid (show powsB a b c = true by simp [powsB, h0, h1, h2])
        clear h0 h1 h2
        go_enter Try.func95, Try.ntmps95
        go_wp2_with fail
        refine wp_loop_rounds 4 ?_
        iterate 4 (rw [rounds_succ]; go_wp2)
        go_ret
        exact ⟨ret_bool hF.out.symm, by repeat (first | exact Below.refl _ _ | (refine Below.alloc ?_ (by simp <;> omega) _))⟩
      · have hF := Lib.hid (show powsB a b c = false by simp [powsB, h2])
        clear h0 h1 h2
        rcases hc with hc | ⟨hc0, hc⟩
        all_goals
          go_enter Try.func95, Try.ntmps95
          go_wp2_with fail
          refine wp_loop_rounds 4 ?_
          iterate 3 (rw [rounds_succ]; go_wp2)
          go_ret
          exact ⟨ret_bool hF.out.symm, by repeat (first | exact Below.refl _ _ | (refine Below.alloc ?_ (by simp <;> omega) _))⟩
    · have hF := Lib.hid (show powsB a b c = false by simp [powsB, h1])
      clear h0 h1
      rcases hb with hb | ⟨hb0, hb⟩
      all_goals
        go_enter Try.func95, Try.ntmps95
        go_wp2_with fail
        refine wp_loop_rounds 4 ?_
        iterate 2 (rw [rounds_succ]; go_wp2)
        go_ret
        exact ⟨ret_bool hF.out.symm, by repeat (first | exact Below.refl _ _ | (refine Below.alloc ?_ (by simp <;> omega) _))⟩
  · have hF := Lib.hid (show powsB a b c = false by simp [powsB, h0])
    clear h0
    rcases ha with ha | ⟨ha0, ha⟩
    all_goals
      go_enter Try.func95, Try.ntmps95
      go_wp2_with fail
      refine wp_loop_rounds 4 ?_
      rw [rounds_succ]; go_wp2
      go_ret
      exact ⟨ret_bool hF.out.symm, by repeat (first | exact Below.refl _ _ | (refine Below.alloc ?_ (by simp <;> omega) _))⟩
theorem iFit_is (r : Bool) (a b c t : Int) (h : powsB a b c = r) (w : World) :
    Calls Try.prog 95 #[.agg #[.int .i64 a, .int .i64 b, .int .i64 c, .int .i64 t]] w fun x w' => x = .returned (.bool r) ∧ Below w.heap.size w w' := by
  subst h; exact iFit a b c t w
end Go.Proofs.Ytajabchbdhjdiaa
namespace Go.Proofs.Ytajabchbdhjdiaa
open Go.RowKit
set_option maxHeartbeats 2000000 in
theorem sPolyValid_no (p : Int) (hp : isP p = false) (f : Value) (w : World) :
    Calls Try.prog 63 #[.int .i64 p, f] w fun e w' => e = .returned (.bool false) ∧ w = w' := by
  have HP := Lib.hid hp
  clear hp
  go_enter Try.func63, Try.ntmps63
  go_wp2_with (go_at_call 113; refine (sPV_no _ _ HP.out).mono ?_; rintro e w' ⟨rfl, rfl⟩)
  go_ret
  exact ⟨rfl, rfl⟩
set_option maxHeartbeats 2000000 in
theorem sPolyValid_some (p : Int) (hp : isP p = true) (g off cap : Nat) (L : List Trm) (w : World) (hl : L.length ≤ 1048576) (hg : g < w.heap.size)
    (hc : ∀ j : Nat, j < L.length → TAt w g (off + j * 4) (L.getD j default)) :
    Calls Try.prog 63 #[.int .i64 p, .slice (some ⟨g, off, none⟩) L.length cap] w fun e w' => e = .returned (.bool (validB p L)) ∧ Below w.heap.size w w' := by
  have HP := Lib.hid hp
  have HV := Lib.hid (sVal_some p hp g off cap L w hl hg hc)
  clear hp hc
  go_enter Try.func63, Try.ntmps63
  go_wp2_with first
    | (go_at_call 113; refine (sPV_yes _ _ HP.out).mono ?_; rintro e w' ⟨rfl, rfl⟩)
    | (go_at_call 114; refine HV.out.mono ?_; rintro e w' ⟨rfl, hb⟩)
  go_ret
  exact ⟨rfl, hb⟩
theorem validB_nil (p : Int) : validB p [] = true := rfl
/-- the model's PolyValid, for any prime or none and any list of terms -/
theorem sPolyValid (p : Int) (v : Value) (L : List Trm) (w : World) (h : Trms w v L) :
    Calls Try.prog 63 #[.int .i64 p, v] w fun e w' => e = .returned (.bool (isP p && validB p L)) ∧ Below w.heap.size w w' := by
  cases hp : isP p
  · exact (sPolyValid_no p hp v w).mono fun e w' ⟨h1, h2⟩ => ⟨h1, h2 ▸ Below.refl _ _⟩
  · obtain ⟨hl, a, cap, rfl, h2⟩ := h
    rcases h2 with rfl | ⟨g, off, rfl, hg, hc⟩
    · have HP := Lib.hid hp
      clear hp
      go_enter Try.func63, Try.ntmps63
      go_wp2_with first
        | (go_at_call 113; refine (sPV_yes _ _ HP.out).mono ?_; rintro e w' ⟨rfl, rfl⟩)
        | (go_at_call 114; refine (sVal_nil _ _ _ _).mono ?_; rintro e w' ⟨rfl, rfl⟩)
      go_ret
      exact ⟨rfl, Below.refl _ _⟩
    · exact (sPolyValid_some p hp g off cap L w hl hg hc).mono fun e w' ⟨h1, h2⟩ => ⟨by rw [h1, Bool.true_and], h2⟩
end Go.Proofs.Ytajabchbdhjdiaa
namespace Go.Proofs.Ytajabchbdhjdiaa
open Go.RowKit
def degT (x : Trm) : Int := x.a + x.b + x.c
/-- the greatest degree of the first k terms; -1 of none -/
def degK (L : List Trm) : Nat → Int
  | 0 => -1
  | k + 1 => if degK L k < degT (L.getD k default) then degT (L.getD k default) else degK L k
theorem powB_bd {n : Int} (h : powB n = true) : 0 ≤ n ∧ n ≤ 9 := by simpa [powB] using h
theorem okAt_pows {p : Int} {L : List Trm} {k : Nat} (h : okAt p L k = true) : powsB (L.getD k default).a (L.getD k default).b (L.getD k default).c = true := by
  simp only [okAt, tokB, Bool.and_eq_true] at h; exact h.1.1
theorem validB_at {p : Int} {L : List Trm} (h : validB p L = true) {k : Nat} (hk : k < L.length) : okAt p L k = true := by
  simp only [validB, Bool.and_eq_true] at h; exact List.all_eq_true.1 h.1 k (List.mem_range.2 hk)
theorem validB_pows {p : Int} {L : List Trm} (h : validB p L = true) {k : Nat} (hk : k < L.length) {x : Trm} (hx : x = L.getD k default) : (0 ≤ x.a ∧ x.a ≤ 9) ∧ (0 ≤ x.b ∧ x.b ≤ 9) ∧ (0 ≤ x.c ∧ x.c ≤ 9) := by
  have h1 := okAt_pows (validB_at h hk)
  rw [← hx] at h1
  simp only [powsB, Bool.and_eq_true] at h1
  exact ⟨powB_bd h1.1.1, powB_bd h1.1.2, powB_bd h1.2⟩
theorem validB_len {p : Int} {L : List Trm} (h : validB p L = true) : L.length ≤ 60 := by
  simp only [validB, Bool.and_eq_true, decide_eq_true_eq] at h; exact h.2
/-- what the model's DegreeOf hands back, for any prime or none and any list of terms -/
def degV (p : Int) (L : List Trm) : Int := if isP p && validB p L then degK L L.length else -2
end Go.Proofs.Ytajabchbdhjdiaa
namespace Go.Proofs.Ytajabchbdhjdiaa
open Go.RowKit
theorem szP_at (a : Option Addr) (n cap : Nat) (m : Int) (w : World) (h0 : 0 ≤ m) (h1 : m ≤ 1048576) (h : (n : Int) ≤ m) :
    Calls Try.prog 17 #[.slice a n cap, .int .i64 m] w fun e w' => e = .returned (.int .i64 (m - (n : Int))) ∧ w = w' :=
  (szP a n cap m w h0 h1 (by omega)).mono fun e w' h => by rw [if_neg (by omega)] at h; exact h
theorem szP_over (a : Option Addr) (n cap : Nat) (m : Int) (w : World) (h0 : 0 ≤ m) (h1 : m ≤ 1048576) (h : m < (n : Int)) (h2 : (n : Int) ≤ 9223372036854775807) :
    Calls Try.prog 17 #[.slice a n cap, .int .i64 m] w fun e w' => e = .returned (.int .i64 (-1)) ∧ w = w' :=
  (szP a n cap m w h0 h1 h2).mono fun e w' h => by rw [if_pos (by omega)] at h; exact h
theorem szC_at (a : Option Addr) (n cap : Nat) (m : Int) (w : World) (h0 : 0 ≤ m) (h1 : m ≤ 1048576) (h : (n : Int) ≤ m) :
    Calls Try.prog 52 #[.slice a n cap, .int .i64 m] w fun e w' => e = .returned (.int .i64 (m - (n : Int))) ∧ w = w' :=
  (szC a n cap m w h0 h1 (by omega)).mono fun e w' h => by rw [if_neg (by omega)] at h; exact h
theorem szC_over (a : Option Addr) (n cap : Nat) (m : Int) (w : World) (h0 : 0 ≤ m) (h1 : m ≤ 1048576) (h : m < (n : Int)) (h2 : (n : Int) ≤ 9223372036854775807) :
    Calls Try.prog 52 #[.slice a n cap, .int .i64 m] w fun e w' => e = .returned (.int .i64 (-1)) ∧ w = w' :=
  (szC a n cap m w h0 h1 h2).mono fun e w' h => by rw [if_pos (by omega)] at h; exact h
theorem OwnTrms.betw' {B B' C : Nat} {w w' : World} {v : Value} {L : List Trm} (h : OwnTrms w B v L) (hC : C ≤ B) (hb : Betw B' C w w') : OwnTrms w' B v L := by
  obtain ⟨h1, a, cap, hv, h2⟩ := h
  refine ⟨h1, a, cap, hv, ?_⟩
  rcases h2 with h2 | ⟨g, off, ha, hB, hg, hc, hf⟩
  · exact .inl h2
  · have e := hb.block g (.inr (by omega))
    refine .inr ⟨g, off, ha, hB, by rw [hb.size]; exact hg, fun j hj => ?_, fun i hi => by rw [frozen_of_heap (p := ⟨g, off + i, none⟩) e]; exact hf i hi⟩
    obtain ⟨c0, c1, c2, c3⟩ := hc j hj
    exact ⟨by rw [cell_of_heap (p := ⟨g, off + j * 4, none⟩) e]; exact c0, by rw [cell_of_heap (p := ⟨g, off + j * 4 + 1, none⟩) e]; exact c1, by rw [cell_of_heap (p := ⟨g, off + j * 4 + 2, none⟩) e]; exact c2, by rw [cell_of_heap (p := ⟨g, off + j * 4 + 3, none⟩) e]; exact c3⟩
theorem OwnGats.betw' {B B' C : Nat} {w w' : World} {v : Value} {L : List Gt} (h : OwnGats w B v L) (hC : C ≤ B) (hb : Betw B' C w w') : OwnGats w' B v L := by
  obtain ⟨h1, a, cap, hv, h2⟩ := h
  refine ⟨h1, a, cap, hv, ?_⟩
  rcases h2 with h2 | ⟨g, off, ha, hB, hg, hc, hf⟩
  · exact .inl h2
  · have e := hb.block g (.inr (by omega))
    refine .inr ⟨g, off, ha, hB, by rw [hb.size]; exact hg, fun j hj => ?_, fun i hi => by rw [frozen_of_heap (p := ⟨g, off + i, none⟩) e]; exact hf i hi⟩
    obtain ⟨c0, c1, c2⟩ := hc j hj
    exact ⟨by rw [cell_of_heap (p := ⟨g, off + j * 3, none⟩) e]; exact c0, by rw [cell_of_heap (p := ⟨g, off + j * 3 + 1, none⟩) e]; exact c1, by rw [cell_of_heap (p := ⟨g, off + j * 3 + 2, none⟩) e]; exact c2⟩
theorem OwnInts.betw' {B B' C : Nat} {w w' : World} {v : Value} {L : List Int} (h : OwnInts w B v L) (hC : C ≤ B) (hb : Betw B' C w w') : OwnInts w' B v L := by
  obtain ⟨h1, a, cap, hv, h2⟩ := h
  refine ⟨h1, a, cap, hv, ?_⟩
  rcases h2 with h2 | ⟨g, off, ha, hB, hg, hc, hf⟩
  · exact .inl h2
  · have e := hb.block g (.inr (by omega))
    exact .inr ⟨g, off, ha, hB, by rw [hb.size]; exact hg, fun j hj => by rw [cell_of_heap (p := ⟨g, off + j, none⟩) e]; exact hc j hj, fun i hi => by rw [frozen_of_heap (p := ⟨g, off + i, none⟩) e]; exact hf i hi⟩
/-- an argument of a law is marked: what was made behind it stays -/
theorem markTsame (v : Value) (L : List Trm) (B : Nat) (k : Int) (w3 w : World) (h : OwnTrms w3 B v L) (hw : Same B w3 w) (hk0 : 0 ≤ k) (hk1 : k ≤ 1000000000000) :
    Calls Try.prog 23 #[v, .int .i64 k] w fun e w' => e = .returned (.int .i64 (k + 4 * (L.length : Int))) ∧ Betw B w3.heap.size w w' := by
  obtain ⟨h1, a, cap, rfl, h2⟩ := h
  rcases h2 with rfl | ⟨g, off, rfl, hB, hg, hc, hf⟩
  · refine (markTnil a cap k w).mono ?_
    rintro e w' ⟨rfl, rfl⟩
    exact ⟨by simp, rfl, rfl, rfl, rfl, fun _ _ => rfl⟩
  · have e := hw g hB hg
    refine (markT g off L.length cap k w h1 hk0 hk1 (fun i hi => ?_) (fun i hi => by rw [frozen_of_heap (p := ⟨g, off + i, none⟩) e]; exact hf i hi)).mono ?_
    · obtain ⟨t0, t1, t2, t3⟩ := hc (i / 4) (by omega)
      have ce : ∀ o, w.cell? ⟨g, o, none⟩ = w3.cell? ⟨g, o, none⟩ := fun o => cell_of_heap (p := ⟨g, o, none⟩) e
      have : i = i / 4 * 4 ∨ i = i / 4 * 4 + 1 ∨ i = i / 4 * 4 + 2 ∨ i = i / 4 * 4 + 3 := by omega
      rcases this with e | e | e | e
      · rw [e, ce]; exact ⟨_, t0⟩
      · rw [e, ← Nat.add_assoc, ce]; exact ⟨_, t1⟩
      · rw [e, ← Nat.add_assoc, ce]; exact ⟨_, t2⟩
      · rw [e, ← Nat.add_assoc, ce]; exact ⟨_, t3⟩
    · rintro e w' ⟨rfl, hM⟩
      exact ⟨rfl, hM.os, hM.tape, hM.output, hM.size, fun b hb => hM.far b (by omega)⟩
/-- two slices that read as one list of integers are found equal -/
theorem eqIS (v1 v2 : Value) (L : List Int) (w : World) (h1 : Ints w v1 L) (h2 : Ints w v2 L) :
    Calls Try.prog 21 #[v1, v2] w fun e w' => e = .returned (.bool true) ∧ Below w.heap.size w w' :=
  (eqInts v1 v2 L L w h1 h2).mono fun e w' ⟨he, hd⟩ => ⟨by rw [he]; simp, hd.below _⟩
theorem markIown (v : Value) (L : List Int) (B : Nat) (k : Int) (w : World) (h : OwnInts w B v L) (hk0 : 0 ≤ k) (hk1 : k ≤ 1000000000000) :
    Calls Try.prog 24 #[v, .int .i64 k] w fun e w' => e = .returned (.int .i64 (k + (L.length : Nat))) ∧ HeldBy w' B v L.length k ∧ Below B w w' ∧ w'.heap.size = w.heap.size :=
  markOwn v L B k w h hk0 (by omega)
theorem heldIown (v : Value) (n : Nat) (B : Nat) (k : Int) (w : World) (h : HeldBy w B v n k) (hk0 : 0 ≤ k) (hk1 : k ≤ 1000000000000) :
    Calls Try.prog 25 #[v, .int .i64 k] w fun e w' => e = .returned (.int .i64 (k + (n : Nat))) ∧ w = w' :=
  heldOwn v n B k w h hk0 (by omega)
theorem bne_self2 (b : Bool) : (b != b) = false := by cases b <;> rfl
end Go.Proofs.Ytajabchbdhjdiaa
namespace Go.Proofs.Ytajabchbdhjdiaa
open Go.RowKit
/-- whether a number is that of a point -/
def ptB (p n : Int) : Bool := isP p && (decide (0 ≤ n) && decide (n < p * p * p))
theorem pp_bd {p : Int} (h : isP p = true) : 4 ≤ p * p ∧ p * p ≤ 169 ∧ 8 ≤ p * p * p ∧ p * p * p ≤ 2197 := by
  rcases isP_cases h with rfl | rfl | rfl | rfl | rfl | rfl <;> decide
/-- the quotients and rests that a point is made of -/
structure PtQ (p n q x y z : Int) : Prop where
  q0 : n.tdiv p = q
  q1 : n / p = q
  x0 : q.tdiv p = x
  x1 : q / p = x
  x2 : n.tdiv (p * p) = x
  x3 : n / (p * p) = x
  y0 : q.tmod p = y
  y1 : q % p = y
  z0 : n.tmod p = z
  z1 : n % p = z
  bq : 0 ≤ q ∧ q ≤ n
  bx : 0 ≤ x ∧ x ≤ n
  bn : 0 ≤ n ∧ n ≤ 2196
theorem ptQ {p n : Int} (hp : isP p = true) (h0 : 0 ≤ n) (h1 : n < p * p * p) : PtQ p n (n / p) (n / p / p) (n / p % p) (n % p) := by
  have hb := isP_bd hp
  have hpp := pp_bd hp
  have hq : 0 ≤ n / p := Int.ediv_nonneg h0 (by omega)
  have hq2 : n / p ≤ n := Int.ediv_le_self _ h0
  have hx : 0 ≤ n / p / p := Int.ediv_nonneg hq (by omega)
  have hx2 : n / p / p ≤ n / p := Int.ediv_le_self _ hq
  have e : n / (p * p) = n / p / p := by rw [Int.ediv_ediv, if_neg (by omega)]; omega
  exact ⟨Int.tdiv_eq_ediv_of_nonneg h0, rfl, Int.tdiv_eq_ediv_of_nonneg hq, rfl, by rw [Int.tdiv_eq_ediv_of_nonneg h0, e], e, Int.tmod_eq_emod_of_nonneg hq, rfl, Int.tmod_eq_emod_of_nonneg h0, rfl, ⟨hq, hq2⟩, ⟨hx, by omega⟩, ⟨h0, by omega⟩⟩
def pt3 (x y z : Int) : Value := .agg #[.int .i64 x, .int .i64 y, .int .i64 z]
def ptX (p n : Int) : Int := if ptB p n = true then n / p / p else 0
def ptY (p n : Int) : Int := if ptB p n = true then n / p % p else 0
def ptZ (p n : Int) : Int := if ptB p n = true then n % p else 0
set_option maxHeartbeats 1000000 in
theorem sPoints (p : Int) (hp : isP p = true) (w : World) :
    Calls Try.prog 70 #[.int .i64 p] w fun e w' => e = .returned (.int .i64 (p * p * p)) ∧ w = w' := by
  have hpp := pp_bd hp
  obtain ⟨a, ha⟩ : ∃ a, a = p * p := ⟨_, rfl⟩
  obtain ⟨b, hb⟩ : ∃ b, b = p * p * p := ⟨_, rfl⟩
  have e1 : IntKind.i64.wrap (p * p) = a := by rw [ha]; exact IntWalk.i64_in _ (by omega)
  have e2 : IntKind.i64.wrap (a * p) = b := by rw [ha, hb]; exact IntWalk.i64_in _ (by omega)
  rw [← hb]
  clear ha hb hpp
  go_enter Try.func70, Try.ntmps70
  go_wp2
  go_ret
  exact ⟨rfl, rfl⟩
set_option maxHeartbeats 4000000 in
theorem sPoint (p n q x y z : Int) (hp : isP p = true) (h : PtQ p n q x y z) (w : World) :
    Calls Try.prog 75 #[.int .i64 p, .int .i64 n] w fun e w' => e = .returned (.agg #[.int .i64 x, .int .i64 y, .int .i64 z]) ∧ Below w.heap.size w w' := by
  obtain ⟨q0, q1, x0, x1, x2, x3, y0, y1, z0, z1, bq, bx, bn⟩ := h
  have hb := isP_bd hp
  have hpb : (p == 0) = false := by simp; omega
  have e1 : IntKind.i64.wrap q = q := IntWalk.i64_in _ (by omega)
  have e2 : IntKind.i64.wrap x = x := IntWalk.i64_in _ (by omega)
  have hp0 : p ≠ 0 := by omega
  clear hb bq bx bn hp
  go_enter Try.func75, Try.ntmps75
  go_wp2_with fail
  obtain ⟨W, hW⟩ : ∃ W, W = w.alloc (Obj.cells #[.int .i64 0, .int .i64 0, .int .i64 0] 48) := ⟨_, rfl⟩
  have c0 : W.cell? ⟨w.heap.size, 0, none⟩ = some (.int .i64 0) := by rw [hW]; simp [go_sem]
  have c1 : W.cell? ⟨w.heap.size, 1, none⟩ = some (.int .i64 0) := by rw [hW]; simp [go_sem]
  have c2 : W.cell? ⟨w.heap.size, 2, none⟩ = some (.int .i64 0) := by rw [hW]; simp [go_sem]
  have f0 : ∀ i, W.frozen? ⟨w.heap.size, i, none⟩ = false := fun i => by rw [hW]; exact World.frozen?_alloc_at _ _ _ i rfl
  have g0 := f0 0
  have g1 := f0 1
  have g2 := f0 2
  have HB := Lib.hid (show Below w.heap.size w W by rw [hW]; exact Below.alloc (Below.refl _ _) (Nat.le_refl _) _)
  rw [← hW]
  clear hW f0
  refine wp_region_quiet_last (C := fun w' => ∃ n, w' = W.drewN n) (by kernel_rfl) (by kernel_rfl) ⟨1, rfl⟩ ?_
  repeat (refine wpQL_step (fun K hK => ?_); go_simp; refine hK _ ?_; clear hK K)
  refine wpQL_one ?_
  rintro _ ⟨n0, rfl⟩
  go_wp2_with fail
  refine bodyPost_ret (v := .agg #[.int .i64 x, .int .i64 y, .int .i64 z]) (by simp [results, Try.results75, go_sem, c0, c1, c2]) rfl ⟨rfl, ?_⟩
  repeat (first | exact HB.out | apply Below.drew | apply below_drewN | (refine Below.setCell ?_ (by simp <;> omega) _))
set_option maxHeartbeats 4000000 in
theorem iPointAt_yes (p n q x y z : Int) (hp : isP p = true) (h1 : n < p * p * p) (h : PtQ p n q x y z) (w : World) :
    Calls Try.prog 45 #[.int .i64 p, .int .i64 n] w fun e w' => e = .returned (.tuple #[.agg #[.int .i64 x, .int .i64 y, .int .i64 z], .bool true]) ∧ Below w.heap.size w w' := by
  have hpp := pp_bd hp
  obtain ⟨a, ha⟩ : ∃ a, a = p * p := ⟨_, rfl⟩
  obtain ⟨b, hb2⟩ : ∃ b, b = p * p * p := ⟨_, rfl⟩
  have f1 : IntKind.i64.wrap (p * p) = a := by rw [ha]; exact IntWalk.i64_in _ (by omega)
  have f2 : IntKind.i64.wrap (a * p) = b := by rw [ha, hb2]; exact IntWalk.i64_in _ (by omega)
  obtain ⟨q0, q1, x0, x1, x2, x3, y0, y1, z0, z1, bq, bx, bn⟩ := h
  rw [← ha] at x2 x3
  rw [← hb2] at h1
  have hb := isP_bd hp
  have hpb : (p == 0) = false := by simp; omega
  have hab : (a == 0) = false := by simp; omega
  have e1 : IntKind.i64.wrap q = q := IntWalk.i64_in _ (by omega)
  have e2 : IntKind.i64.wrap x = x := IntWalk.i64_in _ (by omega)
  have hp0 : p ≠ 0 := by omega
  have ha0 : a ≠ 0 := by omega
  have hn0 : 0 ≤ n := bn.1
  have HP := Lib.hid hp
  clear hb bq bx bn hp ha hb2 hpp
  go_enter Try.func45, Try.ntmps45
  go_wp2_with (go_at_call 90; refine (iPV_yes p _ HP.out).mono ?_; rintro e w' ⟨rfl, rfl⟩)
  obtain ⟨W, hW⟩ : ∃ W, W = w.alloc (Obj.cells #[.int .i64 0, .int .i64 0, .int .i64 0] 48) := ⟨_, rfl⟩
  have c0 : W.cell? ⟨w.heap.size, 0, none⟩ = some (.int .i64 0) := by rw [hW]; simp [go_sem]
  have c1 : W.cell? ⟨w.heap.size, 1, none⟩ = some (.int .i64 0) := by rw [hW]; simp [go_sem]
  have c2 : W.cell? ⟨w.heap.size, 2, none⟩ = some (.int .i64 0) := by rw [hW]; simp [go_sem]
  have f0 : ∀ i, W.frozen? ⟨w.heap.size, i, none⟩ = false := fun i => by rw [hW]; exact World.frozen?_alloc_at _ _ _ i rfl
  have g0 := f0 0
  have g1 := f0 1
  have g2 := f0 2
  have HB := Lib.hid (show Below w.heap.size w W by rw [hW]; exact Below.alloc (Below.refl _ _) (Nat.le_refl _) _)
  rw [← hW]
  clear hW f0
  refine wp_region_seq [(0, true), (1, true), (2, true), (3, true), (4, true), (5, true), (6, true), (7, true), (8, true), (9, true), (10, true), (11, true), (12, true), (13, true), (14, false)] (fun _ => True) (by kernel_rfl) (by kernel_rfl) rfl (by intro c a d v w h; cases d <;> exact h) trivial ?_
  iterate 14 (refine wpSeq_take (v := ?_) (List.getElem?_toArray.trans rfl) ?_ ?_; rotate_left; (intro w' hSw; (try dsimp only at hSw); go_simp; (try with_reducible rfl)); (try simp only [Act.put, List.setIfInBounds_toArray, List.set_cons_zero, List.set_cons_succ]))
  refine wpSeq_do (List.getElem?_toArray.trans rfl) (fun K hK => ?_)
  go_simp
  refine hK _ _ trivial ?_
  clear hK K
  refine wpSeq_nil ?_
  simp only [Exit.then]
  go_wp2
  refine bodyPost_ret (v := .tuple #[.agg #[.int .i64 x, .int .i64 y, .int .i64 z], .bool true]) (by simp [results, Try.results45, go_sem, c0, c1, c2]) rfl ⟨rfl, ?_⟩
  repeat (first | exact HB.out | apply Below.drew | apply below_drewN | (refine Below.setCell ?_ (by simp <;> omega) _))
set_option maxHeartbeats 4000000 in
theorem iPointAt_no (p n : Int) (h : ptB p n = false) (w : World) :
    Calls Try.prog 45 #[.int .i64 p, .int .i64 n] w fun e w' => e = .returned (.tuple #[.agg #[.int .i64 0, .int .i64 0, .int .i64 0], .bool false]) ∧ Below w.heap.size w w' := by
  cases hp : isP p
  · have HP := Lib.hid hp
    clear hp h
    go_enter Try.func45, Try.ntmps45
    go_wp2_with (go_at_call 90; refine (iPV_no p _ HP.out).mono ?_; rintro e w' ⟨rfl, rfl⟩)
    refine bodyPost_ret (v := .tuple #[.agg #[.int .i64 0, .int .i64 0, .int .i64 0], .bool false]) (by simp [results, Try.results45, go_sem]) rfl ⟨rfl, ?_⟩
    repeat (first | exact Below.refl _ _ | (refine Below.setCell ?_ (by simp <;> omega) _) | (refine Below.alloc ?_ (by simp <;> omega) _))
  · have hpp := pp_bd hp
    obtain ⟨a, ha⟩ : ∃ a, a = p * p := ⟨_, rfl⟩
    obtain ⟨b, hb2⟩ : ∃ b, b = p * p * p := ⟨_, rfl⟩
    have f1 : IntKind.i64.wrap (p * p) = a := by rw [ha]; exact IntWalk.i64_in _ (by omega)
    have f2 : IntKind.i64.wrap (a * p) = b := by rw [ha, hb2]; exact IntWalk.i64_in _ (by omega)
    have hd : n < 0 ∨ (0 ≤ n ∧ b ≤ n) := by
      rw [hb2]
      have := h
      simp only [ptB, hp, Bool.true_and, Bool.and_eq_false_iff, decide_eq_false_iff_not] at this
      omega
    have HP := Lib.hid hp
    clear hp ha hb2 hpp h
    rcases hd with h0 | ⟨h0, h1⟩
    · go_enter Try.func45, Try.ntmps45
      go_wp2_with (go_at_call 90; refine (iPV_yes p _ HP.out).mono ?_; rintro e w' ⟨rfl, rfl⟩)
      refine bodyPost_ret (v := .tuple #[.agg #[.int .i64 0, .int .i64 0, .int .i64 0], .bool false]) (by simp [results, Try.results45, go_sem]) rfl ⟨rfl, ?_⟩
      repeat (first | exact Below.refl _ _ | (refine Below.setCell ?_ (by simp <;> omega) _) | (refine Below.alloc ?_ (by simp <;> omega) _))
    · go_enter Try.func45, Try.ntmps45
      go_wp2_with (go_at_call 90; refine (iPV_yes p _ HP.out).mono ?_; rintro e w' ⟨rfl, rfl⟩)
      refine bodyPost_ret (v := .tuple #[.agg #[.int .i64 0, .int .i64 0, .int .i64 0], .bool false]) (by simp [results, Try.results45, go_sem]) rfl ⟨rfl, ?_⟩
      repeat (first | exact Below.refl _ _ | (refine Below.setCell ?_ (by simp <;> omega) _) | (refine Below.alloc ?_ (by simp <;> omega) _))
theorem ptB_yes {p n : Int} (h : ptB p n = true) : isP p = true ∧ 0 ≤ n ∧ n < p * p * p := by
  simp only [ptB, Bool.and_eq_true, decide_eq_true_eq] at h; exact ⟨h.1, h.2.1, h.2.2⟩
theorem iPointAt (p n : Int) (w : World) :
    Calls Try.prog 45 #[.int .i64 p, .int .i64 n] w fun e w' => e = .returned (.tuple #[.agg #[.int .i64 (ptX p n), .int .i64 (ptY p n), .int .i64 (ptZ p n)], .bool (ptB p n)]) ∧ Below w.heap.size w w' := by
  cases h : ptB p n
  · simp only [ptX, ptY, ptZ, h]
    exact iPointAt_no p n h w
  · obtain ⟨h1, h2, h3⟩ := ptB_yes h
    simp only [ptX, ptY, ptZ, h]
    exact iPointAt_yes p n _ _ _ _ h1 h3 (ptQ h1 h2 h3) w
set_option maxHeartbeats 4000000 in
theorem sPointAt (p n : Int) (w : World) :
    Calls Try.prog 77 #[.int .i64 p, .int .i64 n] w fun e w' => e = .returned (.tuple #[.agg #[.int .i64 (ptX p n), .int .i64 (ptY p n), .int .i64 (ptZ p n)], .bool (ptB p n)]) ∧ Below w.heap.size w w' := by
  cases hp : isP p
  · have hB : ptB p n = false := by simp [ptB, hp]
    simp only [ptX, ptY, ptZ, hB]
    have HP := Lib.hid hp
    clear hp hB
    go_enter Try.func77, Try.ntmps77
    go_wp2_with (go_at_call 113; refine (sPV_no p _ HP.out).mono ?_; rintro e w' ⟨rfl, rfl⟩)
    refine bodyPost_ret (v := .tuple #[.agg #[.int .i64 0, .int .i64 0, .int .i64 0], .bool false]) (by simp [results, Try.results77, go_sem]) rfl ⟨rfl, ?_⟩
    repeat (first | exact Below.refl _ _ | (refine Below.setCell ?_ (by simp <;> omega) _) | (refine Below.alloc ?_ (by simp <;> omega) _))
  · have hpp := pp_bd hp
    obtain ⟨b, hb2⟩ : ∃ b, b = p * p * p := ⟨_, rfl⟩
    have f2 : IntKind.i64.wrap (b - 1) = b - 1 := IntWalk.i64_in _ (by omega)
    have HI := Lib.hid (show (decide ((0 : Int) ≤ n) && decide (n ≤ b - 1)) = ptB p n by
      rw [hb2]
      simp only [ptB, hp, Bool.true_and]
      congr 1
      simp only [decide_eq_decide]
      omega)
    have HPs := Lib.hid (fun w => sPoints p hp w)
    rw [← hb2] at HPs
    have HP := Lib.hid hp
    cases hB : ptB p n
    · simp only [ptX, ptY, ptZ, hB]
      rw [hB] at HI
      clear hp hb2 hpp hB
      go_enter Try.func77, Try.ntmps77
      go_wp2_with (first
        | (go_at_call 113; refine (sPV_yes p _ HP.out).mono ?_; rintro e w' ⟨rfl, rfl⟩)
        | (go_at_call 70; refine (HPs.out _).mono ?_; rintro e w' ⟨rfl, rfl⟩)
        | (go_at_call 118; refine ((HI.out ▸ sIn _ _ _ _)).mono ?_; rintro e w' ⟨rfl, rfl⟩))
      refine bodyPost_ret (v := .tuple #[.agg #[.int .i64 0, .int .i64 0, .int .i64 0], .bool false]) (by simp [results, Try.results77, go_sem]) rfl ⟨rfl, ?_⟩
      repeat (first | exact Below.refl _ _ | (refine Below.setCell ?_ (by simp <;> omega) _) | (refine Below.alloc ?_ (by simp <;> omega) _))
    · obtain ⟨h1, h2, h3⟩ := ptB_yes hB
      have HQ := Lib.hid (ptQ h1 h2 h3)
      simp only [ptX, ptY, ptZ, hB]
      rw [hB] at HI
      clear hp hb2 hpp hB h1 h2 h3
      go_enter Try.func77, Try.ntmps77
      go_wp2_with (first
        | (go_at_call 113; refine (sPV_yes p _ HP.out).mono ?_; rintro e w' ⟨rfl, rfl⟩)
        | (go_at_call 70; refine (HPs.out _).mono ?_; rintro e w' ⟨rfl, rfl⟩)
        | (go_at_call 118; refine ((HI.out ▸ sIn _ _ _ _)).mono ?_; rintro e w' ⟨rfl, rfl⟩))
      refine (sPoint p n _ _ _ _ HP.out HQ.out _).mono ?_
      rintro e w2 ⟨rfl, hb⟩
      have hb' : Below w.heap.size w w2 := (Below.alloc (Below.refl _ _) (Nat.le_refl _) _).trans (hb.mono (by simp))
      have c0 : w2.cell? ⟨w.heap.size, 0, none⟩ = some (.int .i64 0) := by rw [hb.cell (p := ⟨w.heap.size, 0, none⟩) (by simp)]; simp [go_sem]
      have c1 : w2.cell? ⟨w.heap.size, 1, none⟩ = some (.int .i64 0) := by rw [hb.cell (p := ⟨w.heap.size, 1, none⟩) (by simp)]; simp [go_sem]
      have c2 : w2.cell? ⟨w.heap.size, 2, none⟩ = some (.int .i64 0) := by rw [hb.cell (p := ⟨w.heap.size, 2, none⟩) (by simp)]; simp [go_sem]
      have f0 : ∀ i, w2.frozen? ⟨w.heap.size, i, none⟩ = false := fun i => by rw [hb.frozen (p := ⟨w.heap.size, i, none⟩) (by simp)]; exact World.frozen?_alloc_at _ _ _ i rfl
      have g0 := f0 0
      have g1 := f0 1
      have g2 := f0 2
      have HB := Lib.hid hb'
      clear hb hb' f0
      go_wp2_with fail
      refine bodyPost_ret (v := .tuple #[.agg #[.int .i64 (n / p / p), .int .i64 (n / p % p), .int .i64 (n % p)], .bool true]) (by simp [results, Try.results77, go_sem, c0, c1, c2]) rfl ⟨rfl, ?_⟩
      repeat (first | exact HB.out | (refine Below.setCell ?_ (by simp <;> omega) _))
end Go.Proofs.Ytajabchbdhjdiaa
