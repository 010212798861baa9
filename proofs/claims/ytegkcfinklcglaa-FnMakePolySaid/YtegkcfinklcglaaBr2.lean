/-
  Contracts of the model's draws of polynomials, on: a list of any terms. Conditions: the bytes can be read.
  The walk of the law of MakePoly. Conditions: none but that the bytes can be read.
-/
import Derived.Test.YtegkcfinklcglaaBp23
import Derived.Test.YtegkcfinklcglaaBp25
import Derived.Test.YtegkcfinklcglaaBr1
import Derived.Test.YtegkcfinklcglaaBp11
namespace Go.Proofs.Ytegkcfinklcglaa
open Go.RowKit
section
variable {w0 wr : World} {R : Nat} {a : Option Addr} {len cap q : Nat} {v : Value} {M : List Trm}
/-- one term appended -/
theorem QSt.app1t (t : TypeId) (ht : Try.prog.underlying t = some (.slice 32)) (h : QSt w0 R a len cap q v M wr) (x : Trm) (hM : M.length ≤ 4000) (ty : TypeId) :
    ∃ v' w', (Builtin.append_ #[t, t] ty #[v, .slice (some ⟨wr.heap.size, 0, none⟩) 1 1]).run Try.prog (wr.alloc (Obj.cells #[.int .i64 x.a, .int .i64 x.b, .int .i64 x.c, .int .i64 x.t] 32)) = .ok v' w' ∧ QSt w0 R a len cap q v' (M ++ [x]) w' := by
  obtain ⟨i0, hi, hz0, hz1, hz2⟩ := info_parts infoT
  have h1 := h.on (w' := wr.alloc (Obj.cells #[.int .i64 x.a, .int .i64 x.b, .int .i64 x.c, .int .i64 x.t] 32)) (Below.alloc (Below.refl _ _) (Nat.le_refl _) _)
  obtain ⟨t0, t1, t2, t3⟩ := (TmA.new wr x).t
  obtain ⟨v', w', hr, hown, hgrow, _, _⟩ := run_append_own_at (P := Try.prog) (wr.alloc (Obj.cells #[.int .i64 x.a, .int .i64 x.b, .int .i64 x.c, .int .i64 x.t] 32)) w0.heap.size t ty 32 i0 (.agg #[.int .i64 0, .int .i64 0, .int .i64 0, .int .i64 0]) 4 32 ht hi hz0 hz1 hz2 rfl (by decide) v M.length (flat M) h1.row ⟨wr.heap.size, 0, none⟩ 1 1 x.cs rfl
    (fun j u hu => by
      match j, hu with
      | 0, hu => simp [Trm.cs] at hu; subst hu; exact t0
      | 1, hu => simp [Trm.cs] at hu; subst hu; exact t1
      | 2, hu => simp [Trm.cs] at hu; subst hu; exact t2
      | 3, hu => simp [Trm.cs] at hu; subst hu; exact t3
      | j + 4, hu => simp [Trm.cs] at hu)
    (fun u hu => flat_cell [x] u (by simpa [flat] using hu)) (by unfold maxLen; omega) (by omega) h1.size
  refine ⟨v', w', hr, h1.low (h1.row.low h1.size hgrow) ?_⟩
  unfold Row
  rw [flat_app, flat_one]
  simpa using hown
theorem QSt.sn (h : QSt w0 R a len cap q v M wr) (X o : Nat) (u : Value) (hv : v.ownBlock ≠ some X) (hX : w0.heap.size ≤ X) : QSt w0 R a len cap q v M (wr.setCell ⟨X, o, none⟩ u) := by
  have hk : ∀ k, k < w0.heap.size → (wr.setCell ⟨X, o, none⟩ u).heap[k]? = wr.heap[k]? := fun k hk => Below.heap_setCell _ _ _ _ (show k ≠ X by omega)
  refine ⟨rd_far h.rd (by simp) hk h.RB h.la, World.ownsRow.kept (row := some X) h.row ⟨rfl, rfl, rfl, by simp, fun k hk hne => Below.heap_setCell _ _ _ _ (fun e => hne (by rw [e]))⟩ (.inr hv), h.RB, h.la, ⟨h.gr.os, h.gr.tape, h.gr.output, by simpa using h.gr.size, fun k hk' hne => ?_⟩⟩
  rw [hk k hk']; exact h.gr.block k hk' hne
theorem QSt.new (h : QSt w0 R a len cap q v M wr) {X : Nat} (hX : wr.heap.size ≤ X) : v.ownBlock ≠ some X := fun e => by
  have := (World.ownsRow.lt h.row X e).2
  omega
end
/-- a number and some terms -/
def DrawTL (w : World) (e : Ending) (w' : World) : Prop :=
  ∃ (p : Int) (v : Value) (L : List Trm), e = .returned (.tuple #[.int .i64 p, v]) ∧ L.length ≤ 10 ∧ Row w' w.heap.size v L ∧ Below w.heap.size w w'
set_option maxRecDepth 100000 in
set_option maxHeartbeats 16000000 in
theorem drawMakePoly (a : Option Addr) (len cap : Nat) (w : World) (h : ByteRow w a len cap) :
    Calls Try.prog 17 #[.slice a len cap] w (DrawTL w) := by
  go_enter Try.func17, Try.ntmps17
  go_wp2_with fail
  refine (open_any a len cap w h).mono ?_
  rintro e w1 ⟨a1, l1, c1, rfl, hR1, hb1⟩
  have HB1 := Lib.hid hb1
  clear h hb1
  go_wp2_with fail
  refine (some_any w.heap.size a1 l1 c1 0 w1 hR1 (by omega)).mono ?_
  rintro e w2 ⟨p, q1, rfl, p0, p1, hq1, hR2, hg2⟩
  have HS2 := Lib.hid (show QSt w1 w.heap.size a1 l1 c1 q1 (.slice (some ⟨w2.heap.size, 0, none⟩) 0 0) [] (w2.alloc (.cells #[] 32)) from
    ⟨hR2.alloc _, Row.lit0 w2 w1.heap.size hg2.size, hR1.sz, rd_la hR1, grown_trans hg2 (grown_alloc _ _ _)⟩)
  have hRs := hR1.sz
  clear hR1 hR2 hg2
  go_wp2_with fail
  refine (pick_any w.heap.size a1 l1 c1 q1 6 _ HS2.out.rd (by omega)).mono ?_
  rintro e w3 ⟨n, rfl, n0, n1, hR3, hg3, hsz⟩
  clear hsz
  have HS3 := Lib.hid (HS2.out.pk hR3 hg3)
  obtain ⟨n, rfl⟩ := Int.eq_ofNat_of_zero_le n0
  have hn5 : n ≤ 5 := by omega
  clear n0 n1 hR3 hg3 HS2
  go_wp2_with fail
  go_loopw [6, 16] (fun u i wr => ∃ (k q' : Nat) (M : List Trm), k ≤ n ∧ i = .int .i64 k ∧ M.length ≤ k ∧ q' ≤ q1 + 1 + 10 * k ∧ QSt w1 w.heap.size a1 l1 c1 q' u M wr) (fun _ i _ => n - (intOf i).toNat)
  case atStart => exact ⟨0, q1 + 1, [], by omega, rfl, by simp, by omega, HS3.out⟩
  case round =>
    clear HS3
    obtain ⟨k, q', M, hk, rfl, hM, hq', hS⟩ := hrel
    by_cases hlt : k < n
    · have hltp : (k : Int) < (n : Int) := by omega
      have hk0 : (0 : Int) ≤ (k : Int) := by omega
      have HS := Lib.hid hS
      clear hS
      go_wp2_with fail
      refine (pick_any w.heap.size a1 l1 c1 q' 9 wr HS.out.rd (by omega)).mono ?_
      rintro e w4 ⟨z1, rfl, _, _, hR4, hg4, hsz⟩
      clear hsz
      have HS4 := Lib.hid (HS.out.pk hR4 hg4)
      clear hR4 hg4 HS
      go_wp2_with fail
      refine (pick_any w.heap.size a1 l1 c1 (q' + 1) 9 w4 HS4.out.rd (by omega)).mono ?_
      rintro e w5 ⟨z2, rfl, hz20, hz21, hR5, hg5, hsz⟩
      clear hsz
      have HS5 := Lib.hid (HS4.out.pk hR5 hg5)
      have wn : IntKind.i64.wrap (-z2) = -z2 := IntWalk.i64_in _ (by omega)
      clear hR5 hg5 HS4
      go_wp2_with fail
      refine (num_new w.heap.size a1 l1 c1 (q' + 1 + 1) [z1, -z2, 9223372036854775807, -9223372036854775808, 1] 5 rfl _ w5 HS5.out.rd (by omega) (by simp) (by simp) ?_).mono ?_
      · intro j hj
        have : j = 0 ∨ j = 1 ∨ j = 2 ∨ j = 3 ∨ j = 4 := by simp at hj; omega
        rcases this with rfl | rfl | rfl | rfl | rfl
        all_goals rfl
      rintro e w6 ⟨y, rfl, _, hR6, hg6⟩
      have S6 := (HS5.out.on (w' := w5.alloc (.cells #[.int .i64 z1, .int .i64 (-z2), .int .i64 9223372036854775807, .int .i64 (-9223372036854775808), .int .i64 1] 3)) (Below.alloc (Below.refl _ _) (Nat.le_refl _) _)).pk hR6 hg6
      obtain ⟨X, hX⟩ : ∃ X, X = w6.heap.size := ⟨_, rfl⟩
      have hXw : w1.heap.size ≤ X := by rw [hX]; exact S6.size
      have hXR : X ≠ w.heap.size := by omega
      have HN := Lib.hid (S6.new (X := X) (by omega))
      obtain ⟨W7, hW7⟩ : ∃ W7, W7 = w6.alloc (Obj.cells #[.int .i64 0, .int .i64 0, .int .i64 0, .int .i64 y] 32) := ⟨_, rfl⟩
      have HS7 := Lib.hid (show QSt w1 w.heap.size a1 l1 c1 (q' + 1 + 1 + 1) _ M W7 by rw [hW7]; exact S6.on (Below.alloc (Below.refl _ _) (Nat.le_refl _) _))
      have HT7 := Lib.hid (show TmA W7 X ⟨0, 0, 0, y⟩ by rw [hW7, hX]; exact TmA.new w6 ⟨0, 0, 0, y⟩)
      have HW7 := Lib.hid (And.intro hX hW7)
      clear hR6 hg6 HS5 S6 hX hW7 wn hz20 hz21
      go_upto_region 7 with fail
      rw [← HW7.out.2, ← HW7.out.1]
      clear HW7
      go_wp2_with fail
      refine wp_loop_rounds 4 ?_
      rw [rounds_succ]
      go_wp2_with fail
      refine (pick_any w.heap.size a1 l1 c1 _ 3 W7 HS7.out.rd (by omega)).mono ?_
      rintro e w8 ⟨y0, rfl, _, _, hR8, hg8, hsz⟩
      clear hsz
      have T8 := HT7.out.pk hg8 hXR
      have c0 := T8.t.1
      have f0 := T8.f 0
      have HT8 := Lib.hid (T8.s0 y0)
      have HS8 := Lib.hid ((HS7.out.pk hR8 hg8).sn X 0 (.int .i64 y0) HN.out hXw)
      clear hR8 hg8 T8 HS7 HT7
      go_wp2_with fail
      rw [rounds_succ]
      go_wp2_with fail
      clear c0 f0
      refine (pick_any w.heap.size a1 l1 c1 _ 3 _ HS8.out.rd (by omega)).mono ?_
      rintro e w9 ⟨y1, rfl, _, _, hR9, hg9, hsz⟩
      clear hsz
      have T9 := HT8.out.pk hg9 hXR
      have c1' := T9.t.2.1
      have f1 := T9.f 1
      simp only [Nat.zero_add] at c1'
      have HT9 := Lib.hid (T9.s1 y1)
      have HS9 := Lib.hid ((HS8.out.pk hR9 hg9).sn X 1 (.int .i64 y1) HN.out hXw)
      clear hR9 hg9 T9 HS8 HT8
      go_wp2_with fail
      rw [rounds_succ]
      go_wp2_with fail
      clear c1' f1
      refine (pick_any w.heap.size a1 l1 c1 _ 3 _ HS9.out.rd (by omega)).mono ?_
      rintro e w10 ⟨y2, rfl, _, _, hR10, hg10, hsz⟩
      clear hsz
      have T10 := HT9.out.pk hg10 hXR
      have c2 := T10.t.2.2.1
      have f2 := T10.f 2
      simp only [Nat.zero_add] at c2
      have HT11 := Lib.hid (T10.s2 y2)
      have HS11 := Lib.hid ((HS9.out.pk hR10 hg10).sn X 2 (.int .i64 y2) HN.out hXw)
      clear hR10 hg10 T10 HS9 HT9
      go_wp2_with fail
      generalize w10.setCell ⟨X, 2, none⟩ (.int .i64 y2) = W11 at *
      clear c2 f2
      rw [rounds_succ]
      obtain ⟨t0, t1, t2, t3⟩ := HT11.out.t
      simp only [Nat.zero_add] at t0 t1 t2 t3
      obtain ⟨v', w', hr, hS'⟩ := HS11.out.app1t 23 Try.underlying23 ⟨y0, y1, y2, y⟩ (by omega) 23
      have HQ := Lib.hid hS'
      clear HS11 HT11 hS'
      go_wp2_with (at_builtin; refine Lib.wpList_append_run _ rfl _ _ 23 23 rfl _ _ rfl rfl _ _ hr ?_)
      go_roundw
      case rel => exact ⟨k + 1, _, _, by omega, by go_num, by simp; omega, by omega, HQ.out⟩
      case measure => simp [intOf]; omega
    · have hkl : k = n := by omega
      subst hkl
      have HS := Lib.hid hS
      clear hS
      go_wp2_with fail
      refine (pick_any w.heap.size a1 l1 c1 q' 20 wr HS.out.rd (by omega)).mono ?_
      rintro e w4 ⟨z, rfl, _, _, hR4, hg4, hsz⟩
      clear hsz
      have HS4 := Lib.hid (HS.out.pk hR4 hg4)
      clear hR4 hg4 HS
      cases ez : (z == 0)
      · go_wp2_with fail
        refine bodyPost_ret (v := .tuple #[.int .i64 p, _]) (by simp [results, Try.results17, go_sem]) rfl ⟨p, _, M, rfl, by omega, row_base HS4.out.row HB1.out.size, below_readerT HB1.out HS4.out.gr⟩
      · go_wp2_with fail
        refine (num_new w.heap.size a1 l1 c1 (q' + 1) [10, -1, 9] 3 rfl _ w4 HS4.out.rd (by omega) (by simp) (by simp) ?_).mono ?_
        · intro j hj
          have : j = 0 ∨ j = 1 ∨ j = 2 := by simp at hj; omega
          rcases this with rfl | rfl | rfl
          all_goals rfl
        rintro e w5 ⟨y, rfl, _, hR5, hg5⟩
        have S5 := (HS4.out.on (w' := w4.alloc (.cells #[.int .i64 10, .int .i64 (-1), .int .i64 9] 3)) (Below.alloc (Below.refl _ _) (Nat.le_refl _) _)).pk hR5 hg5
        obtain ⟨v', w', hr, hS'⟩ := S5.app1t 23 Try.underlying23 ⟨0, y, 0, 1⟩ (by omega) 23
        have HQ := Lib.hid hS'
        clear hR5 hg5 S5 HS4 hS'
        go_wp2_with (at_builtin; refine Lib.wpList_append_run _ rfl _ _ 23 23 rfl _ _ rfl rfl _ _ hr ?_)
        refine bodyPost_ret (v := .tuple #[.int .i64 p, v']) (by simp [results, Try.results17, go_sem]) rfl ⟨p, _, _, rfl, by simp; omega, row_base HQ.out.row HB1.out.size, below_readerT HB1.out HQ.out.gr⟩
end Go.Proofs.Ytegkcfinklcglaa
namespace Go.Proofs.Ytegkcfinklcglaa
open Go.RowKit
/-- the sum of a list of any terms -/
def mk0 (p : Int) (L : List Trm) : List Trm := addAll p (L.map (mkT p)) []
theorem mkT_in {p : Int} (hp : 2 ≤ p) (L : List Trm) : ∀ x ∈ L.map (mkT p), 0 ≤ x.t ∧ x.t < p := fun x hx => by
  obtain ⟨z, _, rfl⟩ := List.mem_map.1 hx
  exact emod_bd hp
theorem mk0_valid {p : Int} (hp : isP p = true) {L : List Trm} (hw : L.all pwB = true) (hl : L.length ≤ 60) : validB p (mk0 p L) = true := by
  have hb := isP_bd hp
  refine validB_of (addAll_srt _ _ List.Pairwise.nil) (addAll_els (by omega) _ _ (mkT_in (by omega) L) (fun _ h => by cases h)) (fun y hy => ?_) ?_
  · rcases addAll_mem hy with h | ⟨x, hx, _, h1, h2, h3⟩
    · cases h
    · obtain ⟨z, hz, rfl⟩ := List.mem_map.1 hx
      have := List.all_eq_true.1 hw z hz
      rw [h1, h2, h3]
      exact this
  · have := addAll_len (p := p) (L.map (mkT p)) []
    simp only [List.length_map, List.length_nil] at this
    unfold mk0
    omega
theorem make_is {p : Int} (hp : isP p = true) {L : List Trm} (hw : L.all pwB = true) (hl : L.length ≤ 60) : makeOk p L = true ∧ makeV p L = mk0 p L := by
  have e : mkK p L L.length = mk0 p L := by unfold mkK mk0; rw [List.take_length]
  have h : makeOk p L = true := by unfold makeOk; rw [hp, hw, decide_eq_true hl, e, mk0_valid hp hw hl]; rfl
  exact ⟨h, by unfold makeV; rw [if_pos h, e]⟩
theorem mkOk_of {p : Int} {L : List Trm} (h : makeOk p L = true) : isP p = true ∧ L.all pwB = true ∧ L.length ≤ 60 := by
  unfold makeOk at h
  simp only [Bool.and_eq_true, decide_eq_true_eq] at h
  exact ⟨h.1.1, h.2.1, h.1.2⟩
theorem wS_rev (m : Int → Int → Int → Int) : ∀ L : List Trm, wS m L.reverse = wS m L
  | [] => rfl
  | x :: r => by
    rw [List.reverse_cons, wS_app, wS_rev m r]
    simp only [wS]
    omega
theorem mk0_els {p : Int} (hp : isP p = true) (L : List Trm) : Srt (mk0 p L) ∧ Els p (mk0 p L) := by
  have hb := isP_bd hp
  exact ⟨addAll_srt _ _ List.Pairwise.nil, addAll_els (by omega) _ _ (mkT_in (by omega) L) (fun _ h => by cases h)⟩
theorem mk0_rev {p : Int} (hp : isP p = true) (L : List Trm) : mk0 p L.reverse = mk0 p L := by
  have hb := isP_bd hp
  unfold mk0
  refine addAll_eq (by omega) List.Pairwise.nil List.Pairwise.nil (fun _ h => by cases h) (fun _ h => by cases h) (mkT_in (by omega) _) (mkT_in (by omega) _) fun m => Cg.of_eq ?_
  rw [List.map_reverse, wS_rev]
theorem mk0_self {p : Int} {F : List Trm} (hV : validB p F = true) : mk0 p F = F := by
  have e : F.map (mkT p) = F := by
    conv => rhs; rw [← List.map_id F]
    refine List.map_congr_left fun x hx => ?_
    have := validB_els hV x hx
    obtain ⟨xa, xb, xc, xt⟩ := x
    simp only [mkT, id_eq, Trm.mk.injEq, true_and]
    exact Int.emod_eq_of_lt (by simp only at this; omega) this.2
  unfold mk0
  rw [e]
  have := addAll_self (p := p) (validB_srt hV) (validB_els hV) F.length (Nat.le_refl _)
  rwa [List.take_length] at this
theorem mk0_two {p : Int} (hp : isP p = true) (L : List Trm) (h : Nat) : addAll p (mk0 p (L.drop h)) (mk0 p (L.take h)) = mk0 p L := by
  have hb := isP_bd hp
  obtain ⟨s1, e1⟩ := mk0_els hp (L.take h)
  obtain ⟨s2, e2⟩ := mk0_els hp (L.drop h)
  obtain ⟨s3, e3⟩ := mk0_els hp L
  refine addAll_is (by omega) s1 s3 e1 e3 (els_in e2) fun m => ?_
  refine Cg.trans ((wS_addAll m _ _).add (wS_addAll m _ _)) (Cg.trans (Cg.of_eq ?_) (wS_addAll m _ _).symm)
  simp only [wS]
  have := wS_split m (L.map (mkT p)) h
  rw [← List.map_take, ← List.map_drop] at this
  omega
/-- all that the law of MakePoly asks -/
structure MakF (p : Int) (L F : List Trm) (h : Nat) (A B : List Trm) : Prop where
  hp : isP p = true
  vF : validB p F = true
  rv : makeV p L.reverse = F
  ag : makeV p F = F
  ab : makeOk p F = true
  ma : makeV p (L.take h) = A
  mb : makeV p (L.drop h) = B
  su : sumV p A B = F
  sb : addOk p A B = true
theorem makF {p : Int} {L : List Trm} (h : makeOk p L = true) (k : Nat) : MakF p L (makeV p L) k (mk0 p (L.take k)) (mk0 p (L.drop k)) := by
  obtain ⟨hp, hw, hl⟩ := mkOk_of h
  rw [(make_is hp hw hl).2]
  have hvF := mk0_valid hp hw hl
  have hwF : (mk0 p L).all pwB = true := List.all_eq_true.2 fun y hy => by
    have h := validB_mem hvF hy
    simp only [pwB, powsB, powB, Bool.and_eq_true]
    exact ⟨⟨⟨decide_eq_true h.1.1, decide_eq_true h.1.2⟩, ⟨decide_eq_true h.2.1.1, decide_eq_true h.2.1.2⟩⟩, ⟨decide_eq_true h.2.2.1, decide_eq_true h.2.2.2⟩⟩
  have hsub : ∀ M : List Trm, (∀ x ∈ M, x ∈ L) → M.all pwB = true := fun M hM => List.all_eq_true.2 fun x hx => List.all_eq_true.1 hw x (hM x hx)
  have w1 := hsub (L.take k) (fun x hx => List.mem_of_mem_take hx)
  have w2 := hsub (L.drop k) (fun x hx => List.mem_of_mem_drop hx)
  have w3 := hsub L.reverse (fun x hx => List.mem_reverse.1 hx)
  have l1 : (L.take k).length ≤ 60 := by rw [List.length_take]; omega
  have l2 : (L.drop k).length ≤ 60 := by rw [List.length_drop]; omega
  have mF := make_is hp hwF (validB_len hvF)
  have ad := addOk_of (p := p) (L := mk0 p (L.take k)) (M := mk0 p (L.drop k)) hp (mk0_valid hp w1 l1) (mk0_valid hp w2 l2) (by rw [mk0_two hp]; exact hvF)
  exact ⟨hp, hvF, by rw [(make_is hp w3 (by rw [List.length_reverse]; exact hl)).2, mk0_rev hp], by rw [mF.2, mk0_self hvF], mF.1, (make_is hp w1 l1).2, (make_is hp w2 l2).2, by rw [ad.2, mk0_two hp], ad.1⟩
/-- one term appended to a row -/
theorem row_app1 (t : TypeId) (ht : Try.prog.underlying t = some (.slice 32)) {wr : World} {B : Nat} {v : Value} {M : List Trm} (h : Row wr B v M) (hB : B ≤ wr.heap.size) (x : Trm) (hM : M.length ≤ 4000) (ty : TypeId) :
    ∃ v' w', (Builtin.append_ #[t, t] ty #[v, .slice (some ⟨wr.heap.size, 0, none⟩) 1 1]).run Try.prog (wr.alloc (Obj.cells #[.int .i64 x.a, .int .i64 x.b, .int .i64 x.c, .int .i64 x.t] 32)) = .ok v' w' ∧ Row w' B v' (M ++ [x]) ∧ Below B wr w' := by
  obtain ⟨i0, hi, hz0, hz1, hz2⟩ := info_parts infoT
  have hb : Below wr.heap.size wr (wr.alloc (Obj.cells #[.int .i64 x.a, .int .i64 x.b, .int .i64 x.c, .int .i64 x.t] 32)) := Below.alloc (Below.refl _ _) (Nat.le_refl _) _
  have h1 := h.below hb
  obtain ⟨t0, t1, t2, t3⟩ := (TmA.new wr x).t
  obtain ⟨v', w', hr, hown, hgrow, _, _⟩ := run_append_own_at (P := Try.prog) (wr.alloc (Obj.cells #[.int .i64 x.a, .int .i64 x.b, .int .i64 x.c, .int .i64 x.t] 32)) B t ty 32 i0 (.agg #[.int .i64 0, .int .i64 0, .int .i64 0, .int .i64 0]) 4 32 ht hi hz0 hz1 hz2 rfl (by decide) v M.length (flat M) h1 ⟨wr.heap.size, 0, none⟩ 1 1 x.cs rfl
    (fun j u hu => by
      match j, hu with
      | 0, hu => simp [Trm.cs] at hu; subst hu; exact t0
      | 1, hu => simp [Trm.cs] at hu; subst hu; exact t1
      | 2, hu => simp [Trm.cs] at hu; subst hu; exact t2
      | 3, hu => simp [Trm.cs] at hu; subst hu; exact t3
      | j + 4, hu => simp [Trm.cs] at hu)
    (fun u hu => flat_cell [x] u (by simpa [flat] using hu)) (by unfold maxLen; omega) (by omega) (by simp; omega)
  refine ⟨v', w', hr, ?_, (hb.mono hB).trans (h1.low (by simp; omega) hgrow)⟩
  unfold Row
  rw [flat_app, flat_one]
  simpa using hown
theorem trms_take {w : World} {a : Option Addr} {n cap : Nat} {L : List Trm} (h : Trms w (.slice a n cap) L) {k : Nat} (hk : k ≤ L.length) (c : Nat) : Trms w (.slice a k c) (L.take k) := by
  obtain ⟨h1, a', cap', he, h2⟩ := h
  injection he with e1 e2 e3
  subst e1
  have hl : (L.take k).length = k := by rw [List.length_take]; omega
  refine ⟨by omega, _, c, by rw [hl], ?_⟩
  rcases h2 with rfl | ⟨g, off, ha, hg, hc⟩
  · left; simp
  · refine .inr ⟨g, off, ha, hg, fun j hj => ?_⟩
    rw [hl] at hj
    have := hc j (by omega)
    rwa [show (L.take k).getD j default = L.getD j default by simp [List.getD_eq_getElem?_getD, hj]]
theorem trms_drop {w : World} {g off n cap : Nat} {L : List Trm} (h : Trms w (.slice (some ⟨g, off, none⟩) n cap) L) {k : Nat} (hk : k ≤ L.length) (c : Nat) : Trms w (.slice (some ⟨g, off + k * 4, none⟩) (L.length - k) c) (L.drop k) := by
  obtain ⟨h1, a', cap', he, h2⟩ := h
  injection he with e1 e2 e3
  subst e1
  have hl : (L.drop k).length = L.length - k := by rw [List.length_drop]
  refine ⟨by omega, _, c, by rw [hl], ?_⟩
  rcases h2 with rfl | ⟨g', off', ha, hg, hc⟩
  · left; simp
  · injection ha with ha
    injection ha with e1 e2
    subst e1 e2
    refine .inr ⟨_, _, rfl, hg, fun j hj => ?_⟩
    rw [hl] at hj
    have := hc (k + j) (by omega)
    rw [show (L.drop k).getD j default = L.getD (k + j) default by simp [List.getD_eq_getElem?_getD]]
    rw [show off + k * 4 + j * 4 = off + (k + j) * 4 by omega]
    exact this
set_option maxRecDepth 100000 in
set_option maxHeartbeats 16000000 in
theorem wMakePoly_in (a : Option Addr) (len cap : Nat) (w : World) (h : ByteRow w a len cap) (hl : len ≤ 1048576) :
    Calls Try.prog 3 #[.slice a len cap] w fun e w' => e = .returned (.bool true) ∧ Below w.heap.size w w' := by
  have hlp : (len : Int) ≤ 1048576 := by omega
  have HD := Lib.hid (drawMakePoly a len cap w h)
  clear h
  go_enter Try.func3, Try.ntmps3
  go_wp2_with fail
  refine HD.out.mono ?_
  rintro e w1 ⟨p, f, L, rfl, hL, hr1, hb1⟩
  have hsh := hr1.shape
  have HK1 := Lib.hid (show PK w [(f, L)] w1 from ⟨hb1, fun z hz => by
    rcases List.mem_cons.1 hz with rfl | hz
    · exact (hr1.own (by omega)).trms
    · cases hz⟩)
  have HSH := Lib.hid hsh
  clear hr1 hb1 HD hsh
  go_wp2_with fail
  refine (iMakePoly p f L w1 (HK1.out.g (by simp))).mono ?_
  rintro e w2 ⟨hv, rfl, ho, hb⟩
  have HK2 := Lib.hid ((HK1.out.on hb).add ho.trms)
  clear ho hb HK1
  go_wp2_with fail
  refine (sMakePoly p f L w2 (HK2.out.g (by simp))).mono ?_
  rintro e w3 ⟨wv, rfl, ho, hb⟩
  have HK3 := Lib.hid ((HK2.out.on hb).add ho.trms)
  clear ho hb HK2
  obtain ⟨ok, hok⟩ : ∃ ok, ok = makeOk p L := ⟨_, rfl⟩
  have HOK := Lib.hid hok
  rw [← hok]
  clear hok
  have hbb : (ok != ok) = false := by cases ok <;> rfl
  go_wp2_with fail
  refine (acP hv wv (makeV p L) w3 (HK3.out.g (by simp)) (HK3.out.g (by simp))).mono ?_
  rintro e w4 ⟨rfl, hb⟩
  have HK4 := Lib.hid (HK3.out.on hb)
  clear hb HK3
  cases ok
  · go_wp2_with fail
    refine (acP hv wv (makeV p L) w4 (HK4.out.g (by simp)) (HK4.out.g (by simp))).mono ?_
    rintro e w5 ⟨rfl, hb⟩
    have HK5 := Lib.hid (HK4.out.on hb)
    clear hb HK4
    go_wp2_with fail
    go_ret
    exact ⟨rfl, HK5.out.low⟩
  · obtain ⟨hh, hhe⟩ : ∃ hh : Nat, hh = L.length / 2 := ⟨_, rfl⟩
    have hF := makF HOK.out.symm hh
    generalize mk0 p (L.take hh) = A at hF
    generalize mk0 p (L.drop hh) = B at hF
    generalize makeV p L = F at HK4 hF
    have HF := Lib.hid hF
    clear hF
    have HHE := Lib.hid hhe
    clear hhe
    obtain ⟨_, fa, fc, rfl, hfl⟩ := HK4.out.g (v := f) (L := L) (by simp)
    have HFL := Lib.hid hfl
    clear hfl
    have hlen10 : (L.length : Int) ≤ 10 := by omega
    have wl : IntKind.i64.wrap ((L.length : Int) - 1) = (L.length : Int) - 1 := IntWalk.i64_in _ (by omega)
    have HR0 := Lib.hid (Row.lit0 w4 w4.heap.size (Nat.le_refl _))
    have HB0 := Lib.hid (Below.alloc (Below.refl w4.heap.size w4) (Nat.le_refl _) (.cells #[] 32))
    go_wp2_with fail
    go_loopw [9, 10] (fun u i wr => ∃ j : Nat, j ≤ L.length ∧ i = .int .i64 ((L.length : Int) - 1 - j) ∧ Row wr w4.heap.size u (L.reverse.take j) ∧ Below w4.heap.size w4 wr) (fun _ i _ => (intOf i + 1).toNat)
    case atStart => exact ⟨0, by omega, by simp, HR0.out, HB0.out⟩
    case round =>
      clear HR0 HB0
      obtain ⟨j, hj, rfl, hR, hb⟩ := hrel
      by_cases hlt : j < L.length
      · obtain ⟨i, hi⟩ : ∃ i : Nat, i = L.length - 1 - j := ⟨_, rfl⟩
        have hij : (L.length : Int) - 1 - j = (i : Int) := by omega
        rw [hij]
        have hil : i < L.length := by omega
        have hilp : (i : Int) < (L.length : Int) := by omega
        have hi0 : (0 : Int) ≤ (i : Int) := by omega
        have hwi : IntKind.i64.wrap ((i : Int) - 1) = (i : Int) - 1 := IntWalk.i64_in _ (by omega)
        have HNX := Lib.hid (show (i : Int) - 1 = (L.length : Int) - 1 - ((j + 1 : Nat) : Int) by omega)
        obtain ⟨g, off, rfl, hg, hc⟩ : ∃ g off, fa = some ⟨g, off, none⟩ ∧ g < w4.heap.size ∧ ∀ j : Nat, j < L.length → TAt w4 g (off + j * 4) (L.getD j default) := by
          obtain ⟨_, a', cap', he, h⟩ := HK4.out.g (v := .slice fa L.length fc) (L := L) (by simp)
          injection he with q1 q2 q3
          subst q1
          rcases h with h | h
          · rw [h] at hil; simp at hil
          · exact h
        obtain ⟨x, hx⟩ : ∃ x, x = L.getD i default := ⟨_, rfl⟩
        obtain ⟨b0, b1, b2, b3⟩ := (hc i hil).below hb hg
        rw [← hx] at b0 b1 b2 b3
        obtain ⟨v', w', hr, hR', hb'⟩ := row_app1 23 Try.underlying23 hR hb.size x (by rw [List.length_take, List.length_reverse]; omega) 23
        have hT : L.reverse.take j ++ [x] = L.reverse.take (j + 1) := by
          rw [List.take_succ_eq_append_getElem (by rw [List.length_reverse]; exact hlt), List.getElem_reverse, hx, hi, List.getD_eq_getElem?_getD, List.getElem?_eq_getElem (by omega), Option.getD_some]
        rw [hT] at hR'
        have HQ := Lib.hid (And.intro hR' (hb.trans hb'))
        clear hR hb hR' hb' hx hc hT hi hij
        go_wp2_with (at_builtin; refine Lib.wpList_append_run _ rfl _ _ 23 23 rfl _ _ rfl rfl _ _ hr ?_)
        go_roundw
        case rel => exact ⟨j + 1, by omega, by rw [HNX.out], HQ.out.1, HQ.out.2⟩
        case measure => simp [intOf] <;> omega
      · have hjl : j = L.length := by omega
        have hij : (L.length : Int) - 1 - j = -1 := by omega
        have hTk : L.reverse.take j = L.reverse := by rw [hjl, ← List.length_reverse, List.take_length]
        rw [hTk] at hR
        rw [hij]
        have HK5 := Lib.hid ((HK4.out.on hb).add (hR.own (by rw [List.length_reverse]; omega)).trms)
        clear hR hb hjl hij hTk HK4
        go_wp2_with fail
        refine (iMakePoly p _ L.reverse _ (HK5.out.g (by simp))).mono ?_
        rintro e w6 ⟨tv, rfl, ho, hb⟩
        rw [HF.out.rv] at ho
        have HK6 := Lib.hid ((HK5.out.on hb).add ho.trms)
        clear ho hb HK5
        go_wp2_with fail
        refine (iMakePoly p hv F _ (HK6.out.g (by simp))).mono ?_
        rw [HF.out.ab]
        rintro e w7 ⟨av, rfl, ho, hb⟩
        rw [HF.out.ag] at ho
        have HK7 := Lib.hid ((HK6.out.on hb).add ho.trms)
        clear ho hb HK6
        have q1 : (L.length : Int).tdiv 2 = (hh : Int) := by rw [HHE.out]; rw [show (2 : Int) = ((2 : Nat) : Int) from rfl, ← Int.ofNat_tdiv]
        have q2 : (L.length : Int) / 2 = (hh : Int) := by rw [HHE.out]; simp
        have q3 : IntKind.i64.wrap (hh : Int) = (hh : Int) := IntWalk.i64_in _ (by have := HHE.out; omega)
        have hh0 : (0 : Int) ≤ (hh : Int) := by omega
        have hhl : (hh : Int) ≤ (L.length : Int) := by have := HHE.out; omega
        by_cases hL0 : L = []
        · subst hL0
          have hz : hh = 0 := by have := HHE.out; simpa using this
          subst hz
          simp only [List.length_nil, Int.natCast_zero] at *
          have hma := HF.out.ma
          have hmb := HF.out.mb
          simp only [List.take_nil, List.drop_nil] at hma hmb
          have HMA := Lib.hid hma
          have HMB := Lib.hid hmb
          clear hma hmb
          go_wp2_with fail
          refine (iMakePoly p _ [] w7 ⟨by simp, _, _, rfl, .inl rfl⟩).mono ?_
          rintro e w8 ⟨av1, rfl, ho, hb⟩
          rw [HMA.out] at ho
          have HK8 := Lib.hid ((HK7.out.on hb).add ho.trms)
          clear ho hb HK7
          go_wp2_with fail
          refine (iMakePoly p _ [] w8 ⟨by simp, _, _, rfl, .inl rfl⟩).mono ?_
          rintro e w9 ⟨bv, rfl, ho, hb⟩
          rw [HMB.out] at ho
          have HK9 := Lib.hid ((HK8.out.on hb).add ho.trms)
          clear ho hb HK8
          go_wp2_with fail
          refine (iAddPoly p av1 bv A B w9 (HK9.out.g (by simp)) (HK9.out.g (by simp))).mono ?_
          rw [HF.out.sb]
          rintro e w10 ⟨sv, rfl, ho, hb⟩
          rw [HF.out.su] at ho
          have HK10 := Lib.hid ((HK9.out.on hb).add ho.trms)
          clear ho hb HK9
          go_wp2_with fail
          refine (acP hv tv F w10 (HK10.out.g (by simp)) (HK10.out.g (by simp))).mono ?_
          rintro e w11 ⟨rfl, hb⟩
          have HK11 := Lib.hid (HK10.out.on hb)
          clear hb HK10
          go_wp2_with fail
          refine (acP av hv F w11 (HK11.out.g (by simp)) (HK11.out.g (by simp))).mono ?_
          rintro e w12 ⟨rfl, hb⟩
          have HK12 := Lib.hid (HK11.out.on hb)
          clear hb HK11
          go_wp2_with fail
          refine (acP sv hv F w12 (HK12.out.g (by simp)) (HK12.out.g (by simp))).mono ?_
          rintro e w13 ⟨rfl, hb⟩
          have HK13 := Lib.hid (HK12.out.on hb)
          clear hb HK12
          go_wp2_with fail
          refine (iPolyValid p hv F w13 (HK13.out.g (by simp))).mono ?_
          rw [HF.out.hp, HF.out.vF]
          rintro e w14 ⟨rfl, hb⟩
          have HK14 := Lib.hid (HK13.out.on hb)
          clear hb HK13
          go_wp2_with fail
          go_ret
          exact ⟨rfl, HK14.out.low⟩
        · obtain ⟨g, rfl, hcap⟩ : ∃ g, fa = some ⟨g, 0, none⟩ ∧ L.length ≤ fc := by
            rcases HSH.out with ⟨_, h⟩ | ⟨g, c, h, _, _, hc, _⟩
            · exact absurd h hL0
            · injection h with h1 h2 h3
              subst h3
              exact ⟨g, h1, hc⟩
          have hn0 : L.length ≠ 0 := fun e => hL0 (List.length_eq_zero_iff.1 e)
          have hhs : hh < L.length := by have := HHE.out; omega
          have hcl : (hh : Int) ≤ (fc : Int) := by omega
          have hcn : (L.length : Int) ≤ (fc : Int) := by omega
          have hne : ¬ fc = hh := by omega
          have htn : ((hh : Nat) : Int).toNat = hh := by simp
          have HTK := Lib.hid (trms_take (HK7.out.g (v := .slice (some ⟨g, 0, none⟩) L.length fc) (L := L) (by simp)) (k := hh) (by omega) fc)
          go_wp2_with fail
          refine (iMakePoly p _ (L.take hh) w7 HTK.out).mono ?_
          rintro e w8 ⟨av1, rfl, ho, hb⟩
          rw [HF.out.ma] at ho
          have HK8 := Lib.hid ((HK7.out.on hb).add ho.trms)
          have HTD := Lib.hid (trms_drop (HK8.out.g (v := .slice (some ⟨g, 0, none⟩) L.length fc) (L := L) (by simp)) (k := hh) (by omega) (fc - hh))
          clear ho hb HK7
          go_wp2_with fail
          refine (iMakePoly p _ (L.drop hh) w8 (by simpa using HTD.out)).mono ?_
          rintro e w9 ⟨bv, rfl, ho, hb⟩
          rw [HF.out.mb] at ho
          have HK9 := Lib.hid ((HK8.out.on hb).add ho.trms)
          clear ho hb HK8
          go_wp2_with fail
          refine (iAddPoly p av1 bv A B w9 (HK9.out.g (by simp)) (HK9.out.g (by simp))).mono ?_
          rw [HF.out.sb]
          rintro e w10 ⟨sv, rfl, ho, hb⟩
          rw [HF.out.su] at ho
          have HK10 := Lib.hid ((HK9.out.on hb).add ho.trms)
          clear ho hb HK9
          go_wp2_with fail
          refine (acP hv tv F w10 (HK10.out.g (by simp)) (HK10.out.g (by simp))).mono ?_
          rintro e w11 ⟨rfl, hb⟩
          have HK11 := Lib.hid (HK10.out.on hb)
          clear hb HK10
          go_wp2_with fail
          refine (acP av hv F w11 (HK11.out.g (by simp)) (HK11.out.g (by simp))).mono ?_
          rintro e w12 ⟨rfl, hb⟩
          have HK12 := Lib.hid (HK11.out.on hb)
          clear hb HK11
          go_wp2_with fail
          refine (acP sv hv F w12 (HK12.out.g (by simp)) (HK12.out.g (by simp))).mono ?_
          rintro e w13 ⟨rfl, hb⟩
          have HK13 := Lib.hid (HK12.out.on hb)
          clear hb HK12
          go_wp2_with fail
          refine (iPolyValid p hv F w13 (HK13.out.g (by simp))).mono ?_
          rw [HF.out.hp, HF.out.vF]
          rintro e w14 ⟨rfl, hb⟩
          have HK14 := Lib.hid (HK13.out.on hb)
          clear hb HK13
          go_wp2_with fail
          go_ret
          exact ⟨rfl, HK14.out.low⟩
theorem wMakePoly (a : Option Addr) (len cap : Nat) (w : World) (h : ByteRow w a len cap) :
    Calls Try.prog 3 #[.slice a len cap] w fun e w' => e = .returned (.bool true) ∧ Below w.heap.size w w' := by
  by_cases hl : len ≤ 1048576
  · exact wMakePoly_in a len cap w h hl
  · have hp : (1048576 : Int) < (len : Int) := by omega
    have h1 := Nat.le_trans h.1 h.2.1
    clear h
    go_enter Try.func3, Try.ntmps3
    go_wp2_with fail
    go_ret
    exact ⟨rfl, Below.refl _ _⟩
end Go.Proofs.Ytegkcfinklcglaa
