/-
  A range over slices.Backward whose body may write anywhere but into the slice that it ranges over. Conditions: what the slice holds is known.
  countBack of the program: the gates from the last one down, each one passing what it counts for on to the gates that it joins. Conditions: what the slice and the maker's cells hold is known.
  countForward of the program: the gates from the first one on. Conditions: what the slice and the maker's cells hold is known.
-/
import Derived.Test.YtibghhkhnpjdfaaBa20
import Derived.Test.YtibghhkhnpjdfaaBa17
import Derived.Test.YtibghhkhnpjdfaaBa5
namespace Go.Proofs.Ytibghhkhnpjdfaa
open Go.RowKit Go.Shelf
attribute [local go_sem] Oper.semAt_some
/-- the slice's box and the slice's gates lie as they lay -/
structure KpG (Bs g : Nat) (w w' : World) : Prop where
  size : w.heap.size ≤ w'.heap.size
  b1 : w'.heap[Bs]? = w.heap[Bs]?
  b2 : w'.heap[g]? = w.heap[g]?
theorem KpG.refl (Bs g : Nat) (w : World) : KpG Bs g w w := ⟨Nat.le_refl _, rfl, rfl⟩
theorem KpG.trans {Bs g : Nat} {a b c : World} (h : KpG Bs g a b) (k : KpG Bs g b c) : KpG Bs g a c := ⟨Nat.le_trans h.size k.size, k.b1.trans h.b1, k.b2.trans h.b2⟩
theorem KpG.of_below {Bs g n : Nat} {w w' : World} (h : Below n w w') (h1 : Bs < n) (h2 : g < n) : KpG Bs g w w' := ⟨h.size, h.block _ h1, h.block _ h2⟩
set_option maxRecDepth 100000 in
set_option maxHeartbeats 4000000 in
theorem back_inG (F : Fence) (n : Nat) (hF : F.fn 210) (hro : F.round = none) (hn : 1 ≤ n) (l Bs g off cap : Nat) (L : List Gt) (hL : L.length ≤ 60)
    (J Jx : List (Fin L.length) → World → Prop)
    (hY : ∀ pre x W, J pre W → pre.length < L.length → YieldAt F (n - 1) Try.prog l (encG L x) W fun e W' =>
      (e = .returned (.bool true) ∧ J (pre ++ [x]) W' ∧ KpG Bs g W W') ∨ (e = .returned (.bool false) ∧ Jx (pre ++ [x]) W'))
    (W : World) (hBs : W.cell? ⟨Bs, 0, none⟩ = some (.slice (some ⟨g, off, none⟩) L.length cap)) (hc : ∀ j : Nat, j < L.length → GAt W g (off + j * 3) (L.getD j default)) (h0 : J [] W) :
    CallsIn F n Try.prog 210 #[.func (.yield l) #[] #[], .pointer (some ⟨Bs, 0, none⟩)] W fun e W' => (∃ v, e = .returned v) ∧
      ((∃ ys, ys = bkTo L.length L.length (Nat.le_refl _) ∧ J ys W') ∨ (∃ pre, (∃ k, ∃ h : k ≤ L.length, pre = bkTo L.length k h) ∧ Jx pre W')) := by
  have HC := Lib.hid hc
  clear hc
  refine callsIn_of_wp Try.func210 rfl hF ?_ hro
  simp only [Try.ntmps210, List.size_toArray, List.length_cons, List.length_nil, Nat.reduceAdd, Nat.reduceSub, Array.replicate_succ, Array.replicate_zero, List.push_toArray, List.append_toArray, List.nil_append, List.cons_append]
  gi_wp2
  gi_loopw [3] (fun i wr => ∃ m : Nat, ∃ h : m ≤ L.length, i = .int .i64 ((L.length : Int) - 1 - m) ∧ J (bkTo L.length m h) wr ∧ KpG Bs g W wr) (fun i _ => (intOf i + 1).toNat)
  case atStart => exact ⟨0, Nat.zero_le _, by simp, h0, KpG.refl _ _ _⟩
  case round =>
    obtain ⟨m, hm, rfl, hJ, hK⟩ := hrel
    by_cases hlt : m < L.length
    · obtain ⟨i, hi⟩ : ∃ i : Nat, L.length - 1 - m = i := ⟨_, rfl⟩
      have hij : (L.length : Int) - 1 - m = (i : Int) := by omega
      rw [hij]
      have hil : i < L.length := by omega
      have hilp : (i : Int) < (L.length : Int) := by omega
      have hi0 : (0 : Int) ≤ (i : Int) := by omega
      have hwi : IntKind.i64.wrap ((i : Int) - 1) = (i : Int) - 1 := IntWalk.i64_in _ (by omega)
      have HNX := Lib.hid (show (i : Int) - 1 = (L.length : Int) - 1 - ((m + 1 : Nat) : Int) by omega)
      have cB := (cell_of_heap hK.b1).trans hBs
      obtain ⟨a0, a1, a2⟩ := HC.out i hil
      have b0 := (cell_of_heap hK.b2).trans a0
      have b1 := (cell_of_heap hK.b2).trans a1
      have b2 := (cell_of_heap hK.b2).trans a2
      obtain ⟨fn, tmps, assign, body, hy, hR⟩ := hY _ ⟨i, hil⟩ wr hJ (by rw [bkTo_len]; exact hlt)
      obtain ⟨x, hx⟩ : ∃ x, x = gAt L i := ⟨_, rfl⟩
      simp only [encG, ← hx] at hy
      have hx2 : L.getD i default = x := hx.symm
      rw [hx2] at b0 b1 b2
      have HE := Lib.hid (show bkTo L.length (m + 1) hlt = bkTo L.length m hm ++ [⟨i, hil⟩] by simp only [bkTo, hi])
      clear hx hx2 a0 a1 a2 hi hij
      gi_wp2
      refine hR.mono ?_
      rintro e W3 (⟨rfl, hJ3, hk3⟩ | ⟨rfl, hJx3⟩)
      · have hKK := hK.trans hk3
        rw [← HE.out] at hJ3
        clear hR hy b0 b1 b2 cB
        gi_wp2
        go_roundw
        case rel => exact ⟨m + 1, hlt, by rw [HNX.out], hJ3, hKK⟩
        case measure => simp [intOf] <;> omega
      · gi_wp2
        refine bodyPost_ret (results_none rfl _ _ _) rfl ?_
        exact ⟨⟨_, rfl⟩, .inr ⟨_, ⟨m + 1, hlt, HE.out.symm⟩, hJx3⟩⟩
    · have hml : m = L.length := by omega
      subst hml
      have hij : (L.length : Int) - 1 - (L.length : Int) = -1 := by omega
      rw [hij]
      gi_wp2
      go_end0
      exact ⟨⟨_, rfl⟩, .inl ⟨_, rfl, hJ⟩⟩
theorem back_stopsG (F : Fence) (n : Nat) (hF : F.fn 210) (hro : F.round = none) (hn : 1 ≤ n) (Bs g off cap : Nat) (L : List Gt) (hL : L.length ≤ 60) (w : World) (hg : g < w.heap.size) (hB : Bs < w.heap.size)
    (hBs : w.cell? ⟨Bs, 0, none⟩ = some (.slice (some ⟨g, off, none⟩) L.length cap)) (hc : ∀ j : Nat, j < L.length → GAt w g (off + j * 3) (L.getD j default)) :
    SeqStopsK F n Try.prog 210 #[.pointer (some ⟨Bs, 0, none⟩)] (encG L) (KpG Bs g) (fun ys => ys = bkTo L.length L.length (Nat.le_refl _)) (fun pre => ∃ k, ∃ h : k ≤ L.length, pre = bkTo L.length k h) L.length w := fun l J Jx W hW _ _ hY h0 =>
  back_inG F n hF hro hn l Bs g off cap L hL J Jx hY W ((hW.cell (p := ⟨Bs, 0, none⟩) (by show Bs < _; omega)).trans hBs) (fun j hj => (hc j hj).below hW (by omega)) h0
theorem kpG_b {Bs g : Nat} {w : World} (hB : Bs < w.heap.size) (hg : g < w.heap.size) (W : World) (l : Nat) (o o' : Obj) (hl : w.heap.size ≤ l) (h : W.heap[l]? = some o) (h1 : o.isCells = false) (h2 : o.isWalk = false) : KpG Bs g W (W.putObj l o') :=
  KpG.of_below (belowK_b (Nat.le_refl w.heap.size) W l o o' hl h h1 h2) hB hg
/-- what the rounds make -/
def bkL (L : List Gt) (one : Int) (s : List Gt × List Int) (pre : List (Fin L.length)) : List Gt × List Int := pre.foldl (fun t x => bckS L one x.1 t) s
theorem bkL_snoc (L : List Gt) (one : Int) (s : List Gt × List Int) (pre : List (Fin L.length)) (x : Fin L.length) : bkL L one s (pre ++ [x]) = bckS L one x.1 (bkL L one s pre) := by simp [bkL]
theorem bkL_to (L : List Gt) (one : Int) (s : List Gt × List Int) : ∀ (m : Nat) (h : m ≤ L.length), bckN L one (L.length - m) (bkL L one s (bkTo L.length m h)) = bckN L one L.length s
  | 0, _ => rfl
  | m + 1, h => by
    rw [← bkL_to L one s m (by omega), bkTo, bkL_snoc]
    obtain ⟨k, hk⟩ : ∃ k, L.length - m = k + 1 := ⟨L.length - m - 1, by omega⟩
    rw [hk, show L.length - (m + 1) = k by omega]
    show _ = bckN L one k (bckS L one k _)
    congr 2
    show L.length - 1 - m = k
    omega
theorem bkL_all (L : List Gt) (one : Int) (s : List Gt × List Int) : bkL L one s (bkTo L.length L.length (Nat.le_refl _)) = bckN L one L.length s := by
  have := bkL_to L one s L.length (Nat.le_refl _)
  rw [Nat.sub_self] at this
  exact this
/-- what is no cells lies as it lay, where a maker has put -/
theorem MkQ.keeps {W W' : World} {G R n Bk : Nat} {v : Value} {cs : Nat → Value} {C : List Gt} (h : MkQ W G R v n cs C) (ha : Apt G G v W W') (hs : W.heap.size ≤ W'.heap.size) : KeepsFrom Bk W W' := by
  refine ⟨hs, fun k o _ hk ho => ?_⟩
  have hkl := (Array.getElem?_eq_some_iff.1 hk).1
  refine (ha k hkl ?_ ?_ ?_).trans hk
  · rintro rfl
    obtain ⟨o', ho', hc'⟩ := cells_of_cell h.sh.c0
    rw [show W.heap[k]? = some o' from ho'] at hk
    cases hk
    rw [hc'] at ho
    cases ho
  · rintro rfl
    obtain ⟨o', ho', hc'⟩ := cells_of_cell h.sh.c0
    rw [show W.heap[k]? = some o' from ho'] at hk
    cases hk
    rw [hc'] at ho
    cases ho
  · intro e
    obtain ⟨_, hh | ⟨b, c, cur, h1, h2, h3, _⟩⟩ := h.row
    · rw [hh.1] at e
      cases e
    · rw [h1] at e
      have e2 : b = k := by simpa [Value.ownBlock] using e
      subst e2
      rw [h3] at hk
      cases hk
      cases ho
theorem MkQ.own {X Y : World} {G R n : Nat} {v : Value} {cs : Nat → Value} {C : List Gt} {row : Option Nat} (h : MkQ X G R v n cs C) (hg : X.grownBy Y row) (hr : ∀ r, row = some r → ∃ o : Obj, X.heap[r]? = some o ∧ o.isCells = false) : MkQ Y G R v n cs C := by
  refine ⟨⟨cell_kept h.sh.c0 hg hr, fun i h1 h2 => cell_kept (h.sh.oth i h1 h2) hg hr, (frozen_kept h.sh.c0 hg hr).trans h.sh.f0, Nat.lt_of_lt_of_le h.sh.lt hg.size, fun i h1 h2 => (frozen_kept (h.sh.oth i h1 h2) hg hr).trans (h.sh.fz i h1 h2)⟩, ?_, h.ne⟩
  refine World.ownsRow.kept (row := row) h.row hg ?_
  by_cases hvn : v.ownBlock = none
  · exact .inl hvn
  cases hrow : row with
  | none => exact .inr hvn
  | some r =>
    refine .inr fun e => ?_
    obtain ⟨o, ho, hc⟩ := hr r hrow
    obtain ⟨_, hh | ⟨b, c, cur, h1, h2, h3, _⟩⟩ := h.row
    · rw [hh.1] at e
      cases e
    · rw [h1] at e
      have e2 : b = r := by simpa [Value.ownBlock] using e
      subst e2
      rw [h3] at ho
      cases ho
      cases hc
theorem apt_own {w X Y : World} {G Bk : Nat} {v : Value} {row : Option Nat} (h : Apt G G v w X) (hs : w.heap.size ≤ X.heap.size) (hB : w.heap.size ≤ Bk) (hg : X.grownBy Y row) (hr : ∀ r, row = some r → Bk ≤ r) : Apt G G v w Y := fun b h1 h2 h3 h4 =>
  (hg.block b (by omega) (fun e => by have := hr b e.symm; omega)).trans (h b h1 h2 h3 h4)
/-- passing on to what a gate counts for -/
theorem iPassG (B G : Nat) (p one kd k o : Int) (j : Nat) (v : Value) (s : List Gt × List Int) (w : World) (hk : -1 ≤ k) (hlo : -1 ≤ s.2.getD j 0) (hj : j < s.2.length) (hj60 : j < 60) (hl : s.1.length ≤ 4000) (hBG : B ≤ G) (h : DmS w G B v p one s) :
    Calls Try.prog 198 #[.pointer (some ⟨G, 0, none⟩), .int .i64 kd, .int .i64 k, .int .i64 o, .pointer (some ⟨G, 2 + j, none⟩)] w fun e w' =>
      e = .returned (.tuple #[]) ∧ ∃ v', DmS w' G B v' p one (pasB one kd k o j s) ∧ Below B w w' ∧ Apt G G v w w' ∧ Moves v v' w := by
  by_cases hk0 : k < 0
  · refine (iPass_no G G (2 + j) kd k o (by omega) w).mono ?_
    rintro e w' ⟨rfl, rfl⟩
    have e1 : pasB one kd k o j s = s := by unfold pasB; rw [if_pos hk0]
    exact ⟨rfl, v, by rw [e1]; exact h, Below.refl _ _, Apt.of_below (Below.refl _ _), .inl rfl⟩
  · have hX : ∀ (w2 : World) (v2 : Value) (C2 : List Gt), MkQ w2 G B v2 63 (csD p one s.2) C2 → w2.cell? ⟨G, 2 + j, none⟩ = some (.int .i64 (s.2.getD j 0)) ∧ w2.frozen? ⟨G, 2 + j, none⟩ = false := fun w2 v2 C2 hm =>
      ⟨(hm.sh.oth (2 + j) (by omega) (by omega)).trans (congrArg some (csD_at hj hj60)), hm.sh.fz (2 + j) (by omega) (by omega)⟩
    refine (iPass_yes B G G (2 + j) p one kd (s.2.getD j 0) k o v s w (by omega) hlo hl hBG h (hX w v s.1 h).1 (fun w2 v2 C2 hm _ => hX w2 v2 C2 hm)).mono ?_
    rintro e w' ⟨rfl, w2, v', h1, h2, h3, h4, rfl⟩
    refine ⟨rfl, v', ?_, h2.setCell hBG _, fun b q1 q2 q3 q4 => (Below.heap_setCell _ _ _ _ q2).trans (h3 b q1 q2 q3 q4), h4⟩
    have e1 : pasB one kd k o j s = ((jnG 2 (s.2.getD j 0) (thrG one kd k o s.1).1 (thrG one kd k o s.1).2).2, s.2.set j (jnG 2 (s.2.getD j 0) (thrG one kd k o s.1).1 (thrG one kd k o s.1).2).1) := by unfold pasB; rw [if_neg hk0]; rfl
    rw [e1]
    exact DmS.set (s := ((jnG 2 (s.2.getD j 0) (thrG one kd k o s.1).1 (thrG one kd k o s.1).2).2, s.2)) h1 hj hj60 _
end Go.Proofs.Ytibghhkhnpjdfaa
namespace Go.Proofs.Ytibghhkhnpjdfaa
open Go.RowKit Go.Shelf
attribute [local go_sem] Oper.semAt_some
/-- the state between rounds -/
def CbSt (B G n : Nat) (p : Int) (v v2 : Value) (L : List Gt) (w W3 : World) (pre : List (Fin L.length)) (wr : World) : Prop :=
  ∃ v', DmS wr G B v' p L.length (bkL L L.length (grS L) pre) ∧ wr.cell? ⟨n, 0, none⟩ = some (.pointer (some ⟨G, 0, none⟩)) ∧ Below B w wr ∧ Apt G G v w wr ∧ Moves v2 v' W3 ∧
    BSt p L.length (L.length + 1 + 4 * pre.length) (bkL L L.length (grS L) pre) ∧ L.length + 1 ≤ (bkL L L.length (grS L) pre).1.length ∧ W3.heap.size ≤ wr.heap.size
theorem cb_own {B G n : Nat} {p : Int} {v v2 : Value} {L : List Gt} {w W3 : World} (h3 : w.heap.size ≤ W3.heap.size) (hB : B ≤ w.heap.size) : OwnFrom W3.heap.size (fun pre X => CbSt B G n p v v2 L w W3 pre X) := fun pre X Y row hs hg hr => by
  obtain ⟨v', h1, h2, h3', h4, h5, h6, h7, h8⟩ := hs
  have hr' : ∀ r, row = some r → ∃ o : Obj, X.heap[r]? = some o ∧ o.isCells = false := fun r e => (hr r e).2
  exact ⟨v', h1.own hg hr', cell_kept h2 hg hr', ownFrom_below (β := Unit) hB (Nat.le_trans hB h3) () X Y row h3' hg hr, apt_own h4 h3'.size h3 hg (fun r e => (hr r e).1), h5, h6, h7, Nat.le_trans h8 hg.size⟩
set_option maxRecDepth 100000 in
set_option maxHeartbeats 16000000 in
theorem iCountBack (B G : Nat) (p : Int) (v : Value) (L : List Gt) (hv : circB p L = true) (g off cap : Nat) (w : World) (hBG : B ≤ G) (hg : g < B) (h : DmS w G B v p (-1) (L, List.replicate L.length (-1))) (hc : ∀ j : Nat, j < L.length → GAt w g (off + j * 3) (L.getD j default)) :
    Calls Try.prog 157 #[.pointer (some ⟨G, 0, none⟩), .slice (some ⟨g, off, none⟩) L.length cap] w fun e w' =>
      ∃ v', e = .returned (.tuple #[]) ∧ DmS w' G B v' p L.length (grB L) ∧ Below B w w' ∧ Apt G G v w w' ∧ Moves v v' w := by
  obtain ⟨hp, hl1, hl2, hall⟩ := circB_iff.1 hv
  have hgs := grS_st hv
  obtain ⟨n, hn⟩ : ∃ n, n = w.heap.size := ⟨_, rfl⟩
  obtain ⟨W, hW⟩ : ∃ W, W = w.alloc (.cells #[.pointer (some ⟨G, 0, none⟩)] 212) := ⟨_, rfl⟩
  have bW : Below n w W := by rw [hW, hn]; exact (by repeat (first | exact Below.refl _ _ | apply Below.drew | apply below_drewN | (refine Below.alloc ?_ (by first | omega | (simp <;> omega)) _)))
  have hs0 : W.heap.size = n + 1 := by rw [hW, hn]; simp
  have hGw : G < n := by rw [hn]; exact h.sh.lt
  have hv0 : v.ownBlock ≠ some n := by rw [hn]; exact h.old (Nat.le_refl _)
  have hv1 : v.ownBlock ≠ some (n + 1) := by rw [hn]; exact h.old (Nat.le_succ _)
  have r0 : W.cell? ⟨n, 0, none⟩ = some (.pointer (some ⟨G, 0, none⟩)) := by rw [hW, hn]; simp [go_sem]
  obtain ⟨q, hq⟩ : ∃ q, L.length = q + 1 := ⟨L.length - 1, by omega⟩
  have hq1 : (L.length : Int) - 1 = (q : Int) := by omega
  have hq60 : (q : Int) < 60 := by omega
  have hq0 : (0 : Int) ≤ q := by omega
  have HPO := Lib.hid (fun w' (hw : DmS w' G B v p (-1) (L, List.replicate L.length (-1))) => iPutOne B G p v (L, List.replicate L.length (-1)) w' (by show L.length ≤ 4000; omega) hBG hw)
  have HDW := Lib.hid (h.below (by rw [← hn]; exact bW))
  have HCw := Lib.hid hc
  have HAL := Lib.hid hall
  have HGS := Lib.hid hgs
  have HW := Lib.hid hW
  have HN := Lib.hid hn
  have HBW := Lib.hid bW
  have HQ := Lib.hid hq
  have HQ1 := Lib.hid hq1
  clear hW hn h hc hall hgs hp bW hv hq hq1
  refine (callsIn_wide (n := 6)).1 ?_
  refine callsIn_of_wp_marks Try.func157 rfl trivial ?_ rfl
  simp only [Try.ntmps157, List.size_toArray, List.length_cons, List.length_nil, Nat.reduceAdd, Nat.reduceSub, Array.replicate_succ, Array.replicate_zero, List.push_toArray, List.append_toArray, List.nil_append, List.cons_append]
  gi_wp2_with fail
  change Code.wpIn _ _ _ _ _ _ (w.alloc (.cells #[.pointer (some ⟨G, 0, none⟩)] 212))
  rw [← HW.out, ← HN.out]
  clear HW
  rename_i KK hKK
  refine wpIn_wide.2 ?_
  refine Go.wp_mono (Q := fun e a w => e = Exit.normal ∧ KK a w) ?_ (by rintro e a w ⟨rfl, h⟩; exact h)
  refine wp_region_seq [(0, true), (1, true), (3, true), (5, true), (6, true), (2, false), (4, false), (7, true)] (fun w' => w'.cell? ⟨n, 0, none⟩ = some (.pointer (some ⟨G, 0, none⟩))) (by kernel_rfl) (by kernel_rfl) rfl (by rintro c a d v w ⟨h, _⟩; cases h) r0 ?_
  iterate 5 (refine wpSeq_take (v := ?_) (List.getElem?_toArray.trans rfl) ?_ ?_; rotate_left; (intro w' hSw; (try dsimp only at hSw); go_simp; (try with_reducible rfl)); (try simp only [Act.put, List.setIfInBounds_toArray, List.set_cons_zero, List.set_cons_succ]))
  refine wpSeq_do (List.getElem?_toArray.trans rfl) (fun K hK => ?_)
  go_simp
  refine (iLast _ L.length _ q (by omega) HQ1.out _).mono ?_
  rintro e w' ⟨rfl, rfl⟩
  refine hK _ _ r0 ?_
  clear hK K
  refine wpSeq_do (List.getElem?_toArray.trans rfl) (fun K hK => ?_)
  go_simp
  refine (HPO.out _ (HDW.out.below (by repeat (first | exact Below.refl _ _ | apply Below.drew | apply below_drewN)))).mono ?_
  rintro e w2 ⟨v2, rfl, m1, m2, m3, m4⟩
  have a2 : Apt G G v W w2 := (Apt.of_below (Below.drew (Below.refl _ _))).trans m3 (.inl rfl) (by simp)
  have b2 : Below B w w2 := (HBW.out.mono (by omega)).trans ((Below.drew (Below.refl B W)).trans m2)
  have g2 : w2.cell? ⟨n, 0, none⟩ = some (.pointer (some ⟨G, 0, none⟩)) := a2.get (by omega) (by omega) (by omega) hv0 r0
  refine hK _ _ g2 ?_
  clear hK K
  (refine wpSeq_take (v := ?_) (List.getElem?_toArray.trans rfl) ?_ ?_; rotate_left; (intro w' hSw; (try dsimp only at hSw); go_simp; (try with_reducible rfl)); (try simp only [Act.put, List.setIfInBounds_toArray, List.set_cons_zero, List.set_cons_succ]))
  refine wpSeq_nil ?_
  simp only [Exit.then]
  have c2 := m1.sh.oth (2 + q) (by omega) (by omega)
  have f2 := m1.sh.fz (2 + q) (by omega) (by omega)
  have hql : q < L.length := by have := HQ.out; omega
  obtain ⟨w3, hw3⟩ : ∃ w3, w2.setCell ⟨G, 2 + q, none⟩ (.int .i64 L.length) = w3 := ⟨_, rfl⟩
  have d3 : DmS w3 G B v2 p L.length (grS L) := by
    have := DmS.set (j := q) m1 (by simpa using hql) (by omega) (L.length : Int)
    rw [hw3] at this
    have e : L.length - 1 = q := by have := HQ.out; omega
    unfold grS
    rw [e]
    exact this
  have hm4 : Moves v v2 w := Moves.trans (.inl rfl) (Moves.trans (.inl rfl) m4 (by simp)) (Nat.le_trans HBW.out.size (Nat.le_refl _))
  have b3 : Below B w w3 := by rw [← hw3]; exact b2.setCell hBG _
  have a3 : Apt G G v w w3 := by
    rw [← hw3]
    intro b h1 h2 h3 h4
    exact (Below.heap_setCell _ _ _ _ h2).trans ((((Apt.of_below (by rw [← HN.out]; exact HBW.out)).trans a2 (.inl rfl) HBW.out.size) b h1 h2 h3 h4))
  have g3 : w3.cell? ⟨n, 0, none⟩ = some (.pointer (some ⟨G, 0, none⟩)) := by rw [← hw3, World.cell?_setCell_other _ _ _ _ (addr_ne (by omega))]; exact g2
  have s3 : n + 1 ≤ w3.heap.size := by
    have e1 : W.drew.heap.size ≤ w2.heap.size := m2.size
    have e2 : w3.heap.size = w2.heap.size := by rw [← hw3]; simp
    have e3 : W.drew.heap.size = W.heap.size := by simp
    omega
  have hv2 : v2.ownBlock ≠ some n := m4.ne (by simp; omega) hv0
  have HD3 := Lib.hid (And.intro d3 (And.intro b3 (And.intro a3 (And.intro g3 hm4))))
  have HW3 := Lib.hid hw3
  clear m1 m2 m3 m4 a2 b2 hw3 d3 b3 a3 g3 hm4
  go_wp2_with fail
  rw [HW3.out]
  clear HW3 c2 f2 g2 HPO
  gi_wp2_with fail
  refine ⟨trivial, ?_⟩
  refine (back_val Fence.wide _ trivial rfl _ _ _ _).mono ?_
  rintro e w' ⟨rfl, rfl⟩
  gi_wp2_with fail
  obtain ⟨d3, b3, a3, g3, hm4⟩ := HD3.out
  obtain ⟨m, hm⟩ : ∃ m, w3.heap.size = m := ⟨_, rfl⟩
  obtain ⟨W3, hW3⟩ : ∃ W3, w3.alloc (.cells #[.slice (some ⟨g, off, none⟩) L.length cap] 24) = W3 := ⟨_, rfl⟩
  have hs3 : W3.heap.size = m + 1 := by rw [← hW3, ← hm]; simp
  have b33 : Below m w3 W3 := by rw [← hW3]; exact Below.alloc (Below.refl _ _) (Nat.le_of_eq hm.symm) _
  have cB : W3.cell? ⟨m, 0, none⟩ = some (.slice (some ⟨g, off, none⟩) L.length cap) := by
    rw [← hW3, ← hm]
    simp [go_sem]
  have hC3 : ∀ j : Nat, j < L.length → GAt W3 g (off + j * 3) (L.getD j default) := fun j hj => ((HCw.out j hj).below b3 hg).below b33 (by omega)
  have hwB : B ≤ w.heap.size := by have := HN.out; omega
  have hw3s : w.heap.size ≤ W3.heap.size := by have := HN.out; omega
  have hv2m : v2.ownBlock ≠ some m := by rw [← hm]; exact d3.old (Nat.le_refl _)
  have hgv2 : v2.ownBlock ≠ some g := fun e => by
    have := (World.ownsRow.lt d3.row g e).1
    omega
  have hI0 : CbSt B G n p v v2 L w W3 [] W3 :=
    ⟨v2, d3.below (by rw [hm]; exact b33), (b33.cell (p := ⟨n, 0, none⟩) (by show n < m; omega)).trans g3, b3.trans (b33.mono (by omega)), a3.trans (Apt.of_below (by rw [hm]; exact b33)) hm4 b3.size, .inl rfl, HGS.out, by show L.length + 1 ≤ (L ++ [(⟨1, 1, 0⟩ : Gt)]).length; simp, Nat.le_refl _⟩
  have hnm : n < m := by omega
  rw [hm, hW3]
  have HM4 := Lib.hid hm4
  clear hW3 hm d3 b3 a3 g3 HD3 b33 hm4
  refine wpIn_rangeFunc_ownH rfl (by omega) (gf := 210) (lb := #[.pointer (some ⟨m, 0, none⟩)]) rfl trivial (enters_of Try.func210 (by kernel_rfl) rfl)
    (back_stopsG Fence.wide (6 - 1) trivial rfl (by omega) m g off cap L hl2 W3 (by omega) (by omega) cB hC3) (fun h k => KpG.trans h k) (kpG_b (by omega) (by omega)) (Below.refl _ _) (fun _ => rfl)
    (fun pre Wc => CbSt B G n p v v2 L w W3 pre Wc)
    (fun _ _ _ => False)
    (cb_own hw3s hwB)
    (fun _ _ _ _ _ hs _ _ => hs)
    hI0
    (fun x a' Wc => ∃ Bx, m < Bx ∧ (Bx < Wc.heap.size ∧ GAt Wc Bx 0 (gAt L x.1)) ∧ (∃ u, Wc.cell? ⟨G, 0, none⟩ = some u ∧ u.ownBlock ≠ some Bx) ∧ a' = { tmps := #[.pointer (some ⟨G, 0, none⟩), .slice (some ⟨g, off, none⟩) L.length cap, .pointer (some ⟨n, 0, none⟩), undef, .int .i64 ((x.1 : Nat) : Int), .pointer (some ⟨Bx, 0, none⟩), undef, .pointer (some ⟨G, 0, none⟩), .slice (some ⟨g, off, none⟩) L.length cap, .int .i64 q, .pointer (some ⟨G, 0, none⟩), .int .i64 L.length, .pointer (some ⟨G, 0, none⟩), .pointer (some ⟨G, 2, none⟩), .pointer (some ⟨G, 2 + q, none⟩), .slice (some ⟨g, off, none⟩) L.length cap, .func (.func 210) #[] #[.pointer (some ⟨m, 0, none⟩)], .int .i64 ((x.1 : Nat) : Int), .agg #[.int .i64 (gAt L x.1).k, .int .i64 (gAt L x.1).a, .int .i64 (gAt L x.1).b], undef, undef, undef, undef, undef, undef, undef, undef, undef, undef, undef, undef, undef, undef, undef, undef, undef, undef, undef, undef, undef, undef, undef, undef, undef, undef, undef, undef, undef, undef, undef, undef, undef, undef], defers := [] })
    (fun x a' _ X Y row hs hg hr => by
      obtain ⟨Bx, h1, h2, ⟨u, hu, hne⟩, h3⟩ := hs
      exact ⟨Bx, h1, gat_own Bx (gAt L x.1) () X Y row h2 hg (fun r e => (hr r e).2), ⟨u, cell_kept hu hg (fun r e => (hr r e).2), hne⟩, h3⟩)
    ?assign ?body ?done ?stop
  case assign =>
    rintro l pre x Wc K ⟨v', s1, s2, s3, s4, s5, s6, s7, s8⟩ hK
    simp only [encG]
    gi_wp2
    have b1 : Below Wc.heap.size Wc (Wc.alloc (Obj.cells #[.int .i64 (gAt L x.1).k, .int .i64 (gAt L x.1).a, .int .i64 (gAt L x.1).b] 116)) := Below.alloc (Below.refl _ _) (Nat.le_refl _) _
    have s1' := s1.below b1
    exact hK _ _ ((KeepsOthers.alloc _ _).from _) (KpG.of_below b1 (by omega) (by omega))
      ⟨v', s1', (b1.cell (p := ⟨n, 0, none⟩) (by show n < _; omega)).trans s2, s3.trans (b1.mono (by omega)), s4.trans (Apt.of_below b1) (HM4.out.trans s5 hw3s) s3.size, s5, s6, s7, Nat.le_trans s8 b1.size⟩
      ⟨Wc.heap.size, by omega, ⟨by simp, by refine ⟨?_, ?_, ?_⟩ <;> simp [go_sem]⟩, ⟨v', s1'.sh.c0, s1.old (Nat.le_refl _)⟩, rfl⟩
  case body =>
    rintro l pre x a' Wc hl ⟨r, hr⟩ ⟨v', s1, s2, s3, s4, s5, s6, s7, s8⟩ ⟨Bx, hBx, ⟨hBl, hG⟩, ⟨u, hu, hune⟩, rfl⟩ hlt
    obtain ⟨i, hil⟩ := x
    have hil : i < L.length := hil
    have hi60 : (i : Int) < 60 := by omega
    have hi0 : (0 : Int) ≤ i := by omega
    have huv : v'.ownBlock ≠ some Bx := by
      have e := s1.sh.c0.symm.trans hu
      injection e with e
      rw [e]; exact hune
    have hx0 := HAL.out i hil
    obtain ⟨y, hy⟩ : ∃ y, gAt L i = y := ⟨_, rfl⟩
    simp only [hy] at hG ⊢
    rw [hy] at hx0
    have HS := Lib.hid (bkL_snoc L L.length (grS L) pre ⟨i, hil⟩)
    obtain ⟨t, ht⟩ : ∃ t, t = bkL L L.length (grS L) pre := ⟨_, rfl⟩
    rw [← ht] at s1 s6 s7 HS
    have hst := bckS_st (one := (L.length : Int)) HAL.out hil s6 (by omega)
    have HST := Lib.hid hst
    have HY := Lib.hid hy
    have HS1 := Lib.hid s1
    have HS4 := Lib.hid (And.intro s3 (And.intro s4 s5))
    have HS6 := Lib.hid s6
    have hvn : v'.ownBlock ≠ some n := s5.ne (by omega) hv2
    have hvm : v'.ownBlock ≠ some m := s5.ne (by omega) hv2m
    have hvg : v'.ownBlock ≠ some g := fun e => by
      have := (World.ownsRow.lt s1.row g e).1
      omega
    obtain ⟨c0, c1, c2⟩ := hG
    clear hy ht hst s1 s3 s4 s6 hu hune
    gi_wp2_with fail
    refine ⟨trivial, ?_⟩
    cases hj : joinsB y
    · have HJ := Lib.hid hj
      have HE := Lib.hid (show bkL L L.length (grS L) (pre ++ [⟨i, hil⟩]) = t by rw [HS.out]; unfold bckS; rw [HY.out, if_neg (by rw [hj]; simp)])
      clear hj
      refine (CallsIn.inRound l (callsIn_wide.2 (iJoins_is false y.k y.a y.b HJ.out _))).mono ?_
      rintro e W5 ⟨rfl, hb5⟩
      have hz := hb5.size
      have HR := Lib.hid (show CbSt B G n p v v2 L w W3 (pre ++ [⟨i, hil⟩]) W5 from
        ⟨v', by rw [HE.out]; exact HS1.out.below hb5, (hb5.cell (p := ⟨n, 0, none⟩) (by show n < _; omega)).trans s2, HS4.out.1.trans (hb5.mono (by omega)), HS4.out.2.1.trans (Apt.of_below hb5) (HM4.out.trans s5 hw3s) HS4.out.1.size, s5,
          by rw [HE.out]; exact HS6.out.more (by simp; omega), by rw [HE.out]; exact s7, by omega⟩)
      clear c0 c1 c2 s2
      gi_wp2
      exact ⟨(keeps_below hb5).from _, KpG.of_below hb5 (by omega) (by omega), HR.out⟩
    · obtain ⟨yk, ya, yb⟩ := y
      have hcs := joins_ok HAL.out hil (by rw [HY.out]; exact hj)
      rw [HY.out] at hcs
      obtain ⟨_, ha, hb⟩ := hcs
      simp only at ha hb c0 c1 c2
      obtain ⟨ja, rfl⟩ := Int.eq_ofNat_of_zero_le ha.1
      obtain ⟨jb, rfl⟩ := Int.eq_ofNat_of_zero_le hb.1
      have hja : ja < i := by omega
      have hjb : jb < i := by omega
      have ja60 : (ja : Int) < 60 := by omega
      have jb60 : (jb : Int) < 60 := by omega
      have ja0 : (0 : Int) ≤ ja := by omega
      have jb0 : (0 : Int) ≤ jb := by omega
      obtain ⟨k5, hk5⟩ : ∃ k5, k5 = t.2.getD i 0 := ⟨_, rfl⟩
      obtain ⟨z1, hz1⟩ : ∃ z1, z1 = pasB (L.length : Int) yk k5 jb ja t := ⟨_, rfl⟩
      have hp1 := pasB_st (one := (L.length : Int)) (kd := yk) (k := k5) (o := (jb : Int)) (j := ja) HS6.out (by omega) (by rw [hk5]; exact (HS6.out.lo i hil).2) (by omega)
      rw [← hz1] at hp1
      have hlen := HS6.out.len
      have hmx := HS6.out.max
      have hlen1 := hp1.1.len
      have hmx1 := hp1.1.max
      have hklo : -1 ≤ k5 := by rw [hk5]; exact (HS6.out.lo i hil).1
      have HE := Lib.hid (show bkL L L.length (grS L) (pre ++ [⟨i, hil⟩]) = pasB (L.length : Int) yk k5 ja jb z1 by
        rw [HS.out]; unfold bckS; rw [HY.out, if_pos hj, hz1, hk5]; rfl)
      have HP1 := Lib.hid (fun W' (hw : DmS W' G B v' p L.length t) => iPassG B G p L.length yk k5 jb ja v' t W' hklo (HS6.out.lo ja (by omega)).1 (by omega) (by omega) (by omega) hBG hw)
      have HP2 := Lib.hid (fun v1 W' (hw : DmS W' G B v1 p L.length z1) => iPassG B G p L.length yk k5 ja jb v1 z1 W' hklo (hp1.1.lo jb (by omega)).1 (by omega) (by omega) (by omega) hBG hw)
      rw [← hz1] at HP1
      have HJ := Lib.hid hj
      have HK5 := Lib.hid hk5
      clear hj ha hb hp1 hlen1 hmx1 hz1 hklo hk5
      refine (CallsIn.inRound l (callsIn_wide.2 (iJoins_is true yk ja jb HJ.out _))).mono ?_
      rintro e W5 ⟨rfl, hb5⟩
      have hz5 := hb5.size
      have d5 := HS1.out.below hb5
      have x0 := (hb5.cell (p := ⟨Bx, 0, none⟩) hBl).trans c0
      have x1 := (hb5.cell (p := ⟨Bx, 1, none⟩) hBl).trans c1
      have x2 := (hb5.cell (p := ⟨Bx, 2, none⟩) hBl).trans c2
      have xn := (hb5.cell (p := ⟨n, 0, none⟩) (by show n < _; omega)).trans s2
      have e5 : W5.cell? ⟨G, 2 + i, none⟩ = some (.int .i64 k5) := by
        rw [d5.sh.oth (2 + i) (by omega) (by omega), HK5.out]
        exact congrArg some (csD_at (by omega) (by omega))
      have HD5 := Lib.hid d5
      have HB5 := Lib.hid hb5
      clear d5 hb5 c0 c1 c2 s2
      gi_wp2_with fail
      rename_i KK hKK
      refine Go.wpIn_mono (Q := fun e a w => e = Exit.normal ∧ KK a w) ?_ (by rintro e a w ⟨rfl, h⟩; exact h)
      refine wpIn_region_seq_round [(0, true), (1, true), (2, true), (3, true), (4, true), (5, true), (6, true), (7, true), (8, true), (9, true), (10, true), (11, true)] (fun w' => w'.cell? ⟨n, 0, none⟩ = some (.pointer (some ⟨G, 0, none⟩)) ∧ w'.cell? ⟨Bx, 0, none⟩ = some (.int .i64 yk) ∧ w'.cell? ⟨Bx, 1, none⟩ = some (.int .i64 ja) ∧ w'.cell? ⟨Bx, 2, none⟩ = some (.int .i64 jb)) (by kernel_rfl) (by kernel_rfl) (by kernel_rfl) rfl (by rintro ⟨a, w, h, _⟩; cases h) (by rintro c a d v w ⟨h, _⟩; cases h) ⟨xn, x0, x1, x2⟩ ?_
      iterate 12 (refine wpSeq_take (v := ?_) (List.getElem?_toArray.trans rfl) ?_ ?_; rotate_left; (intro w' hSw; (try dsimp only at hSw); go_simp; (try with_reducible rfl)); (try simp only [Act.put, List.setIfInBounds_toArray, List.set_cons_zero, List.set_cons_succ]))
      refine wpSeq_nil ?_
      simp only [Exit.then]
      go_wp2_with fail
      refine (HP1.out _ (HD5.out.below (by repeat (first | exact Below.refl _ _ | apply Below.drew | apply below_drewN)))).mono ?_
      rintro e w6 ⟨rfl, v6, m1, m2, m3, m4⟩
      have q3 : Apt G G v' W5 w6 := (Apt.of_below (Below.drew (Below.refl _ _))).trans m3 (.inl rfl) (by simp)
      have q4 : Moves v' v6 W5 := Moves.trans (.inl rfl) m4 (by simp)
      have q2 : Below B W5 w6 := (Below.drew (Below.refl B W5)).trans m2
      have yn : w6.cell? ⟨n, 0, none⟩ = some (.pointer (some ⟨G, 0, none⟩)) := q3.get (by omega) (by omega) (by omega) hvn xn
      have y0 : w6.cell? ⟨Bx, 0, none⟩ = some (.int .i64 yk) := q3.get (by omega) (by omega) (by omega) huv x0
      have y1 : w6.cell? ⟨Bx, 1, none⟩ = some (.int .i64 ja) := q3.get (by omega) (by omega) (by omega) huv x1
      have y2 : w6.cell? ⟨Bx, 2, none⟩ = some (.int .i64 jb) := q3.get (by omega) (by omega) (by omega) huv x2
      have hz6 := q2.size
      have HD6 := Lib.hid m1
      have HB6 := Lib.hid (And.intro q2 (And.intro q3 q4))
      clear m1 m2 m3 m4 q2 q3 q4 x0 x1 x2 xn e5
      go_wp2_with fail
      gi_wp2_with fail
      rename_i KK hKK
      refine Go.wpIn_mono (Q := fun e a w => e = Exit.normal ∧ KK .normal a w) ?_ (by rintro e a w ⟨rfl, h⟩; exact h)
      refine wpIn_region_seq_round [(0, true), (1, true), (2, true), (3, true), (4, true), (5, true), (6, true), (7, true), (8, true), (9, true), (10, true), (11, true)] (fun w' => w'.cell? ⟨n, 0, none⟩ = some (.pointer (some ⟨G, 0, none⟩)) ∧ w'.cell? ⟨Bx, 0, none⟩ = some (.int .i64 yk) ∧ w'.cell? ⟨Bx, 1, none⟩ = some (.int .i64 ja) ∧ w'.cell? ⟨Bx, 2, none⟩ = some (.int .i64 jb)) (by kernel_rfl) (by kernel_rfl) (by kernel_rfl) rfl (by rintro ⟨a, w, h, _⟩; cases h) (by rintro c a d v w ⟨h, _⟩; cases h) ⟨yn, y0, y1, y2⟩ ?_
      iterate 12 (refine wpSeq_take (v := ?_) (List.getElem?_toArray.trans rfl) ?_ ?_; rotate_left; (intro w' hSw; (try dsimp only at hSw); go_simp; (try with_reducible rfl)); (try simp only [Act.put, List.setIfInBounds_toArray, List.set_cons_zero, List.set_cons_succ]))
      refine wpSeq_nil ?_
      simp only [Exit.then]
      go_wp2_with fail
      refine (HP2.out v6 _ (HD6.out.below (by repeat (first | exact Below.refl _ _ | apply Below.drew | apply below_drewN)))).mono ?_
      rintro e w7 ⟨rfl, v7, m1, m2, m3, m4⟩
      have q3 : Apt G G v6 w6 w7 := (Apt.of_below (Below.drew (Below.refl _ _))).trans m3 (.inl rfl) (by simp)
      have q4 : Moves v6 v7 w6 := Moves.trans (.inl rfl) m4 (by simp)
      have q2 : Below B w6 w7 := (Below.drew (Below.refl B w6)).trans m2
      have u2 : Below B W5 w7 := HB6.out.1.trans q2
      have u4 : Moves v' v7 W5 := HB6.out.2.2.trans q4 hz6
      have u3 : Apt G G v' W5 w7 := HB6.out.2.1.trans q3 HB6.out.2.2 hz6
      have t2 : Below B Wc w7 := (HB5.out.mono (by omega)).trans u2
      have t3 : Apt G G v' Wc w7 := (Apt.of_below HB5.out).trans u3 (.inl rfl) hz5
      have t4 : Moves v' v7 Wc := Moves.trans (.inl rfl) u4 hz5
      have zn : w7.cell? ⟨n, 0, none⟩ = some (.pointer (some ⟨G, 0, none⟩)) := q3.get (by omega) (by omega) (by omega) (HB6.out.2.2.ne (by omega) hvn) yn
      have hz7 := t2.size
      have HR := Lib.hid (show KeepsFrom W3.heap.size Wc w7 ∧ KpG m g Wc w7 ∧ CbSt B G n p v v2 L w W3 (pre ++ [⟨i, hil⟩]) w7 from
        ⟨HS1.out.keeps t3 hz7, ⟨hz7, t3 m (by omega) (by omega) (by omega) hvm, t3 g (by omega) (by omega) (by omega) hvg⟩,
          v7, by rw [HE.out]; exact m1, zn, HS4.out.1.trans t2, HS4.out.2.1.trans t3 (HM4.out.trans s5 hw3s) HS4.out.1.size, s5.trans t4 s8,
          by rw [HS.out]; have := HST.out.1; exact this.more (by simp; omega), by rw [HS.out]; have := HST.out.2; omega, by omega⟩)
      clear m1 m2 m3 m4 q2 q3 q4 u2 u3 u4 t2 t3 t4 y0 y1 y2 yn
      go_wp2_with fail
      exact HR.out
  case done =>
    rintro D ys Wc hD rfl ⟨v', s1, s2, s3, s4, s5, s6, s7, s8⟩ hKD
    rw [bkL_all] at s1
    have hro : ∀ r, some D = some r → W3.heap.size ≤ r ∧ ∃ o : Obj, Wc.heap[r]? = some o ∧ o.isCells = false := fun r e => by cases e; exact ⟨hD, _, hKD, rfl⟩
    have hgr := grownBy_putObj' Wc D (.deferred none)
    have t1 := s1.own hgr (fun r e => (hro r e).2)
    have t2 : Below B w (Wc.putObj D (.deferred none)) := s3.trans (belowK_b (w := w) (by omega) Wc D _ _ (by omega) hKD rfl rfl)
    have t3 : Apt G G v w (Wc.putObj D (.deferred none)) := apt_own s4 s3.size hw3s hgr (fun r e => (hro r e).1)
    simp only [Exit.inBlock]
    refine ⟨by simp, .inl ⟨_, _, rfl, run_takeDeferred hKD, ?_⟩⟩
    exact ⟨_, results_none rfl _ _ _, v', rfl, t1, t2, t3, HM4.out.trans s5 hw3s⟩
  case stop =>
    rintro D c pre Wc _ _ h _
    exact h.elim
end Go.Proofs.Ytibghhkhnpjdfaa
namespace Go.Proofs.Ytibghhkhnpjdfaa
open Go.RowKit
theorem part1g (a b c : Int) (w : World) : (part 3 #[.int .i64 a, .int .i64 b, .int .i64 c] 0).run Try.prog w = .ok (.int .i64 a) w ∧ (part 3 #[.int .i64 a, .int .i64 b, .int .i64 c] 1).run Try.prog w = .ok (.int .i64 b) w ∧ (part 3 #[.int .i64 a, .int .i64 b, .int .i64 c] 2).run Try.prog w = .ok (.int .i64 c) w := by
  refine ⟨?_, ?_, ?_⟩ <;> simp [part, go_sem]
theorem runEqGt (a b c a' b' c' : Int) (w : World) : (Op.equalIn 10000 116 (.agg #[.int .i64 a, .int .i64 b, .int .i64 c]) (.agg #[.int .i64 a', .int .i64 b', .int .i64 c'])).run Try.prog w = .ok (a == a' && b == b' && c == c') w := by
  rw [show (10000 : Nat) = 9999 + 1 from rfl,
    run_equalIn_struct w 9999 _ _ _ (by unfold Program.fieldsOf; rw [Try.underlying116]) (by kernel_rfl)]
  unfold Program.fieldsOf
  rw [Try.underlying116]
  have h2 := fun x y w => run_equalIn_int (P := Try.prog) w 9998 3 .i64 .i64 x y Try.underlying3
  simp only [Op.eqFields, Sem.run_bind, Sem.run_ite, part1g, Result.andThen_ok, h2]
  by_cases e1 : a = a' <;> by_cases e2 : b = b' <;> by_cases e3 : c = c' <;> simp [e1, e2, e3, Sem.run_pure]
theorem runEqGt_is (r : Bool) (a b c a' b' c' : Int) (h : (a == a' && b == b' && c == c') = r) (w : World) : (Op.equalIn 10000 116 (.agg #[.int .i64 a, .int .i64 b, .int .i64 c]) (.agg #[.int .i64 a', .int .i64 b', .int .i64 c'])).run Try.prog w = .ok r w := by
  rw [runEqGt, h]
set_option maxRecDepth 100000 in
set_option maxHeartbeats 4000000 in
/-- the gate of 1, put already or not -/
theorem iPutAny (B G : Nat) (p one : Int) (v : Value) (s : List Gt × List Int) (w : World) (ho : -1 ≤ one) (hl : s.1.length ≤ 4000) (hBG : B ≤ G) (h : DmS w G B v p one s) :
    Calls Try.prog 197 #[.pointer (some ⟨G, 0, none⟩)] w fun e w' => ∃ v', e = .returned (.int .i64 (if one < 0 then (s.1.length : Int) else one)) ∧
      DmS w' G B v' p (if one < 0 then (s.1.length : Int) else one) (if one < 0 then (s.1 ++ [⟨1, 1, 0⟩], s.2) else s) ∧ Below B w w' ∧ Apt G G v w w' ∧ Moves v v' w := by
  by_cases h0 : one < 0
  · have e : one = -1 := by omega
    subst e
    simp only [if_pos h0]
    exact iPutOne B G p v s w hl hBG h
  · simp only [if_neg h0]
    have c1 : w.cell? ⟨G, 62, none⟩ = some (.int .i64 one) := h.sh.oth 62 (by omega) (by omega)
    have hne : ¬ one = -1 := by omega
    have H := Lib.hid h
    clear h h0
    go_enter Try.func197, Try.ntmps197
    go_wp2_with fail
    go_ret
    exact ⟨v, rfl, H.out, Below.refl _ _, Apt.of_below (Below.refl _ _), .inl rfl⟩
/-- the state of the loop over the gates -/
def FwSt (B G : Nat) (p : Int) (v : Value) (w : World) (t : Int × (List Gt × List Int)) (wr : World) (v' : Value) : Prop :=
  DmS wr G B v' p t.1 t.2 ∧ Below B w wr ∧ Apt G G v w wr ∧ Moves v v' w
theorem FwSt.on {B G : Nat} {p : Int} {v v' v2 : Value} {w wr w2 : World} {t t2 : Int × (List Gt × List Int)} (h : FwSt B G p v w t wr v') (hd : DmS w2 G B v2 p t2.1 t2.2) (hb : Below B wr w2) (ha : Apt G G v' wr w2) (hm : Moves v' v2 wr) : FwSt B G p v w t2 w2 v2 :=
  ⟨hd, h.2.1.trans hb, h.2.2.1.trans ha h.2.2.2 h.2.1.size, h.2.2.2.trans hm h.2.1.size⟩
theorem FwSt.below {B G : Nat} {p : Int} {v v' : Value} {w wr w2 : World} {t : Int × (List Gt × List Int)} (h : FwSt B G p v w t wr v') (hBG : B ≤ G) (hb : Below wr.heap.size wr w2) : FwSt B G p v w t w2 v' :=
  h.on (h.1.below hb) (hb.mono (by have := h.1.sh.lt; omega)) (Apt.of_below hb) (.inl rfl)
set_option maxRecDepth 100000 in
set_option maxHeartbeats 16000000 in
theorem iCountForward (B G : Nat) (p vv : Int) (v : Value) (L : List Gt) (hv : circB p L = true) (g off cap : Nat) (w : World) (hBG : B ≤ G) (hg : g < B) (h : DmS w G B v p (-1) (L, List.replicate L.length (-1))) (hc : ∀ j : Nat, j < L.length → GAt w g (off + j * 3) (L.getD j default)) :
    Calls Try.prog 148 #[.pointer (some ⟨G, 0, none⟩), .slice (some ⟨g, off, none⟩) L.length cap, .int .i64 vv] w fun e w' =>
      ∃ v', e = .returned (.tuple #[]) ∧ FwSt B G p v w (fwN L vv L.length) w' v' := by
  obtain ⟨hp, hl1, hl2, hall⟩ := circB_iff.1 hv
  have H0 := Lib.hid (show FwSt B G p v w (fwN L vv 0) w v from ⟨h, Below.refl _ _, Apt.of_below (Below.refl _ _), .inl rfl⟩)
  have HCw := Lib.hid hc
  have HFN := Lib.hid (fun k hk => fwN_st (v := vv) hv k hk)
  have HAL := Lib.hid hall
  have hlp : (L.length : Int) ≤ 60 := by omega
  clear h hc hall hp hv
  go_enter Try.func148, Try.ntmps148
  go_wp2_with fail
  go_loopw [10] (fun i wr => ∃ (k : Nat) (v' : Value), k ≤ L.length ∧ i = .int .i64 k ∧ FwSt B G p v w (fwN L vv k) wr v') (fun i _ => L.length - (intOf i).toNat)
  case atStart => exact ⟨0, v, by omega, rfl, H0.out⟩
  case round =>
    clear H0
    obtain ⟨k, v', hk, rfl, hS⟩ := hrel
    by_cases hlt : k < L.length
    · have hltp : (k : Int) < (L.length : Int) := by omega
      have hk0 : (0 : Int) ≤ (k : Int) := by omega
      have hk60 : (k : Int) < 60 := by omega
      obtain ⟨a0, a1, a2⟩ := (HCw.out k hlt).below hS.2.1 hg
      obtain ⟨x', hx⟩ : ∃ x, x = L.getD k default := ⟨_, rfl⟩
      rw [← hx] at a0 a1 a2
      have hx0 := HAL.out k hlt
      rw [← gat_mk hx] at hx0
      have hcs := gOK_cases hx0
      simp only at hcs
      have hGA := (gat_mk hx).symm
      have hF := HFN.out k (by omega)
      obtain ⟨t, ht⟩ : ∃ t, t = fwN L vv k := ⟨_, rfl⟩
      rw [← ht] at hS hF
      have hts : fwN L vv (k + 1) = fwS L vv k t := by rw [ht]; rfl
      obtain ⟨xk, xa, xb⟩ := x'
      simp only at a0 a1 a2 hcs hGA
      obtain ⟨tb, htb⟩ : ∃ tb, tb = wr.heap.size := ⟨_, rfl⟩
      obtain ⟨W6, hW6⟩ : ∃ W6, W6 = wr.alloc (Obj.cells #[.int .i64 xk, .int .i64 xa, .int .i64 xb] 116) := ⟨_, rfl⟩
      have b6 : Below wr.heap.size wr W6 := by rw [hW6]; exact (by repeat (first | exact Below.refl _ _ | apply Below.drew | apply below_drewN | (refine Below.alloc ?_ (by first | omega | (simp <;> omega)) _)))
      have t0 : W6.cell? ⟨tb, 0, none⟩ = some (.int .i64 xk) := by rw [hW6, htb]; simp [go_sem]
      have t1 : W6.cell? ⟨tb, 1, none⟩ = some (.int .i64 xa) := by rw [hW6, htb]; simp [go_sem]
      have t2 : W6.cell? ⟨tb, 2, none⟩ = some (.int .i64 xb) := by rw [hW6, htb]; simp [go_sem]
      have tl : tb < W6.heap.size := by rw [hW6, htb]; simp
      have hvb : v'.ownBlock ≠ some tb := by rw [htb]; exact hS.1.old (Nat.le_refl _)
      have hGb : tb ≠ G := by have := hS.1.sh.lt; omega
      have hS6 := hS.below hBG b6
      have HS6 := Lib.hid hS6
      have HW6 := Lib.hid hW6
      have HTB := Lib.hid htb
      have HGA := Lib.hid hGA
      have HTS := Lib.hid hts
      have HF := Lib.hid hF
      clear hx hx0 hW6 htb b6 hS hS6 hGA hts ht hF
      go_upto_region 3 with fail
      rw [← HW6.out, ← HTB.out]
      clear HW6 HTB a0 a1 a2
      by_cases hk0' : xk = 0 ∧ xa = vv
      · obtain ⟨rfl, rfl⟩ := hk0'
        have hxb : xb = 0 := by omega
        subst hxb
        have HEQ := fun w => runEqGt_is true 0 xa 0 0 xa 0 (by simp) w
        have hmx := HF.out.1.st.max
        have HPA := Lib.hid (fun w' (hw : DmS w' G B v' p t.1 t.2) => iPutAny B G p t.1 v' t.2 w' HF.out.1.lo.1 (by omega) hBG hw)
        have HE := Lib.hid (show fwN L xa (k + 1) = ((if t.1 < 0 then (t.2.1.length : Int) else t.1), ((if t.1 < 0 then (t.2.1 ++ [⟨1, 1, 0⟩], t.2.2) else t.2).1, (if t.1 < 0 then (t.2.1 ++ [⟨1, 1, 0⟩], t.2.2) else t.2).2.set k (if t.1 < 0 then (t.2.1.length : Int) else t.1))) by
          rw [HTS.out]
          unfold fwS
          rw [HGA.out]
          simp only [beq_self_eq_true, if_true]
          split <;> rfl)
        have hlen := HF.out.1.st.len
        go_wp2_with fail
        refine wp_region_seq [(0, true), (1, true), (2, true), (4, true), (5, true), (3, false), (6, true)] (fun _ => True) (by kernel_rfl) (by kernel_rfl) rfl (by intro c a d v w h; cases d <;> exact h) trivial ?_
        iterate 5 (refine wpSeq_take (v := ?_) (List.getElem?_toArray.trans rfl) ?_ ?_; rotate_left; (intro w' hSw; (try dsimp only at hSw); go_simp; (try with_reducible rfl)); (try simp only [Act.put, List.setIfInBounds_toArray, List.set_cons_zero, List.set_cons_succ]))
        refine wpSeq_do (List.getElem?_toArray.trans rfl) (fun K hK => ?_)
        go_simp
        refine (HPA.out _ (HS6.out.1.below (by repeat (first | exact Below.refl _ _ | apply Below.drew | apply below_drewN)))).mono ?_
        rintro e w2 ⟨v2, rfl, m1, m2, m3, m4⟩
        refine hK _ _ trivial ?_
        clear hK K
        (refine wpSeq_take (v := ?_) (List.getElem?_toArray.trans rfl) ?_ ?_; rotate_left; (intro w' hSw; (try dsimp only at hSw); go_simp; (try with_reducible rfl)); (try simp only [Act.put, List.setIfInBounds_toArray, List.set_cons_zero, List.set_cons_succ]))
        refine wpSeq_nil ?_
        simp only [Exit.then]
        have hl2' : (if t.1 < 0 then (t.2.1 ++ [(⟨1, 1, 0⟩ : Gt)], t.2.2) else t.2).2.length = L.length := by split <;> exact hlen
        obtain ⟨u, hu⟩ : ∃ u, u = (if t.1 < 0 then (t.2.1.length : Int) else t.1) := ⟨_, rfl⟩
        have c2 := m1.sh.oth (2 + k) (by omega) (by omega)
        have f2 := m1.sh.fz (2 + k) (by omega) (by omega)
        have hR := HS6.out.on (t2 := fwN L xa (k + 1)) (v2 := v2) (w2 := w2.setCell ⟨G, 2 + k, none⟩ (.int .i64 u)) (by rw [HE.out, ← hu]; rw [← hu] at m1; exact DmS.set m1 (by rw [hl2']; exact hlt) (by omega) u)
          (((Below.drew (Below.refl B W6)).trans m2).setCell hBG _)
          (fun b q1 q2 q3 q4 => (Below.heap_setCell _ _ _ _ q2).trans (((Apt.of_below (Below.drew (Below.refl _ _))).trans m3 (.inl rfl) (by simp)) b q1 q2 q3 q4))
          (Moves.trans (.inl rfl) m4 (by simp))
        have HR := Lib.hid hR
        rw [← hu]
        clear m1 m2 m3 m4 hR hu hl2' HE HPA
        go_wp2_with fail
        go_roundw
        case rel => exact ⟨k + 1, v2, by omega, by go_num, HR.out⟩
        case measure => first | (simp [intOf]; done) | (simp [intOf]; omega)
      · have HEQ := fun w => runEqGt_is false xk xa xb 0 vv 0 (by
          by_cases e1 : xk = 0
          · by_cases e2 : xa = vv
            · exact absurd ⟨e1, e2⟩ hk0'
            · simp [e2]
          · simp [e1]) w
        go_wp2_with fail
        cases hj : joinsB ⟨xk, xa, xb⟩
        · have HJ := Lib.hid hj
          have HE := Lib.hid (show fwN L vv (k + 1) = t by
            rw [HTS.out]
            unfold fwS
            rw [HGA.out]
            by_cases e1 : xk = 0
            · subst e1
              have e2 : ¬ xa = vv := fun e => hk0' ⟨rfl, e⟩
              simp [e2]
            · simp [e1, hj])
          clear hj
          refine (iJoins_is false xk xa xb HJ.out _).mono ?_
          rintro e W7 ⟨rfl, hb7⟩
          have HR := Lib.hid (HS6.out.below hBG hb7)
          clear hb7 t0 t1 t2 HS6
          go_wp2_with fail
          go_roundw
          case rel => exact ⟨k + 1, v', by omega, by go_num, by rw [HE.out]; exact HR.out⟩
          case measure => first | (simp [intOf]; done) | (simp [intOf]; omega)
        · have HJ := Lib.hid hj
          have hyk : xk = 2 ∨ xk = 3 := by simpa [joinsB] using hj
          obtain ⟨ja, rfl⟩ := Int.eq_ofNat_of_zero_le (show 0 ≤ xa by omega)
          obtain ⟨jb, rfl⟩ := Int.eq_ofNat_of_zero_le (show 0 ≤ xb by omega)
          have hja : ja < k := by omega
          have hjb : jb < k := by omega
          have ja60 : (ja : Int) < 60 := by omega
          have jb60 : (jb : Int) < 60 := by omega
          have ja0 : (0 : Int) ≤ ja := by omega
          have jb0 : (0 : Int) ≤ jb := by omega
          obtain ⟨k5, hk5⟩ : ∃ k5, k5 = t.2.2.getD ja 0 := ⟨_, rfl⟩
          obtain ⟨z1, hz1⟩ : ∃ z1, z1 = pasB t.1 xk k5 jb k t.2 := ⟨_, rfl⟩
          obtain ⟨k6, hk6⟩ : ∃ k6, k6 = z1.2.getD jb 0 := ⟨_, rfl⟩
          have hst := HF.out.1.st
          have hp1 := pasB_st (one := t.1) (kd := xk) (k := k5) (o := (jb : Int)) (j := k) hst hlt (by rw [hk5]; exact (hst.lo ja (by omega)).2) (by have := HF.out.2.1; omega)
          rw [← hz1] at hp1
          have hlen := hst.len
          have hmx := hst.max
          have hlen1 := hp1.1.len
          have hmx1 := hp1.1.max
          have hklo : -1 ≤ k5 := by rw [hk5]; exact (hst.lo ja (by omega)).1
          have hklo6 : -1 ≤ k6 := by rw [hk6]; exact (hp1.1.lo jb (by omega)).1
          have HE := Lib.hid (show fwN L vv (k + 1) = (t.1, pasB t.1 xk k6 ja k z1) by
            have e1 : ¬ xk = 0 := by omega
            rw [HTS.out]; unfold fwS; rw [HGA.out, hk6, hz1, hk5]
            simp only [beq_iff_eq, e1, if_false, hj, if_true, Int.toNat_natCast])
          have HP1 := Lib.hid (fun W' (hw : DmS W' G B v' p t.1 t.2) => iPassG B G p t.1 xk k5 jb k v' t.2 W' hklo (hst.lo k hlt).1 (by omega) (by omega) (by omega) hBG hw)
          have HP2 := Lib.hid (fun v1 W' (hw : DmS W' G B v1 p t.1 z1) => iPassG B G p t.1 xk k6 ja k v1 z1 W' hklo6 (hp1.1.lo k hlt).1 (by omega) (by omega) (by omega) hBG hw)
          rw [← hz1] at HP1
          have HK5 := Lib.hid hk5
          have HK6 := Lib.hid hk6
          have HL := Lib.hid (And.intro hlen hlen1)
          clear hj hst hp1 hlen1 hlen hmx1 hz1 hklo hklo6 hk5 hk6 hcs hyk
          refine (iJoins_is true xk ja jb HJ.out _).mono ?_
          rintro e W7 ⟨rfl, hb7⟩
          have hz7 := hb7.size
          have x0 := (hb7.cell (p := ⟨tb, 0, none⟩) tl).trans t0
          have x1 := (hb7.cell (p := ⟨tb, 1, none⟩) tl).trans t1
          have x2 := (hb7.cell (p := ⟨tb, 2, none⟩) tl).trans t2
          have hS7 := HS6.out.below hBG hb7
          have xg : W7.cell? ⟨G, 2 + ja, none⟩ = some (.int .i64 k5) := by
            rw [hS7.1.sh.oth (2 + ja) (by omega) (by omega), HK5.out]
            exact congrArg some (csD_at (by rw [HL.out.1]; omega) (by omega))
          have HS7 := Lib.hid hS7
          clear hb7 t0 t1 t2 HS6 hS7
          go_wp2_with fail
          refine wp_region_seq [(0, true), (1, true), (2, true), (3, true), (4, true), (5, true), (6, true), (7, true), (8, true), (9, true), (10, true), (11, true), (12, true), (13, true), (14, true), (15, true), (16, true)] (fun w' => w'.cell? ⟨tb, 0, none⟩ = some (.int .i64 xk) ∧ w'.cell? ⟨tb, 1, none⟩ = some (.int .i64 ja) ∧ w'.cell? ⟨tb, 2, none⟩ = some (.int .i64 jb) ∧ w'.cell? ⟨G, 2 + ja, none⟩ = some (.int .i64 k5)) (by kernel_rfl) (by kernel_rfl) rfl (by intro c a d v w h; cases d <;> exact h) ⟨x0, x1, x2, xg⟩ ?_
          iterate 17 (refine wpSeq_take (v := ?_) (List.getElem?_toArray.trans rfl) ?_ ?_; rotate_left; (intro w' hSw; (try dsimp only at hSw); go_simp; (try with_reducible rfl)); (try simp only [Act.put, List.setIfInBounds_toArray, List.set_cons_zero, List.set_cons_succ]))
          refine wpSeq_nil ?_
          simp only [Exit.then]
          go_wp2_with fail
          refine (HP1.out _ (HS7.out.1.below (by repeat (first | exact Below.refl _ _ | apply Below.drew | apply below_drewN)))).mono ?_
          rintro e w8 ⟨rfl, v8, m1, m2, m3, m4⟩
          have q3 : Apt G G v' W7 w8 := (Apt.of_below (Below.drew (Below.refl _ _))).trans m3 (.inl rfl) (by simp)
          have y0 : w8.cell? ⟨tb, 0, none⟩ = some (.int .i64 xk) := q3.get (by omega) hGb hGb hvb x0
          have y1 : w8.cell? ⟨tb, 1, none⟩ = some (.int .i64 ja) := q3.get (by omega) hGb hGb hvb x1
          have y2 : w8.cell? ⟨tb, 2, none⟩ = some (.int .i64 jb) := q3.get (by omega) hGb hGb hvb x2
          have yg : w8.cell? ⟨G, 2 + jb, none⟩ = some (.int .i64 k6) := by
            rw [m1.sh.oth (2 + jb) (by omega) (by omega), HK6.out]
            exact congrArg some (csD_at (by rw [HL.out.2]; omega) (by omega))
          have HS8 := Lib.hid (HS7.out.on (t2 := (t.1, z1)) m1 ((Below.drew (Below.refl B W7)).trans m2) q3 (Moves.trans (.inl rfl) m4 (by simp)))
          clear m1 m2 m3 m4 q3 x0 x1 x2 xg HS7
          go_wp2_with fail
          refine wp_region_seq [(0, true), (1, true), (2, true), (3, true), (4, true), (5, true), (6, true), (7, true), (8, true), (9, true), (10, true), (11, true), (12, true), (13, true), (14, true), (15, true), (16, true)] (fun w' => w'.cell? ⟨tb, 0, none⟩ = some (.int .i64 xk) ∧ w'.cell? ⟨tb, 1, none⟩ = some (.int .i64 ja) ∧ w'.cell? ⟨tb, 2, none⟩ = some (.int .i64 jb) ∧ w'.cell? ⟨G, 2 + jb, none⟩ = some (.int .i64 k6)) (by kernel_rfl) (by kernel_rfl) rfl (by intro c a d v w h; cases d <;> exact h) ⟨y0, y1, y2, yg⟩ ?_
          iterate 17 (refine wpSeq_take (v := ?_) (List.getElem?_toArray.trans rfl) ?_ ?_; rotate_left; (intro w' hSw; (try dsimp only at hSw); go_simp; (try with_reducible rfl)); (try simp only [Act.put, List.setIfInBounds_toArray, List.set_cons_zero, List.set_cons_succ]))
          refine wpSeq_nil ?_
          simp only [Exit.then]
          go_wp2_with fail
          refine (HP2.out v8 _ (HS8.out.1.below (by repeat (first | exact Below.refl _ _ | apply Below.drew | apply below_drewN)))).mono ?_
          rintro e w9 ⟨rfl, v9, m1, m2, m3, m4⟩
          have HR := Lib.hid (HS8.out.on (t2 := fwN L vv (k + 1)) (by rw [HE.out]; exact m1) ((Below.drew (Below.refl B w8)).trans m2) ((Apt.of_below (Below.drew (Below.refl _ _))).trans m3 (.inl rfl) (by simp)) (Moves.trans (.inl rfl) m4 (by simp)))
          clear m1 m2 m3 m4 y0 y1 y2 yg HS8
          go_wp2_with fail
          go_roundw
          case rel => exact ⟨k + 1, v9, by omega, by go_num, HR.out⟩
          case measure => first | (simp [intOf]; done) | (simp [intOf]; omega)
    · have hke : k = L.length := by omega
      subst hke
      have HS := Lib.hid hS
      clear hS hlt hk
      go_wp2_with fail
      refine bodyPost_end (v := .tuple #[]) (by simp [results, Try.results148, go_sem]) rfl ⟨v', rfl, HS.out⟩
end Go.Proofs.Ytibghhkhnpjdfaa
