/-
  A range over slices.Backward whose body may write anywhere but into the slice that it ranges over. Conditions: what the slice holds is known.
-/
import Derived.Test.YtfpjflghgmcgbaaBd5
import Derived.Test.YtfpjflghgmcgbaaBd7
namespace Go.Proofs.Ytfpjflghgmcgbaa
open Go.RowKit Go.Shelf
attribute [local go_sem] Oper.semAt_some
/-- the slice's box and the slice's gates lie as they lay -/
structure KpG (Bs g : Nat) (w w' : World) : Prop where
  size : w.heap.size ≤ w'.heap.size
  b1 : w'.heap[Bs]? = w.heap[Bs]?
  b2 : w'.heap[g]? = w.heap[g]?
theorem KpG.refl (Bs g : Nat) (w : World) : KpG Bs g w w := ⟨Nat.le_refl _, rfl, rfl⟩
theorem KpG.trans {Bs g : Nat} {a b c : World} (h : KpG Bs g a b) (k : KpG Bs g b c) : KpG Bs g a c := ⟨Nat.le_trans h.size k.size, k.b1.trans h.b1, k.b2.trans h.b2⟩
theorem KpG.of_below {Bs g n : Nat} {w w' : World} (h : Below n w w') (h1 : Bs < n) (h2 : g < n) : KpG Bs g w w' := ⟨h.size, h.block _ h1, h.block _ h2⟩
set_option maxRecDepth 100000 in
set_option maxHeartbeats 4000000 in
theorem back_inG (F : Fence) (n : Nat) (hF : F.fn 135) (hro : F.round = none) (hn : 1 ≤ n) (l Bs g off cap : Nat) (L : List Gt) (hL : L.length ≤ 60)
    (J Jx : List (Fin L.length) → World → Prop)
    (hY : ∀ pre x W, J pre W → pre.length < L.length → YieldAt F (n - 1) Try.prog l (encG L x) W fun e W' =>
      (e = .returned (.bool true) ∧ J (pre ++ [x]) W' ∧ KpG Bs g W W') ∨ (e = .returned (.bool false) ∧ Jx (pre ++ [x]) W'))
    (W : World) (hBs : W.cell? ⟨Bs, 0, none⟩ = some (.slice (some ⟨g, off, none⟩) L.length cap)) (hc : ∀ j : Nat, j < L.length → GAt W g (off + j * 3) (L.getD j default)) (h0 : J [] W) :
    CallsIn F n Try.prog 135 #[.func (.yield l) #[] #[], .pointer (some ⟨Bs, 0, none⟩)] W fun e W' => (∃ v, e = .returned v) ∧
      ((∃ ys, ys = bkTo L.length L.length (Nat.le_refl _) ∧ J ys W') ∨ (∃ pre, (∃ k, ∃ h : k ≤ L.length, pre = bkTo L.length k h) ∧ Jx pre W')) := by
  have HC := Lib.hid hc
  clear hc
  refine callsIn_of_wp Try.func135 rfl hF ?_ hro
  simp only [Try.ntmps135, List.size_toArray, List.length_cons, List.length_nil, Nat.reduceAdd, Nat.reduceSub, Array.replicate_succ, Array.replicate_zero, List.push_toArray, List.append_toArray, List.nil_append, List.cons_append]
  gi_wp2
  gi_loopw [3] (fun i wr => ∃ m : Nat, ∃ h : m ≤ L.length, i = .int .i64 ((L.length : Int) - 1 - m) ∧ J (bkTo L.length m h) wr ∧ KpG Bs g W wr) (fun i _ => (intOf i + 1).toNat)
  case atStart => exact ⟨0, Nat.zero_le _, by simp, h0, KpG.refl _ _ _⟩
  case round =>
    obtain ⟨m, hm, rfl, hJ, hK⟩ := hrel
    by_cases hlt : m < L.length
    · obtain ⟨i, hi⟩ : ∃ i : Nat, L.length - 1 - m = i := ⟨_, rfl⟩
      have hij : (L.length : Int) - 1 - m = (i : Int) := by omega
      rw [hij]
      have hil : i < L.length := by omega
      have hilp : (i : Int) < (L.length : Int) := by omega
      have hi0 : (0 : Int) ≤ (i : Int) := by omega
      have hwi : IntKind.i64.wrap ((i : Int) - 1) = (i : Int) - 1 := IntWalk.i64_in _ (by omega)
      have HNX := Lib.hid (show (i : Int) - 1 = (L.length : Int) - 1 - ((m + 1 : Nat) : Int) by omega)
      have cB := (cell_of_heap hK.b1).trans hBs
      obtain ⟨a0, a1, a2⟩ := HC.out i hil
      have b0 := (cell_of_heap hK.b2).trans a0
      have b1 := (cell_of_heap hK.b2).trans a1
      have b2 := (cell_of_heap hK.b2).trans a2
      obtain ⟨fn, tmps, assign, body, hy, hR⟩ := hY _ ⟨i, hil⟩ wr hJ (by rw [bkTo_len]; exact hlt)
      obtain ⟨x, hx⟩ : ∃ x, x = gAt L i := ⟨_, rfl⟩
      simp only [encG, ← hx] at hy
      have hx2 : L.getD i default = x := hx.symm
      rw [hx2] at b0 b1 b2
      have HE := Lib.hid (show bkTo L.length (m + 1) hlt = bkTo L.length m hm ++ [⟨i, hil⟩] by simp only [bkTo, hi])
      clear hx hx2 a0 a1 a2 hi hij
      gi_wp2
      refine hR.mono ?_
      rintro e W3 (⟨rfl, hJ3, hk3⟩ | ⟨rfl, hJx3⟩)
      · have hKK := hK.trans hk3
        rw [← HE.out] at hJ3
        clear hR hy b0 b1 b2 cB
        gi_wp2
        go_roundw
        case rel => exact ⟨m + 1, hlt, by rw [HNX.out], hJ3, hKK⟩
        case measure => simp [intOf] <;> omega
      · gi_wp2
        refine bodyPost_ret (results_none rfl _ _ _) rfl ?_
        exact ⟨⟨_, rfl⟩, .inr ⟨_, ⟨m + 1, hlt, HE.out.symm⟩, hJx3⟩⟩
    · have hml : m = L.length := by omega
      subst hml
      have hij : (L.length : Int) - 1 - (L.length : Int) = -1 := by omega
      rw [hij]
      gi_wp2
      go_end0
      exact ⟨⟨_, rfl⟩, .inl ⟨_, rfl, hJ⟩⟩
theorem back_stopsG (F : Fence) (n : Nat) (hF : F.fn 135) (hro : F.round = none) (hn : 1 ≤ n) (Bs g off cap : Nat) (L : List Gt) (hL : L.length ≤ 60) (w : World) (hg : g < w.heap.size) (hB : Bs < w.heap.size)
    (hBs : w.cell? ⟨Bs, 0, none⟩ = some (.slice (some ⟨g, off, none⟩) L.length cap)) (hc : ∀ j : Nat, j < L.length → GAt w g (off + j * 3) (L.getD j default)) :
    SeqStopsK F n Try.prog 135 #[.pointer (some ⟨Bs, 0, none⟩)] (encG L) (KpG Bs g) (fun ys => ys = bkTo L.length L.length (Nat.le_refl _)) (fun pre => ∃ k, ∃ h : k ≤ L.length, pre = bkTo L.length k h) L.length w := fun l J Jx W hW _ _ hY h0 =>
  back_inG F n hF hro hn l Bs g off cap L hL J Jx hY W ((hW.cell (p := ⟨Bs, 0, none⟩) (by show Bs < _; omega)).trans hBs) (fun j hj => (hc j hj).below hW (by omega)) h0
theorem kpG_b {Bs g : Nat} {w : World} (hB : Bs < w.heap.size) (hg : g < w.heap.size) (W : World) (l : Nat) (o o' : Obj) (hl : w.heap.size ≤ l) (h : W.heap[l]? = some o) (h1 : o.isCells = false) (h2 : o.isWalk = false) : KpG Bs g W (W.putObj l o') :=
  KpG.of_below (belowK_b (Nat.le_refl w.heap.size) W l o o' hl h h1 h2) hB hg
/-- what the rounds make -/
def bkL (L : List Gt) (one : Int) (s : List Gt × List Int) (pre : List (Fin L.length)) : List Gt × List Int := pre.foldl (fun t x => bckS L one x.1 t) s
theorem bkL_snoc (L : List Gt) (one : Int) (s : List Gt × List Int) (pre : List (Fin L.length)) (x : Fin L.length) : bkL L one s (pre ++ [x]) = bckS L one x.1 (bkL L one s pre) := by simp [bkL]
theorem bkL_to (L : List Gt) (one : Int) (s : List Gt × List Int) : ∀ (m : Nat) (h : m ≤ L.length), bckN L one (L.length - m) (bkL L one s (bkTo L.length m h)) = bckN L one L.length s
  | 0, _ => rfl
  | m + 1, h => by
    rw [← bkL_to L one s m (by omega), bkTo, bkL_snoc]
    obtain ⟨k, hk⟩ : ∃ k, L.length - m = k + 1 := ⟨L.length - m - 1, by omega⟩
    rw [hk, show L.length - (m + 1) = k by omega]
    show _ = bckN L one k (bckS L one k _)
    congr 2
    show L.length - 1 - m = k
    omega
theorem bkL_all (L : List Gt) (one : Int) (s : List Gt × List Int) : bkL L one s (bkTo L.length L.length (Nat.le_refl _)) = bckN L one L.length s := by
  have := bkL_to L one s L.length (Nat.le_refl _)
  rw [Nat.sub_self] at this
  exact this
/-- what is no cells lies as it lay, where a maker has put -/
theorem MkQ.keeps {W W' : World} {G R n Bk : Nat} {v : Value} {cs : Nat → Value} {C : List Gt} (h : MkQ W G R v n cs C) (ha : Apt G G v W W') (hs : W.heap.size ≤ W'.heap.size) : KeepsFrom Bk W W' := by
  refine ⟨hs, fun k o _ hk ho => ?_⟩
  have hkl := (Array.getElem?_eq_some_iff.1 hk).1
  refine (ha k hkl ?_ ?_ ?_).trans hk
  · rintro rfl
    obtain ⟨o', ho', hc'⟩ := cells_of_cell h.sh.c0
    rw [show W.heap[k]? = some o' from ho'] at hk
    cases hk
    rw [hc'] at ho
    cases ho
  · rintro rfl
    obtain ⟨o', ho', hc'⟩ := cells_of_cell h.sh.c0
    rw [show W.heap[k]? = some o' from ho'] at hk
    cases hk
    rw [hc'] at ho
    cases ho
  · intro e
    obtain ⟨_, hh | ⟨b, c, cur, h1, h2, h3, _⟩⟩ := h.row
    · rw [hh.1] at e
      cases e
    · rw [h1] at e
      have e2 : b = k := by simpa [Value.ownBlock] using e
      subst e2
      rw [h3] at hk
      cases hk
      cases ho
theorem MkQ.own {X Y : World} {G R n : Nat} {v : Value} {cs : Nat → Value} {C : List Gt} {row : Option Nat} (h : MkQ X G R v n cs C) (hg : X.grownBy Y row) (hr : ∀ r, row = some r → ∃ o : Obj, X.heap[r]? = some o ∧ o.isCells = false) : MkQ Y G R v n cs C := by
  refine ⟨⟨cell_kept h.sh.c0 hg hr, fun i h1 h2 => cell_kept (h.sh.oth i h1 h2) hg hr, (frozen_kept h.sh.c0 hg hr).trans h.sh.f0, Nat.lt_of_lt_of_le h.sh.lt hg.size, fun i h1 h2 => (frozen_kept (h.sh.oth i h1 h2) hg hr).trans (h.sh.fz i h1 h2)⟩, ?_, h.ne⟩
  refine World.ownsRow.kept (row := row) h.row hg ?_
  by_cases hvn : v.ownBlock = none
  · exact .inl hvn
  cases hrow : row with
  | none => exact .inr hvn
  | some r =>
    refine .inr fun e => ?_
    obtain ⟨o, ho, hc⟩ := hr r hrow
    obtain ⟨_, hh | ⟨b, c, cur, h1, h2, h3, _⟩⟩ := h.row
    · rw [hh.1] at e
      cases e
    · rw [h1] at e
      have e2 : b = r := by simpa [Value.ownBlock] using e
      subst e2
      rw [h3] at ho
      cases ho
      cases hc
theorem apt_own {w X Y : World} {G Bk : Nat} {v : Value} {row : Option Nat} (h : Apt G G v w X) (hs : w.heap.size ≤ X.heap.size) (hB : w.heap.size ≤ Bk) (hg : X.grownBy Y row) (hr : ∀ r, row = some r → Bk ≤ r) : Apt G G v w Y := fun b h1 h2 h3 h4 =>
  (hg.block b (by omega) (fun e => by have := hr b e.symm; omega)).trans (h b h1 h2 h3 h4)
/-- passing on to what a gate counts for -/
theorem iPassG (B G : Nat) (p one kd k o : Int) (j : Nat) (v : Value) (s : List Gt × List Int) (w : World) (hk : -1 ≤ k) (hlo : -1 ≤ s.2.getD j 0) (hj : j < s.2.length) (hj60 : j < 60) (hl : s.1.length ≤ 4000) (hBG : B ≤ G) (h : DmS w G B v p one s) :
    Calls Try.prog 105 #[.pointer (some ⟨G, 0, none⟩), .int .i64 kd, .int .i64 k, .int .i64 o, .pointer (some ⟨G, 2 + j, none⟩)] w fun e w' =>
      e = .returned (.tuple #[]) ∧ ∃ v', DmS w' G B v' p one (pasB one kd k o j s) ∧ Below B w w' ∧ Apt G G v w w' ∧ Moves v v' w := by
  by_cases hk0 : k < 0
  · refine (iPass_no G G (2 + j) kd k o (by omega) w).mono ?_
    rintro e w' ⟨rfl, rfl⟩
    have e1 : pasB one kd k o j s = s := by unfold pasB; rw [if_pos hk0]
    exact ⟨rfl, v, by rw [e1]; exact h, Below.refl _ _, Apt.of_below (Below.refl _ _), .inl rfl⟩
  · have hX : ∀ (w2 : World) (v2 : Value) (C2 : List Gt), MkQ w2 G B v2 63 (csD p one s.2) C2 → w2.cell? ⟨G, 2 + j, none⟩ = some (.int .i64 (s.2.getD j 0)) ∧ w2.frozen? ⟨G, 2 + j, none⟩ = false := fun w2 v2 C2 hm =>
      ⟨(hm.sh.oth (2 + j) (by omega) (by omega)).trans (congrArg some (csD_at hj hj60)), hm.sh.fz (2 + j) (by omega) (by omega)⟩
    refine (iPass_yes B G G (2 + j) p one kd (s.2.getD j 0) k o v s w (by omega) hlo hl hBG h (hX w v s.1 h).1 (fun w2 v2 C2 hm _ => hX w2 v2 C2 hm)).mono ?_
    rintro e w' ⟨rfl, w2, v', h1, h2, h3, h4, rfl⟩
    refine ⟨rfl, v', ?_, h2.setCell hBG _, fun b q1 q2 q3 q4 => (Below.heap_setCell _ _ _ _ q2).trans (h3 b q1 q2 q3 q4), h4⟩
    have e1 : pasB one kd k o j s = ((jnG 2 (s.2.getD j 0) (thrG one kd k o s.1).1 (thrG one kd k o s.1).2).2, s.2.set j (jnG 2 (s.2.getD j 0) (thrG one kd k o s.1).1 (thrG one kd k o s.1).2).1) := by unfold pasB; rw [if_neg hk0]; rfl
    rw [e1]
    exact DmS.set (s := ((jnG 2 (s.2.getD j 0) (thrG one kd k o s.1).1 (thrG one kd k o s.1).2).2, s.2)) h1 hj hj60 _
end Go.Proofs.Ytfpjflghgmcgbaa
