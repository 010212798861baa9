/-
  newMatrix of the program. Conditions: the function that is handed over tells the elements and makes but memory.
  Contracts of the exact laws' helpers on matrices: held marks, copies, equality. Conditions: what the slices hold is known.
  The laws' comparison of matrices, at equal ones. Conditions: what the slices hold is known.
-/
import Derived.Test.YtlcmddghppdmgaaBh7
import Derived.Test.YtlcmddghppdmgaaBh4
namespace Go.Proofs.Ytlcmddghppdmgaa
set_option linter.unusedVariables false
open Go.RowKit
/-- the matrix of c columns whose elements a function tells, r rows of it -/
def matF (c : Nat) (E : Nat → Nat → Int) (r : Nat) : List (List Int) := (List.range r).map fun i => (List.range c).map (E i)
theorem matF_len (c : Nat) (E : Nat → Nat → Int) (r : Nat) : (matF c E r).length = r := by simp [matF]
theorem matF_row {c : Nat} {E : Nat → Nat → Int} {r i : Nat} (h : i < r) : rowM (matF c E r) i = (List.range c).map (E i) := by
  simp [matF, rowM, List.getD_eq_getElem?_getD, h]
theorem matF_succ (c : Nat) (E : Nat → Nat → Int) (r : Nat) : matF c E (r + 1) = matF c E r ++ [(List.range c).map (E r)] := by
  simp [matF, List.range_succ]
/-- a row whose first k elements are told -/
def parR (c : Nat) (E : Nat → Int) (k : Nat) : List Int := (List.range c).map fun j => if j < k then E j else 0
theorem parR_len (c : Nat) (E : Nat → Int) (k : Nat) : (parR c E k).length = c := by simp [parR]
theorem parR_getD {c : Nat} {E : Nat → Int} {k j : Nat} (h : j < c) : (parR c E k).getD j 0 = if j < k then E j else 0 := by
  simp [parR, List.getD_eq_getElem?_getD, h]
theorem parR_zero {c : Nat} {E E' : Nat → Int} : parR c E 0 = parR c E' 0 := by simp [parR]
theorem parR_set {c : Nat} {E : Nat → Int} {k : Nat} : (parR c E k).set k (E k) = parR c E (k + 1) := by
  apply getD_ext (by simp [parR])
  intro j hj
  have hj : j < c := by simpa [parR] using hj
  rw [parR_getD hj]
  by_cases e : j = k
  · subst e
    rw [List.getD_eq_getElem?_getD, List.getElem?_set_self (by simpa [parR] using hj)]
    simp
  · rw [List.getD_eq_getElem?_getD, List.getElem?_set_ne (Ne.symm e), ← List.getD_eq_getElem?_getD, parR_getD hj]
    by_cases h : j < k
    · rw [if_pos h, if_pos (by omega)]
    · rw [if_neg h, if_neg (by omega)]
theorem parR_all {c : Nat} {E : Nat → Int} : parR c E c = (List.range c).map E := by
  unfold parR
  apply List.map_congr_left
  intro j hj
  have : j < c := by simpa using hj
  rw [if_pos this]
/-- what newMatrix keeps behind its first rows -/
structure NewM (w wr : World) (b g r c n : Nat) (M : List (List Int)) : Prop where
  mat : OMat wr b g 0 (fun _ => b) (fun i => i * c) M
  zero : ∀ q, n * c ≤ q → q < r * c → wr.cell? ⟨b, q, none⟩ = some (.int .i64 0)
  froz : ∀ q, q < r * c → wr.frozen? ⟨b, q, none⟩ = false
  room : ∀ i, i < r → ∃ x, wr.cell? ⟨g, i, none⟩ = some x
  rfrz : ∀ i, i < r → wr.frozen? ⟨g, i, none⟩ = false
  low : Below b w wr
  bl : b < g
theorem NewM.below {w wr w' : World} {b g r c n : Nat} {M : List (List Int)} (h : NewM w wr b g r c n M) (hb : Below wr.heap.size wr w') : NewM w w' b g r c n M := by
  have hg := h.mat.gl
  have hb0 : b < wr.heap.size := by have := h.bl; omega
  exact ⟨h.mat.below hb, fun q h1 h2 => by rw [hb.cell (p := ⟨b, q, none⟩) hb0]; exact h.zero q h1 h2, fun q h2 => by rw [hb.frozen (p := ⟨b, q, none⟩) hb0]; exact h.froz q h2,
    fun i hi => by rw [hb.cell (p := ⟨g, i, none⟩) hg]; exact h.room i hi, fun i hi => by rw [hb.frozen (p := ⟨g, i, none⟩) hg]; exact h.rfrz i hi, h.low.trans (hb.mono (by omega)), h.bl⟩
/-- a row of zeros more -/
theorem NewM.push {w wr : World} {b g r c n : Nat} {M : List (List Int)} (h : NewM w wr b g r c n M) (hM : M.length = n) (hn : n < r) (hc : c ≤ 4) (hrow : ∀ i, i < n → (rowM M i).length = c) :
    NewM w (wr.setCell ⟨g, n, none⟩ (.slice (some ⟨b, n * c, none⟩) c c)) b g r c (n + 1) (M ++ [parR c (fun _ => 0) 0]) := by
  obtain ⟨x, hx⟩ := h.room n hn
  have hbl := h.bl
  have hgl := h.mat.gl
  have hnc : n * c + c ≤ r * c := by
    have : (n + 1) * c ≤ r * c := Nat.mul_le_mul_right c hn
    rw [Nat.add_mul, Nat.one_mul] at this
    exact this
  have hp := h.mat.push2 (x := x) (by rw [hM, Nat.zero_add]; exact hx) (by rw [hM, Nat.zero_add]; exact h.rfrz n hn) (parR c (fun _ => 0) 0) c (by rw [parR_len]; exact ⟨by omega, Nat.le_refl _⟩) (Nat.le_refl _) (by omega) (by omega)
    (fun j hj => by
      rw [parR_len] at hj
      rw [parR_getD hj, if_neg (by omega), hM]
      exact h.zero _ (by omega) (by omega))
    (fun j hj => by rw [parR_len] at hj; rw [hM]; exact h.froz _ (by omega))
    (fun i k l hi hk hl _ => by
      rw [hM] at hi
      rw [hrow i hi] at hk
      rw [hM]
      have : (i + 1) * c ≤ n * c := Nat.mul_le_mul_right c hi
      rw [Nat.add_mul, Nat.one_mul] at this
      omega)
  rw [hM, Nat.zero_add, parR_len] at hp
  refine ⟨hp, fun q h1 h2 => ?_, fun q h2 => by rw [World.frozen?_setCell]; exact h.froz q h2, fun i hi => ?_, fun i hi => by rw [World.frozen?_setCell]; exact h.rfrz i hi, h.low.setCell (show b ≤ g by omega) _, hbl⟩
  · rw [World.cell?_setCell_other _ _ _ _ (adr_ne (by omega))]
    rw [Nat.add_mul] at h1
    exact h.zero q (by omega) h2
  · by_cases e : i = n
    · subst e; exact ⟨_, World.cell?_setCell_same _ _ _ hx⟩
    · obtain ⟨y, hy⟩ := h.room i hi
      exact ⟨y, by rw [World.cell?_setCell_other _ _ _ _ (adr_ne (by omega))]; exact hy⟩
/-- an element of the last row is told -/
theorem NewM.set {w wr : World} {b g r c n k : Nat} {M : List (List Int)} {E : Nat → Int} (h : NewM w wr b g r c (n + 1) (M ++ [parR c E k])) (hM : M.length = n) (hk : k < c) :
    NewM w (wr.setCell ⟨b, n * c + k, none⟩ (.int .i64 (E k))) b g r c (n + 1) (M ++ [parR c E (k + 1)]) := by
  have hbl := h.bl
  have hgl := h.mat.gl
  have e1 : rowM (M ++ [parR c E k]) n = parR c E k := by rw [← hM]; exact rw_snoc_new _ _
  have hp := h.mat.set (i := n) (k := k) (by simp; omega) (by rw [e1, parR_len]; exact hk) (E k)
  rw [e1, parR_set, List.set_append_right _ _ (by omega), hM, Nat.sub_self, List.set_cons_zero] at hp
  refine ⟨hp, fun q h1 h2 => ?_, fun q h2 => by rw [World.frozen?_setCell]; exact h.froz q h2, fun i hi => ?_, fun i hi => by rw [World.frozen?_setCell]; exact h.rfrz i hi, h.low.setCell (Nat.le_refl _) _, hbl⟩
  · have h1' := h1
    rw [Nat.add_mul] at h1'
    rw [World.cell?_setCell_other _ _ _ _ (adr_ne (by omega))]
    exact h.zero q h1 h2
  · obtain ⟨y, hy⟩ := h.room i hi
    exact ⟨y, by rw [World.cell?_setCell_other _ _ _ _ (adr_ne (by omega))]; exact hy⟩
theorem cntT_const {M : List (List Int)} {c : Nat} : ∀ i, (∀ j, j < i → (rowM M j).length = c) → cntT M i = i * c
  | 0, _ => by simp [cntT]
  | i + 1, h => by show cntT M i + _ = _; rw [cntT_const i (fun j hj => h j (by omega)), h i (by omega), Nat.add_mul, Nat.one_mul]
theorem matF_cnt (c : Nat) (E : Nat → Nat → Int) (r : Nat) : cnt (matF c E r) = r * c := by
  unfold cnt
  rw [cntT_const (c := c) _ (fun j hj => by rw [matF_len] at hj; rw [matF_row hj]; simp), matF_len]
set_option maxRecDepth 100000 in
set_option maxHeartbeats 8000000 in
theorem iNewK (r c : Nat) (hr1 : 1 ≤ r) (hr : r ≤ 4) (hc1 : 1 ≤ c) (hc : c ≤ 4) (E : Nat → Nat → Int) (gf : Nat) (lb : Array Value) (w : World)
    (eg : ∀ args w, (callFunc gf args).run Try.prog w = .ok (.enter gf args) w)
    (hE : ∀ W, Below w.heap.size w W → ∀ i k : Nat, i < r → k < c → Calls Try.prog gf (#[.int .i64 i, .int .i64 k] ++ lb) W fun e w' => e = .returned (.int .i64 (E i k)) ∧ Below W.heap.size W w') :
    Calls Try.prog 87 #[.int .i64 r, .int .i64 c, .func (.func gf) #[] lb] w fun e w' => ∃ u, e = .returned u ∧ OwnMat w' w.heap.size u (matF c E r) ∧ Below w.heap.size w w' ∧ CapOK u := by
  obtain ⟨i0, hi, hz0, hz1, hz2⟩ := info_parts infoIn
  obtain ⟨is, his, hs0, hs1, hs2⟩ := info_parts infoIS
  have hrc : r * c ≤ 16 := Nat.le_trans (Nat.mul_le_mul hr hc) (by decide)
  have hmul : (r : Int) * (c : Int) = ((r * c : Nat) : Int) := by simp
  have hw1 : IntKind.i64.wrap ((r : Int) * (c : Int)) = ((r * c : Nat) : Int) := by rw [IntWalk.i64_in _ (by rw [hmul]; omega), hmul]
  obtain ⟨m, hm⟩ : ∃ m, m = r * c := ⟨_, rfl⟩
  rw [← hm] at hw1 hrc
  have HM := Lib.hid hm
  have HE := Lib.hid hE
  have EG := Lib.hid eg
  clear hE eg hm hmul
  go_enter Try.func87, Try.ntmps87
  go_wp2_with (at_make; refine wpList_make_full _ rfl _ _ 62 rfl w.heap.size 3 i0 (.int .i64 0) 1 Try.underlying62 hi hz0 hz1 .i64 .i64 (m : Int) (m : Int) m rfl rfl rfl rfl ?c2 ?c3 ?c4 ?_)
  case c2 => rw [hz2]; omega
  case c3 => unfold maxLen; omega
  case c4 => exact Nat.le_refl _
  intro w1 hown1 hgr1
  go_wp2_with (at_make; refine wpList_make_full _ rfl _ _ 35 rfl w1.heap.size 62 is (.slice none 0 0) 1 Try.underlying35 his hs0 hs1 .i64 .i64 (r : Int) (r : Int) r rfl rfl rfl rfl ?d2 ?d3 ?d4 ?_)
  case d2 => rw [hs2]; omega
  case d3 => unfold maxLen; omega
  case d4 => exact Nat.le_refl _
  intro w2 hown2 hgr2
  have hb1 : Below w.heap.size w w1 := (Below.refl _ _).grown hgr1 (Nat.le_refl _) (fun k hk => by cases hk)
  have hb2 : Below w1.heap.size w1 w2 := (Below.refl _ _).grown hgr2 (Nat.le_refl _) (fun k hk => by cases hk)
  have hl1 := (hown1.lt _ rfl).2
  have HS := Lib.hid (show NewM w w2 w.heap.size w1.heap.size r c 0 (matF c E 0) from by
    refine ⟨OMat.nil' (Nat.le_of_lt hl1) (hown2.lt _ rfl).2, fun q _ hq => ?_, fun q hq => ?_, fun i hi => ?_, fun i hi => hown2.frozenAt i, hb1.trans (hb2.mono hb1.size), hl1⟩
    · rw [← HM.out] at hq
      rw [hb2.cell (p := ⟨w.heap.size, q, none⟩) hl1, hown1.cellAt q (by omega)]
      simp [madeCells, hq, Nat.mod_one]
    · rw [hb2.frozen (p := ⟨w.heap.size, q, none⟩) hl1]
      exact hown1.frozenAt q
    · rw [hown2.cellAt i (by omega)]
      exact made_any _ _ _ (by omega))
  clear hown1 hown2 hgr1 hgr2 hb1 hb2 hi his hz0 hz1 hz2 hs0 hs1 hs2
  obtain ⟨b, hb⟩ : ∃ b, b = w.heap.size := ⟨_, rfl⟩
  obtain ⟨g, hg⟩ : ∃ g, g = w1.heap.size := ⟨_, rfl⟩
  have HBG := Lib.hid (And.intro hb hg)
  rw [← hb, ← hg] at HS
  rw [← hb, ← hg]
  clear hb hg hl1
  have HMI := Lib.hid (show ∀ n, n ≤ r → (m : Int) = ((r * c : Nat) : Int) from fun _ _ => by rw [HM.out])
  go_wp2_with fail
  go_loopw [7, 19] (fun q i wr => ∃ n o : Nat, n ≤ r ∧ (n < r → o = n * c) ∧ i = .int .i64 n ∧ q = .slice (some ⟨b, o, none⟩) ((r - n) * c) ((r - n) * c) ∧ NewM w wr b g r c n (matF c E n)) (fun _ i _ => r - (intOf i).toNat)
  case atStart => exact ⟨0, 0, by omega, fun _ => by simp, rfl, by rw [HM.out]; simp, HS.out⟩
  case round =>
    clear HS
    obtain ⟨n, o, hn, ho, rfl, rfl, hS⟩ := hrel
    by_cases hlt : n < r
    · have hltp : (n : Int) < (r : Int) := by omega
      have hn0 : (0 : Int) ≤ (n : Int) := by omega
      obtain rfl := ho hlt
      obtain ⟨d, hd⟩ : ∃ d, d = (r - n) * c := ⟨_, rfl⟩
      have hdc : d = (r - (n + 1)) * c + c := by rw [hd, show r - n = (r - (n + 1)) + 1 by omega, Nat.add_mul, Nat.one_mul]
      have hd16 : d ≤ 16 := by rw [hd]; exact Nat.le_trans (Nat.mul_le_mul (show r - n ≤ 4 by omega) hc) (by decide)
      rw [← hd]
      have HD := Lib.hid (show d - c = (r - (n + 1)) * c by omega)
      have hcd : (c : Int) ≤ (d : Int) := by omega
      obtain ⟨o2, hif, ho2⟩ : ∃ o2, (if d = c then (some ⟨b, n * c, none⟩ : Option Addr) else some ⟨b, n * c + c, none⟩) = some ⟨b, o2, none⟩ ∧ (n + 1 < r → o2 = (n + 1) * c) := by
        by_cases e : d = c
        · refine ⟨n * c, if_pos e, fun h => ?_⟩
          have : 1 * c ≤ (r - (n + 1)) * c := Nat.mul_le_mul_right c (by omega)
          omega
        · exact ⟨n * c + c, if_neg e, fun _ => by rw [Nat.add_mul, Nat.one_mul]⟩
      obtain ⟨x, hx⟩ := hS.room n hlt
      have hfz := hS.rfrz n hlt
      have HP := Lib.hid (show NewM w (wr.setCell ⟨g, n, none⟩ (.slice (some ⟨b, n * c, none⟩) c c)).drew b g r c (n + 1) (matF c E n ++ [parR c (E n) 0]) from by
        rw [parR_zero (E' := fun _ => 0)]
        exact (hS.push (matF_len _ _ _) hlt hc (fun i hi => by rw [matF_row hi]; simp)).below (Below.drew (Below.refl _ _)))
      have HIF := Lib.hid hif
      have HO2 := Lib.hid ho2
      clear hS hdc hd hif ho2 ho
      go_wp2_with fail
      refine wp_region_seq [(0, true), (1, true), (2, true), (3, true), (4, true), (5, true), (6, true), (7, true), (8, true), (9, true), (10, false)] (fun _ => True) (by kernel_rfl) (by kernel_rfl) rfl (by intro c a d v w h; cases d <;> exact h) trivial ?_
      iterate 10 (refine wpSeq_take (v := ?_) (List.getElem?_toArray.trans rfl) ?_ ?_; rotate_left; (intro w' hSw; (try dsimp only at hSw); go_simp; (try with_reducible rfl)); (try simp only [Act.put, List.setIfInBounds_toArray, List.set_cons_zero, List.set_cons_succ]))
      refine wpSeq_do (List.getElem?_toArray.trans rfl) (fun K hK => ?_)
      go_simp
      refine hK _ _ trivial ?_
      clear hK K
      refine wpSeq_nil ?_
      simp only [Exit.then]
      obtain ⟨W3, hW3⟩ : ∃ W3, W3 = (wr.setCell ⟨g, n, none⟩ (.slice (some ⟨b, n * c, none⟩) c c)).drew := ⟨_, rfl⟩
      rw [← hW3] at HP
      rw [← hW3, HIF.out]
      clear hW3 hx hfz HIF
      have HCE := Lib.hid (show ∀ k wr2, NewM w wr2 b g r c (n + 1) (matF c E n ++ [parR c (E n) k]) → ∃ cap, wr2.cell? ⟨g, n, none⟩ = some (.slice (some ⟨b, n * c, none⟩) c cap) ∧ ∀ j, j < c → (∃ y, wr2.cell? ⟨b, n * c + j, none⟩ = some y) ∧ wr2.frozen? ⟨b, n * c + j, none⟩ = false from fun k wr2 h => by
        obtain ⟨a, cap, h1, _, h3⟩ := h.mat.rd n (by simp [matF_len])
        have e1 : rowM (matF c E n ++ [parR c (E n) k]) n = parR c (E n) k := by
          have := rw_snoc_new (matF c E n) (parR c (E n) k)
          rwa [matF_len] at this
        rw [e1, parR_len, Nat.zero_add] at h1
        rw [e1, parR_len] at h3
        rcases h3 with h3 | ⟨rfl, _, _, _, h4, h5⟩
        · have := congrArg List.length h3; rw [parR_len] at this; simp at this; omega
        · exact ⟨cap, h1, fun j hj => ⟨⟨_, h4 j hj⟩, h5 j hj⟩⟩)
      obtain ⟨cap, hcl, _⟩ := HCE.out 0 W3 HP.out
      go_wp2_with fail
      go_loopw [37] (fun i wr => ∃ k : Nat, k ≤ c ∧ i = .int .i64 k ∧ NewM w wr b g r c (n + 1) (matF c E n ++ [parR c (E n) k])) (fun i _ => c - (intOf i).toNat)
      case atStart => exact ⟨0, by omega, rfl, HP.out⟩
      case round =>
        clear HP hcl
        obtain ⟨k, hk, rfl, hS⟩ := hrel
        by_cases hlk : k < c
        · have hlkp : (k : Int) < (c : Int) := by omega
          have hk0 : (0 : Int) ≤ (k : Int) := by omega
          obtain ⟨cap, hcl, _⟩ := HCE.out k _ hS
          have hgl := hS.mat.gl
          have HCL := Lib.hid (fun w' (hb : Below wr.heap.size wr w') => show w'.cell? ⟨g, n, none⟩ = some (.slice (some ⟨b, n * c, none⟩) c cap) by
            rw [hb.cell (p := ⟨g, n, none⟩) hgl]; exact hcl)
          have HS := Lib.hid hS
          clear hS hcl hgl
          go_wp2_with fail
          refine wp_region_seq [(0, true), (1, true), (2, true), (3, true), (4, true), (5, true), (6, true), (7, true), (8, false), (9, true)] (fun w' => w'.cell? ⟨g, n, none⟩ = some (.slice (some ⟨b, n * c, none⟩) c cap)) (by kernel_rfl) (by kernel_rfl) rfl (by intro c a d v w h; cases d <;> exact h) (HCL.out _ (Below.drew (Below.refl _ _))) ?_
          iterate 8 (refine wpSeq_take (v := ?_) (List.getElem?_toArray.trans rfl) ?_ ?_; rotate_left; (intro w' hSw; (try dsimp only at hSw); go_simp; (try with_reducible rfl)); (try simp only [Act.put, List.setIfInBounds_toArray, List.set_cons_zero, List.set_cons_succ]))
          refine wpSeq_do (List.getElem?_toArray.trans rfl) (fun K hK => ?_)
          have eg := EG.out
          go_simp
          clear eg
          have hdr : Below wr.heap.size wr wr.drew := Below.drew (Below.refl _ _)
          refine (HE.out _ (HBG.out.1 ▸ (HS.out.below hdr).low) n k hlt hlk).mono ?_
          rintro e w6 ⟨rfl, hb6⟩
          have hbb : Below wr.heap.size wr w6 := hdr.trans hb6
          refine hK _ _ (HCL.out _ hbb) ?_
          clear hK K
          (refine wpSeq_take (v := ?_) (List.getElem?_toArray.trans rfl) ?_ ?_; rotate_left; (intro w' hSw; (try dsimp only at hSw); go_simp; (try with_reducible rfl)); (try simp only [Act.put, List.setIfInBounds_toArray, List.set_cons_zero, List.set_cons_succ]))
          refine wpSeq_nil ?_
          simp only [Exit.then]
          have h6 := HS.out.below hbb
          obtain ⟨cap2, _, hc6⟩ := HCE.out k _ h6
          obtain ⟨⟨y, hy⟩, hfy⟩ := hc6 k hlk
          have H7 := Lib.hid (h6.set (matF_len _ _ _) hlk)
          clear hc6 h6 hbb hb6 hdr HS HCL
          obtain ⟨ev, hev⟩ : ∃ ev, ev = E n k := ⟨_, rfl⟩
          rw [← hev] at H7 ⊢
          clear hev
          go_wp2_with fail
          go_roundw
          case rel => exact ⟨k + 1, by omega, by go_num, H7.out⟩
          case measure => simp [intOf]; omega
        · have hkc : k = c := by omega
          subst hkc
          have HF := Lib.hid (show NewM w wr b g r k (n + 1) (matF k E (n + 1)) from by rw [matF_succ, ← parR_all]; exact hS)
          clear hS
          go_wp2_with fail
          go_roundw
          case rel => exact ⟨n + 1, o2, by omega, HO2.out, by go_num, by rw [HD.out], HF.out⟩
          case measure => simp [intOf]; omega
    · have hnr : n = r := by omega
      subst hnr
      have HF := Lib.hid (show OwnMat wr w.heap.size (.slice (some ⟨g, 0, none⟩) n n) (matF c E n) ∧ Below w.heap.size w wr from by
        have hb := HBG.out.1
        refine ⟨⟨by rw [matF_len]; omega, by rw [matF_cnt, ← HM.out]; omega, _, n, by rw [matF_len], .inr ⟨g, 0, _, _, rfl, by rw [← hb]; exact hS.mat⟩⟩, by rw [← hb]; exact hS.low⟩)
      clear hS
      go_wp2_with fail
      go_ret
      exact ⟨_, rfl, HF.out.1, HF.out.2, Nat.le_refl _⟩
theorem iNew (r c : Nat) (hr1 : 1 ≤ r) (hr : r ≤ 4) (hc1 : 1 ≤ c) (hc : c ≤ 4) (E : Nat → Nat → Int) (gf : Nat) (lb : Array Value) (w : World)
    (eg : ∀ args w, (callFunc gf args).run Try.prog w = .ok (.enter gf args) w)
    (hE : ∀ W, Below w.heap.size w W → ∀ i k : Nat, i < r → k < c → Calls Try.prog gf (#[.int .i64 i, .int .i64 k] ++ lb) W fun e w' => e = .returned (.int .i64 (E i k)) ∧ Below W.heap.size W w') :
    Calls Try.prog 87 #[.int .i64 r, .int .i64 c, .func (.func gf) #[] lb] w fun e w' => ∃ u, e = .returned u ∧ OwnMat w' w.heap.size u (matF c E r) ∧ Below w.heap.size w w' :=
  (iNewK r c hr1 hr hc1 hc E gf lb w eg hE).mono fun _ _ ⟨u, he, h1, h2, _⟩ => ⟨u, he, h1, h2⟩
end Go.Proofs.Ytlcmddghppdmgaa
namespace Go.Proofs.Ytlcmddghppdmgaa
set_option linter.unusedVariables false
open Go.RowKit
theorem markMnil (a : Option Addr) (cap : Nat) (k : Int) (w : World) :
    Calls Try.prog 28 #[.slice a 0 cap, .int .i64 k] w fun e w' => e = .returned (.int .i64 k) ∧ w = w' := by
  go_enter Try.func28, Try.ntmps28
  go_wp2_with fail
  go_loop [1, 5] (fun q i => i = .int .i64 0 ∧ q = .int .i64 k) (fun _ _ => 0)
  case atStart => exact ⟨rfl, rfl⟩
  case round =>
    obtain ⟨rfl, rfl⟩ := hrel
    go_wp2
    go_ret
    exact ⟨rfl, rfl⟩
theorem markMown (v : Value) (M : List (List Int)) (B : Nat) (k : Int) (w : World) (h : OwnMat w B v M) (hk0 : 0 ≤ k) (hk1 : k ≤ 1000000000000) :
    Calls Try.prog 28 #[v, .int .i64 k] w fun e w' => e = .returned (.int .i64 (k + (cnt M : Nat))) ∧ OwnMat w' B v (cntTo k M M.length) ∧ Below B w w' ∧ w'.heap.size = w.heap.size := by
  obtain ⟨h1, h2, a, cap, rfl, h3⟩ := h
  rcases h3 with rfl | ⟨g, off, H, O, rfl, hm⟩
  · refine (markMnil a cap k w).mono ?_
    rintro e w' ⟨rfl, rfl⟩
    exact ⟨ret_int' (by simp [cnt, cntT]), OwnMat.nil _ _ _ _, Below.refl _ _, rfl⟩
  · refine (markM_o g off cap H O M B k w hm h1 h2 hk0 hk1).mono ?_
    rintro e w' ⟨rfl, hm', q1, q2, q3, q4, q5⟩
    refine ⟨rfl, ⟨by rw [cntTo_len]; exact h1, by rw [cntTo_cnt]; exact h2, _, cap, by rw [cntTo_len], .inr ⟨g, off, H, O, rfl, hm'⟩⟩, ⟨q1, q2, q3, by omega, fun b hb => q5 b (fun i hi hn e => ?_)⟩, q4⟩
    have := (hm.hl hi hn).1
    omega
/-- an argument of a law is marked: what was made behind it stays -/
theorem markMsame (v : Value) (M : List (List Int)) (B : Nat) (k : Int) (w3 w : World) (h : OwnMat w3 B v M) (hw : Same B w3 w) (hk0 : 0 ≤ k) (hk1 : k ≤ 1000000000000) :
    Calls Try.prog 28 #[v, .int .i64 k] w fun e w' => e = .returned (.int .i64 (k + (cnt M : Nat))) ∧ Betw B w3.heap.size w w' := by
  obtain ⟨h1, h2, a, cap, rfl, h3⟩ := h
  rcases h3 with rfl | ⟨g, off, H, O, rfl, hm⟩
  · refine (markMnil a cap k w).mono ?_
    rintro e w' ⟨rfl, rfl⟩
    exact ⟨ret_int' (by simp [cnt, cntT]), rfl, rfl, rfl, rfl, fun _ _ => rfl⟩
  · have hm2 : OMat w B g off H O M := hm.same (hw g hm.bg hm.gl) (fun i hi hn => hw _ (hm.hl hi hn).1 (hm.hl hi hn).2.1)
    refine (markM_o g off cap H O M B k w hm2 h1 h2 hk0 hk1).mono ?_
    rintro e w' ⟨rfl, hm', q1, q2, q3, q4, q5⟩
    refine ⟨rfl, q1, q2, q3, q4, fun b hb => q5 b (fun i hi hn e => ?_)⟩
    have h4 := hm.hl hi hn
    omega
theorem OwnMat.betw' {B B' C : Nat} {w w' : World} {v : Value} {M : List (List Int)} (h : OwnMat w B v M) (hC : C ≤ B) (hb : Betw B' C w w') : OwnMat w' B v M := by
  obtain ⟨h1, h2, a, cap, hv, h3⟩ := h
  refine ⟨h1, h2, a, cap, hv, ?_⟩
  rcases h3 with h3 | ⟨g, off, H, O, ha, hm⟩
  · exact .inl h3
  · refine .inr ⟨g, off, H, O, ha, hm.same (hb.block g (.inr ?_)) (fun i hi hn => hb.block _ (.inr ?_))⟩
    · have := hm.bg; omega
    · have := (hm.hl hi hn).1; omega
theorem heldI (u : Value) (n : Nat) (k : Int) (w : World) (h : Ints w u (counts k n)) (hk0 : 0 ≤ k) (hk1 : k ≤ 4611686018427387904) :
    Calls Try.prog 93 #[u, .int .i64 k] w fun e w' => e = .returned (.int .i64 (k + (n : Nat))) ∧ w = w' := by
  obtain ⟨h1, a, cap, rfl, h2⟩ := h
  rw [counts_len] at h1
  rw [counts_len]
  by_cases hn : n = 0
  · subst hn
    refine (heldNil a cap k w).mono ?_
    rintro e w' ⟨rfl, rfl⟩
    exact ⟨by simp, rfl⟩
  · rcases h2 with h2 | ⟨g, off, rfl, hg, hc⟩
    · have := congrArg List.length h2
      rw [counts_len] at this; simp at this; omega
    · exact heldInts g off n cap k w h1 hk0 hk1 (fun i hi => by rw [hc i (by rw [counts_len]; exact hi), counts_getD _ _ _ hi])
set_option maxHeartbeats 4000000 in
theorem heldM (v : Value) (M : List (List Int)) (k : Int) (w : World) (h : Mat w v (cntTo k M M.length)) (hk0 : 0 ≤ k) (hk1 : k ≤ 1000000000000) :
    Calls Try.prog 29 #[v, .int .i64 k] w fun e w' => e = .returned (.int .i64 (k + (cnt M : Nat))) ∧ w = w' := by
  obtain ⟨h1, h2, a, cap, rfl, h3⟩ := h
  rw [cntTo_len] at h1
  rw [cntTo_cnt] at h2
  rw [cntTo_len]
  have HD := Lib.hid h3
  clear h3
  go_enter Try.func29, Try.ntmps29
  go_wp2_with fail
  go_loop [1, 5] (fun q i => ∃ j : Nat, j ≤ M.length ∧ i = .int .i64 j ∧ q = .int .i64 (k + (cntT M j : Nat))) (fun _ i => M.length - (intOf i).toNat)
  case atStart => exact ⟨0, by omega, rfl, by simp [cntT]⟩
  case round =>
    obtain ⟨j, hj, rfl, rfl⟩ := hrel
    by_cases hlt : j < M.length
    · have hltp : (j : Int) < (M.length : Int) := by omega
      have hj0 : (0 : Int) ≤ (j : Int) := by omega
      have hjl : j < (cntTo k M M.length).length := by rw [cntTo_len]; exact hlt
      rcases HD.out with h | ⟨g, off, rfl, hg, hc⟩
      · rw [h] at hjl; simp at hjl
      obtain ⟨u, hu, hr, _⟩ := hc j hjl
      rw [cntTo_row k M M.length (Nat.le_refl _), if_pos hlt] at hr
      have hcj := cntT_le (M := M) (show j + 1 ≤ M.length by omega)
      have hcs : cntT M (j + 1) = cntT M j + (rowM M j).length := rfl
      have hcnt : cnt M = cntT M M.length := rfl
      obtain ⟨kk, hkk⟩ : ∃ kk : Int, kk = k + (cntT M j : Nat) := ⟨_, rfl⟩
      rw [← hkk] at hr
      have hkk0 : 0 ≤ kk := by omega
      have hkk1 : kk ≤ 1000010000000 := by omega
      obtain ⟨n, hn⟩ : ∃ n, n = (rowM M j).length := ⟨_, rfl⟩
      rw [← hn] at hr
      have hnn : (n : Int) ≤ 1048576 := by omega
      have HH := Lib.hid (heldI u n kk w hr hkk0 (by omega))
      have HN := Lib.hid (show kk + (n : Nat) = k + (cntT M (j + 1) : Nat) by omega)
      have HKK := Lib.hid hkk
      have hge : ¬ kk + (n : Int) < 0 := by omega
      clear hc hcj hcs hcnt hkk hn hr
      go_wp2_with fail
      rw [← HKK.out]
      refine HH.out.mono ?_
      rintro e w' ⟨rfl, rfl⟩
      go_wp2
      go_round
      case rel => exact ⟨j + 1, by omega, by go_num, by rw [← HN.out]⟩
      case measure => simp [intOf]; omega
    · have hjl : j = M.length := by omega
      subst hjl
      go_wp2
      go_ret
      exact ⟨rfl, rfl⟩
theorem heldMown (v : Value) (M : List (List Int)) (B : Nat) (k : Int) (w : World) (h : OwnMat w B v (cntTo k M M.length)) (hk0 : 0 ≤ k) (hk1 : k ≤ 1000000000000) :
    Calls Try.prog 29 #[v, .int .i64 k] w fun e w' => e = .returned (.int .i64 (k + (cnt M : Nat))) ∧ w = w' := heldM v M k w h.mat hk0 hk1
theorem eqII (v1 v2 : Value) (L : List Int) (w : World) (h1 : Ints w v1 L) (h2 : Ints w v2 L) :
    Calls Try.prog 90 #[v1, v2] w fun e w' => e = .returned (.bool true) ∧ Drawn w w' :=
  (eqInts v1 v2 L L w h1 h2).mono fun e w' ⟨he, hd⟩ => ⟨by rw [he]; simp, hd⟩
set_option maxRecDepth 100000 in
set_option maxHeartbeats 4000000 in
/-- two values that read as one matrix are found equal -/
theorem eqM (v1 v2 : Value) (M : List (List Int)) (w : World) (h1 : Mat w v1 M) (h2 : Mat w v2 M) :
    Calls Try.prog 26 #[v1, v2] w fun e w' => e = .returned (.bool true) ∧ Below w.heap.size w w' := by
  obtain ⟨b1, _, a1, c1, rfl, h1⟩ := h1
  obtain ⟨_, _, a2, c2, rfl, h2⟩ := h2
  have H1 := Lib.hid h1
  have H2 := Lib.hid h2
  clear h1 h2
  have hlb : ((M.length : Int) != (M.length : Int)) = false := by simp
  go_enter Try.func26, Try.ntmps26
  go_wp2_with fail
  go_loopw [5] (fun i wr => ∃ j : Nat, j ≤ M.length ∧ i = .int .i64 j ∧ Below w.heap.size w wr) (fun i _ => M.length - (intOf i).toNat)
  case atStart => exact ⟨0, by omega, rfl, Below.refl _ _⟩
  case round =>
    obtain ⟨j, hj, rfl, hb⟩ := hrel
    by_cases hlt : j < M.length
    · have hltp : (j : Int) < (M.length : Int) := by omega
      have hj0 : (0 : Int) ≤ (j : Int) := by omega
      rcases H1.out with h | ⟨g1, o1, rfl, hg1, hc1⟩
      · rw [h] at hlt; simp at hlt
      rcases H2.out with h | ⟨g2, o2, rfl, hg2, hc2⟩
      · rw [h] at hlt; simp at hlt
      obtain ⟨u1, hu1, hr1, _⟩ := hc1 j hlt
      obtain ⟨u2, hu2, hr2, _⟩ := hc2 j hlt
      have HS := Lib.hid (fun w' (hw : Below wr.heap.size wr w') => show w'.cell? ⟨g1, o1 + j, none⟩ = some u1 ∧ w'.cell? ⟨g2, o2 + j, none⟩ = some u2 from
        ⟨by rw [(hb.trans (hw.mono hb.size)).cell (p := ⟨g1, o1 + j, none⟩) hg1]; exact hu1, by rw [(hb.trans (hw.mono hb.size)).cell (p := ⟨g2, o2 + j, none⟩) hg2]; exact hu2⟩)
      have HE := Lib.hid (fun w' (hw : Below wr.heap.size wr w') => eqII u1 u2 (rowM M j) w' (hr1.below (hb.trans (hw.mono hb.size))) (hr2.below (hb.trans (hw.mono hb.size))))
      have HB := Lib.hid hb
      clear hc1 hc2 hr1 hr2 hb hu1 hu2 H1 H2
      go_wp2_with fail
      refine wp_region_seq [(0, true), (1, true), (2, true), (3, true), (4, true), (5, true), (6, true), (7, true), (8, false)] (fun w' => w'.cell? ⟨g1, o1 + j, none⟩ = some u1 ∧ w'.cell? ⟨g2, o2 + j, none⟩ = some u2) (by kernel_rfl) (by kernel_rfl) rfl (by intro c a d v w h; cases d <;> exact h) (HS.out _ (Below.drew (Below.refl _ _))) ?_
      iterate 8 (refine wpSeq_take (v := ?_) (List.getElem?_toArray.trans rfl) ?_ ?_; rotate_left; (intro w' hSw; (try dsimp only at hSw); go_simp; (try with_reducible rfl)); (try simp only [Act.put, List.setIfInBounds_toArray, List.set_cons_zero, List.set_cons_succ]))
      refine wpSeq_do (List.getElem?_toArray.trans rfl) (fun K hK => ?_)
      go_simp
      refine (HE.out _ (Below.drew (Below.refl _ _))).mono ?_
      rintro e w6 ⟨rfl, hd⟩
      have hb6 : Below wr.heap.size wr w6 := (Below.drew (Below.refl _ _)).trans (hd.below _)
      refine hK _ _ (HS.out _ hb6) ?_
      clear hK K
      refine wpSeq_nil ?_
      simp only [Exit.then]
      have HF := Lib.hid (HB.out.trans (hb6.mono HB.out.size))
      clear hd hb6 HS HE HB
      go_wp2_with fail
      go_roundw
      case rel => exact ⟨j + 1, by omega, by go_num, HF.out⟩
      case measure => simp [intOf]; omega
    · have hjl : j = M.length := by omega
      subst hjl
      go_wp2
      go_ret
      exact ⟨rfl, hb⟩
end Go.Proofs.Ytlcmddghppdmgaa
namespace Go.Proofs.Ytlcmddghppdmgaa
set_option linter.unusedVariables false
set_option linter.unusedSimpArgs false
open Go.RowKit
set_option maxRecDepth 100000 in
set_option maxHeartbeats 4000000 in
/-- two values that read as one matrix are found equal -/
theorem acM (v1 v2 : Value) (M : List (List Int)) (w : World) (h1 : Mat w v1 M) (h2 : Mat w v2 M) :
    Calls Try.prog 55 #[v1, v2] w fun e w' => e = .returned (.bool true) ∧ Below w.heap.size w w' := by
  obtain ⟨b1, _, a1, c1, rfl, h1⟩ := h1
  obtain ⟨_, _, a2, c2, rfl, h2⟩ := h2
  have H1 := Lib.hid h1
  have H2 := Lib.hid h2
  clear h1 h2
  have hlb : (M.length : Int) ≤ (M.length : Int) := Int.le_refl _
  have hlq : ((M.length : Int) == (M.length : Int)) = true := by simp
  go_enter Try.func55, Try.ntmps55
  go_wp2_with fail
  go_loopw [11] (fun i wr => ∃ j : Nat, j ≤ M.length ∧ i = .int .i64 j ∧ Below w.heap.size w wr) (fun i _ => M.length - (intOf i).toNat)
  case atStart => exact ⟨0, by omega, rfl, Below.refl _ _⟩
  case round =>
    obtain ⟨j, hj, rfl, hb⟩ := hrel
    by_cases hlt : j < M.length
    · have hltp : (j : Int) < (M.length : Int) := by omega
      have hj0 : (0 : Int) ≤ (j : Int) := by omega
      rcases H1.out with h | ⟨g1, o1, rfl, hg1, hc1⟩
      · rw [h] at hlt; simp at hlt
      rcases H2.out with h | ⟨g2, o2, rfl, hg2, hc2⟩
      · rw [h] at hlt; simp at hlt
      obtain ⟨u1, hu1, hr1, _⟩ := hc1 j hlt
      obtain ⟨u2, hu2, hr2, _⟩ := hc2 j hlt
      have HS := Lib.hid (fun w' (hw : Below wr.heap.size wr w') => show w'.cell? ⟨g1, o1 + j, none⟩ = some u1 ∧ w'.cell? ⟨g2, o2 + j, none⟩ = some u2 from
        ⟨by rw [(hb.trans (hw.mono hb.size)).cell (p := ⟨g1, o1 + j, none⟩) hg1]; exact hu1, by rw [(hb.trans (hw.mono hb.size)).cell (p := ⟨g2, o2 + j, none⟩) hg2]; exact hu2⟩)
      have HE := Lib.hid (fun w' (hw : Below wr.heap.size wr w') => sameInts u1 u2 (rowM M j) w' (hr1.below (hb.trans (hw.mono hb.size))) (hr2.below (hb.trans (hw.mono hb.size))))
      have HB := Lib.hid hb
      clear hc1 hc2 hr1 hr2 hb hu1 hu2 H1 H2
      go_wp2_with fail
      refine wp_region_seq [(0, true), (1, true), (2, true), (3, true), (4, true), (5, true), (6, true), (7, true), (8, false)] (fun w' => w'.cell? ⟨g1, o1 + j, none⟩ = some u1 ∧ w'.cell? ⟨g2, o2 + j, none⟩ = some u2) (by kernel_rfl) (by kernel_rfl) rfl (by intro c a d v w h; cases d <;> exact h) (HS.out _ (Below.drew (Below.refl _ _))) ?_
      iterate 8 (refine wpSeq_take (v := ?_) (List.getElem?_toArray.trans rfl) ?_ ?_; rotate_left; (intro w' hSw; (try dsimp only at hSw); go_simp; (try with_reducible rfl)); (try simp only [Act.put, List.setIfInBounds_toArray, List.set_cons_zero, List.set_cons_succ]))
      refine wpSeq_do (List.getElem?_toArray.trans rfl) (fun K hK => ?_)
      go_simp
      refine (HE.out _ (Below.drew (Below.refl _ _))).mono ?_
      rintro e w6 ⟨rfl, hd⟩
      have hb6 : Below wr.heap.size wr w6 := (Below.drew (Below.refl _ _)).trans (hd.below _)
      refine hK _ _ (HS.out _ hb6) ?_
      clear hK K
      refine wpSeq_nil ?_
      simp only [Exit.then]
      have HF := Lib.hid (HB.out.trans (hb6.mono HB.out.size))
      clear hd hb6 HS HE HB
      go_wp2_with fail
      go_roundw
      case rel => exact ⟨j + 1, by omega, by go_num, HF.out⟩
      case measure => simp [intOf]; omega
    · have hjl : j = M.length := by omega
      subst hjl
      go_wp2
      go_ret
      exact ⟨rfl, hb⟩
end Go.Proofs.Ytlcmddghppdmgaa
