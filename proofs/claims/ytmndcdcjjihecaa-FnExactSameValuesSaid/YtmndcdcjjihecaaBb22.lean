/-
  SameValues, of the model and of the program, and the walk of its exact law. Conditions: none but that the slices read as lists of terms.
-/
import Derived.Test.YtmndcdcjjihecaaBb21
import Derived.Test.YtmndcdcjjihecaaBb17
namespace Go.Proofs.Ytmndcdcjjihecaa
open Go.RowKit
theorem addT_mem5 {p : Int} {x y : Trm} {L : List Trm} (h : y ∈ addT p x L) : y ∈ L ∨ (x.t ≠ 0 ∧ y.a = x.a ∧ y.b = x.b ∧ y.c = x.c) := by
  unfold addT at h
  split at h
  · exact .inl h
  · rename_i h0
    split at h
    · split at h
      · rcases List.mem_append.1 h with h | h
        · exact .inl (List.mem_of_mem_take h)
        · exact .inl (List.mem_of_mem_drop h)
      · rcases List.mem_append.1 h with h | h
        · exact .inl (List.mem_of_mem_take h)
        · rcases List.mem_cons.1 h with rfl | h
          · exact .inr ⟨h0, rfl, rfl, rfl⟩
          · exact .inl (List.mem_of_mem_drop h)
    · rcases List.mem_append.1 h with h | h
      · exact .inl (List.mem_of_mem_take h)
      · rcases List.mem_cons.1 h with rfl | h
        · exact .inr ⟨h0, rfl, rfl, rfl⟩
        · exact .inl (List.mem_of_mem_drop h)
theorem addAll_mem5 {p : Int} {y : Trm} : ∀ {xs L : List Trm}, y ∈ addAll p xs L → y ∈ L ∨ ∃ x ∈ xs, x.t ≠ 0 ∧ y.a = x.a ∧ y.b = x.b ∧ y.c = x.c
  | [], _, h => .inl h
  | x :: xs, L, h => by
    rcases addAll_mem5 (xs := xs) (L := addT p x L) h with h | ⟨z, hz, h⟩
    · rcases addT_mem5 h with h | h
      · exact .inl h
      · exact .inr ⟨x, List.mem_cons_self, h⟩
    · exact .inr ⟨z, List.mem_cons_of_mem _ hz, h⟩
/-- what is sorted, of elements and small powers, is a polynomial -/
theorem validB_of5 {p : Int} {L : List Trm} (hs : Srt L) (he : Els p L) (hw : ∀ y ∈ L, pwB y = true) (hl : L.length ≤ 60) : validB p L = true := by
  rw [validB_all (p := p) (L := L) (fun j hj => ?_)]
  · exact decide_eq_true (by omega)
  · have hm : L.getD j default ∈ L := by rw [List.getD_eq_getElem?_getD, List.getElem?_eq_getElem hj]; exact List.getElem_mem hj
    have h1 := he _ hm
    have h2 := hw _ hm
    unfold okAt tokB
    rw [show powsB (L.getD j default).a (L.getD j default).b (L.getD j default).c = true from h2, decide_eq_true h1.1, decide_eq_true (by omega : (L.getD j default).t ≤ p - 1)]
    by_cases h0 : j = 0
    · subst h0; rfl
    · rw [srt_getD hs (by omega : j - 1 < j) hj]; simp
theorem red_valid {p : Int} {L : List Trm} (hp : isP p = true) (hV : validB p L = true) : validB p (mkK p (redL p L) L.length) = true := by
  have hf := mkK_facts (p := p) (L := redL p L) hp (k := L.length) (by rw [redL_len]; omega) (by rw [redL_len]; exact validB_len hV)
  refine validB_of5 hf.1 hf.2.1 (fun y hy => ?_) hf.2.2
  have hpw := List.all_eq_true.1 (red_pw hp hV)
  rcases addAll_mem5 hy with h | ⟨x, hx, _, h1, h2, h3⟩
  · cases h
  · obtain ⟨z, hz, rfl⟩ := List.mem_map.1 hx
    have := hpw z (List.mem_of_mem_take hz)
    show powsB y.a y.b y.c = true
    rw [h1, h2, h3]
    exact this
/-- the reduced polynomial -/
def redV (p : Int) (L : List Trm) : List Trm := mkK p (redL p L) L.length
theorem rd_is {p : Int} {L : List Trm} (hp : isP p = true) (hV : validB p L = true) : rdOk p L = true ∧ rdV p L = redV p L := by
  obtain ⟨h1, h2⟩ := rdOk_yes hp hV
  rw [h1, h2, red_valid hp hV]
  exact ⟨rfl, rfl⟩
def sameB (p : Int) (L M : List Trm) : Bool := (okB p (vt0.1, L) && okB p (vt0.1, M)) && decide (redV p L = redV p M)
theorem rdOk_is (p : Int) (L : List Trm) : rdOk p L = (isP p && validB p L) := by
  cases h : (isP p && validB p L)
  · exact (rdOk_no h).1
  · simp only [Bool.and_eq_true] at h
    exact (rd_is h.1 h.2).1
theorem all_eq {A M : List Trm} (hl : A.length = M.length) (h : ∀ j, j < A.length → A.getD j default = M.getD j default) : A = M := by
  apply List.ext_getElem hl
  intro j h1 h2
  have := h j h1
  simpa [List.getD_eq_getElem?_getD, h1, h2] using this
set_option maxRecDepth 100000 in
set_option maxHeartbeats 4000000 in
theorem iEqual_some (g1 o1 c1 g2 o2 c2 : Nat) (A M : List Trm) (w : World) (hl : A.length = M.length) (hA : A.length ≤ 1048576) (hg1 : g1 < w.heap.size) (hg2 : g2 < w.heap.size)
    (h1 : ∀ j : Nat, j < A.length → TAt w g1 (o1 + j * 4) (A.getD j default)) (h2 : ∀ j : Nat, j < M.length → TAt w g2 (o2 + j * 4) (M.getD j default)) :
    Calls Try.prog 39 #[.slice (some ⟨g1, o1, none⟩) A.length c1, .slice (some ⟨g2, o2, none⟩) M.length c2] w fun e w' => e = .returned (.bool (decide (A = M))) ∧ Below w.heap.size w w' := by
  have H1 := Lib.hid h1
  have H2 := Lib.hid h2
  have HL := Lib.hid hl
  rw [← hl]
  clear h1 h2 hl
  go_enter Try.func39, Try.ntmps39
  go_wp2_with fail
  go_loopw [13] (fun i wr => ∃ k : Nat, k ≤ A.length ∧ i = .int .i64 k ∧ (∀ j, j < k → A.getD j default = M.getD j default) ∧ Below w.heap.size w wr) (fun i _ => A.length - (intOf i).toNat)
  case atStart => exact ⟨0, by omega, rfl, fun j hj => by omega, Below.refl _ _⟩
  case round =>
    obtain ⟨k, hk, rfl, hE, hb⟩ := hrel
    by_cases hlt : k < A.length
    · have hltp : (k : Int) < (A.length : Int) := by omega
      have hk0 : (0 : Int) ≤ (k : Int) := by omega
      obtain ⟨a0, a1, a2, a3⟩ := (H1.out k hlt).below hb hg1
      obtain ⟨b0, b1, b2, b3⟩ := (H2.out k (HL.out ▸ hlt)).below hb hg2
      have hq := fun w => runEqT (A.getD k default) (M.getD k default) w
      obtain ⟨x, hx⟩ : ∃ x, x = A.getD k default := ⟨_, rfl⟩
      obtain ⟨y, hy⟩ : ∃ y, y = M.getD k default := ⟨_, rfl⟩
      rw [← hx] at a0 a1 a2 a3 hq
      rw [← hy] at b0 b1 b2 b3 hq
      unfold Trm.v at hq
      have HX := Lib.hid (And.intro hx hy)
      have HE := Lib.hid hE
      have HB := Lib.hid hb
      clear hx hy hE hb
      by_cases hxy : x = y
      · rw [decide_eq_true hxy] at hq
        have HXY := Lib.hid hxy
        clear hxy
        go_wp2_with fail
        go_quiet (fail)
        go_wp2_with fail
        go_roundw
        case rel => exact ⟨k + 1, by omega, by go_num, fun j hj => by
          by_cases e : j < k
          · exact HE.out j e
          · have e2 : j = k := by omega
            subst e2
            rw [← HX.out.1, ← HX.out.2]
            exact HXY.out, below_drewN HB.out _⟩
        case measure => simp [intOf]; omega
      · rw [decide_eq_false hxy] at hq
        have HN := Lib.hid (show decide (A = M) = false from decide_eq_false (fun e => hxy (by rw [HX.out.1, HX.out.2, e])))
        clear hxy
        go_wp2_with fail
        go_quiet (fail)
        go_wp2_with fail
        go_ret
        exact ⟨ret_bool HN.out.symm, below_drewN HB.out _⟩
    · have hkl : k = A.length := by omega
      have HN := Lib.hid (show decide (A = M) = true from decide_eq_true (all_eq HL.out (fun j hj => hE j (by omega))))
      subst hkl
      go_wp2_with fail
      go_ret
      exact ⟨ret_bool HN.out.symm, hb⟩
theorem iEqual_nil (a1 a2 : Option Addr) (c1 c2 : Nat) (w : World) :
    Calls Try.prog 39 #[.slice a1 0 c1, .slice a2 0 c2] w fun e w' => e = .returned (.bool true) ∧ Below w.heap.size w w' := by
  go_enter Try.func39, Try.ntmps39
  go_wp2_with fail
  go_loopw [13] (fun i wr => i = .int .i64 0 ∧ Below w.heap.size w wr) (fun _ _ => 0)
  case atStart => exact ⟨rfl, Below.refl _ _⟩
  case round =>
    obtain ⟨rfl, hb⟩ := hrel
    go_wp2_with fail
    go_ret
    exact ⟨rfl, hb⟩
theorem iEqual_len (a1 a2 : Option Addr) (n1 n2 c1 c2 : Nat) (h : n1 ≠ n2) (w : World) :
    Calls Try.prog 39 #[.slice a1 n1 c1, .slice a2 n2 c2] w fun e w' => e = .returned (.bool false) ∧ Below w.heap.size w w' := by
  have hb : ((n1 : Int) != (n2 : Int)) = true := by simp; omega
  have hb2 : ¬ ((n1 : Int) = (n2 : Int)) := by omega
  go_enter Try.func39, Try.ntmps39
  go_wp2_with fail
  go_ret
  exact ⟨rfl, Below.refl _ _⟩
theorem iEqual (v1 v2 : Value) (A M : List Trm) (w : World) (hA : Trms w v1 A) (hM : Trms w v2 M) :
    Calls Try.prog 39 #[v1, v2] w fun e w' => e = .returned (.bool (decide (A = M))) ∧ Below w.heap.size w w' := by
  obtain ⟨l1, a1, c1, rfl, h1⟩ := hA
  obtain ⟨l2, a2, c2, rfl, h2⟩ := hM
  by_cases hl : A.length = M.length
  · by_cases h0 : A = []
    · subst h0
      have : M = [] := List.length_eq_zero_iff.1 hl.symm
      subst this
      exact iEqual_nil a1 a2 c1 c2 w
    · have hM0 : M ≠ [] := fun e => h0 (List.length_eq_zero_iff.1 (by rw [hl, e]; rfl))
      rcases h1 with h1 | ⟨g1, o1, rfl, hg1, hc1⟩
      · exact absurd h1 h0
      · rcases h2 with h2 | ⟨g2, o2, rfl, hg2, hc2⟩
        · exact absurd h2 hM0
        · exact iEqual_some g1 o1 c1 g2 o2 c2 A M w hl l1 hg1 hg2 hc1 hc2
  · rw [decide_eq_false (fun e => hl (by rw [e]))]
    exact iEqual_len a1 a2 _ _ c1 c2 hl w
theorem ho1_trms {w w' : World} {B : Nat} {v : Value} {L : List Trm} (h : OwnTrms w B v L) (hb : Below w.heap.size w w') : Trms w' v L := (h.below hb).trms
set_option maxHeartbeats 4000000 in
theorem iSameValues (p : Int) (f g : Value) (L M : List Trm) (w : World) (hL : Trms w f L) (hM : Trms w g M) :
    Calls Try.prog 17 #[.int .i64 p, f, g] w fun e w' => e = .returned (.bool (sameB p L M)) ∧ Below w.heap.size w w' := by
  have H1 := Lib.hid (iReducePoly p f L w hL)
  have H2 := Lib.hid (fun w' (hb : Below w.heap.size w w') => iReducePoly p g M w' (hM.below hb))
  obtain ⟨b1, hb1⟩ : ∃ b, b = rdOk p L := ⟨_, rfl⟩
  obtain ⟨b2, hb2⟩ : ∃ b, b = rdOk p M := ⟨_, rfl⟩
  have HS := Lib.hid (show sameB p L M = ((b1 && b2) && decide (rdV p L = rdV p M)) by
    rw [hb1, hb2, rdOk_is, rdOk_is]
    unfold sameB okB
    rcases Bool.eq_false_or_eq_true (isP p && validB p L) with h1 | h1
    · rcases Bool.eq_false_or_eq_true (isP p && validB p M) with h2 | h2
      · have k1 := h1
        have k2 := h2
        simp only [Bool.and_eq_true] at k1 k2
        rw [(rd_is k1.1 k1.2).2, (rd_is k2.1 k2.2).2]
      · rw [h1, h2]; rfl
    · rw [h1]; rfl)
  rw [← hb1] at H1
  rw [← hb2] at H2
  generalize rdV p L = A at *
  generalize rdV p M = N at *
  generalize sameB p L M = r at *
  clear hb1 hb2 hL hM
  go_enter Try.func17, Try.ntmps17
  go_wp2_with fail
  refine H1.out.mono ?_
  rintro e w1 ⟨v1, rfl, ho1, hb1⟩
  have HO1 := Lib.hid (And.intro ho1 hb1)
  clear ho1 hb1
  go_wp2_with fail
  refine (H2.out _ HO1.out.2).mono ?_
  rintro e w2 ⟨v2, rfl, ho2, hb2⟩
  have HO2 := Lib.hid (And.intro (ho2.trms) (And.intro (ho1_trms HO1.out.1 hb2) (HO1.out.2.trans (hb2.mono HO1.out.2.size))))
  clear ho2 hb2 HO1
  cases b1
  · have HR := Lib.hid (show r = false by rw [HS.out]; simp)
    clear HS H1 H2
    go_wp2_with fail
    go_ret
    exact ⟨ret_bool HR.out.symm, HO2.out.2.2⟩
  · cases b2
    · have HR := Lib.hid (show r = false by rw [HS.out]; simp)
      clear HS H1 H2
      go_wp2_with fail
      go_ret
      exact ⟨ret_bool HR.out.symm, HO2.out.2.2⟩
    · have HR := Lib.hid (show r = decide (A = N) by rw [HS.out]; simp)
      have HE := Lib.hid (iEqual v1 v2 A N w2 HO2.out.2.1 HO2.out.1)
      rw [← HR.out] at HE
      clear HS H1 H2
      go_wp2_with fail
      refine HE.out.mono ?_
      rintro e w3 ⟨rfl, hb3⟩
      go_wp2_with fail
      go_ret
      exact ⟨rfl, HO2.out.2.2.trans (hb3.mono HO2.out.2.2.size)⟩
theorem fldT (x : Value) (w : World) : (Instr.field 52 (.agg #[x]) 0).run Try.prog w = .ok x w := by kernel_rfl
set_option maxRecDepth 100000 in
set_option maxHeartbeats 8000000 in
theorem sSameValues_yes (p : Int) (a1 a2 : Option Addr) (c1 c2 : Nat) (L M : List Trm) (w : World) (hL : Trms w (.slice a1 L.length c1) L) (hM : Trms w (.slice a2 M.length c2) M) (hp : isP p = true) (hVL : validB p L = true) (hVM : validB p M = true) :
    Calls Try.prog 16 #[.int .i64 p, .slice a1 L.length c1, .slice a2 M.length c2] w fun e w' => e = .returned (.bool (decide (redV p L = redV p M))) ∧ Below w.heap.size w w' := by
  have HB := Lib.hid (bothAt p _ _ L M w hL hM true (by unfold okB; simp [hp, hVL, hVM]))
  have H1 := Lib.hid (fun w' (hb : Below w.heap.size w w') => sReduced p a1 c1 L w' hp hVL (hL.below hb))
  have H2 := Lib.hid (fun w' (hb : Below w.heap.size w w') => sReduced p a2 c2 M w' hp hVM (hM.below hb))
  have hA := validB_len (red_valid hp hVL)
  have hN := validB_len (red_valid hp hVM)
  change (redV p L).length ≤ 60 at hA
  change (redV p M).length ≤ 60 at hN
  rw [show mkK p (redL p L) L.length = redV p L from rfl] at H1
  rw [show mkK p (redL p M) M.length = redV p M from rfl] at H2
  generalize redV p L = A at *
  generalize redV p M = N at *
  obtain ⟨r, hr⟩ : ∃ r, r = decide (A = N) := ⟨_, rfl⟩
  have HR := Lib.hid hr
  rw [← hr]
  clear hL hM hp hVL hVM hr
  go_enter Try.func16, Try.ntmps16
  go_wp2_with fail
  refine HB.out.mono ?_
  rintro e w1 ⟨rfl, hb1⟩
  have HB1 := Lib.hid hb1
  clear hb1 HB
  go_wp2_with fail
  refine (H1.out _ HB1.out).mono ?_
  rintro e w2 ⟨v1, rfl, hR1, hb2⟩
  have ho1 := (hR1.own (by omega)).trms
  have HB2 := Lib.hid (HB1.out.trans (hb2.mono HB1.out.size))
  obtain ⟨l1, e1, d1, rfl, h1⟩ := ho1
  have HT1 := Lib.hid (show Trms w2 (.slice e1 A.length d1) A from ⟨l1, e1, d1, rfl, h1⟩)
  clear hR1 hb2 h1 H1
  go_wp2_with (simp only [fldT])
  refine (H2.out _ HB2.out).mono ?_
  rintro e w3 ⟨v2, rfl, hR2, hb3⟩
  have ho2 := (hR2.own (by omega)).trms
  obtain ⟨l2, e2, d2, rfl, h2⟩ := ho2
  have HT2 := Lib.hid (show Trms w3 (.slice e2 N.length d2) N from ⟨l2, e2, d2, rfl, h2⟩)
  have HT3 := Lib.hid (HT1.out.below hb3)
  have HB3 := Lib.hid (HB2.out.trans (hb3.mono HB2.out.size))
  clear hR2 hb3 h2 H2 HT1 l1 l2
  obtain ⟨m, hcase⟩ : ∃ m : Nat, ((A.length : Int) ≤ (N.length : Int) ∧ m = A.length) ∨ (¬ (A.length : Int) ≤ (N.length : Int) ∧ m = N.length) := by
    by_cases h : (A.length : Int) ≤ (N.length : Int)
    · exact ⟨_, .inl ⟨h, rfl⟩⟩
    · exact ⟨_, .inr ⟨h, rfl⟩⟩
  rcases hcase with ⟨hcm, hm⟩ | ⟨hcm, hm⟩
  all_goals
    have hmA : m ≤ A.length := by omega
    have hmN : m ≤ N.length := by omega
    have HM := Lib.hid hm
    clear hm
    go_wp2_with (simp only [fldT])
    go_loopw [29] (fun i wr => ∃ k : Nat, k ≤ m ∧ i = .int .i64 k ∧ (∀ j, j < k → A.getD j default = N.getD j default) ∧ Below w3.heap.size w3 wr) (fun i _ => m - (intOf i).toNat)
    case atStart => exact ⟨0, by omega, rfl, fun j hj => by omega, Below.refl _ _⟩
    case round =>
      obtain ⟨k, hk, rfl, hE, hb⟩ := hrel
      by_cases hlt : k < m
      · have hltA : (k : Int) < (A.length : Int) := by omega
        have hltN : (k : Int) < (N.length : Int) := by omega
        have hk0 : (0 : Int) ≤ (k : Int) := by omega
        obtain ⟨g1, o1, rfl, hg1, hc1⟩ : ∃ g off, e1 = some ⟨g, off, none⟩ ∧ g < w3.heap.size ∧ ∀ j : Nat, j < A.length → TAt w3 g (off + j * 4) (A.getD j default) := by
          obtain ⟨_, a', cap', he, h⟩ := HT3.out
          injection he with q1 q2 q3
          subst q1
          rcases h with h | h
          · rw [h] at hltA; simp at hltA; omega
          · exact h
        obtain ⟨g2, o2, rfl, hg2, hc2⟩ : ∃ g off, e2 = some ⟨g, off, none⟩ ∧ g < w3.heap.size ∧ ∀ j : Nat, j < N.length → TAt w3 g (off + j * 4) (N.getD j default) := by
          obtain ⟨_, a', cap', he, h⟩ := HT2.out
          injection he with q1 q2 q3
          subst q1
          rcases h with h | h
          · rw [h] at hltN; simp at hltN; omega
          · exact h
        obtain ⟨a0, a1, a2, a3⟩ := (hc1 k (by omega)).below hb hg1
        obtain ⟨b0, b1, b2, b3⟩ := (hc2 k (by omega)).below hb hg2
        have hq := fun w => runEqT (A.getD k default) (N.getD k default) w
        obtain ⟨x, hx⟩ : ∃ x, x = A.getD k default := ⟨_, rfl⟩
        obtain ⟨y, hy⟩ : ∃ y, y = N.getD k default := ⟨_, rfl⟩
        rw [← hx] at a0 a1 a2 a3 hq
        rw [← hy] at b0 b1 b2 b3 hq
        unfold Trm.v at hq
        have HX := Lib.hid (And.intro hx hy)
        have HE := Lib.hid hE
        have HB := Lib.hid hb
        clear hx hy hE hb hc1 hc2
        by_cases hxy : x = y
        · rw [decide_eq_true hxy] at hq
          have HXY := Lib.hid hxy
          clear hxy
          go_wp2_with fail
          go_quiet (fail)
          go_wp2_with fail
          go_roundw
          case rel => exact ⟨k + 1, by omega, by go_num, fun j hj => by
            by_cases e : j < k
            · exact HE.out j e
            · have e2 : j = k := by omega
              subst e2
              rw [← HX.out.1, ← HX.out.2]
              exact HXY.out, below_drewN HB.out _⟩
          case measure => simp [intOf]; omega
        · rw [decide_eq_false hxy] at hq
          have HN := Lib.hid (show r = false by rw [HR.out]; exact decide_eq_false (fun e => hxy (by rw [HX.out.1, HX.out.2, e])))
          clear hxy
          go_wp2_with fail
          go_quiet (fail)
          go_wp2_with fail
          go_ret
          exact ⟨ret_bool HN.out.symm, HB3.out.trans ((below_drewN HB.out _).mono HB3.out.size)⟩
      · have hkl : k = m := by omega
        subst hkl
        have hme := HM.out
        by_cases hl : A.length = N.length
        · have HN := Lib.hid (show r = true by rw [HR.out]; exact decide_eq_true (all_eq hl (fun j hj => hE j (by omega))))
          have hbe : ((A.length : Int) == (N.length : Int)) = true := by simp; omega
          first
            | (have hge : ¬ ((k : Int) < (A.length : Int)) := by omega
               clear hE hme hl
               go_wp2_with fail
               go_ret
               exact ⟨ret_bool HN.out.symm, HB3.out.trans (hb.mono HB3.out.size)⟩)
            | (have hge : ¬ ((k : Int) < (N.length : Int)) := by omega
               clear hE hme hl
               go_wp2_with fail
               go_ret
               exact ⟨ret_bool HN.out.symm, HB3.out.trans (hb.mono HB3.out.size)⟩)
        · have HN := Lib.hid (show r = false by rw [HR.out]; exact decide_eq_false (fun e => hl (by rw [e])))
          have hbe : ((A.length : Int) == (N.length : Int)) = false := by simp; omega
          first
            | (have hge : ¬ ((k : Int) < (A.length : Int)) := by omega
               clear hE hme hl
               go_wp2_with fail
               go_ret
               exact ⟨ret_bool HN.out.symm, HB3.out.trans (hb.mono HB3.out.size)⟩)
            | (have hge : ¬ ((k : Int) < (N.length : Int)) := by omega
               clear hE hme hl
               go_wp2_with fail
               go_ret
               exact ⟨ret_bool HN.out.symm, HB3.out.trans (hb.mono HB3.out.size)⟩)
theorem sSameValues (p : Int) (f g : Value) (L M : List Trm) (w : World) (hL : Trms w f L) (hM : Trms w g M) :
    Calls Try.prog 16 #[.int .i64 p, f, g] w fun e w' => e = .returned (.bool (sameB p L M)) ∧ Below w.heap.size w w' := by
  cases hn : (okB p (f, L) && okB p (g, M))
  · have HR := Lib.hid (show sameB p L M = false by unfold sameB; rw [show (okB p (vt0.1, L) && okB p (vt0.1, M)) = false from hn]; rfl)
    obtain ⟨l1, a1, c1, rfl, h1⟩ := hL
    obtain ⟨l2, a2, c2, rfl, h2⟩ := hM
    have HB := Lib.hid (bothAt p _ _ L M w ⟨l1, a1, c1, rfl, h1⟩ ⟨l2, a2, c2, rfl, h2⟩ false hn)
    clear hn h1 h2
    go_enter Try.func16, Try.ntmps16
    go_wp2_with fail
    refine HB.out.mono ?_
    rintro e w1 ⟨rfl, hb1⟩
    go_wp2_with fail
    go_ret
    exact ⟨ret_bool HR.out.symm, hb1⟩
  · have HR : sameB p L M = decide (redV p L = redV p M) := by unfold sameB; rw [show (okB p (vt0.1, L) && okB p (vt0.1, M)) = true from hn]; rfl
    rw [HR]
    simp only [okB, Bool.and_eq_true] at hn
    obtain ⟨l1, a1, c1, rfl, h1⟩ := hL
    obtain ⟨l2, a2, c2, rfl, h2⟩ := hM
    exact sSameValues_yes p a1 a2 c1 c2 L M w ⟨l1, _, _, rfl, h1⟩ ⟨l2, _, _, rfl, h2⟩ hn.1.1 hn.1.2 hn.2.2
set_option maxRecDepth 100000 in
set_option maxHeartbeats 8000000 in
theorem xSameValues_in (a0 : Int) (a1 : Option Addr) (L1 : List Trm) (c1 : Nat) (a2 : Option Addr) (L2 : List Trm) (c2 : Nat) (r0 : Bool) (w : World) (h1 : Trms w (.slice a1 L1.length c1) L1) (h2 : Trms w (.slice a2 L2.length c2) L2) (hl : L1.length + L2.length ≤ 1048576)
    (hS : ∀ f1, ∀ f2, ∀ w, Trms w f1 L1 → Trms w f2 L2 → Calls Try.prog 16 #[.int .i64 a0, f1, f2] w fun e w' => e = .returned (.bool r0) ∧ Below w.heap.size w w')
    (hI : ∀ f1, ∀ f2, ∀ w, Trms w f1 L1 → Trms w f2 L2 → Calls Try.prog 17 #[.int .i64 a0, f1, f2] w fun e w' => e = .returned (.bool r0) ∧ Below w.heap.size w w') :
    Calls Try.prog 4 #[.int .i64 a0, .slice a1 L1.length c1, .slice a2 L2.length c2] w fun e w' => e = .returned (.bool true) ∧ Below w.heap.size w w' := by
  have m1 : (1048576 : Int) - L1.length ≥ 0 := by omega
  have HS1 := Lib.hid (fun w => szP_at a1 L1.length c1 (1048576) w (by omega) (by omega) (by omega))
  have Q1 := Lib.hid h1
  have m2 : (1048576 - L1.length : Int) - L2.length ≥ 0 := by omega
  have HS2 := Lib.hid (fun w => szP_at a2 L2.length c2 (1048576 - L1.length) w (by omega) (by omega) (by omega))
  have Q2 := Lib.hid h2
  have n1 : (L1.length : Int) ≤ 1048576 := by omega
  have n2 : (L2.length : Int) ≤ 1048576 := by omega
  clear h1 h2
  have HSP := Lib.hid hS
  have HIM := Lib.hid hI
  clear hS hI
  have bb0 := bne_self2 r0
  go_enter Try.func4, Try.ntmps4
  go_wp2_with fail
  refine (HS1.out _).mono ?_
  rintro e w' ⟨rfl, rfl⟩
  go_wp2_with fail
  refine (HS2.out _).mono ?_
  rintro e w' ⟨rfl, rfl⟩
  have B := Lib.hid (Below.refl w.heap.size w)
  go_wp2_with fail
  refine (toP _ L1 _ (Q1.out.below B.out)).mono ?_
  rintro e W1 ⟨s1, rfl, ho, hb⟩
  replace B := Lib.hid (B.out.trans (hb.mono B.out.size))
  clear hb
  have S1 := Lib.hid ho.trms
  clear ho
  go_wp2_with fail
  refine (toP _ L2 _ (Q2.out.below B.out)).mono ?_
  rintro e W2 ⟨s2, rfl, ho, hb⟩
  replace B := Lib.hid (B.out.trans (hb.mono B.out.size))
  replace S1 := Lib.hid (S1.out.below hb)
  clear hb
  have S2 := Lib.hid ho.trms
  clear ho
  go_wp2_with fail
  refine (HSP.out _ _ _ S1.out S2.out).mono ?_
  rintro e W3 ⟨rfl, hb⟩
  replace B := Lib.hid (B.out.trans (hb.mono B.out.size))
  replace S1 := Lib.hid (S1.out.below hb)
  replace S2 := Lib.hid (S2.out.below hb)
  clear hb
  clear S1
  clear S2
  go_wp2_with fail
  refine (toP _ L1 _ (Q1.out.below B.out)).mono ?_
  rintro e W4 ⟨x1, rfl, ho, hb⟩
  replace B := Lib.hid (B.out.trans (hb.mono B.out.size))
  clear hb
  have O1 := Lib.hid ho
  clear ho
  have Y1 := Lib.hid (Below.refl W4.heap.size W4)
  go_wp2_with fail
  refine (toP _ L2 _ (Q2.out.below B.out)).mono ?_
  rintro e W5 ⟨x2, rfl, ho, hb⟩
  replace B := Lib.hid (B.out.trans (hb.mono B.out.size))
  replace Y1 := Lib.hid (Y1.out.trans (hb.mono Y1.out.size))
  clear hb
  have O2 := Lib.hid ho
  clear ho
  have Y2 := Lib.hid (Below.refl W5.heap.size W5)
  go_wp2_with fail
  refine (HIM.out _ _ _ (O1.out.trms.below Y1.out) (O2.out.trms.below Y2.out)).mono ?_
  rintro e W6 ⟨rfl, hb⟩
  replace B := Lib.hid (B.out.trans (hb.mono B.out.size))
  replace Y1 := Lib.hid (Y1.out.trans (hb.mono Y1.out.size))
  replace Y2 := Lib.hid (Y2.out.trans (hb.mono Y2.out.size))
  clear hb
  go_wp2_with fail
  refine (toP _ L1 _ (Q1.out.below B.out)).mono ?_
  rintro e W7 ⟨y1, rfl, ho, hb⟩
  replace B := Lib.hid (B.out.trans (hb.mono B.out.size))
  replace Y1 := Lib.hid (Y1.out.trans (hb.mono Y1.out.size))
  replace Y2 := Lib.hid (Y2.out.trans (hb.mono Y2.out.size))
  clear hb
  have S1 := Lib.hid ho.trms
  clear ho
  go_wp2_with fail
  refine (eqP x1 y1 L1 _ (O1.out.trms.below Y1.out) S1.out).mono ?_
  rintro e W8 ⟨rfl, hb⟩
  clear S1
  replace B := Lib.hid (B.out.trans (hb.mono B.out.size))
  replace Y1 := Lib.hid (Y1.out.trans (hb.mono Y1.out.size))
  replace Y2 := Lib.hid (Y2.out.trans (hb.mono Y2.out.size))
  clear hb
  go_wp2_with fail
  refine (toP _ L2 _ (Q2.out.below B.out)).mono ?_
  rintro e W9 ⟨y2, rfl, ho, hb⟩
  replace B := Lib.hid (B.out.trans (hb.mono B.out.size))
  replace Y1 := Lib.hid (Y1.out.trans (hb.mono Y1.out.size))
  replace Y2 := Lib.hid (Y2.out.trans (hb.mono Y2.out.size))
  clear hb
  have S2 := Lib.hid ho.trms
  clear ho
  go_wp2_with fail
  refine (eqP x2 y2 L2 _ (O2.out.trms.below Y2.out) S2.out).mono ?_
  rintro e W10 ⟨rfl, hb⟩
  clear S2
  replace B := Lib.hid (B.out.trans (hb.mono B.out.size))
  replace Y1 := Lib.hid (Y1.out.trans (hb.mono Y1.out.size))
  replace Y2 := Lib.hid (Y2.out.trans (hb.mono Y2.out.size))
  clear hb
  go_wp2_with fail
  go_ret
  exact ⟨rfl, B.out⟩
set_option maxHeartbeats 1000000 in
theorem xSameValues_long0 (a0 : Int) (a1 : Option Addr) (n1 c1 : Nat) (a2 : Option Addr) (n2 c2 : Nat) (w : World) (h1 : 1048576 < n1) (h2 : n1 ≤ 9223372036854775807) :
    Calls Try.prog 4 #[.int .i64 a0, .slice a1 n1 c1, .slice a2 n2 c2] w fun e w' => e = .returned (.bool true) ∧ Below w.heap.size w w' := by
  have HS1 := Lib.hid (fun w => szP_over a1 n1 c1 (1048576) w (by omega) (by omega) (by omega) (by omega))
  clear h1 h2
  go_enter Try.func4, Try.ntmps4
  go_wp2_with fail
  refine (HS1.out _).mono ?_
  rintro e w' ⟨rfl, rfl⟩
  go_wp2_with fail
  go_ret
  exact ⟨rfl, Below.refl _ _⟩
set_option maxHeartbeats 1000000 in
theorem xSameValues_long1 (a0 : Int) (a1 : Option Addr) (n1 c1 : Nat) (a2 : Option Addr) (n2 c2 : Nat) (w : World) (k1 : n1 ≤ 1048576) (h1 : 1048576 < n1 + n2) (h2 : n2 ≤ 9223372036854775807) :
    Calls Try.prog 4 #[.int .i64 a0, .slice a1 n1 c1, .slice a2 n2 c2] w fun e w' => e = .returned (.bool true) ∧ Below w.heap.size w w' := by
  have m1 : (1048576 : Int) - n1 ≥ 0 := by omega
  have HS1 := Lib.hid (fun w => szP_at a1 n1 c1 (1048576) w (by omega) (by omega) (by omega))
  have HS2 := Lib.hid (fun w => szP_over a2 n2 c2 (1048576 - n1) w (by omega) (by omega) (by omega) (by omega))
  clear h1 h2
  go_enter Try.func4, Try.ntmps4
  go_wp2_with fail
  refine (HS1.out _).mono ?_
  rintro e w' ⟨rfl, rfl⟩
  go_wp2_with fail
  refine (HS2.out _).mono ?_
  rintro e w' ⟨rfl, rfl⟩
  go_wp2_with fail
  go_ret
  exact ⟨rfl, Below.refl _ _⟩
theorem xSameValues (p : Int) (a : Option Addr) (len cap : Nat) (L : List Trm) (a' : Option Addr) (len' cap' : Nat) (M : List Trm) (w : World) (h : RowT w a len L) (h' : RowT w a' len' M) :
    Calls Try.prog 4 #[.int .i64 p, .slice a len cap, .slice a' len' cap'] w fun e w' => e = .returned (.bool true) ∧ Below w.heap.size w w' := by
  by_cases hl : len ≤ 1048576
  · by_cases hl' : len + len' ≤ 1048576
    · have e1 := h.1
      have e2 := h'.1
      subst e1 e2
      exact xSameValues_in p a L cap a' M cap' (sameB p L M) w (h.trms hl) (h'.trms (by omega)) hl' (fun f d w hf hd => sSameValues p f d L M w hf hd) (fun f d w hf hd => iSameValues p f d L M w hf hd)
    · exact xSameValues_long1 p a len cap a' len' cap' w hl (by omega) h'.2.1
  · exact xSameValues_long0 p a len cap a' len' cap' w (by omega) h.2.1
end Go.Proofs.Ytmndcdcjjihecaa
