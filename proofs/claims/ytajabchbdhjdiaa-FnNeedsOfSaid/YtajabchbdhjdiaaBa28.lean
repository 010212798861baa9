/-
  SameValues, of the model and of the program, and the walk of its exact law. Conditions: none but that the slices read as lists of terms.
  NeedsOf, of the program and of the model. Conditions: what the slice holds is known.
-/
import Derived.Test.YtajabchbdhjdiaaBa26
import Derived.Test.YtajabchbdhjdiaaBa21
import Derived.Test.YtajabchbdhjdiaaBa16
import Derived.Test.YtajabchbdhjdiaaBa9
import Derived.Deep.Cut
import Derived.Lib.OthersKept
import Derived.WalkMore
import Derived.Maps.AppendAt
namespace Go.Proofs.Ytajabchbdhjdiaa
open Go.RowKit
theorem addT_mem5 {p : Int} {x y : Trm} {L : List Trm} (h : y ∈ addT p x L) : y ∈ L ∨ (x.t ≠ 0 ∧ y.a = x.a ∧ y.b = x.b ∧ y.c = x.c) := by
  unfold addT at h
  split at h
  · exact .inl h
  · rename_i h0
    split at h
    · split at h
      · rcases List.mem_append.1 h with h | h
        · exact .inl (List.mem_of_mem_take h)
        · exact .inl (List.mem_of_mem_drop h)
      · rcases List.mem_append.1 h with h | h
        · exact .inl (List.mem_of_mem_take h)
        · rcases List.mem_cons.1 h with rfl | h
          · exact .inr ⟨h0, rfl, rfl, rfl⟩
          · exact .inl (List.mem_of_mem_drop h)
    · rcases List.mem_append.1 h with h | h
      · exact .inl (List.mem_of_mem_take h)
      · rcases List.mem_cons.1 h with rfl | h
        · exact .inr ⟨h0, rfl, rfl, rfl⟩
        · exact .inl (List.mem_of_mem_drop h)
theorem addAll_mem5 {p : Int} {y : Trm} : ∀ {xs L : List Trm}, y ∈ addAll p xs L → y ∈ L ∨ ∃ x ∈ xs, x.t ≠ 0 ∧ y.a = x.a ∧ y.b = x.b ∧ y.c = x.c
  | [], _, h => .inl h
  | x :: xs, L, h => by
    rcases addAll_mem5 (xs := xs) (L := addT p x L) h with h | ⟨z, hz, h⟩
    · rcases addT_mem5 h with h | h
      · exact .inl h
      · exact .inr ⟨x, List.mem_cons_self, h⟩
    · exact .inr ⟨z, List.mem_cons_of_mem _ hz, h⟩
/-- what is sorted, of elements and small powers, is a polynomial -/
theorem validB_of5 {p : Int} {L : List Trm} (hs : Srt L) (he : Els p L) (hw : ∀ y ∈ L, pwB y = true) (hl : L.length ≤ 60) : validB p L = true := by
  rw [validB_all (p := p) (L := L) (fun j hj => ?_)]
  · exact decide_eq_true (by omega)
  · have hm : L.getD j default ∈ L := by rw [List.getD_eq_getElem?_getD, List.getElem?_eq_getElem hj]; exact List.getElem_mem hj
    have h1 := he _ hm
    have h2 := hw _ hm
    unfold okAt tokB
    rw [show powsB (L.getD j default).a (L.getD j default).b (L.getD j default).c = true from h2, decide_eq_true h1.1, decide_eq_true (by omega : (L.getD j default).t ≤ p - 1)]
    by_cases h0 : j = 0
    · subst h0; rfl
    · rw [srt_getD hs (by omega : j - 1 < j) hj]; simp
theorem red_valid {p : Int} {L : List Trm} (hp : isP p = true) (hV : validB p L = true) : validB p (mkK p (redL p L) L.length) = true := by
  have hf := mkK_facts (p := p) (L := redL p L) hp (k := L.length) (by rw [redL_len]; omega) (by rw [redL_len]; exact validB_len hV)
  refine validB_of5 hf.1 hf.2.1 (fun y hy => ?_) hf.2.2
  have hpw := List.all_eq_true.1 (red_pw hp hV)
  rcases addAll_mem5 hy with h | ⟨x, hx, _, h1, h2, h3⟩
  · cases h
  · obtain ⟨z, hz, rfl⟩ := List.mem_map.1 hx
    have := hpw z (List.mem_of_mem_take hz)
    show powsB y.a y.b y.c = true
    rw [h1, h2, h3]
    exact this
/-- the reduced polynomial -/
def redV (p : Int) (L : List Trm) : List Trm := mkK p (redL p L) L.length
theorem rd_is {p : Int} {L : List Trm} (hp : isP p = true) (hV : validB p L = true) : rdOk p L = true ∧ rdV p L = redV p L := by
  obtain ⟨h1, h2⟩ := rdOk_yes hp hV
  rw [h1, h2, red_valid hp hV]
  exact ⟨rfl, rfl⟩
def sameB (p : Int) (L M : List Trm) : Bool := (okB p (vt0.1, L) && okB p (vt0.1, M)) && decide (redV p L = redV p M)
theorem rdOk_is (p : Int) (L : List Trm) : rdOk p L = (isP p && validB p L) := by
  cases h : (isP p && validB p L)
  · exact (rdOk_no h).1
  · simp only [Bool.and_eq_true] at h
    exact (rd_is h.1 h.2).1
theorem all_eq {A M : List Trm} (hl : A.length = M.length) (h : ∀ j, j < A.length → A.getD j default = M.getD j default) : A = M := by
  apply List.ext_getElem hl
  intro j h1 h2
  have := h j h1
  simpa [List.getD_eq_getElem?_getD, h1, h2] using this
set_option maxRecDepth 100000 in
set_option maxHeartbeats 4000000 in
theorem iEqual_some (g1 o1 c1 g2 o2 c2 : Nat) (A M : List Trm) (w : World) (hl : A.length = M.length) (hA : A.length ≤ 1048576) (hg1 : g1 < w.heap.size) (hg2 : g2 < w.heap.size)
    (h1 : ∀ j : Nat, j < A.length → TAt w g1 (o1 + j * 4) (A.getD j default)) (h2 : ∀ j : Nat, j < M.length → TAt w g2 (o2 + j * 4) (M.getD j default)) :
    Calls Try.prog 107 #[.slice (some ⟨g1, o1, none⟩) A.length c1, .slice (some ⟨g2, o2, none⟩) M.length c2] w fun e w' => e = .returned (.bool (decide (A = M))) ∧ Below w.heap.size w w' := by
  have H1 := Lib.hid h1
  have H2 := Lib.hid h2
  have HL := Lib.hid hl
  rw [← hl]
  clear h1 h2 hl
  go_enter Try.func107, Try.ntmps107
  go_wp2_with fail
  go_loopw [13] (fun i wr => ∃ k : Nat, k ≤ A.length ∧ i = .int .i64 k ∧ (∀ j, j < k → A.getD j default = M.getD j default) ∧ Below w.heap.size w wr) (fun i _ => A.length - (intOf i).toNat)
  case atStart => exact ⟨0, by omega, rfl, fun j hj => by omega, Below.refl _ _⟩
  case round =>
    obtain ⟨k, hk, rfl, hE, hb⟩ := hrel
    by_cases hlt : k < A.length
    · have hltp : (k : Int) < (A.length : Int) := by omega
      have hk0 : (0 : Int) ≤ (k : Int) := by omega
      obtain ⟨a0, a1, a2, a3⟩ := (H1.out k hlt).below hb hg1
      obtain ⟨b0, b1, b2, b3⟩ := (H2.out k (HL.out ▸ hlt)).below hb hg2
      have hq := fun w => runEqT (A.getD k default) (M.getD k default) w
      obtain ⟨x, hx⟩ : ∃ x, x = A.getD k default := ⟨_, rfl⟩
      obtain ⟨y, hy⟩ : ∃ y, y = M.getD k default := ⟨_, rfl⟩
      rw [← hx] at a0 a1 a2 a3 hq
      rw [← hy] at b0 b1 b2 b3 hq
      unfold Trm.v at hq
      have HX := Lib.hid (And.intro hx hy)
      have HE := Lib.hid hE
      have HB := Lib.hid hb
      clear hx hy hE hb
      by_cases hxy : x = y
      · rw [decide_eq_true hxy] at hq
        have HXY := Lib.hid hxy
        clear hxy
        go_wp2_with fail
        go_quiet (fail)
        go_wp2_with fail
        go_roundw
        case rel => exact ⟨k + 1, by omega, by go_num, fun j hj => by
          by_cases e : j < k
          · exact HE.out j e
          · have e2 : j = k := by omega
            subst e2
            rw [← HX.out.1, ← HX.out.2]
            exact HXY.out, below_drewN HB.out _⟩
        case measure => simp [intOf]; omega
      · rw [decide_eq_false hxy] at hq
        have HN := Lib.hid (show decide (A = M) = false from decide_eq_false (fun e => hxy (by rw [HX.out.1, HX.out.2, e])))
        clear hxy
        go_wp2_with fail
        go_quiet (fail)
        go_wp2_with fail
        go_ret
        exact ⟨ret_bool HN.out.symm, below_drewN HB.out _⟩
    · have hkl : k = A.length := by omega
      have HN := Lib.hid (show decide (A = M) = true from decide_eq_true (all_eq HL.out (fun j hj => hE j (by omega))))
      subst hkl
      go_wp2_with fail
      go_ret
      exact ⟨ret_bool HN.out.symm, hb⟩
theorem iEqual_nil (a1 a2 : Option Addr) (c1 c2 : Nat) (w : World) :
    Calls Try.prog 107 #[.slice a1 0 c1, .slice a2 0 c2] w fun e w' => e = .returned (.bool true) ∧ Below w.heap.size w w' := by
  go_enter Try.func107, Try.ntmps107
  go_wp2_with fail
  go_loopw [13] (fun i wr => i = .int .i64 0 ∧ Below w.heap.size w wr) (fun _ _ => 0)
  case atStart => exact ⟨rfl, Below.refl _ _⟩
  case round =>
    obtain ⟨rfl, hb⟩ := hrel
    go_wp2_with fail
    go_ret
    exact ⟨rfl, hb⟩
theorem iEqual_len (a1 a2 : Option Addr) (n1 n2 c1 c2 : Nat) (h : n1 ≠ n2) (w : World) :
    Calls Try.prog 107 #[.slice a1 n1 c1, .slice a2 n2 c2] w fun e w' => e = .returned (.bool false) ∧ Below w.heap.size w w' := by
  have hb : ((n1 : Int) != (n2 : Int)) = true := by simp; omega
  have hb2 : ¬ ((n1 : Int) = (n2 : Int)) := by omega
  go_enter Try.func107, Try.ntmps107
  go_wp2_with fail
  go_ret
  exact ⟨rfl, Below.refl _ _⟩
theorem iEqual (v1 v2 : Value) (A M : List Trm) (w : World) (hA : Trms w v1 A) (hM : Trms w v2 M) :
    Calls Try.prog 107 #[v1, v2] w fun e w' => e = .returned (.bool (decide (A = M))) ∧ Below w.heap.size w w' := by
  obtain ⟨l1, a1, c1, rfl, h1⟩ := hA
  obtain ⟨l2, a2, c2, rfl, h2⟩ := hM
  by_cases hl : A.length = M.length
  · by_cases h0 : A = []
    · subst h0
      have : M = [] := List.length_eq_zero_iff.1 hl.symm
      subst this
      exact iEqual_nil a1 a2 c1 c2 w
    · have hM0 : M ≠ [] := fun e => h0 (List.length_eq_zero_iff.1 (by rw [hl, e]; rfl))
      rcases h1 with h1 | ⟨g1, o1, rfl, hg1, hc1⟩
      · exact absurd h1 h0
      · rcases h2 with h2 | ⟨g2, o2, rfl, hg2, hc2⟩
        · exact absurd h2 hM0
        · exact iEqual_some g1 o1 c1 g2 o2 c2 A M w hl l1 hg1 hg2 hc1 hc2
  · rw [decide_eq_false (fun e => hl (by rw [e]))]
    exact iEqual_len a1 a2 _ _ c1 c2 hl w
theorem ho1_trms {w w' : World} {B : Nat} {v : Value} {L : List Trm} (h : OwnTrms w B v L) (hb : Below w.heap.size w w') : Trms w' v L := (h.below hb).trms
set_option maxHeartbeats 4000000 in
theorem iSameValues (p : Int) (f g : Value) (L M : List Trm) (w : World) (hL : Trms w f L) (hM : Trms w g M) :
    Calls Try.prog 59 #[.int .i64 p, f, g] w fun e w' => e = .returned (.bool (sameB p L M)) ∧ Below w.heap.size w w' := by
  have H1 := Lib.hid (iReducePoly p f L w hL)
  have H2 := Lib.hid (fun w' (hb : Below w.heap.size w w') => iReducePoly p g M w' (hM.below hb))
  obtain ⟨b1, hb1⟩ : ∃ b, b = rdOk p L := ⟨_, rfl⟩
  obtain ⟨b2, hb2⟩ : ∃ b, b = rdOk p M := ⟨_, rfl⟩
  have HS := Lib.hid (show sameB p L M = ((b1 && b2) && decide (rdV p L = rdV p M)) by
    rw [hb1, hb2, rdOk_is, rdOk_is]
    unfold sameB okB
    rcases Bool.eq_false_or_eq_true (isP p && validB p L) with h1 | h1
    · rcases Bool.eq_false_or_eq_true (isP p && validB p M) with h2 | h2
      · have k1 := h1
        have k2 := h2
        simp only [Bool.and_eq_true] at k1 k2
        rw [(rd_is k1.1 k1.2).2, (rd_is k2.1 k2.2).2]
      · rw [h1, h2]; rfl
    · rw [h1]; rfl)
  rw [← hb1] at H1
  rw [← hb2] at H2
  generalize rdV p L = A at *
  generalize rdV p M = N at *
  generalize sameB p L M = r at *
  clear hb1 hb2 hL hM
  go_enter Try.func59, Try.ntmps59
  go_wp2_with fail
  refine H1.out.mono ?_
  rintro e w1 ⟨v1, rfl, ho1, hb1⟩
  have HO1 := Lib.hid (And.intro ho1 hb1)
  clear ho1 hb1
  go_wp2_with fail
  refine (H2.out _ HO1.out.2).mono ?_
  rintro e w2 ⟨v2, rfl, ho2, hb2⟩
  have HO2 := Lib.hid (And.intro (ho2.trms) (And.intro (ho1_trms HO1.out.1 hb2) (HO1.out.2.trans (hb2.mono HO1.out.2.size))))
  clear ho2 hb2 HO1
  cases b1
  · have HR := Lib.hid (show r = false by rw [HS.out]; simp)
    clear HS H1 H2
    go_wp2_with fail
    go_ret
    exact ⟨ret_bool HR.out.symm, HO2.out.2.2⟩
  · cases b2
    · have HR := Lib.hid (show r = false by rw [HS.out]; simp)
      clear HS H1 H2
      go_wp2_with fail
      go_ret
      exact ⟨ret_bool HR.out.symm, HO2.out.2.2⟩
    · have HR := Lib.hid (show r = decide (A = N) by rw [HS.out]; simp)
      have HE := Lib.hid (iEqual v1 v2 A N w2 HO2.out.2.1 HO2.out.1)
      rw [← HR.out] at HE
      clear HS H1 H2
      go_wp2_with fail
      refine HE.out.mono ?_
      rintro e w3 ⟨rfl, hb3⟩
      go_wp2_with fail
      go_ret
      exact ⟨rfl, HO2.out.2.2.trans (hb3.mono HO2.out.2.2.size)⟩
theorem fldT (x : Value) (w : World) : (Instr.field 101 (.agg #[x]) 0).run Try.prog w = .ok x w := by kernel_rfl
set_option maxRecDepth 100000 in
set_option maxHeartbeats 8000000 in
theorem sSameValues_yes (p : Int) (a1 a2 : Option Addr) (c1 c2 : Nat) (L M : List Trm) (w : World) (hL : Trms w (.slice a1 L.length c1) L) (hM : Trms w (.slice a2 M.length c2) M) (hp : isP p = true) (hVL : validB p L = true) (hVM : validB p M = true) :
    Calls Try.prog 60 #[.int .i64 p, .slice a1 L.length c1, .slice a2 M.length c2] w fun e w' => e = .returned (.bool (decide (redV p L = redV p M))) ∧ Below w.heap.size w w' := by
  have HB := Lib.hid (bothAt p _ _ L M w hL hM true (by unfold okB; simp [hp, hVL, hVM]))
  have H1 := Lib.hid (fun w' (hb : Below w.heap.size w w') => sReduced p a1 c1 L w' hp hVL (hL.below hb))
  have H2 := Lib.hid (fun w' (hb : Below w.heap.size w w') => sReduced p a2 c2 M w' hp hVM (hM.below hb))
  have hA := validB_len (red_valid hp hVL)
  have hN := validB_len (red_valid hp hVM)
  change (redV p L).length ≤ 60 at hA
  change (redV p M).length ≤ 60 at hN
  rw [show mkK p (redL p L) L.length = redV p L from rfl] at H1
  rw [show mkK p (redL p M) M.length = redV p M from rfl] at H2
  generalize redV p L = A at *
  generalize redV p M = N at *
  obtain ⟨r, hr⟩ : ∃ r, r = decide (A = N) := ⟨_, rfl⟩
  have HR := Lib.hid hr
  rw [← hr]
  clear hL hM hp hVL hVM hr
  go_enter Try.func60, Try.ntmps60
  go_wp2_with fail
  refine HB.out.mono ?_
  rintro e w1 ⟨rfl, hb1⟩
  have HB1 := Lib.hid hb1
  clear hb1 HB
  go_wp2_with fail
  refine (H1.out _ HB1.out).mono ?_
  rintro e w2 ⟨v1, rfl, hR1, hb2⟩
  have ho1 := (hR1.own (by omega)).trms
  have HB2 := Lib.hid (HB1.out.trans (hb2.mono HB1.out.size))
  obtain ⟨l1, e1, d1, rfl, h1⟩ := ho1
  have HT1 := Lib.hid (show Trms w2 (.slice e1 A.length d1) A from ⟨l1, e1, d1, rfl, h1⟩)
  clear hR1 hb2 h1 H1
  go_wp2_with (simp only [fldT])
  refine (H2.out _ HB2.out).mono ?_
  rintro e w3 ⟨v2, rfl, hR2, hb3⟩
  have ho2 := (hR2.own (by omega)).trms
  obtain ⟨l2, e2, d2, rfl, h2⟩ := ho2
  have HT2 := Lib.hid (show Trms w3 (.slice e2 N.length d2) N from ⟨l2, e2, d2, rfl, h2⟩)
  have HT3 := Lib.hid (HT1.out.below hb3)
  have HB3 := Lib.hid (HB2.out.trans (hb3.mono HB2.out.size))
  clear hR2 hb3 h2 H2 HT1 l1 l2
  obtain ⟨m, hcase⟩ : ∃ m : Nat, ((A.length : Int) ≤ (N.length : Int) ∧ m = A.length) ∨ (¬ (A.length : Int) ≤ (N.length : Int) ∧ m = N.length) := by
    by_cases h : (A.length : Int) ≤ (N.length : Int)
    · exact ⟨_, .inl ⟨h, rfl⟩⟩
    · exact ⟨_, .inr ⟨h, rfl⟩⟩
  rcases hcase with ⟨hcm, hm⟩ | ⟨hcm, hm⟩
  all_goals
    have hmA : m ≤ A.length := by omega
    have hmN : m ≤ N.length := by omega
    have HM := Lib.hid hm
    clear hm
    go_wp2_with (simp only [fldT])
    go_loopw [29] (fun i wr => ∃ k : Nat, k ≤ m ∧ i = .int .i64 k ∧ (∀ j, j < k → A.getD j default = N.getD j default) ∧ Below w3.heap.size w3 wr) (fun i _ => m - (intOf i).toNat)
    case atStart => exact ⟨0, by omega, rfl, fun j hj => by omega, Below.refl _ _⟩
    case round =>
      obtain ⟨k, hk, rfl, hE, hb⟩ := hrel
      by_cases hlt : k < m
      · have hltA : (k : Int) < (A.length : Int) := by omega
        have hltN : (k : Int) < (N.length : Int) := by omega
        have hk0 : (0 : Int) ≤ (k : Int) := by omega
        obtain ⟨g1, o1, rfl, hg1, hc1⟩ : ∃ g off, e1 = some ⟨g, off, none⟩ ∧ g < w3.heap.size ∧ ∀ j : Nat, j < A.length → TAt w3 g (off + j * 4) (A.getD j default) := by
          obtain ⟨_, a', cap', he, h⟩ := HT3.out
          injection he with q1 q2 q3
          subst q1
          rcases h with h | h
          · rw [h] at hltA; simp at hltA; omega
          · exact h
        obtain ⟨g2, o2, rfl, hg2, hc2⟩ : ∃ g off, e2 = some ⟨g, off, none⟩ ∧ g < w3.heap.size ∧ ∀ j : Nat, j < N.length → TAt w3 g (off + j * 4) (N.getD j default) := by
          obtain ⟨_, a', cap', he, h⟩ := HT2.out
          injection he with q1 q2 q3
          subst q1
          rcases h with h | h
          · rw [h] at hltN; simp at hltN; omega
          · exact h
        obtain ⟨a0, a1, a2, a3⟩ := (hc1 k (by omega)).below hb hg1
        obtain ⟨b0, b1, b2, b3⟩ := (hc2 k (by omega)).below hb hg2
        have hq := fun w => runEqT (A.getD k default) (N.getD k default) w
        obtain ⟨x, hx⟩ : ∃ x, x = A.getD k default := ⟨_, rfl⟩
        obtain ⟨y, hy⟩ : ∃ y, y = N.getD k default := ⟨_, rfl⟩
        rw [← hx] at a0 a1 a2 a3 hq
        rw [← hy] at b0 b1 b2 b3 hq
        unfold Trm.v at hq
        have HX := Lib.hid (And.intro hx hy)
        have HE := Lib.hid hE
        have HB := Lib.hid hb
        clear hx hy hE hb hc1 hc2
        by_cases hxy : x = y
        · rw [decide_eq_true hxy] at hq
          have HXY := Lib.hid hxy
          clear hxy
          go_wp2_with fail
          go_quiet (fail)
          go_wp2_with fail
          go_roundw
          case rel => exact ⟨k + 1, by omega, by go_num, fun j hj => by
            by_cases e : j < k
            · exact HE.out j e
            · have e2 : j = k := by omega
              subst e2
              rw [← HX.out.1, ← HX.out.2]
              exact HXY.out, below_drewN HB.out _⟩
          case measure => simp [intOf]; omega
        · rw [decide_eq_false hxy] at hq
          have HN := Lib.hid (show r = false by rw [HR.out]; exact decide_eq_false (fun e => hxy (by rw [HX.out.1, HX.out.2, e])))
          clear hxy
          go_wp2_with fail
          go_quiet (fail)
          go_wp2_with fail
          go_ret
          exact ⟨ret_bool HN.out.symm, HB3.out.trans ((below_drewN HB.out _).mono HB3.out.size)⟩
      · have hkl : k = m := by omega
        subst hkl
        have hme := HM.out
        by_cases hl : A.length = N.length
        · have HN := Lib.hid (show r = true by rw [HR.out]; exact decide_eq_true (all_eq hl (fun j hj => hE j (by omega))))
          have hbe : ((A.length : Int) == (N.length : Int)) = true := by simp; omega
          first
            | (have hge : ¬ ((k : Int) < (A.length : Int)) := by omega
               clear hE hme hl
               go_wp2_with fail
               go_ret
               exact ⟨ret_bool HN.out.symm, HB3.out.trans (hb.mono HB3.out.size)⟩)
            | (have hge : ¬ ((k : Int) < (N.length : Int)) := by omega
               clear hE hme hl
               go_wp2_with fail
               go_ret
               exact ⟨ret_bool HN.out.symm, HB3.out.trans (hb.mono HB3.out.size)⟩)
        · have HN := Lib.hid (show r = false by rw [HR.out]; exact decide_eq_false (fun e => hl (by rw [e])))
          have hbe : ((A.length : Int) == (N.length : Int)) = false := by simp; omega
          first
            | (have hge : ¬ ((k : Int) < (A.length : Int)) := by omega
               clear hE hme hl
               go_wp2_with fail
               go_ret
               exact ⟨ret_bool HN.out.symm, HB3.out.trans (hb.mono HB3.out.size)⟩)
            | (have hge : ¬ ((k : Int) < (N.length : Int)) := by omega
               clear hE hme hl
               go_wp2_with fail
               go_ret
               exact ⟨ret_bool HN.out.symm, HB3.out.trans (hb.mono HB3.out.size)⟩)
theorem sSameValues (p : Int) (f g : Value) (L M : List Trm) (w : World) (hL : Trms w f L) (hM : Trms w g M) :
    Calls Try.prog 60 #[.int .i64 p, f, g] w fun e w' => e = .returned (.bool (sameB p L M)) ∧ Below w.heap.size w w' := by
  cases hn : (okB p (f, L) && okB p (g, M))
  · have HR := Lib.hid (show sameB p L M = false by unfold sameB; rw [show (okB p (vt0.1, L) && okB p (vt0.1, M)) = false from hn]; rfl)
    obtain ⟨l1, a1, c1, rfl, h1⟩ := hL
    obtain ⟨l2, a2, c2, rfl, h2⟩ := hM
    have HB := Lib.hid (bothAt p _ _ L M w ⟨l1, a1, c1, rfl, h1⟩ ⟨l2, a2, c2, rfl, h2⟩ false hn)
    clear hn h1 h2
    go_enter Try.func60, Try.ntmps60
    go_wp2_with fail
    refine HB.out.mono ?_
    rintro e w1 ⟨rfl, hb1⟩
    go_wp2_with fail
    go_ret
    exact ⟨ret_bool HR.out.symm, hb1⟩
  · have HR : sameB p L M = decide (redV p L = redV p M) := by unfold sameB; rw [show (okB p (vt0.1, L) && okB p (vt0.1, M)) = true from hn]; rfl
    rw [HR]
    simp only [okB, Bool.and_eq_true] at hn
    obtain ⟨l1, a1, c1, rfl, h1⟩ := hL
    obtain ⟨l2, a2, c2, rfl, h2⟩ := hM
    exact sSameValues_yes p a1 a2 c1 c2 L M w ⟨l1, _, _, rfl, h1⟩ ⟨l2, _, _, rfl, h2⟩ hn.1.1 hn.1.2 hn.2.2
end Go.Proofs.Ytajabchbdhjdiaa
namespace Go.Proofs.Ytajabchbdhjdiaa
set_option linter.unusedVariables false
open Go.RowKit
/-- whether an unknown stands in a list of terms -/
def ndB (R : List Trm) (v : Int) : Bool := R.any fun x => pw v x != 0
/-- the unknowns below k that stand in it -/
def ndK (R : List Trm) (k : Nat) : List Int := ((List.range k).filter fun (v : Nat) => ndB R v).map fun (v : Nat) => (v : Int)
def ndL (p : Int) (L : List Trm) : List Int := ndK (rdV p L) 3
theorem ndK_hit {R : List Trm} {k : Nat} (h : ndB R k = true) : ndK R (k + 1) = ndK R k ++ [(k : Int)] := by
  simp [ndK, List.range_succ, List.filter_append, h]
theorem ndK_miss {R : List Trm} {k : Nat} (h : ndB R k = false) : ndK R (k + 1) = ndK R k := by
  simp [ndK, List.range_succ, List.filter_append, h]
theorem ndK_le (R : List Trm) (k : Nat) : (ndK R k).length ≤ k := by
  unfold ndK; rw [List.length_map]
  exact Nat.le_trans (List.length_filter_le _ _) (by simp)
theorem ndB_yes {R : List Trm} {v : Int} {j : Nat} (hj : j < R.length) (h : pw v (R.getD j default) ≠ 0) : ndB R v = true := by
  refine List.any_eq_true.2 ⟨R[j], List.getElem_mem hj, ?_⟩
  rw [List.getD_eq_getElem?_getD, List.getElem?_eq_getElem hj] at h
  simpa using h
theorem ndB_no {R : List Trm} {v : Int} (h : ∀ j, j < R.length → pw v (R.getD j default) = 0) : ndB R v = false := by
  refine List.any_eq_false.2 fun x hx => ?_
  obtain ⟨j, hj, rfl⟩ := List.getElem_of_mem hx
  have := h j hj
  rw [List.getD_eq_getElem?_getD, List.getElem?_eq_getElem hj] at this
  simpa using this
theorem pw_cell {W : World} {g : Nat} {x : Trm} {v : Nat} (hv : v < 3) (h : TAt W g 0 x) : W.cell? ⟨g, v, none⟩ = some (.int .i64 (pw v x)) := by
  have h3 : v = 0 ∨ v = 1 ∨ v = 2 := by omega
  rcases h3 with rfl | rfl | rfl
  · exact h.1
  · exact h.2.1
  · exact h.2.2.1
theorem boxT_at (w : World) (x : Trm) (ty : TypeId) : TAt (w.alloc (Obj.cells #[.int .i64 x.a, .int .i64 x.b, .int .i64 x.c, .int .i64 x.t] ty)) w.heap.size 0 x :=
  ⟨World.cell?_alloc_at _ _ _ 0 rfl, World.cell?_alloc_at _ _ _ 1 rfl, World.cell?_alloc_at _ _ _ 2 rfl, World.cell?_alloc_at _ _ _ 3 rfl⟩
theorem RowN.iter {w : World} {B : Nat} {v : Value} {L : List Int} (h : RowN w B v L) {k : Nat} {s : ByteArray} {pos : Nat} (hk : w.heap[k]? = some (.stringIter s pos)) (pos' : Nat) : RowN (w.iterAt k s pos') B v L := by
  obtain ⟨h1, h2⟩ := h
  refine ⟨h1, ?_⟩
  rcases h2 with h2 | ⟨g, cap, cur, hv, hg, hh, hr⟩
  · exact .inl h2
  · have hne : g ≠ k := by
      rintro rfl
      rw [hk] at hh
      cases hh
    exact .inr ⟨g, cap, cur, hv, hg, by rw [Lib.iterAt_other _ _ _ _ _ hne]; exact hh, hr⟩
theorem RowN.noIter {w : World} {B : Nat} {v : Value} {L : List Int} (h : RowN w B v L) {k : Nat} {s : ByteArray} {pos : Nat} (hk : w.heap[k]? = some (.stringIter s pos)) : some k ≠ v.ownBlock := by
  obtain ⟨h1, h2⟩ := h
  rcases h2 with ⟨rfl, _⟩ | ⟨g, cap, cur, rfl, hg, hh, hr⟩
  · simp [Value.ownBlock]
  · intro e
    simp [Value.ownBlock] at e
    subst e
    rw [hk] at hh
    cases hh
theorem iterPosN {w : World} {k : Nat} {s : ByteArray} {p : Nat} (h : w.heap[k]? = some (.stringIter s p)) : w.iterPos k = p := by simp [World.iterPos, h]
set_option maxRecDepth 100000 in
set_option maxHeartbeats 8000000 in
theorem iNeedsOf (p : Int) (f : Value) (L : List Trm) (w : World) (h : Trms w f L) :
    Calls Try.prog 37 #[.int .i64 p, f] w (GivesN (ndL p L) w) := by
  obtain ⟨i0, hi, hz0, hz1, hz2⟩ := info_parts infoN
  have HR := Lib.hid (iReducePoly p f L w h)
  obtain ⟨R, hR⟩ : ∃ R, R = rdV p L := ⟨_, rfl⟩
  rw [← hR] at HR
  have HL := Lib.hid (show ndL p L = ndK R 3 by unfold ndL; rw [hR])
  rw [HL.out]
  clear hR HL h
  obtain ⟨s, hs⟩ : ∃ s : ByteArray, s = ⟨#[120, 121, 122]⟩ := ⟨_, rfl⟩
  have HSZ := Lib.hid (show s.size = 3 ∧ ∀ i (h : i < s.size), (s[i]'h).toNat < 128 from by
    rw [hs]; exact ⟨rfl, by decide⟩)
  go_enter Try.func37, Try.ntmps37
  go_wp2_with fail
  apply wp_scope_straight
  go_wp2_with fail
  refine HR.out.mono ?_
  rintro e w1 ⟨u, rfl, hu, hb1⟩
  obtain ⟨hul, ua, uc, rfl, hu2⟩ := hu
  have HB1 := Lib.hid hb1
  have HT := Lib.hid (show ∀ w', Below w1.heap.size w1 w' → ∀ j : Nat, j < R.length → ∃ g off, ua = some ⟨g, off, none⟩ ∧ TAt w' g (off + j * 4) (R.getD j default) from by
    intro w' hb j hj
    rcases hu2 with h0 | ⟨g, off, ha, hB, hg, hc, hf⟩
    · rw [h0] at hj; simp at hj
    · exact ⟨g, off, ha, (hc j hj).below hb hg⟩)
  have hul2 : (R.length : Int) ≤ 1048576 := by omega
  clear hu2 hb1 hul
  go_wp2_with fail
  go_step3
  go_wp2_with fail
  rw [← hs]
  clear hs
  go_loopw [7] (fun v wr => ∃ k : Nat, k ≤ 3 ∧ wr.heap[w1.heap.size]? = some (.stringIter s k) ∧ RowN wr w1.heap.size v (ndK R k) ∧ Below w1.heap.size w1 wr) (fun _ wr => s.size - wr.iterPos w1.heap.size)
  case atStart => exact ⟨0, by omega, World.iter_heap w1 s 0, RowN.nil _ _, (Below.refl _ _).alloc (Nat.le_refl _) _⟩
  case round =>
    obtain ⟨k, hk, hit, hrow, hb⟩ := hrel
    have hpos0 := iterPosN hit
    obtain ⟨hs3, hasc⟩ := HSZ.out
    by_cases hk3 : k < 3
    · have hks : k < s.size := by omega
      have ha := hasc k hks
      have hnx : ∀ ty, (Instr.next (.pointer (some ⟨w1.heap.size, 0, none⟩)) true ty).run Try.prog wr = _ := fun ty => Lib.run_next_ascii_at wr w1.heap.size s k ty hit hks ha
      have hit2 := Lib.iterAt_heap wr w1.heap.size s k (k + 1) hit
      have hb2 := Lib.below_iterAt hb (k := w1.heap.size) (Nat.le_refl _) s (k + 1)
      have hrow2 : RowN (wr.iterAt w1.heap.size s (k + 1)) w1.heap.size u7 (ndK R k) := hrow.iter hit (k + 1)
      obtain ⟨W1, hW1⟩ : ∃ W1, W1 = wr.iterAt w1.heap.size s (k + 1) := ⟨_, rfl⟩
      rw [← hW1] at hnx hit2 hb2 hrow2
      have HIT := Lib.hid hit2
      have HB := Lib.hid hb2
      have HP0 := Lib.hid hpos0
      have HROW := Lib.hid hrow2
      clear hW1 hit hb hit2 hb2 ha hpos0 hrow hrow2 hasc
      go_wp2_with fail
      obtain ⟨vn, hvn⟩ : ∃ vn, vn = u7 := ⟨_, rfl⟩
      rw [← hvn] at HROW ⊢
      clear hvn hnx
      have hkz : (0 : Int) ≤ (k : Int) := by omega
      have hkz3 : (k : Int) < 3 := by omega
      go_loopw [7, 23] (fun v7 i w2 => v7 = vn ∧ ∃ j : Nat, j ≤ R.length ∧ i = .int .i64 j ∧ (∀ j', j' < j → pw k (R.getD j' default) = 0) ∧ Below W1.heap.size W1 w2) (fun _ i _ => R.length - (intOf i).toNat)
      case atStart => exact ⟨rfl, 0, by omega, rfl, fun j hj => by omega, Below.refl _ _⟩
      case round =>
        obtain ⟨rfl, j, hj, rfl, hz, hb2⟩ := hrel
        have HZ := Lib.hid hz
        have HB2 := Lib.hid hb2
        clear hz hb2
        by_cases hlt : j < R.length
        · have hltp : (j : Int) < (R.length : Int) := by omega
          have hj0 : (0 : Int) ≤ (j : Int) := by omega
          obtain ⟨g, off, rfl, t0, t1, t2, t3⟩ := HT.out _ (HB.out.trans (HB2.out.mono HB.out.size)) j hlt
          obtain ⟨x, hx⟩ : ∃ x, x = R.getD j default := ⟨_, rfl⟩
          rw [← hx] at t0 t1 t2 t3
          have HX := Lib.hid hx
          clear hx
          go_upto_region 9 with fail
          clear t0 t1 t2 t3
          obtain ⟨Wb, hWb⟩ : ∃ Wb, Wb = wr.alloc (Obj.cells #[.int .i64 x.a, .int .i64 x.b, .int .i64 x.c, .int .i64 x.t] 69) := ⟨_, rfl⟩
          rw [← hWb]
          have cv : Wb.cell? ⟨wr.heap.size, k, none⟩ = some (.int .i64 (pw k x)) := by rw [hWb]; exact pw_cell hk3 (boxT_at wr x _)
          have HBW := Lib.hid (show Below W1.heap.size W1 Wb from by rw [hWb]; exact HB2.out.alloc HB2.out.size _)
          have HRW := Lib.hid (HROW.out.below HBW.out)
          obtain ⟨q, hq⟩ : ∃ q, q = pw k x := ⟨_, rfl⟩
          rw [← hq] at cv
          have HQ := Lib.hid (show pw k (R.getD j default) = q from by rw [hq, HX.out])
          clear hWb hq
          by_cases hq0 : q = 0
          · have hqb : (q != 0) = false := by simp [hq0]
            have HQ0 := Lib.hid hq0
            clear hq0
            go_wp2_with fail
            go_roundw
            case rel => exact ⟨rfl, j + 1, by omega, by go_num, fun j' hj' => by
              by_cases e : j' = j
              · rw [e, HQ.out, HQ0.out]
              · exact HZ.out j' (by omega), HBW.out⟩
            case measure => simp [intOf]; omega
          · have hqb : (q != 0) = true := by simp [hq0]
            have HYES := Lib.hid (ndB_yes (v := (k : Int)) hlt (by rw [HQ.out]; exact hq0))
            have hle := ndK_le R k
            have HSB := Lib.hid (show Below w1.heap.size w1 Wb from HB.out.trans (HBW.out.mono HB.out.size))
            have hsb := HSB.out.size
            clear hq0
            go_wp2_with (at_builtin; refine wpList_append_own _ rfl _ _ 24 rfl w1.heap.size 3 i0 (.int .i64 0) 1 8 Try.underlying24 hi hz0 hz1 hz2 rfl (by decide) _ _ _ rfl ((show Wb.ownsRow _ _ _ _ _ _ from HRW.out).alloc _) ⟨Wb.heap.size, 0, none⟩ 1 1 [.int .i64 k] rfl rfl ?c1 ?c2 ?c3 ?c4 ?c5 ?_)
            case c1 =>
              intro j u hj
              match j, hj with
              | 0, hj => simp at hj; subst hj; simp [Addr.add]
            case c2 => intro u hu; simp at hu; subst hu; rfl
            case c3 => unfold maxLen; omega
            case c4 => omega
            case c5 => simp; omega
            intro v' w2 hown' hgrow _
            have R1 := Lib.hid (rowN_snoc (w := w1) HRW.out HSB.out hsb hown' hgrow)
            have HI2 := Lib.hid (show w2.heap[w1.heap.size]? = some (.stringIter s (k + 1)) from by
              have hW : Wb.heap[w1.heap.size]? = some (.stringIter s (k + 1)) := (HBW.out.block _ (Array.getElem?_eq_some_iff.1 HIT.out).1).trans HIT.out
              have hlt2 := (Array.getElem?_eq_some_iff.1 hW).1
              rw [hgrow.block _ (by simp; omega) (HRW.out.noIter hW), Below.heap_alloc _ _ _ hlt2]
              exact hW)
            clear hown' hgrow
            go_wp2_with fail
            go_roundw
            case rel => exact ⟨k + 1, by omega, HI2.out, by rw [ndK_hit HYES.out]; exact R1.out.1, R1.out.2⟩
            case measure => rw [iterPosN HI2.out, HP0.out]; omega
        · have hjR : j = R.length := by omega
          have HNO := Lib.hid (ndB_no (R := R) (v := (k : Int)) (fun j' hj' => HZ.out j' (by omega)))
          have hnl : ¬ (j : Int) < (R.length : Int) := by omega
          clear hjR
          go_wp2_with fail
          go_roundw
          case rel => exact ⟨k + 1, by omega, (HB2.out.block _ (Array.getElem?_eq_some_iff.1 HIT.out).1).trans HIT.out, by rw [ndK_miss HNO.out]; exact HROW.out.below HB2.out, HB.out.trans (HB2.out.mono HB.out.size)⟩
          case measure => rw [iterPosN ((HB2.out.block _ (Array.getElem?_eq_some_iff.1 HIT.out).1).trans HIT.out), HP0.out]; omega
    · have hkp : k = 3 := by omega
      subst hkp
      have hnx : ∀ ty, (Instr.next (.pointer (some ⟨w1.heap.size, 0, none⟩)) true ty).run Try.prog wr = _ := fun ty => Lib.run_next_end_at wr w1.heap.size s 3 ty hit (by omega)
      have H3 := Lib.hid (And.intro hrow hb)
      clear hit hrow hb hasc hpos0
      go_wp2_with fail
      simp only [Exit.noGoto_ret]
      go_ret
      exact ⟨_, rfl, H3.out.1.base HB1.out.size, HB1.out.trans (H3.out.2.mono HB1.out.size)⟩
set_option maxRecDepth 100000 in
set_option maxHeartbeats 8000000 in
theorem sNeedsOf (p : Int) (f : Value) (L : List Trm) (w : World) (h : Trms w f L) :
    Calls Try.prog 36 #[.int .i64 p, f] w (GivesN (ndL p L) w) := by
  obtain ⟨i0, hi, hz0, hz1, hz2⟩ := info_parts infoN
  have hb0 : Below w.heap.size w (w.alloc (Obj.cells #[] 3)) := Below.alloc (Below.refl _ _) (Nat.le_refl _) _
  have HPV := Lib.hid (sPolyValid p f L _ (h.below hb0))
  have HB0 := Lib.hid hb0
  cases hV : (isP p && validB p L)
  · have HL := Lib.hid (show ndL p L = [] by unfold ndL; rw [(rdOk_no hV).2]; rfl)
    rw [hV] at HPV
    rw [HL.out]
    clear hV HL hb0 h
    go_enter Try.func36, Try.ntmps36
    go_wp2_with fail
    apply wp_scope_straight
    go_wp2_with fail
    refine HPV.out.mono ?_
    rintro e w1 ⟨rfl, hb1⟩
    have HB1 := Lib.hid hb1
    clear hb1
    go_wp2_with fail
    simp only [Exit.noGoto_ret]
    go_ret
    exact ⟨_, rfl, (RowN.empty w (Nat.le_refl _)).below HB1.out, HB0.out.trans (HB1.out.mono HB0.out.size)⟩
  · have hpv : isP p = true ∧ validB p L = true := by simpa using hV
    have HL := Lib.hid (show ndL p L = ndK (mkK p (redL p L) L.length) 3 by unfold ndL; rw [(rd_is hpv.1 hpv.2).2]; rfl)
    rw [HL.out]
    obtain ⟨l0, fa, fc, rfl, l1⟩ := h
    have HRD := Lib.hid (fun w' (hb : Below w.heap.size w w') => sReduced p fa fc L w' hpv.1 hpv.2 (Trms.below ⟨l0, fa, fc, rfl, l1⟩ hb))
    obtain ⟨R, hR⟩ : ∃ R, R = mkK p (redL p L) L.length := ⟨_, rfl⟩
    have HPOS := Lib.hid (show ∀ j : Nat, j < R.length → ∀ v : Int, 0 ≤ pw v (R.getD j default) from by
      intro j hj v
      have hval := red_valid hpv.1 hpv.2
      rw [← hR] at hval
      obtain ⟨⟨a0, _⟩, ⟨b0, _⟩, ⟨c0, _⟩⟩ := validB_pows hval hj rfl
      unfold pw
      split
      · exact a0
      · split
        · exact b0
        · exact c0)
    have HRL := Lib.hid (show R.length ≤ 60 from by
      have := (mkK_facts (p := p) (L := redL p L) hpv.1 (k := L.length) (by rw [redL_len]; omega) (by rw [redL_len]; exact validB_len hpv.2)).2.2
      rw [hR]; exact this)
    rw [← hR] at HRD ⊢
    rw [hV] at HPV
    have HFT := Lib.hid fldT
    clear hR HL hV hpv hb0 l1
    go_enter Try.func36, Try.ntmps36
    go_wp2_with fail
    apply wp_scope_straight
    go_wp2_with fail
    refine HPV.out.mono ?_
    rintro e w1 ⟨rfl, hb1⟩
    have HB1 := Lib.hid (show Below w.heap.size w w1 from HB0.out.trans (hb1.mono HB0.out.size))
    have HE1 := Lib.hid ((RowN.empty w (Nat.le_refl _)).below hb1)
    have hb1s : w.heap.size + 1 ≤ w1.heap.size := by simpa using hb1.size
    clear hb1
    go_wp2_with fail
    refine (HRD.out w1 HB1.out).mono ?_
    rintro e w2 ⟨u, rfl, hu, hb2⟩
    have hul : (R.length : Int) ≤ 60 := by have := HRL.out; omega
    have HU := Lib.hid (hu.own (by omega))
    obtain ⟨hul2, ua, uc, rfl, hu2⟩ := hu.own (by omega)
    have hw12 : w.heap.size < w1.heap.size := by omega
    have HT := Lib.hid (show ∀ w' : World, (∀ b, b < w2.heap.size → b ≠ w.heap.size → w'.heap[b]? = w2.heap[b]?) → ∀ j : Nat, j < R.length → ∃ g off, ua = some ⟨g, off, none⟩ ∧ g < w2.heap.size ∧ TAt w' g (off + j * 4) (R.getD j default) from by
      intro w' hb j hj
      rcases hu2 with h0 | ⟨g, off, ha, hB, hg, hc, hf⟩
      · rw [h0] at hj; simp at hj
      · have e := hb g hg (by omega)
        obtain ⟨q0, q1, q2, q3⟩ := hc j hj
        exact ⟨g, off, ha, hg, (cell_of_heap (p := ⟨g, off + j * 4, none⟩) e).trans q0, (cell_of_heap (p := ⟨g, off + j * 4 + 1, none⟩) e).trans q1, (cell_of_heap (p := ⟨g, off + j * 4 + 2, none⟩) e).trans q2, (cell_of_heap (p := ⟨g, off + j * 4 + 3, none⟩) e).trans q3⟩)
    have HB2 := Lib.hid (show Below w.heap.size w w2 from HB1.out.trans (hb2.mono HB1.out.size))
    have HE2 := Lib.hid (HE1.out.below hb2)
    have hw22 := hb2.size
    clear hu2 hb2 hu HU hul2 HE1
    have hft := fldT
    go_wp2_with fail
    go_step3
    clear hft
    go_wp2_with fail
    obtain ⟨v0, hv0⟩ : ∃ v0 : Value, v0 = .slice (some ⟨w.heap.size, 0, none⟩) 0 0 := ⟨_, rfl⟩
    have HOB := Lib.hid (show ∀ b, v0.ownBlock = some b → b = w.heap.size ∨ w2.heap.size ≤ b from by
      rw [hv0]; intro b hb; left; simpa [Value.ownBlock, eq_comm] using hb)
    rw [← hv0] at HE2
    rw [← hv0]
    clear hv0
    go_loopw [5, 20] (fun v i wr => ∃ k : Nat, k ≤ 3 ∧ i = .int .i64 k ∧ RowN wr w.heap.size v (ndK R k) ∧ Below w.heap.size w wr ∧ (∀ b, v.ownBlock = some b → b = w.heap.size ∨ w2.heap.size ≤ b) ∧ w2.heap.size ≤ wr.heap.size ∧ (∀ b, b < w2.heap.size → b ≠ w.heap.size → wr.heap[b]? = w2.heap[b]?)) (fun _ i _ => 3 - (intOf i).toNat)
    case atStart => exact ⟨0, by omega, rfl, HE2.out, HB2.out, HOB.out, Nat.le_refl _, fun _ _ _ => rfl⟩
    case round =>
      obtain ⟨k, hk, rfl, hrow, hb, hob, hsz, hkeep⟩ := hrel
      obtain ⟨W1, hW1⟩ : ∃ W1, W1 = wr := ⟨_, rfl⟩
      obtain ⟨vn, hvn⟩ : ∃ vn, vn = u5 := ⟨_, rfl⟩
      rw [← hW1, ← hvn] at hrow
      rw [← hW1] at hb hsz hkeep
      rw [← hvn] at hob
      rw [← hW1, ← hvn]
      have HROW := Lib.hid hrow
      have HB := Lib.hid hb
      have HOW := Lib.hid hob
      have HKEEP := Lib.hid hkeep
      clear hW1 hvn hrow hb hob hkeep HE2 HOB
      by_cases hk3 : k < 3
      · have hkz : (0 : Int) ≤ (k : Int) := by omega
        have hkz3 : (k : Int) < 3 := by omega
        go_wp2_with fail
        go_loopw [5, 25] (fun v7 i w3 => v7 = vn ∧ ∃ j : Nat, j ≤ R.length ∧ i = .int .i64 j ∧ (∀ j', j' < j → pw k (R.getD j' default) = 0) ∧ Below W1.heap.size W1 w3) (fun _ i _ => R.length - (intOf i).toNat)
        case atStart => exact ⟨rfl, 0, by omega, rfl, fun j hj => by omega, Below.refl _ _⟩
        case round =>
          obtain ⟨rfl, j, hj, rfl, hz, hb2⟩ := hrel
          have HZ := Lib.hid hz
          have HB2 := Lib.hid hb2
          clear hz hb2
          by_cases hlt : j < R.length
          · have hltp : (j : Int) < (R.length : Int) := by omega
            have hj0 : (0 : Int) ≤ (j : Int) := by omega
            obtain ⟨g, off, rfl, hgw, hTT⟩ := HT.out W1 HKEEP.out j hlt
            obtain ⟨t0, t1, t2, t3⟩ := hTT.below HB2.out (by omega)
            have HPJ := Lib.hid (HPOS.out j hlt (k : Int))
            obtain ⟨x, hx⟩ : ∃ x, x = R.getD j default := ⟨_, rfl⟩
            rw [← hx] at t0 t1 t2 t3
            have HX := Lib.hid hx
            clear hx hTT
            go_upto_region 11 with fail
            clear t0 t1 t2 t3
            obtain ⟨Wb, hWb⟩ : ∃ Wb, Wb = wr.alloc (Obj.cells #[.int .i64 x.a, .int .i64 x.b, .int .i64 x.c, .int .i64 x.t] 69) := ⟨_, rfl⟩
            rw [← hWb]
            have cv : Wb.cell? ⟨wr.heap.size, k, none⟩ = some (.int .i64 (pw k x)) := by rw [hWb]; exact pw_cell hk3 (boxT_at wr x _)
            have HBW := Lib.hid (show Below W1.heap.size W1 Wb from by rw [hWb]; exact HB2.out.alloc HB2.out.size _)
            have HRW := Lib.hid (HROW.out.below HBW.out)
            obtain ⟨q, hq⟩ : ∃ q, q = pw k x := ⟨_, rfl⟩
            rw [← hq] at cv
            have HQ := Lib.hid (show pw k (R.getD j default) = q from by rw [hq, HX.out])
            have hqn : 0 ≤ q := by have := HPJ.out; rw [HQ.out] at this; exact this
            clear hWb hq
            by_cases hq0 : q = 0
            · have hqb : ¬ 0 < q := by omega
              have HQ0 := Lib.hid hq0
              clear hq0 hqn
              go_wp2_with fail
              go_roundw
              case rel => exact ⟨rfl, j + 1, by omega, by go_num, fun j' hj' => by
                by_cases e : j' = j
                · rw [e, HQ.out, HQ0.out]
                · exact HZ.out j' (by omega), HBW.out⟩
              case measure => simp [intOf]; omega
            · have hqb : 0 < q := by omega
              have HYES := Lib.hid (ndB_yes (v := (k : Int)) hlt (by rw [HQ.out]; exact hq0))
              have hle := ndK_le R k
              have HSB := Lib.hid (show Below w.heap.size w Wb from HB.out.trans (HBW.out.mono HB.out.size))
              have hsb := HSB.out.size
              clear hq0 hqn
              go_wp2_with (at_builtin; refine wpList_append_own_at _ rfl _ _ 24 rfl w.heap.size 3 i0 (.int .i64 0) 1 8 Try.underlying24 hi hz0 hz1 hz2 rfl (by decide) _ _ _ rfl ((show Wb.ownsRow _ _ _ _ _ _ from HRW.out).alloc _) ⟨Wb.heap.size, 0, none⟩ 1 1 [.int .i64 k] rfl rfl ?c1 ?c2 ?c3 ?c4 ?c5 ?_)
              case c1 =>
                intro j u hj
                match j, hj with
                | 0, hj => simp at hj; subst hj; simp [Addr.add]
              case c2 => intro u hu; simp at hu; subst hu; rfl
              case c3 => unfold maxLen; omega
              case c4 => omega
              case c5 => simp; omega
              intro v' w4 hown' hgrow _ hat
              have R1 := Lib.hid (rowN_snoc (w := w) HRW.out HSB.out hsb hown' hgrow)
              have hszb := HBW.out.size
              have HI2 := Lib.hid (show (∀ b, v'.ownBlock = some b → b = w.heap.size ∨ w2.heap.size ≤ b) ∧ w2.heap.size ≤ w4.heap.size ∧ (∀ b, b < w2.heap.size → b ≠ w.heap.size → w4.heap[b]? = w2.heap[b]?) from by
                have hs4 := hgrow.size
                rw [World.size_alloc] at hs4
                refine ⟨fun b hb => ?_, by omega, fun b hb hne => ?_⟩
                · rcases hat with hat | hat
                  · exact HOW.out b (by rw [← hat]; exact hb)
                  · rw [hat] at hb
                    have : (Wb.alloc (Obj.cells #[.int .i64 k] 3)).heap.size = b := by simpa using hb
                    rw [World.size_alloc] at this
                    omega
                · rw [hgrow.block b (by simp; omega) (fun e => by rcases HOW.out b e.symm with q | q <;> omega), Below.heap_alloc _ _ _ (by omega), HBW.out.block b (by omega)]
                  exact HKEEP.out b hb hne)
              clear hown' hgrow hat
              go_wp2_with fail
              go_roundw
              case rel => exact ⟨k + 1, by omega, by go_num, by rw [ndK_hit HYES.out]; exact R1.out.1, R1.out.2, HI2.out⟩
              case measure => simp [intOf]; omega
          · have hjR : j = R.length := by omega
            have HNO := Lib.hid (ndB_no (R := R) (v := (k : Int)) (fun j' hj' => HZ.out j' (by omega)))
            have hnl : ¬ (j : Int) < (R.length : Int) := by omega
            clear hjR
            go_wp2_with fail
            go_roundw
            case rel => exact ⟨k + 1, by omega, by go_num, by rw [ndK_miss HNO.out]; exact HROW.out.below HB2.out, HB.out.trans (HB2.out.mono HB.out.size), HOW.out, Nat.le_trans hsz HB2.out.size, fun b hb hne => (HB2.out.block b (by omega)).trans (HKEEP.out b hb hne)⟩
            case measure => simp [intOf]; omega
      · have hkp : k = 3 := by omega
        subst hkp
        go_wp2_with fail
        simp only [Exit.noGoto_ret]
        go_ret
        exact ⟨_, rfl, HROW.out, HB.out⟩
theorem ndL_len (p : Int) (L : List Trm) : (ndL p L).length ≤ 281474976710656 := Nat.le_trans (ndK_le _ 3) (by omega)
theorem iNeedsOfO (p : Int) (f : Value) (L : List Trm) (w : World) (h : Trms w f L) :
    Calls Try.prog 37 #[.int .i64 p, f] w fun e w' => ∃ u, e = .returned u ∧ OwnInts w' w.heap.size u (ndL p L) ∧ Below w.heap.size w w' :=
  (iNeedsOf p f L w h).mono fun e w' ⟨u, h1, h2, h3⟩ => ⟨u, h1, h2.own (ndL_len p L), h3⟩
theorem sNeedsOfO (p : Int) (f : Value) (L : List Trm) (w : World) (h : Trms w f L) :
    Calls Try.prog 36 #[.int .i64 p, f] w fun e w' => ∃ u, e = .returned u ∧ OwnInts w' w.heap.size u (ndL p L) ∧ Below w.heap.size w w' :=
  (sNeedsOf p f L w h).mono fun e w' ⟨u, h1, h2, h3⟩ => ⟨u, h1, h2.own (ndL_len p L), h3⟩
end Go.Proofs.Ytajabchbdhjdiaa
