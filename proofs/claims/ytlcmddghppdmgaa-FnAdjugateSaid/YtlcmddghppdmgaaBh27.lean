/-
  Contracts of the model's draws of matrices, on: a matrix that is sometimes none. Conditions: the bytes can be read.
  The model's draw of a number and a matrix, and the draws that are nothing else. Conditions: the bytes can be read.
  Permanents: mathematics of the plain law, and the draw. Conditions: at most four rows.
  The walk of the law of the adjugate. Conditions: none but that the bytes can be read.
-/
import Derived.Test.YtlcmddghppdmgaaBh26
import Derived.Test.YtlcmddghppdmgaaBh23
import Derived.Test.YtlcmddghppdmgaaBh24
import Derived.Test.YtlcmddghppdmgaaBh9
namespace Go.Proofs.Ytlcmddghppdmgaa
set_option linter.unusedVariables false
open Go.RowKit Go.Shelf
/-- a matrix, or rows that are none, in blocks from B on -/
def BadM (B R : Nat) (a : Option Addr) (len cap q : Nat) (w : World) (e : Ending) (w' : World) : Prop :=
  ∃ (v : Value) (M : List (List Int)) (q' : Nat), e = .returned v ∧ OwnMat w' B v M ∧ M.length ≤ 5 ∧ q' ≤ q + 3 ∧ Rd w' R a len cap q' ∧ w.grownBy w' (some R)
theorem RowsW.grown {w w' : World} {B R : Nat} {v : Value} {M : List (List Int)} {V : List Value} {H : Nat → Nat} (h : RowsW w B v M V H) (hb : w.grownBy w' (some R)) (hR : R < B) : RowsW w' B v M V H :=
  ⟨owns_sameM h.row (fun b hq => hb.block b (h.row.lt b hq).2 (fun e => by have := (h.row.lt b hq).1; injection e with e; omega)), h.len, h.sm, fun i hi => by
    obtain ⟨h1, h2, h3, h4⟩ := h.rd i hi
    exact ⟨h1, h2, h3, h4.same (hb.block _ h4.lt (fun e => by injection e with e; omega))⟩, h.ap⟩
/-- the heads of a matrix, as a list -/
theorem OMat.heads {w : World} {B g c r : Nat} {H : Nat → Nat} {F : Nat → Nat → Int} (h : OMat w B g 0 H (fun _ => 0) (matF c F r)) (hc : 0 < c) (hc4 : c ≤ 1000) : ∃ news : List Value, news.length = r ∧ (∀ u ∈ news, u.oneCell' = true) ∧ (∀ j u, news[j]? = some u → w.cell? ((⟨g, 0, none⟩ : Addr).add j) = some u) ∧
    ∀ w' v, v.ownBlock = none ∨ (∃ b, v.ownBlock = some b ∧ w.heap.size ≤ b) → w'.ownsRow B 62 1 v r news → (∀ k, k < w.heap.size → w'.heap[k]? = w.heap[k]?) → RowsW w' B v (matF c F r) news H := by
  have hx : ∀ i, ∃ cp, i < r → w.cell? ⟨g, i, none⟩ = some (.slice (some ⟨H i, 0, none⟩) c cp) ∧ c ≤ cp ∧ B ≤ H i ∧ H i < w.heap.size ∧ ∀ k, k < c → w.cell? ⟨H i, k, none⟩ = some (.int .i64 (F i k)) ∧ w.frozen? ⟨H i, k, none⟩ = false := fun i => by
    by_cases hi : i < r
    · obtain ⟨cp, h1, h2, h3, h4, h5⟩ := h.cellF hi hc
      refine ⟨cp, fun _ => ⟨by rw [Nat.zero_add] at h1; exact h1, h2.2, h3, h4, fun k hk => ?_⟩⟩
      have := h5 k hk
      rw [Nat.zero_add] at this
      exact this
    · exact ⟨0, fun q => absurd q hi⟩
  have hcp := Classical.axiomOfChoice hx
  obtain ⟨cp, hcp⟩ := hcp
  refine ⟨(List.range r).map fun i => .slice (some ⟨H i, 0, none⟩) c (cp i), by simp, fun u hu => ?_, fun j u hu => ?_, fun w' v hv hown hsame => ?_⟩
  · obtain ⟨i, _, rfl⟩ := List.mem_map.1 hu; rfl
  · obtain ⟨hj, rfl⟩ := List.getElem?_eq_some_iff.1 hu
    have hj : j < r := by simpa using hj
    have hadd : (⟨g, 0, none⟩ : Addr).add j = ⟨g, j, none⟩ := by unfold Addr.add; split <;> simp_all
    rw [hadd]
    simpa using (hcp j hj).1
  · have hrl : ∀ i, i < r → (rowM (matF c F r) i) = (List.range c).map (F i) := fun i hi => matF_row hi
    have hl : ((List.range r).map fun i => Value.slice (some ⟨H i, 0, none⟩) c (cp i)).length = r := by simp
    refine ⟨by rw [hl]; exact hown, by rw [hl, matF_len], fun i hi => ?_, fun i hi => ?_, fun i j hi hj hne e => ?_⟩
    · rw [matF_len] at hi; rw [hrl i hi]; simp; omega
    · rw [matF_len] at hi
      obtain ⟨q1, q2, q3, q4, q5⟩ := hcp i hi
      rw [hrl i hi]
      refine ⟨⟨cp i, by simp [List.getD_eq_getElem?_getD, hi], by simpa using q2⟩, q3, fun e => ?_, ?_⟩
      · rcases hv with hv | ⟨b, hv, hb⟩
        · rw [hv] at e; cases e
        · rw [hv] at e; injection e with e; omega
      · have hs := hsame (H i) q4
        refine ⟨lt_of_heap q4 hs, fun k hk => ?_, fun k hk => ?_⟩
        · have hk : k < c := by simpa using hk
          rw [World.cell?_of_block (a := ⟨H i, k, none⟩) hs, (q5 k hk).1]
          simp [List.getD_eq_getElem?_getD, hk]
        · have hk : k < c := by simpa using hk
          rw [World.frozen?_of_block (a := ⟨H i, k, none⟩) hs]; exact (q5 k hk).2
    · rw [matF_len] at hi hj
      exact h.ap i j 0 0 (by rw [matF_len]; exact hi) (by rw [matF_len]; exact hj) hne (by rw [hrl i hi]; simpa using hc) (by rw [hrl j hj]; simpa using hc) e rfl
theorem grown_then {w w1 w2 : World} {R : Nat} (h : w.grownBy w1 (some R)) (k : Below w1.heap.size w1 w2) : w.grownBy w2 (some R) := grown_trans h (grown_of k)
set_option maxRecDepth 100000 in
set_option maxHeartbeats 4000000 in
theorem badM (B R : Nat) (a : Option Addr) (len cap q : Nat) (g cap2 r c : Nat) (H : Nat → Nat) (F : Nat → Nat → Int) (w : World) (h : Rd w R a len cap q) (hq : q ≤ 900000) (hm : OMat w B g 0 H (fun _ => 0) (matF c F r)) (hRB : R < B) (hBs : B ≤ w.heap.size) (hr1 : 1 ≤ r) (hr4 : r ≤ 4) (hc1 : 1 ≤ c) (hc4 : c ≤ 4) :
    Calls Try.prog 130 #[.pointer (some ⟨R, 0, none⟩), .slice (some ⟨g, 0, none⟩) r cap2] w (BadM B R a len cap q w) := by
  obtain ⟨is, his, hs0, hs1, hs2⟩ := info_parts infoIS
  have HP := Lib.hid (pick_any R a len cap q 30 w h (by omega))
  have HM := Lib.hid hm
  clear hm h
  go_enter Try.func130, Try.ntmps130
  go_wp2_with fail
  refine HP.out.mono ?_
  rintro e w1 ⟨x, rfl, _, _, hR1, hg1, hs1⟩
  have hm1 := HM.out.grown hg1 hRB
  have HS := Lib.hid (And.intro hm1 (And.intro hR1 hg1))
  have hB1 : B ≤ w1.heap.size := by omega
  have hall : ∀ w2, Below w1.heap.size w1 w2 → Rd w2 R a len cap (q + 1) ∧ w.grownBy w2 (some R) := fun w2 hb =>
    ⟨hR1.far hb.size (fun k hk => hb.block k hk) (Nat.lt_of_lt_of_le hRB hB1) hR1.la, grown_then hg1 hb⟩
  have HALL := Lib.hid hall
  have HLA1 := Lib.hid hR1.la
  have hw1 : w.heap.size ≤ w1.heap.size := hg1.size
  clear hR1 hg1 hs1 hm1 hall HM HP
  by_cases x0 : x = 0
  · subst x0
    obtain ⟨news, n1, n2, n3, n4⟩ := HS.out.1.heads hc1 (by omega)
    have HNW := Lib.hid (fun j u hj => show (w1.alloc (.cells #[] 62)).cell? ((⟨g, 0, none⟩ : Addr).add j) = some u from by
      have hadd : (⟨g, 0, none⟩ : Addr).add j = ⟨g, j, none⟩ := by unfold Addr.add; split <;> simp_all
      have := n3 j u hj
      rw [hadd] at this ⊢
      rw [World.cell?_alloc_past _ _ _ (by have := HS.out.1.gl; exact this)]
      exact this)
    have HE := Lib.hid (show (w1.alloc (.cells #[] 62)).ownsRow B 62 1 (.slice (some ⟨w1.heap.size, 0, none⟩) 0 0) 0 [] from World.ownsRow_lit (size := 1) w1 #[] 0 hB1 (by unfold maxLen; omega) rfl)
    have N2 := Lib.hid n2
    have N4 := Lib.hid n4
    have N1 := Lib.hid n1
    have hBa : B ≤ (w1.alloc (Obj.cells #[] 62)).heap.size := by simp; omega
    clear n1 n2 n3 n4
    go_wp2_with (at_builtin; refine wpList_append_lies _ rfl _ _ 35 rfl B 62 is (.slice none 0 0) 1 24 Try.underlying35 his hs0 hs1 hs2 rfl (by decide) _ _ _ rfl HE.out ⟨g, 0, none⟩ r cap2 news rfl (by rw [N1.out, Nat.mul_one]) HNW.out N2.out (by omega) (by unfold maxLen; omega) (by omega) (by simp; omega) _ rfl ?_)
    intro g5 c5 w5 hown5 hgrow5 hat5 hlt5
    have hb5 : Below w1.heap.size w1 w5 := (Below.alloc (Below.refl w1.heap.size w1) (Nat.le_refl _) _).grown hgrow5 (by simp) (fun k hk => by
      have hk : w1.heap.size = k := by simpa [Value.ownBlock] using hk
      omega)
    have HR5 := Lib.hid (show RowsW w5 B (.slice (some ⟨g5, 0, none⟩) r c5) (matF c F r) news H from
      N4.out w5 _ (.inr ⟨g5, rfl, by
        rcases hat5 with e | e
        · have : w1.heap.size = g5 := by simpa [Value.ownBlock] using e
          omega
        · have e : g5 = w1.heap.size + 1 := by simpa using e
          omega⟩) (by simpa using hown5) (fun k hk => hb5.block k hk))
    have hg5 : w1.heap.size ≤ g5 := by
      rcases hat5 with e | e
      · have : w1.heap.size = g5 := by simpa [Value.ownBlock] using e
        omega
      · have e : g5 = w1.heap.size + 1 := by simpa using e
        omega
    have hz5 := hb5.size
    have HB5 := Lib.hid (And.intro hb5 (HALL.out w5 hb5))
    have hs5 : B ≤ w5.heap.size := by have := hb5.size; omega
    clear hown5 hgrow5 hat5 hlt5 hb5 HE HNW N4 HS HALL
    go_wp2_with fail
    refine (num_new R a len cap (q + 1) [0, 13, -1] 3 rfl _ w5 HB5.out.2.1 (by omega) (by simp) (by simp) ?_).mono ?_
    · intro j hj
      have : j = 0 ∨ j = 1 ∨ j = 2 := by simp at hj; omega
      rcases this with rfl | rfl | rfl
      all_goals rfl
    rintro e w6 ⟨y, rfl, _, hR6, hg6⟩
    have HR6 := Lib.hid ((HR5.out.below (w' := w5.alloc (.cells #[.int .i64 0, .int .i64 13, .int .i64 (-1)] 3)) (Below.alloc (Below.refl _ _) (Nat.le_refl _) _)).grown hg6 hRB)
    have HG6 := Lib.hid (grown_trans (grown_then HB5.out.2.2 (Below.alloc (Below.refl _ _) (Nat.le_refl _) (.cells #[.int .i64 0, .int .i64 13, .int .i64 (-1)] 3))) hg6)
    have HRd := Lib.hid hR6
    have hs6 : B ≤ w6.heap.size := by have := hg6.size; simp at this; omega
    have HRW := Lib.hid (fun o => (HR6.out.below (w' := (w6.alloc (.cells #[.int .i64 y] 3)).alloc o) (Below.alloc (Below.alloc (Below.refl _ _) (Nat.le_refl _) _) (by simp) _)).row)
    rw [N1.out] at HRW
    have HA7 := Lib.hid (show ArI (w6.alloc (.cells #[.int .i64 y] 3)) w6.heap.size [y] ∧ Below w6.heap.size w6 (w6.alloc (.cells #[.int .i64 y] 3)) from by
      refine ⟨⟨by simp, fun j hj => ?_, fun j hj => ?_⟩, Below.alloc (Below.refl _ _) (Nat.le_refl _) _⟩
      · have : j = 0 := by simpa using hj
        subst this; simp [go_sem]
      · have : j = 0 := by simpa using hj
        subst this; simp [go_sem])
    have hz6 : w1.heap.size ≤ w6.heap.size := by have := hg6.size; simp at this; omega
    clear hR6 hg6 HR5
    go_wp2_with (at_builtin; refine wpList_append_lies _ rfl _ _ 35 rfl B 62 is (.slice none 0 0) 1 24 Try.underlying35 his hs0 hs1 hs2 rfl (by decide) _ _ _ rfl (HRW.out _) ⟨w6.heap.size + 1, 0, none⟩ 1 1 [.slice (some ⟨w6.heap.size, 0, none⟩) 1 1] rfl rfl (by intro j u hj; match j, hj with | 0, hj => (simp at hj; subst hj; simp [Addr.add, go_sem])) (by intro u hu; simp at hu; subst hu; rfl) (by omega) (by unfold maxLen; omega) (by omega) (by simp; omega) _ rfl ?_)
    intro g8 c8 w8 hown8 hgrow8 hat8 hlt8
    have hb68 : Below w1.heap.size w6 w8 := (Below.alloc (Below.alloc (Below.refl w1.heap.size w6) hz6 _) (by simp; omega) _).grown hgrow8 (by simp; omega) (fun k hk => by
      have hk : g5 = k := by simpa [Value.ownBlock] using hk
      omega)
    have H8 := Lib.hid (HR6.out.push HA7.out.2 HA7.out.1 (by simp) (c9 := 1) (by simp) hs6 (Nat.le_refl _) (Below.alloc (Below.refl (w6.alloc (.cells #[.int .i64 y] 3)).heap.size _) (Nat.le_refl _) _) (by rw [N1.out]; exact hown8) hgrow8 hat8 (by simp))
    have HF := Lib.hid (show Rd w8 R a len cap (q + 1 + 1) ∧ w.grownBy w8 (some R) from
      ⟨HRd.out.far hb68.size (fun k hk => hb68.block k hk) (by omega) HLA1.out, ⟨hb68.os.trans HG6.out.os, hb68.tape.trans HG6.out.tape, hb68.output.trans HG6.out.output, Nat.le_trans HG6.out.size hb68.size, fun k hk hne => (hb68.block k (by omega)).trans (HG6.out.block k hk hne)⟩⟩)
    rw [N1.out] at H8
    clear hown8 hgrow8 hat8 hlt8 HRW HA7 hb68
    go_wp2_with fail
    go_ret
    exact ⟨_, _, q + 1 + 1, rfl, H8.out.1.own (by rw [List.length_append, matF_len]; simp; omega), by rw [List.length_append, matF_len]; simp; omega, by omega, HF.out.1, HF.out.2⟩
  · by_cases x1 : x = 1
    · subst x1
      have HF := Lib.hid (HALL.out (w1.alloc (.cells #[] 62)) (Below.alloc (Below.refl _ _) (Nat.le_refl _) _))
      go_wp2_with fail
      go_ret
      exact ⟨_, [], q + 1, rfl, OwnMat.nil _ _ _ _, by simp, by omega, HF.out.1, HF.out.2⟩
    · by_cases x2 : x = 2
      · subst x2
        have HN := Lib.hid (sNew 5 5 (by omega) (by omega) w1)
        go_wp2_with fail
        refine HN.out.mono ?_
        rintro e w2 ⟨u, V, H2, rfl, hR2, hb2⟩
        have HF := Lib.hid (And.intro ((hR2.own (by simp [zeroM])).base hB1) (HALL.out w2 hb2))
        clear hR2 hb2
        go_wp2_with fail
        go_ret
        exact ⟨u, zeroM 5 5, q + 1, rfl, HF.out.1, by simp [zeroM], by omega, HF.out.2.1, HF.out.2.2⟩
      · by_cases x3 : x = 3
        · subst x3
          have HF := Lib.hid (show OwnMat (((w1.alloc (Obj.cells #[] 3)).alloc (Obj.cells #[] 3)).alloc (Obj.cells #[.slice (some ⟨w1.heap.size, 0, none⟩) 0 0, .slice (some ⟨w1.heap.size + 1, 0, none⟩) 0 0] 62)) B (.slice (some ⟨w1.heap.size + 1 + 1, 0, none⟩) 2 2) [[], []] from
            ⟨by simp, by simp [cnt, cntT, rowM], _, 2, rfl, .inr ⟨w1.heap.size + 1 + 1, 0, fun _ => 0, fun _ => 0, rfl, by omega, by simp, fun i hi => by
              have : i = 0 ∨ i = 1 := by simp at hi; omega
              rcases this with rfl | rfl
              · exact ⟨some ⟨w1.heap.size, 0, none⟩, 0, by simp [go_sem, rowM], by simp [rowM], .inl (by simp [rowM])⟩
              · exact ⟨some ⟨w1.heap.size + 1, 0, none⟩, 0, by simp [go_sem, rowM], by simp [rowM], .inl (by simp [rowM])⟩, fun i j k l hi hj hne hk => by
              have : i = 0 ∨ i = 1 := by simp at hi; omega
              rcases this with rfl | rfl
              · simp [rowM] at hk
              · simp [rowM] at hk, fun i hi => by
              have : i = 0 ∨ i = 1 := by simp at hi; omega
              rcases this with rfl | rfl
              · simp [go_sem]
              · simp [go_sem]⟩⟩)
          have HA := Lib.hid (HALL.out (((w1.alloc (Obj.cells #[] 3)).alloc (Obj.cells #[] 3)).alloc (Obj.cells #[.slice (some ⟨w1.heap.size, 0, none⟩) 0 0, .slice (some ⟨w1.heap.size + 1, 0, none⟩) 0 0] 62)) (by repeat (first | exact Below.refl _ _ | apply Below.drew | apply below_drewN | (refine Below.alloc ?_ (by first | omega | (simp <;> omega)) _))))
          go_wp2_with fail
          go_ret
          exact ⟨_, [[], []], q + 1, rfl, HF.out, by simp, by omega, HA.out.1, HA.out.2⟩
        · go_wp2_with fail
          go_ret
          exact ⟨_, _, q + 1, rfl, HS.out.1.own (by omega) (by omega), by rw [matF_len]; omega, by omega, HS.out.2.1, HS.out.2.2⟩
end Go.Proofs.Ytlcmddghppdmgaa
namespace Go.Proofs.Ytlcmddghppdmgaa
set_option linter.unusedVariables false
open Go.RowKit Go.Shelf
theorem field_prM (p : Int) (w : World) : Calls Try.prog 132 #[.int .i64 p] w fun e w' => ∃ q : Int, e = .returned (.int .i64 q) ∧ isP q = true ∧ w = w' := by
  cases hp : isP p
  · have HP := Lib.hid hp
    clear hp
    go_enter Try.func132, Try.ntmps132
    go_wp2_with fail
    refine (sPV_no p _ HP.out).mono ?_
    rintro e w1 ⟨rfl, rfl⟩
    go_wp2
    go_ret
    exact ⟨5, rfl, rfl, rfl⟩
  · have HP := Lib.hid hp
    clear hp
    go_enter Try.func132, Try.ntmps132
    go_wp2_with fail
    refine (sPV_yes p _ HP.out).mono ?_
    rintro e w1 ⟨rfl, rfl⟩
    go_wp2
    go_ret
    exact ⟨p, rfl, HP.out, rfl⟩
/-- a number and some rows, in blocks from w's end on -/
def SomeM (R : Nat) (a : Option Addr) (len cap q : Nat) (w : World) (e : Ending) (w' : World) : Prop :=
  ∃ (p : Int) (v : Value) (M : List (List Int)) (q' : Nat), e = .returned (.tuple #[.int .i64 p, v]) ∧ (-9223372036854775808 ≤ p ∧ p ≤ 9223372036854775807) ∧ OwnMat w' w.heap.size v M ∧ M.length ≤ 5 ∧ q' ≤ q + 100 ∧ Rd w' R a len cap q' ∧ w.grownBy w' (some R)
set_option maxRecDepth 100000 in
set_option maxHeartbeats 4000000 in
theorem someTail (R : Nat) (a : Option Addr) (len cap q : Nat) (p : Int) (n k : Nat) (w : World) (h : Rd w R a len cap q) (hq : q ≤ 800000) (hn1 : 1 ≤ n) (hn4 : n ≤ 4) (hk1 : 1 ≤ k) (hk4 : k ≤ 4) :
    Calls Try.prog 131 #[.pointer (some ⟨R, 0, none⟩), .int .i64 p, .int .i64 n, .int .i64 k] w fun e w' => ∃ (g cap2 : Nat), e = .returned (.slice (some ⟨g, 0, none⟩) n cap2) ∧
      Calls Try.prog 130 #[.pointer (some ⟨R, 0, none⟩), .slice (some ⟨g, 0, none⟩) n cap2] w' fun e2 w2 => ∃ (v : Value) (M : List (List Int)) (q' : Nat), e2 = .returned v ∧ OwnMat w2 w.heap.size v M ∧ M.length ≤ 5 ∧ q' ≤ q + 60 ∧ Rd w2 R a len cap q' ∧ w.grownBy w2 (some R) := by
  refine (drawM R a len cap q p n k w h (by omega) hn1 hn4 hk1 hk4).mono ?_
  rintro e w' ⟨g, cap2, H, F, q', he, hm, hq', hR, hg⟩
  refine ⟨g, cap2, he, (badM w.heap.size R a len cap q' g cap2 n k H F w' hR (by omega) hm h.sz hg.size hn1 hn4 hk1 hk4).mono ?_⟩
  rintro e2 w2 ⟨v, M, q2, he2, ho, hl, hq2, hR2, hg2⟩
  exact ⟨v, M, q2, he2, ho, hl, by omega, hR2, grown_trans hg hg2⟩
set_option maxRecDepth 100000 in
set_option maxHeartbeats 4000000 in
theorem someM (R : Nat) (a : Option Addr) (len cap q : Nat) (w : World) (h : Rd w R a len cap q) (hq : q ≤ 700000) :
    Calls Try.prog 128 #[.pointer (some ⟨R, 0, none⟩)] w (SomeM R a len cap q w) := by
  have HS := Lib.hid (some_any R a len cap q w h (by omega))
  clear h
  go_enter Try.func128, Try.ntmps128
  go_wp2_with fail
  refine HS.out.mono ?_
  rintro e w1 ⟨p, q1, rfl, hp0, hp1, hq1, hR1, hg1⟩
  have HR1 := Lib.hid (And.intro hR1 hg1)
  have HPB := Lib.hid (And.intro hp0 hp1)
  clear hR1 hg1
  go_wp2_with fail
  refine (num_new R a len cap q1 [3, 2, 3, 1, 4, 2] 6 rfl _ w1 HR1.out.1 (by omega) (by simp) (by simp) ?_).mono ?_
  · intro j hj
    have : j = 0 ∨ j = 1 ∨ j = 2 ∨ j = 3 ∨ j = 4 ∨ j = 5 := by simp at hj; omega
    rcases this with rfl | rfl | rfl | rfl | rfl | rfl
    all_goals rfl
  rintro e w2 ⟨n, rfl, hn, hR2, hg2⟩
  obtain ⟨nn, hnn, hn1, hn4⟩ : ∃ nn : Nat, n = (nn : Int) ∧ 1 ≤ nn ∧ nn ≤ 4 := ⟨n.toNat, by simp at hn; omega, by simp at hn; omega, by simp at hn; omega⟩
  subst hnn
  have HR2 := Lib.hid (And.intro hR2 (grown_trans (grown_then HR1.out.2 (Below.alloc (Below.refl _ _) (Nat.le_refl _) (.cells #[.int .i64 3, .int .i64 2, .int .i64 3, .int .i64 1, .int .i64 4, .int .i64 2] 3))) hg2))
  clear hR2 hg2 hn
  go_wp2_with fail
  refine (pick_any R a len cap (q1 + 1) 6 w2 HR2.out.1 (by omega)).mono ?_
  rintro e w3 ⟨x, rfl, _, _, hR3, hg3, _⟩
  have HR3 := Lib.hid (And.intro hR3 (grown_trans HR2.out.2 hg3))
  clear hR3 hg3
  by_cases hx : x = 0
  · subst hx
    go_wp2_with fail
    refine (pick_any R a len cap (q1 + 1 + 1) 4 w3 HR3.out.1 (by omega)).mono ?_
    rintro e w4 ⟨y, rfl, y0, y1, hR4, hg4, _⟩
    obtain ⟨k, hk, hk1, hk4⟩ : ∃ k : Nat, 1 + y = (k : Int) ∧ 1 ≤ k ∧ k ≤ 4 := ⟨(1 + y).toNat, by omega, by omega, by omega⟩
    have hwr : IntKind.i64.wrap (1 + y) = (k : Int) := by rw [IntWalk.i64_in _ (by omega)]; exact hk
    have HR4 := Lib.hid (And.intro hR4 (grown_trans HR3.out.2 hg4))
    clear hR4 hg4 hk y1
    go_wp2_with fail
    refine (field_prM p _).mono ?_
    rintro e w5 ⟨m, rfl, _, rfl⟩
    go_wp2_with fail
    refine (someTail R a len cap (q1 + 1 + 1 + 1) m nn k w4 HR4.out.1 (by omega) hn1 hn4 hk1 hk4).mono ?_
    rintro e w6 ⟨g, cap2, rfl, hB⟩
    have HB := Lib.hid hB
    clear hB
    go_wp2_with fail
    refine HB.out.mono ?_
    rintro e w7 ⟨v, M, q7, rfl, ho, hl, hq7, hR7, hg7⟩
    have HF := Lib.hid (show OwnMat w7 w.heap.size v M ∧ M.length ≤ 5 ∧ q7 ≤ q + 100 ∧ Rd w7 R a len cap q7 ∧ w.grownBy w7 (some R) from ⟨ho.base HR4.out.2.size, hl, by omega, hR7, grown_trans HR4.out.2 hg7⟩)
    clear ho hl hR7 hg7
    go_wp2_with fail
    refine bodyPost_ret (v := .tuple #[.int .i64 p, v]) (by simp [results, Try.results128, go_sem]) rfl ⟨p, v, M, q7, rfl, HPB.out, HF.out.1, HF.out.2.1, HF.out.2.2.1, HF.out.2.2.2.1, HF.out.2.2.2.2⟩
  · have hx0 : (x == 0) = false := by simpa using hx
    go_wp2_with fail
    refine (field_prM p _).mono ?_
    rintro e w5 ⟨m, rfl, _, rfl⟩
    go_wp2_with fail
    refine (someTail R a len cap (q1 + 1 + 1) m nn nn w3 HR3.out.1 (by omega) hn1 hn4 hn1 hn4).mono ?_
    rintro e w6 ⟨g, cap2, rfl, hB⟩
    have HB := Lib.hid hB
    clear hB
    go_wp2_with fail
    refine HB.out.mono ?_
    rintro e w7 ⟨v, M, q7, rfl, ho, hl, hq7, hR7, hg7⟩
    have HF := Lib.hid (show OwnMat w7 w.heap.size v M ∧ M.length ≤ 5 ∧ q7 ≤ q + 100 ∧ Rd w7 R a len cap q7 ∧ w.grownBy w7 (some R) from ⟨ho.base HR3.out.2.size, hl, by omega, hR7, grown_trans HR3.out.2 hg7⟩)
    clear ho hl hR7 hg7
    go_wp2_with fail
    refine bodyPost_ret (v := .tuple #[.int .i64 p, v]) (by simp [results, Try.results128, go_sem]) rfl ⟨p, v, M, q7, rfl, HPB.out, HF.out.1, HF.out.2.1, HF.out.2.2.1, HF.out.2.2.2.1, HF.out.2.2.2.2⟩
end Go.Proofs.Ytlcmddghppdmgaa
namespace Go.Proofs.Ytlcmddghppdmgaa
set_option linter.unusedVariables false
set_option linter.unusedSimpArgs false
open Go.RowKit Go.Shelf
theorem tr1 (s : Bool) (f : Nat → Nat → Int) : lapZ s 1 (fun a b => f b a) = lapZ s 1 f := by
  simp [lapZ, lapS, sgZ, mnfZ]
theorem tr2 (s : Bool) (f : Nat → Nat → Int) : lapZ s 2 (fun a b => f b a) = lapZ s 2 f := by
  cases s <;> simp [lapZ, lapS, sgZ, mnfZ] <;> grind
theorem tr3 (s : Bool) (f : Nat → Nat → Int) : lapZ s 3 (fun a b => f b a) = lapZ s 3 f := by
  cases s <;> simp [lapZ, lapS, sgZ, mnfZ] <;> grind
set_option maxHeartbeats 2000000 in
theorem tr4 (s : Bool) (f : Nat → Nat → Int) : lapZ s 4 (fun a b => f b a) = lapZ s 4 f := by
  cases s <;> simp [lapZ, lapS, sgZ, mnfZ] <;> grind
theorem lap_tr (s : Bool) (n : Nat) (h1 : 1 ≤ n) (h4 : n ≤ 4) (f : Nat → Nat → Int) : lapZ s n (fun a b => f b a) = lapZ s n f := by
  rcases (show n = 1 ∨ n = 2 ∨ n = 3 ∨ n = 4 by omega) with rfl | rfl | rfl | rfl
  · exact tr1 s f
  · exact tr2 s f
  · exact tr3 s f
  · exact tr4 s f
theorem rv2 (f : Nat → Nat → Int) : lapZ false 2 (fun a b => f (2 - 1 - a) b) = lapZ false 2 f := by
  simp [lapZ, lapS, sgZ, mnfZ] <;> grind
theorem rv3 (f : Nat → Nat → Int) : lapZ false 3 (fun a b => f (3 - 1 - a) b) = lapZ false 3 f := by
  simp [lapZ, lapS, sgZ, mnfZ] <;> grind
set_option maxHeartbeats 2000000 in
theorem rv4 (f : Nat → Nat → Int) : lapZ false 4 (fun a b => f (4 - 1 - a) b) = lapZ false 4 f := by
  simp [lapZ, lapS, sgZ, mnfZ] <;> grind
theorem lap_rv (n : Nat) (h1 : 1 ≤ n) (h4 : n ≤ 4) (f : Nat → Nat → Int) : lapZ false n (fun a b => f (n - 1 - a) b) = lapZ false n f := by
  rcases (show n = 1 ∨ n = 2 ∨ n = 3 ∨ n = 4 by omega) with rfl | rfl | rfl | rfl
  · simp [lapZ, lapS, sgZ, mnfZ]
  · exact rv2 f
  · exact rv3 f
  · exact rv4 f
theorem lap_two (n : Nat) (h1 : 1 ≤ n) (h4 : n ≤ 4) (f : Nat → Nat → Int) : ∃ d, lapZ true n f = lapZ false n f + 2 * d := by
  have key : ∀ n (f : Nat → Nat → Int), ∃ d, lapZ true n f = lapZ false n f + 2 * d := by
    intro n
    induction n with
    | zero => intro f; exact ⟨0, by rw [lapZ, lapZ]; rfl⟩
    | succ n ih =>
      intro f
      have aux : ∀ k, ∃ d, lapS true n f k = lapS false n f k + 2 * d := by
        intro k
        induction k with
        | zero => exact ⟨0, by rw [lapS, lapS]; rfl⟩
        | succ k ihk =>
          obtain ⟨d, hd⟩ := ihk
          obtain ⟨e, he⟩ := ih (mnfZ f k)
          rw [lapS, lapS, hd, he]
          by_cases ho : k % 2 = 1
          · refine ⟨d - f 0 k * lapZ false n (mnfZ f k) - f 0 k * e, ?_⟩
            simp [sgZ, ho]; grind
          · refine ⟨d + f 0 k * e, ?_⟩
            simp [sgZ, ho]; grind
      obtain ⟨d, hd⟩ := aux (n + 1)
      exact ⟨d, by rw [lapZ, lapZ]; exact hd⟩
  exact key n f
theorem sqB_matI {p : Int} {m : Nat} {F : Nat → Nat → Int} (hp : isP p = true) (h1 : 1 ≤ m) (h4 : m ≤ 4) (hF : ∀ i k, i < m → k < m → 0 ≤ F i k ∧ F i k < p) : sqB p (matF m F m) = true := by
  have h0 : (rowM (matF m F m) 0).length = m := by rw [matF_row (by omega)]; simp
  have hB : matB p (matF m F m) = true := by
    refine matB_iff.2 ⟨hp, ⟨by rw [matF_len]; omega, by rw [matF_len]; omega⟩, ⟨by rw [h0]; omega, by rw [h0]; omega⟩, fun i hi => ?_⟩
    rw [matF_len] at hi
    refine rowB_iff.2 ⟨by rw [h0, matF_row hi]; simp, fun k hk => ?_⟩
    rw [h0] at hk
    have := hF i k hi hk
    rw [matF_row hi]
    simpa [List.getD_eq_getElem?_getD, hk] using this
  simp [sqB, hB, h0, matF_len]
theorem detV_matI {p : Int} {m : Nat} {F : Nat → Nat → Int} (s : Bool) (hp : isP p = true) (h1 : 1 ≤ m) (h4 : m ≤ 4) (hF : ∀ i k, i < m → k < m → 0 ≤ F i k ∧ F i k < p) : detV s p (matF m F m) = lapZ s m F % p := by
  unfold detV
  rw [if_pos (sqB_matI hp h1 h4 hF), matF_len, lapZ_ext s m (el (matF m F m)) F (fun i k hi hk => el_matF hi hk)]
/-- a number and some rows that can be read -/
def DrawsM (w : World) (e : Ending) (w' : World) : Prop :=
  ∃ (p : Int) (v : Value) (M : List (List Int)), e = .returned (.tuple #[.int .i64 p, v]) ∧ Mat w' v M ∧ M.length ≤ 5 ∧ Below w.heap.size w w'
set_option maxHeartbeats 1000000 in
theorem drawPermanentOf (a : Option Addr) (len cap : Nat) (w : World) (h : ByteRow w a len cap) :
    Calls Try.prog 70 #[.slice a len cap] w (DrawsM w) := by
  go_enter Try.func70, Try.ntmps70
  go_wp2_with fail
  refine (open_any a len cap w h).mono ?_
  rintro e w1 ⟨a1, l1, c1, rfl, hR1, hb1⟩
  go_wp2_with fail
  refine (someM w.heap.size a1 l1 c1 0 w1 hR1 (by omega)).mono ?_
  rintro e w2 ⟨p, v, M, q, rfl, hp, ho, hl, hq, hR2, hg2⟩
  have hO := Lib.hid (show Mat w2 v M ∧ M.length ≤ 5 ∧ Below w.heap.size w w2 from
    ⟨ho.mat, hl, ⟨hg2.os.trans hb1.os, hg2.tape.trans hb1.tape, hg2.output.trans hb1.output, Nat.le_trans hb1.size hg2.size, fun k hk => (hg2.block k (by have := hb1.size; omega) (fun e => by injection e with e; omega)).trans (hb1.block k hk)⟩⟩)
  clear hR1 hR2 hb1 ho hg2
  go_wp2_with fail
  refine bodyPost_ret (v := .tuple #[.int .i64 p, v]) (by simp [results, Try.results70, go_sem]) rfl ⟨p, v, M, rfl, hO.out⟩
end Go.Proofs.Ytlcmddghppdmgaa
namespace Go.Proofs.Ytlcmddghppdmgaa
set_option linter.unusedVariables false
set_option linter.unusedSimpArgs false
open Go.RowKit Go.Shelf
/-- matrices that can be read, behind a world -/
def MK (w : World) (L : List (Value × List (List Int))) (w1 : World) : Prop := Below w.heap.size w w1 ∧ ∀ z ∈ L, Mat w1 z.1 z.2
theorem MK.on {w w1 w2 : World} {L : List (Value × List (List Int))} (h : MK w L w1) (hb : Below w1.heap.size w1 w2) : MK w L w2 := ⟨h.1.trans (hb.mono h.1.size), fun z hz => (h.2 z hz).below hb⟩
theorem MK.add {w w1 : World} {L : List (Value × List (List Int))} {v : Value} {M : List (List Int)} (h : MK w L w1) (hv : Mat w1 v M) : MK w ((v, M) :: L) w1 := ⟨h.1, fun z hz => by
  rcases List.mem_cons.1 hz with rfl | hz
  · exact hv
  · exact h.2 z hz⟩
theorem MK.g {w w1 : World} {L : List (Value × List (List Int))} {v : Value} {M : List (List Int)} (h : MK w L w1) (hz : (v, M) ∈ L) : Mat w1 v M := h.2 _ hz
theorem MK.low {w w1 : World} {L : List (Value × List (List Int))} (h : MK w L w1) : Below w.heap.size w w1 := h.1
theorem sumE_ext (p : Int) (f g : Nat → Int) : ∀ m, (∀ j, j < m → f j = g j) → sumE p f m = sumE p g m
  | 0, _ => rfl
  | m + 1, h => by show (sumE p f m + f m) % p = _; rw [sumE_ext p f g m (fun j hj => h j (by omega)), h m (by omega)]; rfl
theorem mulMV_sq {p : Int} {m : Nat} {A B C : Nat → Nat → Int} (hp : isP p = true) (h1 : 1 ≤ m) (h4 : m ≤ 4) (hA : ∀ i k, i < m → k < m → 0 ≤ A i k ∧ A i k < p) (hB : ∀ i k, i < m → k < m → 0 ≤ B i k ∧ B i k < p)
    (hC : ∀ i k, i < m → k < m → mmE p m A B i k = C i k) : mulMV p (matF m A m) (matF m B m) = matF m C m := by
  have sA := sqB_side (sqB_matI hp h1 h4 hA)
  have sB := sqB_side (sqB_matI hp h1 h4 hB)
  have e1 : (rowM (matF m A m) 0).length = m := by rw [matF_row (by omega)]; simp
  have e2 : (rowM (matF m B m) 0).length = m := by rw [matF_row (by omega)]; simp
  have hb : mulB p (matF m A m) (matF m B m) = true := by unfold mulB; rw [sA.1, sB.1, e1, matF_len]; simp
  unfold mulMV
  rw [if_pos hb, matF_len, matF_len, e2]
  refine matF_ext fun i k hi hk => ?_
  rw [← hC i k hi hk]
  unfold mmE
  exact sumE_ext p _ _ m (fun j hj => by rw [el_matF hi hj, el_matF hj hk])
set_option maxHeartbeats 1000000 in
theorem drawAdjugateOf (a : Option Addr) (len cap : Nat) (w : World) (h : ByteRow w a len cap) :
    Calls Try.prog 67 #[.slice a len cap] w (DrawsM w) := by
  go_enter Try.func67, Try.ntmps67
  go_wp2_with fail
  refine (open_any a len cap w h).mono ?_
  rintro e w1 ⟨a1, l1, c1, rfl, hR1, hb1⟩
  go_wp2_with fail
  refine (someM w.heap.size a1 l1 c1 0 w1 hR1 (by omega)).mono ?_
  rintro e w2 ⟨p, v, M, q, rfl, hp, ho, hl, hq, hR2, hg2⟩
  have hO := Lib.hid (show Mat w2 v M ∧ M.length ≤ 5 ∧ Below w.heap.size w w2 from
    ⟨ho.mat, hl, ⟨hg2.os.trans hb1.os, hg2.tape.trans hb1.tape, hg2.output.trans hb1.output, Nat.le_trans hb1.size hg2.size, fun k hk => (hg2.block k (by have := hb1.size; omega) (fun e => by injection e with e; omega)).trans (hb1.block k hk)⟩⟩)
  clear hR1 hR2 hb1 ho hg2
  go_wp2_with fail
  refine bodyPost_ret (v := .tuple #[.int .i64 p, v]) (by simp [results, Try.results67, go_sem]) rfl ⟨p, v, M, rfl, hO.out⟩
set_option maxRecDepth 100000 in
set_option maxHeartbeats 8000000 in
theorem wAdjugate_in (a : Option Addr) (len cap : Nat) (w : World) (h : ByteRow w a len cap) (hl : len ≤ 1048576) :
    Calls Try.prog 15 #[.slice a len cap] w fun e w' => e = .returned (.bool true) ∧ Below w.heap.size w w' := by
  have hlp : (len : Int) ≤ 1048576 := by omega
  have HD := Lib.hid (drawAdjugateOf a len cap w h)
  clear h
  go_enter Try.func15, Try.ntmps15
  go_wp2_with fail
  refine HD.out.mono ?_
  rintro e w1 ⟨p, v, M, rfl, hM, hL, hb1⟩
  have K1 := Lib.hid (show MK w [(v, M)] w1 from ⟨hb1, fun z hz => by rcases List.mem_cons.1 hz with rfl | hz; exact hM; cases hz⟩)
  clear hb1 HD
  cases hS : sqB p M
  · have hi : invB p M = false := by
      cases e : invB p M
      · rfl
      · rw [invB_sq e] at hS; cases hS
    clear hM
    go_wp2_with fail
    refine (iAdj p v M w1 (K1.out.g (by simp))).mono ?_
    rintro e w2 ⟨u1, rfl, ho, hb⟩
    have K2 := Lib.hid ((K1.out.on hb).add ho.mat)
    rw [hS]
    clear ho hb K1
    go_wp2_with fail
    refine (sAdj p v M w2 (K2.out.g (by simp))).mono ?_
    rintro e w3 ⟨u2, rfl, ho, hb⟩
    have K3 := Lib.hid ((K2.out.on hb).add ho.mat)
    rw [hS]
    clear ho hb K2
    go_wp2_with fail
    refine (iInvM p v M w3 (K3.out.g (by simp))).mono ?_
    rintro e w4 ⟨u3, rfl, ho, hb⟩
    have K4 := Lib.hid ((K3.out.on hb).add ho.mat)
    rw [hi]
    clear ho hb K3
    go_wp2_with fail
    refine (sInvM p v M w4 (K4.out.g (by simp))).mono ?_
    rintro e w5 ⟨u4, rfl, ho, hb⟩
    have K5 := Lib.hid ((K4.out.on hb).add ho.mat)
    rw [hi]
    clear ho hb K4
    clear hS hi
    go_wp2_with fail
    refine (acM u1 u2 (adjV p M) w5 (K5.out.g (by simp)) (K5.out.g (by simp))).mono ?_
    rintro e w6 ⟨rfl, hb⟩
    have K6 := Lib.hid (K5.out.on hb)
    clear hb K5
    go_wp2_with fail
    refine (acM u3 u4 (invV p M) w6 (K6.out.g (by simp)) (K6.out.g (by simp))).mono ?_
    rintro e w7 ⟨rfl, hb⟩
    have K7 := Lib.hid (K6.out.on hb)
    clear hb K6
    go_wp2_with fail
    refine (acM u1 u2 (adjV p M) w7 (K7.out.g (by simp)) (K7.out.g (by simp))).mono ?_
    rintro e w8 ⟨rfl, hb⟩
    have K8 := Lib.hid (K7.out.on hb)
    clear hb K7
    go_wp2_with fail
    refine (acM u3 u4 (invV p M) w8 (K8.out.g (by simp)) (K8.out.g (by simp))).mono ?_
    rintro e w9 ⟨rfl, hb⟩
    have K9 := Lib.hid (K8.out.on hb)
    clear hb K8
    go_wp2_with fail
    go_ret
    exact ⟨rfl, K9.out.low⟩
  · obtain ⟨hMB, hsq⟩ := sqB_side hS
    obtain ⟨r, m0, hr, hr1, hr4, hc, hc1, hc4, hrow, hel, hMF⟩ := matB_side hMB
    have hp := (matB_iff.1 hMB).1
    obtain ⟨hp1, hp2⟩ := isP_bd hp
    have hrc : m0 = r := by omega
    subst hrc
    obtain ⟨_, hd0, hd1⟩ := detV_bd hS
    obtain ⟨L, hLe⟩ : ∃ L, L = lapZ true m0 (el M) := ⟨_, rfl⟩
    have hdL : detV true p M = L % p := by rw [hLe]; simp [detV, hS, hr]
    have HSQ := Lib.hid hS
    have hav : adjV p M = matF m0 (fun a b => cofE p m0 (el M) b a) m0 := by simp [adjV, hS, hr]
    have HMA := Lib.hid (show mulMV p M (adjV p M) = matF m0 (fun i k => (if i = k then L else 0) % p) m0 from by
      rw [hav]
      conv => lhs; arg 2; rw [hMF]
      exact mulMV_sq hp hr1 hr4 hel (fun i k _ _ => cofE_bd hp1 m0 (el M) k i) (fun i k hi hk => by rw [hLe]; exact mm_adj m0 hr1 hr4 (el M) i k hi hk))
    have HON := Lib.hid (show onesV p (m0 : Int) = matF m0 onesE m0 from by
      have : onesB p (m0 : Int) = true := by unfold onesB; rw [hp]; simp; omega
      unfold onesV; rw [if_pos this]; simp)
    obtain ⟨d, hd⟩ : ∃ d, d = detV true p M := ⟨_, rfl⟩
    have HDE := Lib.hid hd
    have HEQ := Lib.hid (fun i k (hi : i < m0) (hk : k < m0) => show mulV p d (onesE i k) = (if i = k then L else 0) % p from by
      have ho : 0 ≤ onesE i k ∧ onesE i k < p := by unfold onesE; split <;> omega
      rw [mulV_el hp (by rw [hd]; exact ⟨hd0, hd1⟩) ho, hd, hdL]
      unfold onesE
      by_cases e : i = k
      · rw [if_pos e, if_pos e, Int.mul_one, Int.emod_emod]
      · rw [if_neg e, if_neg e, Int.mul_zero])
    rw [← hd] at hd0 hd1 hdL
    cases hi : invB p M
    · have HIB := Lib.hid hi
      have hdz : (d != 0) = false := by
        have : ¬ 1 ≤ d := by rw [hd]; simpa [invB] using hi
        simp; omega
      obtain ⟨_, _, a0, c0, hv, _⟩ := hM
      rw [hr] at hv
      subst hv
      obtain ⟨r, hrm⟩ : ∃ r, r = m0 := ⟨_, rfl⟩
      rw [← hrm] at K1 HMA HON HEQ hr1 hr4 ⊢
      clear hS hi hMB hsq hr hc hrow hel hMF hp hav hdL hLe hd hc1 hc4 hrm
      go_wp2_with fail
      refine (iAdj p (.slice a0 r c0) M w1 (K1.out.g (by simp))).mono ?_
      rintro e w2 ⟨u1, rfl, ho, hb⟩
      have K2 := Lib.hid ((K1.out.on hb).add ho.mat)
      rw [HSQ.out]
      clear ho hb K1
      go_wp2_with fail
      refine (sAdj p (.slice a0 r c0) M w2 (K2.out.g (by simp))).mono ?_
      rintro e w3 ⟨u2, rfl, ho, hb⟩
      have K3 := Lib.hid ((K2.out.on hb).add ho.mat)
      rw [HSQ.out]
      clear ho hb K2
      go_wp2_with fail
      refine (iInvM p (.slice a0 r c0) M w3 (K3.out.g (by simp))).mono ?_
      rintro e w4 ⟨u3, rfl, ho, hb⟩
      have K4 := Lib.hid ((K3.out.on hb).add ho.mat)
      rw [HIB.out]
      clear ho hb K3
      go_wp2_with fail
      refine (sInvM p (.slice a0 r c0) M w4 (K4.out.g (by simp))).mono ?_
      rintro e w5 ⟨u4, rfl, ho, hb⟩
      have K5 := Lib.hid ((K4.out.on hb).add ho.mat)
      rw [HIB.out]
      clear ho hb K4
      go_wp2_with fail
      refine (acM u1 u2 (adjV p M) w5 (K5.out.g (by simp)) (K5.out.g (by simp))).mono ?_
      rintro e w6 ⟨rfl, hb⟩
      have K6 := Lib.hid (K5.out.on hb)
      clear hb K5
      go_wp2_with fail
      refine (acM u3 u4 (invV p M) w6 (K6.out.g (by simp)) (K6.out.g (by simp))).mono ?_
      rintro e w7 ⟨rfl, hb⟩
      have K7 := Lib.hid (K6.out.on hb)
      clear hb K6
      go_wp2_with fail
      refine (iDet p (.slice a0 r c0) M w7 (K7.out.g (by simp))).mono ?_
      rintro e w8 ⟨rfl, hb⟩
      have K8 := Lib.hid (K7.out.on hb)
      clear hb K7
      rw [← HDE.out]
      go_wp2_with fail
      refine (iMulM p (.slice a0 r c0) u1 M (adjV p M) w8 (K8.out.g (by simp)) (K8.out.g (by simp))).mono ?_
      rintro e w9 ⟨u5, rfl, ho, hb⟩
      rw [HMA.out] at ho
      obtain ⟨g5, o5, c5, rfl, hC5⟩ := ho.mat.cells (r := r) (c := r) (by rw [matF_len]) hr1 hr1 (fun i hi => by rw [matF_row hi]; simp)
      have K9 := Lib.hid (K8.out.on hb)
      have P5 := Lib.hid hC5
      clear ho hb hC5 K8
      go_wp2_with fail
      refine (iOnes p (r : Int) w9).mono ?_
      rintro e w10 ⟨u6, rfl, ho, hb⟩
      rw [HON.out] at ho
      obtain ⟨g6, o6, c6, rfl, hC6⟩ := ho.mat.cells (r := r) (c := r) (by rw [matF_len]) hr1 hr1 (fun i hi => by rw [matF_row hi]; simp)
      have K10 := Lib.hid ((K9.out.on hb).add ho.mat)
      have P5 := Lib.hid (P5.out.below hb)
      have P6 := Lib.hid hC6
      clear ho hb hC6 K9
      go_wp2_with fail
      refine (sOnes p (r : Int) w10).mono ?_
      rintro e w11 ⟨u7, rfl, ho, hb⟩
      rw [HON.out] at ho
      have K11 := Lib.hid ((K10.out.on hb).add ho.mat)
      have P5 := Lib.hid (P5.out.below hb)
      have P6 := Lib.hid (P6.out.below hb)
      clear ho hb K10
      go_wp2_with fail
      go_loopw [130] (fun i wr => ∃ k : Nat, k ≤ r ∧ i = .int .i64 k ∧ Below w11.heap.size w11 wr) (fun i _ => r - (intOf i).toNat)
      case atStart => exact ⟨0, by omega, rfl, Below.refl _ _⟩
      case round =>
        obtain ⟨i, hi, rfl, hb⟩ := hrel
        by_cases hlt : i < r
        · have hltp : (i : Int) < (r : Int) := by omega
          have hi0 : (0 : Int) ≤ (i : Int) := by omega
          obtain ⟨h5, q5, cp5, z1, z2, z3⟩ := P5.out.2 i hlt
          obtain ⟨h6, q6, cp6, y1, y2, y3⟩ := P6.out.2 i hlt
          have l5 := P5.out.1
          have l6 := P6.out.1
          have x1 := (hb.cell (p := ⟨g5, o5 + i, none⟩) l5).trans z1
          have HB := Lib.hid hb
          have Z1 := Lib.hid z1
          have Y1 := Lib.hid y1
          have Z3 := Lib.hid z3
          have Y3 := Lib.hid y3
          clear hb z1 y1 z3 y3
          go_wp2_with fail
          go_loopw [138] (fun i2 wr => ∃ k : Nat, k ≤ r ∧ i2 = .int .i64 k ∧ Below w11.heap.size w11 wr) (fun i2 _ => r - (intOf i2).toNat)
          case atStart => exact ⟨0, by omega, rfl, HB.out⟩
          case round =>
            clear x1
            obtain ⟨k, hk, rfl, hb⟩ := hrel
            by_cases hlk : k < r
            · have hlkp : (k : Int) < (r : Int) := by omega
              have hk0 : (0 : Int) ≤ (k : Int) := by omega
              have HXY := Lib.hid (HEQ.out i k hlt hlk)
              have z4 := Z3.out k hlk
              have y4 := Y3.out k hlk
              rw [el_matF hlt hlk] at z4 y4
              obtain ⟨xx, hxx⟩ : ∃ xx, xx = (if i = k then L else 0) % p := ⟨_, rfl⟩
              obtain ⟨yy, hyy⟩ : ∃ yy, yy = onesE i k := ⟨_, rfl⟩
              rw [← hxx] at z4 HXY
              rw [← hyy] at y4 HXY
              have HS := Lib.hid (fun w' (hw : Below w11.heap.size w11 w') => show w'.cell? ⟨g5, o5 + i, none⟩ = some (.slice (some ⟨h5, q5, none⟩) r cp5) ∧ w'.cell? ⟨h5, q5 + k, none⟩ = some (.int .i64 xx) ∧ w'.cell? ⟨g6, o6 + i, none⟩ = some (.slice (some ⟨h6, q6, none⟩) r cp6) ∧ w'.cell? ⟨h6, q6 + k, none⟩ = some (.int .i64 yy) from ⟨(hw.cell (p := ⟨g5, o5 + i, none⟩) l5).trans Z1.out, (hw.cell (p := ⟨h5, q5 + k, none⟩) z2.1).trans z4, (hw.cell (p := ⟨g6, o6 + i, none⟩) l6).trans Y1.out, (hw.cell (p := ⟨h6, q6 + k, none⟩) y2.1).trans y4⟩)
              have HB := Lib.hid hb
              have hxb : (xx != xx) = false := by simp
              clear hb z4 y4 hxx hyy
              go_wp2_with fail
              refine wp_region_seq [(0, true), (1, true), (2, true), (3, true), (4, true), (5, true), (6, true), (7, true), (8, true), (9, true), (10, true), (11, true), (12, true), (13, true), (14, true), (15, true), (16, false)] (fun w' => w'.cell? ⟨g5, o5 + i, none⟩ = some (.slice (some ⟨h5, q5, none⟩) r cp5) ∧ w'.cell? ⟨h5, q5 + k, none⟩ = some (.int .i64 xx) ∧ w'.cell? ⟨g6, o6 + i, none⟩ = some (.slice (some ⟨h6, q6, none⟩) r cp6) ∧ w'.cell? ⟨h6, q6 + k, none⟩ = some (.int .i64 yy)) (by kernel_rfl) (by kernel_rfl) rfl (by intro c a d v w h; cases d <;> exact h) (HS.out _ (Below.drew HB.out)) ?_
              iterate 16 (refine wpSeq_take (v := ?_) (List.getElem?_toArray.trans rfl) ?_ ?_; rotate_left; (intro w' hSw; (try dsimp only at hSw); go_simp; (try with_reducible rfl)); (try simp only [Act.put, List.setIfInBounds_toArray, List.set_cons_zero, List.set_cons_succ]))
              refine wpSeq_do (List.getElem?_toArray.trans rfl) (fun K hK => ?_)
              go_simp
              refine (iMul p d yy _).mono ?_
              rintro e w60 ⟨rfl, hb6⟩
              have hb7 : Below w11.heap.size w11 w60 := (Below.drew HB.out).trans (hb6.mono (by have := HB.out.size; simpa using this))
              refine hK _ _ (HS.out _ hb7) ?_
              clear hK K
              refine wpSeq_nil ?_
              simp only [Exit.then]
              rw [HXY.out]
              have HB7 := Lib.hid hb7
              clear hb6 hb7
              go_wp2_with fail
              go_roundw
              case rel => exact ⟨k + 1, by omega, by go_num, HB7.out⟩
              case measure => (simp [intOf]; try omega)
            · have hkr : k = r := by omega
              subst hkr
              have HB := Lib.hid hb
              clear hb
              go_wp2_with fail
              go_roundw
              case rel => exact ⟨i + 1, by omega, by go_num, HB.out⟩
              case measure => (simp [intOf]; try omega)
        · have hir : r = i := by omega
          subst hir
          clear hlt
          have K20 := Lib.hid (K11.out.on hb)
          clear hb hi
          go_wp2_with fail
          refine (acM (.slice (some ⟨g6, o6, none⟩) r c6) u7 (matF r onesE r) _ (K20.out.g (by simp)) (K20.out.g (by simp))).mono ?_
          rintro e w21 ⟨rfl, hb⟩
          have K21 := Lib.hid (K20.out.on hb)
          clear hb K20
          go_wp2_with fail
          go_ret
          exact ⟨by simp, K21.out.low⟩
    · have HIB := Lib.hid hi
      have hd9 : 1 ≤ d := by rw [hd]; simpa [invB] using hi
      have hdz : (d != 0) = true := by simp; omega
      have hiv := det_iv (p := p) (n := m0) (E := el M) hp (by rw [← hLe, ← hdL]; exact hd9)
      rw [← hLe, ← hdL] at hiv
      have hinv : invV p M = matF m0 (invE p m0 (el M) (ivV p d)) m0 := by rw [hd]; simp [invV, hi, hr]
      have hvb := ivV_bd hp hd0 hd1
      have hib : ∀ i k, i < m0 → k < m0 → 0 ≤ invE p m0 (el M) (ivV p d) i k ∧ invE p m0 (el M) (ivV p d) i k < p := fun i k _ _ => ⟨Int.emod_nonneg _ (by omega), Int.emod_lt_of_pos _ (by omega)⟩
      have HLI := Lib.hid (show mulMV p (invV p M) M = matF m0 onesE m0 from by
        rw [hinv]
        conv => lhs; arg 3; rw [hMF]
        exact mulMV_sq hp hr1 hr4 hib hel (fun i k hi hk => mm_invL hp1 m0 hr1 hr4 (el M) (by rw [← hLe]; exact hiv) i k hi hk))
      have HRI := Lib.hid (show mulMV p M (invV p M) = matF m0 onesE m0 from by
        rw [hinv]
        conv => lhs; arg 2; rw [hMF]
        exact mulMV_sq hp hr1 hr4 hel hib (fun i k hi hk => mm_invR hp1 m0 hr1 hr4 (el M) (by rw [← hLe]; exact hiv) i k hi hk))
      obtain ⟨_, _, a0, c0, hv, _⟩ := hM
      rw [hr] at hv
      subst hv
      obtain ⟨r, hrm⟩ : ∃ r, r = m0 := ⟨_, rfl⟩
      rw [← hrm] at K1 HMA HON HEQ HLI HRI hr1 hr4 ⊢
      clear hS hi hMB hsq hr hc hrow hel hMF hp hav hdL hLe hd hc1 hc4 hrm hiv hinv hvb hib hd9
      go_wp2_with fail
      refine (iAdj p (.slice a0 r c0) M w1 (K1.out.g (by simp))).mono ?_
      rintro e w2 ⟨u1, rfl, ho, hb⟩
      have K2 := Lib.hid ((K1.out.on hb).add ho.mat)
      rw [HSQ.out]
      clear ho hb K1
      go_wp2_with fail
      refine (sAdj p (.slice a0 r c0) M w2 (K2.out.g (by simp))).mono ?_
      rintro e w3 ⟨u2, rfl, ho, hb⟩
      have K3 := Lib.hid ((K2.out.on hb).add ho.mat)
      rw [HSQ.out]
      clear ho hb K2
      go_wp2_with fail
      refine (iInvM p (.slice a0 r c0) M w3 (K3.out.g (by simp))).mono ?_
      rintro e w4 ⟨u3, rfl, ho, hb⟩
      have K4 := Lib.hid ((K3.out.on hb).add ho.mat)
      rw [HIB.out]
      clear ho hb K3
      go_wp2_with fail
      refine (sInvM p (.slice a0 r c0) M w4 (K4.out.g (by simp))).mono ?_
      rintro e w5 ⟨u4, rfl, ho, hb⟩
      have K5 := Lib.hid ((K4.out.on hb).add ho.mat)
      rw [HIB.out]
      clear ho hb K4
      go_wp2_with fail
      refine (acM u1 u2 (adjV p M) w5 (K5.out.g (by simp)) (K5.out.g (by simp))).mono ?_
      rintro e w6 ⟨rfl, hb⟩
      have K6 := Lib.hid (K5.out.on hb)
      clear hb K5
      go_wp2_with fail
      refine (acM u3 u4 (invV p M) w6 (K6.out.g (by simp)) (K6.out.g (by simp))).mono ?_
      rintro e w7 ⟨rfl, hb⟩
      have K7 := Lib.hid (K6.out.on hb)
      clear hb K6
      go_wp2_with fail
      refine (iDet p (.slice a0 r c0) M w7 (K7.out.g (by simp))).mono ?_
      rintro e w8 ⟨rfl, hb⟩
      have K8 := Lib.hid (K7.out.on hb)
      clear hb K7
      rw [← HDE.out]
      go_wp2_with fail
      refine (iMulM p (.slice a0 r c0) u1 M (adjV p M) w8 (K8.out.g (by simp)) (K8.out.g (by simp))).mono ?_
      rintro e w9 ⟨u5, rfl, ho, hb⟩
      rw [HMA.out] at ho
      obtain ⟨g5, o5, c5, rfl, hC5⟩ := ho.mat.cells (r := r) (c := r) (by rw [matF_len]) hr1 hr1 (fun i hi => by rw [matF_row hi]; simp)
      have K9 := Lib.hid (K8.out.on hb)
      have P5 := Lib.hid hC5
      clear ho hb hC5 K8
      go_wp2_with fail
      refine (iOnes p (r : Int) w9).mono ?_
      rintro e w10 ⟨u6, rfl, ho, hb⟩
      rw [HON.out] at ho
      obtain ⟨g6, o6, c6, rfl, hC6⟩ := ho.mat.cells (r := r) (c := r) (by rw [matF_len]) hr1 hr1 (fun i hi => by rw [matF_row hi]; simp)
      have K10 := Lib.hid ((K9.out.on hb).add ho.mat)
      have P5 := Lib.hid (P5.out.below hb)
      have P6 := Lib.hid hC6
      clear ho hb hC6 K9
      go_wp2_with fail
      refine (sOnes p (r : Int) w10).mono ?_
      rintro e w11 ⟨u7, rfl, ho, hb⟩
      rw [HON.out] at ho
      have K11 := Lib.hid ((K10.out.on hb).add ho.mat)
      have P5 := Lib.hid (P5.out.below hb)
      have P6 := Lib.hid (P6.out.below hb)
      clear ho hb K10
      go_wp2_with fail
      go_loopw [130] (fun i wr => ∃ k : Nat, k ≤ r ∧ i = .int .i64 k ∧ Below w11.heap.size w11 wr) (fun i _ => r - (intOf i).toNat)
      case atStart => exact ⟨0, by omega, rfl, Below.refl _ _⟩
      case round =>
        obtain ⟨i, hi, rfl, hb⟩ := hrel
        by_cases hlt : i < r
        · have hltp : (i : Int) < (r : Int) := by omega
          have hi0 : (0 : Int) ≤ (i : Int) := by omega
          obtain ⟨h5, q5, cp5, z1, z2, z3⟩ := P5.out.2 i hlt
          obtain ⟨h6, q6, cp6, y1, y2, y3⟩ := P6.out.2 i hlt
          have l5 := P5.out.1
          have l6 := P6.out.1
          have x1 := (hb.cell (p := ⟨g5, o5 + i, none⟩) l5).trans z1
          have HB := Lib.hid hb
          have Z1 := Lib.hid z1
          have Y1 := Lib.hid y1
          have Z3 := Lib.hid z3
          have Y3 := Lib.hid y3
          clear hb z1 y1 z3 y3
          go_wp2_with fail
          go_loopw [138] (fun i2 wr => ∃ k : Nat, k ≤ r ∧ i2 = .int .i64 k ∧ Below w11.heap.size w11 wr) (fun i2 _ => r - (intOf i2).toNat)
          case atStart => exact ⟨0, by omega, rfl, HB.out⟩
          case round =>
            clear x1
            obtain ⟨k, hk, rfl, hb⟩ := hrel
            by_cases hlk : k < r
            · have hlkp : (k : Int) < (r : Int) := by omega
              have hk0 : (0 : Int) ≤ (k : Int) := by omega
              have HXY := Lib.hid (HEQ.out i k hlt hlk)
              have z4 := Z3.out k hlk
              have y4 := Y3.out k hlk
              rw [el_matF hlt hlk] at z4 y4
              obtain ⟨xx, hxx⟩ : ∃ xx, xx = (if i = k then L else 0) % p := ⟨_, rfl⟩
              obtain ⟨yy, hyy⟩ : ∃ yy, yy = onesE i k := ⟨_, rfl⟩
              rw [← hxx] at z4 HXY
              rw [← hyy] at y4 HXY
              have HS := Lib.hid (fun w' (hw : Below w11.heap.size w11 w') => show w'.cell? ⟨g5, o5 + i, none⟩ = some (.slice (some ⟨h5, q5, none⟩) r cp5) ∧ w'.cell? ⟨h5, q5 + k, none⟩ = some (.int .i64 xx) ∧ w'.cell? ⟨g6, o6 + i, none⟩ = some (.slice (some ⟨h6, q6, none⟩) r cp6) ∧ w'.cell? ⟨h6, q6 + k, none⟩ = some (.int .i64 yy) from ⟨(hw.cell (p := ⟨g5, o5 + i, none⟩) l5).trans Z1.out, (hw.cell (p := ⟨h5, q5 + k, none⟩) z2.1).trans z4, (hw.cell (p := ⟨g6, o6 + i, none⟩) l6).trans Y1.out, (hw.cell (p := ⟨h6, q6 + k, none⟩) y2.1).trans y4⟩)
              have HB := Lib.hid hb
              have hxb : (xx != xx) = false := by simp
              clear hb z4 y4 hxx hyy
              go_wp2_with fail
              refine wp_region_seq [(0, true), (1, true), (2, true), (3, true), (4, true), (5, true), (6, true), (7, true), (8, true), (9, true), (10, true), (11, true), (12, true), (13, true), (14, true), (15, true), (16, false)] (fun w' => w'.cell? ⟨g5, o5 + i, none⟩ = some (.slice (some ⟨h5, q5, none⟩) r cp5) ∧ w'.cell? ⟨h5, q5 + k, none⟩ = some (.int .i64 xx) ∧ w'.cell? ⟨g6, o6 + i, none⟩ = some (.slice (some ⟨h6, q6, none⟩) r cp6) ∧ w'.cell? ⟨h6, q6 + k, none⟩ = some (.int .i64 yy)) (by kernel_rfl) (by kernel_rfl) rfl (by intro c a d v w h; cases d <;> exact h) (HS.out _ (Below.drew HB.out)) ?_
              iterate 16 (refine wpSeq_take (v := ?_) (List.getElem?_toArray.trans rfl) ?_ ?_; rotate_left; (intro w' hSw; (try dsimp only at hSw); go_simp; (try with_reducible rfl)); (try simp only [Act.put, List.setIfInBounds_toArray, List.set_cons_zero, List.set_cons_succ]))
              refine wpSeq_do (List.getElem?_toArray.trans rfl) (fun K hK => ?_)
              go_simp
              refine (iMul p d yy _).mono ?_
              rintro e w60 ⟨rfl, hb6⟩
              have hb7 : Below w11.heap.size w11 w60 := (Below.drew HB.out).trans (hb6.mono (by have := HB.out.size; simpa using this))
              refine hK _ _ (HS.out _ hb7) ?_
              clear hK K
              refine wpSeq_nil ?_
              simp only [Exit.then]
              rw [HXY.out]
              have HB7 := Lib.hid hb7
              clear hb6 hb7
              go_wp2_with fail
              go_roundw
              case rel => exact ⟨k + 1, by omega, by go_num, HB7.out⟩
              case measure => (simp [intOf]; try omega)
            · have hkr : k = r := by omega
              subst hkr
              have HB := Lib.hid hb
              clear hb
              go_wp2_with fail
              go_roundw
              case rel => exact ⟨i + 1, by omega, by go_num, HB.out⟩
              case measure => (simp [intOf]; try omega)
        · have hir : r = i := by omega
          subst hir
          clear hlt
          have K20 := Lib.hid (K11.out.on hb)
          clear hb hi
          go_wp2_with fail
          refine (iMulM p u3 (.slice a0 r c0) (invV p M) M _ (K20.out.g (by simp)) (K20.out.g (by simp))).mono ?_
          rintro e w21 ⟨u8, rfl, ho, hb⟩
          rw [HLI.out] at ho
          have K21 := Lib.hid ((K20.out.on hb).add ho.mat)
          clear ho hb K20
          go_wp2_with fail
          refine (iMulM p (.slice a0 r c0) u3 M (invV p M) _ (K21.out.g (by simp)) (K21.out.g (by simp))).mono ?_
          rintro e w22 ⟨u9, rfl, ho, hb⟩
          rw [HRI.out] at ho
          have K22 := Lib.hid ((K21.out.on hb).add ho.mat)
          clear ho hb K21
          go_wp2_with fail
          refine (acM u8 (.slice (some ⟨g6, o6, none⟩) r c6) (matF r onesE r) _ (K22.out.g (by simp)) (K22.out.g (by simp))).mono ?_
          rintro e w23 ⟨rfl, hb⟩
          have K23 := Lib.hid (K22.out.on hb)
          clear hb K22
          go_wp2_with fail
          refine (acM u9 (.slice (some ⟨g6, o6, none⟩) r c6) (matF r onesE r) _ (K23.out.g (by simp)) (K23.out.g (by simp))).mono ?_
          rintro e w24 ⟨rfl, hb⟩
          have K24 := Lib.hid (K23.out.on hb)
          clear hb K23
          go_wp2_with fail
          refine (acM (.slice (some ⟨g6, o6, none⟩) r c6) u7 (matF r onesE r) _ (K24.out.g (by simp)) (K24.out.g (by simp))).mono ?_
          rintro e w25 ⟨rfl, hb⟩
          have K25 := Lib.hid (K24.out.on hb)
          clear hb K24
          go_wp2_with fail
          go_ret
          exact ⟨by simp, K25.out.low⟩
set_option maxRecDepth 100000 in
set_option maxHeartbeats 2000000 in
theorem wAdjugate_long (a : Option Addr) (len cap : Nat) (w : World) (h1 : len ≤ 9223372036854775807) (hl : ¬ len ≤ 1048576) :
    Calls Try.prog 15 #[.slice a len cap] w fun e w' => e = .returned (.bool true) ∧ Below w.heap.size w w' := by
  have hp : (1048576 : Int) < (len : Int) := by omega
  go_enter Try.func15, Try.ntmps15
  go_wp2_with fail
  go_ret
  exact ⟨rfl, Below.refl _ _⟩
theorem wAdjugate (a : Option Addr) (len cap : Nat) (w : World) (h : ByteRow w a len cap) :
    Calls Try.prog 15 #[.slice a len cap] w fun e w' => e = .returned (.bool true) ∧ Below w.heap.size w w' := by
  by_cases hl : len ≤ 1048576
  · exact wAdjugate_in a len cap w h hl
  · exact wAdjugate_long a len cap w (Nat.le_trans h.1 h.2.1) hl
end Go.Proofs.Ytlcmddghppdmgaa
