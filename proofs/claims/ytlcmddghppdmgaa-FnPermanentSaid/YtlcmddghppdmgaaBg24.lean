/-
  Contracts of the model's draws of matrices, on: a matrix that is sometimes none. Conditions: the bytes can be read.
  The model's draw of a number and a matrix, and the draws that are nothing else. Conditions: the bytes can be read.
  Permanents: mathematics of the plain law, and the draw. Conditions: at most four rows.
  The walk of the law of permanents. Conditions: none but that the bytes can be read.
-/
import Derived.Test.YtlcmddghppdmgaaBg23
import Derived.Test.YtlcmddghppdmgaaBg21
import Derived.Test.YtlcmddghppdmgaaBg18
namespace Go.Proofs.Ytlcmddghppdmgaa
set_option linter.unusedVariables false
open Go.RowKit Go.Shelf
/-- a matrix, or rows that are none, in blocks from B on -/
def BadM (B R : Nat) (a : Option Addr) (len cap q : Nat) (w : World) (e : Ending) (w' : World) : Prop :=
  ∃ (v : Value) (M : List (List Int)) (q' : Nat), e = .returned v ∧ OwnMat w' B v M ∧ M.length ≤ 5 ∧ q' ≤ q + 3 ∧ Rd w' R a len cap q' ∧ w.grownBy w' (some R)
theorem RowsW.grown {w w' : World} {B R : Nat} {v : Value} {M : List (List Int)} {V : List Value} {H : Nat → Nat} (h : RowsW w B v M V H) (hb : w.grownBy w' (some R)) (hR : R < B) : RowsW w' B v M V H :=
  ⟨owns_sameM h.row (fun b hq => hb.block b (h.row.lt b hq).2 (fun e => by have := (h.row.lt b hq).1; injection e with e; omega)), h.len, h.sm, fun i hi => by
    obtain ⟨h1, h2, h3, h4⟩ := h.rd i hi
    exact ⟨h1, h2, h3, h4.same (hb.block _ h4.lt (fun e => by injection e with e; omega))⟩, h.ap⟩
/-- the heads of a matrix, as a list -/
theorem OMat.heads {w : World} {B g c r : Nat} {H : Nat → Nat} {F : Nat → Nat → Int} (h : OMat w B g 0 H (fun _ => 0) (matF c F r)) (hc : 0 < c) (hc4 : c ≤ 1000) : ∃ news : List Value, news.length = r ∧ (∀ u ∈ news, u.oneCell' = true) ∧ (∀ j u, news[j]? = some u → w.cell? ((⟨g, 0, none⟩ : Addr).add j) = some u) ∧
    ∀ w' v, v.ownBlock = none ∨ (∃ b, v.ownBlock = some b ∧ w.heap.size ≤ b) → w'.ownsRow B 62 1 v r news → (∀ k, k < w.heap.size → w'.heap[k]? = w.heap[k]?) → RowsW w' B v (matF c F r) news H := by
  have hx : ∀ i, ∃ cp, i < r → w.cell? ⟨g, i, none⟩ = some (.slice (some ⟨H i, 0, none⟩) c cp) ∧ c ≤ cp ∧ B ≤ H i ∧ H i < w.heap.size ∧ ∀ k, k < c → w.cell? ⟨H i, k, none⟩ = some (.int .i64 (F i k)) ∧ w.frozen? ⟨H i, k, none⟩ = false := fun i => by
    by_cases hi : i < r
    · obtain ⟨cp, h1, h2, h3, h4, h5⟩ := h.cellF hi hc
      refine ⟨cp, fun _ => ⟨by rw [Nat.zero_add] at h1; exact h1, h2.2, h3, h4, fun k hk => ?_⟩⟩
      have := h5 k hk
      rw [Nat.zero_add] at this
      exact this
    · exact ⟨0, fun q => absurd q hi⟩
  have hcp := Classical.axiomOfChoice hx
  obtain ⟨cp, hcp⟩ := hcp
  refine ⟨(List.range r).map fun i => .slice (some ⟨H i, 0, none⟩) c (cp i), by simp, fun u hu => ?_, fun j u hu => ?_, fun w' v hv hown hsame => ?_⟩
  · obtain ⟨i, _, rfl⟩ := List.mem_map.1 hu; rfl
  · obtain ⟨hj, rfl⟩ := List.getElem?_eq_some_iff.1 hu
    have hj : j < r := by simpa using hj
    have hadd : (⟨g, 0, none⟩ : Addr).add j = ⟨g, j, none⟩ := by unfold Addr.add; split <;> simp_all
    rw [hadd]
    simpa using (hcp j hj).1
  · have hrl : ∀ i, i < r → (rowM (matF c F r) i) = (List.range c).map (F i) := fun i hi => matF_row hi
    have hl : ((List.range r).map fun i => Value.slice (some ⟨H i, 0, none⟩) c (cp i)).length = r := by simp
    refine ⟨by rw [hl]; exact hown, by rw [hl, matF_len], fun i hi => ?_, fun i hi => ?_, fun i j hi hj hne e => ?_⟩
    · rw [matF_len] at hi; rw [hrl i hi]; simp; omega
    · rw [matF_len] at hi
      obtain ⟨q1, q2, q3, q4, q5⟩ := hcp i hi
      rw [hrl i hi]
      refine ⟨⟨cp i, by simp [List.getD_eq_getElem?_getD, hi], by simpa using q2⟩, q3, fun e => ?_, ?_⟩
      · rcases hv with hv | ⟨b, hv, hb⟩
        · rw [hv] at e; cases e
        · rw [hv] at e; injection e with e; omega
      · have hs := hsame (H i) q4
        refine ⟨lt_of_heap q4 hs, fun k hk => ?_, fun k hk => ?_⟩
        · have hk : k < c := by simpa using hk
          rw [World.cell?_of_block (a := ⟨H i, k, none⟩) hs, (q5 k hk).1]
          simp [List.getD_eq_getElem?_getD, hk]
        · have hk : k < c := by simpa using hk
          rw [World.frozen?_of_block (a := ⟨H i, k, none⟩) hs]; exact (q5 k hk).2
    · rw [matF_len] at hi hj
      exact h.ap i j 0 0 (by rw [matF_len]; exact hi) (by rw [matF_len]; exact hj) hne (by rw [hrl i hi]; simpa using hc) (by rw [hrl j hj]; simpa using hc) e rfl
theorem grown_then {w w1 w2 : World} {R : Nat} (h : w.grownBy w1 (some R)) (k : Below w1.heap.size w1 w2) : w.grownBy w2 (some R) := grown_trans h (grown_of k)
set_option maxRecDepth 100000 in
set_option maxHeartbeats 4000000 in
theorem badM (B R : Nat) (a : Option Addr) (len cap q : Nat) (g cap2 r c : Nat) (H : Nat → Nat) (F : Nat → Nat → Int) (w : World) (h : Rd w R a len cap q) (hq : q ≤ 900000) (hm : OMat w B g 0 H (fun _ => 0) (matF c F r)) (hRB : R < B) (hBs : B ≤ w.heap.size) (hr1 : 1 ≤ r) (hr4 : r ≤ 4) (hc1 : 1 ≤ c) (hc4 : c ≤ 4) :
    Calls Try.prog 130 #[.pointer (some ⟨R, 0, none⟩), .slice (some ⟨g, 0, none⟩) r cap2] w (BadM B R a len cap q w) := by
  obtain ⟨is, his, hs0, hs1, hs2⟩ := info_parts infoIS
  have HP := Lib.hid (pick_any R a len cap q 30 w h (by omega))
  have HM := Lib.hid hm
  clear hm h
  go_enter Try.func130, Try.ntmps130
  go_wp2_with fail
  refine HP.out.mono ?_
  rintro e w1 ⟨x, rfl, _, _, hR1, hg1, hs1⟩
  have hm1 := HM.out.grown hg1 hRB
  have HS := Lib.hid (And.intro hm1 (And.intro hR1 hg1))
  have hB1 : B ≤ w1.heap.size := by omega
  have hall : ∀ w2, Below w1.heap.size w1 w2 → Rd w2 R a len cap (q + 1) ∧ w.grownBy w2 (some R) := fun w2 hb =>
    ⟨hR1.far hb.size (fun k hk => hb.block k hk) (Nat.lt_of_lt_of_le hRB hB1) hR1.la, grown_then hg1 hb⟩
  have HALL := Lib.hid hall
  have HLA1 := Lib.hid hR1.la
  have hw1 : w.heap.size ≤ w1.heap.size := hg1.size
  clear hR1 hg1 hs1 hm1 hall HM HP
  by_cases x0 : x = 0
  · subst x0
    obtain ⟨news, n1, n2, n3, n4⟩ := HS.out.1.heads hc1 (by omega)
    have HNW := Lib.hid (fun j u hj => show (w1.alloc (.cells #[] 62)).cell? ((⟨g, 0, none⟩ : Addr).add j) = some u from by
      have hadd : (⟨g, 0, none⟩ : Addr).add j = ⟨g, j, none⟩ := by unfold Addr.add; split <;> simp_all
      have := n3 j u hj
      rw [hadd] at this ⊢
      rw [World.cell?_alloc_past _ _ _ (by have := HS.out.1.gl; exact this)]
      exact this)
    have HE := Lib.hid (show (w1.alloc (.cells #[] 62)).ownsRow B 62 1 (.slice (some ⟨w1.heap.size, 0, none⟩) 0 0) 0 [] from World.ownsRow_lit (size := 1) w1 #[] 0 hB1 (by unfold maxLen; omega) rfl)
    have N2 := Lib.hid n2
    have N4 := Lib.hid n4
    have N1 := Lib.hid n1
    have hBa : B ≤ (w1.alloc (Obj.cells #[] 62)).heap.size := by simp; omega
    clear n1 n2 n3 n4
    go_wp2_with (at_builtin; refine wpList_append_lies _ rfl _ _ 35 rfl B 62 is (.slice none 0 0) 1 24 Try.underlying35 his hs0 hs1 hs2 rfl (by decide) _ _ _ rfl HE.out ⟨g, 0, none⟩ r cap2 news rfl (by rw [N1.out, Nat.mul_one]) HNW.out N2.out (by omega) (by unfold maxLen; omega) (by omega) (by simp; omega) _ rfl ?_)
    intro g5 c5 w5 hown5 hgrow5 hat5 hlt5
    have hb5 : Below w1.heap.size w1 w5 := (Below.alloc (Below.refl w1.heap.size w1) (Nat.le_refl _) _).grown hgrow5 (by simp) (fun k hk => by
      have hk : w1.heap.size = k := by simpa [Value.ownBlock] using hk
      omega)
    have HR5 := Lib.hid (show RowsW w5 B (.slice (some ⟨g5, 0, none⟩) r c5) (matF c F r) news H from
      N4.out w5 _ (.inr ⟨g5, rfl, by
        rcases hat5 with e | e
        · have : w1.heap.size = g5 := by simpa [Value.ownBlock] using e
          omega
        · have e : g5 = w1.heap.size + 1 := by simpa using e
          omega⟩) (by simpa using hown5) (fun k hk => hb5.block k hk))
    have hg5 : w1.heap.size ≤ g5 := by
      rcases hat5 with e | e
      · have : w1.heap.size = g5 := by simpa [Value.ownBlock] using e
        omega
      · have e : g5 = w1.heap.size + 1 := by simpa using e
        omega
    have hz5 := hb5.size
    have HB5 := Lib.hid (And.intro hb5 (HALL.out w5 hb5))
    have hs5 : B ≤ w5.heap.size := by have := hb5.size; omega
    clear hown5 hgrow5 hat5 hlt5 hb5 HE HNW N4 HS HALL
    go_wp2_with fail
    refine (num_new R a len cap (q + 1) [0, 13, -1] 3 rfl _ w5 HB5.out.2.1 (by omega) (by simp) (by simp) ?_).mono ?_
    · intro j hj
      have : j = 0 ∨ j = 1 ∨ j = 2 := by simp at hj; omega
      rcases this with rfl | rfl | rfl
      all_goals rfl
    rintro e w6 ⟨y, rfl, _, hR6, hg6⟩
    have HR6 := Lib.hid ((HR5.out.below (w' := w5.alloc (.cells #[.int .i64 0, .int .i64 13, .int .i64 (-1)] 3)) (Below.alloc (Below.refl _ _) (Nat.le_refl _) _)).grown hg6 hRB)
    have HG6 := Lib.hid (grown_trans (grown_then HB5.out.2.2 (Below.alloc (Below.refl _ _) (Nat.le_refl _) (.cells #[.int .i64 0, .int .i64 13, .int .i64 (-1)] 3))) hg6)
    have HRd := Lib.hid hR6
    have hs6 : B ≤ w6.heap.size := by have := hg6.size; simp at this; omega
    have HRW := Lib.hid (fun o => (HR6.out.below (w' := (w6.alloc (.cells #[.int .i64 y] 3)).alloc o) (Below.alloc (Below.alloc (Below.refl _ _) (Nat.le_refl _) _) (by simp) _)).row)
    rw [N1.out] at HRW
    have HA7 := Lib.hid (show ArI (w6.alloc (.cells #[.int .i64 y] 3)) w6.heap.size [y] ∧ Below w6.heap.size w6 (w6.alloc (.cells #[.int .i64 y] 3)) from by
      refine ⟨⟨by simp, fun j hj => ?_, fun j hj => ?_⟩, Below.alloc (Below.refl _ _) (Nat.le_refl _) _⟩
      · have : j = 0 := by simpa using hj
        subst this; simp [go_sem]
      · have : j = 0 := by simpa using hj
        subst this; simp [go_sem])
    have hz6 : w1.heap.size ≤ w6.heap.size := by have := hg6.size; simp at this; omega
    clear hR6 hg6 HR5
    go_wp2_with (at_builtin; refine wpList_append_lies _ rfl _ _ 35 rfl B 62 is (.slice none 0 0) 1 24 Try.underlying35 his hs0 hs1 hs2 rfl (by decide) _ _ _ rfl (HRW.out _) ⟨w6.heap.size + 1, 0, none⟩ 1 1 [.slice (some ⟨w6.heap.size, 0, none⟩) 1 1] rfl rfl (by intro j u hj; match j, hj with | 0, hj => (simp at hj; subst hj; simp [Addr.add, go_sem])) (by intro u hu; simp at hu; subst hu; rfl) (by omega) (by unfold maxLen; omega) (by omega) (by simp; omega) _ rfl ?_)
    intro g8 c8 w8 hown8 hgrow8 hat8 hlt8
    have hb68 : Below w1.heap.size w6 w8 := (Below.alloc (Below.alloc (Below.refl w1.heap.size w6) hz6 _) (by simp; omega) _).grown hgrow8 (by simp; omega) (fun k hk => by
      have hk : g5 = k := by simpa [Value.ownBlock] using hk
      omega)
    have H8 := Lib.hid (HR6.out.push HA7.out.2 HA7.out.1 (by simp) (c9 := 1) (by simp) hs6 (Nat.le_refl _) (Below.alloc (Below.refl (w6.alloc (.cells #[.int .i64 y] 3)).heap.size _) (Nat.le_refl _) _) (by rw [N1.out]; exact hown8) hgrow8 hat8 (by simp))
    have HF := Lib.hid (show Rd w8 R a len cap (q + 1 + 1) ∧ w.grownBy w8 (some R) from
      ⟨HRd.out.far hb68.size (fun k hk => hb68.block k hk) (by omega) HLA1.out, ⟨hb68.os.trans HG6.out.os, hb68.tape.trans HG6.out.tape, hb68.output.trans HG6.out.output, Nat.le_trans HG6.out.size hb68.size, fun k hk hne => (hb68.block k (by omega)).trans (HG6.out.block k hk hne)⟩⟩)
    rw [N1.out] at H8
    clear hown8 hgrow8 hat8 hlt8 HRW HA7 hb68
    go_wp2_with fail
    go_ret
    exact ⟨_, _, q + 1 + 1, rfl, H8.out.1.own (by rw [List.length_append, matF_len]; simp; omega), by rw [List.length_append, matF_len]; simp; omega, by omega, HF.out.1, HF.out.2⟩
  · by_cases x1 : x = 1
    · subst x1
      have HF := Lib.hid (HALL.out (w1.alloc (.cells #[] 62)) (Below.alloc (Below.refl _ _) (Nat.le_refl _) _))
      go_wp2_with fail
      go_ret
      exact ⟨_, [], q + 1, rfl, OwnMat.nil _ _ _ _, by simp, by omega, HF.out.1, HF.out.2⟩
    · by_cases x2 : x = 2
      · subst x2
        have HN := Lib.hid (sNew 5 5 (by omega) (by omega) w1)
        go_wp2_with fail
        refine HN.out.mono ?_
        rintro e w2 ⟨u, V, H2, rfl, hR2, hb2⟩
        have HF := Lib.hid (And.intro ((hR2.own (by simp [zeroM])).base hB1) (HALL.out w2 hb2))
        clear hR2 hb2
        go_wp2_with fail
        go_ret
        exact ⟨u, zeroM 5 5, q + 1, rfl, HF.out.1, by simp [zeroM], by omega, HF.out.2.1, HF.out.2.2⟩
      · by_cases x3 : x = 3
        · subst x3
          have HF := Lib.hid (show OwnMat (((w1.alloc (Obj.cells #[] 3)).alloc (Obj.cells #[] 3)).alloc (Obj.cells #[.slice (some ⟨w1.heap.size, 0, none⟩) 0 0, .slice (some ⟨w1.heap.size + 1, 0, none⟩) 0 0] 62)) B (.slice (some ⟨w1.heap.size + 1 + 1, 0, none⟩) 2 2) [[], []] from
            ⟨by simp, by simp [cnt, cntT, rowM], _, 2, rfl, .inr ⟨w1.heap.size + 1 + 1, 0, fun _ => 0, fun _ => 0, rfl, by omega, by simp, fun i hi => by
              have : i = 0 ∨ i = 1 := by simp at hi; omega
              rcases this with rfl | rfl
              · exact ⟨some ⟨w1.heap.size, 0, none⟩, 0, by simp [go_sem, rowM], by simp [rowM], .inl (by simp [rowM])⟩
              · exact ⟨some ⟨w1.heap.size + 1, 0, none⟩, 0, by simp [go_sem, rowM], by simp [rowM], .inl (by simp [rowM])⟩, fun i j k l hi hj hne hk => by
              have : i = 0 ∨ i = 1 := by simp at hi; omega
              rcases this with rfl | rfl
              · simp [rowM] at hk
              · simp [rowM] at hk, fun i hi => by
              have : i = 0 ∨ i = 1 := by simp at hi; omega
              rcases this with rfl | rfl
              · simp [go_sem]
              · simp [go_sem]⟩⟩)
          have HA := Lib.hid (HALL.out (((w1.alloc (Obj.cells #[] 3)).alloc (Obj.cells #[] 3)).alloc (Obj.cells #[.slice (some ⟨w1.heap.size, 0, none⟩) 0 0, .slice (some ⟨w1.heap.size + 1, 0, none⟩) 0 0] 62)) (by repeat (first | exact Below.refl _ _ | apply Below.drew | apply below_drewN | (refine Below.alloc ?_ (by first | omega | (simp <;> omega)) _))))
          go_wp2_with fail
          go_ret
          exact ⟨_, [[], []], q + 1, rfl, HF.out, by simp, by omega, HA.out.1, HA.out.2⟩
        · go_wp2_with fail
          go_ret
          exact ⟨_, _, q + 1, rfl, HS.out.1.own (by omega) (by omega), by rw [matF_len]; omega, by omega, HS.out.2.1, HS.out.2.2⟩
end Go.Proofs.Ytlcmddghppdmgaa
namespace Go.Proofs.Ytlcmddghppdmgaa
set_option linter.unusedVariables false
open Go.RowKit Go.Shelf
theorem field_prM (p : Int) (w : World) : Calls Try.prog 132 #[.int .i64 p] w fun e w' => ∃ q : Int, e = .returned (.int .i64 q) ∧ isP q = true ∧ w = w' := by
  cases hp : isP p
  · have HP := Lib.hid hp
    clear hp
    go_enter Try.func132, Try.ntmps132
    go_wp2_with fail
    refine (sPV_no p _ HP.out).mono ?_
    rintro e w1 ⟨rfl, rfl⟩
    go_wp2
    go_ret
    exact ⟨5, rfl, rfl, rfl⟩
  · have HP := Lib.hid hp
    clear hp
    go_enter Try.func132, Try.ntmps132
    go_wp2_with fail
    refine (sPV_yes p _ HP.out).mono ?_
    rintro e w1 ⟨rfl, rfl⟩
    go_wp2
    go_ret
    exact ⟨p, rfl, HP.out, rfl⟩
/-- a number and some rows, in blocks from w's end on -/
def SomeM (R : Nat) (a : Option Addr) (len cap q : Nat) (w : World) (e : Ending) (w' : World) : Prop :=
  ∃ (p : Int) (v : Value) (M : List (List Int)) (q' : Nat), e = .returned (.tuple #[.int .i64 p, v]) ∧ (-9223372036854775808 ≤ p ∧ p ≤ 9223372036854775807) ∧ OwnMat w' w.heap.size v M ∧ M.length ≤ 5 ∧ q' ≤ q + 100 ∧ Rd w' R a len cap q' ∧ w.grownBy w' (some R)
set_option maxRecDepth 100000 in
set_option maxHeartbeats 4000000 in
theorem someTail (R : Nat) (a : Option Addr) (len cap q : Nat) (p : Int) (n k : Nat) (w : World) (h : Rd w R a len cap q) (hq : q ≤ 800000) (hn1 : 1 ≤ n) (hn4 : n ≤ 4) (hk1 : 1 ≤ k) (hk4 : k ≤ 4) :
    Calls Try.prog 131 #[.pointer (some ⟨R, 0, none⟩), .int .i64 p, .int .i64 n, .int .i64 k] w fun e w' => ∃ (g cap2 : Nat), e = .returned (.slice (some ⟨g, 0, none⟩) n cap2) ∧
      Calls Try.prog 130 #[.pointer (some ⟨R, 0, none⟩), .slice (some ⟨g, 0, none⟩) n cap2] w' fun e2 w2 => ∃ (v : Value) (M : List (List Int)) (q' : Nat), e2 = .returned v ∧ OwnMat w2 w.heap.size v M ∧ M.length ≤ 5 ∧ q' ≤ q + 60 ∧ Rd w2 R a len cap q' ∧ w.grownBy w2 (some R) := by
  refine (drawM R a len cap q p n k w h (by omega) hn1 hn4 hk1 hk4).mono ?_
  rintro e w' ⟨g, cap2, H, F, q', he, hm, hq', hR, hg⟩
  refine ⟨g, cap2, he, (badM w.heap.size R a len cap q' g cap2 n k H F w' hR (by omega) hm h.sz hg.size hn1 hn4 hk1 hk4).mono ?_⟩
  rintro e2 w2 ⟨v, M, q2, he2, ho, hl, hq2, hR2, hg2⟩
  exact ⟨v, M, q2, he2, ho, hl, by omega, hR2, grown_trans hg hg2⟩
set_option maxRecDepth 100000 in
set_option maxHeartbeats 4000000 in
theorem someM (R : Nat) (a : Option Addr) (len cap q : Nat) (w : World) (h : Rd w R a len cap q) (hq : q ≤ 700000) :
    Calls Try.prog 128 #[.pointer (some ⟨R, 0, none⟩)] w (SomeM R a len cap q w) := by
  have HS := Lib.hid (some_any R a len cap q w h (by omega))
  clear h
  go_enter Try.func128, Try.ntmps128
  go_wp2_with fail
  refine HS.out.mono ?_
  rintro e w1 ⟨p, q1, rfl, hp0, hp1, hq1, hR1, hg1⟩
  have HR1 := Lib.hid (And.intro hR1 hg1)
  have HPB := Lib.hid (And.intro hp0 hp1)
  clear hR1 hg1
  go_wp2_with fail
  refine (num_new R a len cap q1 [3, 2, 3, 1, 4, 2] 6 rfl _ w1 HR1.out.1 (by omega) (by simp) (by simp) ?_).mono ?_
  · intro j hj
    have : j = 0 ∨ j = 1 ∨ j = 2 ∨ j = 3 ∨ j = 4 ∨ j = 5 := by simp at hj; omega
    rcases this with rfl | rfl | rfl | rfl | rfl | rfl
    all_goals rfl
  rintro e w2 ⟨n, rfl, hn, hR2, hg2⟩
  obtain ⟨nn, hnn, hn1, hn4⟩ : ∃ nn : Nat, n = (nn : Int) ∧ 1 ≤ nn ∧ nn ≤ 4 := ⟨n.toNat, by simp at hn; omega, by simp at hn; omega, by simp at hn; omega⟩
  subst hnn
  have HR2 := Lib.hid (And.intro hR2 (grown_trans (grown_then HR1.out.2 (Below.alloc (Below.refl _ _) (Nat.le_refl _) (.cells #[.int .i64 3, .int .i64 2, .int .i64 3, .int .i64 1, .int .i64 4, .int .i64 2] 3))) hg2))
  clear hR2 hg2 hn
  go_wp2_with fail
  refine (pick_any R a len cap (q1 + 1) 6 w2 HR2.out.1 (by omega)).mono ?_
  rintro e w3 ⟨x, rfl, _, _, hR3, hg3, _⟩
  have HR3 := Lib.hid (And.intro hR3 (grown_trans HR2.out.2 hg3))
  clear hR3 hg3
  by_cases hx : x = 0
  · subst hx
    go_wp2_with fail
    refine (pick_any R a len cap (q1 + 1 + 1) 4 w3 HR3.out.1 (by omega)).mono ?_
    rintro e w4 ⟨y, rfl, y0, y1, hR4, hg4, _⟩
    obtain ⟨k, hk, hk1, hk4⟩ : ∃ k : Nat, 1 + y = (k : Int) ∧ 1 ≤ k ∧ k ≤ 4 := ⟨(1 + y).toNat, by omega, by omega, by omega⟩
    have hwr : IntKind.i64.wrap (1 + y) = (k : Int) := by rw [IntWalk.i64_in _ (by omega)]; exact hk
    have HR4 := Lib.hid (And.intro hR4 (grown_trans HR3.out.2 hg4))
    clear hR4 hg4 hk y1
    go_wp2_with fail
    refine (field_prM p _).mono ?_
    rintro e w5 ⟨m, rfl, _, rfl⟩
    go_wp2_with fail
    refine (someTail R a len cap (q1 + 1 + 1 + 1) m nn k w4 HR4.out.1 (by omega) hn1 hn4 hk1 hk4).mono ?_
    rintro e w6 ⟨g, cap2, rfl, hB⟩
    have HB := Lib.hid hB
    clear hB
    go_wp2_with fail
    refine HB.out.mono ?_
    rintro e w7 ⟨v, M, q7, rfl, ho, hl, hq7, hR7, hg7⟩
    have HF := Lib.hid (show OwnMat w7 w.heap.size v M ∧ M.length ≤ 5 ∧ q7 ≤ q + 100 ∧ Rd w7 R a len cap q7 ∧ w.grownBy w7 (some R) from ⟨ho.base HR4.out.2.size, hl, by omega, hR7, grown_trans HR4.out.2 hg7⟩)
    clear ho hl hR7 hg7
    go_wp2_with fail
    refine bodyPost_ret (v := .tuple #[.int .i64 p, v]) (by simp [results, Try.results128, go_sem]) rfl ⟨p, v, M, q7, rfl, HPB.out, HF.out.1, HF.out.2.1, HF.out.2.2.1, HF.out.2.2.2.1, HF.out.2.2.2.2⟩
  · have hx0 : (x == 0) = false := by simpa using hx
    go_wp2_with fail
    refine (field_prM p _).mono ?_
    rintro e w5 ⟨m, rfl, _, rfl⟩
    go_wp2_with fail
    refine (someTail R a len cap (q1 + 1 + 1) m nn nn w3 HR3.out.1 (by omega) hn1 hn4 hn1 hn4).mono ?_
    rintro e w6 ⟨g, cap2, rfl, hB⟩
    have HB := Lib.hid hB
    clear hB
    go_wp2_with fail
    refine HB.out.mono ?_
    rintro e w7 ⟨v, M, q7, rfl, ho, hl, hq7, hR7, hg7⟩
    have HF := Lib.hid (show OwnMat w7 w.heap.size v M ∧ M.length ≤ 5 ∧ q7 ≤ q + 100 ∧ Rd w7 R a len cap q7 ∧ w.grownBy w7 (some R) from ⟨ho.base HR3.out.2.size, hl, by omega, hR7, grown_trans HR3.out.2 hg7⟩)
    clear ho hl hR7 hg7
    go_wp2_with fail
    refine bodyPost_ret (v := .tuple #[.int .i64 p, v]) (by simp [results, Try.results128, go_sem]) rfl ⟨p, v, M, q7, rfl, HPB.out, HF.out.1, HF.out.2.1, HF.out.2.2.1, HF.out.2.2.2.1, HF.out.2.2.2.2⟩
end Go.Proofs.Ytlcmddghppdmgaa
namespace Go.Proofs.Ytlcmddghppdmgaa
set_option linter.unusedVariables false
set_option linter.unusedSimpArgs false
open Go.RowKit Go.Shelf
theorem tr1 (s : Bool) (f : Nat → Nat → Int) : lapZ s 1 (fun a b => f b a) = lapZ s 1 f := by
  simp [lapZ, lapS, sgZ, mnfZ]
theorem tr2 (s : Bool) (f : Nat → Nat → Int) : lapZ s 2 (fun a b => f b a) = lapZ s 2 f := by
  cases s <;> simp [lapZ, lapS, sgZ, mnfZ] <;> grind
theorem tr3 (s : Bool) (f : Nat → Nat → Int) : lapZ s 3 (fun a b => f b a) = lapZ s 3 f := by
  cases s <;> simp [lapZ, lapS, sgZ, mnfZ] <;> grind
set_option maxHeartbeats 2000000 in
theorem tr4 (s : Bool) (f : Nat → Nat → Int) : lapZ s 4 (fun a b => f b a) = lapZ s 4 f := by
  cases s <;> simp [lapZ, lapS, sgZ, mnfZ] <;> grind
theorem lap_tr (s : Bool) (n : Nat) (h1 : 1 ≤ n) (h4 : n ≤ 4) (f : Nat → Nat → Int) : lapZ s n (fun a b => f b a) = lapZ s n f := by
  rcases (show n = 1 ∨ n = 2 ∨ n = 3 ∨ n = 4 by omega) with rfl | rfl | rfl | rfl
  · exact tr1 s f
  · exact tr2 s f
  · exact tr3 s f
  · exact tr4 s f
theorem rv2 (f : Nat → Nat → Int) : lapZ false 2 (fun a b => f (2 - 1 - a) b) = lapZ false 2 f := by
  simp [lapZ, lapS, sgZ, mnfZ] <;> grind
theorem rv3 (f : Nat → Nat → Int) : lapZ false 3 (fun a b => f (3 - 1 - a) b) = lapZ false 3 f := by
  simp [lapZ, lapS, sgZ, mnfZ] <;> grind
set_option maxHeartbeats 2000000 in
theorem rv4 (f : Nat → Nat → Int) : lapZ false 4 (fun a b => f (4 - 1 - a) b) = lapZ false 4 f := by
  simp [lapZ, lapS, sgZ, mnfZ] <;> grind
theorem lap_rv (n : Nat) (h1 : 1 ≤ n) (h4 : n ≤ 4) (f : Nat → Nat → Int) : lapZ false n (fun a b => f (n - 1 - a) b) = lapZ false n f := by
  rcases (show n = 1 ∨ n = 2 ∨ n = 3 ∨ n = 4 by omega) with rfl | rfl | rfl | rfl
  · simp [lapZ, lapS, sgZ, mnfZ]
  · exact rv2 f
  · exact rv3 f
  · exact rv4 f
theorem lap_two (n : Nat) (h1 : 1 ≤ n) (h4 : n ≤ 4) (f : Nat → Nat → Int) : ∃ d, lapZ true n f = lapZ false n f + 2 * d := by
  have key : ∀ n (f : Nat → Nat → Int), ∃ d, lapZ true n f = lapZ false n f + 2 * d := by
    intro n
    induction n with
    | zero => intro f; exact ⟨0, by rw [lapZ, lapZ]; rfl⟩
    | succ n ih =>
      intro f
      have aux : ∀ k, ∃ d, lapS true n f k = lapS false n f k + 2 * d := by
        intro k
        induction k with
        | zero => exact ⟨0, by rw [lapS, lapS]; rfl⟩
        | succ k ihk =>
          obtain ⟨d, hd⟩ := ihk
          obtain ⟨e, he⟩ := ih (mnfZ f k)
          rw [lapS, lapS, hd, he]
          by_cases ho : k % 2 = 1
          · refine ⟨d - f 0 k * lapZ false n (mnfZ f k) - f 0 k * e, ?_⟩
            simp [sgZ, ho]; grind
          · refine ⟨d + f 0 k * e, ?_⟩
            simp [sgZ, ho]; grind
      obtain ⟨d, hd⟩ := aux (n + 1)
      exact ⟨d, by rw [lapZ, lapZ]; exact hd⟩
  exact key n f
theorem sqB_matI {p : Int} {m : Nat} {F : Nat → Nat → Int} (hp : isP p = true) (h1 : 1 ≤ m) (h4 : m ≤ 4) (hF : ∀ i k, i < m → k < m → 0 ≤ F i k ∧ F i k < p) : sqB p (matF m F m) = true := by
  have h0 : (rowM (matF m F m) 0).length = m := by rw [matF_row (by omega)]; simp
  have hB : matB p (matF m F m) = true := by
    refine matB_iff.2 ⟨hp, ⟨by rw [matF_len]; omega, by rw [matF_len]; omega⟩, ⟨by rw [h0]; omega, by rw [h0]; omega⟩, fun i hi => ?_⟩
    rw [matF_len] at hi
    refine rowB_iff.2 ⟨by rw [h0, matF_row hi]; simp, fun k hk => ?_⟩
    rw [h0] at hk
    have := hF i k hi hk
    rw [matF_row hi]
    simpa [List.getD_eq_getElem?_getD, hk] using this
  simp [sqB, hB, h0, matF_len]
theorem detV_matI {p : Int} {m : Nat} {F : Nat → Nat → Int} (s : Bool) (hp : isP p = true) (h1 : 1 ≤ m) (h4 : m ≤ 4) (hF : ∀ i k, i < m → k < m → 0 ≤ F i k ∧ F i k < p) : detV s p (matF m F m) = lapZ s m F % p := by
  unfold detV
  rw [if_pos (sqB_matI hp h1 h4 hF), matF_len, lapZ_ext s m (el (matF m F m)) F (fun i k hi hk => el_matF hi hk)]
/-- a number and some rows that can be read -/
def DrawsM (w : World) (e : Ending) (w' : World) : Prop :=
  ∃ (p : Int) (v : Value) (M : List (List Int)), e = .returned (.tuple #[.int .i64 p, v]) ∧ Mat w' v M ∧ M.length ≤ 5 ∧ Below w.heap.size w w'
set_option maxHeartbeats 1000000 in
theorem drawPermanentOf (a : Option Addr) (len cap : Nat) (w : World) (h : ByteRow w a len cap) :
    Calls Try.prog 70 #[.slice a len cap] w (DrawsM w) := by
  go_enter Try.func70, Try.ntmps70
  go_wp2_with fail
  refine (open_any a len cap w h).mono ?_
  rintro e w1 ⟨a1, l1, c1, rfl, hR1, hb1⟩
  go_wp2_with fail
  refine (someM w.heap.size a1 l1 c1 0 w1 hR1 (by omega)).mono ?_
  rintro e w2 ⟨p, v, M, q, rfl, hp, ho, hl, hq, hR2, hg2⟩
  have hO := Lib.hid (show Mat w2 v M ∧ M.length ≤ 5 ∧ Below w.heap.size w w2 from
    ⟨ho.mat, hl, ⟨hg2.os.trans hb1.os, hg2.tape.trans hb1.tape, hg2.output.trans hb1.output, Nat.le_trans hb1.size hg2.size, fun k hk => (hg2.block k (by have := hb1.size; omega) (fun e => by injection e with e; omega)).trans (hb1.block k hk)⟩⟩)
  clear hR1 hR2 hb1 ho hg2
  go_wp2_with fail
  refine bodyPost_ret (v := .tuple #[.int .i64 p, v]) (by simp [results, Try.results70, go_sem]) rfl ⟨p, v, M, rfl, hO.out⟩
end Go.Proofs.Ytlcmddghppdmgaa
namespace Go.Proofs.Ytlcmddghppdmgaa
set_option linter.unusedVariables false
set_option linter.unusedSimpArgs false
open Go.RowKit Go.Shelf
/-- rows whose heads were laid into another slice -/
theorem mat_heads {w : World} {B gg cc m : Nat} {V : List Value} {G : Nat → Nat → Int} (hm1 : 1 ≤ m) (hm4 : m ≤ 4) (hown : w.ownsRow B 62 1 (.slice (some ⟨gg, 0, none⟩) m cc) m V)
    (hV : ∀ j, j < m → ∃ hh o cp, V[j]? = some (.slice (some ⟨hh, o, none⟩) m cp) ∧ m ≤ cp ∧ hh < w.heap.size ∧ ∀ k, k < m → w.cell? ⟨hh, o + k, none⟩ = some (.int .i64 (G j k))) : Mat w (.slice (some ⟨gg, 0, none⟩) m cc) (matF m G m) := by
  refine ⟨by rw [matF_len]; omega, ?_, _, cc, by rw [matF_len], .inr ⟨gg, 0, rfl, (hown.lt gg rfl).2, fun i hi => ?_⟩⟩
  · rw [matF_cnt]
    have : m * m ≤ 4 * 4 := Nat.mul_le_mul hm4 hm4
    omega
  · rw [matF_len] at hi
    obtain ⟨hh, o, cp, h1, h2, h3, h4⟩ := hV i hi
    refine ⟨.slice (some ⟨hh, o, none⟩) m cp, ?_, ?_, h2⟩
    · rw [Nat.zero_add, World.ownsRow.cellAt hown i (by omega)]
      simp [List.getD_eq_getElem?_getD, h1]
    · rw [matF_row hi]
      refine ⟨by simp; omega, _, cp, by simp, .inr ⟨hh, o, rfl, h3, fun k hk => ?_⟩⟩
      have hk : k < m := by simpa using hk
      rw [h4 k hk]
      simp [List.getD_eq_getElem?_getD, hk]
set_option maxRecDepth 100000 in
set_option maxHeartbeats 8000000 in
theorem wPermanent_in (a : Option Addr) (len cap : Nat) (w : World) (h : ByteRow w a len cap) (hl : len ≤ 1048576) :
    Calls Try.prog 16 #[.slice a len cap] w fun e w' => e = .returned (.bool true) ∧ Below w.heap.size w w' := by
  have hlp : (len : Int) ≤ 1048576 := by omega
  obtain ⟨is, his, hs0, hs1, hs2⟩ := info_parts infoIS
  have HD := Lib.hid (drawPermanentOf a len cap w h)
  clear h
  go_enter Try.func16, Try.ntmps16
  go_wp2_with fail
  refine HD.out.mono ?_
  rintro e w1 ⟨p, v, M, rfl, hM, hL, hb1⟩
  have HB1 := Lib.hid hb1
  have HI := Lib.hid (fun w2 (hb : Below w1.heap.size w1 w2) => iPermt p v M w2 (hM.below hb))
  have HSp := Lib.hid (fun w2 (hb : Below w1.heap.size w1 w2) => sPermt p v M w2 (hM.below hb))
  clear hb1 HD
  cases hS : sqB p M
  · have hv : detV false p M = -1 := by simp [detV, hS]
    rw [hv] at HI HSp
    obtain ⟨_, _, a1, c1, rfl, _⟩ := hM
    obtain ⟨m, hm⟩ : ∃ m, m = M.length := ⟨_, rfl⟩
    rw [← hm] at HI HSp ⊢
    clear hm hS hv
    go_wp2_with fail
    refine (HI.out w1 (Below.refl _ _)).mono ?_
    rintro e w2 ⟨rfl, hb2⟩
    have HB2 := Lib.hid hb2
    clear hb2
    go_wp2_with fail
    refine (HSp.out w2 HB2.out).mono ?_
    rintro e w3 ⟨rfl, hb3⟩
    have HB3 := Lib.hid (HB2.out.trans (hb3.mono HB2.out.size))
    clear hb3
    go_wp2_with fail
    refine (HSp.out w3 HB3.out).mono ?_
    rintro e w4 ⟨rfl, hb4⟩
    have HB4 := Lib.hid (HB3.out.trans (hb4.mono HB3.out.size))
    clear hb4
    go_wp2_with fail
    go_ret
    exact ⟨rfl, HB1.out.trans (HB4.out.mono HB1.out.size)⟩
  · obtain ⟨hMB, hsq⟩ := sqB_side hS
    obtain ⟨r, m, hr, hr1, hr4, hc, hc1, hc4, hrow, hel, hMF⟩ := matB_side hMB
    obtain ⟨g, off, cap1, hv, hC⟩ := hM.cells hr hr1 hc1 hrow
    have hp := (matB_iff.1 hMB).1
    obtain ⟨hp1, hp2⟩ := isP_bd hp
    have hrc : r = m := by omega
    subst hrc
    have HT := Lib.hid (fun w2 (hb : Below w1.heap.size w1 w2) => iTurn p v M w2 (hM.below hb))
    rw [hMB, show turnV p M = matF r (fun a b => el M b a) r by simp [turnV, hMB, hr, hc]] at HT
    have HDt := Lib.hid (fun w2 (hb : Below w1.heap.size w1 w2) => iDet p v M w2 (hM.below hb))
    have eF : detV false p M = lapZ false r (el M) % p := by simp [detV, hS, hr]
    have eT : detV true p M = lapZ true r (el M) % p := by simp [detV, hS, hr]
    have HX := Lib.hid (fun w2 u (hu : Mat w2 u (matF r (fun a b => el M b a) r)) => iPermt p u _ w2 hu)
    rw [detV_matI false hp hr1 hr4 (fun i k hi hk => hel k i hk hi), lap_tr false r hr1 hr4 (el M), ← eF] at HX
    have HR := Lib.hid (fun w2 u (hu : Mat w2 u (matF r (fun a b => el M (r - 1 - a) b) r)) => iPermt p u _ w2 hu)
    rw [detV_matI false hp hr1 hr4 (fun i k hi hk => hel (r - 1 - i) k (by omega) hk), lap_rv r hr1 hr4 (el M), ← eF] at HR
    obtain ⟨d, hd⟩ : ∃ d, d = detV false p M := ⟨_, rfl⟩
    obtain ⟨dt, hdt⟩ : ∃ dt, dt = detV true p M := ⟨_, rfl⟩
    rw [← hd] at HI HSp HX HR eF
    rw [← hdt] at HDt eT
    have hd0 : 0 ≤ d := by rw [eF]; exact Int.emod_nonneg _ (by omega)
    have H2 := Lib.hid (fun (e : p = 2) => show dt = d from by
      rw [eT, eF, e]
      obtain ⟨q, hq⟩ := lap_two r hr1 hr4 (el M)
      rw [hq, Int.add_mul_emod_self_left])
    have H1 := Lib.hid (fun (e : r = 1) => show d = el M 0 0 from by
      rw [eF, e]
      have := hel 0 0 (by omega) (by omega)
      rw [show lapZ false 1 (el M) = el M 0 0 by simp [lapZ, lapS, sgZ], Int.emod_eq_of_lt this.1 this.2])
    have hx : ∀ i, ∃ t : Nat × Nat × Nat, i < r → w1.cell? ⟨g, off + i, none⟩ = some (.slice (some ⟨t.1, t.2.1, none⟩) r t.2.2) ∧ (t.1 < w1.heap.size ∧ r ≤ t.2.2) ∧ ∀ k, k < r → w1.cell? ⟨t.1, t.2.1 + k, none⟩ = some (.int .i64 (el M i k)) := fun i => by
      by_cases hi : i < r
      · obtain ⟨hh, o, cp, q1, q2, q3⟩ := hC.2 i hi
        exact ⟨(hh, o, cp), fun _ => ⟨q1, q2, q3⟩⟩
      · exact ⟨(0, 0, 0), fun q => absurd q hi⟩
    obtain ⟨tt, htt⟩ := Classical.axiomOfChoice hx
    have HTT := Lib.hid htt
    have hg1 := hC.1
    subst hv
    have hnd : ¬ d < 0 := by omega
    have hwm : IntKind.i64.wrap ((r : Int) - 1) = (r : Int) - 1 := IntWalk.i64_in _ (by omega)
    have hrp : 0 < r := by omega
    have hrpi : (0 : Int) < (r : Int) := by omega
    clear hMB hsq hr hc hrow hel hMF hC hp hM hx htt eF eT hd hdt hS
    go_wp2_with fail
    refine (HI.out w1 (Below.refl _ _)).mono ?_
    rintro e w2 ⟨rfl, hb2⟩
    have HB2 := Lib.hid hb2
    clear hb2
    go_wp2_with fail
    refine (HSp.out w2 HB2.out).mono ?_
    rintro e w3 ⟨rfl, hb3⟩
    have HB3 := Lib.hid (HB2.out.trans (hb3.mono HB2.out.size))
    clear hb3
    go_wp2_with fail
    refine (HT.out w3 HB3.out).mono ?_
    rintro e w4 ⟨u, rfl, ho, hb4⟩
    have HU := Lib.hid ho.mat
    obtain ⟨_, _, au, cu, rfl, _⟩ := ho
    rw [matF_len] at HU ⊢
    have HB4 := Lib.hid (HB3.out.trans (hb4.mono HB3.out.size))
    clear hb4
    have HE := Lib.hid (show (w4.alloc (.cells #[] 62)).ownsRow w4.heap.size 62 1 (.slice (some ⟨w4.heap.size, 0, none⟩) 0 0) 0 [] ∧ Below w4.heap.size w4 (w4.alloc (.cells #[] 62)) from
      ⟨World.ownsRow_lit (size := 1) w4 #[] 0 (Nat.le_refl _) (by unfold maxLen; omega) rfl, Below.alloc (Below.refl _ _) (Nat.le_refl _) _⟩)
    go_wp2_with fail
    go_loopw [8, 9] (fun t i wr => ∃ (k gg cc : Nat) (V : List Value), k ≤ r ∧ i = .int .i64 ((r : Int) - 1 - (k : Int)) ∧ t = .slice (some ⟨gg, 0, none⟩) k cc ∧ wr.ownsRow w4.heap.size 62 1 (.slice (some ⟨gg, 0, none⟩) k cc) k V ∧ V.length = k ∧ (∀ j, j < k → V[j]? = some (.slice (some ⟨(tt (r - 1 - j)).1, (tt (r - 1 - j)).2.1, none⟩) r (tt (r - 1 - j)).2.2)) ∧ Below w4.heap.size w4 wr) (fun _ i _ => (intOf i + 1).toNat)
    case atStart => exact ⟨0, _, 0, [], by omega, by simp, rfl, HE.out.1, rfl, fun j hj => absurd hj (Nat.not_lt_zero j), HE.out.2⟩
    case round =>
      clear HE
      obtain ⟨k, gg, cc, V, hk, rfl, rfl, hown, hVl, hV, hb⟩ := hrel
      by_cases hlt : k < r
      · obtain ⟨q, hq⟩ : ∃ q, q = r - 1 - k := ⟨_, rfl⟩
        have hix : (r : Int) - 1 - (k : Int) = (q : Int) := by omega
        rw [hix]
        have hge : (q : Int) ≥ 0 := by omega
        have hge0 : (0 : Int) ≤ (q : Int) := by omega
        have hqr : (q : Int) < (r : Int) := by omega
        have hw9 : IntKind.i64.wrap ((q : Int) - 1) = (q : Int) - 1 := IntWalk.i64_in _ (by omega)
        have hcell := (hb.cell (p := ⟨g, off + q, none⟩) (by have := HB4.out.size; show g < _; omega)).trans ((HB4.out.cell (p := ⟨g, off + q, none⟩) hg1).trans (HTT.out q (by omega)).1)
        obtain ⟨hdv, hhd⟩ : ∃ hdv, hdv = Value.slice (some ⟨(tt q).1, (tt q).2.1, none⟩) r (tt q).2.2 := ⟨_, rfl⟩
        obtain ⟨t1, ht1⟩ : ∃ t1, t1 = (tt q).1 := ⟨_, rfl⟩
        obtain ⟨t2, ht2⟩ : ∃ t2, t2 = (tt q).2.1 := ⟨_, rfl⟩
        obtain ⟨t3, ht3⟩ : ∃ t3, t3 = (tt q).2.2 := ⟨_, rfl⟩
        have HV := Lib.hid (show ∀ j, j < k + 1 → (V ++ [Value.slice (some ⟨t1, t2, none⟩) r t3])[j]? = some (.slice (some ⟨(tt (r - 1 - j)).1, (tt (r - 1 - j)).2.1, none⟩) r (tt (r - 1 - j)).2.2) from fun j hj => by
          by_cases e : j < k
          · rw [List.getElem?_append_left (by omega)]; exact hV j e
          · have : j = k := by omega
            subst this
            rw [List.getElem?_append_right (by omega), hVl, ht1, ht2, ht3, hq]
            simp)
        rw [← ht1, ← ht2, ← ht3] at hcell
        have HRW := Lib.hid (fun o => show (wr.alloc o).ownsRow w4.heap.size 62 1 (.slice (some ⟨gg, 0, none⟩) k cc) k V from owns_sameM hown (fun b hq => (Below.alloc (Below.refl wr.heap.size wr) (Nat.le_refl _) o).block b (hown.lt b hq).2))
        have hgg := (hown.lt gg rfl).1
        have hz4 := hb.size
        have HBR := Lib.hid hb
        have HQ := Lib.hid (And.intro hq hVl)
        clear hown hVl hV hb hhd ht1 ht2 ht3 hq hix
        go_wp2_with (at_builtin; refine wpList_append_lies _ rfl _ _ 35 rfl w4.heap.size 62 is (.slice none 0 0) 1 24 Try.underlying35 his hs0 hs1 hs2 rfl (by decide) _ _ _ rfl (HRW.out _) ⟨wr.heap.size, 0, none⟩ 1 1 [.slice (some ⟨t1, t2, none⟩) r t3] rfl rfl (by intro j u hj; match j, hj with | 0, hj => (simp at hj; subst hj; simp [Addr.add, go_sem])) (by intro u hu; simp at hu; subst hu; rfl) (by omega) (by unfold maxLen; omega) (by omega) (by simp; omega) _ rfl ?_)
        intro g8 c8 w8 hown8 hgrow8 hat8 hlt8
        have hb8 : Below w4.heap.size w4 w8 := (HBR.out.alloc hz4 _).grown hgrow8 (by simp; omega) (fun b hk => by
          have hk : gg = b := by simpa [Value.ownBlock] using hk
          omega)
        have HF := Lib.hid (And.intro hown8 hb8)
        clear hown8 hgrow8 hat8 hlt8 hb8 HRW
        go_wp2_with fail
        go_roundw
        case rel => exact ⟨k + 1, g8, c8, _, by omega, by have := HQ.out.1; congr 1; omega, rfl, HF.out.1, by rw [List.length_append, HQ.out.2]; rfl, HV.out, HF.out.2⟩
        case measure => (simp [intOf]; try omega)
      · have hkr : k = r := by omega
        subst hkr
        have hng : ¬ (k : Int) - 1 - (k : Int) ≥ 0 := by omega
        have HB5 := Lib.hid (HB4.out.trans (hb.mono HB4.out.size))
        have HMR := Lib.hid (show Mat wr (.slice (some ⟨gg, 0, none⟩) k cc) (matF k (fun a b => el M (k - 1 - a) b) k) from
          mat_heads (by omega) hr4 hown (fun j hj => by
            obtain ⟨q1, q2, q3⟩ := HTT.out (k - 1 - j) (by omega)
            exact ⟨_, _, _, hV j hj, q2.2, Nat.lt_of_lt_of_le q2.1 HB5.out.size, fun i hi => (HB5.out.cell (p := ⟨(tt (k - 1 - j)).1, (tt (k - 1 - j)).2.1 + i, none⟩) q2.1).trans (q3 i hi)⟩))
        have HU5 := Lib.hid (HU.out.below hb)
        clear hown hVl hV hb
        by_cases hp2e : p = 2
        · subst hp2e
          by_cases hk1 : k = 1
          · subst hk1
            (first | rw [show (k : Int) - 1 - (k : Int) = -1 by omega] | skip)
            go_wp2_with fail
            refine (HX.out wr _ HU5.out).mono ?_
            rintro e w6 ⟨rfl, hb6⟩
            have HMR6 := Lib.hid (HMR.out.below hb6)
            have HB6 := Lib.hid (HB5.out.trans (hb6.mono HB5.out.size))
            clear hb6
            go_wp2_with fail
            refine (HR.out w6 _ HMR6.out).mono ?_
            rintro e w7 ⟨rfl, hb7⟩
            have HB7 := Lib.hid (HB6.out.trans (hb7.mono HB6.out.size))
            clear hb7
            go_wp2_with fail
            refine (HDt.out w7 HB7.out).mono ?_
            rintro e w8 ⟨rfl, hb8⟩
            have HB8 := Lib.hid (HB7.out.trans (hb8.mono HB7.out.size))
            clear hb8
            rw [(by first | exact H2.out rfl | exact H2.out trivial : dt = d)]
            obtain ⟨q1, q2, q3⟩ := HTT.out 0 (by omega)
            have q3 := q3 0 (by omega)
            rw [Nat.add_zero] at q1 q3
            rw [← (by first | exact H1.out rfl | exact H1.out trivial : d = el M 0 0)] at q3
            have z1 := (HB8.out.cell (p := ⟨g, off, none⟩) hg1).trans q1
            have z2 := (HB8.out.cell (p := ⟨(tt 0).1, (tt 0).2.1, none⟩) q2.1).trans q3
            obtain ⟨t1, ht1⟩ : ∃ t1, t1 = (tt 0).1 := ⟨_, rfl⟩
            obtain ⟨t2, ht2⟩ : ∃ t2, t2 = (tt 0).2.1 := ⟨_, rfl⟩
            obtain ⟨t3, ht3⟩ : ∃ t3, t3 = (tt 0).2.2 := ⟨_, rfl⟩
            rw [← ht1, ← ht2, ← ht3] at z1
            rw [← ht1, ← ht2] at z2
            clear ht1 ht2 ht3 q1 q2 q3
            go_wp2_with fail
            go_ret
            exact ⟨by simp, HB1.out.trans (HB8.out.mono HB1.out.size)⟩
          · have hgt : (k : Int) > 1 := by omega
            (first | rw [show (k : Int) - 1 - (k : Int) = -1 by omega] | skip)
            go_wp2_with fail
            refine (HX.out wr _ HU5.out).mono ?_
            rintro e w6 ⟨rfl, hb6⟩
            have HMR6 := Lib.hid (HMR.out.below hb6)
            have HB6 := Lib.hid (HB5.out.trans (hb6.mono HB5.out.size))
            clear hb6
            go_wp2_with fail
            refine (HR.out w6 _ HMR6.out).mono ?_
            rintro e w7 ⟨rfl, hb7⟩
            have HB7 := Lib.hid (HB6.out.trans (hb7.mono HB6.out.size))
            clear hb7
            go_wp2_with fail
            refine (HDt.out w7 HB7.out).mono ?_
            rintro e w8 ⟨rfl, hb8⟩
            have HB8 := Lib.hid (HB7.out.trans (hb8.mono HB7.out.size))
            clear hb8
            rw [(by first | exact H2.out rfl | exact H2.out trivial : dt = d)]
            go_wp2_with fail
            go_ret
            exact ⟨by simp, HB1.out.trans (HB8.out.mono HB1.out.size)⟩
        · have hpne : (p != 2) = true := by simpa using hp2e
          by_cases hk1 : k = 1
          · subst hk1
            (first | rw [show (k : Int) - 1 - (k : Int) = -1 by omega] | skip)
            go_wp2_with fail
            refine (HX.out wr _ HU5.out).mono ?_
            rintro e w6 ⟨rfl, hb6⟩
            have HMR6 := Lib.hid (HMR.out.below hb6)
            have HB6 := Lib.hid (HB5.out.trans (hb6.mono HB5.out.size))
            clear hb6
            go_wp2_with fail
            refine (HR.out w6 _ HMR6.out).mono ?_
            rintro e w7 ⟨rfl, hb7⟩
            have HB7 := Lib.hid (HB6.out.trans (hb7.mono HB6.out.size))
            clear hb7
            obtain ⟨q1, q2, q3⟩ := HTT.out 0 (by omega)
            have q3 := q3 0 (by omega)
            rw [Nat.add_zero] at q1 q3
            rw [← (by first | exact H1.out rfl | exact H1.out trivial : d = el M 0 0)] at q3
            have z1 := (HB7.out.cell (p := ⟨g, off, none⟩) hg1).trans q1
            have z2 := (HB7.out.cell (p := ⟨(tt 0).1, (tt 0).2.1, none⟩) q2.1).trans q3
            obtain ⟨t1, ht1⟩ : ∃ t1, t1 = (tt 0).1 := ⟨_, rfl⟩
            obtain ⟨t2, ht2⟩ : ∃ t2, t2 = (tt 0).2.1 := ⟨_, rfl⟩
            obtain ⟨t3, ht3⟩ : ∃ t3, t3 = (tt 0).2.2 := ⟨_, rfl⟩
            rw [← ht1, ← ht2, ← ht3] at z1
            rw [← ht1, ← ht2] at z2
            clear ht1 ht2 ht3 q1 q2 q3
            go_wp2_with fail
            go_ret
            exact ⟨by simp, HB1.out.trans (HB7.out.mono HB1.out.size)⟩
          · have hgt : (k : Int) > 1 := by omega
            (first | rw [show (k : Int) - 1 - (k : Int) = -1 by omega] | skip)
            go_wp2_with fail
            refine (HX.out wr _ HU5.out).mono ?_
            rintro e w6 ⟨rfl, hb6⟩
            have HMR6 := Lib.hid (HMR.out.below hb6)
            have HB6 := Lib.hid (HB5.out.trans (hb6.mono HB5.out.size))
            clear hb6
            go_wp2_with fail
            refine (HR.out w6 _ HMR6.out).mono ?_
            rintro e w7 ⟨rfl, hb7⟩
            have HB7 := Lib.hid (HB6.out.trans (hb7.mono HB6.out.size))
            clear hb7
            go_wp2_with fail
            go_ret
            exact ⟨by simp, HB1.out.trans (HB7.out.mono HB1.out.size)⟩
set_option maxHeartbeats 2000000 in
theorem wPermanent_long (a : Option Addr) (len cap : Nat) (w : World) (h1 : len ≤ 9223372036854775807) (hl : ¬ len ≤ 1048576) :
    Calls Try.prog 16 #[.slice a len cap] w fun e w' => e = .returned (.bool true) ∧ Below w.heap.size w w' := by
  have hp : (1048576 : Int) < (len : Int) := by omega
  go_enter Try.func16, Try.ntmps16
  go_wp2_with fail
  go_ret
  exact ⟨rfl, Below.refl _ _⟩
theorem wPermanent (a : Option Addr) (len cap : Nat) (w : World) (h : ByteRow w a len cap) :
    Calls Try.prog 16 #[.slice a len cap] w fun e w' => e = .returned (.bool true) ∧ Below w.heap.size w w' := by
  by_cases hl : len ≤ 1048576
  · exact wPermanent_in a len cap w h hl
  · exact wPermanent_long a len cap w (Nat.le_trans h.1 h.2.1) hl
end Go.Proofs.Ytlcmddghppdmgaa
