/-
  Matrices that are built by append: the model's l8New and l15OwnMatrix. Conditions: none but that the slice reads as a matrix whose rows hold something.
  Matrices that are copied by append: the model's l15OwnMatrix. Conditions: none but that the slice reads as a matrix whose rows hold something.
-/
import Derived.Test.YtlcmddghppdmgaaBh9
import Derived.Deep.AppendLies
namespace Go.Proofs.Ytlcmddghppdmgaa
set_option linter.unusedVariables false
open Go.RowKit
/-- a block of integers that may be written -/
structure ArI (w : World) (H : Nat) (b : List Int) : Prop where
  lt : H < w.heap.size
  c : ∀ j, j < b.length → w.cell? ⟨H, j, none⟩ = some (.int .i64 (b.getD j 0))
  f : ∀ j, j < b.length → w.frozen? ⟨H, j, none⟩ = false
theorem ArI.same {w w' : World} {H : Nat} {b : List Int} (h : ArI w H b) (e : w'.heap[H]? = w.heap[H]?) : ArI w' H b :=
  ⟨lt_of_heap h.lt e, fun j hj => by rw [World.cell?_of_block (a := ⟨H, j, none⟩) e]; exact h.c j hj, fun j hj => by rw [World.frozen?_of_block (a := ⟨H, j, none⟩) e]; exact h.f j hj⟩
theorem ArI.below {w w' : World} {H : Nat} {b : List Int} (h : ArI w H b) (hb : Below w.heap.size w w') : ArI w' H b := h.same (hb.block H h.lt)
theorem ArI.made {w : World} {B H n : Nat} (h : w.ownsRow B 3 1 (.slice (some ⟨H, 0, none⟩) n n) n (madeCells #[Value.int .i64 0] n).toList) : ArI w H (List.replicate n 0) := by
  refine ⟨(h.lt _ rfl).2, fun j hj => ?_, fun j _ => h.frozenAt j⟩
  have hj : j < n := by simpa using hj
  rw [h.cellAt j (by omega)]
  simp [madeCells, hj, Nat.mod_one, List.getD_eq_getElem?_getD]
theorem ArI.own {w : World} {B H n cap : Nat} {L : List Int} (h : w.ownsRow B 3 1 (.slice (some ⟨H, 0, none⟩) n cap) n (L.map (Value.int .i64))) (hn : L.length = n) : ArI w H L := by
  refine ⟨(h.lt _ rfl).2, fun j hj => ?_, fun j _ => h.frozenAt j⟩
  rw [h.cellAt j (by omega)]
  simp [hj, List.getD_eq_getElem?_getD]
theorem owns_sameM {w w' : World} {B : Nat} {e : TypeId} {s : Nat} {v : Value} {n : Nat} {xs : List Value} (h : w.ownsRow B e s v n xs) (hh : ∀ b, v.ownBlock = some b → w'.heap[b]? = w.heap[b]?) : w'.ownsRow B e s v n xs := by
  refine ⟨h.1, ?_⟩
  rcases h.2 with ⟨h1, h2⟩ | ⟨g, cap, cur, rfl, hb, hg, hn, hm, hs, ht⟩
  · exact .inl ⟨h1, h2⟩
  · exact .inr ⟨g, cap, cur, rfl, hb, by rw [hh g rfl]; exact hg, hn, hm, hs, ht⟩
theorem owns_cap {w : World} {B : Nat} {e : TypeId} {s n cap : Nat} {a : Option Addr} {xs : List Value} (h : w.ownsRow B e s (.slice a n cap) n xs) : n ≤ cap := by
  rcases h.2 with ⟨h1, h2⟩ | ⟨g, cap', cur, h1, _, _, hn, _⟩
  · omega
  · injection h1 with _ _ e3
    omega
/-- rows, each in a block of its own, behind a slice of their heads that is grown by append -/
structure RowsW (w : World) (B : Nat) (v : Value) (M : List (List Int)) (V : List Value) (H : Nat → Nat) : Prop where
  row : w.ownsRow B 62 1 v V.length V
  len : V.length = M.length
  sm : ∀ i, i < M.length → (rowM M i).length ≤ 1000
  rd : ∀ i, i < M.length → (∃ c, V.getD i .nilIface = .slice (some ⟨H i, 0, none⟩) (rowM M i).length c ∧ (rowM M i).length ≤ c) ∧ B ≤ H i ∧ v.ownBlock ≠ some (H i) ∧ ArI w (H i) (rowM M i)
  ap : ∀ i j, i < M.length → j < M.length → i ≠ j → H i ≠ H j
theorem RowsW.below {w w' : World} {B : Nat} {v : Value} {M : List (List Int)} {V : List Value} {H : Nat → Nat} (h : RowsW w B v M V H) (hb : Below w.heap.size w w') : RowsW w' B v M V H :=
  ⟨owns_sameM h.row (fun b hq => hb.block b (h.row.lt b hq).2), h.len, h.sm, fun i hi => by
    obtain ⟨h1, h2, h3, h4⟩ := h.rd i hi
    exact ⟨h1, h2, h3, h4.below hb⟩, h.ap⟩
theorem RowsW.lit (w : World) (B : Nat) (hB : B ≤ w.heap.size) : RowsW (w.alloc (.cells #[] 62)) B (.slice (some ⟨w.heap.size, 0, none⟩) 0 0) [] [] (fun _ => 0) :=
  ⟨World.ownsRow_lit (size := 1) w #[] 0 hB (by unfold maxLen; omega) rfl, rfl, fun i hi => absurd hi (Nat.not_lt_zero i), fun i hi => absurd hi (Nat.not_lt_zero i), fun i j hi => absurd hi (Nat.not_lt_zero i)⟩
/-- a row is appended: m: its block, new since the rows' world w; wA: the world of the call -/
theorem RowsW.push {w w5 wA w8 : World} {B m g8 c8 c9 Hn : Nat} {v : Value} {M : List (List Int)} {V : List Value} {H : Nat → Nat} {R : List Int} (h : RowsW w B v M V H) (hw5 : Below w.heap.size w w5) (ha : ArI w5 m R) (hR : R.length ≤ 1000) (hR9 : R.length ≤ c9) (hB : B ≤ w.heap.size) (hm : w.heap.size ≤ m) (hA : Below w5.heap.size w5 wA)
    (hown : w8.ownsRow B 62 1 (.slice (some ⟨g8, 0, none⟩) (V.length + 1) c8) (V.length + 1) (V ++ [.slice (some ⟨m, 0, none⟩) R.length c9])) (hg : wA.grownBy w8 v.ownBlock) (hat : v.ownBlock = some g8 ∨ g8 = Hn) (hH : w5.heap.size ≤ Hn) :
    RowsW w8 B (.slice (some ⟨g8, 0, none⟩) (V.length + 1) c8) (M ++ [R]) (V ++ [.slice (some ⟨m, 0, none⟩) R.length c9]) (fun i => if i < M.length then H i else m) ∧ Below B w w8 := by
  have hs0 := hw5.size
  have hs1 := hA.size
  have hs2 := hg.size
  have hml := ha.lt
  have hvm : v.ownBlock ≠ some m := fun e => by have := (h.row.lt m e).2; omega
  have hsm : ∀ b, b < w5.heap.size → v.ownBlock ≠ some b → w8.heap[b]? = w5.heap[b]? := fun b hb hbp => by
    rw [hg.block b (by omega) (fun e => hbp e.symm), hA.block b hb]
  have h8n : ∀ b, b < w5.heap.size → v.ownBlock ≠ some b → (Value.slice (some ⟨g8, 0, none⟩) (V.length + 1) c8).ownBlock ≠ some b := fun b hb hp e => by
    have e : g8 = b := by simpa [Value.ownBlock] using e
    subst e
    rcases hat with e2 | e2
    · exact hp e2
    · omega
  have e : (V ++ [Value.slice (some ⟨m, 0, none⟩) R.length c9]).length = V.length + 1 := by rw [List.length_append]; rfl
  have hHl : ∀ i, i < M.length → H i < w.heap.size := fun i hi => (h.rd i hi).2.2.2.lt
  refine ⟨⟨by rw [e]; exact hown, by rw [e, List.length_append, h.len]; rfl, fun i hi => ?_, fun i hi => ?_, fun i j hi hj hne => ?_⟩, ?_⟩
  · by_cases ei : i < M.length
    · rw [rw_snoc_old ei]; exact h.sm i ei
    · have : i = M.length := by simp at hi; omega
      subst this; rw [rw_snoc_new]; exact hR
  · by_cases ei : i < M.length
    · rw [rw_snoc_old ei, if_pos ei]
      obtain ⟨⟨c, h1, h1c⟩, h2, h3, h4⟩ := h.rd i ei
      have hgw := hHl i ei
      refine ⟨⟨c, ?_, h1c⟩, h2, h8n _ (by omega) h3, (h4.below hw5).same (hsm _ (by omega) h3)⟩
      rw [← h1, List.getD_eq_getElem?_getD, List.getElem?_append_left (by rw [h.len]; exact ei), ← List.getD_eq_getElem?_getD]
    · have : i = M.length := by simp at hi; omega
      subst this
      rw [rw_snoc_new, if_neg ei]
      refine ⟨⟨c9, ?_, hR9⟩, by omega, h8n m hml hvm, ha.same (hsm m hml hvm)⟩
      rw [← h.len]
      simp [List.getD_eq_getElem?_getD]
  · have hi2 : i < M.length + 1 := by simpa using hi
    have hj2 : j < M.length + 1 := by simpa using hj
    by_cases ei : i < M.length
    · simp only [if_pos ei]
      by_cases ej : j < M.length
      · simp only [if_pos ej]; exact h.ap i j ei ej hne
      · simp only [if_neg ej]; have := hHl i ei; omega
    · simp only [if_neg ei]
      have ej : j < M.length := by omega
      simp only [if_pos ej]; have := hHl j ej; omega
  · refine (hw5.mono hB).trans ((hA.mono (by omega)).trans ⟨hg.os, hg.tape, hg.output, hg.size, fun b hb => hg.block b (by omega) (fun e => ?_)⟩)
    have := (World.ownsRow.lt h.row b e.symm).1
    omega
/-- such rows are a matrix of one's own -/
theorem RowsW.omat {w : World} {B g n cap : Nat} {M : List (List Int)} {V : List Value} {H : Nat → Nat} (h : RowsW w B (.slice (some ⟨g, 0, none⟩) n cap) M V H) (hn : V.length = n) : OMat w B g 0 H (fun _ => 0) M := by
  have hl := h.row.lt g rfl
  subst hn
  refine ⟨hl.1, hl.2, fun i hi => ?_, fun i j k l hi hj hne _ _ hH => absurd hH (h.ap i j hi hj hne), fun i hi => h.row.frozenAt _⟩
  obtain ⟨⟨c, h1, h1c⟩, h2, h3, h4⟩ := h.rd i hi
  have hs := h.sm i hi
  refine ⟨_, c, ?_, ⟨by omega, h1c⟩, .inr ⟨rfl, h2, h4.lt, fun e => h3 (by rw [e]; rfl), fun j hj => by rw [Nat.zero_add]; exact h4.c j hj, fun j hj => by rw [Nat.zero_add]; exact h4.f j hj⟩⟩
  have hi2 : i < V.length := by rw [h.len]; exact hi
  rw [Nat.zero_add, World.ownsRow.cellAt h.row i (by omega), ← h1]
  simp [List.getD_eq_getElem?_getD, hi2]
theorem cntT_sm {M : List (List Int)} : ∀ i, (∀ j, j < i → (rowM M j).length ≤ 1000) → cntT M i ≤ 1000 * i
  | 0, _ => by simp [cntT]
  | i + 1, h => by
    have h1 := cntT_sm i (fun j hj => h j (by omega))
    have h2 := h i (by omega)
    show cntT M i + _ ≤ _
    omega
theorem RowsW.own {w : World} {B : Nat} {v : Value} {M : List (List Int)} {V : List Value} {H : Nat → Nat} (h : RowsW w B v M V H) (hM : M.length ≤ 1000) : OwnMat w B v M := by
  have hc : cnt M ≤ 1000 * M.length := cntT_sm _ (fun j hj => h.sm j hj)
  refine ⟨by omega, by omega, ?_⟩
  by_cases h0 : 0 < V.length
  · obtain ⟨g, cap, rfl, _⟩ := h.row.form h0
    exact ⟨_, cap, by rw [h.len], .inr ⟨g, 0, H, _, rfl, h.omat rfl⟩⟩
  · have e : V.length = 0 := by omega
    have hM0 : M = [] := List.eq_nil_of_length_eq_zero (by rw [← h.len]; exact e)
    subst hM0
    rcases h.row.2 with ⟨h1, _⟩ | ⟨g, cap, cur, h1, _⟩
    · exact ⟨none, 0, h1, .inl rfl⟩
    · rw [e] at h1; exact ⟨_, cap, h1, .inl rfl⟩
/-- a matrix of zeros -/
def zeroM (c r : Nat) : List (List Int) := List.replicate r (List.replicate c 0)
theorem zeroM_succ (c r : Nat) : zeroM c (r + 1) = zeroM c r ++ [List.replicate c 0] := by simp [zeroM, List.replicate_succ']
theorem zeroM_len (c r : Nat) : (zeroM c r).length = r := by simp [zeroM]
theorem zeroM_row {c r i : Nat} (h : i < r) : rowM (zeroM c r) i = List.replicate c 0 := by
  simp [zeroM, rowM, List.getD_eq_getElem?_getD, h]
set_option maxRecDepth 100000 in
set_option maxHeartbeats 8000000 in
theorem sNew (r c : Nat) (hr : r ≤ 5) (hc : c ≤ 5) (w : World) :
    Calls Try.prog 184 #[.int .i64 r, .int .i64 c] w fun e w' => ∃ u V H, e = .returned u ∧ RowsW w' w.heap.size u (zeroM c r) V H ∧ Below w.heap.size w w' := by
  obtain ⟨i0, hi, hz0, hz1, hz2⟩ := info_parts infoIn
  obtain ⟨is, his, hs0, hs1, hs2⟩ := info_parts infoIS
  have HS := Lib.hid (show RowsW (w.alloc (.cells #[] 62)) w.heap.size (.slice (some ⟨w.heap.size, 0, none⟩) 0 0) (zeroM c 0) [] (fun _ => 0) ∧ Below w.heap.size w (w.alloc (.cells #[] 62)) from
    ⟨RowsW.lit w _ (Nat.le_refl _), Below.alloc (Below.refl _ _) (Nat.le_refl _) _⟩)
  go_enter Try.func184, Try.ntmps184
  go_wp2_with fail
  go_loopw [5, 8] (fun v i wr => ∃ (n : Nat) (V : List Value) (H : Nat → Nat), n ≤ r ∧ i = .int .i64 n ∧ RowsW wr w.heap.size v (zeroM c n) V H ∧ Below w.heap.size w wr) (fun _ i _ => r - (intOf i).toNat)
  case atStart => exact ⟨0, _, _, by omega, rfl, HS.out⟩
  case round =>
    clear HS
    obtain ⟨n, V, H, hn, rfl, hS, hb⟩ := hrel
    by_cases hlt : n < r
    · have hltp : (n : Int) < (r : Int) := by omega
      have HS := Lib.hid hS
      have HB := Lib.hid hb
      have hVl : V.length ≤ 5 := by rw [hS.len, zeroM_len]; omega
      have hwb : w.heap.size ≤ wr.heap.size := hb.size
      clear hS hb
      go_wp2_with (at_make; refine wpList_make_full _ rfl _ _ 62 rfl wr.heap.size 3 i0 (.int .i64 0) 1 Try.underlying62 hi hz0 hz1 .i64 .i64 (c : Int) (c : Int) c rfl rfl rfl rfl ?c2 ?c3 ?c4 ?_)
      case c2 => rw [hz2]; omega
      case c3 => unfold maxLen; omega
      case c4 => exact Nat.le_refl _
      intro w5 hown hgr
      have hb5 : Below wr.heap.size wr w5 := (Below.refl _ _).grown hgr (Nat.le_refl _) (fun k hk => by cases hk)
      have HA5 := Lib.hid (And.intro (ArI.made hown) hb5)
      have hs5 : wr.heap.size ≤ w5.heap.size := hb5.size
      have HRW := Lib.hid (fun o => ((HS.out.below hb5).below (w' := w5.alloc o) (Below.alloc (Below.refl _ _) (Nat.le_refl _) _)).row)
      obtain ⟨m, hm⟩ : ∃ m, m = wr.heap.size := ⟨_, rfl⟩
      have HM := Lib.hid hm
      rw [← hm] at HA5 hs5 hwb ⊢
      clear hown hgr hb5 hm
      go_wp2_with (at_builtin; refine wpList_append_lies _ rfl _ _ 35 rfl w.heap.size 62 is (.slice none 0 0) 1 24 Try.underlying35 his hs0 hs1 hs2 rfl (by decide) _ _ _ rfl (HRW.out _) ⟨w5.heap.size, 0, none⟩ 1 1 [.slice (some ⟨m, 0, none⟩) c c] rfl rfl (by intro j u hj; match j, hj with | 0, hj => (simp at hj; subst hj; simp [Addr.add, go_sem])) (by intro u hu; simp at hu; subst hu; rfl) (by omega) (by unfold maxLen; omega) (by omega) (by simp; omega) _ rfl ?_)
      intro g8 c8 w8 hown8 hgrow8 hat8 hlt8
      have H8 := Lib.hid (HS.out.push (HM.out ▸ HA5.out.2) HA5.out.1 (by simp; omega) (c9 := c) (by simp) (by rw [← HM.out]; exact hwb) (by rw [HM.out]; exact Nat.le_refl _) (Below.alloc (Below.refl w5.heap.size w5) (Nat.le_refl _) _) (by rw [List.length_replicate]; exact hown8) hgrow8 hat8 (by simp))
      rw [← zeroM_succ] at H8
      have HB8 := Lib.hid (HB.out.trans H8.out.2)
      clear hown8 hgrow8 hat8 hlt8 HRW HA5
      go_wp2_with fail
      go_roundw
      case rel => exact ⟨n + 1, _, _, by omega, by go_num, H8.out.1, HB8.out⟩
      case measure => simp [intOf]; omega
    · have hnr : n = r := by omega
      subst hnr
      have HF := Lib.hid (And.intro hS hb)
      clear hS hb
      go_wp2_with fail
      go_ret
      exact ⟨_, _, _, rfl, HF.out⟩
end Go.Proofs.Ytlcmddghppdmgaa
namespace Go.Proofs.Ytlcmddghppdmgaa
set_option linter.unusedVariables false
open Go.RowKit
set_option maxRecDepth 100000 in
set_option maxHeartbeats 8000000 in
theorem sOwnM (v : Value) (M : List (List Int)) (w : World) (h : Mat w v M) (hM : M.length ≤ 100) (hr : ∀ i, i < M.length → 0 < (rowM M i).length ∧ (rowM M i).length ≤ 1000) :
    Calls Try.prog 85 #[v] w fun e w' => ∃ u V H, e = .returned u ∧ RowsW w' w.heap.size u M V H ∧ Below w.heap.size w w' := by
  obtain ⟨i0, hi, hz0, hz1, hz2⟩ := info_parts infoIn
  obtain ⟨is, his, hs0, hs1, hs2⟩ := info_parts infoIS
  obtain ⟨_, _, a, cap, rfl, h3⟩ := h
  have HD := Lib.hid h3
  have HR := Lib.hid hr
  clear h3 hr
  have HS := Lib.hid (show RowsW (w.alloc (.cells #[] 62)) w.heap.size (.slice (some ⟨w.heap.size, 0, none⟩) 0 0) (M.take 0) [] (fun _ => 0) ∧ Below w.heap.size w (w.alloc (.cells #[] 62)) from
    ⟨RowsW.lit w _ (Nat.le_refl _), Below.alloc (Below.refl _ _) (Nat.le_refl _) _⟩)
  go_enter Try.func85, Try.ntmps85
  go_wp2_with fail
  go_loopw [3, 9] (fun v i wr => ∃ (n : Nat) (V : List Value) (H : Nat → Nat), n ≤ M.length ∧ i = .int .i64 n ∧ RowsW wr w.heap.size v (M.take n) V H ∧ Below w.heap.size w wr) (fun _ i _ => M.length - (intOf i).toNat)
  case atStart => exact ⟨0, _, _, by omega, rfl, HS.out⟩
  case round =>
    clear HS
    obtain ⟨n, V, H, hn, rfl, hS, hb⟩ := hrel
    by_cases hlt : n < M.length
    · have hltp : (n : Int) < (M.length : Int) := by omega
      have hn0 : (0 : Int) ≤ (n : Int) := by omega
      rcases HD.out with h | ⟨g, off, rfl, hg, hc⟩
      · rw [h] at hlt; simp at hlt
      obtain ⟨u, hu, ⟨_, ua, uc, rfl, hd⟩, _⟩ := hc n hlt
      obtain ⟨hr1, hr2⟩ := HR.out n hlt
      rcases hd with hd | ⟨gg, oo, rfl, hgg, hcc⟩
      · rw [hd] at hr1; simp at hr1
      have hx : wr.cell? ⟨g, off + n, none⟩ = some (.slice (some ⟨gg, oo, none⟩) (rowM M n).length uc) := by rw [hb.cell (p := ⟨g, off + n, none⟩) hg]; exact hu
      have hVl : V.length ≤ 100 := by rw [hS.len, List.length_take]; omega
      have hwb : w.heap.size ≤ wr.heap.size := hb.size
      have HN := Lib.hid (show ∀ j u, ((rowM M n).map (Value.int .i64))[j]? = some u → (wr.alloc (Obj.cells #[] 3)).cell? ((⟨gg, oo, none⟩ : Addr).add j) = some u from by
        intro j u hj
        rw [List.getElem?_map] at hj
        cases hq : (rowM M n)[j]? with
        | none => rw [hq] at hj; cases hj
        | some q =>
          rw [hq] at hj
          have hjl : j < (rowM M n).length := by
            rcases Nat.lt_or_ge j (rowM M n).length with h | h
            · exact h
            · rw [List.getElem?_eq_none h] at hq; cases hq
          have hadd : (⟨gg, oo, none⟩ : Addr).add j = ⟨gg, oo + j, none⟩ := by unfold Addr.add; split <;> simp_all
          have hbb : Below w.heap.size w (wr.alloc (Obj.cells #[] 3)) := hb.alloc hwb _
          rw [hadd, hbb.cell (p := ⟨gg, oo + j, none⟩) hgg, hcc j hjl, List.getD_eq_getElem?_getD, hq]
          simpa using hj)
      have HO := Lib.hid (show ∀ u ∈ (rowM M n).map (Value.int .i64), u.oneCell' = true from by
        intro u hu
        obtain ⟨q, _, rfl⟩ := List.mem_map.1 hu
        rfl)
      have HE := Lib.hid (show (wr.alloc (Obj.cells #[] 3)).ownsRow wr.heap.size 3 1 (.slice (some ⟨wr.heap.size, 0, none⟩) 0 0) 0 [] from World.ownsRow_lit (size := 1) wr #[] 0 (Nat.le_refl _) (by unfold maxLen; omega) rfl)
      have HT := Lib.hid (take_snoc hlt)
      obtain ⟨R, hR⟩ : ∃ R, R = rowM M n := ⟨_, rfl⟩
      rw [← hR] at HN HO HT hr1 hr2 hx
      obtain ⟨m, hm⟩ : ∃ m, m = R.length := ⟨_, rfl⟩
      have HM := Lib.hid hm
      rw [← hm] at hr1 hr2 hx
      have HS := Lib.hid hS
      have HB := Lib.hid hb
      clear hu hc hcc hS hb hR hm hn
      go_wp2_with (at_builtin; refine wpList_append_lies _ rfl _ _ 62 rfl wr.heap.size 3 i0 (.int .i64 0) 1 8 Try.underlying62 hi hz0 hz1 hz2 rfl (by decide) _ _ _ rfl HE.out ⟨gg, oo, none⟩ m uc (R.map (Value.int .i64)) rfl (by rw [HM.out]; simp) HN.out HO.out (by omega) (by unfold maxLen; omega) (by omega) (by simp) _ rfl ?_)
      intro g5 c5 w5 hown5 hgrow5 hat5 hlt5
      have hb5 : Below wr.heap.size wr w5 := (Below.alloc (Below.refl wr.heap.size wr) (Nat.le_refl _) _).grown hgrow5 (by simp) (fun k hk => by
        have hk : wr.heap.size = k := by simpa [Value.ownBlock] using hk
        omega)
      have hg5 : wr.heap.size ≤ g5 := (hown5.lt g5 rfl).1
      have hc5 : m ≤ c5 := owns_cap hown5
      have HA5 := Lib.hid (show ArI w5 g5 R ∧ Below wr.heap.size wr w5 ∧ wr.heap.size ≤ g5 from ⟨ArI.own hown5 HM.out.symm, hb5, hg5⟩)
      have hs5 : wr.heap.size ≤ w5.heap.size := hb5.size
      have HRW := Lib.hid (fun o => ((HS.out.below hb5).below (w' := w5.alloc o) (Below.alloc (Below.refl _ _) (Nat.le_refl _) _)).row)
      clear hown5 hgrow5 hat5 hlt5 hb5 hg5 HE HN HO
      go_wp2_with (at_builtin; refine wpList_append_lies _ rfl _ _ 35 rfl w.heap.size 62 is (.slice none 0 0) 1 24 Try.underlying35 his hs0 hs1 hs2 rfl (by decide) _ _ _ rfl (HRW.out _) ⟨w5.heap.size, 0, none⟩ 1 1 [.slice (some ⟨g5, 0, none⟩) m c5] rfl rfl (by intro j u hj; match j, hj with | 0, hj => (simp at hj; subst hj; simp [Addr.add, go_sem])) (by intro u hu; simp at hu; subst hu; rfl) (by omega) (by unfold maxLen; omega) (by omega) (by simp; omega) _ rfl ?_)
      intro g8 c8 w8 hown8 hgrow8 hat8 hlt8
      have H8 := Lib.hid (HS.out.push HA5.out.2.1 HA5.out.1 (by rw [← HM.out]; exact hr2) (c9 := c5) (by rw [← HM.out]; exact hc5) hwb HA5.out.2.2 (Below.alloc (Below.refl w5.heap.size w5) (Nat.le_refl _) _) (by rw [← HM.out]; exact hown8) hgrow8 hat8 (by simp))
      rw [← HT.out, ← HM.out] at H8
      have HB8 := Lib.hid (HB.out.trans H8.out.2)
      clear hown8 hgrow8 hat8 hlt8 HRW HA5
      go_wp2_with fail
      go_roundw
      case rel => exact ⟨n + 1, _, _, by omega, by go_num, H8.out.1, HB8.out⟩
      case measure => simp [intOf]; omega
    · have hnr : n = M.length := by omega
      subst hnr
      rw [List.take_length] at hS
      have HF := Lib.hid (And.intro hS hb)
      clear hS hb
      go_wp2_with fail
      go_ret
      exact ⟨_, _, _, rfl, HF.out⟩
theorem sOwnMo (v : Value) (M : List (List Int)) (w : World) (h : Mat w v M) (hM : M.length ≤ 100) (hr : ∀ i, i < M.length → 0 < (rowM M i).length ∧ (rowM M i).length ≤ 1000) :
    Calls Try.prog 85 #[v] w fun e w' => ∃ u, e = .returned u ∧ OwnMat w' w.heap.size u M ∧ Below w.heap.size w w' :=
  (sOwnM v M w h hM hr).mono fun _ _ ⟨u, _, _, he, h1, h2⟩ => ⟨u, he, h1.own (by omega), h2⟩
end Go.Proofs.Ytlcmddghppdmgaa
