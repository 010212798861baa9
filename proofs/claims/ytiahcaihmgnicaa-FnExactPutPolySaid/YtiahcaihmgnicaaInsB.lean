/-
  slices.Insert at terms, on: in the middle, where there is room. Conditions: the row is the call's own.
-/
import Derived.Test.YtiahcaihmgnicaaInsA
namespace Go.Proofs.Ytiahcaihmgnicaa
open Go.RowKit
theorem some_setCells (b : Nat) (vs : List Value) (o : Nat) (w : World) (h : ∀ j, j < vs.length → (w.cell? ⟨b, o + j, none⟩).isSome = true) (k : Nat) (hk : (w.cell? ⟨b, k, none⟩).isSome = true) : ((w.setCells b o vs).cell? ⟨b, k, none⟩).isSome = true := by
  by_cases hin : o ≤ k ∧ k < o + vs.length
  · have := World.cell?_setCells_in b vs o w h (k - o) (by omega)
    rw [show o + (k - o) = k by omega] at this
    rw [this]; rfl
  · rw [World.cell?_setCells_out b vs o w ⟨b, k, none⟩ (fun _ _ => by show k < o ∨ o + vs.length ≤ k; omega)]
    exact hk
set_option maxRecDepth 100000 in
set_option maxHeartbeats 8000000 in
theorem insShift (B b cap i : Nat) (L : List Trm) (x : Trm) (vb : Nat) (w : World) (_ : B ≤ w.heap.size) (hl : L.length ≤ 4000) (hi : i < L.length) (hr : L.length + 1 ≤ cap) (h : Row w B (.slice (some ⟨b, 0, none⟩) L.length cap) L) (hx : OneAt w vb x) (hvb : vb ≠ b) :
    Calls Try.prog 121 #[.slice (some ⟨b, 0, none⟩) L.length cap, .int .i64 i, .slice (some ⟨vb, 0, none⟩) 1 1] w (GrowsTo B (.slice (some ⟨b, 0, none⟩) L.length cap) (L.take i ++ x :: L.drop i) w) := by
  obtain ⟨i0, hi0, hz0, hz1, hz2⟩ := info_parts infoT
  have HO := Lib.hid hx
  obtain ⟨g', cap', cur, he, hBb, hg, hn, hm, hs, ht⟩ : ∃ g' cap' cur, (Value.slice (some ⟨b, 0, none⟩) L.length cap) = .slice (some ⟨g', 0, none⟩) L.length cap' ∧ B ≤ g' ∧ w.heap[g']? = some (.cells cur 68 (0, 0)) ∧ L.length ≤ cap' ∧ cap' ≤ maxLen ∧ cur.size = cap' * 4 ∧ cur.toList.take (L.length * 4) = flat L := by
    rcases h.2 with ⟨h1, _⟩ | h1
    · cases h1
    · exact h1
  cases he
  have hfl := flat_len L
  have hcs : ∀ j u, (flat L)[j]? = some u → w.cell? ⟨b, j, none⟩ = some u := fun j u hu => by
    rw [World.ownsRow.cellAt h j (by have := (List.getElem?_eq_some_iff.1 hu).1; omega)]; exact hu
  have hsp : ∀ j, j < cap * 4 → (w.cell? ⟨b, j, none⟩).isSome = true := fun j hj => by
    rw [cell_of_row w b _ _ _ _ hg, Array.getElem?_eq_getElem (by omega)]; rfl
  have hfz : ∀ j, w.frozen? ⟨b, j, none⟩ = false := fun j => World.ownsRow.frozenAt h j
  have hcap : (cap : Int) ≤ 9223372036854775807 := by unfold maxLen at hm; omega
  have hov : ∀ o lb cb, (callFunc 142 #[.slice (some ⟨vb, 0, none⟩) 1 1, .slice (some ⟨b, o, none⟩) lb cb]).run Try.prog w = .ok (.value (.bool false)) w := fun o lb cb => by
    rw [run_callFunc_extern Try.func142 (by kernel_rfl) (by kernel_rfl) (by kernel_rfl) (e := Extern.SlicesOverlaps.overlaps #[24, 24] #[4]) (by kernel_rfl),
      Lib.run_overlaps_apart w 24 4 68 Try.underlying24 4 Try.sizeOf68 ⟨vb, 0, none⟩ ⟨b, o, none⟩ 1 1 lb cb hvb 68 68 4 (cap * 4) (by unfold World.shape?; rw [HO.out]; rfl) (by unfold World.shape?; rw [hg]; simp [hs]) (by omega) (by unfold World.frozen?; rw [HO.out]; simp) (by unfold World.frozen?; rw [HO.out]; simp)]
    rfl
  obtain ⟨W1, hW1⟩ : ∃ W1, W1 = w.drew.setCells b ((i + 1) * 4) ((flat L).drop (i * 4)) := ⟨_, rfl⟩
  have hdl : ((flat L).drop (i * 4)).length = (L.length - i) * 4 := by rw [List.length_drop, hfl]; omega
  have hcp1 : ∀ ty dc sc, (Builtin.copy_ #[24, 24] ty #[.slice (some ⟨b, (i + 1) * 4, none⟩) (L.length - i) dc, .slice (some ⟨b, i * 4, none⟩) (L.length + 1 - i) sc]).run Try.prog w.drew = .ok (goInt (L.length - i : Nat)) W1 := fun ty dc sc => by
    rw [hW1]
    exact run_copy4 w.drew ty b ((i + 1) * 4) (L.length - i) dc ⟨b, i * 4, none⟩ (L.length + 1 - i) sc (L.length - i) ((flat L).drop (i * 4)) (by simp only [Nat.min_def]; split <;> omega) hdl
      (fun j v hj => by rw [Addr.add_lit]; exact hcs (i * 4 + j) v (by rwa [List.getElem?_drop] at hj))
      (fun j hj => hsp _ (by omega)) (fun j hj => hfz _) (fun v hv => flat_cell L v (List.mem_of_mem_drop hv))
  have hsp1 : ∀ k, k < cap * 4 → (W1.cell? ⟨b, k, none⟩).isSome = true := fun k hk => by
    rw [hW1]
    exact some_setCells b ((flat L).drop (i * 4)) ((i + 1) * 4) w.drew (fun j hj => hsp _ (by omega)) k (hsp k hk)
  have hcp2 : ∀ ty dc, (Builtin.copy_ #[24, 24] ty #[.slice (some ⟨b, i * 4, none⟩) (L.length + 1 - i) dc, .slice (some ⟨vb, 0, none⟩) 1 1]).run Try.prog W1 = .ok (goInt 1) (W1.setCells b (i * 4) x.cs) := fun ty dc =>
    run_copy4 W1 ty b (i * 4) (L.length + 1 - i) dc ⟨vb, 0, none⟩ 1 1 1 x.cs (by simp only [Nat.min_def]; split <;> omega) rfl
      (fun j v hj => by rw [Addr.add_lit, hW1, World.cell?_setCells_out b _ _ _ _ (fun h _ => absurd h hvb), Nat.zero_add]; exact HO.out.cell j v hj)
      (fun j hj => hsp1 _ (by simp [Trm.cs] at hj; omega)) (fun j hj => by rw [hW1, World.frozen?_setCells]; exact hfz _) (fun v hv => flat_cell [x] v (by simpa [flat] using hv))
  have HREC := Lib.hid (show GrowsTo B (.slice (some ⟨b, 0, none⟩) L.length cap) (L.take i ++ x :: L.drop i) w (.returned (.slice (some ⟨b, 0, none⟩) (L.length + 1) cap)) (W1.setCells b (i * 4) x.cs) from by
    refine ⟨_, rfl, ?_, ?_, .inl rfl⟩
    · obtain ⟨cur1, q1, q2⟩ := setCells_row b 68 (0, 0) ((flat L).drop (i * 4)) ((i + 1) * 4) w.drew cur hg
      rw [← hW1] at q1
      obtain ⟨cur2, q3, q4⟩ := setCells_row b 68 (0, 0) x.cs (i * 4) W1 cur1 q1
      have := row_of_cells (L := L.take i ++ x :: L.drop i) hBb q3 (by rw [q4, q2, hs]) (by simp; omega) hm (fun j u hu => by
        have e1 : flat (L.take i ++ x :: L.drop i) = (flat L).take (i * 4) ++ (x.cs ++ (flat L).drop (i * 4)) := by rw [flat_app, ← flat_take, show flat (x :: L.drop i) = x.cs ++ flat (L.drop i) from rfl, flat_drop]
        rw [e1] at hu
        have ltk : ((flat L).take (i * 4)).length = i * 4 := by rw [List.length_take]; omega
        have lx : x.cs.length = 4 := rfl
        by_cases h1 : j < i * 4
        · rw [World.cell?_setCells_out b _ _ _ _ (fun _ _ => .inl h1), hW1, World.cell?_setCells_out b _ _ _ _ (fun _ _ => .inl (by show j < (i + 1) * 4; omega))]
          rw [List.getElem?_append_left (by omega), List.getElem?_take, if_pos h1] at hu
          exact hcs j u hu
        · rw [List.getElem?_append_right (by omega), ltk] at hu
          by_cases h2 : j < i * 4 + 4
          · rw [List.getElem?_append_left (by omega)] at hu
            have hjl := (List.getElem?_eq_some_iff.1 hu).1
            have := World.cell?_setCells_in b x.cs (i * 4) W1 (fun k hk => hsp1 _ (by omega)) (j - i * 4) hjl
            rw [show i * 4 + (j - i * 4) = j by omega] at this
            rw [this, ← (List.getElem?_eq_some_iff.1 hu).2]
          · rw [List.getElem?_append_right (by omega), lx] at hu
            have hjl := (List.getElem?_eq_some_iff.1 hu).1
            rw [World.cell?_setCells_out b _ _ _ _ (fun _ _ => .inr (by show i * 4 + x.cs.length ≤ j; omega)), hW1]
            have := World.cell?_setCells_in b ((flat L).drop (i * 4)) ((i + 1) * 4) w.drew (fun k hk => hsp _ (by omega)) (j - i * 4 - 4) hjl
            rw [show (i + 1) * 4 + (j - i * 4 - 4) = j by omega] at this
            rw [this, ← (List.getElem?_eq_some_iff.1 hu).2])
      have e2 : (L.take i ++ x :: L.drop i).length = L.length + 1 := by simp; omega
      rw [e2] at this
      exact this
    · rw [hW1]
      exact grown_trans (grown_trans (grown_drew (grown_refl w _) 1) (setCells_grown b _ _ _)) (setCells_grown b _ _ _))
  have hz1' : ¬ ((i : Int) = (L.length : Int)) := by omega
  have hz3 : ¬ ((cap : Int) < (L.length : Int) + 1) := by omega
  have hin : (i : Int) ≤ (L.length : Int) := by omega
  have hb2 : ¬ (cap = i + 1) := by omega
  have hb4 : ¬ (cap = i) := by omega
  have hci : (i : Int) + 1 ≤ (L.length : Int) + 1 := by omega
  have htn : ((i : Int) + 1).toNat = i + 1 := by omega
  have hw1 : IntKind.i64.wrap ((i : Int) + 1) = (i : Int) + 1 := by rw [IntKind.wrap_i64]; omega
  have hb1 : (0 : Int) ≤ (i : Int) + 1 := by omega
  have hin2 : i ≤ L.length := by omega
  have hin3 : (i : Int) ≤ (L.length : Int) + 1 := by omega
  have htl : ((L.length : Int) + 1).toNat = L.length + 1 := by omega
  have hlc : (L.length : Int) + 1 ≤ (cap : Int) := by omega
  clear hW1 hsp1 hcs hsp hfz h hx hg ht
  go_enter Try.func121, Try.ntmps121
  go_wp2_with (simp only [hov])
  go_region_law (refine step_copy_run4 rfl _ _ 24 24 rfl _ _ (by simp [Act.eval, Act.put]) (by simp [Act.eval, Act.put]) (hcp1 _ _ _) ?_)
  go_wp2_with (at_builtin; refine wpList_copy_run4 _ rfl _ _ 24 24 rfl _ _ rfl rfl (hcp2 _ _) ?_)
  go_ret
  exact HREC.out
end Go.Proofs.Ytiahcaihmgnicaa
