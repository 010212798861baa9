/-
  slices.Delete at terms: one term taken out of its place. Conditions: the row is the call's own.
-/
import Derived.Test.YtiahcaihmgnicaaInsB
namespace Go.Proofs.Ytiahcaihmgnicaa
open Go.RowKit
theorem wpList_clear_run (w : World) {ops : Array Oper} {rest : List Oper} {o : Oper} {a : Act} {Q : Exit → Act → World → Prop} (hgd : o.guard = none) (s : Operand) (t : TypeId)
    (ho : o.op = .call { callee := .builtin .clear, args := #[s], argTypes := #[t] }) (v : Value) (hs : a.eval s = v) {v' : Value} {w' : World}
    (hr : (Builtin.clear_ #[t] o.type #[v]).run Try.prog w = .ok v' w') (h : wpList Try.prog ops Q rest (a.put o.dst v') w') : wpList Try.prog ops Q (o :: rest) a w :=
  wpList_plain hgd fun _ hK => by
    unfold Oper.wp execOp
    simp only [ho, resolve, invoke, builtin, Sem.run_bind, Sem.run_pure, Result.andThen_ok, List.map_toArray, List.map_cons, List.map_nil, hs, hr]
    exact hK _ _ h
set_option maxRecDepth 100000 in
set_option maxHeartbeats 8000000 in
theorem iDelete (B b cap i : Nat) (L : List Trm) (w : World) (hl : L.length ≤ 4000) (hi : i < L.length) (h : Row w B (.slice (some ⟨b, 0, none⟩) L.length cap) L) :
    Calls Try.prog 123 #[.slice (some ⟨b, 0, none⟩) L.length cap, .int .i64 i, .int .i64 ((i : Int) + 1)] w fun e w' =>
      e = .returned (.slice (some ⟨b, 0, none⟩) (L.length - 1) cap) ∧ Row w' B (.slice (some ⟨b, 0, none⟩) (L.length - 1) cap) (L.take i ++ L.drop (i + 1)) ∧ w.grownBy w' (some b) := by
  obtain ⟨i0, hi0, hz0, hz1, hz2⟩ := info_parts infoT
  obtain ⟨g', cap', cur, he, hBb, hg, hn, hm, hs, ht⟩ : ∃ g' cap' cur, (Value.slice (some ⟨b, 0, none⟩) L.length cap) = .slice (some ⟨g', 0, none⟩) L.length cap' ∧ B ≤ g' ∧ w.heap[g']? = some (.cells cur 68 (0, 0)) ∧ L.length ≤ cap' ∧ cap' ≤ maxLen ∧ cur.size = cap' * 4 ∧ cur.toList.take (L.length * 4) = flat L := by
    rcases h.2 with ⟨h1, _⟩ | h1
    · cases h1
    · exact h1
  cases he
  have hfl := flat_len L
  have hcs : ∀ j u, (flat L)[j]? = some u → w.cell? ⟨b, j, none⟩ = some u := fun j u hu => by
    rw [World.ownsRow.cellAt h j (by have := (List.getElem?_eq_some_iff.1 hu).1; omega)]; exact hu
  have hsp : ∀ j, j < cap * 4 → (w.cell? ⟨b, j, none⟩).isSome = true := fun j hj => by
    rw [cell_of_row w b _ _ _ _ hg, Array.getElem?_eq_getElem (by omega)]; rfl
  have hfz : ∀ j, w.frozen? ⟨b, j, none⟩ = false := fun j => World.ownsRow.frozenAt h j
  have hcap : (cap : Int) ≤ 9223372036854775807 := by unfold maxLen at hm; omega
  have hdl : ((flat L).drop ((i + 1) * 4)).length = (L.length - (i + 1)) * 4 := by rw [List.length_drop, hfl]; omega
  obtain ⟨W1, hW1⟩ : ∃ W1, W1 = w.drew.setCells b (i * 4) ((flat L).drop ((i + 1) * 4)) := ⟨_, rfl⟩
  have hsp1 : ∀ k, k < cap * 4 → (W1.cell? ⟨b, k, none⟩).isSome = true := fun k hk => by
    rw [hW1]
    exact some_setCells b ((flat L).drop ((i + 1) * 4)) (i * 4) w.drew (fun j hj => hsp _ (by omega)) k (hsp k hk)
  have hcl : ∀ ty c, (Builtin.clear_ #[24] ty #[.slice (some ⟨b, (L.length - 1) * 4, none⟩) 1 c]).run Try.prog W1 = .ok (.tuple #[]) (W1.setCells b ((L.length - 1) * 4) zero4) := fun ty c =>
    run_clear4 W1 ty b ((L.length - 1) * 4) c (fun j hj => hsp1 _ (by omega)) (fun j hj => by rw [hW1, World.frozen?_setCells]; exact hfz _)
  have HREC := Lib.hid (show Row (W1.setCells b ((L.length - 1) * 4) zero4) B (.slice (some ⟨b, 0, none⟩) (L.length - 1) cap) (L.take i ++ L.drop (i + 1)) ∧ w.grownBy (W1.setCells b ((L.length - 1) * 4) zero4) (some b) from by
    refine ⟨?_, ?_⟩
    · obtain ⟨cur1, q1, q2⟩ := setCells_row b 68 (0, 0) ((flat L).drop ((i + 1) * 4)) (i * 4) w.drew cur hg
      rw [← hW1] at q1
      obtain ⟨cur2, q3, q4⟩ := setCells_row b 68 (0, 0) zero4 ((L.length - 1) * 4) W1 cur1 q1
      have := row_of_cells (L := L.take i ++ L.drop (i + 1)) hBb q3 (by rw [q4, q2, hs]) (by simp; omega) hm (fun j u hu => by
        rw [flat_app, ← flat_take, ← flat_drop] at hu
        have ltk : ((flat L).take (i * 4)).length = i * 4 := by rw [List.length_take]; omega
        have hju := (List.getElem?_eq_some_iff.1 hu).1
        rw [List.length_append, ltk, hdl] at hju
        rw [World.cell?_setCells_out b _ _ _ _ (fun _ _ => .inl (by show j < (L.length - 1) * 4; omega)), hW1]
        by_cases h1 : j < i * 4
        · rw [World.cell?_setCells_out b _ _ _ _ (fun _ _ => .inl h1)]
          rw [List.getElem?_append_left (by omega), List.getElem?_take, if_pos h1] at hu
          exact hcs j u hu
        · rw [List.getElem?_append_right (by omega), ltk] at hu
          have hjl := (List.getElem?_eq_some_iff.1 hu).1
          have := World.cell?_setCells_in b ((flat L).drop ((i + 1) * 4)) (i * 4) w.drew (fun k hk => hsp _ (by omega)) (j - i * 4) hjl
          rw [show i * 4 + (j - i * 4) = j by omega] at this
          rw [this, ← (List.getElem?_eq_some_iff.1 hu).2])
      have e2 : (L.take i ++ L.drop (i + 1)).length = L.length - 1 := by simp; omega
      rw [e2] at this
      exact this
    · rw [hW1]
      exact grown_trans (grown_trans (grown_drew (grown_refl w _) 1) (setCells_grown b _ _ _)) (setCells_grown b _ _ _))
  have hroom : i + (L.length - (i + 1)) ≤ cap := by omega
  have hsrc : ∀ j u, ((flat L).drop ((i + 1) * 4))[j]? = some u → w.drew.cell? ((⟨b, (i + 1) * 4, none⟩ : Addr).add j) = some u := fun j u hj => by
    rw [Addr.add_lit]; exact hcs ((i + 1) * 4 + j) u (by rwa [List.getElem?_drop] at hj)
  have hspare : ∀ j, j < ((flat L).drop ((i + 1) * 4)).length → (w.drew.cell? ⟨b, 0 + i * 4 + j, none⟩).isSome = true ∧ w.drew.frozen? ⟨b, 0 + i * 4 + j, none⟩ = false := fun j hj => ⟨hsp _ (by omega), hfz _⟩
  have hone : ∀ u ∈ (flat L).drop ((i + 1) * 4), u.oneCell' = true := fun u hu => flat_cell L u (List.mem_of_mem_drop hu)
  have hsum : i + (L.length - (i + 1)) = L.length - 1 := by omega
  have hin : (i : Int) + 1 ≤ (L.length : Int) := by omega
  have hin2 : i + 1 ≤ L.length := by omega
  have hlc : (L.length : Int) ≤ (cap : Int) := by omega
  have hb0 : (0 : Int) ≤ (i : Int) + 1 := by omega
  have htn : ((i : Int) + 1).toNat = i + 1 := by omega
  have htl : ((L.length : Int)).toNat = L.length := by omega
  have hic : (i : Int) ≤ (cap : Int) := by omega
  have hic2 : i ≤ cap := by omega
  have hne1 : ¬ ((i : Int) = (i : Int) + 1) := by omega
  have hci : ¬ (cap = i) := by omega
  have HS := Lib.hid hsrc
  have HP := Lib.hid hspare
  have HW := Lib.hid hW1
  clear hsrc hspare hsp1 hcs hsp hfz h hg ht hW1
  have hl1 : (L.length : Int) - 1 = ((L.length - 1 : Nat) : Int) := by omega
  have hsub : L.length - (L.length - 1) = 1 := by omega
  have hci2 : ¬ (cap = L.length - 1) := by omega
  have hle1 : ((L.length - 1 : Nat) : Int) ≤ (L.length : Int) := by omega
  have hle2 : L.length - 1 ≤ L.length := by omega
  by_cases hcc : cap = i + 1
  · have HCC := Lib.hid hcc
    have HS0 := Lib.hid (show ∀ j u, ((flat L).drop ((i + 1) * 4))[j]? = some u → w.drew.cell? ((⟨b, 0, none⟩ : Addr).add j) = some u from fun j u hj => by
      have := (List.getElem?_eq_some_iff.1 hj).1
      rw [hdl] at this
      omega)
    clear hcc
    go_enter Try.func123, Try.ntmps123
    go_wp2_with fail
    go_region_law (refine step_append_room rfl _ _ 24 rfl 68 i0 4 Try.underlying24 hi0 hz1 b 0 i cap (by simp [Act.eval, Act.put]) ⟨b, 0, none⟩ (L.length - (i + 1)) (cap - (i + 1)) ((flat L).drop ((i + 1) * 4)) (by simp [Act.eval, Act.put, HCC.out]) hdl HS0.out hone hroom HP.out ?_)
    rw [← HW.out]
    go_wp2_with (at_builtin; refine wpList_clear_run _ rfl _ 24 rfl (.slice (some ⟨b, (L.length - 1) * 4, none⟩) 1 (cap - (L.length - 1))) (by simp [Act.eval, Act.put, hsub]) (hcl _ _) ?_)
    go_ret
    have q := HREC.out
    first | exact ⟨rfl, q⟩ | (rw [HCC.out] at q; exact ⟨rfl, q⟩) | (rw [HCC.out] at q ⊢; exact ⟨rfl, q⟩)
  · have HCC := Lib.hid hcc
    go_enter Try.func123, Try.ntmps123
    go_wp2_with fail
    go_region_law (refine step_append_room rfl _ _ 24 rfl 68 i0 4 Try.underlying24 hi0 hz1 b 0 i cap (by simp [Act.eval, Act.put]) ⟨b, (i + 1) * 4, none⟩ (L.length - (i + 1)) (cap - (i + 1)) ((flat L).drop ((i + 1) * 4)) (by simp [Act.eval, Act.put]) hdl HS.out hone hroom HP.out ?_)
    rw [← HW.out]
    go_wp2_with (at_builtin; refine wpList_clear_run _ rfl _ 24 rfl (.slice (some ⟨b, (L.length - 1) * 4, none⟩) 1 (cap - (L.length - 1))) (by simp [Act.eval, Act.put, hsub]) (hcl _ _) ?_)
    go_ret
    exact ⟨rfl, HREC.out⟩
end Go.Proofs.Ytiahcaihmgnicaa
