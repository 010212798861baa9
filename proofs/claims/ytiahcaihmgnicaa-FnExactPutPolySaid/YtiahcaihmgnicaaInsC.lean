/-
  slices.Insert at terms, on: in the middle, where there is no room. Conditions: the row is the call's own.
-/
import Derived.Test.YtiahcaihmgnicaaInsB
namespace Go.Proofs.Ytiahcaihmgnicaa
open Go.RowKit
set_option maxRecDepth 100000 in
set_option maxHeartbeats 8000000 in
theorem insGrow (B b i : Nat) (L : List Trm) (x : Trm) (vb : Nat) (w : World) (hB : B ≤ w.heap.size) (hl : L.length ≤ 4000) (hi : i < L.length) (h : Row w B (.slice (some ⟨b, 0, none⟩) L.length L.length) L) (hx : OneAt w vb x) :
    Calls Try.prog 121 #[.slice (some ⟨b, 0, none⟩) L.length L.length, .int .i64 i, .slice (some ⟨vb, 0, none⟩) 1 1] w (GrowsTo B (.slice (some ⟨b, 0, none⟩) L.length L.length) (L.take i ++ x :: L.drop i) w) := by
  obtain ⟨i0, hi0, hz0, hzs, hzb⟩ := info_parts infoT
  have HO := Lib.hid hx
  have hfl := flat_len L
  have hcs : ∀ j u, (flat L)[j]? = some u → w.cell? ⟨b, j, none⟩ = some u := fun j u hu => by
    rw [World.ownsRow.cellAt h j (by have := (List.getElem?_eq_some_iff.1 hu).1; omega)]; exact hu
  have hbw : b < w.heap.size := (World.ownsRow.lt h b rfl).2
  have hvw : vb < w.heap.size := (Array.getElem?_eq_some_iff.1 hx).1
  have hkk : (L.length : Int) + 1 - (i : Int) = ((L.length + 1 - i : Nat) : Int) := by omega
  have hik : i + (L.length + 1 - i) = L.length + 1 := by omega
  have hold : (Builtin.firstCells i0.size i (.slice (some ⟨b, 0, none⟩) i L.length)).run Try.prog w.drew = .ok ((flat L).take (i * 4)).toArray w.drew := by
    rw [hzs]
    exact run_firstCells_some w.drew 4 i ⟨b, 0, none⟩ i L.length ((flat L).take (i * 4)) (by rw [List.length_take]; omega) (fun j v hj => by
      rw [Addr.add_lit, Nat.zero_add]
      rw [List.getElem?_take] at hj
      split at hj
      · exact hcs j v hj
      · cases hj)
  obtain ⟨G, hG⟩ : ∃ G, G = grownCap w (L.length + 1) L.length 68 := ⟨_, rfl⟩
  obtain ⟨ROW, hROW⟩ : ∃ ROW : Array Value, ROW = ((flat L).take (i * 4)).toArray ++ Builtin.zeroCells (Value.agg #[.int .i64 0, .int .i64 0, .int .i64 0, .int .i64 0]).cells (L.length + 1 - i) ++ Builtin.zeroCells (Value.agg #[.int .i64 0, .int .i64 0, .int .i64 0, .int .i64 0]).cells (G - (L.length + 1)) := ⟨_, rfl⟩
  have hrz : ∀ ty, (Builtin.append_ #[24, 3] ty #[.slice (some ⟨b, 0, none⟩) i L.length, .int .i64 ((L.length : Int) + 1 - (i : Int))]).run Try.prog w =
      .ok (.slice (some ⟨w.heap.size, 0, none⟩) (L.length + 1) G) (w.drew.alloc (.cells ROW 68)) := fun ty => by
    have h := Lib.run_append_grow_zeros w 24 3 ty 68 i0 _ .i64 .i64 Try.underlying24 Try.underlying3 hi0 hz0 (some ⟨b, 0, none⟩) i L.length ((flat L).take (i * 4)) hold (L.length + 1 - i) (by omega) (by omega) (by omega) (by omega) (by rw [hzb]; omega) (by rw [hzb, hik]; exact growslice_fits (by omega) (by omega))
    rw [hik] at h
    rw [hkk, hROW, hG]
    exact h
  have hGn : L.length + 1 ≤ G := by rw [hG]; exact grownCap_ge w _ _ _
  have hGm : G ≤ maxLen := by rw [hG]; exact grownCap_le_maxLen w _ _ _ (by unfold maxLen; omega)
  have hG63 : (G : Int) ≤ 9223372036854775807 := by unfold maxLen at hGm; omega
  have hRs : ROW.size = G * 4 := by
    have hz4 : (Value.agg #[.int .i64 0, .int .i64 0, .int .i64 0, .int .i64 0]).cells.size = 4 := rfl
    rw [hROW]
    simp only [Array.size_append, List.size_toArray, size_zeroCells, hz4, List.length_take, hfl]
    omega
  have hRt : ∀ j u, j < i * 4 → (flat L)[j]? = some u → ROW[j]? = some u := fun j u hj hu => by
    have lt : j < ((flat L).take (i * 4)).toArray.size := by simp [hfl]; omega
    rw [hROW, Array.append_assoc, Array.getElem?_append_left lt]
    simp only [List.getElem?_toArray, List.getElem?_take, if_pos hj]
    exact hu
  obtain ⟨W1, hW1⟩ : ∃ W1, W1 = w.drew.alloc (.cells ROW 68) := ⟨_, rfl⟩
  rw [← hW1] at hrz
  have hN : ∀ j, j < G * 4 → (W1.cell? ⟨w.heap.size, j, none⟩).isSome = true := fun j hj => by
    rw [hW1, World.cell?_alloc_at (w := w.drew) ROW _ w.heap.size j rfl, Array.getElem?_eq_getElem (by omega)]; rfl
  have hNt : ∀ j u, j < i * 4 → (flat L)[j]? = some u → W1.cell? ⟨w.heap.size, j, none⟩ = some u := fun j u hj hu => by
    rw [hW1, World.cell?_alloc_at (w := w.drew) ROW _ w.heap.size j rfl]; exact hRt j u hj hu
  have hNf : ∀ j, W1.frozen? ⟨w.heap.size, j, none⟩ = false := fun j => by rw [hW1]; exact World.frozen?_alloc_at (w := w.drew) ROW _ w.heap.size j rfl
  have hOb : ∀ j v, w.cell? ⟨b, j, none⟩ = some v → W1.cell? ⟨b, j, none⟩ = some v := fun j v h => by rw [hW1, World.cell?_alloc_past (w := w.drew) _ b j hbw]; exact h
  have hOv : ∀ j v, w.cell? ⟨vb, j, none⟩ = some v → W1.cell? ⟨vb, j, none⟩ = some v := fun j v h => by rw [hW1, World.cell?_alloc_past (w := w.drew) _ vb j hvw]; exact h
  have hbN : b ≠ w.heap.size := by omega
  have lx : x.cs.length = 4 := rfl
  have hcpA : ∀ (W : World), (∀ x, W.cell? x = W1.cell? x) → (∀ x, W.frozen? x = W1.frozen? x) → ∀ ty dc, (Builtin.copy_ #[24, 24] ty #[.slice (some ⟨w.heap.size, i * 4, none⟩) (L.length + 1 - i) dc, .slice (some ⟨vb, 0, none⟩) 1 1]).run Try.prog W = .ok (goInt 1) (W.setCells w.heap.size (i * 4) x.cs) := fun W hWc hWf ty dc =>
    run_copy4 W ty w.heap.size (i * 4) (L.length + 1 - i) dc ⟨vb, 0, none⟩ 1 1 1 x.cs (by simp only [Nat.min_def]; split <;> omega) rfl
      (fun j v hj => by rw [Addr.add_lit, hWc, Nat.zero_add]; exact hOv _ v (HO.out.cell j v hj))
      (fun j hj => by rw [hWc]; exact hN _ (by omega)) (fun j hj => by rw [hWf]; exact hNf _) (fun v hv => flat_cell [x] v (by simpa [flat] using hv))
  have hdl : ((flat L).drop (i * 4)).length = (L.length - i) * 4 := by rw [List.length_drop, hfl]; omega
  have hcpB : ∀ (W : World), (∀ y, W.cell? y = (W1.setCells w.heap.size (i * 4) x.cs).cell? y) → (∀ y, W.frozen? y = (W1.setCells w.heap.size (i * 4) x.cs).frozen? y) → ∀ ty dc sc, (Builtin.copy_ #[24, 24] ty #[.slice (some ⟨w.heap.size, (i + 1) * 4, none⟩) (L.length - i) dc, .slice (some ⟨b, i * 4, none⟩) (L.length - i) sc]).run Try.prog W = .ok (goInt (L.length - i : Nat)) (W.setCells w.heap.size ((i + 1) * 4) ((flat L).drop (i * 4))) := fun W hWc hWf ty dc sc =>
    run_copy4 W ty w.heap.size ((i + 1) * 4) (L.length - i) dc ⟨b, i * 4, none⟩ (L.length - i) sc (L.length - i) ((flat L).drop (i * 4)) (by simp only [Nat.min_def]; split <;> omega) hdl
      (fun j v hj => by
        rw [Addr.add_lit, hWc, World.cell?_setCells_out _ _ _ _ _ (fun h _ => absurd h hbN)]
        exact hOb _ v (hcs (i * 4 + j) v (by rwa [List.getElem?_drop] at hj)))
      (fun j hj => by rw [hWc]; exact some_setCells _ x.cs (i * 4) W1 (fun t ht => hN _ (by omega)) _ (hN _ (by omega)))
      (fun j hj => by rw [hWf, World.frozen?_setCells]; exact hNf _) (fun v hv => flat_cell L v (List.mem_of_mem_drop hv))
  have HREC := Lib.hid (show ∀ W W' : World, (∀ y, W.heap[y]? = (W1.setCells w.heap.size (i * 4) x.cs).heap[y]?) → W.heap.size = W1.heap.size → W.os = W1.os → W.tape = W1.tape → W.output = W1.output → W' = W.setCells w.heap.size ((i + 1) * 4) ((flat L).drop (i * 4)) →
      GrowsTo B (.slice (some ⟨b, 0, none⟩) L.length L.length) (L.take i ++ x :: L.drop i) w (.returned (.slice (some ⟨w.heap.size, 0, none⟩) (L.length + 1) G)) W' from by
    intro W W' e0 e1 e2 e3 e4 e5
    have hc0 : ∀ y, W.cell? y = (W1.setCells w.heap.size (i * 4) x.cs).cell? y := fun y => by unfold World.cell?; rw [e0]
    refine ⟨_, rfl, ?_, ?_, .inr ⟨_, rfl, Nat.le_refl _⟩⟩
    · have q0 : W1.heap[w.heap.size]? = some (.cells ROW 68 (0, 0)) := by rw [hW1]; exact heap_alloc_new w.drew _
      obtain ⟨cur1, q1, q2⟩ := setCells_row w.heap.size 68 (0, 0) x.cs (i * 4) W1 ROW q0
      rw [← e0] at q1
      obtain ⟨cur2, q3, q4⟩ := setCells_row w.heap.size 68 (0, 0) ((flat L).drop (i * 4)) ((i + 1) * 4) W cur1 q1
      rw [← e5] at q3
      have := row_of_cells (L := L.take i ++ x :: L.drop i) hB q3 (by rw [q4, q2, hRs]) (by simp; omega) hGm (fun j u hu => by
        have e1 : flat (L.take i ++ x :: L.drop i) = (flat L).take (i * 4) ++ (x.cs ++ (flat L).drop (i * 4)) := by rw [flat_app, ← flat_take, show flat (x :: L.drop i) = x.cs ++ flat (L.drop i) from rfl, flat_drop]
        rw [e1] at hu
        have ltk : ((flat L).take (i * 4)).length = i * 4 := by rw [List.length_take]; omega
        rw [e5]
        by_cases h1 : j < i * 4
        · rw [World.cell?_setCells_out _ _ _ _ _ (fun _ _ => .inl (by show j < (i + 1) * 4; omega)), hc0, World.cell?_setCells_out _ _ _ _ _ (fun _ _ => .inl h1)]
          rw [List.getElem?_append_left (by omega), List.getElem?_take, if_pos h1] at hu
          exact hNt j u h1 hu
        · rw [List.getElem?_append_right (by omega), ltk] at hu
          by_cases h2 : j < i * 4 + 4
          · rw [List.getElem?_append_left (by omega)] at hu
            have hjl := (List.getElem?_eq_some_iff.1 hu).1
            rw [World.cell?_setCells_out _ _ _ _ _ (fun _ _ => .inl (by show j < (i + 1) * 4; omega)), hc0]
            have := World.cell?_setCells_in w.heap.size x.cs (i * 4) W1 (fun k hk => hN _ (by omega)) (j - i * 4) hjl
            rw [show i * 4 + (j - i * 4) = j by omega] at this
            rw [this, ← (List.getElem?_eq_some_iff.1 hu).2]
          · rw [List.getElem?_append_right (by omega), lx] at hu
            have hjl := (List.getElem?_eq_some_iff.1 hu).1
            have := World.cell?_setCells_in w.heap.size ((flat L).drop (i * 4)) ((i + 1) * 4) W (fun k hk => by rw [hc0]; exact some_setCells _ x.cs (i * 4) W1 (fun t ht => hN _ (by omega)) _ (hN _ (by omega))) (j - i * 4 - 4) hjl
            rw [show (i + 1) * 4 + (j - i * 4 - 4) = j by omega] at this
            rw [this, ← (List.getElem?_eq_some_iff.1 hu).2])
      have e2 : (L.take i ++ x :: L.drop i).length = L.length + 1 := by simp; omega
      rw [e2] at this
      exact this
    · obtain ⟨f1, f2, f3, f4, f5⟩ := setCells_frame w.heap.size ((flat L).drop (i * 4)) ((i + 1) * 4) W
      obtain ⟨g1, g2, g3, g4, g5⟩ := setCells_frame w.heap.size x.cs (i * 4) W1
      rw [e5]
      refine ⟨by rw [f1, e2, hW1]; rfl, by rw [f2, e3, hW1]; rfl, by rw [f3, e4, hW1]; rfl, by rw [f4, e1, hW1]; simp, fun k hk _ => ?_⟩
      rw [f5 k (by omega), e0, g5 k (by omega), hW1]
      exact heap_alloc_old w.drew _ hk)
  obtain ⟨X, hX⟩ : ∃ X, X = W1.setCells w.heap.size (i * 4) x.cs := ⟨_, rfl⟩
  have fr : X.os = W1.os ∧ X.tape = W1.tape ∧ X.output = W1.output ∧ X.heap.size = W1.heap.size := by
    have := setCells_frame w.heap.size x.cs (i * 4) W1
    rw [← hX] at this
    exact ⟨this.1, this.2.1, this.2.2.1, this.2.2.2.1⟩
  have HREC2 := Lib.hid (HREC.out X.drew (X.drew.setCells w.heap.size ((i + 1) * 4) ((flat L).drop (i * 4))) (fun y => by rw [← hX]; rfl) fr.2.2.2 fr.1 fr.2.1 fr.2.2.1 rfl)
  rw [← hX] at hcpB
  have hcpX : ∀ ty dc sc, (Builtin.copy_ #[24, 24] ty #[.slice (some ⟨w.heap.size, (i + 1) * 4, none⟩) (L.length - i) dc, .slice (some ⟨b, i * 4, none⟩) (L.length - i) sc]).run Try.prog X.drew = .ok (goInt (L.length - i : Nat)) (X.drew.setCells w.heap.size ((i + 1) * 4) ((flat L).drop (i * 4))) := fun ty dc sc => hcpB X.drew (fun _ => rfl) (fun _ => rfl) ty dc sc
  have hREC2 := HREC2.out
  clear HREC2
  subst hX
  have HREC2 := Lib.hid hREC2
  clear hREC2 hcpB fr HREC
  have hE1 : ∀ x, ((w.alloc (.cells ROW 68)).drew).cell? x = W1.cell? x := fun x => by rw [hW1]; rfl
  have hE2 : ∀ x, ((w.alloc (.cells ROW 68)).drew).frozen? x = W1.frozen? x := fun x => by rw [hW1]; rfl
  have hz1' : ¬ ((i : Int) = (L.length : Int)) := by omega
  have hin : (i : Int) ≤ (L.length : Int) := by omega
  have hin2 : i ≤ L.length := by omega
  have hGi : ¬ (G = i) := by omega
  have hGim : ¬ (G = i + 1) := by omega
  have hci : ¬ (L.length = i) := by omega
  have htn : ((i : Int) + 1).toNat = i + 1 := by omega
  have hw1 : IntKind.i64.wrap ((i : Int) + 1) = (i : Int) + 1 := by rw [IntKind.wrap_i64]; omega
  have hb1 : (0 : Int) ≤ (i : Int) + 1 := by omega
  have hin3 : (i : Int) ≤ (L.length : Int) + 1 := by omega
  have HB := Lib.hid hcpX
  clear hcpX hE1 hE2 hW1 hN hNt hNf hOb hOv hRt hRs hROW hG hold hkk hik hcs h hx
  go_enter Try.func121, Try.ntmps121
  go_wp2_with (first
    | (at_builtin; refine Lib.wpList_append_run _ rfl _ _ _ _ rfl _ _ rfl rfl _ _ (hrz _) ?_)
    | (at_builtin; refine wpList_copy_run4 _ rfl _ _ 24 24 rfl _ _ rfl rfl (hcpA W1 (fun _ => rfl) (fun _ => rfl) _ _) ?_))
  go_region_law (refine step_copy_run4 rfl _ _ 24 24 rfl (.slice (some ⟨w.heap.size, (i + 1) * 4, none⟩) (L.length - i) (G - (i + 1))) (.slice (some ⟨b, i * 4, none⟩) (L.length - i) (L.length - i)) (by simp [Act.eval, Act.put]) (by simp [Act.eval, Act.put]) (HB.out 3 (G - (i + 1)) (L.length - i)) ?_)
  go_wp2
  go_ret
  exact HREC2.out
/-- one term put in its place, in a row of the call's own -/
theorem iInsert (B i : Nat) (v : Value) (L : List Trm) (x : Trm) (vb : Nat) (w : World) (hB : B ≤ w.heap.size) (hl : L.length ≤ 4000) (hi : i ≤ L.length) (h : Row w B v L) (hx : OneAt w vb x) (hvb : v.ownBlock ≠ some vb) :
    Calls Try.prog 121 #[v, .int .i64 i, .slice (some ⟨vb, 0, none⟩) 1 1] w (GrowsTo B v (L.take i ++ x :: L.drop i) w) := by
  rcases h.shape with ⟨rfl, rfl⟩ | ⟨b, cap, rfl, hb, hbw, hn, hm⟩
  · have : i = 0 := by simpa using hi
    subst this
    exact insNil B x vb w hB hx
  · have hne : vb ≠ b := fun e => hvb (by rw [e]; rfl)
    by_cases he : i = L.length
    · subst he
      rw [List.take_length, List.drop_length]
      by_cases hc : L.length < cap
      · exact insRoom B b cap L x vb w hB hl hc h hx
      · have : cap = L.length := by omega
        subst this
        exact insFull B b L x vb w hB hl h hx
    · by_cases hc : L.length + 1 ≤ cap
      · exact insShift B b cap i L x vb w hB hl (by omega) hc h hx hne
      · have : cap = L.length := by omega
        subst this
        exact insGrow B b i L x vb w hB hl (by omega) h hx
end Go.Proofs.Ytiahcaihmgnicaa
