/-
  Contracts of the exact laws' helpers on programs of paths: markProgram, heldProgram. Conditions: what the slices hold is known.
  Contracts of the exact laws' helpers on programs of paths, on: heldProgram; what stays when an argument is marked. Conditions: what the slices hold is known.
-/
import Derived.Test.YtlcmddghppdmgaaBa8
namespace Go.Proofs.Ytlcmddghppdmgaa
set_option linter.unusedVariables false
open Go.RowKit
def tmk (k : Int) (n : Nat) : List Trm := (List.range n).map (mk4 k)
theorem tmk_len (k : Int) (n : Nat) : (tmk k n).length = n := by simp [tmk]
theorem tmk_at {k : Int} {n i : Nat} (h : i < n) : (tmk k n).getD i default = mk4 k i := by simp [tmk, List.getD_eq_getElem?_getD, h]
/-- the mark at which the arrow j begins -/
def kp (k : Int) (A : List Arr) (j : Nat) : Int := k + 2 * (j : Int) + 4 * (acT A j : Int)
theorem kp_succ (k : Int) (A : List Arr) (j : Nat) : kp k A (j + 1) = kp k A j + 1 + 1 + 4 * ((arw A j).L.length : Int) := by
  unfold kp
  have : acT A (j + 1) = acT A j + (arw A j).L.length := rfl
  rw [this]; omega
def amk (k : Int) (A : List Arr) : List Arr := (List.range A.length).map fun i => ⟨kp k A i, kp k A i + 1, tmk (kp k A i + 1 + 1) (arw A i).L.length⟩
theorem amk_len (k : Int) (A : List Arr) : (amk k A).length = A.length := by simp [amk]
theorem amk_at {k : Int} {A : List Arr} {i : Nat} (h : i < A.length) : arw (amk k A) i = ⟨kp k A i, kp k A i + 1, tmk (kp k A i + 1 + 1) (arw A i).L.length⟩ := by
  simp [amk, arw, List.getD_eq_getElem?_getD, h]
theorem amk_T (k : Int) (A : List Arr) : ∀ i, i ≤ A.length → acT (amk k A) i = acT A i
  | 0, _ => rfl
  | i + 1, h => by
    show acT (amk k A) i + (arw (amk k A) i).L.length = acT A i + _
    rw [amk_T k A i (by omega), amk_at (by omega), tmk_len]
theorem amk_N (k : Int) (A : List Arr) : acN (amk k A) = acN A := by unfold acN; rw [amk_len]; exact amk_T k A _ (Nat.le_refl _)
structure MarkA (g off : Nat) (H : Nat → Nat) (A : List Arr) (k : Int) (j : Nat) (w wr : World) : Prop where
  done : ∀ i, i < j → wr.cell? ⟨g, off + i * 3, none⟩ = some (.int .i64 (kp k A i)) ∧ wr.cell? ⟨g, off + i * 3 + 1, none⟩ = some (.int .i64 (kp k A i + 1)) ∧ ∃ u, w.cell? ⟨g, off + i * 3 + 2, none⟩ = some u ∧ TrmsIn wr (H i) u (tmk (kp k A i + 1 + 1) (arw A i).L.length)
  hdr : ∀ i, i < A.length → wr.cell? ⟨g, off + i * 3 + 2, none⟩ = w.cell? ⟨g, off + i * 3 + 2, none⟩
  ex : ∀ i, i < A.length → (∃ x, wr.cell? ⟨g, off + i * 3, none⟩ = some x) ∧ ∃ x, wr.cell? ⟨g, off + i * 3 + 1, none⟩ = some x
  froz : ∀ a, wr.frozen? a = w.frozen? a
  far : ∀ b, b ≠ g → (∀ i, i < j → (arw A i).L ≠ [] → b ≠ H i) → wr.heap[b]? = w.heap[b]?
  size : wr.heap.size = w.heap.size
  os : wr.os = w.os
  tape : wr.tape = w.tape
  output : wr.output = w.output
theorem MarkA.zero {g off B : Nat} {H : Nat → Nat} {A : List Arr} {k : Int} {w : World} (h : OArr w B g off H A) : MarkA g off H A k 0 w w :=
  ⟨fun i hi => by omega, fun _ _ => rfl, fun i hi => ⟨⟨_, (h.rd i hi).1⟩, _, (h.rd i hi).2.1⟩, fun _ => rfl, fun _ _ _ => rfl, rfl, rfl, rfl, rfl⟩
theorem MarkA.step {g off B : Nat} {H : Nat → Nat} {A : List Arr} {k : Int} {j : Nat} {w wr w2 w3 : World} (h : MarkA g off H A k j w wr) (ho : OArr w B g off H A) (hj : j < A.length) {u : Value} (hu : w.cell? ⟨g, off + j * 3 + 2, none⟩ = some u)
    (h2 : w2 = (wr.setCell ⟨g, off + j * 3, none⟩ (.int .i64 (kp k A j))).setCell ⟨g, off + j * 3 + 1, none⟩ (.int .i64 (kp k A j + 1)))
    (hc : ((arw A j).L ≠ [] ∧ ∃ o cap, u = .slice (some ⟨H j, o, none⟩) (arw A j).L.length cap ∧ MarkT (H j) o (arw A j).L.length (kp k A j + 1 + 1) (arw A j).L.length w2 w3) ∨ ((arw A j).L = [] ∧ (∃ a cap, u = .slice a 0 cap) ∧ w3 = w2)) :
    MarkA g off H A k (j + 1) w w3 := by
  obtain ⟨⟨x0, e0⟩, x1, e1⟩ := h.ex j hj
  have c0 : w2.cell? ⟨g, off + j * 3, none⟩ = some (.int .i64 (kp k A j)) := by
    rw [h2, World.cell?_setCell_other _ _ _ _ (ad_ne (by omega))]; exact World.cell?_setCell_same _ _ _ e0
  have c1 : w2.cell? ⟨g, off + j * 3 + 1, none⟩ = some (.int .i64 (kp k A j + 1)) := by
    rw [h2]; exact World.cell?_setCell_same _ _ _ (by rw [World.cell?_setCell_other _ _ _ _ (ad_ne (by omega))]; exact e1)
  have cf : ∀ b i, (b ≠ g ∨ (i ≠ off + j * 3 ∧ i ≠ off + j * 3 + 1)) → w2.cell? ⟨b, i, none⟩ = wr.cell? ⟨b, i, none⟩ := fun b i hh => by
    rw [h2, World.cell?_setCell_other _ _ _ _ (ad_ne (by omega)), World.cell?_setCell_other _ _ _ _ (ad_ne (by omega))]
  have hh2 : ∀ b, b ≠ g → w2.heap[b]? = wr.heap[b]? := fun b hb => by rw [h2, Below.heap_setCell _ _ _ _ hb, Below.heap_setCell _ _ _ _ hb]
  have f2 : ∀ a, w2.frozen? a = w.frozen? a := fun a => by rw [h2]; simp; exact h.froz a
  have s2 : w2.heap.size = w.heap.size := by rw [h2]; simp; exact h.size
  have o2 : w2.os = w.os := by rw [h2]; exact h.os
  have t2 : w2.tape = w.tape := by rw [h2]; exact h.tape
  have p2 : w2.output = w.output := by rw [h2]; exact h.output
  have g3 : w3.heap[g]? = w2.heap[g]? := by
    rcases hc with ⟨hn, o, cap, _, hM⟩ | ⟨_, _, rfl⟩
    · exact hM.far g (ho.hb j hj hn).2.2.symm
    · rfl
  have b3 : ∀ b, ((arw A j).L ≠ [] → b ≠ H j) → w3.heap[b]? = w2.heap[b]? := fun b hb => by
    rcases hc with ⟨hn, o, cap, _, hM⟩ | ⟨_, _, rfl⟩
    · exact hM.far b (hb hn)
    · rfl
  have f3 : ∀ a, w3.frozen? a = w.frozen? a := fun a => by
    rcases hc with ⟨hn, o, cap, _, hM⟩ | ⟨_, _, rfl⟩
    · rw [hM.froz]; exact f2 a
    · exact f2 a
  have s3 : w3.heap.size = w.heap.size ∧ w3.os = w.os ∧ w3.tape = w.tape ∧ w3.output = w.output := by
    rcases hc with ⟨hn, o, cap, _, hM⟩ | ⟨_, _, rfl⟩
    · exact ⟨hM.size.trans s2, hM.os.trans o2, hM.tape.trans t2, hM.output.trans p2⟩
    · exact ⟨s2, o2, t2, p2⟩
  refine ⟨fun i hi => ?_, fun i hi => ?_, fun i hi => ?_, f3, fun b hb hbi => ?_, s3.1, s3.2.1, s3.2.2.1, s3.2.2.2⟩
  · by_cases e : i = j
    · subst e
      refine ⟨by rw [cell_of_heap (by exact g3)]; exact c0, by rw [cell_of_heap (by exact g3)]; exact c1, u, hu, ?_⟩
      have hl1 : (arw A i).L.length ≤ 1048576 := by
        obtain ⟨_, _, _, _, q, _⟩ := ho.rd i hj
        exact q
      rcases hc with ⟨hn, o, cap, rfl, hM⟩ | ⟨hn, ⟨a, cap, rfl⟩, rfl⟩
      · refine ⟨by rw [tmk_len]; exact hl1, _, cap, by rw [tmk_len], .inr ⟨o, rfl, by rw [s3.1]; exact (ho.hb i hj hn).2.1, fun l hl => ?_, fun l hl => ?_⟩⟩
        · rw [tmk_len] at hl
          rw [tmk_at hl]; exact hM.done l hl
        · rw [tmk_len] at hl
          rw [f3]
          obtain ⟨_, _, u2, q1, q2⟩ := ho.rd i hj
          rw [hu] at q1
          cases q1
          obtain ⟨_, a2, cap2, q3, q4⟩ := q2
          rcases q4 with q4 | ⟨o2', q5, _, _, q6⟩
          · exact absurd q4 hn
          · injection q3 with q7
            rw [q5] at q7
            injection q7 with q7
            injection q7 with q8 q9
            rw [q9]; exact q6 l hl
      · exact ⟨by rw [tmk_len]; exact hl1, a, cap, by rw [tmk_len, hn]; rfl, .inl (List.eq_nil_of_length_eq_zero (by rw [tmk_len, hn]; rfl))⟩
    · have hij : i < j := by omega
      obtain ⟨q0, q1, v, q2, q3⟩ := h.done i hij
      refine ⟨by rw [cell_of_heap (by exact g3), cf _ _ (by omega)]; exact q0, by rw [cell_of_heap (by exact g3), cf _ _ (by omega)]; exact q1, v, q2, q3.same (fun hn => ?_)⟩
      have hn' : (arw A i).L ≠ [] := fun e2 => hn (List.eq_nil_of_length_eq_zero (by rw [tmk_len, e2]; rfl))
      rw [b3 _ (fun hnj => ho.ap i j (by omega) hj e hn' hnj), hh2 _ (ho.hb i (by omega) hn').2.2]
  · rw [cell_of_heap (by exact g3), cf _ _ (by omega)]; exact h.hdr i hi
  · obtain ⟨⟨y0, z0⟩, y1, z1⟩ := h.ex i hi
    by_cases e : i = j
    · subst e
      exact ⟨⟨_, by rw [cell_of_heap (by exact g3)]; exact c0⟩, _, by rw [cell_of_heap (by exact g3)]; exact c1⟩
    · exact ⟨⟨_, by rw [cell_of_heap (by exact g3), cf _ _ (by omega)]; exact z0⟩, _, by rw [cell_of_heap (by exact g3), cf _ _ (by omega)]; exact z1⟩
  · rw [b3 _ (fun hn => hbi j (by omega) hn), hh2 _ hb]
    exact h.far b hb (fun i hi hn => hbi i (by omega) hn)
theorem markAnil (a : Option Addr) (cap : Nat) (k : Int) (w : World) :
    Calls Try.prog 91 #[.slice a 0 cap, .int .i64 k] w fun e w' => e = .returned (.int .i64 k) ∧ w = w' := by
  go_enter Try.func91, Try.ntmps91
  go_wp2_with fail
  go_loop [1, 5] (fun q i => i = .int .i64 0 ∧ q = .int .i64 k) (fun _ _ => 0)
  case atStart => exact ⟨rfl, rfl⟩
  case round =>
    obtain ⟨rfl, rfl⟩ := hrel
    go_wp2
    go_ret
    exact ⟨rfl, rfl⟩
set_option maxHeartbeats 4000000 in
theorem markA_o (g off cap : Nat) (H : Nat → Nat) (A : List Arr) (B : Nat) (k : Int) (w : World) (h : OArr w B g off H A) (hl : A.length ≤ 1048576) (hcn : acN A ≤ 1048576) (hk0 : 0 ≤ k) (hk1 : k ≤ 100000000000) :
    Calls Try.prog 91 #[.slice (some ⟨g, off, none⟩) A.length cap, .int .i64 k] w fun e w' => e = .returned (.int .i64 (kp k A A.length)) ∧ MarkA g off H A k A.length w w' := by
  have HO := Lib.hid h
  have h0 : MarkA g off H A k 0 w w := MarkA.zero h
  clear h
  go_enter Try.func91, Try.ntmps91
  go_wp2_with fail
  go_loopw [1, 5] (fun q i wr => ∃ j : Nat, j ≤ A.length ∧ i = .int .i64 j ∧ q = .int .i64 (kp k A j) ∧ MarkA g off H A k j w wr) (fun _ i _ => A.length - (intOf i).toNat)
  case atStart => exact ⟨0, by omega, rfl, by simp [kp, acT], h0⟩
  case round =>
    clear h0
    obtain ⟨j, hj, rfl, rfl, hR⟩ := hrel
    by_cases hlt : j < A.length
    · have hltp : (j : Int) < (A.length : Int) := by omega
      have hj0 : (0 : Int) ≤ (j : Int) := by omega
      obtain ⟨_, _, u, hu, hT⟩ := HO.out.rd j hlt
      obtain ⟨⟨x0, e0⟩, x1, e1⟩ := hR.ex j hlt
      have e2 : wr.cell? ⟨g, off + j * 3 + 2, none⟩ = some u := (hR.hdr j hlt).trans hu
      have z0 : wr.frozen? ⟨g, off + j * 3, none⟩ = false := by rw [hR.froz]; exact HO.out.fz (j * 3) (by omega)
      have z1 : wr.frozen? ⟨g, off + j * 3 + 1, none⟩ = false := by rw [hR.froz, Nat.add_assoc]; exact HO.out.fz (j * 3 + 1) (by omega)
      have hkd : kp k A j = k + 2 * (j : Int) + 4 * (acT A j : Int) := rfl
      have hac := acT_le (A := A) hj
      have hacn : acN A = acT A A.length := rfl
      have HKS := Lib.hid (kp_succ k A j)
      obtain ⟨kk, hkk⟩ : ∃ kk, kk = kp k A j := ⟨_, rfl⟩
      have hkk0 : 0 ≤ kk := by omega
      have hkk1 : kk ≤ 100010000000 := by omega
      obtain ⟨w2, hw2⟩ : ∃ w2, w2 = (wr.setCell ⟨g, off + j * 3, none⟩ (.int .i64 kk)).setCell ⟨g, off + j * 3 + 1, none⟩ (.int .i64 (kk + 1)) := ⟨_, rfl⟩
      have HST := Lib.hid (fun w3 hc => hR.step (w2 := w2) (w3 := w3) HO.out hlt hu (by rw [← hkk]; exact hw2) hc)
      have HW2 := Lib.hid hw2
      have hfar : (arw A j).L ≠ [] → w2.heap[H j]? = w.heap[H j]? := fun hn => by
        have hb := HO.out.hb j hlt hn
        rw [hw2, Below.heap_setCell _ _ _ _ hb.2.2, Below.heap_setCell _ _ _ _ hb.2.2]
        exact hR.far _ hb.2.2 (fun i hi hni => HO.out.ap j i hlt (by omega) (by omega) hn hni)
      have hT2 : TrmsIn w2 (H j) u (arw A j).L := hT.same hfar
      have HT2 := Lib.hid hT2
      have HKK := Lib.hid hkk
      obtain ⟨hlx, ua, uc, rfl, hcase⟩ := hT2
      rw [← hkk] at HKS HST ⊢
      clear hR hT hkd hac hacn hkk hfar hcn hw2
      by_cases hn : (arw A j).L = []
      · have e0l : (arw A j).L.length = 0 := by rw [hn]; rfl
        rw [e0l] at e2 HST HKS
        go_wp2_with fail
        rw [← HW2.out]
        refine (markTnil ua uc _ w2).mono ?_
        rintro e w3 ⟨rfl, rfl⟩
        have HF := Lib.hid (HST.out w2 (.inr ⟨hn, ⟨ua, uc, rfl⟩, rfl⟩))
        have HK2 := Lib.hid (show kp k A (j + 1) = kk + 1 + 1 by rw [HKS.out]; simp)
        clear HST HT2 hcase e0 e1 e2
        go_wp2_with fail
        go_roundw
        case rel => exact ⟨j + 1, by omega, by go_num, by rw [HK2.out], HF.out⟩
        case measure => simp [intOf]; omega
      · rcases hcase with hcase | ⟨o, rfl, hg, hcc, hff⟩
        · exact absurd hcase hn
        obtain ⟨m, hm⟩ : ∃ m, m = (arw A j).L.length := ⟨_, rfl⟩
        have HMK := Lib.hid (markT (H j) o m uc (kk + 1 + 1) w2 (by omega) (by omega) (by omega) (fun i hi => by
          obtain ⟨t0, t1, t2, t3⟩ := hcc (i / 4) (by omega)
          have : i = i / 4 * 4 ∨ i = i / 4 * 4 + 1 ∨ i = i / 4 * 4 + 2 ∨ i = i / 4 * 4 + 3 := by omega
          rcases this with e | e | e | e
          · rw [e]; exact ⟨_, t0⟩
          · rw [e, ← Nat.add_assoc]; exact ⟨_, t1⟩
          · rw [e, ← Nat.add_assoc]; exact ⟨_, t2⟩
          · rw [e, ← Nat.add_assoc]; exact ⟨_, t3⟩) (fun i hi => hff i (by omega)))
        have HNN := Lib.hid hn
        have HM := Lib.hid hm
        rw [← hm] at e2 HKS HST hlx
        clear hcc hff hn hm HT2
        go_wp2_with fail
        rw [← HW2.out]
        refine HMK.out.mono ?_
        rintro e w3 ⟨rfl, hM⟩
        have HF := Lib.hid (HST.out w3 (.inl ⟨HNN.out, o, uc, rfl, hM⟩))
        have HK2 := Lib.hid (show kp k A (j + 1) = kk + 1 + 1 + 4 * (m : Int) from HKS.out)
        clear HST hM e0 e1 e2 HMK
        go_wp2_with fail
        go_roundw
        case rel => exact ⟨j + 1, by omega, by go_num, by rw [HK2.out], HF.out⟩
        case measure => simp [intOf]; omega
    · have hjl : j = A.length := by omega
      subst hjl
      go_wp2
      go_ret
      exact ⟨rfl, hR⟩
theorem MarkA.arrs {g off B cap : Nat} {H : Nat → Nat} {A : List Arr} {k : Int} {w wr : World} (h : MarkA g off H A k A.length w wr) (ho : OArr w B g off H A) (hl : A.length ≤ 1048576) (hcn : acN A ≤ 1048576) : Arrs wr (.slice (some ⟨g, off, none⟩) A.length cap) (amk k A) := by
  refine ⟨by rw [amk_len]; exact hl, by rw [amk_N]; exact hcn, _, cap, by rw [amk_len], .inr ⟨g, off, rfl, by rw [h.size]; exact ho.gl, fun i hi => ?_⟩⟩
  rw [amk_len] at hi
  rw [amk_at hi]
  obtain ⟨q0, q1, u, q2, q3⟩ := h.done i hi
  exact ⟨q0, q1, u, (h.hdr i hi).trans q2, q3.trms⟩
theorem MarkA.below {g off B : Nat} {H : Nat → Nat} {A : List Arr} {k : Int} {w wr : World} (h : MarkA g off H A k A.length w wr) (ho : OArr w B g off H A) : Below B w wr :=
  ⟨h.os, h.tape, h.output, by rw [h.size]; exact Nat.le_refl _, fun b hb => h.far b (by have := ho.bg; omega) (fun i hi hn e => by have := (ho.hb i hi hn).1; omega)⟩
/-- a program of one's own is marked -/
theorem markPown (nn : Int) (v : Value) (A : List Arr) (B : Nat) (k : Int) (w : World) (h : OwnArrs w B v A) (hB : B ≤ w.heap.size) (hk0 : 0 ≤ k) (hk1 : k ≤ 10000000000) :
    Calls Try.prog 27 #[.agg #[.int .i64 nn, v], .int .i64 k] w fun e w' => e = .returned (.int .i64 (kp k A A.length)) ∧ Arrs w' v (amk k A) ∧ Below B w w' ∧ w.heap.size ≤ w'.heap.size ∧ ∀ b, w.heap.size ≤ b → True := by
  obtain ⟨h1, h2, a, cap, rfl, h3⟩ := h
  have hb0 : Below w.heap.size w (w.alloc (Obj.cells #[.int .i64 nn, .slice a A.length cap] 29)) := Below.alloc (Below.refl _ _) (Nat.le_refl _) _
  have hbB : Below B w (w.alloc (Obj.cells #[.int .i64 nn, .slice a A.length cap] 29)) := hb0.mono hB
  rcases h3 with rfl | ⟨g, off, H, rfl, ho⟩
  · go_enter Try.func27, Try.ntmps27
    go_wp2_with fail
    refine (markAnil a cap k _).mono ?_
    rintro e w1 ⟨rfl, rfl⟩
    have HB := Lib.hid hbB
    clear hbB hb0
    go_wp2_with fail
    go_ret
    exact ⟨ret_int' (by simp [kp, acT]), ⟨by simp [amk], by simp [acN, acT, amk], a, cap, by simp [amk], .inl rfl⟩, HB.out, by simp, fun _ _ => trivial⟩
  · have ho2 := ho.below hb0
    have HM := Lib.hid (markA_o g off cap H A B k _ ho2 h1 h2 hk0 (by omega))
    have HO := Lib.hid ho2
    have HB := Lib.hid hbB
    clear ho ho2 hb0 hbB
    go_enter Try.func27, Try.ntmps27
    go_wp2_with fail
    refine HM.out.mono ?_
    rintro e w1 ⟨rfl, hR⟩
    have HF := Lib.hid (And.intro (hR.arrs (cap := cap) HO.out h1 h2) (And.intro (HB.out.trans (hR.below HO.out)) (show w.heap.size ≤ w1.heap.size by rw [hR.size]; simp)))
    clear hR HM
    go_wp2_with fail
    go_ret
    exact ⟨rfl, HF.out.1, HF.out.2.1, HF.out.2.2, fun _ _ => trivial⟩
end Go.Proofs.Ytlcmddghppdmgaa
namespace Go.Proofs.Ytlcmddghppdmgaa
set_option linter.unusedVariables false
open Go.RowKit
/-- of the blocks that were there, only those from B on and below C may have turned -/
structure Btw (B C : Nat) (w w' : World) : Prop where
  os : w'.os = w.os
  tape : w'.tape = w.tape
  output : w'.output = w.output
  size : w.heap.size ≤ w'.heap.size
  block : ∀ k, k < w.heap.size → k < B ∨ C ≤ k → w'.heap[k]? = w.heap[k]?
theorem Btw.low {B C : Nat} {w w' : World} (h : Btw B C w w') (hB : B ≤ w.heap.size) : Below B w w' := ⟨h.os, h.tape, h.output, h.size, fun k hk => h.block k (Nat.lt_of_lt_of_le hk hB) (.inl hk)⟩
theorem OwnArrs.btw {B B' C : Nat} {w w' : World} {v : Value} {A : List Arr} (h : OwnArrs w B v A) (hC : C ≤ B) (hb : Btw B' C w w') : OwnArrs w' B v A := by
  obtain ⟨h1, h2, a, cap, hv, h3⟩ := h
  refine ⟨h1, h2, a, cap, hv, ?_⟩
  rcases h3 with h3 | ⟨g, off, H, ha, hm⟩
  · exact .inl h3
  · exact .inr ⟨g, off, H, ha, hm.same (hb.block g hm.gl (.inr (Nat.le_trans hC hm.bg))) (fun i hi hn => hb.block _ (hm.hb i hi hn).2.1 (.inr (Nat.le_trans hC (hm.hb i hi hn).1)))⟩
/-- an argument of a law is marked: what was made behind it stays -/
theorem markPsame (nn : Int) (v : Value) (A : List Arr) (B : Nat) (k : Int) (w3 w : World) (h : OwnArrs w3 B v A) (hw : Same B w3 w) (hs : w3.heap.size ≤ w.heap.size) (hk0 : 0 ≤ k) (hk1 : k ≤ 10000000000) :
    Calls Try.prog 27 #[.agg #[.int .i64 nn, v], .int .i64 k] w fun e w' => e = .returned (.int .i64 (kp k A A.length)) ∧ Btw B w3.heap.size w w' := by
  obtain ⟨h1, h2, a, cap, rfl, h3⟩ := h
  have hb0 : Below w.heap.size w (w.alloc (Obj.cells #[.int .i64 nn, .slice a A.length cap] 29)) := Below.alloc (Below.refl _ _) (Nat.le_refl _) _
  rcases h3 with rfl | ⟨g, off, H, rfl, ho⟩
  · go_enter Try.func27, Try.ntmps27
    go_wp2_with fail
    refine (markAnil a cap k _).mono ?_
    rintro e w1 ⟨rfl, rfl⟩
    have HB := Lib.hid hb0
    clear hb0
    go_wp2_with fail
    go_ret
    exact ⟨ret_int' (by simp [kp, acT]), HB.out.os, HB.out.tape, HB.out.output, HB.out.size, fun b hb _ => HB.out.block b hb⟩
  · have ho1 : OArr w B g off H A := ho.same (hw g ho.bg ho.gl) (fun i hi hn => hw _ (ho.hb i hi hn).1 (ho.hb i hi hn).2.1)
    have ho2 := ho1.below hb0
    have HM := Lib.hid (markA_o g off cap H A B k _ ho2 h1 h2 hk0 (by omega))
    have HO := Lib.hid ho
    have HB := Lib.hid hb0
    clear ho ho1 ho2 hb0
    go_enter Try.func27, Try.ntmps27
    go_wp2_with fail
    refine HM.out.mono ?_
    rintro e w1 ⟨rfl, hR⟩
    have HF := Lib.hid (show Btw B w3.heap.size w w1 from ⟨hR.os.trans HB.out.os, hR.tape.trans HB.out.tape, hR.output.trans HB.out.output, by rw [hR.size]; exact HB.out.size, fun b hb hbb =>
      (hR.far b (by have := HO.out.bg; have := HO.out.gl; omega) (fun i hi hn e => by have := HO.out.hb i hi hn; omega)).trans (HB.out.block b hb)⟩)
    clear hR HM
    go_wp2_with fail
    go_ret
    exact ⟨rfl, HF.out⟩
theorem heldTr (u : Value) (n : Nat) (k : Int) (w : World) (h : Trms w u (tmk k n)) (hk0 : 0 ≤ k) (hk1 : k ≤ 1000000000000) :
    Calls Try.prog 51 #[u, .int .i64 k] w fun e w' => e = .returned (.int .i64 (k + 4 * (n : Int))) ∧ w = w' := by
  obtain ⟨h1, a, cap, rfl, h2⟩ := h
  rw [tmk_len] at h1 h2 ⊢
  by_cases hn : n = 0
  · subst hn
    refine (heldTnil a cap k w).mono ?_
    rintro e w' ⟨rfl, rfl⟩
    exact ⟨by simp, rfl⟩
  · rcases h2 with h2 | ⟨g, off, rfl, hg, hc⟩
    · have := congrArg List.length h2
      rw [tmk_len] at this; simp at this; omega
    · exact heldT g off n cap k w h1 hk0 hk1 (fun i hi => by have := hc i hi; rwa [tmk_at hi] at this)
set_option maxHeartbeats 4000000 in
theorem heldA (v : Value) (A : List Arr) (k : Int) (w : World) (h : Arrs w v (amk k A)) (hk0 : 0 ≤ k) (hk1 : k ≤ 100000000000) :
    Calls Try.prog 101 #[v, .int .i64 k] w fun e w' => e = .returned (.int .i64 (kp k A A.length)) ∧ w = w' := by
  obtain ⟨h1, h2, a, cap, rfl, h3⟩ := h
  rw [amk_N] at h2
  rw [amk_len] at h1 h3 ⊢
  have HD := Lib.hid h3
  clear h3
  go_enter Try.func101, Try.ntmps101
  go_wp2_with fail
  go_loop [1, 5] (fun q i => ∃ j : Nat, j ≤ A.length ∧ i = .int .i64 j ∧ q = .int .i64 (kp k A j)) (fun _ i => A.length - (intOf i).toNat)
  case atStart => exact ⟨0, by omega, rfl, by simp [kp, acT]⟩
  case round =>
    obtain ⟨j, hj, rfl, rfl⟩ := hrel
    by_cases hlt : j < A.length
    · have hltp : (j : Int) < (A.length : Int) := by omega
      have hj0 : (0 : Int) ≤ (j : Int) := by omega
      rcases HD.out with h | ⟨g, off, rfl, hg, hc⟩
      · have := congrArg List.length h
        rw [amk_len, List.length_nil] at this; omega
      obtain ⟨q0, q1, u, q2, q3⟩ := hc j hlt
      rw [amk_at hlt] at q0 q1 q3
      have hkd : kp k A j = k + 2 * (j : Int) + 4 * (acT A j : Int) := rfl
      have hac := acT_le (A := A) hj
      have hacn : acN A = acT A A.length := rfl
      have HKS := Lib.hid (kp_succ k A j)
      obtain ⟨kk, hkk⟩ : ∃ kk, kk = kp k A j := ⟨_, rfl⟩
      have hkk0 : 0 ≤ kk := by omega
      have hkk1 : kk ≤ 100010000000 := by omega
      rw [← hkk] at q0 q1 q3 HKS ⊢
      obtain ⟨m, hm⟩ : ∃ m, m = (arw A j).L.length := ⟨_, rfl⟩
      have hm1 := lab_le hlt
      rw [← hm] at q3 HKS hm1
      have HH := Lib.hid (heldTr u m (kk + 1 + 1) w q3 (by omega) (by omega))
      have n0 : (kk != kk) = false := by simp
      have n1 : (kk + 1 != kk + 1) = false := by simp
      have hge : ¬ kk + 1 + 1 + 4 * (m : Int) < 0 := by omega
      obtain ⟨_, ua, uc, rfl, _⟩ := q3
      clear hc hkd hac hacn hkk hm hm1
      go_wp2_with fail
      refine HH.out.mono ?_
      rintro e w' ⟨rfl, rfl⟩
      go_wp2
      go_round
      case rel => exact ⟨j + 1, by omega, by go_num, by rw [HKS.out]⟩
      case measure => simp [intOf]; omega
    · have hjl : j = A.length := by omega
      subst hjl
      go_wp2
      go_ret
      exact ⟨rfl, rfl⟩
theorem heldPr (nn : Int) (v : Value) (A : List Arr) (k : Int) (w : World) (h : Arrs w v (amk k A)) (hk0 : 0 ≤ k) (hk1 : k ≤ 10000000000) :
    Calls Try.prog 32 #[.agg #[.int .i64 nn, v], .int .i64 k] w fun e w' => e = .returned (.int .i64 (kp k A A.length)) ∧ Below w.heap.size w w' := by
  have HT := Lib.hid (fun W (hb : Below w.heap.size w W) => heldA v A k W (h.below hb) hk0 (by omega))
  have hge : ¬ kp k A A.length < 0 := by unfold kp; omega
  obtain ⟨_, _, a, cap, rfl, _⟩ := h
  obtain ⟨m, hm⟩ : ∃ m, m = kp k A A.length := ⟨_, rfl⟩
  rw [← hm] at HT hge ⊢
  clear hm
  go_enter Try.func32, Try.ntmps32
  go_wp2_with fail
  refine (HT.out _ (by repeat (first | exact Below.refl _ _ | apply Below.drew | apply below_drewN | (refine Below.alloc ?_ (by first | omega | (simp <;> omega)) _)))).mono ?_
  rintro e w1 ⟨rfl, rfl⟩
  go_wp2
  go_ret
  exact ⟨rfl, (by repeat (first | exact Below.refl _ _ | apply Below.drew | apply below_drewN | (refine Below.alloc ?_ (by first | omega | (simp <;> omega)) _)))⟩
end Go.Proofs.Ytlcmddghppdmgaa
