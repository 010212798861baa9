/-
  Combinations of the program: three lines in a struct; times a line, and without a multiple. Conditions: what the slices hold is known, elements of a prime.
  The factor of the program that makes a line monic. Conditions: a line over a prime.
  Combinations of the program: one without a multiple of another one. Conditions: what the slices hold is known, elements of a prime.
-/
import Derived.Test.YtfmpcniehgipfaaBf16
import Derived.Test.YtfmpcniehgipfaaBf13
import Derived.Deep.Cut
import Derived.Test.YtfmpcniehgipfaaBf15
import Derived.Test.YtfmpcniehgipfaaBf9
namespace Go.Proofs.Ytfmpcniehgipfaa
set_option linter.unusedVariables false
open Go.RowKit
theorem RowE.far {w : World} {B n i : Nat} {v u : Value} {p : Int} {L : List Int} (h : RowE w B v p L) (hn : n < B) : RowE (w.setCell ⟨n, i, none⟩ u) B v p L :=
  World.ownsRow.kept (row := some n) h ⟨rfl, rfl, rfl, by simp, fun k hk hne => Below.heap_setCell _ _ _ _ (fun e => hne (by rw [e]))⟩ (.inr (fun e => by have := (World.ownsRow.lt h n e).1; omega))
theorem RowE.far3 {w : World} {B n : Nat} {v a b c : Value} {p : Int} {L : List Int} (h : RowE w B v p L) (hn : n < B) : RowE (((w.setCell ⟨n, 0, none⟩ a).setCell ⟨n, 1, none⟩ b).setCell ⟨n, 2, none⟩ c) B v p L := ((h.far hn).far hn).far hn
theorem RowE.form {w : World} {B : Nat} {v : Value} {p : Int} {L : List Int} (h : RowE w B v p L) : ∃ a c, v = .slice a L.length c := by
  rcases h.shape with ⟨h1, h2⟩ | ⟨g, cap, h1, _⟩
  · exact ⟨none, 0, by rw [h1, h2]; rfl⟩
  · exact ⟨_, _, h1⟩
theorem Bx3.made (w : World) (x y z : Value) (t : TypeId) : Bx3 (w.alloc (Obj.cells #[x, y, z] t)) w.heap.size x y z :=
  ⟨by simp [go_sem], by simp [go_sem], by simp [go_sem], World.frozen?_alloc_at _ _ _ 0 rfl, World.frozen?_alloc_at _ _ _ 1 rfl, World.frozen?_alloc_at _ _ _ 2 rfl, by simp⟩
theorem below_put3 {w w' : World} {B n : Nat} {a b c : Value} (h : Below B w w') (hn : B ≤ n) : Below B w (((w'.setCell ⟨n, 0, none⟩ a).setCell ⟨n, 1, none⟩ b).setCell ⟨n, 2, none⟩ c) := ((h.setCell hn _).setCell hn _).setCell hn _
set_option maxRecDepth 100000 in
set_option maxHeartbeats 4000000 in
theorem iCombTimes (p : Int) (x y z v : Value) (X Y Z L : List Int) (w : World) (hp : isP p = true) (hx : Elr w x p X) (hy : Elr w y p Y) (hz : Elr w z p Z) (hv : Elr w v p L) (eX : AllE p X) (eY : AllE p Y) (eZ : AllE p Z) (eL : AllE p L) (lX : X.length ≤ 300) (lY : Y.length ≤ 300) (lZ : Z.length ≤ 300) (lL : L.length ≤ 50) :
    Calls Try.prog 121 #[.agg #[x, y, z], v] w fun e w' => ∃ a b c, e = .returned (.agg #[a, b, c]) ∧ RowE w' w.heap.size a p (mlU p X L) ∧ RowE w' w.heap.size b p (mlU p Y L) ∧ RowE w' w.heap.size c p (mlU p Z L) ∧ Below w.heap.size w w' := by
  have H1 := Lib.hid (fun w' (hb : Below w.heap.size w w') => iTimesL p x v X L w' hp (hx.below hb) (hv.below hb) eX eL (by omega) (by omega))
  have H2 := Lib.hid (fun w' (hb : Below w.heap.size w w') => iTimesL p y v Y L w' hp (hy.below hb) (hv.below hb) eY eL (by omega) (by omega))
  have H3 := Lib.hid (fun w' (hb : Below w.heap.size w w') => iTimesL p z v Z L w' hp (hz.below hb) (hv.below hb) eZ eL (by omega) (by omega))
  obtain ⟨ax, cx, rfl⟩ := hx.form
  obtain ⟨ay, cy, rfl⟩ := hy.form
  obtain ⟨az, cz, rfl⟩ := hz.form
  clear hx hy hz hv eX eY eZ eL hp
  go_enter Try.func121, Try.ntmps121
  go_upto_region 1 with fail
  obtain ⟨W, hW⟩ : ∃ W, W = (w.alloc (Obj.cells #[.slice ax X.length cx, .slice ay Y.length cy, .slice az Z.length cz] 77)).alloc (Obj.cells #[.slice none 0 0, .slice none 0 0, .slice none 0 0] 77) := ⟨_, rfl⟩
  rw [← hW]
  have b1 : Below w.heap.size w (w.alloc (Obj.cells #[.slice ax X.length cx, .slice ay Y.length cy, .slice az Z.length cz] 77)) := Below.alloc (Below.refl _ _) (Nat.le_refl _) _
  have s1 : (w.alloc (Obj.cells #[.slice ax X.length cx, .slice ay Y.length cy, .slice az Z.length cz] 77)).heap.size = w.heap.size + 1 := by simp
  have b2 : Below (w.heap.size + 1) (w.alloc (Obj.cells #[.slice ax X.length cx, .slice ay Y.length cy, .slice az Z.length cz] 77)) W := by rw [hW]; exact Below.alloc (Below.refl _ _) (by rw [s1]; exact Nat.le_refl _) _
  have hB := Lib.hid (b1.trans (b2.mono (by omega)))
  have B1 : Bx3 W w.heap.size (.slice ax X.length cx) (.slice ay Y.length cy) (.slice az Z.length cz) := (Bx3.made _ _ _ _ _).below (by rw [s1]; exact b2)
  have B2 : Bx3 W (w.heap.size + 1) (.slice none 0 0) (.slice none 0 0) (.slice none 0 0) := by rw [hW, ← s1]; exact Bx3.made _ _ _ _ _
  have HB1 := Lib.hid B1
  have HB2 := Lib.hid B2
  obtain ⟨r, hr⟩ : ∃ r, r = w.heap.size + 1 := ⟨_, rfl⟩
  have HRR := Lib.hid hr
  rw [← hr] at HB2
  try rw [← hr]
  clear hW b1 b2 s1 B1 B2 hr
  have HKP := Lib.hid (fun w' (hb' : Below W.heap.size W w') => show w'.cell? ⟨w.heap.size, 0, none⟩ = some (.slice ax X.length cx) ∧ w'.cell? ⟨w.heap.size, 1, none⟩ = some (.slice ay Y.length cy) ∧ w'.cell? ⟨w.heap.size, 2, none⟩ = some (.slice az Z.length cz) from
    ⟨(HB1.out.below hb').c0, (HB1.out.below hb').c1, (HB1.out.below hb').c2⟩)
  refine wp_region_seq [(0, true), (1, true), (2, true), (4, true), (5, true), (6, true), (8, true), (9, true), (10, true), (3, false), (7, false), (11, false), (12, true)] (fun w' => w'.cell? ⟨w.heap.size, 0, none⟩ = some (.slice ax X.length cx) ∧ w'.cell? ⟨w.heap.size, 1, none⟩ = some (.slice ay Y.length cy) ∧ w'.cell? ⟨w.heap.size, 2, none⟩ = some (.slice az Z.length cz)) (by kernel_rfl) (by kernel_rfl) rfl (by first | (intro c a d v w h; cases d <;> exact h) | (rintro c a d v w ⟨h, _⟩; cases h)) (HKP.out _ (Below.drew (Below.refl _ _))) ?_
  iterate 9 (refine wpSeq_take (v := ?_) (List.getElem?_toArray.trans rfl) ?_ ?_; rotate_left; (intro w' hSw; (try dsimp only at hSw); go_simp; (try with_reducible rfl)); (try simp only [Act.put, List.setIfInBounds_toArray, List.set_cons_zero, List.set_cons_succ]))
  refine wpSeq_do (List.getElem?_toArray.trans rfl) (fun K hK => ?_)
  go_simp
  refine (H1.out _ (hB.out.trans ((Below.drew (Below.refl _ _)).mono hB.out.size))).mono ?_
  rintro e w6 ⟨u6, rfl, hu6, hb6⟩
  have B6 := Lib.hid (show Below W.heap.size W w6 from (Below.drew (Below.refl _ _)).trans (hb6.mono (by simp)))
  obtain ⟨b6, d6, rfl⟩ := hu6.form
  have X6 := Lib.hid (hu6.base (show r + 1 ≤ _ from Nat.succ_le_of_lt (by have := HB2.out.sz; simpa using this)))
  refine hK _ _ (HKP.out _ B6.out) ?_
  clear hK K hu6 hb6
  refine wpSeq_do (List.getElem?_toArray.trans rfl) (fun K hK => ?_)
  go_simp
  refine (H2.out _ (hB.out.trans (B6.out.mono hB.out.size))).mono ?_
  rintro e w7 ⟨u7, rfl, hu7, hb7⟩
  have B7 := Lib.hid (B6.out.trans (hb7.mono B6.out.size))
  obtain ⟨b7, d7, rfl⟩ := hu7.form
  have X7 := Lib.hid (And.intro (X6.out.below hb7) (hu7.base (show r + 1 ≤ _ from Nat.le_trans HB2.out.sz B6.out.size)))
  refine hK _ _ (HKP.out _ B7.out) ?_
  clear hK K hu7 hb7
  refine wpSeq_do (List.getElem?_toArray.trans rfl) (fun K hK => ?_)
  go_simp
  refine (H3.out _ (hB.out.trans (B7.out.mono hB.out.size))).mono ?_
  rintro e w8 ⟨u8, rfl, hu8, hb8⟩
  have B8 := Lib.hid (B7.out.trans (hb8.mono B7.out.size))
  obtain ⟨b8, d8, rfl⟩ := hu8.form
  have X8 := Lib.hid (And.intro (X7.out.1.below hb8) (And.intro (X7.out.2.below hb8) (hu8.base (show r + 1 ≤ _ from Nat.le_trans HB2.out.sz B7.out.size))))
  refine hK _ _ (HKP.out _ B8.out) ?_
  clear hK K hu8 hb8
  (refine wpSeq_take (v := ?_) (List.getElem?_toArray.trans rfl) ?_ ?_; rotate_left; (intro w' hSw; (try dsimp only at hSw); go_simp; (try with_reducible rfl)); (try simp only [Act.put, List.setIfInBounds_toArray, List.set_cons_zero, List.set_cons_succ]))
  refine wpSeq_nil ?_
  simp only [Exit.then]
  obtain ⟨M1, hM1⟩ : ∃ M, M = mlU p X L := ⟨_, rfl⟩
  obtain ⟨M2, hM2⟩ : ∃ M, M = mlU p Y L := ⟨_, rfl⟩
  obtain ⟨M3, hM3⟩ : ∃ M, M = mlU p Z L := ⟨_, rfl⟩
  rw [← hM1, ← hM2, ← hM3] at X8 ⊢
  have R8 := Lib.hid (HB2.out.below B8.out)
  have HZ := Lib.hid (below_put3 (a := .slice b6 M1.length d6) (b := .slice b7 M2.length d7) (c := .slice b8 M3.length d8) (hB.out.trans (B8.out.mono hB.out.size)) (show w.heap.size ≤ r by have := HRR.out; omega))
  have HZ2 := Lib.hid (R8.out.put (.slice b6 M1.length d6) (.slice b7 M2.length d7) (.slice b8 M3.length d8))
  have X9 := Lib.hid (show RowE _ w.heap.size (.slice b6 M1.length d6) p M1 ∧ RowE _ w.heap.size (.slice b7 M2.length d7) p M2 ∧ RowE _ w.heap.size (.slice b8 M3.length d8) p M3 from
    ⟨(X8.out.1.far3 (a := .slice b6 M1.length d6) (b := .slice b7 M2.length d7) (c := .slice b8 M3.length d8) (Nat.lt_succ_self r)).base (by have := HRR.out; omega), (X8.out.2.1.far3 (a := .slice b6 M1.length d6) (b := .slice b7 M2.length d7) (c := .slice b8 M3.length d8) (Nat.lt_succ_self r)).base (by have := HRR.out; omega), (X8.out.2.2.far3 (a := .slice b6 M1.length d6) (b := .slice b7 M2.length d7) (c := .slice b8 M3.length d8) (Nat.lt_succ_self r)).base (by have := HRR.out; omega)⟩)
  obtain ⟨e0, e1, e2, g0, g1, g2, gs⟩ := R8.out
  have HM := Lib.hid (And.intro hM1 (And.intro hM2 hM3))
  clear hM1 hM2 hM3
  go_wp2_with fail
  have t0 := HZ2.out.c0
  have t1 := HZ2.out.c1
  have t2 := HZ2.out.c2
  refine bodyPost_ret (v := .agg #[.slice b6 M1.length d6, .slice b7 M2.length d7, .slice b8 M3.length d8]) (by simp [results, Try.results121, go_sem, t0, t1, t2]) rfl ⟨_, _, _, rfl, by rw [← HM.out.1]; exact X9.out.1, by rw [← HM.out.2.1]; exact X9.out.2.1, by rw [← HM.out.2.2]; exact X9.out.2.2, HZ.out⟩
end Go.Proofs.Ytfmpcniehgipfaa
namespace Go.Proofs.Ytfmpcniehgipfaa
set_option linter.unusedVariables false
open Go.RowKit
theorem RowE.one (w : World) {B : Nat} (p x : Int) (hB : B ≤ w.heap.size) : RowE (w.alloc (.cells #[.int .i64 p, .int .i64 x] 61)) B (.slice (some ⟨w.heap.size, 0, none⟩) 1 1) p [x] :=
  World.ownsRow_lit (size := 2) w #[.int .i64 p, .int .i64 x] 1 hB (by unfold maxLen; omega) rfl
/-- a slice that reads as elements, in a block that is none of some -/
def OffE (K : Nat → Prop) (w : World) (v : Value) (p : Int) (L : List Int) : Prop :=
  L.length ≤ 1000 ∧ ∃ a cap, v = .slice a L.length cap ∧ (L.length ≤ cap ∧ cap ≤ maxLen) ∧ ((a = none ∧ cap = 0 ∧ L = []) ∨ ∃ g off, a = some ⟨g, off, none⟩ ∧ ¬ K g ∧ g < w.heap.size ∧ ∀ j, j < L.length → w.cell? ⟨g, off + j * 2, none⟩ = some (.int .i64 p) ∧ w.cell? ⟨g, off + j * 2 + 1, none⟩ = some (.int .i64 (cf L j)))
theorem OffE.elr {K : Nat → Prop} {w : World} {v : Value} {p : Int} {L : List Int} (h : OffE K w v p L) : Elr w v p L := by
  obtain ⟨h1, a, cap, hv, hk, h2⟩ := h
  refine ⟨by omega, a, cap, hv, hk, ?_⟩
  rcases h2 with h2 | ⟨g, off, ha, _, hg, hc⟩
  · exact .inl h2
  · exact .inr ⟨g, off, ha, hg, hc⟩
theorem OffE.form {K : Nat → Prop} {w : World} {v : Value} {p : Int} {L : List Int} (h : OffE K w v p L) : ∃ a c, v = .slice a L.length c := by
  obtain ⟨_, a, cap, hv, _⟩ := h
  exact ⟨a, cap, hv⟩
theorem OffE.below {K : Nat → Prop} {w w' : World} {v : Value} {p : Int} {L : List Int} (h : OffE K w v p L) (hb : Below w.heap.size w w') : OffE K w' v p L := by
  obtain ⟨h1, a, cap, hv, hk, h2⟩ := h
  refine ⟨h1, a, cap, hv, hk, ?_⟩
  rcases h2 with h2 | ⟨g, off, ha, hn, hg, hc⟩
  · exact .inl h2
  · exact .inr ⟨g, off, ha, hn, Nat.lt_of_lt_of_le hg hb.size, fun j hj => ⟨(hb.cell (p := ⟨g, off + j * 2, none⟩) hg).trans (hc j hj).1, (hb.cell (p := ⟨g, off + j * 2 + 1, none⟩) hg).trans (hc j hj).2⟩⟩
theorem OffE.setCell {K : Nat → Prop} {w : World} {v u : Value} {p : Int} {L : List Int} {n i : Nat} (h : OffE K w v p L) (hn : K n) : OffE K (w.setCell ⟨n, i, none⟩ u) v p L := by
  obtain ⟨h1, a, cap, hv, hk, h2⟩ := h
  refine ⟨h1, a, cap, hv, hk, ?_⟩
  rcases h2 with h2 | ⟨g, off, ha, hng, hg, hc⟩
  · exact .inl h2
  · have ne : ∀ d, (⟨n, i, none⟩ : Addr) ≠ ⟨g, d, none⟩ := fun d e => hng (by have := congrArg Addr.block e; simp at this; rw [← this]; exact hn)
    exact .inr ⟨g, off, ha, hng, by simpa using hg, fun j hj => ⟨by rw [World.cell?_setCell_other _ _ _ _ (ne _)]; exact (hc j hj).1, by rw [World.cell?_setCell_other _ _ _ _ (ne _)]; exact (hc j hj).2⟩⟩
theorem OffE.set3 {K : Nat → Prop} {w : World} {n : Nat} {v a b c : Value} {p : Int} {L : List Int} (h : OffE K w v p L) (hn : K n) : OffE K (((w.setCell ⟨n, 0, none⟩ a).setCell ⟨n, 1, none⟩ b).setCell ⟨n, 2, none⟩ c) v p L := ((h.setCell hn).setCell hn).setCell hn
theorem Elr.offE {w : World} {v : Value} {p : Int} {L : List Int} (h : Elr w v p L) (hl : L.length ≤ 1000) {K : Nat → Prop} (hK : ∀ g, g < w.heap.size → ¬ K g) : OffE K w v p L := by
  obtain ⟨_, a, cap, hv, hk, h2⟩ := h
  refine ⟨hl, a, cap, hv, hk, ?_⟩
  rcases h2 with h2 | ⟨g, off, ha, hg, hc⟩
  · exact .inl h2
  · exact .inr ⟨g, off, ha, hK g hg, hg, hc⟩
theorem RowE.offE {w : World} {B : Nat} {v : Value} {p : Int} {L : List Int} (h : RowE w B v p L) (hl : L.length ≤ 1000) {K : Nat → Prop} (hK : ∀ g, B ≤ g → g < w.heap.size → ¬ K g) : OffE K w v p L := by
  have he := h.elr (by omega)
  obtain ⟨_, a, cap, hv, hk, h2⟩ := he
  refine ⟨hl, a, cap, hv, hk, ?_⟩
  rcases h2 with h2 | ⟨g, off, ha, hg, hc⟩
  · exact .inl h2
  · refine .inr ⟨g, off, ha, hK g ?_ hg, hg, hc⟩
    exact (World.ownsRow.lt h g (by rw [hv, ha]; rfl)).1
set_option maxRecDepth 100000 in
set_option maxHeartbeats 4000000 in
theorem iMonicF (p : Int) (v : Value) (L : List Int) (w : World) (hp : isP p = true) (h : Elr w v p L) (hE : AllE p L) (hc : Can L) (h0 : 0 < L.length) (hl : L.length ≤ 400) :
    Calls Try.prog 122 #[v] w fun e w' => ∃ u, e = .returned u ∧ RowE w' w.heap.size u p [ivL p L] ∧ Below w.heap.size w w' := by
  obtain ⟨q1, q2⟩ := isP_bd hp
  obtain ⟨i0, hi, hz0, hz1, hz2⟩ := info_parts infoE
  have hlast := can_last hc hE h0
  obtain ⟨iv, hivv⟩ : ∃ iv, iv = ivL p L := ⟨_, rfl⟩
  rw [← hivv]
  obtain ⟨g, off, cap, rfl, hk, hg, hcc⟩ := h.some h0
  obtain ⟨m, hm⟩ : ∃ m, L.length = m + 1 := ⟨L.length - 1, by omega⟩
  obtain ⟨lc0, lc1⟩ := hcc m (by omega)
  obtain ⟨z, hz⟩ : ∃ z, z = cf L m := ⟨_, rfl⟩
  have hzl : z = cf L (L.length - 1) := by rw [hz, show L.length - 1 = m by omega]
  have HINV := Lib.hid (show ∀ w, Calls Try.prog 86 #[(.agg #[.int .i64 (p), .int .i64 (z)])] w fun e w' => e = .returned (.tuple #[(.agg #[.int .i64 (p), .int .i64 (iv)]), .bool true]) ∧ Below w.heap.size w w' from by
    intro w
    rw [← invT_ok hp (by rw [hzl]; exact hlast.1) (by rw [hzl]; exact hlast.2) (show iv = ivV p z by rw [hivv, hzl]; rfl)]
    exact iInv p z hp (by rw [hzl]; exact Int.le_of_lt hlast.1) (by rw [hzl]; exact hlast.2) w)
  rw [← hz] at lc1
  obtain ⟨N, hN⟩ : ∃ N, N = L.length := ⟨_, rfl⟩
  rw [← hN] at hm ⊢
  have hNl : (N : Int) ≤ 400 := by omega
  have hwi : IntKind.i64.wrap ((N : Int) - 1) = (m : Int) := (IntWalk.i64_in _ (by omega)).trans (by omega)
  have hsub : (N : Int) - 1 = (m : Int) := by omega
  have hm0 : (0 : Int) ≤ (m : Int) := by omega
  have hmlt : (m : Int) < (N : Int) := by omega
  have hne0 : ((N : Int) == 0) = false := beq_eq_false_iff_ne.2 (by omega)
  have hnz : ¬ (N : Int) = 0 := by omega
  clear hm hN hp h hE hc h0 hl hlast hivv hcc hz hzl
  go_enter Try.func122, Try.ntmps122
  go_wp2_with fail
  refine (HINV.out _).mono ?_
  rintro e w3 ⟨rfl, hb3⟩
  have HB3 := Lib.hid hb3
  clear hb3
  go_wp2_with fail
  refine bodyPost_ret (v := .slice (some ⟨w3.heap.size + 1, 0, none⟩) 1 1) (by simp [results, Try.results122, go_sem]) rfl ⟨_, rfl, ?_, ?_⟩
  · have h1 := RowE.one (w3.alloc (.cells #[.int .i64 p, .int .i64 iv] 61)) (B := w.heap.size) p iv (by have := HB3.out.size; simp; omega)
    simpa using h1
  · exact Below.alloc (Below.alloc HB3.out HB3.out.size _) (by have := HB3.out.size; simp; omega) _
end Go.Proofs.Ytfmpcniehgipfaa
namespace Go.Proofs.Ytfmpcniehgipfaa
set_option linter.unusedVariables false
open Go.RowKit
set_option maxRecDepth 100000 in
set_option maxHeartbeats 4000000 in
theorem iWithout (p : Int) (x y z x' y' z' v : Value) (X Y Z X' Y' Z' L : List Int) (w : World) (hp : isP p = true) (hx : Elr w x p X) (hy : Elr w y p Y) (hz : Elr w z p Z) (hx' : Elr w x' p X') (hy' : Elr w y' p Y') (hz' : Elr w z' p Z') (hv : Elr w v p L) (eX : AllE p X) (eY : AllE p Y) (eZ : AllE p Z) (eX' : AllE p X') (eY' : AllE p Y') (eZ' : AllE p Z') (eL : AllE p L) (lX : X.length ≤ 300) (lY : Y.length ≤ 300) (lZ : Z.length ≤ 300) (lX' : X'.length ≤ 300) (lY' : Y'.length ≤ 300) (lZ' : Z'.length ≤ 300) (lL : L.length ≤ 50) :
    Calls Try.prog 120 #[.agg #[x, y, z], .agg #[x', y', z'], v] w fun e w' => ∃ a b c, e = .returned (.agg #[a, b, c]) ∧ RowE w' w.heap.size a p (addL p X (mlU p X' (negL p L))) ∧ RowE w' w.heap.size b p (addL p Y (mlU p Y' (negL p L))) ∧ RowE w' w.heap.size c p (addL p Z (mlU p Z' (negL p L))) ∧ Below w.heap.size w w' := by
  have q1 := (isP_bd hp).1
  have HMI := Lib.hid (fun w' (hb : Below w.heap.size w w') => iMinusL p v L w' hp (hv.below hb) eL (by omega))
  have eN : AllE p (negL p L) := negL_allE (by omega) L
  have lN : (negL p L).length ≤ 50 := by rw [negL_len]; exact lL
  obtain ⟨N, hN⟩ : ∃ N, N = negL p L := ⟨_, rfl⟩
  rw [← hN] at HMI eN lN
  have len : ∀ A : List Int, A.length ≤ 300 → (mlU p A N).length ≤ 400 := fun A h => by rw [mlU_len]; split <;> omega
  have eM : ∀ A : List Int, AllE p (mlU p A N) := fun A => mlU_allE (by omega) _ _
  have M1 := Lib.hid (fun u w' (hb : Below w.heap.size w w') (hu : Elr w' u p N) => iTimesL p x' u X' N w' hp (hx'.below hb) hu eX' eN (by omega) (by omega))
  have M2 := Lib.hid (fun u w' (hb : Below w.heap.size w w') (hu : Elr w' u p N) => iTimesL p y' u Y' N w' hp (hy'.below hb) hu eY' eN (by omega) (by omega))
  have M3 := Lib.hid (fun u w' (hb : Below w.heap.size w w') (hu : Elr w' u p N) => iTimesL p z' u Z' N w' hp (hz'.below hb) hu eZ' eN (by omega) (by omega))
  have P1 := Lib.hid (fun u w' (hb : Below w.heap.size w w') (hu : Elr w' u p (mlU p X' N)) => iPlusL p x u X (mlU p X' N) w' hp (hx.below hb) hu eX (eM X') (by omega) (by have := len X' lX'; omega))
  have P2 := Lib.hid (fun u w' (hb : Below w.heap.size w w') (hu : Elr w' u p (mlU p Y' N)) => iPlusL p y u Y (mlU p Y' N) w' hp (hy.below hb) hu eY (eM Y') (by omega) (by have := len Y' lY'; omega))
  have P3 := Lib.hid (fun u w' (hb : Below w.heap.size w w') (hu : Elr w' u p (mlU p Z' N)) => iPlusL p z u Z (mlU p Z' N) w' hp (hz.below hb) hu eZ (eM Z') (by omega) (by have := len Z' lZ'; omega))
  have HLM := Lib.hid (And.intro (len X' lX') (And.intro (len Y' lY') (len Z' lZ')))
  rw [← hN]
  have HNL := Lib.hid (show N.length ≤ 50 from lN)
  obtain ⟨ax, cx, rfl⟩ := hx.form
  obtain ⟨ay, cy, rfl⟩ := hy.form
  obtain ⟨az, cz, rfl⟩ := hz.form
  obtain ⟨bx, dx, rfl⟩ := hx'.form
  obtain ⟨by_, dy, rfl⟩ := hy'.form
  obtain ⟨bz, dz, rfl⟩ := hz'.form
  clear hx hy hz hx' hy' hz' hv eX eY eZ eX' eY' eZ' eL hp eN eM len lN hN
  go_enter Try.func120, Try.ntmps120
  go_upto_region 1 with fail
  obtain ⟨W1, hW1⟩ : ∃ W, W = w.alloc (Obj.cells #[.slice ax X.length cx, .slice ay Y.length cy, .slice az Z.length cz] 77) := ⟨_, rfl⟩
  obtain ⟨W2, hW2⟩ : ∃ W, W = W1.alloc (Obj.cells #[.slice bx X'.length dx, .slice by_ Y'.length dy, .slice bz Z'.length dz] 77) := ⟨_, rfl⟩
  obtain ⟨W, hW⟩ : ∃ W, W = W2.alloc (Obj.cells #[.slice none 0 0, .slice none 0 0, .slice none 0 0] 77) := ⟨_, rfl⟩
  rw [← hW1, ← hW2, ← hW]
  have s1 : W1.heap.size = w.heap.size + 1 := by rw [hW1]; simp
  have s2 : W2.heap.size = w.heap.size + 1 + 1 := by rw [hW2]; simp [s1]
  have b1 : Below w.heap.size w W1 := by rw [hW1]; exact Below.alloc (Below.refl _ _) (Nat.le_refl _) _
  have b2 : Below W1.heap.size W1 W2 := by rw [hW2]; exact Below.alloc (Below.refl _ _) (Nat.le_refl _) _
  have b3 : Below W2.heap.size W2 W := by rw [hW]; exact Below.alloc (Below.refl _ _) (Nat.le_refl _) _
  have hB := Lib.hid ((b1.trans (b2.mono b1.size)).trans (b3.mono (Nat.le_trans b1.size b2.size)))
  have B1 : Bx3 W w.heap.size (.slice ax X.length cx) (.slice ay Y.length cy) (.slice az Z.length cz) := ((show Bx3 W1 w.heap.size (.slice ax X.length cx) (.slice ay Y.length cy) (.slice az Z.length cz) from by rw [hW1]; exact Bx3.made _ _ _ _ _).below b2).below b3
  have B2 : Bx3 W (w.heap.size + 1) (.slice bx X'.length dx) (.slice by_ Y'.length dy) (.slice bz Z'.length dz) := (show Bx3 W2 (w.heap.size + 1) (.slice bx X'.length dx) (.slice by_ Y'.length dy) (.slice bz Z'.length dz) from by rw [hW2, ← s1]; exact Bx3.made _ _ _ _ _).below b3
  have B3 : Bx3 W (w.heap.size + 1 + 1) (.slice none 0 0) (.slice none 0 0) (.slice none 0 0) := by rw [hW, ← s2]; exact Bx3.made _ _ _ _ _
  obtain ⟨r3, hr3⟩ : ∃ r, r = w.heap.size + 1 + 1 := ⟨_, rfl⟩
  rw [← hr3] at B3
  try rw [← hr3]
  obtain ⟨r2, hr2⟩ : ∃ r, r = w.heap.size + 1 := ⟨_, rfl⟩
  rw [← hr2] at B2
  try rw [← hr2]
  have HRR := Lib.hid (show w.heap.size ≤ r3 ∧ True from ⟨by omega, trivial⟩)
  have HB1 := Lib.hid B1
  have HB2 := Lib.hid B2
  have HB3 := Lib.hid B3
  clear hW1 hW2 hW s1 s2 b1 b2 b3 B1 B2 B3 hr2 hr3
  go_wp2_with fail
  refine (HMI.out _ hB.out).mono ?_
  rintro e w5 ⟨u5, rfl, hu5, hb5⟩
  have B5 := Lib.hid (show Below w.heap.size w w5 from hB.out.trans (hb5.mono hB.out.size))
  have U5 := Lib.hid (hu5.elr (by have := HNL.out; omega))
  have K1 := Lib.hid (HB1.out.below hb5)
  have K2 := Lib.hid (HB2.out.below hb5)
  have K3 := Lib.hid (HB3.out.below hb5)
  have HKP := Lib.hid (fun w' (hb' : Below w5.heap.size w5 w') => show w'.cell? ⟨w.heap.size, 0, none⟩ = some (.slice ax X.length cx) ∧ w'.cell? ⟨w.heap.size, 1, none⟩ = some (.slice ay Y.length cy) ∧ w'.cell? ⟨w.heap.size, 2, none⟩ = some (.slice az Z.length cz) ∧ w'.cell? ⟨r2, 0, none⟩ = some (.slice bx X'.length dx) ∧ w'.cell? ⟨r2, 1, none⟩ = some (.slice by_ Y'.length dy) ∧ w'.cell? ⟨r2, 2, none⟩ = some (.slice bz Z'.length dz) from
    ⟨(K1.out.below hb').c0, (K1.out.below hb').c1, (K1.out.below hb').c2, (K2.out.below hb').c0, (K2.out.below hb').c1, (K2.out.below hb').c2⟩)
  clear hu5 hb5 HB1 HB2 HB3 hB
  go_wp2_with fail
  refine wp_region_seq [(0, true), (1, true), (2, true), (3, true), (4, true), (7, true), (8, true), (9, true), (10, true), (11, true), (14, true), (15, true), (16, true), (17, true), (18, true), (5, false), (6, false), (12, false), (13, false), (19, false), (20, false), (21, true)] (fun w' => w'.cell? ⟨w.heap.size, 0, none⟩ = some (.slice ax X.length cx) ∧ w'.cell? ⟨w.heap.size, 1, none⟩ = some (.slice ay Y.length cy) ∧ w'.cell? ⟨w.heap.size, 2, none⟩ = some (.slice az Z.length cz) ∧ w'.cell? ⟨r2, 0, none⟩ = some (.slice bx X'.length dx) ∧ w'.cell? ⟨r2, 1, none⟩ = some (.slice by_ Y'.length dy) ∧ w'.cell? ⟨r2, 2, none⟩ = some (.slice bz Z'.length dz)) (by kernel_rfl) (by kernel_rfl) rfl (by first | (intro c a d v w h; cases d <;> exact h) | (rintro c a d v w ⟨h, _⟩; cases h)) (HKP.out _ (Below.drew (Below.refl _ _))) ?_
  iterate 15 (refine wpSeq_take (v := ?_) (List.getElem?_toArray.trans rfl) ?_ ?_; rotate_left; (intro w' hSw; (try dsimp only at hSw); go_simp; (try with_reducible rfl)); (try simp only [Act.put, List.setIfInBounds_toArray, List.set_cons_zero, List.set_cons_succ]))
  have bB := Lib.hid (show Below w5.heap.size w5 w5.drew from Below.drew (Below.refl _ _))
  refine wpSeq_do (List.getElem?_toArray.trans rfl) (fun K hK => ?_)
  go_simp
  refine (M1.out _ _ (B5.out.trans (bB.out.mono B5.out.size)) (U5.out.below bB.out)).mono ?_
  rintro e w6 ⟨u6, rfl, hu, hb⟩
  have Xu6 := Lib.hid (hu.elr (by have := HLM.out; omega))
  replace bB := Lib.hid (bB.out.trans (hb.mono bB.out.size))
  refine hK _ _ (HKP.out _ bB.out) ?_
  clear hK K hu hb
  refine wpSeq_do (List.getElem?_toArray.trans rfl) (fun K hK => ?_)
  go_simp
  refine (P1.out _ _ (B5.out.trans (bB.out.mono B5.out.size)) Xu6.out).mono ?_
  rintro e w7 ⟨u7, rfl, hu, hb⟩
  obtain ⟨au7, cu7, rfl⟩ := hu.form
  have Yu7 := Lib.hid (And.intro (hu.base (show r3 + 1 ≤ _ from Nat.le_trans K3.out.sz bB.out.size)) trivial)
  replace bB := Lib.hid (bB.out.trans (hb.mono bB.out.size))
  refine hK _ _ (HKP.out _ bB.out) ?_
  clear hK K hu hb
  refine wpSeq_do (List.getElem?_toArray.trans rfl) (fun K hK => ?_)
  go_simp
  refine (M2.out _ _ (B5.out.trans (bB.out.mono B5.out.size)) (U5.out.below bB.out)).mono ?_
  rintro e w8 ⟨u8, rfl, hu, hb⟩
  have Xu8 := Lib.hid (hu.elr (by have := HLM.out; omega))
  replace Yu7 := Lib.hid (And.intro (Yu7.out.1.below hb) trivial)
  replace bB := Lib.hid (bB.out.trans (hb.mono bB.out.size))
  refine hK _ _ (HKP.out _ bB.out) ?_
  clear hK K hu hb
  refine wpSeq_do (List.getElem?_toArray.trans rfl) (fun K hK => ?_)
  go_simp
  refine (P2.out _ _ (B5.out.trans (bB.out.mono B5.out.size)) Xu8.out).mono ?_
  rintro e w9 ⟨u9, rfl, hu, hb⟩
  obtain ⟨au9, cu9, rfl⟩ := hu.form
  have Yu9 := Lib.hid (And.intro (hu.base (show r3 + 1 ≤ _ from Nat.le_trans K3.out.sz bB.out.size)) (Yu7.out.1.below hb))
  replace bB := Lib.hid (bB.out.trans (hb.mono bB.out.size))
  refine hK _ _ (HKP.out _ bB.out) ?_
  clear hK K hu hb
  refine wpSeq_do (List.getElem?_toArray.trans rfl) (fun K hK => ?_)
  go_simp
  refine (M3.out _ _ (B5.out.trans (bB.out.mono B5.out.size)) (U5.out.below bB.out)).mono ?_
  rintro e w10 ⟨u10, rfl, hu, hb⟩
  have Xu10 := Lib.hid (hu.elr (by have := HLM.out; omega))
  replace Yu9 := Lib.hid (And.intro (Yu9.out.1.below hb) (Yu9.out.2.below hb))
  replace bB := Lib.hid (bB.out.trans (hb.mono bB.out.size))
  refine hK _ _ (HKP.out _ bB.out) ?_
  clear hK K hu hb
  refine wpSeq_do (List.getElem?_toArray.trans rfl) (fun K hK => ?_)
  go_simp
  refine (P3.out _ _ (B5.out.trans (bB.out.mono B5.out.size)) Xu10.out).mono ?_
  rintro e w11 ⟨u11, rfl, hu, hb⟩
  obtain ⟨au11, cu11, rfl⟩ := hu.form
  have Yu11 := Lib.hid (And.intro (hu.base (show r3 + 1 ≤ _ from Nat.le_trans K3.out.sz bB.out.size)) (And.intro (Yu9.out.1.below hb) (Yu9.out.2.below hb)))
  replace bB := Lib.hid (bB.out.trans (hb.mono bB.out.size))
  refine hK _ _ (HKP.out _ bB.out) ?_
  clear hK K hu hb
  (refine wpSeq_take (v := ?_) (List.getElem?_toArray.trans rfl) ?_ ?_; rotate_left; (intro w' hSw; (try dsimp only at hSw); go_simp; (try with_reducible rfl)); (try simp only [Act.put, List.setIfInBounds_toArray, List.set_cons_zero, List.set_cons_succ]))
  refine wpSeq_nil ?_
  simp only [Exit.then]
  obtain ⟨D1, hD1⟩ : ∃ M, M = addL p X (mlU p X' N) := ⟨_, rfl⟩
  obtain ⟨D2, hD2⟩ : ∃ M, M = addL p Y (mlU p Y' N) := ⟨_, rfl⟩
  obtain ⟨D3, hD3⟩ : ∃ M, M = addL p Z (mlU p Z' N) := ⟨_, rfl⟩
  rw [← hD1, ← hD2, ← hD3] at Yu11
  rw [← hD1, ← hD2, ← hD3]
  have R8 := Lib.hid (K3.out.below bB.out)
  have HZ := Lib.hid (below_put3 (a := .slice au7 D1.length cu7) (b := .slice au9 D2.length cu9) (c := .slice au11 D3.length cu11) (B5.out.trans (bB.out.mono B5.out.size)) HRR.out.1)
  have HZ2 := Lib.hid (R8.out.put (.slice au7 D1.length cu7) (.slice au9 D2.length cu9) (.slice au11 D3.length cu11))
  have hw3 : w.heap.size ≤ r3 + 1 := by have := HRR.out.1; omega
  have X9 := Lib.hid (show RowE _ w.heap.size (.slice au7 D1.length cu7) p D1 ∧ RowE _ w.heap.size (.slice au9 D2.length cu9) p D2 ∧ RowE _ w.heap.size (.slice au11 D3.length cu11) p D3 from
    ⟨(Yu11.out.2.2.far3 (a := .slice au7 D1.length cu7) (b := .slice au9 D2.length cu9) (c := .slice au11 D3.length cu11) (Nat.lt_succ_self r3)).base hw3, (Yu11.out.2.1.far3 (a := .slice au7 D1.length cu7) (b := .slice au9 D2.length cu9) (c := .slice au11 D3.length cu11) (Nat.lt_succ_self r3)).base hw3, (Yu11.out.1.far3 (a := .slice au7 D1.length cu7) (b := .slice au9 D2.length cu9) (c := .slice au11 D3.length cu11) (Nat.lt_succ_self r3)).base hw3⟩)
  have HD := Lib.hid (And.intro hD1 (And.intro hD2 hD3))
  obtain ⟨e0, e1, e2, g0, g1, g2, gs⟩ := R8.out
  clear hD1 hD2 hD3
  go_wp2_with fail
  have t0 := HZ2.out.c0
  have t1 := HZ2.out.c1
  have t2 := HZ2.out.c2
  refine bodyPost_ret (v := .agg #[.slice au7 D1.length cu7, .slice au9 D2.length cu9, .slice au11 D3.length cu11]) (by simp [results, Try.results120, go_sem, t0, t1, t2]) rfl ⟨_, _, _, rfl, by first | exact X9.out.1 | (rw [← HD.out.1]; exact X9.out.1), by first | exact X9.out.2.1 | (rw [← HD.out.2.1]; exact X9.out.2.1), by first | exact X9.out.2.2 | (rw [← HD.out.2.2]; exact X9.out.2.2), HZ.out⟩
end Go.Proofs.Ytfmpcniehgipfaa
