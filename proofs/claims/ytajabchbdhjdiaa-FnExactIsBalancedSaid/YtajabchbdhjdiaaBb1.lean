/-
  count of the program: a range over the points that counts values in an array of a struct. Conditions: what the struct holds is known.
-/
import Derived.Test.YtajabchbdhjdiaaBa27
namespace Go.Proofs.Ytajabchbdhjdiaa
set_option linter.unusedVariables false
open Go.RowKit Go.Shelf
/-- how often each element is a value at the points of a list -/
def ctN (p : Int) (L : List Trm) (S : List (Int × Int × Int)) (a : Nat) : Int := ((S.filter fun t => evP p L t == (a : Int)).length : Nat)
theorem ctN_snoc (p : Int) (L : List Trm) (S : List (Int × Int × Int)) (t : Int × Int × Int) (a : Nat) : ctN p L (S ++ [t]) a = if evP p L t = (a : Int) then ctN p L S a + 1 else ctN p L S a := by
  unfold ctN
  rw [List.filter_append, List.length_append]
  by_cases h : evP p L t = (a : Int)
  · rw [if_pos h]; simp [h]
  · rw [if_neg h]; simp [h]
theorem ctN_bd (p : Int) (L : List Trm) (S : List (Int × Int × Int)) (a : Nat) : 0 ≤ ctN p L S a ∧ ctN p L S a ≤ S.length := by
  unfold ctN
  have := List.length_filter_le (fun t => evP p L t == (a : Int)) S
  omega
/-- the struct that counts: the prime, the polynomial, the words of its once, the counts -/
structure CpW (b : Nat) (W : World) (p : Int) (f : Value) (d s : Int) (C : Nat → Int) : Prop where
  cp : W.cell? ⟨b, 0, none⟩ = some (.int .i64 p)
  cf : W.cell? ⟨b, 1, none⟩ = some f
  cd : W.cell? ⟨b, 2, none⟩ = some (.int .u32 d)
  cs : W.cell? ⟨b, 3, none⟩ = some (.int .i32 s)
  cc : ∀ j, j < 13 → W.cell? ⟨b, 5 + j, none⟩ = some (.int .i64 (C j))
  fz : ∀ j, j < 18 → W.frozen? ⟨b, j, none⟩ = false
theorem CpW.heap {b : Nat} {W W' : World} {p : Int} {f : Value} {d s : Int} {C : Nat → Int} (h : CpW b W p f d s C) (e : W'.heap[b]? = W.heap[b]?) : CpW b W' p f d s C :=
  ⟨(cell_of_heap (p := ⟨b, 0, none⟩) e).trans h.cp, (cell_of_heap (p := ⟨b, 1, none⟩) e).trans h.cf, (cell_of_heap (p := ⟨b, 2, none⟩) e).trans h.cd, (cell_of_heap (p := ⟨b, 3, none⟩) e).trans h.cs,
    fun j hj => (cell_of_heap (p := ⟨b, 5 + j, none⟩) e).trans (h.cc j hj), fun j hj => (frozen_of_heap (p := ⟨b, j, none⟩) e).trans (h.fz j hj)⟩
theorem CpW.lt {b : Nat} {W : World} {p : Int} {f : Value} {d s : Int} {C : Nat → Int} (h : CpW b W p f d s C) : b < W.heap.size := World.block_lt_of_cell? _ ⟨b, 0, none⟩ h.cp
theorem CpW.grow {b B : Nat} {W W' : World} {p : Int} {f : Value} {d s : Int} {C : Nat → Int} (h : CpW b W p f d s C) (hg : GrowB B W W') : CpW b W' p f d s C := by
  obtain ⟨o, ho, hc⟩ := cells_of_cell h.cp
  exact h.heap ((hg.same b o ho (.inr hc)).trans ho.symm)
theorem CpW.count {b : Nat} {W : World} {p : Int} {f : Value} {d s : Int} {C : Nat → Int} (h : CpW b W p f d s C) {a : Nat} (ha : a < 13) (n : Int) : CpW b (W.setCell ⟨b, 5 + a, none⟩ (.int .i64 n)) p f d s (fun j => if j = a then n else C j) := by
  have ne : ∀ j : Nat, j ≠ 5 + a → (⟨b, 5 + a, none⟩ : Addr) ≠ ⟨b, j, none⟩ := fun j hj e => hj (by have := congrArg Addr.off e; simpa using this.symm)
  refine ⟨?_, ?_, ?_, ?_, fun j hj => ?_, fun j hj => by rw [World.frozen?_setCell]; exact h.fz j hj⟩
  · rw [World.cell?_setCell_other _ _ _ _ (ne 0 (by omega))]; exact h.cp
  · rw [World.cell?_setCell_other _ _ _ _ (ne 1 (by omega))]; exact h.cf
  · rw [World.cell?_setCell_other _ _ _ _ (ne 2 (by omega))]; exact h.cd
  · rw [World.cell?_setCell_other _ _ _ _ (ne 3 (by omega))]; exact h.cs
  · by_cases e : j = a
    · subst e
      rw [World.cell?_setCell_same _ _ _ (h.cc j hj), if_pos rfl]
    · rw [World.cell?_setCell_other _ _ _ _ (ne (5 + j) (by omega)), if_neg e]
      exact h.cc j hj
theorem CpW.ext {b : Nat} {W : World} {p : Int} {f : Value} {d s : Int} {C D : Nat → Int} (h : CpW b W p f d s C) (e : ∀ j, j < 13 → C j = D j) : CpW b W p f d s D :=
  ⟨h.cp, h.cf, h.cd, h.cs, fun j hj => by rw [← e j hj]; exact h.cc j hj, h.fz⟩
/-- one block -/
def T1 (b : Nat) (W : World) (k : Nat) : Prop := k < W.heap.size ∧ k = b
/-- only block b, and new ones -/
structure OneW (b : Nat) (W W' : World) : Prop where
  os : W'.os = W.os
  tape : W'.tape = W.tape
  output : W'.output = W.output
  size : W.heap.size ≤ W'.heap.size
  same : ∀ k, k < W.heap.size → k ≠ b → W'.heap[k]? = W.heap[k]?
theorem OneW.refl (b : Nat) (W : World) : OneW b W W := ⟨rfl, rfl, rfl, Nat.le_refl _, fun _ _ _ => rfl⟩
theorem OneW.trans {b : Nat} {W W1 W2 : World} (h : OneW b W W1) (k : OneW b W1 W2) : OneW b W W2 :=
  ⟨k.os.trans h.os, k.tape.trans h.tape, k.output.trans h.output, Nat.le_trans h.size k.size, fun i hi hn => (k.same i (Nat.lt_of_lt_of_le hi h.size) hn).trans (h.same i hi hn)⟩
theorem OneW.of_below {b : Nat} {W W' : World} (h : Below W.heap.size W W') : OneW b W W' := ⟨h.os, h.tape, h.output, h.size, fun k hk _ => h.block k hk⟩
theorem OneW.below {b B : Nat} {w W W' : World} (h : OneW b W W') (hw : Below B w W) (hB : B ≤ b) (hs : B ≤ W.heap.size) : Below B w W' :=
  ⟨h.os.trans hw.os, h.tape.trans hw.tape, h.output.trans hw.output, Nat.le_trans hw.size h.size, fun k hk => (h.same k (by omega) (by omega)).trans (hw.block k hk)⟩
theorem OneW.trms {b : Nat} {W W' : World} {a : Option Addr} {n c : Nat} {L : List Trm} (h : OneW b W W') (hw : Trms W (.slice a n c) L) (hl : L = [] ∨ ∀ g off, a = some ⟨g, off, none⟩ → g ≠ b) : Trms W' (.slice a n c) L := by
  obtain ⟨h1, a2, cap, hv, h2⟩ := hw
  cases hv
  refine ⟨h1, a, c, rfl, ?_⟩
  rcases hl with hl | hl
  · exact .inl hl
  rcases h2 with h2 | ⟨g, off, ha, hg, hc⟩
  · exact .inl h2
  · have e := h.same g hg (hl g off ha)
    refine .inr ⟨g, off, ha, Nat.lt_of_lt_of_le hg h.size, fun j hj => ?_⟩
    obtain ⟨q0, q1, q2, q3⟩ := hc j hj
    exact ⟨(cell_of_heap (p := ⟨g, off + j * 4, none⟩) e).trans q0, (cell_of_heap (p := ⟨g, off + j * 4 + 1, none⟩) e).trans q1, (cell_of_heap (p := ⟨g, off + j * 4 + 2, none⟩) e).trans q2, (cell_of_heap (p := ⟨g, off + j * 4 + 3, none⟩) e).trans q3⟩
theorem patX_el {P : Nat} {t : Int × Int × Int} (h : t ∈ patX P P) : (0 ≤ t.1 ∧ t.1 < P) ∧ (0 ≤ t.2.1 ∧ t.2.1 < P) ∧ (0 ≤ t.2.2 ∧ t.2.2 < P) := by
  unfold patX at h
  obtain ⟨x, hx, h⟩ := List.mem_flatMap.1 h
  unfold patY at h
  obtain ⟨y, hy, h⟩ := List.mem_flatMap.1 h
  unfold patZ at h
  obtain ⟨z, hz, rfl⟩ := List.mem_map.1 h
  have := List.mem_range.1 hx
  have := List.mem_range.1 hy
  have := List.mem_range.1 hz
  refine ⟨⟨?_, ?_⟩, ⟨?_, ?_⟩, ⟨?_, ?_⟩⟩ <;> (simp only; omega)
theorem evP_el {P : Nat} {L : List Trm} {t : Int × Int × Int} (hp : isP (P : Int) = true) (hV : validB P L = true) (h : t ∈ patX P P) : 0 ≤ evP P L t ∧ evP P L t < P := by
  obtain ⟨h1, h2, h3⟩ := patX_el h
  unfold evP evV
  have he : isE3 P t.1 t.2.1 t.2.2 = true := by
    simp only [isE3, Bool.and_eq_true]
    exact ⟨isE_iff.2 h1, isE_iff.2 h2, isE_iff.2 h3⟩
  rw [hp, hV, he]
  exact evK_bd hp _ _ _ L L.length
theorem T1.of {b : Nat} {A C : World} {k : Nat} (h : T1 b C k) (hb : b < A.heap.size) : T1 b A k := ⟨by rw [h.2]; exact hb, h.2⟩
attribute [local go_sem] Oper.semAt_some
set_option maxRecDepth 100000 in
set_option maxHeartbeats 8000000 in
theorem iCountP (P : Nat) (hp : isP (P : Int) = true) (b : Nat) (a : Option Addr) (c : Nat) (L : List Trm) (d s : Int) (w : World) (hV : validB P L = true) (h : CpW b w P (.slice a L.length c) d s (fun _ => 0)) (hT : Trms w (.slice a L.length c) L) (hne : L = [] ∨ ∀ g off, a = some ⟨g, off, none⟩ → g < b) :
    Calls Try.prog 126 #[.pointer (some ⟨b, 0, none⟩)] w fun e w' => e = .returned (.tuple #[]) ∧ CpW b w' P (.slice a L.length c) d s (ctN P L (patX P P)) ∧ OneW b w w' := by
  have hpb := isP_bd hp
  have hP13 : P ≤ 13 := by omega
  have HT := Lib.hid hT
  have HV := Lib.hid (And.intro hp hV)
  have HNE := Lib.hid hne
  have hbW := h.lt
  have HW := Lib.hid h
  obtain ⟨cp, cf, cd, cs, cc, fz⟩ := h
  clear hT hV hne hp cc fz cd cs
  refine (callsIn_wide (n := 40)).1 ?_
  refine callsIn_of_wp_marks Try.func126 rfl trivial ?_ rfl
  simp only [Try.ntmps126, List.size_toArray, List.length_cons, List.length_nil, Nat.reduceAdd, Nat.reduceSub, Array.replicate_succ, Array.replicate_zero, List.push_toArray, List.append_toArray, List.nil_append, List.cons_append]
  gi_wp2_with fail
  refine ⟨trivial, ?_⟩
  refine (all_val Fence.wide _ trivial rfl _ _).mono ?_
  rintro e w' ⟨rfl, rfl⟩
  gi_wp2_with fail
  obtain ⟨W0, hW0⟩ : ∃ W0, W0 = (w.alloc (Obj.cells #[.pointer (some ⟨b, 0, none⟩)] 138)).alloc (Obj.cells #[.int .i64 P] 3) := ⟨_, rfl⟩
  rw [← hW0]
  have s0 : W0.heap.size = w.heap.size + 2 := by rw [hW0]; simp
  have b0 : Below w.heap.size w W0 := by rw [hW0]; exact (by repeat (first | exact Below.refl _ _ | apply Below.drew | apply below_drewN | (refine Below.alloc ?_ (by first | omega | (simp <;> omega)) _)))
  have cq : W0.cell? ⟨w.heap.size, 0, none⟩ = some (.pointer (some ⟨b, 0, none⟩)) := by rw [hW0, World.cell?_alloc_past _ _ _ (by simp)]; exact World.cell?_alloc_at _ _ _ _ rfl
  have cP : W0.cell? ⟨w.heap.size + 1, 0, none⟩ = some (.int .i64 P) := by rw [hW0]; exact World.cell?_alloc_at _ _ _ _ (by simp)
  have HR := Lib.hid (HW.out.heap (b0.block b hbW))
  have HKB := Lib.hid (fun (Wx : World) (hx : KpV (T1 b) W0 Wx) => show Wx.cell? ⟨w.heap.size, 0, none⟩ = some (.pointer (some ⟨b, 0, none⟩)) ∧ OneW b w Wx from
    ⟨(cell_of_heap (p := ⟨w.heap.size, 0, none⟩) (hx.same _ (by show w.heap.size < _; omega) (fun q => by have h := q.2; (have : w.heap.size = b := h); omega))).trans cq,
      (OneW.of_below b0).trans ⟨hx.os, hx.tape, hx.output, hx.size, fun k hk hn => hx.same k hk (fun q => hn q.2)⟩⟩)
  clear hW0 b0 cq cp cf
  refine wpIn_rangeVals (enc := encP) (keep := fun k => k = w.heap.size + 1) (S := patX P P) (w0 := W0) rfl (by omega) (gf := 116) (lb := #[.pointer (some ⟨w.heap.size + 1, 0, none⟩)]) rfl trivial (enters_of Try.func116 (by kernel_rfl) rfl)
    (all_seq P hP13 (40 - 1) (w.heap.size + 1) W0 (by omega) (by omega) cP) rfl (T1 b) (fun A k hk => hk.1) (fun k hk q => by have h := q.2; (have : k = w.heap.size + 1 := hk); omega) (fun k hk => ⟨by have : k = w.heap.size + 1 := hk; omega, rfl⟩)
    (fun pre Wc => CpW b Wc P (.slice a L.length c) d s (ctN P L pre) ∧ KpV (T1 b) W0 Wc)
    (fun s A C k hs hgr q => q.of hs.1.lt)
    (fun s A C hs hgr => ⟨hs.1.grow hgr, hs.2.grow (Nat.le_refl _) hgr (fun k q => q.of hs.1.lt)⟩)
    (fun c pre Wc => False) (fun c s A C hs hgr => hs) (fun c s A C k hs => hs.elim)
    ⟨HR.out.ext (fun j hj => rfl), KpV.refl _ _⟩
    (fun t a' Wc => ∃ bx : Nat, a' = { tmps := #[.pointer (some ⟨b, 0, none⟩), .pointer (some ⟨w.heap.size, 0, none⟩), .pointer (some ⟨bx, 0, none⟩), .pointer (some ⟨b, 0, none⟩), .pointer (some ⟨b, 0, none⟩), .pointer (some ⟨b, 0, none⟩), .int .i64 P, .func (.func 116) #[] #[.pointer (some ⟨w.heap.size + 1, 0, none⟩)], encP t, undef, undef, undef, undef, undef, undef, undef, undef, undef, undef, undef, undef, undef, undef, undef, undef, undef, undef, undef], defers := [] } ∧ (Wc.cell? ⟨bx, 0, none⟩ = some (.int .i64 t.1) ∧ Wc.cell? ⟨bx, 1, none⟩ = some (.int .i64 t.2.1) ∧ Wc.cell? ⟨bx, 2, none⟩ = some (.int .i64 t.2.2)) ∧ w.heap.size < bx)
    (fun t a' _ A C hs hgr => by
      obtain ⟨bx, e, ⟨h0, h1, h2⟩, h4⟩ := hs
      exact ⟨bx, e, ⟨hgr.cell h0, hgr.cell h1, hgr.cell h2⟩, h4⟩) ?assign ?body ?done ?stop
  case assign =>
    rintro l2 pre t post Wc K ⟨q1, q4⟩ hS hs hK
    simp only [encP]
    gi_wp2_with fail
    exact hK _ _ (Below.alloc (Below.refl _ _) (Nat.le_refl _) _) ⟨_, rfl, three_boxP _ t _, by omega⟩
  case done =>
    rintro D Wd hD hnD ⟨q1, q4⟩ hKD
    obtain ⟨_, hone⟩ := HKB.out Wd q4
    have HONE := Lib.hid hone
    have HQ1 := Lib.hid q1
    have HD := Lib.hid hKD
    clear q1 q4 hone hKD
    simp only [Exit.inBlock]
    refine ⟨by simp, .inl ⟨_, _, rfl, run_takeDeferred HD.out, ?_⟩⟩
    refine ⟨_, results_none rfl _ _ _, rfl, HQ1.out.heap (World.putObj_heap_other (by omega)), ?_⟩
    exact ⟨HONE.out.os, HONE.out.tape, HONE.out.output, by simpa using HONE.out.size, fun k hk hn => (World.putObj_heap_other (by omega)).trans (HONE.out.same k hk hn)⟩
  case stop =>
    rintro D c pre t post0 Wd hD hS hF hKD
    exact hF.elim
  case body =>
    rintro l2 pre t post a' Wc ⟨q1, q4⟩ ⟨bx, rfl, ⟨b0, b1, b2⟩, hbb⟩ hS hs
    obtain ⟨k0, kO⟩ := HKB.out Wc q4
    have hmem : t ∈ patX P P := by rw [hS]; simp
    have hev := evP_el HV.out.1 HV.out.2 hmem
    obtain ⟨m, hm⟩ := Int.eq_ofNat_of_zero_le hev.1
    have hm13 : m < 13 := by omega
    obtain ⟨x, y, z⟩ := t
    have HM := Lib.hid (show evV P x y z L = (m : Int) from hm)
    have HN := Lib.hid (show ∀ j, ctN P L (pre ++ [(x, y, z)]) j = if j = m then ctN P L pre m + 1 else ctN P L pre j from fun j => by
      rw [ctN_snoc, hm]
      by_cases e : j = m
      · subst e; rw [if_pos rfl, if_pos rfl]
      · rw [if_neg (by omega), if_neg e])
    have hlen : pre.length ≤ 2197 := by
      have := patX_len P hP13
      rw [hS] at this
      simp only [List.length_append, List.length_cons] at this
      omega
    have hcb := ctN_bd P L pre m
    obtain ⟨cm, hcm⟩ : ∃ cm, cm = ctN P L pre m := ⟨_, rfl⟩
    rw [← hcm] at HN hcb
    have hc0 : 0 ≤ cm := hcb.1
    have hc1 : cm ≤ 2197 := by omega
    have cmc : Wc.cell? ⟨b, 5 + m, none⟩ = some (.int .i64 cm) := by rw [hcm]; exact q1.cc m hm13
    simp only [encP] at b0 b1 b2 ⊢
    have hbxW := World.block_lt_of_cell? _ ⟨bx, 0, none⟩ b0
    have hbW2 := q1.lt
    have hfz := q1.fz (5 + m) (by omega)
    have c0 := q1.cp
    have c1 := q1.cf
    have HSS := Lib.hid (fun w' (hb : Below Wc.heap.size Wc w') => show w'.cell? ⟨w.heap.size, 0, none⟩ = some (.pointer (some ⟨b, 0, none⟩)) ∧ w'.cell? ⟨b, 0, none⟩ = some (.int .i64 P) ∧ w'.cell? ⟨b, 1, none⟩ = some (.slice a L.length c) ∧ w'.cell? ⟨bx, 0, none⟩ = some (.int .i64 x) ∧ w'.cell? ⟨bx, 1, none⟩ = some (.int .i64 y) ∧ w'.cell? ⟨bx, 2, none⟩ = some (.int .i64 z) ∧ w'.cell? ⟨b, 5 + m, none⟩ = some (.int .i64 cm) from
      ⟨(hb.cell (p := ⟨w.heap.size, 0, none⟩) (World.block_lt_of_cell? _ ⟨w.heap.size, 0, none⟩ k0)).trans k0, (hb.cell (p := ⟨b, 0, none⟩) hbW2).trans c0, (hb.cell (p := ⟨b, 1, none⟩) hbW2).trans c1,
        (hb.cell (p := ⟨bx, 0, none⟩) hbxW).trans b0, (hb.cell (p := ⟨bx, 1, none⟩) hbxW).trans b1, (hb.cell (p := ⟨bx, 2, none⟩) hbxW).trans b2, (hb.cell (p := ⟨b, 5 + m, none⟩) hbW2).trans cmc⟩)
    have HTW := Lib.hid (kO.trms HT.out (HNE.out.imp id (fun h g off hg e => by have := h g off hg; omega)))
    have HQ1 := Lib.hid q1
    have HQ4 := Lib.hid q4
    clear q1 q4 k0 b0 b1 b2 c0 c1 cmc hS hmem hev hm hcm hcb kO hlen
    gi_wp2_with fail
    refine Go.wpIn_mono (Q := fun e a2 w' => e = Exit.normal ∧ rndPostX (T1 b) (fun pre Wc => CpW b Wc P (.slice a L.length c) d s (ctN P L pre) ∧ KpV (T1 b) W0 Wc) (fun c pre Wc => False) (pre ++ [(x, y, z)]) Wc .normal a2 w') ?_ (by rintro e a w' ⟨rfl, h⟩; exact h)
    refine wpIn_region_seq_round [(0, true), (1, true), (2, true), (3, true), (4, true), (5, true), (6, true), (7, true), (8, true), (9, true), (11, true), (12, true), (16, true), (17, true), (10, false), (13, true), (14, true), (15, true), (18, true)] (fun w' => w'.cell? ⟨w.heap.size, 0, none⟩ = some (.pointer (some ⟨b, 0, none⟩)) ∧ w'.cell? ⟨b, 0, none⟩ = some (.int .i64 P) ∧ w'.cell? ⟨b, 1, none⟩ = some (.slice a L.length c) ∧ w'.cell? ⟨bx, 0, none⟩ = some (.int .i64 x) ∧ w'.cell? ⟨bx, 1, none⟩ = some (.int .i64 y) ∧ w'.cell? ⟨bx, 2, none⟩ = some (.int .i64 z) ∧ w'.cell? ⟨b, 5 + m, none⟩ = some (.int .i64 cm)) (by kernel_rfl) (by kernel_rfl) (by kernel_rfl) rfl (by rintro ⟨a, w, h, _⟩; cases h) (by rintro c a d v w ⟨h, _⟩; cases h) (HSS.out _ (Below.drew (Below.refl _ _))) ?_
    iterate 14 (refine wpSeq_take (v := ?_) (List.getElem?_toArray.trans rfl) ?_ ?_; rotate_left; (intro w' hSw; (try dsimp only at hSw); go_simp; (try with_reducible rfl)); (try simp only [Act.put, List.setIfInBounds_toArray, List.set_cons_zero, List.set_cons_succ]))
    refine wpSeq_do (List.getElem?_toArray.trans rfl) (fun K hK => ?_)
    go_simp
    have hdr : Below Wc.heap.size Wc Wc.drew := Below.drew (Below.refl _ _)
    refine (iEvalPoly P x y z (.slice a L.length c) L _ (HTW.out.below hdr)).mono ?_
    rintro e w5 ⟨rfl, hb5⟩
    rw [HM.out]
    have HB5 := Lib.hid (show Below Wc.heap.size Wc w5 from hdr.trans (hb5.mono (by simp)))
    refine hK _ _ (HSS.out _ HB5.out) ?_
    clear hK K hb5 hdr
    have hm0 : (0 : Int) ≤ (m : Int) := by omega
    have hm1 : (m : Int) < 13 := by omega
    have hwr : IntKind.i64.wrap (cm + 1) = cm + 1 := IntWalk.i64_in _ (by omega)
    iterate 4 (refine wpSeq_take (v := ?_) (List.getElem?_toArray.trans rfl) ?_ ?_; rotate_left; (intro w' hSw; (try dsimp only at hSw); go_simp; (try with_reducible rfl)); (try simp only [Act.put, List.setIfInBounds_toArray, List.set_cons_zero, List.set_cons_succ]))
    refine wpSeq_nil ?_
    simp only [Exit.then]
    have HC5 := Lib.hid (HQ1.out.heap (HB5.out.block b hbW2))
    have hcc : w5.cell? ⟨b, 5 + m, none⟩ = some (.int .i64 cm) := (HSS.out _ HB5.out).2.2.2.2.2.2
    have hff : w5.frozen? ⟨b, 5 + m, none⟩ = false := HC5.out.fz (5 + m) (by omega)
    have HFIN := Lib.hid (show CpW b (w5.setCell ⟨b, 5 + m, none⟩ (.int .i64 (cm + 1))) P (.slice a L.length c) d s (ctN P L (pre ++ [(x, y, z)])) ∧ KpV (T1 b) Wc (w5.setCell ⟨b, 5 + m, none⟩ (.int .i64 (cm + 1))) from by
      refine ⟨(HC5.out.count hm13 (cm + 1)).ext (fun j hj => (HN.out j).symm), ?_⟩
      refine ⟨HB5.out.os, HB5.out.tape, HB5.out.output, by simpa using HB5.out.size, fun k hk hn => ?_, fun k q => .inl (q.of hbW2)⟩
      rw [Below.heap_setCell _ _ _ _ (show k ≠ b from fun e => hn ⟨hk, e⟩)]
      exact HB5.out.block k hk)
    go_wp2_with fail
    exact ⟨⟨HFIN.out.1, HQ4.out.trans HFIN.out.2⟩, HFIN.out.2⟩
end Go.Proofs.Ytajabchbdhjdiaa
