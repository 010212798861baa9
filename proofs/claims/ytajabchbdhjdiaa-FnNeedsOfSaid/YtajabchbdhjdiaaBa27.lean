/-
  ValuesOf of the program: a range over the points that fills a slice. Conditions: what the slice holds is known.
  ValuesOf of the model, and the points by their numbers. Conditions: what the slice holds is known.
  firstPoint of the program: a range over the points that leaves at the first one at which something is so. Conditions: the closure says of each point whether it is so.
  FirstNonzero, of the program and of the model. Conditions: what the slice holds is known.
-/
import Derived.Test.YtajabchbdhjdiaaBa12
import Derived.Test.YtajabchbdhjdiaaBa26
import Derived.Test.YtajabchbdhjdiaaBa9
import Derived.Test.YtajabchbdhjdiaaBa20
import Derived.Maps.AppendAt
import Derived.Deep.AppendLies
import Derived.Test.YtajabchbdhjdiaaBa14
import Derived.Deep.Cut
namespace Go.Proofs.Ytajabchbdhjdiaa
set_option linter.unusedVariables false
open Go.RowKit Go.Shelf
/-- the value at a point -/
def evP (p : Int) (L : List Trm) (t : Int × Int × Int) : Int := evV p t.1 t.2.1 t.2.2 L
def vlB (p : Int) (L : List Trm) : Bool := lst p && (isP p && validB p L)
def vlV (p : Int) (L : List Trm) : List Int := if vlB p L = true then (patX p.toNat p.toNat).map (evP p L) else []
theorem RowN.grow {B C : Nat} {A D : World} {v : Value} {L : List Int} (h : RowN A B v L) (hg : GrowB C A D) : RowN D B v L := by
  obtain ⟨h1, h2⟩ := h
  refine ⟨h1, ?_⟩
  rcases h2 with h2 | ⟨g, cap, cur, hv, hb, hh, hr⟩
  · exact .inl h2
  · exact .inr ⟨g, cap, cur, hv, hb, hg.same _ _ hh (.inr rfl), hr⟩
theorem RowN.heap {B : Nat} {A D : World} {v : Value} {L : List Int} (h : RowN A B v L) (hh : ∀ g, v.ownBlock = some g → D.heap[g]? = A.heap[g]?) : RowN D B v L := by
  obtain ⟨h1, h2⟩ := h
  refine ⟨h1, ?_⟩
  rcases h2 with h2 | ⟨g, cap, cur, hv, hb, hg, hr⟩
  · exact .inl h2
  · exact .inr ⟨g, cap, cur, hv, hb, by rw [hh g (by rw [hv]; rfl)]; exact hg, hr⟩
/-- the block of a cell, and the block of the row that lies in it -/
def TB (b : Nat) (W : World) (k : Nat) : Prop := k < W.heap.size ∧ (k = b ∨ ∃ v, W.cell? ⟨b, 0, none⟩ = some v ∧ v.ownBlock = some k)
theorem TB.old {b B B2 : Nat} {A C : World} {v : Value} {L : List Int} {k : Nat} (hc : A.cell? ⟨b, 0, none⟩ = some v) (hr : RowN A B v L) (hg : GrowB B2 A C) (h : TB b C k) : TB b A k := by
  obtain ⟨_, h | ⟨u, hu, ho⟩⟩ := h
  · exact ⟨by rw [h]; exact World.block_lt_of_cell? _ ⟨b, 0, none⟩ hc, .inl h⟩
  · rw [hg.cell hc] at hu
    cases hu
    exact ⟨(hr.lt k ho).2, .inr ⟨v, hc, ho⟩⟩
theorem patX_len (p : Nat) (h : p ≤ 13) : (patX p p).length ≤ 2197 := by
  have h13 : ∀ q, q ≤ 13 → (patX q q).length ≤ 2197 := by decide +kernel
  exact h13 p h
theorem belowK_c {B D : Nat} {w W : World} (h : Below B w W) (hD : B ≤ D) (o : Obj) : Below B w (W.putObj D o) :=
  ⟨h.os, h.tape, h.output, by simpa using h.size, fun k hk => (World.putObj_heap_other (by omega)).trans (h.block k hk)⟩
attribute [local go_sem] Oper.semAt_some
set_option maxRecDepth 100000 in
set_option maxHeartbeats 8000000 in
theorem iValuesOf (p : Int) (f : Value) (L : List Trm) (w : World) (h : Trms w f L) :
    Calls Try.prog 20 #[.int .i64 p, f] w (GivesN (vlV p L) w) := by
  have HH := Lib.hid (iHas p)
  obtain ⟨l0, fa, fc, rfl, l1⟩ := h
  have HT := Lib.hid (show Trms w (.slice fa L.length fc) L from ⟨l0, fa, fc, rfl, l1⟩)
  clear l1
  cases hL : lst p
  · have HV := Lib.hid (show vlV p L = [] by unfold vlV vlB; rw [hL]; rfl)
    rw [hL] at HH
    rw [HV.out]
    clear hL
    go_enter Try.func20, Try.ntmps20
    go_wp2_with fail
    refine (HH.out _).mono ?_
    rintro e w2 ⟨rfl, rfl⟩
    go_wp2_with fail
    go_ret
    exact ⟨_, rfl, RowN.nil _ _, Below.alloc (Below.alloc (Below.refl _ _) (Nat.le_refl _) _) (by simp) _⟩
  · rw [hL] at HH
    have hb0 : Below w.heap.size w ((w.alloc (Obj.cells #[.int .i64 p] 3)).alloc (Obj.cells #[.slice fa L.length fc] 27)) := Below.alloc (Below.alloc (Below.refl _ _) (Nat.le_refl _) _) (by simp) _
    have HPV := Lib.hid (iPolyValid p (.slice fa L.length fc) L _ (HT.out.below hb0))
    have HB0 := Lib.hid hb0
    cases hV : (isP p && validB p L)
    · have HV := Lib.hid (show vlV p L = [] by unfold vlV vlB; rw [hL, hV]; rfl)
      rw [hV] at HPV
      rw [HV.out]
      clear hL hV hb0
      go_enter Try.func20, Try.ntmps20
      go_wp2_with fail
      refine (HH.out _).mono ?_
      rintro e w2 ⟨rfl, rfl⟩
      go_wp2_with fail
      refine HPV.out.mono ?_
      rintro e w3 ⟨rfl, hb3⟩
      have HB3 := Lib.hid hb3
      clear hb3
      go_wp2_with fail
      go_ret
      exact ⟨_, rfl, RowN.nil _ _, HB0.out.trans (HB3.out.mono HB0.out.size)⟩
    · have HV := Lib.hid (show vlV p L = (patX p.toNat p.toNat).map (evP p L) by unfold vlV vlB; rw [hL, hV]; rfl)
      rw [hV] at HPV
      rw [HV.out]
      have hpb := isP_bd (lst_isP hL)
      obtain ⟨P, hP⟩ : ∃ P : Nat, P = p.toNat := ⟨_, rfl⟩
      rw [← hP] at HV ⊢
      have hpP : p = (P : Int) := by omega
      subst hpP
      have hP13 : P ≤ 13 := by omega
      obtain ⟨i0, hi, hz0, hz1, hz2⟩ := info_parts infoN
      clear hL hV hb0 hP HV
      refine (callsIn_wide (n := 40)).1 ?_
      refine callsIn_of_wp_marks Try.func20 rfl trivial ?_ rfl
      simp only [Try.ntmps20, List.size_toArray, List.length_cons, List.length_nil, Nat.reduceAdd, Nat.reduceSub, Array.replicate_succ, Array.replicate_zero, List.push_toArray, List.append_toArray, List.nil_append, List.cons_append]
      gi_wp2_with fail
      refine ⟨trivial, ?_⟩
      refine (callsIn_wide.2 (HH.out _)).mono ?_
      rintro e w2 ⟨rfl, rfl⟩
      gi_wp2_with fail
      refine ⟨trivial, ?_⟩
      refine (callsIn_wide.2 HPV.out).mono ?_
      rintro e w3 ⟨rfl, hb3⟩
      have c20 : w3.cell? ⟨w.heap.size, 0, none⟩ = some (.int .i64 P) := by
        rw [hb3.cell (p := ⟨w.heap.size, 0, none⟩) (by simp; omega), World.cell?_alloc_past _ _ _ (by simp)]; exact World.cell?_alloc_at _ _ _ _ rfl
      have c21 : w3.cell? ⟨w.heap.size + 1, 0, none⟩ = some (.slice fa L.length fc) := by
        rw [hb3.cell (p := ⟨w.heap.size + 1, 0, none⟩) (by simp)]; exact World.cell?_alloc_at _ _ _ _ (by simp)
      have s3 : w.heap.size + 2 ≤ w3.heap.size := by have := hb3.size; simpa using this
      have HB3 := Lib.hid (show Below w.heap.size w w3 from HB0.out.trans (hb3.mono HB0.out.size))
      have s31 : w.heap.size < w3.heap.size := by omega
      have s32 : w.heap.size + 1 < w3.heap.size := by omega
      clear hb3
      gi_wp2_with fail
      refine ⟨trivial, ?_⟩
      refine (all_val Fence.wide _ trivial rfl _ _).mono ?_
      rintro e w' ⟨rfl, rfl⟩
      gi_wp2_with fail
      obtain ⟨W0, hW0⟩ : ∃ W0, W0 = (w3.alloc (Obj.cells #[.slice none 0 0] 24)).alloc (Obj.cells #[.int .i64 P] 3) := ⟨_, rfl⟩
      rw [← hW0]
      have s0 : W0.heap.size = w3.heap.size + 2 := by rw [hW0]; simp
      have b0 : Below w3.heap.size w3 W0 := by rw [hW0]; exact (by repeat (first | exact Below.refl _ _ | apply Below.drew | apply below_drewN | (refine Below.alloc ?_ (by first | omega | (simp <;> omega)) _)))
      have cv : W0.cell? ⟨w3.heap.size, 0, none⟩ = some (.slice none 0 0) := by rw [hW0, World.cell?_alloc_past _ _ _ (by simp)]; exact World.cell?_alloc_at _ _ _ _ rfl
      have fv : W0.frozen? ⟨w3.heap.size, 0, none⟩ = false := by rw [hW0, World.frozen?_alloc_past _ _ _ (by simp)]; exact World.frozen?_alloc_at _ _ _ _ rfl
      have cp : W0.cell? ⟨w3.heap.size + 1, 0, none⟩ = some (.int .i64 P) := by rw [hW0]; exact World.cell?_alloc_at _ _ _ _ (by simp)
      obtain ⟨bv, hbv⟩ : ∃ bv, bv = w3.heap.size := ⟨_, rfl⟩
      have HBV := Lib.hid hbv
      rw [← hbv] at s0 cv fv cp s3 s31 s32
      have hTB0 : ∀ k, k < W0.heap.size → k ≠ bv → ¬ TB bv W0 k := by
        rintro k hk hne ⟨_, h | ⟨v, hv, ho⟩⟩
        · exact hne h
        · rw [cv] at hv; cases hv; simp [Value.ownBlock] at ho
      have HKB := Lib.hid (fun (Wx : World) (hx : KpV (TB bv) W0 Wx) => show (Wx.cell? ⟨w.heap.size, 0, none⟩ = some (.int .i64 P) ∧ Wx.cell? ⟨w.heap.size + 1, 0, none⟩ = some (.slice fa L.length fc)) ∧ Below w.heap.size w Wx from by
        have hsm : ∀ k, k < bv → Wx.heap[k]? = w3.heap[k]? := fun k hk => (hx.same k (by omega) (hTB0 k (by omega) (by omega))).trans (b0.block k (by omega))
        refine ⟨⟨(cell_of_heap (p := ⟨w.heap.size, 0, none⟩) (hsm _ s31)).trans c20, (cell_of_heap (p := ⟨w.heap.size + 1, 0, none⟩) (hsm _ s32)).trans c21⟩, ?_⟩
        exact ⟨hx.os.trans (b0.os.trans HB3.out.os), hx.tape.trans (b0.tape.trans HB3.out.tape), hx.output.trans (b0.output.trans HB3.out.output), Nat.le_trans HB3.out.size (Nat.le_trans b0.size hx.size), fun k hk => (hsm k (by omega)).trans (HB3.out.block k hk)⟩)
      have HT0 := Lib.hid hTB0
      rw [← hbv]
      clear hW0 c20 c21 hbv b0 hTB0
      refine wpIn_rangeVals (enc := encP) (keep := fun k => k = bv + 1) (S := patX P P) (w0 := W0) rfl (by omega) (gf := 116) (lb := #[.pointer (some ⟨bv + 1, 0, none⟩)]) rfl trivial (enters_of Try.func116 (by kernel_rfl) rfl)
        (all_seq P hP13 (40 - 1) (bv + 1) W0 (by omega) (by omega) cp) rfl (TB bv) (fun A k hk => hk.1) (fun k hk => HT0.out k (by have : k = bv + 1 := hk; omega) (by have : k = bv + 1 := hk; omega)) (fun k hk => ⟨by have : k = bv + 1 := hk; omega, rfl⟩)
        (fun pre Wc => ∃ v, (Wc.cell? ⟨bv, 0, none⟩ = some v ∧ Wc.frozen? ⟨bv, 0, none⟩ = false) ∧ RowN Wc W0.heap.size v (pre.map (evP P L)) ∧ KpV (TB bv) W0 Wc)
        (fun s A C k hs hgr q => by
          obtain ⟨v, ⟨h1, _⟩, h2, _⟩ := hs
          exact TB.old h1 h2 hgr q)
        (fun s A C hs hgr => by
          obtain ⟨v, ⟨h1, h2⟩, h3, h4⟩ := hs
          exact ⟨v, ⟨hgr.cell h1, (hgr.frozen h1).trans h2⟩, h3.grow hgr, h4.grow (Nat.le_refl _) hgr (fun k q => TB.old h1 h3 hgr q)⟩)
        (fun c pre Wc => False) (fun c s A C hs hgr => hs) (fun c s A C k hs => hs.elim)
        ⟨_, ⟨cv, fv⟩, RowN.nil _ _, KpV.refl _ _⟩
        (fun t a' Wc => ∃ b v, a' = { tmps := #[.int .i64 P, .slice fa L.length fc, .pointer (some ⟨w.heap.size, 0, none⟩), .pointer (some ⟨w.heap.size + 1, 0, none⟩), .slice none 0 0, .pointer (some ⟨bv, 0, none⟩), .pointer (some ⟨b, 0, none⟩), .int .i64 P, .bool true, .bool false, .bool false, .int .i64 P, .slice fa L.length fc, .bool true, .bool false, .bool false, .int .i64 P, .func (.func 116) #[] #[.pointer (some ⟨bv + 1, 0, none⟩)], encP t, undef, undef, undef, undef, undef, undef, undef, undef], defers := [] } ∧ (Wc.cell? ⟨b, 0, none⟩ = some (.int .i64 t.1) ∧ Wc.cell? ⟨b, 1, none⟩ = some (.int .i64 t.2.1) ∧ Wc.cell? ⟨b, 2, none⟩ = some (.int .i64 t.2.2)) ∧ Wc.cell? ⟨bv, 0, none⟩ = some v ∧ v.ownBlock ≠ some b ∧ bv ≠ b)
        (fun t a' _ A C hs hgr => by
          obtain ⟨b, v, e, ⟨h0, h1, h2⟩, h3, h4⟩ := hs
          exact ⟨b, v, e, ⟨hgr.cell h0, hgr.cell h1, hgr.cell h2⟩, hgr.cell h3, h4⟩) ?assign ?body ?done ?stop
      case assign =>
        rintro l2 pre t post Wc K ⟨v, ⟨q1, q2⟩, q3, q4⟩ hS hs hK
        simp only [encP]
        gi_wp2_with fail
        refine hK _ _ (Below.alloc (Below.refl _ _) (Nat.le_refl _) _) ⟨_, v, rfl, three_boxP _ t _, ?_, ?_, ?_⟩
        · rw [World.cell?_alloc_past _ _ _ (by have := World.block_lt_of_cell? _ ⟨bv, 0, none⟩ q1; exact this)]; exact q1
        · intro e; have := (q3.lt _ e).2; omega
        · intro e; have := World.block_lt_of_cell? _ ⟨bv, 0, none⟩ q1; simp at this; omega
      case done =>
        rintro D Wd hD hnD ⟨v, ⟨q1, q2⟩, q3, q4⟩ hKD
        have H3 := Lib.hid (show RowN Wd w.heap.size v ((patX P P).map (evP P L)) ∧ Below w.heap.size w Wd from ⟨q3.base (by have := HB3.out.size; omega), (HKB.out Wd q4).2⟩)
        have hv : ∃ va vn vc, v = .slice va vn vc := by
          rcases q3.2 with ⟨h, _⟩ | ⟨g, cap, cur, h, _⟩
          · exact ⟨_, _, _, h⟩
          · exact ⟨_, _, _, h⟩
        obtain ⟨va, vn, vc, rfl⟩ := hv
        clear q2 q3 q4
        simp only [Exit.inBlock, Exit.then]
        rename_i hcont
        refine hcont _ _ ?_
        gi_wp2_with fail
        refine ⟨by simp, .inl ⟨_, _, rfl, run_takeDeferred hKD, ?_⟩⟩
        have hput := belowK_c H3.out.2 (by have := HB3.out.size; omega : w.heap.size ≤ D) (Obj.deferred none)
        exact ⟨_, results_tmp rfl _ _ _, _, rfl, H3.out.1.grow (GrowB.putObj (B := 0) _ (Nat.zero_le _) hKD rfl), hput⟩
      case stop =>
        rintro D c pre t post0 Wd hD hS hF hKD
        exact hF.elim
      case body =>
        rintro l2 pre t post a' Wc ⟨v, ⟨q1, q2⟩, q3, q4⟩ ⟨b, v2, rfl, ⟨b0, b1, b2⟩, hv2, hne, hbb⟩ hS hs
        have e2 : v2 = v := by rw [q1] at hv2; cases hv2; rfl
        subst e2
        obtain ⟨⟨k0, k1⟩, kB⟩ := HKB.out Wc q4
        obtain ⟨x, y, z⟩ := t
        simp only [encP] at b0 b1 b2 ⊢
        have hbW := World.block_lt_of_cell? _ ⟨b, 0, none⟩ b0
        have hvW := World.block_lt_of_cell? _ ⟨bv, 0, none⟩ q1
        have hvr := q3.lt
        have hsz := q4.size
        have hlen : (pre.map (evP P L)).length ≤ 2197 := by
          have := patX_len P hP13
          rw [hS] at this
          simp only [List.length_append, List.length_cons] at this
          rw [List.length_map]; omega
        have HSS := Lib.hid (fun w' (hb : Below Wc.heap.size Wc w') => show w'.cell? ⟨bv, 0, none⟩ = some v2 ∧ w'.cell? ⟨w.heap.size, 0, none⟩ = some (.int .i64 P) ∧ w'.cell? ⟨w.heap.size + 1, 0, none⟩ = some (.slice fa L.length fc) ∧ w'.cell? ⟨b, 0, none⟩ = some (.int .i64 x) ∧ w'.cell? ⟨b, 1, none⟩ = some (.int .i64 y) ∧ w'.cell? ⟨b, 2, none⟩ = some (.int .i64 z) from
          ⟨(hb.cell (p := ⟨bv, 0, none⟩) hvW).trans q1, (hb.cell (p := ⟨w.heap.size, 0, none⟩) (World.block_lt_of_cell? _ ⟨w.heap.size, 0, none⟩ k0)).trans k0, (hb.cell (p := ⟨w.heap.size + 1, 0, none⟩) (World.block_lt_of_cell? _ ⟨w.heap.size + 1, 0, none⟩ k1)).trans k1,
            (hb.cell (p := ⟨b, 0, none⟩) hbW).trans b0, (hb.cell (p := ⟨b, 1, none⟩) hbW).trans b1, (hb.cell (p := ⟨b, 2, none⟩) hbW).trans b2⟩)
        have HR := Lib.hid q3
        have HF := Lib.hid q2
        have HQ4 := Lib.hid q4
        have HKW := Lib.hid kB
        clear q1 q2 q3 q4 k0 k1 b0 b1 b2 hv2 kB hS
        gi_wp2_with fail
        refine Go.wpIn_mono (Q := fun e a w' => e = Exit.normal ∧ rndPostX (TB bv) (fun pre Wc => ∃ v, (Wc.cell? ⟨bv, 0, none⟩ = some v ∧ Wc.frozen? ⟨bv, 0, none⟩ = false) ∧ RowN Wc W0.heap.size v (pre.map (evP P L)) ∧ KpV (TB bv) W0 Wc) (fun c pre Wc => False) (pre ++ [(x, y, z)]) Wc .normal a w') ?_ (by rintro e a w' ⟨rfl, h⟩; exact h)
        refine wpIn_region_seq_round [(0, true), (1, true), (2, true), (3, true), (4, false), (5, false), (6, false)] (fun w' => w'.cell? ⟨bv, 0, none⟩ = some v2 ∧ w'.cell? ⟨w.heap.size, 0, none⟩ = some (.int .i64 P) ∧ w'.cell? ⟨w.heap.size + 1, 0, none⟩ = some (.slice fa L.length fc) ∧ w'.cell? ⟨b, 0, none⟩ = some (.int .i64 x) ∧ w'.cell? ⟨b, 1, none⟩ = some (.int .i64 y) ∧ w'.cell? ⟨b, 2, none⟩ = some (.int .i64 z)) (by kernel_rfl) (by kernel_rfl) (by kernel_rfl) rfl (by rintro ⟨a, w, h, _⟩; cases h) (by rintro c a d v w ⟨h, _⟩; cases h) (HSS.out _ (Below.drew (Below.refl _ _))) ?_
        iterate 4 (refine wpSeq_take (v := ?_) (List.getElem?_toArray.trans rfl) ?_ ?_; rotate_left; (intro w' hSw; (try dsimp only at hSw); go_simp; (try with_reducible rfl)); (try simp only [Act.put, List.setIfInBounds_toArray, List.set_cons_zero, List.set_cons_succ]))
        refine wpSeq_do (List.getElem?_toArray.trans rfl) (fun K hK => ?_)
        go_simp
        have hdr : Below Wc.heap.size Wc Wc.drew := Below.drew (Below.refl _ _)
        refine (iEvalPoly P x y z (.slice fa L.length fc) L _ ((HT.out.below HKW.out).below hdr)).mono ?_
        rintro e w5 ⟨rfl, hb5⟩
        obtain ⟨m, hm⟩ : ∃ m, m = evV P x y z L := ⟨_, rfl⟩
        have HM := Lib.hid (show (pre ++ [(x, y, z)]).map (evP P L) = pre.map (evP P L) ++ [m] from by rw [List.map_append, hm]; rfl)
        rw [← hm]
        have HB5 := Lib.hid (show Below Wc.heap.size Wc w5 from hdr.trans (hb5.mono (by simp)))
        refine hK _ _ (HSS.out _ HB5.out) ?_
        clear hK K hb5 hm hdr
        refine wpSeq_do (List.getElem?_toArray.trans rfl) (fun K hK => ?_)
        go_simp
        have HB6 := Lib.hid (show Below Wc.heap.size Wc (w5.alloc (Obj.cells #[.int .i64 m] 3)) from Below.alloc HB5.out HB5.out.size _)
        refine hK _ _ (HSS.out _ HB6.out) ?_
        clear hK K
        refine wpSeq_do (List.getElem?_toArray.trans rfl) (fun K hK => ?_)
        have hr6 := HR.out.below HB6.out
        have hz6 : Wc.heap.size ≤ (w5.alloc (Obj.cells #[.int .i64 m] 3)).heap.size := HB6.out.size
        refine wp_append_lies _ _ _ 24 rfl W0.heap.size 3 i0 (.int .i64 0) 1 8 Try.underlying24 hi hz0 hz1 hz2 rfl (by decide) _ _ _ rfl (show World.ownsRow _ _ _ _ _ _ _ from hr6) ⟨w5.heap.size, 0, none⟩ 1 1 [.int .i64 m] rfl rfl (by intro j u hj; match j, hj with | 0, hj => (simp at hj; subst hj; simp [Addr.add, go_sem])) (by intro u hu; simp at hu; subst hu; rfl) (by omega) (by unfold maxLen; omega) (by omega) (by omega) _ rfl ?_
        intro g8 c8 w8 hown8 hgrow8 hat8 hlt8
        have hR8 : RowN w8 W0.heap.size (.slice (some ⟨g8, 0, none⟩) ((List.map (evP P L) pre).length + 1) c8) ((pre ++ [(x, y, z)]).map (evP P L)) := by
          unfold RowN
          rw [HM.out]
          simpa using hown8
        have hgB := (hR8.lt g8 rfl).1
        have hgr : (w5.alloc (Obj.cells #[.int .i64 m] 3)).grownBy w8 v2.ownBlock := hgrow8
        have hat : v2.ownBlock = some g8 ∨ g8 = (w5.alloc (Obj.cells #[.int .i64 m] 3)).heap.size := hat8
        have hs8 : ∀ k, k < Wc.heap.size → v2.ownBlock ≠ some k → w8.heap[k]? = Wc.heap[k]? := fun k hk hn => (hgr.block k (by omega) (fun e => hn e.symm)).trans (HB6.out.block k hk)
        obtain ⟨q0, q1, q2, q3, q4, q5⟩ := HSS.out Wc (Below.refl _ _)
        have hw1 := World.block_lt_of_cell? _ ⟨w.heap.size, 0, none⟩ q1
        have hw2 := World.block_lt_of_cell? _ ⟨w.heap.size + 1, 0, none⟩ q2
        have hlow : ∀ k, k < W0.heap.size → v2.ownBlock ≠ some k := fun k hk e => by have := (hvr k e).1; omega
        have eb := hs8 bv hvW (hlow bv (by omega))
        have e1 := hs8 w.heap.size hw1 (hlow _ (by omega))
        have e2 := hs8 (w.heap.size + 1) hw2 (hlow _ (by omega))
        have e3 := hs8 b hbW hne
        refine hK _ _ ⟨(cell_of_heap (p := ⟨bv, 0, none⟩) eb).trans q0, (cell_of_heap (p := ⟨w.heap.size, 0, none⟩) e1).trans q1, (cell_of_heap (p := ⟨w.heap.size + 1, 0, none⟩) e2).trans q2, (cell_of_heap (p := ⟨b, 0, none⟩) e3).trans q3, (cell_of_heap (p := ⟨b, 1, none⟩) e3).trans q4, (cell_of_heap (p := ⟨b, 2, none⟩) e3).trans q5⟩ ?_
        have hcb : w8.cell? ⟨bv, 0, none⟩ = some v2 := (cell_of_heap (p := ⟨bv, 0, none⟩) eb).trans q0
        have hfb : w8.frozen? ⟨bv, 0, none⟩ = false := (frozen_of_heap (p := ⟨bv, 0, none⟩) eb).trans HF.out
        obtain ⟨u8, hu8⟩ : ∃ u8 : Value, u8 = .slice (some ⟨g8, 0, none⟩) ((List.map (evP P L) pre).length + 1) c8 := ⟨_, rfl⟩
        have hsz8 : Wc.heap.size ≤ w8.heap.size := Nat.le_trans hz6 hgr.size
        have HFIN := Lib.hid (show (World.cell? (w8.setCell ⟨bv, 0, none⟩ u8) ⟨bv, 0, none⟩ = some u8 ∧ World.frozen? (w8.setCell ⟨bv, 0, none⟩ u8) ⟨bv, 0, none⟩ = false) ∧ RowN (w8.setCell ⟨bv, 0, none⟩ u8) W0.heap.size u8 ((pre ++ [(x, y, z)]).map (evP P L)) ∧ KpV (TB bv) Wc (w8.setCell ⟨bv, 0, none⟩ u8) from by
          refine ⟨⟨World.cell?_setCell_same _ _ _ hcb, (World.frozen?_setCell _ _ _ _).trans hfb⟩, ?_, ?_⟩
          · rw [hu8]
            refine hR8.heap (fun g hg => Below.heap_setCell _ _ _ _ ?_)
            have : g8 = g := by simpa [Value.ownBlock] using hg
            show g ≠ bv
            omega
          · refine ⟨?_, ?_, ?_, ?_, fun k hk hn => ?_, fun k hk => ?_⟩
            · exact hgr.os.trans HB6.out.os
            · exact hgr.tape.trans HB6.out.tape
            · exact hgr.output.trans HB6.out.output
            · simpa using hsz8
            · have hkb : k ≠ bv := fun e => hn ⟨hk, .inl e⟩
              rw [Below.heap_setCell _ _ _ _ hkb]
              exact hs8 k hk (fun e => hn ⟨hk, .inr ⟨v2, q0, e⟩⟩)
            · obtain ⟨_, hk | ⟨u, hu, ho⟩⟩ := hk
              · exact .inl ⟨by rw [hk]; exact hvW, .inl hk⟩
              · rw [World.cell?_setCell_same _ _ _ hcb] at hu
                cases hu
                rw [hu8] at ho
                have hgk : g8 = k := by simpa [Value.ownBlock] using ho
                rcases hat with hat | hat
                · rw [hgk] at hat
                  exact .inl ⟨(hvr k hat).2, .inr ⟨v2, q0, hat⟩⟩
                · exact .inr (by omega))
        rw [← hu8]
        have HC8 := Lib.hid (And.intro hcb hfb)
        have hu9 : ∃ a b c, u8 = .slice a b c := ⟨_, _, _, hu8⟩
        clear hK K hown8 hgrow8 hat8 hlt8 hR8 hgB hgr hat hs8 q0 q1 q2 q3 q4 q5 eb e1 e2 e3 hu8 hr6 hlow hz6
        obtain ⟨ua, ub, uc, rfl⟩ := hu9
        obtain ⟨hcb, hfb⟩ := HC8.out
        refine wpSeq_nil ?_
        simp only [Exit.then]
        go_wp2_with fail
        have HS0 := s0
        refine ⟨⟨_, HFIN.out.1, ?_, HQ4.out.trans HFIN.out.2.2⟩, HFIN.out.2.2⟩
        have h9 := HFIN.out.2.1
        rw [HS0] at h9
        exact h9
end Go.Proofs.Ytajabchbdhjdiaa
namespace Go.Proofs.Ytajabchbdhjdiaa
set_option linter.unusedVariables false
open Go.RowKit
/-- the point with a number -/
def pnt (p : Nat) (n : Nat) : Int × Int × Int := ((n : Int) / p / p, (n : Int) / p % p, (n : Int) % p)
theorem patX_pnt (p : Int) (hp : isP p = true) : patX p.toNat p.toNat = (List.range (p.toNat * p.toNat * p.toNat)).map (pnt p.toNat) := by
  have h : ([2, 3, 5, 7, 11, 13] : List Nat).all (fun q => patX q q == (List.range (q * q * q)).map (pnt q)) = true := by decide +kernel
  have h2 : p = 2 ∨ p = 3 ∨ p = 5 ∨ p = 7 ∨ p = 11 ∨ p = 13 := by simp [isP] at hp; omega
  have h3 : p.toNat ∈ ([2, 3, 5, 7, 11, 13] : List Nat) := by rcases h2 with rfl | rfl | rfl | rfl | rfl | rfl <;> decide
  simpa using List.all_eq_true.1 h _ h3
theorem pnt_at {p : Int} (hp : isP p = true) {k : Nat} (hk : (k : Int) < p * p * p) : ∃ q x y z : Int, PtQ p k q x y z ∧ isE3 p x y z = true ∧ pnt p.toNat k = (x, y, z) := by
  have hb := isP_bd hp
  have h := ptQ hp (show 0 ≤ (k : Int) by omega) hk
  have hB : ptB p k = true := by simp only [ptB, hp, Bool.true_and, Bool.and_eq_true, decide_eq_true_eq]; exact ⟨by omega, hk⟩
  have hbd := ptX_bd hB
  have ex : ptX p k = (k : Int) / p / p := by unfold ptX; rw [if_pos hB]
  have ey : ptY p k = (k : Int) / p % p := by unfold ptY; rw [if_pos hB]
  have ez : ptZ p k = (k : Int) % p := by unfold ptZ; rw [if_pos hB]
  have hpn : ((p.toNat : Nat) : Int) = p := by omega
  refine ⟨_, _, _, _, h, ?_, ?_⟩
  · rw [ex, ey, ez] at hbd
    simp only [isE3, Bool.and_eq_true]
    exact ⟨isE_iff.2 hbd.1, isE_iff.2 hbd.2.1, isE_iff.2 hbd.2.2⟩
  · unfold pnt
    rw [hpn]
theorem cube_nat {p : Int} (hp : isP p = true) : ((p.toNat * p.toNat * p.toNat : Nat) : Int) = p * p * p := by
  have h2 : p = 2 ∨ p = 3 ∨ p = 5 ∨ p = 7 ∨ p = 11 ∨ p = 13 := by simp [isP] at hp; omega
  rcases h2 with rfl | rfl | rfl | rfl | rfl | rfl <;> rfl
/-- the values at the first k points -/
def vlN (p : Int) (L : List Trm) (k : Nat) : List Int := ((List.range k).map (pnt p.toNat)).map (evP p L)
theorem vlN_len (p : Int) (L : List Trm) (k : Nat) : (vlN p L k).length = k := by simp [vlN]
set_option maxRecDepth 100000 in
set_option maxHeartbeats 8000000 in
theorem sValues (p : Int) (f : Value) (L : List Trm) (w : World) (hp : isP p = true) (hV : validB p L = true) (h : Trms w f L) :
    Calls Try.prog 65 #[.int .i64 p, f] w (GivesN ((patX p.toNat p.toNat).map (evP p L)) w) := by
  obtain ⟨i0, hi, hz0, hz1, hz2⟩ := info_parts infoN
  obtain ⟨p0, p1⟩ := isP_bd hp
  have hpp := pp_bd hp
  have hE : (patX p.toNat p.toNat).map (evP p L) = vlN p L (p.toNat * p.toNat * p.toNat) := by rw [patX_pnt p hp]; rfl
  rw [hE]
  have HC := Lib.hid (cube_nat hp)
  obtain ⟨C, hC⟩ : ∃ C, C = p.toNat * p.toNat * p.toNat := ⟨_, rfl⟩
  rw [← hC] at HC ⊢
  have hC2 : (C : Int) ≤ 2197 := by rw [HC.out]; omega
  have HT := Lib.hid h
  have HP := Lib.hid hp
  have HV := Lib.hid hV
  have HPP := Lib.hid hpp
  clear hE hC hp hV h hpp
  obtain ⟨c3, hc3⟩ : ∃ c3, c3 = p * p * p := ⟨_, rfl⟩
  have HPS := Lib.hid (fun w => (by rw [hc3]; exact sPoints p HP.out w : Calls Try.prog 70 #[.int .i64 p] w fun e w' => e = .returned (.int .i64 c3) ∧ w = w'))
  have HC3 := Lib.hid (show c3 = (C : Int) from by rw [hc3, HC.out])
  have HPA := Lib.hid (fun (k : Nat) (hk : k < C) => pnt_at HP.out (k := k) (by rw [← HC.out]; omega))
  clear hc3
  have hc3 := HC3.out
  subst hc3
  obtain ⟨l0, fa, fc, rfl, l1⟩ := HT.out
  clear l1
  go_enter Try.func65, Try.ntmps65
  go_wp2_with fail
  refine (HPS.out _).mono ?_
  rintro e w1 ⟨rfl, rfl⟩
  go_wp2_with fail
  go_loopw [5, 10] (fun v i wr => ∃ k : Nat, k ≤ C ∧ i = .int .i64 k ∧ RowN wr w.heap.size v (vlN p L k) ∧ Below w.heap.size w wr) (fun _ i _ => C - (intOf i).toNat)
  case atStart => exact ⟨0, by omega, rfl, RowN.empty w (Nat.le_refl _), Below.alloc (Below.refl _ _) (Nat.le_refl _) _⟩
  case round =>
    obtain ⟨k, hk, rfl, hrow, hb⟩ := hrel
    have HROW := Lib.hid hrow
    have HB := Lib.hid hb
    clear hrow hb
    by_cases hlt : k < C
    · have hltp : (k : Int) < (C : Int) := by omega
      have hk0 : (0 : Int) ≤ (k : Int) := by omega
      obtain ⟨q, x, y, z, hq, he, hpt⟩ := HPA.out k hlt
      obtain ⟨m, hm⟩ : ∃ m, m = evK p x y z L L.length := ⟨_, rfl⟩
      have HN := Lib.hid (show vlN p L (k + 1) = vlN p L k ++ [m] from by
        unfold vlN
        rw [List.range_succ, List.map_append, List.map_append]
        simp only [List.map_cons, List.map_nil, hpt]
        unfold evP evV
        rw [HP.out, HV.out, he, hm]
        rfl)
      have HPT := Lib.hid (fun w => sPoint p k q x y z HP.out hq w)
      have HAT := Lib.hid (fun w' (hb : Below w.heap.size w w') => (by rw [hm]; exact sAt p x y z (.slice fa L.length fc) L w' HP.out HV.out he (HT.out.below hb) : Calls Try.prog 82 #[.int .i64 p, .slice fa L.length fc, .agg #[.int .i64 x, .int .i64 y, .int .i64 z]] w' fun e w'' => e = .returned (.int .i64 m) ∧ Below w'.heap.size w' w''))
      have hle : (vlN p L k).length = k := vlN_len p L k
      have HLE := Lib.hid hle
      clear hq he hpt hm hle
      go_wp2_with fail
      refine (HPT.out _).mono ?_
      rintro e w3 ⟨rfl, hb3⟩
      have HB3 := Lib.hid (show Below wr.heap.size wr w3 from hb3)
      clear hb3
      go_wp2_with fail
      refine (HAT.out _ (HB.out.trans (HB3.out.mono HB.out.size))).mono ?_
      rintro e w4 ⟨rfl, hb4⟩
      have HB4 := Lib.hid (show Below wr.heap.size wr w4 from HB3.out.trans (hb4.mono HB3.out.size))
      have HSB := Lib.hid (show Below w.heap.size w w4 from HB.out.trans (HB4.out.mono HB.out.size))
      have HRW := Lib.hid (HROW.out.below HB4.out)
      have hsb := HSB.out.size
      clear hb4
      go_wp2_with (at_builtin; refine wpList_append_own _ rfl _ _ 24 rfl w.heap.size 3 i0 (.int .i64 0) 1 8 Try.underlying24 hi hz0 hz1 hz2 rfl (by decide) _ _ _ rfl ((show w4.ownsRow _ _ _ _ _ _ from HRW.out).alloc _) ⟨w4.heap.size, 0, none⟩ 1 1 [.int .i64 m] rfl rfl ?c1 ?c2 ?c3 ?c4 ?c5 ?_)
      case c1 =>
        intro j u hj
        match j, hj with
        | 0, hj => simp at hj; subst hj; simp [Addr.add]
      case c2 => intro u hu; simp at hu; subst hu; rfl
      case c3 => rw [HLE.out]; unfold maxLen; omega
      case c4 => rw [HLE.out]; omega
      case c5 => simp; omega
      intro v' w5 hown' hgrow _
      have R1 := Lib.hid (rowN_snoc (w := w) HRW.out HSB.out hsb hown' hgrow)
      clear hown' hgrow
      go_wp2_with fail
      go_roundw
      case rel => exact ⟨k + 1, by omega, by go_num, by rw [HN.out]; exact R1.out.1, R1.out.2⟩
      case measure => simp [intOf]; omega
    · have hkp : k = C := by omega
      subst hkp
      have hnl : ¬ (k : Int) < (k : Int) := by omega
      go_wp2_with fail
      go_ret
      exact ⟨_, rfl, HROW.out, HB.out⟩
set_option maxRecDepth 100000 in
set_option maxHeartbeats 8000000 in
theorem sValuesOf (p : Int) (f : Value) (L : List Trm) (w : World) (h : Trms w f L) :
    Calls Try.prog 18 #[.int .i64 p, f] w (GivesN (vlV p L) w) := by
  have HH := Lib.hid (sSmall10 p)
  obtain ⟨l0, fa, fc, rfl, l1⟩ := h
  have HT := Lib.hid (show Trms w (.slice fa L.length fc) L from ⟨l0, fa, fc, rfl, l1⟩)
  clear l1
  have HPV := Lib.hid (sPolyValid p (.slice fa L.length fc) L w HT.out)
  cases hV : (isP p && validB p L)
  · have HV := Lib.hid (show vlV p L = [] by unfold vlV vlB; rw [hV, Bool.and_false]; rfl)
    rw [hV] at HPV
    rw [HV.out]
    clear hV
    go_enter Try.func18, Try.ntmps18
    go_wp2_with fail
    refine HPV.out.mono ?_
    rintro e w2 ⟨rfl, hb⟩
    have HB := Lib.hid hb
    clear hb
    go_wp2_with fail
    go_ret
    exact ⟨_, rfl, RowN.empty w2 HB.out.size, Below.alloc HB.out HB.out.size _⟩
  · rw [hV] at HPV
    cases hL : lst p
    · have HV := Lib.hid (show vlV p L = [] by unfold vlV vlB; rw [hL]; rfl)
      rw [hL] at HH
      rw [HV.out]
      clear hV hL
      go_enter Try.func18, Try.ntmps18
      go_wp2_with fail
      refine HPV.out.mono ?_
      rintro e w2 ⟨rfl, hb⟩
      have HB := Lib.hid hb
      clear hb
      go_wp2_with fail
      refine (HH.out _).mono ?_
      rintro e w3 ⟨rfl, rfl⟩
      go_wp2_with fail
      go_ret
      exact ⟨_, rfl, RowN.empty w2 HB.out.size, Below.alloc HB.out HB.out.size _⟩
    · have HV := Lib.hid (show vlV p L = (patX p.toNat p.toNat).map (evP p L) by unfold vlV vlB; rw [hL, hV]; rfl)
      rw [hL] at HH
      rw [HV.out]
      have hpv : isP p = true ∧ validB p L = true := by simpa using hV
      have HVS := Lib.hid (fun w' (hb : Below w.heap.size w w') => sValues p (.slice fa L.length fc) L w' hpv.1 hpv.2 (HT.out.below hb))
      obtain ⟨R, hR⟩ : ∃ R, R = (patX p.toNat p.toNat).map (evP p L) := ⟨_, rfl⟩
      rw [← hR] at HVS ⊢
      clear hV hL hpv hR HV
      go_enter Try.func18, Try.ntmps18
      go_wp2_with fail
      refine HPV.out.mono ?_
      rintro e w2 ⟨rfl, hb⟩
      have HB := Lib.hid hb
      clear hb
      go_wp2_with fail
      refine (HH.out _).mono ?_
      rintro e w3 ⟨rfl, rfl⟩
      go_wp2_with fail
      refine (HVS.out _ HB.out).mono ?_
      rintro e w4 ⟨u, rfl, hu, hb4⟩
      have H4 := Lib.hid (show RowN w4 w.heap.size u R ∧ Below w.heap.size w w4 from ⟨hu.base HB.out.size, HB.out.trans (hb4.mono HB.out.size)⟩)
      clear hu hb4
      go_wp2_with fail
      go_ret
      exact ⟨_, rfl, H4.out⟩
theorem vlV_len (p : Int) (L : List Trm) : (vlV p L).length ≤ 281474976710656 := by
  unfold vlV
  split
  · rename_i h
    have hp := isP_bd (lst_isP (show lst p = true by unfold vlB at h; simp only [Bool.and_eq_true] at h; exact h.1))
    have := patX_len p.toNat (by omega)
    rw [List.length_map]
    omega
  · simp
theorem iValuesOfO (p : Int) (f : Value) (L : List Trm) (w : World) (h : Trms w f L) :
    Calls Try.prog 20 #[.int .i64 p, f] w fun e w' => ∃ u, e = .returned u ∧ OwnInts w' w.heap.size u (vlV p L) ∧ Below w.heap.size w w' :=
  (iValuesOf p f L w h).mono fun e w' ⟨u, h1, h2, h3⟩ => ⟨u, h1, h2.own (vlV_len p L), h3⟩
theorem sValuesOfO (p : Int) (f : Value) (L : List Trm) (w : World) (h : Trms w f L) :
    Calls Try.prog 18 #[.int .i64 p, f] w fun e w' => ∃ u, e = .returned u ∧ OwnInts w' w.heap.size u (vlV p L) ∧ Below w.heap.size w w' :=
  (sValuesOf p f L w h).mono fun e w' ⟨u, h1, h2, h3⟩ => ⟨u, h1, h2.own (vlV_len p L), h3⟩
end Go.Proofs.Ytajabchbdhjdiaa
namespace Go.Proofs.Ytajabchbdhjdiaa
set_option linter.unusedVariables false
open Go.RowKit Go.Shelf
/-- the first point of a list at which something is so -/
def fpT (S : List (Int × Int × Int)) (B : Int × Int × Int → Bool) : Int × Int × Int := (S.find? B).getD (0, 0, 0)
def fpB (S : List (Int × Int × Int)) (B : Int × Int × Int → Bool) : Bool := S.any B
theorem fp_none {S : List (Int × Int × Int)} {B : Int × Int × Int → Bool} (h : ∀ t ∈ S, B t = false) : fpT S B = (0, 0, 0) ∧ fpB S B = false := by
  have h1 : S.find? B = none := List.find?_eq_none.2 fun t ht => by rw [h t ht]; simp
  exact ⟨by unfold fpT; rw [h1]; rfl, List.any_eq_false.2 fun t ht => by rw [h t ht]; simp⟩
theorem fp_some {pre : List (Int × Int × Int)} {t : Int × Int × Int} {post : List (Int × Int × Int)} {B : Int × Int × Int → Bool} (h : ∀ s ∈ pre, B s = false) (ht : B t = true) : fpT (pre ++ t :: post) B = t ∧ fpB (pre ++ t :: post) B = true := by
  have h1 : (pre ++ t :: post).find? B = some t := by
    rw [List.find?_append, List.find?_eq_none.2 (fun s hs => by rw [h s hs]; simp)]
    simp [ht]
  exact ⟨by unfold fpT; rw [h1]; rfl, List.any_eq_true.2 ⟨t, by simp, ht⟩⟩
/-- the two boxes of the results -/
structure FpW (b : Nat) (W : World) (t : Int × Int × Int) (r : Bool) : Prop where
  c0 : W.cell? ⟨b, 0, none⟩ = some (.int .i64 t.1)
  c1 : W.cell? ⟨b, 1, none⟩ = some (.int .i64 t.2.1)
  c2 : W.cell? ⟨b, 2, none⟩ = some (.int .i64 t.2.2)
  r0 : W.cell? ⟨b + 1, 0, none⟩ = some (.bool r)
  f0 : W.frozen? ⟨b, 0, none⟩ = false
  f1 : W.frozen? ⟨b, 1, none⟩ = false
  f2 : W.frozen? ⟨b, 2, none⟩ = false
  g0 : W.frozen? ⟨b + 1, 0, none⟩ = false
theorem FpW.heap {b : Nat} {W W' : World} {t : Int × Int × Int} {r : Bool} (h : FpW b W t r) (h0 : W'.heap[b]? = W.heap[b]?) (h1 : W'.heap[b + 1]? = W.heap[b + 1]?) : FpW b W' t r :=
  ⟨(cell_of_heap (p := ⟨b, 0, none⟩) h0).trans h.c0, (cell_of_heap (p := ⟨b, 1, none⟩) h0).trans h.c1, (cell_of_heap (p := ⟨b, 2, none⟩) h0).trans h.c2, (cell_of_heap (p := ⟨b + 1, 0, none⟩) h1).trans h.r0,
    (frozen_of_heap (p := ⟨b, 0, none⟩) h0).trans h.f0, (frozen_of_heap (p := ⟨b, 1, none⟩) h0).trans h.f1, (frozen_of_heap (p := ⟨b, 2, none⟩) h0).trans h.f2, (frozen_of_heap (p := ⟨b + 1, 0, none⟩) h1).trans h.g0⟩
theorem FpW.grow {b B : Nat} {W W' : World} {t : Int × Int × Int} {r : Bool} (h : FpW b W t r) (hg : GrowB B W W') : FpW b W' t r :=
  ⟨hg.cell h.c0, hg.cell h.c1, hg.cell h.c2, hg.cell h.r0, (hg.frozen h.c0).trans h.f0, (hg.frozen h.c1).trans h.f1, (hg.frozen h.c2).trans h.f2, (hg.frozen h.r0).trans h.g0⟩
theorem FpW.lt {b : Nat} {W : World} {t : Int × Int × Int} {r : Bool} (h : FpW b W t r) : b + 1 < W.heap.size := World.block_lt_of_cell? _ ⟨b + 1, 0, none⟩ h.r0
/-- two blocks -/
def T2 (b : Nat) (W : World) (k : Nat) : Prop := k < W.heap.size ∧ (k = b ∨ k = b + 1)
/-- the results stored -/
def fpS (b : Nat) (W : World) (t : Int × Int × Int) (r : Bool) : World := (((W.setCell ⟨b, 0, none⟩ (.int .i64 t.1)).setCell ⟨b, 1, none⟩ (.int .i64 t.2.1)).setCell ⟨b, 2, none⟩ (.int .i64 t.2.2)).setCell ⟨b + 1, 0, none⟩ (.bool r)
theorem fpS_heap {b : Nat} (W : World) (t : Int × Int × Int) (r : Bool) {k : Nat} (h0 : k ≠ b) (h1 : k ≠ b + 1) : (fpS b W t r).heap[k]? = W.heap[k]? := by
  unfold fpS
  rw [Below.heap_setCell _ _ _ _ (by exact h1), Below.heap_setCell _ _ _ _ (by exact h0), Below.heap_setCell _ _ _ _ (by exact h0), Below.heap_setCell _ _ _ _ (by exact h0)]
theorem fpS_size (b : Nat) (W : World) (t : Int × Int × Int) (r : Bool) : (fpS b W t r).heap.size = W.heap.size := by simp [fpS]
theorem addr_neF {a b : Addr} (h : a.block ≠ b.block ∨ a.off ≠ b.off) : a ≠ b := by rintro rfl; rcases h with h | h <;> exact h rfl
theorem FpW.put {b : Nat} {W : World} {t : Int × Int × Int} {r : Bool} (h : FpW b W t r) (t' : Int × Int × Int) (r' : Bool) : FpW b (fpS b W t' r') t' r' := by
  have n01 : (⟨b, 0, none⟩ : Addr) ≠ ⟨b, 1, none⟩ := addr_neF (.inr (by simp))
  have n02 : (⟨b, 0, none⟩ : Addr) ≠ ⟨b, 2, none⟩ := addr_neF (.inr (by simp))
  have n12 : (⟨b, 1, none⟩ : Addr) ≠ ⟨b, 2, none⟩ := addr_neF (.inr (by simp))
  have m : ∀ j, (⟨b, j, none⟩ : Addr) ≠ ⟨b + 1, 0, none⟩ := fun j => addr_neF (.inl (by simp))
  have a1 : (W.setCell ⟨b, 0, none⟩ (.int .i64 t'.1)).cell? ⟨b, 1, none⟩ = some (.int .i64 t.2.1) := by rw [World.cell?_setCell_other _ _ _ _ n01]; exact h.c1
  have a2 : ((W.setCell ⟨b, 0, none⟩ (.int .i64 t'.1)).setCell ⟨b, 1, none⟩ (.int .i64 t'.2.1)).cell? ⟨b, 2, none⟩ = some (.int .i64 t.2.2) := by rw [World.cell?_setCell_other _ _ _ _ n12, World.cell?_setCell_other _ _ _ _ n02]; exact h.c2
  have a3 : (((W.setCell ⟨b, 0, none⟩ (.int .i64 t'.1)).setCell ⟨b, 1, none⟩ (.int .i64 t'.2.1)).setCell ⟨b, 2, none⟩ (.int .i64 t'.2.2)).cell? ⟨b + 1, 0, none⟩ = some (.bool r) := by
    rw [World.cell?_setCell_other _ _ _ _ (m 2), World.cell?_setCell_other _ _ _ _ (m 1), World.cell?_setCell_other _ _ _ _ (m 0)]; exact h.r0
  unfold fpS
  refine ⟨?_, ?_, ?_, World.cell?_setCell_same _ _ _ a3, ?_, ?_, ?_, ?_⟩
  · rw [World.cell?_setCell_other _ _ _ _ (m 0).symm, World.cell?_setCell_other _ _ _ _ n02.symm, World.cell?_setCell_other _ _ _ _ n01.symm]; exact World.cell?_setCell_same _ _ _ h.c0
  · rw [World.cell?_setCell_other _ _ _ _ (m 1).symm, World.cell?_setCell_other _ _ _ _ n12.symm]; exact World.cell?_setCell_same _ _ _ a1
  · rw [World.cell?_setCell_other _ _ _ _ (m 2).symm]; exact World.cell?_setCell_same _ _ _ a2
  · rw [World.frozen?_setCell, World.frozen?_setCell, World.frozen?_setCell, World.frozen?_setCell]; exact h.f0
  · rw [World.frozen?_setCell, World.frozen?_setCell, World.frozen?_setCell, World.frozen?_setCell]; exact h.f1
  · rw [World.frozen?_setCell, World.frozen?_setCell, World.frozen?_setCell, World.frozen?_setCell]; exact h.f2
  · rw [World.frozen?_setCell, World.frozen?_setCell, World.frozen?_setCell, World.frozen?_setCell]; exact h.g0
theorem KpV.put2 {b : Nat} {W : World} (hb : b + 1 < W.heap.size) (t : Int × Int × Int) (r : Bool) : KpV (T2 b) W (fpS b W t r) :=
  ⟨rfl, rfl, rfl, by rw [fpS_size]; exact Nat.le_refl _, fun k hk hn => fpS_heap W t r (fun e => hn ⟨hk, .inl e⟩) (fun e => hn ⟨hk, .inr e⟩), fun k q => .inl ⟨by have := q.1; rw [fpS_size] at this; exact this, q.2⟩⟩
theorem below_fpS {B b : Nat} {w W : World} (h : Below B w W) (hb : B ≤ b) (t : Int × Int × Int) (r : Bool) : Below B w (fpS b W t r) :=
  (((h.setCell (by exact hb) _).setCell (by exact hb) _).setCell (by exact hb) _).setCell (by show B ≤ b + 1; omega) _
attribute [local go_sem] Oper.semAt_some
set_option maxRecDepth 100000 in
set_option maxHeartbeats 8000000 in
theorem iFirstPt (P : Nat) (hP13 : P ≤ 13) (gf : Nat) (lb : Array Value) (B : Int × Int × Int → Bool) (w : World) (eg : ∀ args w, (callFunc gf args).run Try.prog w = .ok (.enter gf args) w)
    (hB : ∀ t ∈ patX P P, ∀ w', Below w.heap.size w w' → Calls Try.prog gf (#[encP t] ++ lb) w' fun e w'' => e = .returned (.bool (B t)) ∧ Below w'.heap.size w' w'') :
    Calls Try.prog 97 #[.int .i64 P, .func (.func gf) #[] lb] w fun e w' => e = .returned (.tuple #[encP (fpT (patX P P) B), .bool (fpB (patX P P) B)]) ∧ Below w.heap.size w w' := by
  have EG := Lib.hid eg
  have HB := Lib.hid hB
  clear eg hB
  refine (callsIn_wide (n := 40)).1 ?_
  refine callsIn_of_wp_marks Try.func97 rfl trivial ?_ rfl
  simp only [Try.ntmps97, List.size_toArray, List.length_cons, List.length_nil, Nat.reduceAdd, Nat.reduceSub, Array.replicate_succ, Array.replicate_zero, List.push_toArray, List.append_toArray, List.nil_append, List.cons_append]
  gi_wp2_with fail
  refine ⟨trivial, ?_⟩
  refine (all_val Fence.wide _ trivial rfl _ _).mono ?_
  rintro e w' ⟨rfl, rfl⟩
  gi_wp2_with fail
  obtain ⟨W0, hW0⟩ : ∃ W0, W0 = (((w.alloc (Obj.cells #[.func (.func gf) #[] lb] 114)).alloc (Obj.cells #[.int .i64 0, .int .i64 0, .int .i64 0] 48)).alloc (Obj.cells #[.bool false] 4)).alloc (Obj.cells #[.int .i64 P] 3) := ⟨_, rfl⟩
  rw [← hW0]
  have s0 : W0.heap.size = w.heap.size + 4 := by rw [hW0]; simp
  have b0 : Below w.heap.size w W0 := by rw [hW0]; exact (by repeat (first | exact Below.refl _ _ | apply Below.drew | apply below_drewN | (refine Below.alloc ?_ (by first | omega | (simp <;> omega)) _)))
  have past : ∀ (X : World) (o : Obj) (b j : Nat), b < X.heap.size → (X.alloc o).cell? ⟨b, j, none⟩ = X.cell? ⟨b, j, none⟩ := fun X o b j h => World.cell?_alloc_past _ _ _ h
  have pastf : ∀ (X : World) (o : Obj) (b j : Nat), b < X.heap.size → (X.alloc o).frozen? ⟨b, j, none⟩ = X.frozen? ⟨b, j, none⟩ := fun X o b j h => World.frozen?_alloc_past _ _ _ h
  have cf : W0.cell? ⟨w.heap.size, 0, none⟩ = some (.func (.func gf) #[] lb) := by
    rw [hW0, past _ _ _ _ (by first | (simp; done) | (simp; omega)), past _ _ _ _ (by first | (simp; done) | (simp; omega)), past _ _ _ _ (by simp)]; exact World.cell?_alloc_at _ _ _ _ rfl
  have cp : W0.cell? ⟨w.heap.size + 1 + 1 + 1, 0, none⟩ = some (.int .i64 P) := by rw [hW0]; exact World.cell?_alloc_at _ _ _ _ (by simp)
  have HR0 : FpW (w.heap.size + 1) W0 (0, 0, 0) false := by
    have e1 : ∀ j, W0.cell? ⟨w.heap.size + 1, j, none⟩ = _ := fun j => by rw [hW0, past _ _ _ _ (by first | (simp; done) | (simp; omega)), past _ _ _ _ (by simp)]
    have e2 : ∀ j, W0.cell? ⟨w.heap.size + 1 + 1, j, none⟩ = _ := fun j => by rw [hW0, past _ _ _ _ (by simp)]
    have g1 : ∀ j, W0.frozen? ⟨w.heap.size + 1, j, none⟩ = _ := fun j => by rw [hW0, pastf _ _ _ _ (by first | (simp; done) | (simp; omega)), pastf _ _ _ _ (by simp)]
    have g2 : ∀ j, W0.frozen? ⟨w.heap.size + 1 + 1, j, none⟩ = _ := fun j => by rw [hW0, pastf _ _ _ _ (by simp)]
    exact ⟨(e1 0).trans (World.cell?_alloc_at _ _ _ 0 (by simp)), (e1 1).trans (World.cell?_alloc_at _ _ _ 1 (by simp)), (e1 2).trans (World.cell?_alloc_at _ _ _ 2 (by simp)), (e2 0).trans (World.cell?_alloc_at _ _ _ 0 (by simp)),
      (g1 0).trans (World.frozen?_alloc_at _ _ _ 0 (by simp)), (g1 1).trans (World.frozen?_alloc_at _ _ _ 1 (by simp)), (g1 2).trans (World.frozen?_alloc_at _ _ _ 2 (by simp)), (g2 0).trans (World.frozen?_alloc_at _ _ _ 0 (by simp))⟩
  have HKB := Lib.hid (fun (Wx : World) (hx : KpV (T2 (w.heap.size + 1)) W0 Wx) => show Wx.cell? ⟨w.heap.size, 0, none⟩ = some (.func (.func gf) #[] lb) ∧ Below w.heap.size w Wx from
    ⟨(cell_of_heap (p := ⟨w.heap.size, 0, none⟩) (hx.same _ (by show w.heap.size < _; omega) (fun q => by have h := q.2; (have : w.heap.size = w.heap.size + 1 ∨ w.heap.size = w.heap.size + 1 + 1 := h); omega))).trans cf,
      ⟨hx.os.trans b0.os, hx.tape.trans b0.tape, hx.output.trans b0.output, Nat.le_trans b0.size hx.size, fun k hk => (hx.same k (by omega) (fun q => by have h := q.2; omega)).trans (b0.block k hk)⟩⟩)
  have HR := Lib.hid HR0
  clear hW0 b0 cf HR0 past pastf
  refine wpIn_rangeVals (enc := encP) (keep := fun k => k = w.heap.size + 1 + 1 + 1) (S := patX P P) (w0 := W0) rfl (by omega) (gf := 116) (lb := #[.pointer (some ⟨w.heap.size + 1 + 1 + 1, 0, none⟩)]) rfl trivial (enters_of Try.func116 (by kernel_rfl) rfl)
    (all_seq P hP13 (40 - 1) (w.heap.size + 1 + 1 + 1) W0 (by omega) (by omega) cp) rfl (T2 (w.heap.size + 1)) (fun A k hk => hk.1) (fun k hk q => by have h := q.2; (have : k = w.heap.size + 1 + 1 + 1 := hk); omega) (fun k hk => ⟨by have : k = w.heap.size + 1 + 1 + 1 := hk; omega, rfl⟩)
    (fun pre Wc => (∀ t ∈ pre, B t = false) ∧ FpW (w.heap.size + 1) Wc (0, 0, 0) false ∧ KpV (T2 (w.heap.size + 1)) W0 Wc)
    (fun s A C k hs hgr q => ⟨by have h := q.2; have := hs.2.1.lt; omega, q.2⟩)
    (fun s A C hs hgr => ⟨hs.1, hs.2.1.grow hgr, hs.2.2.grow (Nat.le_refl _) hgr (fun k q => ⟨by have h := q.2; have := hs.2.1.lt; omega, q.2⟩)⟩)
    (fun c pre Wc => c = .ret ∧ ∃ q t, pre = q ++ [t] ∧ (∀ s ∈ q, B s = false) ∧ B t = true ∧ FpW (w.heap.size + 1) Wc t true ∧ KpV (T2 (w.heap.size + 1)) W0 Wc)
    (fun c s A C hs hgr => by
      obtain ⟨h1, q, t, h2, h3, h4, h5, h6⟩ := hs
      exact ⟨h1, q, t, h2, h3, h4, h5.grow hgr, h6.grow (Nat.le_refl _) hgr (fun k q => ⟨by have h := q.2; have := h5.lt; omega, q.2⟩)⟩)
    (fun c s A C k hs hgr q => by
      obtain ⟨h1, q2, t, h2, h3, h4, h5, h6⟩ := hs
      exact ⟨by have h := q.2; have := h5.lt; omega, q.2⟩)
    ⟨(fun t ht => by cases ht), HR.out, KpV.refl _ _⟩
    (fun t a' Wc => ∃ b, a' = { tmps := #[.int .i64 P, .func (.func gf) #[] lb, undef, .pointer (some ⟨w.heap.size, 0, none⟩), .pointer (some ⟨w.heap.size + 1, 0, none⟩), .pointer (some ⟨w.heap.size + 1 + 1, 0, none⟩), .pointer (some ⟨b, 0, none⟩), .int .i64 P, .func (.func 116) #[] #[.pointer (some ⟨w.heap.size + 1 + 1 + 1, 0, none⟩)], encP t, undef, undef, undef, undef, undef], defers := [] } ∧ (Wc.cell? ⟨b, 0, none⟩ = some (.int .i64 t.1) ∧ Wc.cell? ⟨b, 1, none⟩ = some (.int .i64 t.2.1) ∧ Wc.cell? ⟨b, 2, none⟩ = some (.int .i64 t.2.2)) ∧ w.heap.size + 1 + 1 < b)
    (fun t a' _ A C hs hgr => by
      obtain ⟨b, e, ⟨h0, h1, h2⟩, h4⟩ := hs
      exact ⟨b, e, ⟨hgr.cell h0, hgr.cell h1, hgr.cell h2⟩, h4⟩) ?assign ?body ?done ?stop
  case assign =>
    rintro l2 pre t post Wc K ⟨q1, q3, q4⟩ hS hs hK
    simp only [encP]
    gi_wp2_with fail
    exact hK _ _ (Below.alloc (Below.refl _ _) (Nat.le_refl _) _) ⟨_, rfl, three_boxP _ t _, by have := q3.lt; omega⟩
  case done =>
    rintro D Wd hD hnD ⟨q1, q2, q4⟩ hKD
    obtain ⟨e1, e2⟩ := fp_none q1
    have HE := Lib.hid (And.intro e1 e2)
    obtain ⟨hfn0, hbd⟩ := HKB.out Wd q4
    clear hfn0
    have HBD := Lib.hid hbd
    have HNE := Lib.hid (show D ≠ w.heap.size + 1 ∧ D ≠ w.heap.size + 1 + 1 from ⟨by omega, by omega⟩)
    have HP := Lib.hid (q2.put (0, 0, 0) false)
    have HDS := Lib.hid ((fpS_heap Wd (0, 0, 0) false (show D ≠ w.heap.size + 1 by omega) (by omega)).trans hKD)
    obtain ⟨c0, c1, c2, r0, f0, f1, f2, g0⟩ := q2
    clear q1 q4 e1 e2 hKD hbd
    simp only [Exit.inBlock, Exit.then]
    rename_i hcont
    refine hcont _ _ ?_
    gi_wp2_with fail
    obtain ⟨Wf, hWf⟩ : ∃ Wf, Wf = fpS (w.heap.size + 1) Wd (0, 0, 0) false := ⟨_, rfl⟩
    have HBF := Lib.hid (show Below w.heap.size w Wf from by rw [hWf]; exact below_fpS HBD.out (by omega) _ _)
    rw [← hWf] at HP HDS
    unfold fpS at hWf
    simp only at hWf
    rw [← hWf]
    clear hWf c0 c1 c2 r0 f0 f1 f2 g0
    refine ⟨by simp, .inl ⟨_, _, rfl, run_takeDeferred HDS.out, ?_⟩⟩
    have hput := HP.out.heap (W' := Wf.putObj D (.deferred none)) (World.putObj_heap_other (by have := HNE.out; omega)) (World.putObj_heap_other (by have := HNE.out; omega))
    obtain ⟨k0, k1, k2, k3, _, _, _, _⟩ := hput
    exact ⟨.tuple #[encP (0, 0, 0), .bool false], by simp [results, Try.results97, go_sem, encP, k0, k1, k2, k3], by rw [HE.out.1, HE.out.2], belowK_c HBF.out (by omega) _⟩
  case stop =>
    rintro D c pre t post0 Wd hD hS ⟨rfl, q, t2, h2, h3, h4, h5, h6⟩ hKD
    have e : pre = q ∧ t = t2 := by simpa using h2
    obtain ⟨rfl, rfl⟩ := e
    have HE := Lib.hid (show fpT (patX P P) B = t ∧ fpB (patX P P) B = true from by rw [hS]; exact fp_some h3 h4)
    obtain ⟨_, hbd⟩ := HKB.out Wd h6
    have HBD := Lib.hid hbd
    have hput := h5.heap (W' := Wd.putObj D (.deferred none)) (World.putObj_heap_other (by omega)) (World.putObj_heap_other (by omega))
    obtain ⟨c0, c1, c2, r0, f0, f1, f2, g0⟩ := hput
    have HD := Lib.hid hKD
    clear h2 h3 h4 h5 h6 hS hKD hbd
    gi_wp2_with fail
    refine ⟨by simp, .inl ⟨_, _, rfl, run_takeDeferred HD.out, ?_⟩⟩
    refine ⟨.tuple #[encP t, .bool true], by simp [results, Try.results97, go_sem, encP, c0, c1, c2, r0], by rw [HE.out.1, HE.out.2], belowK_c HBD.out (by omega) _⟩
  case body =>
    rintro l2 pre t post a' Wc ⟨q1, q3, q4⟩ ⟨b, rfl, ⟨b0, b1, b2⟩, hbb⟩ hS hs
    obtain ⟨kf, kB⟩ := HKB.out Wc q4
    have hbW := World.block_lt_of_cell? _ ⟨b, 0, none⟩ b0
    have HBB := Lib.hid (HB.out t (by rw [hS]; simp) Wc kB)
    have HQ1 := Lib.hid q1
    have HQ3 := Lib.hid q3
    have HQ4 := Lib.hid q4
    have eg := EG.out
    simp only [encP] at HBB ⊢
    clear q1 q3 q4 kB hS
    gi_wp2_with fail
    clear eg
    refine ⟨trivial, ?_⟩
    refine (CallsIn.inRound l2 (callsIn_wide.2 HBB.out)).mono ?_
    rintro e W3 ⟨rfl, hb3⟩
    obtain ⟨r, hr⟩ : ∃ r, r = B t := ⟨_, rfl⟩
    rw [← hr]
    have HRR := Lib.hid hr.symm
    have HQ3' := Lib.hid (HQ3.out.heap (hb3.block _ (by have := HQ3.out.lt; omega)) (hb3.block _ HQ3.out.lt))
    have HK3 := Lib.hid (show KpV (T2 (w.heap.size + 1)) Wc W3 from KpV.of_below hb3 (fun k q => .inl ⟨by have h := q.2; have := HQ3.out.lt; omega, q.2⟩))
    have d0 := (hb3.cell (p := ⟨b, 0, none⟩) hbW).trans b0
    have d1 := (hb3.cell (p := ⟨b, 1, none⟩) hbW).trans b1
    have d2 := (hb3.cell (p := ⟨b, 2, none⟩) hbW).trans b2
    have hsz3 := hb3.size
    clear hr hb3 b0 b1 b2 kf HBB
    cases r
    · gi_wp2_with fail
      refine ⟨⟨fun s hs => ?_, HQ3'.out, HQ4.out.trans HK3.out⟩, HK3.out⟩
      rcases List.mem_append.1 hs with h | h
      · exact HQ1.out s h
      · rw [List.mem_singleton.1 h]; exact HRR.out
    · obtain ⟨c0, c1, c2, r0, f0, f1, f2, g0⟩ := HQ3'.out
      gi_wp2_with fail
      obtain ⟨Wf, hWf⟩ : ∃ Wf, Wf = fpS (w.heap.size + 1) W3 t true := ⟨_, rfl⟩
      have HPF := Lib.hid (show FpW (w.heap.size + 1) Wf t true ∧ KpV (T2 (w.heap.size + 1)) W3 Wf from by rw [hWf]; exact ⟨HQ3'.out.put t true, KpV.put2 HQ3'.out.lt t true⟩)
      unfold fpS at hWf
      rw [← hWf]
      clear hWf
      exact ⟨⟨rfl, pre, t, rfl, HQ1.out, HRR.out, HPF.out.1, (HQ4.out.trans HK3.out).trans HPF.out.2⟩, HK3.out.trans HPF.out.2⟩
end Go.Proofs.Ytajabchbdhjdiaa
namespace Go.Proofs.Ytajabchbdhjdiaa
set_option linter.unusedVariables false
open Go.RowKit Go.Shelf
/-- whether the value at a point is not 0 -/
def nzB (p : Int) (L : List Trm) (t : Int × Int × Int) : Bool := evP p L t != 0
def fnT (p : Int) (L : List Trm) : Int × Int × Int := if (isP p && validB p L) = true then fpT (patX p.toNat p.toNat) (nzB p L) else (0, 0, 0)
def fnB (p : Int) (L : List Trm) : Bool := (isP p && validB p L) && fpB (patX p.toNat p.toNat) (nzB p L)
/-- a call hands back a point and whether there is one -/
def GivesPt (t : Int × Int × Int) (b : Bool) (w : World) (e : Ending) (w' : World) : Prop := e = .returned (.tuple #[encP t, .bool b]) ∧ Below w.heap.size w w'
set_option maxRecDepth 100000 in
set_option maxHeartbeats 4000000 in
theorem iNz1 (p : Int) (L : List Trm) (a : Option Addr) (c n : Nat) (x y z : Int) (w : World) (c0 : w.cell? ⟨n, 0, none⟩ = some (.int .i64 p)) (c1 : w.cell? ⟨n + 1, 0, none⟩ = some (.slice a L.length c)) (h : Trms w (.slice a L.length c) L) :
    Calls Try.prog 98 #[.agg #[.int .i64 x, .int .i64 y, .int .i64 z], .pointer (some ⟨n, 0, none⟩), .pointer (some ⟨n + 1, 0, none⟩)] w fun e w' => e = .returned (.bool (nzB p L (x, y, z))) ∧ Below w.heap.size w w' := by
  have hn := World.block_lt_of_cell? _ ⟨n, 0, none⟩ c0
  have hn1 := World.block_lt_of_cell? _ ⟨n + 1, 0, none⟩ c1
  have hb0 : Below w.heap.size w (w.alloc (Obj.cells #[.int .i64 x, .int .i64 y, .int .i64 z] 48)) := Below.alloc (Below.refl _ _) (Nat.le_refl _) _
  have HB0 := Lib.hid hb0
  have HE := Lib.hid (iEvalPoly p x y z (.slice a L.length c) L _ (h.below hb0))
  obtain ⟨v, hv⟩ : ∃ v, v = evV p x y z L := ⟨_, rfl⟩
  have HV := Lib.hid (show nzB p L (x, y, z) = (v != 0) from by rw [hv]; rfl)
  rw [← hv] at HE
  rw [HV.out]
  obtain ⟨b, hb⟩ : ∃ b, b = (v != 0) := ⟨_, rfl⟩
  have hb2 : (v != 0) = b := hb.symm
  rw [hb2]
  clear hb hv h hb0 HV
  go_enter Try.func98, Try.ntmps98
  go_wp2_with fail
  refine HE.out.mono ?_
  rintro e w1 ⟨rfl, hb1⟩
  have HB1 := Lib.hid (show Below w.heap.size w w1 from HB0.out.trans (hb1.mono HB0.out.size))
  clear hb1 c0 c1
  go_wp2_with fail
  go_ret
  exact ⟨rfl, HB1.out⟩
set_option maxRecDepth 100000 in
set_option maxHeartbeats 4000000 in
theorem iFirstNonzero (p : Int) (f : Value) (L : List Trm) (w : World) (h : Trms w f L) :
    Calls Try.prog 50 #[.int .i64 p, f] w (GivesPt (fnT p L) (fnB p L) w) := by
  obtain ⟨l0, fa, fc, rfl, l1⟩ := h
  have HT := Lib.hid (show Trms w (.slice fa L.length fc) L from ⟨l0, fa, fc, rfl, l1⟩)
  obtain ⟨W, hW⟩ : ∃ W, W = ((w.alloc (Obj.cells #[.int .i64 p] 3)).alloc (Obj.cells #[.slice fa L.length fc] 27)).alloc (Obj.cells #[.int .i64 0, .int .i64 0, .int .i64 0] 48) := ⟨_, rfl⟩
  have hbW : Below w.heap.size w W := by rw [hW]; exact (by repeat (first | exact Below.refl _ _ | apply Below.drew | apply below_drewN | (refine Below.alloc ?_ (by first | omega | (simp <;> omega)) _)))
  have sW : W.heap.size = w.heap.size + 3 := by rw [hW]; simp
  have cp : W.cell? ⟨w.heap.size, 0, none⟩ = some (.int .i64 p) := by rw [hW, World.cell?_alloc_past _ _ _ (by simp; omega), World.cell?_alloc_past _ _ _ (by simp)]; exact World.cell?_alloc_at _ _ _ _ rfl
  have cf : W.cell? ⟨w.heap.size + 1, 0, none⟩ = some (.slice fa L.length fc) := by rw [hW, World.cell?_alloc_past _ _ _ (by simp)]; exact World.cell?_alloc_at _ _ _ _ (by simp)
  have ct : ∀ j, j < 3 → W.cell? ⟨w.heap.size + 2, j, none⟩ = some (.int .i64 0) ∧ W.frozen? ⟨w.heap.size + 2, j, none⟩ = false := by
    intro j hj
    rw [hW]
    refine ⟨?_, World.frozen?_alloc_at _ _ _ _ (by simp)⟩
    have h3 : j = 0 ∨ j = 1 ∨ j = 2 := by omega
    rcases h3 with rfl | rfl | rfl <;> exact World.cell?_alloc_at _ _ _ _ (by simp)
  have HPV := Lib.hid (iPolyValid p (.slice fa L.length fc) L W (HT.out.below hbW))
  have HBW := Lib.hid hbW
  have hs0 : w.heap.size < W.heap.size := by omega
  have hs1 : w.heap.size + 1 < W.heap.size := by omega
  have hs2 : w.heap.size + 2 < W.heap.size := by omega
  have HWK := Lib.hid (fun w' (hb : Below W.heap.size W w') => show w'.cell? ⟨w.heap.size, 0, none⟩ = some (.int .i64 p) ∧ w'.cell? ⟨w.heap.size + 1, 0, none⟩ = some (.slice fa L.length fc) ∧ (∀ j, j < 3 → w'.cell? ⟨w.heap.size + 2, j, none⟩ = some (.int .i64 0) ∧ w'.frozen? ⟨w.heap.size + 2, j, none⟩ = false) ∧ Below w.heap.size w w' from
    ⟨(hb.cell (p := ⟨w.heap.size, 0, none⟩) hs0).trans cp, (hb.cell (p := ⟨w.heap.size + 1, 0, none⟩) hs1).trans cf, fun j hj => ⟨(hb.cell (p := ⟨w.heap.size + 2, j, none⟩) hs2).trans (ct j hj).1, (hb.frozen (p := ⟨w.heap.size + 2, j, none⟩) hs2).trans (ct j hj).2⟩, HBW.out.trans (hb.mono HBW.out.size)⟩)
  cases hV : (isP p && validB p L)
  · have HV := Lib.hid (show fnT p L = (0, 0, 0) ∧ fnB p L = false from by unfold fnT fnB; rw [hV]; exact ⟨rfl, rfl⟩)
    rw [hV] at HPV
    rw [HV.out.1, HV.out.2]
    clear hV l1 hbW ct
    go_enter Try.func50, Try.ntmps50
    go_upto_region 1 with fail
    rw [← hW]
    clear hW
    go_wp2_with fail
    refine HPV.out.mono ?_
    rintro e w1 ⟨rfl, hb1⟩
    obtain ⟨k0, k1, kt, kb⟩ := HWK.out w1 hb1
    obtain ⟨t0, f0⟩ := kt 0 (by omega)
    obtain ⟨t1, f1⟩ := kt 1 (by omega)
    obtain ⟨t2, f2⟩ := kt 2 (by omega)
    have HKB := Lib.hid kb
    clear kt hb1 cp cf kb
    go_wp2_with fail
    refine bodyPost_ret (v := .tuple #[encP (0, 0, 0), .bool false]) (by simp [results, Try.results50, go_sem, encP, t0, t1, t2]) rfl ⟨rfl, ?_⟩
    repeat (first | exact HKB.out | (refine Below.setCell ?_ (by show w.heap.size ≤ w.heap.size + 2; omega) _))
  · have hpv : isP p = true ∧ validB p L = true := by simpa using hV
    have HV := Lib.hid (show fnT p L = fpT (patX p.toNat p.toNat) (nzB p L) ∧ fnB p L = fpB (patX p.toNat p.toNat) (nzB p L) from by unfold fnT fnB; rw [hV]; exact ⟨rfl, rfl⟩)
    rw [hV] at HPV
    rw [HV.out.1, HV.out.2]
    have hpb := isP_bd hpv.1
    obtain ⟨P, hP⟩ : ∃ P : Nat, P = p.toNat := ⟨_, rfl⟩
    rw [← hP]
    have hpP : p = (P : Int) := by omega
    have HFP := Lib.hid (fun w1 (hb1 : Below W.heap.size W w1) => iFirstPt P (by omega) 98 #[.pointer (some ⟨w.heap.size, 0, none⟩), .pointer (some ⟨w.heap.size + 1, 0, none⟩)] (nzB p L) w1 (enters_of Try.func98 (by kernel_rfl) rfl)
      (fun t ht w' hb => by
        obtain ⟨x, y, z⟩ := t
        obtain ⟨k0, k1, _, kb⟩ := HWK.out w' (hb1.trans (hb.mono hb1.size))
        exact iNz1 p L fa fc w.heap.size x y z w' k0 k1 (HT.out.below kb)))
    obtain ⟨t, ht⟩ : ∃ t, t = fpT (patX P P) (nzB p L) := ⟨_, rfl⟩
    obtain ⟨r, hr⟩ : ∃ r, r = fpB (patX P P) (nzB p L) := ⟨_, rfl⟩
    rw [← ht, ← hr] at HFP ⊢
    subst hpP
    obtain ⟨x, y, z⟩ := t
    simp only [encP] at HFP
    clear hV l1 hbW ct hpv hP HV ht hr
    go_enter Try.func50, Try.ntmps50
    go_upto_region 1 with fail
    rw [← hW]
    clear hW
    go_wp2_with fail
    refine HPV.out.mono ?_
    rintro e w1 ⟨rfl, hb1⟩
    have HB1 := Lib.hid hb1
    obtain ⟨k0, k1, kt, kb⟩ := HWK.out w1 hb1
    clear kt hb1 cp cf kb
    go_wp2_with fail
    refine (HFP.out w1 HB1.out).mono ?_
    rintro e w2 ⟨rfl, hb2⟩
    obtain ⟨_, _, kt, kb⟩ := HWK.out w2 (HB1.out.trans (hb2.mono HB1.out.size))
    obtain ⟨t0, f0⟩ := kt 0 (by omega)
    obtain ⟨t1, f1⟩ := kt 1 (by omega)
    obtain ⟨t2, f2⟩ := kt 2 (by omega)
    have HKB := Lib.hid kb
    clear kt hb2 kb k0 k1
    go_wp2_with fail
    refine bodyPost_ret (v := .tuple #[.agg #[.int .i64 x, .int .i64 y, .int .i64 z], .bool r]) (by simp [results, Try.results50, go_sem, t0, t1, t2]) rfl ⟨rfl, ?_⟩
    repeat (first | exact HKB.out | (refine Below.setCell ?_ (by show w.heap.size ≤ w.heap.size + 1 + 1; omega) _))
theorem range_split {C k : Nat} (hk : k < C) (p : Nat) : ∃ post, (List.range C).map (pnt p) = (List.range k).map (pnt p) ++ pnt p k :: post := by
  obtain ⟨post, h⟩ := range_at hk
  exact ⟨post.map (pnt p), by rw [h, List.map_append]; rfl⟩
set_option maxRecDepth 100000 in
set_option maxHeartbeats 4000000 in
theorem sFirstNonzero (p : Int) (f : Value) (L : List Trm) (w : World) (h : Trms w f L) :
    Calls Try.prog 49 #[.int .i64 p, f] w (GivesPt (fnT p L) (fnB p L) w) := by
  obtain ⟨l0, fa, fc, rfl, l1⟩ := h
  have HT := Lib.hid (show Trms w (.slice fa L.length fc) L from ⟨l0, fa, fc, rfl, l1⟩)
  obtain ⟨W, hW⟩ : ∃ W, W = w.alloc (Obj.cells #[.int .i64 0, .int .i64 0, .int .i64 0] 48) := ⟨_, rfl⟩
  have hbW : Below w.heap.size w W := by rw [hW]; exact (by repeat (first | exact Below.refl _ _ | apply Below.drew | apply below_drewN | (refine Below.alloc ?_ (by first | omega | (simp <;> omega)) _)))
  have sW : W.heap.size = w.heap.size + 1 := by rw [hW]; simp
  have ct : ∀ j, j < 3 → W.cell? ⟨w.heap.size, j, none⟩ = some (.int .i64 0) ∧ W.frozen? ⟨w.heap.size, j, none⟩ = false := by
    intro j hj
    rw [hW]
    refine ⟨?_, World.frozen?_alloc_at _ _ _ _ (by simp)⟩
    have h3 : j = 0 ∨ j = 1 ∨ j = 2 := by omega
    rcases h3 with rfl | rfl | rfl <;> exact World.cell?_alloc_at _ _ _ _ (by simp)
  have HPV := Lib.hid (sPolyValid p (.slice fa L.length fc) L W (HT.out.below hbW))
  have HBW := Lib.hid hbW
  have hs0 : w.heap.size < W.heap.size := by omega
  have HWK := Lib.hid (fun w' (hb : Below W.heap.size W w') => show (∀ j, j < 3 → w'.cell? ⟨w.heap.size, j, none⟩ = some (.int .i64 0) ∧ w'.frozen? ⟨w.heap.size, j, none⟩ = false) ∧ Below w.heap.size w w' from
    ⟨fun j hj => ⟨(hb.cell (p := ⟨w.heap.size, j, none⟩) hs0).trans (ct j hj).1, (hb.frozen (p := ⟨w.heap.size, j, none⟩) hs0).trans (ct j hj).2⟩, HBW.out.trans (hb.mono HBW.out.size)⟩)
  cases hV : (isP p && validB p L)
  · have HV := Lib.hid (show fnT p L = (0, 0, 0) ∧ fnB p L = false from by unfold fnT fnB; rw [hV]; exact ⟨rfl, rfl⟩)
    rw [hV] at HPV
    rw [HV.out.1, HV.out.2]
    clear hV l1 hbW ct
    go_enter Try.func49, Try.ntmps49
    go_upto_region 1 with fail
    rw [← hW]
    clear hW
    go_wp2_with fail
    refine HPV.out.mono ?_
    rintro e w1 ⟨rfl, hb1⟩
    obtain ⟨kt, kb⟩ := HWK.out w1 hb1
    obtain ⟨t0, f0⟩ := kt 0 (by omega)
    obtain ⟨t1, f1⟩ := kt 1 (by omega)
    obtain ⟨t2, f2⟩ := kt 2 (by omega)
    have HKB := Lib.hid kb
    clear kt hb1 kb
    go_wp2_with fail
    refine bodyPost_ret (v := .tuple #[encP (0, 0, 0), .bool false]) (by simp [results, Try.results49, go_sem, encP, t0, t1, t2]) rfl ⟨rfl, ?_⟩
    repeat (first | exact HKB.out | (refine Below.setCell ?_ (by show w.heap.size ≤ w.heap.size; omega) _))
  · have hpv : isP p = true ∧ validB p L = true := by simpa using hV
    have HV := Lib.hid (show fnT p L = fpT (patX p.toNat p.toNat) (nzB p L) ∧ fnB p L = fpB (patX p.toNat p.toNat) (nzB p L) from by unfold fnT fnB; rw [hV]; exact ⟨rfl, rfl⟩)
    rw [hV] at HPV
    rw [HV.out.1, HV.out.2, patX_pnt p hpv.1]
    have hpp := pp_bd hpv.1
    have HC := Lib.hid (cube_nat hpv.1)
    obtain ⟨C, hC⟩ : ∃ C, C = p.toNat * p.toNat * p.toNat := ⟨_, rfl⟩
    rw [← hC] at HC ⊢
    have hC2 : (C : Int) ≤ 2197 := by rw [HC.out]; omega
    obtain ⟨c3, hc3⟩ : ∃ c3, c3 = p * p * p := ⟨_, rfl⟩
    have HPS := Lib.hid (fun w => (by rw [hc3]; exact sPoints p hpv.1 w : Calls Try.prog 70 #[.int .i64 p] w fun e w' => e = .returned (.int .i64 c3) ∧ w = w'))
    have HC3 := Lib.hid (show c3 = (C : Int) from by rw [hc3, HC.out])
    have HPA := Lib.hid (fun (k : Nat) (hk : k < C) => pnt_at hpv.1 (k := k) (by rw [← HC.out]; omega))
    have HPP := Lib.hid hpv
    obtain ⟨S, hS⟩ : ∃ S, S = (List.range C).map (pnt p.toNat) := ⟨_, rfl⟩
    have HS := Lib.hid hS
    rw [← hS]
    clear hV l1 hbW ct hpv hpp hC hc3 HV HC hS
    have hc3 := HC3.out
    subst hc3
    go_enter Try.func49, Try.ntmps49
    go_upto_region 1 with fail
    rw [← hW]
    clear hW
    go_wp2_with fail
    refine HPV.out.mono ?_
    rintro e w1 ⟨rfl, hb1⟩
    have HB1 := Lib.hid hb1
    clear hb1
    go_wp2_with fail
    refine (HPS.out _).mono ?_
    rintro e w2 ⟨rfl, rfl⟩
    go_wp2_with fail
    go_loopw [13] (fun i wr => ∃ k : Nat, k ≤ C ∧ i = .int .i64 k ∧ (∀ j, j < k → nzB p L (pnt p.toNat j) = false) ∧ Below W.heap.size W wr) (fun i _ => C - (intOf i).toNat)
    case atStart => exact ⟨0, by omega, rfl, fun j hj => by omega, HB1.out⟩
    case round =>
      obtain ⟨k, hk, rfl, hz, hb⟩ := hrel
      have HZ := Lib.hid hz
      have HB := Lib.hid hb
      clear hz hb
      by_cases hlt : k < C
      · have hltp : (k : Int) < (C : Int) := by omega
        have hk0 : (0 : Int) ≤ (k : Int) := by omega
        obtain ⟨q, x, y, z, hq, he, hpt⟩ := HPA.out k hlt
        obtain ⟨m, hm⟩ : ∃ m, m = evK p x y z L L.length := ⟨_, rfl⟩
        have HN := Lib.hid (show nzB p L (pnt p.toNat k) = (m != 0) ∧ pnt p.toNat k = (x, y, z) from by
          refine ⟨?_, hpt⟩
          rw [hpt]
          unfold nzB evP evV
          rw [HPP.out.1, HPP.out.2, he, hm]
          rfl)
        have HPT := Lib.hid (fun w => sPoint p k q x y z HPP.out.1 hq w)
        have HAT := Lib.hid (fun w' (hb : Below w.heap.size w w') => (by rw [hm]; exact sAt p x y z (.slice fa L.length fc) L w' HPP.out.1 HPP.out.2 he (HT.out.below hb) : Calls Try.prog 82 #[.int .i64 p, .slice fa L.length fc, .agg #[.int .i64 x, .int .i64 y, .int .i64 z]] w' fun e w'' => e = .returned (.int .i64 m) ∧ Below w'.heap.size w' w''))
        clear hq he hpt hm
        go_wp2_with fail
        refine (HPT.out _).mono ?_
        rintro e w3 ⟨rfl, hb3⟩
        have HB3 := Lib.hid (show Below W.heap.size W w3 from HB.out.trans (hb3.mono HB.out.size))
        clear hb3
        go_upto_region 6 with fail
        obtain ⟨Wb, hWb⟩ : ∃ Wb, Wb = w3.alloc (Obj.cells #[.int .i64 x, .int .i64 y, .int .i64 z] 48) := ⟨_, rfl⟩
        have HB4 := Lib.hid (show Below W.heap.size W Wb from by rw [hWb]; exact HB3.out.alloc HB3.out.size _)
        have p0 : Wb.cell? ⟨w3.heap.size, 0, none⟩ = some (.int .i64 x) := by rw [hWb]; exact World.cell?_alloc_at _ _ _ 0 rfl
        have p1 : Wb.cell? ⟨w3.heap.size, 1, none⟩ = some (.int .i64 y) := by rw [hWb]; exact World.cell?_alloc_at _ _ _ 1 rfl
        have p2 : Wb.cell? ⟨w3.heap.size, 2, none⟩ = some (.int .i64 z) := by rw [hWb]; exact World.cell?_alloc_at _ _ _ 2 rfl
        have sb : w3.heap.size < Wb.heap.size := by rw [hWb]; simp
        rw [← hWb]
        clear hWb
        go_wp2_with fail
        refine (HAT.out _ (HWK.out _ HB4.out).2).mono ?_
        rintro e w5 ⟨rfl, hb5⟩
        have HB5 := Lib.hid (show Below W.heap.size W w5 from HB4.out.trans (hb5.mono HB4.out.size))
        have d0 := (hb5.cell (p := ⟨w3.heap.size, 0, none⟩) sb).trans p0
        have d1 := (hb5.cell (p := ⟨w3.heap.size, 1, none⟩) sb).trans p1
        have d2 := (hb5.cell (p := ⟨w3.heap.size, 2, none⟩) sb).trans p2
        obtain ⟨b, hb⟩ : ∃ b, b = (m != 0) := ⟨_, rfl⟩
        have hmb : (m != 0) = b := hb.symm
        have HMB := Lib.hid hmb
        clear hb5 p0 p1 p2 hb
        cases b
        · go_wp2_with fail
          go_roundw
          case rel => exact ⟨k + 1, by omega, by go_num, fun j hj => by
            by_cases e : j = k
            · rw [e, HN.out.1, HMB.out]
            · exact HZ.out j (by omega), HB5.out⟩
          case measure => simp [intOf]; omega
        · have HE := Lib.hid (show fpT S (nzB p L) = (x, y, z) ∧ fpB S (nzB p L) = true from by
            obtain ⟨post, hpo⟩ := range_split hlt p.toNat
            rw [HS.out, hpo, HN.out.2]
            refine fp_some (fun s hs => ?_) (by rw [← HN.out.2, HN.out.1, HMB.out])
            obtain ⟨j, hj, rfl⟩ := List.mem_map.1 hs
            exact HZ.out j (List.mem_range.1 hj))
          obtain ⟨kt, kb⟩ := HWK.out w5 HB5.out
          obtain ⟨t0, f0⟩ := kt 0 (by omega)
          obtain ⟨t1, f1⟩ := kt 1 (by omega)
          obtain ⟨t2, f2⟩ := kt 2 (by omega)
          have HKB := Lib.hid kb
          clear kt kb
          go_wp2_with fail
          rw [HE.out.1, HE.out.2]
          refine bodyPost_ret (v := .tuple #[.agg #[.int .i64 x, .int .i64 y, .int .i64 z], .bool true]) (by simp [results, Try.results49, go_sem, t0, t1, t2]) rfl ⟨rfl, ?_⟩
          repeat (first | exact HKB.out | (refine Below.setCell ?_ (by show w.heap.size ≤ w.heap.size; omega) _))
      · have hkp : k = C := by omega
        subst hkp
        have hnl : ¬ (k : Int) < (k : Int) := by omega
        have HE := Lib.hid (show fpT S (nzB p L) = (0, 0, 0) ∧ fpB S (nzB p L) = false from by
          refine fp_none (fun s hs => ?_)
          rw [HS.out] at hs
          obtain ⟨j, hj, rfl⟩ := List.mem_map.1 hs
          exact HZ.out j (List.mem_range.1 hj))
        obtain ⟨kt, kb⟩ := HWK.out wr HB.out
        obtain ⟨t0, f0⟩ := kt 0 (by omega)
        obtain ⟨t1, f1⟩ := kt 1 (by omega)
        obtain ⟨t2, f2⟩ := kt 2 (by omega)
        have HKB := Lib.hid kb
        clear kt kb
        go_wp2_with fail
        rw [HE.out.1, HE.out.2]
        refine bodyPost_ret (v := .tuple #[encP (0, 0, 0), .bool false]) (by simp [results, Try.results49, go_sem, encP, t0, t1, t2]) rfl ⟨rfl, ?_⟩
        repeat (first | exact HKB.out | (refine Below.setCell ?_ (by show w.heap.size ≤ w.heap.size; omega) _))
end Go.Proofs.Ytajabchbdhjdiaa
