/-
  TellApart, of the program and of the model. Conditions: what the slices hold is known.
  TellApart of the program. Conditions: what the slices hold is known.
  TellApart of the model. Conditions: what the slices hold is known.
  The walk of the exact law of TellApart. Conditions: none but that the slices read as lists.
-/
import Derived.Test.YtajabchbdhjdiaaBa27
import Derived.Test.YtajabchbdhjdiaaBd4
import Derived.Test.YtajabchbdhjdiaaBa29
import Derived.Test.YtajabchbdhjdiaaBa14
import Derived.Test.YtajabchbdhjdiaaBd1
namespace Go.Proofs.Ytajabchbdhjdiaa
set_option linter.unusedVariables false
open Go.RowKit Go.Shelf
/-- the result of a circuit at a point -/
def rsV (p : Int) (L : List Gt) (x y z : Int) : Int := (evL p x y z L L.length).getD (L.length - 1) 0
/-- whether the results at a point are others -/
def tdB (p : Int) (L M : List Gt) (t : Int × Int × Int) : Bool := rsV p L t.1 t.2.1 t.2.2 != rsV p M t.1 t.2.1 t.2.2
def taT (p : Int) (L M : List Gt) : Int × Int × Int := if (circB p L && circB p M) = true then fpT (patX p.toNat p.toNat) (tdB p L M) else (0, 0, 0)
def taB (p : Int) (L M : List Gt) : Bool := (circB p L && circB p M) && fpB (patX p.toNat p.toNat) (tdB p L M)
theorem iLast7 (a : Option Addr) (n cap m : Nat) (hn : n ≤ 1048576) (hm : (n : Int) - 1 = (m : Int)) (w : World) :
    Calls Try.prog 142 #[.slice a n cap] w fun e w' => e = .returned (.int .i64 m) ∧ w = w' := by
  have hw := IntWalk.i64_in ((n : Int) - 1) (by omega)
  rw [hm] at hw
  go_enter Try.func142, Try.ntmps142
  go_wp2
  go_ret
  exact ⟨rfl, rfl⟩
set_option maxRecDepth 100000 in
set_option maxHeartbeats 4000000 in
theorem iResultAt (p x y z : Int) (f : Value) (L : List Gt) (w : World) (hv : circB p L = true) (he : isE3 p x y z = true) (h : Gats w f L) :
    Calls Try.prog 104 #[f, .int .i64 p, .agg #[.int .i64 x, .int .i64 y, .int .i64 z]] w fun e w' => e = .returned (.int .i64 (rsV p L x y z)) ∧ Below w.heap.size w w' := by
  obtain ⟨hp, hl1, hl2, _⟩ := circB_iff.1 hv
  have hb0 : Below w.heap.size w (w.alloc (Obj.cells #[.int .i64 x, .int .i64 y, .int .i64 z] 48)) := Below.alloc (Below.refl _ _) (Nat.le_refl _) _
  have HB0 := Lib.hid hb0
  have HE := Lib.hid (iEvalGates p x y z f L _ (h.below hb0))
  obtain ⟨r, hr⟩ : ∃ r, r = rsV p L x y z := ⟨_, rfl⟩
  obtain ⟨R, hR⟩ : ∃ R, R = evV2 p x y z L := ⟨_, rfl⟩
  have hRL : R = evL p x y z L L.length := by rw [hR]; unfold evV2; rw [hv, he]; rfl
  have hRn : R.length = L.length := by rw [hRL, evL_len]
  obtain ⟨m, hm⟩ : ∃ m, m = L.length - 1 := ⟨_, rfl⟩
  have hRr : R.getD m 0 = r := by rw [hRL, hr, hm]; rfl
  rw [← hR] at HE
  obtain ⟨_, fa, fc, rfl, _⟩ := h
  have HLA := Lib.hid (fun w => iLast7 fa L.length fc m (by omega) (by omega) w)
  rw [← hr]
  have hm0 : (0 : Int) ≤ (m : Int) := by omega
  have hm1 : (m : Int) < (R.length : Int) := by omega
  have hmn : m < R.length := by omega
  clear hr hR hRL hv he hb0 hp
  go_enter Try.func104, Try.ntmps104
  go_wp2_with fail
  refine HE.out.mono ?_
  rintro e w1 ⟨v, rfl, ⟨_, va, vc, rfl, hd⟩, hb1⟩
  obtain ⟨g, off, rfl, hc⟩ : ∃ g off, va = some ⟨g, off, none⟩ ∧ w1.cell? ⟨g, off + m, none⟩ = some (.int .i64 r) := by
    rcases hd with hd | ⟨g, off, e1, _, _, hc, _⟩
    · rw [hd] at hmn; simp at hmn
    · exact ⟨g, off, e1, by rw [hc m hmn, hRr]⟩
  have HB1 := Lib.hid (show Below w.heap.size w w1 from HB0.out.trans (hb1.mono HB0.out.size))
  clear hd hb1 hm hRn hRr
  go_wp2_with fail
  refine (HLA.out _).mono ?_
  rintro e w2 ⟨rfl, rfl⟩
  go_wp2_with fail
  go_ret
  exact ⟨rfl, HB1.out⟩
set_option maxRecDepth 100000 in
set_option maxHeartbeats 4000000 in
theorem sResult (p x y z : Int) (f : Value) (L : List Gt) (w : World) (hv : circB p L = true) (he : isE3 p x y z = true) (h : Gats w f L) :
    Calls Try.prog 100 #[.int .i64 p, f, .agg #[.int .i64 x, .int .i64 y, .int .i64 z]] w fun e w' => e = .returned (.int .i64 (rsV p L x y z)) ∧ Below w.heap.size w w' := by
  obtain ⟨hp, hl1, hl2, _⟩ := circB_iff.1 hv
  have hb0 : Below w.heap.size w (w.alloc (Obj.cells #[.int .i64 x, .int .i64 y, .int .i64 z] 48)) := Below.alloc (Below.refl _ _) (Nat.le_refl _) _
  have HB0 := Lib.hid hb0
  obtain ⟨r, hr⟩ : ∃ r, r = rsV p L x y z := ⟨_, rfl⟩
  obtain ⟨R, hR⟩ : ∃ R, R = evL p x y z L L.length := ⟨_, rfl⟩
  have hRn : R.length = L.length := by rw [hR, evL_len]
  obtain ⟨m, hm⟩ : ∃ m, m = L.length - 1 := ⟨_, rfl⟩
  have hRr : R.getD m 0 = r := by rw [hR, hr, hm]; rfl
  obtain ⟨_, fa, fc, rfl, hd⟩ := h
  obtain ⟨g, off, rfl, hg, hc⟩ : ∃ g off, fa = some ⟨g, off, none⟩ ∧ g < w.heap.size ∧ ∀ j : Nat, j < L.length → GAt w g (off + j * 3) (L.getD j default) := by
    rcases hd with hd | hd
    · rw [hd] at hl1; simp at hl1
    · exact hd
  have HE := Lib.hid (sEval_some p x y z L hv he g off fc _ (Nat.lt_of_lt_of_le hg hb0.size) (fun j hj => (hc j hj).below hb0 hg))
  rw [← hR] at HE
  rw [← hr]
  have hwr : IntKind.i64.wrap ((L.length : Int) - 1) = (m : Int) := by rw [IntWalk.i64_in _ (by omega)]; omega
  have hm0 : (0 : Int) ≤ (m : Int) := by omega
  have hm1 : (m : Int) < (R.length : Int) := by omega
  have hmn : m < R.length := by omega
  clear hr hR hv he hb0 hp hd hc
  go_enter Try.func100, Try.ntmps100
  go_wp2_with fail
  refine HE.out.mono ?_
  rintro e w1 ⟨v, rfl, ⟨_, va, vc, rfl, hd⟩, hb1⟩
  obtain ⟨g2, off2, rfl, hc⟩ : ∃ g off, va = some ⟨g, off, none⟩ ∧ w1.cell? ⟨g, off + m, none⟩ = some (.int .i64 r) := by
    rcases hd with hd | ⟨g, off, e1, _, _, hc, _⟩
    · rw [hd] at hmn; simp at hmn
    · exact ⟨g, off, e1, by rw [hc m hmn, hRr]⟩
  have HB1 := Lib.hid (show Below w.heap.size w w1 from HB0.out.trans (hb1.mono HB0.out.size))
  clear hd hb1 hm hRn hRr
  go_wp2_with fail
  go_ret
  exact ⟨rfl, HB1.out⟩
set_option maxRecDepth 100000 in
set_option maxHeartbeats 4000000 in
theorem iTd1 (p : Int) (L M : List Gt) (a b : Option Addr) (c d n : Nat) (x y z : Int) (w : World) (hv : circB p L = true) (hv2 : circB p M = true) (he : isE3 p x y z = true) (c0 : w.cell? ⟨n, 0, none⟩ = some (.int .i64 p)) (c1 : w.cell? ⟨n + 1, 0, none⟩ = some (.slice a L.length c)) (c2 : w.cell? ⟨n + 1 + 1, 0, none⟩ = some (.slice b M.length d)) (h : Gats w (.slice a L.length c) L) (h2 : Gats w (.slice b M.length d) M) :
    Calls Try.prog 103 #[.agg #[.int .i64 x, .int .i64 y, .int .i64 z], .pointer (some ⟨n + 1, 0, none⟩), .pointer (some ⟨n, 0, none⟩), .pointer (some ⟨n + 1 + 1, 0, none⟩)] w fun e w' => e = .returned (.bool (tdB p L M (x, y, z))) ∧ Below w.heap.size w w' := by
  have hn := World.block_lt_of_cell? _ ⟨n, 0, none⟩ c0
  have hn1 := World.block_lt_of_cell? _ ⟨n + 1, 0, none⟩ c1
  have hn2 := World.block_lt_of_cell? _ ⟨n + 1 + 1, 0, none⟩ c2
  obtain ⟨Wb, hWb⟩ : ∃ Wb, Wb = w.alloc (Obj.cells #[.int .i64 x, .int .i64 y, .int .i64 z] 48) := ⟨_, rfl⟩
  have hb0 : Below w.heap.size w Wb := by rw [hWb]; exact Below.alloc (Below.refl _ _) (Nat.le_refl _) _
  have HB0 := Lib.hid hb0
  have p0 : Wb.cell? ⟨w.heap.size, 0, none⟩ = some (.int .i64 x) := by rw [hWb]; exact World.cell?_alloc_at _ _ _ 0 rfl
  have p1 : Wb.cell? ⟨w.heap.size, 1, none⟩ = some (.int .i64 y) := by rw [hWb]; exact World.cell?_alloc_at _ _ _ 1 rfl
  have p2 : Wb.cell? ⟨w.heap.size, 2, none⟩ = some (.int .i64 z) := by rw [hWb]; exact World.cell?_alloc_at _ _ _ 2 rfl
  have sb : w.heap.size < Wb.heap.size := by rw [hWb]; simp
  have HS := Lib.hid (fun w' (hw : Below Wb.heap.size Wb w') => show (w'.cell? ⟨n, 0, none⟩ = some (.int .i64 p) ∧ w'.cell? ⟨n + 1, 0, none⟩ = some (.slice a L.length c) ∧ w'.cell? ⟨n + 1 + 1, 0, none⟩ = some (.slice b M.length d)) ∧ w'.cell? ⟨w.heap.size, 0, none⟩ = some (.int .i64 x) ∧ w'.cell? ⟨w.heap.size, 1, none⟩ = some (.int .i64 y) ∧ w'.cell? ⟨w.heap.size, 2, none⟩ = some (.int .i64 z) from by
    have hx := HB0.out.trans (hw.mono HB0.out.size)
    exact ⟨⟨(hx.cell (p := ⟨n, 0, none⟩) hn).trans c0, (hx.cell (p := ⟨n + 1, 0, none⟩) hn1).trans c1, (hx.cell (p := ⟨n + 1 + 1, 0, none⟩) hn2).trans c2⟩, (hw.cell (p := ⟨w.heap.size, 0, none⟩) sb).trans p0, (hw.cell (p := ⟨w.heap.size, 1, none⟩) sb).trans p1, (hw.cell (p := ⟨w.heap.size, 2, none⟩) sb).trans p2⟩)
  obtain ⟨m, hm⟩ : ∃ m, m = rsV p L x y z := ⟨_, rfl⟩
  obtain ⟨m2, hm2⟩ : ∃ m2, m2 = rsV p M x y z := ⟨_, rfl⟩
  have HR1 := Lib.hid (fun w' (hw : Below Wb.heap.size Wb w') => (by rw [hm]; exact iResultAt p x y z (.slice a L.length c) L w' hv he (h.below (HB0.out.trans (hw.mono HB0.out.size))) : Calls Try.prog 104 #[.slice a L.length c, .int .i64 p, .agg #[.int .i64 x, .int .i64 y, .int .i64 z]] w' fun e w'' => e = .returned (.int .i64 m) ∧ Below w'.heap.size w' w''))
  have HR2 := Lib.hid (fun w' (hw : Below Wb.heap.size Wb w') => (by rw [hm2]; exact iResultAt p x y z (.slice b M.length d) M w' hv2 he (h2.below (HB0.out.trans (hw.mono HB0.out.size))) : Calls Try.prog 104 #[.slice b M.length d, .int .i64 p, .agg #[.int .i64 x, .int .i64 y, .int .i64 z]] w' fun e w'' => e = .returned (.int .i64 m2) ∧ Below w'.heap.size w' w''))
  have HV := Lib.hid (show tdB p L M (x, y, z) = (m != m2) from by rw [hm, hm2]; rfl)
  rw [HV.out]
  obtain ⟨r, hr⟩ : ∃ r, r = (m != m2) := ⟨_, rfl⟩
  have hr2 : (m != m2) = r := hr.symm
  rw [hr2]
  clear hr hm hm2 h h2 hb0 HV hv hv2 he p0 p1 p2 c0 c1 c2
  go_enter Try.func103, Try.ntmps103
  go_upto_region 1 with fail
  rw [← hWb]
  clear hWb
  refine wp_region_seq [(0, true), (1, true), (2, true), (4, true), (5, true), (6, true), (3, false), (7, false), (8, true)] (fun w' => (w'.cell? ⟨n, 0, none⟩ = some (.int .i64 p) ∧ w'.cell? ⟨n + 1, 0, none⟩ = some (.slice a L.length c) ∧ w'.cell? ⟨n + 1 + 1, 0, none⟩ = some (.slice b M.length d)) ∧ w'.cell? ⟨w.heap.size, 0, none⟩ = some (.int .i64 x) ∧ w'.cell? ⟨w.heap.size, 1, none⟩ = some (.int .i64 y) ∧ w'.cell? ⟨w.heap.size, 2, none⟩ = some (.int .i64 z)) (by kernel_rfl) (by kernel_rfl) rfl (by intro c a d v w h; cases d <;> exact h) (HS.out _ (Below.drew (Below.refl _ _))) ?_
  iterate 6 (refine wpSeq_take (v := ?_) (List.getElem?_toArray.trans rfl) ?_ ?_; rotate_left; (intro w' hSw; (try dsimp only at hSw); go_simp; (try with_reducible rfl)); (try simp only [Act.put, List.setIfInBounds_toArray, List.set_cons_zero, List.set_cons_succ]))
  refine wpSeq_do (List.getElem?_toArray.trans rfl) (fun K hK => ?_)
  go_simp
  refine (HR1.out _ (Below.drew (Below.refl _ _))).mono ?_
  rintro e w4 ⟨rfl, hb4⟩
  have hk4 : Below Wb.heap.size Wb w4 := (Below.drew (Below.refl _ _)).trans (hb4.mono (by simp))
  refine hK _ _ (HS.out _ hk4) ?_
  clear hK K hb4
  refine wpSeq_do (List.getElem?_toArray.trans rfl) (fun K hK => ?_)
  go_simp
  refine (HR2.out _ hk4).mono ?_
  rintro e w5 ⟨rfl, hb5⟩
  have hk5 : Below Wb.heap.size Wb w5 := hk4.trans (hb5.mono hk4.size)
  refine hK _ _ (HS.out _ hk5) ?_
  clear hK K hb5
  iterate 1 (refine wpSeq_take (v := ?_) (List.getElem?_toArray.trans rfl) ?_ ?_; rotate_left; (intro w' hSw; (try dsimp only at hSw); go_simp; (try with_reducible rfl)); (try simp only [Act.put, List.setIfInBounds_toArray, List.set_cons_zero, List.set_cons_succ]))
  refine wpSeq_nil ?_
  simp only [Exit.then]
  have HF := Lib.hid (HB0.out.trans (hk5.mono HB0.out.size))
  clear hk4 hk5 HS
  go_wp2_with fail
  go_ret
  exact ⟨rfl, HF.out⟩
end Go.Proofs.Ytajabchbdhjdiaa
namespace Go.Proofs.Ytajabchbdhjdiaa
set_option linter.unusedVariables false
open Go.RowKit Go.Shelf
theorem pat_e3 {p : Int} (hp : isP p = true) {t : Int × Int × Int} (ht : t ∈ patX p.toNat p.toNat) : isE3 p t.1 t.2.1 t.2.2 = true := by
  rw [patX_pnt p hp] at ht
  obtain ⟨k, hk, rfl⟩ := List.mem_map.1 ht
  have hc := cube_nat hp
  obtain ⟨q, x, y, z, _, he, e⟩ := pnt_at hp (k := k) (by rw [← hc]; exact_mod_cast List.mem_range.1 hk)
  rw [e]
  exact he
set_option maxRecDepth 100000 in
set_option maxHeartbeats 4000000 in
theorem iTellApart (p : Int) (f f2 : Value) (L M : List Gt) (w : World) (h : Gats w f L) (h2 : Gats w f2 M) :
    Calls Try.prog 55 #[.int .i64 p, f, f2] w (GivesPt (taT p L M) (taB p L M) w) := by
  have HT := Lib.hid h
  have HT2 := Lib.hid h2
  obtain ⟨_, fa, fc, rfl, _⟩ := h
  obtain ⟨_, ga, gc, rfl, _⟩ := h2
  obtain ⟨W, hW⟩ : ∃ W, W = (((w.alloc (Obj.cells #[.int .i64 p] 3)).alloc (Obj.cells #[.slice fa L.length fc] 58)).alloc (Obj.cells #[.slice ga M.length gc] 58)).alloc (Obj.cells #[.int .i64 0, .int .i64 0, .int .i64 0] 48) := ⟨_, rfl⟩
  have hbW : Below w.heap.size w W := by rw [hW]; exact (by repeat (first | exact Below.refl _ _ | apply Below.drew | apply below_drewN | (refine Below.alloc ?_ (by first | omega | (simp <;> omega)) _)))
  have sW : W.heap.size = w.heap.size + 4 := by rw [hW]; simp
  have past : ∀ (X : World) (o : Obj) (b j : Nat), b < X.heap.size → (X.alloc o).cell? ⟨b, j, none⟩ = X.cell? ⟨b, j, none⟩ := fun X o b j h => World.cell?_alloc_past _ _ _ h
  have cp : W.cell? ⟨w.heap.size, 0, none⟩ = some (.int .i64 p) := by rw [hW, past _ _ _ _ (by first | (simp; done) | (simp; omega)), past _ _ _ _ (by first | (simp; done) | (simp; omega)), past _ _ _ _ (by first | (simp; done) | (simp; omega))]; exact World.cell?_alloc_at _ _ _ _ rfl
  have cf : W.cell? ⟨w.heap.size + 1, 0, none⟩ = some (.slice fa L.length fc) := by rw [hW, past _ _ _ _ (by first | (simp; done) | (simp; omega)), past _ _ _ _ (by first | (simp; done) | (simp; omega))]; exact World.cell?_alloc_at _ _ _ _ (by simp)
  have cg : W.cell? ⟨w.heap.size + 1 + 1, 0, none⟩ = some (.slice ga M.length gc) := by rw [hW, past _ _ _ _ (by first | (simp; done) | (simp; omega))]; exact World.cell?_alloc_at _ _ _ _ (by simp)
  have ct : ∀ j, j < 3 → W.cell? ⟨w.heap.size + 1 + 1 + 1, j, none⟩ = some (.int .i64 0) ∧ W.frozen? ⟨w.heap.size + 1 + 1 + 1, j, none⟩ = false := by
    intro j hj
    rw [hW]
    refine ⟨?_, World.frozen?_alloc_at _ _ _ _ (by simp)⟩
    have h3 : j = 0 ∨ j = 1 ∨ j = 2 := by omega
    rcases h3 with rfl | rfl | rfl <;> exact World.cell?_alloc_at _ _ _ _ (by simp)
  have HBW := Lib.hid hbW
  have hs0 : w.heap.size < W.heap.size := by omega
  have hs1 : w.heap.size + 1 < W.heap.size := by omega
  have hs2 : w.heap.size + 1 + 1 < W.heap.size := by omega
  have hs3 : w.heap.size + 1 + 1 + 1 < W.heap.size := by omega
  have HWK := Lib.hid (fun w' (hb : Below W.heap.size W w') => show w'.cell? ⟨w.heap.size, 0, none⟩ = some (.int .i64 p) ∧ (w'.cell? ⟨w.heap.size + 1, 0, none⟩ = some (.slice fa L.length fc) ∧ w'.cell? ⟨w.heap.size + 1 + 1, 0, none⟩ = some (.slice ga M.length gc)) ∧ (∀ j, j < 3 → w'.cell? ⟨w.heap.size + 1 + 1 + 1, j, none⟩ = some (.int .i64 0) ∧ w'.frozen? ⟨w.heap.size + 1 + 1 + 1, j, none⟩ = false) ∧ Below w.heap.size w w' from
    ⟨(hb.cell (p := ⟨w.heap.size, 0, none⟩) hs0).trans cp, ⟨(hb.cell (p := ⟨w.heap.size + 1, 0, none⟩) hs1).trans cf, (hb.cell (p := ⟨w.heap.size + 1 + 1, 0, none⟩) hs2).trans cg⟩, fun j hj => ⟨(hb.cell (p := ⟨w.heap.size + 1 + 1 + 1, j, none⟩) hs3).trans (ct j hj).1, (hb.frozen (p := ⟨w.heap.size + 1 + 1 + 1, j, none⟩) hs3).trans (ct j hj).2⟩, HBW.out.trans (hb.mono HBW.out.size)⟩)
  have HPV := Lib.hid (fun w1 (hb1 : Below W.heap.size W w1) => iCircuitValid p (.slice fa L.length fc) L w1 (HT.out.below (HWK.out w1 hb1).2.2.2))
  have HPV2 := Lib.hid (fun w1 (hb1 : Below W.heap.size W w1) => iCircuitValid p (.slice ga M.length gc) M w1 (HT2.out.below (HWK.out w1 hb1).2.2.2))
  cases hV : (circB p L && circB p M)
  · have HV := Lib.hid (show taT p L M = (0, 0, 0) ∧ taB p L M = false from by unfold taT taB; rw [hV]; exact ⟨rfl, rfl⟩)
    rw [HV.out.1, HV.out.2]
    obtain ⟨b1, hB1⟩ : ∃ b1, b1 = circB p L := ⟨_, rfl⟩
    obtain ⟨b2, hB2⟩ : ∃ b2, b2 = circB p M := ⟨_, rfl⟩
    rw [← hB1] at hV HPV
    rw [← hB2] at hV HPV2
    clear HV hbW ct hB1 hB2 past
    cases b1
    · clear hV
      go_enter Try.func55, Try.ntmps55
      go_upto_region 1 with fail
      rw [← hW]
      clear hW
      go_wp2_with fail
      refine (HPV.out _ (Below.refl _ _)).mono ?_
      rintro e w1 ⟨rfl, hb1⟩
      obtain ⟨k0, ⟨k1, k2⟩, kt, kb⟩ := HWK.out w1 hb1
      obtain ⟨t0, f0⟩ := kt 0 (by omega)
      obtain ⟨t1, f1⟩ := kt 1 (by omega)
      obtain ⟨t2, f2⟩ := kt 2 (by omega)
      have HKB := Lib.hid kb
      clear kt hb1 kb cp cf cg
      go_wp2_with fail
      refine bodyPost_ret (v := .tuple #[encP (0, 0, 0), .bool false]) (by simp [results, Try.results55, go_sem, encP, t0, t1, t2]) rfl ⟨rfl, ?_⟩
      repeat (first | exact HKB.out | (refine Below.setCell ?_ (by show w.heap.size ≤ w.heap.size + 1 + 1 + 1; omega) _))
    · have hb2 : b2 = false := by simpa using hV
      subst hb2
      clear hV
      go_enter Try.func55, Try.ntmps55
      go_upto_region 1 with fail
      rw [← hW]
      clear hW
      go_wp2_with fail
      refine (HPV.out _ (Below.refl _ _)).mono ?_
      rintro e w1 ⟨rfl, hb1⟩
      have HB0 := Lib.hid hb1
      obtain ⟨k0, ⟨k1, k2⟩, _, _⟩ := HWK.out w1 hb1
      clear hb1 cp cf cg
      go_wp2_with fail
      refine (HPV2.out _ HB0.out).mono ?_
      rintro e w1' ⟨rfl, hb1'⟩
      have hb1 := HB0.out.trans (hb1'.mono HB0.out.size)
      clear hb1' k0 k1 k2
      obtain ⟨k0, ⟨k1, k2⟩, kt, kb⟩ := HWK.out w1' hb1
      obtain ⟨t0, f0⟩ := kt 0 (by omega)
      obtain ⟨t1, f1⟩ := kt 1 (by omega)
      obtain ⟨t2, f2⟩ := kt 2 (by omega)
      have HKB := Lib.hid kb
      clear kt hb1 kb
      go_wp2_with fail
      refine bodyPost_ret (v := .tuple #[encP (0, 0, 0), .bool false]) (by simp [results, Try.results55, go_sem, encP, t0, t1, t2]) rfl ⟨rfl, ?_⟩
      repeat (first | exact HKB.out | (refine Below.setCell ?_ (by show w.heap.size ≤ w.heap.size + 1 + 1 + 1; omega) _))
  · have hcc : circB p L = true ∧ circB p M = true := by simpa using hV
    have hpi := (circB_iff.1 hcc.1).1
    have HPA := Lib.hid (fun (t : Int × Int × Int) (ht : t ∈ patX p.toNat p.toNat) => pat_e3 hpi ht)
    have HV := Lib.hid (show taT p L M = fpT (patX p.toNat p.toNat) (tdB p L M) ∧ taB p L M = fpB (patX p.toNat p.toNat) (tdB p L M) from by unfold taT taB; rw [hV]; exact ⟨rfl, rfl⟩)
    rw [hcc.1] at HPV
    rw [hcc.2] at HPV2
    rw [HV.out.1, HV.out.2]
    have hpb := isP_bd hpi
    obtain ⟨P, hP⟩ : ∃ P : Nat, P = p.toNat := ⟨_, rfl⟩
    rw [← hP] at HPA ⊢
    have hpP : p = (P : Int) := by omega
    have HFP := Lib.hid (fun w1 (hb1 : Below W.heap.size W w1) => iFirstPt P (by omega) 103 #[.pointer (some ⟨w.heap.size + 1, 0, none⟩), .pointer (some ⟨w.heap.size, 0, none⟩), .pointer (some ⟨w.heap.size + 1 + 1, 0, none⟩)] (tdB p L M) w1 (enters_of Try.func103 (by kernel_rfl) rfl)
      (fun t ht w' hb => by
        obtain ⟨x, y, z⟩ := t
        obtain ⟨k0, ⟨k1, k2⟩, _, kb⟩ := HWK.out w' (hb1.trans (hb.mono hb1.size))
        exact iTd1 p L M fa ga fc gc w.heap.size x y z w' hcc.1 hcc.2 (HPA.out _ ht) k0 k1 k2 (HT.out.below kb) (HT2.out.below kb)))
    obtain ⟨t, ht⟩ : ∃ t, t = fpT (patX P P) (tdB p L M) := ⟨_, rfl⟩
    obtain ⟨r, hr⟩ : ∃ r, r = fpB (patX P P) (tdB p L M) := ⟨_, rfl⟩
    rw [← ht, ← hr] at HFP ⊢
    subst hpP
    obtain ⟨x, y, z⟩ := t
    simp only [encP] at HFP
    clear hV hbW ct hcc hpi hP HV HPA ht hr past
    go_enter Try.func55, Try.ntmps55
    go_upto_region 1 with fail
    rw [← hW]
    clear hW
    go_wp2_with fail
    refine (HPV.out _ (Below.refl _ _)).mono ?_
    rintro e w0 ⟨rfl, hb0⟩
    have HB0 := Lib.hid hb0
    obtain ⟨k0, ⟨k1, k2⟩, _, _⟩ := HWK.out w0 hb0
    clear hb0 cp cf cg
    go_wp2_with fail
    refine (HPV2.out _ HB0.out).mono ?_
    rintro e w1 ⟨rfl, hb1⟩
    have HB1 := Lib.hid (show Below W.heap.size W w1 from HB0.out.trans (hb1.mono HB0.out.size))
    clear k0 k1 k2 hb1
    obtain ⟨k0, ⟨k1, k2⟩, kt, kb⟩ := HWK.out w1 HB1.out
    clear kt kb
    go_wp2_with fail
    refine (HFP.out w1 HB1.out).mono ?_
    rintro e w2 ⟨rfl, hb2⟩
    obtain ⟨_, _, kt, kb⟩ := HWK.out w2 (HB1.out.trans (hb2.mono HB1.out.size))
    obtain ⟨t0, f0⟩ := kt 0 (by omega)
    obtain ⟨t1, f1⟩ := kt 1 (by omega)
    obtain ⟨t2, f2⟩ := kt 2 (by omega)
    have HKB := Lib.hid kb
    clear kt hb2 kb k0 k1 k2
    go_wp2_with fail
    refine bodyPost_ret (v := .tuple #[.agg #[.int .i64 x, .int .i64 y, .int .i64 z], .bool r]) (by simp [results, Try.results55, go_sem, t0, t1, t2]) rfl ⟨rfl, ?_⟩
    repeat (first | exact HKB.out | (refine Below.setCell ?_ (by show w.heap.size ≤ w.heap.size + 1 + 1 + 1; omega) _))
end Go.Proofs.Ytajabchbdhjdiaa
namespace Go.Proofs.Ytajabchbdhjdiaa
set_option linter.unusedVariables false
open Go.RowKit Go.Shelf
set_option maxRecDepth 100000 in
set_option maxHeartbeats 4000000 in
theorem sTellApart (p : Int) (f f2 : Value) (L M : List Gt) (w : World) (h : Gats w f L) (h2 : Gats w f2 M) :
    Calls Try.prog 53 #[.int .i64 p, f, f2] w (GivesPt (taT p L M) (taB p L M) w) := by
  have HT := Lib.hid h
  have HT2 := Lib.hid h2
  obtain ⟨_, fa, fc, rfl, _⟩ := h
  obtain ⟨_, ga, gc, rfl, _⟩ := h2
  obtain ⟨W, hW⟩ : ∃ W, W = w.alloc (Obj.cells #[.int .i64 0, .int .i64 0, .int .i64 0] 48) := ⟨_, rfl⟩
  have hbW : Below w.heap.size w W := by rw [hW]; exact (by repeat (first | exact Below.refl _ _ | apply Below.drew | apply below_drewN | (refine Below.alloc ?_ (by first | omega | (simp <;> omega)) _)))
  have sW : W.heap.size = w.heap.size + 1 := by rw [hW]; simp
  have ct : ∀ j, j < 3 → W.cell? ⟨w.heap.size, j, none⟩ = some (.int .i64 0) ∧ W.frozen? ⟨w.heap.size, j, none⟩ = false := by
    intro j hj
    rw [hW]
    refine ⟨?_, World.frozen?_alloc_at _ _ _ _ (by simp)⟩
    have h3 : j = 0 ∨ j = 1 ∨ j = 2 := by omega
    rcases h3 with rfl | rfl | rfl <;> exact World.cell?_alloc_at _ _ _ _ (by simp)
  have HBW := Lib.hid hbW
  have hs0 : w.heap.size < W.heap.size := by omega
  have HWK := Lib.hid (fun w' (hb : Below W.heap.size W w') => show (∀ j, j < 3 → w'.cell? ⟨w.heap.size, j, none⟩ = some (.int .i64 0) ∧ w'.frozen? ⟨w.heap.size, j, none⟩ = false) ∧ Below w.heap.size w w' from
    ⟨fun j hj => ⟨(hb.cell (p := ⟨w.heap.size, j, none⟩) hs0).trans (ct j hj).1, (hb.frozen (p := ⟨w.heap.size, j, none⟩) hs0).trans (ct j hj).2⟩, HBW.out.trans (hb.mono HBW.out.size)⟩)
  have HPV := Lib.hid (fun w1 (hb1 : Below W.heap.size W w1) => sCircuitValid p (.slice fa L.length fc) L w1 (HT.out.below (HWK.out w1 hb1).2))
  have HPV2 := Lib.hid (fun w1 (hb1 : Below W.heap.size W w1) => sCircuitValid p (.slice ga M.length gc) M w1 (HT2.out.below (HWK.out w1 hb1).2))
  cases hV : (circB p L && circB p M)
  · have HV := Lib.hid (show taT p L M = (0, 0, 0) ∧ taB p L M = false from by unfold taT taB; rw [hV]; exact ⟨rfl, rfl⟩)
    rw [HV.out.1, HV.out.2]
    obtain ⟨b1, hB1⟩ : ∃ b1, b1 = circB p L := ⟨_, rfl⟩
    obtain ⟨b2, hB2⟩ : ∃ b2, b2 = circB p M := ⟨_, rfl⟩
    rw [← hB1] at hV HPV
    rw [← hB2] at hV HPV2
    clear HV hbW ct hB1 hB2
    cases b1
    · clear hV
      go_enter Try.func53, Try.ntmps53
      go_upto_region 1 with fail
      rw [← hW]
      clear hW
      go_wp2_with fail
      refine (HPV.out _ (Below.refl _ _)).mono ?_
      rintro e w1 ⟨rfl, hb1⟩
      obtain ⟨kt, kb⟩ := HWK.out w1 hb1
      obtain ⟨t0, f0⟩ := kt 0 (by omega)
      obtain ⟨t1, f1⟩ := kt 1 (by omega)
      obtain ⟨t2, f2⟩ := kt 2 (by omega)
      have HKB := Lib.hid kb
      clear kt hb1 kb
      go_wp2_with fail
      refine bodyPost_ret (v := .tuple #[encP (0, 0, 0), .bool false]) (by simp [results, Try.results53, go_sem, encP, t0, t1, t2]) rfl ⟨rfl, ?_⟩
      repeat (first | exact HKB.out | (refine Below.setCell ?_ (by show w.heap.size ≤ w.heap.size; omega) _))
    · have hb2 : b2 = false := by simpa using hV
      subst hb2
      clear hV
      go_enter Try.func53, Try.ntmps53
      go_upto_region 1 with fail
      rw [← hW]
      clear hW
      go_wp2_with fail
      refine (HPV.out _ (Below.refl _ _)).mono ?_
      rintro e w1 ⟨rfl, hb1⟩
      have HB0 := Lib.hid hb1
      clear hb1
      go_wp2_with fail
      refine (HPV2.out _ HB0.out).mono ?_
      rintro e w1' ⟨rfl, hb1'⟩
      have hb1 := HB0.out.trans (hb1'.mono HB0.out.size)
      clear hb1'
      obtain ⟨kt, kb⟩ := HWK.out w1' hb1
      obtain ⟨t0, f0⟩ := kt 0 (by omega)
      obtain ⟨t1, f1⟩ := kt 1 (by omega)
      obtain ⟨t2, f2⟩ := kt 2 (by omega)
      have HKB := Lib.hid kb
      clear kt hb1 kb
      go_wp2_with fail
      refine bodyPost_ret (v := .tuple #[encP (0, 0, 0), .bool false]) (by simp [results, Try.results53, go_sem, encP, t0, t1, t2]) rfl ⟨rfl, ?_⟩
      repeat (first | exact HKB.out | (refine Below.setCell ?_ (by show w.heap.size ≤ w.heap.size; omega) _))
  · have hcc : circB p L = true ∧ circB p M = true := by simpa using hV
    have hpi := (circB_iff.1 hcc.1).1
    have HV := Lib.hid (show taT p L M = fpT (patX p.toNat p.toNat) (tdB p L M) ∧ taB p L M = fpB (patX p.toNat p.toNat) (tdB p L M) from by unfold taT taB; rw [hV]; exact ⟨rfl, rfl⟩)
    rw [hcc.1] at HPV
    rw [hcc.2] at HPV2
    rw [HV.out.1, HV.out.2, patX_pnt p hpi]
    have hpp := pp_bd hpi
    have HC := Lib.hid (cube_nat hpi)
    obtain ⟨C, hC⟩ : ∃ C, C = p.toNat * p.toNat * p.toNat := ⟨_, rfl⟩
    rw [← hC] at HC ⊢
    have hC2 : (C : Int) ≤ 2197 := by rw [HC.out]; omega
    obtain ⟨c3, hc3⟩ : ∃ c3, c3 = p * p * p := ⟨_, rfl⟩
    have HPS := Lib.hid (fun w => (by rw [hc3]; exact sPoints p hpi w : Calls Try.prog 70 #[.int .i64 p] w fun e w' => e = .returned (.int .i64 c3) ∧ w = w'))
    have HC3 := Lib.hid (show c3 = (C : Int) from by rw [hc3, HC.out])
    have HPA := Lib.hid (fun (k : Nat) (hk : k < C) => pnt_at hpi (k := k) (by rw [← HC.out]; omega))
    have HPP := Lib.hid hcc
    obtain ⟨S, hS⟩ : ∃ S, S = (List.range C).map (pnt p.toNat) := ⟨_, rfl⟩
    have HS := Lib.hid hS
    rw [← hS]
    clear hV hbW ct hcc hpp hC hc3 HV HC hS
    have hc3 := HC3.out
    subst hc3
    go_enter Try.func53, Try.ntmps53
    go_upto_region 1 with fail
    rw [← hW]
    clear hW
    go_wp2_with fail
    refine (HPV.out _ (Below.refl _ _)).mono ?_
    rintro e w0 ⟨rfl, hb0⟩
    have HB0 := Lib.hid hb0
    clear hb0
    go_wp2_with fail
    refine (HPV2.out _ HB0.out).mono ?_
    rintro e w1 ⟨rfl, hb1⟩
    have HB1 := Lib.hid (HB0.out.trans (hb1.mono HB0.out.size))
    clear hb1
    go_wp2_with fail
    refine (HPS.out _).mono ?_
    rintro e w2 ⟨rfl, rfl⟩
    go_wp2_with fail
    go_loopw [20] (fun i wr => ∃ k : Nat, k ≤ C ∧ i = .int .i64 k ∧ (∀ j, j < k → tdB p L M (pnt p.toNat j) = false) ∧ Below W.heap.size W wr) (fun i _ => C - (intOf i).toNat)
    case atStart => exact ⟨0, by omega, rfl, fun j hj => by omega, HB1.out⟩
    case round =>
      obtain ⟨k, hk, rfl, hz, hb⟩ := hrel
      have HZ := Lib.hid hz
      have HB := Lib.hid hb
      clear hz hb
      by_cases hlt : k < C
      · have hltp : (k : Int) < (C : Int) := by omega
        have hk0 : (0 : Int) ≤ (k : Int) := by omega
        obtain ⟨q, x, y, z, hq, he, hpt⟩ := HPA.out k hlt
        obtain ⟨m, hm⟩ : ∃ m, m = rsV p L x y z := ⟨_, rfl⟩
        obtain ⟨m2, hm2⟩ : ∃ m2, m2 = rsV p M x y z := ⟨_, rfl⟩
        have HN := Lib.hid (show tdB p L M (pnt p.toNat k) = (m != m2) ∧ pnt p.toNat k = (x, y, z) from by
          refine ⟨?_, hpt⟩
          rw [hpt, hm, hm2]
          rfl)
        have HPT := Lib.hid (fun w => sPoint p k q x y z (circB_iff.1 HPP.out.1).1 hq w)
        have HAT := Lib.hid (fun w' (hb : Below w.heap.size w w') => (by rw [hm]; exact sResult p x y z (.slice fa L.length fc) L w' HPP.out.1 he (HT.out.below hb) : Calls Try.prog 100 #[.int .i64 p, .slice fa L.length fc, .agg #[.int .i64 x, .int .i64 y, .int .i64 z]] w' fun e w'' => e = .returned (.int .i64 m) ∧ Below w'.heap.size w' w''))
        have HAT2 := Lib.hid (fun w' (hb : Below w.heap.size w w') => (by rw [hm2]; exact sResult p x y z (.slice ga M.length gc) M w' HPP.out.2 he (HT2.out.below hb) : Calls Try.prog 100 #[.int .i64 p, .slice ga M.length gc, .agg #[.int .i64 x, .int .i64 y, .int .i64 z]] w' fun e w'' => e = .returned (.int .i64 m2) ∧ Below w'.heap.size w' w''))
        clear hq he hpt hm hm2
        go_wp2_with fail
        refine (HPT.out _).mono ?_
        rintro e w3 ⟨rfl, hb3⟩
        have HB3 := Lib.hid (show Below W.heap.size W w3 from HB.out.trans (hb3.mono HB.out.size))
        clear hb3
        go_upto_region 6 with fail
        obtain ⟨Wb, hWb⟩ : ∃ Wb, Wb = w3.alloc (Obj.cells #[.int .i64 x, .int .i64 y, .int .i64 z] 48) := ⟨_, rfl⟩
        have HB4 := Lib.hid (show Below W.heap.size W Wb from by rw [hWb]; exact HB3.out.alloc HB3.out.size _)
        have p0 : Wb.cell? ⟨w3.heap.size, 0, none⟩ = some (.int .i64 x) := by rw [hWb]; exact World.cell?_alloc_at _ _ _ 0 rfl
        have p1 : Wb.cell? ⟨w3.heap.size, 1, none⟩ = some (.int .i64 y) := by rw [hWb]; exact World.cell?_alloc_at _ _ _ 1 rfl
        have p2 : Wb.cell? ⟨w3.heap.size, 2, none⟩ = some (.int .i64 z) := by rw [hWb]; exact World.cell?_alloc_at _ _ _ 2 rfl
        have sb : w3.heap.size < Wb.heap.size := by rw [hWb]; simp
        rw [← hWb]
        clear hWb
        have HS6 := Lib.hid (fun w' (hw : Below Wb.heap.size Wb w') => show w'.cell? ⟨w3.heap.size, 0, none⟩ = some (.int .i64 x) ∧ w'.cell? ⟨w3.heap.size, 1, none⟩ = some (.int .i64 y) ∧ w'.cell? ⟨w3.heap.size, 2, none⟩ = some (.int .i64 z) from
          ⟨(hw.cell (p := ⟨w3.heap.size, 0, none⟩) sb).trans p0, (hw.cell (p := ⟨w3.heap.size, 1, none⟩) sb).trans p1, (hw.cell (p := ⟨w3.heap.size, 2, none⟩) sb).trans p2⟩)
        refine wp_region_seq [(0, true), (1, true), (2, true), (4, true), (5, true), (6, true), (3, false), (7, false)] (fun w' => w'.cell? ⟨w3.heap.size, 0, none⟩ = some (.int .i64 x) ∧ w'.cell? ⟨w3.heap.size, 1, none⟩ = some (.int .i64 y) ∧ w'.cell? ⟨w3.heap.size, 2, none⟩ = some (.int .i64 z)) (by kernel_rfl) (by kernel_rfl) rfl (by intro c a d v w h; cases d <;> exact h) (HS6.out _ (Below.drew (Below.refl _ _))) ?_
        iterate 6 (refine wpSeq_take (v := ?_) (List.getElem?_toArray.trans rfl) ?_ ?_; rotate_left; (intro w' hSw; (try dsimp only at hSw); go_simp; (try with_reducible rfl)); (try simp only [Act.put, List.setIfInBounds_toArray, List.set_cons_zero, List.set_cons_succ]))
        refine wpSeq_do (List.getElem?_toArray.trans rfl) (fun K hK => ?_)
        go_simp
        refine (HAT.out _ (HWK.out _ (HB4.out.trans (Below.drew (Below.refl _ _) |>.mono HB4.out.size))).2).mono ?_
        rintro e w4 ⟨rfl, hb4⟩
        have hk4 : Below Wb.heap.size Wb w4 := (Below.drew (Below.refl _ _)).trans (hb4.mono (by simp))
        refine hK _ _ (HS6.out _ hk4) ?_
        clear hK K hb4
        refine wpSeq_do (List.getElem?_toArray.trans rfl) (fun K hK => ?_)
        go_simp
        refine (HAT2.out _ (HWK.out _ (HB4.out.trans (hk4.mono HB4.out.size))).2).mono ?_
        rintro e w5 ⟨rfl, hb5⟩
        have hk5 : Below Wb.heap.size Wb w5 := hk4.trans (hb5.mono hk4.size)
        refine hK _ _ (HS6.out _ hk5) ?_
        clear hK K hb5
        refine wpSeq_nil ?_
        simp only [Exit.then]
        have HB5 := Lib.hid (show Below W.heap.size W w5 from HB4.out.trans (hk5.mono HB4.out.size))
        obtain ⟨d0, d1, d2⟩ := HS6.out _ hk5
        clear hk4 hk5 p0 p1 p2 HS6
        obtain ⟨b, hb⟩ : ∃ b, b = (m != m2) := ⟨_, rfl⟩
        have hmb : (m != m2) = b := hb.symm
        have HMB := Lib.hid hmb
        clear hb
        cases b
        · go_wp2_with fail
          go_roundw
          case rel => exact ⟨k + 1, by omega, by go_num, fun j hj => by
            by_cases e : j = k
            · rw [e, HN.out.1, HMB.out]
            · exact HZ.out j (by omega), HB5.out⟩
          case measure => simp [intOf]; omega
        · have HE := Lib.hid (show fpT S (tdB p L M) = (x, y, z) ∧ fpB S (tdB p L M) = true from by
            obtain ⟨post, hpo⟩ := range_split hlt p.toNat
            rw [HS.out, hpo, HN.out.2]
            refine fp_some (fun s hs => ?_) (by rw [← HN.out.2, HN.out.1, HMB.out])
            obtain ⟨j, hj, rfl⟩ := List.mem_map.1 hs
            exact HZ.out j (List.mem_range.1 hj))
          obtain ⟨kt, kb⟩ := HWK.out w5 HB5.out
          obtain ⟨t0, f0⟩ := kt 0 (by omega)
          obtain ⟨t1, f1⟩ := kt 1 (by omega)
          obtain ⟨t2, f2⟩ := kt 2 (by omega)
          have HKB := Lib.hid kb
          clear kt kb
          go_wp2_with fail
          rw [HE.out.1, HE.out.2]
          refine bodyPost_ret (v := .tuple #[.agg #[.int .i64 x, .int .i64 y, .int .i64 z], .bool true]) (by simp [results, Try.results53, go_sem, t0, t1, t2]) rfl ⟨rfl, ?_⟩
          repeat (first | exact HKB.out | (refine Below.setCell ?_ (by show w.heap.size ≤ w.heap.size; omega) _))
      · have hkp : k = C := by omega
        subst hkp
        have hnl : ¬ (k : Int) < (k : Int) := by omega
        have HE := Lib.hid (show fpT S (tdB p L M) = (0, 0, 0) ∧ fpB S (tdB p L M) = false from by
          refine fp_none (fun s hs => ?_)
          rw [HS.out] at hs
          obtain ⟨j, hj, rfl⟩ := List.mem_map.1 hs
          exact HZ.out j (List.mem_range.1 hj))
        obtain ⟨kt, kb⟩ := HWK.out wr HB.out
        obtain ⟨t0, f0⟩ := kt 0 (by omega)
        obtain ⟨t1, f1⟩ := kt 1 (by omega)
        obtain ⟨t2, f2⟩ := kt 2 (by omega)
        have HKB := Lib.hid kb
        clear kt kb
        go_wp2_with fail
        rw [HE.out.1, HE.out.2]
        refine bodyPost_ret (v := .tuple #[encP (0, 0, 0), .bool false]) (by simp [results, Try.results53, go_sem, encP, t0, t1, t2]) rfl ⟨rfl, ?_⟩
        repeat (first | exact HKB.out | (refine Below.setCell ?_ (by show w.heap.size ≤ w.heap.size; omega) _))
end Go.Proofs.Ytajabchbdhjdiaa
namespace Go.Proofs.Ytajabchbdhjdiaa
set_option linter.unusedVariables false
open Go.RowKit
theorem eqA3_t (x y z : Int) (w : World) : Calls Try.prog 51 #[.agg #[.int .i64 x, .int .i64 y, .int .i64 z], .agg #[.int .i64 x, .int .i64 y, .int .i64 z]] w fun e w' => e = .returned (.bool true) ∧ Below w.heap.size w w' :=
  (eqA3_is true x y z x y z (by simp) w).mono fun e w' ⟨h, n, hn⟩ => ⟨h, by rw [← hn]; exact below_drewN (Below.alloc (Below.alloc (Below.refl _ _) (Nat.le_refl _) _) (by simp) _) _⟩
set_option maxRecDepth 100000 in
set_option maxHeartbeats 8000000 in
theorem xTellApart_in (a0 : Int) (a1 : Option Addr) (L1 : List Gt) (c1 : Nat) (a2 : Option Addr) (L2 : List Gt) (c2 : Nat) (x y z : Int) (r0 : Bool) (w : World) (h1 : Gats w (.slice a1 L1.length c1) L1) (h2 : Gats w (.slice a2 L2.length c2) L2) (hl : L1.length + L2.length ≤ 1048576)
    (hS : ∀ f1, ∀ f2, ∀ w, Gats w f1 L1 → Gats w f2 L2 → Calls Try.prog 53 #[.int .i64 a0, f1, f2] w fun e w' => e = .returned (.tuple #[.agg #[.int .i64 x, .int .i64 y, .int .i64 z], .bool r0]) ∧ Below w.heap.size w w')
    (hI : ∀ f1, ∀ f2, ∀ w, Gats w f1 L1 → Gats w f2 L2 → Calls Try.prog 55 #[.int .i64 a0, f1, f2] w fun e w' => e = .returned (.tuple #[.agg #[.int .i64 x, .int .i64 y, .int .i64 z], .bool r0]) ∧ Below w.heap.size w w') :
    Calls Try.prog 14 #[.int .i64 a0, .slice a1 L1.length c1, .slice a2 L2.length c2] w fun e w' => e = .returned (.bool true) ∧ Below w.heap.size w w' := by
  have m1 : (1048576 : Int) - L1.length ≥ 0 := by omega
  have HS1 := Lib.hid (szC_at a1 L1.length c1 (1048576) w (by omega) (by omega) (by omega))
  have Q1 := Lib.hid h1
  have m2 : (1048576 - L1.length : Int) - L2.length ≥ 0 := by omega
  have HS2 := Lib.hid (szC_at a2 L2.length c2 (1048576 - L1.length) w (by omega) (by omega) (by omega))
  have Q2 := Lib.hid h2
  have n1 : (L1.length : Int) ≤ 1048576 := by omega
  have n2 : (L2.length : Int) ≤ 1048576 := by omega
  clear h1 h2
  have HSP := Lib.hid hS
  have HIM := Lib.hid hI
  clear hS hI
  have bb0 := bne_self2 r0
  go_enter Try.func14, Try.ntmps14
  go_wp2_with fail
  refine HS1.out.mono ?_
  rintro e w' ⟨rfl, rfl⟩
  go_wp2_with fail
  refine HS2.out.mono ?_
  rintro e w' ⟨rfl, rfl⟩
  have B := Lib.hid (Below.refl w.heap.size w)
  go_wp2_with fail
  refine (toC _ L1 _ (Q1.out.below B.out)).mono ?_
  rintro e W1 ⟨s1, rfl, ho, hb⟩
  replace B := Lib.hid (B.out.trans (hb.mono B.out.size))
  clear hb
  have S1 := Lib.hid ho.gats
  clear ho
  go_wp2_with fail
  refine (toC _ L2 _ (Q2.out.below B.out)).mono ?_
  rintro e W2 ⟨s2, rfl, ho, hb⟩
  replace B := Lib.hid (B.out.trans (hb.mono B.out.size))
  replace S1 := Lib.hid (S1.out.below hb)
  clear hb
  have S2 := Lib.hid ho.gats
  clear ho
  go_wp2_with fail
  refine (HSP.out _ _ _ S1.out S2.out).mono ?_
  rintro e W3 ⟨rfl, hb⟩
  replace B := Lib.hid (B.out.trans (hb.mono B.out.size))
  replace S1 := Lib.hid (S1.out.below hb)
  replace S2 := Lib.hid (S2.out.below hb)
  clear hb
  clear S1
  clear S2
  go_wp2_with fail
  obtain ⟨WA, hWA⟩ : ∃ WA, WA = W3.alloc (Obj.cells #[.int .i64 x, .int .i64 y, .int .i64 z] 48) := ⟨_, rfl⟩
  have hbA : Below W3.heap.size W3 WA := by rw [hWA]; exact Below.alloc (Below.refl _ _) (Nat.le_refl _) _
  have p0 : WA.cell? ⟨W3.heap.size, 0, none⟩ = some (.int .i64 x) := by rw [hWA]; exact World.cell?_alloc_at _ _ _ 0 rfl
  have p1 : WA.cell? ⟨W3.heap.size, 1, none⟩ = some (.int .i64 y) := by rw [hWA]; exact World.cell?_alloc_at _ _ _ 1 rfl
  have p2 : WA.cell? ⟨W3.heap.size, 2, none⟩ = some (.int .i64 z) := by rw [hWA]; exact World.cell?_alloc_at _ _ _ 2 rfl
  have pl : W3.heap.size < WA.heap.size := by rw [hWA]; simp
  rw [← hWA]
  replace B := Lib.hid (B.out.trans (hbA.mono B.out.size))
  have XA := Lib.hid (fun w' (h : Below WA.heap.size WA w') => show w'.cell? ⟨W3.heap.size, 0, none⟩ = some (.int .i64 x) ∧ w'.cell? ⟨W3.heap.size, 1, none⟩ = some (.int .i64 y) ∧ w'.cell? ⟨W3.heap.size, 2, none⟩ = some (.int .i64 z) ∧ W3.heap.size < w'.heap.size from
    ⟨(h.cell (p := ⟨W3.heap.size, 0, none⟩) pl).trans p0, (h.cell (p := ⟨W3.heap.size, 1, none⟩) pl).trans p1, (h.cell (p := ⟨W3.heap.size, 2, none⟩) pl).trans p2, Nat.lt_of_lt_of_le pl h.size⟩)
  have ZA := Lib.hid (Below.refl WA.heap.size WA)
  clear hWA hbA p0 p1 p2 pl
  refine (toC _ L1 _ (Q1.out.below B.out)).mono ?_
  rintro e W4 ⟨x1, rfl, ho, hb⟩
  replace B := Lib.hid (B.out.trans (hb.mono B.out.size))
  replace ZA := Lib.hid (ZA.out.trans (hb.mono ZA.out.size))
  clear hb
  have O1 := Lib.hid ho
  clear ho
  have Y1 := Lib.hid (Below.refl W4.heap.size W4)
  go_wp2_with fail
  refine (toC _ L2 _ (Q2.out.below B.out)).mono ?_
  rintro e W5 ⟨x2, rfl, ho, hb⟩
  replace B := Lib.hid (B.out.trans (hb.mono B.out.size))
  replace ZA := Lib.hid (ZA.out.trans (hb.mono ZA.out.size))
  replace Y1 := Lib.hid (Y1.out.trans (hb.mono Y1.out.size))
  clear hb
  have O2 := Lib.hid ho
  clear ho
  have Y2 := Lib.hid (Below.refl W5.heap.size W5)
  go_wp2_with fail
  refine (HIM.out _ _ _ (O1.out.gats.below Y1.out) (O2.out.gats.below Y2.out)).mono ?_
  rintro e W6 ⟨rfl, hb⟩
  replace B := Lib.hid (B.out.trans (hb.mono B.out.size))
  replace ZA := Lib.hid (ZA.out.trans (hb.mono ZA.out.size))
  replace Y1 := Lib.hid (Y1.out.trans (hb.mono Y1.out.size))
  replace Y2 := Lib.hid (Y2.out.trans (hb.mono Y2.out.size))
  clear hb
  obtain ⟨a0, a1, a2, alt⟩ := XA.out _ ZA.out
  go_wp2_with fail
  refine (eqA3_t x y z _).mono ?_
  rintro e WE ⟨rfl, hb⟩
  replace B := Lib.hid ((B.out.alloc B.out.size _).trans (hb.mono (by have := B.out.size; simp; omega)))
  replace Y1 := Lib.hid ((Y1.out.alloc Y1.out.size _).trans (hb.mono (by have := Y1.out.size; simp; omega)))
  replace Y2 := Lib.hid ((Y2.out.alloc Y2.out.size _).trans (hb.mono (by have := Y2.out.size; simp; omega)))
  clear hb a0 a1 a2 alt XA ZA
  go_wp2_with fail
  refine (toC _ L1 _ (Q1.out.below B.out)).mono ?_
  rintro e W7 ⟨y1, rfl, ho, hb⟩
  replace B := Lib.hid (B.out.trans (hb.mono B.out.size))
  replace Y1 := Lib.hid (Y1.out.trans (hb.mono Y1.out.size))
  replace Y2 := Lib.hid (Y2.out.trans (hb.mono Y2.out.size))
  clear hb
  have S1 := Lib.hid ho.gats
  clear ho
  go_wp2_with fail
  refine (eqC x1 y1 L1 _ (O1.out.gats.below Y1.out) S1.out).mono ?_
  rintro e W8 ⟨rfl, hb⟩
  clear S1
  replace B := Lib.hid (B.out.trans (hb.mono B.out.size))
  replace Y1 := Lib.hid (Y1.out.trans (hb.mono Y1.out.size))
  replace Y2 := Lib.hid (Y2.out.trans (hb.mono Y2.out.size))
  clear hb
  go_wp2_with fail
  refine (toC _ L2 _ (Q2.out.below B.out)).mono ?_
  rintro e W9 ⟨y2, rfl, ho, hb⟩
  replace B := Lib.hid (B.out.trans (hb.mono B.out.size))
  replace Y1 := Lib.hid (Y1.out.trans (hb.mono Y1.out.size))
  replace Y2 := Lib.hid (Y2.out.trans (hb.mono Y2.out.size))
  clear hb
  have S2 := Lib.hid ho.gats
  clear ho
  go_wp2_with fail
  refine (eqC x2 y2 L2 _ (O2.out.gats.below Y2.out) S2.out).mono ?_
  rintro e W10 ⟨rfl, hb⟩
  clear S2
  replace B := Lib.hid (B.out.trans (hb.mono B.out.size))
  replace Y1 := Lib.hid (Y1.out.trans (hb.mono Y1.out.size))
  replace Y2 := Lib.hid (Y2.out.trans (hb.mono Y2.out.size))
  clear hb
  go_wp2_with fail
  go_ret
  exact ⟨rfl, B.out⟩
set_option maxHeartbeats 1000000 in
theorem xTellApart_long0 (a0 : Int) (a1 : Option Addr) (n1 c1 : Nat) (a2 : Option Addr) (n2 c2 : Nat) (w : World) (h1 : 1048576 < n1) (h2 : n1 ≤ 9223372036854775807) :
    Calls Try.prog 14 #[.int .i64 a0, .slice a1 n1 c1, .slice a2 n2 c2] w fun e w' => e = .returned (.bool true) ∧ Below w.heap.size w w' := by
  have HS1 := Lib.hid (szC_over a1 n1 c1 (1048576) w (by omega) (by omega) (by omega) (by omega))
  clear h1 h2
  go_enter Try.func14, Try.ntmps14
  go_wp2_with fail
  refine HS1.out.mono ?_
  rintro e w' ⟨rfl, rfl⟩
  go_wp2_with fail
  go_ret
  exact ⟨rfl, Below.refl _ _⟩
set_option maxHeartbeats 1000000 in
theorem xTellApart_long1 (a0 : Int) (a1 : Option Addr) (n1 c1 : Nat) (a2 : Option Addr) (n2 c2 : Nat) (w : World) (k1 : n1 ≤ 1048576) (h1 : 1048576 < n1 + n2) (h2 : n2 ≤ 9223372036854775807) :
    Calls Try.prog 14 #[.int .i64 a0, .slice a1 n1 c1, .slice a2 n2 c2] w fun e w' => e = .returned (.bool true) ∧ Below w.heap.size w w' := by
  have m1 : (1048576 : Int) - n1 ≥ 0 := by omega
  have HS1 := Lib.hid (szC_at a1 n1 c1 (1048576) w (by omega) (by omega) (by omega))
  have HS2 := Lib.hid (szC_over a2 n2 c2 (1048576 - n1) w (by omega) (by omega) (by omega) (by omega))
  clear h1 h2
  go_enter Try.func14, Try.ntmps14
  go_wp2_with fail
  refine HS1.out.mono ?_
  rintro e w' ⟨rfl, rfl⟩
  go_wp2_with fail
  refine HS2.out.mono ?_
  rintro e w' ⟨rfl, rfl⟩
  go_wp2_with fail
  go_ret
  exact ⟨rfl, Below.refl _ _⟩
theorem xTellApart (a0 : Int) (a1 : Option Addr) (len1 c1 : Nat) (L1 : List Gt) (a2 : Option Addr) (len2 c2 : Nat) (L2 : List Gt) (w : World) (h1 : RowG w a1 len1 L1) (h2 : RowG w a2 len2 L2) :
    Calls Try.prog 14 #[.int .i64 a0, .slice a1 len1 c1, .slice a2 len2 c2] w fun e w' => e = .returned (.bool true) ∧ Below w.heap.size w w' := by
  by_cases q1 : len1 ≤ 1048576
  · by_cases q2 : len1 + len2 ≤ 1048576
    · have e1 := h1.1
      have e2 := h2.1
      subst e1 e2
      exact xTellApart_in a0 a1 L1 c1 a2 L2 c2 _ _ _ _ w (h1.gats (by omega)) (h2.gats (by omega)) (by omega) (fun f1 f2 w k1 k2 => sTellApart a0 f1 f2 L1 L2 w k1 k2) (fun f1 f2 w k1 k2 => iTellApart a0 f1 f2 L1 L2 w k1 k2)
    · exact xTellApart_long1 a0 a1 len1 c1 a2 len2 c2 w q1 (by omega) h2.2.1
  · exact xTellApart_long0 a0 a1 len1 c1 a2 len2 c2 w (by omega) h1.2.1
end Go.Proofs.Ytajabchbdhjdiaa
