/-
  The program's parts of all gates. Conditions: none but that the slice reads as a list of gates.
  CircuitOfFormula of the model. Conditions: none.
  Parts by degree, of the model: the sum and the product of two parts. Conditions: what the maker's cells and its row of gates hold is known.
  The model's maker of parts: what its cells and its rows hold. Conditions: none.
  The model puts the parts of a gate. Conditions: what its maker holds is known.
  The values of the parts of gates by degree, and of the gates that are put for them. No world.
-/
import Derived.Test.YtlidplmpglpkgaaBe12
import Derived.Test.YtlidplmpglpkgaaBa12
import Derived.Test.YtlidplmpglpkgaaBa4
import Derived.Test.YtlidplmpglpkgaaBa20
namespace Go.Proofs.Ytlidplmpglpkgaa
open Go.RowKit
theorem gats_circI {p : Int} {w : World} {v : Value} {L : List Gt} (h : Gats w v L) (hv : circB p L = true) :
    ∃ g off cap, v = .slice (some ⟨g, off, none⟩) L.length cap ∧ g < w.heap.size ∧ ∀ j : Nat, j < L.length → GAt w g (off + j * 3) (L.getD j default) := by
  obtain ⟨_, a, cap, rfl, h2⟩ := h
  rcases h2 with rfl | ⟨g, off, rfl, hg, hc⟩
  · have := (circB_iff.1 hv).2.1; simp at this
  · exact ⟨g, off, cap, rfl, hg, hc⟩
/-- the program's maker at the start: its map lies in block M -/
theorem PsI.start {w : World} {G M Z : Nat} {p : Int} {ty : TypeId} (hM : M = w.heap.size) (hG : G = w.heap.size + 1) : PsI ((w.alloc (.map #[] 0)).alloc (Obj.cells #[.slice none 0 0, .int .i64 p, .map (some M), .slice none 0 0] ty)) G M p (.slice none 0 0) (.slice none 0 0) [] [] Z := by
  subst hM hG
  refine ⟨⟨⟨by simp [go_sem], fun i h1 h2 => ?_, by simp [go_sem], by simp, fun i _ _ => World.frozen?_alloc_at _ _ _ i (by simp)⟩, RowGt.nil _ _⟩, ?_, World.ownsRow_nil _ _ _ _, fun r hr => (by cases hr), fun b hq => (by cases hq), by omega⟩
  · have : i = 1 ∨ i = 2 ∨ i = 3 := by omega
    rcases this with rfl | rfl | rfl <;> simp [go_sem, piC]
  · exact ((Go.MapKept.heap_alloc (w.alloc (.map #[] 0)) _).2 w.heap.size (by simp)).trans (Go.MapKept.heap_alloc w (.map #[] 0)).1
theorem owns_base {w : World} {B B' : Nat} {e : TypeId} {s : Nat} {v : Value} {n : Nat} {xs : List Value} (h : w.ownsRow B e s v n xs) (hB : B' ≤ B) : w.ownsRow B' e s v n xs := by
  refine ⟨h.1, ?_⟩
  rcases h.2 with h1 | ⟨g, cap, cur, rfl, hb, r⟩
  · exact .inl h1
  · exact .inr ⟨g, cap, cur, rfl, Nat.le_trans hB hb, r⟩
/-- what partsOf hands back of a circuit -/
def GivesPm (p : Int) (C : List Gt) (P : List (List Int)) (w : World) (e : Ending) (w' : World) : Prop :=
  ∃ M v pv, e = .returned (.tuple #[.agg #[v, .int .i64 p, .map (some M), pv], .bool true]) ∧ RowGt w' w.heap.size v C ∧ w'.ownsRow w.heap.size 168 10 pv P.length (flP P) ∧ (∀ r ∈ P, r.length ≤ 10) ∧ Below w.heap.size w w'
set_option maxRecDepth 100000 in
set_option maxHeartbeats 4000000 in
theorem iPartsOf_no (p kk : Int) (f : Value) (L : List Gt) (w : World) (h : Gats w f L) (hn : (circB p L && inB kk 0 9) = false) :
    Calls Try.prog 151 #[.int .i64 p, f, .int .i64 kk] w fun e w' => e = .returned (.tuple #[.agg #[.slice none 0 0, .int .i64 0, .map none, .slice none 0 0], .bool false]) ∧ Below w.heap.size w w' := by
  obtain ⟨W, hW⟩ : ∃ W, W = w.alloc (Obj.cells #[.slice none 0 0, .int .i64 0, .map none, .slice none 0 0] 165) := ⟨_, rfl⟩
  have bW : Below w.heap.size w W := by rw [hW]; exact Below.alloc (Below.refl _ _) (Nat.le_refl _) _
  have HCV := Lib.hid (iCircuitValid p f L W (h.below bW))
  have HW := Lib.hid hW
  have HB := Lib.hid bW
  have HZ := Lib.hid (fun w' (hb : Below W.heap.size W w') => show (w'.cell? ⟨w.heap.size, 0, none⟩ = some (.slice none 0 0) ∧ w'.cell? ⟨w.heap.size, 1, none⟩ = some (.int .i64 0) ∧ w'.cell? ⟨w.heap.size, 2, none⟩ = some (.map none) ∧ w'.cell? ⟨w.heap.size, 3, none⟩ = some (.slice none 0 0)) ∧ (w'.frozen? ⟨w.heap.size, 0, none⟩ = false ∧ w'.frozen? ⟨w.heap.size, 1, none⟩ = false ∧ w'.frozen? ⟨w.heap.size, 2, none⟩ = false ∧ w'.frozen? ⟨w.heap.size, 3, none⟩ = false) ∧ w.heap.size < w'.heap.size by
    have hs : w.heap.size < W.heap.size := by rw [hW]; simp
    refine ⟨⟨?_, ?_, ?_, ?_⟩, ⟨?_, ?_, ?_, ?_⟩, Nat.lt_of_lt_of_le hs hb.size⟩
    · rw [hb.cell (p := ⟨w.heap.size, 0, none⟩) hs, hW]; simp [go_sem]
    · rw [hb.cell (p := ⟨w.heap.size, 1, none⟩) hs, hW]; simp [go_sem]
    · rw [hb.cell (p := ⟨w.heap.size, 2, none⟩) hs, hW]; simp [go_sem]
    · rw [hb.cell (p := ⟨w.heap.size, 3, none⟩) hs, hW]; simp [go_sem]
    · rw [hb.frozen (p := ⟨w.heap.size, 0, none⟩) hs, hW]; exact World.frozen?_alloc_at _ _ _ 0 rfl
    · rw [hb.frozen (p := ⟨w.heap.size, 1, none⟩) hs, hW]; exact World.frozen?_alloc_at _ _ _ 1 rfl
    · rw [hb.frozen (p := ⟨w.heap.size, 2, none⟩) hs, hW]; exact World.frozen?_alloc_at _ _ _ 2 rfl
    · rw [hb.frozen (p := ⟨w.heap.size, 3, none⟩) hs, hW]; exact World.frozen?_alloc_at _ _ _ 3 rfl)
  obtain ⟨_, a, cap, rfl, _⟩ := h
  cases hv : circB p L
  · rw [hv] at HCV
    clear hv hn bW hW
    go_enter Try.func151, Try.ntmps151
    go_wp2_with fail
    rw [← HW.out]
    refine HCV.out.mono ?_
    rintro e w1 ⟨rfl, hb⟩
    have H1 := Lib.hid (HB.out.trans (hb.mono HB.out.size))
    obtain ⟨⟨c0, c1, c2, c3⟩, ⟨f0, f1, f2, f3⟩, hs⟩ := HZ.out w1 hb
    clear hb
    go_wp2_with fail
    refine bodyPost_ret (v := .tuple #[.agg #[.slice none 0 0, .int .i64 0, .map none, .slice none 0 0], .bool false]) (by simp [results, Try.results151, go_sem, c0, c1, c2, c3]) rfl ⟨rfl, (((H1.out.setCell (Nat.le_refl _) _).setCell (Nat.le_refl _) _).setCell (Nat.le_refl _) _).setCell (Nat.le_refl _) _⟩
  · rw [hv] at HCV hn
    rw [Bool.true_and] at hn
    have hk9 : ¬ (kk < 0) → kk > 9 := fun h => by
      simp only [inB, Bool.and_eq_false_iff, decide_eq_false_iff_not] at hn
      omega
    clear hv hn bW hW
    by_cases hneg : kk < 0
    · clear hk9
      go_enter Try.func151, Try.ntmps151
      go_wp2_with fail
      rw [← HW.out]
      refine HCV.out.mono ?_
      rintro e w1 ⟨rfl, hb⟩
      have H1 := Lib.hid (HB.out.trans (hb.mono HB.out.size))
      obtain ⟨⟨c0, c1, c2, c3⟩, ⟨f0, f1, f2, f3⟩, hs⟩ := HZ.out w1 hb
      clear hb
      go_wp2_with fail
      refine bodyPost_ret (v := .tuple #[.agg #[.slice none 0 0, .int .i64 0, .map none, .slice none 0 0], .bool false]) (by simp [results, Try.results151, go_sem, c0, c1, c2, c3]) rfl ⟨rfl, (((H1.out.setCell (Nat.le_refl _) _).setCell (Nat.le_refl _) _).setCell (Nat.le_refl _) _).setCell (Nat.le_refl _) _⟩
    · have hk10 := hk9 hneg
      clear hk9
      go_enter Try.func151, Try.ntmps151
      go_wp2_with fail
      rw [← HW.out]
      refine HCV.out.mono ?_
      rintro e w1 ⟨rfl, hb⟩
      have H1 := Lib.hid (HB.out.trans (hb.mono HB.out.size))
      obtain ⟨⟨c0, c1, c2, c3⟩, ⟨f0, f1, f2, f3⟩, hs⟩ := HZ.out w1 hb
      clear hb
      go_wp2_with fail
      refine bodyPost_ret (v := .tuple #[.agg #[.slice none 0 0, .int .i64 0, .map none, .slice none 0 0], .bool false]) (by simp [results, Try.results151, go_sem, c0, c1, c2, c3]) rfl ⟨rfl, (((H1.out.setCell (Nat.le_refl _) _).setCell (Nat.le_refl _) _).setCell (Nat.le_refl _) _).setCell (Nat.le_refl _) _⟩
set_option maxRecDepth 100000 in
set_option maxHeartbeats 8000000 in
theorem iPartsOf_yes (p : Int) (k : Nat) (f : Value) (L : List Gt) (w : World) (h : Gats w f L) (hv : circB p L = true) (hk : k ≤ 9) :
    Calls Try.prog 151 #[.int .i64 p, f, .int .i64 (k : Int)] w (GivesPm p (ptC k L L.length).1 (ptC k L L.length).2 w) := by
  obtain ⟨W, hW⟩ : ∃ W, W = w.alloc (Obj.cells #[.slice none 0 0, .int .i64 0, .map none, .slice none 0 0] 165) := ⟨_, rfl⟩
  have bW : Below w.heap.size w W := by rw [hW]; exact Below.alloc (Below.refl _ _) (Nat.le_refl _) _
  have HCV := Lib.hid (show Calls Try.prog 119 #[.int .i64 p, f] W fun e w' => e = .returned (.bool true) ∧ Below W.heap.size W w' by have := iCircuitValid p f L W (h.below bW); rwa [hv] at this)
  have HW := Lib.hid hW
  have HB := Lib.hid bW
  have hWs : w.heap.size < W.heap.size := by rw [hW]; simp
  have HZ := Lib.hid (fun w' (hb : Below W.heap.size W w') => show (∃ z, w'.cell? ⟨w.heap.size, 0, none⟩ = some z) ∧ (∃ z, w'.cell? ⟨w.heap.size, 1, none⟩ = some z) ∧ (∃ z, w'.cell? ⟨w.heap.size, 2, none⟩ = some z) ∧ (∃ z, w'.cell? ⟨w.heap.size, 3, none⟩ = some z) ∧ (w'.frozen? ⟨w.heap.size, 0, none⟩ = false ∧ w'.frozen? ⟨w.heap.size, 1, none⟩ = false ∧ w'.frozen? ⟨w.heap.size, 2, none⟩ = false ∧ w'.frozen? ⟨w.heap.size, 3, none⟩ = false) by
    refine ⟨⟨.slice none 0 0, ?_⟩, ⟨.int .i64 0, ?_⟩, ⟨.map none, ?_⟩, ⟨.slice none 0 0, ?_⟩, ?_, ?_, ?_, ?_⟩
    · rw [hb.cell (p := ⟨w.heap.size, 0, none⟩) hWs, hW]; simp [go_sem]
    · rw [hb.cell (p := ⟨w.heap.size, 1, none⟩) hWs, hW]; simp [go_sem]
    · rw [hb.cell (p := ⟨w.heap.size, 2, none⟩) hWs, hW]; simp [go_sem]
    · rw [hb.cell (p := ⟨w.heap.size, 3, none⟩) hWs, hW]; simp [go_sem]
    · rw [hb.frozen (p := ⟨w.heap.size, 0, none⟩) hWs, hW]; exact World.frozen?_alloc_at _ _ _ 0 rfl
    · rw [hb.frozen (p := ⟨w.heap.size, 1, none⟩) hWs, hW]; exact World.frozen?_alloc_at _ _ _ 1 rfl
    · rw [hb.frozen (p := ⟨w.heap.size, 2, none⟩) hWs, hW]; exact World.frozen?_alloc_at _ _ _ 2 rfl
    · rw [hb.frozen (p := ⟨w.heap.size, 3, none⟩) hWs, hW]; exact World.frozen?_alloc_at _ _ _ 3 rfl)
  obtain ⟨hp, hl1, hl2, hall⟩ := circB_iff.1 hv
  have HPO := Lib.hid (fun j (hj : j ≤ L.length) => ptC_ok (p := p) (k := k) (L := L) hall hk j hj)
  have HALL := Lib.hid hall
  obtain ⟨g, off, cap, rfl, hg, hc⟩ := gats_circI h hv
  have HC := Lib.hid hc
  have hkp : (0 : Int) ≤ (k : Int) := by omega
  have hk9 : (k : Int) ≤ 9 := by omega
  have hk9n : ¬ (k : Int) > 9 := by omega
  have hmm := @run_makeMap Try.prog
  clear h hv hc hall hp hW bW
  go_enter Try.func151, Try.ntmps151
  go_wp2_with fail
  rw [← HW.out]
  refine HCV.out.mono ?_
  rintro e w1 ⟨rfl, hb⟩
  have hs1 := hb.size
  have HB1 := Lib.hid hb
  have HBw := Lib.hid (HB.out.trans (hb.mono HB.out.size))
  clear hb
  go_wp2_with fail
  have HS0 := Lib.hid (PsI.start (w := w1) (p := p) (Z := w1.heap.size + 2) (ty := 165) (M := w1.heap.size) (G := w1.heap.size + 1) rfl rfl)
  obtain ⟨W3, hW3⟩ : ∃ W, W = (w1.alloc (.map #[] 0)).alloc (Obj.cells #[.slice none 0 0, .int .i64 p, .map (some w1.heap.size), .slice none 0 0] 165) := ⟨_, rfl⟩
  have hW3s : W3.heap.size = w1.heap.size + 2 := by rw [hW3]; simp
  have b3 : Below w1.heap.size w1 W3 := by rw [hW3]; exact Below.alloc (Below.alloc (Below.refl _ _) (Nat.le_refl _) _) (by simp) _
  have HW3 := Lib.hid (show Below W.heap.size W W3 from HB1.out.trans (b3.mono hs1))
  rw [← hW3] at HS0 ⊢
  rw [← hW3s] at HS0
  clear hW3 b3 hmm
  obtain ⟨M, hM⟩ : ∃ M, M = w1.heap.size := ⟨_, rfl⟩
  have hBM : W.heap.size ≤ M := by omega
  rw [← hM] at HS0 ⊢
  clear hM hW3s
  go_loopw [31] (fun i wr => ∃ (j : Nat) (v pv : Value), j ≤ L.length ∧ i = .int .i64 j ∧ PsI wr (M + 1) M p v pv (ptC k L j).1 (ptC k L j).2 wr.heap.size ∧ Below W.heap.size W wr) (fun i _ => L.length - (intOf i).toNat)
  case atStart => exact ⟨0, _, _, by omega, rfl, HS0.out, HW3.out⟩
  case round =>
    clear HS0 HW3
    obtain ⟨j, v, pv, hj, rfl, hP, hb⟩ := hrel
    have hj0 : (0 : Int) ≤ (j : Int) := by omega
    have hgW : g < W.heap.size := by omega
    by_cases hlt : j < L.length
    · have hltp : (j : Int) < (L.length : Int) := by omega
      obtain ⟨a0, a1, a2⟩ := (((HC.out j hlt).below HB.out hg).below hb hgW)
      obtain ⟨x, hx⟩ : ∃ x, x = L.getD j default := ⟨_, rfl⟩
      rw [← hx] at a0 a1 a2
      have hpo := HPO.out j hj
      have hall := HALL.out j hlt
      have hxg : gAt L j = x := hx.symm
      rw [hxg] at hall
      have HNX := Lib.hid (show ptC k L (j + 1) = ((ptR (ptC k L j).2 x (ptC k L j).1 (k + 1)).2, (ptC k L j).2 ++ [(ptR (ptC k L j).2 x (ptC k L j).1 (k + 1)).1]) by rw [← hxg]; rfl)
      have hlen := ptC_len k L j
      have HGT := Lib.hid (fun w' (h : PsI w' (M + 1) M p v pv (ptC k L j).1 (ptC k L j).2 w'.heap.size) => iPparts p W.heap.size (M + 1) M k v pv (ptC k L j).1 (ptC k L j).2 x w' (by have := hpo.2.2; omega) (by omega) hBM hk (by rw [hlen]; exact hall) hpo.1 hpo.2.1 h)
      have HP := Lib.hid hP
      have Hb := Lib.hid hb
      have hsz := hb.size
      clear hx hxg hP hb hpo hall hlen
      go_wp2_with fail
      have bA : Below wr.heap.size wr (wr.alloc (Obj.cells #[.int .i64 x.k, .int .i64 x.a, .int .i64 x.b] 137)) := Below.alloc (Below.refl _ _) (Nat.le_refl _) _
      refine (HGT.out _ ((HP.out.below bA).mono bA.size)).mono ?_
      rintro e w2 ⟨rfl, v2, pv2, hP2, hb2⟩
      rw [show (ptR (ptC k L j).2 x (ptC k L j).1 (k + 1)).2 = (ptC k L (j + 1)).1 by rw [HNX.out]] at hP2
      rw [show (ptC k L j).2 ++ [(ptR (ptC k L j).2 x (ptC k L j).1 (k + 1)).1] = (ptC k L (j + 1)).2 by rw [HNX.out]] at hP2
      have H2 := Lib.hid (And.intro hP2 ((Hb.out.trans (bA.mono hsz)).trans hb2))
      clear hP2 hb2 bA
      go_wp2_with fail
      go_roundw
      case rel => exact ⟨j + 1, v2, pv2, by omega, by go_num, H2.out.1, H2.out.2⟩
      case measure => simp [intOf]; omega
    · have hjl : j = L.length := by omega
      subst hjl
      obtain ⟨⟨z0, q0⟩, ⟨z1, q1⟩, ⟨z2, q2⟩, ⟨z3, q3⟩, ⟨f0, f1, f2, f3⟩⟩ := HZ.out wr hb
      have c0 := hP.ms.sh.c0
      have c1 := hP.ms.sh.oth 1 (by omega) (by omega)
      have c2 := hP.ms.sh.oth 2 (by omega) (by omega)
      have c3 := hP.ms.sh.oth 3 (by omega) (by omega)
      rw [show piC p M pv 1 = .int .i64 p from rfl] at c1
      rw [piC2] at c2
      rw [piC3] at c3
      have HP := Lib.hid hP
      have hGw := hP.ms.sh.lt
      have Hb := Lib.hid (HB.out.trans (hb.mono HB.out.size))
      have hne : M + 1 ≠ w.heap.size := by omega
      obtain ⟨av, kv, rfl⟩ := hP.ms.slice
      have hplen := ptC_len k L L.length
      obtain ⟨pg, pc, rfl⟩ := hP.form (by omega)
      obtain ⟨C, hC⟩ : ∃ C, C = (ptC k L L.length).1 := ⟨_, rfl⟩
      obtain ⟨P, hPe⟩ : ∃ P, P = (ptC k L L.length).2 := ⟨_, rfl⟩
      have HCE := Lib.hid (And.intro hC hPe)
      rw [← hC] at HP c0
      rw [← hPe] at HP c3
      have HWD := Lib.hid (show ∀ r ∈ P, r.length ≤ 10 from HP.out.wd)
      clear hP hb hC hPe hplen HPO
      go_wp2_with fail
      obtain ⟨w9, hw9⟩ : ∃ w9, w9 = ((((wr.setCell ⟨w.heap.size, 0, none⟩ (.slice av C.length kv)).setCell ⟨w.heap.size, 1, none⟩ (.int .i64 p)).setCell ⟨w.heap.size, 2, none⟩ (.map (some M))).setCell ⟨w.heap.size, 3, none⟩ (.slice (some ⟨pg, 0, none⟩) P.length pc)) := ⟨_, rfl⟩
      have hfar : ∀ b, b ≠ w.heap.size → w9.heap[b]? = wr.heap[b]? := fun b hb => by
        rw [hw9, Below.heap_setCell _ _ _ _ (by simpa using fun e => hb e), Below.heap_setCell _ _ _ _ (by simpa using fun e => hb e), Below.heap_setCell _ _ _ _ (by simpa using fun e => hb e), Below.heap_setCell _ _ _ _ (by simpa using fun e => hb e)]
      have hlow : Below w.heap.size w w9 := by rw [hw9]; exact (((Hb.out.setCell (Nat.le_refl _) _).setCell (Nat.le_refl _) _).setCell (Nat.le_refl _) _).setCell (Nat.le_refl _) _
      have hrow : RowGt w9 w.heap.size (.slice av C.length kv) C := by
        refine owns_base ?_ (show w.heap.size ≤ M + 1 + 1 by omega)
        exact owns_same HP.out.ms.row (fun b hq => hfar b (by have := (World.ownsRow.lt HP.out.ms.row b hq).1; omega))
      have hrow2 : w9.ownsRow w.heap.size 168 10 (.slice (some ⟨pg, 0, none⟩) P.length pc) P.length (flP P) := by
        refine owns_base ?_ (show w.heap.size ≤ M + 1 + 1 by omega)
        exact owns_same HP.out.row (fun b hq => hfar b (by have := (World.ownsRow.lt HP.out.row b hq).1; omega))
      rw [← hw9]
      have r0 : w9.cell? ⟨w.heap.size, 0, none⟩ = some (.slice av C.length kv) := by
        rw [hw9, World.cell?_setCell_other _ _ _ _ (by simp), World.cell?_setCell_other _ _ _ _ (by simp), World.cell?_setCell_other _ _ _ _ (by simp)]
        exact World.cell?_setCell_same _ _ _ q0
      have r1 : w9.cell? ⟨w.heap.size, 1, none⟩ = some (.int .i64 p) := by
        rw [hw9, World.cell?_setCell_other _ _ _ _ (by simp), World.cell?_setCell_other _ _ _ _ (by simp)]
        exact World.cell?_setCell_same _ _ _ (by rw [World.cell?_setCell_other _ _ _ _ (by simp)]; exact q1)
      have r2 : w9.cell? ⟨w.heap.size, 2, none⟩ = some (.map (some M)) := by
        rw [hw9, World.cell?_setCell_other _ _ _ _ (by simp)]
        exact World.cell?_setCell_same _ _ _ (by rw [World.cell?_setCell_other _ _ _ _ (by simp), World.cell?_setCell_other _ _ _ _ (by simp)]; exact q2)
      have r3 : w9.cell? ⟨w.heap.size, 3, none⟩ = some (.slice (some ⟨pg, 0, none⟩) P.length pc) := by
        rw [hw9]
        exact World.cell?_setCell_same _ _ _ (by rw [World.cell?_setCell_other _ _ _ _ (by simp), World.cell?_setCell_other _ _ _ _ (by simp), World.cell?_setCell_other _ _ _ _ (by simp)]; exact q3)
      clear hw9
      refine bodyPost_ret (v := .tuple #[.agg #[.slice av C.length kv, .int .i64 p, .map (some M), .slice (some ⟨pg, 0, none⟩) P.length pc], .bool true]) (by simp [results, Try.results151, go_sem, r0, r1, r2, r3]) rfl ?_
      rw [← HCE.out.1, ← HCE.out.2]
      exact ⟨M, _, _, rfl, hrow, hrow2, HWD.out, hlow⟩
end Go.Proofs.Ytlidplmpglpkgaa
namespace Go.Proofs.Ytlidplmpglpkgaa
open Go.RowKit
set_option maxRecDepth 100000 in
set_option maxHeartbeats 8000000 in
theorem sShare (B G M n : Nat) (v : Value) (cs : Nat → Value) (C : List Gt) (x : Gt) (w : World) (hl : C.length ≤ 8000) (hBG : B ≤ G) (h : MkS w G v n cs C) :
    Calls Try.prog 216 #[.pointer (some ⟨G, 0, none⟩), .agg #[.int .i64 x.k, .int .i64 x.a, .int .i64 x.b]] w (MkTo B G M n cs (shr x C).2 v ((shr x C).1 : Nat) w) := by
  obtain ⟨W, hW⟩ : ∃ W, W = w.alloc (Obj.cells #[.int .i64 x.k, .int .i64 x.a, .int .i64 x.b] 137) := ⟨_, rfl⟩
  have bW : Below w.heap.size w W := by rw [hW]; exact Below.alloc (Below.refl _ _) (Nat.le_refl _) _
  have hT : GAt W w.heap.size 0 x := by rw [hW]; refine ⟨?_, ?_, ?_⟩ <;> simp [go_sem]
  have hsW : w.heap.size < W.heap.size := by rw [hW]; simp
  have HS := Lib.hid (fun w' (hb : Below W.heap.size W w') => show MkS w' G v n cs C ∧ GAt w' w.heap.size 0 x ∧ Below w.heap.size w w' from
    ⟨(h.below bW).below hb, hT.below hb hsW, bW.trans (hb.mono (Nat.le_of_lt hsW))⟩)
  have hBw : B ≤ w.heap.size := Nat.le_trans hBG (Nat.le_of_lt h.sh.lt)
  obtain ⟨a, cap, rfl⟩ := h.slice
  have HH := Lib.hid h
  have c0 := (h.below bW).sh.c0
  rw [hW] at c0
  have HW := Lib.hid hW
  have hl5 : (C.length : Int) ≤ 8000 := by omega
  clear hW bW hT h
  go_enter Try.func216, Try.ntmps216
  go_wp2_with fail
  rw [← HW.out]
  clear HW c0
  go_loopw [12] (fun i wr => ∃ k : Nat, k ≤ C.length ∧ i = .int .i64 k ∧ Below W.heap.size W wr ∧ ∀ j : Nat, j < k → eqGt x (gAt C j) = false) (fun i _ => C.length - (intOf i).toNat)
  case atStart => exact ⟨0, by omega, rfl, Below.refl _ _, fun j hj => by omega⟩
  case round =>
    obtain ⟨k, hk, rfl, hb, hno⟩ := hrel
    have HN := Lib.hid hno
    have HB := Lib.hid hb
    obtain ⟨hM, hT, hL⟩ := HS.out wr hb
    clear hno hb
    by_cases hlt : k < C.length
    · have hltp : (k : Int) < (C.length : Int) := by omega
      have hk0 : (0 : Int) ≤ (k : Int) := by omega
      obtain ⟨g, hge⟩ : ∃ g, a = some ⟨g, 0, none⟩ := by
        rcases hM.row.shape with ⟨e, _⟩ | ⟨g, cap', e, _⟩
        · injection e with e1 e2 e3; omega
        · injection e with e1; exact ⟨g, e1⟩
      subst hge
      obtain ⟨d0, d1, d2⟩ := hM.row.tat rfl hlt
      obtain ⟨e0, e1, e2⟩ := hT
      simp only [Nat.zero_add] at e0 e1 e2
      obtain ⟨y, hy⟩ : ∃ y, y = C.getD k default := ⟨_, rfl⟩
      have HY := Lib.hid (show gAt C k = y from hy.symm)
      rw [← hy] at d0 d1 d2
      obtain ⟨yk, ya, yb⟩ := y
      obtain ⟨xk, xa, xb⟩ := x
      simp only at d0 d1 d2 e0 e1 e2
      have hEq := run_eqGt ⟨xk, xa, xb⟩ ⟨yk, ya, yb⟩
      clear hy hM hL
      have hsz := HB.out.size
      have hlt9 : w.heap.size < wr.heap.size := by omega
      have HL := Lib.hid (show Below W.heap.size W (wr.alloc (Obj.cells #[.int .i64 yk, .int .i64 ya, .int .i64 yb] 137)) from HB.out.trans ((Below.alloc (Below.refl _ _) (Nat.le_refl _) _ : Below wr.heap.size wr _).mono hsz))
      unfold Op.equal Gt.v at hEq
      simp only [Op.maxDepth] at hEq
      rcases Bool.eq_false_or_eq_true (eqGt ⟨xk, xa, xb⟩ ⟨yk, ya, yb⟩) with hq | hq
      · rw [hq] at hEq
        have HQ := Lib.hid hq
        clear hq hsz
        go_wp2_with fail
        go_ret
        obtain ⟨m1, -, m3⟩ := HS.out _ HL.out
        rw [shr_hit (ixG_hit HN.out hlt (by rw [HY.out]; exact HQ.out))]
        exact ⟨_, rfl, m1, m3.mono hBw, Apt.of_below m3, .inl rfl⟩
      · rw [hq] at hEq
        have HQ := Lib.hid hq
        clear hq hsz
        go_wp2_with fail
        go_roundw
        case rel =>
          refine ⟨k + 1, by omega, by go_num, HL.out, fun j hj => ?_⟩
          by_cases e : j = k
          · rw [e, HY.out]; exact HQ.out
          · exact HN.out j (by omega)
        case measure => simp [intOf]; omega
    · have hkl : k = C.length := by omega
      subst hkl
      obtain ⟨e0, e1, e2⟩ := hT
      simp only [Nat.zero_add] at e0 e1 e2
      have hsz := HB.out.size
      have hlt9 : w.heap.size < wr.heap.size := by omega
      have HP := Lib.hid ((sPutSN B G M n _ cs C x wr (by omega) hBG hM).mono fun e w' h => h.from hL hBw)
      clear hM hL hsz
      go_wp2_with fail
      refine HP.out.mono ?_
      rintro e w2 ⟨v2, rfl, hm2, hl2, hh2⟩
      have H2 := Lib.hid (And.intro hm2 (And.intro hl2 hh2))
      clear hm2 hl2 hh2 e0 e1 e2
      go_wp2_with fail
      go_ret
      rw [shr_new (ixG_none HN.out)]
      exact ⟨_, rfl, H2.out.1, H2.out.2.1, H2.out.2.2⟩
end Go.Proofs.Ytlidplmpglpkgaa
namespace Go.Proofs.Ytlidplmpglpkgaa
open Go.RowKit
set_option maxRecDepth 100000 in
set_option maxHeartbeats 4000000 in
theorem sPsum (B G M n : Nat) (v : Value) (cs : Nat → Value) (C : List Gt) (a b : Int) (w : World) (hl : C.length ≤ 8000) (hBG : B ≤ G) (h : MkS w G v n cs C) :
    Calls Try.prog 217 #[.pointer (some ⟨G, 0, none⟩), .int .i64 a, .int .i64 b] w (MkTo B G M n cs (smG a b C).2 v (smG a b C).1 w) := by
  unfold smG
  by_cases ha : a < 0
  · rw [if_pos ha]
    have HM := Lib.hid (show MkTo B G M n cs C v b w (.returned (.int .i64 b)) w from ⟨v, rfl, h, Below.refl _ _, Apt.of_below (Below.refl _ _), .inl rfl⟩)
    clear h
    go_enter Try.func217, Try.ntmps217
    go_wp2_with fail
    go_ret
    exact HM.out
  · rw [if_neg ha]
    by_cases hb : b < 0
    · rw [if_pos hb]
      have HM := Lib.hid (show MkTo B G M n cs C v a w (.returned (.int .i64 a)) w from ⟨v, rfl, h, Below.refl _ _, Apt.of_below (Below.refl _ _), .inl rfl⟩)
      clear h
      go_enter Try.func217, Try.ntmps217
      go_wp2_with fail
      go_ret
      exact HM.out
    · rw [if_neg hb]
      have HS := Lib.hid (sShare B G M n v cs C ⟨2, a, b⟩ w hl hBG h)
      clear h
      go_enter Try.func217, Try.ntmps217
      go_wp2_with fail
      refine HS.out.mono ?_
      rintro e w2 ⟨v2, rfl, hm, hb2, ha2, hv2⟩
      have H2 := Lib.hid (And.intro hm (And.intro hb2 (And.intro ha2 hv2)))
      clear hm hb2 ha2 hv2
      go_wp2_with fail
      go_ret
      exact ⟨_, rfl, H2.out⟩
set_option maxRecDepth 100000 in
set_option maxHeartbeats 4000000 in
theorem sPprod (B G M n : Nat) (v : Value) (cs : Nat → Value) (C : List Gt) (a b : Int) (w : World) (hl : C.length ≤ 8000) (hBG : B ≤ G) (h : MkS w G v n cs C) :
    Calls Try.prog 218 #[.pointer (some ⟨G, 0, none⟩), .int .i64 a, .int .i64 b] w (MkTo B G M n cs (pdG a b C).2 v (pdG a b C).1 w) := by
  unfold pdG
  by_cases hab : a < 0 ∨ b < 0
  · rw [if_pos hab]
    have HM := Lib.hid (show MkTo B G M n cs C v (-1) w (.returned (.int .i64 (-1))) w from ⟨v, rfl, h, Below.refl _ _, Apt.of_below (Below.refl _ _), .inl rfl⟩)
    clear h
    by_cases ha : a < 0
    · go_enter Try.func218, Try.ntmps218
      go_wp2_with fail
      go_ret
      exact HM.out
    · have hb : b < 0 := hab.resolve_left ha
      go_enter Try.func218, Try.ntmps218
      go_wp2_with fail
      go_ret
      exact HM.out
  · rw [if_neg hab]
    have ha : ¬ a < 0 := fun e => hab (.inl e)
    have hb : ¬ b < 0 := fun e => hab (.inr e)
    have HS := Lib.hid (sShare B G M n v cs C ⟨3, a, b⟩ w hl hBG h)
    clear h hab
    go_enter Try.func218, Try.ntmps218
    go_wp2_with fail
    refine HS.out.mono ?_
    rintro e w2 ⟨v2, rfl, hm, hb2, ha2, hv2⟩
    have H2 := Lib.hid (And.intro hm (And.intro hb2 (And.intro ha2 hv2)))
    clear hm hb2 ha2 hv2
    go_wp2_with fail
    go_ret
    exact ⟨_, rfl, H2.out⟩
end Go.Proofs.Ytlidplmpglpkgaa
namespace Go.Proofs.Ytlidplmpglpkgaa
open Go.RowKit
theorem infoSI : (Try.prog.info? 61).map (fun i => (i.zero, i.size, i.bytes)) = some (some (.slice none 0 0), 1, 24) := by kernel_rfl
/-- the cells of the model's maker but the first one -/
def psC (pv : Value) (i : Nat) : Value := if i = 4 then pv else .int .i64 0
/-- the state of the model's maker: its gates, and the rows of places, which lie elsewhere, below Z -/
structure PsM (w : World) (G : Nat) (v pv : Value) (k : Nat) (C : List Gt) (P : List (List Int)) (V : List Value) (Z : Nat) : Prop where
  ms : MkS w G v 5 (psC pv) C
  row : w.ownsRow (G + 1) 61 1 pv V.length V
  len : V.length = P.length
  kp : ∀ b, pv.ownBlock = some b → b < Z ∧ Kp w G G v b
  rd : ∀ i, i < P.length → ∃ g c, V.getD i .nilIface = .slice (some ⟨g, 0, none⟩) (k + 1) c ∧ g < Z ∧ Kp w G G v g ∧ pv.ownBlock ≠ some g ∧ ∀ d, d ≤ k → w.cell? ⟨g, d, none⟩ = some (.int .i64 (pcl P i d))
theorem PsM.below {w w' : World} {G k Z : Nat} {v pv : Value} {C : List Gt} {P : List (List Int)} {V : List Value} (h : PsM w G v pv k C P V Z) (hb : Below w.heap.size w w') : PsM w' G v pv k C P V Z := by
  refine ⟨h.ms.below hb, owns_same h.row (fun b hq => hb.block b (h.kp b hq).2.lt), h.len, fun b hq => ⟨(h.kp b hq).1, (h.kp b hq).2.below hb⟩, fun i hi => ?_⟩
  obtain ⟨g, c, h1, h2, h3, h4, h5⟩ := h.rd i hi
  exact ⟨g, c, h1, h2, h3.below hb, h4, fun d hd => kpCell (h5 d hd) (hb.block g h3.lt)⟩
theorem PsM.step {w w' : World} {G k Z : Nat} {v v' pv : Value} {C C' : List Gt} {P : List (List Int)} {V : List Value} (h : PsM w G v pv k C P V Z) (hm : MkS w' G v' 5 (psC pv) C') (ha : Apt G G v w w') (hv : Moves v v' w) (hs : w.heap.size ≤ w'.heap.size) : PsM w' G v' pv k C' P V Z := by
  refine ⟨hm, owns_same h.row (fun b hq => ((h.kp b hq).2.step ha hv hs).2), h.len, fun b hq => ⟨(h.kp b hq).1, ((h.kp b hq).2.step ha hv hs).1⟩, fun i hi => ?_⟩
  obtain ⟨g, c, h1, h2, h3, h4, h5⟩ := h.rd i hi
  exact ⟨g, c, h1, h2, (h3.step ha hv hs).1, h4, fun d hd => kpCell (h5 d hd) (h3.step ha hv hs).2⟩
/-- another block is written -/
theorem PsM.grown {w w' : World} {G k Z : Nat} {v pv u : Value} {C : List Gt} {P : List (List Int)} {V : List Value} (h : PsM w G v pv k C P V Z) (hg : w.grownBy w' u.ownBlock) (hu : ∀ b, u.ownBlock = some b → Z ≤ b ∧ b ≠ G ∧ v.ownBlock ≠ some b) : PsM w' G v pv k C P V Z := by
  have hG : u.ownBlock ≠ some G := fun e => (hu G e).2.1 rfl
  have hle : ∀ b, b < w.heap.size → b < Z → w'.heap[b]? = w.heap[b]? := fun b hb hz => hg.block b hb (fun e => by have := (hu b e.symm).1; omega)
  refine ⟨⟨h.ms.sh.grown hg hG, owns_same h.ms.row (fun b hq => hg.block b (World.ownsRow.lt h.ms.row b hq).2 (fun e => (hu b e.symm).2.2 hq))⟩, owns_same h.row (fun b hq => hle b (h.kp b hq).2.lt (h.kp b hq).1), h.len,
    fun b hq => ⟨(h.kp b hq).1, Nat.lt_of_lt_of_le (h.kp b hq).2.lt hg.size, (h.kp b hq).2.nG, (h.kp b hq).2.nM, (h.kp b hq).2.nv⟩, fun i hi => ?_⟩
  obtain ⟨g, c, h1, h2, h3, h4, h5⟩ := h.rd i hi
  exact ⟨g, c, h1, h2, ⟨Nat.lt_of_lt_of_le h3.lt hg.size, h3.nG, h3.nM, h3.nv⟩, h4, fun d hd => kpCell (h5 d hd) (hle g h3.lt h2)⟩
theorem PsM.mono {w : World} {G k Z Z' : Nat} {v pv : Value} {C : List Gt} {P : List (List Int)} {V : List Value} (h : PsM w G v pv k C P V Z) (hz : Z ≤ Z') : PsM w G v pv k C P V Z' :=
  ⟨h.ms, h.row, h.len, fun b hq => ⟨Nat.lt_of_lt_of_le (h.kp b hq).1 hz, (h.kp b hq).2⟩, fun i hi => by
    obtain ⟨g, c, h1, h2, h3⟩ := h.rd i hi
    exact ⟨g, c, h1, Nat.lt_of_lt_of_le h2 hz, h3⟩⟩
/-- the rows of places have a block of their own, if there are any -/
theorem PsM.form {w : World} {G k Z : Nat} {v pv : Value} {C : List Gt} {P : List (List Int)} {V : List Value} (h : PsM w G v pv k C P V Z) (hp : 0 < P.length) : ∃ pg pc, pv = .slice (some ⟨pg, 0, none⟩) P.length pc := by
  obtain ⟨g, c, h1, _⟩ := World.ownsRow.form h.row (by rw [h.len]; exact hp)
  exact ⟨g, c, by rw [h1, h.len]⟩
theorem PsM.at {w : World} {G k Z pg pc i : Nat} {v : Value} {C : List Gt} {P : List (List Int)} {V : List Value} (h : PsM w G v (.slice (some ⟨pg, 0, none⟩) P.length pc) k C P V Z) (hi : i < P.length) :
    ∃ g c, w.cell? ⟨pg, i, none⟩ = some (.slice (some ⟨g, 0, none⟩) (k + 1) c) ∧ Kp w G G v g ∧ ∀ d, d ≤ k → w.cell? ⟨g, d, none⟩ = some (.int .i64 (pcl P i d)) := by
  obtain ⟨g, c, h1, h2, h3, h4, h5⟩ := h.rd i hi
  refine ⟨g, c, ?_, h3, h5⟩
  have hl : i < V.length := by rw [h.len]; exact hi
  have hr := h.row
  rw [h.len] at hr
  rw [World.ownsRow.cellAt hr i (by omega)]
  rw [← h1]
  simp [List.getD_eq_getElem?_getD, hl]
/-- the world inside gate: the maker, the places so far, the gate in its box -/
structure GSt (w wr : World) (B G n Z : Nat) (v pv ov : Value) (k : Nat) (C : List Gt) (P : List (List Int)) (V : List Value) (R : List Int) (x : Gt) : Prop where
  ps : PsM wr G v pv k C P V Z
  row : RowI wr Z ov R
  ovk : ∀ b, ov.ownBlock = some b → Kp wr G G v b ∧ b ≠ n
  box : GAt wr n 0 x
  kn : Kp wr G G v n
  zn : Z ≤ n
  low : Below B w wr
theorem GSt.below {w wr w' : World} {B G n Z k : Nat} {v pv ov : Value} {C : List Gt} {P : List (List Int)} {V : List Value} {R : List Int} {x : Gt} (h : GSt w wr B G n Z v pv ov k C P V R x) (hB : B ≤ wr.heap.size) (hb : Below wr.heap.size wr w') : GSt w w' B G n Z v pv ov k C P V R x :=
  ⟨h.ps.below hb, h.row.below hb, fun b hq => ⟨(h.ovk b hq).1.below hb, (h.ovk b hq).2⟩, h.box.below hb h.kn.lt, h.kn.below hb, h.zn, h.low.trans (hb.mono hB)⟩
theorem GSt.step {w wr w' : World} {B G n Z k : Nat} {v v' pv ov : Value} {C C' : List Gt} {P : List (List Int)} {V : List Value} {R : List Int} {x : Gt} (h : GSt w wr B G n Z v pv ov k C P V R x) (hm : MkS w' G v' 5 (psC pv) C') (hb : Below B wr w') (ha : Apt G G v wr w') (hv : Moves v v' wr) : GSt w w' B G n Z v' pv ov k C' P V R x := by
  have hn := h.kn.step ha hv hb.size
  refine ⟨h.ps.step hm ha hv hb.size, owns_same h.row (fun b hq => ((h.ovk b hq).1.step ha hv hb.size).2), fun b hq => ⟨((h.ovk b hq).1.step ha hv hb.size).1, (h.ovk b hq).2⟩, ?_, hn.1, h.zn, h.low.trans hb⟩
  obtain ⟨c0, c1, c2⟩ := h.box
  exact ⟨kpCell c0 hn.2, kpCell c1 hn.2, kpCell c2 hn.2⟩
/-- a place is appended -/
theorem GSt.app {w wr w' : World} {B G n Z k g c H : Nat} {v pv ov : Value} {C : List Gt} {P : List (List Int)} {V : List Value} {R : List Int} {x : Gt} {a : Int} (h : GSt w wr B G n Z v pv ov k C P V R x) (hBZ : B ≤ Z)
    (hown : w'.ownsRow Z 3 1 (.slice (some ⟨g, 0, none⟩) (R.length + 1) c) (R.length + 1) (R.map (Value.int .i64) ++ [.int .i64 a])) (hg : wr.grownBy w' ov.ownBlock) (hat : ov.ownBlock = some g ∨ g = H) (hH : wr.heap.size ≤ H) (hlt : g < w'.heap.size) : GSt w w' B G n Z v pv (.slice (some ⟨g, 0, none⟩) (R.length + 1) c) k C P V (R ++ [a]) x := by
  have hrow := h.row
  have hz : ∀ b, ov.ownBlock = some b → Z ≤ b := fun b hq => (World.ownsRow.lt hrow b hq).1
  have hov : ∀ b, ov.ownBlock = some b → Z ≤ b ∧ b ≠ G ∧ v.ownBlock ≠ some b := fun b hq => ⟨hz b hq, (h.ovk b hq).1.nG, (h.ovk b hq).1.nv⟩
  have hn : w'.heap[n]? = wr.heap[n]? := hg.block n h.kn.lt (fun e => (h.ovk n e.symm).2 rfl)
  have kn' : Kp w' G G v n := ⟨Nat.lt_of_lt_of_le h.kn.lt hg.size, h.kn.nG, h.kn.nM, h.kn.nv⟩
  refine ⟨h.ps.grown hg hov, RowI.snoc hown, fun b hq => ?_, ?_, kn', h.zn, h.low.trans ⟨hg.os, hg.tape, hg.output, hg.size, fun b hb => ?_⟩⟩
  · have hq : g = b := by simpa [Value.ownBlock] using hq
    subst hq
    rcases hat with e | e
    · have := h.ovk g e
      exact ⟨⟨hlt, this.1.nG, this.1.nM, this.1.nv⟩, this.2⟩
    · have hGw := h.ps.ms.sh.lt
      have hnw := h.kn.lt
      refine ⟨⟨hlt, by omega, by omega, fun e2 => ?_⟩, by omega⟩
      have := (World.ownsRow.lt h.ps.ms.row _ e2).2
      omega
  · obtain ⟨c0, c1, c2⟩ := h.box
    exact ⟨kpCell c0 hn, kpCell c1 hn, kpCell c2 hn⟩
  · by_cases hbw : b < wr.heap.size
    · exact hg.block b hbw (fun e => by have := hz b e.symm; omega)
    · have h1 := h.low.size
      have h2 := h.kn.lt
      have h3 := h.zn
      omega
/-- the places of a gate are appended to the rows -/
theorem PsM.push {w wA w8 : World} {B G k Z g8 c8 go co H : Nat} {v pv : Value} {C : List Gt} {P : List (List Int)} {V : List Value} {R : List Int} (h : PsM w G v pv k C P V Z) (hBG : B ≤ G) (hA : Below w.heap.size w wA)
    (hown : w8.ownsRow (G + 1) 61 1 (.slice (some ⟨g8, 0, none⟩) (V.length + 1) c8) (V.length + 1) (V ++ [.slice (some ⟨go, 0, none⟩) (k + 1) co])) (hg : wA.grownBy w8 pv.ownBlock) (hat : pv.ownBlock = some g8 ∨ g8 = H) (hH : w.heap.size ≤ H) (hlt : g8 < w8.heap.size)
    (hk : Kp w G G v go) (hpo : pv.ownBlock ≠ some go) (hr : ∀ d, d ≤ k → w.cell? ⟨go, d, none⟩ = some (.int .i64 (R.getD d 0))) :
    PsM (w8.setCell ⟨G, 4, none⟩ (.slice (some ⟨g8, 0, none⟩) (V.length + 1) c8)) G v (.slice (some ⟨g8, 0, none⟩) (V.length + 1) c8) k C (P ++ [R]) (V ++ [.slice (some ⟨go, 0, none⟩) (k + 1) co]) w8.heap.size ∧ Below B w (w8.setCell ⟨G, 4, none⟩ (.slice (some ⟨g8, 0, none⟩) (V.length + 1) c8)) := by
  have hGw := h.ms.sh.lt
  have hpG : pv.ownBlock ≠ some G := fun e => (h.kp G e).2.nG rfl
  have hs1 := hA.size
  have hs2 := hg.size
  have hsm : ∀ b, b < w.heap.size → b ≠ G → pv.ownBlock ≠ some b → (w8.setCell ⟨G, 4, none⟩ (.slice (some ⟨g8, 0, none⟩) (V.length + 1) c8)).heap[b]? = w.heap[b]? := fun b hb hbG hbp => by
    rw [Below.heap_setCell _ _ _ _ (by simpa using fun e => hbG e), hg.block b (by omega) (fun e => hbp e.symm), hA.block b hb]
  have hsh := (h.ms.sh.below hA).grown hg hpG
  have hvn : ∀ b, v.ownBlock = some b → G + 1 ≤ b ∧ b < w.heap.size := fun b hq => World.ownsRow.lt h.ms.row b hq
  have h8G : G + 1 ≤ g8 := (World.ownsRow.lt hown g8 rfl).1
  have h8v : v.ownBlock ≠ some g8 := fun e => by
    rcases hat with e2 | e2
    · exact (h.kp g8 e2).2.nv e
    · have := (hvn g8 e).2
      omega
  have h8n : ∀ b, b < w.heap.size → pv.ownBlock ≠ some b → (Value.slice (some ⟨g8, 0, none⟩) (V.length + 1) c8).ownBlock ≠ some b := fun b hb hp e => by
    have e : g8 = b := by simpa [Value.ownBlock] using e
    subst e
    rcases hat with e2 | e2
    · exact hp e2
    · omega
  refine ⟨⟨⟨⟨?_, fun i h1 h2 => ?_, by rw [World.frozen?_setCell]; exact hsh.f0, by simpa using hsh.lt, fun i h1 h2 => by rw [World.frozen?_setCell]; exact hsh.fz i h1 h2⟩, ?_⟩, ?_, by rw [List.length_append, List.length_append, h.len]; rfl, fun b hq => ?_, fun i hi => ?_⟩, ?_⟩
  · rw [World.cell?_setCell_other _ _ _ _ (addr_ne (by omega))]; exact hsh.c0
  · by_cases e : i = 4
    · subst e
      rw [World.cell?_setCell_same _ _ _ (hsh.oth 4 (by omega) (by omega))]
      rfl
    · rw [World.cell?_setCell_other _ _ _ _ (addr_ne (by omega)), hsh.oth i h1 h2]
      unfold psC
      rw [if_neg e, if_neg e]
  · exact owns_same h.ms.row (fun b hq => by
      have := hvn b hq
      exact hsm b this.2 (by omega) (fun e => (h.kp b e).2.nv hq))
  · have e : (V ++ [Value.slice (some ⟨go, 0, none⟩) (k + 1) co]).length = V.length + 1 := by rw [List.length_append]; rfl
    rw [e]
    exact owns_same hown (fun b hq => by
      have hq : g8 = b := by simpa [Value.ownBlock] using hq
      subst hq
      exact Below.heap_setCell _ _ _ _ (by simp; omega))
  · have hq : g8 = b := by simpa [Value.ownBlock] using hq
    subst hq
    exact ⟨hlt, by simpa using hlt, by omega, by omega, h8v⟩
  · by_cases e : i < P.length
    · obtain ⟨g, c, q1, q2, q3, q4, q5⟩ := h.rd i e
      refine ⟨g, c, ?_, by have := q3.lt; omega, ⟨by have := q3.lt; simp; omega, q3.nG, q3.nM, q3.nv⟩, h8n g q3.lt q4, fun d hd => ?_⟩
      · rw [← q1, List.getD_eq_getElem?_getD, List.getElem?_append_left (by rw [h.len]; exact e), ← List.getD_eq_getElem?_getD]
      · rw [pcl_old e]
        exact kpCell (q5 d hd) (hsm g q3.lt q3.nG q4)
    · have e2 : i = P.length := by simp at hi; omega
      subst e2
      refine ⟨go, co, ?_, by have := hk.lt; omega, ⟨by have := hk.lt; simp; omega, hk.nG, hk.nM, hk.nv⟩, h8n go hk.lt hpo, fun d hd => ?_⟩
      · rw [List.getD_eq_getElem?_getD, List.getElem?_append_right (by rw [h.len]; exact Nat.le_refl _)]
        simp [h.len]
      · rw [pcl_new]
        exact kpCell (hr d hd) (hsm go hk.lt hk.nG hpo)
  · refine ((hA.mono (by omega)).trans ⟨hg.os, hg.tape, hg.output, hg.size, fun b hb => hg.block b (by omega) (fun e => ?_)⟩).setCell hBG _
    have := (World.ownsRow.lt h.row b e.symm).1
    omega
end Go.Proofs.Ytlidplmpglpkgaa
namespace Go.Proofs.Ytlidplmpglpkgaa
open Go.RowKit
/-- the cells that are read for the parts of two gates -/
def RdS (w : World) (n G pg A B ga gb da db : Nat) (pv va vb : Value) (k1 xa xb : Int) (pa pb : Int) : Prop :=
  w.cell? ⟨n, 0, none⟩ = some (.int .i64 k1) ∧ w.cell? ⟨n, 1, none⟩ = some (.int .i64 xa) ∧ w.cell? ⟨n, 2, none⟩ = some (.int .i64 xb) ∧ w.cell? ⟨G, 4, none⟩ = some pv ∧ w.cell? ⟨pg, A, none⟩ = some va ∧ w.cell? ⟨pg, B, none⟩ = some vb ∧ w.cell? ⟨ga, da, none⟩ = some (.int .i64 pa) ∧ w.cell? ⟨gb, db, none⟩ = some (.int .i64 pb)
set_option maxRecDepth 100000 in
set_option maxHeartbeats 16000000 in
theorem sPgate (p : Int) (B G k : Nat) (v pv : Value) (C : List Gt) (P : List (List Int)) (V : List Value) (x : Gt) (w : World) (hl : C.length + 110 ≤ 8000) (hP60 : P.length ≤ 60) (hBG : B ≤ G) (hk : k ≤ 9) (hx : gOK (p - 1) x (P.length : Nat) = true) (hok : AllOK p C) (hin : AllIn P k C) (h : PsM w G v pv k C P V w.heap.size) :
    Calls Try.prog 152 #[.pointer (some ⟨G, 0, none⟩), .agg #[.int .i64 x.k, .int .i64 x.a, .int .i64 x.b], .int .i64 (k : Int)] w fun e w' => e = .returned (.tuple #[]) ∧ ∃ v' pv' V', PsM w' G v' pv' k (ptR P x C (k + 1)).2 (P ++ [(ptR P x C (k + 1)).1]) V' w'.heap.size ∧ Below B w w' := by
  obtain ⟨i0, hi, hz0, hz1, hz2⟩ := info_parts infoInt
  obtain ⟨is, his, hs0, hs1, hs2⟩ := info_parts infoSI
  have HOKS := Lib.hid (fun n (hn : n ≤ k + 1) => ptR_ok (x := x) hok hin hx n hn)
  have HPG := Lib.hid (fun d (hd : d ≤ k) => ptG_ok (p := p) (P := P) (x := x) (d := d) (k := k) (C := (ptR P x C d).2) (HOKS.out d (by omega)).1 (hin.mono (HOKS.out d (by omega)).2.2.1) hx hd)
  obtain ⟨CE, hCE⟩ : ∃ C1, C1 = (ptR P x C (k + 1)).2 := ⟨_, rfl⟩
  obtain ⟨RE, hRE⟩ : ∃ R1, R1 = (ptR P x C (k + 1)).1 := ⟨_, rfl⟩
  rw [← hCE, ← hRE]
  have HFI := Lib.hid (And.intro hCE hRE)
  clear hCE hRE
  have hc := gOK_cases hx
  have hkp : (0 : Int) ≤ (k : Int) := by omega
  have hk9 : (k : Int) ≤ 9 := by omega
  have hGw := h.ms.sh.lt
  obtain ⟨W, hW⟩ : ∃ W, W = w.alloc (Obj.cells #[.int .i64 x.k, .int .i64 x.a, .int .i64 x.b] 137) := ⟨_, rfl⟩
  have bW : Below w.heap.size w W := by rw [hW]; exact Below.alloc (Below.refl _ _) (Nat.le_refl _) _
  have sW : W.heap.size = w.heap.size + 1 := by rw [hW]; simp
  have hT : GAt W w.heap.size 0 x := by rw [hW]; refine ⟨?_, ?_, ?_⟩ <;> simp [go_sem]
  obtain ⟨W2, hW2⟩ : ∃ W2, W2 = W.alloc (Obj.cells #[] 3) := ⟨_, rfl⟩
  have bW2 : Below W.heap.size W W2 := by rw [hW2]; exact Below.alloc (Below.refl _ _) (Nat.le_refl _) _
  have HG0 := Lib.hid (show GSt w W2 B G w.heap.size w.heap.size v pv (.slice (some ⟨w.heap.size + 1, 0, none⟩) 0 0) k (ptR P x C 0).2 P V (ptR P x C 0).1 x from
    ⟨(h.below bW).below bW2, by rw [hW2, ← sW]; exact RowI.lit0 W w.heap.size (by omega), fun b hq => by
      have hq : w.heap.size + 1 = b := by simpa [Value.ownBlock] using hq
      subst hq
      exact ⟨⟨by rw [hW2, ← sW]; simp, by omega, by omega, fun e => by have := (World.ownsRow.lt h.ms.row _ e).2; omega⟩, by omega⟩, hT.below bW2 (by omega),
      ⟨by rw [hW2]; simp; omega, by omega, by omega, fun e => by have := (World.ownsRow.lt h.ms.row _ e).2; omega⟩, Nat.le_refl _, (bW.mono (by omega)).trans (bW2.mono (by omega))⟩)
  have HW := Lib.hid hW
  have HW2 := Lib.hid hW2
  have HSW := Lib.hid sW
  clear hW hW2 sW bW bW2 hT
  go_enter Try.func152, Try.ntmps152
  go_wp2_with fail
  rw [← HW.out, ← HW2.out]
  obtain ⟨n, hn⟩ : ∃ n, n = w.heap.size := ⟨_, rfl⟩
  have HN := Lib.hid hn
  rw [← hn] at HG0 hGw ⊢
  have hov0 : n + 1 = n + 1 := rfl
  have hBn : B ≤ n := by omega
  clear hn HW HW2 HSW hov0
  go_loopw [6, 13] (fun ov i wr => ∃ (d : Nat) (v' : Value), d ≤ k + 1 ∧ i = .int .i64 d ∧ GSt w wr B G n n v' pv ov k (ptR P x C d).2 P V (ptR P x C d).1 x) (fun _ i _ => k + 1 - (intOf i).toNat)
  case atStart => exact ⟨0, v, by omega, rfl, HG0.out⟩
  case round =>
    clear HG0
    obtain ⟨d, v', hd, rfl, hG⟩ := hrel
    have hd0 : (0 : Int) ≤ (d : Int) := by omega
    have hrl := ptR_len P x C d
    by_cases hlt : d < k + 1
    · have hltp : (d : Int) < (k : Int) + 1 := by omega
      obtain ⟨C1, hC1⟩ : ∃ C1, C1 = (ptR P x C d).2 := ⟨_, rfl⟩
      obtain ⟨R1, hR1⟩ : ∃ R1, R1 = (ptR P x C d).1 := ⟨_, rfl⟩
      obtain ⟨r, hr⟩ : ∃ r, r = ptG P x d (ptR P x C d).2 := ⟨_, rfl⟩
      have hpo := HPG.out d (by omega)
      have hoks := HOKS.out d (by omega)
      have hnext : (ptR P x C (d + 1)).2 = r.2 ∧ (ptR P x C (d + 1)).1 = R1 ++ [r.1] := by rw [hr, hR1]; exact ⟨rfl, rfl⟩
      rw [← hr] at hpo
      rw [← hC1] at hG hoks hpo hr
      rw [← hR1] at hG hrl
      have HNX := Lib.hid hnext
      have hC1l : C1.length + 2 * (d + 1) ≤ 8000 := by
        have h1 := hoks.2.2.2
        have h2 : d * (d + 1) ≤ 9 * 10 := Nat.mul_le_mul (by omega) (by omega)
        omega
      have hin1 := hin.mono hoks.2.2.1
      have hok1 := hoks.1
      have HG := Lib.hid hG
      have HIN := Lib.hid hin1
      have HOK1 := Lib.hid hok1
      have HPO := Lib.hid hpo
      obtain ⟨xk, xa, xb⟩ := x
      obtain ⟨b0, b1, b2⟩ := hG.box
      simp only [Nat.zero_add] at b0 b1 b2
      have hwB : B ≤ wr.heap.size := by have := hG.ps.ms.sh.lt; omega
      have HR := Lib.hid hr
      have hr10 : R1.length ≤ 10 := by omega
      clear hC1 hR1 hnext hpo hoks hin1 hok1 hG hr hrl
      simp only at hc
      rcases hc with ⟨rfl, hc⟩ | ⟨rfl, hc⟩ | ⟨hkk, hc⟩
      · obtain ⟨-, -, rfl⟩ := hc
        by_cases hd1 : d = 1
        · have hb1 : ((d : Int) == 1) = true := by rw [hd1]; rfl

          obtain ⟨a, hae⟩ : ∃ a, a = (((shr (⟨0, xa, 0⟩ : Gt) C1).1 : Nat) : Int) := ⟨_, rfl⟩
          obtain ⟨C2, hCe⟩ : ∃ C2, C2 = (shr (⟨0, xa, 0⟩ : Gt) C1).2 := ⟨_, rfl⟩
          have HN2 := Lib.hid (show (ptR P (⟨0, xa, 0⟩ : Gt) C (d + 1)).2 = C2 ∧ (ptR P (⟨0, xa, 0⟩ : Gt) C (d + 1)).1 = R1 ++ [a] by
            rw [HNX.out.1, HNX.out.2, HR.out, hae, hCe]
            unfold ptG
            simp only [hd1, if_true]
            first | exact ⟨rfl, rfl⟩ | exact ⟨trivial, rfl⟩ | exact ⟨trivial, trivial⟩)
          have HSH := Lib.hid (fun w' (h : MkS w' G v' 5 (psC pv) C1) => sShare B G G 5 v' (psC pv) C1 (⟨0, xa, 0⟩ : Gt) w' (by omega) hBG h)
          rw [← hae, ← hCe] at HSH
          clear hae hCe
          go_wp2_with fail
          refine wp_region_seq [(0, true), (1, true), (2, true), (3, true), (4, true), (5, true), (6, false)] (fun w' => w'.cell? ⟨n, 0, none⟩ = some (.int .i64 0) ∧ w'.cell? ⟨n, 1, none⟩ = some (.int .i64 xa) ∧ w'.cell? ⟨n, 2, none⟩ = some (.int .i64 0)) (by kernel_rfl) (by kernel_rfl) rfl (by intro c a d v w h; cases d <;> exact h) ⟨b0, b1, b2⟩ ?_
          iterate 6 (refine wpSeq_take (v := ?_) (List.getElem?_toArray.trans rfl) ?_ ?_; rotate_left; (intro w' hSw; (try dsimp only at hSw); go_simp; (try with_reducible rfl)); (try simp only [Act.put, List.setIfInBounds_toArray, List.set_cons_zero, List.set_cons_succ]))
          refine wpSeq_do (List.getElem?_toArray.trans rfl) (fun K hK => ?_)
          go_simp
          have hdr : Below wr.heap.size wr wr.drew := Below.drew (Below.refl _ _)
          refine (HSH.out _ (HG.out.ps.ms.below hdr)).mono ?_
          rintro e wT ⟨v2, rfl, hm2, hb2, ha2, hv2⟩
          have HT := Lib.hid ((HG.out.below hwB hdr).step hm2 hb2 ha2 hv2)
          obtain ⟨d0, d1, d2⟩ := HT.out.box
          simp only [Nat.zero_add] at d0 d1 d2
          refine hK _ _ ⟨d0, d1, d2⟩ ?_
          clear hK K hm2 hb2 ha2 hv2 b0 b1 b2 d0 d1 d2
          refine wpSeq_nil ?_
          simp only [Exit.then]

          have hBT : B ≤ wT.heap.size := by have := HT.out.kn.lt; omega
          have HAA := Lib.hid (HT.out.below hBT (Below.alloc (Below.refl wT.heap.size wT) (Nat.le_refl _) (Obj.cells #[.int .i64 a] 3)))
          go_wp2_with (at_builtin; refine wpList_append_lies _ rfl _ _ 61 rfl n 3 i0 (.int .i64 0) 1 8 Try.underlying61 hi hz0 hz1 hz2 rfl (by decide) _ _ _ rfl HAA.out.row ⟨wT.heap.size, 0, none⟩ 1 1 [.int .i64 a] rfl rfl (by intro j u hj; match j, hj with | 0, hj => (simp at hj; subst hj; simp [Addr.add, go_sem])) (by intro u hu; simp at hu; subst hu; rfl) (by omega) (by unfold maxLen; omega) (by omega) (by have := HAA.out.kn.lt; omega) _ rfl ?_)
          intro g8 c8 w8 hown8 hgrow8 hat8 hlt8
          have H8 := Lib.hid (HAA.out.app hBn hown8 hgrow8 hat8 (by simp) hlt8)
          rw [← HN2.out.1, ← HN2.out.2] at H8
          clear hown8 hgrow8 hat8 hlt8 HAA
          go_wp2_with fail
          go_roundw
          case rel =>
            exact ⟨d + 1, v2, by omega, by go_num, H8.out⟩
          case measure => simp [intOf]; omega
        · have hb1 : ((d : Int) == 1) = false := by simp; omega

          have HN2 := Lib.hid (show (ptR P (⟨0, xa, 0⟩ : Gt) C (d + 1)).2 = C1 ∧ (ptR P (⟨0, xa, 0⟩ : Gt) C (d + 1)).1 = R1 ++ [-1] by
            rw [HNX.out.1, HNX.out.2, HR.out]
            unfold ptG
            simp only [hd1, if_true, if_false]
            first | exact ⟨rfl, rfl⟩ | exact ⟨trivial, rfl⟩ | exact ⟨trivial, trivial⟩)
          have HT := HG

          have hBT : B ≤ wr.heap.size := by have := HT.out.kn.lt; omega
          have HAA := Lib.hid (HT.out.below hBT (Below.alloc (Below.refl wr.heap.size wr) (Nat.le_refl _) (Obj.cells #[.int .i64 (-1)] 3)))
          go_wp2_with (at_builtin; refine wpList_append_lies _ rfl _ _ 61 rfl n 3 i0 (.int .i64 0) 1 8 Try.underlying61 hi hz0 hz1 hz2 rfl (by decide) _ _ _ rfl HAA.out.row ⟨wr.heap.size, 0, none⟩ 1 1 [.int .i64 (-1)] rfl rfl (by intro j u hj; match j, hj with | 0, hj => (simp at hj; subst hj; simp [Addr.add, go_sem])) (by intro u hu; simp at hu; subst hu; rfl) (by omega) (by unfold maxLen; omega) (by omega) (by have := HAA.out.kn.lt; omega) _ rfl ?_)
          intro g8 c8 w8 hown8 hgrow8 hat8 hlt8
          have H8 := Lib.hid (HAA.out.app hBn hown8 hgrow8 hat8 (by simp) hlt8)
          rw [← HN2.out.1, ← HN2.out.2] at H8
          clear hown8 hgrow8 hat8 hlt8 HAA
          go_wp2_with fail
          go_roundw
          case rel =>
            exact ⟨d + 1, v', by omega, by go_num, H8.out⟩
          case measure => simp [intOf]; omega
      · obtain ⟨hx0, -, rfl⟩ := hc
        by_cases hd1 : d = 0 ∧ xa ≠ 0
        · have hb1 : ((d : Int) == 0) = true := by rw [hd1.1]; rfl
          have hxp : xa > 0 := by omega

          obtain ⟨a, hae⟩ : ∃ a, a = (((shr (⟨1, xa, 0⟩ : Gt) C1).1 : Nat) : Int) := ⟨_, rfl⟩
          obtain ⟨C2, hCe⟩ : ∃ C2, C2 = (shr (⟨1, xa, 0⟩ : Gt) C1).2 := ⟨_, rfl⟩
          have HN2 := Lib.hid (show (ptR P (⟨1, xa, 0⟩ : Gt) C (d + 1)).2 = C2 ∧ (ptR P (⟨1, xa, 0⟩ : Gt) C (d + 1)).1 = R1 ++ [a] by
            rw [HNX.out.1, HNX.out.2, HR.out, hae, hCe]
            unfold ptG
            simp only [hd1.1, hd1.2, ne_eq, not_false_eq_true, and_self, if_true, if_false, Int.one_ne_zero]
            first | exact ⟨rfl, rfl⟩ | exact ⟨trivial, rfl⟩ | exact ⟨trivial, trivial⟩)
          have HSH := Lib.hid (fun w' (h : MkS w' G v' 5 (psC pv) C1) => sShare B G G 5 v' (psC pv) C1 (⟨1, xa, 0⟩ : Gt) w' (by omega) hBG h)
          rw [← hae, ← hCe] at HSH
          clear hae hCe
          go_wp2_with fail
          refine wp_region_seq [(0, true), (1, true), (2, true), (3, true), (4, false)] (fun w' => w'.cell? ⟨n, 0, none⟩ = some (.int .i64 1) ∧ w'.cell? ⟨n, 1, none⟩ = some (.int .i64 xa) ∧ w'.cell? ⟨n, 2, none⟩ = some (.int .i64 0)) (by kernel_rfl) (by kernel_rfl) rfl (by intro c a d v w h; cases d <;> exact h) ⟨b0, b1, b2⟩ ?_
          iterate 4 (refine wpSeq_take (v := ?_) (List.getElem?_toArray.trans rfl) ?_ ?_; rotate_left; (intro w' hSw; (try dsimp only at hSw); go_simp; (try with_reducible rfl)); (try simp only [Act.put, List.setIfInBounds_toArray, List.set_cons_zero, List.set_cons_succ]))
          refine wpSeq_do (List.getElem?_toArray.trans rfl) (fun K hK => ?_)
          go_simp
          have hdr : Below wr.heap.size wr wr.drew := Below.drew (Below.refl _ _)
          refine (HSH.out _ (HG.out.ps.ms.below hdr)).mono ?_
          rintro e wT ⟨v2, rfl, hm2, hb2, ha2, hv2⟩
          have HT := Lib.hid ((HG.out.below hwB hdr).step hm2 hb2 ha2 hv2)
          obtain ⟨d0, d1, d2⟩ := HT.out.box
          simp only [Nat.zero_add] at d0 d1 d2
          refine hK _ _ ⟨d0, d1, d2⟩ ?_
          clear hK K hm2 hb2 ha2 hv2 b0 b1 b2 d0 d1 d2
          refine wpSeq_nil ?_
          simp only [Exit.then]

          have hBT : B ≤ wT.heap.size := by have := HT.out.kn.lt; omega
          have HAA := Lib.hid (HT.out.below hBT (Below.alloc (Below.refl wT.heap.size wT) (Nat.le_refl _) (Obj.cells #[.int .i64 a] 3)))
          go_wp2_with (at_builtin; refine wpList_append_lies _ rfl _ _ 61 rfl n 3 i0 (.int .i64 0) 1 8 Try.underlying61 hi hz0 hz1 hz2 rfl (by decide) _ _ _ rfl HAA.out.row ⟨wT.heap.size, 0, none⟩ 1 1 [.int .i64 a] rfl rfl (by intro j u hj; match j, hj with | 0, hj => (simp at hj; subst hj; simp [Addr.add, go_sem])) (by intro u hu; simp at hu; subst hu; rfl) (by omega) (by unfold maxLen; omega) (by omega) (by have := HAA.out.kn.lt; omega) _ rfl ?_)
          intro g8 c8 w8 hown8 hgrow8 hat8 hlt8
          have H8 := Lib.hid (HAA.out.app hBn hown8 hgrow8 hat8 (by simp) hlt8)
          rw [← HN2.out.1, ← HN2.out.2] at H8
          clear hown8 hgrow8 hat8 hlt8 HAA
          go_wp2_with fail
          go_roundw
          case rel =>
            exact ⟨d + 1, v2, by omega, by go_num, H8.out⟩
          case measure => simp [intOf]; omega
        · have HN2 := Lib.hid (show (ptR P (⟨1, xa, 0⟩ : Gt) C (d + 1)).2 = C1 ∧ (ptR P (⟨1, xa, 0⟩ : Gt) C (d + 1)).1 = R1 ++ [-1] by
            rw [HNX.out.1, HNX.out.2, HR.out]
            unfold ptG
            simp only [hd1, if_true, if_false, Int.one_ne_zero]
            first | exact ⟨rfl, rfl⟩ | exact ⟨trivial, rfl⟩ | exact ⟨trivial, trivial⟩)
          have HT := HG
          by_cases hdz : d = 0
          · have hb1 : ((d : Int) == 0) = true := by rw [hdz]; rfl
            have hxz : xa = 0 := Classical.byContradiction fun e => hd1 ⟨hdz, e⟩
            clear hd1
            subst hxz

            have hBT : B ≤ wr.heap.size := by have := HT.out.kn.lt; omega
            have HAA := Lib.hid (HT.out.below hBT (Below.alloc (Below.refl wr.heap.size wr) (Nat.le_refl _) (Obj.cells #[.int .i64 (-1)] 3)))
            go_wp2_with (at_builtin; refine wpList_append_lies _ rfl _ _ 61 rfl n 3 i0 (.int .i64 0) 1 8 Try.underlying61 hi hz0 hz1 hz2 rfl (by decide) _ _ _ rfl HAA.out.row ⟨wr.heap.size, 0, none⟩ 1 1 [.int .i64 (-1)] rfl rfl (by intro j u hj; match j, hj with | 0, hj => (simp at hj; subst hj; simp [Addr.add, go_sem])) (by intro u hu; simp at hu; subst hu; rfl) (by omega) (by unfold maxLen; omega) (by omega) (by have := HAA.out.kn.lt; omega) _ rfl ?_)
            intro g8 c8 w8 hown8 hgrow8 hat8 hlt8
            have H8 := Lib.hid (HAA.out.app hBn hown8 hgrow8 hat8 (by simp) hlt8)
            rw [← HN2.out.1, ← HN2.out.2] at H8
            clear hown8 hgrow8 hat8 hlt8 HAA
            go_wp2_with fail
            go_roundw
            case rel =>
              exact ⟨d + 1, v', by omega, by go_num, H8.out⟩
            case measure => simp [intOf]; omega
          · have hb1 : ((d : Int) == 0) = false := by simp; omega

            have hBT : B ≤ wr.heap.size := by have := HT.out.kn.lt; omega
            have HAA := Lib.hid (HT.out.below hBT (Below.alloc (Below.refl wr.heap.size wr) (Nat.le_refl _) (Obj.cells #[.int .i64 (-1)] 3)))
            go_wp2_with (at_builtin; refine wpList_append_lies _ rfl _ _ 61 rfl n 3 i0 (.int .i64 0) 1 8 Try.underlying61 hi hz0 hz1 hz2 rfl (by decide) _ _ _ rfl HAA.out.row ⟨wr.heap.size, 0, none⟩ 1 1 [.int .i64 (-1)] rfl rfl (by intro j u hj; match j, hj with | 0, hj => (simp at hj; subst hj; simp [Addr.add, go_sem])) (by intro u hu; simp at hu; subst hu; rfl) (by omega) (by unfold maxLen; omega) (by omega) (by have := HAA.out.kn.lt; omega) _ rfl ?_)
            intro g8 c8 w8 hown8 hgrow8 hat8 hlt8
            have H8 := Lib.hid (HAA.out.app hBn hown8 hgrow8 hat8 (by simp) hlt8)
            rw [← HN2.out.1, ← HN2.out.2] at H8
            clear hown8 hgrow8 hat8 hlt8 HAA
            go_wp2_with fail
            go_roundw
            case rel =>
              exact ⟨d + 1, v', by omega, by go_num, H8.out⟩
            case measure => simp [intOf]; omega
      · obtain ⟨h0, h1, h2, h3⟩ := hc
        obtain ⟨A, rfl⟩ := Int.eq_ofNat_of_zero_le h0
        obtain ⟨D, rfl⟩ := Int.eq_ofNat_of_zero_le h2
        have hA : A < P.length := by omega
        have hD : D < P.length := by omega
        have hdk : d ≤ k := by omega
        have hltd : (d : Int) < (k : Int) + 1 := by omega
        obtain ⟨pg, pc, rfl⟩ := HG.out.ps.form (by omega)
        have hPl : (P.length : Int) ≤ 60 := by omega

        rcases hkk with rfl | rfl
        · obtain ⟨pa, hpa⟩ : ∃ a, a = pcl P A d := ⟨_, rfl⟩
          obtain ⟨pb, hpb⟩ : ∃ a, a = pcl P D d := ⟨_, rfl⟩
          obtain ⟨ga, ca, ea, ka, ra⟩ := HG.out.ps.at hA
          obtain ⟨gb, cb, eb, kb, rb⟩ := HG.out.ps.at hD
          have kpg := (HG.out.ps.kp pg rfl).2
          have c4 := HG.out.ps.ms.sh.oth 4 (by omega) (by omega)
          rw [show psC (.slice (some ⟨pg, 0, none⟩) P.length pc) 4 = .slice (some ⟨pg, 0, none⟩) P.length pc from rfl] at c4

          have ra0 := ra d hdk
          have rb0 := rb d hdk
          rw [← hpa] at ra0
          rw [← hpb] at rb0
          obtain ⟨a, hae⟩ : ∃ a, a = (smG pa pb C1).1 := ⟨_, rfl⟩
          obtain ⟨C2, hCe⟩ : ∃ C2, C2 = (smG pa pb C1).2 := ⟨_, rfl⟩
          have HN2 := Lib.hid (show (ptR P ⟨2, (A : Int), (D : Int)⟩ C (d + 1)).2 = C2 ∧ (ptR P ⟨2, (A : Int), (D : Int)⟩ C (d + 1)).1 = R1 ++ [a] by
            rw [HNX.out.1, HNX.out.2, HR.out, hae, hCe, hpa, hpb]
            exact ⟨rfl, rfl⟩)
          have HSM := Lib.hid (fun w' (h : MkS w' G v' 5 (psC (.slice (some ⟨pg, 0, none⟩) P.length pc)) C1) => sPsum B G G 5 v' (psC (.slice (some ⟨pg, 0, none⟩) P.length pc)) C1 pa pb w' (by omega) hBG h)
          rw [← hae, ← hCe] at HSM
          clear hae hCe hpa hpb ra rb
          go_wp2_with fail
          refine wp_region_seq [(0, true), (1, true), (2, true), (3, true), (4, true), (5, true), (6, true), (7, true), (8, true), (9, true), (10, true), (11, true), (12, true), (13, true), (14, true), (15, true), (16, true), (17, true), (18, true), (19, true), (20, true), (21, true), (22, true), (23, false)] (fun w' => w'.cell? ⟨n, 1, none⟩ = some (.int .i64 A) ∧ w'.cell? ⟨n, 2, none⟩ = some (.int .i64 D) ∧ w'.cell? ⟨G, 4, none⟩ = some (.slice (some ⟨pg, 0, none⟩) P.length pc) ∧ w'.cell? ⟨pg, A, none⟩ = some (.slice (some ⟨ga, 0, none⟩) (k + 1) ca) ∧ w'.cell? ⟨pg, D, none⟩ = some (.slice (some ⟨gb, 0, none⟩) (k + 1) cb) ∧ w'.cell? ⟨ga, d, none⟩ = some (.int .i64 pa) ∧ w'.cell? ⟨gb, d, none⟩ = some (.int .i64 pb)) (by kernel_rfl) (by kernel_rfl) rfl (by intro c a d v w h; cases d <;> exact h) ⟨b1, b2, c4, ea, eb, ra0, rb0⟩ ?_
          iterate 23 (refine wpSeq_take (v := ?_) (List.getElem?_toArray.trans rfl) ?_ ?_; rotate_left; (intro w' hSw; (try dsimp only at hSw); go_simp; (try with_reducible rfl)); (try simp only [Act.put, List.setIfInBounds_toArray, List.set_cons_zero, List.set_cons_succ]))
          refine wpSeq_do (List.getElem?_toArray.trans rfl) (fun K hK => ?_)
          go_simp
          have hdr : Below wr.heap.size wr wr.drew := Below.drew (Below.refl _ _)
          refine (HSM.out _ (HG.out.ps.ms.below hdr)).mono ?_
          rintro e wT ⟨v2, rfl, hm2, hb2, ha2, hv2⟩
          have HT := Lib.hid ((HG.out.below hwB hdr).step hm2 hb2 ha2 hv2)
          have hsame : ∀ b, Kp wr G G v' b → wT.heap[b]? = wr.heap[b]? := fun b hk => ((hk.below hdr).step ha2 hv2 hb2.size).2.trans (hdr.block b hk.lt)
          obtain ⟨d0, d1, d2⟩ := HT.out.box
          simp only [Nat.zero_add] at d0 d1 d2
          have d4 := HT.out.ps.ms.sh.oth 4 (by omega) (by omega)
          rw [show psC (.slice (some ⟨pg, 0, none⟩) P.length pc) 4 = .slice (some ⟨pg, 0, none⟩) P.length pc from rfl] at d4
          refine hK _ _ ⟨d1, d2, d4, kpCell ea (hsame pg kpg), kpCell eb (hsame pg kpg), kpCell ra0 (hsame ga ka), kpCell rb0 (hsame gb kb)⟩ ?_
          clear hK K hm2 hb2 ha2 hv2 b0 b1 b2 d0 d1 d2 d4 hsame ea eb ka kb kpg c4 ra0 rb0
          refine wpSeq_nil ?_
          simp only [Exit.then]
          have hBT : B ≤ wT.heap.size := by have := HT.out.kn.lt; omega
          have HAA := Lib.hid (HT.out.below hBT (Below.alloc (Below.refl wT.heap.size wT) (Nat.le_refl _) (Obj.cells #[.int .i64 a] 3)))
          go_wp2_with (at_builtin; refine wpList_append_lies _ rfl _ _ 61 rfl n 3 i0 (.int .i64 0) 1 8 Try.underlying61 hi hz0 hz1 hz2 rfl (by decide) _ _ _ rfl HAA.out.row ⟨wT.heap.size, 0, none⟩ 1 1 [.int .i64 a] rfl rfl (by intro j u hj; match j, hj with | 0, hj => (simp at hj; subst hj; simp [Addr.add, go_sem])) (by intro u hu; simp at hu; subst hu; rfl) (by omega) (by unfold maxLen; omega) (by omega) (by have := HAA.out.kn.lt; omega) _ rfl ?_)
          intro g8 c8 w8 hown8 hgrow8 hat8 hlt8
          have H8 := Lib.hid (HAA.out.app hBn hown8 hgrow8 hat8 (by simp) hlt8)
          rw [← HN2.out.1, ← HN2.out.2] at H8
          clear hown8 hgrow8 hat8 hlt8 HAA
          go_wp2_with fail
          go_roundw
          case rel =>
            exact ⟨d + 1, v2, by omega, by go_num, H8.out⟩
          case measure => simp [intOf]; omega

        · obtain ⟨T, hTe⟩ : ∃ T : Nat → Int × List Gt, T = cvK P A D d C1 := ⟨_, rfl⟩
          have HT0 := Lib.hid (show T 0 = (-1, C1) by rw [hTe]; rfl)
          have HTS := Lib.hid (fun i => show T (i + 1) = smG (T i).1 (pdG (pcl P A i) (pcl P D (d - i)) (T i).2).1 (pdG (pcl P A i) (pcl P D (d - i)) (T i).2).2 by rw [hTe]; rfl)
          have HTO := Lib.hid (fun i (hi : i < d + 1) => show (T i).2.length ≤ 8000 ∧ (pdG (pcl P A i) (pcl P D (d - i)) (T i).2).2.length ≤ 8000 by
            have h1 := cvK_ok HOK1.out HIN.out hA hD hdk i (by omega)
            rw [← hTe] at h1
            have h2 := h1.hi
            have h3 := pdG_len (pcl P A i) (pcl P D (d - i)) (T i).2
            omega)
          have HN2 := Lib.hid (show (ptR P ⟨3, (A : Int), (D : Int)⟩ C (d + 1)).2 = (T (d + 1)).2 ∧ (ptR P ⟨3, (A : Int), (D : Int)⟩ C (d + 1)).1 = R1 ++ [(T (d + 1)).1] by
            rw [HNX.out.1, HNX.out.2, HR.out, hTe]
            exact ⟨rfl, rfl⟩)
          clear hTe
          go_wp2_with fail
          go_loopw [8, 73] (fun at0 i wq => ∃ (j : Nat) (v2 : Value), j ≤ d + 1 ∧ i = .int .i64 j ∧ at0 = .int .i64 (T j).1 ∧ GSt w wq B G n n v2 (.slice (some ⟨pg, 0, none⟩) P.length pc) u6 k (T j).2 P V R1 ⟨3, (A : Int), (D : Int)⟩) (fun _ i _ => d + 1 - (intOf i).toNat)
          case atStart => exact ⟨0, v', by omega, rfl, by rw [HT0.out], by rw [HT0.out]; exact HG.out⟩
          case round =>
            obtain ⟨j, v2, hj, rfl, rfl, hq⟩ := hrel
            have hj0 : (0 : Int) ≤ (j : Int) := by omega
            have HQ := Lib.hid hq
            obtain ⟨c0, c1, c2⟩ := hq.box
            simp only [Nat.zero_add] at c0 c1 c2
            have hqB : B ≤ wr.heap.size := by have := hq.ps.ms.sh.lt; omega
            clear hq
            by_cases hjt : j < d + 1
            · have hjtp : (j : Int) < (d : Int) + 1 := by omega
              have hjk : (j : Int) < (k : Int) + 1 := by omega
              obtain ⟨dm, hdm⟩ : ∃ dm : Nat, dm = d - j := ⟨_, rfl⟩
              have hdmk : (dm : Int) < (k : Int) + 1 := by omega
              have hdm0 : (0 : Int) ≤ (dm : Int) := by omega
              have hsub : IntKind.i64.wrap ((d : Int) - (j : Int)) = (dm : Int) := by rw [IntWalk.i64_in _ (by omega)]; omega
              obtain ⟨pa, hpa⟩ : ∃ a, a = pcl P A j := ⟨_, rfl⟩
              obtain ⟨pb, hpb⟩ : ∃ a, a = pcl P D dm := ⟨_, rfl⟩
              obtain ⟨ga, ca, ea, ka, ra⟩ := HQ.out.ps.at hA
              obtain ⟨gb, cb, eb, kb, rb⟩ := HQ.out.ps.at hD
              have kpg := (HQ.out.ps.kp pg rfl).2
              have c4 := HQ.out.ps.ms.sh.oth 4 (by omega) (by omega)
              rw [show psC (.slice (some ⟨pg, 0, none⟩) P.length pc) 4 = .slice (some ⟨pg, 0, none⟩) P.length pc from rfl] at c4
              have ra0 := ra j (by omega)
              have rb0 := rb dm (by omega)
              rw [← hpa] at ra0
              rw [← hpb] at rb0
              have hts := HTS.out j
              have hto := HTO.out j hjt
              rw [← hdm, ← hpa, ← hpb] at hts hto
              obtain ⟨tj, htj⟩ : ∃ a, a = (T j).1 := ⟨_, rfl⟩
              obtain ⟨Cj, hCj⟩ : ∃ a, a = (T j).2 := ⟨_, rfl⟩
              rw [← htj, ← hCj] at hts
              rw [← hCj] at hto HQ
              obtain ⟨a1, ha1⟩ : ∃ a, a = (pdG pa pb Cj).1 := ⟨_, rfl⟩
              obtain ⟨C3, hC3⟩ : ∃ a, a = (pdG pa pb Cj).2 := ⟨_, rfl⟩
              rw [← ha1, ← hC3] at hts
              rw [← hC3] at hto
              have HPD := Lib.hid (fun w' (h : MkS w' G v2 5 (psC (.slice (some ⟨pg, 0, none⟩) P.length pc)) Cj) => sPprod B G G 5 v2 (psC (.slice (some ⟨pg, 0, none⟩) P.length pc)) Cj pa pb w' hto.1 hBG h)
              rw [← ha1, ← hC3] at HPD
              have HSU := Lib.hid (fun v3 w' (h : MkS w' G v3 5 (psC (.slice (some ⟨pg, 0, none⟩) P.length pc)) C3) => sPsum B G G 5 v3 (psC (.slice (some ⟨pg, 0, none⟩) P.length pc)) C3 tj a1 w' hto.2 hBG h)
              rw [← hts] at HSU
              rw [← htj]
              obtain ⟨tn, htn⟩ : ∃ a, a = (T (j + 1)).1 := ⟨_, rfl⟩
              obtain ⟨Cn, hCn⟩ : ∃ a, a = (T (j + 1)).2 := ⟨_, rfl⟩
              rw [← htn, ← hCn] at HSU
              have HTN := Lib.hid (And.intro htn hCn)
              clear htn hCn hts hto htj hCj ha1 hC3 hpa hpb ra rb hdm
              go_wp2_with fail
              refine wp_region_seq [(0, true), (1, true), (2, true), (3, true), (4, true), (5, true), (6, true), (7, true), (8, true), (9, true), (10, true), (11, true), (12, true), (13, true), (14, true), (15, true), (16, true), (17, true), (18, true), (19, true), (20, true), (21, true), (22, true), (23, true), (24, true), (25, true), (26, true), (27, false), (28, false)] (fun w' => w'.cell? ⟨n, 1, none⟩ = some (.int .i64 A) ∧ w'.cell? ⟨n, 2, none⟩ = some (.int .i64 D) ∧ w'.cell? ⟨G, 4, none⟩ = some (.slice (some ⟨pg, 0, none⟩) P.length pc) ∧ w'.cell? ⟨pg, A, none⟩ = some (.slice (some ⟨ga, 0, none⟩) (k + 1) ca) ∧ w'.cell? ⟨pg, D, none⟩ = some (.slice (some ⟨gb, 0, none⟩) (k + 1) cb) ∧ w'.cell? ⟨ga, j, none⟩ = some (.int .i64 pa) ∧ w'.cell? ⟨gb, dm, none⟩ = some (.int .i64 pb)) (by kernel_rfl) (by kernel_rfl) rfl (by intro c a d v w h; cases d <;> exact h) ⟨c1, c2, c4, ea, eb, ra0, rb0⟩ ?_
              iterate 27 (refine wpSeq_take (v := ?_) (List.getElem?_toArray.trans rfl) ?_ ?_; rotate_left; (intro w' hSw; (try dsimp only at hSw); go_simp; (try with_reducible rfl)); (try simp only [Act.put, List.setIfInBounds_toArray, List.set_cons_zero, List.set_cons_succ]))
              refine wpSeq_do (List.getElem?_toArray.trans rfl) (fun K hK => ?_)
              go_simp
              have hdr : Below wr.heap.size wr wr.drew := Below.drew (Below.refl _ _)
              refine (HPD.out _ (HQ.out.ps.ms.below hdr)).mono ?_
              rintro e w5 ⟨v5, rfl, hm2, hb2, ha2, hv2⟩
              have H5 := Lib.hid ((HQ.out.below hqB hdr).step hm2 hb2 ha2 hv2)
              have hsame : ∀ b, Kp wr G G v2 b → w5.heap[b]? = wr.heap[b]? := fun b hk => ((hk.below hdr).step ha2 hv2 hb2.size).2.trans (hdr.block b hk.lt)
              have hkeep : ∀ b, Kp wr G G v2 b → Kp w5 G G v5 b := fun b hk => ((hk.below hdr).step ha2 hv2 hb2.size).1
              obtain ⟨d0, d1, d2⟩ := H5.out.box
              simp only [Nat.zero_add] at d0 d1 d2
              have d4 := H5.out.ps.ms.sh.oth 4 (by omega) (by omega)
              rw [show psC (.slice (some ⟨pg, 0, none⟩) P.length pc) 4 = .slice (some ⟨pg, 0, none⟩) P.length pc from rfl] at d4
              have ea5 := kpCell ea (hsame pg kpg)
              have eb5 := kpCell eb (hsame pg kpg)
              have ra5 := kpCell ra0 (hsame ga ka)
              have rb5 := kpCell rb0 (hsame gb kb)
              have kpg5 := hkeep pg kpg
              have ka5 := hkeep ga ka
              have kb5 := hkeep gb kb
              refine hK _ _ ⟨d1, d2, d4, ea5, eb5, ra5, rb5⟩ ?_
              clear hK K hm2 hb2 ha2 hv2 hsame hkeep c0 c1 c2 ea eb ka kb kpg c4 ra0 rb0 d0 d1 d2 d4
              refine wpSeq_do (List.getElem?_toArray.trans rfl) (fun K hK => ?_)
              go_simp
              refine (HSU.out _ _ H5.out.ps.ms).mono ?_
              rintro e w6 ⟨v6, rfl, hm2, hb2, ha2, hv2⟩
              have H6 := Lib.hid (H5.out.step hm2 hb2 ha2 hv2)
              have hsame : ∀ b, Kp w5 G G v5 b → w6.heap[b]? = w5.heap[b]? := fun b hk => (hk.step ha2 hv2 hb2.size).2
              obtain ⟨d0, d1, d2⟩ := H6.out.box
              simp only [Nat.zero_add] at d0 d1 d2
              have d4 := H6.out.ps.ms.sh.oth 4 (by omega) (by omega)
              rw [show psC (.slice (some ⟨pg, 0, none⟩) P.length pc) 4 = .slice (some ⟨pg, 0, none⟩) P.length pc from rfl] at d4
              refine hK _ _ ⟨d1, d2, d4, kpCell ea5 (hsame pg kpg5), kpCell eb5 (hsame pg kpg5), kpCell ra5 (hsame ga ka5), kpCell rb5 (hsame gb kb5)⟩ ?_
              clear hK K hm2 hb2 ha2 hv2 hsame ea5 eb5 ka5 kb5 kpg5 ra5 rb5 d0 d1 d2 d4
              refine wpSeq_nil ?_
              simp only [Exit.then]
              go_wp2_with fail
              go_roundw
              case rel => exact ⟨j + 1, v6, by omega, by go_num, by rw [HTN.out.1], by rw [← HTN.out.2]; exact H6.out⟩
              case measure => simp [intOf]; omega
            · have hjd : j = d + 1 := by omega
              subst hjd
              obtain ⟨a, hae⟩ : ∃ a, a = (T (d + 1)).1 := ⟨_, rfl⟩
              obtain ⟨C2, hCe⟩ : ∃ a, a = (T (d + 1)).2 := ⟨_, rfl⟩
              rw [← hae, ← hCe] at HN2
              rw [← hCe] at HQ
              rw [← hae]
              have HT := HQ
              clear c0 c1 c2 b0 b1 b2 hae hCe
              have hBT : B ≤ wr.heap.size := by have := HT.out.kn.lt; omega
              have HAA := Lib.hid (HT.out.below hBT (Below.alloc (Below.refl wr.heap.size wr) (Nat.le_refl _) (Obj.cells #[.int .i64 a] 3)))
              go_wp2_with (at_builtin; refine wpList_append_lies _ rfl _ _ 61 rfl n 3 i0 (.int .i64 0) 1 8 Try.underlying61 hi hz0 hz1 hz2 rfl (by decide) _ _ _ rfl HAA.out.row ⟨wr.heap.size, 0, none⟩ 1 1 [.int .i64 a] rfl rfl (by intro j u hj; match j, hj with | 0, hj => (simp at hj; subst hj; simp [Addr.add, go_sem])) (by intro u hu; simp at hu; subst hu; rfl) (by omega) (by unfold maxLen; omega) (by omega) (by have := HAA.out.kn.lt; omega) _ rfl ?_)
              intro g8 c8 w8 hown8 hgrow8 hat8 hlt8
              have H8 := Lib.hid (HAA.out.app hBn hown8 hgrow8 hat8 (by simp) hlt8)
              rw [← HN2.out.1, ← HN2.out.2] at H8
              clear hown8 hgrow8 hat8 hlt8 HAA
              go_wp2_with fail
              go_roundw
              case rel =>
                exact ⟨d + 1, v2, by omega, by go_num, H8.out⟩
              case measure => simp [intOf]; omega
    · have hdk : d = k + 1 := by omega
      subst hdk
      rw [← HFI.out.1, ← HFI.out.2] at hG
      rw [← HFI.out.2] at hrl
      obtain ⟨go, co, rfl, hgo, hgw⟩ := World.ownsRow.form hG.row (by omega)
      rw [hrl] at hG
      have hGk := (hG.ovk go rfl).1
      have hrd : ∀ d, d ≤ k → wr.cell? ⟨go, d, none⟩ = some (.int .i64 (RE.getD d 0)) := fun d hd => by
        rcases RowI.shape' hG.row hrl with ⟨e, _⟩ | ⟨g, c, e, _, _, _, _, hh⟩
        · cases e
        · injection e with e1
          injection e1 with e1
          injection e1 with e1
          subst e1
          exact hh d (by omega)
      have c4 := hG.ps.ms.sh.oth 4 (by omega) (by omega)
      rw [show psC pv 4 = pv from rfl] at c4
      have f4 := hG.ps.ms.sh.fz 4 (by omega) (by omega)
      have hGr := hG.ps.ms.sh.lt
      have hpG : pv.ownBlock ≠ some G := fun e => (hG.ps.kp G e).2.nG rfl
      have hpo : pv.ownBlock ≠ some go := fun e => by have := (hG.ps.kp go e).1; omega
      have hvl : V.length ≤ 60 := by rw [hG.ps.len]; exact hP60
      have HG := Lib.hid hG
      have HRD := Lib.hid hrd
      have HGK := Lib.hid (And.intro hGk (And.intro hpo hpG))
      have HRA := Lib.hid (fun o => owns_same (w' := wr.alloc o) hG.ps.row (fun b hq => by
        have := (hG.ps.kp b hq).2.lt
        exact (Below.alloc (Below.refl wr.heap.size wr) (Nat.le_refl _) o).block b this))
      have HSA := Lib.hid (fun o => hG.ps.ms.sh.below (w' := wr.alloc o) (Below.alloc (Below.refl wr.heap.size wr) (Nat.le_refl _) o))
      clear hG hrd hGk hpo hpG
      go_wp2_with (at_builtin; refine wpList_append_lies _ rfl _ _ 170 rfl (G + 1) 61 is (.slice none 0 0) 1 24 Try.underlying170 his hs0 hs1 hs2 rfl (by decide) _ _ _ rfl (HRA.out _) ⟨wr.heap.size, 0, none⟩ 1 1 [.slice (some ⟨go, 0, none⟩) (k + 1) co] rfl rfl (by intro j u hj; match j, hj with | 0, hj => (simp at hj; subst hj; simp [Addr.add, go_sem])) (by intro u hu; simp at hu; subst hu; rfl) (by omega) (by unfold maxLen; omega) (by omega) (by simp; omega) _ rfl ?_)
      intro g8 c8 w8 hown8 hgrow8 hat8 hlt8
      have HS8 := Lib.hid ((HSA.out _).grown hgrow8 HGK.out.2.2)
      have d4 := HS8.out.oth 4 (by omega) (by omega)
      rw [show psC pv 4 = pv from rfl] at d4
      have e4 := HS8.out.fz 4 (by omega) (by omega)
      have hG8 := HS8.out.lt
      have HF := Lib.hid (HG.out.ps.push hBG (Below.alloc (Below.refl wr.heap.size wr) (Nat.le_refl _) _) hown8 hgrow8 hat8 (by simp) hlt8 HGK.out.1 HGK.out.2.1 HRD.out)
      clear hown8 hgrow8 hat8 hlt8 c4 f4
      go_wp2_with fail
      refine bodyPost_end (v := .tuple #[]) (by simp [results, Try.results152, go_sem]) rfl ⟨rfl, v', _, _, HF.out.1.mono (by simp), HG.out.low.trans HF.out.2⟩
end Go.Proofs.Ytlidplmpglpkgaa
namespace Go.Proofs.Ytlidplmpglpkgaa
open Go.RowKit
theorem emB {n p : Int} (hp : 2 ≤ p) : 0 ≤ n % p ∧ n % p < p := ⟨Int.emod_nonneg _ (by omega), Int.emod_lt_of_pos _ (by omega)⟩
section
variable (p x y z : Int)
/-- the value of a gate -/
def vC (C : List Gt) (m : Nat) : Int := (evL p x y z C (m + 1)).getD m 0
theorem evL_getLt (C : List Gt) (j : Nat) : ∀ k, j < k → (evL p x y z C k).getD j 0 = vC p x y z C j := by
  intro k hk
  induction k with
  | zero => omega
  | succ k ih =>
    by_cases e : j = k
    · subst e; rfl
    · have hl := evL_len p x y z C k
      show ((evL p x y z C k ++ [_]).getD j 0) = _
      rw [List.getD_eq_getElem?_getD, List.getElem?_append_left (by omega), ← List.getD_eq_getElem?_getD]
      exact ih (by omega)
theorem vC_eq {C : List Gt} {m : Nat} {g : Gt} (hg : gAt C m = g) (ha : g.k = 2 ∨ g.k = 3 → g.a.toNat < m ∧ g.b.toNat < m) : vC p x y z C m = if g.k = 0 then coord x y z g.a else if g.k = 2 then (vC p x y z C g.a.toNat + vC p x y z C g.b.toNat) % p else if g.k = 3 then (vC p x y z C g.a.toNat * vC p x y z C g.b.toNat) % p else g.a := by
  have hl := evL_len p x y z C m
  show ((evL p x y z C m ++ [_]).getD m 0) = _
  rw [List.getD_eq_getElem?_getD, List.getElem?_append_right (by omega), hl, Nat.sub_self, List.getElem?_cons_zero, Option.getD_some]
  simp only [hg, beq_iff_eq]
  by_cases h2 : g.k = 2
  · have := ha (.inl h2)
    rw [evL_getLt p x y z C g.a.toNat m this.1, evL_getLt p x y z C g.b.toNat m this.2]
  · by_cases h3 : g.k = 3
    · have := ha (.inr h3)
      rw [evL_getLt p x y z C g.a.toNat m this.1, evL_getLt p x y z C g.b.toNat m this.2]
    · rw [if_neg h2, if_neg h2, if_neg h3, if_neg h3]
theorem evL_app (C D : List Gt) : ∀ k, k ≤ C.length → evL p x y z (C ++ D) k = evL p x y z C k
  | 0, _ => rfl
  | k + 1, h => by
    have ih := evL_app C D k (by omega)
    show evL p x y z (C ++ D) k ++ [_] = evL p x y z C k ++ [_]
    rw [ih, gAt_left (show k < C.length by omega)]
theorem vC_app (C D : List Gt) {m : Nat} (h : m < C.length) : vC p x y z (C ++ D) m = vC p x y z C m := by
  unfold vC
  rw [evL_app p x y z C D (m + 1) h]
/-- the value of a part -/
def pv (C : List Gt) (n : Int) : Int := if n < 0 then 0 else vC p x y z C n.toNat
theorem pv_app (C D : List Gt) {n : Int} (h : n < C.length) : pv p x y z (C ++ D) n = pv p x y z C n := by
  unfold pv
  split
  · rfl
  · exact vC_app p x y z C D (by omega)
end
section
variable {p x y z : Int}
theorem gat_bd {C : List Gt} (hC : AllOK p C) (j : Nat) (hj : j < C.length) : (gAt C j).k = 2 ∨ (gAt C j).k = 3 → (gAt C j).a.toNat < j ∧ (gAt C j).b.toNat < j := fun hk => by
  have h := gOK_cases (hC j hj)
  rcases h with ⟨h, _⟩ | ⟨h, _⟩ | ⟨_, h0, h1, h2, h3⟩
  · omega
  · omega
  · omega
theorem vC_bd (hp : isP p = true) (he : isE3 p x y z = true) {C : List Gt} (hC : AllOK p C) : ∀ m n, m < n → m < C.length → 0 ≤ vC p x y z C m ∧ vC p x y z C m < p
  | _, 0, h, _ => by omega
  | m, n + 1, hm, hl => by
    have hb := isP_bd hp
    obtain ⟨hx, hy, hz⟩ := isE3_iff.1 he
    rw [vC_eq p x y z rfl (gat_bd hC m hl)]
    have h := gOK_cases (hC m hl)
    split
    · unfold coord
      split
      · exact hx
      · split
        · exact hy
        · exact hz
    · split
      · exact emB hb.1
      · split
        · exact emB hb.1
        · rcases h with ⟨h, _⟩ | ⟨_, h0, h1, _⟩ | ⟨h, _⟩
          · omega
          · omega
          · omega
theorem pv_bd (hp : isP p = true) (he : isE3 p x y z = true) {C : List Gt} (hC : AllOK p C) {n : Int} (h : inC n C) : 0 ≤ pv p x y z C n ∧ pv p x y z C n < p := by
  have hb := isP_bd hp
  unfold pv
  split
  · omega
  · have := h.2
    exact vC_bd hp he hC n.toNat (n.toNat + 1) (by omega) (by omega)
/-- what is put goes on from what there is -/
def Ext (C D : List Gt) : Prop := ∃ E, D = C ++ E
theorem Ext.refl (C : List Gt) : Ext C C := ⟨[], by simp⟩
theorem Ext.trans {C D E : List Gt} (h : Ext C D) (k : Ext D E) : Ext C E := by
  obtain ⟨a, rfl⟩ := h
  obtain ⟨b, rfl⟩ := k
  exact ⟨a ++ b, by simp⟩
theorem Ext.pv {C D : List Gt} (h : Ext C D) {n : Int} (hn : n < C.length) : pv p x y z D n = Go.Proofs.Ytlidplmpglpkgaa.pv p x y z C n := by
  obtain ⟨E, rfl⟩ := h
  exact pv_app p x y z C E hn
theorem shI_ext (g : Gt) (C : List Gt) : Ext C (shI g C).2 := by
  unfold shI
  cases h : ixG g C with
  | some n => rw [shr_hit h]; exact Ext.refl C
  | none => rw [shr_new h]; exact ⟨[g], rfl⟩
theorem ixG_eq {g : Gt} : ∀ {C : List Gt} {n : Nat}, ixG g C = some n → gAt C n = g
  | [], n, h => by cases h
  | y :: r, n, h => by
    unfold ixG at h
    split at h
    · rename_i e
      injection h with h
      subst h
      exact (eqGt_iff.1 e).symm
    · cases e : ixG g r with
      | none => rw [e] at h; cases h
      | some m =>
        rw [e] at h
        have h : m + 1 = n := by simpa using h
        subst h
        show gAt r m = g
        exact ixG_eq e
theorem shI_gate (g : Gt) (C : List Gt) : ∃ m : Nat, (shI g C).1 = (m : Int) ∧ m < (shI g C).2.length ∧ gAt (shI g C).2 m = g := by
  have hf := shr_facts g C
  refine ⟨(shr g C).1, rfl, hf.1, ?_⟩
  show gAt (shr g C).2 (shr g C).1 = g
  cases h : ixG g C with
  | some n => rw [shr_hit h]; exact ixG_eq h
  | none => rw [shr_new h]; exact gAt_last
/-- the value of a gate that is shared -/
theorem shI_val {g : Gt} {C : List Gt} (hC : AllOK p C) (hg : gOK (p - 1) g (C.length : Nat) = true) : pv p x y z (shI g C).2 (shI g C).1 = if g.k = 0 then coord x y z g.a else if g.k = 2 then (pv p x y z C g.a + pv p x y z C g.b) % p else if g.k = 3 then (pv p x y z C g.a * pv p x y z C g.b) % p else g.a := by
  obtain ⟨m, e1, e2, e3⟩ := shI_gate g C
  have ho := shI_ok hC hg
  have hx := shI_ext g C
  rw [e1]
  unfold pv
  rw [if_neg (by omega), Int.toNat_natCast, vC_eq p x y z e3 (by have := gat_bd ho.ok m e2; rw [e3] at this; exact this)]
  have hc := gOK_cases hg
  rcases hc with ⟨hk, _⟩ | ⟨hk, _⟩ | ⟨hk, h0, h1, h2, h3⟩
  · rw [if_pos hk, if_pos hk]
  · rw [if_neg (by omega), if_neg (by omega), if_neg (by omega), if_neg (by omega), if_neg (by omega), if_neg (by omega)]
  · obtain ⟨E, hE⟩ := hx
    rw [if_neg (show ¬ g.a < 0 by omega), if_neg (show ¬ g.b < 0 by omega), hE, vC_app p x y z C E (show g.a.toNat < C.length by omega), vC_app p x y z C E (show g.b.toNat < C.length by omega)]
theorem smG_val (hp : isP p = true) (he : isE3 p x y z = true) {a b : Int} {C : List Gt} (hC : AllOK p C) (ha : inC a C) (hb : inC b C) : pv p x y z (smG a b C).2 (smG a b C).1 = (pv p x y z C a + pv p x y z C b) % p ∧ Ext C (smG a b C).2 := by
  have ba := pv_bd hp he hC ha
  have bb := pv_bd hp he hC hb
  unfold smG
  split
  · rename_i h
    have e : pv p x y z C a = 0 := by unfold pv; rw [if_pos h]
    refine ⟨?_, Ext.refl C⟩
    rw [e, Int.zero_add, Int.emod_eq_of_lt bb.1 bb.2]
  · split
    · rename_i h
      have e : pv p x y z C b = 0 := by unfold pv; rw [if_pos h]
      refine ⟨?_, Ext.refl C⟩
      rw [e, Int.add_zero, Int.emod_eq_of_lt ba.1 ba.2]
    · refine ⟨?_, shI_ext _ _⟩
      rw [shI_val hC (gOK_join (.inl rfl) ⟨by omega, ha.2⟩ ⟨by omega, hb.2⟩)]
      rfl
theorem pdG_val (hp : isP p = true) {a b : Int} {C : List Gt} (hC : AllOK p C) (ha : inC a C) (hb : inC b C) : pv p x y z (pdG a b C).2 (pdG a b C).1 = (pv p x y z C a * pv p x y z C b) % p ∧ Ext C (pdG a b C).2 := by
  have hpb := isP_bd hp
  unfold pdG
  split
  · rename_i h
    refine ⟨?_, Ext.refl C⟩
    have e : pv p x y z C a * pv p x y z C b = 0 := by
      rcases h with h | h
      · have : pv p x y z C a = 0 := by unfold pv; rw [if_pos h]
        rw [this, Int.zero_mul]
      · have : pv p x y z C b = 0 := by unfold pv; rw [if_pos h]
        rw [this, Int.mul_zero]
    rw [e, Int.zero_emod]
    rfl
  · refine ⟨?_, shI_ext _ _⟩
    rw [shI_val hC (gOK_join (.inr rfl) ⟨by omega, ha.2⟩ ⟨by omega, hb.2⟩)]
    rfl
/-- the sum of products up to a degree, as the model takes it -/
def cvV (p : Int) (A : List (List Int)) (a b d : Nat) : Nat → Int
  | 0 => 0
  | i + 1 => (cvV p A a b d i + pcl A a i * pcl A b (d - i)) % p
/-- the value of degree d of a gate -/
def dvF (p x y z : Int) (A : List (List Int)) (g : Gt) (d : Nat) : Int :=
  if g.k = 0 then (if d = 1 then coord x y z g.a else 0)
  else if g.k = 1 then (if d = 0 then g.a else 0)
  else if g.k = 2 then (pcl A g.a.toNat d + pcl A g.b.toNat d) % p
  else cvV p A g.a.toNat g.b.toNat d (d + 1)
/-- the values up to the degree k of the first gates -/
def dvC (p x y z : Int) (k : Nat) (L : List Gt) : Nat → List (List Int)
  | 0 => []
  | j + 1 => dvC p x y z k L j ++ [(List.range (k + 1)).map (dvF p x y z (dvC p x y z k L j) (gAt L j))]
theorem dvC_len (p x y z : Int) (k : Nat) (L : List Gt) : ∀ j, (dvC p x y z k L j).length = j
  | 0 => rfl
  | j + 1 => by
    show (dvC p x y z k L j ++ [_]).length = _
    rw [List.length_append, dvC_len p x y z k L j]
    rfl
/-- places have these values -/
def Vals (p x y z : Int) (k : Nat) (C : List Gt) (P A : List (List Int)) : Prop := ∀ i d, i < P.length → d ≤ k → pv p x y z C (pcl P i d) = pcl A i d
theorem cvK_val (hp : isP p = true) (he : isE3 p x y z = true) {P A : List (List Int)} {a b d k : Nat} {C : List Gt} (hC : AllOK p C) (hP : AllIn P k C) (hv : Vals p x y z k C P A) (ha : a < P.length) (hb : b < P.length) (hd : d ≤ k) : ∀ n, n ≤ d + 1 → pv p x y z (cvK P a b d C n).2 (cvK P a b d C n).1 = cvV p A a b d n ∧ Ext C (cvK P a b d C n).2
  | 0, _ => ⟨by show pv p x y z C (-1) = 0; rfl, Ext.refl C⟩
  | n + 1, hn => by
    obtain ⟨ih, ihx⟩ := cvK_val hp he hC hP hv ha hb hd n (by omega)
    have ho := cvK_ok hC hP ha hb hd n (by omega)
    have ia := (hP a n ha (by omega)).mono ho.lo
    have ib := (hP b (d - n) hb (by omega)).mono ho.lo
    have h1 := pdG_ok (a := pcl P a n) (b := pcl P b (d - n)) ho.ok ia ib
    obtain ⟨v1, x1⟩ := pdG_val (x := x) (y := y) (z := z) hp (a := pcl P a n) (b := pcl P b (d - n)) ho.ok ia ib
    obtain ⟨v2, x2⟩ := smG_val (x := x) (y := y) (z := z) hp he (a := (cvK P a b d C n).1) (b := (pdG (pcl P a n) (pcl P b (d - n)) (cvK P a b d C n).2).1) h1.ok (ho.pl.mono h1.lo) h1.pl
    refine ⟨?_, (ihx.trans x1).trans x2⟩
    show pv p x y z (smG _ _ _).2 (smG _ _ _).1 = (cvV p A a b d n + pcl A a n * pcl A b (d - n)) % p
    rw [v2, v1, x1.pv ho.pl.2, ih, ihx.pv (hP a n ha (by omega)).2, ihx.pv (hP b (d - n) hb (by omega)).2, hv a n ha (by omega), hv b (d - n) hb (by omega)]
    rw [Int.add_emod, Int.emod_emod_of_dvd _ (Int.dvd_refl p), ← Int.add_emod]
theorem ptG_val (hp : isP p = true) (he : isE3 p x y z = true) {P A : List (List Int)} {g : Gt} {d k : Nat} {C : List Gt} (hC : AllOK p C) (hP : AllIn P k C) (hv : Vals p x y z k C P A) (hg : gOK (p - 1) g (P.length : Nat) = true) (hd : d ≤ k) : pv p x y z (ptG P g d C).2 (ptG P g d C).1 = dvF p x y z A g d ∧ Ext C (ptG P g d C).2 := by
  have none : pv p x y z C (-1) = 0 := rfl
  have hc := gOK_cases hg
  unfold ptG dvF
  split
  · rename_i hk
    split
    · refine ⟨?_, shI_ext _ _⟩
      rw [shI_val hC (gOK_leaf hg (.inl hk)), if_pos hk]
    · exact ⟨none, Ext.refl C⟩
  · split
    · rename_i k0 hk
      by_cases h0 : d = 0
      · rw [if_pos h0]
        by_cases ha : g.a = 0
        · rw [if_neg (by simp [ha])]
          exact ⟨by rw [ha]; exact none, Ext.refl C⟩
        · rw [if_pos ⟨h0, ha⟩]
          refine ⟨?_, shI_ext _ _⟩
          rw [shI_val hC (gOK_leaf hg (.inr hk)), if_neg k0, if_neg (by omega), if_neg (by omega)]
      · rw [if_neg h0, if_neg (fun e => h0 e.1)]
        exact ⟨none, Ext.refl C⟩
    · rename_i k0 k1
      have hab : (0 ≤ g.a ∧ g.a < (P.length : Int)) ∧ (0 ≤ g.b ∧ g.b < (P.length : Int)) := by
        rcases hc with ⟨hk, _⟩ | ⟨hk, _⟩ | ⟨hk, h0, h1, h2, h3⟩
        · exact absurd hk k0
        · exact absurd hk k1
        · omega
      split
      · have h := smG_val hp he (a := pcl P g.a.toNat d) (b := pcl P g.b.toNat d) hC (hP _ d (by omega) hd) (hP _ d (by omega) hd)
        rw [h.1, hv _ d (by omega) hd, hv _ d (by omega) hd]
        exact ⟨rfl, h.2⟩
      · exact cvK_val hp he hC hP hv (by omega) (by omega) hd (d + 1) (Nat.le_refl _)
theorem ptR_val (hp : isP p = true) (he : isE3 p x y z = true) {P A : List (List Int)} {g : Gt} {k : Nat} {C : List Gt} (hC : AllOK p C) (hP : AllIn P k C) (hv : Vals p x y z k C P A) (hg : gOK (p - 1) g (P.length : Nat) = true) : ∀ n, n ≤ k + 1 → (∀ d, d < n → pv p x y z (ptR P g C n).2 ((ptR P g C n).1.getD d 0) = dvF p x y z A g d) ∧ Ext C (ptR P g C n).2
  | 0, _ => ⟨fun d hd => by omega, Ext.refl C⟩
  | n + 1, hn => by
    obtain ⟨ih, ihx⟩ := ptR_val hp he hC hP hv hg n (by omega)
    obtain ⟨h1, h2, h3, h4⟩ := ptR_ok hC hP hg n (by omega)
    have hv1 : Vals p x y z k (ptR P g C n).2 P A := fun i d hi hd => by rw [ihx.pv (hP i d hi hd).2]; exact hv i d hi hd
    obtain ⟨v, xx⟩ := ptG_val hp he (d := n) h1 (hP.mono h3) hv1 hg (by omega)
    refine ⟨fun d hd => ?_, ihx.trans xx⟩
    show pv p x y z (ptG _ _ _ _).2 (((ptR P g C n).1 ++ [_]).getD d 0) = _
    by_cases e : d = n
    · subst e
      rw [List.getD_eq_getElem?_getD, List.getElem?_append_right (by rw [ptR_len]; exact Nat.le_refl _), ptR_len, Nat.sub_self]
      exact v
    · rw [List.getD_eq_getElem?_getD, List.getElem?_append_left (by rw [ptR_len]; omega), ← List.getD_eq_getElem?_getD, xx.pv (h2 d (by omega)).2]
      exact ih d (by omega)
/-- the gates that are put have the values by degree -/
theorem ptC_val (hp : isP p = true) (he : isE3 p x y z = true) {k : Nat} {L : List Gt} (hL : ∀ j, j < L.length → gOK (p - 1) (gAt L j) (j : Nat) = true) (hk : k ≤ 9) : ∀ j, j ≤ L.length → Vals p x y z k (ptC k L j).1 (ptC k L j).2 (dvC p x y z k L j)
  | 0, _ => fun i d hi => absurd hi (Nat.not_lt_zero i)
  | j + 1, hj => by
    have ih := ptC_val hp he hL hk j (by omega)
    obtain ⟨h1, h2, h3⟩ := ptC_ok hL hk j (by omega)
    have hx := hL j (by omega)
    rw [show j = (ptC k L j).2.length from (ptC_len k L j).symm] at hx
    rw [show gAt L (ptC k L j).2.length = gAt L j by rw [ptC_len]] at hx
    obtain ⟨v, xx⟩ := ptR_val hp he h1 h2 ih hx (k + 1) (Nat.le_refl _)
    intro i d hi hd
    show pv p x y z (ptR _ _ _ _).2 (pcl ((ptC k L j).2 ++ [_]) i d) = pcl (dvC p x y z k L j ++ [_]) i d
    by_cases e : i < (ptC k L j).2.length
    · rw [pcl_old e, pcl_old (by rw [dvC_len, ← ptC_len k L j]; exact e), xx.pv (h2 i d e hd).2]
      exact ih i d e hd
    · have e2 : i = (ptC k L j).2.length := by
        have : i < ((ptC k L j).2 ++ [_]).length := hi
        simp at this
        omega
      subst e2
      rw [pcl_new, v d (by omega)]
      rw [show (ptC k L j).2.length = (dvC p x y z k L j).length by rw [ptC_len, dvC_len], pcl_new, List.getD_eq_getElem?_getD, List.getElem?_map, List.getElem?_range (show d < k + 1 by omega)]
      rfl
end
end Go.Proofs.Ytlidplmpglpkgaa
