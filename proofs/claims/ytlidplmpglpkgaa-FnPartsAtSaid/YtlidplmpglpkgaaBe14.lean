/-
  PartCircuit of the model. Conditions: none but that the slice reads as a list of gates.
  PartCircuit of the program. Conditions: none but that the slice reads as a list of gates.
  The program's values of all gates that were put, and PartsAt. Conditions: none but that the slice reads as a list of gates.
  PartsAt of the program. Conditions: none but that the slice reads as a list of gates.
  The rows of values of the model's PartsAt: bounds, and what the worlds hold. Conditions: none.
-/
import Derived.Test.YtlidplmpglpkgaaBe13
import Derived.Test.YtlidplmpglpkgaaBe4
import Derived.Test.YtlidplmpglpkgaaBe10
import Derived.Test.YtlidplmpglpkgaaBa20
import Derived.OwnWalk
namespace Go.Proofs.Ytlidplmpglpkgaa
open Go.RowKit
theorem gats_circ {p : Int} {w : World} {v : Value} {L : List Gt} (h : Gats w v L) (hv : circB p L = true) :
    ∃ g off cap, v = .slice (some ⟨g, off, none⟩) L.length cap ∧ g < w.heap.size ∧ ∀ j : Nat, j < L.length → GAt w g (off + j * 3) (L.getD j default) := by
  obtain ⟨_, a, cap, rfl, h2⟩ := h
  rcases h2 with rfl | ⟨g, off, rfl, hg, hc⟩
  · have := (circB_iff.1 hv).2.1; simp at this
  · exact ⟨g, off, cap, rfl, hg, hc⟩
theorem pm_at {w : World} {B pg pc i d : Nat} {P : List (List Int)} (h : w.ownsRow B 168 10 (.slice (some ⟨pg, 0, none⟩) P.length pc) P.length (flP P)) (hw : ∀ r ∈ P, r.length ≤ 10) (hi : i < P.length) (hd : d < 10) :
    w.cell? ⟨pg, i * 10 + d, none⟩ = some (.int .i64 (pcl P i d)) := by
  rw [World.ownsRow.cellAt h (i * 10 + d) (by omega)]
  exact flP_at hw i hi d hd
end Go.Proofs.Ytlidplmpglpkgaa
namespace Go.Proofs.Ytlidplmpglpkgaa
open Go.RowKit
theorem evL_val (p x y z : Int) (C : List Gt) (k : Nat) : evL p x y z C (k + 1) = evL p x y z C k ++ [vC p x y z C k] := by
  have hl := evL_len p x y z C k
  unfold vC
  show evL p x y z C k ++ [_] = evL p x y z C k ++ [(evL p x y z C k ++ [_]).getD k 0]
  congr 2
  rw [List.getD_eq_getElem?_getD, List.getElem?_append_right (by omega), hl, Nat.sub_self]
  rfl
/-- the value of a gate by the values of those before it -/
theorem iValAny (p x y z : Int) (hp : isP p = true) (he : isE3 p x y z = true) (C : List Gt) (hC : AllOK p C) (k : Nat) (hk : k < C.length) (hl : C.length ≤ 8000) (B : Nat) (v : Value) (wr : World) (hR : RowI wr B v (evL p x y z C k)) :
    ∀ w', Below wr.heap.size wr w' → Calls Try.prog 136 #[.agg #[.int .i64 (gAt C k).k, .int .i64 (gAt C k).a, .int .i64 (gAt C k).b], .int .i64 p, .agg #[.int .i64 x, .int .i64 y, .int .i64 z], v] w' fun e w'' => e = .returned (.int .i64 (vC p x y z C k)) ∧ Below w'.heap.size w' w'' := by
  intro w' hb
  have hlen := evL_len p x y z C k
  have hcs := gOK_cases (hC k hk)
  have hv := vC_eq p x y z (C := C) (m := k) rfl (gat_bd hC k hk)
  have hbd := gat_bd hC k hk
  generalize gAt C k = g at hcs hv hbd
  obtain ⟨xk, xa, xb⟩ := g
  simp only at hcs hv hbd
  obtain ⟨av, cv, hav⟩ := hR.form hlen
  rcases hcs with ⟨rfl, h0, h1, h2⟩ | ⟨rfl, h0, h1, h2⟩ | ⟨hkk, h0, h1, h2, h3⟩
  · rw [hv, if_pos rfl, hav]
    exact iVal0 p x y z xa xb (by omega) av k cv w'
  · rw [hv, if_neg (by decide), if_neg (by decide), if_neg (by decide), hav]
    exact iVal1 p x y z xa xb av k cv w'
  · obtain ⟨ja, rfl⟩ := Int.eq_ofNat_of_zero_le h0
    obtain ⟨jb, rfl⟩ := Int.eq_ofNat_of_zero_le h2
    have hja : ja < k := by omega
    have hjb : jb < k := by omega
    have b1 := vC_bd hp he hC ja (ja + 1) (by omega) (by omega)
    have b2 := vC_bd hp he hC jb (jb + 1) (by omega) (by omega)
    rcases hR.shape' hlen with ⟨_, h0⟩ | ⟨g2, cap2, rfl, hg0, hg2, hn2, hm2, hcell⟩
    · omega
    have d0 := hcell ja hja
    have d1 := hcell jb hjb
    rw [evL_getLt p x y z C ja k hja] at d0
    rw [evL_getLt p x y z C jb k hjb] at d1
    rw [← hb.cell (p := ⟨g2, ja, none⟩) hg2] at d0
    rw [← hb.cell (p := ⟨g2, jb, none⟩) hg2] at d1
    have hg3 : g2 < w'.heap.size := Nat.lt_of_lt_of_le hg2 hb.size
    rcases hkk with rfl | rfl
    · rw [hv, if_neg (by decide), if_pos rfl]
      exact iVal2 p x y z hp ja jb k hja hjb (by omega) g2 cap2 _ _ b1 b2 w' hg3 d0 d1
    · rw [hv, if_neg (by decide), if_neg (by decide), if_pos rfl]
      exact iVal3 p x y z hp ja jb k hja hjb (by omega) g2 cap2 _ _ b1 b2 w' hg3 d0 d1
set_option maxRecDepth 100000 in
set_option maxHeartbeats 8000000 in
theorem iValuesAt (p x y z : Int) (hp : isP p = true) (he : isE3 p x y z = true) (G B : Nat) (v : Value) (C : List Gt) (w : World) (hl : C.length ≤ 8000) (hC : AllOK p C) (hG : G < w.heap.size) (h0 : w.cell? ⟨G, 0, none⟩ = some v) (h1 : w.cell? ⟨G, 1, none⟩ = some (.int .i64 p)) (hO : OwnGats w B v C) :
    Calls Try.prog 154 #[.pointer (some ⟨G, 0, none⟩), .agg #[.int .i64 x, .int .i64 y, .int .i64 z]] w fun e w' => ∃ u, e = .returned u ∧ RowI w' w.heap.size u (evL p x y z C C.length) ∧ Below w.heap.size w w' := by
  obtain ⟨i0, hi, hz0, hz1, hz2⟩ := info_parts infoInt
  obtain ⟨_, a, cap, rfl, hsh⟩ := hO
  obtain ⟨W, hW⟩ : ∃ W, W = w.alloc (Obj.cells #[.int .i64 x, .int .i64 y, .int .i64 z] 33) := ⟨_, rfl⟩
  have hPt : PtAt W w.heap.size x y z := by rw [hW]; refine ⟨?_, ?_, ?_⟩ <;> simp [go_sem]
  have bW : Below w.heap.size w W := by rw [hW]; exact Below.alloc (Below.refl _ _) (Nat.le_refl _) _
  have hsW : w.heap.size < W.heap.size := by rw [hW]; simp
  have HS := Lib.hid (fun w' (hb : Below W.heap.size W w') => show (w'.cell? ⟨G, 0, none⟩ = some (.slice a C.length cap) ∧ w'.cell? ⟨G, 1, none⟩ = some (.int .i64 p)) ∧ PtAt w' w.heap.size x y z ∧ Below w.heap.size w w' from
    ⟨⟨by rw [hb.cell (p := ⟨G, 0, none⟩) (show G < W.heap.size by omega), bW.cell (p := ⟨G, 0, none⟩) hG]; exact h0, by rw [hb.cell (p := ⟨G, 1, none⟩) (show G < W.heap.size by omega), bW.cell (p := ⟨G, 1, none⟩) hG]; exact h1⟩, hPt.below hb hsW, bW.trans (hb.mono (by omega))⟩)
  have HG := Lib.hid (fun j (hj : j < C.length) => show ∃ g off, a = some ⟨g, off, none⟩ ∧ ∀ w', Below W.heap.size W w' → GAt w' g (off + j * 3) (C.getD j default) by
    rcases hsh with h | ⟨g, off, e, _, hgl, hcc, _⟩
    · rw [h] at hj; simp at hj
    · exact ⟨g, off, e, fun w' hb => ((hcc j hj).below bW hgl).below hb (by omega)⟩)
  have HVA := Lib.hid (fun k hk v wr hR => iValAny p x y z hp he C hC k hk hl W.heap.size v wr hR)
  have HW := Lib.hid hW
  have hi0 := h0
  clear hW bW hPt hsh hp he hC h0 hi0
  go_enter Try.func154, Try.ntmps154
  have e0 := (HS.out W (Below.refl _ _)).1.1
  rw [HW.out] at e0
  go_wp2_with fail
  rw [← HW.out]
  clear e0 h1
  have HB0 := Lib.hid (Below.refl W.heap.size W)
  go_loopw [5, 15] (fun u i wr => ∃ k : Nat, k ≤ C.length ∧ i = .int .i64 k ∧ RowI wr W.heap.size u (evL p x y z C k) ∧ Below W.heap.size W wr) (fun _ i _ => C.length - (intOf i).toNat)
  case atStart => exact ⟨0, by omega, rfl, RowI.nil _ _, Below.refl _ _⟩
  case round =>
    clear HB0
    obtain ⟨k, hk, rfl, hR, hb⟩ := hrel
    have hk0 : (0 : Int) ≤ (k : Int) := by omega
    have hlen := evL_len p x y z C k
    by_cases hlt : k < C.length
    · have hltp : (k : Int) < (C.length : Int) := by omega
      obtain ⟨g, off, rfl, hcell⟩ := HG.out k hlt
      obtain ⟨a0, a1, a2⟩ := hcell wr hb
      have HV := Lib.hid (HVA.out k hlt u5 wr hR)
      obtain ⟨gt, hgt⟩ : ∃ q, q = gAt C k := ⟨_, rfl⟩
      rw [← hgt] at HV
      rw [show C.getD k default = gt from hgt.symm] at a0 a1 a2
      obtain ⟨m, hm⟩ : ∃ m, m = vC p x y z C k := ⟨_, rfl⟩
      rw [← hm] at HV
      have HE := Lib.hid (show evL p x y z C (k + 1) = evL p x y z C k ++ [m] by rw [evL_val, hm])
      have HR := Lib.hid hR
      have Hb := Lib.hid hb
      have hsz := hb.size
      have HC := Lib.hid hcell
      clear hgt hm hR hb hcell
      go_wp2_with fail
      obtain ⟨W1, hW1⟩ : ∃ W, W = wr.alloc (Obj.cells #[.int .i64 gt.k, .int .i64 gt.a, .int .i64 gt.b] 137) := ⟨_, rfl⟩
      have b1 : Below wr.heap.size wr W1 := by rw [hW1]; exact Below.alloc (Below.refl _ _) (Nat.le_refl _) _
      have t0 : W1.cell? ⟨wr.heap.size, 0, none⟩ = some (.int .i64 gt.k) ∧ W1.cell? ⟨wr.heap.size, 1, none⟩ = some (.int .i64 gt.a) ∧ W1.cell? ⟨wr.heap.size, 2, none⟩ = some (.int .i64 gt.b) ∧ wr.heap.size < W1.heap.size := by rw [hW1]; refine ⟨?_, ?_, ?_, ?_⟩ <;> simp [go_sem]
      rw [← hW1]
      clear hW1
      have HF := Lib.hid (fun w' (h : Below W1.heap.size W1 w') => show (w'.cell? ⟨wr.heap.size, 0, none⟩ = some (.int .i64 gt.k) ∧ w'.cell? ⟨wr.heap.size, 1, none⟩ = some (.int .i64 gt.a) ∧ w'.cell? ⟨wr.heap.size, 2, none⟩ = some (.int .i64 gt.b) ∧ w'.cell? ⟨G, 1, none⟩ = some (.int .i64 p) ∧ w'.cell? ⟨w.heap.size, 0, none⟩ = some (.int .i64 x) ∧ w'.cell? ⟨w.heap.size, 1, none⟩ = some (.int .i64 y) ∧ w'.cell? ⟨w.heap.size, 2, none⟩ = some (.int .i64 z)) ∧ Below wr.heap.size wr w' by
        have hbb : Below wr.heap.size wr w' := b1.trans (h.mono b1.size)
        have hs := HS.out w' (Hb.out.trans (hbb.mono hsz))
        obtain ⟨p0, p1, p2⟩ := hs.2.1
        exact ⟨⟨by rw [h.cell (p := ⟨wr.heap.size, 0, none⟩) t0.2.2.2]; exact t0.1, by rw [h.cell (p := ⟨wr.heap.size, 1, none⟩) t0.2.2.2]; exact t0.2.1, by rw [h.cell (p := ⟨wr.heap.size, 2, none⟩) t0.2.2.2]; exact t0.2.2.1, hs.1.2, p0, p1, p2⟩, hbb⟩)
      clear t0 a0 a1 a2 b1
      obtain ⟨n, hn⟩ : ∃ n, n = wr.heap.size := ⟨_, rfl⟩
      have HN := Lib.hid hn
      rw [← hn] at HF ⊢
      clear hn
      refine wp_region_seq [(0, true), (1, true), (2, true), (3, true), (4, true), (5, true), (6, true), (7, true), (8, true), (9, true), (10, false), (11, false), (12, false)] (fun w' => w'.cell? ⟨n, 0, none⟩ = some (.int .i64 gt.k) ∧ w'.cell? ⟨n, 1, none⟩ = some (.int .i64 gt.a) ∧ w'.cell? ⟨n, 2, none⟩ = some (.int .i64 gt.b) ∧ w'.cell? ⟨G, 1, none⟩ = some (.int .i64 p) ∧ w'.cell? ⟨w.heap.size, 0, none⟩ = some (.int .i64 x) ∧ w'.cell? ⟨w.heap.size, 1, none⟩ = some (.int .i64 y) ∧ w'.cell? ⟨w.heap.size, 2, none⟩ = some (.int .i64 z)) (by kernel_rfl) (by kernel_rfl) rfl (by intro c a d v w h; cases d <;> exact h) (HF.out _ (Below.drew (Below.refl _ _))).1 ?_
      iterate 10 (refine wpSeq_take (v := ?_) (List.getElem?_toArray.trans rfl) ?_ ?_; rotate_left; (intro w' hSw; (try dsimp only at hSw); go_simp; (try with_reducible rfl)); (try simp only [Act.put, List.setIfInBounds_toArray, List.set_cons_zero, List.set_cons_succ]))
      refine wpSeq_do (List.getElem?_toArray.trans rfl) (fun K hK => ?_)
      go_simp
      have hdr : Below W1.heap.size W1 W1.drew := Below.drew (Below.refl _ _)
      refine (HV.out _ (HN.out ▸ (HF.out _ hdr).2)).mono ?_
      rintro e w5 ⟨rfl, hb5⟩
      have HB5 := Lib.hid (show Below W1.heap.size W1 w5 from hdr.trans (hb5.mono (by simp)))
      refine hK _ _ (HF.out _ HB5.out).1 ?_
      clear hK K hb5
      refine wpSeq_do (List.getElem?_toArray.trans rfl) (fun K hK => ?_)
      go_simp
      have HB6 := Lib.hid (show Below W1.heap.size W1 (w5.alloc (Obj.cells #[.int .i64 m] 3)) from Below.alloc HB5.out HB5.out.size _)
      refine hK _ _ (HF.out _ HB6.out).1 ?_
      clear hK K
      refine wpSeq_do (List.getElem?_toArray.trans rfl) (fun K hK => ?_)
      have hr6 := HR.out.below (HN.out ▸ (HF.out _ HB6.out).2)
      have hz5 := HB5.out.size
      refine wp_append_lies _ _ _ 61 rfl W.heap.size 3 i0 (.int .i64 0) 1 8 Try.underlying61 hi hz0 hz1 hz2 rfl (by decide) _ _ _ rfl hr6 ⟨w5.heap.size, 0, none⟩ 1 1 [.int .i64 m] rfl rfl (by intro j u hj; match j, hj with | 0, hj => (simp at hj; subst hj; simp [Addr.add, go_sem])) (by intro u hu; simp at hu; subst hu; rfl) (by omega) (by unfold maxLen; omega) (by omega) (by have := (HF.out _ HB6.out).2.size; omega) _ rfl ?_
      intro g8 c8 w8 hown8 hgrow8 hat8 hlt8
      have hR8 : RowI w8 W.heap.size (.slice (some ⟨g8, 0, none⟩) (k + 1) c8) (evL p x y z C (k + 1)) := by
        rw [HE.out]
        have := RowI.snoc (L := evL p x y z C k) hown8
        rwa [hlen] at this
      have hb8 : Below W.heap.size W w8 := (Hb.out.trans ((HN.out ▸ (HF.out _ HB6.out).2 : Below wr.heap.size wr _).mono hsz)).trans (RowI.low hr6 (by have := (HF.out _ HB6.out).2.size; omega) hgrow8)
      have H8 := Lib.hid (And.intro hR8 hb8)
      have hrl : ∀ b, u5.ownBlock = some b → W.heap.size ≤ b ∧ b < n := fun b hq => by
        have := World.ownsRow.lt HR.out b hq
        rw [← HN.out] at this
        exact this
      have hGW : G < W.heap.size := by omega
      have hnb : n < (w5.alloc (Obj.cells #[.int .i64 m] 3)).heap.size := by have := (HF.out _ HB6.out).1.1; exact World.block_lt_of_cell? _ ⟨n, 0, none⟩ this
      have hWn : W.heap.size ≤ n := by rw [HN.out]; exact hsz
      have hs8 : ∀ b, b < (w5.alloc (Obj.cells #[.int .i64 m] 3)).heap.size → u5.ownBlock ≠ some b → w8.heap[b]? = (w5.alloc (Obj.cells #[.int .i64 m] 3)).heap[b]? := fun b hb hne => hgrow8.block b hb (fun e => hne e.symm)
      have sn := hs8 n hnb (fun e => by have := hrl n e; omega)
      have sG := hs8 G (by omega) (fun e => by have := hrl G e; omega)
      have sp := hs8 w.heap.size (by omega) (fun e => by have := hrl _ e; omega)
      obtain ⟨q0, q1, q2, q3, q4, q5, q6⟩ := (HF.out _ HB6.out).1
      refine hK _ _ ⟨kpCell q0 sn, kpCell q1 sn, kpCell q2 sn, kpCell q3 sG, kpCell q4 sp, kpCell q5 sp, kpCell q6 sp⟩ ?_
      clear hK K hown8 hgrow8 hat8 hlt8 hR8 hb8 hs8 sn sG sp q0 q1 q2 q3 q4 q5 q6 hrl hr6
      refine wpSeq_nil ?_
      simp only [Exit.then]
      go_wp2_with fail
      go_roundw
      case rel => exact ⟨k + 1, by omega, by go_num, by have := H8.out.1; simpa [hlen] using this, H8.out.2⟩
      case measure => simp [intOf]; omega
    · have hkl : k = C.length := by omega
      subst hkl
      have HR := Lib.hid hR
      have Hb := Lib.hid hb
      have hsz := (HS.out W (Below.refl _ _)).2.2.size
      have hW2 := HS.out wr hb
      clear hR hb
      go_wp2_with fail
      go_ret
      exact ⟨_, rfl, HR.out.mono hsz, hW2.2.2⟩
end Go.Proofs.Ytlidplmpglpkgaa
namespace Go.Proofs.Ytlidplmpglpkgaa
open Go.RowKit
/-- the values of the parts up to the degree k of a circuit -/
def paL (p x y z : Int) (k : Nat) (L : List Gt) : List Int := (dvC p x y z k L L.length).getD (L.length - 1) []
def paV (p kk x y z : Int) (L : List Gt) : List Int := if ((circB p L && inB kk 0 9) && isE3 p x y z) = true then paL p x y z kk.toNat L else []
theorem dvC_row {p x y z : Int} {k : Nat} {L : List Gt} : ∀ j i, i < j → ((dvC p x y z k L j).getD i []).length = k + 1
  | 0, _, h => by omega
  | j + 1, i, h => by
    have hl := dvC_len p x y z k L j
    show ((dvC p x y z k L j ++ [_]).getD i []).length = k + 1
    by_cases e : i < j
    · rw [List.getD_eq_getElem?_getD, List.getElem?_append_left (by omega), ← List.getD_eq_getElem?_getD]
      exact dvC_row j i e
    · have : i = (dvC p x y z k L j).length := by omega
      subst this
      rw [List.getD_eq_getElem?_getD, List.getElem?_append_right (Nat.le_refl _), Nat.sub_self]
      simp
theorem made0 (n j : Nat) (h : j < n) : (madeCells #[Value.int .i64 0] n).toList[j]? = some (.int .i64 0) := by
  simp [madeCells, h, Nat.mod_one]
/-- a slice of zeros -/
theorem arW_made {w : World} {B H n : Nat} (h : w.ownsRow B 3 1 (.slice (some ⟨H, 0, none⟩) n n) n (madeCells #[Value.int .i64 0] n).toList) : ArW w H (List.replicate n 0) := by
  refine ⟨(h.lt _ rfl).2, fun j hj => ?_, fun j _ => h.frozenAt j⟩
  have hj : j < n := by simpa using hj
  rw [h.cellAt j (by omega), made0 n j hj]
  simp [List.getD_eq_getElem?_getD, hj]
/-- the results so far -/
def resL (l : List Int) (d : Nat) : List Int := l.take d ++ List.replicate (l.length - d) 0
theorem resL_len {l : List Int} {d : Nat} (h : d ≤ l.length) : (resL l d).length = l.length := by
  unfold resL
  rw [List.length_append, List.length_take, List.length_replicate]
  omega
theorem resL_zero (l : List Int) : resL l 0 = List.replicate l.length 0 := by simp [resL]
theorem resL_end (l : List Int) : resL l l.length = l := by simp [resL]
theorem resL_set {l : List Int} {d : Nat} (h : d < l.length) : (resL l d).set d (l.getD d 0) = resL l (d + 1) := by
  have e : (l.take d).length = d := by simp; omega
  unfold resL
  rw [List.set_append_right _ _ (by omega), e, Nat.sub_self, show l.length - d = (l.length - (d + 1)) + 1 by omega, List.replicate_succ, List.set_cons_zero, List.take_succ_eq_append_getElem h, List.append_assoc]
  simp [List.getD_eq_getElem?_getD, h]
theorem resL_skip {l : List Int} {d : Nat} (h : d < l.length) (h0 : l.getD d 0 = 0) : resL l d = resL l (d + 1) := by
  have hx := resL_set h
  rw [h0] at hx
  rw [← hx]
  have e : (l.take d).length = d := by simp; omega
  unfold resL
  rw [List.set_append_right _ _ (by omega), e, Nat.sub_self, show l.length - d = (l.length - (d + 1)) + 1 by omega, List.replicate_succ, List.set_cons_zero]
set_option maxRecDepth 100000 in
set_option maxHeartbeats 4000000 in
theorem iParts_not (p kk x y z : Int) (f : Value) (L : List Gt) (w : World) (h : Gats w f L) (hn : (circB p L && inB kk 0 9) = false) :
    Calls Try.prog 59 #[.int .i64 p, f, .int .i64 kk, .agg #[.int .i64 x, .int .i64 y, .int .i64 z]] w fun e w' => ∃ u, e = .returned u ∧ OwnInts w' w.heap.size u [] ∧ Below w.heap.size w w' := by
  have bW : Below w.heap.size w (w.alloc (Obj.cells #[.int .i64 x, .int .i64 y, .int .i64 z] 33)) := Below.alloc (Below.refl _ _) (Nat.le_refl _) _
  have HP := Lib.hid (iPartsOf_no p kk f L _ (h.below bW) hn)
  have HB0 := Lib.hid bW
  obtain ⟨_, a, cap, rfl, _⟩ := h
  clear hn bW
  go_enter Try.func59, Try.ntmps59
  go_wp2_with fail
  refine HP.out.mono ?_
  rintro e w1 ⟨rfl, hb⟩
  have HB := Lib.hid (HB0.out.trans (hb.mono HB0.out.size))
  clear hb
  go_wp2_with fail
  go_ret
  exact ⟨_, rfl, (RowI.nil _ w.heap.size).own (by simp), Below.alloc HB.out HB.out.size _⟩
set_option maxRecDepth 100000 in
set_option maxHeartbeats 8000000 in
theorem iParts_yes (p x y z : Int) (k : Nat) (f : Value) (L : List Gt) (w : World) (h : Gats w f L) (hv : circB p L = true) (hk : k ≤ 9) (R : List Int) (hR : R = paV p k x y z L) :
    Calls Try.prog 59 #[.int .i64 p, f, .int .i64 (k : Int), .agg #[.int .i64 x, .int .i64 y, .int .i64 z]] w fun e w' => ∃ u, e = .returned u ∧ (OwnInts w' w.heap.size u R ∧ ∃ a c, u = .slice a R.length c ∧ R.length ≤ c) ∧ Below w.heap.size w w' := by
  obtain ⟨i0, hi, hz0, hz1, hz2⟩ := info_parts infoInt
  have hib : inB (k : Int) 0 9 = true := by simp [inB]; omega
  obtain ⟨hp, hl1, hl2, hall⟩ := circB_iff.1 hv
  obtain ⟨W, hW⟩ : ∃ W, W = w.alloc (Obj.cells #[.int .i64 x, .int .i64 y, .int .i64 z] 33) := ⟨_, rfl⟩
  have hPt : PtAt W w.heap.size x y z := by rw [hW]; refine ⟨?_, ?_, ?_⟩ <;> simp [go_sem]
  have bW : Below w.heap.size w W := by rw [hW]; exact Below.alloc (Below.refl _ _) (Nat.le_refl _) _
  have hsW : w.heap.size < W.heap.size := by rw [hW]; simp
  have HP := Lib.hid (iPartsOf_yes p k f L W (h.below bW) hv hk)
  have hpo := ptC_ok (p := p) (k := k) (L := L) hall hk L.length (Nat.le_refl _)
  have hplen := ptC_len k L L.length
  obtain ⟨q, hq⟩ : ∃ q, L.length = q + 1 := ⟨L.length - 1, by omega⟩
  have hq1 : (L.length : Int) - 1 = (q : Int) := by omega
  have HRV := Lib.hid (fun (he : isE3 p x y z = true) => show R = paL p x y z k L by rw [hR]; unfold paV; rw [hv, hib, he]; rfl)
  have HRN := Lib.hid (fun (he : isE3 p x y z = false) => show R = [] by rw [hR]; unfold paV; rw [he, Bool.and_false]; rfl)
  have HVAL := Lib.hid (fun (he : isE3 p x y z = true) => ptC_val (p := p) (x := x) (y := y) (z := z) hp he hall hk L.length (Nat.le_refl _))
  have HLEN := Lib.hid (show (paL p x y z k L).length = k + 1 from dvC_row _ _ (by omega))
  have HPAL := Lib.hid (fun d => show (paL p x y z k L).getD d 0 = pcl (dvC p x y z k L L.length) q d by unfold paL pcl; rw [show L.length - 1 = q by omega])
  obtain ⟨C, hC⟩ : ∃ C, C = (ptC k L L.length).1 := ⟨_, rfl⟩
  obtain ⟨P, hPe⟩ : ∃ P, P = (ptC k L L.length).2 := ⟨_, rfl⟩
  rw [← hC] at hpo
  rw [← hPe] at hpo hplen
  rw [← hC, ← hPe] at HP HVAL
  have hCl : C.length ≤ 6600 := by have := hpo.2.2; omega
  have hqP : q < P.length := by omega
  have hPl : (P.length : Int) ≤ 60 := by omega
  have hqi : (q : Int) < (P.length : Int) := by omega
  have hq0 : (0 : Int) ≤ (q : Int) := by omega
  have hk0 : (0 : Int) ≤ (k : Int) := by omega
  have hk10 : (k : Int) < 10 := by omega
  have hkw : IntKind.i64.wrap ((k : Int) + 1) = (k : Int) + 1 := IntWalk.i64_in _ (by omega)
  have HPO := Lib.hid hpo
  have HPR := Lib.hid hp
  obtain ⟨_, a, cap, rfl, _⟩ := h
  obtain ⟨nL, hnL⟩ : ∃ n, n = L.length := ⟨_, rfl⟩
  have HL := Lib.hid (fun w => iLast a nL cap q (by omega) (by rw [hnL]; exact hq1) w)
  rw [← hnL] at HP ⊢
  have HW := Lib.hid hW
  have HBW := Lib.hid bW
  have HPT := Lib.hid hPt
  clear hv hib hR hall hp hq hq1 hpo hplen hC hPe hnL hW bW hPt
  go_enter Try.func59, Try.ntmps59
  go_wp2_with fail
  rw [← HW.out]
  refine HP.out.mono ?_
  rintro e w1 ⟨M, v, pv, rfl, hrow, hrow2, hwd, hb⟩
  obtain ⟨pg, pc, rfl, hpgB, hpgl⟩ := World.ownsRow.form hrow2 (by omega)
  have hO := hrow.own (by omega)
  obtain ⟨_, av, kv, rfl, _⟩ := id hO
  have hs1 := hb.size
  have HRD := Lib.hid (fun d (hd : d < 10) w' (hb : Below w1.heap.size w1 w') => show w'.cell? ⟨pg, q * 10 + d, none⟩ = some (.int .i64 (pcl P q d)) by
    rw [hb.cell (p := ⟨pg, q * 10 + d, none⟩) hpgl]; exact pm_at hrow2 hwd hqP hd)
  have Hb := Lib.hid (HBW.out.trans (hb.mono HBW.out.size))
  have HPT1 := Lib.hid (HPT.out.below hb hsW)
  have hsw1 : w.heap.size < w1.heap.size := by omega
  have HO := Lib.hid hO
  clear hrow hrow2 hwd hb hO
  obtain ⟨W2, hW2⟩ : ∃ W, W = w1.alloc (Obj.cells #[.slice av C.length kv, .int .i64 p, .map (some M), .slice (some ⟨pg, 0, none⟩) P.length pc] 165) := ⟨_, rfl⟩
  have bW2 : Below w1.heap.size w1 W2 := by rw [hW2]; exact Below.alloc (Below.refl _ _) (Nat.le_refl _) _
  have hWs : w1.heap.size < W2.heap.size := by rw [hW2]; simp
  have e0 : W2.cell? ⟨w1.heap.size, 0, none⟩ = some (.slice av C.length kv) := by rw [hW2]; simp [go_sem]
  have e1 : W2.cell? ⟨w1.heap.size, 1, none⟩ = some (.int .i64 p) := by rw [hW2]; simp [go_sem]
  have e3 : W2.cell? ⟨w1.heap.size, 3, none⟩ = some (.slice (some ⟨pg, 0, none⟩) P.length pc) := by rw [hW2]; simp [go_sem]
  have HS := Lib.hid (fun w' (hb : Below W2.heap.size W2 w') => show (w'.cell? ⟨w1.heap.size, 0, none⟩ = some (.slice av C.length kv) ∧ w'.cell? ⟨w1.heap.size, 1, none⟩ = some (.int .i64 p) ∧ w'.cell? ⟨w1.heap.size, 3, none⟩ = some (.slice (some ⟨pg, 0, none⟩) P.length pc)) ∧ Below w1.heap.size w1 w' from
    ⟨⟨by rw [hb.cell (p := ⟨w1.heap.size, 0, none⟩) hWs]; exact e0, by rw [hb.cell (p := ⟨w1.heap.size, 1, none⟩) hWs]; exact e1, by rw [hb.cell (p := ⟨w1.heap.size, 3, none⟩) hWs]; exact e3⟩, bW2.trans (hb.mono (by omega))⟩)
  have HPT2 := Lib.hid (HPT1.out.below bW2 hsw1)
  have HW2 := Lib.hid hW2
  obtain ⟨q0, q1, q2⟩ := HPT2.out
  clear hW2 bW2 e0 e1 e3
  cases he : isE3 p x y z
  · have HEL := Lib.hid (fun (b : Nat) (w : World) (h : PtAt w b x y z) => iAE3 false p x y z HPR.out he b w h)
    have HRE := Lib.hid (HRN.out he)
    clear he
    go_wp2_with fail
    rw [← HW2.out]
    refine (HEL.out _ _ HPT2.out).mono ?_
    rintro e w3 ⟨rfl, rfl⟩
    go_wp2_with fail
    go_ret
    rw [HRE.out]
    exact ⟨_, rfl, ⟨(RowI.nil _ w.heap.size).own (by simp), _, _, rfl, Nat.zero_le _⟩, Hb.out.trans ((HS.out _ (Below.refl _ _)).2.mono Hb.out.size)⟩
  · have HEL := Lib.hid (fun (b : Nat) (w : World) (h : PtAt w b x y z) => iAE3 true p x y z HPR.out he b w h)
    have HRE := Lib.hid (HRV.out he)
    have HVA := Lib.hid (HVAL.out he)
    have HVV := Lib.hid (iValuesAt p x y z HPR.out he w1.heap.size W.heap.size (.slice av C.length kv) C W2 (by omega) HPO.out.1 hWs (HS.out _ (Below.refl _ _)).1.1 (HS.out _ (Below.refl _ _)).1.2.1 (HO.out.below (HS.out _ (Below.refl _ _)).2))
    have HEE := Lib.hid he
    clear he
    go_wp2_with fail
    rw [← HW2.out]
    refine (HEL.out _ _ HPT2.out).mono ?_
    rintro e w3 ⟨rfl, rfl⟩
    go_wp2_with fail
    refine HVV.out.mono ?_
    rintro e w4 ⟨u4, rfl, hR4, hb4⟩
    obtain ⟨au, cu, rfl⟩ := hR4.form (evL_len p x y z C C.length)
    have HGV := Lib.hid (fun (j : Nat) (hj : j < C.length) => show ∃ gv, au = some ⟨gv, 0, none⟩ ∧ gv < w4.heap.size ∧ w4.cell? ⟨gv, j, none⟩ = some (.int .i64 (vC p x y z C j)) by
      rcases hR4.shape' (evL_len p x y z C C.length) with ⟨_, h0⟩ | ⟨g2, cap2, e, hg0, hg2, hn2, hm2, hcell⟩
      · omega
      · injection e with e
        exact ⟨g2, e, hg2, by rw [hcell j hj, evL_getLt p x y z C j C.length hj]⟩)
    have HB4 := Lib.hid (show Below w1.heap.size w1 w4 from (HS.out _ (Below.refl _ _)).2.trans (hb4.mono (by omega)))
    have HS4 := Lib.hid (fun w' (hb : Below w4.heap.size w4 w') => HS.out w' (hb4.trans (hb.mono hb4.size)))
    have hs4 : w1.heap.size ≤ w4.heap.size := HB4.out.size
    clear hR4 hb4 q0 q1 q2
    go_wp2_with (at_make; refine wpList_make_full _ rfl _ _ 61 rfl w4.heap.size 3 i0 (.int .i64 0) 1 Try.underlying61 hi hz0 hz1 .i64 .i64 ((k : Int) + 1) ((k : Int) + 1) (k + 1) rfl rfl (by omega) (by omega) ?c2 ?c3 ?c4 ?_)
    case c2 => rw [hz2]; omega
    case c3 => unfold maxLen; omega
    case c4 => exact Nat.le_refl _
    intro w5 hown hgr
    have hb5 : Below w4.heap.size w4 w5 := (Below.refl _ _).grown hgr (Nat.le_refl _) (fun k hk => by cases hk)
    obtain ⟨rl, hrl⟩ : ∃ rl, rl = paL p x y z k L := ⟨_, rfl⟩
    have hlen := HLEN.out
    rw [← hrl] at hlen
    have har : ArW w5 w4.heap.size (resL rl 0) := by rw [resL_zero, hlen]; exact arW_made hown
    have HRL := Lib.hid (fun d => show rl.getD d 0 = pcl (dvC p x y z k L L.length) q d by rw [hrl]; exact HPAL.out d)
    have HRR := Lib.hid (show R = rl by rw [HRE.out, hrl])
    have HA0 := Lib.hid (And.intro har hb5)
    obtain ⟨m, hm⟩ : ∃ m, m = w4.heap.size := ⟨_, rfl⟩
    have HM := Lib.hid hm
    rw [← hm] at HA0 ⊢
    clear hown hgr hb5 har hrl hm
    go_wp2_with fail
    go_loopw [37] (fun i wr => ∃ d : Nat, d ≤ k + 1 ∧ i = .int .i64 d ∧ ArW wr m (resL rl d) ∧ Below m w4 wr) (fun i _ => k + 1 - (intOf i).toNat)
    case atStart => exact ⟨0, by omega, rfl, HA0.out⟩
    case round =>
      clear HA0
      obtain ⟨d, hd, rfl, har, hb⟩ := hrel
      have hd0 : (0 : Int) ≤ (d : Int) := by omega
      by_cases hlt : d < k + 1
      · have hltp : (d : Int) < (k : Int) + 1 := by omega
        have hd10 : (d : Int) < 10 := by omega
        have hbm : Below w4.heap.size w4 wr := HM.out ▸ hb
        obtain ⟨⟨s0, s1, s3⟩, sb⟩ := HS4.out wr hbm
        obtain ⟨pl, hpl⟩ : ∃ n, n = pcl P q d := ⟨_, rfl⟩
        have rp := HRD.out d (by omega) wr sb
        rw [← hpl] at rp
        have hin := HPO.out.2.1 q d hqP (by omega)
        rw [← hpl] at hin
        have hval : pv p x y z C pl = rl.getD d 0 := by rw [HRL.out, hpl]; exact HVA.out q d hqP (by omega)
        have HAR := Lib.hid har
        have Hbm := Lib.hid hbm
        have Hb := Lib.hid hb
        have HSr := Lib.hid (fun w' (h : Below wr.heap.size wr w') => show w'.cell? ⟨w1.heap.size, 3, none⟩ = some (.slice (some ⟨pg, 0, none⟩) P.length pc) ∧ w'.cell? ⟨pg, q * 10 + d, none⟩ = some (.int .i64 pl) by
          have hbb : Below w4.heap.size w4 w' := hbm.trans (h.mono hbm.size)
          have hh := HS4.out w' hbb
          exact ⟨hh.1.2.2, by rw [hpl]; exact HRD.out d (by omega) w' hh.2⟩)
        have HVL := Lib.hid hval
        have HPL := Lib.hid hpl
        clear har hb hbm sb s0 s1 s3 rp hval hpl
        go_wp2_with fail
        refine wp_region_seq [(0, true), (1, true), (2, true), (4, true), (3, false), (5, true), (6, true), (7, true)] (fun w' => w'.cell? ⟨w1.heap.size, 3, none⟩ = some (.slice (some ⟨pg, 0, none⟩) P.length pc) ∧ w'.cell? ⟨pg, q * 10 + d, none⟩ = some (.int .i64 pl)) (by kernel_rfl) (by kernel_rfl) rfl (by intro c a d v w h; cases d <;> exact h) (HSr.out _ (Below.drew (Below.refl _ _))) ?_
        iterate 4 (refine wpSeq_take (v := ?_) (List.getElem?_toArray.trans rfl) ?_ ?_; rotate_left; (intro w' hSw; (try dsimp only at hSw); go_simp; (try with_reducible rfl)); (try simp only [Act.put, List.setIfInBounds_toArray, List.set_cons_zero, List.set_cons_succ]))
        refine wpSeq_do (List.getElem?_toArray.trans rfl) (fun K hK => ?_)
        go_simp
        refine (HL.out _).mono ?_
        rintro e w6 ⟨rfl, rfl⟩
        refine hK _ _ (HSr.out _ (Below.drew (Below.refl _ _))) ?_
        clear hK K
        iterate 3 (refine wpSeq_take (v := ?_) (List.getElem?_toArray.trans rfl) ?_ ?_; rotate_left; (intro w' hSw; (try dsimp only at hSw); go_simp; (try with_reducible rfl)); (try simp only [Act.put, List.setIfInBounds_toArray, List.set_cons_zero, List.set_cons_succ]))
        refine wpSeq_nil ?_
        simp only [Exit.then]
        have hdr : Below wr.heap.size wr wr.drew := Below.drew (Below.refl _ _)
        have HAd := Lib.hid (HAR.out.below hdr)
        have Hbd := Lib.hid (show Below m w4 wr.drew from Hb.out.trans (hdr.mono (by have := Hbm.out.size; rw [HM.out]; exact this)))
        obtain ⟨w7, hw7⟩ : ∃ z, z = wr.drew := ⟨_, rfl⟩
        rw [← hw7] at HAd Hbd ⊢
        clear hw7 hdr HSr HAR Hbm Hb
        by_cases hneg : pl = -1
        · have hz : rl.getD d 0 = 0 := by rw [← HVL.out, hneg]; rfl
          have HA2 := Lib.hid (show ArW w7 m (resL rl (d + 1)) by rw [← resL_skip (by omega) hz]; exact HAd.out)
          have hb9 : (pl != -1) = false := by simp [hneg]
          clear hz
          go_wp2_with fail
          go_roundw
          case rel => exact ⟨d + 1, by omega, by go_num, HA2.out, Hbd.out⟩
          case measure => simp [intOf]; omega
        · obtain ⟨n, rfl⟩ := Int.eq_ofNat_of_zero_le (show 0 ≤ pl by have := hin.1; omega)
          have hnC : n < C.length := by have := hin.2; omega
          obtain ⟨gv, rfl, hgl, hgc⟩ := HGV.out n hnC
          have hgc7 : w7.cell? ⟨gv, n, none⟩ = some (.int .i64 (rl.getD d 0)) := by
            rw [Hbd.out.cell (p := ⟨gv, n, none⟩) (show gv < m by rw [HM.out]; exact hgl), hgc, ← HVL.out]
            unfold pv
            rw [if_neg (by omega), Int.toNat_natCast]
          obtain ⟨val, hvl⟩ : ∃ a, a = rl.getD d 0 := ⟨_, rfl⟩
          rw [← hvl] at hgc7
          have cc := HAd.out.c d (by rw [resL_len (by omega)]; omega)
          have cf := HAd.out.f d (by rw [resL_len (by omega)]; omega)
          have HA2 := Lib.hid (show ArW (w7.setCell ⟨m, d, none⟩ (.int .i64 val)) m (resL rl (d + 1)) by
            rw [← resL_set (by omega), ← hvl]
            exact HAd.out.set (by rw [resL_len (by omega)]; omega) val)
          have HB2 := Lib.hid (show Below m w4 (w7.setCell ⟨m, d, none⟩ (.int .i64 val)) from Hbd.out.setCell (Nat.le_refl _) _)
          have hnCi : (n : Int) < (C.length : Int) := by omega
          have hn0 : (0 : Int) ≤ (n : Int) := by omega
          have hb9 : ((n : Int) != -1) = true := by simp
          clear hvl
          go_wp2_with fail
          go_roundw
          case rel => exact ⟨d + 1, by omega, by go_num, HA2.out, HB2.out⟩
          case measure => simp [intOf]; omega
      · have hdk : d = k + 1 := by omega
        subst hdk
        have HAR := Lib.hid har
        have Hb2 := Lib.hid (Hb.out.trans ((HB4.out.trans ((HM.out ▸ hb : Below w4.heap.size w4 wr).mono hs4)).mono Hb.out.size))
        have hwm : w.heap.size ≤ m := by rw [HM.out]; omega
        clear har hb
        go_wp2_with fail
        go_ret
        rw [HRR.out]
        have hfin := HAR.out
        rw [← hlen, resL_end] at hfin
        refine ⟨_, rfl, ⟨⟨by rw [hlen]; omega, some ⟨m, 0, none⟩, k + 1, by rw [hlen]; rfl, .inr ⟨m, 0, rfl, hwm, hfin.lt, fun j hj => by rw [Nat.zero_add]; exact hfin.c j hj, fun j hj => by rw [Nat.zero_add]; exact hfin.f j hj⟩⟩, some ⟨m, 0, none⟩, k + 1, by rw [hlen]; rfl, by rw [hlen]; exact Nat.le_refl _⟩, Hb2.out⟩
theorem iPartsAt (p kk x y z : Int) (f : Value) (L : List Gt) (w : World) (h : Gats w f L) :
    Calls Try.prog 59 #[.int .i64 p, f, .int .i64 kk, .agg #[.int .i64 x, .int .i64 y, .int .i64 z]] w fun e w' => ∃ u, e = .returned u ∧ OwnInts w' w.heap.size u (paV p kk x y z L) ∧ Below w.heap.size w w' := by
  cases hn : (circB p L && inB kk 0 9)
  · have e : paV p kk x y z L = [] := by unfold paV; rw [hn]; rfl
    rw [e]
    exact iParts_not p kk x y z f L w h hn
  · have hn2 := hn
    simp only [Bool.and_eq_true] at hn2
    have hk : 0 ≤ kk ∧ kk ≤ 9 := by simpa [inB] using hn2.2
    obtain ⟨k, rfl⟩ := Int.eq_ofNat_of_zero_le hk.1
    exact (iParts_yes p x y z k f L w h hn2.1 (by omega) _ rfl).mono fun e w' ⟨u, h1, h2, h3⟩ => ⟨u, h1, h2.1, h3⟩
/-- and its capacity -/
theorem iPartsC (p x y z : Int) (k : Nat) (f : Value) (L : List Gt) (w : World) (h : Gats w f L) (hv : circB p L = true) (hk : k ≤ 9) :
    Calls Try.prog 59 #[.int .i64 p, f, .int .i64 (k : Int), .agg #[.int .i64 x, .int .i64 y, .int .i64 z]] w fun e w' => ∃ u, e = .returned u ∧ (OwnInts w' w.heap.size u (paV p k x y z L) ∧ ∃ a c, u = .slice a (paV p k x y z L).length c ∧ (paV p k x y z L).length ≤ c) ∧ Below w.heap.size w w' :=
  iParts_yes p x y z k f L w h hv hk _ rfl
end Go.Proofs.Ytlidplmpglpkgaa
namespace Go.Proofs.Ytlidplmpglpkgaa
open Go.RowKit
/-- the row of values of one gate -/
def dvR (p x y z : Int) (k : Nat) (L : List Gt) (j : Nat) : List Int := (List.range (k + 1)).map (dvF p x y z (dvC p x y z k L j) (gAt L j))
theorem dvR_len {p x y z : Int} {k : Nat} {L : List Gt} {j : Nat} : (dvR p x y z k L j).length = k + 1 := by simp [dvR]
theorem dvR_at {p x y z : Int} {k : Nat} {L : List Gt} {j d : Nat} (h : d ≤ k) : (dvR p x y z k L j).getD d 0 = dvF p x y z (dvC p x y z k L j) (gAt L j) d := by
  have : d < k + 1 := by omega
  simp [dvR, List.getD_eq_getElem?_getD, this]
theorem row1 (k e : Nat) (c : Int) : (List.replicate (k + 1) (0 : Int)).set e c = (List.range (k + 1)).map (fun d => if d = e then c else 0) := by
  apply List.ext_getElem?
  intro i
  rw [List.getElem?_set, List.getElem?_map]
  by_cases h : i < k + 1
  · rw [List.getElem?_range h, List.getElem?_replicate, if_pos h]
    by_cases e1 : e = i
    · subst e1; simp [h]
    · have : ¬ i = e := fun h => e1 h.symm
      simp [e1, this]
  · have h1 : (List.range (k + 1))[i]? = none := by simp; omega
    rw [h1, List.getElem?_replicate, if_neg h]
    by_cases e1 : e = i
    · subst e1; simp [h]
    · simp [e1]
theorem cvV_bd {p : Int} (hp : 2 ≤ p) (A : List (List Int)) (a b d : Nat) : ∀ n, 0 ≤ cvV p A a b d n ∧ cvV p A a b d n < p
  | 0 => ⟨Int.le_refl _, show (0 : Int) < p by omega⟩
  | n + 1 => emB hp
theorem dvF_bd {p x y z : Int} (hp : isP p = true) (he : isE3 p x y z = true) {g : Gt} {i : Int} (hg : gOK (p - 1) g i = true) (A : List (List Int)) (d : Nat) : 0 ≤ dvF p x y z A g d ∧ dvF p x y z A g d < p := by
  have hb := isP_bd hp
  obtain ⟨hx, hy, hz⟩ := isE3_iff.1 he
  have h := gOK_cases hg
  unfold dvF
  split
  · split
    · unfold coord
      split
      · exact hx
      · split
        · exact hy
        · exact hz
    · omega
  · split
    · split
      · rcases h with ⟨h, _⟩ | ⟨_, h0, h1, _⟩ | ⟨h, _⟩
        · omega
        · omega
        · omega
      · omega
    · split
      · exact emB hb.1
      · exact cvV_bd hb.1 _ _ _ _ _
theorem dvC_bd {p x y z : Int} (hp : isP p = true) (he : isE3 p x y z = true) {k : Nat} {L : List Gt} (hL : ∀ j, j < L.length → gOK (p - 1) (gAt L j) (j : Nat) = true) : ∀ j, j ≤ L.length → ∀ i, i < j → ∀ d, d ≤ k → 0 ≤ pcl (dvC p x y z k L j) i d ∧ pcl (dvC p x y z k L j) i d < p
  | 0, _, i, h, _, _ => by omega
  | j + 1, hj, i, hi, d, hd => by
    have hl := dvC_len p x y z k L j
    show 0 ≤ pcl (dvC p x y z k L j ++ [dvR p x y z k L j]) i d ∧ pcl (dvC p x y z k L j ++ [dvR p x y z k L j]) i d < p
    by_cases e : i < j
    · rw [pcl_old (by omega)]
      exact dvC_bd hp he hL j (by omega) i e d hd
    · have : i = (dvC p x y z k L j).length := by omega
      subst this
      rw [pcl_new, dvR_at hd]
      exact dvF_bd hp he (hL j (by omega)) _ _
theorem resL_get {l : List Int} {d : Nat} (h : d < l.length) : (resL l d).getD d 0 = 0 := by
  have e : (l.take d).length = d := by simp; omega
  unfold resL
  rw [List.getD_eq_getElem?_getD, List.getElem?_append_right (by omega), e, Nat.sub_self, List.getElem?_replicate]
  split <;> rfl
theorem resL_set0 {l : List Int} {d : Nat} (h : d < l.length) : (resL l d).set d 0 = resL l d := by
  have e : (l.take d).length = d := by simp; omega
  unfold resL
  rw [List.set_append_right _ _ (by omega), e, Nat.sub_self, show l.length - d = (l.length - (d + 1)) + 1 by omega, List.replicate_succ, List.set_cons_zero]
/-- the rows of values, all of them below Z -/
structure DvS (w : World) (B Z : Nat) (v : Value) (k : Nat) (D : List (List Int)) (V : List Value) : Prop where
  row : w.ownsRow B 61 1 v V.length V
  len : V.length = D.length
  kp : ∀ b, v.ownBlock = some b → b < Z
  zl : Z ≤ w.heap.size
  rd : ∀ i, i < D.length → (D.getD i []).length = k + 1 ∧ ∃ g c, V.getD i .nilIface = .slice (some ⟨g, 0, none⟩) (k + 1) c ∧ B ≤ g ∧ g < Z ∧ v.ownBlock ≠ some g ∧ ArW w g (D.getD i [])
theorem DvS.nil (w : World) (B k : Nat) : DvS w B w.heap.size (.slice none 0 0) k [] [] :=
  ⟨World.ownsRow_nil _ _ _ _, rfl, fun b hq => (by cases hq), Nat.le_refl _, fun i hi => absurd hi (Nat.not_lt_zero i)⟩
theorem DvS.below {w w' : World} {B Z k : Nat} {v : Value} {D : List (List Int)} {V : List Value} (h : DvS w B Z v k D V) (hb : Below Z w w') : DvS w' B Z v k D V := by
  refine ⟨owns_same h.row (fun b hq => hb.block b (h.kp b hq)), h.len, h.kp, Nat.le_trans h.zl hb.size, fun i hi => ?_⟩
  obtain ⟨h0, g, c, h1, h2, h3, h4, h5⟩ := h.rd i hi
  exact ⟨h0, g, c, h1, h2, h3, h4, h5.same hb.size (hb.block g h3)⟩
theorem DvS.at {w : World} {B Z k pg pc n i : Nat} {D : List (List Int)} {V : List Value} (h : DvS w B Z (.slice (some ⟨pg, 0, none⟩) n pc) k D V) (hi : i < D.length) (hn : n = V.length) :
    ∃ g c, w.cell? ⟨pg, i, none⟩ = some (.slice (some ⟨g, 0, none⟩) (k + 1) c) ∧ B ≤ g ∧ g < Z ∧ (∀ d, d ≤ k → w.cell? ⟨g, d, none⟩ = some (.int .i64 (pcl D i d))) ∧ ArW w g (D.getD i []) ∧ (D.getD i []).length = k + 1 := by
  obtain ⟨h0, g, c, h1, h2, h3, h4, h5⟩ := h.rd i hi
  refine ⟨g, c, ?_, h2, h3, fun d hd => h5.c d (by omega), h5, h0⟩
  have hl : i < V.length := by rw [h.len]; exact hi
  subst hn
  rw [World.ownsRow.cellAt h.row i (by omega), ← h1]
  simp [List.getD_eq_getElem?_getD, hl]
/-- a row is appended -/
theorem DvS.push {w wA w8 : World} {B k m g8 c8 c9 H : Nat} {v : Value} {D : List (List Int)} {V : List Value} {R : List Int} (h : DvS w B m v k D V) (ha : ArW w m R) (hR : R.length = k + 1) (hBm : B ≤ m) (hA : Below w.heap.size w wA)
    (hown : w8.ownsRow B 61 1 (.slice (some ⟨g8, 0, none⟩) (V.length + 1) c8) (V.length + 1) (V ++ [.slice (some ⟨m, 0, none⟩) (k + 1) c9])) (hg : wA.grownBy w8 v.ownBlock) (hat : v.ownBlock = some g8 ∨ g8 = H) (hH : w.heap.size ≤ H) (hlt : g8 < w8.heap.size) :
    DvS w8 B w8.heap.size (.slice (some ⟨g8, 0, none⟩) (V.length + 1) c8) k (D ++ [R]) (V ++ [.slice (some ⟨m, 0, none⟩) (k + 1) c9]) ∧ Below B w w8 := by
  have hs1 := hA.size
  have hs2 := hg.size
  have hml := ha.lt
  have hsm : ∀ b, b < w.heap.size → v.ownBlock ≠ some b → w8.heap[b]? = w.heap[b]? := fun b hb hbp => by
    rw [hg.block b (by omega) (fun e => hbp e.symm), hA.block b hb]
  have h8n : ∀ b, b < w.heap.size → v.ownBlock ≠ some b → (Value.slice (some ⟨g8, 0, none⟩) (V.length + 1) c8).ownBlock ≠ some b := fun b hb hp e => by
    have e : g8 = b := by simpa [Value.ownBlock] using e
    subst e
    rcases hat with e2 | e2
    · exact hp e2
    · omega
  have hvm : v.ownBlock ≠ some m := fun e => by have := h.kp m e; omega
  have e : (V ++ [Value.slice (some ⟨m, 0, none⟩) (k + 1) c9]).length = V.length + 1 := by rw [List.length_append]; rfl
  refine ⟨⟨by rw [e]; exact hown, by rw [e, List.length_append, h.len]; rfl, fun b hq => ?_, Nat.le_refl _, fun i hi => ?_⟩, ?_⟩
  · have hq : g8 = b := by simpa [Value.ownBlock] using hq
    subst hq
    exact hlt
  · by_cases ei : i < D.length
    · obtain ⟨h0, g, c, h1, h2, h3, h4, h5⟩ := h.rd i ei
      have hgw : g < w.heap.size := by omega
      have eD : (D ++ [R]).getD i [] = D.getD i [] := by rw [List.getD_eq_getElem?_getD, List.getElem?_append_left ei, ← List.getD_eq_getElem?_getD]
      rw [eD]
      refine ⟨h0, g, c, ?_, h2, by omega, h8n g hgw h4, h5.same (by omega) (hsm g hgw h4)⟩
      rw [← h1, List.getD_eq_getElem?_getD, List.getElem?_append_left (by rw [h.len]; exact ei), ← List.getD_eq_getElem?_getD]
    · have e2 : i = D.length := by simp at hi; omega
      subst e2
      have eD : (D ++ [R]).getD D.length [] = R := by simp [List.getD_eq_getElem?_getD]
      rw [eD]
      refine ⟨hR, m, c9, ?_, hBm, by omega, h8n m hml hvm, ha.same (by omega) (hsm m hml hvm)⟩
      rw [← h.len]
      simp [List.getD_eq_getElem?_getD]
  · refine (hA.mono (by omega)).trans ⟨hg.os, hg.tape, hg.output, hg.size, fun b hb => hg.block b (by omega) (fun e => ?_)⟩
    have := (World.ownsRow.lt h.row b e.symm).1
    omega
end Go.Proofs.Ytlidplmpglpkgaa
