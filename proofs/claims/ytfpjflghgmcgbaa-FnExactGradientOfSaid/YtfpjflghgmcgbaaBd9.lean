/-
  The model's circuit that goes on: its cells, what its first gates count for; its add and times. Conditions: what the cells hold is known.
-/
import Derived.Test.YtfpjflghgmcgbaaBd2
import Derived.Test.YtfpjflghgmcgbaaBd6
import Derived.Deep.RegionHeld3
namespace Go.Proofs.Ytfpjflghgmcgbaa
open Go.RowKit
/-- a block of integers -/
structure BrW (w : World) (H : Nat) (b : List Int) : Prop where
  lt : H < w.heap.size
  c : ∀ j, j < b.length → w.cell? ⟨H, j, none⟩ = some (.int .i64 (b.getD j 0))
  f : ∀ j, j < b.length → w.frozen? ⟨H, j, none⟩ = false
theorem BrW.below {w w' : World} {H : Nat} {b : List Int} (h : BrW w H b) (hb : Below w.heap.size w w') : BrW w' H b :=
  ⟨Nat.lt_of_lt_of_le h.lt hb.size, fun j hj => by rw [hb.cell (p := ⟨H, j, none⟩) h.lt]; exact h.c j hj, fun j hj => by rw [hb.frozen (p := ⟨H, j, none⟩) h.lt]; exact h.f j hj⟩
theorem BrW.same {w w' : World} {H : Nat} {b : List Int} (h : BrW w H b) (hs : w.heap.size ≤ w'.heap.size) (e : w'.heap[H]? = w.heap[H]?) : BrW w' H b :=
  ⟨Nat.lt_of_lt_of_le h.lt hs, fun j hj => by rw [World.cell?_of_block (a := ⟨H, j, none⟩) e]; exact h.c j hj, fun j hj => by rw [World.frozen?_of_block (a := ⟨H, j, none⟩) e]; exact h.f j hj⟩
theorem BrW.set {w : World} {H j : Nat} {b : List Int} (h : BrW w H b) (hj : j < b.length) (v : Int) : BrW (w.setCell ⟨H, j, none⟩ (.int .i64 v)) H (b.set j v) := by
  refine ⟨by simpa using h.lt, fun i hi => ?_, fun i hi => by rw [World.frozen?_setCell]; exact h.f i (by simpa using hi)⟩
  rw [getD_set hj]
  by_cases e : i = j
  · subst e
    rw [World.cell?_setCell_same _ _ _ (h.c i hj), if_pos rfl]
  · rw [World.cell?_setCell_other _ _ _ _ (addr_ne (by omega)), h.c i (by simpa using hi), if_neg e]
theorem BrW.far {w : World} {H G o : Nat} {b : List Int} (h : BrW w H b) (hG : G ≠ H) (u : Value) : BrW (w.setCell ⟨G, o, none⟩ u) H b :=
  ⟨by simpa using h.lt, fun j hj => by rw [World.cell?_setCell_other _ _ _ _ (addr_ne (by omega))]; exact h.c j hj, fun j hj => by rw [World.frozen?_setCell]; exact h.f j hj⟩
theorem MkS.far {w : World} {G n H o : Nat} {v : Value} {cs : Nat → Value} {C : List Gt} (h : MkS w G v n cs C) (hH : H < G) (u : Value) : MkS (w.setCell ⟨H, o, none⟩ u) G v n cs C := by
  refine ⟨⟨?_, fun i h1 h2 => ?_, by rw [World.frozen?_setCell]; exact h.sh.f0, by simpa using h.sh.lt, fun i h1 h2 => by rw [World.frozen?_setCell]; exact h.sh.fz i h1 h2⟩, h.row.setFar (by omega) o u⟩
  · rw [World.cell?_setCell_other _ _ _ _ (addr_ne (by omega))]; exact h.sh.c0
  · rw [World.cell?_setCell_other _ _ _ _ (addr_ne (by omega))]; exact h.sh.oth i h1 h2
/-- the cell of the numbers' slice -/
def brC (H n : Nat) : Nat → Value := fun i => if i = 4 then .slice (some ⟨H, 0, none⟩) n n else .int .i64 0
/-- the state of the model's maker -/
structure BrS (w : World) (G H : Nat) (v : Value) (s : List Gt × List Int) : Prop where
  ms : MkS w G v 5 (brC H s.2.length) s.1
  br : BrW w H s.2
  lt : H < G
theorem BrS.below {w w' : World} {G H : Nat} {v : Value} {s : List Gt × List Int} (h : BrS w G H v s) (hb : Below w.heap.size w w') : BrS w' G H v s := ⟨h.ms.below hb, h.br.below hb, h.lt⟩
/-- what a method of it leaves behind -/
def BrTo (B G H : Nat) (s : List Gt × List Int) (v : Value) (w : World) (w' : World) : Prop :=
  ∃ v', BrS w' G H v' s ∧ Below B w w' ∧ Apt G H v w w' ∧ Moves v v' w
theorem Apt.weak {G H : Nat} {v : Value} {w w' : World} (h : Apt G G v w w') : Apt G H v w w' := fun b hb h1 _ h3 => h b hb h1 h1 h3
theorem BrTo.trans {B G H : Nat} {s' : List Gt × List Int} {v v1 : Value} {w w1 w2 : World} (hb : Below B w w1) (ha : Apt G H v w w1) (hv : Moves v v1 w) (h : BrTo B G H s' v1 w1 w2) : BrTo B G H s' v w w2 := by
  obtain ⟨v', h1, h2, h3, h4⟩ := h
  exact ⟨v', h1, hb.trans h2, ha.trans h3 hv hb.size, hv.trans h4 hb.size⟩
theorem BrTo.from {B G H : Nat} {s : List Gt × List Int} {v : Value} {w w1 w2 : World} (h : BrTo B G H s v w1 w2) (hb : Below w.heap.size w w1) (hB : B ≤ w.heap.size) : BrTo B G H s v w w2 :=
  BrTo.trans (hb.mono hB) (Apt.of_below hb) (.inl rfl) h
set_option maxRecDepth 100000 in
set_option maxHeartbeats 4000000 in
theorem sTimes (B G H : Nat) (one k o : Int) (v : Value) (s : List Gt × List Int) (w : World) (hl : s.1.length ≤ 5000) (hBG : B ≤ G) (h : BrS w G H v s) :
    Calls Try.prog 126 #[.pointer (some ⟨G, 0, none⟩), .int .i64 one, .int .i64 k, .int .i64 o] w fun e w' => e = .returned (.int .i64 (tmG one k o s.1).1) ∧ BrTo B G H ((tmG one k o s.1).2, s.2) v w w' := by
  cases hk : (k == one)
  · have e1 : tmG one k o s.1 = ((s.1.length : Int), s.1 ++ [⟨3, k, o⟩]) := by unfold tmG; rw [hk]; rfl
    rw [e1]
    have HP := Lib.hid (sPutS B G G 5 v (brC H s.2.length) s.1 ⟨3, k, o⟩ w hl hBG h.ms)
    have HB := Lib.hid h.br
    have HL := Lib.hid h.lt
    have HV := Lib.hid (h.ms.row.block (G := H) (by have := h.lt; omega))
    have hk2 : ¬ k = one := by simpa using hk
    clear h e1
    go_enter Try.func126, Try.ntmps126
    go_wp2_with fail
    refine HP.out.mono ?_
    rintro e w2 ⟨v2, rfl, hm, hb, ha, hv⟩
    have HR := Lib.hid (show BrTo B G H (s.1 ++ [⟨3, k, o⟩], s.2) v w w2 from ⟨v2, ⟨hm, HB.out.same hb.size (ha H HB.out.lt (by have := HL.out; omega) (by have := HL.out; omega) HV.out), HL.out⟩, hb, ha.weak, hv⟩)
    clear hm hb ha hv
    go_wp2_with fail
    go_ret
    exact ⟨rfl, HR.out⟩
  · have e1 : tmG one k o s.1 = (o, s.1) := by unfold tmG; rw [hk]; rfl
    rw [e1]
    have hk2 : k = one := by simpa using hk
    have HR := Lib.hid (show BrTo B G H (s.1, s.2) v w w from ⟨v, h, Below.refl _ _, Apt.of_below (Below.refl _ _), .inl rfl⟩)
    clear h e1
    subst hk2
    go_enter Try.func126, Try.ntmps126
    go_wp2_with fail
    go_ret
    exact ⟨rfl, HR.out⟩
set_option maxRecDepth 100000 in
set_option maxHeartbeats 8000000 in
theorem sAddB (B G H j : Nat) (k : Int) (v : Value) (s : List Gt × List Int) (w : World) (hl : s.1.length ≤ 5000) (hBH : B ≤ H) (hj : j < s.2.length) (hn : s.2.length ≤ 60) (h : BrS w G H v s) :
    Calls Try.prog 125 #[.pointer (some ⟨G, 0, none⟩), .int .i64 (j : Int), .int .i64 k] w fun e w' => e = .returned (.tuple #[]) ∧ BrTo B G H (addB j k s) v w w' := by
  have hlt := h.lt
  have hGw := h.ms.sh.lt
  obtain ⟨d, hd⟩ : ∃ d, d = s.2.getD j 0 := ⟨_, rfl⟩
  have c1 := h.ms.sh.oth 4 (by omega) (by omega)
  have d0 := h.br.c j hj
  have f0 := h.br.f j hj
  have hjn : (j : Int) < (s.2.length : Int) := by omega
  have hj0 : (0 : Int) ≤ (j : Int) := by omega
  have hn60 : (s.2.length : Int) ≤ 60 := by omega
  rw [← hd] at d0
  rw [show brC H s.2.length 4 = .slice (some ⟨H, 0, none⟩) s.2.length s.2.length from rfl] at c1
  by_cases hneg : d < 0
  · have e1 : addB j k s = (s.1, s.2.set j k) := by unfold addB jnG; rw [← hd, if_pos hneg]
    rw [e1]
    have HR := Lib.hid (show BrTo B G H (s.1, s.2.set j k) v w (w.setCell ⟨H, j, none⟩ (.int .i64 k)) from
      ⟨v, ⟨by rw [List.length_set]; exact h.ms.far hlt _, h.br.set hj k, hlt⟩, (Below.refl _ _).setCell hBH _, fun b _ _ hbH _ => Below.heap_setCell _ _ _ _ (by simpa using fun e => hbH e), .inl rfl⟩)
    clear h e1 hd
    go_enter Try.func125, Try.ntmps125
    go_wp2_with fail
    refine bodyPost_end (v := .tuple #[]) (by simp [results, Try.results125, go_sem]) rfl ⟨rfl, HR.out⟩
  · have e1 : addB j k s = (s.1 ++ [⟨2, d, k⟩], s.2.set j (s.1.length : Int)) := by unfold addB jnG; rw [← hd, if_neg hneg]
    rw [e1]
    have HP := Lib.hid (fun w' (h : MkS w' G v 5 (brC H s.2.length) s.1) => sPutS B G G 5 v (brC H s.2.length) s.1 ⟨2, d, k⟩ w' hl (by omega) h)
    have HH := Lib.hid h
    have HV := Lib.hid (h.ms.row.block (G := H) (by omega))
    have HD := Lib.hid hd
    clear h e1 hd
    go_enter Try.func125, Try.ntmps125
    go_wp2_with fail
    refine wp_region_seq [(0, true), (1, true), (2, true), (3, true), (4, true), (5, true), (6, true), (7, true), (8, true), (9, true), (10, true), (11, true), (12, true), (13, true), (14, true), (15, true), (16, true), (17, false), (18, true)] (fun w' => w'.cell? ⟨G, 4, none⟩ = some (.slice (some ⟨H, 0, none⟩) s.2.length s.2.length) ∧ w'.cell? ⟨H, j, none⟩ = some (.int .i64 d)) (by kernel_rfl) (by kernel_rfl) rfl (by intro c a d v w h; cases d <;> exact h) ⟨c1, d0⟩ ?_
    iterate 17 (refine wpSeq_take (v := ?_) (List.getElem?_toArray.trans rfl) ?_ ?_; rotate_left; (intro w' hSw; (try dsimp only at hSw); go_simp; (try with_reducible rfl)); (try simp only [Act.put, List.setIfInBounds_toArray, List.set_cons_zero, List.set_cons_succ]))
    refine wpSeq_do (List.getElem?_toArray.trans rfl) (fun K hK => ?_)
    go_simp
    refine (HP.out _ (HH.out.ms.below (by repeat (first | exact Below.refl _ _ | apply Below.drew | apply below_drewN)))).mono ?_
    rintro e w2 ⟨v2, rfl, hm, hb, ha, hv⟩
    have hBr := (HH.out.br.below (by repeat (first | exact Below.refl _ _ | apply Below.drew | apply below_drewN))).same hb.size (ha H (by simpa using HH.out.br.lt) (by omega) (by omega) HV.out)
    have g1 : w2.cell? ⟨G, 4, none⟩ = some (.slice (some ⟨H, 0, none⟩) s.2.length s.2.length) := hm.sh.oth 4 (by omega) (by omega)
    have g2 : w2.cell? ⟨H, j, none⟩ = some (.int .i64 d) := by rw [hBr.c j hj, ← HD.out]
    have g3 := hBr.f j hj
    have HR := Lib.hid (show BrTo B G H (s.1 ++ [⟨2, d, k⟩], s.2.set j (s.1.length : Int)) v w (w2.setCell ⟨H, j, none⟩ (.int .i64 (s.1.length : Int))) from by
      refine BrTo.from (w1 := w.drew) ⟨v2, ⟨by rw [List.length_set]; exact hm.far hlt _, hBr.set hj _, hlt⟩, hb.setCell hBH _, fun b hb1 h1 h2 h3 => ?_, hv⟩ (Below.drew (Below.refl _ _)) (by omega)
      exact (Below.heap_setCell _ _ _ _ (by simpa using fun e => h2 e)).trans (ha b hb1 h1 h1 h3))
    refine hK _ _ ⟨g1, g2⟩ ?_
    clear hK K hm hb ha hv hBr c1 d0 f0
    (refine wpSeq_take (v := ?_) (List.getElem?_toArray.trans rfl) ?_ ?_; rotate_left; (intro w' hSw; (try dsimp only at hSw); go_simp; (try with_reducible rfl)); (try simp only [Act.put, List.setIfInBounds_toArray, List.set_cons_zero, List.set_cons_succ]))
    refine wpSeq_nil ?_
    simp only [Exit.then]
    go_wp2_with fail
    refine bodyPost_end (v := .tuple #[]) (by simp [results, Try.results125, go_sem]) rfl ⟨rfl, HR.out⟩
end Go.Proofs.Ytfpjflghgmcgbaa
