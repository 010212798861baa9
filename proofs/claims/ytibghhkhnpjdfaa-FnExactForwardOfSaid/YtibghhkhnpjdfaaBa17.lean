/-
  The program's maker of derivatives: its cells; a gate added to what is counted for; a way through a gate. Conditions: what the cells hold is known.
  The program's maker of derivatives: passing through a gate, the gate of 1, going on from a circuit. Conditions: what the cells hold is known.
  The program's maker of derivatives: the one gate of the element 1. Conditions: what the cells hold is known.
  The program's maker of derivatives: the three places are put. Conditions: what the cells hold is known.
-/
import Derived.Test.YtibghhkhnpjdfaaBa16
import Derived.Test.YtibghhkhnpjdfaaBa3
import Derived.Deep.Cut
import Derived.Deep.RegionHeld3
namespace Go.Proofs.Ytibghhkhnpjdfaa
open Go.RowKit
/-- the maker's cells but the first one: the prime, what the gates count for, the gate of 1 -/
def csD (p one : Int) (b : List Int) : Nat → Value := fun i => if i = 1 then .int .i64 p else if i < 62 then .int .i64 (b.getD (i - 2) (-1)) else .int .i64 one
abbrev DmS (w : World) (G B : Nat) (v : Value) (p one : Int) (s : List Gt × List Int) : Prop := MkQ w G B v 63 (csD p one s.2) s.1
theorem DmS.set {w : World} {G B j : Nat} {v : Value} {p one : Int} {s : List Gt × List Int} (h : DmS w G B v p one s) (hj : j < s.2.length) (hj60 : j < 60) (u : Int) : DmS (w.setCell ⟨G, 2 + j, none⟩ (.int .i64 u)) G B v p one (s.1, s.2.set j u) := by
  refine ⟨⟨?_, fun i h1 h2 => ?_, by rw [World.frozen?_setCell]; exact h.sh.f0, by simpa using h.sh.lt, fun i h1 h2 => by rw [World.frozen?_setCell]; exact h.sh.fz i h1 h2⟩, h.row.setNe h.ne _ _, h.ne⟩
  · rw [World.cell?_setCell_other _ _ _ _ (addr_ne (by omega))]; exact h.sh.c0
  · by_cases e : i = 2 + j
    · subst e
      rw [World.cell?_setCell_same _ _ _ (h.sh.oth _ h1 h2)]
      unfold csD
      rw [if_neg (by omega), if_pos (by omega), show 2 + j - 2 = j by omega, getD_set hj, if_pos rfl]
    · rw [World.cell?_setCell_other _ _ _ _ (addr_ne (by omega)), h.sh.oth i h1 h2]
      unfold csD
      by_cases e1 : i = 1
      · rw [if_pos e1, if_pos e1]
      · rw [if_neg e1, if_neg e1]
        by_cases e2 : i < 62
        · rw [if_pos e2, if_pos e2, getD_set hj, if_neg (by omega)]
        · rw [if_neg e2, if_neg e2]
theorem DmS.setOne {w : World} {G B : Nat} {v : Value} {p one : Int} {s : List Gt × List Int} (h : DmS w G B v p one s) (u : Int) : DmS (w.setCell ⟨G, 62, none⟩ (.int .i64 u)) G B v p u s := by
  refine ⟨⟨?_, fun i h1 h2 => ?_, by rw [World.frozen?_setCell]; exact h.sh.f0, by simpa using h.sh.lt, fun i h1 h2 => by rw [World.frozen?_setCell]; exact h.sh.fz i h1 h2⟩, h.row.setNe h.ne _ _, h.ne⟩
  · rw [World.cell?_setCell_other _ _ _ _ (addr_ne (by omega))]; exact h.sh.c0
  · by_cases e : i = 62
    · subst e
      rw [World.cell?_setCell_same _ _ _ (h.sh.oth _ h1 h2)]
      rfl
    · rw [World.cell?_setCell_other _ _ _ _ (addr_ne (by omega)), h.sh.oth i h1 h2]
      unfold csD
      by_cases e1 : i = 1
      · rw [if_pos e1, if_pos e1]
      · rw [if_neg e1, if_neg e1, if_pos (by omega), if_pos (by omega)]
theorem csD_at {p one : Int} {b : List Int} {j : Nat} (hj : j < b.length) (hj60 : j < 60) : csD p one b (2 + j) = .int .i64 (b.getD j 0) := by
  unfold csD
  rw [if_neg (by omega), if_pos (by omega), show 2 + j - 2 = j by omega]
  congr 1
  simp [List.getD_eq_getElem?_getD, hj]
set_option maxRecDepth 100000 in
set_option maxHeartbeats 4000000 in
theorem iJoinD (B G n : Nat) (cs : Nat → Value) (k sofar next : Int) (v : Value) (C : List Gt) (w : World) (hlo : -1 ≤ sofar) (hl : C.length ≤ 5000) (hBG : B ≤ G) (h : MkQ w G B v n cs C) :
    Calls Try.prog 211 #[.pointer (some ⟨G, 0, none⟩), .int .i64 k, .int .i64 sofar, .int .i64 next] w (MkToQ B G n cs (jnG k sofar next C).2 v (jnG k sofar next C).1 w) := by
  by_cases hneg : sofar < 0
  · have e : jnG k sofar next C = (next, C) := by unfold jnG; rw [if_pos hneg]
    have e2 : sofar = -1 := by omega
    rw [e, e2]
    have H := Lib.hid h
    clear h e e2 hneg hlo
    go_enter Try.func211, Try.ntmps211
    go_wp2_with fail
    go_ret
    exact ⟨_, rfl, H.out, Below.refl _ _, Apt.of_below (Below.refl _ _), .inl rfl⟩
  · have e : jnG k sofar next C = ((C.length : Int), C ++ [⟨k, sofar, next⟩]) := by unfold jnG; rw [if_neg hneg]
    have e2 : ¬ sofar = -1 := by omega
    rw [e]
    have HP := Lib.hid (iPutQ B G B n v cs C ⟨k, sofar, next⟩ w (by omega) hBG (Nat.le_refl _) h)
    clear h e hneg hlo
    go_enter Try.func211, Try.ntmps211
    go_wp2_with fail
    refine HP.out.mono ?_
    rintro e w4 ⟨v4, rfl, h1, h2, h3, h4⟩
    have H4 := Lib.hid (And.intro h1 (And.intro h2 (And.intro h3 h4)))
    clear h1 h2 h3 h4
    go_wp2_with fail
    go_ret
    exact ⟨_, rfl, H4.out.1, H4.out.2.1, H4.out.2.2.1, H4.out.2.2.2⟩
/-- a cell that outlasts what is put -/
def Outl (B G : Nat) (cs : Nat → Value) (v : Value) (X o : Nat) (d : Int) (w : World) : Prop :=
  ∀ w2 v2 C2, MkQ w2 G B v2 63 cs C2 → Apt G G v w w2 → w2.cell? ⟨X, o, none⟩ = some (.int .i64 d) ∧ w2.frozen? ⟨X, o, none⟩ = false
/-- what adding leaves behind: gates are put, and then one cell is written -/
def DmTo (B G : Nat) (cs : Nat → Value) (C : List Gt) (v : Value) (X o : Nat) (r : Int) (w w' : World) : Prop :=
  ∃ w2 v', MkQ w2 G B v' 63 cs C ∧ Below B w w2 ∧ Apt G G v w w2 ∧ Moves v v' w ∧ w' = w2.setCell ⟨X, o, none⟩ (.int .i64 r)
set_option maxRecDepth 100000 in
set_option maxHeartbeats 4000000 in
theorem iAddD (B G X o : Nat) (cs : Nat → Value) (d k : Int) (v : Value) (C : List Gt) (w : World) (hlo : -1 ≤ d) (hl : C.length ≤ 5000) (hBG : B ≤ G) (h : MkQ w G B v 63 cs C) (hX : w.cell? ⟨X, o, none⟩ = some (.int .i64 d)) (ho : Outl B G cs v X o d w) :
    Calls Try.prog 201 #[.pointer (some ⟨G, 0, none⟩), .pointer (some ⟨X, o, none⟩), .int .i64 k] w fun e w' => e = .returned (.tuple #[]) ∧ DmTo B G cs (jnG 2 d k C).2 v X o (jnG 2 d k C).1 w w' := by
  obtain ⟨C2, hC2⟩ : ∃ z, z = jnG 2 d k C := ⟨_, rfl⟩
  have HJ := Lib.hid (fun w' (h : MkQ w' G B v 63 cs C) => hC2 ▸ iJoinD B G 63 cs 2 d k v C w' hlo hl hBG h)
  rw [← hC2]
  have HH := Lib.hid h
  have HO := Lib.hid ho
  have hBw : B ≤ w.heap.size := by have := h.sh.lt; omega
  clear h ho hC2
  go_enter Try.func201, Try.ntmps201
  go_wp2_with fail
  refine wp_region_seq [(0, true), (1, true), (2, true), (3, true), (4, true), (5, true), (6, true), (7, true), (8, false), (9, true)] (fun w' => w'.cell? ⟨X, o, none⟩ = some (.int .i64 d)) (by kernel_rfl) (by kernel_rfl) rfl (by intro c a d v w h; cases d <;> exact h) hX ?_
  iterate 8 (refine wpSeq_take (v := ?_) (List.getElem?_toArray.trans rfl) ?_ ?_; rotate_left; (intro w' hSw; (try dsimp only at hSw); go_simp; (try with_reducible rfl)); (try simp only [Act.put, List.setIfInBounds_toArray, List.set_cons_zero, List.set_cons_succ]))
  refine wpSeq_do (List.getElem?_toArray.trans rfl) (fun K hK => ?_)
  go_simp
  refine (HJ.out _ (HH.out.below (by repeat (first | exact Below.refl _ _ | apply Below.drew | apply below_drewN)))).mono ?_
  rintro e w2 ⟨v2, rfl, hm, hb, ha, hv⟩
  have ha2 : Apt G G v w w2 := (Apt.of_below (Below.drew (Below.refl _ _))).trans ha (.inl rfl) (by simp)
  obtain ⟨g1, g2⟩ := HO.out w2 v2 _ hm ha2
  have HR := Lib.hid (show MkQ w2 G B v2 63 cs C2.2 ∧ Below B w w2 ∧ Apt G G v w w2 ∧ Moves v v2 w from
    ⟨hm, (Below.drew (Below.refl B w)).trans hb, ha2, Moves.trans (.inl rfl) hv (by simp)⟩)
  refine hK _ _ g1 ?_
  clear hK K hm hb ha hv ha2 hX
  (refine wpSeq_take (v := ?_) (List.getElem?_toArray.trans rfl) ?_ ?_; rotate_left; (intro w' hSw; (try dsimp only at hSw); go_simp; (try with_reducible rfl)); (try simp only [Act.put, List.setIfInBounds_toArray, List.set_cons_zero, List.set_cons_succ]))
  refine wpSeq_nil ?_
  simp only [Exit.then]
  go_wp2_with fail
  refine bodyPost_end (v := .tuple #[]) (by simp [results, Try.results201, go_sem]) rfl ⟨rfl, w2, v2, HR.out.1, HR.out.2.1, HR.out.2.2.1, HR.out.2.2.2, rfl⟩
set_option maxRecDepth 100000 in
set_option maxHeartbeats 4000000 in
theorem iThrP (B G : Nat) (p one k o : Int) (v : Value) (s : List Gt × List Int) (w : World) (hl : s.1.length ≤ 5000) (hBG : B ≤ G) (h : DmS w G B v p one s) :
    Calls Try.prog 209 #[.pointer (some ⟨G, 0, none⟩), .int .i64 k, .int .i64 o] w (MkToQ B G 63 (csD p one s.2) (tmG one k o s.1).2 v (tmG one k o s.1).1 w) := by
  have c1 : w.cell? ⟨G, 62, none⟩ = some (.int .i64 one) := h.sh.oth 62 (by omega) (by omega)
  cases hk : (k == one)
  · have e1 : tmG one k o s.1 = ((s.1.length : Int), s.1 ++ [⟨3, k, o⟩]) := by unfold tmG; rw [hk]; rfl
    rw [e1]
    have HP := Lib.hid (iPutQ B G B 63 v (csD p one s.2) s.1 ⟨3, k, o⟩ w hl hBG (Nat.le_refl _) h)
    have hk2 : ¬ k = one := by simpa using hk
    clear h e1
    go_enter Try.func209, Try.ntmps209
    go_wp2_with fail
    refine HP.out.mono ?_
    rintro e w2 ⟨v2, rfl, hm, hb, ha, hv⟩
    have HR := Lib.hid (show MkQ w2 G B v2 63 (csD p one s.2) (s.1 ++ [⟨3, k, o⟩]) ∧ Below B w w2 ∧ Apt G G v w w2 ∧ Moves v v2 w from ⟨hm, hb, ha, hv⟩)
    clear hm hb ha hv
    go_wp2_with fail
    go_ret
    exact ⟨v2, rfl, HR.out⟩
  · have e1 : tmG one k o s.1 = (o, s.1) := by unfold tmG; rw [hk]; rfl
    rw [e1]
    have hk2 : k = one := by simpa using hk
    have H := Lib.hid h
    clear h e1
    subst hk2
    go_enter Try.func209, Try.ntmps209
    go_wp2_with fail
    go_ret
    exact ⟨_, rfl, H.out, Below.refl _ _, Apt.of_below (Below.refl _ _), .inl rfl⟩
theorem iThrS (G : Nat) (k o : Int) (w : World) :
    Calls Try.prog 208 #[.pointer (some ⟨G, 0, none⟩), .int .i64 k, .int .i64 o] w fun e w' => e = .returned (.int .i64 k) ∧ w = w' := by
  go_enter Try.func208, Try.ntmps208
  go_wp2
  go_ret
  exact ⟨rfl, rfl⟩
end Go.Proofs.Ytibghhkhnpjdfaa
namespace Go.Proofs.Ytibghhkhnpjdfaa
open Go.RowKit
theorem tmG_mx (one k o : Int) (C : List Gt) : (tmG one k o C).2.length ≤ C.length + 1 := by
  unfold tmG
  split <;> simp
theorem Outl.next {B G : Nat} {cs : Nat → Value} {v v2 : Value} {X o : Nat} {d : Int} {w w2 : World} (h : Outl B G cs v X o d w) (ha : Apt G G v w w2) (hv : Moves v v2 w) (hs : w.heap.size ≤ w2.heap.size) : Outl B G cs v2 X o d w2 :=
  fun w3 v3 C3 hm ha3 => h w3 v3 C3 hm (ha.trans ha3 hv hs)
theorem DmTo.trans {B G : Nat} {cs : Nat → Value} {C : List Gt} {v v1 : Value} {X o : Nat} {r : Int} {w w1 w' : World} (hb : Below B w w1) (ha : Apt G G v w w1) (hv : Moves v v1 w) (h : DmTo B G cs C v1 X o r w1 w') : DmTo B G cs C v X o r w w' := by
  obtain ⟨w2, v', h1, h2, h3, h4, h5⟩ := h
  exact ⟨w2, v', h1, hb.trans h2, ha.trans h3 hv hb.size, hv.trans h4 hb.size, h5⟩
set_option maxRecDepth 100000 in
theorem iPass_no (G X o : Nat) (kd k ot : Int) (hk : k = -1) (w : World) :
    Calls Try.prog 198 #[.pointer (some ⟨G, 0, none⟩), .int .i64 kd, .int .i64 k, .int .i64 ot, .pointer (some ⟨X, o, none⟩)] w fun e w' => e = .returned (.tuple #[]) ∧ w = w' := by
  subst hk
  go_enter Try.func198, Try.ntmps198
  go_wp2_with fail
  refine bodyPost_ret (v := .tuple #[]) (by simp [results, Try.results198, go_sem]) rfl ⟨rfl, rfl⟩
set_option maxRecDepth 100000 in
set_option maxHeartbeats 8000000 in
theorem iPass_yes (B G X o : Nat) (p one kd d k ot : Int) (v : Value) (s : List Gt × List Int) (w : World) (hk : 0 ≤ k) (hlo : -1 ≤ d) (hl : s.1.length ≤ 4000) (hBG : B ≤ G) (h : DmS w G B v p one s) (hX : w.cell? ⟨X, o, none⟩ = some (.int .i64 d)) (ho : Outl B G (csD p one s.2) v X o d w) :
    Calls Try.prog 198 #[.pointer (some ⟨G, 0, none⟩), .int .i64 kd, .int .i64 k, .int .i64 ot, .pointer (some ⟨X, o, none⟩)] w fun e w' => e = .returned (.tuple #[]) ∧ DmTo B G (csD p one s.2) (jnG 2 d (thrG one kd k ot s.1).1 (thrG one kd k ot s.1).2).2 v X o (jnG 2 d (thrG one kd k ot s.1).1 (thrG one kd k ot s.1).2).1 w w' := by
  have hkn : ¬ k = -1 := by omega
  have hBw : B ≤ w.heap.size := by have := h.sh.lt; omega
  by_cases hkd : kd = 3
  · have e1 : thrG one kd k ot s.1 = tmG one k ot s.1 := by unfold thrG; rw [if_pos (by simp [hkd])]
    rw [e1]
    have hmx := tmG_mx one k ot s.1
    obtain ⟨z, hz⟩ : ∃ z, z = tmG one k ot s.1 := ⟨_, rfl⟩
    rw [← hz] at hmx
    have HT := Lib.hid (fun w' (h : DmS w' G B v p one s) => hz ▸ iThrP B G p one k ot v s w' (by omega) hBG h)
    rw [← hz]
    have HAD := Lib.hid (fun v w' hX h ho => iAddD B G X o (csD p one s.2) d z.1 v z.2 w' hlo (by omega) hBG h hX ho)
    have HH := Lib.hid h
    have HO := Lib.hid ho
    clear h ho hz e1 hX
    subst hkd
    go_enter Try.func198, Try.ntmps198
    go_wp2_with fail
    refine (HT.out _ HH.out).mono ?_
    rintro e w2 ⟨v2, rfl, hm2, hb2, ha2, hv2⟩
    go_wp2_with fail
    refine (HAD.out v2 w2 (HO.out w2 v2 _ hm2 ha2).1 hm2 (HO.out.next ha2 hv2 hb2.size)).mono ?_
    rintro e w3 ⟨rfl, hd3⟩
    have HR := Lib.hid (DmTo.trans hb2 ha2 hv2 hd3)
    clear hd3
    go_wp2_with fail
    refine bodyPost_end (v := .tuple #[]) (by simp [results, Try.results198, go_sem]) rfl ⟨rfl, HR.out⟩
  · have e1 : thrG one kd k ot s.1 = (k, s.1) := by unfold thrG; rw [if_neg (by simp [hkd])]
    rw [e1]
    have HAD := Lib.hid (fun v w' hX h ho => iAddD B G X o (csD p one s.2) d k v s.1 w' hlo (by omega) hBG h hX ho)
    have HH := Lib.hid h
    have HO := Lib.hid ho
    have HX := Lib.hid hX
    clear h ho e1 hX
    go_enter Try.func198, Try.ntmps198
    go_wp2_with fail
    refine (iThrS G k ot w).mono ?_
    rintro e w2 ⟨rfl, rfl⟩
    go_wp2_with fail
    refine (HAD.out v _ HX.out HH.out HO.out).mono ?_
    rintro e w3 ⟨rfl, hd3⟩
    have HR := Lib.hid (hd3)
    clear hd3
    go_wp2_with fail
    refine bodyPost_end (v := .tuple #[]) (by simp [results, Try.results198, go_sem]) rfl ⟨rfl, HR.out⟩
end Go.Proofs.Ytibghhkhnpjdfaa
namespace Go.Proofs.Ytibghhkhnpjdfaa
open Go.RowKit
set_option maxRecDepth 100000 in
set_option maxHeartbeats 4000000 in
theorem iPutOne (B G : Nat) (p : Int) (v : Value) (s : List Gt × List Int) (w : World) (hl : s.1.length ≤ 4000) (hBG : B ≤ G) (h : DmS w G B v p (-1) s) :
    Calls Try.prog 197 #[.pointer (some ⟨G, 0, none⟩)] w fun e w' => ∃ v', e = .returned (.int .i64 s.1.length) ∧ DmS w' G B v' p s.1.length (s.1 ++ [⟨1, 1, 0⟩], s.2) ∧ Below B w w' ∧ Apt G G v w w' ∧ Moves v v' w := by
  have c1 : w.cell? ⟨G, 62, none⟩ = some (.int .i64 (-1)) := h.sh.oth 62 (by omega) (by omega)
  have HP := Lib.hid (iPutQ B G B 63 v (csD p (-1) s.2) s.1 ⟨1, 1, 0⟩ w (by omega) hBG (Nat.le_refl _) h)
  clear h
  go_enter Try.func197, Try.ntmps197
  go_wp2_with fail
  refine HP.out.mono ?_
  rintro e w2 ⟨v2, rfl, hm, hb, ha, hv⟩
  have hd : DmS w2 G B v2 p (-1) (s.1 ++ [⟨1, 1, 0⟩], s.2) := hm
  have c2 : w2.cell? ⟨G, 62, none⟩ = some (.int .i64 (-1)) := hd.sh.oth 62 (by omega) (by omega)
  have f2 := hd.sh.fz 62 (by omega) (by omega)
  have HR := Lib.hid (show DmS (w2.setCell ⟨G, 62, none⟩ (.int .i64 s.1.length)) G B v2 p s.1.length (s.1 ++ [⟨1, 1, 0⟩], s.2) ∧ Below B w (w2.setCell ⟨G, 62, none⟩ (.int .i64 s.1.length)) ∧ Apt G G v w (w2.setCell ⟨G, 62, none⟩ (.int .i64 s.1.length)) ∧ Moves v v2 w from
    ⟨hd.setOne _, hb.setCell hBG _, fun b h1 h2 h3 h4 => (Below.heap_setCell _ _ _ _ (by simpa using fun e => h2 e)).trans (ha b h1 h2 h3 h4), hv⟩)
  clear hm hb ha hv hd c1
  go_wp2_with fail
  go_ret
  exact ⟨v2, rfl, HR.out⟩
end Go.Proofs.Ytibghhkhnpjdfaa
namespace Go.Proofs.Ytibghhkhnpjdfaa
open Go.RowKit
/-- three numbers in a box of their own -/
structure PlP (w : World) (q : Nat) (pl : List Int) : Prop where
  lt : q < w.heap.size
  ln : pl.length = 3
  c : ∀ j, j < 3 → w.cell? ⟨q, j, none⟩ = some (.int .i64 (pl.getD j 0))
  f : ∀ j, j < 3 → w.frozen? ⟨q, j, none⟩ = false
theorem PlP.below {w w' : World} {q : Nat} {pl : List Int} (h : PlP w q pl) (hb : Below w.heap.size w w') : PlP w' q pl :=
  ⟨Nat.lt_of_lt_of_le h.lt hb.size, h.ln, fun j hj => by rw [hb.cell (p := ⟨q, j, none⟩) h.lt]; exact h.c j hj, fun j hj => by rw [hb.frozen (p := ⟨q, j, none⟩) h.lt]; exact h.f j hj⟩
theorem PlP.same {w w' : World} {q : Nat} {pl : List Int} (h : PlP w q pl) (hs : w.heap.size ≤ w'.heap.size) (e : w'.heap[q]? = w.heap[q]?) : PlP w' q pl :=
  ⟨Nat.lt_of_lt_of_le h.lt hs, h.ln, fun j hj => by rw [World.cell?_of_block (a := ⟨q, j, none⟩) e]; exact h.c j hj, fun j hj => by rw [World.frozen?_of_block (a := ⟨q, j, none⟩) e]; exact h.f j hj⟩
theorem PlP.set {w : World} {q j : Nat} {pl : List Int} (h : PlP w q pl) (hj : j < 3) (v : Int) : PlP (w.setCell ⟨q, j, none⟩ (.int .i64 v)) q (pl.set j v) := by
  refine ⟨by simpa using h.lt, by simpa using h.ln, fun i hi => ?_, fun i hi => by rw [World.frozen?_setCell]; exact h.f i hi⟩
  rw [getD_set (by rw [h.ln]; exact hj)]
  by_cases e : i = j
  · subst e
    rw [World.cell?_setCell_same _ _ _ (h.c i hj), if_pos rfl]
  · rw [World.cell?_setCell_other _ _ _ _ (addr_ne (by omega)), h.c i hi, if_neg e]
theorem PlP.new3 (w : World) (ty : TypeId) (a b c : Int) : PlP (w.alloc (.cells #[.int .i64 a, .int .i64 b, .int .i64 c] ty)) w.heap.size [a, b, c] := by
  refine ⟨by simp, rfl, fun j hj => ?_, fun j hj => World.frozen?_alloc_at _ _ _ j rfl⟩
  have h3 : j = 0 ∨ j = 1 ∨ j = 2 := by omega
  rcases h3 with rfl | rfl | rfl <;> simp [go_sem]
theorem MkQ.farC {w : World} {G R n q o : Nat} {v : Value} {cs : Nat → Value} {C : List Gt} (h : MkQ w G R v n cs C) (hG : q ≠ G) (hv : v.ownBlock ≠ some q) (u : Value) : MkQ (w.setCell ⟨q, o, none⟩ u) G R v n cs C := by
  refine ⟨⟨?_, fun i h1 h2 => ?_, by rw [World.frozen?_setCell]; exact h.sh.f0, by simpa using h.sh.lt, fun i h1 h2 => by rw [World.frozen?_setCell]; exact h.sh.fz i h1 h2⟩, h.row.setNe hv o u, h.ne⟩
  · rw [World.cell?_setCell_other _ _ _ _ (addr_ne (by omega))]; exact h.sh.c0
  · rw [World.cell?_setCell_other _ _ _ _ (addr_ne (by omega))]; exact h.sh.oth i h1 h2
theorem Moves.low {v v' : Value} {w W : World} (h : Moves v v' W) (hs : w.heap.size ≤ W.heap.size) : Moves v v' w := by
  rcases h with h | ⟨b, h, hb⟩
  · exact .inl h
  · exact .inr ⟨b, h, Nat.le_trans hs hb⟩
/-- the state of the loop over the gates -/
def PsSt (B G n : Nat) (p : Int) (v : Value) (L : List Gt) (z : List Gt × List Int) (w W wr : World) (v' : Value) : Prop :=
  DmS wr G B v' p L.length (z.1, (grB L).2) ∧ PlP wr (n + 1) z.2 ∧ PlP wr n [0, 0, 0] ∧ Below B w wr ∧ Apt G G v w wr ∧ Moves v v' W ∧ W.heap.size ≤ wr.heap.size
set_option maxRecDepth 100000 in
set_option maxHeartbeats 8000000 in
theorem iPlaces (B G : Nat) (p : Int) (v : Value) (L : List Gt) (hv : circB p L = true) (g off cap : Nat) (w : World) (hBG : B ≤ G) (hg : g < B) (h : DmS w G B v p L.length (grB L)) (hc : ∀ j : Nat, j < L.length → GAt w g (off + j * 3) (L.getD j default)) :
    Calls Try.prog 158 #[.pointer (some ⟨G, 0, none⟩), .slice (some ⟨g, off, none⟩) L.length cap] w fun e w' =>
      ∃ v', e = .returned (.agg #[.int .i64 ((grP L).2.getD 0 0), .int .i64 ((grP L).2.getD 1 0), .int .i64 ((grP L).2.getD 2 0)]) ∧ DmS w' G B v' p L.length ((grP L).1, (grB L).2) ∧ Below B w w' ∧ Apt G G v w w' ∧ Moves v v' w := by
  obtain ⟨hp, hl1, hl2, hall⟩ := circB_iff.1 hv
  obtain ⟨hbB, _⟩ := grB_st hv
  obtain ⟨n, hn⟩ : ∃ n, n = w.heap.size := ⟨_, rfl⟩
  obtain ⟨W, hW⟩ : ∃ W, W = (w.alloc (.cells #[.int .i64 0, .int .i64 0, .int .i64 0] 35)).alloc (.cells #[.int .i64 (-1), .int .i64 (-1), .int .i64 (-1)] 35) := ⟨_, rfl⟩
  have bW : Below n w W := by rw [hW, hn]; exact (by repeat (first | exact Below.refl _ _ | apply Below.drew | apply below_drewN | (refine Below.alloc ?_ (by first | omega | (simp <;> omega)) _)))
  have hs0 : W.heap.size = n + 2 := by rw [hW, hn]; simp
  have hGw : G < n := by rw [hn]; exact h.sh.lt
  have hv0 : v.ownBlock ≠ some n := by rw [hn]; exact h.old (Nat.le_refl _)
  have hv1 : v.ownBlock ≠ some (n + 1) := by rw [hn]; exact h.old (Nat.le_succ _)
  have hPn : PlP W n [0, 0, 0] := by
    rw [hW, hn]
    exact (PlP.new3 w _ 0 0 0).below (Below.alloc (Below.refl _ _) (Nat.le_refl _) _)
  have hPq : PlP W (n + 1) [-1, -1, -1] := by
    have := PlP.new3 (w.alloc (.cells #[.int .i64 0, .int .i64 0, .int .i64 0] 35)) 35 (-1) (-1) (-1)
    rw [← hW] at this
    rw [hn]
    simpa using this
  have H0 := Lib.hid (show PsSt B G n p v L (plN L (grB L).2 0 ((grB L).1, [-1, -1, -1])) w W W v from
    ⟨h.below (by rw [← hn]; exact bW), hPq, hPn, bW.mono (by omega), Apt.of_below (by rw [← hn]; exact bW), .inl rfl, Nat.le_refl _⟩)
  have HCw := Lib.hid hc
  have HPK := Lib.hid (fun k hk => plK_st hv k hk)
  have HAL := Lib.hid hall
  have HBB := Lib.hid hbB
  have HW := Lib.hid hW
  have HN := Lib.hid hn
  have HWL := Lib.hid (show w.heap.size ≤ W.heap.size by omega)
  have hlp : (L.length : Int) ≤ 60 := by omega
  clear hW hn hPn hPq h hc hall hbB hp bW hv
  go_enter Try.func158, Try.ntmps158
  go_upto_region 2 with fail
  change Code.wp _ _ _ _ ((w.alloc (.cells #[.int .i64 0, .int .i64 0, .int .i64 0] 35)).alloc (.cells #[.int .i64 (-1), .int .i64 (-1), .int .i64 (-1)] 35))
  rw [← HW.out, ← HN.out]
  clear HW
  go_wp2_with fail
  go_loopw [12] (fun i wr => ∃ (k : Nat) (v' : Value), k ≤ L.length ∧ i = .int .i64 k ∧ PsSt B G n p v L (plN L (grB L).2 k ((grB L).1, [-1, -1, -1])) w W wr v') (fun i _ => L.length - (intOf i).toNat)
  case atStart => exact ⟨0, v, by omega, rfl, H0.out⟩
  case round =>
    clear H0
    obtain ⟨k, v', hk, rfl, hS⟩ := hrel
    by_cases hlt : k < L.length
    · have hltp : (k : Int) < (L.length : Int) := by omega
      have hk0 : (0 : Int) ≤ (k : Int) := by omega
      have hk60 : (k : Int) < 60 := by omega
      obtain ⟨a0, a1, a2⟩ := (HCw.out k hlt).below hS.2.2.2.1 hg
      obtain ⟨x', hx⟩ : ∃ x, x = L.getD k default := ⟨_, rfl⟩
      rw [← hx] at a0 a1 a2
      have hx0 := HAL.out k hlt
      rw [← gat_mk hx] at hx0
      have hcs := gOK_cases hx0
      simp only at hcs
      have hGA := (gat_mk hx).symm
      have hPK := HPK.out k (by omega)
      obtain ⟨z, hz⟩ : ∃ z, z = plN L (grB L).2 k ((grB L).1, [-1, -1, -1]) := ⟨_, rfl⟩
      rw [← hz] at hS hPK
      have hzs : plN L (grB L).2 (k + 1) ((grB L).1, [-1, -1, -1]) = plS L (grB L).2 k z := by rw [hz]; rfl
      obtain ⟨d, hd⟩ : ∃ d, d = (grB L).2.getD k 0 := ⟨_, rfl⟩
      have hdlo : -1 ≤ d := by rw [hd]; exact (HBB.out.lo k hlt).1
      obtain ⟨xk, xa, xb⟩ := x'
      simp only at a0 a1 a2 hcs hGA
      obtain ⟨t, ht⟩ : ∃ t, t = wr.heap.size := ⟨_, rfl⟩
      obtain ⟨W6, hW6⟩ : ∃ W6, W6 = wr.alloc (Obj.cells #[.int .i64 xk, .int .i64 xa, .int .i64 xb] 116) := ⟨_, rfl⟩
      have b6 : Below wr.heap.size wr W6 := by rw [hW6]; exact (by repeat (first | exact Below.refl _ _ | apply Below.drew | apply below_drewN | (refine Below.alloc ?_ (by first | omega | (simp <;> omega)) _)))
      have t0 : W6.cell? ⟨t, 0, none⟩ = some (.int .i64 xk) := by rw [hW6, ht]; simp [go_sem]
      have t1 : W6.cell? ⟨t, 1, none⟩ = some (.int .i64 xa) := by rw [hW6, ht]; simp [go_sem]
      have hS6 : PsSt B G n p v L z w W W6 v' := by
        obtain ⟨s1, s2, s3, s4, s5, s6, s7⟩ := hS
        exact ⟨s1.below b6, s2.below b6, s3.below b6, s4.trans (b6.mono (by have := s1.sh.lt; omega)), s5.trans (Apt.of_below b6) (s6.low HWL.out) s4.size, s6, Nat.le_trans s7 b6.size⟩
      have g1 : W6.cell? ⟨G, 2 + k, none⟩ = some (.int .i64 d) := by
        rw [hd, hS6.1.sh.oth (2 + k) (by omega) (by omega)]
        exact congrArg some <| csD_at (by rw [HBB.out.len]; exact hlt) (by omega)
      have HS6 := Lib.hid hS6
      have HW6 := Lib.hid hW6
      have HT := Lib.hid ht
      have HD := Lib.hid hd
      have HGA := Lib.hid hGA
      have HZS := Lib.hid hzs
      have hmx := hPK.1.max
      have HPKk := Lib.hid hPK.1
      clear hx hx0 hW6 ht b6 hS hS6 hd hGA hzs hz hPK
      go_upto_region 5 with fail
      rw [← HW6.out, ← HT.out]
      clear HW6 HT a0 a1 a2
      by_cases hk0' : xk = 0
      · subst hk0'
        by_cases hneg : d = -1
        · have HE := Lib.hid (show plN L (grB L).2 (k + 1) ((grB L).1, [-1, -1, -1]) = z by
            rw [HZS.out]
            unfold plS
            rw [if_neg (by rw [← HD.out]; simp; intro _; omega)])
          subst hneg
          go_wp2_with fail
          go_roundw
          case rel => exact ⟨k + 1, v', by omega, by go_num, by rw [HE.out]; exact HS6.out⟩
          case measure => first | (simp [intOf]; done) | (simp [intOf]; omega)
        · obtain ⟨ja, rfl⟩ := Int.eq_ofNat_of_zero_le (show 0 ≤ xa by omega)
          have hja : ja < 3 := by omega
          have hja0 : (0 : Int) ≤ (ja : Int) := by omega
          have hjap : (ja : Int) < 3 := by omega
          have HE := Lib.hid (show plN L (grB L).2 (k + 1) ((grB L).1, [-1, -1, -1]) = addB ja d z by
            rw [HZS.out]
            unfold plS
            rw [← HD.out, HGA.out]
            rw [if_pos (by simp; omega)]
            rfl)
          have HAD := Lib.hid (iAddD B G (n + 1) ja (csD p L.length (grB L).2) (z.2.getD ja 0) d v' z.1 W6 (HPKk.out.lo ja hja).1 (by omega) hBG HS6.out.1 (HS6.out.2.1.c ja hja)
            (fun w2 v2 C2 hm ha => by
              have e := ha (n + 1) HS6.out.2.1.lt (by omega) (by omega) (HS6.out.2.2.2.2.2.1.ne (by omega) hv1)
              exact ⟨by rw [World.cell?_of_block (a := ⟨n + 1, ja, none⟩) e]; exact HS6.out.2.1.c ja hja, by rw [World.frozen?_of_block (a := ⟨n + 1, ja, none⟩) e]; exact HS6.out.2.1.f ja hja⟩))
          go_wp2_with fail
          refine HAD.out.mono ?_
          rintro e w2 ⟨rfl, hD⟩
          have HR := Lib.hid (show ∃ v3, PsSt B G n p v L (addB ja d z) w W w2 v3 by
            obtain ⟨w3, v3, m1, m2, m3, m4, rfl⟩ := hD
            obtain ⟨s1, s2, s3, s4, s5, s6, s7⟩ := HS6.out
            have nq : v'.ownBlock ≠ some (n + 1) := s6.ne (by omega) hv1
            have nn : v'.ownBlock ≠ some n := s6.ne (by omega) hv0
            have l1 := s2.lt
            have l2 := s3.lt
            have m6 : w3.heap.size = (w3.setCell ⟨n + 1, ja, none⟩ (.int .i64 (jnG 2 (z.2.getD ja 0) d z.1).1)).heap.size := by simp
            have m7 : W6.heap.size ≤ w3.heap.size := m2.size
            refine ⟨v3, m1.farC (by omega) (m4.ne l1 nq) _, ((s2.same m7 (m3 (n + 1) l1 (by omega) (by omega) nq)).set hja _), ?_, ?_, ?_, s6.trans m4 s7, by rw [← m6]; omega⟩
            · have := s3.same m7 (m3 n l2 (by omega) (by omega) nn)
              exact this.same (by rw [← m6]; exact Nat.le_refl _) (Below.heap_setCell _ _ _ _ (by show n ≠ n + 1; omega))
            · exact (s4.trans m2).setCell (by show B ≤ n + 1; omega) _
            · exact fun bb h1 h2 h3 h4 => (Below.heap_setCell _ _ _ _ (by have := HN.out; show bb ≠ n + 1; omega)).trans ((s5.trans m3 (s6.low HWL.out) s4.size) bb h1 h2 h3 h4))
          clear hD HAD
          go_wp2_with fail
          go_roundw
          case rel =>
            obtain ⟨v3, hv3⟩ := HR.out
            exact ⟨k + 1, v3, by omega, by go_num, by rw [HE.out]; exact hv3⟩
          case measure => first | (simp [intOf]; done) | (simp [intOf]; omega)
      · have HE := Lib.hid (show plN L (grB L).2 (k + 1) ((grB L).1, [-1, -1, -1]) = z by
          rw [HZS.out]
          unfold plS
          rw [if_neg (by rw [HGA.out]; simp [hk0'])])
        go_wp2_with fail
        go_roundw
        case rel => exact ⟨k + 1, v', by omega, by go_num, by rw [HE.out]; exact HS6.out⟩
        case measure => first | (simp [intOf]; done) | (simp [intOf]; omega)
    · have hke : k = L.length := by omega
      subst hke
      obtain ⟨s1, s2, s3, s4, s5, s6, s7⟩ := hS
      have HRES := Lib.hid (show grP L = plN L (grB L).2 L.length ((grB L).1, [-1, -1, -1]) from rfl)
      rw [← HRES.out] at s1 s2
      have c0 := s2.c 0 (by omega)
      have c1 := s2.c 1 (by omega)
      have c2 := s2.c 2 (by omega)
      have d0 := s3.c 0 (by omega)
      have d1 := s3.c 1 (by omega)
      have d2 := s3.c 2 (by omega)
      have f0 := s3.f 0 (by omega)
      have f1 := s3.f 1 (by omega)
      have f2 := s3.f 2 (by omega)
      have hGn : n ≠ G := by omega
      have nn : v'.ownBlock ≠ some n := s6.ne (by omega) hv0
      obtain ⟨r0, hr0⟩ : ∃ r, r = (grP L).2.getD 0 0 := ⟨_, rfl⟩
      obtain ⟨r1, hr1⟩ : ∃ r, r = (grP L).2.getD 1 0 := ⟨_, rfl⟩
      obtain ⟨r2, hr2⟩ : ∃ r, r = (grP L).2.getD 2 0 := ⟨_, rfl⟩
      rw [← hr0] at c0
      rw [← hr1] at c1
      rw [← hr2] at c2
      have HRR := Lib.hid (And.intro hr0 (And.intro hr1 hr2))
      clear s2 s3 hr0 hr1 hr2
      have H1 := Lib.hid s1
      have H4 := Lib.hid s4
      have H5 := Lib.hid s5
      have H6 := Lib.hid s6
      clear s1 s4 s5 s6 hlt hk
      go_wp2_with fail
      have x1 : (wr.setCell ⟨n, 0, none⟩ (.int .i64 r0)).cell? ⟨n, 1, none⟩ = some (Value.int IntKind.i64 ([0, 0, 0].getD 1 0)) := by
        rw [World.cell?_setCell_other _ _ _ _ (addr_ne (by omega))]; exact d1
      have x2 : ((wr.setCell ⟨n, 0, none⟩ (.int .i64 r0)).setCell ⟨n, 1, none⟩ (.int .i64 r1)).cell? ⟨n, 2, none⟩ = some (Value.int IntKind.i64 ([0, 0, 0].getD 2 0)) := by
        rw [World.cell?_setCell_other _ _ _ _ (addr_ne (by omega)), World.cell?_setCell_other _ _ _ _ (addr_ne (by omega))]; exact d2
      have e0 : (((wr.setCell ⟨n, 0, none⟩ (.int .i64 r0)).setCell ⟨n, 1, none⟩ (.int .i64 r1)).setCell ⟨n, 2, none⟩ (.int .i64 r2)).cell? ⟨n, 0, none⟩ = some (.int .i64 r0) := by
        rw [World.cell?_setCell_other _ _ _ _ (addr_ne (by omega)), World.cell?_setCell_other _ _ _ _ (addr_ne (by omega))]; exact World.cell?_setCell_same _ _ _ d0
      have e1 : (((wr.setCell ⟨n, 0, none⟩ (.int .i64 r0)).setCell ⟨n, 1, none⟩ (.int .i64 r1)).setCell ⟨n, 2, none⟩ (.int .i64 r2)).cell? ⟨n, 1, none⟩ = some (.int .i64 r1) := by
        rw [World.cell?_setCell_other _ _ _ _ (addr_ne (by omega))]; exact World.cell?_setCell_same _ _ _ x1
      have e2 : (((wr.setCell ⟨n, 0, none⟩ (.int .i64 r0)).setCell ⟨n, 1, none⟩ (.int .i64 r1)).setCell ⟨n, 2, none⟩ (.int .i64 r2)).cell? ⟨n, 2, none⟩ = some (.int .i64 r2) := World.cell?_setCell_same _ _ _ x2
      refine bodyPost_ret (v := .agg #[.int .i64 r0, .int .i64 r1, .int .i64 r2]) (by simp [results, Try.results158, go_sem, e0, e1, e2]) rfl ⟨v', by rw [HRR.out.1, HRR.out.2.1, HRR.out.2.2], ?_, ?_, ?_, H6.out.low HWL.out⟩
      · exact ((H1.out.farC hGn nn _).farC hGn nn _).farC hGn nn _
      · have hBn : B ≤ n := by omega
        exact ((H4.out.setCell (p := ⟨n, 0, none⟩) hBn _).setCell (p := ⟨n, 1, none⟩) hBn _).setCell (p := ⟨n, 2, none⟩) hBn _
      · intro bb h1 h2 h3 h4
        have hne : bb ≠ n := by have := HN.out; omega
        rw [Below.heap_setCell _ _ _ _ hne, Below.heap_setCell _ _ _ _ hne, Below.heap_setCell _ _ _ _ hne]
        exact H5.out bb h1 h2 h3 h4
end Go.Proofs.Ytibghhkhnpjdfaa
