/-
  GradientOf of the model. Conditions: what the slice holds is known.
  GradientOf of the model, for all arguments. Conditions: what the slice holds is known.
-/
import Derived.Test.YtibghhkhnpjdfaaBa27
import Derived.Test.YtibghhkhnpjdfaaBa28
namespace Go.Proofs.Ytibghhkhnpjdfaa
open Go.RowKit
theorem madeI (n i : Nat) (h : i < n) : (madeCells #[Value.int .i64 0] n).toList[i]? = some (.int .i64 0) := by
  simp [madeCells, h, Nat.mod_one]
/-- numbers of which the first ones are -1 -/
def mnN (n : Nat) : Nat → List Int
  | 0 => List.replicate n 0
  | k + 1 => (mnN n k).set k (-1)
theorem mnN_len (n : Nat) : ∀ k, (mnN n k).length = n
  | 0 => by simp [mnN]
  | k + 1 => by simp [mnN, mnN_len n k]
theorem mnN_get (n : Nat) : ∀ k, k ≤ n → ∀ j, j < n → (mnN n k).getD j 0 = if j < k then -1 else 0
  | 0, _, j, hj => by simp [mnN, List.getD_eq_getElem?_getD, hj]
  | k + 1, hk, j, hj => by
    unfold mnN
    rw [getD_set (by rw [mnN_len]; omega), mnN_get n k (by omega) j hj]
    by_cases e : j = k
    · subst e; simp
    · rw [if_neg e]
      have : (j < k + 1) = (j < k) := by rw [eq_iff_iff]; omega
      simp only [this]
theorem mnN_all (n : Nat) : mnN n n = List.replicate n (-1) := by
  refine List.ext_getElem (by simp [mnN_len]) fun j h1 h2 => ?_
  have hj : j < n := by simpa [mnN_len] using h1
  have e := mnN_get n n (Nat.le_refl _) j hj
  rw [if_pos hj, List.getD_eq_getElem?_getD, List.getElem?_eq_getElem h1] at e
  simp at e
  rw [e]
  simp
/-- a box of a gradient's places -/
structure PlW (w : World) (q : Nat) (pl : List Int) : Prop where
  lt : q < w.heap.size
  ln : pl.length = 3
  c0 : w.cell? ⟨q, 0, none⟩ = some (.slice none 0 0)
  c : ∀ j, j < 3 → w.cell? ⟨q, 1 + j, none⟩ = some (.int .i64 (pl.getD j 0))
  f : ∀ j, j < 4 → w.frozen? ⟨q, j, none⟩ = false
theorem PlW.below {w w' : World} {q : Nat} {pl : List Int} (h : PlW w q pl) (hb : Below w.heap.size w w') : PlW w' q pl :=
  ⟨Nat.lt_of_lt_of_le h.lt hb.size, h.ln, by rw [hb.cell (p := ⟨q, 0, none⟩) h.lt]; exact h.c0, fun j hj => by rw [hb.cell (p := ⟨q, 1 + j, none⟩) h.lt]; exact h.c j hj, fun j hj => by rw [hb.frozen (p := ⟨q, j, none⟩) h.lt]; exact h.f j hj⟩
theorem PlW.same {w w' : World} {q : Nat} {pl : List Int} (h : PlW w q pl) (hs : w.heap.size ≤ w'.heap.size) (e : w'.heap[q]? = w.heap[q]?) : PlW w' q pl :=
  ⟨Nat.lt_of_lt_of_le h.lt hs, h.ln, by rw [World.cell?_of_block (a := ⟨q, 0, none⟩) e]; exact h.c0, fun j hj => by rw [World.cell?_of_block (a := ⟨q, 1 + j, none⟩) e]; exact h.c j hj, fun j hj => by rw [World.frozen?_of_block (a := ⟨q, j, none⟩) e]; exact h.f j hj⟩
theorem PlW.set {w : World} {q j : Nat} {pl : List Int} (h : PlW w q pl) (hj : j < 3) (v : Int) : PlW (w.setCell ⟨q, 1 + j, none⟩ (.int .i64 v)) q (pl.set j v) := by
  refine ⟨by simpa using h.lt, by simpa using h.ln, ?_, fun i hi => ?_, fun i hi => by rw [World.frozen?_setCell]; exact h.f i hi⟩
  · rw [World.cell?_setCell_other _ _ _ _ (addr_ne (by omega))]; exact h.c0
  · rw [getD_set (by rw [h.ln]; exact hj)]
    by_cases e : i = j
    · subst e
      rw [World.cell?_setCell_same _ _ _ (h.c i hj), if_pos rfl]
    · rw [World.cell?_setCell_other _ _ _ _ (addr_ne (by omega)), h.c i hi, if_neg e]
theorem BrS.far {w : World} {G H q o : Nat} {v : Value} {s : List Gt × List Int} (h : BrS w G H v s) (hG : q ≠ G) (hH : q ≠ H) (hv : v.ownBlock ≠ some q) (u : Value) : BrS (w.setCell ⟨q, o, none⟩ u) G H v s := by
  refine ⟨⟨⟨?_, fun i h1 h2 => ?_, by rw [World.frozen?_setCell]; exact h.ms.sh.f0, by simpa using h.ms.sh.lt, fun i h1 h2 => by rw [World.frozen?_setCell]; exact h.ms.sh.fz i h1 h2⟩, ?_⟩, h.br.far hH u, h.lt⟩
  · rw [World.cell?_setCell_other _ _ _ _ (addr_ne (by omega))]; exact h.ms.sh.c0
  · rw [World.cell?_setCell_other _ _ _ _ (addr_ne (by omega))]; exact h.ms.sh.oth i h1 h2
  · exact World.ownsRow.kept (row := some q) h.ms.row ⟨rfl, rfl, rfl, by simp, fun k hk hne => Below.heap_setCell _ _ _ _ (fun e => hne (by rw [e]))⟩ (.inr hv)
theorem readG {w : World} {g off : Nat} {L : List Gt} (h : ∀ j : Nat, j < L.length → GAt w g (off + j * 3) (L.getD j default)) : ∀ (i : Nat) (u : Value), (flatG L)[i]? = some u → w.cell? ((⟨g, off, none⟩ : Addr).add i) = some u := by
  intro i u hu
  have hi : i < L.length * 3 := by
    have := (List.getElem?_eq_some_iff.1 hu).1
    rwa [flatG_len] at this
  have hj : i / 3 < L.length := by omega
  have e := flatG_at L (i / 3) (i % 3) hj (by omega)
  rw [show i / 3 * 3 + i % 3 = i by omega, hu] at e
  obtain ⟨c0, c1, c2⟩ := h (i / 3) hj
  rw [show (⟨g, off, none⟩ : Addr).add i = ⟨g, off + i, none⟩ by unfold Addr.add; split <;> simp_all]
  have h3 : i % 3 = 0 ∨ i % 3 = 1 ∨ i % 3 = 2 := by omega
  rcases h3 with h3 | h3 | h3
  · rw [h3] at e
    simp only [Gt.cs, List.getElem?_cons_zero, Option.some.injEq] at e
    rw [show off + i = off + i / 3 * 3 by omega, c0, e]
  · rw [h3] at e
    simp only [Gt.cs, List.getElem?_cons_zero, List.getElem?_cons_succ, Option.some.injEq] at e
    rw [show off + i = off + i / 3 * 3 + 1 by omega, c1, e]
  · rw [h3] at e
    simp only [Gt.cs, List.getElem?_cons_zero, List.getElem?_cons_succ, Option.some.injEq] at e
    rw [show off + i = off + i / 3 * 3 + 2 by omega, c2, e]
theorem OwnGats.setAway {w : World} {B G : Nat} {v : Value} {L : List Gt} (h : OwnGats w B v L) (hG : G < B) (o : Nat) (u : Value) : OwnGats (w.setCell ⟨G, o, none⟩ u) B v L := by
  obtain ⟨hl, a, cap, e, h⟩ := h
  refine ⟨hl, a, cap, e, ?_⟩
  rcases h with h | ⟨g, off, e2, h1, h2, h3, h4⟩
  · exact .inl h
  · refine .inr ⟨g, off, e2, h1, by simpa using h2, fun j hj => ?_, fun i hi => ?_⟩
    · obtain ⟨c0, c1, c2⟩ := h3 j hj
      refine ⟨?_, ?_, ?_⟩
      · rw [World.cell?_setCell_other _ _ _ _ (addr_ne (by omega))]; exact c0
      · rw [World.cell?_setCell_other _ _ _ _ (addr_ne (by omega))]; exact c1
      · rw [World.cell?_setCell_other _ _ _ _ (addr_ne (by omega))]; exact c2
    · rw [World.frozen?_setCell]; exact h4 i hi
/-- the result's box, not written so far -/
structure TBox (w0 w : World) (n : Nat) : Prop where
  g : GrAt w n (.slice none 0 0) 0 0 0
  f : ∀ i, w.frozen? ⟨n, i, none⟩ = false
  b : Below n w0 w
theorem TBox.on {w0 w w' : World} {n : Nat} (h : TBox w0 w n) (hb : Below (n + 1) w w') : TBox w0 w' n :=
  ⟨h.g.below hb (Nat.lt_succ_self n), fun i => by rw [hb.frozen (p := ⟨n, i, none⟩) (Nat.lt_succ_self n)]; exact h.f i, h.b.trans (hb.mono (Nat.le_succ n))⟩
theorem keepP3 {W : World} {q r t G H i j k : Nat} {u a b c : Value} (ht : t ≠ q) (hG : G ≠ q) (hH : H ≠ q) (h : W.cell? ⟨t, i, none⟩ = some a ∧ W.cell? ⟨G, j, none⟩ = some b ∧ W.cell? ⟨H, k, none⟩ = some c) :
    (W.setCell ⟨q, r, none⟩ u).cell? ⟨t, i, none⟩ = some a ∧ (W.setCell ⟨q, r, none⟩ u).cell? ⟨G, j, none⟩ = some b ∧ (W.setCell ⟨q, r, none⟩ u).cell? ⟨H, k, none⟩ = some c := by
  rw [World.cell?_setCell_other _ _ _ _ (addr_ne (by omega)), World.cell?_setCell_other _ _ _ _ (addr_ne (by omega)), World.cell?_setCell_other _ _ _ _ (addr_ne (by omega))]
  exact h
theorem sPutB (B G H : Nat) (v : Value) (s : List Gt × List Int) (x : Gt) (w : World) (hl : s.1.length ≤ 5000) (hBG : B ≤ G) (h : BrS w G H v s) :
    Calls Try.prog 194 #[.pointer (some ⟨G, 0, none⟩), .agg #[.int .i64 x.k, .int .i64 x.a, .int .i64 x.b]] w fun e w' => e = .returned (.int .i64 (s.1.length : Nat)) ∧ ∃ v', BrS w' G H v' (s.1 ++ [x], s.2) ∧ Below B w w' ∧ Apt G G v w w' ∧ Moves v v' w := by
  refine (sPutS B G G 5 v (brC H s.2.length) s.1 x w hl hBG h.ms).mono ?_
  rintro e w2 ⟨v2, rfl, hm, hb, ha, hv⟩
  exact ⟨rfl, v2, ⟨hm, h.br.same hb.size (ha H h.br.lt (by have := h.lt; omega) (by have := h.lt; omega) (h.ms.row.block (by have := h.lt; omega))), h.lt⟩, hb, ha, hv⟩
/-- what l6Made hands back -/
def Made6 (L : List Gt) (B : Nat) (w : World) (e : Ending) (w' : World) : Prop :=
  ∃ u, e = .returned (.agg #[u, .int .i64 ((grP L).2.getD 0 0), .int .i64 ((grP L).2.getD 1 0), .int .i64 ((grP L).2.getD 2 0)]) ∧ OwnGats w' B u (grP L).1 ∧ Below B w w'
set_option maxRecDepth 100000 in
set_option maxHeartbeats 32000000 in
theorem sMade (p : Int) (L : List Gt) (hv : circB p L = true) (g off cap : Nat) (w : World) (hg : g < w.heap.size)
    (hc : ∀ j : Nat, j < L.length → GAt w g (off + j * 3) (L.getD j default)) :
    Calls Try.prog 160 #[.slice (some ⟨g, off, none⟩) L.length cap] w (Made6 L w.heap.size w) := by
  obtain ⟨ii, hi, hz0, hz1, hz2⟩ := info_parts infoInt
  obtain ⟨ig, hig, hg0, hg1, hg2⟩ := info_parts infoG
  obtain ⟨hp, hl1, hl2, hall⟩ := circB_iff.1 hv
  obtain ⟨n, hn⟩ : ∃ n, n = w.heap.size := ⟨_, rfl⟩
  obtain ⟨W, hW⟩ : ∃ W, W = w.alloc (Obj.cells #[.slice none 0 0, .int .i64 0, .int .i64 0, .int .i64 0] 78) := ⟨_, rfl⟩
  have hA : GrAt W n (.slice none 0 0) 0 0 0 := by rw [hW, hn]; refine ⟨?_, ?_, ?_, ?_⟩ <;> simp [go_sem]
  have hAf : ∀ i, W.frozen? ⟨n, i, none⟩ = false := fun i => by rw [hW, hn]; exact World.frozen?_alloc_at _ _ _ i rfl
  have bW : Below n w W := by rw [hW, hn]; exact (by repeat (first | exact Below.refl _ _ | apply Below.drew | apply below_drewN | (refine Below.alloc ?_ (by first | omega | (simp <;> omega)) _)))
  have hsW : W.heap.size = n + 1 := by rw [hW, hn]; simp
  have HA := Lib.hid (And.intro hA hAf)
  have HC := Lib.hid hc
  have HAL := Lib.hid hall
  have HV := Lib.hid hv
  have HB := Lib.hid bW
  have HW := Lib.hid hW
  have hl60 : (L.length : Int) ≤ 60 := by omega
  have HSW := Lib.hid hsW
  rw [← hn]
  have hgn : g < n := by omega
  clear hc hall hv hA hAf bW hW hsW hg hp
  go_enter Try.func160, Try.ntmps160
  go_wp2_with (at_make; refine wpList_make_full _ rfl _ _ 37 rfl 0 3 ii (.int .i64 0) 1 Try.underlying37 hi hz0 hz1 .i64 .i64 L.length L.length L.length rfl rfl rfl rfl ?c2 ?c3 ?c4 ?_)
  case c2 => rw [hz2]; omega
  case c3 => unfold maxLen; omega
  case c4 => exact Nat.zero_le _
  rw [← HW.out, ← hn]
  have HN := Lib.hid hn
  clear hn
  intro w1 hown hgr
  have b1 : Below W.heap.size W w1 := (Below.refl _ _).grown hgr (Nat.le_refl _) (fun k hk => by cases hk)
  have hBr : BrW w1 (n + 1) (mnN L.length 0) := by
    refine ⟨(hown.lt _ rfl).2, fun j hj => ?_, fun j hj => hown.frozenAt j⟩
    have hj : j < L.length := by simpa [mnN] using hj
    rw [hown.cellAt j (by omega), madeI _ _ hj]
    simp [mnN, List.getD_eq_getElem?_getD, hj]
  obtain ⟨G, hG⟩ : ∃ G, G = w1.heap.size := ⟨_, rfl⟩
  have hs1 : n + 1 < G := by have := hBr.lt; omega
  obtain ⟨W2, hW2⟩ : ∃ W2, W2 = w1.alloc (Obj.cells #[.slice none 0 0, .int .i64 0, .int .i64 0, .int .i64 0, .slice (some ⟨n + 1, 0, none⟩) L.length L.length] 208) := ⟨_, rfl⟩
  have b2 : Below w1.heap.size w1 W2 := by rw [hW2]; exact Below.alloc (Below.refl _ _) (Nat.le_refl _) _
  have hSh : ShW W2 G (.slice none 0 0) 5 (brC (n + 1) L.length) := by
    rw [hW2, hG]
    refine ⟨by simp [go_sem], fun i h1 h2 => ?_, World.frozen?_alloc_at _ _ _ 0 rfl, by simp, fun i h1 h2 => World.frozen?_alloc_at _ _ _ i rfl⟩
    have h4 : i = 1 ∨ i = 2 ∨ i = 3 ∨ i = 4 := by omega
    rcases h4 with rfl | rfl | rfl | rfl <;> simp [go_sem, brC]
  have hs2 : W2.heap.size = G + 1 := by rw [hW2, hG]; simp
  have hBr2 := hBr.below b2
  have HA2 := Lib.hid (show GrAt W2 n (.slice none 0 0) 0 0 0 ∧ (∀ i, W2.frozen? ⟨n, i, none⟩ = false) ∧ Below n w W2 from by
    have bb : Below W.heap.size W W2 := b1.trans (b2.mono b1.size)
    have hlt : n < W.heap.size := by rw [HSW.out]; omega
    exact ⟨HA.out.1.below bb hlt, fun i => by rw [bb.frozen (p := ⟨n, i, none⟩) hlt]; exact HA.out.2 i, HB.out.trans (bb.mono (by omega))⟩)
  obtain ⟨W3, hW3⟩ : ∃ W3, W3 = W2.alloc (.cells #[] 116) := ⟨_, rfl⟩
  have b3 : Below W2.heap.size W2 W3 := by rw [hW3]; exact Below.alloc (Below.refl _ _) (Nat.le_refl _) _
  have R3 : RowGt (W2.alloc (.cells #[] 116)) (G + 1) (.slice (some ⟨W2.heap.size, 0, none⟩) 0 0) [] := RowGt.lit0 W2 (G + 1) (by omega)
  have HF := Lib.hid (show ∀ (i : Nat) (u : Value), (flatG L)[i]? = some u → (W2.alloc (.cells #[] 116)).cell? ((⟨g, off, none⟩ : Addr).add i) = some u from hW3 ▸ readG fun j hj => ((HC.out j hj).below (HA2.out.2.2.trans (b3.mono (by omega))) hgn))
  have HSH3 := Lib.hid (hSh.below b3)
  have HBR3 := Lib.hid (hBr2.below b3)
  have HR3 := Lib.hid R3
  have HA3 := Lib.hid (show GrAt W3 n (.slice none 0 0) 0 0 0 ∧ (∀ i, W3.frozen? ⟨n, i, none⟩ = false) ∧ Below n w W3 from
    ⟨HA2.out.1.below b3 (by omega), fun i => by rw [b3.frozen (p := ⟨n, i, none⟩) (by show n < _; omega)]; exact HA2.out.2.1 i, HA2.out.2.2.trans (b3.mono (by omega))⟩)
  have hs3 : G + 1 < W3.heap.size := by rw [hW3]; simp; omega
  have HW2 := Lib.hid hW2
  have HW3 := Lib.hid hW3
  have HGe := Lib.hid hG
  have HS2 := Lib.hid hs2
  clear hown hgr b1 hBr hSh hW2 hG b2 hs2 hBr2 HA2 hW3 b3 R3 HSW
  go_upto_region 2 with fail
  rw [← HW2.out, ← HGe.out]
  clear HW2 HGe HW
  go_wp2_with (at_builtin; refine wpList_append_own_at _ rfl _ _ 24 rfl (G + 1) 116 ig (.agg #[.int .i64 0, .int .i64 0, .int .i64 0]) 3 24 Try.underlying24 hig hg0 hg1 hg2 rfl (by decide) _ _ _ rfl HR3.out ⟨g, off, none⟩ L.length cap (flatG L) rfl (flatG_len L) HF.out (flatG_cell L) (by unfold maxLen; simp; omega) (by simp; omega) (by simp; have := HS2.out; omega) ?_)
  intro v4 w4 hown hgr hnil _
  have hR4 : RowGt w4 (G + 1) v4 L := by simpa [RowGt, flatG] using hown
  have hgr3 : W3.grownBy w4 (some (G + 1)) := by have h := hgr; rw [← HW3.out] at h; simpa [Value.ownBlock, HS2.out] using h
  have hSh4 : ShW w4 G (.slice none 0 0) 5 (brC (n + 1) L.length) := HSH3.out.grown (u := .slice (some ⟨G + 1, 0, none⟩) 0 0) (by simpa [Value.ownBlock] using hgr3) (by simp [Value.ownBlock])
  have hBr4 : BrW w4 (n + 1) (mnN L.length 0) := HBR3.out.same hgr3.size (hgr3.block _ HBR3.out.lt (fun e => by injection e with e; omega))
  have hT4 : TBox w w4 n := by
    have bb : Below (n + 1) W3 w4 := (Below.refl _ _).grown hgr3 (by omega) (fun k hk => by injection hk with hk; omega)
    exact TBox.on ⟨HA3.out.1, HA3.out.2.1, HA3.out.2.2⟩ bb
  obtain ⟨a4, c4, hv4⟩ : ∃ a c, v4 = .slice a L.length c := by
    rcases hR4.shape with ⟨rfl, e⟩ | ⟨g4, c4, rfl, _⟩
    · exact absurd rfl hnil
    · exact ⟨_, c4, rfl⟩
  subst hv4
  obtain ⟨W5, hW5⟩ : ∃ W5, W5 = w4.setCell ⟨G, 0, none⟩ (.slice a4 L.length c4) := ⟨_, rfl⟩
  have hlm : (mnN L.length 0).length = L.length := mnN_len _ _
  have H5 := Lib.hid (show BrS W5 G (n + 1) (.slice a4 L.length c4) (L, mnN L.length 0) ∧ TBox w W5 n from by
    rw [hW5]
    refine ⟨⟨⟨?_, hR4.setFar (Nat.lt_succ_self G) 0 _⟩, hBr4.far (by omega) _, hs1⟩, hT4.on ((Below.refl _ _).setCell (by show n + 1 ≤ G; omega) _)⟩
    rw [show (L, mnN L.length 0).2.length = L.length from hlm]
    exact hSh4.set _)
  have c0 := hSh4.c0
  have f0 := hSh4.f0
  have HW5 := Lib.hid hW5
  have hl500 : L.length ≤ 5000 := by omega
  clear hown hgr hnil hR4 hgr3 hSh4 hBr4 hT4 hW5 HSH3 HBR3 HR3 HA3 HF HW3 HS2 hlm hi hz0 hz1 hz2 hig hg0 hg1 hg2 HN
  go_upto_region 3 with fail
  rw [← HW5.out]
  clear HW5 c0 f0
  have c1 : W5.cell? ⟨G, 4, none⟩ = some (.slice (some ⟨n + 1, 0, none⟩) L.length L.length) := by
    have := H5.out.1.ms.sh.oth 4 (by omega) (by omega)
    rw [show (L, mnN L.length 0).2.length = L.length from mnN_len _ _] at this
    exact this
  go_wp2_with fail
  clear c1
  go_loopw [22] (fun i wr => ∃ k : Nat, k ≤ L.length ∧ i = .int .i64 k ∧ BrS wr G (n + 1) (.slice a4 L.length c4) (L, mnN L.length k) ∧ TBox w wr n) (fun i _ => L.length - (intOf i).toNat)
  case atStart => exact ⟨0, by omega, rfl, H5.out⟩
  case round =>
    clear H5
    obtain ⟨k, hk, rfl, hS, hT⟩ := hrel
    have hlm : (mnN L.length k).length = L.length := mnN_len _ _
    have c1 : wr.cell? ⟨G, 4, none⟩ = some (.slice (some ⟨n + 1, 0, none⟩) L.length L.length) := by
      have := hS.ms.sh.oth 4 (by omega) (by omega)
      rw [show (L, mnN L.length k).2.length = L.length from hlm] at this
      exact this
    by_cases hlt : k < L.length
    · have hltp : (k : Int) < (L.length : Int) := by omega
      have hk0 : (0 : Int) ≤ (k : Int) := by omega
      have d0 := hS.br.c k (by rw [show (L, mnN L.length k).2.length = L.length from hlm]; exact hlt)
      have f0 := hS.br.f k (by rw [show (L, mnN L.length k).2.length = L.length from hlm]; exact hlt)
      have HS := Lib.hid (show BrS (wr.setCell ⟨n + 1, k, none⟩ (.int .i64 (-1))) G (n + 1) (.slice a4 L.length c4) (L, mnN L.length (k + 1)) ∧ TBox w (wr.setCell ⟨n + 1, k, none⟩ (.int .i64 (-1))) n from by
        refine ⟨⟨?_, hS.br.set (by rw [show (L, mnN L.length k).2.length = L.length from hlm]; exact hlt) (-1), hS.lt⟩, hT.on ((Below.refl (n + 1) wr).setCell (by show n + 1 ≤ n + 1; omega) _)⟩
        have := hS.ms.far (o := k) hs1 (.int .i64 (-1))
        rw [show (L, mnN L.length (k + 1)).2.length = (L, mnN L.length k).2.length by rw [show (L, mnN L.length k).2.length = L.length from hlm]; exact mnN_len _ _]
        exact this)
      clear hS hT hlm
      go_wp2_with fail
      go_roundw
      case rel => exact ⟨k + 1, by omega, by go_num, HS.out⟩
      case measure => first | (simp [intOf]; done) | (simp [intOf]; omega)
    · have hkl : k = L.length := by omega
      subst hkl
      rw [mnN_all] at hS
      have HS := Lib.hid hS
      have HT := Lib.hid hT
      clear hS hT hlm c1 hlt
      go_wp2_with fail
      refine (sPutB (n + 1) G (n + 1) _ _ ⟨1, 1, 0⟩ _ hl500 (by omega) HS.out).mono ?_
      rintro e w7 ⟨rfl, v7, hs7, hb7, ha7, hm7⟩
      have HS7 := Lib.hid hs7
      have HT7 := Lib.hid (HT.out.on hb7)
      have hgc : ∀ j : Nat, j < L.length → GAt w7 g (off + j * 3) (L.getD j default) := fun j hj => (HC.out j hj).below HT7.out.b hgn
      have HBK := Lib.hid (sBack (n + 1) G (n + 1) p (L.length : Int) L HV.out g off cap v7 (L ++ [⟨1, 1, 0⟩], List.replicate L.length (-1)) w7 (Nat.le_refl _) (by omega) hgc (grS_st HV.out) (by simp) hs7)
      clear hs7 hb7 ha7 hm7 HS HT hgc
      go_wp2_with fail
      refine HBK.out.mono ?_
      rintro e w8 ⟨rfl, v8, hs8, hb8, ha8, hm8⟩
      clear HBK
      have HS8 := Lib.hid (show BrS w8 G (n + 1) v8 (grB L) from hs8)
      have HT8 := Lib.hid (HT7.out.on hb8)
      clear hs8 hb8 ha8 hm8 HS7 HT7
      obtain ⟨q, hq⟩ : ∃ q, q = w8.heap.size := ⟨_, rfl⟩
      obtain ⟨W9, hW9⟩ : ∃ W9, W9 = w8.alloc (Obj.cells #[.slice none 0 0, .int .i64 (-1), .int .i64 (-1), .int .i64 (-1)] 78) := ⟨_, rfl⟩
      have b9 : Below w8.heap.size w8 W9 := by rw [hW9]; exact Below.alloc (Below.refl _ _) (Nat.le_refl _) _
      have hGq : G < q := by rw [hq]; exact HS8.out.ms.sh.lt
      obtain ⟨b, hbe⟩ : ∃ b, b = (grB L).2 := ⟨_, rfl⟩
      have HPL := Lib.hid (plK_st HV.out)
      have HBL := Lib.hid (grB_st HV.out).1
      rw [← hbe] at HPL
      have hbl : b.length = L.length := by rw [hbe]; exact HBL.out.len
      have H9 := Lib.hid (show ∃ v', BrS W9 G (n + 1) v' ((plN L b 0 ((grB L).1, [-1, -1, -1])).1, b) ∧ PlW W9 q (plN L b 0 ((grB L).1, [-1, -1, -1])).2 ∧ v'.ownBlock ≠ some q ∧ TBox w W9 n from by
        refine ⟨v8, by rw [hbe]; exact HS8.out.below b9, ?_, by rw [hq]; exact HS8.out.ms.old (Nat.le_refl _), HT8.out.on (b9.mono (by omega))⟩
        rw [hW9, hq]
        refine ⟨by simp, rfl, by simp [go_sem], fun j hj => ?_, fun j hj => World.frozen?_alloc_at _ _ _ j rfl⟩
        have h3 : j = 0 ∨ j = 1 ∨ j = 2 := by omega
        rcases h3 with rfl | rfl | rfl <;> simp [go_sem, plN])
      have HRES := Lib.hid (show grP L = plN L b L.length ((grB L).1, [-1, -1, -1]) by rw [hbe]; rfl)
      have HQ := Lib.hid hq
      have HW9 := Lib.hid hW9
      clear hq hW9 b9 hbe HS8 HT8
      go_upto_region 11 with fail
      rw [← HW9.out, ← HQ.out]
      clear HW9 HQ
      go_wp2_with fail
      go_loopw [40] (fun i wr => ∃ (k : Nat) (v' : Value), k ≤ L.length ∧ i = .int .i64 k ∧ BrS wr G (n + 1) v' ((plN L b k ((grB L).1, [-1, -1, -1])).1, b) ∧ PlW wr q (plN L b k ((grB L).1, [-1, -1, -1])).2 ∧ v'.ownBlock ≠ some q ∧ TBox w wr n) (fun i _ => L.length - (intOf i).toNat)
      case atStart =>
        obtain ⟨v', h⟩ := H9.out
        exact ⟨0, v', by omega, rfl, h⟩
      case round =>
        clear H9
        obtain ⟨k, v', hk, rfl, hS, hP, hvq, hT⟩ := hrel
        by_cases hlt : k < L.length
        · have hltp : (k : Int) < (L.length : Int) := by omega
          have hk0 : (0 : Int) ≤ (k : Int) := by omega
          obtain ⟨a0, a1, a2⟩ := (HC.out k hlt).below hT.b hgn
          obtain ⟨x', hx⟩ : ∃ x, x = L.getD k default := ⟨_, rfl⟩
          rw [← hx] at a0 a1 a2
          have hx0 := HAL.out k hlt
          rw [← gat_mk hx] at hx0
          have hcs := gOK_cases hx0
          simp only at hcs
          have hGA := (gat_mk hx).symm
          have hPK := HPL.out k (by omega)
          obtain ⟨z, hz⟩ : ∃ z, z = plN L b k ((grB L).1, [-1, -1, -1]) := ⟨_, rfl⟩
          rw [← hz] at hS hP hPK
          have hzs : plN L b (k + 1) ((grB L).1, [-1, -1, -1]) = plS L b k z := by rw [hz]; rfl
          obtain ⟨d, hd⟩ : ∃ d, d = b.getD k 0 := ⟨_, rfl⟩
          have hmx := hPK.1.max
          have c1 := hS.ms.sh.oth 4 (by omega) (by omega)
          rw [show brC (n + 1) (z.1, b).2.length 4 = .slice (some ⟨n + 1, 0, none⟩) b.length b.length from rfl, hbl] at c1
          have e0 := hS.br.c k (by show k < b.length; omega)
          rw [show (z.1, b).2.getD k 0 = d from hd.symm] at e0
          obtain ⟨xk, xa, xb⟩ := x'
          simp only at a0 a1 a2 hcs hGA
          obtain ⟨t, ht⟩ : ∃ t, t = wr.heap.size := ⟨_, rfl⟩
          obtain ⟨W6, hW6⟩ : ∃ W6, W6 = wr.alloc (Obj.cells #[.int .i64 xk, .int .i64 xa, .int .i64 xb] 116) := ⟨_, rfl⟩
          have b6 : Below wr.heap.size wr W6 := by rw [hW6]; exact (by repeat (first | exact Below.refl _ _ | apply Below.drew | apply below_drewN | (refine Below.alloc ?_ (by first | omega | (simp <;> omega)) _)))
          have t0 : W6.cell? ⟨t, 0, none⟩ = some (.int .i64 xk) := by rw [hW6, ht]; simp [go_sem]
          have t1 : W6.cell? ⟨t, 1, none⟩ = some (.int .i64 xa) := by rw [hW6, ht]; simp [go_sem]
          have t2 : W6.cell? ⟨t, 2, none⟩ = some (.int .i64 xb) := by rw [hW6, ht]; simp [go_sem]
          have tl : t < W6.heap.size := by rw [hW6, ht]; simp
          have hql := hP.lt
          have hGl := hS.ms.sh.lt
          have HS6 := Lib.hid (show BrS W6 G (n + 1) v' (z.1, b) ∧ PlW W6 q z.2 ∧ TBox w W6 n from ⟨hS.below b6, hP.below b6, hT.on (b6.mono (by omega))⟩)
          have htv : v'.ownBlock ≠ some t := by rw [ht]; exact hS.ms.old (Nat.le_refl _)
          have hGt : t ≠ G := by omega
          have hHt : t ≠ n + 1 := by omega
          have hqt : t ≠ q := by omega
          have g1 : W6.cell? ⟨G, 4, none⟩ = some (.slice (some ⟨n + 1, 0, none⟩) L.length L.length) := by rw [b6.cell (p := ⟨G, 4, none⟩) hGl]; exact c1
          have g2 : W6.cell? ⟨n + 1, k, none⟩ = some (.int .i64 d) := by rw [b6.cell (p := ⟨n + 1, k, none⟩) (by show n + 1 < _; omega)]; exact e0
          have HW6 := Lib.hid hW6
          have HT := Lib.hid ht
          have HD := Lib.hid hd
          have HGA := Lib.hid hGA
          have HZS := Lib.hid hzs
          have HPK := Lib.hid hPK
          clear hx hx0 hW6 ht b6 hS hP hT hd hGA hzs hz hPK c1 e0
          go_upto_region 14 with fail
          rw [← HW6.out, ← HT.out]
          clear HW6 HT a0 a1 a2
          by_cases hk0' : xk = 0
          · subst hk0'
            by_cases hneg : d < 0
            · have HE := Lib.hid (show plN L b (k + 1) ((grB L).1, [-1, -1, -1]) = z by
                rw [HZS.out]
                unfold plS
                rw [if_neg (by rw [← HD.out]; simp; intro _; omega)])
              go_wp2_with fail
              go_roundw
              case rel => exact ⟨k + 1, v', by omega, by go_num, by rw [HE.out]; exact HS6.out.1, by rw [HE.out]; exact HS6.out.2.1, hvq, HS6.out.2.2⟩
              case measure => first | (simp [intOf]; done) | (simp [intOf]; omega)
            · obtain ⟨ja, rfl⟩ := Int.eq_ofNat_of_zero_le (show 0 ≤ xa by omega)
              have hja : ja < 3 := by omega
              have hja0 : (0 : Int) ≤ (ja : Int) := by omega
              have hjap : (ja : Int) < 3 := by omega
              have HE := Lib.hid (show plN L b (k + 1) ((grB L).1, [-1, -1, -1]) = addB ja d z by
                rw [HZS.out]
                unfold plS
                rw [← HD.out, HGA.out]
                rw [if_pos (by simp; omega)]
                rfl)
              obtain ⟨f, hf⟩ : ∃ f, f = z.2.getD ja 0 := ⟨_, rfl⟩
              have e1 := HS6.out.2.1.c ja hja
              have k1 := HS6.out.2.1.f (1 + ja) (by omega)
              rw [← hf] at e1
              have HF := Lib.hid hf
              clear hf
              by_cases hfn : f < 0
              · have HEE := Lib.hid (show addB ja d z = (z.1, z.2.set ja d) by unfold addB jnG; rw [← HF.out, if_pos hfn])
                go_upto_region 17 with fail
                go_region_held3 (fun w' => w'.cell? ⟨t, 1, none⟩ = some (.int .i64 ja) ∧ w'.cell? ⟨G, 4, none⟩ = some (.slice (some ⟨n + 1, 0, none⟩) L.length L.length) ∧ w'.cell? ⟨n + 1, k, none⟩ = some (.int .i64 d)) (first | (refine ⟨?_, ?_, ?_⟩ <;> (rw [World.cell?_drew, World.cell?_setCell_other _ _ _ _ (addr_ne (by omega))]; assumption)) | go_keep) (fail)
                all_goals
                  have hb7 : Below (n + 1) W6 (W6.setCell ⟨q, 1 + ja, none⟩ (.int .i64 d)).drew := Below.drew ((Below.refl _ _).setCell (by show n + 1 ≤ q; omega) _)
                  have HR := Lib.hid (show BrS (W6.setCell ⟨q, 1 + ja, none⟩ (.int .i64 d)).drew G (n + 1) v' (z.1, b) ∧ PlW (W6.setCell ⟨q, 1 + ja, none⟩ (.int .i64 d)).drew q (z.2.set ja d) ∧ TBox w (W6.setCell ⟨q, 1 + ja, none⟩ (.int .i64 d)).drew n from
                    ⟨(HS6.out.1.far (by omega) (by omega) hvq _).below (Below.drew (Below.refl _ _)), (HS6.out.2.1.set hja d).below (Below.drew (Below.refl _ _)), HS6.out.2.2.on hb7⟩)
                  clear t0 t1 t2 g1 g2 e1 k1 hb7
                  go_wp2_with fail
                  go_roundw
                  case rel => exact ⟨k + 1, v', by omega, by go_num, by rw [HE.out, HEE.out]; exact HR.out.1, by rw [HE.out, HEE.out]; exact HR.out.2.1, hvq, HR.out.2.2⟩
                  case measure => first | (simp [intOf]; done) | (simp [intOf]; omega)
              · have HEE := Lib.hid (show addB ja d z = (z.1 ++ [⟨2, f, d⟩], z.2.set ja (z.1.length : Int)) by unfold addB jnG; rw [← HF.out, if_neg hfn])
                have HPU := Lib.hid (fun w' (h : BrS w' G (n + 1) v' (z.1, b)) => sPutB (n + 1) G (n + 1) v' (z.1, b) ⟨2, f, d⟩ w' (by show z.1.length ≤ 5000; omega) (by omega) h)
                go_upto_region 18 with fail
                go_region_held3 (fun w' => w'.cell? ⟨t, 1, none⟩ = some (.int .i64 ja) ∧ w'.cell? ⟨G, 4, none⟩ = some (.slice (some ⟨n + 1, 0, none⟩) L.length L.length) ∧ w'.cell? ⟨n + 1, k, none⟩ = some (.int .i64 d)) (first | exact ⟨k1', k2', k3'⟩ | (with_reducible refine keepP3 hqt (by omega) (by omega) (by assumption)) | go_keep)
                  (first
                    | (go_at_call 194; refine (HPU.out _ (HS6.out.1.below (by repeat (first | exact Below.refl _ _ | apply Below.drew | apply below_drewN)))).mono ?_; rintro e w7 ⟨rfl, v7, hs7, hb7, ha7, hm7⟩; have k1' := ha7.get (n := t) (by simpa using tl) hGt hGt htv (show W6.drew.cell? ⟨t, 1, none⟩ = some (.int .i64 ja) from t1); have k2' : w7.cell? ⟨G, 4, none⟩ = some (.slice (some ⟨n + 1, 0, none⟩) L.length L.length) := (by have h := hs7.ms.sh.oth 4 (by omega) (by omega); rw [show brC (n + 1) (z.1 ++ [⟨2, f, d⟩], b).2.length 4 = .slice (some ⟨n + 1, 0, none⟩) b.length b.length from rfl, hbl] at h; exact h); have k3' : w7.cell? ⟨n + 1, k, none⟩ = some (.int .i64 d) := (by have h := hs7.br.c k (by show k < b.length; omega); rw [show (z.1 ++ [⟨2, f, d⟩], b).2.getD k 0 = d from HD.out.symm] at h; exact h); have hP7 : PlW w7 q z.2 := (HS6.out.2.1.below (Below.drew (Below.refl _ _))).same hb7.size (ha7 q (by have := HS6.out.2.1.lt; simpa using this) (by omega) (by omega) hvq); have e7 := hP7.c ja hja; have kf7 := hP7.f (1 + ja) (by omega)))
                all_goals
                  have hvq7 : v7.ownBlock ≠ some q := hm7.ne (by have := HS6.out.2.1.lt; simpa using this) hvq
                  have hb8 : Below (n + 1) W6 (w7.setCell ⟨q, 1 + ja, none⟩ (.int .i64 (z.1.length : Nat))) := (((Below.drew (Below.refl (n + 1) W6))).trans hb7).setCell (by show n + 1 ≤ q; omega) _
                  have HR := Lib.hid (show BrS (w7.setCell ⟨q, 1 + ja, none⟩ (.int .i64 (z.1.length : Nat))) G (n + 1) v7 (z.1 ++ [⟨2, f, d⟩], b) ∧ PlW (w7.setCell ⟨q, 1 + ja, none⟩ (.int .i64 (z.1.length : Nat))) q (z.2.set ja (z.1.length : Nat)) ∧ TBox w (w7.setCell ⟨q, 1 + ja, none⟩ (.int .i64 (z.1.length : Nat))) n from
                    ⟨hs7.far (by omega) (by omega) hvq7 _, hP7.set hja _, HS6.out.2.2.on hb8⟩)
                  clear t0 t1 t2 g1 g2 e1 k1 hb8 hs7 hb7 ha7 hm7 k1' k2' k3' hP7 e7 kf7
                  go_wp2_with fail
                  go_roundw
                  case rel => exact ⟨k + 1, v7, by omega, by go_num, by rw [HE.out, HEE.out]; exact HR.out.1, by rw [HE.out, HEE.out]; exact HR.out.2.1, hvq7, HR.out.2.2⟩
                  case measure => first | (simp [intOf]; done) | (simp [intOf]; omega)
          · have HE := Lib.hid (show plN L b (k + 1) ((grB L).1, [-1, -1, -1]) = z by
              rw [HZS.out]
              unfold plS
              rw [if_neg (by rw [HGA.out]; simp [hk0'])])
            have hkb : (xk != 0) = true := by simp [hk0']
            go_wp2_with fail
            go_roundw
            case rel => exact ⟨k + 1, v', by omega, by go_num, by rw [HE.out]; exact HS6.out.1, by rw [HE.out]; exact HS6.out.2.1, hvq, HS6.out.2.2⟩
            case measure => first | (simp [intOf]; done) | (simp [intOf]; omega)
        · have hkl : k = L.length := by omega
          subst hkl
          rw [← HRES.out] at hS hP
          obtain ⟨a5, c5, rfl⟩ := hS.ms.slice
          have d0 := hS.ms.sh.c0
          have e0 := hP.c0
          have e1 := hP.c 0 (by omega)
          have e2 := hP.c 1 (by omega)
          have e3 := hP.c 2 (by omega)
          have k0 := hP.f 0 (by omega)
          obtain ⟨W10, hW10⟩ : ∃ W10, W10 = wr.setCell ⟨q, 0, none⟩ (.slice a5 (grP L).1.length c5) := ⟨_, rfl⟩
          have hql := hP.lt
          have H10 := Lib.hid (show GrAt W10 q (.slice a5 (grP L).1.length c5) ((grP L).2.getD 0 0) ((grP L).2.getD 1 0) ((grP L).2.getD 2 0) ∧ TBox w W10 n ∧ OwnGats W10 (n + 1) (.slice a5 (grP L).1.length c5) (grP L).1 from by
            rw [hW10]
            refine ⟨⟨World.cell?_setCell_same _ _ _ e0, ?_, ?_, ?_⟩, hT.on ((Below.refl _ _).setCell (by show n + 1 ≤ q; omega) _), ?_⟩
            · rw [World.cell?_setCell_other _ _ _ _ (addr_ne (by omega))]; exact e1
            · rw [World.cell?_setCell_other _ _ _ _ (addr_ne (by omega))]; exact e2
            · rw [World.cell?_setCell_other _ _ _ _ (addr_ne (by omega))]; exact e3
            · have hmx := (HPL.out L.length (Nat.le_refl _)).1.max
              rw [← HRES.out] at hmx
              exact ((hS.far (o := 0) (by omega) (by omega) hvq (.slice a5 (grP L).1.length c5)).ms.row.own (by show (grP L).1.length ≤ _; omega)).base (by omega))
          have HW10 := Lib.hid hW10
          clear hS hP hT e1 e2 e3 hW10 hlt
          go_upto_region 21 with fail
          rw [← HW10.out]
          clear HW10 d0 e0 k0
          obtain ⟨q0, q1, q2, q3⟩ := H10.out.1
          obtain ⟨t0, t1, t2, t3⟩ := H10.out.2.1.g
          have u0 := H10.out.2.1.f 0
          have u1 := H10.out.2.1.f 1
          have u2 := H10.out.2.1.f 2
          have u3 := H10.out.2.1.f 3
          obtain ⟨x0, hx0⟩ : ∃ x, x = (grP L).2.getD 0 0 := ⟨_, rfl⟩
          obtain ⟨x1, hx1⟩ : ∃ x, x = (grP L).2.getD 1 0 := ⟨_, rfl⟩
          obtain ⟨x2, hx2⟩ : ∃ x, x = (grP L).2.getD 2 0 := ⟨_, rfl⟩
          rw [← hx0] at q1
          rw [← hx1] at q2
          rw [← hx2] at q3
          have HX := Lib.hid (And.intro hx0 (And.intro hx1 hx2))
          clear hx0 hx1 hx2 HRES
          go_wp2_with fail
          refine bodyPost_ret (v := .agg #[.slice a5 (grP L).1.length c5, .int .i64 x0, .int .i64 x1, .int .i64 x2]) (by simp [results, Try.results160, go_sem, t0, t1, t2, t3]) rfl ⟨_, by rw [HX.out.1, HX.out.2.1, HX.out.2.2], ?_, ?_⟩
          · exact (OwnGats.setAway (OwnGats.setAway (OwnGats.setAway (OwnGats.setAway H10.out.2.2 (by omega) _ _) (by omega) _ _) (by omega) _ _) (by omega) _ _).base (by omega)
          · repeat (refine Below.setCell ?_ (by first | omega | (simp; done) | (simp; omega)) _)
            exact H10.out.2.1.b
end Go.Proofs.Ytibghhkhnpjdfaa
namespace Go.Proofs.Ytibghhkhnpjdfaa
open Go.RowKit
/-- a call hands back a gradient with gates of its own, and a truth value -/
def GivesGr (R : List Gt) (x y z : Int) (b : Bool) (w : World) (e : Ending) (w' : World) : Prop :=
  ∃ u, e = .returned (.tuple #[.agg #[u, .int .i64 x, .int .i64 y, .int .i64 z], .bool b]) ∧ OwnGats w' w.heap.size u R ∧ Below w.heap.size w w'
theorem ownG_nil (w : World) (B : Nat) : OwnGats w B (.slice none 0 0) [] := (RowGt.nil w B).own (by simp)
set_option maxRecDepth 100000 in
set_option maxHeartbeats 8000000 in
theorem sGradientOf (p : Int) (f : Value) (L : List Gt) (w : World) (h : Gats w f L) :
    Calls Try.prog 74 #[.int .i64 p, f] w (GivesGr (grC p L) (grPl p L 0) (grPl p L 1) (grPl p L 2) (grB2 p L) w) := by
  obtain ⟨n, hn⟩ : ∃ n, n = w.heap.size := ⟨_, rfl⟩
  obtain ⟨W, hW⟩ : ∃ W, W = w.alloc (Obj.cells #[.slice none 0 0, .int .i64 0, .int .i64 0, .int .i64 0] 78) := ⟨_, rfl⟩
  have hA : GrAt W n (.slice none 0 0) 0 0 0 := by rw [hW, hn]; refine ⟨?_, ?_, ?_, ?_⟩ <;> simp [go_sem]
  have hAf : ∀ i, W.frozen? ⟨n, i, none⟩ = false := fun i => by rw [hW, hn]; exact World.frozen?_alloc_at _ _ _ i rfl
  have bW : Below n w W := by rw [hW, hn]; exact (by repeat (first | exact Below.refl _ _ | apply Below.drew | apply below_drewN | (refine Below.alloc ?_ (by first | omega | (simp <;> omega)) _)))
  have hsW : W.heap.size = n + 1 := by rw [hW, hn]; simp
  have hT : TBox w W n := ⟨hA, hAf, bW⟩
  have hG := h.below (hn ▸ bW)
  have HCV := Lib.hid (sCircuitValid p f L W hG)
  have HT := Lib.hid hT
  have HW := Lib.hid hW
  have HN := Lib.hid hn
  unfold GivesGr
  rw [← hn]
  cases hv : circB p L
  · have e1 : grB2 p L = false := by unfold grB2; rw [hv]; rfl
    have HE := Lib.hid (show grC p L = [] ∧ (∀ v, grPl p L v = 0) ∧ grB2 p L = false from ⟨by unfold grC; rw [if_neg (by simp [e1])], fun v => by unfold grPl; rw [if_neg (by simp [e1])], e1⟩)
    have HV := Lib.hid hv
    obtain ⟨_, a, cap, rfl, _⟩ := h
    clear hv e1 hW bW hA hAf hT hG hn
    go_enter Try.func74, Try.ntmps74
    go_wp2_with fail
    rw [← HW.out, ← HN.out]
    clear HW HN
    refine HCV.out.mono ?_
    rintro e w1 ⟨he, hb⟩
    rw [HV.out] at he
    subst he
    have hT1 := HT.out.on (hb.mono (by omega))
    obtain ⟨t0, t1, t2, t3⟩ := hT1.g
    have u0 := hT1.f 0
    have u1 := hT1.f 1
    have u2 := hT1.f 2
    have u3 := hT1.f 3
    have HT1 := Lib.hid hT1
    clear hb hT1
    go_wp2_with fail
    refine bodyPost_ret (v := .tuple #[.agg #[.slice none 0 0, .int .i64 0, .int .i64 0, .int .i64 0], .bool false]) (by simp [results, Try.results74, go_sem, t0, t1, t2, t3]) rfl ⟨_, by rw [HE.out.2.1, HE.out.2.1, HE.out.2.1, HE.out.2.2], by rw [HE.out.1]; exact ownG_nil _ _, ?_⟩
    repeat (refine Below.setCell ?_ (by first | omega | (simp; done) | (simp; omega)) _)
    exact HT1.out.b
  · obtain ⟨g, off, cap, rfl, hg, hc⟩ := gats_slice hG hv
    have HM := Lib.hid (fun w' (hb : Below W.heap.size W w') => sMade p L hv g off cap w' (Nat.lt_of_lt_of_le hg hb.size) (fun j hj => (hc j hj).below hb hg))
    have HV := Lib.hid hv
    have HPK := Lib.hid (plK_st hv L.length (Nat.le_refl _)).1.max
    have HS := Lib.hid hsW
    clear h hW bW hA hAf hT hG hn hv hg hc hsW
    go_enter Try.func74, Try.ntmps74
    go_wp2_with fail
    rw [← HW.out, ← HN.out]
    clear HW HN
    refine HCV.out.mono ?_
    rintro e w1 ⟨he, hb⟩
    rw [HV.out] at he
    subst he
    have HX := Lib.hid hb
    have HT1 := Lib.hid (HT.out.on (hb.mono (by rw [HS.out]; omega)))
    have hs1 := hb.size
    clear hb
    go_wp2_with fail
    refine (HM.out _ HX.out).mono ?_
    rintro e w2 ⟨u, rfl, ho, hb⟩
    have hn1 : n + 1 ≤ w1.heap.size := by have := HS.out; omega
    obtain ⟨u, hu2, hu3⟩ : ∃ u', u = u' ∧ ∃ a2 cap2, u' = .slice a2 (grP L).1.length cap2 := by
      obtain ⟨_, a2, cap2, hu, _⟩ := ho
      exact ⟨_, rfl, a2, cap2, hu⟩
    subst hu2
    obtain ⟨a2, cap2, rfl⟩ := hu3
    obtain ⟨x0, hx0⟩ : ∃ x, x = (grP L).2.getD 0 0 := ⟨_, rfl⟩
    obtain ⟨x1, hx1⟩ : ∃ x, x = (grP L).2.getD 1 0 := ⟨_, rfl⟩
    obtain ⟨x2, hx2⟩ : ∃ x, x = (grP L).2.getD 2 0 := ⟨_, rfl⟩
    rw [← hx0, ← hx1, ← hx2]
    obtain ⟨m, hm⟩ : ∃ m, m = (grP L).1.length := ⟨_, rfl⟩
    obtain ⟨W3, hW3⟩ : ∃ W3, W3 = w2.alloc (Obj.cells #[.slice a2 m cap2, .int .i64 x0, .int .i64 x1, .int .i64 x2] 78) := ⟨_, rfl⟩
    obtain ⟨q, hq⟩ : ∃ q, q = w2.heap.size := ⟨_, rfl⟩
    have b3 : Below w2.heap.size w2 W3 := by rw [hW3]; exact Below.alloc (Below.refl _ _) (Nat.le_refl _) _
    have H3 := Lib.hid (show GrAt W3 q (.slice a2 m cap2) x0 x1 x2 ∧ TBox w W3 n ∧ OwnGats W3 (n + 1) (.slice a2 m cap2) (grP L).1 from by
      refine ⟨by rw [hW3, hq]; refine ⟨?_, ?_, ?_, ?_⟩ <;> simp [go_sem], HT1.out.on ((hb.mono hn1).trans (b3.mono (by have := hb.size; omega))), ?_⟩
      rw [hm]
      exact (ho.below b3).base hn1)
    rw [← hm]
    have HW3 := Lib.hid hW3
    have HQ := Lib.hid hq
    have HM2 := Lib.hid hm
    have HX2 := Lib.hid (And.intro hx0 (And.intro hx1 hx2))
    have hm360 : (m : Int) ≤ 361 := by have := HPK.out; rw [hm]; show ((grP L).1.length : Int) ≤ 361; have h5 : (grP L).1.length ≤ 361 := this; omega
    clear hb ho hW3 hq b3 hm hx0 hx1 hx2 HPK HM
    go_upto_region 4 with fail
    rw [← HW3.out, ← HQ.out]
    clear HW3 HQ
    obtain ⟨q0, q1, q2, q3⟩ := H3.out.1
    obtain ⟨t0, t1, t2, t3⟩ := H3.out.2.1.g
    have u0 := H3.out.2.1.f 0
    have u1 := H3.out.2.1.f 1
    have u2 := H3.out.2.1.f 2
    have u3 := H3.out.2.1.f 3
    by_cases hm60 : m ≤ 60
    · have hmi : ¬ (m : Int) > 60 := by omega
      have e1 : grB2 p L = true := by unfold grB2; rw [HV.out, ← HM2.out, decide_eq_true hm60]; rfl
      have HE := Lib.hid (show grC p L = (grP L).1 ∧ (∀ v, grPl p L v = (grP L).2.getD v 0) ∧ grB2 p L = true from ⟨by unfold grC; rw [if_pos e1], fun v => by unfold grPl; rw [if_pos e1], e1⟩)
      clear e1
      go_wp2_with fail
      refine bodyPost_ret (v := .tuple #[.agg #[.slice a2 m cap2, .int .i64 x0, .int .i64 x1, .int .i64 x2], .bool true]) (by simp [results, Try.results74, go_sem, t0, t1, t2, t3]) rfl ⟨_, by rw [HE.out.2.1, HE.out.2.1, HE.out.2.1, HE.out.2.2, HX2.out.1, HX2.out.2.1, HX2.out.2.2], ?_, ?_⟩
      · rw [HE.out.1]
        exact (OwnGats.setAway (OwnGats.setAway (OwnGats.setAway (OwnGats.setAway H3.out.2.2 (by omega) _ _) (by omega) _ _) (by omega) _ _) (by omega) _ _).base (by omega)
      · repeat (refine Below.setCell ?_ (by first | omega | (simp; done) | (simp; omega)) _)
        exact H3.out.2.1.b
    · have hmi : (m : Int) > 60 := by omega
      have e1 : grB2 p L = false := by unfold grB2; rw [← HM2.out, decide_eq_false hm60]; simp
      have HE := Lib.hid (show grC p L = [] ∧ (∀ v, grPl p L v = 0) ∧ grB2 p L = false from ⟨by unfold grC; rw [if_neg (by simp [e1])], fun v => by unfold grPl; rw [if_neg (by simp [e1])], e1⟩)
      clear e1
      go_wp2_with fail
      refine bodyPost_ret (v := .tuple #[.agg #[.slice none 0 0, .int .i64 0, .int .i64 0, .int .i64 0], .bool false]) (by simp [results, Try.results74, go_sem, t0, t1, t2, t3]) rfl ⟨_, by rw [HE.out.2.1, HE.out.2.1, HE.out.2.1, HE.out.2.2], by rw [HE.out.1]; exact ownG_nil _ _, ?_⟩
      repeat (refine Below.setCell ?_ (by first | omega | (simp; done) | (simp; omega)) _)
      exact H3.out.2.1.b
end Go.Proofs.Ytibghhkhnpjdfaa
