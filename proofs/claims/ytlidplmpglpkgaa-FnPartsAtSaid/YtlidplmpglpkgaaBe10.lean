/-
  Contract of the program's PruneCircuit. Conditions: what the slice holds is known.
-/
import Derived.Test.YtlidplmpglpkgaaBe4
import Derived.Test.YtlidplmpglpkgaaBe9
import Derived.Test.YtlidplmpglpkgaaBa15
import Derived.Deep.AppendLies
namespace Go.Proofs.Ytlidplmpglpkgaa
open Go.RowKit
/-- what was there is as it was, but for block G and one row -/
def ApartU (G : Nat) (v : Value) (w w' : World) : Prop :=
  ∀ b, b < w.heap.size → b ≠ G → v.ownBlock ≠ some b → w'.heap[b]? = w.heap[b]?
/-- the row stays in its block or lies in a new one -/
def MovesU (v v' : Value) (w : World) : Prop := v'.ownBlock = v.ownBlock ∨ ∃ b, v'.ownBlock = some b ∧ w.heap.size ≤ b
theorem MovesU.ne {v v' : Value} {w : World} {b : Nat} (h : MovesU v v' w) (hb : b < w.heap.size) (hv : v.ownBlock ≠ some b) : v'.ownBlock ≠ some b := by
  rcases h with h | ⟨c, h, hc⟩
  · rw [h]; exact hv
  · rw [h]; intro e; injection e with e; omega
theorem ArrI.apart {w w' : World} {g G : Nat} {v : Value} {D : List Int} (h : ArrI w g D) (ha : ApartU G v w w') (hs : w.heap.size ≤ w'.heap.size) (hg : g ≠ G) (hv : v.ownBlock ≠ some g) : ArrI w' g D := by
  have e := ha g h.1 hg hv
  exact ⟨Nat.lt_of_lt_of_le h.1 hs, fun j hj => ⟨by rw [World.cell?_of_block (a := ⟨g, j, none⟩) e]; exact (h.2 j hj).1, by rw [World.frozen?_of_block (a := ⟨g, j, none⟩) e]; exact (h.2 j hj).2⟩⟩
theorem apart_ofU {w W W' w3 : World} {G : Nat} {v : Value} (hb : Below w.heap.size w W) (hW : Below W.heap.size W W') (hg : W'.grownBy w3 v.ownBlock) : ApartU G v w w3 := fun b h _ hv => by
  have h1 := hb.size
  have h2 := hW.size
  rw [hg.block b (by omega) (fun e => hv e.symm), hW.block b (by omega), hb.block b h]
set_option maxRecDepth 100000 in
set_option maxHeartbeats 8000000 in
theorem iPutGx (B G : Nat) (p : Int) (v : Value) (L : List Gt) (x : Gt) (w : World) (hl : L.length ≤ 1000) (hBG : B ≤ G) (h : MakW w G p v) (hr : RowGt w (G + 1) v L) :
    Calls Try.prog 145 #[.pointer (some ⟨G, 0, none⟩), .agg #[.int .i64 x.k, .int .i64 x.a, .int .i64 x.b]] w fun e w' =>
      ∃ v', e = .returned (.int .i64 L.length) ∧ RowGt w' (G + 1) v' (L ++ [x]) ∧ MakW w' G p v' ∧ Below B w w' ∧ ApartU G v w w' ∧ MovesU v v' w := by
  obtain ⟨i0, hi, hz0, hz1, hz2⟩ := info_parts infoG
  obtain ⟨W, hW⟩ : ∃ W, W = w.alloc (Obj.cells #[.int .i64 x.k, .int .i64 x.a, .int .i64 x.b] 137) := ⟨_, rfl⟩
  have bW : Below w.heap.size w W := by rw [hW]; exact Below.alloc (Below.refl _ _) (Nat.le_refl _) _
  have e0 : W.cell? ⟨w.heap.size, 0, none⟩ = some (.int .i64 x.k) := by rw [hW]; simp [go_sem]
  have e1 : W.cell? ⟨w.heap.size, 1, none⟩ = some (.int .i64 x.a) := by rw [hW]; simp [go_sem]
  have e2 : W.cell? ⟨w.heap.size, 2, none⟩ = some (.int .i64 x.b) := by rw [hW]; simp [go_sem]
  have hM := h.below bW
  have hR := hr.below bW
  have hsW : w.heap.size < W.heap.size := by rw [hW]; simp
  have HW := Lib.hid hW
  have c0 := hM.c0
  have c1 := hM.c1
  have f0 := hM.f0
  have hG := hM.lt
  have HM := Lib.hid hM
  have HR := Lib.hid hR
  have HbW := Lib.hid bW
  have hGw : G + 1 ≤ w.heap.size := h.lt
  clear hW hM hR bW h hr
  go_enter Try.func145, Try.ntmps145
  go_wp2_with fail
  rw [← HW.out]
  clear HW
  go_region_law (refine step_append_lies _ rfl _ _ 43 rfl (G + 1) 137 i0 (.agg #[.int .i64 0, .int .i64 0, .int .i64 0]) 3 24 Try.underlying43 hi hz0 hz1 hz2 rfl (by decide) v L.length (flatG L) (by simp [Act.eval]) (RowGt.below HR.out (by repeat (first | exact Below.refl _ _ | apply Below.drew | apply below_drewN | (refine Below.alloc ?_ (by first | omega | (simp <;> omega)) _)))) _ 1 1 [.int .i64 x.k, .int .i64 x.a, .int .i64 x.b] (by simp [Act.eval]; rfl) rfl (by intro j u hj; match j, hj with | 0, hj => (simp at hj; subst hj; simp [Addr.add, go_sem]) | 1, hj => (simp at hj; subst hj; simp [Addr.add, go_sem]) | 2, hj => (simp at hj; subst hj; simp [Addr.add, go_sem])) (gate_ok _ _ _) (by omega) (by unfold maxLen; omega) (by omega) (by first | omega | (simp; omega)) _ rfl ?_; intro gv cv w3 hown' hgrow hat _; obtain ⟨k0, k1, k2, k3⟩ := (MakW.below HM.out (by repeat (first | exact Below.refl _ _ | apply Below.drew | apply below_drewN | (refine Below.alloc ?_ (by first | omega | (simp <;> omega)) _)))).grown hgrow (HR.out.block (Nat.lt_succ_self G)); replace hat : v.ownBlock = some gv ∨ w.heap.size ≤ gv := hat.imp id (fun e => by rw [e]; first | omega | (simp; omega)); have hap : ApartU G v w w3 := apart_ofU HbW.out (by repeat (first | exact Below.refl _ _ | apply Below.drew | apply below_drewN | (refine Below.alloc ?_ (by first | omega | (simp <;> omega)) _))) hgrow)
  all_goals
    have hR3 : RowGt w3 (G + 1) (.slice (some ⟨gv, 0, none⟩) (L.length + 1) cv) (L ++ [x]) := RowGt.snoc x hown'
    have hR4 := hR3.setFar (Nat.lt_succ_self G) 0 (.slice (some ⟨gv, 0, none⟩) (L.length + 1) cv)
    have hM4 : MakW (w3.setCell ⟨G, 0, none⟩ (.slice (some ⟨gv, 0, none⟩) (L.length + 1) cv)) G p (.slice (some ⟨gv, 0, none⟩) (L.length + 1) cv) := MakW.set ⟨k0, k1, k2, k3⟩ _
    have hB4 : Below B w (w3.setCell ⟨G, 0, none⟩ (.slice (some ⟨gv, 0, none⟩) (L.length + 1) cv)) :=
      ((HR.out.grow (HbW.out.mono hGw) (by omega) (by repeat (first | exact Below.refl _ _ | apply Below.drew | apply below_drewN | (refine Below.alloc ?_ (by first | omega | (simp <;> omega)) _))) hgrow).mono (by omega)).setCell hBG _
    have hA4 : ApartU G v w (w3.setCell ⟨G, 0, none⟩ (.slice (some ⟨gv, 0, none⟩) (L.length + 1) cv)) := fun b hb hbG hv => (Below.heap_setCell _ _ _ _ (by simpa using fun e => hbG e)).trans (hap b hb hbG hv)
    have hV4 : MovesU v (.slice (some ⟨gv, 0, none⟩) (L.length + 1) cv) w := by
      rcases hat with e | e
      · exact .inl e.symm
      · exact .inr ⟨gv, rfl, e⟩
    have HL := Lib.hid (show (((L.length + 1 : Nat) : Int) - 1 = ((L.length : Nat) : Int)) by omega)
    clear hown' hgrow hR3 c0 c1 f0 e0 e1 e2 hap
    go_wp2_with (go_at_call 127; refine (iLast _ (L.length + 1) _ L.length (by omega) HL.out _).mono ?_; rintro e w' ⟨rfl, rfl⟩)
    go_ret
    exact ⟨_, rfl, hR4, hM4, hB4, hA4, hV4⟩
/-- what the rounds keep: the maker, its row, the places, the list of numbers -/
structure ISt (w0 : World) (G PB g2 o2 : Nat) (p : Int) (l : List Int) (D : List Int) (v : Value) (R : List Gt) (wr : World) : Prop where
  mak : MakW wr G p v
  row : RowGt wr (G + 1) v R
  nP : v.ownBlock ≠ some PB
  nl : v.ownBlock ≠ some g2
  aP : ArrI wr PB D
  rd : ∀ j : Nat, j < l.length → wr.cell? ⟨g2, o2 + j, none⟩ = some (.int .i64 (l.getD j 0))
  lt : g2 < wr.heap.size
  low : Below w0.heap.size w0 wr
  far : w0.heap.size ≤ G ∧ G < PB ∧ PB ≠ g2 ∧ G ≠ g2
section
variable {w0 wr : World} {G PB g2 o2 : Nat} {p : Int} {l D : List Int} {v : Value} {R : List Gt}
theorem ISt.on (h : ISt w0 G PB g2 o2 p l D v R wr) {w' : World} (hb : Below wr.heap.size wr w') : ISt w0 G PB g2 o2 p l D v R w' :=
  ⟨h.mak.below hb, h.row.below hb, h.nP, h.nl, h.aP.below hb h.aP.1, fun j hj => by rw [hb.cell (p := ⟨g2, o2 + j, none⟩) h.lt]; exact h.rd j hj, Nat.lt_of_lt_of_le h.lt hb.size, h.low.trans (hb.mono h.low.size), h.far⟩
theorem ISt.sn (h : ISt w0 G PB g2 o2 p l D v R wr) (X o : Nat) (u : Value) (hv : v.ownBlock ≠ some X) (hX : PB < X) (hl : X ≠ g2) : ISt w0 G PB g2 o2 p l D v R (wr.setCell ⟨X, o, none⟩ u) := by
  obtain ⟨f1, f2, f3, f4⟩ := h.far
  refine ⟨⟨?_, ?_, by rw [World.frozen?_setCell]; exact h.mak.f0, by simpa using h.mak.lt⟩, World.ownsRow.kept (row := some X) h.row ⟨rfl, rfl, rfl, by simp, fun k hk hne => Below.heap_setCell _ _ _ _ (fun e => hne (by rw [e]))⟩ (.inr hv), h.nP, h.nl, ⟨by simpa using h.aP.1, fun j hj => ⟨?_, by rw [World.frozen?_setCell]; exact (h.aP.2 j hj).2⟩⟩, fun j hj => ?_, by simpa using h.lt, h.low.setCell (show w0.heap.size ≤ X by omega) _, h.far⟩
  · rw [World.cell?_setCell_other _ _ _ _ (addr_ne (by omega))]; exact h.mak.c0
  · rw [World.cell?_setCell_other _ _ _ _ (addr_ne (by omega))]; exact h.mak.c1
  · rw [World.cell?_setCell_other _ _ _ _ (addr_ne (by omega))]; exact (h.aP.2 j hj).1
  · rw [World.cell?_setCell_other _ _ _ _ (addr_ne (by omega))]; exact h.rd j hj
theorem ISt.put (h : ISt w0 G PB g2 o2 p l D v R wr) {k : Nat} (hl : D.length = k) (hk : k < 60) (x : Int) : ISt w0 G PB g2 o2 p l (D ++ [x]) v R (wr.setCell ⟨PB, k, none⟩ (.int .i64 x)) := by
  obtain ⟨f1, f2, f3, f4⟩ := h.far
  refine ⟨⟨?_, ?_, by rw [World.frozen?_setCell]; exact h.mak.f0, by simpa using h.mak.lt⟩, World.ownsRow.kept (row := some PB) h.row ⟨rfl, rfl, rfl, by simp, fun k hk hne => Below.heap_setCell _ _ _ _ (fun e => hne (by rw [e]))⟩ (.inr h.nP), h.nP, h.nl, h.aP.set hl hk x, fun j hj => ?_, by simpa using h.lt, h.low.setCell (show w0.heap.size ≤ PB by omega) _, h.far⟩
  · rw [World.cell?_setCell_other _ _ _ _ (addr_ne (by omega))]; exact h.mak.c0
  · rw [World.cell?_setCell_other _ _ _ _ (addr_ne (by omega))]; exact h.mak.c1
  · rw [World.cell?_setCell_other _ _ _ _ (addr_ne (by omega))]; exact h.rd j hj
theorem ISt.app (h : ISt w0 G PB g2 o2 p l D v R wr) {w' : World} {v' : Value} {R' : List Gt} (hr : RowGt w' (G + 1) v' R') (hm : MakW w' G p v') (hb : Below w0.heap.size wr w') (ha : ApartU G v wr w') (hv : MovesU v v' wr) : ISt w0 G PB g2 o2 p l D v' R' w' := by
  obtain ⟨f1, f2, f3, f4⟩ := h.far
  have e := ha g2 h.lt (by omega) h.nl
  exact ⟨hm, hr, hv.ne h.aP.1 h.nP, hv.ne h.lt h.nl, h.aP.apart ha hb.size (by omega) h.nP, fun j hj => by rw [World.cell?_of_block (a := ⟨g2, o2 + j, none⟩) e]; exact h.rd j hj, Nat.lt_of_lt_of_le h.lt hb.size, h.low.trans hb, h.far⟩
theorem ISt.new (h : ISt w0 G PB g2 o2 p l D v R wr) {X : Nat} (hX : wr.heap.size ≤ X) : v.ownBlock ≠ some X := fun e => by
  have := (World.ownsRow.lt h.row X e).2
  omega
theorem ISt.same (h : ISt w0 G PB g2 o2 p l D v R wr) {E : List Int} {S : List Gt} (he : ∀ i, D.getD i 0 = E.getD i 0) (hs : R = S) : ISt w0 G PB g2 o2 p l E v S wr := by
  subst hs
  exact ⟨h.mak, h.row, h.nP, h.nl, h.aP.same he, h.rd, h.lt, h.low, h.far⟩
end
theorem prn_end (L : List Gt) (U : Nat → Bool) {k n : Nat} (hk : k ≤ n) (h : (useTo U k).length = (useTo U n).length) : prnL L U k = prnL L U n := by
  obtain ⟨d, rfl⟩ := Nat.exists_eq_add_of_le hk
  exact (prn_skip L U k d (fun i h1 h2 => use_none U h h1 h2)).symm
set_option maxRecDepth 100000 in
set_option maxHeartbeats 16000000 in
theorem iPrune_yes (p : Int) (f : Value) (L : List Gt) (w : World) (h : Gats w f L) (hv : circB p L = true) :
    Calls Try.prog 138 #[.int .i64 p, f] w (GivesGB (prnL L (useF L) L.length) true w) := by
  have HV := Lib.hid hv
  obtain ⟨hp, hl1, hl2, hall⟩ := circB_iff.1 hv
  have eU : useV p L = useTo (useF L) 60 := by simp [useV, hv]
  have HMm := Lib.hid (show ∀ x ∈ useTo (useF L) 60, ∃ j : Nat, x = j ∧ j < L.length from fun x hx => by
      obtain ⟨j, e, hu⟩ := useTo_mem _ _ _ hx
      exact ⟨j, e, useM_lt hv _ j hu⟩)
  have HG := Lib.hid h
  obtain ⟨g, off, cap, rfl, hg, hc⟩ := gats_u h hv
  have HC := Lib.hid hc
  have HEU := Lib.hid eU
  have hll := useTo_len (useF L) 60
  have HA := Lib.hid hall
  obtain ⟨WA, hWA⟩ : ∃ W, W = (w.alloc (Obj.cells #[.slice none 0 0, .int .i64 p] 127)).alloc (.cells (Array.replicate 60 (.int .i64 0)) 128) := ⟨_, rfl⟩
  have BA : Below w.heap.size w WA := by rw [hWA]; exact (by repeat (first | exact Below.refl _ _ | apply Below.drew | apply below_drewN | (refine Below.alloc ?_ (by first | omega | (simp <;> omega)) _)))
  have MA : MakW WA w.heap.size p (.slice none 0 0) := by rw [hWA]; exact ⟨by simp [go_sem], by simp [go_sem], by simp [go_sem], by simp; omega⟩
  have AA : ArrI WA (w.heap.size + 1) [] := by
    rw [hWA]
    have := ArrI.new (w.alloc (Obj.cells #[.slice none 0 0, .int .i64 p] 127)) 128
    simpa using this
  have hsA : w.heap.size + 2 = WA.heap.size := by rw [hWA]; simp
  have HWA := Lib.hid hWA
  have HBA := Lib.hid BA
  have HMA := Lib.hid MA
  have HAA := Lib.hid AA
  have HsA := Lib.hid hsA
  clear h hc hall hp hv eU hWA BA MA AA hsA
  go_enter Try.func138, Try.ntmps138
  go_wp2_with fail
  change Calls _ _ _ ((w.alloc (Obj.cells #[.slice none 0 0, .int .i64 p] 127)).alloc (.cells (Array.replicate 60 (.int .i64 0)) 128)) _
  rw [← HWA.out]
  refine (iUsedGates p _ L _ (HG.out.below HBA.out)).mono ?_
  rintro e w2 ⟨v, rfl, hO, hb2⟩
  rw [HEU.out] at hO
  obtain ⟨_, al, cl, rfl, hO⟩ := hO
  have hul := useTo_len (useF L) 60
  have hul0 : 0 < (useTo (useF L) 60).length := by
    have h := useTo_mono (useF L) (show L.length - 1 + 1 ≤ 60 by omega)
    rw [useTo_step (useF_last HV.out)] at h
    simp at h
    omega
  rcases hO with h0 | ⟨g2, o2, rfl, hB2, hg2, hcl, _⟩
  · rw [h0] at hul0; simp at hul0
  obtain ⟨G, hG⟩ : ∃ G, G = w.heap.size := ⟨_, rfl⟩
  obtain ⟨PB, hPB⟩ : ∃ P, P = w.heap.size + 1 := ⟨_, rfl⟩
  obtain ⟨l, hl⟩ : ∃ l, l = useTo (useF L) 60 := ⟨_, rfl⟩
  have S0 : ISt w G PB g2 o2 p l (plL (useF L) 0) (.slice none 0 0) (prnL L (useF L) 0) w2 := by
    have hsz := HsA.out
    have hA := HMA.out.below hb2
    have hP := HAA.out.below hb2 (by omega)
    refine ⟨by rw [hG]; exact hA, RowGt.nil _ _, by simp [Value.ownBlock], by simp [Value.ownBlock], by rw [hPB]; exact hP, by rw [hl]; exact hcl, hg2, HBA.out.trans (hb2.mono HBA.out.size), by omega, by omega, by omega, by omega⟩
  rw [← hPB, ← hG]
  rw [← hl] at hul hul0 ⊢
  have hGw : w.heap.size ≤ G := by omega
  have hGP : G < PB := by omega
  have HL := Lib.hid hl
  clear hl hcl hb2 hB2 hG hPB hg2
  go_wp2_with fail
  go_loopw [17] (fun i wr => ∃ t k : Nat, ∃ v : Value, t ≤ l.length ∧ i = .int .i64 t ∧ k ≤ 60 ∧ useTo (useF L) k = l.take t ∧ ISt w G PB g2 o2 p l (plL (useF L) k) v (prnL L (useF L) k) wr) (fun i _ => l.length - (intOf i).toNat)
  case atStart => exact ⟨0, 0, _, by omega, rfl, by omega, by simp [useTo], S0⟩
  case round =>
    clear S0
    rename_i K' hK'
    have HK' := Lib.hid hK'
    clear hK'
    obtain ⟨t, k, v, ht, rfl, hk, hut, hS⟩ := hrel
    by_cases hlt : t < l.length
    · have hltp : (t : Int) < (l.length : Int) := by omega
      have ht0 : (0 : Int) ≤ (t : Int) := by omega
      obtain ⟨j, hj60, huj, hjl, hju⟩ := use_pos (useF L) 60 t (by rw [← HL.out]; exact hlt)
      rw [← HL.out] at hjl hju
      have hjL : j < L.length := useM_lt HV.out _ j huj
      have hjp : (j : Int) < (L.length : Int) := by omega
      have hj0 : (0 : Int) ≤ (j : Int) := by omega
      have hj60' : (j : Int) < 60 := by omega
      obtain ⟨hkj, hpr, hpl⟩ := prn_to L (useF L) huj (hut.trans hju.symm)
      have S1 := hS.same hpl hpr
      have q0 := S1.rd t hlt
      rw [hjl] at q0
      obtain ⟨a0, a1, a2⟩ := (HC.out j hjL).below S1.low hg
      have hx0 := HA.out j hjL
      obtain ⟨x, hx⟩ : ∃ x, x = L.getD j default := ⟨_, rfl⟩
      rw [← hx] at a0 a1 a2
      rw [← gat_mk hx] at hx0
      have hcs := gOK_cases hx0
      simp only at hcs
      have HX := Lib.hid (gat_mk hx).symm
      have HUJ := Lib.hid huj
      have HT := Lib.hid (show useTo (useF L) (j + 1) = l.take (t + 1) by rw [useTo_step huj, hju, take_snocZ hlt, hjl])
      have hPBs := S1.aP.1
      obtain ⟨xk, xa, xb⟩ := x
      simp only at a0 a1 a2 hcs HX
      have hl60 : (prnL L (useF L) j).length ≤ 60 := by rw [prnL_len]; have := useTo_len (useF L) j; omega
      have HP := Lib.hid (show plL (useF L) (j + 1) = plL (useF L) j ++ [((prnL L (useF L) j).length : Int)] by rw [plL_succ, prnL_len]; simp [pl, huj])
      obtain ⟨W1, hW1⟩ : ∃ W, W = wr.alloc (Obj.cells #[.int .i64 xk, .int .i64 xa, .int .i64 xb] 137) := ⟨_, rfl⟩
      have e0 : W1.cell? ⟨wr.heap.size, 0, none⟩ = some (.int .i64 xk) := by rw [hW1]; simp [go_sem]
      have e1 : W1.cell? ⟨wr.heap.size, 1, none⟩ = some (.int .i64 xa) := by rw [hW1]; simp [go_sem]
      have e2 : W1.cell? ⟨wr.heap.size, 2, none⟩ = some (.int .i64 xb) := by rw [hW1]; simp [go_sem]
      have z1 : W1.frozen? ⟨wr.heap.size, 1, none⟩ = false := by rw [hW1]; simp [go_sem]
      have z2 : W1.frozen? ⟨wr.heap.size, 2, none⟩ = false := by rw [hW1]; simp [go_sem]
      have hlt1 : wr.heap.size < W1.heap.size := by rw [hW1]; simp
      have S2 := S1.on (w' := W1) (by rw [hW1]; exact (by repeat (first | exact Below.refl _ _ | apply Below.drew | apply below_drewN | (refine Below.alloc ?_ (by first | omega | (simp <;> omega)) _))))
      have hg2 : g2 < wr.heap.size := S1.lt
      have HS1 := Lib.hid S1
      have HS2 := Lib.hid S2
      have HW1 := Lib.hid hW1
      have HN := Lib.hid (show v.ownBlock ≠ some wr.heap.size from S1.new (Nat.le_refl _))
      clear hS S1 S2 hx hx0 huj hut hju hpr hpl hjl hkj hW1
      by_cases h2 : 2 ≤ xk
      · have HE := Lib.hid (show prnL L (useF L) (j + 1) = prnL L (useF L) j ++ [⟨xk, pl (useF L) xa.toNat, pl (useF L) xb.toNat⟩] by
          rw [prnL, HUJ.out, HX.out]
          have : joinsB ⟨xk, xa, xb⟩ = true := by simp [joinsB]; omega
          simp [mapG, this])
        have HJ := Lib.hid (show joinsB ⟨xk, xa, xb⟩ = true by simp [joinsB]; omega)
        obtain ⟨ja, rfl⟩ := Int.eq_ofNat_of_zero_le (show 0 ≤ xa by omega)
        obtain ⟨jb, rfl⟩ := Int.eq_ofNat_of_zero_le (show 0 ≤ xb by omega)
        rw [Int.toNat_natCast, Int.toNat_natCast] at HE
        have hja : ja < j := by omega
        have hjb : jb < j := by omega
        have hja60 : (ja : Int) < 60 := by omega
        have hjb60 : (jb : Int) < 60 := by omega
        have hja0 : (0 : Int) ≤ ja := by omega
        have hjb0 : (0 : Int) ≤ jb := by omega
        go_wp2_with fail
        rw [← HW1.out]
        refine (iJoins_is true xk ja jb HJ.out _).mono ?_
        rintro e w3 ⟨rfl, hb3⟩
        have S3 := HS2.out.on hb3
        have d0 := hb3.cell (p := ⟨wr.heap.size, 0, none⟩) hlt1
        have d1 := hb3.cell (p := ⟨wr.heap.size, 1, none⟩) hlt1
        have d2 := hb3.cell (p := ⟨wr.heap.size, 2, none⟩) hlt1
        have y1 := hb3.frozen (p := ⟨wr.heap.size, 1, none⟩) hlt1
        have y2 := hb3.frozen (p := ⟨wr.heap.size, 2, none⟩) hlt1
        rw [e0] at d0; rw [e1] at d1; rw [e2] at d2; rw [z1] at y1; rw [z2] at y2
        have hs3 := hb3.size
        have r0 := (S3.aP.2 ja (by omega)).1
        have r1 := (S3.aP.2 jb (by omega)).1
        rw [plL_at, if_pos hja] at r0
        rw [plL_at, if_pos hjb] at r1
        generalize pl (useF L) ja = pa at r0 HE
        generalize pl (useF L) jb = pb at r1 HE
        have hne : (PB = wr.heap.size) = False := by simp; omega
        have HS3 := Lib.hid S3
        clear S3 hb3 e0 e1 e2 z1 z2 hcs a0 a1 a2 q0
        have HS4 := Lib.hid ((HS3.out.sn wr.heap.size 1 (.int .i64 pa) HN.out (by omega) (by omega)).sn wr.heap.size 2 (.int .i64 pb) HN.out (by omega) (by omega))
        go_wp2_with fail
        have HPut := Lib.hid (iPutGx w.heap.size G p v (prnL L (useF L) j) ⟨xk, pa, pb⟩ _ (by omega) hGw HS4.out.mak HS4.out.row)
        simp only at HPut
        refine HPut.out.mono ?_
        rintro e w5 ⟨v5, rfl, hR5, hM5, hb5, hA5, hV5⟩
        have S5 := HS4.out.app hR5 hM5 hb5 hA5 hV5
        rw [← HE.out] at S5
        obtain ⟨p0, p1⟩ := S5.aP.2 j (by omega)
        have S6 := S5.put (plL_len _ _) (by omega) ((prnL L (useF L) j).length : Int)
        rw [← HP.out] at S6
        have HS6 := Lib.hid S6
        clear hR5 hM5 hb5 hA5 hV5 S5 S6
        go_wp2_with fail
        go_roundw
        case rel => exact ⟨t + 1, j + 1, v5, by omega, by go_num, by omega, HT.out, HS6.out⟩
        case measure => simp [intOf]; omega
      · have HE := Lib.hid (show prnL L (useF L) (j + 1) = prnL L (useF L) j ++ [⟨xk, xa, xb⟩] by
          rw [prnL, HUJ.out, HX.out]
          have : joinsB ⟨xk, xa, xb⟩ = false := by simp [joinsB]; omega
          simp [mapG, this])
        have HJ := Lib.hid (show joinsB ⟨xk, xa, xb⟩ = false by simp [joinsB]; omega)
        go_wp2_with fail
        rw [← HW1.out]
        refine (iJoins_is false xk xa xb HJ.out _).mono ?_
        rintro e w3 ⟨rfl, hb3⟩
        have S3 := HS2.out.on hb3
        have d0 := hb3.cell (p := ⟨wr.heap.size, 0, none⟩) hlt1
        have d1 := hb3.cell (p := ⟨wr.heap.size, 1, none⟩) hlt1
        have d2 := hb3.cell (p := ⟨wr.heap.size, 2, none⟩) hlt1
        rw [e0] at d0; rw [e1] at d1; rw [e2] at d2
        have HS4 := Lib.hid S3
        clear S3 hb3 e0 e1 e2 z1 z2 hcs a0 a1 a2 q0
        go_wp2_with fail
        have HPut := Lib.hid (iPutGx w.heap.size G p v (prnL L (useF L) j) ⟨xk, xa, xb⟩ _ (by omega) hGw HS4.out.mak HS4.out.row)
        simp only at HPut
        refine HPut.out.mono ?_
        rintro e w5 ⟨v5, rfl, hR5, hM5, hb5, hA5, hV5⟩
        have S5 := HS4.out.app hR5 hM5 hb5 hA5 hV5
        rw [← HE.out] at S5
        obtain ⟨p0, p1⟩ := S5.aP.2 j (by omega)
        have S6 := S5.put (plL_len _ _) (by omega) ((prnL L (useF L) j).length : Int)
        rw [← HP.out] at S6
        have HS6 := Lib.hid S6
        clear hR5 hM5 hb5 hA5 hV5 S5 S6
        go_wp2_with fail
        go_roundw
        case rel => exact ⟨t + 1, j + 1, v5, by omega, by go_num, by omega, HT.out, HS6.out⟩
        case measure => simp [intOf]; omega
    · have htl : t = l.length := by omega
      subst htl
      have hkl : (useTo (useF L) k).length = (useTo (useF L) 60).length := by rw [hut, List.take_length, ← HL.out]
      have hR : prnL L (useF L) k = prnL L (useF L) L.length := by rw [prn_end L (useF L) hk hkl, (prnL_out HV.out hl2).1]
      rw [hR] at hS
      have hlen : (prnL L (useF L) L.length).length ≤ 60 := by rw [prnL_len]; have := useTo_len (useF L) L.length; omega
      have HS := Lib.hid hS
      have HO := Lib.hid (hS.row.own (by omega))
      have HVV := Lib.hid (prnL_circ HV.out)
      have hK' := HK'.out
      clear hS hut hkl hR
      go_wp2_with fail
      refine (iMade G p v _ _ HS.out.mak HO.out.gats).mono ?_
      rintro e w7 ⟨rfl, hb7⟩
      have hm : madeV p (prnL L (useF L) L.length) v = v := by simp [madeV, HVV.out]
      rw [hm, HVV.out]
      have HB7 := Lib.hid hb7
      clear hb7 hm
      go_wp2_with fail
      refine bodyPost_ret (v := .tuple #[v, .bool true]) (by simp [results, Try.results138, go_sem]) rfl ⟨v, rfl, ?_, HS.out.low.trans (HB7.out.mono HS.out.low.size)⟩
      exact ((HS.out.row.below HB7.out).mono (by omega)).own (by omega)
set_option maxRecDepth 100000 in
set_option maxHeartbeats 8000000 in
theorem iPrune_no (p : Int) (f : Value) (L : List Gt) (w : World) (h : Gats w f L) (hv : circB p L = false) :
    Calls Try.prog 138 #[.int .i64 p, f] w (GivesGB [] false w) := by
  have eU : useV p L = [] := by simp [useV, hv]
  have HEU := Lib.hid eU
  have HG := Lib.hid h
  obtain ⟨nL, a, cap, rfl, _⟩ := h
  obtain ⟨WA, hWA⟩ : ∃ W, W = (w.alloc (Obj.cells #[.slice none 0 0, .int .i64 p] 127)).alloc (.cells (Array.replicate 60 (.int .i64 0)) 128) := ⟨_, rfl⟩
  have BA : Below w.heap.size w WA := by rw [hWA]; exact (by repeat (first | exact Below.refl _ _ | apply Below.drew | apply below_drewN | (refine Below.alloc ?_ (by first | omega | (simp <;> omega)) _)))
  have MA : MakW WA w.heap.size p (.slice none 0 0) := by rw [hWA]; exact ⟨by simp [go_sem], by simp [go_sem], by simp [go_sem], by simp; omega⟩
  have HWA := Lib.hid hWA
  have HBA := Lib.hid BA
  have HMA := Lib.hid MA
  clear hv eU hWA BA MA
  go_enter Try.func138, Try.ntmps138
  go_wp2_with fail
  change Calls _ _ _ ((w.alloc (Obj.cells #[.slice none 0 0, .int .i64 p] 127)).alloc (.cells (Array.replicate 60 (.int .i64 0)) 128)) _
  rw [← HWA.out]
  refine (iUsedGates p _ L _ (HG.out.below HBA.out)).mono ?_
  rintro e w2 ⟨v, rfl, hO, hb2⟩
  rw [HEU.out] at hO
  obtain ⟨_, al, cl, rfl, _⟩ := hO
  have HM2 := Lib.hid (HMA.out.below hb2)
  have HB2 := Lib.hid (HBA.out.trans (hb2.mono HBA.out.size))
  clear hb2
  go_wp2_with fail
  go_loopw [17] (fun i wr => i = .int .i64 0 ∧ wr = w2) (fun _ _ => 0)
  case atStart => exact ⟨rfl, rfl⟩
  case round =>
    obtain ⟨rfl, rfl⟩ := hrel
    go_wp2_with fail
    refine (iMade w.heap.size p _ [] _ HM2.out (RowGt.own (RowGt.nil _ 0) (by simp)).gats).mono ?_
    rintro e w7 ⟨rfl, hb7⟩
    have hm : madeV p [] (.slice none 0 0) = .slice none 0 0 := by simp [madeV]
    rw [hm, circB_nil]
    have HB7 := Lib.hid hb7
    clear hb7 hm
    go_wp2_with fail
    refine bodyPost_ret (v := .tuple #[.slice none 0 0, .bool false]) (by simp [results, Try.results138, go_sem]) rfl ⟨_, rfl, (RowGt.nil w7 w.heap.size).own (by simp), HB2.out.trans (HB7.out.mono HB2.out.size)⟩
theorem iPruneCircuit (p : Int) (f : Value) (L : List Gt) (w : World) (h : Gats w f L) :
    Calls Try.prog 138 #[.int .i64 p, f] w (GivesGB (prnV p L) (circB p L) w) := by
  cases hv : circB p L
  · have e : prnV p L = [] := by simp [prnV, hv]
    rw [e]; exact iPrune_no p f L w h hv
  · have e : prnV p L = prnL L (useF L) L.length := by simp [prnV, hv]
    rw [e]; exact iPrune_yes p f L w h hv
end Go.Proofs.Ytlidplmpglpkgaa
