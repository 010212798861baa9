/-
  Contract of the model's PruneCircuit. Conditions: what the slice holds is known.
  The gates of a pruned circuit, of no program: they are a circuit; the used gates' numbers one after the other. Conditions: the gates are a circuit.
-/
import Derived.Test.YtlidplmpglpkgaaBa15
import Derived.Test.YtlidplmpglpkgaaBe2
import Derived.Test.YtlidplmpglpkgaaBa2
import Derived.Maps.AppendAt
namespace Go.Proofs.Ytlidplmpglpkgaa
open Go.RowKit
/-- a used gate's new number -/
def pl (U : Nat → Bool) (j : Nat) : Int := if U j then ((useTo U j).length : Int) else 0
def plL (U : Nat → Bool) (k : Nat) : List Int := (List.range k).map (pl U)
theorem plL_len (U : Nat → Bool) (k : Nat) : (plL U k).length = k := by simp [plL]
theorem plL_succ (U : Nat → Bool) (k : Nat) : plL U (k + 1) = plL U k ++ [pl U k] := by simp [plL, List.range_succ]
theorem plL_at (U : Nat → Bool) (k j : Nat) : (plL U k).getD j 0 = if j < k then pl U j else 0 := by
  rw [List.getD_eq_getElem?_getD]
  by_cases h : j < k
  · rw [if_pos h]; simp [plL, h]
  · rw [if_neg h, List.getElem?_eq_none (by rw [plL_len]; omega)]; rfl
theorem pl_bd (U : Nat → Bool) (j : Nat) : 0 ≤ pl U j ∧ pl U j ≤ j := by
  unfold pl
  have := useTo_len U j
  split <;> omega
def mapG (U : Nat → Bool) (g : Gt) : Gt := if joinsB g then ⟨g.k, pl U g.a.toNat, pl U g.b.toNat⟩ else g
/-- the used gates below k, their parts' numbers turned -/
def prnL (L : List Gt) (U : Nat → Bool) : Nat → List Gt
  | 0 => []
  | k + 1 => if U k then prnL L U k ++ [mapG U (gAt L k)] else prnL L U k
theorem prnL_len (L : List Gt) (U : Nat → Bool) : ∀ k, (prnL L U k).length = (useTo U k).length
  | 0 => rfl
  | k + 1 => by
    unfold prnL useTo
    split <;> simp [prnL_len L U k]
theorem RowGt.sl {w : World} {B : Nat} {v : Value} {L : List Gt} (h : RowGt w B v L) : ∃ a c, v = .slice a L.length c := by
  rcases h.shape with ⟨rfl, rfl⟩ | ⟨g, c, rfl, _⟩
  · exact ⟨none, 0, rfl⟩
  · exact ⟨_, c, rfl⟩
/-- what the rounds keep: the row of gates, the used ones, the places -/
structure PSt (w0 : World) (B UB PB : Nat) (U : Nat → Bool) (D : List Int) (v : Value) (R : List Gt) (wr : World) : Prop where
  row : RowGt wr B v R
  nP : v.ownBlock ≠ some PB
  nU : v.ownBlock ≠ some UB
  aU : ArrB wr UB U
  aP : ArrI wr PB D
  low : Below B w0 wr
  base : B ≤ w0.heap.size
  far : B ≤ PB ∧ B ≤ UB ∧ PB ≠ UB
section
variable {w0 wr : World} {B UB PB : Nat} {U : Nat → Bool} {D : List Int} {v : Value} {R : List Gt}
theorem PSt.size (h : PSt w0 B UB PB U D v R wr) : B ≤ wr.heap.size := Nat.le_trans h.base h.low.size
theorem PSt.al (h : PSt w0 B UB PB U D v R wr) (o : Obj) : PSt w0 B UB PB U D v R (wr.alloc o) := by
  have hb : Below wr.heap.size wr (wr.alloc o) := Below.alloc (Below.refl _ _) (Nat.le_refl _) _
  exact ⟨h.row.below hb, h.nP, h.nU, h.aU.below hb h.aU.1, h.aP.below hb h.aP.1, h.low.alloc h.size _, h.base, h.far⟩
theorem PSt.dn (h : PSt w0 B UB PB U D v R wr) (n : Nat) : PSt w0 B UB PB U D v R (wr.drewN n) := by
  have hb : Below wr.heap.size wr (wr.drewN n) := below_drewN (Below.refl _ _) n
  exact ⟨h.row.below hb, h.nP, h.nU, h.aU.below hb h.aU.1, h.aP.below hb h.aP.1, below_drewN h.low n, h.base, h.far⟩
theorem PSt.sn (h : PSt w0 B UB PB U D v R wr) (G o : Nat) (u : Value) (hv : v.ownBlock ≠ some G) (hP : G ≠ PB) (hU : G ≠ UB) (hG : B ≤ G) : PSt w0 B UB PB U D v R (wr.setCell ⟨G, o, none⟩ u) := by
  refine ⟨World.ownsRow.kept (row := some G) h.row ⟨rfl, rfl, rfl, by simp, fun k hk hne => Below.heap_setCell _ _ _ _ (fun e => hne (by rw [e]))⟩ (.inr hv), h.nP, h.nU, ?_, ?_, h.low.setCell hG _, h.base, h.far⟩
  · refine ⟨by simpa using h.aU.1, fun j hj => ⟨?_, by rw [World.frozen?_setCell]; exact (h.aU.2 j hj).2⟩⟩
    rw [World.cell?_setCell_other _ _ _ _ (addr_ne (by omega))]; exact (h.aU.2 j hj).1
  · refine ⟨by simpa using h.aP.1, fun j hj => ⟨?_, by rw [World.frozen?_setCell]; exact (h.aP.2 j hj).2⟩⟩
    rw [World.cell?_setCell_other _ _ _ _ (addr_ne (by omega))]; exact (h.aP.2 j hj).1
theorem PSt.zero (h : PSt w0 B UB PB U D v R wr) : PSt w0 B UB PB U (D ++ [0]) v R wr := ⟨h.row, h.nP, h.nU, h.aU, h.aP.zero, h.low, h.base, h.far⟩
theorem PSt.put (h : PSt w0 B UB PB U D v R wr) {k : Nat} (hl : D.length = k) (hk : k < 60) (x : Int) : PSt w0 B UB PB U (D ++ [x]) v R (wr.setCell ⟨PB, k, none⟩ (.int .i64 x)) := by
  obtain ⟨f1, f2, f3⟩ := h.far
  refine ⟨World.ownsRow.kept (row := some PB) h.row ⟨rfl, rfl, rfl, by simp, fun k hk hne => Below.heap_setCell _ _ _ _ (fun e => hne (by rw [e]))⟩ (.inr h.nP), h.nP, h.nU, ?_, h.aP.set hl hk x, h.low.setCell f1 _, h.base, h.far⟩
  refine ⟨by simpa using h.aU.1, fun j hj => ⟨?_, by rw [World.frozen?_setCell]; exact (h.aU.2 j hj).2⟩⟩
  rw [World.cell?_setCell_other _ _ _ _ (addr_ne (by omega))]; exact (h.aU.2 j hj).1
theorem PSt.app (h : PSt w0 B UB PB U D v R wr) {w' : World} {v' : Value} {R' : List Gt} (hr : RowGt w' B v' R') (hg : wr.grownBy w' v.ownBlock) (hat : v'.ownBlock = v.ownBlock ∨ v'.ownBlock = some wr.heap.size) : PSt w0 B UB PB U D v' R' w' := by
  have hP := h.aP.1
  have hU := h.aU.1
  have eP := hg.block PB hP (fun e => h.nP e.symm)
  have eU := hg.block UB hU (fun e => h.nU e.symm)
  refine ⟨hr, ?_, ?_, ⟨Nat.lt_of_lt_of_le hU hg.size, fun j hj => ⟨?_, ?_⟩⟩, ⟨Nat.lt_of_lt_of_le hP hg.size, fun j hj => ⟨?_, ?_⟩⟩, h.low.trans (h.row.low h.size hg), h.base, h.far⟩
  · rcases hat with e | e
    · rw [e]; exact h.nP
    · rw [e]; intro e; injection e with e; omega
  · rcases hat with e | e
    · rw [e]; exact h.nU
    · rw [e]; intro e; injection e with e; omega
  · rw [World.cell?_of_block (a := ⟨UB, j, none⟩) eU]; exact (h.aU.2 j hj).1
  · rw [World.frozen?_of_block (a := ⟨UB, j, none⟩) eU]; exact (h.aU.2 j hj).2
  · rw [World.cell?_of_block (a := ⟨PB, j, none⟩) eP]; exact (h.aP.2 j hj).1
  · rw [World.frozen?_of_block (a := ⟨PB, j, none⟩) eP]; exact (h.aP.2 j hj).2
/-- a row of its own lies in a block that is there -/
theorem PSt.new (h : PSt w0 B UB PB U D v R wr) {G : Nat} (hG : wr.heap.size ≤ G) : v.ownBlock ≠ some G := fun e => by
  have := (World.ownsRow.lt h.row G e).2
  omega
end
def prnV (p : Int) (L : List Gt) : List Gt := if circB p L then prnL L (useF L) L.length else []
set_option maxRecDepth 100000 in
set_option maxHeartbeats 16000000 in
theorem sPrune_yes (p : Int) (f : Value) (L : List Gt) (w : World) (h : Gats w f L) (hv : circB p L = true) :
    Calls Try.prog 139 #[.int .i64 p, f] w (GivesGB (prnL L (useF L) L.length) true w) := by
  obtain ⟨i0, hi, hz0, hz1, hz2⟩ := info_parts infoG
  have HV := Lib.hid hv
  obtain ⟨hp, hl1, hl2, hall⟩ := circB_iff.1 hv
  obtain ⟨g, off, cap, rfl, hg, hc⟩ := gats_u h hv
  have HC := Lib.hid hc
  have HA := Lib.hid hall
  have HG := Lib.hid (h.below (Below.alloc (Below.refl _ _) (Nat.le_refl _) _ : Below w.heap.size w (w.alloc (.cells #[] 137))))
  clear h hc hall hp hv
  go_enter Try.func139, Try.ntmps139
  go_wp2_with fail
  refine (sCircuitValid p _ L _ HG.out).mono ?_
  rintro e w1 ⟨he, hb1⟩
  rw [HV.out] at he
  subst he
  have R1 := (RowGt.lit0 w w.heap.size (Nat.le_refl _)).below hb1
  have B1 : Below w.heap.size w w1 := (Below.alloc (Below.refl _ _) (Nat.le_refl _) _ : Below w.heap.size w (w.alloc (.cells #[] 137))).trans (hb1.mono (by simp))
  have hs1 := B1.size
  have hs1' : w.heap.size < w1.heap.size := by have := hb1.size; simp at this; omega
  obtain ⟨WA, hWA⟩ : ∃ W, W = w1.alloc (.cells (Array.replicate 60 (.int .i64 0)) 128) := ⟨_, rfl⟩
  have bA : Below w1.heap.size w1 WA := by rw [hWA]; exact Below.alloc (Below.refl _ _) (Nat.le_refl _) _
  have AA : ArrI WA w1.heap.size [] := by rw [hWA]; exact ArrI.new w1 _
  have RA := R1.below bA
  have BA := B1.trans (bA.mono hs1)
  have hsA : w1.heap.size < WA.heap.size := by rw [hWA]; simp
  have hgA : g < WA.heap.size := by have := BA.size; omega
  have HCA := Lib.hid (fun (j : Nat) (hj : j < L.length) => (HC.out j hj).below BA hg)
  have HWA := Lib.hid hWA
  clear hb1 hWA bA R1 B1
  go_wp2_with fail
  change Calls _ _ _ (w1.alloc (.cells (Array.replicate 60 (.int .i64 0)) 128)) _
  rw [← HWA.out]
  clear HWA
  refine (sUsed_some p L HV.out g off cap WA hgA HCA.out).mono ?_
  rintro e w2 ⟨V, rfl, hV, hb2⟩
  have HV2 := Lib.hid (show V = .agg (useC (useF L)).toArray from hV)
  have B2 := BA.trans (hb2.mono BA.size)
  have hs2 := B2.size
  have A0 := ArrB.new w2 157
  have hlen := useC_len (useF L)
  have h1 := all_oneCell_toArray (useC_one (useF L))
  have hT2 : (w2.alloc (.cells (Array.replicate 60 (.bool false)) 157)).there w2.heap.size 0 (useC (useF L)).toArray.size := by simp only [List.size_toArray, hlen]; exact A0.there
  have hI2 : (Try.prog.info? 157).map (·.size) = some (useC (useF L)).toArray.size := by simp only [List.size_toArray, hlen]; exact infoB
  have A2 := arrB_cells A0 (useF L)
  have b3 : Below w2.heap.size w2 ((w2.alloc (.cells (Array.replicate 60 (.bool false)) 157)).setCells w2.heap.size 0 (useC (useF L))) := below_setCells _ _ _ _ (Below.alloc (Below.refl _ _) (Nat.le_refl _) _) (Nat.le_refl _)
  have B3 := B2.trans (b3.mono hs2)
  have A3 := (AA.below hb2 hsA).below b3 (Nat.lt_of_lt_of_le hsA hb2.size)
  have R3 := (RA.below hb2).below b3
  have hP2 : w1.heap.size < w2.heap.size := Nat.lt_of_lt_of_le hsA hb2.size
  clear hb2 hV B2 BA AA RA A0 b3
  go_wp2_with (refine wpList_store_mid rfl 157 _ _ rfl w2.heap.size 0 (useC (useF L)).toArray rfl HV2.out hT2 hI2 h1 ?_)
  obtain ⟨UB, hUB⟩ : ∃ g, g = w2.heap.size := ⟨_, rfl⟩
  obtain ⟨PB, hPB⟩ : ∃ g, g = w1.heap.size := ⟨_, rfl⟩
  have hwP : w.heap.size < PB := by omega
  have hPU : PB < UB := by omega
  rw [← hUB, ← hPB]
  rw [← hUB] at A2 B3 A3 R3
  rw [← hPB] at A3
  clear hT2 hI2 h1 hs2 hs1 hs1' hP2 hsA hgA HCA
  go_loopw [6, 21] (fun v i wr => ∃ k : Nat, k ≤ L.length ∧ i = .int .i64 k ∧ PSt w w.heap.size UB PB (useF L) (plL (useF L) k) v (prnL L (useF L) k) wr) (fun _ i _ => L.length - (intOf i).toNat)
  case atStart => exact ⟨0, by omega, rfl, R3, by simp [Value.ownBlock]; omega, by simp [Value.ownBlock]; omega, A2, A3, B3, Nat.le_refl _, by omega, by omega, by omega⟩
  case round =>
    clear A2 A3 R3 B3 hUB hPB
    rename_i K' hK'
    have HK' := Lib.hid hK'
    clear hK'
    obtain ⟨k, hk, rfl, hS⟩ := hrel
    by_cases hlt : k < L.length
    · have hltp : (k : Int) < (L.length : Int) := by omega
      have hk0 : (0 : Int) ≤ (k : Int) := by omega
      have hk60 : (k : Int) < 60 := by omega
      obtain ⟨a0, a1, a2⟩ := (HC.out k hlt).below hS.low hg
      have hx0 := HA.out k hlt
      obtain ⟨x, hx⟩ : ∃ x, x = L.getD k default := ⟨_, rfl⟩
      rw [← hx] at a0 a1 a2
      rw [← gat_mk hx] at hx0
      have hcs := gOK_cases hx0
      simp only at hcs
      have HX := Lib.hid (gat_mk hx).symm
      obtain ⟨a6, c6, rfl⟩ := hS.row.sl
      have HS := Lib.hid hS
      have hs := hS.size
      have hUB := hS.aU.1
      have hPB := hS.aP.1
      have hul := useTo_len (useF L) k
      have hl60 : (prnL L (useF L) k).length ≤ 60 := by rw [prnL_len]; omega
      have HLn := Lib.hid (prnL_len L (useF L) k)
      clear hul
      obtain ⟨u0, u1⟩ := hS.aU.2 k (by omega)
      obtain ⟨p0, p1⟩ := hS.aP.2 k (by omega)
      obtain ⟨xk, xa, xb⟩ := x
      simp only at a0 a1 a2 hcs HX
      clear hx hS hx0
      rcases Bool.eq_false_or_eq_true (useF L k) with hu | hu
      · rw [hu] at u0
        have HP := Lib.hid (show plL (useF L) (k + 1) = plL (useF L) k ++ [((prnL L (useF L) k).length : Int)] by rw [plL_succ, HLn.out]; simp [pl, hu])
        by_cases h2 : 2 ≤ xk
        · have HE := Lib.hid (show prnL L (useF L) (k + 1) = prnL L (useF L) k ++ [⟨xk, pl (useF L) xa.toNat, pl (useF L) xb.toNat⟩] by
            rw [prnL, hu, HX.out]
            have : joinsB ⟨xk, xa, xb⟩ = true := by simp [joinsB]; omega
            simp [mapG, this])
          go_wp2_with fail
          obtain ⟨ja, rfl⟩ := Int.eq_ofNat_of_zero_le (show 0 ≤ xa by omega)
          obtain ⟨jb, rfl⟩ := Int.eq_ofNat_of_zero_le (show 0 ≤ xb by omega)
          have hja : ja < k := by omega
          have hjb : jb < k := by omega
          have hja60 : (ja : Int) < 60 := by omega
          have hjb60 : (jb : Int) < 60 := by omega
          have hja0 : (0 : Int) ≤ ja := by omega
          have hjb0 : (0 : Int) ≤ jb := by omega
          have S1 := ((HS.out.put (plL_len _ _) (by omega) ((prnL L (useF L) k).length : Int)).al (Obj.cells #[.int .i64 xk, .int .i64 ja, .int .i64 jb] 137))
          rw [← HP.out] at S1
          obtain ⟨W2, hW2⟩ : ∃ W, W = (wr.setCell ⟨PB, k, none⟩ (.int .i64 ((prnL L (useF L) k).length : Int))).alloc (Obj.cells #[.int .i64 xk, .int .i64 ja, .int .i64 jb] 137) := ⟨_, rfl⟩
          rw [← hW2] at S1
          have e0 : W2.cell? ⟨wr.heap.size, 0, none⟩ = some (.int .i64 xk) := by rw [hW2]; simp [go_sem]
          have e1 : W2.cell? ⟨wr.heap.size, 1, none⟩ = some (.int .i64 ja) := by rw [hW2]; simp [go_sem]
          have e2 : W2.cell? ⟨wr.heap.size, 2, none⟩ = some (.int .i64 jb) := by rw [hW2]; simp [go_sem]
          have z0 : W2.frozen? ⟨wr.heap.size, 0, none⟩ = false := by rw [hW2]; simp [go_sem]
          have z1 : W2.frozen? ⟨wr.heap.size, 1, none⟩ = false := by rw [hW2]; simp [go_sem]
          have z2 : W2.frozen? ⟨wr.heap.size, 2, none⟩ = false := by rw [hW2]; simp [go_sem]
          have hsz : wr.heap.size < W2.heap.size := by rw [hW2]; simp
          have q0 := (S1.aP.2 ja (by omega)).1
          have q1 := (S1.aP.2 jb (by omega)).1
          rw [plL_at, if_pos (by omega)] at q0 q1
          rw [Int.toNat_natCast, Int.toNat_natCast] at HE
          generalize pl (useF L) ja = pa at q0 HE
          generalize pl (useF L) jb = pb at q1 HE
          rw [← hW2]
          have HS1 := Lib.hid S1
          have hnw : (Value.slice a6 (prnL L (useF L) k).length c6).ownBlock ≠ some wr.heap.size := HS.out.new (Nat.le_refl _)
          have HN := Lib.hid hnw
          clear hW2 S1 hcs a0 a1 a2 u0 u1 p0 p1 hnw
          refine wp_region_quiet_last (C := fun w' => ∃ n, w' = W2.drewN n) (by kernel_rfl) (by kernel_rfl) ⟨1, rfl⟩ ?_
          repeat (refine wpQL_step (fun K hK => ?_); go_simp; refine hK _ ?_; clear hK K)
          refine wpQL_one ?_
          rintro _ ⟨n, rfl⟩
          have HS3 := Lib.hid (((((HS1.out.dn n).sn wr.heap.size 0 (.int .i64 xk) HN.out (by omega) (by omega) (by omega)).sn wr.heap.size 1 (.int .i64 pa) HN.out (by omega) (by omega) (by omega)).sn wr.heap.size 2 (.int .i64 pb) HN.out (by omega) (by omega) (by omega)).al (Obj.cells #[.int .i64 xk, .int .i64 pa, .int .i64 pb] 137))
          go_wp2_with (at_builtin; refine wpList_append_own_at _ rfl _ _ 43 rfl (w.heap.size) 137 i0 (.agg #[.int .i64 0, .int .i64 0, .int .i64 0]) 3 24 Try.underlying43 hi hz0 hz1 hz2 rfl (by decide) _ _ _ rfl HS3.out.row _ 1 1 [.int .i64 (xk), .int .i64 (pa), .int .i64 (pb)] rfl rfl (by intro j u hj; match j, hj with | 0, hj => (simp at hj; subst hj; simp [Addr.add, go_sem]) | 1, hj => (simp at hj; subst hj; simp [Addr.add, go_sem]) | 2, hj => (simp at hj; subst hj; simp [Addr.add, go_sem])) (gate_ok _ _ _) (by unfold maxLen; omega) (by first | omega | (simp; omega)) (by first | omega | (simp; omega)) ?_)
          intro v' w4 hown' hgrow _ hat
          have S4 := HS3.out.app (RowGt.snoc ⟨xk, pa, pb⟩ hown') hgrow (hat.imp id (fun h => by rw [h]; simp))
          rw [← HE.out] at S4
          clear hown' hgrow hat
          go_wp2_with fail
          go_roundw
          case rel => exact ⟨k + 1, by omega, by go_num, S4⟩
          case measure => simp [intOf]; omega
        · have HE := Lib.hid (show prnL L (useF L) (k + 1) = prnL L (useF L) k ++ [⟨xk, xa, xb⟩] by
            rw [prnL, hu, HX.out]
            have : joinsB ⟨xk, xa, xb⟩ = false := by simp [joinsB]; omega
            simp [mapG, this])
          have S1 := (((HS.out.put (plL_len _ _) (by omega) ((prnL L (useF L) k).length : Int)).al (Obj.cells #[.int .i64 xk, .int .i64 xa, .int .i64 xb] 137))).al (Obj.cells #[.int .i64 xk, .int .i64 xa, .int .i64 xb] 137)
          rw [← HP.out] at S1
          have HS3 := Lib.hid S1
          clear S1
          go_wp2_with (at_builtin; refine wpList_append_own_at _ rfl _ _ 43 rfl (w.heap.size) 137 i0 (.agg #[.int .i64 0, .int .i64 0, .int .i64 0]) 3 24 Try.underlying43 hi hz0 hz1 hz2 rfl (by decide) _ _ _ rfl HS3.out.row _ 1 1 [.int .i64 (xk), .int .i64 (xa), .int .i64 (xb)] rfl rfl (by intro j u hj; match j, hj with | 0, hj => (simp at hj; subst hj; simp [Addr.add, go_sem]) | 1, hj => (simp at hj; subst hj; simp [Addr.add, go_sem]) | 2, hj => (simp at hj; subst hj; simp [Addr.add, go_sem])) (gate_ok _ _ _) (by unfold maxLen; omega) (by first | omega | (simp; omega)) (by first | omega | (simp; omega)) ?_)
          intro v' w4 hown' hgrow _ hat
          have S4 := HS3.out.app (RowGt.snoc ⟨xk, xa, xb⟩ hown') hgrow (hat.imp id (fun h => by rw [h]; simp))
          rw [← HE.out] at S4
          clear hown' hgrow hat
          go_wp2_with fail
          go_roundw
          case rel => exact ⟨k + 1, by omega, by go_num, S4⟩
          case measure => simp [intOf]; omega
      · rw [hu] at u0
        have HE := Lib.hid (show prnL L (useF L) (k + 1) = prnL L (useF L) k by rw [prnL, hu]; rfl)
        have HP := Lib.hid (show plL (useF L) (k + 1) = plL (useF L) k ++ [0] by rw [plL_succ]; simp [pl, hu])
        have S4 := (HS.out.al (Obj.cells #[.int .i64 xk, .int .i64 xa, .int .i64 xb] 137)).zero
        rw [← HE.out, ← HP.out] at S4
        have HS4 := Lib.hid S4
        clear S4
        go_wp2_with fail
        go_roundw
        case rel => exact ⟨k + 1, by omega, by go_num, by simpa only [HE.out] using HS4.out⟩
        case measure => simp [intOf]; omega
    · have hkl : k = L.length := by omega
      subst hkl
      have HS := Lib.hid hS
      clear hS
      have hK' := HK'.out
      go_wp2_with fail
      refine bodyPost_ret (v := .tuple #[u6, .bool true]) (by simp [results, Try.results139, go_sem]) rfl ⟨_, rfl, ?_, HS.out.low⟩
      exact HS.out.row.own (by rw [prnL_len]; have := useTo_len (useF L) L.length; omega)
set_option maxHeartbeats 4000000 in
theorem sPrune_no (p : Int) (f : Value) (L : List Gt) (w : World) (h : Gats w f L) (hv : circB p L = false) :
    Calls Try.prog 139 #[.int .i64 p, f] w (GivesGB [] false w) := by
  have HV := Lib.hid hv
  have HG := Lib.hid (h.below (Below.alloc (Below.refl _ _) (Nat.le_refl _) _ : Below w.heap.size w (w.alloc (.cells #[] 137))))
  obtain ⟨nL, a, cap, rfl, _⟩ := h
  clear hv
  go_enter Try.func139, Try.ntmps139
  go_wp2_with fail
  refine (sCircuitValid p _ L _ HG.out).mono ?_
  rintro e w1 ⟨he, hb1⟩
  rw [HV.out] at he
  subst he
  have R1 := (RowGt.lit0 w w.heap.size (Nat.le_refl _)).below hb1
  have B1 : Below w.heap.size w w1 := (Below.alloc (Below.refl _ _) (Nat.le_refl _) _ : Below w.heap.size w (w.alloc (.cells #[] 137))).trans (hb1.mono (by simp))
  clear hb1
  go_wp2_with fail
  refine bodyPost_ret (v := .tuple #[.slice (some ⟨w.heap.size, 0, none⟩) 0 0, .bool false]) (by simp [results, Try.results139, go_sem]) rfl ⟨_, rfl, R1.own (by simp), B1⟩
theorem sPruneCircuit (p : Int) (f : Value) (L : List Gt) (w : World) (h : Gats w f L) :
    Calls Try.prog 139 #[.int .i64 p, f] w (GivesGB (prnV p L) (circB p L) w) := by
  cases hv : circB p L
  · have e : prnV p L = [] := by simp [prnV, hv]
    rw [e]; exact sPrune_no p f L w h hv
  · have e : prnV p L = prnL L (useF L) L.length := by simp [prnV, hv]
    rw [e]; exact sPrune_yes p f L w h hv
end Go.Proofs.Ytlidplmpglpkgaa
namespace Go.Proofs.Ytlidplmpglpkgaa
open Go.RowKit
theorem useTo_step {U : Nat → Bool} {k : Nat} (h : U k = true) : useTo U (k + 1) = useTo U k ++ [(k : Int)] := by simp [useTo, h]
theorem useTo_skip {U : Nat → Bool} {k : Nat} (h : U k = false) : useTo U (k + 1) = useTo U k := by simp [useTo, h]
theorem useTo_mono (U : Nat → Bool) {i : Nat} : ∀ {k : Nat}, i ≤ k → (useTo U i).length ≤ (useTo U k).length := by
  intro k h
  induction k with
  | zero => rw [show i = 0 by omega]; exact Nat.le_refl _
  | succ k ih =>
    by_cases e : i = k + 1
    · rw [e]; exact Nat.le_refl _
    · have := ih (by omega)
      cases hu : U k
      · rw [useTo_skip hu]; exact this
      · rw [useTo_step hu]; simp; omega
theorem use_pos (U : Nat → Bool) : ∀ n t : Nat, t < (useTo U n).length → ∃ j : Nat, j < n ∧ U j = true ∧ (useTo U n).getD t 0 = (j : Int) ∧ useTo U j = (useTo U n).take t
  | 0, t, h => by simp [useTo] at h
  | n + 1, t, h => by
    cases hu : U n
    · rw [useTo_skip hu] at h ⊢
      obtain ⟨j, h1, h2⟩ := use_pos U n t h
      exact ⟨j, by omega, h2⟩
    · rw [useTo_step hu] at h ⊢
      by_cases e : t = (useTo U n).length
      · subst e
        exact ⟨n, by omega, hu, by simp [List.getD_eq_getElem?_getD], by simp⟩
      · have ht : t < (useTo U n).length := by simp at h; omega
        obtain ⟨j, h1, h2, h3, h4⟩ := use_pos U n t ht
        refine ⟨j, by omega, h2, ?_, ?_⟩
        · rw [← h3, List.getD_eq_getElem?_getD, List.getD_eq_getElem?_getD, List.getElem?_append_left ht]
        · rw [h4, List.take_append_of_le_length (by omega)]
theorem use_none (U : Nat → Bool) {k j i : Nat} (h : (useTo U k).length = (useTo U j).length) (h1 : k ≤ i) (h2 : i < j) : U i = false := by
  cases hu : U i
  · rfl
  · have a := useTo_mono U h1
    have b := useTo_mono U (show i + 1 ≤ j by omega)
    rw [useTo_step hu] at b
    simp at b
    omega
theorem prn_skip (L : List Gt) (U : Nat → Bool) (k : Nat) : ∀ d : Nat, (∀ i, k ≤ i → i < k + d → U i = false) → prnL L U (k + d) = prnL L U k
  | 0, _ => rfl
  | d + 1, h => by
    rw [← Nat.add_assoc, prnL, h (k + d) (by omega) (by omega), prn_skip L U k d (fun i h1 h2 => h i h1 (by omega))]
    rfl
/-- from the place where the last one was put to the next used one -/
theorem prn_to (L : List Gt) (U : Nat → Bool) {k j : Nat} (hj : U j = true) (h : useTo U k = useTo U j) : k ≤ j ∧ prnL L U k = prnL L U j ∧ ∀ i, (plL U k).getD i 0 = (plL U j).getD i 0 := by
  have hl : (useTo U k).length = (useTo U j).length := by rw [h]
  have hkj : k ≤ j := by
    refine Classical.byContradiction fun hn => ?_
    have := useTo_mono U (show j + 1 ≤ k by omega)
    rw [useTo_step hj] at this
    simp at this
    omega
  refine ⟨hkj, ?_, fun i => ?_⟩
  · obtain ⟨d, rfl⟩ := Nat.exists_eq_add_of_le hkj
    exact (prn_skip L U k d (fun i h1 h2 => use_none U hl h1 h2)).symm
  · rw [plL_at, plL_at]
    by_cases h1 : i < k
    · rw [if_pos h1, if_pos (by omega)]
    · rw [if_neg h1]
      split
      · rename_i h2
        unfold pl
        rw [use_none U hl (by omega) h2]
        rfl
      · rfl
theorem ArrI.same {w : World} {g : Nat} {D E : List Int} (h : ArrI w g D) (he : ∀ i, D.getD i 0 = E.getD i 0) : ArrI w g E :=
  ⟨h.1, fun j hj => ⟨by rw [(h.2 j hj).1, he], (h.2 j hj).2⟩⟩
theorem prnL_out {p : Int} {L : List Gt} (hv : circB p L = true) (hl : L.length ≤ 60) : prnL L (useF L) 60 = prnL L (useF L) L.length ∧ (useTo (useF L) 60).length = (useTo (useF L) L.length).length := by
  obtain ⟨d, hd⟩ := Nat.exists_eq_add_of_le hl
  rw [hd]
  have e := prn_skip L (useF L) L.length d (fun i h1 _ => useF_out hv h1)
  refine ⟨e, ?_⟩
  rw [← prnL_len L, ← prnL_len L, e]
theorem prnL_ok {p : Int} {L : List Gt} (hv : circB p L = true) : ∀ k : Nat, k ≤ L.length → ∀ i : Nat, i < (prnL L (useF L) k).length → gOK (p - 1) (gAt (prnL L (useF L) k) i) i = true
  | 0, _, i, h => by simp [prnL] at h
  | k + 1, hk, i, h => by
    have ih := prnL_ok hv k (by omega)
    obtain ⟨_, _, _, hall⟩ := circB_iff.1 hv
    cases hu : useF L k
    · have e : prnL L (useF L) (k + 1) = prnL L (useF L) k := by rw [prnL, hu]; rfl
      rw [e] at h ⊢
      exact ih i h
    · have e : prnL L (useF L) (k + 1) = prnL L (useF L) k ++ [mapG (useF L) (gAt L k)] := by rw [prnL, hu]; rfl
      rw [e] at h ⊢
      by_cases hi : i < (prnL L (useF L) k).length
      · have : gAt (prnL L (useF L) k ++ [mapG (useF L) (gAt L k)]) i = gAt (prnL L (useF L) k) i := by
          unfold gAt
          simp only [List.getD_eq_getElem?_getD]
          rw [List.getElem?_append_left hi]
        rw [this]
        exact ih i hi
      · have hie : i = (prnL L (useF L) k).length := by simp at h; omega
        have : gAt (prnL L (useF L) k ++ [mapG (useF L) (gAt L k)]) i = mapG (useF L) (gAt L k) := by
          unfold gAt
          rw [List.getD_eq_getElem?_getD, hie, List.getElem?_append_right (Nat.le_refl _)]
          simp
        rw [this]
        have hg := hall k (by omega)
        have hc := gOK_cases hg
        cases hj : joinsB (gAt L k)
        · rw [show mapG (useF L) (gAt L k) = gAt L k by simp [mapG, hj]]
          have hk2 : ¬ ((gAt L k).k = 2 ∨ (gAt L k).k = 3) := by
            intro h2
            rw [Bool.eq_false_iff] at hj
            exact hj (by simpa [joinsB] using h2)
          rcases hc with h1 | h1 | h1
          · simp [gOK, h1, inB]
          · simp [gOK, h1, inB]
          · exact absurd h1.1 hk2
        · rw [show mapG (useF L) (gAt L k) = ⟨(gAt L k).k, pl (useF L) (gAt L k).a.toNat, pl (useF L) (gAt L k).b.toNat⟩ by simp [mapG, hj]]
          have hk2 : (gAt L k).k = 2 ∨ (gAt L k).k = 3 := by simpa [joinsB] using hj
          obtain ⟨ua, ub⟩ := use_closed hv (by omega) hu hj
          have key : ∀ a : Nat, a < k → useF L a = true → 0 ≤ pl (useF L) a ∧ pl (useF L) a < (i : Int) := by
            intro a ha hua
            have h1 := useTo_mono (useF L) (show a + 1 ≤ k by omega)
            rw [useTo_step hua] at h1
            simp at h1
            unfold pl
            rw [if_pos hua, hie, prnL_len]
            omega
          have ka := key (gAt L k).a.toNat (by omega) ua
          have kb := key (gAt L k).b.toNat (by omega) ub
          rcases hk2 with h2 | h2 <;> (simp [gOK, h2, inB]; omega)
theorem prnL_circ {p : Int} {L : List Gt} (hv : circB p L = true) : circB p (prnL L (useF L) L.length) = true := by
  obtain ⟨hp, hl1, hl2, _⟩ := circB_iff.1 hv
  refine circB_iff.2 ⟨hp, ?_, ?_, prnL_ok hv L.length (Nat.le_refl _)⟩
  · have h := useTo_mono (useF L) (show L.length - 1 + 1 ≤ L.length by omega)
    rw [useTo_step (useF_last hv)] at h
    rw [prnL_len]
    simp at h
    omega
  · rw [prnL_len]
    have := useTo_len (useF L) L.length
    omega
end Go.Proofs.Ytlidplmpglpkgaa
