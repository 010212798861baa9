/-
  Contract of the model's PruneCircuit. Conditions: what the slice holds is known.
  The gates of a pruned circuit, of no program: they are a circuit; the used gates' numbers one after the other. Conditions: the gates are a circuit.
-/
import Derived.Test.YtoeghbcolpailaaGreatBa19
import Derived.Test.YtoeghbcolpailaaGreatBa11
import Derived.Test.YtoeghbcolpailaaGreatBa2
import Derived.Maps.AppendAt
namespace Go.Proofs.YtoeghbcolpailaaGreat
open Go.RowKit
/-- a used gate's new number -/
def pl (U : Nat → Bool) (j : Nat) : Int := if U j then ((useTo U j).length : Int) else 0
def plL (U : Nat → Bool) (k : Nat) : List Int := (List.range k).map (pl U)
theorem plL_len (U : Nat → Bool) (k : Nat) : (plL U k).length = k := by simp [plL]
theorem plL_succ (U : Nat → Bool) (k : Nat) : plL U (k + 1) = plL U k ++ [pl U k] := by simp [plL, List.range_succ]
theorem plL_at (U : Nat → Bool) (k j : Nat) : (plL U k).getD j 0 = if j < k then pl U j else 0 := by
  rw [List.getD_eq_getElem?_getD]
  by_cases h : j < k
  · rw [if_pos h]; simp [plL, h]
  · rw [if_neg h, List.getElem?_eq_none (by rw [plL_len]; omega)]; rfl
theorem pl_bd (U : Nat → Bool) (j : Nat) : 0 ≤ pl U j ∧ pl U j ≤ j := by
  unfold pl
  have := useTo_len U j
  split <;> omega
def mapG (U : Nat → Bool) (g : Gt) : Gt := if joinsB g then ⟨g.k, pl U g.a.toNat, pl U g.b.toNat⟩ else g
/-- the used gates below k, their parts' numbers turned -/
def prnL (L : List Gt) (U : Nat → Bool) : Nat → List Gt
  | 0 => []
  | k + 1 => if U k then prnL L U k ++ [mapG U (gAt L k)] else prnL L U k
theorem prnL_len (L : List Gt) (U : Nat → Bool) : ∀ k, (prnL L U k).length = (useTo U k).length
  | 0 => rfl
  | k + 1 => by
    unfold prnL useTo
    split <;> simp [prnL_len L U k]
theorem RowGt.sl {w : World} {B : Nat} {v : Value} {L : List Gt} (h : RowGt w B v L) : ∃ a c, v = .slice a L.length c := by
  rcases h.shape with ⟨rfl, rfl⟩ | ⟨g, c, rfl, _⟩
  · exact ⟨none, 0, rfl⟩
  · exact ⟨_, c, rfl⟩
/-- what the rounds keep: the row of gates, the used ones, the places -/
structure PSt (w0 : World) (B UB PB : Nat) (U : Nat → Bool) (D : List Int) (v : Value) (R : List Gt) (wr : World) : Prop where
  row : RowGt wr B v R
  nP : v.ownBlock ≠ some PB
  nU : v.ownBlock ≠ some UB
  aU : ArrB wr UB U
  aP : ArrI wr PB D
  low : Below B w0 wr
  base : B ≤ w0.heap.size
  far : B ≤ PB ∧ B ≤ UB ∧ PB ≠ UB
section
variable {w0 wr : World} {B UB PB : Nat} {U : Nat → Bool} {D : List Int} {v : Value} {R : List Gt}
theorem PSt.size (h : PSt w0 B UB PB U D v R wr) : B ≤ wr.heap.size := Nat.le_trans h.base h.low.size
theorem PSt.al (h : PSt w0 B UB PB U D v R wr) (o : Obj) : PSt w0 B UB PB U D v R (wr.alloc o) := by
  have hb : Below wr.heap.size wr (wr.alloc o) := Below.alloc (Below.refl _ _) (Nat.le_refl _) _
  exact ⟨h.row.below hb, h.nP, h.nU, h.aU.below hb h.aU.1, h.aP.below hb h.aP.1, h.low.alloc h.size _, h.base, h.far⟩
theorem PSt.dn (h : PSt w0 B UB PB U D v R wr) (n : Nat) : PSt w0 B UB PB U D v R (wr.drewN n) := by
  have hb : Below wr.heap.size wr (wr.drewN n) := below_drewN (Below.refl _ _) n
  exact ⟨h.row.below hb, h.nP, h.nU, h.aU.below hb h.aU.1, h.aP.below hb h.aP.1, below_drewN h.low n, h.base, h.far⟩
theorem PSt.sn (h : PSt w0 B UB PB U D v R wr) (G o : Nat) (u : Value) (hv : v.ownBlock ≠ some G) (hP : G ≠ PB) (hU : G ≠ UB) (hG : B ≤ G) : PSt w0 B UB PB U D v R (wr.setCell ⟨G, o, none⟩ u) := by
  refine ⟨World.ownsRow.kept (row := some G) h.row ⟨rfl, rfl, rfl, by simp, fun k hk hne => Below.heap_setCell _ _ _ _ (fun e => hne (by rw [e]))⟩ (.inr hv), h.nP, h.nU, ?_, ?_, h.low.setCell hG _, h.base, h.far⟩
  · refine ⟨by simpa using h.aU.1, fun j hj => ⟨?_, by rw [World.frozen?_setCell]; exact (h.aU.2 j hj).2⟩⟩
    rw [World.cell?_setCell_other _ _ _ _ (addr_ne (by omega))]; exact (h.aU.2 j hj).1
  · refine ⟨by simpa using h.aP.1, fun j hj => ⟨?_, by rw [World.frozen?_setCell]; exact (h.aP.2 j hj).2⟩⟩
    rw [World.cell?_setCell_other _ _ _ _ (addr_ne (by omega))]; exact (h.aP.2 j hj).1
theorem PSt.zero (h : PSt w0 B UB PB U D v R wr) : PSt w0 B UB PB U (D ++ [0]) v R wr := ⟨h.row, h.nP, h.nU, h.aU, h.aP.zero, h.low, h.base, h.far⟩
theorem PSt.put (h : PSt w0 B UB PB U D v R wr) {k : Nat} (hl : D.length = k) (hk : k < 60) (x : Int) : PSt w0 B UB PB U (D ++ [x]) v R (wr.setCell ⟨PB, k, none⟩ (.int .i64 x)) := by
  obtain ⟨f1, f2, f3⟩ := h.far
  refine ⟨World.ownsRow.kept (row := some PB) h.row ⟨rfl, rfl, rfl, by simp, fun k hk hne => Below.heap_setCell _ _ _ _ (fun e => hne (by rw [e]))⟩ (.inr h.nP), h.nP, h.nU, ?_, h.aP.set hl hk x, h.low.setCell f1 _, h.base, h.far⟩
  refine ⟨by simpa using h.aU.1, fun j hj => ⟨?_, by rw [World.frozen?_setCell]; exact (h.aU.2 j hj).2⟩⟩
  rw [World.cell?_setCell_other _ _ _ _ (addr_ne (by omega))]; exact (h.aU.2 j hj).1
theorem PSt.app (h : PSt w0 B UB PB U D v R wr) {w' : World} {v' : Value} {R' : List Gt} (hr : RowGt w' B v' R') (hg : wr.grownBy w' v.ownBlock) (hat : v'.ownBlock = v.ownBlock ∨ v'.ownBlock = some wr.heap.size) : PSt w0 B UB PB U D v' R' w' := by
  have hP := h.aP.1
  have hU := h.aU.1
  have eP := hg.block PB hP (fun e => h.nP e.symm)
  have eU := hg.block UB hU (fun e => h.nU e.symm)
  refine ⟨hr, ?_, ?_, ⟨Nat.lt_of_lt_of_le hU hg.size, fun j hj => ⟨?_, ?_⟩⟩, ⟨Nat.lt_of_lt_of_le hP hg.size, fun j hj => ⟨?_, ?_⟩⟩, h.low.trans (h.row.low h.size hg), h.base, h.far⟩
  · rcases hat with e | e
    · rw [e]; exact h.nP
    · rw [e]; intro e; injection e with e; omega
  · rcases hat with e | e
    · rw [e]; exact h.nU
    · rw [e]; intro e; injection e with e; omega
  · rw [World.cell?_of_block (a := ⟨UB, j, none⟩) eU]; exact (h.aU.2 j hj).1
  · rw [World.frozen?_of_block (a := ⟨UB, j, none⟩) eU]; exact (h.aU.2 j hj).2
  · rw [World.cell?_of_block (a := ⟨PB, j, none⟩) eP]; exact (h.aP.2 j hj).1
  · rw [World.frozen?_of_block (a := ⟨PB, j, none⟩) eP]; exact (h.aP.2 j hj).2
/-- a row of its own lies in a block that is there -/
theorem PSt.new (h : PSt w0 B UB PB U D v R wr) {G : Nat} (hG : wr.heap.size ≤ G) : v.ownBlock ≠ some G := fun e => by
  have := (World.ownsRow.lt h.row G e).2
  omega
end
def prnV (p : Int) (L : List Gt) : List Gt := if circB p L then prnL L (useF L) L.length else []
end Go.Proofs.YtoeghbcolpailaaGreat
namespace Go.Proofs.YtoeghbcolpailaaGreat
open Go.RowKit
theorem useTo_step {U : Nat → Bool} {k : Nat} (h : U k = true) : useTo U (k + 1) = useTo U k ++ [(k : Int)] := by simp [useTo, h]
theorem useTo_skip {U : Nat → Bool} {k : Nat} (h : U k = false) : useTo U (k + 1) = useTo U k := by simp [useTo, h]
theorem useTo_mono (U : Nat → Bool) {i : Nat} : ∀ {k : Nat}, i ≤ k → (useTo U i).length ≤ (useTo U k).length := by
  intro k h
  induction k with
  | zero => rw [show i = 0 by omega]; exact Nat.le_refl _
  | succ k ih =>
    by_cases e : i = k + 1
    · rw [e]; exact Nat.le_refl _
    · have := ih (by omega)
      cases hu : U k
      · rw [useTo_skip hu]; exact this
      · rw [useTo_step hu]; simp; omega
theorem use_pos (U : Nat → Bool) : ∀ n t : Nat, t < (useTo U n).length → ∃ j : Nat, j < n ∧ U j = true ∧ (useTo U n).getD t 0 = (j : Int) ∧ useTo U j = (useTo U n).take t
  | 0, t, h => by simp [useTo] at h
  | n + 1, t, h => by
    cases hu : U n
    · rw [useTo_skip hu] at h ⊢
      obtain ⟨j, h1, h2⟩ := use_pos U n t h
      exact ⟨j, by omega, h2⟩
    · rw [useTo_step hu] at h ⊢
      by_cases e : t = (useTo U n).length
      · subst e
        exact ⟨n, by omega, hu, by simp [List.getD_eq_getElem?_getD], by simp⟩
      · have ht : t < (useTo U n).length := by simp at h; omega
        obtain ⟨j, h1, h2, h3, h4⟩ := use_pos U n t ht
        refine ⟨j, by omega, h2, ?_, ?_⟩
        · rw [← h3, List.getD_eq_getElem?_getD, List.getD_eq_getElem?_getD, List.getElem?_append_left ht]
        · rw [h4, List.take_append_of_le_length (by omega)]
theorem use_none (U : Nat → Bool) {k j i : Nat} (h : (useTo U k).length = (useTo U j).length) (h1 : k ≤ i) (h2 : i < j) : U i = false := by
  cases hu : U i
  · rfl
  · have a := useTo_mono U h1
    have b := useTo_mono U (show i + 1 ≤ j by omega)
    rw [useTo_step hu] at b
    simp at b
    omega
theorem prn_skip (L : List Gt) (U : Nat → Bool) (k : Nat) : ∀ d : Nat, (∀ i, k ≤ i → i < k + d → U i = false) → prnL L U (k + d) = prnL L U k
  | 0, _ => rfl
  | d + 1, h => by
    rw [← Nat.add_assoc, prnL, h (k + d) (by omega) (by omega), prn_skip L U k d (fun i h1 h2 => h i h1 (by omega))]
    rfl
/-- from the place where the last one was put to the next used one -/
theorem prn_to (L : List Gt) (U : Nat → Bool) {k j : Nat} (hj : U j = true) (h : useTo U k = useTo U j) : k ≤ j ∧ prnL L U k = prnL L U j ∧ ∀ i, (plL U k).getD i 0 = (plL U j).getD i 0 := by
  have hl : (useTo U k).length = (useTo U j).length := by rw [h]
  have hkj : k ≤ j := by
    refine Classical.byContradiction fun hn => ?_
    have := useTo_mono U (show j + 1 ≤ k by omega)
    rw [useTo_step hj] at this
    simp at this
    omega
  refine ⟨hkj, ?_, fun i => ?_⟩
  · obtain ⟨d, rfl⟩ := Nat.exists_eq_add_of_le hkj
    exact (prn_skip L U k d (fun i h1 h2 => use_none U hl h1 h2)).symm
  · rw [plL_at, plL_at]
    by_cases h1 : i < k
    · rw [if_pos h1, if_pos (by omega)]
    · rw [if_neg h1]
      split
      · rename_i h2
        unfold pl
        rw [use_none U hl (by omega) h2]
        rfl
      · rfl
theorem ArrI.same {w : World} {g : Nat} {D E : List Int} (h : ArrI w g D) (he : ∀ i, D.getD i 0 = E.getD i 0) : ArrI w g E :=
  ⟨h.1, fun j hj => ⟨by rw [(h.2 j hj).1, he], (h.2 j hj).2⟩⟩
theorem prnL_out {p : Int} {L : List Gt} (hv : circB p L = true) (hl : L.length ≤ 60) : prnL L (useF L) 60 = prnL L (useF L) L.length ∧ (useTo (useF L) 60).length = (useTo (useF L) L.length).length := by
  obtain ⟨d, hd⟩ := Nat.exists_eq_add_of_le hl
  rw [hd]
  have e := prn_skip L (useF L) L.length d (fun i h1 _ => useF_out hv h1)
  refine ⟨e, ?_⟩
  rw [← prnL_len L, ← prnL_len L, e]
theorem prnL_ok {p : Int} {L : List Gt} (hv : circB p L = true) : ∀ k : Nat, k ≤ L.length → ∀ i : Nat, i < (prnL L (useF L) k).length → gOK (p - 1) (gAt (prnL L (useF L) k) i) i = true
  | 0, _, i, h => by simp [prnL] at h
  | k + 1, hk, i, h => by
    have ih := prnL_ok hv k (by omega)
    obtain ⟨_, _, _, hall⟩ := circB_iff.1 hv
    cases hu : useF L k
    · have e : prnL L (useF L) (k + 1) = prnL L (useF L) k := by rw [prnL, hu]; rfl
      rw [e] at h ⊢
      exact ih i h
    · have e : prnL L (useF L) (k + 1) = prnL L (useF L) k ++ [mapG (useF L) (gAt L k)] := by rw [prnL, hu]; rfl
      rw [e] at h ⊢
      by_cases hi : i < (prnL L (useF L) k).length
      · have : gAt (prnL L (useF L) k ++ [mapG (useF L) (gAt L k)]) i = gAt (prnL L (useF L) k) i := by
          unfold gAt
          simp only [List.getD_eq_getElem?_getD]
          rw [List.getElem?_append_left hi]
        rw [this]
        exact ih i hi
      · have hie : i = (prnL L (useF L) k).length := by simp at h; omega
        have : gAt (prnL L (useF L) k ++ [mapG (useF L) (gAt L k)]) i = mapG (useF L) (gAt L k) := by
          unfold gAt
          rw [List.getD_eq_getElem?_getD, hie, List.getElem?_append_right (Nat.le_refl _)]
          simp
        rw [this]
        have hg := hall k (by omega)
        have hc := gOK_cases hg
        cases hj : joinsB (gAt L k)
        · rw [show mapG (useF L) (gAt L k) = gAt L k by simp [mapG, hj]]
          have hk2 : ¬ ((gAt L k).k = 2 ∨ (gAt L k).k = 3) := by
            intro h2
            rw [Bool.eq_false_iff] at hj
            exact hj (by simpa [joinsB] using h2)
          rcases hc with h1 | h1 | h1
          · simp [gOK, h1, inB]
          · simp [gOK, h1, inB]
          · exact absurd h1.1 hk2
        · rw [show mapG (useF L) (gAt L k) = ⟨(gAt L k).k, pl (useF L) (gAt L k).a.toNat, pl (useF L) (gAt L k).b.toNat⟩ by simp [mapG, hj]]
          have hk2 : (gAt L k).k = 2 ∨ (gAt L k).k = 3 := by simpa [joinsB] using hj
          obtain ⟨ua, ub⟩ := use_closed hv (by omega) hu hj
          have key : ∀ a : Nat, a < k → useF L a = true → 0 ≤ pl (useF L) a ∧ pl (useF L) a < (i : Int) := by
            intro a ha hua
            have h1 := useTo_mono (useF L) (show a + 1 ≤ k by omega)
            rw [useTo_step hua] at h1
            simp at h1
            unfold pl
            rw [if_pos hua, hie, prnL_len]
            omega
          have ka := key (gAt L k).a.toNat (by omega) ua
          have kb := key (gAt L k).b.toNat (by omega) ub
          rcases hk2 with h2 | h2 <;> (simp [gOK, h2, inB]; omega)
theorem prnL_circ {p : Int} {L : List Gt} (hv : circB p L = true) : circB p (prnL L (useF L) L.length) = true := by
  obtain ⟨hp, hl1, hl2, _⟩ := circB_iff.1 hv
  refine circB_iff.2 ⟨hp, ?_, ?_, prnL_ok hv L.length (Nat.le_refl _)⟩
  · have h := useTo_mono (useF L) (show L.length - 1 + 1 ≤ L.length by omega)
    rw [useTo_step (useF_last hv)] at h
    rw [prnL_len]
    simp at h
    omega
  · rw [prnL_len]
    have := useTo_len (useF L) L.length
    omega
end Go.Proofs.YtoeghbcolpailaaGreat
