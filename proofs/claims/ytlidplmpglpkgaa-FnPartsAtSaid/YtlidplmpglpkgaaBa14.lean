/-
  Which gates are used: an array of sixty truth values in a block; the model's l3Used. Conditions: what the slice holds is known.
-/
import Derived.Test.YtlidplmpglpkgaaBa12
import Derived.Deep.MidRow
import Derived.ChangeKeysEq
import Derived.Deep.CutRange
import Derived.Deep.Cut
namespace Go.Proofs.Ytlidplmpglpkgaa
open Go.RowKit
/-- one gate's turn: if it is used and joins two, these are used -/
def useStep (L : List Gt) (U : Nat → Bool) (i : Nat) : Nat → Bool :=
  if U i && joinsB (gAt L i) then fun j => (U j || (j : Int) == (gAt L i).a) || (j : Int) == (gAt L i).b else U
/-- behind m gates, from the last one down -/
def useM (L : List Gt) : Nat → Nat → Bool
  | 0 => fun j => j + 1 == L.length
  | m + 1 => useStep L (useM L m) (L.length - 1 - m)
def useF (L : List Gt) : Nat → Bool := useM L L.length
/-- a block whose first sixty cells hold truth values -/
def ArrB (w : World) (g : Nat) (U : Nat → Bool) : Prop :=
  g < w.heap.size ∧ ∀ j : Nat, j < 60 → w.cell? ⟨g, j, none⟩ = some (.bool (U j)) ∧ w.frozen? ⟨g, j, none⟩ = false
theorem ArrB.below {w w' : World} {B g : Nat} {U : Nat → Bool} (h : ArrB w g U) (hb : Below B w w') (hg : g < B) : ArrB w' g U :=
  ⟨Nat.lt_of_lt_of_le h.1 hb.size, fun j hj => ⟨by rw [hb.cell (p := ⟨g, j, none⟩) hg]; exact (h.2 j hj).1, by rw [hb.frozen (p := ⟨g, j, none⟩) hg]; exact (h.2 j hj).2⟩⟩
theorem ArrB.set {w : World} {g k : Nat} {U : Nat → Bool} (h : ArrB w g U) (hk : k < 60) (v : Bool) : ArrB (w.setCell ⟨g, k, none⟩ (.bool v)) g (fun j => if j = k then v else U j) := by
  refine ⟨by simpa using h.1, fun j hj => ⟨?_, by rw [World.frozen?_setCell]; exact (h.2 j hj).2⟩⟩
  by_cases e : j = k
  · subst e
    dsimp only
    rw [if_pos rfl]
    exact World.cell?_setCell_same _ _ _ (h.2 j hj).1
  · dsimp only
    rw [if_neg e, World.cell?_setCell_other _ _ _ _ (addr_ne (by omega))]
    exact (h.2 j hj).1
theorem ArrB.far {w : World} {g G k : Nat} {U : Nat → Bool} (h : ArrB w g U) (hg : g ≠ G) (v : Value) : ArrB (w.setCell ⟨G, k, none⟩ v) g U :=
  ⟨by simpa using h.1, fun j hj => ⟨by rw [World.cell?_setCell_other _ _ _ _ (addr_ne (by omega))]; exact (h.2 j hj).1, by rw [World.frozen?_setCell]; exact (h.2 j hj).2⟩⟩
theorem ArrB.new (w : World) (ty : TypeId) : ArrB (w.alloc (.cells (Array.replicate 60 (.bool false)) ty)) w.heap.size (fun _ => false) := by
  refine ⟨by simp, fun j hj => ⟨?_, ?_⟩⟩
  · rw [World.cell?_alloc_new]; simp [hj]
  · rw [World.frozen?_alloc_new]
theorem ArrB.ext {w : World} {g : Nat} {U V : Nat → Bool} (h : ArrB w g U) (e : ∀ j, j < 60 → U j = V j) : ArrB w g V :=
  ⟨h.1, fun j hj => by rw [← e j hj]; exact h.2 j hj⟩
/-- a result that lies in a cell's block -/
theorem results_cell_at {fn : Func} {t : Tmp} {ty : TypeId} (h : fn.results = #[.cell t ty]) (tmps : Array Value) (w : World) (b o : Nat) (hp : tmps.getD t undef = .pointer (some ⟨b, o, none⟩)) (v : Value)
    (hv : (loadVar ty ⟨b, o, none⟩).run Try.prog w = .ok v w) : (results fn tmps).run Try.prog w = .ok v w := by
  have hp' : tmps[t]?.getD undef = .pointer (some ⟨b, o, none⟩) := by simpa using hp
  simp [results, h, hp', asAddr, hv]
/-- the sixty values as cells -/
def useC (U : Nat → Bool) : List Value := (List.range 60).map fun j => .bool (U j)
theorem useC_len (U : Nat → Bool) : (useC U).length = 60 := by simp [useC]
theorem useC_at (U : Nat → Bool) (j : Nat) (h : j < 60) : (useC U)[j]? = some (.bool (U j)) := by simp [useC, h]
theorem useC_one (U : Nat → Bool) : ∀ v ∈ useC U, v.oneCell' = true := by
  intro v hv
  simp [useC] at hv
  obtain ⟨j, _, rfl⟩ := hv
  rfl
theorem ArrB.range {w : World} {g : Nat} {U : Nat → Bool} (h : ArrB w g U) : w.rangeAt g 0 (useC U) := by
  intro j v hv
  have hj : j < 60 := by
    rcases Nat.lt_or_ge j 60 with h | h
    · exact h
    · rw [List.getElem?_eq_none (by rw [useC_len]; exact h)] at hv; cases hv
  rw [useC_at U j hj] at hv
  cases hv
  rw [Nat.zero_add]; exact (h.2 j hj).1
theorem ArrB.there {w : World} {g : Nat} {U : Nat → Bool} (h : ArrB w g U) : w.there g 0 60 := by
  intro j hj
  rw [Nat.zero_add]
  obtain ⟨h1, h2⟩ := h.2 j hj
  exact ⟨by rw [h1]; rfl, h2⟩
theorem below_setCells {B : Nat} {a : World} (b : Nat) : ∀ (vs : List Value) (o : Nat) (w : World), Below B a w → B ≤ b → Below B a (w.setCells b o vs)
  | [], _, _, h, _ => h
  | v :: r, o, w, h, hb => by
    rw [World.setCells]
    exact below_setCells b r (o + 1) _ (h.setCell hb _) hb
theorem infoB : (Try.prog.info? 157).map (·.size) = some 60 := by kernel_rfl
/-- a value that is an array of sixty truth values, as far as indexing it goes -/
def UseV (V : Value) (U : Nat → Bool) : Prop := V = .agg (useC U).toArray
set_option maxRecDepth 100000 in
theorem UseV.index {V : Value} {U : Nat → Bool} (h : UseV V U) (k : Nat) (hk : k < 60) (w : World) : (Instr.index 157 V (.int .i64 k)).run Try.prog w = .ok (.bool (U k)) w := by
  subst h
  have hn : 0 ≤ (k : Int) ∧ (k : Int) < 60 := ⟨by omega, by omega⟩
  have hc : Try.prog.cellsOf 4 = 1 := by kernel_rfl
  have hs : (Try.prog.info? 4).isSome = true := by kernel_rfl
  obtain ⟨i, hi⟩ := Option.isSome_iff_exists.1 hs
  have hz := run_sizeOf (w := w) hi
  rw [hc] at hz
  have hx2 := useC_at U k hk
  simp [Instr.index, run_underlying Try.underlying157, asIntOf, hk, hz, hx2, go_sem]
set_option maxRecDepth 100000 in
set_option maxHeartbeats 8000000 in
theorem sUsed_some (p : Int) (L : List Gt) (hv : circB p L = true) (g off cap : Nat) (w : World) (hg : g < w.heap.size)
    (hc : ∀ j : Nat, j < L.length → GAt w g (off + j * 3) (L.getD j default)) :
    Calls Try.prog 211 #[.slice (some ⟨g, off, none⟩) L.length cap] w fun e w' => ∃ V, e = .returned V ∧ UseV V (useF L) ∧ Below w.heap.size w w' := by
  obtain ⟨hp, hl1, hl2, hall⟩ := circB_iff.1 hv
  have HC := Lib.hid hc
  have HA := Lib.hid hall
  clear hc hv hall hp
  obtain ⟨W, hW⟩ : ∃ W, W = (w.alloc (.cells (Array.replicate 60 (.bool false)) 157)).alloc (.cells (Array.replicate 60 (.bool false)) 157) := ⟨_, rfl⟩
  have hs0 : W.heap.size = w.heap.size + 2 := by rw [hW]; simp
  have A0 : ArrB W w.heap.size (fun _ => false) := by rw [hW]; exact (ArrB.new w _).below (Below.alloc (Below.refl _ _) (Nat.le_refl _) _) (by simp)
  have A1 : ArrB W (w.heap.size + 1) (fun _ => false) := by rw [hW]; have := ArrB.new (w.alloc (.cells (Array.replicate 60 (.bool false)) 157)) 157; simpa using this
  have B0 : Below w.heap.size w W := by rw [hW]; exact (by repeat (first | exact Below.refl _ _ | apply Below.drew | apply below_drewN | (refine Below.alloc ?_ (by first | omega | (simp <;> omega)) _)))
  go_enter Try.func211, Try.ntmps211
  go_upto_region 2 with fail
  change Code.wp _ _ _ _ ((w.alloc (.cells (Array.replicate 60 (.bool false)) 157)).alloc (.cells (Array.replicate 60 (.bool false)) 157))
  rw [← hW]
  clear hW
  obtain ⟨n, hn⟩ : ∃ n, L.length = n + 1 := ⟨L.length - 1, by omega⟩
  have hn1 : (L.length : Int) - 1 = (n : Int) := by omega
  have hn60 : (n : Int) < 60 := by omega
  have hn0 : (0 : Int) ≤ n := by omega
  obtain ⟨k0, f0⟩ := A1.2 n (by omega)
  have A2 : ArrB (W.setCell ⟨w.heap.size + 1, n, none⟩ (.bool true)) (w.heap.size + 1) (useM L 0) :=
    (A1.set (by omega) true).ext (fun j hj => by simp only [useM]; by_cases e : j = n <;> simp [e, hn] <;> omega)
  have A3 : ArrB (W.setCell ⟨w.heap.size + 1, n, none⟩ (.bool true)) w.heap.size (fun _ => false) := A0.far (by omega) _
  have B2 : Below w.heap.size w (W.setCell ⟨w.heap.size + 1, n, none⟩ (.bool true)) := B0.setCell (by simp) _
  have HN := Lib.hid hn
  clear hn A0 A1
  go_wp2_with fail
  have H2 := Lib.hid A3
  go_loopw [4] (fun i wr => ∃ m : Nat, m ≤ L.length ∧ i = .int .i64 ((L.length : Int) - 1 - m) ∧ ArrB wr (w.heap.size + 1) (useM L m) ∧ ArrB wr w.heap.size (fun _ => false) ∧ Below w.heap.size w wr) (fun i _ => (intOf i + 1).toNat)
  case atStart => exact ⟨0, by omega, by rw [← hn1]; simp, A2, A3, B2⟩
  case round =>
    clear A2 A3 B2 k0 f0
    obtain ⟨m, hm, rfl, hA, hR, hb⟩ := hrel
    by_cases hlt : m < L.length
    · obtain ⟨i, hi⟩ : ∃ i : Nat, L.length - 1 - m = i := ⟨_, rfl⟩
      have hij : (L.length : Int) - 1 - m = (i : Int) := by omega
      rw [hij]
      have hil : i < L.length := by omega
      have hi60 : (i : Int) < 60 := by omega
      have hilp : (i : Int) < (L.length : Int) := by omega
      have hi0 : (0 : Int) ≤ (i : Int) := by omega
      have hwi : IntKind.i64.wrap ((i : Int) - 1) = (i : Int) - 1 := IntWalk.i64_in _ (by omega)
      have hnx : (i : Int) - 1 = (L.length : Int) - 1 - ((m + 1 : Nat) : Int) := by omega
      obtain ⟨q0, _⟩ := hA.2 i (by omega)
      have HM := Lib.hid (show useM L (m + 1) = useStep L (useM L m) i by rw [useM, hi])
      have HA0 := Lib.hid hA
      have HR := Lib.hid hR
      have Hb := Lib.hid hb
      have HNX := Lib.hid hnx
      clear hnx hij hi hA hR hb
      rcases Bool.eq_false_or_eq_true (useM L m i) with hu | hu
      · rw [hu] at q0
        have HU := Lib.hid hu
        clear hu
        obtain ⟨a0, a1, a2⟩ := (HC.out i hil).below Hb.out hg
        have hx0 := HA.out i hil
        obtain ⟨x, hx⟩ : ∃ x, x = L.getD i default := ⟨_, rfl⟩
        rw [← hx] at a0 a1 a2
        rw [← gat_mk hx] at hx0
        have hcs := gOK_cases hx0
        simp only at hcs
        have HG := Lib.hid (gat_mk hx).symm
        obtain ⟨xk, xa, xb⟩ := x
        simp only at a0 a1 a2 hcs HG
        by_cases h2 : 2 ≤ xk
        · have hxk : xk = 2 ∨ xk = 3 := by omega
          obtain ⟨ja, rfl⟩ := Int.eq_ofNat_of_zero_le (show 0 ≤ xa by omega)
          obtain ⟨jb, rfl⟩ := Int.eq_ofNat_of_zero_le (show 0 ≤ xb by omega)
          have hja : ja < i := by omega
          have hjb : jb < i := by omega
          have ja60 : (ja : Int) < 60 := by omega
          have jb60 : (jb : Int) < 60 := by omega
          have ja0 : (0 : Int) ≤ ja := by omega
          have jb0 : (0 : Int) ≤ jb := by omega
          obtain ⟨p1, f1⟩ := HA0.out.2 ja (by omega)
          have S1 := HA0.out.set (k := ja) (by omega) true
          obtain ⟨p2, f2⟩ := S1.2 jb (by omega)
          have S2 := S1.set (k := jb) (by omega) true
          have hR3 : ArrB ((wr.setCell ⟨w.heap.size + 1, ja, none⟩ (.bool true)).setCell ⟨w.heap.size + 1, jb, none⟩ (.bool true)) (w.heap.size + 1) (useM L (m + 1)) := by
            refine S2.ext fun j _ => ?_
            have hjo : joinsB ⟨xk, ja, jb⟩ = true := by rcases hxk with rfl | rfl <;> rfl
            rw [HM.out]
            simp only [useStep, HU.out, HG.out, hjo, Bool.and_self, if_true]
            by_cases e1 : j = jb
            · subst e1; simp
            · by_cases e2 : j = ja
              · subst e2; simp [e1]
              · have n1 : ((j : Int) == (ja : Int)) = false := beq_eq_false_iff_ne.2 (by omega)
                have n2 : ((j : Int) == (jb : Int)) = false := beq_eq_false_iff_ne.2 (by omega)
                rw [n1, n2, if_neg e1, if_neg e2]
                simp
          have hR4 : ArrB ((wr.setCell ⟨w.heap.size + 1, ja, none⟩ (.bool true)).setCell ⟨w.heap.size + 1, jb, none⟩ (.bool true)) w.heap.size (fun _ => false) := (HR.out.far (by omega) _).far (by omega) _
          have hb2 : Below w.heap.size w ((wr.setCell ⟨w.heap.size + 1, ja, none⟩ (.bool true)).setCell ⟨w.heap.size + 1, jb, none⟩ (.bool true)) := (Hb.out.setCell (by simp) _).setCell (by simp) _
          have b0 := (HC.out i hil).below (Hb.out.setCell (p := ⟨w.heap.size + 1, ja, none⟩) (by simp) (.bool true)) hg
          rw [← hx] at b0
          obtain ⟨b0, b1, b2⟩ := b0
          simp only at b0 b1 b2
          clear S1 S2 hx hx0 hcs hxk
          go_wp2_with fail
          go_roundw
          case rel => exact ⟨m + 1, by omega, by rw [HNX.out], hR3, hR4, hb2⟩
          case measure => simp [intOf] <;> omega
        · have hM2 : useM L (m + 1) = useM L m := by
            have hjo : joinsB ⟨xk, xa, xb⟩ = false := by simp [joinsB]; omega
            rw [HM.out]; simp [useStep, HG.out, hjo]
          have HM2 := Lib.hid hM2
          clear hx hx0 hcs hM2
          go_wp2_with fail
          go_roundw
          case rel => exact ⟨m + 1, by omega, by rw [HNX.out], by rw [HM2.out]; exact HA0.out, HR.out, Hb.out⟩
          case measure => simp [intOf] <;> omega
      · rw [hu] at q0
        have HM2 := Lib.hid (show useM L (m + 1) = useM L m by rw [HM.out]; simp [useStep, hu])
        clear hu
        go_wp2_with fail
        go_roundw
        case rel => exact ⟨m + 1, by omega, by rw [HNX.out], by rw [HM2.out]; exact HA0.out, HR.out, Hb.out⟩
        case measure => simp [intOf] <;> omega
    · have hml : m = L.length := by omega
      subst hml
      have hij : (L.length : Int) - 1 - (L.length : Int) = -1 := by omega
      rw [hij]
      have hT := hR.there
      have hC := hA.range
      have hlen := useC_len (useF L)
      have h1 := all_oneCell_toArray (useC_one (useF L))
      have hT2 : wr.there w.heap.size 0 (useC (useF L)).toArray.size := by simp only [List.size_toArray, hlen]; exact hT
      have hI2 : (Try.prog.info? 157).map (·.size) = some (useC (useF L)).toArray.size := by simp only [List.size_toArray, hlen]; exact infoB
      have hI1 : (Try.prog.info? 157).map (·.size) = some (useC (useF L)).length := by rw [hlen]; exact infoB
      have hC2 : wr.rangeAt (w.heap.size + 1) 0 (useC (useF L)) := hC
      have hE : (wr.setCells w.heap.size 0 (useC (useF L))).rangeAt w.heap.size 0 (useC (useF L)) := World.rangeAt_setCells_same _ _ _ _ (by rw [hlen]; exact hT)
      have hB : Below w.heap.size w (wr.setCells w.heap.size 0 (useC (useF L))) := below_setCells _ _ _ _ hb (Nat.le_refl _)
      clear hA hR hb hT hC
      go_wp2_with (first
        | (refine wpList_load_mid rfl 157 _ rfl (w.heap.size + 1) 0 rfl (useC (useF L)) _ hC2 Try.underlying157 rfl hI1 ?_)
        | (refine wpList_store_mid rfl 157 _ _ rfl w.heap.size 0 (useC (useF L)).toArray rfl rfl hT2 hI2 h1 ?_))
      have hL := run_loadVar_mid (P := Try.prog) (wr.setCells w.heap.size 0 (useC (useF L))) w.heap.size 0 157 (useC (useF L)) _ hE Try.underlying157 rfl hI1
      refine bodyPost_ret (v := .agg (useC (useF L)).toArray) (results_cell_at Try.results211 _ _ w.heap.size 0 rfl _ hL) rfl ⟨_, rfl, rfl, hB⟩
end Go.Proofs.Ytlidplmpglpkgaa
