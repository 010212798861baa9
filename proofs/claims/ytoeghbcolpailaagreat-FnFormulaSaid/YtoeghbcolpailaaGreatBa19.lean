/-
  The program's 'used': a range over slices.Backward. Conditions: what the slice holds is known.
  Contracts of UsedGates, of both. Conditions: what the slice holds is known.
  Contracts of CostOf, of both. Conditions: what the slice holds is known.
  Circuits as lists of gates: a circuit is no deeper than it has sums and products, and its formal degree is at most 2 to the power of its products. Conditions: the gates are a circuit.
  The formula that a circuit is without sharing: mathematics alone. Conditions: the circuit is one.
  FormulaOfCircuit, of the model. Conditions: what the slice holds is known.
  Contract of the program's CostOf. Conditions: what the slice holds is known.
-/
import Derived.Test.YtoeghbcolpailaaGreatBa18
import Derived.Test.YtoeghbcolpailaaGreatBa2
import Derived.RangeFuncNested
import Derived.RangeFuncBound
import Derived.RangeFuncCalls
import Derived.RangeFuncLeaves
import Derived.Shelf.Abstract
import Derived.Shelf.RegionOpen
import Derived.OwnWalkIn
import Derived.TacticsInMore
import Derived.LoopNIn
import Derived.LoopIn
import Derived.Deep.Upon
import Derived.Test.YtoeghbcolpailaaGreatBa10
import Derived.Test.YtoeghbcolpailaaGreatBa15
namespace Go.Proofs.YtoeghbcolpailaaGreat
open Go.RowKit Go.Shelf
attribute [local go_sem] Oper.semAt_some
/-- all blocks below n₀ but one lie as they lay -/
structure KpX (n₀ UB : Nat) (w w' : World) : Prop where
  size : w.heap.size ≤ w'.heap.size
  block : ∀ k, k < n₀ → k ≠ UB → w'.heap[k]? = w.heap[k]?
theorem KpX.refl (n₀ UB : Nat) (w : World) : KpX n₀ UB w w := ⟨Nat.le_refl _, fun _ _ _ => rfl⟩
theorem KpX.trans {n₀ UB : Nat} {a b c : World} (h : KpX n₀ UB a b) (k : KpX n₀ UB b c) : KpX n₀ UB a c := ⟨Nat.le_trans h.size k.size, fun i h1 h2 => (k.block i h1 h2).trans (h.block i h1 h2)⟩
theorem KpX.cell {n₀ UB : Nat} {w w' : World} (h : KpX n₀ UB w w') {p : Addr} (h1 : p.block < n₀) (h2 : p.block ≠ UB) : w'.cell? p = w.cell? p := cell_of_heap (h.block _ h1 h2)
theorem KpX.of_below {n₀ UB : Nat} {w w' : World} (h : Below n₀ w w') : KpX n₀ UB w w' := ⟨h.size, fun k hk _ => h.block k hk⟩
/-- the gates' numbers from the last one down, m of them -/
def bkTo (n : Nat) : (m : Nat) → m ≤ n → List (Fin n)
  | 0, _ => []
  | m + 1, h => bkTo n m (by omega) ++ [⟨n - 1 - m, by omega⟩]
theorem bkTo_len (n : Nat) : ∀ (m : Nat) (h : m ≤ n), (bkTo n m h).length = m
  | 0, _ => rfl
  | m + 1, h => by simp [bkTo, bkTo_len n m]
def encG (L : List Gt) (x : Fin L.length) : Array Value := #[.int .i64 ((x.1 : Nat) : Int), .agg #[.int .i64 (gAt L x.1).k, .int .i64 (gAt L x.1).a, .int .i64 (gAt L x.1).b]]
/-- what the rounds make of the first truth values -/
def useL (L : List Gt) (pre : List (Fin L.length)) : Nat → Bool := pre.foldl (fun U x => useStep L U x.1) (useM L 0)
theorem useL_snoc (L : List Gt) (pre : List (Fin L.length)) (x : Fin L.length) : useL L (pre ++ [x]) = useStep L (useL L pre) x.1 := by simp [useL]
theorem useL_bk (L : List Gt) : ∀ (m : Nat) (h : m ≤ L.length), useL L (bkTo L.length m h) = useM L m
  | 0, _ => rfl
  | m + 1, h => by rw [bkTo, useL_snoc, useL_bk L m]; rfl
theorem arrB_own {β : Type} (g : Nat) (f : β → Nat → Bool) : Own (fun s W => ArrB W g (f s)) := fun _ _ _ _ hs hg hr =>
  ⟨Nat.lt_of_lt_of_le hs.1 hg.size, fun j hj => ⟨cell_kept (hs.2 j hj).1 hg hr, (frozen_kept (hs.2 j hj).1 hg hr).trans (hs.2 j hj).2⟩⟩
theorem size_own {β : Type} (N : Nat) : Own (fun (_ : β) W => N ≤ W.heap.size) := fun _ _ _ _ hs hg _ => Nat.le_trans hs hg.size
theorem gat_own (g : Nat) (y : Gt) : Own (fun (_ : Unit) W => g < W.heap.size ∧ GAt W g 0 y) := fun _ _ _ _ hs hg hr =>
  ⟨Nat.lt_of_lt_of_le hs.1 hg.size, cell_kept hs.2.1 hg hr, cell_kept hs.2.2.1 hg hr, cell_kept hs.2.2.2 hg hr⟩
theorem keeps_below {w w' : World} (h : Below w.heap.size w w') : KeepsOthers w w' :=
  ⟨h.size, fun k o hk _ => by rw [h.block k (Array.getElem?_eq_some_iff.1 hk).1]; exact hk⟩
theorem KpX.set {n₀ UB : Nat} {a w : World} (h : KpX n₀ UB a w) (o : Nat) (v : Value) : KpX n₀ UB a (w.setCell ⟨UB, o, none⟩ v) :=
  ⟨by simpa using h.size, fun k hk hne => by rw [Below.heap_setCell _ _ _ _ hne]; exact h.block k hk hne⟩
theorem kpX_b {n₀ UB : Nat} {w : World} (hn : n₀ ≤ w.heap.size) (W : World) (l : Nat) (o o' : Obj) (hl : w.heap.size ≤ l) (h : W.heap[l]? = some o) (h1 : o.isCells = false) (h2 : o.isWalk = false) : KpX n₀ UB W (W.putObj l o') :=
  KpX.of_below (belowK_b hn W l o o' hl h h1 h2)
end Go.Proofs.YtoeghbcolpailaaGreat
namespace Go.Proofs.YtoeghbcolpailaaGreat
open Go.RowKit
theorem gats_u {p : Int} {w : World} {v : Value} {L : List Gt} (h : Gats w v L) (hv : circB p L = true) :
    ∃ g off cap, v = .slice (some ⟨g, off, none⟩) L.length cap ∧ g < w.heap.size ∧ ∀ j : Nat, j < L.length → GAt w g (off + j * 3) (L.getD j default) := by
  obtain ⟨_, a, cap, rfl, h2⟩ := h
  rcases h2 with rfl | ⟨g, off, rfl, hg, hc⟩
  · have := (circB_iff.1 hv).2.1; simp at this
  · exact ⟨g, off, cap, rfl, hg, hc⟩
/-- the numbers below k that are used -/
def useTo (U : Nat → Bool) : Nat → List Int
  | 0 => []
  | k + 1 => if U k then useTo U k ++ [(k : Int)] else useTo U k
theorem useTo_len (U : Nat → Bool) : ∀ k, (useTo U k).length ≤ k
  | 0 => Nat.le_refl _
  | k + 1 => by
    unfold useTo
    have := useTo_len U k
    split <;> simp <;> omega
/-- what UsedGates returns -/
def useV (p : Int) (L : List Gt) : List Int := if circB p L then useTo (useF L) 60 else []
end Go.Proofs.YtoeghbcolpailaaGreat
namespace Go.Proofs.YtoeghbcolpailaaGreat
open Go.RowKit
/-- how many of the used gates below k are of a kind -/
def cst (L : List Gt) (U : Nat → Bool) (kd : Int) : Nat → Int
  | 0 => 0
  | k + 1 => cst L U kd k + if U k && (gAt L k).k == kd then 1 else 0
theorem cst_bd (L : List Gt) (U : Nat → Bool) (kd : Int) : ∀ k : Nat, 0 ≤ cst L U kd k ∧ cst L U kd k ≤ k
  | 0 => by simp [cst]
  | k + 1 => by
    have := cst_bd L U kd k
    unfold cst
    split <;> omega
def csum (L : List Gt) (kd : Int) (l : List Int) : Int := l.foldl (fun s j => s + if (gAt L j.toNat).k == kd then 1 else 0) 0
theorem csum_snoc (L : List Gt) (kd : Int) (l : List Int) (x : Int) : csum L kd (l ++ [x]) = csum L kd l + if (gAt L x.toNat).k == kd then 1 else 0 := by simp [csum]
theorem csum_use (L : List Gt) (U : Nat → Bool) (kd : Int) : ∀ k : Nat, csum L kd (useTo U k) = cst L U kd k
  | 0 => rfl
  | k + 1 => by
    unfold useTo cst
    cases hu : U k
    · simp [csum_use L U kd k]
    · rw [if_pos rfl, csum_snoc, csum_use L U kd k]
      simp
theorem csum_bd (L : List Gt) (kd : Int) (l : List Int) : ∀ t : Nat, 0 ≤ csum L kd (l.take t) ∧ csum L kd (l.take t) ≤ t
  | 0 => by simp [csum]
  | t + 1 => by
    have ih := csum_bd L kd l t
    by_cases h : t < l.length
    · rw [List.take_succ_eq_append_getElem h, csum_snoc]
      split <;> omega
    · rw [List.take_of_length_le (by omega)]
      rw [List.take_of_length_le (by omega)] at ih
      omega
/-- only gates of the circuit are used -/
theorem useM_lt {p : Int} {L : List Gt} (hv : circB p L = true) : ∀ (m j : Nat), useM L m j = true → j < L.length
  | 0, j, h => by simp [useM] at h; omega
  | m + 1, j, h => by
    obtain ⟨_, hl1, _, hall⟩ := circB_iff.1 hv
    have ih := useM_lt hv m
    unfold useM useStep at h
    split at h
    · rename_i hc
      simp only [Bool.and_eq_true] at hc
      have hil : L.length - 1 - m < L.length := by omega
      have hg := gOK_cases (hall _ hil)
      have hj := hc.2
      simp only [joinsB, Bool.or_eq_true, beq_iff_eq] at hj
      simp only [Bool.or_eq_true, beq_iff_eq] at h
      rcases h with (h | h) | h
      · exact ih j h
      · omega
      · omega
    · exact ih j h
theorem useF_out {p : Int} {L : List Gt} (hv : circB p L = true) {j : Nat} (h : L.length ≤ j) : useF L j = false := by
  cases hu : useF L j
  · rfl
  · have := useM_lt hv _ j hu; omega
theorem cst_all {p : Int} {L : List Gt} (hv : circB p L = true) (kd : Int) : ∀ d : Nat, cst L (useF L) kd (L.length + d) = cst L (useF L) kd L.length
  | 0 => rfl
  | d + 1 => by
    rw [← Nat.add_assoc, cst, useF_out hv (by omega), cst_all hv kd d]
    simp
theorem useTo_mem (U : Nat → Bool) : ∀ (k : Nat) (x : Int), x ∈ useTo U k → ∃ j : Nat, x = j ∧ U j = true
  | 0, x, h => by simp [useTo] at h
  | k + 1, x, h => by
    unfold useTo at h
    split at h
    · rename_i hu
      rcases List.mem_append.1 h with h | h
      · exact useTo_mem U k x h
      · simp at h; exact ⟨k, h, hu⟩
    · exact useTo_mem U k x h
/-- what CostOf returns -/
def costV (p : Int) (L : List Gt) (kd : Int) : Int := if circB p L then cst L (useF L) kd L.length else -1
theorem arrB_cells {w : World} {g : Nat} {U0 : Nat → Bool} (h : ArrB w g U0) (U : Nat → Bool) : ArrB (w.setCells g 0 (useC U)) g U := by
  have hT : w.there g 0 (useC U).length := by rw [useC_len]; exact h.there
  refine ⟨by
    have := (below_setCells (B := 0) g (useC U) 0 w ⟨rfl, rfl, rfl, Nat.le_refl _, fun _ hk => by omega⟩ (Nat.zero_le _)).size
    exact Nat.lt_of_lt_of_le h.1 this, fun j hj => ⟨?_, ?_⟩⟩
  · have := World.rangeAt_setCells_same w g 0 (useC U) hT j _ (useC_at U j hj)
    rw [Nat.zero_add] at this; exact this
  · rw [World.frozen?_setCells]; exact (h.2 j hj).2
end Go.Proofs.YtoeghbcolpailaaGreat
namespace Go.Proofs.YtoeghbcolpailaaGreat
open Go.RowKit
theorem useM_one {p : Int} {L : List Gt} (hv : circB p L = true) {m j : Nat} (hm : m < L.length) (hj : L.length - 1 - m ≤ j) : useM L (m + 1) j = useM L m j := by
  obtain ⟨_, _, _, hall⟩ := circB_iff.1 hv
  have hg := gOK_cases (hall (L.length - 1 - m) (by omega))
  show useStep L (useM L m) (L.length - 1 - m) j = _
  unfold useStep
  split
  · rename_i hc
    simp only [Bool.and_eq_true, joinsB, Bool.or_eq_true, beq_iff_eq] at hc
    have e1 : ((j : Int) == (gAt L (L.length - 1 - m)).a) = false := by simp; omega
    have e2 : ((j : Int) == (gAt L (L.length - 1 - m)).b) = false := by simp; omega
    simp [e1, e2]
  · rfl
theorem useM_to {p : Int} {L : List Gt} (hv : circB p L = true) {m j : Nat} (hj : L.length - 1 - m ≤ j) : ∀ d : Nat, m + d ≤ L.length → useM L (m + d) j = useM L m j
  | 0, _ => rfl
  | d + 1, h => by
    rw [← Nat.add_assoc, useM_one hv (by omega) (by omega)]
    exact useM_to hv hj d (by omega)
theorem useM_mono {L : List Gt} {m j : Nat} (h : useM L m j = true) : ∀ d : Nat, useM L (m + d) j = true
  | 0 => h
  | d + 1 => by
    have ih := useM_mono h d
    show useStep L (useM L (m + d)) (L.length - 1 - (m + d)) j = true
    unfold useStep
    split
    · simp [ih]
    · exact ih
/-- the parts of a used gate are used -/
theorem use_closed {p : Int} {L : List Gt} (hv : circB p L = true) {j : Nat} (hj : j < L.length) (hu : useF L j = true) (hg : joinsB (gAt L j) = true) :
    useF L (gAt L j).a.toNat = true ∧ useF L (gAt L j).b.toNat = true := by
  obtain ⟨_, _, _, hall⟩ := circB_iff.1 hv
  have hc := gOK_cases (hall j hj)
  have hk : (gAt L j).k = 2 ∨ (gAt L j).k = 3 := by simpa [joinsB] using hg
  have e : L.length - 1 - (L.length - 1 - j) = j := by omega
  have h0 : useM L (L.length - 1 - j) j = true := by
    rw [← useM_to hv (m := L.length - 1 - j) (by omega) (j + 1) (by omega)]
    rw [show L.length - 1 - j + (j + 1) = L.length by omega]
    exact hu
  have hs : useM L (L.length - 1 - j + 1) = fun i => (useM L (L.length - 1 - j) i || (i : Int) == (gAt L j).a) || (i : Int) == (gAt L j).b := by
    show useStep L (useM L (L.length - 1 - j)) (L.length - 1 - (L.length - 1 - j)) = _
    rw [e]
    unfold useStep
    rw [h0, hg]
    rfl
  have ha : useM L (L.length - 1 - j + 1) (gAt L j).a.toNat = true := by
    rw [hs]
    have : (((gAt L j).a.toNat : Nat) : Int) = (gAt L j).a := by omega
    simp [this]
  have hb : useM L (L.length - 1 - j + 1) (gAt L j).b.toNat = true := by
    rw [hs]
    have : (((gAt L j).b.toNat : Nat) : Int) = (gAt L j).b := by omega
    simp [this]
  have e2 : L.length - 1 - j + 1 + j = L.length := by omega
  have h1 := useM_mono ha j
  have h2 := useM_mono hb j
  rw [e2] at h1 h2
  exact ⟨h1, h2⟩
theorem useF_last {p : Int} {L : List Gt} (hv : circB p L = true) : useF L (L.length - 1) = true := by
  obtain ⟨_, h1, _, _⟩ := circB_iff.1 hv
  have h0 : useM L 0 (L.length - 1) = true := by simp [useM]; omega
  have := useM_mono h0 L.length
  rwa [Nat.zero_add] at this
def depAt (L : List Gt) (j : Nat) : Int := (depL L (j + 1)).getD j 0
def degAt (L : List Gt) (j : Nat) : Int := (degL L (j + 1)).getD j 0
theorem depL_st (L : List Gt) (j : Nat) : ∀ k, j < k → (depL L k).getD j 0 = depAt L j
  | 0, h => by omega
  | k + 1, h => by
    by_cases e : j = k
    · rw [e]; rfl
    · rw [depL, getD_snoc, if_neg (by rw [depL_len]; omega)]
      exact depL_st L j k (by omega)
theorem degL_st (L : List Gt) (j : Nat) : ∀ k, j < k → (degL L k).getD j 0 = degAt L j
  | 0, h => by omega
  | k + 1, h => by
    by_cases e : j = k
    · rw [e]; rfl
    · rw [degL, getD_snoc, if_neg (by rw [degL_len]; omega)]
      exact degL_st L j k (by omega)
theorem depAt_eq (L : List Gt) (j : Nat) : depAt L j = if joinsB (gAt L j) then 1 + max ((depL L j).getD (gAt L j).a.toNat 0) ((depL L j).getD (gAt L j).b.toNat 0) else 0 := by
  unfold depAt
  rw [depL, getD_snoc, if_pos (by rw [depL_len])]
theorem degAt_eq (L : List Gt) (j : Nat) : degAt L j = let x := gAt L j
      if x.k == 0 then 1 else if x.k == 2 then max ((degL L j).getD x.a.toNat 0) ((degL L j).getD x.b.toNat 0)
      else if x.k == 3 then min ((degL L j).getD x.a.toNat 0 + (degL L j).getD x.b.toNat 0) 1000 else 0 := by
  unfold degAt
  rw [degL, getD_snoc, if_pos (by rw [degL_len])]
theorem cst_mono (L : List Gt) (U : Nat → Bool) (kd : Int) : ∀ {i k : Nat}, i ≤ k → cst L U kd i ≤ cst L U kd k := by
  intro i k h
  induction k with
  | zero => rw [show i = 0 by omega]; exact Int.le_refl _
  | succ k ih =>
    by_cases e : i = k + 1
    · rw [e]; exact Int.le_refl _
    · have := ih (by omega)
      have h2 : cst L U kd k ≤ cst L U kd (k + 1) := by
        rw [cst]; split <;> omega
      omega
theorem cst_hit {L : List Gt} {U : Nat → Bool} {kd : Int} {j : Nat} (hu : U j = true) (hk : (gAt L j).k = kd) : cst L U kd (j + 1) = cst L U kd j + 1 := by
  rw [cst]; simp [hu, hk]
theorem depAt_cst {p : Int} {L : List Gt} (hv : circB p L = true) : ∀ j : Nat, j < L.length → useF L j = true → depAt L j ≤ cst L (useF L) 2 (j + 1) + cst L (useF L) 3 (j + 1) := by
  intro j
  induction j using Nat.strongRecOn with
  | _ j ih =>
    intro hj hu
    obtain ⟨_, _, _, hall⟩ := circB_iff.1 hv
    have hc := gOK_cases (hall j hj)
    have c2 := cst_bd L (useF L) 2 (j + 1)
    have c3 := cst_bd L (useF L) 3 (j + 1)
    rw [depAt_eq]
    cases hg : joinsB (gAt L j)
    · simp; omega
    · have hk : (gAt L j).k = 2 ∨ (gAt L j).k = 3 := by simpa [joinsB] using hg
      obtain ⟨ua, ub⟩ := use_closed hv hj hu hg
      have la : (gAt L j).a.toNat < j := by omega
      have lb : (gAt L j).b.toNat < j := by omega
      rw [if_pos rfl, depL_st L _ j la, depL_st L _ j lb]
      have ia := ih _ la (by omega) ua
      have ib := ih _ lb (by omega) ub
      have ma2 := cst_mono L (useF L) 2 (i := (gAt L j).a.toNat + 1) (k := j) (by omega)
      have ma3 := cst_mono L (useF L) 3 (i := (gAt L j).a.toNat + 1) (k := j) (by omega)
      have mb2 := cst_mono L (useF L) 2 (i := (gAt L j).b.toNat + 1) (k := j) (by omega)
      have mb3 := cst_mono L (useF L) 3 (i := (gAt L j).b.toNat + 1) (k := j) (by omega)
      have h2 := cst_mono L (useF L) 2 (i := j) (k := j + 1) (by omega)
      have h3 := cst_mono L (useF L) 3 (i := j) (k := j + 1) (by omega)
      have hs : cst L (useF L) 2 j + cst L (useF L) 3 j + 1 ≤ cst L (useF L) 2 (j + 1) + cst L (useF L) 3 (j + 1) := by
        rcases hk with hk | hk
        · have := cst_hit (U := useF L) hu hk; omega
        · have := cst_hit (U := useF L) hu hk; omega
      omega
theorem degAt_cst {p : Int} {L : List Gt} (hv : circB p L = true) : ∀ j : Nat, j < L.length → useF L j = true → degAt L j ≤ 2 ^ (cst L (useF L) 3 (j + 1)).toNat := by
  intro j
  induction j using Nat.strongRecOn with
  | _ j ih =>
    intro hj hu
    obtain ⟨_, _, _, hall⟩ := circB_iff.1 hv
    have hc := gOK_cases (hall j hj)
    have hp : ∀ n : Nat, (1 : Int) ≤ 2 ^ n := fun n => by
      have : (0 : Int) < 2 ^ n := Int.pow_pos (by omega)
      omega
    have hmono : ∀ {a b : Nat}, a ≤ b → (2 : Int) ^ a ≤ 2 ^ b := fun h => by
      have := Nat.pow_le_pow_right (n := 2) (by omega) h
      exact_mod_cast this
    rw [degAt_eq]
    simp only []
    rcases hc with ⟨hk, _⟩ | ⟨hk, _⟩ | ⟨hk, a0, a1, b0, b1⟩
    · rw [if_pos (by simp [hk])]; exact hp _
    · rw [if_neg (by simp [hk]), if_neg (by simp [hk]), if_neg (by simp [hk])]
      have := hp (cst L (useF L) 3 (j + 1)).toNat
      omega
    · have hg : joinsB (gAt L j) = true := by simpa [joinsB] using hk
      obtain ⟨ua, ub⟩ := use_closed hv hj hu hg
      have la : (gAt L j).a.toNat < j := by omega
      have lb : (gAt L j).b.toNat < j := by omega
      rw [degL_st L _ j la, degL_st L _ j lb]
      have ia := ih _ la (by omega) ua
      have ib := ih _ lb (by omega) ub
      have ca := cst_bd L (useF L) 3 ((gAt L j).a.toNat + 1)
      have cb := cst_bd L (useF L) 3 ((gAt L j).b.toNat + 1)
      have cj := cst_bd L (useF L) 3 j
      have ma := cst_mono L (useF L) 3 (i := (gAt L j).a.toNat + 1) (k := j) (by omega)
      have mb := cst_mono L (useF L) 3 (i := (gAt L j).b.toNat + 1) (k := j) (by omega)
      have pa := hmono (a := (cst L (useF L) 3 ((gAt L j).a.toNat + 1)).toNat) (b := (cst L (useF L) 3 j).toNat) (by omega)
      have pb := hmono (a := (cst L (useF L) 3 ((gAt L j).b.toNat + 1)).toNat) (b := (cst L (useF L) 3 j).toNat) (by omega)
      rcases hk with hk | hk
      · rw [if_neg (by simp [hk]), if_pos (by simp [hk])]
        have h3 := cst_mono L (useF L) 3 (i := j) (k := j + 1) (by omega)
        have pj := hmono (a := (cst L (useF L) 3 j).toNat) (b := (cst L (useF L) 3 (j + 1)).toNat) (by omega)
        omega
      · rw [if_neg (by simp [hk]), if_neg (by simp [hk]), if_pos (by simp [hk])]
        have := cst_hit (U := useF L) hu hk
        rw [this, show (cst L (useF L) 3 j + 1).toNat = (cst L (useF L) 3 j).toNat + 1 by omega, Int.pow_succ]
        omega
/-- where the last gate joins nothing, no other one is used -/
theorem use_alone {L : List Gt} (hl : 1 ≤ L.length) (h : joinsB (gAt L (L.length - 1)) = false) : ∀ m j : Nat, useM L m j = (j + 1 == L.length)
  | 0, j => rfl
  | m + 1, j => by
    show useStep L (useM L m) (L.length - 1 - m) j = _
    unfold useStep
    split
    · rename_i hc
      rw [Bool.and_eq_true, use_alone hl h m] at hc
      have e : L.length - 1 - m = L.length - 1 := by have := hc.1; simp at this; omega
      rw [e, h] at hc
      simp at hc
    · exact use_alone hl h m j
theorem cst_alone {L : List Gt} (hl : 1 ≤ L.length) (h : joinsB (gAt L (L.length - 1)) = false) (kd : Int) (hk : kd = 2 ∨ kd = 3) : ∀ k : Nat, cst L (useF L) kd k = 0
  | 0 => rfl
  | k + 1 => by
    rw [cst, cst_alone hl h kd hk k]
    have hu : useF L k = (k + 1 == L.length) := use_alone hl h _ k
    by_cases e : k + 1 = L.length
    · have e' : k = L.length - 1 := by omega
      have hj : ¬ ((gAt L k).k = kd) := by
        rw [e']
        intro hk'
        rw [Bool.eq_false_iff] at h
        apply h
        simp only [joinsB, Bool.or_eq_true, beq_iff_eq]
        omega
      simp [hj]
    · have : useF L k = false := by rw [hu]; simpa using e
      simp [this]
/-- what the law says of a circuit -/
theorem dep_law {p : Int} {L : List Gt} (hv : circB p L = true) :
    0 ≤ depV p L ∧ depV p L ≤ costV p L 2 + costV p L 3 ∧ (depV p L = 0 ↔ costV p L 2 + costV p L 3 = 0) ∧ fdgV p L ≤ 2 ^ (costV p L 3).toNat ∧ fdgV p L ≤ 1000 ∧ 0 ≤ fdgV p L ∧ 0 ≤ costV p L 2 ∧ 0 ≤ costV p L 3 := by
  obtain ⟨_, hl1, _, hall⟩ := circB_iff.1 hv
  have e1 : depV p L = depAt L (L.length - 1) := by unfold depV; rw [if_pos hv]; exact depL_st L _ _ (by omega)
  have e2 : fdgV p L = degAt L (L.length - 1) := by unfold fdgV; rw [if_pos hv]; exact degL_st L _ _ (by omega)
  have e3 : costV p L 2 = cst L (useF L) 2 L.length := by simp [costV, hv]
  have e4 : costV p L 3 = cst L (useF L) 3 L.length := by simp [costV, hv]
  have b1 : 0 ≤ depV p L := by unfold depV; rw [if_pos hv]; exact (depL_bd L _ _).1
  have b2 : 0 ≤ fdgV p L ∧ fdgV p L ≤ 1000 := by unfold fdgV; rw [if_pos hv]; exact degL_bd L _ _
  have hn : L.length - 1 + 1 = L.length := by omega
  have d1 := depAt_cst hv (L.length - 1) (by omega) (useF_last hv)
  have d2 := degAt_cst hv (L.length - 1) (by omega) (useF_last hv)
  rw [hn] at d1 d2
  have c2 := cst_bd L (useF L) 2 L.length
  have c3 := cst_bd L (useF L) 3 L.length
  rw [← e1] at d1
  rw [← e2] at d2
  rw [e3, e4]
  refine ⟨b1, d1, ⟨fun h0 => ?_, fun h0 => by omega⟩, d2, b2.2, b2.1, c2.1, c3.1⟩
  have hj : joinsB (gAt L (L.length - 1)) = false := by
    rw [Bool.eq_false_iff]
    intro hj
    rw [e1, depAt_eq, if_pos hj] at h0
    have := (depL_bd L (L.length - 1) (gAt L (L.length - 1)).a.toNat).1
    omega
  rw [cst_alone hl1 hj 2 (.inl rfl), cst_alone hl1 hj 3 (.inr rfl)]
  rfl
end Go.Proofs.YtoeghbcolpailaaGreat
namespace Go.Proofs.YtoeghbcolpailaaGreat
open Go.RowKit
def ltrS (a : Int) : ByteArray := (⟨#[120, 121, 122]⟩ : ByteArray).extract a.toNat (a.toNat + 1)
def dgtS (a : Int) : ByteArray := (⟨#[48, 49, 50, 51, 52, 53, 54, 55, 56, 57, 65, 66, 67]⟩ : ByteArray).extract a.toNat (a.toNat + 1)
def sgS (k : Int) : ByteArray := if k = 3 then ⟨#[42]⟩ else ⟨#[43]⟩
/-- the formula of a gate, made of those of the gates before -/
def gtS (g : Gt) (D : List ByteArray) : ByteArray :=
  if g.k = 0 then ltrS g.a else if g.k = 1 then dgtS g.a else (sgS g.k ++ D.getD g.a.toNat ⟨#[]⟩) ++ D.getD g.b.toNat ⟨#[]⟩
def txL (L : List Gt) : Nat → List ByteArray
  | 0 => []
  | k + 1 => txL L k ++ [gtS (gAt L k) (txL L k)]
theorem txL_len (L : List Gt) : ∀ k, (txL L k).length = k
  | 0 => rfl
  | k + 1 => by simp [txL, txL_len L k]
theorem getD_snocB (D : List ByteArray) (u : ByteArray) (j : Nat) : (D ++ [u]).getD j ⟨#[]⟩ = if j = D.length then u else D.getD j ⟨#[]⟩ := by
  simp only [List.getD_eq_getElem?_getD]
  by_cases h : j = D.length
  · rw [if_pos h, h]; simp
  · rw [if_neg h]
    by_cases h2 : j < D.length
    · rw [List.getElem?_append_left h2]
    · rw [List.getElem?_eq_none (by simp; omega), List.getElem?_eq_none (by omega)]
/-- the formula of a gate -/
def tx (L : List Gt) (j : Nat) : ByteArray := (txL L (j + 1)).getD j ⟨#[]⟩
theorem txL_st (L : List Gt) (j : Nat) : ∀ k, j < k → (txL L k).getD j ⟨#[]⟩ = tx L j
  | 0, h => by omega
  | k + 1, h => by
    by_cases e : j = k
    · rw [e]; rfl
    · rw [txL, getD_snocB, if_neg (by rw [txL_len]; omega)]
      exact txL_st L j k (by omega)
theorem tx_eq (L : List Gt) (j : Nat) : tx L j = gtS (gAt L j) (txL L j) := by
  unfold tx
  rw [txL, getD_snocB, if_pos (by rw [txL_len])]
def szAt (L : List Gt) (j : Nat) : Int := (sizL L (j + 1)).getD j 0
theorem sizL_st (L : List Gt) (j : Nat) : ∀ k, j < k → (sizL L k).getD j 0 = szAt L j
  | 0, h => by omega
  | k + 1, h => by
    by_cases e : j = k
    · rw [e]; rfl
    · rw [sizL, getD_snoc, if_neg (by rw [sizL_len]; omega)]
      exact sizL_st L j k (by omega)
theorem szAt_eq (L : List Gt) (j : Nat) : szAt L j = if joinsB (gAt L j) = true then min (1 + (sizL L j).getD (gAt L j).a.toNat 0 + (sizL L j).getD (gAt L j).b.toNat 0) 1000 else 1 := by
  unfold szAt
  rw [sizL, getD_snoc, if_pos (by rw [sizL_len])]
theorem ltrS_size {a : Int} (h0 : 0 ≤ a) (h1 : a ≤ 2) : (ltrS a).size = 1 := by
  have : a = 0 ∨ a = 1 ∨ a = 2 := by omega
  rcases this with rfl | rfl | rfl <;> rfl
theorem dgtS_size {a : Int} (h0 : 0 ≤ a) (h1 : a ≤ 12) : (dgtS a).size = 1 := by
  have : a = 0 ∨ a = 1 ∨ a = 2 ∨ a = 3 ∨ a = 4 ∨ a = 5 ∨ a = 6 ∨ a = 7 ∨ a = 8 ∨ a = 9 ∨ a = 10 ∨ a = 11 ∨ a = 12 := by omega
  rcases this with rfl | rfl | rfl | rfl | rfl | rfl | rfl | rfl | rfl | rfl | rfl | rfl | rfl <;> rfl
theorem sgS_size (k : Int) : (sgS k).size = 1 := by unfold sgS; split <;> rfl
/-- a gate that joins two: its formula is longer than theirs -/
theorem tx_join {p : Int} {L : List Gt} (hv : circB p L = true) {j : Nat} (hj : j < L.length) (hg : joinsB (gAt L j) = true) :
    tx L j = (sgS (gAt L j).k ++ tx L (gAt L j).a.toNat) ++ tx L (gAt L j).b.toNat ∧ (gAt L j).a.toNat < j ∧ (gAt L j).b.toNat < j := by
  obtain ⟨_, _, _, hall⟩ := circB_iff.1 hv
  have hc := gOK_cases (hall j hj)
  have hk : (gAt L j).k = 2 ∨ (gAt L j).k = 3 := by simpa [joinsB] using hg
  have ha : (gAt L j).a.toNat < j := by omega
  have hb : (gAt L j).b.toNat < j := by omega
  refine ⟨?_, ha, hb⟩
  rw [tx_eq]
  unfold gtS
  rw [if_neg (by omega), if_neg (by omega), txL_st L _ j ha, txL_st L _ j hb]
theorem tx_leaf {p : Int} {L : List Gt} (hv : circB p L = true) {j : Nat} (hj : j < L.length) (hg : joinsB (gAt L j) = false) :
    ((gAt L j).k = 0 ∧ tx L j = ltrS (gAt L j).a ∧ 0 ≤ (gAt L j).a ∧ (gAt L j).a ≤ 2) ∨ ((gAt L j).k = 1 ∧ tx L j = dgtS (gAt L j).a ∧ 0 ≤ (gAt L j).a ∧ (gAt L j).a ≤ 12) := by
  obtain ⟨hp, _, _, hall⟩ := circB_iff.1 hv
  have hb := isP_bd hp
  have hc := gOK_cases (hall j hj)
  have hk : ¬ ((gAt L j).k = 2 ∨ (gAt L j).k = 3) := by
    intro h
    have : joinsB (gAt L j) = true := by simpa [joinsB] using h
    rw [hg] at this
    cases this
  rw [tx_eq]
  unfold gtS
  rcases hc with ⟨h0, h1, h2, _⟩ | ⟨h0, h1, h2, _⟩ | ⟨h0, _⟩
  · exact .inl ⟨h0, by rw [if_pos h0], h1, h2⟩
  · exact .inr ⟨h0, by rw [if_neg (by omega), if_pos h0], h1, by omega⟩
  · exact absurd h0 hk
theorem tx_size {p : Int} {L : List Gt} (hv : circB p L = true) : ∀ j : Nat, j < L.length → szAt L j < 1000 → ((tx L j).size : Int) = szAt L j := by
  intro j
  induction j using Nat.strongRecOn with
  | _ j ih =>
    intro hj hs
    cases hg : joinsB (gAt L j)
    · rw [szAt_eq, hg, if_neg (by decide)]
      rcases tx_leaf hv hj hg with ⟨_, e, h0, h1⟩ | ⟨_, e, h0, h1⟩
      · rw [e, ltrS_size h0 h1]; rfl
      · rw [e, dgtS_size h0 h1]; rfl
    · obtain ⟨e, ha, hb⟩ := tx_join hv hj hg
      rw [szAt_eq, hg, if_pos rfl, sizL_st L _ j ha, sizL_st L _ j hb] at hs ⊢
      have ba := sizL_bd L ((gAt L j).a.toNat + 1) (gAt L j).a.toNat
      have bb := sizL_bd L ((gAt L j).b.toNat + 1) (gAt L j).b.toNat
      have ca : 0 ≤ szAt L (gAt L j).a.toNat := ba.1
      have cb : 0 ≤ szAt L (gAt L j).b.toNat := bb.1
      have ia := ih _ ha (by omega) (by omega)
      have ib := ih _ hb (by omega) (by omega)
      rw [e]
      simp only [ByteArray.size_append, sgS_size]
      omega
/-- what is used is no longer than the whole -/
theorem tx_used {p : Int} {L : List Gt} (hv : circB p L = true) {N : Nat} (hN : (tx L (L.length - 1)).size ≤ N) : ∀ m j : Nat, j < L.length → useM L m j = true → (tx L j).size ≤ N
  | 0, j, hj, h => by
    have : j + 1 = L.length := by simpa [useM] using h
    rwa [show j = L.length - 1 by omega]
  | m + 1, j, hj, h => by
    have hl := (circB_iff.1 hv).2.1
    simp only [useM, useStep] at h
    split at h
    · rename_i hc
      simp only [Bool.and_eq_true] at hc
      have hi : L.length - 1 - m < L.length := by omega
      have hb := tx_used hv hN m _ hi hc.1
      obtain ⟨e, ha, hbb⟩ := tx_join hv hi hc.2
      obtain ⟨_, _, _, hall⟩ := circB_iff.1 hv
      have hcc := gOK_cases (hall _ hi)
      have hk : (gAt L (L.length - 1 - m)).k = 2 ∨ (gAt L (L.length - 1 - m)).k = 3 := by simpa [joinsB] using hc.2
      rw [e] at hb
      simp only [ByteArray.size_append] at hb
      simp only [Bool.or_eq_true, beq_iff_eq] at h
      rcases h with (h | h) | h
      · exact tx_used hv hN m j hj h
      · rw [show j = (gAt L (L.length - 1 - m)).a.toNat by omega]; omega
      · rw [show j = (gAt L (L.length - 1 - m)).b.toNat by omega]; omega
    · exact tx_used hv hN m j hj h
theorem sp_step {U : Nat → Bool} {k : Nat} (h : U k = true) : useTo U (k + 1) = useTo U k ++ [(k : Int)] := by simp [useTo, h]
theorem sp_skip {U : Nat → Bool} {k : Nat} (h : U k = false) : useTo U (k + 1) = useTo U k := by simp [useTo, h]
theorem sp_pos (U : Nat → Bool) : ∀ n t : Nat, t < (useTo U n).length → ∃ j : Nat, j < n ∧ U j = true ∧ (useTo U n).getD t 0 = (j : Int) ∧ useTo U j = (useTo U n).take t
  | 0, t, h => by simp [useTo] at h
  | n + 1, t, h => by
    cases hu : U n
    · rw [sp_skip hu] at h ⊢
      obtain ⟨j, h1, h2⟩ := sp_pos U n t h
      exact ⟨j, by omega, h2⟩
    · rw [sp_step hu] at h ⊢
      by_cases e : t = (useTo U n).length
      · subst e
        exact ⟨n, by omega, hu, by simp [List.getD_eq_getElem?_getD], by simp⟩
      · have ht : t < (useTo U n).length := by simp at h; omega
        obtain ⟨j, h1, h2, h3, h4⟩ := sp_pos U n t ht
        refine ⟨j, by omega, h2, ?_, ?_⟩
        · rw [← h3, List.getD_eq_getElem?_getD, List.getD_eq_getElem?_getD, List.getElem?_append_left ht]
        · rw [h4, List.take_append_of_le_length (by omega)]
theorem sp_mem {U : Nat → Bool} : ∀ {n j : Nat}, j < n → U j = true → (j : Int) ∈ useTo U n
  | 0, j, h, _ => by omega
  | n + 1, j, h, hu => by
    unfold useTo
    by_cases e : j = n
    · subst e
      rw [if_pos hu]
      simp
    · have := sp_mem (n := n) (by omega) hu
      split
      · exact List.mem_append_left _ this
      · exact this
theorem sp_inj {U : Nat → Bool} : ∀ {n : Nat} {x : Int}, x ∈ useTo U n → ∃ j : Nat, x = j ∧ j < n ∧ U j = true
  | 0, x, h => by simp [useTo] at h
  | n + 1, x, h => by
    unfold useTo at h
    split at h
    · rename_i hu
      rcases List.mem_append.1 h with h | h
      · obtain ⟨j, e, h1, h2⟩ := sp_inj h
        exact ⟨j, e, by omega, h2⟩
      · exact ⟨n, by simpa using h, by omega, hu⟩
    · obtain ⟨j, e, h1, h2⟩ := sp_inj h
      exact ⟨j, e, by omega, h2⟩
end Go.Proofs.YtoeghbcolpailaaGreat
namespace Go.Proofs.YtoeghbcolpailaaGreat
open Go.RowKit
end Go.Proofs.YtoeghbcolpailaaGreat
namespace Go.Proofs.YtoeghbcolpailaaGreat
open Go.RowKit
theorem take_snocZ {l : List Int} {k : Nat} (h : k < l.length) : l.take (k + 1) = l.take k ++ [l.getD k 0] := by
  rw [List.take_succ_eq_append_getElem h]
  simp [List.getD_eq_getElem?_getD, h]
theorem getD_mem {l : List Int} {k : Nat} (h : k < l.length) : l.getD k 0 ∈ l := by
  rw [List.getD_eq_getElem?_getD, List.getElem?_eq_getElem h]
  exact List.getElem_mem h
end Go.Proofs.YtoeghbcolpailaaGreat
