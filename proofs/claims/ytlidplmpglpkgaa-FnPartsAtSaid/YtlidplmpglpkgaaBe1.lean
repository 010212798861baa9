/-
  The walk of the law of AddPoly. Conditions: none but that the bytes can be read.
  The walk of the law of MulPoly. Conditions: none but that the bytes can be read.
  The walk of the law of PartPoly. Conditions: none but that the bytes can be read.
-/
import Derived.Test.YtlidplmpglpkgaaBa26
import Derived.Test.YtlidplmpglpkgaaBa28
import Derived.Test.YtlidplmpglpkgaaBa27
import Derived.Test.YtlidplmpglpkgaaBa12
import Derived.Test.YtlidplmpglpkgaaBa25
import Derived.Test.YtlidplmpglpkgaaBa13
namespace Go.Proofs.Ytlidplmpglpkgaa
open Go.RowKit
/-- a point in a block that may be written -/
structure PtB (w : World) (X : Nat) (x y z : Int) : Prop where
  c0 : w.cell? ⟨X, 0, none⟩ = some (.int .i64 x)
  c1 : w.cell? ⟨X, 1, none⟩ = some (.int .i64 y)
  c2 : w.cell? ⟨X, 2, none⟩ = some (.int .i64 z)
  f : ∀ i, w.frozen? ⟨X, i, none⟩ = false
  sz : X < w.heap.size
theorem PtB.on {w w' : World} {X : Nat} {x y z : Int} (h : PtB w X x y z) (hb : Below w.heap.size w w') : PtB w' X x y z :=
  ⟨by rw [hb.cell (p := ⟨X, 0, none⟩) h.sz]; exact h.c0, by rw [hb.cell (p := ⟨X, 1, none⟩) h.sz]; exact h.c1, by rw [hb.cell (p := ⟨X, 2, none⟩) h.sz]; exact h.c2, fun i => by rw [hb.frozen (p := ⟨X, i, none⟩) h.sz]; exact h.f i, Nat.lt_of_lt_of_le h.sz hb.size⟩
theorem PtB.new (w : World) (x y z : Int) : PtB (w.alloc (Obj.cells #[.int .i64 x, .int .i64 y, .int .i64 z] 33)) w.heap.size x y z :=
  ⟨by simp [go_sem], by simp [go_sem], by simp [go_sem], fun i => World.frozen?_alloc_at _ _ _ i rfl, by simp⟩
theorem PtB.s0 {w : World} {X : Nat} {x y z : Int} (h : PtB w X x y z) (v : Int) : PtB (w.setCell ⟨X, 0, none⟩ (.int .i64 v)) X v y z :=
  ⟨World.cell?_setCell_same _ _ _ h.c0, by rw [World.cell?_setCell_other _ _ _ _ (by simp)]; exact h.c1, by rw [World.cell?_setCell_other _ _ _ _ (by simp)]; exact h.c2, fun i => by rw [World.frozen?_setCell]; exact h.f i, by simpa using h.sz⟩
theorem PtB.s1 {w : World} {X : Nat} {x y z : Int} (h : PtB w X x y z) (v : Int) : PtB (w.setCell ⟨X, 1, none⟩ (.int .i64 v)) X x v z :=
  ⟨by rw [World.cell?_setCell_other _ _ _ _ (by simp)]; exact h.c0, World.cell?_setCell_same _ _ _ h.c1, by rw [World.cell?_setCell_other _ _ _ _ (by simp)]; exact h.c2, fun i => by rw [World.frozen?_setCell]; exact h.f i, by simpa using h.sz⟩
theorem PtB.s2 {w : World} {X : Nat} {x y z : Int} (h : PtB w X x y z) (v : Int) : PtB (w.setCell ⟨X, 2, none⟩ (.int .i64 v)) X x y v :=
  ⟨by rw [World.cell?_setCell_other _ _ _ _ (by simp)]; exact h.c0, by rw [World.cell?_setCell_other _ _ _ _ (by simp)]; exact h.c1, World.cell?_setCell_same _ _ _ h.c2, fun i => by rw [World.frozen?_setCell]; exact h.f i, by simpa using h.sz⟩
theorem trms_far {w w' : World} {v : Value} {L : List Trm} {B : Nat} (h : Trms w v L) (hB : w.heap.size ≤ B) (hb : ∀ k, k < B → w'.heap[k]? = w.heap[k]?) (hs : w.heap.size ≤ w'.heap.size) : Trms w' v L := by
  obtain ⟨h1, a, cap, rfl, h2⟩ := h
  refine ⟨h1, a, cap, rfl, ?_⟩
  rcases h2 with h2 | ⟨g, off, rfl, hg, hc⟩
  · exact .inl h2
  · refine .inr ⟨g, off, rfl, Nat.lt_of_lt_of_le hg hs, fun j hj => ?_⟩
    obtain ⟨c0, c1, c2, c3⟩ := hc j hj
    have e := hb g (by omega)
    exact ⟨by rw [World.cell?_of_block (a := ⟨g, off + j * 4, none⟩) e]; exact c0, by rw [World.cell?_of_block (a := ⟨g, off + j * 4 + 1, none⟩) e]; exact c1, by rw [World.cell?_of_block (a := ⟨g, off + j * 4 + 2, none⟩) e]; exact c2, by rw [World.cell?_of_block (a := ⟨g, off + j * 4 + 3, none⟩) e]; exact c3⟩
/-- polynomials and a point in a block of its own -/
structure PX (w0 : World) (zs : List VT) (X : Nat) (x y z : Int) (wr : World) : Prop where
  low : Below w0.heap.size w0 wr
  rd : ∀ q ∈ zs, ∃ g, Trms g q.1 q.2 ∧ g.heap.size ≤ X ∧ g.heap.size ≤ wr.heap.size ∧ ∀ k, k < X → k < g.heap.size → wr.heap[k]? = g.heap[k]?
  pt : PtB wr X x y z
  wx : w0.heap.size ≤ X
theorem PX.new {w0 wr : World} {zs : List VT} (h : PK w0 zs wr) (x y z : Int) : PX w0 zs wr.heap.size x y z (wr.alloc (Obj.cells #[.int .i64 x, .int .i64 y, .int .i64 z] 33)) :=
  ⟨Below.alloc h.low h.low.size _, fun q hq => ⟨wr, h.rd q hq, Nat.le_refl _, by simp, fun k _ hk => (Below.alloc (Below.refl wr.heap.size wr) (Nat.le_refl _) _).block k hk⟩, PtB.new wr x y z, h.low.size⟩
theorem PX.on {w0 wr w' : World} {zs : List VT} {X : Nat} {x y z : Int} (h : PX w0 zs X x y z wr) (hb : Below wr.heap.size wr w') : PX w0 zs X x y z w' :=
  ⟨h.low.trans (hb.mono h.low.size), fun q hq => by
    obtain ⟨g, h1, h2, h3, h4⟩ := h.rd q hq
    exact ⟨g, h1, h2, Nat.le_trans h3 hb.size, fun k k1 k2 => (hb.block k (by omega)).trans (h4 k k1 k2)⟩, h.pt.on hb, h.wx⟩
theorem PX.st {w0 wr : World} {zs : List VT} {X : Nat} {x y z x' y' z' : Int} {o : Nat} {u : Value} (h : PX w0 zs X x y z wr) (hp : PtB (wr.setCell ⟨X, o, none⟩ u) X x' y' z') : PX w0 zs X x' y' z' (wr.setCell ⟨X, o, none⟩ u) :=
  ⟨h.low.setCell h.wx _, fun q hq => by
    obtain ⟨g, h1, h2, h3, h4⟩ := h.rd q hq
    exact ⟨g, h1, h2, by simpa using h3, fun k k1 k2 => (Below.heap_setCell _ _ _ _ (show k ≠ X by omega)).trans (h4 k k1 k2)⟩, hp, h.wx⟩
theorem PX.g {w0 wr : World} {zs : List VT} {X : Nat} {x y z : Int} (h : PX w0 zs X x y z wr) {v : Value} {L : List Trm} (hm : (v, L) ∈ zs) : Trms wr v L := by
  obtain ⟨g, h1, h2, h3, h4⟩ := h.rd _ hm
  exact trms_far (B := g.heap.size) h1 (Nat.le_refl _) (fun k hk => h4 k (by omega) hk) h3
theorem red3 {p : Int} (hp : isP p = true) (x y z : Int) : isE3 p (x % p) (y % p) (z % p) = true := by
  have hb := isP_bd hp
  unfold isE3
  rw [isE_iff.2 (emod_bd (by omega)), isE_iff.2 (emod_bd (by omega)), isE_iff.2 (emod_bd (by omega))]
  rfl
end Go.Proofs.Ytlidplmpglpkgaa
namespace Go.Proofs.Ytlidplmpglpkgaa
open Go.RowKit
theorem mulOk_is {p : Int} {L M : List Trm} (h : mulOk p L M = true) : isP p = true ∧ validB p L = true ∧ validB p M = true ∧ validB p (addAll p (prodT p L M) []) = true ∧ mulL p L M = addAll p (prodT p L M) [] := by
  have e : mulL p L M = addAll p (prodT p L M) [] := by unfold mulL; rw [if_pos h]
  unfold mulOk at h
  simp only [Bool.and_eq_true] at h
  exact ⟨h.1.1.1, h.1.1.2, h.1.2.2, h.2, e⟩
theorem mulOk_of {p : Int} {L M : List Trm} (hp : isP p = true) (hL : validB p L = true) (hM : validB p M = true) (hS : validB p (addAll p (prodT p L M) []) = true) : mulOk p L M = true ∧ mulL p L M = addAll p (prodT p L M) [] := by
  have e : mulOk p L M = true := by unfold mulOk; rw [hp, hL, hM, hS]; rfl
  exact ⟨e, by unfold mulL; rw [if_pos e]⟩
theorem pw_bd {p : Int} {L : List Trm} (hV : validB p L = true) (v : Int) : ∀ y ∈ L, 0 ≤ pw v y ∧ pw v y ≤ 9 := fun y hy => by
  have h := validB_mem hV hy
  unfold pw
  split
  · exact h.1
  · split
    · exact h.2.1
    · exact h.2.2
theorem degT_bd {p : Int} {L : List Trm} (hV : validB p L = true) : ∀ y ∈ L, 0 ≤ degT y ∧ degT y ≤ 27 := fun y hy => by
  have h := validB_mem hV hy
  unfold degT
  omega
theorem degV_bd {p : Int} {L : List Trm} (hp : isP p = true) (hV : validB p L = true) : -1 ≤ degV p L ∧ degV p L ≤ 27 := by
  unfold degV
  rw [hp, hV]
  simp only [Bool.and_self, if_true]
  rw [topK_deg]
  exact ⟨topK_min _ _ _, topK_le (by omega) (fun y hy => (degT_bd hV y hy).2) _ (Nat.le_refl _)⟩
theorem degIV_bd {p : Int} {L : List Trm} (hp : isP p = true) (hV : validB p L = true) {v : Int} (hv : inV v = true) : -1 ≤ degIV p L v ∧ degIV p L v ≤ 9 := by
  unfold degIV
  rw [hp, hV, hv]
  simp only [Bool.and_self, if_true]
  rw [topK_in]
  exact ⟨topK_min _ _ _, topK_le (by omega) (fun y hy => (pw_bd hV v y hy).2) _ (Nat.le_refl _)⟩
/-- all that the law of products asks -/
structure MulF (p : Int) (L M S : List Trm) : Prop where
  hp : isP p = true
  tu : mulL p M L = S
  vL : validB p L = true
  vM : validB p M = true
  ev : ∀ x y z : Int, isE3 p x y z = true → evV p x y z S = mulV p (evV p x y z L) (evV p x y z M)
  ni : L = [] ∨ M = [] → S = []
  dg : L ≠ [] → M ≠ [] → degV p S = degV p L + degV p M
  di : L ≠ [] → M ≠ [] → ∀ v, inV v = true → degIV p S v = degIV p L v + degIV p M v
theorem mulF {p : Int} {L M : List Trm} (h : mulOk p L M = true) : MulF p L M (mulL p L M) := by
  obtain ⟨hp, hL, hM, hS, hs⟩ := mulOk_is h
  have hb := isP_bd hp
  have hc := mul_comm' (p := p) hp (L := L) (M := M)
  have h1 := mulOk_of (p := p) (L := M) (M := L) hp hM hL (by rw [hc]; exact hS)
  rw [hs]
  refine ⟨hp, by rw [h1.2, hc], hL, hM, fun x y z he => ?_, fun h => mul_nil p L M h, fun nL nM => ?_, fun nL nM v hv => ?_⟩
  · have b1 := evK_bd hp x y z L L.length
    have b2 := evK_bd hp x y z M M.length
    unfold evV mulV
    rw [hp, hL, hM, hS, he]
    simp only [Bool.and_self, if_true]
    rw [if_pos (isE2_iff.2 ⟨hp, b1, b2⟩), mul_ev hp hL hM]
  · unfold degV
    rw [hp, hL, hM, hS]
    simp only [Bool.and_self, if_true]
    rw [topK_deg, topK_deg, topK_deg]
    exact mul_top hp (degT_mul p) degT_eq hL hM (fun y hy => (degT_bd hL y hy).1) (fun y hy => (degT_bd hM y hy).1) nL nM
  · unfold degIV
    rw [hp, hL, hM, hS, hv]
    simp only [Bool.and_self, if_true]
    rw [topK_in, topK_in, topK_in]
    exact mul_top hp (pw_mul p v) (pw_eq v) hL hM (fun y hy => (pw_bd hL v y hy).1) (fun y hy => (pw_bd hM v y hy).1) nL nM
end Go.Proofs.Ytlidplmpglpkgaa
namespace Go.Proofs.Ytlidplmpglpkgaa
open Go.RowKit
theorem partK_filter (L : List Trm) (n : Int) : ∀ k, k ≤ L.length → partK L n k = (L.take k).filter (fun x => decide (degT x = n))
  | 0, _ => by simp [partK]
  | k + 1, h => by
    have hk : k < L.length := by omega
    have hx : L.getD k default = L[k] := by simp [List.getD_eq_getElem?_getD, hk]
    rw [partK, partK_filter L n k (by omega), List.take_succ_eq_append_getElem hk, List.filter_append, hx]
    by_cases e : degT L[k] = n
    · simp [e]
    · simp [e]
def prt (L : List Trm) (n : Int) : List Trm := L.filter (fun x => decide (degT x = n))
def lowD (L : List Trm) (n : Int) : List Trm := L.filter (fun x => decide (degT x < n))
theorem filter_valid {p : Int} {L : List Trm} (hV : validB p L = true) (q : Trm → Bool) : validB p (L.filter q) = true := by
  refine validB_of ((validB_srt hV).sublist List.filter_sublist) (fun y hy => validB_els hV y (List.mem_filter.1 hy).1) (fun y hy => ?_) (Nat.le_trans (List.length_filter_le _ _) (validB_len hV))
  have h := validB_mem hV (List.mem_filter.1 hy).1
  simp only [powsB, powB, Bool.and_eq_true]
  exact ⟨⟨⟨decide_eq_true h.1.1, decide_eq_true h.1.2⟩, ⟨decide_eq_true h.2.1.1, decide_eq_true h.2.1.2⟩⟩, ⟨decide_eq_true h.2.2.1, decide_eq_true h.2.2.2⟩⟩
theorem low_next (m : Int → Int → Int → Int) (n : Int) : ∀ L : List Trm, wS m (lowD L n) + wS m (prt L n) = wS m (lowD L (n + 1))
  | [] => rfl
  | x :: r => by
    have ih := low_next m n r
    unfold lowD prt at *
    by_cases h1 : degT x < n
    · rw [List.filter_cons_of_pos (by simpa using h1), List.filter_cons_of_neg (by simp; omega), List.filter_cons_of_pos (by simp; omega)]
      simp only [wS]
      omega
    · by_cases h2 : degT x = n
      · rw [List.filter_cons_of_neg (by simpa using h1), List.filter_cons_of_pos (by simpa using h2), List.filter_cons_of_pos (by simp; omega)]
        simp only [wS]
        omega
      · rw [List.filter_cons_of_neg (by simpa using h1), List.filter_cons_of_neg (by simpa using h2), List.filter_cons_of_neg (by simp; omega)]
        exact ih
theorem part_sum {p : Int} {L : List Trm} (hp : isP p = true) (hV : validB p L = true) (n : Int) : addOk p (lowD L n) (prt L n) = true ∧ sumV p (lowD L n) (prt L n) = lowD L (n + 1) := by
  have hb := isP_bd hp
  have v1 : validB p (lowD L n) = true := filter_valid hV _
  have v2 : validB p (prt L n) = true := filter_valid hV _
  have v3 : validB p (lowD L (n + 1)) = true := filter_valid hV _
  have e : addAll p (prt L n) (lowD L n) = lowD L (n + 1) := addAll_is (by omega) (validB_srt v1) (validB_srt v3) (validB_els v1) (validB_els v3) (els_in (validB_els v2)) fun m => Cg.of_eq (low_next m n L)
  have h := addOk_of (p := p) (L := lowD L n) (M := prt L n) hp v1 v2 (by rw [e]; exact v3)
  exact ⟨h.1, by rw [h.2, e]⟩
/-- all that the law of parts asks -/
structure PrtF (p : Int) (L : List Trm) (k n : Int) (P H : List Trm) : Prop where
  hp : isP p = true
  hV : validB p L = true
  hn : degV p L = n
  nb : -1 ≤ n ∧ n ≤ 27
  low0 : lowD L 0 = []
  lowN : lowD L (n + 1) = L
  pk : partL p L k = P
  ph : partL p L n = H
  pd : P ≠ [] → degV p P = k
  hi : L = [] ↔ H = []
theorem partL_is {p : Int} {L : List Trm} (hp : isP p = true) (hV : validB p L = true) (n : Int) : partL p L n = prt L n := by
  unfold partL prt
  rw [hp, hV, partK_filter L n L.length (Nat.le_refl _), List.take_length]
  rfl
theorem prtF {p : Int} {L : List Trm} (hp : isP p = true) (hV : validB p L = true) (k : Int) : PrtF p L k (degV p L) (partL p L k) (partL p L (degV p L)) := by
  have hd : degV p L = topK degT L L.length := by
    unfold degV
    rw [hp, hV]
    simp only [Bool.and_self, if_true]
    exact topK_deg L _
  refine ⟨hp, hV, rfl, degV_bd hp hV, ?_, ?_, rfl, rfl, fun hne => ?_, ?_⟩
  · unfold lowD
    rw [List.filter_eq_nil_iff]
    intro y hy
    have := (degT_bd hV y hy).1
    simp; omega
  · unfold lowD
    rw [List.filter_eq_self]
    intro y hy
    have := topK_ge (f := degT) hy
    rw [hd]
    simp; omega
  · rw [partL_is hp hV] at hne ⊢
    have hv2 : validB p (prt L k) = true := filter_valid hV _
    unfold degV
    rw [hp, hv2]
    simp only [Bool.and_self, if_true]
    rw [topK_deg]
    obtain ⟨y, hy⟩ := List.exists_mem_of_ne_nil _ hne
    have hall : ∀ z ∈ prt L k, degT z = k := fun z hz => by simpa using (List.mem_filter.1 hz).2
    have h1 := topK_ge (f := degT) hy
    have h0 := (degT_bd hv2 y hy).1
    have hk := hall y hy
    have h2 := topK_le (f := degT) (L := prt L k) (d := k) (by omega) (fun z hz => by rw [hall z hz]; omega) _ (Nat.le_refl _)
    omega
  · rw [partL_is hp hV]
    constructor
    · rintro rfl
      rfl
    · intro h
      by_cases hL : L = []
      · exact hL
      · obtain ⟨y, hy⟩ := List.exists_mem_of_ne_nil _ hL
        have h0 := (degT_bd hV y hy).1
        have h1 := topK_ge (f := degT) hy
        obtain ⟨z, hz, hzt⟩ := topK_at (f := degT) (L := L) L.length (Nat.le_refl _) (by omega)
        have : z ∈ prt L (degV p L) := List.mem_filter.2 ⟨hz, by rw [hd, hzt]; simp⟩
        rw [h] at this
        cases this
theorem PK.drop {w0 wr : World} {zs ys : List VT} (h : PK w0 zs wr) (hs : ∀ z ∈ ys, z ∈ zs) : PK w0 ys wr := ⟨h.low, fun z hz => h.rd z (hs z hz)⟩
end Go.Proofs.Ytlidplmpglpkgaa
