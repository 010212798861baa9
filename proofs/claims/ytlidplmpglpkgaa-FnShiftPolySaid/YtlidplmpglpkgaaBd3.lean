/-
  The walk of the law of AddPoly. Conditions: none but that the bytes can be read.
  The walk of the law of MulPoly. Conditions: none but that the bytes can be read.
  The walk of the law of PartPoly. Conditions: none but that the bytes can be read.
  What the law on multiplied unknowns says, of the contracts' values. Conditions: none.
  Contracts of the model's draws of polynomials, on: one with a point to shift by. Conditions: the bytes can be read.
-/
import Derived.Test.YtlidplmpglpkgaaBa26
import Derived.Test.YtlidplmpglpkgaaBa28
import Derived.Test.YtlidplmpglpkgaaBa27
import Derived.Test.YtlidplmpglpkgaaBa12
import Derived.Test.YtlidplmpglpkgaaBa25
import Derived.Test.YtlidplmpglpkgaaBa13
import Derived.Test.YtlidplmpglpkgaaBd1
namespace Go.Proofs.Ytlidplmpglpkgaa
open Go.RowKit
/-- a point in a block that may be written -/
structure PtB (w : World) (X : Nat) (x y z : Int) : Prop where
  c0 : w.cell? ⟨X, 0, none⟩ = some (.int .i64 x)
  c1 : w.cell? ⟨X, 1, none⟩ = some (.int .i64 y)
  c2 : w.cell? ⟨X, 2, none⟩ = some (.int .i64 z)
  f : ∀ i, w.frozen? ⟨X, i, none⟩ = false
  sz : X < w.heap.size
theorem PtB.on {w w' : World} {X : Nat} {x y z : Int} (h : PtB w X x y z) (hb : Below w.heap.size w w') : PtB w' X x y z :=
  ⟨by rw [hb.cell (p := ⟨X, 0, none⟩) h.sz]; exact h.c0, by rw [hb.cell (p := ⟨X, 1, none⟩) h.sz]; exact h.c1, by rw [hb.cell (p := ⟨X, 2, none⟩) h.sz]; exact h.c2, fun i => by rw [hb.frozen (p := ⟨X, i, none⟩) h.sz]; exact h.f i, Nat.lt_of_lt_of_le h.sz hb.size⟩
theorem PtB.new (w : World) (x y z : Int) : PtB (w.alloc (Obj.cells #[.int .i64 x, .int .i64 y, .int .i64 z] 33)) w.heap.size x y z :=
  ⟨by simp [go_sem], by simp [go_sem], by simp [go_sem], fun i => World.frozen?_alloc_at _ _ _ i rfl, by simp⟩
theorem PtB.s0 {w : World} {X : Nat} {x y z : Int} (h : PtB w X x y z) (v : Int) : PtB (w.setCell ⟨X, 0, none⟩ (.int .i64 v)) X v y z :=
  ⟨World.cell?_setCell_same _ _ _ h.c0, by rw [World.cell?_setCell_other _ _ _ _ (by simp)]; exact h.c1, by rw [World.cell?_setCell_other _ _ _ _ (by simp)]; exact h.c2, fun i => by rw [World.frozen?_setCell]; exact h.f i, by simpa using h.sz⟩
theorem PtB.s1 {w : World} {X : Nat} {x y z : Int} (h : PtB w X x y z) (v : Int) : PtB (w.setCell ⟨X, 1, none⟩ (.int .i64 v)) X x v z :=
  ⟨by rw [World.cell?_setCell_other _ _ _ _ (by simp)]; exact h.c0, World.cell?_setCell_same _ _ _ h.c1, by rw [World.cell?_setCell_other _ _ _ _ (by simp)]; exact h.c2, fun i => by rw [World.frozen?_setCell]; exact h.f i, by simpa using h.sz⟩
theorem PtB.s2 {w : World} {X : Nat} {x y z : Int} (h : PtB w X x y z) (v : Int) : PtB (w.setCell ⟨X, 2, none⟩ (.int .i64 v)) X x y v :=
  ⟨by rw [World.cell?_setCell_other _ _ _ _ (by simp)]; exact h.c0, by rw [World.cell?_setCell_other _ _ _ _ (by simp)]; exact h.c1, World.cell?_setCell_same _ _ _ h.c2, fun i => by rw [World.frozen?_setCell]; exact h.f i, by simpa using h.sz⟩
theorem trms_far {w w' : World} {v : Value} {L : List Trm} {B : Nat} (h : Trms w v L) (hB : w.heap.size ≤ B) (hb : ∀ k, k < B → w'.heap[k]? = w.heap[k]?) (hs : w.heap.size ≤ w'.heap.size) : Trms w' v L := by
  obtain ⟨h1, a, cap, rfl, h2⟩ := h
  refine ⟨h1, a, cap, rfl, ?_⟩
  rcases h2 with h2 | ⟨g, off, rfl, hg, hc⟩
  · exact .inl h2
  · refine .inr ⟨g, off, rfl, Nat.lt_of_lt_of_le hg hs, fun j hj => ?_⟩
    obtain ⟨c0, c1, c2, c3⟩ := hc j hj
    have e := hb g (by omega)
    exact ⟨by rw [World.cell?_of_block (a := ⟨g, off + j * 4, none⟩) e]; exact c0, by rw [World.cell?_of_block (a := ⟨g, off + j * 4 + 1, none⟩) e]; exact c1, by rw [World.cell?_of_block (a := ⟨g, off + j * 4 + 2, none⟩) e]; exact c2, by rw [World.cell?_of_block (a := ⟨g, off + j * 4 + 3, none⟩) e]; exact c3⟩
/-- polynomials and a point in a block of its own -/
structure PX (w0 : World) (zs : List VT) (X : Nat) (x y z : Int) (wr : World) : Prop where
  low : Below w0.heap.size w0 wr
  rd : ∀ q ∈ zs, ∃ g, Trms g q.1 q.2 ∧ g.heap.size ≤ X ∧ g.heap.size ≤ wr.heap.size ∧ ∀ k, k < X → k < g.heap.size → wr.heap[k]? = g.heap[k]?
  pt : PtB wr X x y z
  wx : w0.heap.size ≤ X
theorem PX.new {w0 wr : World} {zs : List VT} (h : PK w0 zs wr) (x y z : Int) : PX w0 zs wr.heap.size x y z (wr.alloc (Obj.cells #[.int .i64 x, .int .i64 y, .int .i64 z] 33)) :=
  ⟨Below.alloc h.low h.low.size _, fun q hq => ⟨wr, h.rd q hq, Nat.le_refl _, by simp, fun k _ hk => (Below.alloc (Below.refl wr.heap.size wr) (Nat.le_refl _) _).block k hk⟩, PtB.new wr x y z, h.low.size⟩
theorem PX.on {w0 wr w' : World} {zs : List VT} {X : Nat} {x y z : Int} (h : PX w0 zs X x y z wr) (hb : Below wr.heap.size wr w') : PX w0 zs X x y z w' :=
  ⟨h.low.trans (hb.mono h.low.size), fun q hq => by
    obtain ⟨g, h1, h2, h3, h4⟩ := h.rd q hq
    exact ⟨g, h1, h2, Nat.le_trans h3 hb.size, fun k k1 k2 => (hb.block k (by omega)).trans (h4 k k1 k2)⟩, h.pt.on hb, h.wx⟩
theorem PX.st {w0 wr : World} {zs : List VT} {X : Nat} {x y z x' y' z' : Int} {o : Nat} {u : Value} (h : PX w0 zs X x y z wr) (hp : PtB (wr.setCell ⟨X, o, none⟩ u) X x' y' z') : PX w0 zs X x' y' z' (wr.setCell ⟨X, o, none⟩ u) :=
  ⟨h.low.setCell h.wx _, fun q hq => by
    obtain ⟨g, h1, h2, h3, h4⟩ := h.rd q hq
    exact ⟨g, h1, h2, by simpa using h3, fun k k1 k2 => (Below.heap_setCell _ _ _ _ (show k ≠ X by omega)).trans (h4 k k1 k2)⟩, hp, h.wx⟩
theorem PX.g {w0 wr : World} {zs : List VT} {X : Nat} {x y z : Int} (h : PX w0 zs X x y z wr) {v : Value} {L : List Trm} (hm : (v, L) ∈ zs) : Trms wr v L := by
  obtain ⟨g, h1, h2, h3, h4⟩ := h.rd _ hm
  exact trms_far (B := g.heap.size) h1 (Nat.le_refl _) (fun k hk => h4 k (by omega) hk) h3
theorem red3 {p : Int} (hp : isP p = true) (x y z : Int) : isE3 p (x % p) (y % p) (z % p) = true := by
  have hb := isP_bd hp
  unfold isE3
  rw [isE_iff.2 (emod_bd (by omega)), isE_iff.2 (emod_bd (by omega)), isE_iff.2 (emod_bd (by omega))]
  rfl
end Go.Proofs.Ytlidplmpglpkgaa
namespace Go.Proofs.Ytlidplmpglpkgaa
open Go.RowKit
theorem mulOk_is {p : Int} {L M : List Trm} (h : mulOk p L M = true) : isP p = true ∧ validB p L = true ∧ validB p M = true ∧ validB p (addAll p (prodT p L M) []) = true ∧ mulL p L M = addAll p (prodT p L M) [] := by
  have e : mulL p L M = addAll p (prodT p L M) [] := by unfold mulL; rw [if_pos h]
  unfold mulOk at h
  simp only [Bool.and_eq_true] at h
  exact ⟨h.1.1.1, h.1.1.2, h.1.2.2, h.2, e⟩
theorem mulOk_of {p : Int} {L M : List Trm} (hp : isP p = true) (hL : validB p L = true) (hM : validB p M = true) (hS : validB p (addAll p (prodT p L M) []) = true) : mulOk p L M = true ∧ mulL p L M = addAll p (prodT p L M) [] := by
  have e : mulOk p L M = true := by unfold mulOk; rw [hp, hL, hM, hS]; rfl
  exact ⟨e, by unfold mulL; rw [if_pos e]⟩
theorem pw_bd {p : Int} {L : List Trm} (hV : validB p L = true) (v : Int) : ∀ y ∈ L, 0 ≤ pw v y ∧ pw v y ≤ 9 := fun y hy => by
  have h := validB_mem hV hy
  unfold pw
  split
  · exact h.1
  · split
    · exact h.2.1
    · exact h.2.2
theorem degT_bd {p : Int} {L : List Trm} (hV : validB p L = true) : ∀ y ∈ L, 0 ≤ degT y ∧ degT y ≤ 27 := fun y hy => by
  have h := validB_mem hV hy
  unfold degT
  omega
theorem degV_bd {p : Int} {L : List Trm} (hp : isP p = true) (hV : validB p L = true) : -1 ≤ degV p L ∧ degV p L ≤ 27 := by
  unfold degV
  rw [hp, hV]
  simp only [Bool.and_self, if_true]
  rw [topK_deg]
  exact ⟨topK_min _ _ _, topK_le (by omega) (fun y hy => (degT_bd hV y hy).2) _ (Nat.le_refl _)⟩
theorem degIV_bd {p : Int} {L : List Trm} (hp : isP p = true) (hV : validB p L = true) {v : Int} (hv : inV v = true) : -1 ≤ degIV p L v ∧ degIV p L v ≤ 9 := by
  unfold degIV
  rw [hp, hV, hv]
  simp only [Bool.and_self, if_true]
  rw [topK_in]
  exact ⟨topK_min _ _ _, topK_le (by omega) (fun y hy => (pw_bd hV v y hy).2) _ (Nat.le_refl _)⟩
/-- all that the law of products asks -/
structure MulF (p : Int) (L M S : List Trm) : Prop where
  hp : isP p = true
  tu : mulL p M L = S
  vL : validB p L = true
  vM : validB p M = true
  ev : ∀ x y z : Int, isE3 p x y z = true → evV p x y z S = mulV p (evV p x y z L) (evV p x y z M)
  ni : L = [] ∨ M = [] → S = []
  dg : L ≠ [] → M ≠ [] → degV p S = degV p L + degV p M
  di : L ≠ [] → M ≠ [] → ∀ v, inV v = true → degIV p S v = degIV p L v + degIV p M v
theorem mulF {p : Int} {L M : List Trm} (h : mulOk p L M = true) : MulF p L M (mulL p L M) := by
  obtain ⟨hp, hL, hM, hS, hs⟩ := mulOk_is h
  have hb := isP_bd hp
  have hc := mul_comm' (p := p) hp (L := L) (M := M)
  have h1 := mulOk_of (p := p) (L := M) (M := L) hp hM hL (by rw [hc]; exact hS)
  rw [hs]
  refine ⟨hp, by rw [h1.2, hc], hL, hM, fun x y z he => ?_, fun h => mul_nil p L M h, fun nL nM => ?_, fun nL nM v hv => ?_⟩
  · have b1 := evK_bd hp x y z L L.length
    have b2 := evK_bd hp x y z M M.length
    unfold evV mulV
    rw [hp, hL, hM, hS, he]
    simp only [Bool.and_self, if_true]
    rw [if_pos (isE2_iff.2 ⟨hp, b1, b2⟩), mul_ev hp hL hM]
  · unfold degV
    rw [hp, hL, hM, hS]
    simp only [Bool.and_self, if_true]
    rw [topK_deg, topK_deg, topK_deg]
    exact mul_top hp (degT_mul p) degT_eq hL hM (fun y hy => (degT_bd hL y hy).1) (fun y hy => (degT_bd hM y hy).1) nL nM
  · unfold degIV
    rw [hp, hL, hM, hS, hv]
    simp only [Bool.and_self, if_true]
    rw [topK_in, topK_in, topK_in]
    exact mul_top hp (pw_mul p v) (pw_eq v) hL hM (fun y hy => (pw_bd hL v y hy).1) (fun y hy => (pw_bd hM v y hy).1) nL nM
end Go.Proofs.Ytlidplmpglpkgaa
namespace Go.Proofs.Ytlidplmpglpkgaa
open Go.RowKit
theorem partK_filter (L : List Trm) (n : Int) : ∀ k, k ≤ L.length → partK L n k = (L.take k).filter (fun x => decide (degT x = n))
  | 0, _ => by simp [partK]
  | k + 1, h => by
    have hk : k < L.length := by omega
    have hx : L.getD k default = L[k] := by simp [List.getD_eq_getElem?_getD, hk]
    rw [partK, partK_filter L n k (by omega), List.take_succ_eq_append_getElem hk, List.filter_append, hx]
    by_cases e : degT L[k] = n
    · simp [e]
    · simp [e]
def prt (L : List Trm) (n : Int) : List Trm := L.filter (fun x => decide (degT x = n))
def lowD (L : List Trm) (n : Int) : List Trm := L.filter (fun x => decide (degT x < n))
theorem filter_valid {p : Int} {L : List Trm} (hV : validB p L = true) (q : Trm → Bool) : validB p (L.filter q) = true := by
  refine validB_of ((validB_srt hV).sublist List.filter_sublist) (fun y hy => validB_els hV y (List.mem_filter.1 hy).1) (fun y hy => ?_) (Nat.le_trans (List.length_filter_le _ _) (validB_len hV))
  have h := validB_mem hV (List.mem_filter.1 hy).1
  simp only [powsB, powB, Bool.and_eq_true]
  exact ⟨⟨⟨decide_eq_true h.1.1, decide_eq_true h.1.2⟩, ⟨decide_eq_true h.2.1.1, decide_eq_true h.2.1.2⟩⟩, ⟨decide_eq_true h.2.2.1, decide_eq_true h.2.2.2⟩⟩
theorem low_next (m : Int → Int → Int → Int) (n : Int) : ∀ L : List Trm, wS m (lowD L n) + wS m (prt L n) = wS m (lowD L (n + 1))
  | [] => rfl
  | x :: r => by
    have ih := low_next m n r
    unfold lowD prt at *
    by_cases h1 : degT x < n
    · rw [List.filter_cons_of_pos (by simpa using h1), List.filter_cons_of_neg (by simp; omega), List.filter_cons_of_pos (by simp; omega)]
      simp only [wS]
      omega
    · by_cases h2 : degT x = n
      · rw [List.filter_cons_of_neg (by simpa using h1), List.filter_cons_of_pos (by simpa using h2), List.filter_cons_of_pos (by simp; omega)]
        simp only [wS]
        omega
      · rw [List.filter_cons_of_neg (by simpa using h1), List.filter_cons_of_neg (by simpa using h2), List.filter_cons_of_neg (by simp; omega)]
        exact ih
theorem part_sum {p : Int} {L : List Trm} (hp : isP p = true) (hV : validB p L = true) (n : Int) : addOk p (lowD L n) (prt L n) = true ∧ sumV p (lowD L n) (prt L n) = lowD L (n + 1) := by
  have hb := isP_bd hp
  have v1 : validB p (lowD L n) = true := filter_valid hV _
  have v2 : validB p (prt L n) = true := filter_valid hV _
  have v3 : validB p (lowD L (n + 1)) = true := filter_valid hV _
  have e : addAll p (prt L n) (lowD L n) = lowD L (n + 1) := addAll_is (by omega) (validB_srt v1) (validB_srt v3) (validB_els v1) (validB_els v3) (els_in (validB_els v2)) fun m => Cg.of_eq (low_next m n L)
  have h := addOk_of (p := p) (L := lowD L n) (M := prt L n) hp v1 v2 (by rw [e]; exact v3)
  exact ⟨h.1, by rw [h.2, e]⟩
/-- all that the law of parts asks -/
structure PrtF (p : Int) (L : List Trm) (k n : Int) (P H : List Trm) : Prop where
  hp : isP p = true
  hV : validB p L = true
  hn : degV p L = n
  nb : -1 ≤ n ∧ n ≤ 27
  low0 : lowD L 0 = []
  lowN : lowD L (n + 1) = L
  pk : partL p L k = P
  ph : partL p L n = H
  pd : P ≠ [] → degV p P = k
  hi : L = [] ↔ H = []
theorem partL_is {p : Int} {L : List Trm} (hp : isP p = true) (hV : validB p L = true) (n : Int) : partL p L n = prt L n := by
  unfold partL prt
  rw [hp, hV, partK_filter L n L.length (Nat.le_refl _), List.take_length]
  rfl
theorem prtF {p : Int} {L : List Trm} (hp : isP p = true) (hV : validB p L = true) (k : Int) : PrtF p L k (degV p L) (partL p L k) (partL p L (degV p L)) := by
  have hd : degV p L = topK degT L L.length := by
    unfold degV
    rw [hp, hV]
    simp only [Bool.and_self, if_true]
    exact topK_deg L _
  refine ⟨hp, hV, rfl, degV_bd hp hV, ?_, ?_, rfl, rfl, fun hne => ?_, ?_⟩
  · unfold lowD
    rw [List.filter_eq_nil_iff]
    intro y hy
    have := (degT_bd hV y hy).1
    simp; omega
  · unfold lowD
    rw [List.filter_eq_self]
    intro y hy
    have := topK_ge (f := degT) hy
    rw [hd]
    simp; omega
  · rw [partL_is hp hV] at hne ⊢
    have hv2 : validB p (prt L k) = true := filter_valid hV _
    unfold degV
    rw [hp, hv2]
    simp only [Bool.and_self, if_true]
    rw [topK_deg]
    obtain ⟨y, hy⟩ := List.exists_mem_of_ne_nil _ hne
    have hall : ∀ z ∈ prt L k, degT z = k := fun z hz => by simpa using (List.mem_filter.1 hz).2
    have h1 := topK_ge (f := degT) hy
    have h0 := (degT_bd hv2 y hy).1
    have hk := hall y hy
    have h2 := topK_le (f := degT) (L := prt L k) (d := k) (by omega) (fun z hz => by rw [hall z hz]; omega) _ (Nat.le_refl _)
    omega
  · rw [partL_is hp hV]
    constructor
    · rintro rfl
      rfl
    · intro h
      by_cases hL : L = []
      · exact hL
      · obtain ⟨y, hy⟩ := List.exists_mem_of_ne_nil _ hL
        have h0 := (degT_bd hV y hy).1
        have h1 := topK_ge (f := degT) hy
        obtain ⟨z, hz, hzt⟩ := topK_at (f := degT) (L := L) L.length (Nat.le_refl _) (by omega)
        have : z ∈ prt L (degV p L) := List.mem_filter.2 ⟨hz, by rw [hd, hzt]; simp⟩
        rw [h] at this
        cases this
theorem PK.drop {w0 wr : World} {zs ys : List VT} (h : PK w0 zs wr) (hs : ∀ z ∈ ys, z ∈ zs) : PK w0 ys wr := ⟨h.low, fun z hz => h.rd z (hs z hz)⟩
end Go.Proofs.Ytlidplmpglpkgaa
namespace Go.Proofs.Ytlidplmpglpkgaa
open Go.RowKit
theorem cg_pow {p a b : Int} (h : Cg p a b) : ∀ n : Nat, Cg p (a ^ n) (b ^ n)
  | 0 => by rw [Int.pow_zero, Int.pow_zero]; exact Cg.refl _ _
  | n + 1 => by rw [Int.pow_succ, Int.pow_succ]; exact (cg_pow h n).mul h
theorem mul_pow' (a b : Int) : ∀ n : Nat, (a * b) ^ n = a ^ n * b ^ n
  | 0 => by simp
  | n + 1 => by rw [Int.pow_succ, Int.pow_succ, Int.pow_succ, mul_pow' a b n]; grind
theorem tm_wS {p : Int} {h : Trm → Int} {L : List Trm} (hp : isP p = true) (hs : Srt L) (m : Int → Int → Int → Int) : Cg p (wS m (tmL p h L)) (sumI (fun x => x.t * h x * m x.a x.b x.c) L) := by
  rw [← tmK_all hp hs]
  unfold tmK
  rw [List.take_length]
  refine (wS_addAll _ _ _).trans ?_
  rw [wS_map]
  refine Cg.trans (Cg.of_eq (Int.zero_add _)) ?_
  exact sumI_cg fun x _ => (Cg.mod p _).mul (Cg.refl _ _)
theorem prt_fl (L : List Trm) (n : Int) : prt L n = fl (fun a b c => decide (a + b + c = n)) L := rfl
theorem mon_scale {p a x y z A B C : Int} (hA : 0 ≤ A) (hB : 0 ≤ B) (hC : 0 ≤ C) : Cg p (a ^ (A + B + C).toNat % p * mon x y z A B C) (mon (x * a % p) (y * a % p) (z * a % p) A B C) := by
  unfold mon
  rw [show (A + B + C).toNat = A.toNat + B.toNat + C.toNat by omega, Int.pow_add, Int.pow_add]
  refine ((Cg.mod p _).mul (Cg.refl _ _)).trans ?_
  refine Cg.trans (Cg.of_eq ?_) (((cg_pow (Cg.mod p (x * a)).symm _).mul (cg_pow (Cg.mod p (y * a)).symm _)).mul (cg_pow (Cg.mod p (z * a)).symm _))
  rw [mul_pow', mul_pow', mul_pow']
  grind
theorem e3_iff {p x y z : Int} : isE3 p x y z = true ↔ (0 ≤ x ∧ x < p) ∧ (0 ≤ y ∧ y < p) ∧ (0 ≤ z ∧ z < p) := by simp [isE3, isE]
/-- all that the law of multiplied unknowns asks -/
structure ScuF (p a : Int) (L G : List Trm) : Prop where
  hp : isP p = true
  ha : isE p a = true
  vL : validB p L = true
  vG : validB p G = true
  pw : ∀ k : Int, 0 ≤ k → sclV p (powV p a k) (partL p L k) = partL p G k
  ev : ∀ x y z, isE3 p x y z = true → evV p (mulV p x a) (mulV p y a) (mulV p z a) L = evV p x y z G
  on : a = 1 → G = L
theorem scuF {p a : Int} {L : List Trm} (hp : isP p = true) (vL : validB p L = true) (ha : isE p a = true) : ScuF p a L (tmL p (hPow p a) L) := by
  have hb := isP_bd hp
  have vG : validB p (tmL p (hPow p a) L) = true := tm_valid hp vL
  refine ⟨hp, ha, vL, vG, fun k hk => ?_, fun x y z he => ?_, fun h1 => ?_⟩
  · have hE : isE p (a ^ k.toNat % p) = true := isE_mod hp
    have vP : validB p (prt L k) = true := filter_valid vL _
    have vQ : validB p (prt (tmL p (hPow p a) L) k) = true := filter_valid vG _
    have vS := scl_valid hp hE vP
    rw [powV_is hp ha hk, partL_is hp vL, partL_is hp vG]
    unfold sclV
    rw [hp, vP, hE]
    simp only [Bool.and_self, if_true]
    refine ind_inj (validB_srt vS) (validB_srt vQ) (validB_els vS) (validB_els vQ) fun A B C => ?_
    refine (scl_wS _).trans ?_
    rw [prt_fl, prt_fl, wS_fl, wS_fl]
    refine Cg.trans ?_ (tm_wS hp (validB_srt vL) _).symm
    rw [wS_sum, ← sumI_mul]
    refine Cg.of_eq (sumI_congr fun u hu => ?_)
    by_cases hd : u.a + u.b + u.c = k
    · have e : degT u = k := hd
      unfold hPow
      rw [e]
      simp only [hd, decide_true, if_true]
      grind
    · simp [hd]
  · have hE := e3_iff.1 he
    have e1 : mulV p x a = x * a % p := mulV_is hp (isE_iff.2 hE.1) ha
    have e2 : mulV p y a = y * a % p := mulV_is hp (isE_iff.2 hE.2.1) ha
    have e3 : mulV p z a = z * a % p := mulV_is hp (isE_iff.2 hE.2.2) ha
    rw [e1, e2, e3]
    have hE' : isE3 p (x * a % p) (y * a % p) (z * a % p) = true := by
      rw [e3_iff]
      exact ⟨emod_bd (by omega), emod_bd (by omega), emod_bd (by omega)⟩
    unfold evV
    rw [hp, vL, vG, he, hE']
    simp only [Bool.and_self, if_true]
    refine (evK_is hp ?_ (evK_bd hp _ _ _ L L.length)).symm
    refine (tm_wS hp (validB_srt vL) _).trans ?_
    refine Cg.trans ?_ (evK_all p _ _ _ L).symm
    rw [wS_sum]
    refine sumI_cg fun u hu => ?_
    obtain ⟨⟨a0, _⟩, ⟨b0, _⟩, ⟨c0, _⟩⟩ := validB_mem vL hu
    refine Cg.trans (Cg.of_eq ?_) ((Cg.refl p u.t).mul (mon_scale (p := p) (a := a) (x := x) (y := y) (z := z) a0 b0 c0))
    show u.t * (a ^ (degT u).toNat % p) * _ = u.t * (a ^ (u.a + u.b + u.c).toNat % p * _)
    unfold degT
    grind
  · subst h1
    refine ind_inj (validB_srt vG) (validB_srt vL) (validB_els vG) (validB_els vL) fun A B C => ?_
    refine (tm_wS hp (validB_srt vL) _).trans ?_
    rw [wS_sum]
    refine Cg.of_eq (sumI_congr fun u hu => ?_)
    unfold hPow
    rw [Int.one_pow, Int.emod_eq_of_lt (by omega) (by omega), Int.mul_one]
end Go.Proofs.Ytlidplmpglpkgaa
namespace Go.Proofs.Ytlidplmpglpkgaa
open Go.RowKit
set_option maxHeartbeats 4000000 in
theorem drawShiftPoly (a : Option Addr) (len cap : Nat) (w : World) (h : ByteRow w a len cap) :
    Calls Try.prog 72 #[.slice a len cap] w (DrawTP w) := by
  have T0 := ThreeT.new w 33
  have hB0 : Below w.heap.size w (w.alloc (.cells #[.int .i64 0, .int .i64 0, .int .i64 0] 33)) := Below.alloc (Below.refl _ _) (Nat.le_refl _) _
  have hh := h.below hB0
  obtain ⟨W0, hW0⟩ : ∃ W, W = w.alloc (.cells #[.int .i64 0, .int .i64 0, .int .i64 0] 33) := ⟨_, rfl⟩
  have hs0 : W0.heap.size = w.heap.size + 1 := by rw [hW0]; simp
  rw [← hW0] at T0 hB0 hh
  have HW0 := Lib.hid hW0
  clear hW0 h
  go_enter Try.func72, Try.ntmps72
  go_wp2_with fail
  rw [← HW0.out]
  refine (open_any a len cap W0 hh).mono ?_
  rintro e w1 ⟨a1, l1, c1, rfl, hR1, hb1⟩
  have hs1 := hR1.sz
  obtain ⟨R, hR⟩ : ∃ R, R = W0.heap.size := ⟨_, rfl⟩
  rw [← hR] at hR1 hs1 ⊢
  have hwR : w.heap.size < R := by omega
  have hne : some w.heap.size ≠ some R := fun e => by injection e with e; omega
  have T1 := T0.same hb1.size (hb1.block _ T0.1)
  have hB1 := hB0.trans (hb1.mono hB0.size)
  clear T0 hb1 hB0 hh hs0 HW0 hR
  go_wp2_with fail
  refine (some_any R a1 l1 c1 0 w1 hR1 (by omega)).mono ?_
  rintro e wa ⟨p, qa, rfl, hp0, hp1, hqa, hRa, hga⟩
  go_wp2_with fail
  refine (field_pr p wa).mono ?_
  rintro e wb ⟨f, rfl, hf, rfl⟩
  go_wp2_with fail
  refine (terms_any R a1 l1 c1 qa f 2 hf (by omega) (by omega) _ hRa (by omega)).mono ?_
  rintro e wc ⟨v0, M0, qc, rfl, hM0, hqc, hRc, hrc, hgc⟩
  have hgc' := grown_trans hga hgc
  have hTc := (hrc.own (by omega)).trms
  clear hrc hgc hRa hga
  go_wp2_with fail
  refine (bad2_any R a1 l1 c1 qc v0 M0 (by omega) wc hRc hTc (by omega)).mono ?_
  rintro e w2 ⟨v, M, q, rfl, hM, hq', hR2, hr2', hg2'⟩
  have hg2 := grown_trans hgc' hg2'
  have hr2 := row_base hr2' hgc'.size
  have hq : q ≤ 200 := by omega
  have S2 := QSt.of hR1 hR2 hr2 hg2
  clear hTc hRc hr2' hg2' hgc'
  have T2 := T1.same hg2.size (hg2.block _ T1.1 hne)
  have hB2 := hB1.grown hg2 hB1.size (fun k hk => by cases hk; omega)
  have hw1 : w.heap.size < w1.heap.size := T1.1
  clear T1 hg2 hR1 hB1 hR2 hr2
  go_wp2_with fail
  refine (pointT_any R a1 l1 c1 q p hp0 hp1 w2 S2.rd (by omega)).mono ?_
  rintro e w3 ⟨x, y, z, q3, rfl, hq3, hR3, hg3⟩
  have T3 := T2.same hg3.size (hg3.block _ T2.1 hne)
  have hB3 := hB2.grown hg3 hB2.size (fun k hk => by cases hk; omega)
  have hr3 : Row w3 w1.heap.size v M := (S2.pk hR3 hg3).row
  obtain ⟨_, ⟨u0, t0⟩, ⟨u1, t1⟩, ⟨u2, t2⟩, f0, f1, f2⟩ := T3
  have hfar : ∀ (W : World) (o : Nat) (u : Value), Row W w1.heap.size v M → Row (W.setCell ⟨w.heap.size, o, none⟩ u) w1.heap.size v M := fun W o u hr =>
    World.ownsRow.kept (row := some w.heap.size) hr ⟨rfl, rfl, rfl, by simp, fun k hk hne => Below.heap_setCell _ _ _ _ (fun e => hne (by rw [e]))⟩ (.inr (fun e => by have := (World.ownsRow.lt hr _ e).1; omega))
  have HO := Lib.hid (row_base (hfar _ 2 (.int .i64 z) (hfar _ 1 (.int .i64 y) (hfar _ 0 (.int .i64 x) hr3))) (Nat.le_of_lt hw1))
  have HB := Lib.hid (Below.setCell (Below.setCell (Below.setCell hB3 (Nat.le_refl w.heap.size) (.int .i64 x)) (Nat.le_refl w.heap.size) (.int .i64 y)) (Nat.le_refl w.heap.size) (.int .i64 z) : Below w.heap.size w (((w3.setCell ⟨w.heap.size, 0, none⟩ (.int .i64 x)).setCell ⟨w.heap.size, 1, none⟩ (.int .i64 y)).setCell ⟨w.heap.size, 2, none⟩ (.int .i64 z)))
  clear T2 S2 hR3 hg3 hB2 hB3 hr3 hne hfar
  go_wp2_with fail
  refine bodyPost_ret (v := .tuple #[.int .i64 p, v, .agg #[.int .i64 x, .int .i64 y, .int .i64 z]]) (by simp [results, Try.results72, go_sem, t0, t1, t2]) rfl ⟨p, v, M, x, y, z, rfl, hM, HO.out, HB.out⟩
end Go.Proofs.Ytlidplmpglpkgaa
