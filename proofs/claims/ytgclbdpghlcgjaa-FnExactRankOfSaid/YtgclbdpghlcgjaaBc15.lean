/-
  The rank: its steps as mathematics, and rows that change places. Conditions: none.
  clearBelow of the program. Conditions: the rows are one's own, the elements lie in the field.
  RankOf of the program. Conditions: none but that the slice reads as a matrix.
  RankOf of the model. Conditions: none but that the slice reads as a matrix.
  The walk of the exact law of RankOf. Conditions: none but that the slices read as lists.
-/
import Derived.Test.YtgclbdpghlcgjaaBc14
import Derived.Test.YtgclbdpghlcgjaaBc11
import Derived.Test.YtgclbdpghlcgjaaBc9
import Derived.Test.YtgclbdpghlcgjaaBc3
import Derived.Test.YtgclbdpghlcgjaaBc13
import Derived.WalkMore
import Derived.Test.YtgclbdpghlcgjaaBc10
import Derived.Test.YtgclbdpghlcgjaaBc2
import Derived.Test.YtgclbdpghlcgjaaBc6
import Derived.Test.YtgclbdpghlcgjaaBc5
namespace Go.Proofs.Ytgclbdpghlcgjaa
set_option linter.unusedVariables false
open Go.RowKit
/-- the inverse, 0 if there is none -/
def ivE (p a : Int) : Int := (((invO p a).getD 0 : Nat) : Int)
theorem ivE_bd {p a : Int} (hp : isP p = true) : 0 ≤ ivE p a ∧ ivE p a < p := by
  have hb := isP_bd hp
  unfold ivE
  cases h : invO p a with
  | none => simp; omega
  | some n =>
    unfold invO at h
    rw [List.find?_range_eq_some] at h
    have := h.2.1
    simp at this ⊢
    omega
def sw (a b i : Nat) : Nat := if i = a then b else if i = b then a else i
theorem sw_lt {a b i r : Nat} (ha : a < r) (hb : b < r) (hi : i < r) : sw a b i < r := by
  unfold sw; split
  · exact hb
  · split
    · exact ha
    · exact hi
theorem sw_inj {a b i j : Nat} (h : sw a b i = sw a b j) : i = j := by
  unfold sw at h
  split at h <;> split at h <;> (try split at h) <;> (try split at h) <;> omega
def swp (F : Nat → Nat → Int) (a b i k : Nat) : Int := F (sw a b i) k
/-- a row's number in the column, times the inverse -/
def tmE (p : Int) (F : Nat → Nat → Int) (q col i : Nat) : Int := F i col * ivE p (F q col) % p
/-- the rows below row q cleared, those ahead of row i and of row i the elements ahead of j -/
def clrP (p : Int) (F : Nat → Nat → Int) (q col i j a b : Nat) : Int :=
  if q < a ∧ (a < i ∨ (a = i ∧ b < j)) then (F a b - tmE p F q col a * F q b) % p else F a b
def clrF (p : Int) (F : Nat → Nat → Int) (q col a b : Nat) : Int := if q < a then (F a b - tmE p F q col a * F q b) % p else F a b
theorem clrP_0 {p : Int} {F : Nat → Nat → Int} {q col a b : Nat} : clrP p F q col (q + 1) 0 a b = F a b := by
  unfold clrP; rw [if_neg (by omega)]
theorem clrP_upd {p : Int} {F : Nat → Nat → Int} {q col i j a b : Nat} (hi : q < i) : upd (clrP p F q col i j) i j ((F i j - tmE p F q col i * F q j) % p) a b = clrP p F q col i (j + 1) a b := by
  unfold upd clrP
  by_cases h : a = i ∧ b = j
  · obtain ⟨rfl, rfl⟩ := h
    rw [if_pos ⟨rfl, rfl⟩, if_pos ⟨hi, .inr ⟨rfl, by omega⟩⟩]
  · rw [if_neg h]
    by_cases h2 : q < a ∧ (a < i ∨ (a = i ∧ b < j))
    · rw [if_pos h2, if_pos (by omega)]
    · rw [if_neg h2, if_neg (by omega)]
theorem clrP_next {p : Int} {F : Nat → Nat → Int} {q col i c a b : Nat} (hb : b < c) : clrP p F q col i c a b = clrP p F q col (i + 1) 0 a b := by
  unfold clrP
  by_cases h2 : q < a ∧ (a < i ∨ (a = i ∧ b < c))
  · rw [if_pos h2, if_pos (by omega)]
  · rw [if_neg h2, if_neg (by omega)]
theorem clrP_end {p : Int} {F : Nat → Nat → Int} {q col r a b : Nat} (ha : a < r) : clrP p F q col r 0 a b = clrF p F q col a b := by
  unfold clrP clrF
  by_cases h : q < a
  · rw [if_pos ⟨h, .inl ha⟩, if_pos h]
  · rw [if_neg (fun hh => h hh.1), if_neg h]
theorem clrP_piv {p : Int} {F : Nat → Nat → Int} {q col i j b : Nat} : clrP p F q col i j q b = F q b := by
  unfold clrP; rw [if_neg (by omega)]
theorem clrP_at {p : Int} {F : Nat → Nat → Int} {q col i j : Nat} : clrP p F q col i j i j = F i j := by
  unfold clrP; rw [if_neg (by omega)]
theorem clrP_row {p : Int} {F : Nat → Nat → Int} {q col i b : Nat} : clrP p F q col i 0 i b = F i b := by
  unfold clrP; rw [if_neg (by omega)]
/-- all elements lie in the field -/
def InF (p : Int) (r c : Nat) (F : Nat → Nat → Int) : Prop := ∀ i k, i < r → k < c → 0 ≤ F i k ∧ F i k < p
theorem InF.swp {p : Int} {r c a b : Nat} {F : Nat → Nat → Int} (h : InF p r c F) (ha : a < r) (hb : b < r) : InF p r c (swp F a b) := fun i k hi hk => h _ k (sw_lt ha hb hi) hk
theorem InF.clr {p : Int} {r c q col : Nat} {F : Nat → Nat → Int} (h : InF p r c F) (hp : 2 ≤ p) : InF p r c (clrF p F q col) := fun i k hi hk => by
  unfold clrF
  split
  · exact ⟨Int.emod_nonneg _ (by omega), Int.emod_lt_of_pos _ (by omega)⟩
  · exact h i k hi hk
theorem InF.clrP {p : Int} {r c q col n m : Nat} {F : Nat → Nat → Int} (h : InF p r c F) (hp : 2 ≤ p) : InF p r c (clrP p F q col n m) := fun i k hi hk => by
  unfold Go.Proofs.Ytgclbdpghlcgjaa.clrP
  split
  · exact ⟨Int.emod_nonneg _ (by omega), Int.emod_lt_of_pos _ (by omega)⟩
  · exact h i k hi hk
/-- the first row from q on with an element in the column -/
def pvO (F : Nat → Nat → Int) (k q r : Nat) : Option Nat := (List.range r).find? fun i => decide (q ≤ i) && F i k != 0
theorem pvO_some {F : Nat → Nat → Int} {k q r a : Nat} (h1 : q ≤ a) (h2 : a < r) (h3 : F a k ≠ 0) (h4 : ∀ j, q ≤ j → j < a → F j k = 0) : pvO F k q r = some a := by
  unfold pvO
  rw [List.find?_range_eq_some]
  refine ⟨by simp [h1, h3], by simp; omega, fun j hj => ?_⟩
  by_cases h : q ≤ j
  · simp [h4 j h hj]
  · simp [h]
theorem pvO_none {F : Nat → Nat → Int} {k q r : Nat} (h : ∀ j, q ≤ j → j < r → F j k = 0) : pvO F k q r = none := by
  unfold pvO
  rw [List.find?_range_eq_none]
  intro j hj
  by_cases h2 : q ≤ j
  · simp [h j h2 hj]
  · simp [h2]
/-- one column -/
def rkN (p : Int) (r k : Nat) (s : (Nat → Nat → Int) × Nat) : (Nat → Nat → Int) × Nat :=
  match pvO s.1 k s.2 r with
  | none => s
  | some a => (clrF p (swp s.1 s.2 a) s.2 k, s.2 + 1)
def rkT (p : Int) (r : Nat) (E : Nat → Nat → Int) : Nat → (Nat → Nat → Int) × Nat
  | 0 => (E, 0)
  | k + 1 => rkN p r k (rkT p r E k)
theorem rkT_none {p : Int} {r k : Nat} {E : Nat → Nat → Int} (h : ∀ j, (rkT p r E k).2 ≤ j → j < r → (rkT p r E k).1 j k = 0) : rkT p r E (k + 1) = rkT p r E k := by
  show rkN p r k (rkT p r E k) = _
  unfold rkN; rw [pvO_none h]
theorem rkT_some {p : Int} {r k a : Nat} {E : Nat → Nat → Int} (h1 : (rkT p r E k).2 ≤ a) (h2 : a < r) (h3 : (rkT p r E k).1 a k ≠ 0) (h4 : ∀ j, (rkT p r E k).2 ≤ j → j < a → (rkT p r E k).1 j k = 0) :
    rkT p r E (k + 1) = (clrF p (swp (rkT p r E k).1 (rkT p r E k).2 a) (rkT p r E k).2 k, (rkT p r E k).2 + 1) := by
  show rkN p r k (rkT p r E k) = _
  unfold rkN; rw [pvO_some h1 h2 h3 h4]
theorem rkT_full {p : Int} {r k : Nat} {E : Nat → Nat → Int} (h : (rkT p r E k).2 = r) : ∀ j, (rkT p r E (k + j)).2 = r
  | 0 => h
  | j + 1 => by
    have ih := rkT_full h j
    show (rkT p r E (k + j + 1)).2 = r
    rw [rkT_none (fun i h1 h2 => by omega)]
    exact ih
theorem rkT_in {p : Int} {r c : Nat} {E : Nat → Nat → Int} (hp : 2 ≤ p) (h : InF p r c E) : ∀ k, InF p r c (rkT p r E k).1 ∧ (rkT p r E k).2 ≤ r
  | 0 => ⟨h, Nat.zero_le _⟩
  | k + 1 => by
    obtain ⟨h1, h2⟩ := rkT_in hp h k
    show InF p r c (rkN p r k (rkT p r E k)).1 ∧ (rkN p r k (rkT p r E k)).2 ≤ r
    unfold rkN
    cases e : pvO (rkT p r E k).1 k (rkT p r E k).2 r with
    | none => exact ⟨h1, h2⟩
    | some a =>
      unfold pvO at e
      rw [List.find?_range_eq_some] at e
      have ha : a < r := by have := e.2.1; simpa using this
      have hq : (rkT p r E k).2 ≤ a := by have := e.1; simp at this; exact this.1
      exact ⟨(h1.swp (by omega) ha).clr hp, by simp only; omega⟩
def rkV (p : Int) (M : List (List Int)) : Int := if matB p M = true then ((rkT p M.length (el M) (rowM M 0).length).2 : Int) else -1
/-- two heads change places -/
theorem OMat.swap {w : World} {B g off c r a b : Nat} {H O : Nat → Nat} {F : Nat → Nat → Int} (h : OMat w B g off H O (matF c F r)) (hc : 0 < c) (ha : a < r) (hb : b < r) {ca cb : Nat}
    (hca : w.cell? ⟨g, off + a, none⟩ = some (.slice (some ⟨H a, O a, none⟩) c ca)) (hcb : w.cell? ⟨g, off + b, none⟩ = some (.slice (some ⟨H b, O b, none⟩) c cb)) :
    OMat ((w.setCell ⟨g, off + a, none⟩ (.slice (some ⟨H b, O b, none⟩) c cb)).setCell ⟨g, off + b, none⟩ (.slice (some ⟨H a, O a, none⟩) c ca)) B g off (fun i => H (sw a b i)) (fun i => O (sw a b i)) (matF c (swp F a b) r) := by
  have hs : ∀ i, i < r → ((w.setCell ⟨g, off + a, none⟩ (.slice (some ⟨H b, O b, none⟩) c cb)).setCell ⟨g, off + b, none⟩ (.slice (some ⟨H a, O a, none⟩) c ca)).cell? ⟨g, off + i, none⟩ = w.cell? ⟨g, off + sw a b i, none⟩ := by
    intro i hi
    by_cases e1 : i = b
    · subst e1
      have e0 : ∃ x, (w.setCell ⟨g, off + a, none⟩ (.slice (some ⟨H i, O i, none⟩) c cb)).cell? ⟨g, off + i, none⟩ = some x := by
        by_cases e2 : i = a
        · subst e2; exact ⟨_, World.cell?_setCell_same _ _ _ hca⟩
        · exact ⟨_, by rw [World.cell?_setCell_other _ _ _ _ (adr_ne (by omega))]; exact hcb⟩
      obtain ⟨x, hx⟩ := e0
      rw [World.cell?_setCell_same _ _ _ hx]
      unfold sw
      by_cases e2 : i = a
      · subst e2; rw [if_pos rfl, hca]
      · rw [if_neg e2, if_pos rfl, hca]
    · rw [World.cell?_setCell_other _ _ _ _ (adr_ne (by omega))]
      unfold sw
      by_cases e2 : i = a
      · subst e2
        rw [if_pos rfl, World.cell?_setCell_same _ _ _ hca, hcb]
      · rw [if_neg e2, if_neg e1, World.cell?_setCell_other _ _ _ _ (adr_ne (by omega))]
  refine ⟨h.bg, by simpa using h.gl, fun i hi => ?_, fun i j k l hi hj hne hk hl hH => ?_, fun i hi => by
    rw [World.frozen?_setCell, World.frozen?_setCell]
    exact h.fz i (by rw [matF_len] at hi ⊢; exact hi)⟩
  · rw [matF_len] at hi
    have hsi := sw_lt ha hb hi
    obtain ⟨cap, h1, ⟨h2, h2c⟩, h3, h4, h5⟩ := h.cellF hsi hc
    have hl : (rowM (matF c (swp F a b) r) i).length = c := by rw [matF_row hi]; simp
    have hcb9 : c ≤ 281474976710656 := by
      obtain ⟨_, _, _, h6, _⟩ := h.rd (sw a b i) (by rw [matF_len]; exact hsi)
      rw [matF_row hsi] at h6; simp at h6; omega
    refine ⟨_, cap, by rw [hl, hs i hi]; exact h1, by rw [hl]; exact ⟨hcb9, h2c⟩, .inr ⟨rfl, h3, by simpa using h4, h2, fun j hj => ?_, fun j hj => ?_⟩⟩
    · rw [hl] at hj
      rw [World.cell?_setCell_other _ _ _ _ (adr_ne (.inl (fun e => h2 e.symm))), World.cell?_setCell_other _ _ _ _ (adr_ne (.inl (fun e => h2 e.symm))), (h5 j hj).1]
      have := el_matF (E := swp F a b) hi hj
      unfold el at this
      rw [this]; rfl
    · rw [hl] at hj
      rw [World.frozen?_setCell, World.frozen?_setCell]; exact (h5 j hj).2
  · rw [matF_len] at hi hj
    rw [matF_row hi] at hk
    rw [matF_row hj] at hl
    have hsi := sw_lt ha hb hi
    have hsj := sw_lt ha hb hj
    exact h.ap _ _ k l (by rw [matF_len]; exact hsi) (by rw [matF_len]; exact hsj) (fun e => hne (sw_inj e)) (by rw [matF_row hsi]; simpa using hk) (by rw [matF_row hsj]; simpa using hl) hH
end Go.Proofs.Ytgclbdpghlcgjaa
namespace Go.Proofs.Ytgclbdpghlcgjaa
set_option linter.unusedVariables false
open Go.RowKit
theorem ivV_el {p a : Int} (hp : isP p = true) (h : 0 ≤ a ∧ a < p) : ivV p a = ivE p a := by
  unfold ivV ivE; rw [if_pos (isE1_iff.2 ⟨hp, h⟩)]
theorem mulV_el {p x y : Int} (hp : isP p = true) (hx : 0 ≤ x ∧ x < p) (hy : 0 ≤ y ∧ y < p) : mulV p x y = x * y % p := by
  unfold mulV; rw [if_pos (isE2_iff.2 ⟨hp, hx, hy⟩)]
theorem emB2 {p : Int} (hp : isP p = true) (x : Int) : 0 ≤ x % p ∧ x % p < p := by
  have := isP_bd hp
  exact ⟨Int.emod_nonneg _ (by omega), Int.emod_lt_of_pos _ (by omega)⟩
theorem subMul {p s t y : Int} (hp : isP p = true) (hs : 0 ≤ s ∧ s < p) (ht : 0 ≤ t ∧ t < p) (hy : 0 ≤ y ∧ y < p) : addV p s (mulV p (minV p t) y) = (s - t * y) % p := by
  have e1 : minV p t = (-t) % p := by unfold minV; rw [if_pos (isE1_iff.2 ⟨hp, ht⟩)]
  rw [e1, mulV_el hp (emB2 hp _) hy]
  unfold addV
  rw [if_pos (isE2_iff.2 ⟨hp, hs, emB2 hp _⟩)]
  rw [Int.add_emod_emod, Int.add_emod, Int.mul_emod, Int.emod_emod, ← Int.mul_emod, ← Int.add_emod]
  congr 1
  rw [Int.neg_mul]; omega
set_option maxRecDepth 100000 in
set_option maxHeartbeats 16000000 in
theorem iClear (p : Int) (hp : isP p = true) (g off cap r c q col B : Nat) (H O : Nat → Nat) (F : Nat → Nat → Int) (w : World) (h : OMat w B g off H O (matF c F r)) (hq : q < r) (hcol : col < c) (hr : r ≤ 4) (hc : c ≤ 4) (hcap : r ≤ cap) (hF : InF p r c F) :
    Calls Try.prog 76 #[.slice (some ⟨g, off, none⟩) r cap, .int .i64 p, .int .i64 q, .int .i64 col] w fun e w' => e = .returned (.tuple #[]) ∧ OMat w' B g off H O (matF c (clrF p F q col) r) ∧ Below B w w' := by
  have hpb := isP_bd hp
  have hc0 : 0 < c := by omega
  have HP := Lib.hid hp
  have hqp : (q : Int) < (r : Int) := by omega
  have hq0 : (0 : Int) ≤ (q : Int) := by omega
  have hcp : (col : Int) < (c : Int) := by omega
  have hco0 : (0 : Int) ≤ (col : Int) := by omega
  have hwq : IntKind.i64.wrap ((q : Int) + 1) = (q : Int) + 1 := IntWalk.i64_in _ (by omega)
  have hq10 : (0 : Int) ≤ (q : Int) + 1 := by omega
  have hq1r : (q : Int) + 1 ≤ (r : Int) := by omega
  have HFF := Lib.hid hF
  have HT := Lib.hid (fun i (hi : i < r) => show mulV p (F i col) (ivE p (F q col)) = tmE p F q col i from mulV_el hp (hF i col hi hcol) (ivE_bd hp))
  have HTB := Lib.hid (fun i => show 0 ≤ tmE p F q col i ∧ tmE p F q col i < p from emB2 hp _)
  have HV := Lib.hid (fun i j (hi : i < r) (hj : j < c) => show addV p (F i j) (mulV p (minV p (tmE p F q col i)) (F q j)) = (F i j - tmE p F q col i * F q j) % p from subMul hp (hF i j hi hj) (emB2 hp _) (hF q j hq hj))
  obtain ⟨cq, k1, ⟨k2, k2c⟩, k3, k4, k5⟩ := h.cellF hq hc0
  have kq := (k5 col hcol).1
  have HIV := Lib.hid (show ivV p (F q col) = ivE p (F q col) from ivV_el hp (hF q col hq hcol))
  obtain ⟨a0, ha0⟩ : ∃ a0, a0 = F q col := ⟨_, rfl⟩
  rw [← ha0] at kq HIV
  have HII := Lib.hid (iInverse p a0 w)
  have HA0 := Lib.hid ha0
  have HS := Lib.hid h
  clear hp hF k5 ha0 h
  go_enter Try.func76, Try.ntmps76
  go_wp2_with fail
  refine HII.out.mono ?_
  rintro e w1 ⟨rfl, hb1⟩
  rw [HIV.out]
  have HS1 := Lib.hid (show OMat w1 B g off H O (matF c (clrP p F q col (q + 1) 0) r) ∧ Below B w w1 from ⟨by rw [matF_ext (fun a b _ _ => clrP_0)]; exact HS.out.below hb1, hb1.mono (by have := HS.out.bg; have := HS.out.gl; omega)⟩)
  obtain ⟨iv, hiv⟩ : ∃ iv, iv = ivE p a0 := ⟨_, rfl⟩
  rw [← hiv]
  have HIE := Lib.hid (show iv = ivE p (F q col) by rw [hiv, HA0.out])
  clear hb1 kq k1 hiv HS
  by_cases ecap : cap = q + 1
  · have hr1 : r = q + 1 := by omega
    have HF := Lib.hid (show OMat w1 B g off H O (matF c (clrF p F q col) r) ∧ Below B w w1 from ⟨by rw [← matF_ext (fun a b ha _ => clrP_end (p := p) (F := F) (q := q) (col := col) ha), hr1]; rw [hr1] at HS1; exact HS1.out.1, HS1.out.2⟩)
    have hz : r - (q + 1) = 0 := by omega
    clear hr1
    go_wp2_with fail
    go_loop [31] (fun i => i = .int .i64 0) (fun _ => 0)
    case atStart => rfl
    case round =>
      obtain rfl := hrel
      go_wp2_with fail
      go_end0
      exact ⟨rfl, HF.out⟩
  · go_wp2_with fail
    go_loopw [31] (fun i wr => ∃ n : Nat, n ≤ r - (q + 1) ∧ i = .int .i64 n ∧ OMat wr B g off H O (matF c (clrP p F q col (q + 1 + n) 0) r) ∧ Below B w wr) (fun i _ => r - (intOf i).toNat)
    case atStart => exact ⟨0, by omega, rfl, HS1.out⟩
    case round =>
      clear HS1
      obtain ⟨n, hn, rfl, hm, hb⟩ := hrel
      by_cases hlt : n < r - (q + 1)
      · have hltp : (n : Int) < ((r - (q + 1) : Nat) : Int) := by omega
        have hn0 : (0 : Int) ≤ (n : Int) := by omega
        obtain ⟨i, hi⟩ : ∃ i, i = q + 1 + n := ⟨_, rfl⟩
        have hir : i < r := by omega
        have hqi : q < i := by omega
        rw [← hi] at hm
        obtain ⟨cp, d1, ⟨d2, d2c⟩, d3, d4, d5⟩ := hm.cellF hir hc0
        have d1' : wr.cell? ⟨g, off + (q + 1) + n, none⟩ = some (.slice (some ⟨H i, O i, none⟩) c cp) := by rw [show off + (q + 1) + n = off + i by omega]; exact d1
        have e0 := (d5 col hcol).1
        rw [clrP_row] at e0
        obtain ⟨x0, hx0⟩ : ∃ x, x = F i col := ⟨_, rfl⟩
        rw [← hx0] at e0
        have HX0 := Lib.hid hx0
        have HI := Lib.hid hi
        have HS := Lib.hid (And.intro hm hb)
        have HHN := Lib.hid d3
        clear hm hb d1 d5 hx0 hi
        go_wp2_with fail
        refine (iMul p x0 iv _).mono ?_
        rintro e w2 ⟨rfl, hb2⟩
        rw [show mulV p x0 iv = tmE p F q col i from by rw [HX0.out, HIE.out]; exact HT.out i hir]
        go_wp2_with fail
        refine (iMin p _ _).mono ?_
        rintro e w3 ⟨rfl, hb3⟩
        have hb23 : Below wr.heap.size wr w3 := hb2.trans (hb3.mono hb2.size)
        have HS3 := Lib.hid (show OMat w3 B g off H O (matF c (clrP p F q col i 0) r) ∧ Below B w w3 from ⟨HS.out.1.below hb23, HS.out.2.trans (hb23.mono (by have := HS.out.1.bg; have := HS.out.1.gl; omega))⟩)
        obtain ⟨tm, htm⟩ : ∃ t, t = minV p (tmE p F q col i) := ⟨_, rfl⟩
        rw [← htm]
        have HTM := Lib.hid htm
        clear hb2 hb3 hb23 HS htm d1' e0
        go_wp2_with fail
        go_loopw [46] (fun i2 wr => ∃ j : Nat, j ≤ c ∧ i2 = .int .i64 j ∧ OMat wr B g off H O (matF c (clrP p F q col i j) r) ∧ Below B w wr) (fun i2 _ => c - (intOf i2).toNat)
        case atStart => exact ⟨0, by omega, rfl, HS3.out⟩
        case round =>
          clear HS3
          obtain ⟨j, hj, rfl, hm, hb⟩ := hrel
          by_cases hlj : j < c
          · have hljp : (j : Int) < (c : Int) := by omega
            have hj0 : (0 : Int) ≤ (j : Int) := by omega
            obtain ⟨_, _, _, f3, f4, f5⟩ := hm.cellF hir hc0
            obtain ⟨cpq, g1, _, _, g4, g5⟩ := hm.cellF hq hc0
            have s1 := (f5 j hlj).1
            have s2 := (g5 j hlj).1
            rw [clrP_at] at s1
            rw [clrP_piv] at s2
            have HCL := Lib.hid (fun w' (hw : Below wr.heap.size wr w') => show w'.cell? ⟨g, off + q, none⟩ = some (.slice (some ⟨H q, O q, none⟩) c cpq) ∧ w'.cell? ⟨H i, O i + j, none⟩ = some (.int .i64 (F i j)) ∧ w'.cell? ⟨H q, O q + j, none⟩ = some (.int .i64 (F q j)) from
              ⟨by rw [hw.cell (p := ⟨g, off + q, none⟩) hm.gl]; exact g1, by rw [hw.cell (p := ⟨H i, O i + j, none⟩) f4]; exact s1, by rw [hw.cell (p := ⟨H q, O q + j, none⟩) g4]; exact s2⟩)
            have HVV := Lib.hid (HV.out i j hir hlj)
            have HF := Lib.hid (fun w' (hw : Below wr.heap.size wr w') => show OMat (w'.setCell ⟨H i, O i + j, none⟩ (.int .i64 ((F i j - tmE p F q col i * F q j) % p))) B g off H O (matF c (clrP p F q col i (j + 1)) r) ∧ Below B w (w'.setCell ⟨H i, O i + j, none⟩ (.int .i64 ((F i j - tmE p F q col i * F q j) % p))) from by
              refine ⟨?_, (hb.trans (hw.mono (by have := hm.bg; have := hm.gl; omega))).setCell f3 _⟩
              rw [← matF_ext (fun a b _ _ => clrP_upd (p := p) (F := F) (q := q) (col := col) (i := i) (j := j) (a := a) (b := b) hqi)]
              exact (hm.below hw).setF hir hlj _)
            have HFZ := Lib.hid (fun w' (hw : Below wr.heap.size wr w') => show w'.frozen? ⟨H i, O i + j, none⟩ = false from by rw [hw.frozen (p := ⟨H i, O i + j, none⟩) f4]; exact (f5 j hlj).2)
            obtain ⟨x, hx⟩ : ∃ x, x = F i j := ⟨_, rfl⟩
            obtain ⟨y, hy⟩ : ∃ y, y = F q j := ⟨_, rfl⟩
            obtain ⟨z, hz⟩ : ∃ z, z = (F i j - tmE p F q col i * F q j) % p := ⟨_, rfl⟩
            rw [← hz] at HVV HF
            rw [← HTM.out, ← hx, ← hy] at HVV
            rw [← hx, ← hy] at HCL
            clear hm hb f5 g5 s1 s2 hx hy hz g1
            go_wp2_with fail
            refine wp_region_seq [(0, true), (1, true), (2, true), (3, true), (4, true), (5, true), (6, true), (7, true), (8, true), (9, true), (10, true), (11, true), (12, true), (13, true), (14, true), (15, true), (16, false), (17, false), (18, true)] (fun w' => w'.cell? ⟨g, off + q, none⟩ = some (.slice (some ⟨H q, O q, none⟩) c cpq) ∧ w'.cell? ⟨H i, O i + j, none⟩ = some (.int .i64 x) ∧ w'.cell? ⟨H q, O q + j, none⟩ = some (.int .i64 y)) (by kernel_rfl) (by kernel_rfl) rfl (by intro c a d v w h; cases d <;> exact h) (HCL.out _ (Below.drew (Below.refl _ _))) ?_
            iterate 16 (refine wpSeq_take (v := ?_) (List.getElem?_toArray.trans rfl) ?_ ?_; rotate_left; (intro w' hSw; (try dsimp only at hSw); go_simp; (try with_reducible rfl)); (try simp only [Act.put, List.setIfInBounds_toArray, List.set_cons_zero, List.set_cons_succ]))
            have hdr : Below wr.heap.size wr wr.drew := Below.drew (Below.refl _ _)
            refine wpSeq_do (List.getElem?_toArray.trans rfl) (fun K hK => ?_)
            go_simp
            refine (iMul p tm y _).mono ?_
            rintro e w6 ⟨rfl, hb6⟩
            have hbb : Below wr.heap.size wr w6 := hdr.trans hb6
            refine hK _ _ (HCL.out _ hbb) ?_
            clear hK K
            refine wpSeq_do (List.getElem?_toArray.trans rfl) (fun K hK => ?_)
            go_simp
            refine (iAdd p x _ _).mono ?_
            rintro e w7 ⟨rfl, hb7⟩
            have hbc : Below wr.heap.size wr w7 := hbb.trans (hb7.mono hbb.size)
            refine hK _ _ (HCL.out _ hbc) ?_
            clear hK K
            rw [HVV.out]
            (refine wpSeq_take (v := ?_) (List.getElem?_toArray.trans rfl) ?_ ?_; rotate_left; (intro w' hSw; (try dsimp only at hSw); go_simp; (try with_reducible rfl)); (try simp only [Act.put, List.setIfInBounds_toArray, List.set_cons_zero, List.set_cons_succ]))
            refine wpSeq_nil ?_
            simp only [Exit.then]
            have H7 := Lib.hid (HF.out w7 hbc)
            have c7 := (HCL.out w7 hbc).2.1
            have f7 := HFZ.out w7 hbc
            clear hbc hb7 hb6 hbb hdr HCL HF HFZ HVV
            go_wp2_with fail
            go_roundw
            case rel => exact ⟨j + 1, by omega, by go_num, H7.out⟩
            case measure => simp [intOf]; omega
          · have hjc : j = c := by omega
            subst hjc
            have HF := Lib.hid (show OMat wr B g off H O (matF j (clrP p F q col (i + 1) 0) r) ∧ Below B w wr from ⟨by rw [← matF_ext (fun a b _ hb => clrP_next hb)]; exact hm, hb⟩)
            rw [show i + 1 = q + 1 + (n + 1) by have := HI.out; omega] at HF
            clear hm hb
            go_wp2_with fail
            go_roundw
            case rel => exact ⟨n + 1, by omega, by go_num, HF.out⟩
            case measure => simp [intOf]; omega
      · have HF := Lib.hid (show OMat wr B g off H O (matF c (clrF p F q col) r) ∧ Below B w wr from ⟨by rw [← matF_ext (fun a b ha _ => clrP_end (p := p) (F := F) (q := q) (col := col) ha)]; rw [show q + 1 + n = r by omega] at hm; exact hm, hb⟩)
        clear hm hb
        go_wp2_with fail
        go_end0
        exact ⟨rfl, HF.out⟩
end Go.Proofs.Ytgclbdpghlcgjaa
namespace Go.Proofs.Ytgclbdpghlcgjaa
set_option linter.unusedVariables false
open Go.RowKit Go.Shelf
set_option maxHeartbeats 1000000 in
theorem iRank1 (g off r c cap bx : Nat) (E : Nat → Nat → Int) (W : World) (hb : W.cell? ⟨bx, 0, none⟩ = some (.slice (some ⟨g, off, none⟩) r cap)) (hM : MatC W g off r c E) (i k : Nat) (hi : i < r) (hk : k < c) :
    Calls Try.prog 75 #[.int .i64 i, .int .i64 k, .pointer (some ⟨bx, 0, none⟩)] W fun e w' => e = .returned (.int .i64 (E i k)) ∧ Below W.heap.size W w' := by
  obtain ⟨h, o, cp, h1, h2, h3⟩ := hM.2 i hi
  have h4 := h3 k hk
  have hip : (i : Int) < (r : Int) := by omega
  have hkp : (k : Int) < (c : Int) := by omega
  have hi0 : (0 : Int) ≤ (i : Int) := by omega
  have hk0 : (0 : Int) ≤ (k : Int) := by omega
  obtain ⟨x, hx⟩ : ∃ x, x = E i k := ⟨_, rfl⟩
  rw [← hx] at h4 ⊢
  clear hx h3 hM
  go_enter Try.func75, Try.ntmps75
  go_wp2
  go_ret
  exact ⟨rfl, Below.refl _ _⟩
theorem enRank (args : Array Value) (w : World) : (callFunc 75 args).run Try.prog w = .ok (.enter 75 args) w := enters_of Try.func75 (by kernel_rfl) rfl args w
set_option maxRecDepth 100000 in
set_option maxHeartbeats 16000000 in
theorem iRank (p : Int) (v : Value) (M : List (List Int)) (w : World) (h : Mat w v M) :
    Calls Try.prog 25 #[.int .i64 p, v] w fun e w' => e = .returned (.int .i64 (rkV p M)) ∧ Below w.heap.size w w' := by
  have hb0 : ∀ o, Below w.heap.size w (w.alloc o) := fun o => Below.alloc (Below.refl _ _) (Nat.le_refl _) _
  have HMV := Lib.hid (fun o => iMV p v M (w.alloc o) (h.below (hb0 o)))
  cases hB : matB p M
  · have HV := Lib.hid (show rkV p M = -1 by simp [rkV, hB])
    rw [hB] at HMV
    have HB0 := Lib.hid hb0
    obtain ⟨_, _, a, cap, rfl, _⟩ := h
    clear hB hb0
    go_enter Try.func25, Try.ntmps25
    go_wp2_with fail
    apply wp_scope_straight
    go_wp2_with (go_at_call 31; refine (HMV.out _).mono ?_; rintro e w' ⟨rfl, rfl⟩)
    simp only [Exit.noGoto_ret]
    go_ret
    exact ⟨ret_int' HV.out.symm, HB0.out _⟩
  · obtain ⟨r, c, hr, hr1, hr4, hc, hc1, hc4, hrow, hel, hMF⟩ := matB_side hB
    have hp := (matB_iff.1 hB).1
    have hpb := isP_bd hp
    have HV := Lib.hid (show rkV p M = ((rkT p r (el M) c).2 : Int) by simp [rkV, hB, hr, hc])
    obtain ⟨g, off, cap, rfl, hC⟩ := h.cells hr hr1 hc1 hrow
    rw [hB] at HMV
    obtain ⟨E, hE⟩ : ∃ E, E = el M := ⟨_, rfl⟩
    rw [← hE] at HV hC
    have HIN := Lib.hid (rkT_in (p := p) (r := r) (c := c) (E := E) hpb.1 (by rw [hE]; exact hel))
    obtain ⟨W, hW⟩ : ∃ W, W = w.alloc (.cells #[.slice (some ⟨g, off, none⟩) r cap] 24) := ⟨_, rfl⟩
    have hbW : Below w.heap.size w W := by rw [hW]; exact hb0 _
    have hWs : w.heap.size < W.heap.size := by rw [hW]; simp
    have hWc : W.cell? ⟨w.heap.size, 0, none⟩ = some (.slice (some ⟨g, off, none⟩) r cap) := by rw [hW]; simp [go_sem]
    have HK := Lib.hid (fun w' (hb : Below W.heap.size W w') => show w'.cell? ⟨w.heap.size, 0, none⟩ = some (.slice (some ⟨g, off, none⟩) r cap) ∧ MatC w' g off r c E from
      ⟨by rw [hb.cell (p := ⟨w.heap.size, 0, none⟩) hWs]; exact hWc, (hC.below hbW).below hb⟩)
    have HN := Lib.hid (fun w' (hb : Below W.heap.size W w') => iNewK r c hr1 hr4 hc1 hc4 E 75 #[.pointer (some ⟨w.heap.size, 0, none⟩)] w' enRank
      (fun W2 hb2 i k hi hk => by
        have := HK.out W2 (hb.trans (hb2.mono hb.size))
        exact iRank1 g off r c cap w.heap.size E W2 this.1 this.2 i k hi hk))
    have HMV2 := Lib.hid (hW ▸ HMV.out (.cells #[.slice (some ⟨g, off, none⟩) r cap] 24))
    have HWE := Lib.hid hW
    have HBW := Lib.hid hbW
    have HPP := Lib.hid hp
    have hrp : 0 < r := by omega
    have HR0 := Lib.hid (fun w' (hb : Below W.heap.size W w') => show ∃ b cp, w'.cell? ⟨g, off, none⟩ = some (.slice b c cp) from by
      obtain ⟨hh, o, cp, h1, _⟩ := (HK.out w' hb).2.2 0 (by omega)
      exact ⟨_, cp, h1⟩)
    clear hB hb0 h hC hW hbW hMF hel hrow HMV hE hp hpb
    go_enter Try.func25, Try.ntmps25
    go_wp2_with fail
    apply wp_scope_straight
    go_wp2_with fail
    rw [← HWE.out]
    refine HMV2.out.mono ?_
    rintro e w' ⟨rfl, rfl⟩
    obtain ⟨b0, c0, hh0⟩ := HR0.out W (Below.refl _ _)
    have hg := (HK.out W (Below.refl _ _)).2.1
    have HS := Lib.hid (fun w' (hb : Below W.heap.size W w') => show w'.cell? ⟨w.heap.size, 0, none⟩ = some (.slice (some ⟨g, off, none⟩) r cap) ∧ w'.cell? ⟨g, off, none⟩ = some (.slice b0 c c0) from
      ⟨(HK.out w' hb).1, by rw [hb.cell (p := ⟨g, off, none⟩) hg]; exact hh0⟩)
    clear hh0 hg HR0 HMV2
    go_wp2_with fail
    refine wp_region_seq [(0, true), (1, true), (2, true), (3, true), (4, true), (5, true), (6, true), (7, false)] (fun w' => w'.cell? ⟨w.heap.size, 0, none⟩ = some (.slice (some ⟨g, off, none⟩) r cap) ∧ w'.cell? ⟨g, off, none⟩ = some (.slice b0 c c0)) (by kernel_rfl) (by kernel_rfl) rfl (by intro c a d v w h; cases d <;> exact h) (HS.out _ (Below.drew (Below.refl _ _))) ?_
    iterate 7 (refine wpSeq_take (v := ?_) (List.getElem?_toArray.trans rfl) ?_ ?_; rotate_left; (intro w' hSw; (try dsimp only at hSw); go_simp; (try with_reducible rfl)); (try simp only [Act.put, List.setIfInBounds_toArray, List.set_cons_zero, List.set_cons_succ]))
    refine wpSeq_do (List.getElem?_toArray.trans rfl) (fun K hK => ?_)
    go_simp
    have hdr : Below W.heap.size W W.drew := Below.drew (Below.refl _ _)
    refine (HN.out _ hdr).mono ?_
    rintro e w6 ⟨u6, rfl, ⟨_, _, ua, ucap, rfl, hd⟩, hb6, hcapo⟩
    have hbb : Below W.heap.size W w6 := hdr.trans hb6
    refine hK _ _ (HS.out _ hbb) ?_
    clear hK K
    refine wpSeq_nil ?_
    simp only [Exit.then]
    rw [matF_len] at *
    rcases hd with hd | ⟨g2, off2, H, O, rfl, hm⟩
    · have := congrArg List.length hd
      rw [matF_len] at this
      simp at this; omega
    have hcapr : r ≤ ucap := hcapo
    have hdz := hdr.size
    have HF := Lib.hid (show OMat w6 w.heap.size g2 off2 H O (matF c (rkT p r E 0).1 r) ∧ Below w.heap.size w w6 from ⟨hm.base (by omega), HBW.out.trans (hbb.mono (by omega))⟩)
    obtain ⟨x1, x2⟩ := HS.out _ hbb
    clear hm hb6 hbb hdr hdz hcapo
    go_wp2_with fail
    apply wp_label
    go_wp2_with fail
    have HEND := Lib.hid (fun k (hk : (rkT p r E k).2 = r) (hkc : k ≤ c) => show rkV p M = (r : Int) from by
      have := rkT_full hk (c - k)
      rw [show k + (c - k) = c by omega] at this
      rw [HV.out, this])
    go_loopw [6, 25] (fun v6 i wr => ∃ (k : Nat) (H O : Nat → Nat), k ≤ c ∧ i = .int .i64 k ∧ v6 = .int .i64 ((rkT p r E k).2 : Nat) ∧ (rkT p r E k).2 < r ∧ OMat wr w.heap.size g2 off2 H O (matF c (rkT p r E k).1 r) ∧ Below w.heap.size w wr) (fun _ i _ => c - (intOf i).toNat)
    case atStart => exact ⟨0, H, O, by omega, rfl, rfl, by show 0 < r; omega, HF.out⟩
    case round =>
      clear HF x1 x2
      obtain ⟨k, H, O, hk, rfl, rfl, hq, hm, hb⟩ := hrel
      by_cases hlt : k < c
      · have hltp : (k : Int) < (c : Int) := by omega
        have hk0 : (0 : Int) ≤ (k : Int) := by omega
        have hfl := (HIN.out k).1
        have HNO := Lib.hid (fun (h : ∀ j, (rkT p r E k).2 ≤ j → j < r → (rkT p r E k).1 j k = 0) => rkT_none (p := p) h)
        have HYE := Lib.hid (fun a h1 h2 h3 h4 => rkT_some (p := p) (r := r) (k := k) (a := a) (E := E) h1 h2 h3 h4)
        have HIK := Lib.hid hfl
        have HEK := Lib.hid (fun h => HEND.out (k + 1) h (by omega))
        obtain ⟨F, hF⟩ : ∃ F, F = (rkT p r E k).1 := ⟨_, rfl⟩
        obtain ⟨q, hqe⟩ : ∃ q, q = (rkT p r E k).2 := ⟨_, rfl⟩
        rw [← hF, ← hqe] at HNO HYE
        rw [← hF] at hm HIK
        rw [← hqe] at hq ⊢
        have HQE := Lib.hid hqe
        have HFE := Lib.hid hF
        have HS := Lib.hid (And.intro hm hb)
        have HCE := Lib.hid (fun i (hi : i < r) => hm.cellF hi hc1)
        clear hfl hF hqe hm hb
        go_wp2_with fail
        go_loop [6, 8] (fun v6 i => ∃ n : Nat, q ≤ n ∧ n ≤ r ∧ i = .int .i64 n ∧ v6 = .int .i64 (q : Nat) ∧ ∀ j, q ≤ j → j < n → F j k = 0) (fun _ i => r - (intOf i).toNat)
        case atStart => exact ⟨q, Nat.le_refl _, by omega, rfl, rfl, fun j h1 h2 => by omega⟩
        case round =>
          obtain ⟨n, hqn, hnr, rfl, rfl, hz⟩ := hrel
          by_cases hln : n < r
          · have hlnp : (n : Int) < (r : Int) := by omega
            have hn0 : (0 : Int) ≤ (n : Int) := by omega
            obtain ⟨cn, n1, ⟨n2, n2c⟩, n3, n4, n5⟩ := HCE.out n hln
            have nk := (n5 k hlt).1
            obtain ⟨x, hx⟩ : ∃ x, x = F n k := ⟨_, rfl⟩
            rw [← hx] at nk
            by_cases hx0 : x = 0
            · have hxb : (x == 0) = true := by simp [hx0]
              have HZ := Lib.hid (show ∀ j, q ≤ j → j < n + 1 → F j k = 0 from fun j h1 h2 => by
                by_cases e : j = n
                · rw [e, ← hx, hx0]
                · exact hz j h1 (by omega))
              clear hz hx hx0 n5
              go_wp2_with fail
              go_round
              case rel => exact ⟨n + 1, by omega, by omega, by go_num, rfl, HZ.out⟩
              case measure => simp [intOf]; omega
            · have hxb : (x == 0) = false := by simp [hx0]
              have e := HYE.out n hqn hln (by rw [← hx]; exact hx0) hz
              obtain ⟨cq, m1, ⟨m2, m2c⟩, m3, m4, m5⟩ := HCE.out q hq
              have hdr : Below wr.heap.size wr wr.drew := Below.drew (Below.refl _ _)
              have hfz : ∀ i, i < r → wr.frozen? ⟨g2, off2 + i, none⟩ = false := fun i hi => HS.out.1.fz i (by rw [matF_len]; exact hi)
              obtain ⟨W3, hW3⟩ : ∃ W3, W3 = ((wr.setCell ⟨g2, off2 + q, none⟩ (.slice (some ⟨H n, O n, none⟩) c cn)).setCell ⟨g2, off2 + n, none⟩ (.slice (some ⟨H q, O q, none⟩) c cq)).drew := ⟨_, rfl⟩
              have h3 := (HS.out.1.swap hc1 hq hln m1 n1).below (Below.drew (Below.refl _ _))
              rw [← hW3] at h3
              have hb3 : Below w.heap.size w W3 := by
                rw [hW3]
                have hbg := HS.out.1.bg
                exact Below.drew ((HS.out.2.setCell hbg _).setCell hbg _)
              have HCL := Lib.hid (iClear p HPP.out g2 off2 ucap r c q k w.heap.size (fun i => H (sw q n i)) (fun i => O (sw q n i)) (swp F q n) W3 h3 hq hlt hr4 hc4 hcapr (HIK.out.swp hq hln))
              have HE := Lib.hid e
              have HB3 := Lib.hid hb3
              have f1 : wr.frozen? ⟨g2, off2 + q, none⟩ = false := hfz q hq
              have f2 : wr.frozen? ⟨g2, off2 + n, none⟩ = false := hfz n hln
              have hqp : (q : Int) < (r : Int) := by omega
              have hq0 : (0 : Int) ≤ (q : Int) := by omega
              have HSN := Lib.hid (show (wr.setCell ⟨g2, off2 + q, none⟩ (.slice (some ⟨H n, O n, none⟩) c cn)).cell? ⟨g2, off2 + n, none⟩ = some (.slice (some ⟨H n, O n, none⟩) c cn) from by
                by_cases e : n = q
                · subst e; exact World.cell?_setCell_same _ _ _ n1
                · rw [World.cell?_setCell_other _ _ _ _ (adr_ne (by omega))]; exact n1)
              have HFN := Lib.hid (show (wr.setCell ⟨g2, off2 + q, none⟩ (.slice (some ⟨H n, O n, none⟩) c cn)).frozen? ⟨g2, off2 + n, none⟩ = false from by rw [World.frozen?_setCell]; exact f2)
              have HW3 := Lib.hid hW3
              clear e h3 hb3 hW3 hz hx0 n5 m5 hfz hdr
              go_wp2_with fail
              refine wp_region_seq [(0, true), (1, true), (2, true), (3, true), (4, true), (5, true), (6, true), (7, true), (8, true), (9, true), (10, true), (11, false), (12, true), (13, false), (14, true)] (fun w' => w'.cell? ⟨g2, off2 + n, none⟩ = some (.slice (some ⟨H n, O n, none⟩) c cn)) (by kernel_rfl) (by kernel_rfl) rfl (by intro c a d v w h; cases d <;> exact h) (show wr.drew.cell? ⟨g2, off2 + n, none⟩ = _ from n1) ?_
              iterate 11 (refine wpSeq_take (v := ?_) (List.getElem?_toArray.trans rfl) ?_ ?_; rotate_left; (intro w' hSw; (try dsimp only at hSw); go_simp; (try with_reducible rfl)); (try simp only [Act.put, List.setIfInBounds_toArray, List.set_cons_zero, List.set_cons_succ]))
              refine wpSeq_do (List.getElem?_toArray.trans rfl) (fun K hK => ?_)
              go_simp
              refine hK _ _ (show wr.drew.cell? ⟨g2, off2 + n, none⟩ = _ from n1) ?_
              clear hK K
              (refine wpSeq_take (v := ?_) (List.getElem?_toArray.trans rfl) ?_ ?_; rotate_left; (intro w' hSw; (try dsimp only at hSw); go_simp; (try with_reducible rfl)); (try simp only [Act.put, List.setIfInBounds_toArray, List.set_cons_zero, List.set_cons_succ]))
              refine wpSeq_do (List.getElem?_toArray.trans rfl) (fun K hK => ?_)
              go_simp
              refine hK _ _ HSN.out ?_
              clear hK K
              (refine wpSeq_take (v := ?_) (List.getElem?_toArray.trans rfl) ?_ ?_; rotate_left; (intro w' hSw; (try dsimp only at hSw); go_simp; (try with_reducible rfl)); (try simp only [Act.put, List.setIfInBounds_toArray, List.set_cons_zero, List.set_cons_succ]))
              refine wpSeq_nil ?_
              simp only [Exit.then]
              obtain ⟨W2, hW2⟩ : ∃ W2, W2 = wr.setCell ⟨g2, off2 + q, none⟩ (.slice (some ⟨H n, O n, none⟩) c cn) := ⟨_, rfl⟩
              have hsn := HSN.out
              have hfn := HFN.out
              rw [← hW2] at hsn hfn HW3 ⊢
              clear hW2 m1 n1 f1 f2
              go_wp2_with fail
              rw [← HW3.out]
              refine HCL.out.mono ?_
              rintro e w5 ⟨rfl, hm5, hb5⟩
              have hq1 : (rkT p r E (k + 1)) = (clrF p (swp F q n) q k, q + 1) := HE.out
              have HF := Lib.hid (show OMat w5 w.heap.size g2 off2 (fun i => H (sw q n i)) (fun i => O (sw q n i)) (matF c (rkT p r E (k + 1)).1 r) ∧ Below w.heap.size w w5 ∧ (rkT p r E (k + 1)).2 = q + 1 from by
                rw [hq1]; exact ⟨hm5, HB3.out.trans (hb5.mono (by have := HB3.out.size; omega)), rfl⟩)
              clear hm5 hb5 hq1
              by_cases hend : q + 1 = r
              · have hbe : ((q : Int) + 1 == (r : Int)) = true := by simp; omega
                have HR := Lib.hid (HEK.out (by rw [HF.out.2.2]; exact hend))
                have hqr : (q : Int) + 1 = (r : Int) := by omega
                have HQR := Lib.hid hqr
                clear hend hqr
                go_wp2_with fail
                simp only [Exit.noGoto_ret]
                go_ret
                exact ⟨ret_int' (by rw [HR.out, ← HQR.out]), HF.out.2.1⟩
              · have hbe : ((q : Int) + 1 == (r : Int)) = false := by simp; omega
                have HQ1 := Lib.hid (show q + 1 < r by omega)
                clear hend
                go_wp2_with fail
                go_roundw
                case rel => exact ⟨k + 1, _, _, by omega, by go_num, by rw [HF.out.2.2]; go_num, by rw [HF.out.2.2]; exact HQ1.out, HF.out.1, HF.out.2.1⟩
                case measure => simp [intOf]; omega
          · have hnr2 : n = r := by omega
            have e := HNO.out (fun j h1 h2 => hz j h1 (by omega))
            have HF := Lib.hid (show (rkT p r E (k + 1)).2 < r ∧ OMat wr w.heap.size g2 off2 H O (matF c (rkT p r E (k + 1)).1 r) ∧ Below w.heap.size w wr ∧ q = (rkT p r E (k + 1)).2 from by
              rw [e, ← HQE.out, ← HFE.out]
              exact ⟨hq, HS.out.1, HS.out.2, rfl⟩)
            clear e hz
            go_wp2_with fail
            go_roundw
            case rel => exact ⟨k + 1, H, O, by omega, by go_num, by rw [HF.out.2.2.2], HF.out.1, HF.out.2.1, HF.out.2.2.1⟩
            case measure => simp [intOf]; omega
      · have hkc : k = c := by omega
        subst hkc
        have HF := Lib.hid hb
        clear hm hb
        go_wp2_with fail
        simp only [Exit.noGoto_ret]
        go_ret
        exact ⟨ret_int' HV.out.symm, HF.out⟩
end Go.Proofs.Ytgclbdpghlcgjaa
namespace Go.Proofs.Ytgclbdpghlcgjaa
set_option linter.unusedVariables false
open Go.RowKit
theorem sw_comm (a b i : Nat) : sw a b i = sw b a i := by
  unfold sw
  by_cases h1 : i = a
  · by_cases h2 : i = b
    · rw [if_pos h1, if_pos h2]; omega
    · rw [if_pos h1, if_neg h2, if_pos h1]
  · by_cases h2 : i = b
    · rw [if_neg h1, if_pos h2, if_pos h2]
    · rw [if_neg h1, if_neg h2, if_neg h2, if_neg h1]
theorem sw_r (a b : Nat) : sw a b b = a := by
  unfold sw; split
  · assumption
  · rw [if_pos rfl]
theorem swp_comm (F : Nat → Nat → Int) (a b i k : Nat) : swp F a b i k = swp F b a i k := by unfold swp; rw [sw_comm]
theorem RowsW.formM {w : World} {B : Nat} {v : Value} {M : List (List Int)} {V : List Value} {H : Nat → Nat} (h : RowsW w B v M V H) {c r : Nat} {F : Nat → Nat → Int} (e : M = matF c F r) (hr : 1 ≤ r) : ∃ g cap, v = .slice (some ⟨g, 0, none⟩) r cap ∧ OMat w B g 0 H (fun _ => 0) (matF c F r) := by
  rw [e] at h; exact h.formF hr
set_option maxHeartbeats 2000000 in
theorem sPivot (g off cap r c q k : Nat) (F : Nat → Nat → Int) (w : World) (hC : MatC w g off r c F) (hq : q ≤ r) (hk : k < c) (hr : r ≤ 4) (hc : c ≤ 4) :
    Calls Try.prog 83 #[.slice (some ⟨g, off, none⟩) r cap, .int .i64 q, .int .i64 k] w fun e w' => w = w' ∧
      ((∃ a : Nat, e = .returned (.int .i64 a) ∧ q ≤ a ∧ a < r ∧ F a k ≠ 0 ∧ ∀ j, q ≤ j → j < a → F j k = 0) ∨ (e = .returned (.int .i64 (-1)) ∧ ∀ j, q ≤ j → j < r → F j k = 0)) := by
  have HP := Lib.hid (fun i (hi : i < r) => hC.plc hi)
  have hkp : (k : Int) < (c : Int) := by omega
  have hk0 : (0 : Int) ≤ (k : Int) := by omega
  clear hC
  go_enter Try.func83, Try.ntmps83
  go_wp2_with fail
  go_loop [7] (fun i => ∃ n : Nat, q ≤ n ∧ n ≤ r ∧ i = .int .i64 n ∧ ∀ j, q ≤ j → j < n → F j k = 0) (fun i => r - (intOf i).toNat)
  case atStart => exact ⟨q, Nat.le_refl _, hq, rfl, fun j h1 h2 => by omega⟩
  case round =>
    obtain ⟨n, hqn, hnr, rfl, hz⟩ := hrel
    by_cases hlt : n < r
    · have hltp : (n : Int) < (r : Int) := by omega
      have hn0 : (0 : Int) ≤ (n : Int) := by omega
      obtain ⟨hh, ho, hcp, _, h1, h2⟩ := HP.out n hlt
      have h1 := h1 w (Below.refl _ _)
      have h2 := h2 w (Below.refl _ _) k hk
      obtain ⟨x, hx⟩ : ∃ x, x = F n k := ⟨_, rfl⟩
      rw [← hx] at h2
      by_cases hx0 : x = 0
      · have hxb : (x != 0) = false := by simp [hx0]
        have HZ := Lib.hid (show ∀ j, q ≤ j → j < n + 1 → F j k = 0 from fun j h1 h2 => by
          by_cases e : j = n
          · rw [e, ← hx, hx0]
          · exact hz j h1 (by omega))
        clear hz hx hx0
        go_wp2_with fail
        go_round
        case rel => exact ⟨n + 1, by omega, by omega, by go_num, HZ.out⟩
        case measure => simp [intOf]; omega
      · have hxb : (x != 0) = true := by simp [hx0]
        have HR := Lib.hid (show q ≤ n ∧ n < r ∧ F n k ≠ 0 ∧ ∀ j, q ≤ j → j < n → F j k = 0 from ⟨hqn, hlt, by rw [← hx]; exact hx0, hz⟩)
        clear hz hx hx0
        go_wp2_with fail
        go_ret
        exact ⟨rfl, .inl ⟨n, rfl, HR.out⟩⟩
    · have HR := Lib.hid (show ∀ j, q ≤ j → j < r → F j k = 0 from fun j h1 h2 => hz j h1 (by omega))
      clear hz
      go_wp2_with fail
      go_ret
      exact ⟨rfl, .inr ⟨rfl, HR.out⟩⟩
set_option maxRecDepth 100000 in
set_option maxHeartbeats 32000000 in
theorem sRank (p : Int) (v : Value) (M : List (List Int)) (w : World) (h : Mat w v M) :
    Calls Try.prog 30 #[.int .i64 p, v] w fun e w' => e = .returned (.int .i64 (rkV p M)) ∧ Below w.heap.size w w' := by
  have HMV := Lib.hid (sMV p v M w h)
  cases hB : matB p M
  · have HV := Lib.hid (show rkV p M = -1 by simp [rkV, hB])
    rw [hB] at HMV
    obtain ⟨_, _, a, cap, rfl, _⟩ := h
    clear hB
    go_enter Try.func30, Try.ntmps30
    go_wp2_with fail
    apply wp_scope_straight
    go_wp2_with fail
    refine HMV.out.mono ?_
    rintro e w' ⟨rfl, rfl⟩
    go_wp2_with fail
    simp only [Exit.noGoto_ret]
    go_ret
    exact ⟨ret_int' HV.out.symm, Below.refl _ _⟩
  · obtain ⟨i0, hi, hz0, hz1, hz2⟩ := info_parts infoIn
    obtain ⟨is, his, hs0, hs1, hs2⟩ := info_parts infoIS
    obtain ⟨r, c, hr, hr1, hr4, hc, hc1, hc4, hrow, hel, hMF⟩ := matB_side hB
    subst hr
    have hp := (matB_iff.1 hB).1
    have hpb := isP_bd hp
    have HV := Lib.hid (show rkV p M = ((rkT p M.length (el M) c).2 : Int) by simp [rkV, hB, hc])
    have HIN := Lib.hid (rkT_in (p := p) (r := M.length) (c := c) (E := el M) hpb.1 hel)
    obtain ⟨_, _, a, cap, rfl, h3⟩ := h
    have HD := Lib.hid h3
    have HR := Lib.hid (show ∀ i, i < M.length → 0 < (rowM M i).length ∧ (rowM M i).length ≤ 1000 from fun i hi => by rw [hrow i (by omega)]; omega)
    have hM : M.length ≤ 100 := by omega
    obtain ⟨g0, off0, hae, hg0, hc0⟩ := mat_row (cap := cap) (i := 0) h3 (by omega)
    obtain ⟨b00, c00, hh0, _⟩ := hc0 0 (by omega)
    rw [hc, Nat.add_zero] at hh0
    have HH0 := Lib.hid (fun w' (hb : Below w.heap.size w w') => show w'.cell? ⟨g0, off0, none⟩ = some (.slice b00 c c00) from by rw [hb.cell (p := ⟨g0, off0, none⟩) hg0]; exact hh0)
    subst hae
    have HMF := Lib.hid hMF
    have HPP := Lib.hid hp
    rw [hB] at HMV
    clear hB h3 hrow hel hMF hc0 hh0 hc hp
    have HS := Lib.hid (show RowsW (w.alloc (.cells #[] 32)) w.heap.size (.slice (some ⟨w.heap.size, 0, none⟩) 0 0) (M.take 0) [] (fun _ => 0) ∧ Below w.heap.size w (w.alloc (.cells #[] 32)) from
      ⟨RowsW.lit w _ (Nat.le_refl _), Below.alloc (Below.refl _ _) (Nat.le_refl _) _⟩)
    go_enter Try.func30, Try.ntmps30
    go_wp2_with fail
    apply wp_scope_straight
    go_wp2_with fail
    refine HMV.out.mono ?_
    rintro e w' ⟨rfl, rfl⟩
    go_wp2_with fail
    go_loopw [5, 23] (fun v i wr => ∃ (n : Nat) (V : List Value) (H : Nat → Nat), n ≤ M.length ∧ i = .int .i64 n ∧ RowsW wr w.heap.size v (M.take n) V H ∧ Below w.heap.size w wr) (fun _ i _ => M.length - (intOf i).toNat)
    case atStart => exact ⟨0, _, _, by omega, rfl, HS.out⟩
    case round =>
      clear HS
      obtain ⟨n, V, H, hn, rfl, hS, hb⟩ := hrel
      by_cases hlt : n < M.length
      · have hltp : (n : Int) < (M.length : Int) := by omega
        have hn0 : (0 : Int) ≤ (n : Int) := by omega
        rcases HD.out with h | ⟨g, off, hge, hg, hc⟩
        · rw [h] at hlt; simp at hlt
        injection hge with hge
        injection hge with e1 e2
        have e1 := e1.symm
        have e2 := e2.symm
        subst e1
        subst e2
        obtain ⟨u, hu, ⟨_, ua, uc, rfl, hd⟩, _⟩ := hc n hlt
        obtain ⟨hr1, hr2⟩ := HR.out n hlt
        rcases hd with hd | ⟨gg, oo, rfl, hgg, hcc⟩
        · rw [hd] at hr1; simp at hr1
        have hx : wr.cell? ⟨g, off + n, none⟩ = some (.slice (some ⟨gg, oo, none⟩) (rowM M n).length uc) := by rw [hb.cell (p := ⟨g, off + n, none⟩) hg]; exact hu
        have hVl : V.length ≤ 100 := by rw [hS.len, List.length_take]; omega
        have hwb : w.heap.size ≤ wr.heap.size := hb.size
        have HN := Lib.hid (show ∀ j u, ((rowM M n).map (Value.int .i64))[j]? = some u → (wr.alloc (Obj.cells #[] 3)).cell? ((⟨gg, oo, none⟩ : Addr).add j) = some u from by
          intro j u hj
          rw [List.getElem?_map] at hj
          cases hq : (rowM M n)[j]? with
          | none => rw [hq] at hj; cases hj
          | some q =>
            rw [hq] at hj
            have hjl : j < (rowM M n).length := by
              rcases Nat.lt_or_ge j (rowM M n).length with h | h
              · exact h
              · rw [List.getElem?_eq_none h] at hq; cases hq
            have hadd : (⟨gg, oo, none⟩ : Addr).add j = ⟨gg, oo + j, none⟩ := by unfold Addr.add; split <;> simp_all
            have hbb : Below w.heap.size w (wr.alloc (Obj.cells #[] 3)) := hb.alloc hwb _
            rw [hadd, hbb.cell (p := ⟨gg, oo + j, none⟩) hgg, hcc j hjl, List.getD_eq_getElem?_getD, hq]
            simpa using hj)
        have HO := Lib.hid (show ∀ u ∈ (rowM M n).map (Value.int .i64), u.oneCell' = true from by
          intro u hu
          obtain ⟨q, _, rfl⟩ := List.mem_map.1 hu
          rfl)
        have HE := Lib.hid (show (wr.alloc (Obj.cells #[] 3)).ownsRow wr.heap.size 3 1 (.slice (some ⟨wr.heap.size, 0, none⟩) 0 0) 0 [] from World.ownsRow_lit (size := 1) wr #[] 0 (Nat.le_refl _) (by unfold maxLen; omega) rfl)
        have HT := Lib.hid (take_snoc hlt)
        obtain ⟨R, hR⟩ : ∃ R, R = rowM M n := ⟨_, rfl⟩
        rw [← hR] at HN HO HT hr1 hr2 hx
        obtain ⟨m, hm⟩ : ∃ m, m = R.length := ⟨_, rfl⟩
        have HM := Lib.hid hm
        rw [← hm] at hr1 hr2 hx
        have HS := Lib.hid hS
        have HB := Lib.hid hb
        clear hu hc hcc hS hb hR hm hn
        go_wp2_with (at_builtin; refine wpList_append_lies _ rfl _ _ 32 rfl wr.heap.size 3 i0 (.int .i64 0) 1 8 Try.underlying32 hi hz0 hz1 hz2 rfl (by decide) _ _ _ rfl HE.out ⟨gg, oo, none⟩ m uc (R.map (Value.int .i64)) rfl (by rw [HM.out]; simp) HN.out HO.out (by omega) (by unfold maxLen; omega) (by omega) (by simp) _ rfl ?_)
        intro g5 c5 w5 hown5 hgrow5 hat5 hlt5
        have hb5 : Below wr.heap.size wr w5 := (Below.alloc (Below.refl wr.heap.size wr) (Nat.le_refl _) _).grown hgrow5 (by simp) (fun k hk => by
          have hk : wr.heap.size = k := by simpa [Value.ownBlock] using hk
          omega)
        have hg5 : wr.heap.size ≤ g5 := (hown5.lt g5 rfl).1
        have hc5 : m ≤ c5 := owns_cap hown5
        have HA5 := Lib.hid (show ArI w5 g5 R ∧ Below wr.heap.size wr w5 ∧ wr.heap.size ≤ g5 from ⟨ArI.own hown5 HM.out.symm, hb5, hg5⟩)
        have hs5 : wr.heap.size ≤ w5.heap.size := hb5.size
        have HRW := Lib.hid (fun o => ((HS.out.below hb5).below (w' := w5.alloc o) (Below.alloc (Below.refl _ _) (Nat.le_refl _) _)).row)
        clear hown5 hgrow5 hat5 hlt5 hb5 hg5 HE HN HO
        go_wp2_with (at_builtin; refine wpList_append_lies _ rfl _ _ 24 rfl w.heap.size 32 is (.slice none 0 0) 1 24 Try.underlying24 his hs0 hs1 hs2 rfl (by decide) _ _ _ rfl (HRW.out _) ⟨w5.heap.size, 0, none⟩ 1 1 [.slice (some ⟨g5, 0, none⟩) m c5] rfl rfl (by intro j u hj; match j, hj with | 0, hj => (simp at hj; subst hj; simp [Addr.add, go_sem])) (by intro u hu; simp at hu; subst hu; rfl) (by omega) (by unfold maxLen; omega) (by omega) (by simp; omega) _ rfl ?_)
        intro g8 c8 w8 hown8 hgrow8 hat8 hlt8
        have H8 := Lib.hid (HS.out.push HA5.out.2.1 HA5.out.1 (by rw [← HM.out]; exact hr2) (c9 := c5) (by rw [← HM.out]; exact hc5) hwb HA5.out.2.2 (Below.alloc (Below.refl w5.heap.size w5) (Nat.le_refl _) _) (by rw [← HM.out]; exact hown8) hgrow8 hat8 (by simp))
        rw [← HT.out, ← HM.out] at H8
        have HB8 := Lib.hid (HB.out.trans H8.out.2)
        clear hown8 hgrow8 hat8 hlt8 HRW HA5
        go_wp2_with fail
        go_roundw
        case rel => exact ⟨n + 1, _, _, by omega, by go_num, H8.out.1, HB8.out⟩
        case measure => simp [intOf]; omega
      · have hnr : n = M.length := by omega
        subst hnr
        rw [List.take_length] at hS
        obtain ⟨g2, cap2, rfl, hm0⟩ := hS.formM HMF.out hr1
        obtain ⟨r, hre⟩ : ∃ r, r = M.length := ⟨_, rfl⟩
        obtain ⟨E, hEe⟩ : ∃ E, E = el M := ⟨_, rfl⟩
        rw [← hre] at hr1 hr4 hm0 ⊢
        rw [← hEe] at hm0
        have HVV := Lib.hid (show rkV p M = ((rkT p r E c).2 : Int) from by rw [HV.out, hre, hEe])
        have HIN2 := Lib.hid (show ∀ k, InF p r c (rkT p r E k).1 ∧ (rkT p r E k).2 ≤ r from by rw [hre, hEe]; exact HIN.out)
        have HEND := Lib.hid (fun k (hk : (rkT p r E k).2 = r) (hkc : k ≤ c) => show rkV p M = (r : Int) from by
          have := rkT_full hk (c - k)
          rw [show k + (c - k) = c by omega] at this
          rw [HVV.out, this])
        have HF := Lib.hid (show OMat wr w.heap.size g2 0 H (fun _ => 0) (matF c (rkT p r E 0).1 r) ∧ Below w.heap.size w wr from ⟨hm0, hb⟩)
        have x1 := HH0.out wr hb
        have hrp : 0 < r := by omega
        have hrpi : (0 : Int) < (r : Int) := by omega
        clear hS hm0 hb hre hEe HIN HV HD HR HMF
        go_wp2_with fail
        apply wp_label
        go_wp2_with fail
        go_loopw [8, 38] (fun v8 i wr => ∃ (k : Nat) (H O : Nat → Nat), k ≤ c ∧ i = .int .i64 k ∧ v8 = .int .i64 ((rkT p r E k).2 : Nat) ∧ (rkT p r E k).2 < r ∧ OMat wr w.heap.size g2 0 H O (matF c (rkT p r E k).1 r) ∧ Below w.heap.size w wr) (fun _ i _ => c - (intOf i).toNat)
        case atStart => exact ⟨0, H, _, by omega, rfl, rfl, by show 0 < r; omega, HF.out⟩
        case round =>
          clear HF x1
          obtain ⟨k, H, O, hk, rfl, rfl, hq, hm, hb⟩ := hrel
          by_cases hlt : k < c
          · have hltp : (k : Int) < (c : Int) := by omega
            have hk0 : (0 : Int) ≤ (k : Int) := by omega
            have hfl := (HIN2.out k).1
            have HNO := Lib.hid (fun (h : ∀ j, (rkT p r E k).2 ≤ j → j < r → (rkT p r E k).1 j k = 0) => rkT_none (p := p) h)
            have HYE := Lib.hid (fun a h1 h2 h3 h4 => rkT_some (p := p) (r := r) (k := k) (a := a) (E := E) h1 h2 h3 h4)
            have HEK := Lib.hid (fun h => HEND.out (k + 1) h (by omega))
            obtain ⟨F, hF⟩ : ∃ F, F = (rkT p r E k).1 := ⟨_, rfl⟩
            obtain ⟨q, hqe⟩ : ∃ q, q = (rkT p r E k).2 := ⟨_, rfl⟩
            rw [← hF, ← hqe] at HNO HYE
            rw [← hF] at hm hfl
            rw [← hqe] at hq ⊢
            have HIK := Lib.hid hfl
            have HQE := Lib.hid hqe
            have HFE := Lib.hid hF
            have HS := Lib.hid (And.intro hm hb)
            have HPV := Lib.hid (sPivot g2 0 cap2 r c q k F wr (hm.matC hc1) (by omega) hlt hr4 hc4)
            clear hfl hF hqe hm hb
            go_wp2_with fail
            refine HPV.out.mono ?_
            rintro e w2 ⟨rfl, (⟨n, rfl, hqn, hln, hx0, hz⟩ | ⟨rfl, hz⟩)⟩
            · have e := HYE.out n hqn hln hx0 hz
              have hlnp : (n : Int) < (r : Int) := by omega
              have hn0 : (0 : Int) ≤ (n : Int) := by omega
              have hqp : (q : Int) < (r : Int) := by omega
              have hq0 : (0 : Int) ≤ (q : Int) := by omega
              have hnn : ¬ (n : Int) < 0 := by omega
              obtain ⟨cn, n1, ⟨n2, n2c⟩, n3, n4, n5⟩ := HS.out.1.cellF hln hc1
              obtain ⟨cq, m1, ⟨m2, m2c⟩, m3, m4, m5⟩ := HS.out.1.cellF hq hc1
              have fn := HS.out.1.fz n (by rw [matF_len]; exact hln)
              have fq := HS.out.1.fz q (by rw [matF_len]; exact hq)
              have h3 := HS.out.1.swap hc1 hln hq n1 m1
              rw [matF_ext (F := swp F q n) (fun i k _ _ => swp_comm F n q i k)] at h3
              rw [Nat.zero_add] at n1 m1 fn fq
              rw [Nat.zero_add, Nat.zero_add] at h3
              obtain ⟨W2, hW2⟩ : ∃ W2, W2 = wr.setCell ⟨g2, n, none⟩ (.slice (some ⟨H q, O q, none⟩) c cq) := ⟨_, rfl⟩
              obtain ⟨W3, hW3⟩ : ∃ W3, W3 = W2.setCell ⟨g2, q, none⟩ (.slice (some ⟨H n, O n, none⟩) c cn) := ⟨_, rfl⟩
              have hsn : ∃ y, W2.cell? ⟨g2, q, none⟩ = some y := by
                rw [hW2]
                by_cases e : q = n
                · subst e; exact ⟨_, World.cell?_setCell_same _ _ _ n1⟩
                · exact ⟨_, by rw [World.cell?_setCell_other _ _ _ _ (adr_ne (by omega))]; exact m1⟩
              obtain ⟨y0, hsn⟩ := hsn
              have hfn : W2.frozen? ⟨g2, q, none⟩ = false := by rw [hW2, World.frozen?_setCell]; exact fq
              rw [← hW2, ← hW3] at h3
              have hb3 : Below w.heap.size w W3 := by
                rw [hW3, hW2]
                have hbg := HS.out.1.bg
                exact (HS.out.2.setCell hbg _).setCell hbg _
              have hin3 := HIK.out.swp hq hln
              have hsr : sw n q q = n := sw_r n q
              obtain ⟨H', hH'⟩ : ∃ H', H' = (fun i => H (sw n q i)) := ⟨_, rfl⟩
              obtain ⟨O', hO'⟩ : ∃ O', O' = (fun i => O (sw n q i)) := ⟨_, rfl⟩
              rw [← hH', ← hO'] at h3
              have hHq : H' q = H n := by rw [hH']; simp only [hsr]
              have hOq : O' q = O n := by rw [hO']; simp only [hsr]
              have hswq : swp F q n q = F n := by funext j; unfold swp; rw [show sw q n q = n by unfold sw; rw [if_pos rfl]]
              obtain ⟨F', hF'⟩ : ∃ F', F' = swp F q n := ⟨_, rfl⟩
              rw [← hF'] at h3 hin3 e hswq
              obtain ⟨_, _, _, _, _, w35⟩ := h3.cellF hq hc1
              have hpk := (w35 k hlt).1
              rw [hHq, hOq, hswq] at hpk
              obtain ⟨x, hx⟩ : ∃ x, x = F n k := ⟨_, rfl⟩
              rw [← hx] at hpk
              have hxq : F' q k = x := by rw [hswq, hx]
              have hxb := hin3 q k hq hlt
              rw [hxq] at hxb
              have HINV := Lib.hid (sInvLoop p x HPP.out hxb.1 hxb.2 W3)
              have HIVE := Lib.hid (show (((invO p x).getD 0 : Nat) : Int) = ivE p (F' q k) from by rw [hxq]; rfl)
              have HIVB := Lib.hid (ivE_bd (p := p) (a := F' q k) HPP.out)
              have HE := Lib.hid e
              have HB3 := Lib.hid hb3
              have HI3 := Lib.hid hin3
              have H3 := Lib.hid (show OMat W3 w.heap.size g2 0 H' O' (matF c (clrP p F' q k (q + 1) 0) r) ∧ Below w.heap.size w W3 from ⟨by rw [matF_ext (fun a b _ _ => clrP_0)]; exact h3, hb3⟩)
              have HHQ := Lib.hid (And.intro hHq hOq)
              have HCP := Lib.hid n2c
              clear hz hx0 hx hxq hswq hF' hH' hO' hsr h3 hb3 hin3 w35 n5 m5 e hHq hOq hxb
              subst hW3
              subst hW2
              go_wp2_with fail
              refine HINV.out.mono ?_
              rintro e w4 ⟨rfl, rfl⟩
              obtain ⟨W3, hW3⟩ : ∃ W3, W3 = (wr.setCell ⟨g2, n, none⟩ (.slice (some ⟨H q, O q, none⟩) c cq)).setCell ⟨g2, q, none⟩ (.slice (some ⟨H n, O n, none⟩) c cn) := ⟨_, rfl⟩
              rw [← hW3] at H3 ⊢
              rw [HIVE.out]
              obtain ⟨iv, hiv⟩ : ∃ iv, iv = ivE p (F' q k) := ⟨_, rfl⟩
              rw [← hiv] at HIVB ⊢
              have HIV := Lib.hid hiv
              clear hW3 hpk hsn hfn fn fq n1 m1 HINV HB3 HIVE hiv
              have hwq : IntKind.i64.wrap ((q : Int) + 1) = (q : Int) + 1 := IntWalk.i64_in _ (by omega)
              go_wp2_with fail
              go_loopw [13] (fun v13 wr => ∃ i : Nat, q < i ∧ i ≤ r ∧ v13 = .int .i64 i ∧ OMat wr w.heap.size g2 0 H' O' (matF c (clrP p F' q k i 0) r) ∧ Below w.heap.size w wr) (fun v13 _ => r - (intOf v13).toNat)
              case atStart => exact ⟨q + 1, by omega, by omega, by go_num, H3.out⟩
              case round =>
                clear H3
                obtain ⟨i, hqi, hir, rfl, hm, hb⟩ := hrel
                by_cases hli : i < r
                · have hlip : (i : Int) < (r : Int) := by omega
                  have hi0 : (0 : Int) ≤ (i : Int) := by omega
                  obtain ⟨ci, i1, ⟨i2, i2c⟩, i3, i4, i5⟩ := hm.cellF hli hc1
                  have ik := (i5 k hlt).1
                  rw [clrP_row] at ik
                  have hxb := HI3.out i k hli hlt
                  obtain ⟨x0, hx0⟩ : ∃ x, x = F' i k := ⟨_, rfl⟩
                  rw [← hx0] at ik hxb
                  obtain ⟨iv0, iv1⟩ := HIVB.out
                  have hmb := mul_bd HPP.out hxb.1 hxb.2 iv0 iv1
                  obtain ⟨tm, htm⟩ : ∃ t, t = tmE p F' q k i := ⟨_, rfl⟩
                  have htm2 : tm = x0 * iv % p := by rw [htm, hx0, HIV.out]; rfl
                  have htb := emB2 HPP.out (x0 * iv)
                  rw [← htm2] at htb
                  have hpn : ¬ p = 0 := by omega
                  have hw1 : IntKind.i64.wrap (x0 * iv) = x0 * iv := IntWalk.i64_in _ (by omega)
                  have hw2 : (x0 * iv).tmod p = tm := by rw [htm2, Int.tmod_eq_emod_of_nonneg hmb.1]
                  have hw3 : IntKind.i64.wrap tm = tm := IntWalk.i64_in _ (by omega)
                  rw [Nat.zero_add] at i1
                  have HS4 := Lib.hid (show OMat wr w.heap.size g2 0 H' O' (matF c (clrP p F' q k i 0) r) ∧ Below w.heap.size w wr from ⟨hm, hb⟩)
                  have HTM := Lib.hid htm
                  have HTB := Lib.hid htb
                  clear hm hb i5 hx0 hxb hmb htm htm2 htb iv0 iv1
                  go_wp2_with fail
                  go_loopw [92] (fun v92 wr => ∃ j : Nat, j ≤ c ∧ v92 = .int .i64 j ∧ OMat wr w.heap.size g2 0 H' O' (matF c (clrP p F' q k i j) r) ∧ Below w.heap.size w wr) (fun v92 _ => c - (intOf v92).toNat)
                  case atStart => exact ⟨0, by omega, rfl, HS4.out⟩
                  case round =>
                    clear HS4 i1 ik
                    obtain ⟨j, hj, rfl, hm, hb⟩ := hrel
                    by_cases hlj : j < c
                    · have hljp : (j : Int) < (c : Int) := by omega
                      have hj0 : (0 : Int) ≤ (j : Int) := by omega
                      obtain ⟨ci2, k1, _, f3, f4, f5⟩ := hm.cellF hli hc1
                      obtain ⟨cpq, _, _, _, g4, g5⟩ := hm.cellF hq hc1
                      have s1 := (f5 j hlj).1
                      have s2 := (g5 j hlj).1
                      rw [clrP_at] at s1
                      rw [clrP_piv, HHQ.out.1, HHQ.out.2] at s2
                      rw [HHQ.out.1] at g4
                      have xb := HI3.out i j hli hlj
                      have yb := HI3.out q j hq hlj
                      have hgl := hm.gl
                      rw [Nat.zero_add] at k1
                      have HCL := Lib.hid (fun w' (hw : Below wr.heap.size wr w') => show w'.cell? ⟨g2, i, none⟩ = some (.slice (some ⟨H' i, O' i, none⟩) c ci2) ∧ w'.cell? ⟨H' i, O' i + j, none⟩ = some (.int .i64 (F' i j)) ∧ w'.cell? ⟨H n, O n + j, none⟩ = some (.int .i64 (F' q j)) from
                        ⟨by rw [hw.cell (p := ⟨g2, i, none⟩) hgl]; exact k1, by rw [hw.cell (p := ⟨H' i, O' i + j, none⟩) f4]; exact s1, by rw [hw.cell (p := ⟨H n, O n + j, none⟩) g4]; exact s2⟩)
                      have HF := Lib.hid (fun w' (hw : Below wr.heap.size wr w') => show OMat (w'.setCell ⟨H' i, O' i + j, none⟩ (.int .i64 ((F' i j - tmE p F' q k i * F' q j) % p))) w.heap.size g2 0 H' O' (matF c (clrP p F' q k i (j + 1)) r) ∧ Below w.heap.size w (w'.setCell ⟨H' i, O' i + j, none⟩ (.int .i64 ((F' i j - tmE p F' q k i * F' q j) % p))) from by
                        refine ⟨?_, (hb.trans (hw.mono hb.size)).setCell f3 _⟩
                        rw [← matF_ext (fun a b _ _ => clrP_upd (p := p) (F := F') (q := q) (col := k) (i := i) (j := j) (a := a) (b := b) hqi)]
                        exact (hm.below hw).setF hli hlj _)
                      have HFZ := Lib.hid (fun w' (hw : Below wr.heap.size wr w') => show w'.frozen? ⟨H' i, O' i + j, none⟩ = false from by rw [hw.frozen (p := ⟨H' i, O' i + j, none⟩) f4]; exact (f5 j hlj).2)
                      obtain ⟨x, hx⟩ : ∃ x, x = F' i j := ⟨_, rfl⟩
                      obtain ⟨y, hy⟩ : ∃ y, y = F' q j := ⟨_, rfl⟩
                      obtain ⟨z, hz⟩ : ∃ z, z = (F' i j - tmE p F' q k i * F' q j) % p := ⟨_, rfl⟩
                      rw [← hz] at HF
                      have hz2 : (x - tm * y) % p = z := by rw [hz, hx, hy, HTM.out]
                      rw [← hx] at HCL xb
                      rw [← hy] at HCL yb
                      have hmb := mul_bd HPP.out HTB.out.1 HTB.out.2 yb.1 yb.2
                      have hv1 : IntKind.i64.wrap (tm * y) = tm * y := IntWalk.i64_in _ (by omega)
                      have hv2 : IntKind.i64.wrap (x - tm * y) = x - tm * y := IntWalk.i64_in _ (by omega)
                      have HMD := Lib.hid (fun w => sMod p (x - tm * y) w HPP.out)
                      rw [hz2] at HMD
                      clear hm hb f5 g5 s1 s2 hx hy hz hz2 k1 hmb xb yb
                      go_wp2_with fail
                      refine wp_region_seq [(0, true), (1, true), (2, true), (3, true), (4, true), (5, true), (6, true), (7, true), (8, true), (9, true), (10, true), (11, true), (12, true), (13, true), (14, true), (15, true), (16, true), (17, true), (18, true), (19, true), (20, false), (21, true)] (fun w' => w'.cell? ⟨g2, i, none⟩ = some (.slice (some ⟨H' i, O' i, none⟩) c ci2) ∧ w'.cell? ⟨H' i, O' i + j, none⟩ = some (.int .i64 x) ∧ w'.cell? ⟨H n, O n + j, none⟩ = some (.int .i64 y)) (by kernel_rfl) (by kernel_rfl) rfl (by intro c a d v w h; cases d <;> exact h) (HCL.out _ (Below.drew (Below.refl _ _))) ?_
                      iterate 20 (refine wpSeq_take (v := ?_) (List.getElem?_toArray.trans rfl) ?_ ?_; rotate_left; (intro w' hSw; (try dsimp only at hSw); go_simp; (try with_reducible rfl)); (try simp only [Act.put, List.setIfInBounds_toArray, List.set_cons_zero, List.set_cons_succ]))
                      have hdr : Below wr.heap.size wr wr.drew := Below.drew (Below.refl _ _)
                      refine wpSeq_do (List.getElem?_toArray.trans rfl) (fun K hK => ?_)
                      go_simp
                      refine (HMD.out _).mono ?_
                      rintro e w6 ⟨rfl, rfl⟩
                      refine hK _ _ (HCL.out _ hdr) ?_
                      clear hK K
                      (refine wpSeq_take (v := ?_) (List.getElem?_toArray.trans rfl) ?_ ?_; rotate_left; (intro w' hSw; (try dsimp only at hSw); go_simp; (try with_reducible rfl)); (try simp only [Act.put, List.setIfInBounds_toArray, List.set_cons_zero, List.set_cons_succ]))
                      refine wpSeq_nil ?_
                      simp only [Exit.then]
                      have H7 := Lib.hid (HF.out wr.drew hdr)
                      have c7 := (HCL.out wr.drew hdr).2.1
                      have f7 := HFZ.out wr.drew hdr
                      clear hdr HCL HF HFZ HMD
                      go_wp2_with fail
                      go_roundw
                      case rel => exact ⟨j + 1, by omega, by go_num, H7.out⟩
                      case measure => simp [intOf]; omega
                    · have hjc : j = c := by omega
                      subst hjc
                      have HF := Lib.hid (show OMat wr w.heap.size g2 0 H' O' (matF j (clrP p F' q k (i + 1) 0) r) ∧ Below w.heap.size w wr from ⟨by rw [← matF_ext (fun a b _ hb => clrP_next hb)]; exact hm, hb⟩)
                      clear hm hb
                      have hwi : IntKind.i64.wrap ((i : Int) + 1) = (i : Int) + 1 := IntWalk.i64_in _ (by omega)
                      go_wp2_with fail
                      go_roundw
                      case rel => exact ⟨i + 1, by omega, by omega, by go_num, HF.out⟩
                      case measure => simp [intOf]; omega
                · have hirr : i = r := by omega
                  have HF := Lib.hid (show OMat wr w.heap.size g2 0 H' O' (matF c (rkT p r E (k + 1)).1 r) ∧ Below w.heap.size w wr ∧ (rkT p r E (k + 1)).2 = q + 1 from by
                    rw [HE.out]
                    refine ⟨?_, hb, rfl⟩
                    rw [← matF_ext (fun a b ha _ => clrP_end (p := p) (F := F') (q := q) (col := k) ha)]
                    rw [hirr] at hm; exact hm)
                  clear hm hb hirr
                  by_cases hend : q + 1 = r
                  · have hbe : ((q : Int) + 1 == (r : Int)) = true := by simp; omega
                    have HR2 := Lib.hid (HEK.out (by rw [HF.out.2.2]; exact hend))
                    have hqr : (q : Int) + 1 = (r : Int) := by omega
                    have HQR := Lib.hid hqr
                    clear hend hqr
                    go_wp2_with fail
                    simp only [Exit.noGoto_ret]
                    go_ret
                    exact ⟨ret_int' (by rw [HR2.out, ← HQR.out]), HF.out.2.1⟩
                  · have hbe : ((q : Int) + 1 == (r : Int)) = false := by simp; omega
                    have HQ1 := Lib.hid (show q + 1 < r by omega)
                    clear hend
                    go_wp2_with fail
                    go_roundw
                    case rel => exact ⟨k + 1, _, _, by omega, by go_num, by rw [HF.out.2.2]; go_num, by rw [HF.out.2.2]; exact HQ1.out, HF.out.1, HF.out.2.1⟩
                    case measure => simp [intOf]; omega
            · have e := HNO.out hz
              have hm1 : (-1 : Int) < 0 := by omega
              have HF := Lib.hid (show (rkT p r E (k + 1)).2 < r ∧ OMat wr w.heap.size g2 0 H O (matF c (rkT p r E (k + 1)).1 r) ∧ Below w.heap.size w wr ∧ q = (rkT p r E (k + 1)).2 from by
                rw [e, ← HQE.out, ← HFE.out]
                exact ⟨hq, HS.out.1, HS.out.2, rfl⟩)
              clear e hz
              go_wp2_with fail
              go_roundw
              case rel => exact ⟨k + 1, H, O, by omega, by go_num, by rw [HF.out.2.2.2], HF.out.1, HF.out.2.1, HF.out.2.2.1⟩
              case measure => simp [intOf]; omega
          · have hkc : k = c := by omega
            subst hkc
            have HF := Lib.hid hb
            clear hm hb
            go_wp2_with fail
            simp only [Exit.noGoto_ret]
            go_ret
            exact ⟨ret_int' HVV.out.symm, HF.out⟩
end Go.Proofs.Ytgclbdpghlcgjaa
namespace Go.Proofs.Ytgclbdpghlcgjaa
set_option linter.unusedVariables false
open Go.RowKit
set_option maxRecDepth 100000 in
set_option maxHeartbeats 8000000 in
theorem xRankOf_in (a0 : Int) (a1 : Option Addr) (L1 : List (List Int)) (c1 : Nat) (r0 : Int) (w : World) (h1 : Mat w (.slice a1 L1.length c1) L1) (hl : (L1.length + cnt L1) ≤ 1048576)
    (hS : ∀ f1, ∀ w, Mat w f1 L1 → Calls Try.prog 30 #[.int .i64 a0, f1] w fun e w' => e = .returned (.int .i64 r0) ∧ Below w.heap.size w w')
    (hI : ∀ f1, ∀ w, Mat w f1 L1 → Calls Try.prog 25 #[.int .i64 a0, f1] w fun e w' => e = .returned (.int .i64 r0) ∧ Below w.heap.size w w') :
    Calls Try.prog 14 #[.int .i64 a0, .slice a1 L1.length c1] w fun e w' => e = .returned (.bool true) ∧ Below w.heap.size w w' := by
  have m1 : (1048576 : Int) - ((L1.length : Int) + (cnt L1 : Int)) ≥ 0 := by omega
  have HS1 := Lib.hid (szM_at a1 L1 c1 (1048576) w h1 (by omega) (by omega) (by omega))
  have Q1 := Lib.hid h1
  have n1 : (L1.length : Int) ≤ 1048576 := by omega
  have nn1 : (cnt L1 : Int) ≤ 1048576 := by omega
  clear h1
  have HSP := Lib.hid hS
  have HIM := Lib.hid hI
  clear hS hI
  have bb0 : (r0 != r0) = false := by simp
  go_enter Try.func14, Try.ntmps14
  go_wp2_with fail
  refine HS1.out.mono ?_
  rintro e w' ⟨rfl, rfl⟩
  have B := Lib.hid (Below.refl w.heap.size w)
  go_wp2_with fail
  refine (toM _ L1 _ (Q1.out.below B.out)).mono ?_
  rintro e W1 ⟨s1, rfl, ho, hb⟩
  replace B := Lib.hid (B.out.trans (hb.mono B.out.size))
  clear hb
  have S1 := Lib.hid ho.mat
  clear ho
  go_wp2_with fail
  refine (HSP.out _ _ S1.out).mono ?_
  rintro e W2 ⟨rfl, hb⟩
  replace B := Lib.hid (B.out.trans (hb.mono B.out.size))
  replace S1 := Lib.hid (S1.out.below hb)
  clear hb
  clear S1
  go_wp2_with fail
  refine (toM _ L1 _ (Q1.out.below B.out)).mono ?_
  rintro e W3 ⟨x1, rfl, ho, hb⟩
  replace B := Lib.hid (B.out.trans (hb.mono B.out.size))
  clear hb
  have O1 := Lib.hid ho
  clear ho
  have Y1 := Lib.hid (Below.refl W3.heap.size W3)
  go_wp2_with fail
  refine (HIM.out _ _ (O1.out.mat.below Y1.out)).mono ?_
  rintro e W4 ⟨rfl, hb⟩
  replace B := Lib.hid (B.out.trans (hb.mono B.out.size))
  replace Y1 := Lib.hid (Y1.out.trans (hb.mono Y1.out.size))
  clear hb
  go_wp2_with fail
  refine (toM _ L1 _ (Q1.out.below B.out)).mono ?_
  rintro e W5 ⟨y1, rfl, ho, hb⟩
  replace B := Lib.hid (B.out.trans (hb.mono B.out.size))
  replace Y1 := Lib.hid (Y1.out.trans (hb.mono Y1.out.size))
  clear hb
  have S1 := Lib.hid ho.mat
  clear ho
  go_wp2_with fail
  refine (eqM x1 y1 L1 _ (O1.out.mat.below Y1.out) S1.out).mono ?_
  rintro e W6 ⟨rfl, hb⟩
  clear S1
  replace B := Lib.hid (B.out.trans (hb.mono B.out.size))
  replace Y1 := Lib.hid (Y1.out.trans (hb.mono Y1.out.size))
  clear hb
  go_wp2_with fail
  go_ret
  exact ⟨rfl, B.out⟩
set_option maxHeartbeats 1000000 in
theorem xRankOf_long0 (a0 : Int) (a1 : Option Addr) (n1 c1 : Nat) (L1 : List (List Int)) (w : World) (rr1 : RowM w a1 n1 L1) (h1 : 1048576 < (n1 + cnt L1)) (h2 : n1 ≤ 9223372036854775807) :
    Calls Try.prog 14 #[.int .i64 a0, .slice a1 n1 c1] w fun e w' => e = .returned (.bool true) ∧ Below w.heap.size w w' := by
  have HS1 := Lib.hid (szM_over a1 n1 c1 L1 (1048576) w rr1 (by omega) (by omega) (by omega))
  clear h1 h2
  go_enter Try.func14, Try.ntmps14
  go_wp2_with fail
  refine HS1.out.mono ?_
  rintro e w' ⟨rfl, rfl⟩
  go_wp2_with fail
  go_ret
  exact ⟨rfl, Below.refl _ _⟩

theorem xRankOf (a0 : Int) (a1 : Option Addr) (len1 c1 : Nat) (L1 : List (List Int)) (w : World) (h1 : RowM w a1 len1 L1) :
    Calls Try.prog 14 #[.int .i64 a0, .slice a1 len1 c1] w fun e w' => e = .returned (.bool true) ∧ Below w.heap.size w w' := by
  by_cases q1 : (len1 + cnt L1) ≤ 1048576
  · skip
    have e1 := h1.1
    subst e1
    exact xRankOf_in a0 a1 L1 c1 (rkV a0 L1) w (h1.mat (by omega)) (by omega) (fun f1 w k1 => sRank a0 f1 L1 w k1) (fun f1 w k1 => iRank a0 f1 L1 w k1)
  · exact xRankOf_long0 a0 a1 len1 c1 L1 w h1 (by omega) h1.2.1
end Go.Proofs.Ytgclbdpghlcgjaa
