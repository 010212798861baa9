/-
  The program's sum over all orders of the columns: isOdd and what the rounds add. Conditions: what the slices hold is known.
  sumOfProducts of the program: a range over the permutations. Conditions: the rows are those of a square matrix of elements.
-/
import Derived.Test.YtlcmddghppdmgaaBh12
import Derived.Test.YtlcmddghppdmgaaBh17
import Derived.Test.YtlcmddghppdmgaaBh14
namespace Go.Proofs.Ytlcmddghppdmgaa
set_option linter.unusedVariables false
open Go.RowKit
/-- how odd the order is, behind the first numbers -/
def odP (σ : List Int) : Nat → Bool
  | 0 => false
  | i + 1 => cntO (σ.getD i 0) (σ.drop (i + 1)) (odP σ i)
theorem odP_drop (σ : List Int) : ∀ i, i ≤ σ.length → oddL (σ.drop i) (odP σ i) = oddL σ false
  | 0, _ => rfl
  | i + 1, h => by
    rw [← odP_drop σ i (by omega)]
    have e : σ.drop i = σ.getD i 0 :: σ.drop (i + 1) := by
      rw [List.drop_eq_getElem_cons (by omega)]
      simp [List.getD_eq_getElem?_getD, show i < σ.length by omega]
    rw [e]
    rfl
theorem odP_all (σ : List Int) : odP σ σ.length = oddL σ false := by
  have := odP_drop σ σ.length (Nat.le_refl _)
  rw [List.drop_length] at this
  exact this
theorem cntO_snoc (a : Int) (l : List Int) (b : Int) (o : Bool) : cntO a (l ++ [b]) o = if b < a then !(cntO a l o) else cntO a l o := by
  simp [cntO]
theorem drop_getD (σ : List Int) (i j : Nat) : (σ.drop i).getD j 0 = σ.getD (i + j) 0 := by
  simp [List.getD_eq_getElem?_getD, List.getElem?_drop]
theorem take_snocI {l : List Int} {j : Nat} (h : j < l.length) : l.take (j + 1) = l.take j ++ [l.getD j 0] := by
  rw [List.take_succ_eq_append_getElem h]; simp [List.getD_eq_getElem?_getD, h]
set_option maxRecDepth 100000 in
set_option maxHeartbeats 4000000 in
theorem iOddS (g off cap : Nat) (σ : List Int) (w : World) (hl : σ.length ≤ 1000) (hk : σ.length ≤ cap) (hkm : (cap : Int) ≤ 9223372036854775807) (hc : ∀ j, j < σ.length → w.cell? ⟨g, off + j, none⟩ = some (.int .i64 (σ.getD j 0))) :
    Calls Try.prog 166 #[.slice (some ⟨g, off, none⟩) σ.length cap] w fun e w' => e = .returned (.bool (oddL σ false)) ∧ w = w' := by
  have HC := Lib.hid hc
  have HA := Lib.hid (odP_all σ)
  obtain ⟨m, hm⟩ : ∃ m, m = σ.length := ⟨_, rfl⟩
  have HM := Lib.hid hm
  rw [← hm] at hl hk HA ⊢
  clear hc hm
  go_enter Try.func166, Try.ntmps166
  go_wp2_with fail
  go_loopw [3, 10] (fun o i wr => ∃ k : Nat, k ≤ m ∧ i = .int .i64 k ∧ o = .bool (odP σ k) ∧ w = wr) (fun _ i _ => m - (intOf i).toNat)
  case atStart => exact ⟨0, by omega, rfl, rfl, rfl⟩
  case round =>
    obtain ⟨k, hkm2, rfl, rfl, rfl⟩ := hrel
    by_cases hlt : k < m
    · obtain ⟨r, hr⟩ : ∃ r, m = k + 1 + r := ⟨m - (k + 1), by omega⟩
      subst hr
      have hltp : (k : Int) < ((k + 1 + r : Nat) : Int) := by omega
      have hk0 : (0 : Int) ≤ (k : Int) := by omega
      have hx := HC.out k (by rw [← HM.out]; exact hlt)
      obtain ⟨x, hxe⟩ : ∃ x, x = σ.getD k 0 := ⟨_, rfl⟩
      have HX := Lib.hid hxe
      rw [← hxe] at hx
      have HND := Lib.hid (show odP σ (k + 1) = cntO (σ.getD k 0) (σ.drop (k + 1)) (odP σ k) from rfl)
      have HDL := Lib.hid (show (σ.drop (k + 1)).length = r by rw [List.length_drop, ← HM.out]; omega)
      obtain ⟨o, ho⟩ : ∃ o, o = odP σ k := ⟨_, rfl⟩
      rw [← ho, ← hxe] at HND
      rw [← ho]
      have hin1 : (k : Int) + 1 ≤ (cap : Int) := by omega
      have hin2 : k + 1 ≤ k + 1 + r := by omega
      have hin3 : (0 : Int) ≤ (k : Int) + 1 := by omega
      have hin4 : (k : Int) + 1 ≤ ((k + 1 + r : Nat) : Int) := by omega
      have htn : ((k : Int) + 1).toNat = k + 1 := by omega
      have hmk : ((k + 1 + r : Nat) : Int) ≤ (cap : Int) := by omega
      have hsub : k + 1 + r - (k + 1) = r := by omega
      clear hxe ho
      by_cases hr0 : r = 0
      · subst hr0
        have HF := Lib.hid (show odP σ (k + 1) = o by rw [HND.out, List.eq_nil_of_length_eq_zero HDL.out]; rfl)
        simp only [Nat.add_zero] at *
        by_cases hce : cap = k + 1
        · subst hce
          clear hin1 hin2 hin3 hin4 hmk hsub hk hltp
          have hin1 : (0 : Int) ≤ (k : Int) + 1 := by omega
          have hltp : (k : Int) < (k : Int) + 1 := by omega
          go_wp2_with fail
          go_loopw [3, 20] (fun o2 i2 wr => i2 = .int .i64 0 ∧ o2 = .bool o ∧ w = wr) (fun _ _ _ => 0)
          case atStart => exact ⟨rfl, rfl, rfl⟩
          case round =>
            obtain ⟨rfl, rfl, rfl⟩ := hrel
            go_wp2_with fail
            go_roundw
            case rel => exact ⟨k + 1, by omega, by go_num, by rw [HF.out], trivial⟩
            case measure => (simp [intOf]; try omega)
        · have hce2 : ¬ (k + 1 = cap) := fun e => hce e.symm
          go_wp2_with fail
          go_loopw [3, 20] (fun o2 i2 wr => i2 = .int .i64 0 ∧ o2 = .bool o ∧ w = wr) (fun _ _ _ => 0)
          case atStart => exact ⟨rfl, rfl, rfl⟩
          case round =>
            obtain ⟨rfl, rfl, rfl⟩ := hrel
            go_wp2_with fail
            go_roundw
            case rel => exact ⟨k + 1, by omega, by go_num, by rw [HF.out], trivial⟩
            case measure => (simp [intOf]; try omega)
      · have hce : ¬ (cap = k + 1) := by omega
        have hce2 : ¬ (k + 1 = cap) := by omega
        go_wp2_with fail
        go_loopw [3, 20] (fun o2 i2 wr => ∃ j : Nat, j ≤ r ∧ i2 = .int .i64 j ∧ o2 = .bool (cntO x ((σ.drop (k + 1)).take j) o) ∧ w = wr) (fun _ i2 _ => r - (intOf i2).toNat)
        case atStart => exact ⟨0, by omega, rfl, rfl, rfl⟩
        case round =>
          obtain ⟨j, hj, rfl, rfl, rfl⟩ := hrel
          by_cases hlj : j < r
          · have hljp : (j : Int) < (r : Int) := by omega
            have hj0 : (0 : Int) ≤ (j : Int) := by omega
            have hy := HC.out (k + 1 + j) (by rw [← HM.out]; omega)
            have HT := Lib.hid (take_snocI (l := σ.drop (k + 1)) (j := j) (by rw [HDL.out]; exact hlj))
            rw [drop_getD] at HT
            obtain ⟨y, hye⟩ : ∃ y, y = σ.getD (k + 1 + j) 0 := ⟨_, rfl⟩
            rw [← hye] at hy HT
            rw [← Nat.add_assoc] at hy
            have HSN := Lib.hid (cntO_snoc x ((σ.drop (k + 1)).take j) y o)
            rw [← HT.out] at HSN
            obtain ⟨q, hq⟩ : ∃ q, q = cntO x ((σ.drop (k + 1)).take j) o := ⟨_, rfl⟩
            rw [← hq] at HSN ⊢
            clear hye hq HT
            by_cases hyx : y < x
            · have hyx2 : x > y := hyx
              rw [if_pos hyx] at HSN
              go_wp2_with fail
              go_roundw
              case rel => exact ⟨j + 1, by omega, by go_num, by rw [HSN.out], trivial⟩
              case measure => simp [intOf]; omega
            · have hyx2 : ¬ x > y := hyx
              rw [if_neg hyx] at HSN
              go_wp2_with fail
              go_roundw
              case rel => exact ⟨j + 1, by omega, by go_num, by rw [HSN.out], trivial⟩
              case measure => simp [intOf]; omega
          · have hjr : j = r := by omega
            subst hjr
            rw [List.take_of_length_le (by rw [HDL.out]; exact Nat.le_refl _)]
            go_wp2_with fail
            go_roundw
            case rel => exact ⟨k + 1, by omega, by go_num, by rw [HND.out], trivial⟩
            case measure => simp [intOf]; omega
    · have hkl : k = m := by omega
      subst hkl
      go_wp2_with fail
      go_ret
      exact ⟨ret_bool2 HA.out, rfl⟩
theorem iOddN (w : World) : Calls Try.prog 166 #[.slice none 0 0] w fun e w' => e = .returned (.bool false) ∧ w = w' := by
  go_enter Try.func166, Try.ntmps166
  go_wp2_with fail
  go_loop [3, 10] (fun o i => i = .int .i64 0 ∧ o = .bool false) (fun _ _ => 0)
  case atStart => exact ⟨rfl, rfl⟩
  case round =>
    obtain ⟨rfl, rfl⟩ := hrel
    go_wp2_with fail
    go_ret
    exact ⟨rfl, rfl⟩
/-- the product over an order, reduced at each step -/
def prP (p : Int) (f : Nat → Nat → Int) : Nat → List Int → Int → Int
  | _, [], a => a
  | i, c :: l, a => prP p f (i + 1) l (a * f i c.toNat % p)
/-- the sum over orders, reduced at each step -/
def smP (p t : Int) (f : Nat → Nat → Int) : List (List Int) → Int → Int
  | [], s => s
  | σ :: S, s => smP p t f S ((s + prP p f 0 σ (if oddL σ false then t else 1)) % p)
theorem smP_snoc (p t : Int) (f : Nat → Nat → Int) (σ : List Int) : ∀ (S : List (List Int)) (s : Int), smP p t f (S ++ [σ]) s = (smP p t f S s + prP p f 0 σ (if oddL σ false then t else 1)) % p
  | [], s => rfl
  | τ :: S, s => smP_snoc p t f σ S _
theorem prP_snoc (p : Int) (f : Nat → Nat → Int) (c : Int) : ∀ (l : List Int) (i : Nat) (a : Int), prP p f i (l ++ [c]) a = prP p f i l a * f (i + l.length) c.toNat % p
  | [], i, a => by simp [prP]
  | d :: l, i, a => by
    show prP p f (i + 1) (l ++ [c]) _ = prP p f (i + 1) l _ * _ % p
    rw [prP_snoc p f c l (i + 1) _]
    simp; congr 3; omega
theorem prP_bd {p : Int} (hp : 2 ≤ p) (f : Nat → Nat → Int) : ∀ (l : List Int) (i : Nat) (a : Int), 0 ≤ a ∧ a < p → 0 ≤ prP p f i l a ∧ prP p f i l a < p
  | [], _, _, h => h
  | c :: l, i, a, h => prP_bd hp f l (i + 1) _ ⟨Int.emod_nonneg _ (by omega), Int.emod_lt_of_pos _ (by omega)⟩
theorem smP_bd {p : Int} (hp : 2 ≤ p) (t : Int) (f : Nat → Nat → Int) : ∀ (S : List (List Int)) (s : Int), 0 ≤ s ∧ s < p → 0 ≤ smP p t f S s ∧ smP p t f S s < p
  | [], _, h => h
  | σ :: S, s, h => smP_bd hp t f S _ ⟨Int.emod_nonneg _ (by omega), Int.emod_lt_of_pos _ (by omega)⟩
theorem prP_mod (p : Int) (f : Nat → Nat → Int) : ∀ (l : List Int) (i : Nat) (a : Int), prP p f i l a % p = (a * prodZ f i l) % p
  | [], i, a => by simp [prP, prodZ]
  | c :: l, i, a => by
    show prP p f (i + 1) l (a * f i c.toNat % p) % p = (a * (f i c.toNat * prodZ f (i + 1) l)) % p
    rw [prP_mod p f l (i + 1) _, Int.mul_emod, Int.emod_emod, ← Int.mul_emod, Int.mul_assoc]
theorem smP_mod (p t t2 : Int) (ht : t % p = t2 % p) (f : Nat → Nat → Int) : ∀ (S : List (List Int)) (s : Int), smP p t f S s % p = (s + sumZ t2 f S) % p
  | [], s => by simp [smP, sumZ]
  | σ :: S, s => by
    show smP p t f S _ % p = (s + ((if oddL σ false then t2 else 1) * prodZ f 0 σ + sumZ t2 f S)) % p
    rw [smP_mod p t t2 ht f S _]
    have e : prP p f 0 σ (if oddL σ false then t else 1) % p = ((if oddL σ false then t2 else 1) * prodZ f 0 σ) % p := by
      rw [prP_mod]
      cases oddL σ false
      · rfl
      · simp only [if_true]
        rw [Int.mul_emod, ht, ← Int.mul_emod]
    rw [Int.emod_add_emod, ← Int.add_assoc, Int.add_emod, Int.add_emod s, e, ← Int.add_emod s, ← Int.add_emod]
end Go.Proofs.Ytlcmddghppdmgaa
namespace Go.Proofs.Ytlcmddghppdmgaa
set_option linter.unusedVariables false
open Go.RowKit Go.Shelf
attribute [local go_sem] Oper.semAt_some
theorem mulV_el {p x y : Int} (hp : isP p = true) (hx : 0 ≤ x ∧ x < p) (hy : 0 ≤ y ∧ y < p) : mulV p x y = x * y % p := by
  unfold mulV; rw [if_pos (isE2_iff.2 ⟨hp, hx, hy⟩)]
theorem addV_el {p x y : Int} (hp : isP p = true) (hx : 0 ≤ x ∧ x < p) (hy : 0 ≤ y ∧ y < p) : addV p x y = (x + y) % p := by
  unfold addV; rw [if_pos (isE2_iff.2 ⟨hp, hx, hy⟩)]
set_option maxRecDepth 100000 in
set_option maxHeartbeats 4000000 in
theorem iSop (p t : Int) (hp : isP p = true) (ht : 0 ≤ t ∧ t < p) (g off n cap : Nat) (E : Nat → Nat → Int) (w : World) (hM : MatC w g off n n E) (hn1 : 1 ≤ n) (hn4 : n ≤ 4) (hE : ∀ i k, i < n → k < n → 0 ≤ E i k ∧ E i k < p) :
    Calls Try.prog 111 #[.slice (some ⟨g, off, none⟩) n cap, .int .i64 p, .int .i64 t] w fun e w' => e = .returned (.int .i64 (smP p t E (permsL n) 0)) ∧ Below w.heap.size w w' := by
  refine (callsIn_wide (n := 20)).1 ?_
  refine callsIn_of_wp_marks Try.func111 rfl trivial ?_ rfl
  simp only [Try.ntmps111, List.size_toArray, List.length_cons, List.length_nil, Nat.reduceAdd, Nat.reduceSub, Array.replicate_succ, Array.replicate_zero, List.push_toArray, List.append_toArray, List.nil_append, List.cons_append]
  gi_wp2_with fail
  refine ⟨trivial, ?_⟩
  refine (perm_val Fence.wide _ trivial rfl _ _).mono ?_
  rintro e w' ⟨rfl, rfl⟩
  gi_wp2_with fail
  obtain ⟨W2, hW2⟩ : ∃ W2, W2 = ((((w.alloc (Obj.cells #[.slice (some ⟨g, off, none⟩) n cap] 35)).alloc (Obj.cells #[.int .i64 p] 3)).alloc (Obj.cells #[.int .i64 t] 3)).alloc (Obj.cells #[.int .i64 0] 3)).alloc (Obj.cells #[.int .i64 n] 3) := ⟨_, rfl⟩
  rw [← hW2]
  have s2 : W2.heap.size = w.heap.size + 5 := by rw [hW2]; simp
  have bW : Below w.heap.size w W2 := by rw [hW2]; exact (by repeat (first | exact Below.refl _ _ | apply Below.drew | apply below_drewN | (refine Below.alloc ?_ (by first | omega | (simp <;> omega)) _)))
  have k0 : W2.cell? ⟨w.heap.size, 0, none⟩ = some (.slice (some ⟨g, off, none⟩) n cap) := by rw [hW2, World.cell?_alloc_past _ _ _ (by first | (simp; done) | (simp; omega)), World.cell?_alloc_past _ _ _ (by first | (simp; done) | (simp; omega)), World.cell?_alloc_past _ _ _ (by first | (simp; done) | (simp; omega)), World.cell?_alloc_past _ _ _ (by first | (simp; done) | (simp; omega))]; exact World.cell?_alloc_at _ _ _ _ rfl
  have k1 : W2.cell? ⟨w.heap.size + 1, 0, none⟩ = some (.int .i64 p) := by rw [hW2, World.cell?_alloc_past _ _ _ (by first | (simp; done) | (simp; omega)), World.cell?_alloc_past _ _ _ (by first | (simp; done) | (simp; omega)), World.cell?_alloc_past _ _ _ (by first | (simp; done) | (simp; omega))]; exact World.cell?_alloc_at _ _ _ _ (by simp)
  have k2 : W2.cell? ⟨w.heap.size + 1 + 1, 0, none⟩ = some (.int .i64 t) := by rw [hW2, World.cell?_alloc_past _ _ _ (by first | (simp; done) | (simp; omega)), World.cell?_alloc_past _ _ _ (by first | (simp; done) | (simp; omega))]; exact World.cell?_alloc_at _ _ _ _ (by simp)
  have k3 : W2.cell? ⟨w.heap.size + 1 + 1 + 1, 0, none⟩ = some (.int .i64 0) := by rw [hW2, World.cell?_alloc_past _ _ _ (by first | (simp; done) | (simp; omega))]; exact World.cell?_alloc_at _ _ _ _ (by simp)
  have f3 : W2.frozen? ⟨w.heap.size + 1 + 1 + 1, 0, none⟩ = false := by rw [hW2, World.frozen?_alloc_past _ _ _ (by first | (simp; done) | (simp; omega))]; exact World.frozen?_alloc_at _ _ _ _ (by simp)
  have k4 : W2.cell? ⟨w.heap.size + 1 + 1 + 1 + 1, 0, none⟩ = some (.int .i64 n) := by rw [hW2]; exact World.cell?_alloc_at _ _ _ _ (by simp)
  have HB := Lib.hid (fun (Wx : World) (hx : KpT (fun k => k = w.heap.size + 1 + 1 + 1) W2 Wx) => show (Wx.cell? ⟨w.heap.size, 0, none⟩ = some (.slice (some ⟨g, off, none⟩) n cap) ∧ Wx.cell? ⟨w.heap.size + 1, 0, none⟩ = some (.int .i64 p) ∧ Wx.cell? ⟨w.heap.size + 1 + 1, 0, none⟩ = some (.int .i64 t)) ∧ Below w.heap.size w Wx from
    ⟨⟨(cell_of_heap (p := ⟨w.heap.size, 0, none⟩) (hx.same _ (by show w.heap.size < _; omega) (by show ¬ w.heap.size = _; omega))).trans k0, (cell_of_heap (p := ⟨w.heap.size + 1, 0, none⟩) (hx.same _ (by show w.heap.size + 1 < _; omega) (by show ¬ w.heap.size + 1 = _; omega))).trans k1, (cell_of_heap (p := ⟨w.heap.size + 1 + 1, 0, none⟩) (hx.same _ (by show w.heap.size + 1 + 1 < _; omega) (by show ¬ w.heap.size + 1 + 1 = _; omega))).trans k2⟩,
      bW.trans (hx.below bW.size (fun k hk => by have : k = w.heap.size + 1 + 1 + 1 := hk; omega))⟩)
  have HM := Lib.hid hM
  have HE := Lib.hid hE
  have HP := Lib.hid hp
  have HT := Lib.hid ht
  have hpb := isP_bd hp
  clear hW2 bW k0 k1 k2 hM hE hp ht
  refine wpIn_rangeLists rfl (by omega) (gf := 173) (lb := #[.pointer (some ⟨w.heap.size + 1 + 1 + 1 + 1, 0, none⟩)]) rfl trivial (enters_of Try.func173 (by kernel_rfl) rfl)
    (perm_seq n hn4 (20 - 1) (w.heap.size + 1 + 1 + 1 + 1) W2 (by omega) (by omega) k4) rfl (fun k => k = w.heap.size + 1 + 1 + 1) (fun k hk => by have : k = w.heap.size + 1 + 1 + 1 := hk; omega) (fun k hk q => by have : k = w.heap.size + 1 + 1 + 1 := q; omega) (fun k hk => ⟨by omega, rfl⟩)
    (fun pre Wc => KpT (fun k => k = w.heap.size + 1 + 1 + 1) W2 Wc ∧ Wc.cell? ⟨w.heap.size + 1 + 1 + 1, 0, none⟩ = some (.int .i64 (smP p t E pre 0)) ∧ Wc.frozen? ⟨w.heap.size + 1 + 1 + 1, 0, none⟩ = false)
    (fun s A B hs hgr => ⟨hs.1.grow (Nat.le_refl _) hgr, hgr.cell hs.2.1, (hgr.frozen hs.2.1).trans hs.2.2⟩)
    ⟨KpT.refl _ _, k3, f3⟩
    (fun v => { tmps := #[.slice (some ⟨g, off, none⟩) n cap, .int .i64 p, .int .i64 t, .pointer (some ⟨w.heap.size, 0, none⟩), .pointer (some ⟨w.heap.size + 1, 0, none⟩), .pointer (some ⟨w.heap.size + 1 + 1, 0, none⟩), .int .i64 0, .pointer (some ⟨w.heap.size + 1 + 1 + 1, 0, none⟩), v, undef, undef, undef, .slice (some ⟨g, off, none⟩) n cap, .int .i64 n, .func (.func 173) #[] #[.pointer (some ⟨w.heap.size + 1 + 1 + 1 + 1, 0, none⟩)], v, undef, undef, undef, undef, undef, undef, undef, undef, undef, undef, undef, undef, undef, undef, undef, undef, undef, undef, undef, undef, undef, undef, undef, undef, undef, undef], defers := [] })
    ?assign ?body ?done
  case assign =>
    intro l2 v Wc K hK
    gi_wp2
    exact hK
  case done =>
    rintro D Wc hD ⟨q1, q2, q3⟩ hKD
    have hBl := (HB.out Wc q1).2
    simp only [Exit.inBlock, Exit.then]
    rename_i Q' K hcont
    refine hcont _ _ ?_
    refine wpIn_wide.2 ?_
    go_wp2_with fail
    refine ⟨by simp, .inl ⟨_, _, rfl, run_takeDeferred hKD, ?_⟩⟩
    exact ⟨_, results_tmp rfl _ _ _, rfl, hBl.trans (belowK_b (w := w) (Nat.le_refl _) _ D _ _ (by omega) hKD rfl rfl)⟩
  case body =>
    rintro l2 pre σ v Wc ⟨q1, q2, q3⟩ hv ⟨post, hS⟩
    have hmem : σ ∈ permsL n := by rw [hS]; simp
    have hσ : σ.length = n := permsL_len n σ hmem
    have HR := Lib.hid (permsL_rng n σ hmem)
    obtain ⟨hl, hv⟩ := hv
    rcases hv with ⟨hn, _⟩ | ⟨hn, gv, ov, cv, rfl, hBv, hgv, ⟨hkv, hkm⟩, hcv⟩
    · rw [hn] at hσ; simp at hσ; omega
    obtain ⟨⟨c0, c1, c2⟩, hBl⟩ := HB.out Wc q1
    have HCV := Lib.hid hcv
    have HQ1 := Lib.hid q1
    have HQ3 := Lib.hid (And.intro q2 q3)
    have HBL := Lib.hid hBl
    have hwc := hBl.size
    have hb3 : w.heap.size + 1 + 1 + 1 < Wc.heap.size := by have := q1.size; omega
    have hg1 := HM.out.1
    have HODD := Lib.hid (iOddS gv ov cv σ Wc (by omega) hkv hkm HCV.out)
    rw [hσ] at hkv HODD
    clear q1 q2 q3 hBl hS hmem
    gi_wp2_with fail
    refine ⟨trivial, ?_⟩
    refine (CallsIn.inRound l2 (callsIn_wide.2 HODD.out)).mono ?_
    rintro e w' ⟨rfl, rfl⟩
    obtain ⟨od, hod⟩ : ∃ od, od = oddL σ false := ⟨_, rfl⟩
    rw [← hod]
    obtain ⟨q, hq⟩ : ∃ q, q = if od then t else 1 := ⟨_, rfl⟩
    have HSN := Lib.hid (smP_snoc p t E σ pre 0)
    rw [← hod, ← hq] at HSN
    have hqb : 0 ≤ q ∧ q < p := by
      rw [hq]; cases od
      · exact ⟨by simp, by simp; omega⟩
      · exact HT.out
    have HQB := Lib.hid hqb
    have HPB := Lib.hid (fun k => prP_bd (p := p) (by omega) E (σ.take k) 0 q hqb)
    have HSB := Lib.hid (smP_bd (p := p) (by omega) t E pre 0 ⟨by omega, by omega⟩)
    clear hod hcv hqb
    cases od
    all_goals
      simp only [if_true, if_false, Bool.false_eq_true] at hq
      gi_wp2_with fail
      gi_loopw [9, 21] (fun f i wr => ∃ k : Nat, k ≤ n ∧ i = .int .i64 k ∧ f = .int .i64 (prP p E 0 (σ.take k) q) ∧ Below Wc.heap.size Wc wr) (fun _ i _ => n - (intOf i).toNat)
      case atStart => exact ⟨0, by omega, rfl, by rw [hq]; rfl, Below.refl _ _⟩
      case round =>
        obtain ⟨k, hk1, rfl, rfl, hbr⟩ := hrel
        by_cases hlt : k < n
        · have hltp : (k : Int) < (n : Int) := by omega
          have hk0 : (0 : Int) ≤ (k : Int) := by omega
          have hx := HCV.out k (by omega)
          have hxb := HR.out (σ.getD k 0) (by rw [List.getD_eq_getElem?_getD, List.getElem?_eq_getElem (by omega)]; simp)
          have HSP := Lib.hid (prP_snoc p E (σ.getD k 0) (σ.take k) 0 q)
          have htk : σ.take (k + 1) = σ.take k ++ [σ.getD k 0] := take_snocI (by omega)
          rw [← htk, List.length_take, Nat.min_eq_left (by omega), Nat.zero_add] at HSP
          obtain ⟨x, hxe⟩ : ∃ x, x = σ.getD k 0 := ⟨_, rfl⟩
          rw [← hxe] at hx hxb HSP
          obtain ⟨hx0, hxn⟩ := hxb
          obtain ⟨hh, o, cp, hp1, hp2, hp3⟩ := HM.out.2 k hlt
          obtain ⟨xn, hxn2⟩ : ∃ xn : Nat, xn = x.toNat := ⟨_, rfl⟩
          have hxx : x = (xn : Int) := by omega
          subst hxx
          have hxl : xn < n := by omega
          have HE1 := Lib.hid (HE.out k xn hlt hxl)
          have hp3 := hp3 xn hxl
          simp only [Int.toNat_natCast] at HSP
          obtain ⟨y, hy⟩ : ∃ y, y = E k xn := ⟨_, rfl⟩
          rw [← hy] at HSP HE1 hp3
          have HPK := Lib.hid (HPB.out k)
          obtain ⟨f, hf⟩ : ∃ f, f = prP p E 0 (σ.take k) q := ⟨_, rfl⟩
          rw [← hf] at HSP HPK ⊢
          have HW := Lib.hid (fun w' (hb : Below Wc.heap.size Wc w') => show w'.cell? ⟨w.heap.size + 1, 0, none⟩ = some (.int .i64 p) ∧ w'.cell? ⟨w.heap.size, 0, none⟩ = some (.slice (some ⟨g, off, none⟩) n cap) ∧ w'.cell? ⟨g, off + k, none⟩ = some (.slice (some ⟨hh, o, none⟩) n cp) ∧ w'.cell? ⟨hh, o + xn, none⟩ = some (.int .i64 y) from
            ⟨(hb.cell (p := ⟨w.heap.size + 1, 0, none⟩) (by show w.heap.size + 1 < _; omega)).trans c1, (hb.cell (p := ⟨w.heap.size, 0, none⟩) (by show w.heap.size < _; omega)).trans c0,
             (hb.cell (p := ⟨g, off + k, none⟩) (by show g < _; omega)).trans ((HBL.out.cell (p := ⟨g, off + k, none⟩) hg1).trans hp1), (hb.cell (p := ⟨hh, o + xn, none⟩) (by show hh < _; omega)).trans ((HBL.out.cell (p := ⟨hh, o + xn, none⟩) hp2.1).trans hp3)⟩)
          have hx2 : wr.cell? ⟨gv, ov + k, none⟩ = some (.int .i64 xn) := (hbr.cell (p := ⟨gv, ov + k, none⟩) hgv).trans hx
          have HBR := Lib.hid hbr
          clear hp1 hp2 hp3 hy hf hx hxe htk hxn2 hxn hbr c0 c1 c2
          gi_wp2_with fail
          rename_i KK hKK
          refine Go.wpIn_mono (Q := fun e a w => e = Exit.normal ∧ KK a w) ?_ (by rintro e a w ⟨rfl, h⟩; exact h)
          refine wpIn_region_seq_round [(0, true), (1, true), (2, true), (3, true), (4, true), (5, true), (6, true), (7, true), (8, true), (9, false)] (fun w' => w'.cell? ⟨w.heap.size + 1, 0, none⟩ = some (.int .i64 p) ∧ w'.cell? ⟨w.heap.size, 0, none⟩ = some (.slice (some ⟨g, off, none⟩) n cap) ∧ w'.cell? ⟨g, off + k, none⟩ = some (.slice (some ⟨hh, o, none⟩) n cp) ∧ w'.cell? ⟨hh, o + xn, none⟩ = some (.int .i64 y)) (by kernel_rfl) (by kernel_rfl) (by kernel_rfl) rfl (by rintro ⟨a, w, h, _⟩; cases h) (by rintro c a d v w ⟨h, _⟩; cases h) (HW.out _ (Below.drew HBR.out)) ?_
          iterate 9 (refine wpSeq_take (v := ?_) (List.getElem?_toArray.trans rfl) ?_ ?_; rotate_left; (intro w' hSw; (try dsimp only at hSw); go_simp; (try with_reducible rfl)); (try simp only [Act.put, List.setIfInBounds_toArray, List.set_cons_zero, List.set_cons_succ]))
          refine wpSeq_do (List.getElem?_toArray.trans rfl) (fun K hKk => ?_)
          go_simp
          refine (iMul p f y _).mono ?_
          rintro e w6 ⟨rfl, hb6⟩
          have hb7 : Below Wc.heap.size Wc w6 := (Below.drew HBR.out).trans (hb6.mono (by have := HBR.out.size; simpa using this))
          refine hKk _ _ (HW.out _ hb7) ?_
          clear hKk K
          refine wpSeq_nil ?_
          simp only [Exit.then]
          rw [mulV_el HP.out HPK.out HE1.out]
          have HB7 := Lib.hid hb7
          clear hb6 hb7
          go_wp2_with fail
          gi_wp2_with fail
          go_roundw
          case rel => exact ⟨k + 1, by omega, by go_num, by rw [HSP.out], HB7.out⟩
          case measure => simp [intOf]; omega
        · have hkl : k = n := by omega
          subst hkl
          rw [List.take_of_length_le (by omega)]
          have HFB := Lib.hid (HPB.out σ.length)
          rw [List.take_length] at HFB
          obtain ⟨f, hf⟩ : ∃ f, f = prP p E 0 σ q := ⟨_, rfl⟩
          rw [← hf] at HFB HSN ⊢
          obtain ⟨s, hs⟩ : ∃ s, s = smP p t E pre 0 := ⟨_, rfl⟩
          rw [← hs] at HSB HSN HQ3
          have d1 : wr.cell? ⟨w.heap.size + 1, 0, none⟩ = some (.int .i64 p) := (hbr.cell (p := ⟨w.heap.size + 1, 0, none⟩) (by show w.heap.size + 1 < _; omega)).trans c1
          have d3 : wr.cell? ⟨w.heap.size + 1 + 1 + 1, 0, none⟩ = some (.int .i64 s) := (hbr.cell (p := ⟨w.heap.size + 1 + 1 + 1, 0, none⟩) hb3).trans HQ3.out.1
          have f3 : wr.frozen? ⟨w.heap.size + 1 + 1 + 1, 0, none⟩ = false := (frozen_of_heap (p := ⟨w.heap.size + 1 + 1 + 1, 0, none⟩) (hbr.block _ hb3)).trans HQ3.out.2
          have HBR := Lib.hid hbr
          clear hbr c0 c1 c2 hf hs hq
          gi_wp2_with fail
          refine ⟨trivial, ?_⟩
          refine (CallsIn.inRound l2 (callsIn_wide.2 (iAdd p s f _))).mono ?_
          rintro e w7 ⟨rfl, hb7⟩
          rw [addV_el HP.out HSB.out HFB.out, ← HSN.out]
          have hb8 := HBR.out.trans (hb7.mono HBR.out.size)
          have e3 : w7.cell? ⟨w.heap.size + 1 + 1 + 1, 0, none⟩ = some (.int .i64 s) := (hb7.cell (p := ⟨w.heap.size + 1 + 1 + 1, 0, none⟩) (by have := HBR.out.size; show w.heap.size + 1 + 1 + 1 < _; omega)).trans d3
          have g3 : w7.frozen? ⟨w.heap.size + 1 + 1 + 1, 0, none⟩ = false := (frozen_of_heap (p := ⟨w.heap.size + 1 + 1 + 1, 0, none⟩) (hb7.block _ (by have := HBR.out.size; show w.heap.size + 1 + 1 + 1 < _; omega))).trans f3
          have HB8 := Lib.hid hb8
          have HK8 := Lib.hid ((KpT.of_below hb8 : KpT (fun k => k = w.heap.size + 1 + 1 + 1) Wc w7))
          clear hb7 hb8 d1 d3 f3
          gi_wp2_with fail
          exact ⟨⟨(HQ1.out.trans HK8.out).set rfl _, World.cell?_setCell_same _ _ _ e3, (World.frozen?_setCell _ _ _ _).trans g3⟩, HK8.out.set rfl _⟩
end Go.Proofs.Ytlcmddghppdmgaa
