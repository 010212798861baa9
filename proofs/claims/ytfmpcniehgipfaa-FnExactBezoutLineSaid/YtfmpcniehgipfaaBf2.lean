/-
  Plain mathematics of small prime fields: no Go in sight. Conditions: none.
  Lines of one unknown as lists of numbers: elements, sums and products. Mathematics alone. Conditions: none.
  Lines of one unknown: division and common divisors. Mathematics alone. Conditions: none.
  Lines of one unknown: what a division keeps, step by step. Mathematics alone. Conditions: none.
  Lines of one unknown: values, and that few values tell the line. Mathematics alone. Conditions: none.
  Lines of one unknown: the line through points, as the program and as the model make it. Mathematics alone. Conditions: none.
-/
import Derived.Below
import Derived.Test.YtfmpcniehgipfaaBf1
namespace Go.Proofs.Ytfmpcniehgipfaa
/-- the primes of the document -/
def isP (p : Int) : Bool := p == 2 || p == 3 || p == 5 || p == 7 || p == 11 || p == 13
theorem isP_cases {p : Int} (h : isP p = true) : p = 2 ∨ p = 3 ∨ p = 5 ∨ p = 7 ∨ p = 11 ∨ p = 13 := by
  simpa [isP, or_assoc] using h
theorem isP_bd {p : Int} (h : isP p = true) : 2 ≤ p ∧ p ≤ 13 := by
  have := isP_cases h; omega
theorem isP_no {p : Int} (h : isP p = false) : (p == 2) = false ∧ (p == 3) = false ∧ (p == 5) = false ∧ (p == 7) = false ∧ (p == 11) = false ∧ (p == 13) = false := by
  simpa [isP, and_assoc] using h
/-- an element of the field -/
def isE (p a : Int) : Bool := decide (0 ≤ a) && decide (a < p)
theorem isE_iff {p a : Int} : isE p a = true ↔ 0 ≤ a ∧ a < p := by simp [isE]
theorem isE_no {p a : Int} (h : isE p a = false) : a < 0 ∨ (0 ≤ a ∧ p ≤ a) := by
  have : ¬ (0 ≤ a ∧ a < p) := by rw [← isE_iff]; simp [h]
  omega
theorem tmod_bd (n p : Int) (h : 0 < p) : - p < n.tmod p ∧ n.tmod p < p := by
  have h1 := Int.tmod_lt_of_pos n h
  have h2 : -p < n.tmod p := by
    by_cases h0 : 0 ≤ n
    · have := Int.tmod_nonneg p h0; omega
    · have h3 := Int.tmod_lt_of_pos (-n) h
      rw [Int.neg_tmod] at h3; omega
  exact ⟨h2, h1⟩
theorem tmod_add_mod (n p : Int) (_ : 0 < p) : (n.tmod p + p) % p = n % p := by
  rw [Int.add_emod_right]
  have h1 := Int.mul_tdiv_add_tmod n p
  conv => rhs; rw [← h1]
  rw [Int.add_comm, Int.add_mul_emod_self_left]
end Go.Proofs.Ytfmpcniehgipfaa
namespace Go.Proofs.Ytfmpcniehgipfaa
set_option linter.unusedVariables false
/-- the element before a power -/
def cf (L : List Int) (k : Nat) : Int := L.getD k 0
theorem cf_ge {L : List Int} {k : Nat} (h : L.length ≤ k) : cf L k = 0 := by
  unfold cf; rw [List.getD_eq_getElem?_getD, List.getElem?_eq_none h]; rfl
theorem cf_nil (k : Nat) : cf [] k = 0 := cf_ge (Nat.zero_le _)
theorem cf_cons0 (a : Int) (r : List Int) : cf (a :: r) 0 = a := rfl
theorem cf_succ (a : Int) (r : List Int) (k : Nat) : cf (a :: r) (k + 1) = cf r k := rfl
/-- the first n values of a function -/
def lsU (n : Nat) (c : Nat → Int) : List Int := (List.range n).map c
theorem lsU_len (n : Nat) (c : Nat → Int) : (lsU n c).length = n := by simp [lsU]
theorem lsU_cf {n : Nat} {c : Nat → Int} {k : Nat} (h : k < n) : cf (lsU n c) k = c k := by simp [cf, lsU, h]
theorem lsU_cf' (n : Nat) (c : Nat → Int) (k : Nat) : cf (lsU n c) k = if k < n then c k else 0 := by
  split
  · rename_i h; exact lsU_cf h
  · rename_i h; exact cf_ge (by rw [lsU_len]; omega)
theorem cf_ext {A B : List Int} (hl : A.length = B.length) (h : ∀ k, k < A.length → cf A k = cf B k) : A = B := by
  apply List.ext_getElem hl
  intro j h1 h2
  have := h j h1
  simpa [cf, h1, h2] using this
theorem lsU_of (L : List Int) : lsU L.length (cf L) = L := cf_ext (lsU_len _ _) (fun k hk => lsU_cf (by rwa [lsU_len] at hk))
theorem lsU_ext {n : Nat} {c d : Nat → Int} (h : ∀ k, k < n → c k = d k) : lsU n c = lsU n d :=
  cf_ext (by rw [lsU_len, lsU_len]) (fun k hk => by rw [lsU_len] at hk; rw [lsU_cf hk, lsU_cf hk, h k hk])
theorem lsU_snoc (n : Nat) (c : Nat → Int) : lsU (n + 1) c = lsU n c ++ [c n] := by simp [lsU, List.range_succ]
theorem cf_set (L : List Int) (j : Nat) (y : Int) (k : Nat) (h : j < L.length) : cf (L.set j y) k = if k = j then y else cf L k := by
  unfold cf
  rw [List.getD_eq_getElem?_getD, List.getElem?_set]
  by_cases e : j = k
  · subst e; rw [if_pos rfl, if_pos rfl, if_pos h]; rfl
  · rw [if_neg e, if_neg (fun q => e q.symm), List.getD_eq_getElem?_getD]
theorem lsU_set {n : Nat} {c d : Nat → Int} {j : Nat} {y : Int} (hj : j < n) (h : ∀ k, k < n → d k = if k = j then y else c k) : (lsU n c).set j y = lsU n d := by
  refine cf_ext (by rw [List.length_set, lsU_len, lsU_len]) (fun k hk => ?_)
  rw [List.length_set, lsU_len] at hk
  rw [cf_set _ _ _ _ (by rw [lsU_len]; exact hj), lsU_cf hk, lsU_cf hk, h k hk]
/-- the last element is not 0 -/
def Can (L : List Int) : Prop := L.length = 0 ∨ cf L (L.length - 1) ≠ 0
/-- all are elements -/
def AllE (p : Int) (L : List Int) : Prop := ∀ k, 0 ≤ cf L k ∧ cf L k < p
theorem Can.nil : Can [] := .inl rfl
theorem can_ext {A B : List Int} (hA : Can A) (hB : Can B) (h : ∀ k, cf A k = cf B k) : A = B := by
  refine cf_ext ?_ (fun k _ => h k)
  rcases Nat.lt_trichotomy A.length B.length with hl | hl | hl
  · exfalso
    rcases hB with hB | hB
    · omega
    · exact hB (by rw [← h]; exact cf_ge (by omega))
  · exact hl
  · exfalso
    rcases hA with hA | hA
    · omega
    · exact hA (by rw [h]; exact cf_ge (by omega))
theorem allE_of {p : Int} (hp : 0 < p) {L : List Int} (h : L.all (isE p) = true) : AllE p L := by
  intro k
  by_cases hk : k < L.length
  · have := List.all_eq_true.1 h L[k] (List.getElem_mem hk)
    rw [isE_iff] at this
    simpa [cf, hk] using this
  · rw [cf_ge (by omega)]; omega
theorem all_of {p : Int} {L : List Int} (h : AllE p L) : L.all (isE p) = true := by
  rw [List.all_eq_true]
  intro x hx
  obtain ⟨k, hk, rfl⟩ := List.mem_iff_getElem.1 hx
  rw [isE_iff]
  simpa [cf, hk] using h k
theorem allE_lst {p : Int} (hp : 0 < p) {n : Nat} {c : Nat → Int} (h : ∀ k, k < n → 0 ≤ c k ∧ c k < p) : AllE p (lsU n c) := by
  intro k
  rw [lsU_cf']
  split
  · rename_i hk; exact h k hk
  · omega
/-- the zeros at the end fall away -/
def trimL : List Int → List Int
  | [] => []
  | a :: r => if trimL r = [] ∧ a = 0 then [] else a :: trimL r
theorem trim_cf : ∀ (L : List Int) (k : Nat), cf (trimL L) k = cf L k
  | [], _ => rfl
  | a :: r, k => by
    unfold trimL
    split
    · rename_i h
      obtain ⟨h1, h2⟩ := h
      cases k with
      | zero => rw [cf_nil, cf_cons0, h2]
      | succ k => rw [cf_nil, cf_succ, ← trim_cf r k, h1, cf_nil]
    · cases k with
      | zero => rfl
      | succ k => rw [cf_succ, cf_succ, trim_cf r k]
theorem trim_can : ∀ L : List Int, Can (trimL L)
  | [] => .inl rfl
  | a :: r => by
    unfold trimL
    split
    · exact .inl rfl
    · rename_i h
      right
      rcases trim_can r with h2 | h2
      · have e : trimL r = [] := List.length_eq_zero_iff.1 h2
        rw [e]
        intro h3
        exact h ⟨e, h3⟩
      · cases e : trimL r with
        | nil => intro h3; exact h ⟨e, h3⟩
        | cons b s => rw [e] at h2; exact h2
theorem trim_len : ∀ L : List Int, (trimL L).length ≤ L.length
  | [] => Nat.le_refl _
  | a :: r => by
    unfold trimL
    split
    · simp
    · have := trim_len r; simp; omega
theorem trim_of {L : List Int} (h : Can L) : trimL L = L := can_ext (trim_can L) h (trim_cf L)
/-- what is left where the zeros from k on were cut off -/
theorem trim_take {L : List Int} {k : Nat} (hk : k ≤ L.length) (hz : ∀ j, k ≤ j → cf L j = 0) (he : k = 0 ∨ cf L (k - 1) ≠ 0) : L.take k = trimL L := by
  have hl : (L.take k).length = k := by simp; omega
  have hc : ∀ j, cf (L.take k) j = cf L j := by
    intro j
    by_cases h : j < k
    · simp [cf, List.getD_eq_getElem?_getD, h]
    · rw [cf_ge (by omega), hz j (by omega)]
  refine can_ext ?_ (trim_can L) (fun j => by rw [hc, trim_cf])
  rcases he with he | he
  · exact .inl (by omega)
  · right; rw [hl, hc]; exact he
theorem trim_allE {p : Int} {L : List Int} (h : AllE p L) : AllE p (trimL L) := fun k => by rw [trim_cf]; exact h k
/-- the length of a trimmed list where all from k on is 0 -/
theorem can_len {L : List Int} (h : Can L) {k : Nat} (hz : ∀ j, k ≤ j → cf L j = 0) : L.length ≤ k := by
  rcases h with h | h
  · omega
  · rcases Nat.lt_or_ge k L.length with hl | hl
    · exact absurd (hz _ (by omega)) h
    · exact hl
/-- products of functions as those of polynomials -/
def cvU : (Nat → Int) → (Nat → Int) → Nat → Int
  | c, h, 0 => c 0 * h 0
  | c, h, k + 1 => c 0 * h (k + 1) + cvU (fun i => c (i + 1)) h k
theorem cvU_addL : ∀ (k : Nat) (a b h : Nat → Int), cvU (fun i => a i + b i) h k = cvU a h k + cvU b h k
  | 0, a, b, h => by simp only [cvU]; grind
  | k + 1, a, b, h => by
    have := cvU_addL k (fun i => a (i + 1)) (fun i => b (i + 1)) h
    simp only [cvU] at this ⊢; grind
theorem cvU_mulL : ∀ (k : Nat) (t : Int) (a h : Nat → Int), cvU (fun i => t * a i) h k = t * cvU a h k
  | 0, t, a, h => by simp only [cvU]; grind
  | k + 1, t, a, h => by
    have := cvU_mulL k t (fun i => a (i + 1)) h
    simp only [cvU] at this ⊢; grind
theorem cvU_last : ∀ (k : Nat) (c h : Nat → Int), cvU c h (k + 1) = cvU c (fun i => h (i + 1)) k + c (k + 1) * h 0
  | 0, c, h => by simp only [cvU]
  | k + 1, c, h => by
    have := cvU_last k (fun i => c (i + 1)) h
    have e : cvU c h (k + 2) = c 0 * h (k + 2) + cvU (fun i => c (i + 1)) h (k + 1) := rfl
    have e2 : cvU c (fun i => h (i + 1)) (k + 1) = c 0 * h (k + 2) + cvU (fun i => c (i + 1)) (fun i => h (i + 1)) k := rfl
    rw [e, e2, this]; grind
theorem cvU_comm : ∀ (k : Nat) (c h : Nat → Int), cvU c h k = cvU h c k
  | 0, c, h => by simp only [cvU]; grind
  | k + 1, c, h => by
    have := cvU_comm k (fun i => c (i + 1)) h
    rw [cvU_last k h c]
    show c 0 * h (k + 1) + cvU (fun i => c (i + 1)) h k = _
    rw [this]; grind
theorem cvU_addR (k : Nat) (a b h : Nat → Int) : cvU h (fun i => a i + b i) k = cvU h a k + cvU h b k := by
  rw [cvU_comm, cvU_addL, cvU_comm k a, cvU_comm k b]
theorem cvU_mulR (k : Nat) (t : Int) (a h : Nat → Int) : cvU h (fun i => t * a i) k = t * cvU h a k := by
  rw [cvU_comm, cvU_mulL, cvU_comm k a]
theorem cvU_cg {p : Int} : ∀ (k : Nat) {a b c d : Nat → Int}, (∀ i, Cg p (a i) (b i)) → (∀ i, Cg p (c i) (d i)) → Cg p (cvU a c k) (cvU b d k)
  | 0, _, _, _, _, h, g => (h 0).mul (g 0)
  | k + 1, _, _, _, _, h, g => ((h 0).mul (g (k + 1))).add (cvU_cg k (fun i => h (i + 1)) g)
theorem cvU_ext : ∀ (k : Nat) {a b c d : Nat → Int}, (∀ i, i ≤ k → a i = b i) → (∀ i, i ≤ k → c i = d i) → cvU a c k = cvU b d k
  | 0, _, _, _, _, h, g => by simp only [cvU]; rw [h 0 (Nat.le_refl _), g 0 (Nat.le_refl _)]
  | k + 1, _, _, _, _, h, g => by
    simp only [cvU]
    rw [h 0 (Nat.zero_le _), g (k + 1) (Nat.le_refl _), cvU_ext k (fun i hi => h (i + 1) (by omega)) (fun i hi => g i (by omega))]
theorem cvU_assoc : ∀ (k : Nat) (a b c : Nat → Int), cvU (cvU a b) c k = cvU a (cvU b c) k
  | 0, a, b, c => by simp only [cvU]; grind
  | k + 1, a, b, c => by
    have ih := cvU_assoc k (fun i => a (i + 1)) b c
    have e1 : cvU (cvU a b) c (k + 1) = (a 0 * b 0) * c (k + 1) + cvU (fun i => a 0 * b (i + 1) + cvU (fun i => a (i + 1)) b i) c k := rfl
    have e2 : cvU a (cvU b c) (k + 1) = a 0 * (b 0 * c (k + 1) + cvU (fun i => b (i + 1)) c k) + cvU (fun i => a (i + 1)) (cvU b c) k := rfl
    rw [e1, e2, cvU_addL, cvU_mulL, ← ih]
    show _ = _ + cvU (cvU (fun i => a (i + 1)) b) c k
    grind
theorem cvU_zeroL : ∀ (k : Nat) (h : Nat → Int), cvU (fun _ => 0) h k = 0
  | 0, h => by simp [cvU]
  | k + 1, h => by simp only [cvU]; rw [cvU_zeroL k h]; omega
theorem cvU_zeroR (k : Nat) (h : Nat → Int) : cvU h (fun _ => 0) k = 0 := by rw [cvU_comm]; exact cvU_zeroL k h
/-- the power 0 with 1 -/
def one0 (k : Nat) : Int := if k = 0 then 1 else 0
theorem cvU_one (k : Nat) (h : Nat → Int) : cvU one0 h k = h k := by
  cases k with
  | zero => simp [cvU, one0]
  | succ k =>
    show one0 0 * h (k + 1) + cvU (fun i => one0 (i + 1)) h k = _
    have : (fun i => one0 (i + 1)) = fun _ => 0 := by funext i; simp [one0]
    rw [this, cvU_zeroL]; simp [one0]
/-- where factors are 0 from some place on, the product is -/
theorem cvU_top : ∀ (m n : Nat) {a b : Nat → Int}, (∀ i, m ≤ i → a i = 0) → (∀ i, n ≤ i → b i = 0) → ∀ k, m + n ≤ k + 1 → cvU a b k = 0
  | 0, n, a, b, ha, hb, k, _ => by
    have : a = fun _ => 0 := by funext i; exact ha i (Nat.zero_le _)
    rw [this, cvU_zeroL]
  | m + 1, n, a, b, ha, hb, 0, h => by
    show a 0 * b 0 = 0
    rw [hb 0 (by omega)]; omega
  | m + 1, n, a, b, ha, hb, k + 1, h => by
    show a 0 * b (k + 1) + cvU (fun i => a (i + 1)) b k = 0
    rw [hb (k + 1) (by omega), cvU_top m n (fun i hi => ha (i + 1) (by omega)) hb k (by omega)]; omega
/-- the product of the last elements is the last element -/
theorem cvU_lead : ∀ (m n : Nat) {a b : Nat → Int}, (∀ i, m + 1 ≤ i → a i = 0) → (∀ i, n + 1 ≤ i → b i = 0) → cvU a b (m + n) = a m * b n
  | 0, n, a, b, ha, hb => by
    have : cvU a b (0 + n) = cvU (fun i => a 0 * one0 i) b (0 + n) := cvU_ext _ (fun i _ => by
      cases i with
      | zero => simp [one0]
      | succ i => rw [ha (i + 1) (by omega)]; simp [one0]) (fun _ _ => rfl)
    rw [this, cvU_mulL]
    show a 0 * cvU one0 b (0 + n) = _
    rw [cvU_one, Nat.zero_add]
  | m + 1, n, a, b, ha, hb => by
    rw [show m + 1 + n = (m + n) + 1 by omega]
    show a 0 * b (m + n + 1) + cvU (fun i => a (i + 1)) b (m + n) = _
    rw [hb (m + n + 1) (by omega), cvU_lead m n (fun i hi => ha (i + 1) (by omega)) hb]; omega
theorem cvU_ind : ∀ (i m : Nat) (t : Int) (g : Nat → Int), cvU (fun j => if j = i then t else 0) g m = if i ≤ m then t * g (m - i) else 0 := by
  intro i
  induction i with
  | zero =>
    intro m t g
    have : (fun j => if j = 0 then t else 0) = fun j => t * one0 j := by funext j; unfold one0; split <;> simp
    rw [this, cvU_mulL]
    show t * cvU one0 g m = _
    rw [cvU_one, if_pos (Nat.zero_le _), Nat.sub_zero]
  | succ i ih =>
    intro m t g
    cases m with
    | zero => simp [cvU]
    | succ m =>
      show (if 0 = i + 1 then t else 0) * g (m + 1) + cvU (fun j => if j + 1 = i + 1 then t else 0) g m = _
      have : (fun j => if j + 1 = i + 1 then t else 0) = fun j => if j = i then t else 0 := by funext j; by_cases h : j = i <;> simp [h]
      rw [this, ih, if_neg (by omega)]
      by_cases h : i ≤ m
      · rw [if_pos h, if_pos (by omega), show m + 1 - (i + 1) = m - i by omega]; omega
      · rw [if_neg h, if_neg (by omega)]; omega
/-- what one row of a product adds -/
def rowF (p : Int) (f g : List Int) (u : Nat → Int) (i k : Nat) (m : Nat) : Int := if i ≤ m ∧ m < i + k then (u m + cf f i * cf g (m - i)) % p else u m
theorem rowF_zero (p : Int) (f g : List Int) (u : Nat → Int) (i m : Nat) : rowF p f g u i 0 m = u m := by
  unfold rowF; rw [if_neg (by omega)]
theorem rowF_at (p : Int) (f g : List Int) (u : Nat → Int) (i k : Nat) : rowF p f g u i k (i + k) = u (i + k) := by
  unfold rowF; rw [if_neg (by omega)]
theorem rowF_step (p : Int) (f g : List Int) (u : Nat → Int) (i k m : Nat) :
    rowF p f g u i (k + 1) m = if m = i + k then (u (i + k) + cf f i * cf g k) % p else rowF p f g u i k m := by
  unfold rowF
  by_cases h : m = i + k
  · subst h
    rw [if_pos (by omega), if_pos rfl, Nat.add_sub_cancel_left]
  · rw [if_neg h]
    by_cases h2 : i ≤ m ∧ m < i + k
    · rw [if_pos h2, if_pos (by omega)]
    · rw [if_neg h2, if_neg (by omega)]
/-- the sums of a product behind some rows -/
def muU (p : Int) (f g : List Int) : Nat → Nat → Int
  | 0 => fun _ => 0
  | i + 1 => rowF p f g (muU p f g i) i g.length
theorem muU_bd {p : Int} (hp : 0 < p) (f g : List Int) : ∀ i m, 0 ≤ muU p f g i m ∧ muU p f g i m < p
  | 0, m => by show (0 : Int) ≤ 0 ∧ (0 : Int) < p; omega
  | i + 1, m => by
    show 0 ≤ rowF p f g _ i _ m ∧ rowF p f g _ i _ m < p
    unfold rowF
    split
    · exact ⟨Int.emod_nonneg _ (by omega), Int.emod_lt_of_pos _ hp⟩
    · exact muU_bd hp f g i m
theorem rowF_bd {p : Int} (hp : 0 < p) (f g : List Int) (i k m : Nat) : 0 ≤ rowF p f g (muU p f g i) i k m ∧ rowF p f g (muU p f g i) i k m < p := by
  unfold rowF
  split
  · exact ⟨Int.emod_nonneg _ (by omega), Int.emod_lt_of_pos _ hp⟩
  · exact muU_bd hp f g i m
theorem muU_far {p : Int} {f g : List Int} : ∀ {i m : Nat}, i + g.length ≤ m + 1 → muU p f g i m = 0
  | 0, m, _ => rfl
  | i + 1, m, h => by
    show rowF p f g _ i _ m = 0
    unfold rowF
    rw [if_neg (by omega)]
    exact muU_far (by omega)
/-- the first rows of f alone -/
theorem muU_cg (p : Int) (f g : List Int) : ∀ i m, Cg p (muU p f g i m) (cvU (fun j => if j < i then cf f j else 0) (cf g) m)
  | 0, m => by
    have : (fun j => if j < 0 then cf f j else 0) = fun _ : Nat => (0 : Int) := by funext j; rw [if_neg (by omega)]
    rw [this, cvU_zeroL]; exact Cg.refl _ _
  | i + 1, m => by
    have e : cvU (fun j => if j < i + 1 then cf f j else 0) (cf g) m = cvU (fun j => if j < i then cf f j else 0) (cf g) m + cvU (fun j => if j = i then cf f i else 0) (cf g) m := by
      rw [← cvU_addL]
      refine cvU_ext m (fun j _ => ?_) (fun _ _ => rfl)
      by_cases h1 : j < i
      · rw [if_pos (by omega), if_pos h1, if_neg (by omega)]; omega
      · by_cases h2 : j = i
        · subst h2; rw [if_pos (by omega), if_neg h1, if_pos rfl]; omega
        · rw [if_neg (by omega), if_neg h1, if_neg h2]; omega
    rw [e, cvU_ind]
    have ih := muU_cg p f g i m
    show Cg p (rowF p f g _ i _ m) _
    unfold rowF
    split
    · rename_i h
      rw [if_pos h.1]
      exact (Cg.mod _ _).trans (ih.add (Cg.refl _ _))
    · rename_i h
      by_cases h1 : i ≤ m
      · rw [if_pos h1, cf_ge (L := g) (by omega)]
        exact ih.trans (Cg.of_eq (by omega))
      · rw [if_neg h1]
        exact ih.trans (Cg.of_eq (by omega))
theorem muU_all (p : Int) (f g : List Int) (m : Nat) : Cg p (muU p f g f.length m) (cvU (cf f) (cf g) m) := by
  refine (muU_cg p f g f.length m).trans (Cg.of_eq (cvU_ext m (fun j _ => ?_) (fun _ _ => rfl)))
  by_cases h : j < f.length
  · rw [if_pos h]
  · rw [if_neg h, cf_ge (by omega)]
/-- the product of two lines -/
def mlU (p : Int) (f g : List Int) : List Int := if f.length = 0 ∨ g.length = 0 then [] else lsU (f.length + g.length - 1) (muU p f g f.length)
theorem mlU_cf {p : Int} {f g : List Int} (k : Nat) : cf (mlU p f g) k = muU p f g f.length k := by
  unfold mlU
  split
  · rename_i h
    rw [cf_nil]
    rcases h with h | h
    · rw [h]; rfl
    · have : ∀ i, muU p f g i k = 0 := by
        intro i
        induction i with
        | zero => rfl
        | succ i ih =>
          show rowF p f g _ i _ k = 0
          unfold rowF
          rw [if_neg (by omega)]; exact ih
      rw [this]
  · rw [lsU_cf']
    split
    · rfl
    · exact (muU_far (by omega)).symm
theorem mlU_cg {p : Int} (f g : List Int) (k : Nat) : Cg p (cf (mlU p f g) k) (cvU (cf f) (cf g) k) := by
  rw [mlU_cf]; exact muU_all p f g k
theorem mlU_allE {p : Int} (hp : 0 < p) (f g : List Int) : AllE p (mlU p f g) := fun k => by rw [mlU_cf]; exact muU_bd hp f g _ k
theorem mlU_len {p : Int} (f g : List Int) : (mlU p f g).length = if f.length = 0 ∨ g.length = 0 then 0 else f.length + g.length - 1 := by
  unfold mlU
  split
  · rfl
  · rw [lsU_len]
/-- a prime has no divisors of 0 -/
theorem no_zero {p a b : Int} (hp : isP p = true) (ha0 : 0 ≤ a) (ha1 : a < p) (hb0 : 0 ≤ b) (hb1 : b < p) (ha : a ≠ 0) (hb : b ≠ 0) : a * b % p ≠ 0 := by
  have key : ∀ q ∈ [2, 3, 5, 7, 11, 13], ∀ a, a < q → ∀ b, b < q → a ≠ 0 → b ≠ 0 → a * b % q ≠ 0 := by decide +kernel
  obtain ⟨q, rfl⟩ := Int.eq_ofNat_of_zero_le (show 0 ≤ p by omega)
  obtain ⟨a, rfl⟩ := Int.eq_ofNat_of_zero_le ha0
  obtain ⟨b, rfl⟩ := Int.eq_ofNat_of_zero_le hb0
  have hq : q ∈ [2, 3, 5, 7, 11, 13] := by
    have := isP_cases hp
    simp only [List.mem_cons, List.not_mem_nil, or_false]
    omega
  have := key q hq a (by omega) b (by omega) (by omega) (by omega)
  intro h
  apply this
  exact_mod_cast h
theorem mlU_can {p : Int} (hp : isP p = true) {f g : List Int} (hf : Can f) (hg : Can g) (ef : AllE p f) (eg : AllE p g) : Can (mlU p f g) := by
  have hp1 := (isP_bd hp).1
  rcases hf with hf | hf
  · left; rw [mlU_len, if_pos (.inl hf)]
  rcases hg with hg | hg
  · left; rw [mlU_len, if_pos (.inr hg)]
  have hf0 : 0 < f.length := by rcases Nat.eq_zero_or_pos f.length with h | h; · exact absurd (cf_ge (by omega)) hf
                                · exact h
  have hg0 : 0 < g.length := by rcases Nat.eq_zero_or_pos g.length with h | h; · exact absurd (cf_ge (by omega)) hg
                                · exact h
  right
  have hl : (mlU p f g).length - 1 = (f.length - 1) + (g.length - 1) := by rw [mlU_len, if_neg (by omega)]; omega
  rw [hl]
  intro h
  have h1 := (mlU_cg (p := p) f g (f.length - 1 + (g.length - 1))).symm
  rw [h, cvU_lead (f.length - 1) (g.length - 1) (fun i hi => cf_ge (by omega)) (fun i hi => cf_ge (by omega))] at h1
  have := h1.emod
  rw [Int.zero_emod] at this
  exact no_zero hp (ef _).1 (ef _).2 (eg _).1 (eg _).2 hf hg this
/-- the model's product -/
theorem mlU_trim {p : Int} (hp : isP p = true) {f g : List Int} (hf : Can f) (hg : Can g) (ef : AllE p f) (eg : AllE p g) {n : Nat} (hn : n = f.length + g.length) :
    trimL (lsU n (muU p f g f.length)) = mlU p f g := by
  refine can_ext (trim_can _) (mlU_can hp hf hg ef eg) (fun k => ?_)
  rw [trim_cf, mlU_cf, lsU_cf']
  split
  · rfl
  · exact (muU_far (by omega)).symm
end Go.Proofs.Ytfmpcniehgipfaa
namespace Go.Proofs.Ytfmpcniehgipfaa
set_option linter.unusedVariables false
theorem eq_of_cg {p : Int} {A B : List Int} (hA : Can A) (hB : Can B) (eA : AllE p A) (eB : AllE p B) (h : ∀ k, Cg p (cf A k) (cf B k)) : A = B :=
  can_ext hA hB (fun k => (h k).eq (eA k) (eB k))
theorem emod_bdU {p : Int} (hp : 0 < p) (a : Int) : 0 ≤ a % p ∧ a % p < p := ⟨Int.emod_nonneg _ (by omega), Int.emod_lt_of_pos _ hp⟩
/-- sum, difference, opposite, multiple -/
def addL (p : Int) (f g : List Int) : List Int := trimL (lsU (max f.length g.length) (fun k => (cf f k + cf g k) % p))
def subL (p : Int) (f g : List Int) : List Int := trimL (lsU (max f.length g.length) (fun k => (cf f k - cf g k) % p))
def negL (p : Int) (f : List Int) : List Int := lsU f.length (fun k => (-cf f k) % p)
def smuL (p : Int) (f : List Int) (a : Int) : List Int := trimL (lsU f.length (fun k => a * cf f k % p))
theorem addL_cf (p : Int) (f g : List Int) (k : Nat) : cf (addL p f g) k = (cf f k + cf g k) % p := by
  unfold addL
  rw [trim_cf, lsU_cf']
  split
  · rfl
  · rw [cf_ge (L := f) (by omega), cf_ge (L := g) (by omega)]; rfl
theorem subL_cf (p : Int) (f g : List Int) (k : Nat) : cf (subL p f g) k = (cf f k - cf g k) % p := by
  unfold subL
  rw [trim_cf, lsU_cf']
  split
  · rfl
  · rw [cf_ge (L := f) (by omega), cf_ge (L := g) (by omega)]; rfl
theorem negL_cf (p : Int) (f : List Int) (k : Nat) : cf (negL p f) k = (-cf f k) % p := by
  unfold negL
  rw [lsU_cf']
  split
  · rfl
  · rw [cf_ge (L := f) (by omega)]; rfl
theorem smuL_cf (p : Int) (f : List Int) (a : Int) (k : Nat) : cf (smuL p f a) k = a * cf f k % p := by
  unfold smuL
  rw [trim_cf, lsU_cf']
  split
  · rfl
  · rw [cf_ge (L := f) (by omega), Int.mul_zero]; rfl
theorem addL_can (p : Int) (f g : List Int) : Can (addL p f g) := trim_can _
theorem subL_can (p : Int) (f g : List Int) : Can (subL p f g) := trim_can _
theorem smuL_can (p : Int) (f : List Int) (a : Int) : Can (smuL p f a) := trim_can _
theorem addL_allE {p : Int} (hp : 0 < p) (f g : List Int) : AllE p (addL p f g) := fun k => by rw [addL_cf]; exact emod_bdU hp _
theorem subL_allE {p : Int} (hp : 0 < p) (f g : List Int) : AllE p (subL p f g) := fun k => by rw [subL_cf]; exact emod_bdU hp _
theorem negL_allE {p : Int} (hp : 0 < p) (f : List Int) : AllE p (negL p f) := fun k => by rw [negL_cf]; exact emod_bdU hp _
theorem smuL_allE {p : Int} (hp : 0 < p) (f : List Int) (a : Int) : AllE p (smuL p f a) := fun k => by rw [smuL_cf]; exact emod_bdU hp _
theorem negL_len (p : Int) (f : List Int) : (negL p f).length = f.length := lsU_len _ _
theorem addL_len (p : Int) (f g : List Int) : (addL p f g).length ≤ max f.length g.length := by
  unfold addL; have := trim_len (lsU (max f.length g.length) (fun k => (cf f k + cf g k) % p)); rwa [lsU_len] at this
theorem subL_len (p : Int) (f g : List Int) : (subL p f g).length ≤ max f.length g.length := by
  unfold subL; have := trim_len (lsU (max f.length g.length) (fun k => (cf f k - cf g k) % p)); rwa [lsU_len] at this
theorem smuL_len (p : Int) (f : List Int) (a : Int) : (smuL p f a).length ≤ f.length := by
  unfold smuL; have := trim_len (lsU f.length (fun k => a * cf f k % p)); rwa [lsU_len] at this
theorem addL_comm (p : Int) (f g : List Int) : addL p f g = addL p g f := by
  refine can_ext (addL_can _ _ _) (addL_can _ _ _) (fun k => ?_)
  rw [addL_cf, addL_cf, Int.add_comm]
theorem Cg.neg {p a b : Int} (h : Cg p a b) : Cg p (-a) (-b) := by
  obtain ⟨q, h⟩ := h
  exact ⟨-q, by grind⟩
theorem Cg.sub {p a b c d : Int} (h : Cg p a b) (k : Cg p c d) : Cg p (a - c) (b - d) := by
  have := h.add k.neg
  simpa [Int.sub_eq_add_neg] using this
theorem cvU_neg (k : Nat) (a h : Nat → Int) : cvU (fun i => -a i) h k = -cvU a h k := by
  have : (fun i => -a i) = fun i => (-1) * a i := by funext i; omega
  rw [this, cvU_mulL]; omega
/-- a combination less another one, as program and model make it -/
theorem without_eq {p : Int} (hp : 0 < p) (m n q : List Int) : addL p m (mlU p n (negL p q)) = subL p m (mlU p q n) := by
  refine eq_of_cg (addL_can _ _ _) (subL_can _ _ _) (addL_allE hp _ _) (subL_allE hp _ _) (fun k => ?_)
  rw [addL_cf, subL_cf]
  refine (Cg.mod _ _).trans (Cg.trans ?_ (Cg.mod _ _).symm)
  have h1 := mlU_cg (p := p) n (negL p q) k
  have h2 : Cg p (cvU (cf n) (cf (negL p q)) k) (-(cvU (cf q) (cf n) k)) := by
    rw [cvU_comm, ← cvU_neg]
    exact cvU_cg k (fun i => by rw [negL_cf]; exact Cg.mod _ _) (fun i => Cg.refl _ _)
  have h3 := (mlU_cg (p := p) q n k).neg
  have h4 := (Cg.refl p (cf m k)).add ((h1.trans h2).trans h3.symm)
  rwa [← Int.sub_eq_add_neg] at h4
theorem cf_one (a : Int) (k : Nat) : cf [a] k = a * one0 k := by
  cases k with
  | zero => simp [cf, one0]
  | succ k => simp [cf, one0]
/-- a line times one of the degree 0 -/
theorem smu_eq {p : Int} (hp : isP p = true) {f : List Int} {a : Int} (hf : Can f) (ef : AllE p f) (h0 : 0 < a) (h1 : a < p) : mlU p f [a] = smuL p f a := by
  have hp1 := (isP_bd hp).1
  have ea : AllE p [a] := by
    intro k
    cases k with
    | zero => rw [cf_cons0]; omega
    | succ k => rw [cf_succ, cf_nil]; omega
  refine eq_of_cg (mlU_can hp hf (.inr (by rw [show [a].length - 1 = 0 from rfl, cf_cons0]; omega)) ef ea) (smuL_can _ _ _) (mlU_allE (by omega) _ _) (smuL_allE (by omega) _ _) (fun k => ?_)
  rw [smuL_cf]
  refine (mlU_cg _ _ k).trans (Cg.trans (Cg.of_eq ?_) (Cg.mod _ _).symm)
  rw [cvU_comm, cvU_ext k (fun i _ => cf_one a i) (fun _ _ => rfl), cvU_mulL]
  show a * cvU one0 (cf f) k = _
  rw [cvU_one]
theorem mlU_nilL (p : Int) (g : List Int) : mlU p [] g = [] := by unfold mlU; rw [if_pos (.inl rfl)]
theorem mlU_nilR (p : Int) (g : List Int) : mlU p g [] = [] := by unfold mlU; rw [if_pos (.inr rfl)]
/-- a step of a division: g times an element and a power is taken away -/
def dvS (p : Int) (g : List Int) (t : Int) (c : Nat → Int) (i k : Nat) (j : Nat) : Int := if i ≤ j ∧ j < i + k then (c j - cf g (j - i) * t) % p else c j
theorem dvS_zero (p : Int) (g : List Int) (t : Int) (c : Nat → Int) (i j : Nat) : dvS p g t c i 0 j = c j := by
  unfold dvS; rw [if_neg (by omega)]
theorem dvS_at (p : Int) (g : List Int) (t : Int) (c : Nat → Int) (i k : Nat) : dvS p g t c i k (i + k) = c (i + k) := by
  unfold dvS; rw [if_neg (by omega)]
theorem dvS_step (p : Int) (g : List Int) (t : Int) (c : Nat → Int) (i k j : Nat) :
    dvS p g t c i (k + 1) j = if j = i + k then (c (i + k) - cf g k * t) % p else dvS p g t c i k j := by
  unfold dvS
  by_cases h : j = i + k
  · subst h; rw [if_pos (by omega), if_pos rfl, Nat.add_sub_cancel_left]
  · rw [if_neg h]
    by_cases h2 : i ≤ j ∧ j < i + k
    · rw [if_pos h2, if_pos (by omega)]
    · rw [if_neg h2, if_neg (by omega)]
theorem dvS_bd {p : Int} (hp : 0 < p) {g : List Int} {t : Int} {c : Nat → Int} (hc : ∀ j, 0 ≤ c j ∧ c j < p) (i k j : Nat) : 0 ≤ dvS p g t c i k j ∧ dvS p g t c i k j < p := by
  unfold dvS; split
  · exact emod_bdU hp _
  · exact hc j
/-- how much is taken away -/
def dvT (p iv : Int) (last : Nat) (c : Nat → Int) (i : Nat) : Int := c (i + last) * iv % p
/-- what is left behind d steps, of n -/
def dvU (p : Int) (f g : List Int) (iv : Int) (n : Nat) : Nat → Nat → Int
  | 0 => cf f
  | d + 1 => dvS p g (dvT p iv (g.length - 1) (dvU p f g iv n d) (n - 1 - d)) (dvU p f g iv n d) (n - 1 - d) g.length
def dvQ (p : Int) (f g : List Int) (iv : Int) (n i : Nat) : Int := dvT p iv (g.length - 1) (dvU p f g iv n (n - 1 - i)) i
def dvN (f g : List Int) : Nat := f.length - (g.length - 1)
def divQ (p : Int) (f g : List Int) (iv : Int) : List Int := lsU (dvN f g) (dvQ p f g iv (dvN f g))
def divR (p : Int) (f g : List Int) (iv : Int) : List Int := trimL (lsU f.length (dvU p f g iv (dvN f g) (dvN f g)))
theorem dvU_bd {p : Int} (hp : 0 < p) {f g : List Int} {iv : Int} (ef : AllE p f) (n : Nat) : ∀ d j, 0 ≤ dvU p f g iv n d j ∧ dvU p f g iv n d j < p
  | 0, j => ef j
  | d + 1, j => dvS_bd hp (dvU_bd hp ef n d) _ _ j
theorem dvQ_bd {p : Int} (hp : 0 < p) (f g : List Int) (iv : Int) (n i : Nat) : 0 ≤ dvQ p f g iv n i ∧ dvQ p f g iv n i < p := emod_bdU hp _
theorem dvU_step (p : Int) (f g : List Int) (iv : Int) (n d : Nat) {i : Nat} (hi : i = n - 1 - d) (hd : d < n) (j : Nat) :
    dvU p f g iv n (d + 1) j = dvS p g (dvQ p f g iv n i) (dvU p f g iv n d) i g.length j := by
  subst hi
  unfold dvQ
  rw [show n - 1 - (n - 1 - d) = d by omega]
  rfl
/-- the inverse of the last element -/
def Iv (p : Int) (g : List Int) (iv : Int) : Prop := 0 < g.length ∧ cf g (g.length - 1) * iv % p = 1 ∧ 0 ≤ iv ∧ iv < p
/-- behind a step all from its last place on is 0 -/
theorem dvU_zero {p : Int} (hp : 1 < p) {f g : List Int} {iv : Int} (ef : AllE p f) (hg : Iv p g iv) {n : Nat} (hn : f.length ≤ n + (g.length - 1)) : ∀ d, d ≤ n → ∀ j, n - d + (g.length - 1) ≤ j → dvU p f g iv n d j = 0
  | 0, _, j, hj => cf_ge (by omega)
  | d + 1, hd, j, hj => by
    have ⟨hg0, hg1, _, _⟩ := hg
    have ih := dvU_zero hp ef hg hn d (by omega)
    show dvS p g _ (dvU p f g iv n d) (n - 1 - d) g.length j = 0
    unfold dvS
    split
    · rename_i h
      have hj2 : j = n - 1 - d + (g.length - 1) := by omega
      rw [show j - (n - 1 - d) = g.length - 1 by omega]
      unfold dvT
      rw [← hj2]
      generalize dvU p f g iv n d j = x
      have h1 : Cg p (cf g (g.length - 1) * iv) 1 := Cg.iff.2 (by rw [hg1, Int.emod_eq_of_lt (by omega) hp])
      have h2 : Cg p (x - cf g (g.length - 1) * (x * iv % p)) 0 := by
        refine ((Cg.refl p x).sub ((Cg.refl p _).mul (Cg.mod p (x * iv)))).trans ?_
        refine (Cg.of_eq (show x - cf g (g.length - 1) * (x * iv) = x - x * (cf g (g.length - 1) * iv) by grind)).trans ?_
        refine ((Cg.refl p x).sub ((Cg.refl p x).mul h1)).trans (Cg.of_eq (by omega))
      have := h2.emod
      rwa [Int.zero_emod] at this
    · exact ih j (by omega)
theorem dvS_same {p : Int} {g : List Int} {c : Nat → Int} (hc : ∀ j, 0 ≤ c j ∧ c j < p) (i k j : Nat) : dvS p g 0 c i k j = c j := by
  unfold dvS
  split
  · rw [Int.mul_zero, Int.sub_zero]; exact Int.emod_eq_of_lt (hc j).1 (hc j).2
  · rfl
/-- where what is left is short, the steps between do nothing -/
theorem dvU_skip {p : Int} (hp : 1 < p) {f g : List Int} {iv : Int} (ef : AllE p f) {n d i : Nat} (hd : d ≤ n) (hi : i < n - d) (hz : ∀ j, i + g.length ≤ j → dvU p f g iv n d j = 0) :
    ∀ e, d + e ≤ n - 1 - i → (∀ j, dvU p f g iv n (d + e) j = dvU p f g iv n d j) ∧ ∀ q, n - (d + e) ≤ q → q < n - d → dvQ p f g iv n q = 0
  | 0, _ => ⟨fun _ => rfl, fun q h1 h2 => by omega⟩
  | e + 1, he => by
    obtain ⟨h1, h2⟩ := dvU_skip hp ef hd hi hz e (by omega)
    have hq : dvQ p f g iv n (n - 1 - (d + e)) = 0 := by
      unfold dvQ dvT
      rw [show n - 1 - (n - 1 - (d + e)) = d + e by omega, h1, hz (n - 1 - (d + e) + (g.length - 1)) (by omega), Int.zero_mul, Int.zero_emod]
    refine ⟨fun j => ?_, fun q q1 q2 => ?_⟩
    · rw [show d + (e + 1) = (d + e) + 1 by omega, dvU_step p f g iv n (d + e) rfl (by omega), hq, dvS_same (dvU_bd (by omega) ef n _), h1]
    · by_cases h : q = n - 1 - (d + e)
      · rw [h]; exact hq
      · exact h2 q (by omega) q2
/-- the quotient's elements from those with the number n - d on, times g, and what is left make f -/
theorem dvU_id {p : Int} (hp : 1 < p) {f g : List Int} {iv : Int} {n : Nat} : ∀ d, d ≤ n → ∀ k, Cg p (cf f k) (cvU (fun i => if n - d ≤ i ∧ i < n then dvQ p f g iv n i else 0) (cf g) k + dvU p f g iv n d k)
  | 0, _, k => by
    have : (fun i => if n - 0 ≤ i ∧ i < n then dvQ p f g iv n i else 0) = fun _ => 0 := by funext i; rw [if_neg (by omega)]
    rw [this, cvU_zeroL]
    exact Cg.of_eq (by show cf f k = 0 + cf f k; omega)
  | d + 1, hd, k => by
    have ih := dvU_id hp (f := f) (g := g) (iv := iv) (n := n) d (by omega) k
    obtain ⟨i, hi⟩ : ∃ i, i = n - 1 - d := ⟨_, rfl⟩
    obtain ⟨t, ht⟩ : ∃ t, t = dvQ p f g iv n i := ⟨_, rfl⟩
    have e : cvU (fun i => if n - (d + 1) ≤ i ∧ i < n then dvQ p f g iv n i else 0) (cf g) k = cvU (fun i => if n - d ≤ i ∧ i < n then dvQ p f g iv n i else 0) (cf g) k + cvU (fun j => if j = i then t else 0) (cf g) k := by
      rw [← cvU_addL]
      refine cvU_ext k (fun j _ => ?_) (fun _ _ => rfl)
      by_cases h1 : j = i
      · subst h1; rw [if_pos (by omega), if_neg (by omega), if_pos rfl, ← ht]; omega
      · rw [if_neg h1]
        by_cases h2 : n - d ≤ j ∧ j < n
        · rw [if_pos h2, if_pos (by omega)]; omega
        · rw [if_neg h2, if_neg (by omega)]; omega
    rw [e, cvU_ind, dvU_step p f g iv n d hi (by omega), ← ht]
    refine ih.trans ?_
    generalize cvU (fun i => if n - d ≤ i ∧ i < n then dvQ p f g iv n i else 0) (cf g) k = X
    generalize dvU p f g iv n d = c
    unfold dvS
    by_cases h : i ≤ k ∧ k < i + g.length
    · rw [if_pos h, if_pos h.1]
      refine Cg.trans (Cg.of_eq (show X + c k = X + t * cf g (k - i) + (c k - cf g (k - i) * t) by grind)) ?_
      exact (Cg.refl _ _).add (Cg.mod _ _).symm
    · rw [if_neg h]
      by_cases h1 : i ≤ k
      · rw [if_pos h1, cf_ge (L := g) (by omega)]
        exact Cg.of_eq (by omega)
      · rw [if_neg h1]
        exact Cg.of_eq (by omega)
theorem divQ_cf (p : Int) (f g : List Int) (iv : Int) (i : Nat) : cf (divQ p f g iv) i = if i < dvN f g then dvQ p f g iv (dvN f g) i else 0 := lsU_cf' _ _ _
theorem divR_cf {p : Int} (hp : 1 < p) {f g : List Int} {iv : Int} (ef : AllE p f) (hg : Iv p g iv) (k : Nat) : cf (divR p f g iv) k = dvU p f g iv (dvN f g) (dvN f g) k := by
  unfold divR
  rw [trim_cf, lsU_cf']
  split
  · rfl
  · rename_i h
    by_cases h2 : g.length - 1 ≤ f.length
    · exact (dvU_zero hp ef hg (by unfold dvN; omega) _ (Nat.le_refl _) k (by omega)).symm
    · have e : dvN f g = 0 := by unfold dvN; omega
      rw [e]
      exact (cf_ge (by omega)).symm
theorem divR_len {p : Int} (hp : 1 < p) {f g : List Int} {iv : Int} (ef : AllE p f) (hg : Iv p g iv) : (divR p f g iv).length < g.length := by
  have := hg.1
  have h := can_len (trim_can (lsU f.length (dvU p f g iv (dvN f g) (dvN f g)))) (k := g.length - 1) (fun j hj => by
    rw [trim_cf, lsU_cf']
    split
    · exact dvU_zero hp ef hg (by unfold dvN; omega) _ (Nat.le_refl _) j (by omega)
    · rfl)
  show (trimL _).length < _
  omega

theorem div_id {p : Int} (hp : 1 < p) {f g : List Int} {iv : Int} (ef : AllE p f) (hg : Iv p g iv) (k : Nat) : Cg p (cf f k) (cvU (cf (divQ p f g iv)) (cf g) k + cf (divR p f g iv) k) := by
  have h := dvU_id hp (f := f) (g := g) (iv := iv) (n := dvN f g) (dvN f g) (Nat.le_refl _) k
  rw [divR_cf hp ef hg]
  refine h.trans (Cg.of_eq ?_)
  rw [cvU_ext k (fun i _ => show (if dvN f g - dvN f g ≤ i ∧ i < dvN f g then dvQ p f g iv (dvN f g) i else 0) = cf (divQ p f g iv) i from by
    rw [divQ_cf]
    by_cases h : i < dvN f g
    · rw [if_pos h, if_pos (by omega)]
    · rw [if_neg h, if_neg (by omega)]) (fun _ _ => rfl)]
theorem divR_can (p : Int) (f g : List Int) (iv : Int) : Can (divR p f g iv) := trim_can _
theorem divR_allE {p : Int} (hp : 0 < p) {f g : List Int} {iv : Int} (ef : AllE p f) : AllE p (divR p f g iv) :=
  trim_allE (allE_lst hp (fun k _ => dvU_bd hp ef _ _ k))
theorem divQ_allE {p : Int} (hp : 0 < p) (f g : List Int) (iv : Int) : AllE p (divQ p f g iv) := allE_lst hp (fun k _ => dvQ_bd hp f g iv _ k)
theorem divQ_len (p : Int) (f g : List Int) (iv : Int) : (divQ p f g iv).length = dvN f g := lsU_len _ _
theorem divQ_can {p : Int} (hp : isP p = true) {f g : List Int} {iv : Int} (hf : Can f) (ef : AllE p f) (hg : Iv p g iv) : Can (divQ p f g iv) := by
  have hp1 := (isP_bd hp).1
  by_cases h : dvN f g = 0
  · left; rw [divQ_len, h]
  · right
    rw [divQ_len, divQ_cf, if_pos (by omega)]
    have hl : dvN f g - 1 + (g.length - 1) = f.length - 1 := by have := hg.1; unfold dvN at *; omega
    unfold dvQ dvT
    rw [show dvN f g - 1 - (dvN f g - 1) = 0 by omega, hl]
    show cf f (f.length - 1) * iv % p ≠ 0
    refine no_zero hp (ef _).1 (ef _).2 hg.2.2.1 hg.2.2.2 ?_ ?_
    · rcases hf with hf | hf
      · exfalso; unfold dvN at h; omega
      · exact hf
    · intro e
      have := hg.2.1
      rw [e, Int.mul_zero, Int.zero_emod] at this
      omega
/-- what the program keeps of a division is what the model keeps -/
theorem rest_eq {p : Int} (hp : isP p = true) {f g : List Int} {iv : Int} (hf : Can f) (ef : AllE p f) (hg : Iv p g iv) : addL p f (mlU p g (negL p (divQ p f g iv))) = divR p f g iv := by
  have hp1 := (isP_bd hp).1
  rw [without_eq (by omega)]
  refine eq_of_cg (subL_can _ _ _) (divR_can _ _ _ _) (subL_allE (by omega) _ _) (divR_allE (by omega) ef) (fun k => ?_)
  rw [subL_cf]
  refine (Cg.mod _ _).trans ?_
  have h1 := div_id (by omega) ef hg k
  have h2 := mlU_cg (p := p) (divQ p f g iv) g k
  refine (h1.sub h2).trans (Cg.of_eq (by omega))
/-- a line and what it is made of -/
structure Tri where
  a : List Int
  b : List Int
  c : List Int
/-- one step of Euclid -/
def eucS (p iv : Int) (m n : Tri) : Tri := ⟨divR p m.a n.a iv, subL p m.b (mlU p (divQ p m.a n.a iv) n.b), subL p m.c (mlU p (divQ p m.a n.a iv) n.c)⟩
def eucN (p : Int) (inv : Int → Int) : Nat → Tri → Tri → Tri
  | 0, m, _ => m
  | k + 1, m, n => if n.a.length = 0 then m else eucN p inv k n (eucS p (inv (cf n.a (n.a.length - 1))) m n)
structure TOk (p : Int) (m : Tri) (l k : Nat) : Prop where
  ca : Can m.a
  cb : Can m.b
  cc : Can m.c
  ea : AllE p m.a
  eb : AllE p m.b
  ec : AllE p m.c
  la : m.a.length ≤ l
  lb : m.b.length ≤ k
  lc : m.c.length ≤ k
theorem eucN_nil (p : Int) (inv : Int → Int) (k : Nat) (m n : Tri) (h : n.a.length = 0) : eucN p inv k m n = m := by
  cases k with
  | zero => rfl
  | succ k => show (if _ then _ else _) = _; rw [if_pos h]
theorem eucN_step {p : Int} {inv : Int → Int} {k : Nat} {m n : Tri} (h : n.a.length ≠ 0) (hk : n.a.length ≤ k) : ∃ j, k = j + 1 ∧ eucN p inv k m n = eucN p inv j n (eucS p (inv (cf n.a (n.a.length - 1))) m n) := by
  cases k with
  | zero => omega
  | succ k => exact ⟨k, rfl, by show (if _ then _ else _) = _; rw [if_neg h]⟩
theorem eucS_ok {p iv : Int} (hp : isP p = true) {m n : Tri} {l l2 k : Nat} (hm : TOk p m l k) (hn : TOk p n l2 k) (hi : Iv p n.a iv) : TOk p (eucS p iv m n) (n.a.length - 1) (k + l) := by
  have hp1 := (isP_bd hp).1
  have h1 := divR_len (by omega) hm.ea hi
  have hq := divQ_len p m.a n.a iv
  have key : ∀ x y : List Int, x.length ≤ k → y.length ≤ k → (subL p x (mlU p (divQ p m.a n.a iv) y)).length ≤ k + l := by
    intro x y hx hy
    have h2 := subL_len p x (mlU p (divQ p m.a n.a iv) y)
    rw [mlU_len, hq] at h2
    have h3 : dvN m.a n.a ≤ l := by have := hm.la; unfold dvN; omega
    split at h2 <;> omega
  exact ⟨divR_can _ _ _ _, subL_can _ _ _, subL_can _ _ _, divR_allE (by omega) hm.ea, subL_allE (by omega) _ _, subL_allE (by omega) _ _, (by show (divR p m.a n.a iv).length ≤ _; omega), key _ _ hm.lb hn.lb, key _ _ hm.lc hn.lc⟩
end Go.Proofs.Ytfmpcniehgipfaa
namespace Go.Proofs.Ytfmpcniehgipfaa
set_option linter.unusedVariables false
/-- the line that is left behind d steps -/
def dvL (p : Int) (f g : List Int) (iv : Int) (d : Nat) : List Int := trimL (lsU f.length (dvU p f g iv (dvN f g) d))
/-- the quotient's elements that are known behind d steps -/
def dvO (p : Int) (f g : List Int) (iv : Int) (d : Nat) : List Int := lsU (dvN f g) (fun i => if dvN f g - d ≤ i then dvQ p f g iv (dvN f g) i else 0)
theorem dvL_zero {p : Int} {f g : List Int} {iv : Int} (hf : Can f) : dvL p f g iv 0 = f := by
  show trimL (lsU f.length (cf f)) = f
  rw [lsU_of, trim_of hf]
theorem dvL_all (p : Int) (f g : List Int) (iv : Int) : dvL p f g iv (dvN f g) = divR p f g iv := rfl
theorem dvO_zero (p : Int) (f g : List Int) (iv : Int) : dvO p f g iv 0 = lsU (dvN f g) (fun _ => 0) := lsU_ext (fun i hi => if_neg (by omega))
theorem dvO_all (p : Int) (f g : List Int) (iv : Int) : dvO p f g iv (dvN f g) = divQ p f g iv := lsU_ext (fun i hi => if_pos (by omega))
theorem dvU_far {p : Int} (hp : 1 < p) {f g : List Int} {iv : Int} (ef : AllE p f) (hg : Iv p g iv) {d : Nat} (hd : d ≤ dvN f g) {j : Nat} (hj : f.length ≤ j) : dvU p f g iv (dvN f g) d j = 0 := by
  by_cases h2 : g.length - 1 ≤ f.length
  · exact dvU_zero hp ef hg (by unfold dvN; omega) d hd j (by unfold dvN at *; omega)
  · have e : dvN f g = 0 := by unfold dvN; omega
    have : d = 0 := by omega
    rw [this]
    exact cf_ge hj
theorem dvL_cf {p : Int} (hp : 1 < p) {f g : List Int} {iv : Int} (ef : AllE p f) (hg : Iv p g iv) {d : Nat} (hd : d ≤ dvN f g) (j : Nat) : cf (dvL p f g iv d) j = dvU p f g iv (dvN f g) d j := by
  unfold dvL
  rw [trim_cf, lsU_cf']
  split
  · rfl
  · exact (dvU_far hp ef hg hd (by omega)).symm
theorem dvL_len {p : Int} (hp : 1 < p) {f g : List Int} {iv : Int} (ef : AllE p f) (hg : Iv p g iv) {d : Nat} (hd : d ≤ dvN f g) : (dvL p f g iv d).length ≤ dvN f g - d + (g.length - 1) :=
  can_len (trim_can _) (fun j hj => (dvL_cf hp ef hg hd j).trans (dvU_zero hp ef hg (by unfold dvN; omega) d hd j hj))
theorem dvL_allE {p : Int} (hp : 1 < p) {f g : List Int} {iv : Int} (ef : AllE p f) (hg : Iv p g iv) {d : Nat} (hd : d ≤ dvN f g) : AllE p (dvL p f g iv d) := fun j => by
  rw [dvL_cf hp ef hg hd]; exact dvU_bd (by omega) ef _ _ j
theorem div_step {p : Int} (hp : 1 < p) {f g : List Int} {iv : Int} (ef : AllE p f) (hg : Iv p g iv) {d q : Nat} (hd : d ≤ dvN f g) (hq : (dvL p f g iv d).length = g.length + q) :
    q < dvN f g - d ∧ cf (dvL p f g iv d) (g.length + q - 1) * iv % p = dvQ p f g iv (dvN f g) q ∧
      trimL (lsU (max (dvL p f g iv d).length (g.length + q)) (dvS p g (dvQ p f g iv (dvN f g) q) (cf (dvL p f g iv d)) q g.length)) = dvL p f g iv (dvN f g - q) ∧
      (dvO p f g iv d).set q (dvQ p f g iv (dvN f g) q) = dvO p f g iv (dvN f g - q) := by
  have h0 := hg.1
  have hl := dvL_len hp ef hg hd
  rw [hq] at hl
  have hqd : q < dvN f g - d := by omega
  have hz : ∀ j, q + g.length ≤ j → dvU p f g iv (dvN f g) d j = 0 := fun j hj => by
    rw [← dvL_cf hp ef hg hd]; exact cf_ge (by omega)
  obtain ⟨k1, k2⟩ := dvU_skip hp ef hd hqd hz (dvN f g - 1 - q - d) (by omega)
  rw [show d + (dvN f g - 1 - q - d) = dvN f g - 1 - q by omega] at k1 k2
  have hQ : cf (dvL p f g iv d) (g.length + q - 1) * iv % p = dvQ p f g iv (dvN f g) q := by
    rw [dvL_cf hp ef hg hd, ← k1]
    unfold dvQ dvT
    rw [show q + (g.length - 1) = g.length + q - 1 by omega]
  refine ⟨hqd, hQ, ?_, ?_⟩
  · have e1 : dvN f g - q = (dvN f g - 1 - q) + 1 := by omega
    refine can_ext (trim_can _) (trim_can _) (fun j => ?_)
    show _ = cf (dvL p f g iv (dvN f g - q)) j
    rw [dvL_cf hp ef hg (by omega), trim_cf, lsU_cf', hq, Nat.max_self, e1, dvU_step p f g iv (dvN f g) (dvN f g - 1 - q) (show q = dvN f g - 1 - (dvN f g - 1 - q) by omega) (by omega)]
    have hS : ∀ j, dvS p g (dvQ p f g iv (dvN f g) q) (cf (dvL p f g iv d)) q g.length j = dvS p g (dvQ p f g iv (dvN f g) q) (dvU p f g iv (dvN f g) (dvN f g - 1 - q)) q g.length j := fun j => by
      unfold dvS
      rw [dvL_cf hp ef hg hd, k1]
    split
    · exact hS j
    · unfold dvS
      rw [if_neg (by omega), k1]
      exact (hz j (by omega)).symm
  · refine lsU_set (by omega) (fun i hi => ?_)
    by_cases e : i = q
    · rw [if_pos e, if_pos (by omega), e]
    · rw [if_neg e]
      by_cases h2 : dvN f g - d ≤ i
      · rw [if_pos h2, if_pos (by omega)]
      · rw [if_neg h2]
        by_cases h3 : q < i
        · rw [if_pos (by omega), k2 i (by omega) (by omega)]
        · rw [if_neg (by omega)]
/-- a line that is too short for a step is what is left -/
theorem div_stop {p : Int} (hp : 1 < p) {f g : List Int} {iv : Int} (ef : AllE p f) (hg : Iv p g iv) {d : Nat} (hd : d ≤ dvN f g) (hs : (dvL p f g iv d).length < g.length) : dvL p f g iv d = divR p f g iv ∧ dvO p f g iv d = divQ p f g iv := by
  have h0 := hg.1
  have hz : ∀ j, g.length - 1 ≤ j → dvU p f g iv (dvN f g) d j = 0 := fun j hj => by
    rw [← dvL_cf hp ef hg hd]; exact cf_ge (by omega)
  have key : (∀ j, dvU p f g iv (dvN f g) (dvN f g) j = dvU p f g iv (dvN f g) d j) ∧ ∀ q, q < dvN f g - d → dvQ p f g iv (dvN f g) q = 0 := by
    by_cases hN : d = dvN f g
    · rw [← hN]; exact ⟨fun _ => rfl, fun q hq => by omega⟩
    · obtain ⟨k1, k2⟩ := dvU_skip hp ef hd (i := 0) (by omega) (fun j hj => hz j (by omega)) (dvN f g - 1 - 0 - d) (by omega)
      rw [show d + (dvN f g - 1 - 0 - d) = dvN f g - 1 by omega] at k1 k2
      have hq0 : dvQ p f g iv (dvN f g) 0 = 0 := by
        unfold dvQ dvT
        rw [show dvN f g - 1 - 0 = dvN f g - 1 by omega, k1, hz _ (by omega), Int.zero_mul, Int.zero_emod]
      refine ⟨fun j => ?_, fun q hq => ?_⟩
      · have e1 := dvU_step p f g iv (dvN f g) (dvN f g - 1) (show 0 = dvN f g - 1 - (dvN f g - 1) by omega) (by omega) j
        rw [show dvN f g - 1 + 1 = dvN f g by omega] at e1
        rw [e1, hq0, dvS_same (dvU_bd (by omega) ef _ _), k1]
      · by_cases h : q = 0
        · rw [h]; exact hq0
        · exact k2 q (by omega) hq
  refine ⟨?_, ?_⟩
  · unfold dvL divR
    rw [lsU_ext (fun j _ => (key.1 j).symm)]
  · refine lsU_ext (fun i hi => ?_)
    by_cases h : dvN f g - d ≤ i
    · rw [if_pos h]
    · rw [if_neg h, key.2 i (by omega)]
end Go.Proofs.Ytfmpcniehgipfaa
namespace Go.Proofs.Ytfmpcniehgipfaa
set_option linter.unusedVariables false
/-- the value at a number, over the integers -/
def evU : List Int → Int → Int
  | [], _ => 0
  | b :: r, a => b + a * evU r a
/-- the value in the field, from the last element on -/
def hvF (p : Int) (a : Int) : List Int → Int
  | [] => 0
  | b :: r => (hvF p a r * a + b) % p
theorem hvF_cg (p a : Int) : ∀ L, Cg p (hvF p a L) (evU L a)
  | [] => Cg.refl _ _
  | b :: r => by
    refine (Cg.mod _ _).trans ?_
    refine (((hvF_cg p a r).mul (Cg.refl p a)).add (Cg.refl p b)).trans (Cg.of_eq ?_)
    show evU r a * a + b = b + a * evU r a
    grind
theorem hvF_bd {p : Int} (hp : 0 < p) (a : Int) : ∀ L, 0 ≤ hvF p a L ∧ hvF p a L < p
  | [] => by show (0 : Int) ≤ 0 ∧ (0 : Int) < p; omega
  | b :: r => emod_bdU hp _
theorem hvF_drop {p a : Int} {L : List Int} {k : Nat} (h : k < L.length) : hvF p a (L.drop k) = (hvF p a (L.drop (k + 1)) * a + cf L k) % p := by
  rw [List.drop_eq_getElem_cons h]
  show (hvF p a (L.drop (k + 1)) * a + L[k]) % p = _
  simp [cf, h]
theorem hvF_end (p a : Int) (L : List Int) : hvF p a (L.drop L.length) = 0 := by rw [List.drop_length]; rfl
/-- the value of the first n of a function -/
def evS : Nat → (Nat → Int) → Int → Int
  | 0, _, _ => 0
  | n + 1, c, x => c 0 + x * evS n (fun i => c (i + 1)) x
theorem evS_ext : ∀ (n : Nat) {c d : Nat → Int} {x : Int}, (∀ i, i < n → c i = d i) → evS n c x = evS n d x
  | 0, _, _, _, _ => rfl
  | n + 1, c, d, x, h => by
    show c 0 + x * _ = d 0 + x * _
    rw [h 0 (by omega), evS_ext n (fun i hi => h (i + 1) (by omega))]
theorem evS_cg {p : Int} : ∀ (n : Nat) {c d : Nat → Int} {x : Int}, (∀ i, Cg p (c i) (d i)) → Cg p (evS n c x) (evS n d x)
  | 0, _, _, _, _ => Cg.refl _ _
  | n + 1, c, d, x, h => (h 0).add ((Cg.refl p x).mul (evS_cg n (fun i => h (i + 1))))
theorem evS_zero : ∀ (n : Nat) (x : Int), evS n (fun _ => 0) x = 0
  | 0, _ => rfl
  | n + 1, x => by show 0 + x * evS n (fun _ => 0) x = 0; rw [evS_zero n x]; omega
theorem evS_add : ∀ (n : Nat) (c d : Nat → Int) (x : Int), evS n (fun i => c i + d i) x = evS n c x + evS n d x
  | 0, _, _, _ => rfl
  | n + 1, c, d, x => by
    have := evS_add n (fun i => c (i + 1)) (fun i => d (i + 1)) x
    simp only [evS] at this ⊢; grind
theorem evS_mul : ∀ (n : Nat) (t : Int) (c : Nat → Int) (x : Int), evS n (fun i => t * c i) x = t * evS n c x
  | 0, t, _, _ => by show (0 : Int) = t * 0; omega
  | n + 1, t, c, x => by
    have := evS_mul n t (fun i => c (i + 1)) x
    simp only [evS] at this ⊢; grind
theorem evS_more : ∀ (n m : Nat) {c : Nat → Int} {x : Int}, (∀ i, n ≤ i → c i = 0) → n ≤ m → evS m c x = evS n c x
  | 0, m, c, x, h, _ => by
    have : c = fun _ => 0 := by funext i; exact h i (Nat.zero_le _)
    rw [this, evS_zero]; rfl
  | n + 1, 0, _, _, _, h => by omega
  | n + 1, m + 1, c, x, h, hm => by
    show c 0 + x * _ = c 0 + x * _
    rw [evS_more n m (fun i hi => h (i + 1) (by omega)) (by omega)]
theorem evU_S : ∀ (L : List Int) (x : Int), evU L x = evS L.length (cf L) x
  | [], _ => rfl
  | b :: r, x => by
    show b + x * evU r x = cf (b :: r) 0 + x * evS r.length (fun i => cf (b :: r) (i + 1)) x
    rw [evU_S r x]; rfl
theorem evU_more {L : List Int} {n : Nat} (h : L.length ≤ n) (x : Int) : evU L x = evS n (cf L) x := by
  rw [evU_S, evS_more L.length n (fun i hi => cf_ge hi) h]
theorem evU_cg {p : Int} {A B : List Int} (h : ∀ k, Cg p (cf A k) (cf B k)) (x : Int) : Cg p (evU A x) (evU B x) := by
  rw [evU_more (Nat.le_max_left A.length B.length), evU_more (Nat.le_max_right A.length B.length)]
  exact evS_cg _ h
theorem evS_prod : ∀ (m n : Nat) {a b : Nat → Int} {x : Int}, (∀ i, m ≤ i → a i = 0) → (∀ i, n ≤ i → b i = 0) → evS (m + n) (cvU a b) x = evS m a x * evS n b x
  | 0, n, a, b, x, ha, hb => by
    have : a = fun _ => 0 := by funext i; exact ha i (Nat.zero_le _)
    rw [this]
    have e : cvU (fun _ => 0) b = fun _ => 0 := by funext i; exact cvU_zeroL i b
    rw [e, evS_zero]
    show (0 : Int) = 0 * _
    omega
  | m + 1, n, a, b, x, ha, hb => by
    have e : ∀ k, cvU a b k = a 0 * b k + (if k = 0 then 0 else cvU (fun i => a (i + 1)) b (k - 1)) := by
      intro k
      cases k with
      | zero => simp [cvU]
      | succ k => rfl
    have ih := evS_prod m n (x := x) (fun i hi => ha (i + 1) (by omega)) hb
    rw [show m + 1 + n = (m + n) + 1 by omega, evS_ext _ (fun i _ => e i), evS_add, evS_mul, evS_more n (m + n + 1) hb (by omega)]
    have e2 : evS (m + n + 1) (fun k => if k = 0 then 0 else cvU (fun i => a (i + 1)) b (k - 1)) x = x * evS (m + n) (cvU (fun i => a (i + 1)) b) x := by
      show (0 : Int) + x * evS (m + n) (fun i => cvU (fun i => a (i + 1)) b (i + 1 - 1)) x = _
      rw [Int.zero_add]
      rfl
    rw [e2, ih]
    show _ = (a 0 + x * evS m (fun i => a (i + 1)) x) * _
    grind
theorem evU_mul {p : Int} (f g : List Int) (x : Int) : Cg p (evU (mlU p f g) x) (evU f x * evU g x) := by
  have hl : (mlU p f g).length ≤ f.length + g.length := by rw [mlU_len]; split <;> omega
  rw [evU_more hl, evU_S f, evU_S g, ← evS_prod f.length g.length (fun i hi => cf_ge hi) (fun i hi => cf_ge hi)]
  exact evS_cg _ (fun i => mlU_cg f g i)
theorem evU_add {p : Int} (f g : List Int) (x : Int) : Cg p (evU (addL p f g) x) (evU f x + evU g x) := by
  rw [evU_more (addL_len p f g), evU_more (Nat.le_max_left f.length g.length), evU_more (Nat.le_max_right f.length g.length), ← evS_add]
  exact evS_cg _ (fun i => by rw [addL_cf]; exact Cg.mod _ _)
theorem evU_sub {p : Int} (f g : List Int) (x : Int) : Cg p (evU (subL p f g) x) (evU f x - evU g x) := by
  have e : evU f x - evU g x = evU f x + (-1) * evU g x := by omega
  rw [e, evU_more (subL_len p f g), evU_more (Nat.le_max_left f.length g.length), evU_more (Nat.le_max_right f.length g.length), ← evS_mul, ← evS_add]
  exact evS_cg _ (fun i => by rw [subL_cf]; exact (Cg.mod _ _).trans (Cg.of_eq (by omega)))
theorem evU_smu {p : Int} (f : List Int) (a x : Int) : Cg p (evU (smuL p f a) x) (a * evU f x) := by
  rw [evU_more (smuL_len p f a), evU_S f, ← evS_mul]
  exact evS_cg _ (fun i => by rw [smuL_cf]; exact Cg.mod _ _)
theorem evU_trim (L : List Int) (x : Int) : evU (trimL L) x = evU L x := by
  rw [evU_more (trim_len L), evU_S L]
  exact evS_ext _ (fun i _ => trim_cf L i)
/-- division by the unknown minus a number -/
def synQ : List Int → Int → List Int
  | [], _ => []
  | [_], _ => []
  | _ :: c :: r, a => evU (c :: r) a :: synQ (c :: r) a
theorem synQ_len : ∀ (L : List Int) (a : Int), (synQ L a).length = L.length - 1
  | [], _ => rfl
  | [_], _ => rfl
  | _ :: c :: r, a => by simp [synQ, synQ_len (c :: r) a]
theorem synQ_ev : ∀ (L : List Int) (a x : Int), evU L x = (x - a) * evU (synQ L a) x + evU L a
  | [], _, _ => by simp [synQ, evU]
  | [b], _, _ => by simp [synQ, evU]
  | b :: c :: r, a, x => by
    have ih := synQ_ev (c :: r) a x
    show b + x * evU (c :: r) x = (x - a) * (evU (c :: r) a + x * evU (synQ (c :: r) a) x) + (b + a * evU (c :: r) a)
    rw [ih]; grind
theorem synQ_zero {p : Int} : ∀ (L : List Int) (a : Int), (∀ k, Cg p (cf (synQ L a) k) 0) → Cg p (evU L a) 0 → ∀ k, Cg p (cf L k) 0
  | [], _, _, _, k => by rw [cf_nil]; exact Cg.refl _ _
  | [b], a, _, h, k => by
    cases k with
    | zero =>
      rw [cf_cons0]
      have : evU [b] a = b := by simp [evU]
      rwa [this] at h
    | succ k => rw [cf_succ, cf_nil]; exact Cg.refl _ _
  | b :: c :: r, a, hq, h, k => by
    have h0 := hq 0
    rw [show cf (synQ (b :: c :: r) a) 0 = evU (c :: r) a from rfl] at h0
    cases k with
    | zero =>
      rw [cf_cons0]
      have e : b = evU (b :: c :: r) a - a * evU (c :: r) a := by show b = (b + a * evU (c :: r) a) - _; omega
      rw [e]
      exact (h.sub ((Cg.refl p a).mul h0)).trans (Cg.of_eq (by omega))
    | succ k =>
      rw [cf_succ]
      exact synQ_zero (c :: r) a (fun k => hq (k + 1)) h0 k
/-- in the field of a prime a product is 0 only where a factor is -/
theorem cg_no_zero {p a b : Int} (hp : isP p = true) (h : Cg p (a * b) 0) : Cg p a 0 ∨ Cg p b 0 := by
  have hp1 := (isP_bd hp).1
  rcases Decidable.em (a % p = 0) with ha | ha
  · exact .inl (Cg.iff.2 (by rw [ha, Int.zero_emod]))
  · rcases Decidable.em (b % p = 0) with hb | hb
    · exact .inr (Cg.iff.2 (by rw [hb, Int.zero_emod]))
    · exfalso
      have ba := emod_bdU (p := p) (by omega) a
      have bb := emod_bdU (p := p) (by omega) b
      refine no_zero hp ba.1 ba.2 bb.1 bb.2 ha hb ?_
      have := (((Cg.mod p a).mul (Cg.mod p b)).trans h).emod
      rwa [Int.zero_emod] at this
/-- a line with more zeros than its degree is 0 -/
theorem zeros_zero {p : Int} (hp : isP p = true) : ∀ (P L : List Int), L.length ≤ P.length → P.Pairwise (fun a b => ¬ Cg p (b - a) 0) → (∀ a ∈ P, Cg p (evU L a) 0) → ∀ k, Cg p (cf L k) 0
  | [], L, hl, _, _, k => by
    have : L = [] := List.length_eq_zero_iff.1 (by simpa using hl)
    rw [this, cf_nil]; exact Cg.refl _ _
  | a :: P, L, hl, hd, hz, k => by
    obtain ⟨h1, h2⟩ := List.pairwise_cons.1 hd
    have h0 := hz a (List.mem_cons_self ..)
    refine synQ_zero L a ?_ h0 k
    refine zeros_zero hp P (synQ L a) (by rw [synQ_len]; simp at hl; omega) h2 (fun b hb => ?_)
    have hb1 := hz b (List.mem_cons_of_mem _ hb)
    rw [synQ_ev L a b] at hb1
    have : Cg p ((b - a) * evU (synQ L a) b) 0 := by
      have := hb1.sub h0
      exact (Cg.of_eq (by omega)).trans (this.trans (Cg.of_eq (by omega)))
    rcases cg_no_zero hp this with h | h
    · exact absurd h (h1 b hb)
    · exact h
/-- lines that agree at enough places are the same -/
theorem interp_uniq {p : Int} (hp : isP p = true) {A B P : List Int} (hA : Can A) (hB : Can B) (eA : AllE p A) (eB : AllE p B) (lA : A.length ≤ P.length) (lB : B.length ≤ P.length)
    (hd : P.Pairwise (fun a b => ¬ Cg p (b - a) 0)) (h : ∀ a ∈ P, Cg p (evU A a) (evU B a)) : A = B := by
  refine eq_of_cg hA hB eA eB (fun k => ?_)
  have hz := zeros_zero hp P (subL p A B) (by have := subL_len p A B; omega) hd (fun a ha => (evU_sub A B a).trans (((h a ha).sub (Cg.refl p (evU B a))).trans (Cg.of_eq (by omega)))) k
  rw [subL_cf] at hz
  have := ((Cg.mod p (cf A k - cf B k)).symm.trans hz).add (Cg.refl p (cf B k))
  exact (Cg.of_eq (by omega)).trans (this.trans (Cg.of_eq (by omega)))
end Go.Proofs.Ytfmpcniehgipfaa
namespace Go.Proofs.Ytfmpcniehgipfaa
set_option linter.unusedVariables false
/-- inverses in the field -/
def InvF (p : Int) (iv : Int → Int) : Prop := ∀ a, 0 < a → a < p → a * iv a % p = 1 ∧ 0 ≤ iv a ∧ iv a < p
/-- no two of the first are the same -/
def Dif (L : List Int) : Prop := ∀ i j, i < L.length → j < i → cf L i ≠ cf L j
theorem dif_cg {p : Int} {L : List Int} (hd : Dif L) (he : AllE p L) {i j : Nat} (hi : i < L.length) (hj : j < L.length) (h : i ≠ j) : ¬ Cg p (cf L i) (cf L j) := by
  intro hc
  have := hc.eq (he i) (he j)
  rcases Nat.lt_or_ge j i with h1 | h1
  · exact hd i j hi h1 this
  · exact hd j i hj (by omega) this.symm
theorem evU_one (a x : Int) : evU [a] x = a := by simp [evU]
theorem evU_two (a b x : Int) : evU [a, b] x = a + x * b := by simp [evU]
/-- one point more, as the program adds it -/
def nwS (p : Int) (iv : Int → Int) (s : List Int × List Int) (a v : Int) : List Int × List Int :=
  (addL p s.1 (mlU p s.2 (trimL [((v + (-(hvF p a s.1)) % p) % p) * iv (hvF p a s.2) % p])), mlU p s.2 [(-a) % p, 1])
def nwN (p : Int) (iv : Int → Int) (at_ vals : List Int) : Nat → List Int × List Int
  | 0 => ([], [1])
  | i + 1 => nwS p iv (nwN p iv at_ vals i) (cf at_ i) (cf vals i)
structure NwOk (p : Int) (at_ vals : List Int) (i : Nat) (s : List Int × List Int) : Prop where
  c1 : Can s.1
  e1 : AllE p s.1
  l1 : s.1.length ≤ i
  c2 : Can s.2
  e2 : AllE p s.2
  l2 : s.2.length = i + 1
  v1 : ∀ j, j < i → Cg p (evU s.1 (cf at_ j)) (cf vals j)
  v2 : ∀ j, j < i → Cg p (evU s.2 (cf at_ j)) 0
  v3 : ∀ x, Cg p (evU s.2 x) 0 → ∃ j, j < i ∧ Cg p x (cf at_ j)
theorem nwS_ok {p : Int} (hp : isP p = true) {iv : Int → Int} (hiv : InvF p iv) {at_ vals : List Int} (hd : Dif at_) (he : AllE p at_) (hv : AllE p vals) {i : Nat} (hi : i < at_.length) {s : List Int × List Int} (h : NwOk p at_ vals i s) :
    NwOk p at_ vals (i + 1) (nwS p iv s (cf at_ i) (cf vals i)) ∧ 0 < hvF p (cf at_ i) s.2 := by
  have hp1 := (isP_bd hp).1
  have hpp : 0 < p := by omega
  obtain ⟨a, ha⟩ : ∃ a, a = cf at_ i := ⟨_, rfl⟩
  obtain ⟨v, hv'⟩ : ∃ v, v = cf vals i := ⟨_, rfl⟩
  obtain ⟨z, hz⟩ : ∃ z, z = hvF p a s.2 := ⟨_, rfl⟩
  obtain ⟨t, ht⟩ : ∃ t, t = hvF p a s.1 := ⟨_, rfl⟩
  have hzb := hvF_bd hpp a s.2
  have hzc := hvF_cg p a s.2
  have htc := hvF_cg p a s.1
  rw [← hz] at hzb hzc
  rw [← ht] at htc
  have hz0 : 0 < z := by
    rcases Int.lt_or_le 0 z with h1 | h1
    · exact h1
    · exfalso
      have : z = 0 := by omega
      rw [this] at hzc
      obtain ⟨j, hj, hc⟩ := h.v3 a hzc.symm
      exact dif_cg hd he hi (by omega) (by omega) (ha ▸ hc)
  obtain ⟨i1, i2, i3⟩ := hiv z hz0 hzb.2
  obtain ⟨m, hm⟩ : ∃ m, m = ((v + (-t) % p) % p) * iv z % p := ⟨_, rfl⟩
  have hmb := emod_bdU hpp (((v + (-t) % p) % p) * iv z)
  rw [← hm] at hmb
  have ea : AllE p [(-a) % p, 1] := by
    intro k
    match k with
    | 0 => rw [cf_cons0]; exact emod_bdU hpp _
    | 1 => rw [cf_succ, cf_cons0]; omega
    | k + 2 => rw [cf_succ, cf_succ, cf_nil]; omega
  have ca : Can [(-a) % p, 1] := .inr (by show cf [(-a) % p, 1] 1 ≠ 0; rw [cf_succ, cf_cons0]; omega)
  have em : AllE p [m] := by
    intro k
    cases k with
    | zero => rw [cf_cons0]; exact hmb
    | succ k => rw [cf_succ, cf_nil]; omega
  have lm : (trimL [m]).length ≤ 1 := trim_len [m]
  have hS : nwS p iv s (cf at_ i) (cf vals i) = (addL p s.1 (mlU p s.2 (trimL [m])), mlU p s.2 [(-a) % p, 1]) := by
    unfold nwS; rw [← ha, ← hv', ← hz, ← ht, ← hm]
  have hmul := Cg.mod p ((v + (-t) % p) % p * iv z)
  rw [← hm] at hmul
  have e3 : ∀ x, Cg p (evU (mlU p s.2 (trimL [m])) x) (evU s.2 x * m) := fun x => (evU_mul s.2 (trimL [m]) x).trans (Cg.of_eq (by rw [evU_trim, evU_one]))
  have e4 : ∀ x, Cg p (evU (mlU p s.2 [(-a) % p, 1]) x) (evU s.2 x * (x - a)) := fun x => (evU_mul s.2 _ x).trans ((Cg.refl p _).mul (by
    rw [evU_two]
    exact ((Cg.mod p (-a)).add (Cg.refl p (x * 1))).trans (Cg.of_eq (by omega))))
  refine ⟨?_, by rw [← ha, ← hz]; exact hz0⟩
  rw [hS]
  refine ⟨addL_can _ _ _, addL_allE hpp _ _, ?_, mlU_can hp h.c2 ca h.e2 ea, mlU_allE hpp _ _, ?_, ?_, ?_, ?_⟩
  · have h1 := addL_len p s.1 (mlU p s.2 (trimL [m]))
    have h2 := mlU_len (p := p) s.2 (trimL [m])
    have := h.l1
    have := h.l2
    show (addL p s.1 (mlU p s.2 (trimL [m]))).length ≤ i + 1
    split at h2 <;> omega
  · show (mlU p s.2 [(-a) % p, 1]).length = i + 1 + 1
    have := h.l2
    rw [mlU_len, if_neg (by simp; intro e; rw [e] at this; simp at this)]
    simp; omega
  · intro j hj
    have hA := (evU_add (p := p) s.1 (mlU p s.2 (trimL [m])) (cf at_ j)).trans ((Cg.refl p _).add (e3 (cf at_ j)))
    refine hA.trans ?_
    by_cases hji : j = i
    · subst hji
      rw [← ha, ← hv']
      have h1 : Cg p (evU s.2 a * m) (z * ((v - t) * iv z)) := by
        refine (hzc.symm.mul hmul).trans ?_
        refine (Cg.refl p z).mul (((Cg.mod p _).trans ?_).mul (Cg.refl p _))
        exact ((Cg.refl p v).add (Cg.mod p (-t))).trans (Cg.of_eq (by omega))
      have h2 : Cg p (z * iv z) 1 := Cg.iff.2 (by rw [i1, Int.emod_eq_of_lt (by omega) (by omega)])
      have h3 : Cg p (z * ((v - t) * iv z)) (v - t) := by
        refine (Cg.of_eq (show z * ((v - t) * iv z) = (v - t) * (z * iv z) by grind)).trans (((Cg.refl p (v - t)).mul h2).trans (Cg.of_eq (by omega)))
      exact (htc.symm.add (h1.trans h3)).trans (Cg.of_eq (by omega))
    · have hj2 : j < i := by omega
      exact ((h.v1 j hj2).add ((h.v2 j hj2).mul (Cg.refl p m))).trans (Cg.of_eq (by omega))
  · intro j hj
    refine (e4 (cf at_ j)).trans ?_
    by_cases hji : j = i
    · subst hji
      rw [← ha]
      exact Cg.of_eq (by rw [Int.sub_self, Int.mul_zero])
    · exact ((h.v2 j (by omega)).mul (Cg.refl p _)).trans (Cg.of_eq (by omega))
  · intro x hx
    rcases cg_no_zero hp ((e4 x).symm.trans hx) with h1 | h1
    · obtain ⟨j, hj, hc⟩ := h.v3 x h1
      exact ⟨j, by omega, hc⟩
    · refine ⟨i, by omega, ?_⟩
      rw [← ha]
      exact (Cg.of_eq (show x = (x - a) + a by omega)).trans ((h1.add (Cg.refl p a)).trans (Cg.of_eq (by omega)))
theorem nwN_ok {p : Int} (hp : isP p = true) {iv : Int → Int} (hiv : InvF p iv) {at_ vals : List Int} (hd : Dif at_) (he : AllE p at_) (hv : AllE p vals) : ∀ i, i ≤ at_.length → NwOk p at_ vals i (nwN p iv at_ vals i)
  | 0, _ => by
    have hp1 := (isP_bd hp).1
    refine ⟨.inl rfl, fun k => by show 0 ≤ cf [] k ∧ cf [] k < p; rw [cf_nil]; omega, Nat.le_refl _, .inr (by show cf [1] 0 ≠ 0; rw [cf_cons0]; omega), ?_, rfl, fun j hj => by omega, fun j hj => by omega, ?_⟩
    · intro k
      show 0 ≤ cf [1] k ∧ cf [1] k < p
      cases k with
      | zero => rw [cf_cons0]; omega
      | succ k => rw [cf_succ, cf_nil]; omega
    · intro x hx
      exfalso
      have h1 : Cg p 1 0 := (Cg.of_eq (evU_one 1 x).symm).trans hx
      have := h1.eq (by omega) (by omega)
      omega
  | i + 1, hi => (nwS_ok hp hiv hd he hv (by omega) (nwN_ok hp hiv hd he hv i (by omega))).1
/-- the model's product of lines that may have zeros at the end -/
def lmL (p : Int) (f g : List Int) : List Int := trimL (lsU (f.length + g.length) (muU p f g f.length))
theorem lmL_cf {p : Int} (f g : List Int) (k : Nat) : cf (lmL p f g) k = cf (mlU p f g) k := by
  unfold lmL
  rw [trim_cf, mlU_cf, lsU_cf']
  split
  · rfl
  · exact (muU_far (by omega)).symm
theorem lmL_len {p : Int} (f g : List Int) : (lmL p f g).length ≤ f.length + g.length - 1 := by
  refine can_len (trim_can _) (fun j hj => ?_)
  show cf (lmL p f g) j = 0
  rw [lmL_cf, mlU_cf]
  exact muU_far (by omega)
theorem lmL_ev {p : Int} (f g : List Int) (x : Int) : Cg p (evU (lmL p f g) x) (evU f x * evU g x) :=
  (evU_cg (fun k => Cg.of_eq (lmL_cf f g k)) x).trans (evU_mul f g x)
theorem lmL_eq {p : Int} (hp : isP p = true) {f g : List Int} (hf : Can f) (hg : Can g) (ef : AllE p f) (eg : AllE p g) : lmL p f g = mlU p f g := mlU_trim hp hf hg ef eg rfl
/-- the factors of a point, as the model multiplies them -/
def lgK (p : Int) (iv : Int → Int) (at_ : List Int) (i : Nat) (v : Int) : Nat → List Int
  | 0 => [v]
  | k + 1 => if k = i then lgK p iv at_ i v k else lmL p (lgK p iv at_ i v k) [(-cf at_ k * iv ((cf at_ i - cf at_ k) % p)) % p, iv ((cf at_ i - cf at_ k) % p)]
def lgF (p : Int) (iv : Int → Int) (at_ vals : List Int) : Nat → List Int
  | 0 => []
  | i + 1 => subL p (lgF p iv at_ vals i) (smuL p (lgK p iv at_ i (cf vals i) at_.length) (p - 1))
theorem lgK_ok {p : Int} (hp : isP p = true) {iv : Int → Int} (hiv : InvF p iv) {at_ : List Int} (hd : Dif at_) (he : AllE p at_) {i : Nat} (hi : i < at_.length) (v : Int) : ∀ k, k ≤ at_.length →
    (lgK p iv at_ i v k).length ≤ (if i < k then k else k + 1) ∧ Cg p (evU (lgK p iv at_ i v k) (cf at_ i)) v ∧ ∀ j, j < k → j ≠ i → Cg p (evU (lgK p iv at_ i v k) (cf at_ j)) 0
  | 0, _ => ⟨by simp [lgK], by show Cg p (evU [v] _) v; rw [evU_one]; exact Cg.refl _ _, fun j hj => by omega⟩
  | k + 1, hk => by
    have hp1 := (isP_bd hp).1
    obtain ⟨h1, h2, h3⟩ := lgK_ok hp hiv hd he hi v k (by omega)
    by_cases hki : k = i
    · have e : lgK p iv at_ i v (k + 1) = lgK p iv at_ i v k := by show (if k = i then _ else _) = _; rw [if_pos hki]
      rw [e]
      refine ⟨by rw [if_pos (by omega)]; rw [if_neg (by omega)] at h1; exact h1, h2, fun j hj hji => h3 j (by omega) hji⟩
    · obtain ⟨n, hn⟩ : ∃ n, n = iv ((cf at_ i - cf at_ k) % p) := ⟨_, rfl⟩
      have e : lgK p iv at_ i v (k + 1) = lmL p (lgK p iv at_ i v k) [(-cf at_ k * n) % p, n] := by show (if k = i then _ else _) = _; rw [if_neg hki, ← hn]
      have hdb := emod_bdU (p := p) (by omega) (cf at_ i - cf at_ k)
      have hd0 : 0 < (cf at_ i - cf at_ k) % p := by
        rcases Int.lt_or_le 0 ((cf at_ i - cf at_ k) % p) with h | h
        · exact h
        · exfalso
          have h0 : (cf at_ i - cf at_ k) % p = 0 := by omega
          have hc : Cg p (cf at_ i - cf at_ k) 0 := Cg.iff.2 (by rw [h0, Int.zero_emod])
          have := hc.add (Cg.refl p (cf at_ k))
          exact dif_cg hd he hi (by omega) (fun e => hki e.symm) ((Cg.of_eq (by omega)).trans (this.trans (Cg.of_eq (by omega))))
      obtain ⟨i1, i2, i3⟩ := hiv _ hd0 hdb.2
      rw [← hn] at i1 i2 i3
      have hone : Cg p ((cf at_ i - cf at_ k) * n) 1 := ((Cg.mod p (cf at_ i - cf at_ k)).symm.mul (Cg.refl p n)).trans (Cg.iff.2 (by rw [i1, Int.emod_eq_of_lt (by omega) (by omega)]))
      have hev : ∀ x, Cg p (evU (lgK p iv at_ i v (k + 1)) x) (evU (lgK p iv at_ i v k) x * ((x - cf at_ k) * n)) := fun x => by
        rw [e]
        refine (lmL_ev _ _ x).trans ((Cg.refl p _).mul ?_)
        rw [evU_two]
        exact ((Cg.mod p _).add (Cg.refl p (x * n))).trans (Cg.of_eq (by grind))
      refine ⟨?_, ?_, fun j hj hji => ?_⟩
      · rw [e]
        have := lmL_len (p := p) (lgK p iv at_ i v k) [(-cf at_ k * n) % p, n]
        simp only [List.length_cons, List.length_nil] at this
        split
        · rw [if_pos (by omega)] at h1; omega
        · rw [if_neg (by omega)] at h1; omega
      · exact (hev _).trans ((h2.mul hone).trans (Cg.of_eq (by omega)))
      · refine (hev _).trans ?_
        by_cases hjk : j = k
        · subst hjk
          exact Cg.of_eq (by rw [Int.sub_self, Int.zero_mul, Int.mul_zero])
        · exact ((h3 j (by omega) hji).mul (Cg.refl p _)).trans (Cg.of_eq (by omega))
theorem lgF_ok {p : Int} (hp : isP p = true) {iv : Int → Int} (hiv : InvF p iv) {at_ vals : List Int} (hd : Dif at_) (he : AllE p at_) (hv : AllE p vals) : ∀ i, i ≤ at_.length →
    Can (lgF p iv at_ vals i) ∧ AllE p (lgF p iv at_ vals i) ∧ (lgF p iv at_ vals i).length ≤ at_.length ∧ (∀ j, j < i → Cg p (evU (lgF p iv at_ vals i) (cf at_ j)) (cf vals j)) ∧ ∀ j, i ≤ j → j < at_.length → Cg p (evU (lgF p iv at_ vals i) (cf at_ j)) 0
  | 0, _ => ⟨.inl rfl, fun k => by have := (isP_bd hp).1; show 0 ≤ cf [] k ∧ cf [] k < p; rw [cf_nil]; omega, Nat.zero_le _, fun j hj => by omega, fun j _ _ => Cg.refl _ _⟩
  | i + 1, hi => by
    have hp1 := (isP_bd hp).1
    obtain ⟨_, _, h3, h4, h5⟩ := lgF_ok hp hiv hd he hv i (by omega)
    obtain ⟨k1, k2, k3⟩ := lgK_ok hp hiv hd he (i := i) (by omega) (cf vals i) at_.length (Nat.le_refl _)
    rw [if_pos (by omega)] at k1
    have hev : ∀ x, Cg p (evU (lgF p iv at_ vals (i + 1)) x) (evU (lgF p iv at_ vals i) x + evU (lgK p iv at_ i (cf vals i) at_.length) x) := fun x => by
      refine (evU_sub (p := p) (lgF p iv at_ vals i) _ x).trans ?_
      refine (((Cg.refl p _).sub (evU_smu (p := p) (lgK p iv at_ i (cf vals i) at_.length) (p - 1) x))).trans ?_
      exact ⟨-evU (lgK p iv at_ i (cf vals i) at_.length) x, by grind⟩
    refine ⟨subL_can _ _ _, subL_allE (by omega) _ _, ?_, fun j hj => ?_, fun j h1 h2 => ?_⟩
    · have h1 := subL_len p (lgF p iv at_ vals i) (smuL p (lgK p iv at_ i (cf vals i) at_.length) (p - 1))
      have h2 := smuL_len p (lgK p iv at_ i (cf vals i) at_.length) (p - 1)
      show (subL p _ _).length ≤ _
      omega
    · refine (hev _).trans ?_
      by_cases hji : j = i
      · subst hji
        exact ((h5 j (Nat.le_refl _) (by omega)).add k2).trans (Cg.of_eq (by omega))
      · exact ((h4 j (by omega)).add (k3 j (by omega) hji)).trans (Cg.of_eq (by omega))
    · exact (hev _).trans (((h5 j (by omega) h2).add (k3 j h2 (by omega))).trans (Cg.of_eq (by omega)))
theorem dif_pair {p : Int} {L : List Int} (hd : Dif L) (he : AllE p L) : L.Pairwise (fun a b => ¬ Cg p (b - a) 0) := by
  rw [List.pairwise_iff_getElem]
  intro i j hi hj hij hc
  have e1 : L[i] = cf L i := by simp [cf, hi]
  have e2 : L[j] = cf L j := by simp [cf, hj]
  rw [e1, e2] at hc
  have := hc.add (Cg.refl p (cf L i))
  exact dif_cg hd he hj hi (by omega) ((Cg.of_eq (by omega)).trans (this.trans (Cg.of_eq (by omega))))
/-- what both make of points is the same -/
theorem through_eq {p : Int} (hp : isP p = true) {iv : Int → Int} (hiv : InvF p iv) {at_ vals : List Int} (hd : Dif at_) (he : AllE p at_) (hv : AllE p vals) : (nwN p iv at_ vals at_.length).1 = lgF p iv at_ vals at_.length := by
  have h := nwN_ok hp hiv hd he hv at_.length (Nat.le_refl _)
  obtain ⟨k1, k2, k3, k4, _⟩ := lgF_ok hp hiv hd he hv at_.length (Nat.le_refl _)
  refine interp_uniq hp h.c1 k1 h.e1 k2 h.l1 k3 (dif_pair hd he) (fun a ha => ?_)
  obtain ⟨j, hj, rfl⟩ := List.mem_iff_getElem.1 ha
  have e1 : at_[j] = cf at_ j := by simp [cf, hj]
  rw [e1]
  exact (h.v1 j hj).trans (k4 j hj).symm
end Go.Proofs.Ytfmpcniehgipfaa
