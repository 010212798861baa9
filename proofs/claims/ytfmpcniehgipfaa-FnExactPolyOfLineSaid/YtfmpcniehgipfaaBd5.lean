/-
  Plain mathematics of small prime fields: no Go in sight. Conditions: none.
  Lines of one unknown as lists of numbers: elements, sums and products. Mathematics alone. Conditions: none.
-/
import Derived.Below
import Derived.Test.YtfmpcniehgipfaaBd1
namespace Go.Proofs.Ytfmpcniehgipfaa
/-- the primes of the document -/
def isP (p : Int) : Bool := p == 2 || p == 3 || p == 5 || p == 7 || p == 11 || p == 13
theorem isP_cases {p : Int} (h : isP p = true) : p = 2 ∨ p = 3 ∨ p = 5 ∨ p = 7 ∨ p = 11 ∨ p = 13 := by
  simpa [isP, or_assoc] using h
theorem isP_bd {p : Int} (h : isP p = true) : 2 ≤ p ∧ p ≤ 13 := by
  have := isP_cases h; omega
theorem isP_no {p : Int} (h : isP p = false) : (p == 2) = false ∧ (p == 3) = false ∧ (p == 5) = false ∧ (p == 7) = false ∧ (p == 11) = false ∧ (p == 13) = false := by
  simpa [isP, and_assoc] using h
/-- an element of the field -/
def isE (p a : Int) : Bool := decide (0 ≤ a) && decide (a < p)
theorem isE_iff {p a : Int} : isE p a = true ↔ 0 ≤ a ∧ a < p := by simp [isE]
theorem isE_no {p a : Int} (h : isE p a = false) : a < 0 ∨ (0 ≤ a ∧ p ≤ a) := by
  have : ¬ (0 ≤ a ∧ a < p) := by rw [← isE_iff]; simp [h]
  omega
theorem tmod_bd (n p : Int) (h : 0 < p) : - p < n.tmod p ∧ n.tmod p < p := by
  have h1 := Int.tmod_lt_of_pos n h
  have h2 : -p < n.tmod p := by
    by_cases h0 : 0 ≤ n
    · have := Int.tmod_nonneg p h0; omega
    · have h3 := Int.tmod_lt_of_pos (-n) h
      rw [Int.neg_tmod] at h3; omega
  exact ⟨h2, h1⟩
theorem tmod_add_mod (n p : Int) (_ : 0 < p) : (n.tmod p + p) % p = n % p := by
  rw [Int.add_emod_right]
  have h1 := Int.mul_tdiv_add_tmod n p
  conv => rhs; rw [← h1]
  rw [Int.add_comm, Int.add_mul_emod_self_left]
end Go.Proofs.Ytfmpcniehgipfaa
namespace Go.Proofs.Ytfmpcniehgipfaa
set_option linter.unusedVariables false
/-- the element before a power -/
def cf (L : List Int) (k : Nat) : Int := L.getD k 0
theorem cf_ge {L : List Int} {k : Nat} (h : L.length ≤ k) : cf L k = 0 := by
  unfold cf; rw [List.getD_eq_getElem?_getD, List.getElem?_eq_none h]; rfl
theorem cf_nil (k : Nat) : cf [] k = 0 := cf_ge (Nat.zero_le _)
theorem cf_cons0 (a : Int) (r : List Int) : cf (a :: r) 0 = a := rfl
theorem cf_succ (a : Int) (r : List Int) (k : Nat) : cf (a :: r) (k + 1) = cf r k := rfl
/-- the first n values of a function -/
def lsU (n : Nat) (c : Nat → Int) : List Int := (List.range n).map c
theorem lsU_len (n : Nat) (c : Nat → Int) : (lsU n c).length = n := by simp [lsU]
theorem lsU_cf {n : Nat} {c : Nat → Int} {k : Nat} (h : k < n) : cf (lsU n c) k = c k := by simp [cf, lsU, h]
theorem lsU_cf' (n : Nat) (c : Nat → Int) (k : Nat) : cf (lsU n c) k = if k < n then c k else 0 := by
  split
  · rename_i h; exact lsU_cf h
  · rename_i h; exact cf_ge (by rw [lsU_len]; omega)
theorem cf_ext {A B : List Int} (hl : A.length = B.length) (h : ∀ k, k < A.length → cf A k = cf B k) : A = B := by
  apply List.ext_getElem hl
  intro j h1 h2
  have := h j h1
  simpa [cf, h1, h2] using this
theorem lsU_of (L : List Int) : lsU L.length (cf L) = L := cf_ext (lsU_len _ _) (fun k hk => lsU_cf (by rwa [lsU_len] at hk))
theorem lsU_ext {n : Nat} {c d : Nat → Int} (h : ∀ k, k < n → c k = d k) : lsU n c = lsU n d :=
  cf_ext (by rw [lsU_len, lsU_len]) (fun k hk => by rw [lsU_len] at hk; rw [lsU_cf hk, lsU_cf hk, h k hk])
theorem lsU_snoc (n : Nat) (c : Nat → Int) : lsU (n + 1) c = lsU n c ++ [c n] := by simp [lsU, List.range_succ]
theorem cf_set (L : List Int) (j : Nat) (y : Int) (k : Nat) (h : j < L.length) : cf (L.set j y) k = if k = j then y else cf L k := by
  unfold cf
  rw [List.getD_eq_getElem?_getD, List.getElem?_set]
  by_cases e : j = k
  · subst e; rw [if_pos rfl, if_pos rfl, if_pos h]; rfl
  · rw [if_neg e, if_neg (fun q => e q.symm), List.getD_eq_getElem?_getD]
theorem lsU_set {n : Nat} {c d : Nat → Int} {j : Nat} {y : Int} (hj : j < n) (h : ∀ k, k < n → d k = if k = j then y else c k) : (lsU n c).set j y = lsU n d := by
  refine cf_ext (by rw [List.length_set, lsU_len, lsU_len]) (fun k hk => ?_)
  rw [List.length_set, lsU_len] at hk
  rw [cf_set _ _ _ _ (by rw [lsU_len]; exact hj), lsU_cf hk, lsU_cf hk, h k hk]
/-- the last element is not 0 -/
def Can (L : List Int) : Prop := L.length = 0 ∨ cf L (L.length - 1) ≠ 0
/-- all are elements -/
def AllE (p : Int) (L : List Int) : Prop := ∀ k, 0 ≤ cf L k ∧ cf L k < p
theorem Can.nil : Can [] := .inl rfl
theorem can_ext {A B : List Int} (hA : Can A) (hB : Can B) (h : ∀ k, cf A k = cf B k) : A = B := by
  refine cf_ext ?_ (fun k _ => h k)
  rcases Nat.lt_trichotomy A.length B.length with hl | hl | hl
  · exfalso
    rcases hB with hB | hB
    · omega
    · exact hB (by rw [← h]; exact cf_ge (by omega))
  · exact hl
  · exfalso
    rcases hA with hA | hA
    · omega
    · exact hA (by rw [h]; exact cf_ge (by omega))
theorem allE_of {p : Int} (hp : 0 < p) {L : List Int} (h : L.all (isE p) = true) : AllE p L := by
  intro k
  by_cases hk : k < L.length
  · have := List.all_eq_true.1 h L[k] (List.getElem_mem hk)
    rw [isE_iff] at this
    simpa [cf, hk] using this
  · rw [cf_ge (by omega)]; omega
theorem all_of {p : Int} {L : List Int} (h : AllE p L) : L.all (isE p) = true := by
  rw [List.all_eq_true]
  intro x hx
  obtain ⟨k, hk, rfl⟩ := List.mem_iff_getElem.1 hx
  rw [isE_iff]
  simpa [cf, hk] using h k
theorem allE_lst {p : Int} (hp : 0 < p) {n : Nat} {c : Nat → Int} (h : ∀ k, k < n → 0 ≤ c k ∧ c k < p) : AllE p (lsU n c) := by
  intro k
  rw [lsU_cf']
  split
  · rename_i hk; exact h k hk
  · omega
/-- the zeros at the end fall away -/
def trimL : List Int → List Int
  | [] => []
  | a :: r => if trimL r = [] ∧ a = 0 then [] else a :: trimL r
theorem trim_cf : ∀ (L : List Int) (k : Nat), cf (trimL L) k = cf L k
  | [], _ => rfl
  | a :: r, k => by
    unfold trimL
    split
    · rename_i h
      obtain ⟨h1, h2⟩ := h
      cases k with
      | zero => rw [cf_nil, cf_cons0, h2]
      | succ k => rw [cf_nil, cf_succ, ← trim_cf r k, h1, cf_nil]
    · cases k with
      | zero => rfl
      | succ k => rw [cf_succ, cf_succ, trim_cf r k]
theorem trim_can : ∀ L : List Int, Can (trimL L)
  | [] => .inl rfl
  | a :: r => by
    unfold trimL
    split
    · exact .inl rfl
    · rename_i h
      right
      rcases trim_can r with h2 | h2
      · have e : trimL r = [] := List.length_eq_zero_iff.1 h2
        rw [e]
        intro h3
        exact h ⟨e, h3⟩
      · cases e : trimL r with
        | nil => intro h3; exact h ⟨e, h3⟩
        | cons b s => rw [e] at h2; exact h2
theorem trim_len : ∀ L : List Int, (trimL L).length ≤ L.length
  | [] => Nat.le_refl _
  | a :: r => by
    unfold trimL
    split
    · simp
    · have := trim_len r; simp; omega
theorem trim_of {L : List Int} (h : Can L) : trimL L = L := can_ext (trim_can L) h (trim_cf L)
/-- what is left where the zeros from k on were cut off -/
theorem trim_take {L : List Int} {k : Nat} (hk : k ≤ L.length) (hz : ∀ j, k ≤ j → cf L j = 0) (he : k = 0 ∨ cf L (k - 1) ≠ 0) : L.take k = trimL L := by
  have hl : (L.take k).length = k := by simp; omega
  have hc : ∀ j, cf (L.take k) j = cf L j := by
    intro j
    by_cases h : j < k
    · simp [cf, List.getD_eq_getElem?_getD, h]
    · rw [cf_ge (by omega), hz j (by omega)]
  refine can_ext ?_ (trim_can L) (fun j => by rw [hc, trim_cf])
  rcases he with he | he
  · exact .inl (by omega)
  · right; rw [hl, hc]; exact he
theorem trim_allE {p : Int} {L : List Int} (h : AllE p L) : AllE p (trimL L) := fun k => by rw [trim_cf]; exact h k
/-- the length of a trimmed list where all from k on is 0 -/
theorem can_len {L : List Int} (h : Can L) {k : Nat} (hz : ∀ j, k ≤ j → cf L j = 0) : L.length ≤ k := by
  rcases h with h | h
  · omega
  · rcases Nat.lt_or_ge k L.length with hl | hl
    · exact absurd (hz _ (by omega)) h
    · exact hl
/-- products of functions as those of polynomials -/
def cvU : (Nat → Int) → (Nat → Int) → Nat → Int
  | c, h, 0 => c 0 * h 0
  | c, h, k + 1 => c 0 * h (k + 1) + cvU (fun i => c (i + 1)) h k
theorem cvU_addL : ∀ (k : Nat) (a b h : Nat → Int), cvU (fun i => a i + b i) h k = cvU a h k + cvU b h k
  | 0, a, b, h => by simp only [cvU]; grind
  | k + 1, a, b, h => by
    have := cvU_addL k (fun i => a (i + 1)) (fun i => b (i + 1)) h
    simp only [cvU] at this ⊢; grind
theorem cvU_mulL : ∀ (k : Nat) (t : Int) (a h : Nat → Int), cvU (fun i => t * a i) h k = t * cvU a h k
  | 0, t, a, h => by simp only [cvU]; grind
  | k + 1, t, a, h => by
    have := cvU_mulL k t (fun i => a (i + 1)) h
    simp only [cvU] at this ⊢; grind
theorem cvU_last : ∀ (k : Nat) (c h : Nat → Int), cvU c h (k + 1) = cvU c (fun i => h (i + 1)) k + c (k + 1) * h 0
  | 0, c, h => by simp only [cvU]
  | k + 1, c, h => by
    have := cvU_last k (fun i => c (i + 1)) h
    have e : cvU c h (k + 2) = c 0 * h (k + 2) + cvU (fun i => c (i + 1)) h (k + 1) := rfl
    have e2 : cvU c (fun i => h (i + 1)) (k + 1) = c 0 * h (k + 2) + cvU (fun i => c (i + 1)) (fun i => h (i + 1)) k := rfl
    rw [e, e2, this]; grind
theorem cvU_comm : ∀ (k : Nat) (c h : Nat → Int), cvU c h k = cvU h c k
  | 0, c, h => by simp only [cvU]; grind
  | k + 1, c, h => by
    have := cvU_comm k (fun i => c (i + 1)) h
    rw [cvU_last k h c]
    show c 0 * h (k + 1) + cvU (fun i => c (i + 1)) h k = _
    rw [this]; grind
theorem cvU_addR (k : Nat) (a b h : Nat → Int) : cvU h (fun i => a i + b i) k = cvU h a k + cvU h b k := by
  rw [cvU_comm, cvU_addL, cvU_comm k a, cvU_comm k b]
theorem cvU_mulR (k : Nat) (t : Int) (a h : Nat → Int) : cvU h (fun i => t * a i) k = t * cvU h a k := by
  rw [cvU_comm, cvU_mulL, cvU_comm k a]
theorem cvU_cg {p : Int} : ∀ (k : Nat) {a b c d : Nat → Int}, (∀ i, Cg p (a i) (b i)) → (∀ i, Cg p (c i) (d i)) → Cg p (cvU a c k) (cvU b d k)
  | 0, _, _, _, _, h, g => (h 0).mul (g 0)
  | k + 1, _, _, _, _, h, g => ((h 0).mul (g (k + 1))).add (cvU_cg k (fun i => h (i + 1)) g)
theorem cvU_ext : ∀ (k : Nat) {a b c d : Nat → Int}, (∀ i, i ≤ k → a i = b i) → (∀ i, i ≤ k → c i = d i) → cvU a c k = cvU b d k
  | 0, _, _, _, _, h, g => by simp only [cvU]; rw [h 0 (Nat.le_refl _), g 0 (Nat.le_refl _)]
  | k + 1, _, _, _, _, h, g => by
    simp only [cvU]
    rw [h 0 (Nat.zero_le _), g (k + 1) (Nat.le_refl _), cvU_ext k (fun i hi => h (i + 1) (by omega)) (fun i hi => g i (by omega))]
theorem cvU_assoc : ∀ (k : Nat) (a b c : Nat → Int), cvU (cvU a b) c k = cvU a (cvU b c) k
  | 0, a, b, c => by simp only [cvU]; grind
  | k + 1, a, b, c => by
    have ih := cvU_assoc k (fun i => a (i + 1)) b c
    have e1 : cvU (cvU a b) c (k + 1) = (a 0 * b 0) * c (k + 1) + cvU (fun i => a 0 * b (i + 1) + cvU (fun i => a (i + 1)) b i) c k := rfl
    have e2 : cvU a (cvU b c) (k + 1) = a 0 * (b 0 * c (k + 1) + cvU (fun i => b (i + 1)) c k) + cvU (fun i => a (i + 1)) (cvU b c) k := rfl
    rw [e1, e2, cvU_addL, cvU_mulL, ← ih]
    show _ = _ + cvU (cvU (fun i => a (i + 1)) b) c k
    grind
theorem cvU_zeroL : ∀ (k : Nat) (h : Nat → Int), cvU (fun _ => 0) h k = 0
  | 0, h => by simp [cvU]
  | k + 1, h => by simp only [cvU]; rw [cvU_zeroL k h]; omega
theorem cvU_zeroR (k : Nat) (h : Nat → Int) : cvU h (fun _ => 0) k = 0 := by rw [cvU_comm]; exact cvU_zeroL k h
/-- the power 0 with 1 -/
def one0 (k : Nat) : Int := if k = 0 then 1 else 0
theorem cvU_one (k : Nat) (h : Nat → Int) : cvU one0 h k = h k := by
  cases k with
  | zero => simp [cvU, one0]
  | succ k =>
    show one0 0 * h (k + 1) + cvU (fun i => one0 (i + 1)) h k = _
    have : (fun i => one0 (i + 1)) = fun _ => 0 := by funext i; simp [one0]
    rw [this, cvU_zeroL]; simp [one0]
/-- where factors are 0 from some place on, the product is -/
theorem cvU_top : ∀ (m n : Nat) {a b : Nat → Int}, (∀ i, m ≤ i → a i = 0) → (∀ i, n ≤ i → b i = 0) → ∀ k, m + n ≤ k + 1 → cvU a b k = 0
  | 0, n, a, b, ha, hb, k, _ => by
    have : a = fun _ => 0 := by funext i; exact ha i (Nat.zero_le _)
    rw [this, cvU_zeroL]
  | m + 1, n, a, b, ha, hb, 0, h => by
    show a 0 * b 0 = 0
    rw [hb 0 (by omega)]; omega
  | m + 1, n, a, b, ha, hb, k + 1, h => by
    show a 0 * b (k + 1) + cvU (fun i => a (i + 1)) b k = 0
    rw [hb (k + 1) (by omega), cvU_top m n (fun i hi => ha (i + 1) (by omega)) hb k (by omega)]; omega
/-- the product of the last elements is the last element -/
theorem cvU_lead : ∀ (m n : Nat) {a b : Nat → Int}, (∀ i, m + 1 ≤ i → a i = 0) → (∀ i, n + 1 ≤ i → b i = 0) → cvU a b (m + n) = a m * b n
  | 0, n, a, b, ha, hb => by
    have : cvU a b (0 + n) = cvU (fun i => a 0 * one0 i) b (0 + n) := cvU_ext _ (fun i _ => by
      cases i with
      | zero => simp [one0]
      | succ i => rw [ha (i + 1) (by omega)]; simp [one0]) (fun _ _ => rfl)
    rw [this, cvU_mulL]
    show a 0 * cvU one0 b (0 + n) = _
    rw [cvU_one, Nat.zero_add]
  | m + 1, n, a, b, ha, hb => by
    rw [show m + 1 + n = (m + n) + 1 by omega]
    show a 0 * b (m + n + 1) + cvU (fun i => a (i + 1)) b (m + n) = _
    rw [hb (m + n + 1) (by omega), cvU_lead m n (fun i hi => ha (i + 1) (by omega)) hb]; omega
theorem cvU_ind : ∀ (i m : Nat) (t : Int) (g : Nat → Int), cvU (fun j => if j = i then t else 0) g m = if i ≤ m then t * g (m - i) else 0 := by
  intro i
  induction i with
  | zero =>
    intro m t g
    have : (fun j => if j = 0 then t else 0) = fun j => t * one0 j := by funext j; unfold one0; split <;> simp
    rw [this, cvU_mulL]
    show t * cvU one0 g m = _
    rw [cvU_one, if_pos (Nat.zero_le _), Nat.sub_zero]
  | succ i ih =>
    intro m t g
    cases m with
    | zero => simp [cvU]
    | succ m =>
      show (if 0 = i + 1 then t else 0) * g (m + 1) + cvU (fun j => if j + 1 = i + 1 then t else 0) g m = _
      have : (fun j => if j + 1 = i + 1 then t else 0) = fun j => if j = i then t else 0 := by funext j; by_cases h : j = i <;> simp [h]
      rw [this, ih, if_neg (by omega)]
      by_cases h : i ≤ m
      · rw [if_pos h, if_pos (by omega), show m + 1 - (i + 1) = m - i by omega]; omega
      · rw [if_neg h, if_neg (by omega)]; omega
/-- what one row of a product adds -/
def rowF (p : Int) (f g : List Int) (u : Nat → Int) (i k : Nat) (m : Nat) : Int := if i ≤ m ∧ m < i + k then (u m + cf f i * cf g (m - i)) % p else u m
theorem rowF_zero (p : Int) (f g : List Int) (u : Nat → Int) (i m : Nat) : rowF p f g u i 0 m = u m := by
  unfold rowF; rw [if_neg (by omega)]
theorem rowF_at (p : Int) (f g : List Int) (u : Nat → Int) (i k : Nat) : rowF p f g u i k (i + k) = u (i + k) := by
  unfold rowF; rw [if_neg (by omega)]
theorem rowF_step (p : Int) (f g : List Int) (u : Nat → Int) (i k m : Nat) :
    rowF p f g u i (k + 1) m = if m = i + k then (u (i + k) + cf f i * cf g k) % p else rowF p f g u i k m := by
  unfold rowF
  by_cases h : m = i + k
  · subst h
    rw [if_pos (by omega), if_pos rfl, Nat.add_sub_cancel_left]
  · rw [if_neg h]
    by_cases h2 : i ≤ m ∧ m < i + k
    · rw [if_pos h2, if_pos (by omega)]
    · rw [if_neg h2, if_neg (by omega)]
/-- the sums of a product behind some rows -/
def muU (p : Int) (f g : List Int) : Nat → Nat → Int
  | 0 => fun _ => 0
  | i + 1 => rowF p f g (muU p f g i) i g.length
theorem muU_bd {p : Int} (hp : 0 < p) (f g : List Int) : ∀ i m, 0 ≤ muU p f g i m ∧ muU p f g i m < p
  | 0, m => by show (0 : Int) ≤ 0 ∧ (0 : Int) < p; omega
  | i + 1, m => by
    show 0 ≤ rowF p f g _ i _ m ∧ rowF p f g _ i _ m < p
    unfold rowF
    split
    · exact ⟨Int.emod_nonneg _ (by omega), Int.emod_lt_of_pos _ hp⟩
    · exact muU_bd hp f g i m
theorem rowF_bd {p : Int} (hp : 0 < p) (f g : List Int) (i k m : Nat) : 0 ≤ rowF p f g (muU p f g i) i k m ∧ rowF p f g (muU p f g i) i k m < p := by
  unfold rowF
  split
  · exact ⟨Int.emod_nonneg _ (by omega), Int.emod_lt_of_pos _ hp⟩
  · exact muU_bd hp f g i m
theorem muU_far {p : Int} {f g : List Int} : ∀ {i m : Nat}, i + g.length ≤ m + 1 → muU p f g i m = 0
  | 0, m, _ => rfl
  | i + 1, m, h => by
    show rowF p f g _ i _ m = 0
    unfold rowF
    rw [if_neg (by omega)]
    exact muU_far (by omega)
/-- the first rows of f alone -/
theorem muU_cg (p : Int) (f g : List Int) : ∀ i m, Cg p (muU p f g i m) (cvU (fun j => if j < i then cf f j else 0) (cf g) m)
  | 0, m => by
    have : (fun j => if j < 0 then cf f j else 0) = fun _ : Nat => (0 : Int) := by funext j; rw [if_neg (by omega)]
    rw [this, cvU_zeroL]; exact Cg.refl _ _
  | i + 1, m => by
    have e : cvU (fun j => if j < i + 1 then cf f j else 0) (cf g) m = cvU (fun j => if j < i then cf f j else 0) (cf g) m + cvU (fun j => if j = i then cf f i else 0) (cf g) m := by
      rw [← cvU_addL]
      refine cvU_ext m (fun j _ => ?_) (fun _ _ => rfl)
      by_cases h1 : j < i
      · rw [if_pos (by omega), if_pos h1, if_neg (by omega)]; omega
      · by_cases h2 : j = i
        · subst h2; rw [if_pos (by omega), if_neg h1, if_pos rfl]; omega
        · rw [if_neg (by omega), if_neg h1, if_neg h2]; omega
    rw [e, cvU_ind]
    have ih := muU_cg p f g i m
    show Cg p (rowF p f g _ i _ m) _
    unfold rowF
    split
    · rename_i h
      rw [if_pos h.1]
      exact (Cg.mod _ _).trans (ih.add (Cg.refl _ _))
    · rename_i h
      by_cases h1 : i ≤ m
      · rw [if_pos h1, cf_ge (L := g) (by omega)]
        exact ih.trans (Cg.of_eq (by omega))
      · rw [if_neg h1]
        exact ih.trans (Cg.of_eq (by omega))
theorem muU_all (p : Int) (f g : List Int) (m : Nat) : Cg p (muU p f g f.length m) (cvU (cf f) (cf g) m) := by
  refine (muU_cg p f g f.length m).trans (Cg.of_eq (cvU_ext m (fun j _ => ?_) (fun _ _ => rfl)))
  by_cases h : j < f.length
  · rw [if_pos h]
  · rw [if_neg h, cf_ge (by omega)]
/-- the product of two lines -/
def mlU (p : Int) (f g : List Int) : List Int := if f.length = 0 ∨ g.length = 0 then [] else lsU (f.length + g.length - 1) (muU p f g f.length)
theorem mlU_cf {p : Int} {f g : List Int} (k : Nat) : cf (mlU p f g) k = muU p f g f.length k := by
  unfold mlU
  split
  · rename_i h
    rw [cf_nil]
    rcases h with h | h
    · rw [h]; rfl
    · have : ∀ i, muU p f g i k = 0 := by
        intro i
        induction i with
        | zero => rfl
        | succ i ih =>
          show rowF p f g _ i _ k = 0
          unfold rowF
          rw [if_neg (by omega)]; exact ih
      rw [this]
  · rw [lsU_cf']
    split
    · rfl
    · exact (muU_far (by omega)).symm
theorem mlU_cg {p : Int} (f g : List Int) (k : Nat) : Cg p (cf (mlU p f g) k) (cvU (cf f) (cf g) k) := by
  rw [mlU_cf]; exact muU_all p f g k
theorem mlU_allE {p : Int} (hp : 0 < p) (f g : List Int) : AllE p (mlU p f g) := fun k => by rw [mlU_cf]; exact muU_bd hp f g _ k
theorem mlU_len {p : Int} (f g : List Int) : (mlU p f g).length = if f.length = 0 ∨ g.length = 0 then 0 else f.length + g.length - 1 := by
  unfold mlU
  split
  · rfl
  · rw [lsU_len]
/-- a prime has no divisors of 0 -/
theorem no_zero {p a b : Int} (hp : isP p = true) (ha0 : 0 ≤ a) (ha1 : a < p) (hb0 : 0 ≤ b) (hb1 : b < p) (ha : a ≠ 0) (hb : b ≠ 0) : a * b % p ≠ 0 := by
  have key : ∀ q ∈ [2, 3, 5, 7, 11, 13], ∀ a, a < q → ∀ b, b < q → a ≠ 0 → b ≠ 0 → a * b % q ≠ 0 := by decide +kernel
  obtain ⟨q, rfl⟩ := Int.eq_ofNat_of_zero_le (show 0 ≤ p by omega)
  obtain ⟨a, rfl⟩ := Int.eq_ofNat_of_zero_le ha0
  obtain ⟨b, rfl⟩ := Int.eq_ofNat_of_zero_le hb0
  have hq : q ∈ [2, 3, 5, 7, 11, 13] := by
    have := isP_cases hp
    simp only [List.mem_cons, List.not_mem_nil, or_false]
    omega
  have := key q hq a (by omega) b (by omega) (by omega) (by omega)
  intro h
  apply this
  exact_mod_cast h
theorem mlU_can {p : Int} (hp : isP p = true) {f g : List Int} (hf : Can f) (hg : Can g) (ef : AllE p f) (eg : AllE p g) : Can (mlU p f g) := by
  have hp1 := (isP_bd hp).1
  rcases hf with hf | hf
  · left; rw [mlU_len, if_pos (.inl hf)]
  rcases hg with hg | hg
  · left; rw [mlU_len, if_pos (.inr hg)]
  have hf0 : 0 < f.length := by rcases Nat.eq_zero_or_pos f.length with h | h; · exact absurd (cf_ge (by omega)) hf
                                · exact h
  have hg0 : 0 < g.length := by rcases Nat.eq_zero_or_pos g.length with h | h; · exact absurd (cf_ge (by omega)) hg
                                · exact h
  right
  have hl : (mlU p f g).length - 1 = (f.length - 1) + (g.length - 1) := by rw [mlU_len, if_neg (by omega)]; omega
  rw [hl]
  intro h
  have h1 := (mlU_cg (p := p) f g (f.length - 1 + (g.length - 1))).symm
  rw [h, cvU_lead (f.length - 1) (g.length - 1) (fun i hi => cf_ge (by omega)) (fun i hi => cf_ge (by omega))] at h1
  have := h1.emod
  rw [Int.zero_emod] at this
  exact no_zero hp (ef _).1 (ef _).2 (eg _).1 (eg _).2 hf hg this
/-- the model's product -/
theorem mlU_trim {p : Int} (hp : isP p = true) {f g : List Int} (hf : Can f) (hg : Can g) (ef : AllE p f) (eg : AllE p g) {n : Nat} (hn : n = f.length + g.length) :
    trimL (lsU n (muU p f g f.length)) = mlU p f g := by
  refine can_ext (trim_can _) (mlU_can hp hf hg ef eg) (fun k => ?_)
  rw [trim_cf, mlU_cf, lsU_cf']
  split
  · rfl
  · exact (muU_far (by omega)).symm
end Go.Proofs.Ytfmpcniehgipfaa
