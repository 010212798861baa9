/-
  Lists of terms, of no program: the order of powers, where a term belongs, what adding it makes. Conditions: none.
  Sums over lists of terms: what adding terms does to values and to single powers, and that a sum of terms is known by them. Mathematics alone. Conditions: none.
-/
namespace Go.Proofs.Ytfmpcniehgipfaa
/-- a term: three exponents and the element -/
structure Trm where
  a : Int
  b : Int
  c : Int
  t : Int
deriving DecidableEq
instance : Inhabited Trm := ⟨⟨0, 0, 0, 0⟩⟩
def powB (n : Int) : Bool := decide (0 ≤ n) && decide (n ≤ 9)
def powsB (a b c : Int) : Bool := powB a && powB b && powB c
def befB (a b c d e f : Int) : Bool := if a != d then decide (d < a) else if b != e then decide (e < b) else if c != f then decide (f < c) else false
def bef (x y : Trm) : Bool := befB x.a x.b x.c y.a y.b y.c
def samB (x y : Trm) : Bool := x.a == y.a && x.b == y.b && x.c == y.c
theorem befB_iff {a b c d e f : Int} : befB a b c d e f = true ↔ d < a ∨ (a = d ∧ (e < b ∨ (b = e ∧ f < c))) := by
  unfold befB
  by_cases h1 : a = d
  · subst h1
    by_cases h2 : b = e
    · subst h2
      by_cases h3 : c = f
      · subst h3; simp
      · simp [h3]
    · simp [h2]
  · simp [h1]
theorem bef_iff {x y : Trm} : bef x y = true ↔ y.a < x.a ∨ (x.a = y.a ∧ (y.b < x.b ∨ (x.b = y.b ∧ y.c < x.c))) := befB_iff
theorem samB_iff {x y : Trm} : samB x y = true ↔ x.a = y.a ∧ x.b = y.b ∧ x.c = y.c := by simp [samB, and_assoc]
theorem bef_trans {x y z : Trm} (h1 : bef x y = true) (h2 : bef y z = true) : bef x z = true := by
  rw [bef_iff] at *; omega
theorem bef_not {x y : Trm} (h : bef x y = true) : bef y x = false := by
  cases h2 : bef y x
  · rfl
  · rw [bef_iff] at *; omega
theorem bef_tri {x y : Trm} (h1 : bef x y = false) (h2 : samB x y = false) : bef y x = true := by
  cases h3 : bef y x
  · exfalso
    have e1 : ¬ bef x y = true := by simp [h1]
    have e2 : ¬ samB x y = true := by simp [h2]
    have e3 : ¬ bef y x = true := by simp [h3]
    rw [bef_iff] at e1 e3
    rw [samB_iff] at e2
    omega
  · rfl
theorem bef_sam {x y z : Trm} (h : samB x y = true) (h2 : bef y z = true) : bef x z = true := by
  rw [samB_iff] at h; rw [bef_iff] at *; omega
theorem bef_sam' {x y z : Trm} (h : samB x y = true) (h2 : bef z y = true) : bef z x = true := by
  rw [samB_iff] at h; rw [bef_iff] at *; omega
/-- how many terms at the head stand before x -/
def plc (x : Trm) : List Trm → Nat
  | [] => 0
  | y :: r => if bef y x = true then plc x r + 1 else 0
theorem plc_le (x : Trm) : ∀ L : List Trm, plc x L ≤ L.length
  | [] => Nat.le_refl _
  | y :: r => by
    unfold plc
    have := plc_le x r
    split <;> simp <;> omega
theorem plc_lt {x : Trm} : ∀ {L : List Trm} {j : Nat}, j < plc x L → bef (L.getD j default) x = true
  | [], j, h => by simp [plc] at h
  | y :: r, j, h => by
    unfold plc at h
    split at h
    · cases j with
      | zero => simpa
      | succ j => simpa using plc_lt (L := r) (j := j) (by omega)
    · omega
theorem plc_at {x : Trm} : ∀ {L : List Trm}, plc x L < L.length → bef (L.getD (plc x L) default) x = false
  | [], h => by simp at h
  | y :: r, h => by
    unfold plc at h ⊢
    split
    · rename_i hb
      rw [if_pos hb] at h
      simpa using plc_at (L := r) (by simpa using h)
    · rename_i hb
      simpa using hb
abbrev Srt (L : List Trm) : Prop := L.Pairwise fun x y => bef x y = true
theorem srt_getD {L : List Trm} (h : Srt L) {i j : Nat} (hij : i < j) (hj : j < L.length) : bef (L.getD i default) (L.getD j default) = true := by
  have := List.pairwise_iff_getElem.1 h i j (by omega) hj hij
  simpa [List.getD_eq_getElem?_getD, List.getElem?_eq_getElem, hj, show i < L.length by omega] using this
theorem plc_ge {x : Trm} {L : List Trm} (h : Srt L) {j : Nat} (hj : j < L.length) (hp : plc x L ≤ j) : bef (L.getD j default) x = false := by
  have h1 := plc_at (x := x) (L := L) (by omega)
  by_cases e : j = plc x L
  · rw [e]; exact h1
  · have h2 := srt_getD h (show plc x L < j by omega) hj
    cases h3 : bef (L.getD j default) x
    · rfl
    · rw [bef_trans h2 h3] at h1; exact h1.symm ▸ rfl
/-- the term that stands at x's place, if it has x's powers -/
def hit (x : Trm) (L : List Trm) : Bool := decide (plc x L < L.length) && samB (L.getD (plc x L) default) x
/-- a term added to a list of terms -/
def addT (p : Int) (x : Trm) (L : List Trm) : List Trm :=
  if x.t = 0 then L
  else if hit x L = true then
    (if ((L.getD (plc x L) default).t + x.t) % p = 0 then L.take (plc x L) ++ L.drop (plc x L + 1)
     else L.take (plc x L) ++ ⟨x.a, x.b, x.c, ((L.getD (plc x L) default).t + x.t) % p⟩ :: L.drop (plc x L + 1))
  else L.take (plc x L) ++ x :: L.drop (plc x L)
theorem take_mem_bef {x y : Trm} {L : List Trm} (h : y ∈ L.take (plc x L)) : bef y x = true := by
  obtain ⟨j, hj, rfl⟩ := List.getElem_of_mem h
  simp only [List.length_take] at hj
  have := plc_lt (x := x) (L := L) (j := j) (by omega)
  simpa [List.getD_eq_getElem?_getD, List.getElem?_eq_getElem, show j < L.length by omega] using this
theorem drop_mem_bef {x y : Trm} {L : List Trm} (hs : Srt L) (hh : hit x L = false) (h : y ∈ L.drop (plc x L)) : bef x y = true := by
  obtain ⟨j, hj, rfl⟩ := List.getElem_of_mem h
  simp only [List.length_drop] at hj
  have hlt : plc x L < L.length := by omega
  have h1 := plc_at (x := x) (L := L) hlt
  have h2 : samB (L.getD (plc x L) default) x = false := by simpa [hit, hlt] using hh
  have h3 := bef_tri h1 h2
  rw [List.getElem_drop]
  cases j with
  | zero => simpa [List.getD_eq_getElem?_getD, List.getElem?_eq_getElem, hlt] using h3
  | succ j =>
    have := bef_trans h3 (srt_getD hs (show plc x L < plc x L + (j + 1) by omega) (by omega))
    simpa [List.getD_eq_getElem?_getD, List.getElem?_eq_getElem, show plc x L + (j + 1) < L.length by omega] using this
theorem drop1_mem_bef {x y : Trm} {L : List Trm} (hs : Srt L) (hh : hit x L = true) (h : y ∈ L.drop (plc x L + 1)) : bef x y = true := by
  obtain ⟨j, hj, rfl⟩ := List.getElem_of_mem h
  simp only [List.length_drop] at hj
  have h2 : samB (L.getD (plc x L) default) x = true := by
    have := hh
    simp only [hit, Bool.and_eq_true] at this
    exact this.2
  rw [List.getElem_drop]
  have := srt_getD hs (show plc x L < plc x L + 1 + j by omega) (by omega)
  have h4 := bef_sam (x := x) (y := L.getD (plc x L) default) (by rw [samB_iff] at *; omega) this
  simpa [List.getD_eq_getElem?_getD, List.getElem?_eq_getElem, show plc x L + 1 + j < L.length by omega] using h4
theorem bef_eqp {x x' y : Trm} (h1 : x'.a = x.a) (h2 : x'.b = x.b) (h3 : x'.c = x.c) (h : bef x y = true) : bef x' y = true := by
  rw [bef_iff] at *; omega
theorem bef_eqp' {x x' y : Trm} (h1 : x'.a = x.a) (h2 : x'.b = x.b) (h3 : x'.c = x.c) (h : bef y x = true) : bef y x' = true := by
  rw [bef_iff] at *; omega
theorem srt_addT {p : Int} {x : Trm} {L : List Trm} (hs : Srt L) : Srt (addT p x L) := by
  unfold addT
  split
  · exact hs
  · split
    · rename_i hh
      split
      · refine List.pairwise_append.2 ⟨hs.sublist (List.take_sublist _ _), hs.sublist (List.drop_sublist _ _), fun y hy z hz => ?_⟩
        exact bef_trans (take_mem_bef hy) (drop1_mem_bef hs hh hz)
      · refine List.pairwise_append.2 ⟨hs.sublist (List.take_sublist _ _), List.pairwise_cons.2 ⟨fun z hz => ?_, hs.sublist (List.drop_sublist _ _)⟩, fun y hy z hz => ?_⟩
        · exact bef_eqp (x := x) rfl rfl rfl (drop1_mem_bef hs hh hz)
        · rcases List.mem_cons.1 hz with rfl | hz
          · exact bef_eqp' (x := x) rfl rfl rfl (take_mem_bef hy)
          · exact bef_trans (take_mem_bef hy) (drop1_mem_bef hs hh hz)
    · rename_i hh
      have hh : hit x L = false := by simpa using hh
      refine List.pairwise_append.2 ⟨hs.sublist (List.take_sublist _ _), List.pairwise_cons.2 ⟨fun z hz => ?_, hs.sublist (List.drop_sublist _ _)⟩, fun y hy z hz => ?_⟩
      · exact drop_mem_bef hs hh hz
      · rcases List.mem_cons.1 hz with rfl | hz
        · exact take_mem_bef hy
        · exact bef_trans (take_mem_bef hy) (drop_mem_bef hs hh hz)
/-- all elements of a list of terms are elements of the field, and not 0 -/
def Els (p : Int) (L : List Trm) : Prop := ∀ y ∈ L, 1 ≤ y.t ∧ y.t < p
theorem els_addT {p : Int} {x : Trm} {L : List Trm} (hp : 0 < p) (hx : 0 ≤ x.t ∧ x.t < p) (h : Els p L) : Els p (addT p x L) := by
  unfold addT
  split
  · exact h
  · split
    · split
      · intro y hy
        rcases List.mem_append.1 hy with hy | hy
        · exact h y (List.mem_of_mem_take hy)
        · exact h y (List.mem_of_mem_drop hy)
      · rename_i hne
        intro y hy
        rcases List.mem_append.1 hy with hy | hy
        · exact h y (List.mem_of_mem_take hy)
        · rcases List.mem_cons.1 hy with rfl | hy
          · have h0 := Int.emod_nonneg ((L.getD (plc x L) default).t + x.t) (show p ≠ 0 by omega)
            have h1 := Int.emod_lt_of_pos ((L.getD (plc x L) default).t + x.t) hp
            exact ⟨by show 1 ≤ _ % _; omega, h1⟩
          · exact h y (List.mem_of_mem_drop hy)
    · intro y hy
      rcases List.mem_append.1 hy with hy | hy
      · exact h y (List.mem_of_mem_take hy)
      · rcases List.mem_cons.1 hy with rfl | hy
        · omega
        · exact h y (List.mem_of_mem_drop hy)
theorem len_addT {p : Int} {x : Trm} {L : List Trm} : (addT p x L).length ≤ L.length + 1 := by
  have := plc_le x L
  unfold addT
  split
  · omega
  · split
    · split <;> simp <;> omega
    · simp; omega
/-- terms added one after the other -/
def addAll (p : Int) : List Trm → List Trm → List Trm
  | [], L => L
  | x :: xs, L => addAll p xs (addT p x L)
end Go.Proofs.Ytfmpcniehgipfaa
namespace Go.Proofs.Ytfmpcniehgipfaa
/-- equal up to multiples of p -/
def Cg (p a b : Int) : Prop := ∃ q, a = b + p * q
theorem Cg.refl (p a : Int) : Cg p a a := ⟨0, by omega⟩
theorem Cg.symm {p a b : Int} (h : Cg p a b) : Cg p b a := by
  obtain ⟨q, h⟩ := h
  exact ⟨-q, by grind⟩
theorem Cg.trans {p a b c : Int} (h : Cg p a b) (k : Cg p b c) : Cg p a c := by
  obtain ⟨q, h⟩ := h
  obtain ⟨r, k⟩ := k
  exact ⟨q + r, by grind⟩
theorem Cg.add {p a b c d : Int} (h : Cg p a b) (k : Cg p c d) : Cg p (a + c) (b + d) := by
  obtain ⟨q, h⟩ := h
  obtain ⟨r, k⟩ := k
  exact ⟨q + r, by grind⟩
theorem Cg.mul {p a b c d : Int} (h : Cg p a b) (k : Cg p c d) : Cg p (a * c) (b * d) := by
  obtain ⟨q, h⟩ := h
  obtain ⟨r, k⟩ := k
  exact ⟨q * d + b * r + p * q * r, by grind⟩
theorem Cg.mod (p a : Int) : Cg p (a % p) a := ⟨-(a / p), by have := Int.mul_ediv_add_emod a p; grind⟩
theorem Cg.of_eq {p a b : Int} (h : a = b) : Cg p a b := h ▸ Cg.refl p a
theorem Cg.emod {p a b : Int} (h : Cg p a b) : a % p = b % p := by
  obtain ⟨q, h⟩ := h
  rw [h, Int.add_mul_emod_self_left]
theorem Cg.iff {p a b : Int} : Cg p a b ↔ a % p = b % p := ⟨Cg.emod, fun h => (Cg.mod p a).symm.trans ((Cg.of_eq h).trans (Cg.mod p b))⟩
theorem Cg.eq {p a b : Int} (h : Cg p a b) (ha : 0 ≤ a ∧ a < p) (hb : 0 ≤ b ∧ b < p) : a = b := by
  have := h.emod
  rwa [Int.emod_eq_of_lt ha.1 ha.2, Int.emod_eq_of_lt hb.1 hb.2] at this
/-- the sum, over a list of terms, of the elements times a number for the powers -/
def wS (m : Int → Int → Int → Int) : List Trm → Int
  | [] => 0
  | x :: r => x.t * m x.a x.b x.c + wS m r
theorem wS_app (m : Int → Int → Int → Int) : ∀ A B : List Trm, wS m (A ++ B) = wS m A + wS m B
  | [], B => by simp [wS]
  | x :: r, B => by
    show x.t * m x.a x.b x.c + wS m (r ++ B) = x.t * m x.a x.b x.c + wS m r + wS m B
    rw [wS_app m r B]
    omega
theorem wS_split (m : Int → Int → Int → Int) (L : List Trm) (k : Nat) : wS m L = wS m (L.take k) + wS m (L.drop k) := by
  rw [← wS_app, List.take_append_drop]
theorem wS_addT {p : Int} {x : Trm} {L : List Trm} (m : Int → Int → Int → Int) : Cg p (wS m (addT p x L)) (wS m L + x.t * m x.a x.b x.c) := by
  unfold addT
  split
  · rename_i h0
    rw [h0]
    exact Cg.of_eq (by omega)
  · split
    · rename_i hh
      simp only [hit, Bool.and_eq_true, decide_eq_true_eq] at hh
      obtain ⟨hlt, hs⟩ := hh
      obtain ⟨y, hy⟩ : ∃ y, y = L.getD (plc x L) default := ⟨_, rfl⟩
      rw [← hy] at hs ⊢
      have hd : L.drop (plc x L) = y :: L.drop (plc x L + 1) := by
        rw [List.drop_eq_getElem_cons hlt, hy]
        simp [List.getD_eq_getElem?_getD, hlt]
      rw [samB_iff] at hs
      obtain ⟨e1, e2, e3⟩ := hs
      have e : wS m L = wS m (L.take (plc x L)) + (y.t * m x.a x.b x.c + wS m (L.drop (plc x L + 1))) := by
        rw [wS_split m L (plc x L), hd]
        show _ + (y.t * m y.a y.b y.c + _) = _
        rw [e1, e2, e3]
      rw [e]
      have hq := Int.mul_ediv_add_emod (y.t + x.t) p
      split
      · rename_i hz
        rw [wS_app]
        rw [hz] at hq
        exact ⟨-((y.t + x.t) / p * m x.a x.b x.c), by grind⟩
      · rw [wS_app]
        show Cg p (_ + ((y.t + x.t) % p * m x.a x.b x.c + _)) _
        exact ⟨-((y.t + x.t) / p * m x.a x.b x.c), by grind⟩
    · rw [wS_app, wS_split m L (plc x L)]
      show Cg p (_ + (x.t * m x.a x.b x.c + _)) _
      exact Cg.of_eq (by omega)
theorem wS_addAll {p : Int} (m : Int → Int → Int → Int) : ∀ xs L : List Trm, Cg p (wS m (addAll p xs L)) (wS m L + wS m xs)
  | [], L => Cg.of_eq (by simp [addAll, wS])
  | x :: xs, L => by
    refine (wS_addAll m xs (addT p x L)).trans ?_
    refine ((wS_addT m).add (Cg.refl p (wS m xs))).trans (Cg.of_eq ?_)
    show _ = _ + (x.t * m x.a x.b x.c + wS m xs)
    omega
/-- one power alone -/
def indM (a b c : Int) : Int → Int → Int → Int := fun a' b' c' => if a' = a ∧ b' = b ∧ c' = c then 1 else 0
theorem ind_none {a b c : Int} : ∀ {L : List Trm}, (∀ y ∈ L, ¬ (y.a = a ∧ y.b = b ∧ y.c = c)) → wS (indM a b c) L = 0
  | [], _ => rfl
  | x :: r, h => by
    show x.t * indM a b c x.a x.b x.c + wS _ r = 0
    rw [ind_none (fun y hy => h y (List.mem_cons_of_mem _ hy))]
    unfold indM
    rw [if_neg (h x (List.mem_cons_self ..))]
    simp
theorem srt_no {x : Trm} {r : List Trm} (h : Srt (x :: r)) : ∀ y ∈ r, ¬ (y.a = x.a ∧ y.b = x.b ∧ y.c = x.c) := by
  intro y hy e
  have := (List.pairwise_cons.1 h).1 y hy
  rw [bef_iff] at this
  omega
theorem ind_head {x : Trm} {r : List Trm} (h : Srt (x :: r)) : wS (indM x.a x.b x.c) (x :: r) = x.t := by
  show x.t * indM x.a x.b x.c x.a x.b x.c + wS _ r = _
  rw [ind_none (srt_no h)]
  simp [indM]
/-- a sorted list of terms is known by its elements at all powers -/
theorem ind_inj {p : Int} : ∀ {L M : List Trm}, Srt L → Srt M → Els p L → Els p M → (∀ a b c, Cg p (wS (indM a b c) L) (wS (indM a b c) M)) → L = M
  | [], [], _, _, _, _, _ => rfl
  | [], y :: s, _, hM, _, eM, h => by
    have h1 : Cg p 0 _ := h y.a y.b y.c
    rw [ind_head hM] at h1
    have hy := eM y (List.mem_cons_self ..)
    have := h1.eq (show 0 ≤ (0 : Int) ∧ (0 : Int) < p by omega) (by omega)
    omega
  | x :: r, [], hL, _, eL, _, h => by
    have h1 : Cg p _ 0 := h x.a x.b x.c
    rw [ind_head hL] at h1
    have hx := eL x (List.mem_cons_self ..)
    have := h1.symm.eq (show 0 ≤ (0 : Int) ∧ (0 : Int) < p by omega) (by omega)
    omega
  | x :: r, y :: s, hL, hM, eL, eM, h => by
    have hx := eL x (List.mem_cons_self ..)
    have hy := eM y (List.mem_cons_self ..)
    have key : ∀ {u : Trm} {A : List Trm} {v : Trm} {B : List Trm}, Srt (u :: A) → Srt (v :: B) → (1 ≤ u.t ∧ u.t < p) → Cg p (wS (indM u.a u.b u.c) (u :: A)) (wS (indM u.a u.b u.c) (v :: B)) → ¬ bef u v = true := by
      intro u A v B hA hB hu hc hb
      rw [ind_head hA, ind_none (fun z hz e => ?_)] at hc
      · have := hc.eq (by omega) (by omega)
        omega
      · rcases List.mem_cons.1 hz with rfl | hz
        · rw [bef_iff] at hb; omega
        · have h2 := (List.pairwise_cons.1 hB).1 z hz
          have := bef_trans hb h2
          rw [bef_iff] at this
          omega
    have n1 := key hL hM hx (h x.a x.b x.c)
    have n2 := key hM hL hy (h y.a y.b y.c).symm
    have hs : samB x y = true := by
      cases e : samB x y
      · exact absurd (bef_tri (by simpa using n1) e) n2
      · rfl
    rw [samB_iff] at hs
    obtain ⟨e1, e2, e3⟩ := hs
    have ht : x.t = y.t := by
      have h1 := h x.a x.b x.c
      rw [ind_head hL] at h1
      rw [e1, e2, e3, ind_head hM] at h1
      exact h1.eq (by omega) (by omega)
    have hxy : x = y := by
      cases x; cases y; simp only at e1 e2 e3 ht; subst e1 e2 e3 ht; rfl
    subst hxy
    have := ind_inj (p := p) (L := r) (M := s) (List.pairwise_cons.1 hL).2 (List.pairwise_cons.1 hM).2 (fun z hz => eL z (List.mem_cons_of_mem _ hz)) (fun z hz => eM z (List.mem_cons_of_mem _ hz)) (fun a b c => by
      obtain ⟨q, hq⟩ := h a b c
      refine ⟨q, ?_⟩
      have hq' : x.t * indM a b c x.a x.b x.c + wS (indM a b c) r = x.t * indM a b c x.a x.b x.c + wS (indM a b c) s + p * q := hq
      omega)
    rw [this]
/-- the sum, over a list, of numbers -/
def sumI {α : Type} (f : α → Int) : List α → Int
  | [] => 0
  | x :: r => f x + sumI f r
theorem sumI_congr {α : Type} {f g : α → Int} : ∀ {l : List α}, (∀ x ∈ l, f x = g x) → sumI f l = sumI g l
  | [], _ => rfl
  | x :: r, h => by
    show f x + sumI f r = g x + sumI g r
    rw [h x (List.mem_cons_self ..), sumI_congr fun y hy => h y (List.mem_cons_of_mem _ hy)]
theorem sumI_zero {α : Type} : ∀ l : List α, sumI (fun _ => 0) l = 0
  | [] => rfl
  | _ :: r => by show 0 + sumI _ r = 0; rw [sumI_zero r]; rfl
theorem sumI_add {α : Type} (f g : α → Int) : ∀ l : List α, sumI (fun x => f x + g x) l = sumI f l + sumI g l
  | [] => rfl
  | x :: r => by
    show f x + g x + sumI _ r = f x + sumI f r + (g x + sumI g r)
    rw [sumI_add f g r]
    omega
theorem sumI_mul {α : Type} (f : α → Int) (k : Int) : ∀ l : List α, sumI (fun x => k * f x) l = k * sumI f l
  | [] => by simp [sumI]
  | x :: r => by
    show k * f x + sumI _ r = k * (f x + sumI f r)
    rw [sumI_mul f k r, Int.mul_add]
theorem sumI_swap {α β : Type} (f : α → β → Int) : ∀ (l : List α) (k : List β), sumI (fun x => sumI (fun y => f x y) k) l = sumI (fun y => sumI (fun x => f x y) l) k
  | [], k => by
    show 0 = sumI (fun _ => 0) k
    rw [sumI_zero]
  | x :: r, k => by
    show sumI (fun y => f x y) k + sumI _ r = _
    rw [sumI_swap f r k, ← sumI_add]
    rfl
theorem sumI_cg {α : Type} {p : Int} {f g : α → Int} : ∀ {l : List α}, (∀ x ∈ l, Cg p (f x) (g x)) → Cg p (sumI f l) (sumI g l)
  | [], _ => Cg.refl _ _
  | x :: _, h => (h x (List.mem_cons_self ..)).add (sumI_cg fun y hy => h y (List.mem_cons_of_mem _ hy))
theorem wS_sum (m : Int → Int → Int → Int) : ∀ L : List Trm, wS m L = sumI (fun x => x.t * m x.a x.b x.c) L
  | [] => rfl
  | x :: r => by
    show x.t * m x.a x.b x.c + wS m r = _
    rw [wS_sum m r]
    rfl
theorem wS_map {α : Type} (m : Int → Int → Int → Int) (g : α → Trm) : ∀ l : List α, wS m (l.map g) = sumI (fun x => (g x).t * m (g x).a (g x).b (g x).c) l
  | [] => rfl
  | x :: r => by
    show (g x).t * m (g x).a (g x).b (g x).c + wS m (r.map g) = _
    rw [wS_map m g r]
    rfl
theorem wS_bind {α : Type} (m : Int → Int → Int → Int) (g : α → List Trm) : ∀ l : List α, wS m (l.flatMap g) = sumI (fun x => wS m (g x)) l
  | [] => rfl
  | x :: r => by
    rw [List.flatMap_cons, wS_app, wS_bind m g r]
    rfl
end Go.Proofs.Ytfmpcniehgipfaa
