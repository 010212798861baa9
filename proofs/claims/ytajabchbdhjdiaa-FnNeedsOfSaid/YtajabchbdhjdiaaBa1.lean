/-
  Lists of terms, of no program: the order of powers, where a term belongs, what adding it makes. Conditions: none.
-/
namespace Go.Proofs.Ytajabchbdhjdiaa
/-- a term: three exponents and the element -/
structure Trm where
  a : Int
  b : Int
  c : Int
  t : Int
deriving DecidableEq
instance : Inhabited Trm := ⟨⟨0, 0, 0, 0⟩⟩
def powB (n : Int) : Bool := decide (0 ≤ n) && decide (n ≤ 9)
def powsB (a b c : Int) : Bool := powB a && powB b && powB c
def befB (a b c d e f : Int) : Bool := if a != d then decide (d < a) else if b != e then decide (e < b) else if c != f then decide (f < c) else false
def bef (x y : Trm) : Bool := befB x.a x.b x.c y.a y.b y.c
def samB (x y : Trm) : Bool := x.a == y.a && x.b == y.b && x.c == y.c
theorem befB_iff {a b c d e f : Int} : befB a b c d e f = true ↔ d < a ∨ (a = d ∧ (e < b ∨ (b = e ∧ f < c))) := by
  unfold befB
  by_cases h1 : a = d
  · subst h1
    by_cases h2 : b = e
    · subst h2
      by_cases h3 : c = f
      · subst h3; simp
      · simp [h3]
    · simp [h2]
  · simp [h1]
theorem bef_iff {x y : Trm} : bef x y = true ↔ y.a < x.a ∨ (x.a = y.a ∧ (y.b < x.b ∨ (x.b = y.b ∧ y.c < x.c))) := befB_iff
theorem samB_iff {x y : Trm} : samB x y = true ↔ x.a = y.a ∧ x.b = y.b ∧ x.c = y.c := by simp [samB, and_assoc]
theorem bef_trans {x y z : Trm} (h1 : bef x y = true) (h2 : bef y z = true) : bef x z = true := by
  rw [bef_iff] at *; omega
theorem bef_not {x y : Trm} (h : bef x y = true) : bef y x = false := by
  cases h2 : bef y x
  · rfl
  · rw [bef_iff] at *; omega
theorem bef_tri {x y : Trm} (h1 : bef x y = false) (h2 : samB x y = false) : bef y x = true := by
  cases h3 : bef y x
  · exfalso
    have e1 : ¬ bef x y = true := by simp [h1]
    have e2 : ¬ samB x y = true := by simp [h2]
    have e3 : ¬ bef y x = true := by simp [h3]
    rw [bef_iff] at e1 e3
    rw [samB_iff] at e2
    omega
  · rfl
theorem bef_sam {x y z : Trm} (h : samB x y = true) (h2 : bef y z = true) : bef x z = true := by
  rw [samB_iff] at h; rw [bef_iff] at *; omega
theorem bef_sam' {x y z : Trm} (h : samB x y = true) (h2 : bef z y = true) : bef z x = true := by
  rw [samB_iff] at h; rw [bef_iff] at *; omega
/-- how many terms at the head stand before x -/
def plc (x : Trm) : List Trm → Nat
  | [] => 0
  | y :: r => if bef y x = true then plc x r + 1 else 0
theorem plc_le (x : Trm) : ∀ L : List Trm, plc x L ≤ L.length
  | [] => Nat.le_refl _
  | y :: r => by
    unfold plc
    have := plc_le x r
    split <;> simp <;> omega
theorem plc_lt {x : Trm} : ∀ {L : List Trm} {j : Nat}, j < plc x L → bef (L.getD j default) x = true
  | [], j, h => by simp [plc] at h
  | y :: r, j, h => by
    unfold plc at h
    split at h
    · cases j with
      | zero => simpa
      | succ j => simpa using plc_lt (L := r) (j := j) (by omega)
    · omega
theorem plc_at {x : Trm} : ∀ {L : List Trm}, plc x L < L.length → bef (L.getD (plc x L) default) x = false
  | [], h => by simp at h
  | y :: r, h => by
    unfold plc at h ⊢
    split
    · rename_i hb
      rw [if_pos hb] at h
      simpa using plc_at (L := r) (by simpa using h)
    · rename_i hb
      simpa using hb
abbrev Srt (L : List Trm) : Prop := L.Pairwise fun x y => bef x y = true
theorem srt_getD {L : List Trm} (h : Srt L) {i j : Nat} (hij : i < j) (hj : j < L.length) : bef (L.getD i default) (L.getD j default) = true := by
  have := List.pairwise_iff_getElem.1 h i j (by omega) hj hij
  simpa [List.getD_eq_getElem?_getD, List.getElem?_eq_getElem, hj, show i < L.length by omega] using this
theorem plc_ge {x : Trm} {L : List Trm} (h : Srt L) {j : Nat} (hj : j < L.length) (hp : plc x L ≤ j) : bef (L.getD j default) x = false := by
  have h1 := plc_at (x := x) (L := L) (by omega)
  by_cases e : j = plc x L
  · rw [e]; exact h1
  · have h2 := srt_getD h (show plc x L < j by omega) hj
    cases h3 : bef (L.getD j default) x
    · rfl
    · rw [bef_trans h2 h3] at h1; exact h1.symm ▸ rfl
/-- the term that stands at x's place, if it has x's powers -/
def hit (x : Trm) (L : List Trm) : Bool := decide (plc x L < L.length) && samB (L.getD (plc x L) default) x
/-- a term added to a list of terms -/
def addT (p : Int) (x : Trm) (L : List Trm) : List Trm :=
  if x.t = 0 then L
  else if hit x L = true then
    (if ((L.getD (plc x L) default).t + x.t) % p = 0 then L.take (plc x L) ++ L.drop (plc x L + 1)
     else L.take (plc x L) ++ ⟨x.a, x.b, x.c, ((L.getD (plc x L) default).t + x.t) % p⟩ :: L.drop (plc x L + 1))
  else L.take (plc x L) ++ x :: L.drop (plc x L)
theorem take_mem_bef {x y : Trm} {L : List Trm} (h : y ∈ L.take (plc x L)) : bef y x = true := by
  obtain ⟨j, hj, rfl⟩ := List.getElem_of_mem h
  simp only [List.length_take] at hj
  have := plc_lt (x := x) (L := L) (j := j) (by omega)
  simpa [List.getD_eq_getElem?_getD, List.getElem?_eq_getElem, show j < L.length by omega] using this
theorem drop_mem_bef {x y : Trm} {L : List Trm} (hs : Srt L) (hh : hit x L = false) (h : y ∈ L.drop (plc x L)) : bef x y = true := by
  obtain ⟨j, hj, rfl⟩ := List.getElem_of_mem h
  simp only [List.length_drop] at hj
  have hlt : plc x L < L.length := by omega
  have h1 := plc_at (x := x) (L := L) hlt
  have h2 : samB (L.getD (plc x L) default) x = false := by simpa [hit, hlt] using hh
  have h3 := bef_tri h1 h2
  rw [List.getElem_drop]
  cases j with
  | zero => simpa [List.getD_eq_getElem?_getD, List.getElem?_eq_getElem, hlt] using h3
  | succ j =>
    have := bef_trans h3 (srt_getD hs (show plc x L < plc x L + (j + 1) by omega) (by omega))
    simpa [List.getD_eq_getElem?_getD, List.getElem?_eq_getElem, show plc x L + (j + 1) < L.length by omega] using this
theorem drop1_mem_bef {x y : Trm} {L : List Trm} (hs : Srt L) (hh : hit x L = true) (h : y ∈ L.drop (plc x L + 1)) : bef x y = true := by
  obtain ⟨j, hj, rfl⟩ := List.getElem_of_mem h
  simp only [List.length_drop] at hj
  have h2 : samB (L.getD (plc x L) default) x = true := by
    have := hh
    simp only [hit, Bool.and_eq_true] at this
    exact this.2
  rw [List.getElem_drop]
  have := srt_getD hs (show plc x L < plc x L + 1 + j by omega) (by omega)
  have h4 := bef_sam (x := x) (y := L.getD (plc x L) default) (by rw [samB_iff] at *; omega) this
  simpa [List.getD_eq_getElem?_getD, List.getElem?_eq_getElem, show plc x L + 1 + j < L.length by omega] using h4
theorem bef_eqp {x x' y : Trm} (h1 : x'.a = x.a) (h2 : x'.b = x.b) (h3 : x'.c = x.c) (h : bef x y = true) : bef x' y = true := by
  rw [bef_iff] at *; omega
theorem bef_eqp' {x x' y : Trm} (h1 : x'.a = x.a) (h2 : x'.b = x.b) (h3 : x'.c = x.c) (h : bef y x = true) : bef y x' = true := by
  rw [bef_iff] at *; omega
theorem srt_addT {p : Int} {x : Trm} {L : List Trm} (hs : Srt L) : Srt (addT p x L) := by
  unfold addT
  split
  · exact hs
  · split
    · rename_i hh
      split
      · refine List.pairwise_append.2 ⟨hs.sublist (List.take_sublist _ _), hs.sublist (List.drop_sublist _ _), fun y hy z hz => ?_⟩
        exact bef_trans (take_mem_bef hy) (drop1_mem_bef hs hh hz)
      · refine List.pairwise_append.2 ⟨hs.sublist (List.take_sublist _ _), List.pairwise_cons.2 ⟨fun z hz => ?_, hs.sublist (List.drop_sublist _ _)⟩, fun y hy z hz => ?_⟩
        · exact bef_eqp (x := x) rfl rfl rfl (drop1_mem_bef hs hh hz)
        · rcases List.mem_cons.1 hz with rfl | hz
          · exact bef_eqp' (x := x) rfl rfl rfl (take_mem_bef hy)
          · exact bef_trans (take_mem_bef hy) (drop1_mem_bef hs hh hz)
    · rename_i hh
      have hh : hit x L = false := by simpa using hh
      refine List.pairwise_append.2 ⟨hs.sublist (List.take_sublist _ _), List.pairwise_cons.2 ⟨fun z hz => ?_, hs.sublist (List.drop_sublist _ _)⟩, fun y hy z hz => ?_⟩
      · exact drop_mem_bef hs hh hz
      · rcases List.mem_cons.1 hz with rfl | hz
        · exact take_mem_bef hy
        · exact bef_trans (take_mem_bef hy) (drop_mem_bef hs hh hz)
/-- all elements of a list of terms are elements of the field, and not 0 -/
def Els (p : Int) (L : List Trm) : Prop := ∀ y ∈ L, 1 ≤ y.t ∧ y.t < p
theorem els_addT {p : Int} {x : Trm} {L : List Trm} (hp : 0 < p) (hx : 0 ≤ x.t ∧ x.t < p) (h : Els p L) : Els p (addT p x L) := by
  unfold addT
  split
  · exact h
  · split
    · split
      · intro y hy
        rcases List.mem_append.1 hy with hy | hy
        · exact h y (List.mem_of_mem_take hy)
        · exact h y (List.mem_of_mem_drop hy)
      · rename_i hne
        intro y hy
        rcases List.mem_append.1 hy with hy | hy
        · exact h y (List.mem_of_mem_take hy)
        · rcases List.mem_cons.1 hy with rfl | hy
          · have h0 := Int.emod_nonneg ((L.getD (plc x L) default).t + x.t) (show p ≠ 0 by omega)
            have h1 := Int.emod_lt_of_pos ((L.getD (plc x L) default).t + x.t) hp
            exact ⟨by show 1 ≤ _ % _; omega, h1⟩
          · exact h y (List.mem_of_mem_drop hy)
    · intro y hy
      rcases List.mem_append.1 hy with hy | hy
      · exact h y (List.mem_of_mem_take hy)
      · rcases List.mem_cons.1 hy with rfl | hy
        · omega
        · exact h y (List.mem_of_mem_drop hy)
theorem len_addT {p : Int} {x : Trm} {L : List Trm} : (addT p x L).length ≤ L.length + 1 := by
  have := plc_le x L
  unfold addT
  split
  · omega
  · split
    · split <;> simp <;> omega
    · simp; omega
/-- terms added one after the other -/
def addAll (p : Int) : List Trm → List Trm → List Trm
  | [], L => L
  | x :: xs, L => addAll p xs (addT p x L)
end Go.Proofs.Ytajabchbdhjdiaa
