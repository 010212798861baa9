/-
  Formulas as trees, how a text is read, forwards and by a stack: mathematics alone, no walk. Conditions: none.
-/
import Derived.Lib.IndexBytes
import Derived.Lib.IndexAny
namespace Go.Proofs.YtoeghbcolpailaaGreat
/-- a formula: a leaf is an unknown (0) or an element (1), a pair a sum (2) or a product (3) -/
inductive Fm where
  | leaf (k a : Int)
  | pair (k : Int) (f g : Fm)
  deriving Inhabited
def letB : List UInt8 := [120, 121, 122]
def digB : List UInt8 := [48, 49, 50, 51, 52, 53, 54, 55, 56, 57, 65, 66, 67]
/-- what a sign stands for -/
def leafB (p : Int) (c : UInt8) : Option (Int × Int) :=
  if 0 ≤ Lib.indexByte letB c then some (0, Lib.indexByte letB c)
  else if 0 ≤ Lib.indexByte digB c ∧ Lib.indexByte digB c < p then some (1, Lib.indexByte digB c) else none
def signB (c : UInt8) : Bool := c == 43 || c == 42
def kindB (c : UInt8) : Int := if c == 43 then 2 else 3
/-- the formula that a text begins with, and what is left -/
def parseF (p : Int) : Nat → List UInt8 → Option (Fm × List UInt8)
  | 0, _ => none
  | _ + 1, [] => none
  | n + 1, c :: t =>
    if signB c = true then
      match parseF p n t with
      | none => none
      | some (f, t1) => match parseF p n t1 with
        | none => none
        | some (g, t2) => some (.pair (kindB c) f g, t2)
    else match leafB p c with
      | none => none
      | some (k, a) => some (.leaf k a, t)
theorem parseF_len {p : Int} : ∀ {n : Nat} {t t1 : List UInt8} {f : Fm}, parseF p n t = some (f, t1) → t1.length < t.length
  | 0, _, _, _, h => by simp [parseF] at h
  | n + 1, [], _, _, h => by simp [parseF] at h
  | n + 1, c :: t, t1, f, h => by
    simp only [parseF] at h
    split at h
    · cases h1 : parseF p n t with
      | none => rw [h1] at h; simp at h
      | some r1 =>
        obtain ⟨f1, u1⟩ := r1
        rw [h1] at h
        simp only at h
        cases h2 : parseF p n u1 with
        | none => rw [h2] at h; simp at h
        | some r2 =>
          obtain ⟨f2, u2⟩ := r2
          rw [h2] at h
          simp at h
          obtain ⟨_, rfl⟩ := h
          have l1 := parseF_len h1
          have l2 := parseF_len h2
          simp only [List.length_cons]
          omega
    · cases h1 : leafB p c with
      | none => rw [h1] at h; simp at h
      | some r1 =>
        rw [h1] at h
        simp at h
        obtain ⟨_, rfl⟩ := h
        simp
/-- what is left is the end of the text -/
theorem parseF_drop {p : Int} : ∀ {n : Nat} {t t1 : List UInt8} {f : Fm}, parseF p n t = some (f, t1) → t1 = t.drop (t.length - t1.length)
  | 0, _, _, _, h => by simp [parseF] at h
  | n + 1, [], _, _, h => by simp [parseF] at h
  | n + 1, c :: t, t1, f, h => by
    simp only [parseF] at h
    split at h
    · cases h1 : parseF p n t with
      | none => rw [h1] at h; simp at h
      | some r1 =>
        obtain ⟨f1, u1⟩ := r1
        rw [h1] at h
        simp only at h
        cases h2 : parseF p n u1 with
        | none => rw [h2] at h; simp at h
        | some r2 =>
          obtain ⟨f2, u2⟩ := r2
          rw [h2] at h
          simp at h
          obtain ⟨_, rfl⟩ := h
          have l1 := parseF_len h1
          have l2 := parseF_len h2
          have e1 := parseF_drop h1
          have e2 := parseF_drop h2
          rw [List.length_cons, show t.length + 1 - u2.length = (t.length - u2.length) + 1 by omega, List.drop_succ_cons]
          rw [show t.length - u2.length = (t.length - u1.length) + (u1.length - u2.length) by omega, ← List.drop_drop, ← e1, ← e2]
    · cases h1 : leafB p c with
      | none => rw [h1] at h; simp at h
      | some r1 =>
        rw [h1] at h
        simp at h
        obtain ⟨_, rfl⟩ := h
        simp
/-- an open stack of pairs, the last one first -/
abbrev Stk := List (Int × Option Fm)
/-- a formula is put where the next one is missing -/
def plcF : Fm → Stk → Stk × Option Fm
  | f, [] => ([], some f)
  | f, (k, none) :: O => ((k, some f) :: O, none)
  | f, (k, some g) :: O => plcF (.pair k g f) O
theorem plcF_done : ∀ (O : Stk) (f : Fm) {O' : Stk} {g : Fm}, plcF f O = (O', some g) → O' = []
  | [], f, O', g, h => by simp [plcF] at h; exact h.1
  | (k, none) :: O, f, O', g, h => by simp [plcF] at h
  | (k, some x) :: O, f, O', g, h => plcF_done O (.pair k x f) (by simpa [plcF] using h)
/-- the next sign is taken -/
def readB (p : Int) (s : Stk × Option Fm) (c : UInt8) : Option (Stk × Option Fm) :=
  match s with
  | (_, some _) => none
  | (O, none) => if signB c = true then some ((kindB c, none) :: O, none) else match leafB p c with
    | none => none
    | some (k, a) => some (plcF (.leaf k a) O)
def runB (p : Int) : List UInt8 → Stk × Option Fm → Option (Stk × Option Fm)
  | [], s => some s
  | c :: t, s => match readB p s c with
    | none => none
    | some s' => runB p t s'
/-- what is whole in the end -/
def wholeB : Option (Stk × Option Fm) → Option Fm
  | some (_, f) => f
  | none => none
theorem runB_parse (p : Int) : ∀ (n : Nat) (t : List UInt8) (O : Stk), t.length ≤ n →
    (∀ f t1, parseF p n t = some (f, t1) → runB p t (O, none) = runB p t1 (plcF f O)) ∧ (parseF p n t = none → wholeB (runB p t (O, none)) = none)
  | 0, t, O, hn => by
    have : t = [] := List.length_eq_zero_iff.1 (by omega)
    subst this
    exact ⟨fun f t1 h => by simp [parseF] at h, fun _ => rfl⟩
  | n + 1, [], O, hn => ⟨fun f t1 h => by simp [parseF] at h, fun _ => rfl⟩
  | n + 1, c :: t, O, hn => by
    have hl : t.length ≤ n := by simpa using hn
    cases hs : signB c
    · cases h1 : leafB p c with
      | none => exact ⟨fun f t1 h => by simp [parseF, hs, h1] at h, fun _ => by simp [runB, readB, hs, h1, wholeB]⟩
      | some r =>
        obtain ⟨k, a⟩ := r
        refine ⟨fun f t1 h => ?_, fun h => by simp [parseF, hs, h1] at h⟩
        simp [parseF, hs, h1] at h
        obtain ⟨rfl, rfl⟩ := h
        simp [runB, readB, hs, h1]
    · have er : runB p (c :: t) (O, none) = runB p t ((kindB c, none) :: O, none) := by simp [runB, readB, hs]
      have I1 := runB_parse p n t ((kindB c, none) :: O) hl
      cases h1 : parseF p n t with
      | none =>
        refine ⟨fun f t1 h => by simp [parseF, hs, h1] at h, fun _ => ?_⟩
        rw [er]
        exact I1.2 h1
      | some r1 =>
        obtain ⟨f1, u1⟩ := r1
        have l1 := parseF_len h1
        have e1 := I1.1 f1 u1 h1
        have I2 := runB_parse p n u1 ((kindB c, some f1) :: O) (by omega)
        have er2 : runB p (c :: t) (O, none) = runB p u1 ((kindB c, some f1) :: O, none) := by rw [er, e1]; rfl
        cases h2 : parseF p n u1 with
        | none =>
          refine ⟨fun f t1 h => by simp [parseF, hs, h1, h2] at h, fun _ => ?_⟩
          rw [er2]
          exact I2.2 h2
        | some r2 =>
          obtain ⟨f2, u2⟩ := r2
          refine ⟨fun f t1 h => ?_, fun h => by simp [parseF, hs, h1, h2] at h⟩
          simp [parseF, hs, h1, h2] at h
          obtain ⟨rfl, rfl⟩ := h
          rw [er2, I2.1 f2 u2 h2]
          rfl
/-- the formula that a text is -/
def formF (p : Int) (t : List UInt8) : Option Fm := match parseF p t.length t with
  | some (f, []) => some f
  | _ => none
theorem runB_whole (p : Int) (t : List UInt8) : wholeB (runB p t ([], none)) = formF p t := by
  have h := runB_parse p t.length t [] (Nat.le_refl _)
  unfold formF
  cases h1 : parseF p t.length t with
  | none => exact h.2 h1
  | some r =>
    obtain ⟨f, u⟩ := r
    rw [h.1 f u h1]
    cases u with
    | nil => rfl
    | cons c u => simp [plcF, runB, readB, wholeB]
/-- how many leaves a formula has -/
def leavesF : Fm → Nat
  | .leaf _ _ => 1
  | .pair _ f g => leavesF f + leavesF g
theorem leavesF_pos : ∀ f : Fm, 1 ≤ leavesF f
  | .leaf _ _ => by simp [leavesF]
  | .pair _ f g => by have := leavesF_pos f; simp [leavesF]; omega
theorem leafB_sign {p : Int} {c : UInt8} (h : signB c = true) : leafB p c = none := by
  have : c = 43 ∨ c = 42 := by simpa [signB] using h
  rcases this with rfl | rfl <;> simp [leafB, Lib.indexByte, letB, digB]
theorem parseF_leaves {p : Int} : ∀ {n : Nat} {t t1 : List UInt8} {f : Fm}, parseF p n t = some (f, t1) → (t.filter fun c => !signB c).length = leavesF f + (t1.filter fun c => !signB c).length
  | 0, _, _, _, h => by simp [parseF] at h
  | n + 1, [], _, _, h => by simp [parseF] at h
  | n + 1, c :: t, t1, f, h => by
    simp only [parseF] at h
    split at h
    · rename_i hs
      cases h1 : parseF p n t with
      | none => rw [h1] at h; simp at h
      | some r1 =>
        obtain ⟨f1, u1⟩ := r1
        rw [h1] at h
        simp only at h
        cases h2 : parseF p n u1 with
        | none => rw [h2] at h; simp at h
        | some r2 =>
          obtain ⟨f2, u2⟩ := r2
          rw [h2] at h
          simp at h
          obtain ⟨rfl, rfl⟩ := h
          have e1 := parseF_leaves h1
          have e2 := parseF_leaves h2
          simp only [leavesF, List.filter_cons, hs, Bool.not_true, Bool.false_eq_true, if_false]
          omega
    · rename_i hs
      cases h1 : leafB p c with
      | none => rw [h1] at h; simp at h
      | some r1 =>
        rw [h1] at h
        simp at h
        obtain ⟨rfl, rfl⟩ := h
        simp only [leavesF, List.filter_cons, hs, Bool.not_false, if_true, List.length_cons]
        omega
theorem leafB_mem {p : Int} {c : UInt8} {r : Int × Int} (h : leafB p c = some r) : c ∈ letB ∨ c ∈ digB := by
  unfold leafB at h
  split at h
  · rename_i h0
    left
    have e := Lib.contains_iff_indexByte letB c
    rw [decide_eq_true h0] at e
    simpa using e
  · split at h
    · rename_i h0
      right
      have e := Lib.contains_iff_indexByte digB c
      rw [decide_eq_true h0.1] at e
      simpa using e
    · simp at h
/-- all signs of a formula are below 128 -/
theorem leafB_ascii {p : Int} {c : UInt8} {r : Int × Int} (h : leafB p c = some r) : c.toNat < 128 := by
  have : c = 120 ∨ c = 121 ∨ c = 122 ∨ c = 48 ∨ c = 49 ∨ c = 50 ∨ c = 51 ∨ c = 52 ∨ c = 53 ∨ c = 54 ∨ c = 55 ∨ c = 56 ∨ c = 57 ∨ c = 65 ∨ c = 66 ∨ c = 67 := by simpa [letB, digB, or_assoc] using leafB_mem h
  rcases this with rfl | rfl | rfl | rfl | rfl | rfl | rfl | rfl | rfl | rfl | rfl | rfl | rfl | rfl | rfl | rfl <;> decide
theorem leafB_high {p : Int} {c : UInt8} (h : ¬ c.toNat < 128) : leafB p c = none := by
  cases e : leafB p c with
  | none => rfl
  | some r => exact absurd (leafB_ascii e) h
theorem signB_ascii {c : UInt8} (h : signB c = true) : c.toNat < 128 := by
  have : c = 43 ∨ c = 42 := by simpa [signB] using h
  rcases this with rfl | rfl <;> decide
/-- all signs of a text that begins with a formula are below 128 -/
theorem formF_ascii {p : Int} {t : List UInt8} {f : Fm} (h : formF p t = some f) : ∀ c ∈ t, c.toNat < 128 := by
  have key : ∀ (t : List UInt8) (s : Stk × Option Fm) (g : Fm), wholeB (runB p t s) = some g → ∀ c ∈ t, c.toNat < 128 := by
    intro t
    induction t with
    | nil => intro s g _ c hc; cases hc
    | cons a t ih =>
      intro s g hw c hc
      simp only [runB] at hw
      cases hr : readB p s a with
      | none => rw [hr] at hw; simp [wholeB] at hw
      | some s' =>
        rw [hr] at hw
        rcases List.mem_cons.1 hc with rfl | hc
        · obtain ⟨O, w⟩ := s
          cases w with
          | some w => simp [readB] at hr
          | none =>
            cases hs : signB c
            · cases hl : leafB p c with
              | none => simp [readB, hs, hl] at hr
              | some r => exact leafB_ascii hl
            · exact signB_ascii hs
        · exact ih s' g hw c hc
  exact key t ([], none) f (by rw [runB_whole, h])
theorem formF_leaves {p : Int} {t : List UInt8} {f : Fm} (h : formF p t = some f) : (t.filter fun c => !signB c).length = leavesF f := by
  unfold formF at h
  cases h1 : parseF p t.length t with
  | none => rw [h1] at h; simp at h
  | some r =>
    obtain ⟨g, u⟩ := r
    rw [h1] at h
    cases u with
    | nil =>
      simp at h
      subst h
      simpa using parseF_leaves h1
    | cons c u => simp at h
end Go.Proofs.YtoeghbcolpailaaGreat
