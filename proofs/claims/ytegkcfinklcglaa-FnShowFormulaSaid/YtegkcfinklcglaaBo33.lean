/-
  EvalFormula, of the model and of the program, and the walk of its exact law. Conditions: none.
-/
import Derived.Test.YtegkcfinklcglaaBo17
import Derived.Test.YtegkcfinklcglaaBo27
namespace Go.Proofs.Ytegkcfinklcglaa
open Go.RowKit
/-- the value of a formula at a point -/
def evF (p x y z : Int) : Fm → Int
  | .leaf k a => if k = 0 then coord x y z a else a
  | .pair k f g => if k = 2 then (evF p x y z f + evF p x y z g) % p else (evF p x y z f * evF p x y z g) % p
/-- a formula of signs of a field -/
def okF (p : Int) : Fm → Prop
  | .leaf k a => (k = 0 ∧ (a = 0 ∨ a = 1 ∨ a = 2)) ∨ (k = 1 ∧ 0 ≤ a ∧ a < p)
  | .pair k f g => (k = 2 ∨ k = 3) ∧ okF p f ∧ okF p g
theorem leafB_ok {p : Int} {c : UInt8} {k a : Int} (h : leafB p c = some (k, a)) : okF p (.leaf k a) := by
  unfold leafB at h
  split at h
  · rename_i h0
    injection h with h
    injection h with h1 h2
    subst h1 h2
    have e : -1 ≤ Lib.indexByte letB c ∧ Lib.indexByte letB c < 3 := by
      refine ⟨Lib.indexByte_ge _ _, ?_⟩
      have : c ∈ letB := by
        have e := Lib.contains_iff_indexByte letB c
        rw [decide_eq_true h0] at e
        simpa using e
      have : c = 120 ∨ c = 121 ∨ c = 122 := by simpa [letB] using this
      rcases this with rfl | rfl | rfl <;> decide
    exact .inl ⟨rfl, by omega⟩
  · split at h
    · rename_i h0
      injection h with h
      injection h with h1 h2
      subst h1 h2
      exact .inr ⟨rfl, h0.1, h0.2⟩
    · cases h
theorem parseF_ok {p : Int} : ∀ {n : Nat} {t t1 : List UInt8} {f : Fm}, parseF p n t = some (f, t1) → okF p f
  | 0, _, _, _, h => by simp [parseF] at h
  | n + 1, [], _, _, h => by simp [parseF] at h
  | n + 1, c :: t, t1, f, h => by
    simp only [parseF] at h
    split at h
    · cases h1 : parseF p n t with
      | none => rw [h1] at h; simp at h
      | some r1 =>
        obtain ⟨f1, u1⟩ := r1
        rw [h1] at h
        simp only at h
        cases h2 : parseF p n u1 with
        | none => rw [h2] at h; simp at h
        | some r2 =>
          obtain ⟨f2, u2⟩ := r2
          rw [h2] at h
          simp at h
          obtain ⟨rfl, rfl⟩ := h
          exact ⟨by unfold kindB; split <;> simp, parseF_ok h1, parseF_ok h2⟩
    · cases h1 : leafB p c with
      | none => rw [h1] at h; simp at h
      | some r1 =>
        rw [h1] at h
        simp at h
        obtain ⟨rfl, rfl⟩ := h
        exact leafB_ok h1
theorem formF_ok {p : Int} {t : List UInt8} {f : Fm} (h : formF p t = some f) : okF p f := by
  unfold formF at h
  cases h1 : parseF p t.length t with
  | none => rw [h1] at h; simp at h
  | some r =>
    obtain ⟨g, u⟩ := r
    rw [h1] at h
    cases u with
    | nil => simp at h; subst h; exact parseF_ok h1
    | cons c u => simp at h
theorem evF_bd {p x y z : Int} (hp : isP p = true) (he : isE3 p x y z = true) : ∀ f : Fm, okF p f → 0 ≤ evF p x y z f ∧ evF p x y z f < p
  | .leaf k a, h => by
    obtain ⟨hx, hy, hz⟩ := isE3_iff.1 he
    rcases h with ⟨rfl, rfl | rfl | rfl⟩ | ⟨rfl, h0, h1⟩
    · simpa [evF, coord] using hx
    · simpa [evF, coord] using hy
    · simpa [evF, coord] using hz
    · simpa [evF] using ⟨h0, h1⟩
  | .pair k f g, h => by
    have hb := isP_bd hp
    unfold evF
    split
    · exact ⟨Int.emod_nonneg _ (by omega), Int.emod_lt_of_pos _ (by omega)⟩
    · exact ⟨Int.emod_nonneg _ (by omega), Int.emod_lt_of_pos _ (by omega)⟩
set_option maxRecDepth 100000 in
set_option maxHeartbeats 4000000 in
theorem sGate4 (p : Int) (c : UInt8) (k a : Int) (w : World) (h : leafB p c = some (k, a)) :
    Calls Try.prog 187 #[.int .u8 (c.toNat : Int)] w fun e w' => e = .returned (.agg #[.int .i64 k, .int .i64 a, .int .i64 0]) ∧ Below w.heap.size w w' := by
  obtain ⟨v, hv⟩ : ∃ v, v = Lib.indexByte letB c := ⟨_, rfl⟩
  obtain ⟨d, hd⟩ : ∃ d, d = Lib.indexByte digB c := ⟨_, rfl⟩
  have H1 := Lib.hid (fun w => show Calls Try.prog 189 #[.string ⟨#[120, 121, 122]⟩, .int .u8 (c.toNat : Int)] w fun e w' => e = .returned (.int .i64 v) ∧ w' = w by
    rw [hv]
    exact sFind ⟨#[120, 121, 122]⟩ c w (by decide))
  have H2 := Lib.hid (fun w => show Calls Try.prog 189 #[.string ⟨#[48, 49, 50, 51, 52, 53, 54, 55, 56, 57, 65, 66, 67]⟩, .int .u8 (c.toNat : Int)] w fun e w' => e = .returned (.int .i64 d) ∧ w' = w by
    rw [hd]
    exact sFind ⟨#[48, 49, 50, 51, 52, 53, 54, 55, 56, 57, 65, 66, 67]⟩ c w (by decide))
  unfold leafB at h
  rw [← hv, ← hd] at h
  clear hv hd
  by_cases h0 : 0 ≤ v
  · rw [if_pos h0] at h
    injection h with h
    injection h with e1 e2
    subst e1 e2
    go_enter Try.func187, Try.ntmps187
    go_wp2_with fail
    refine (H1.out _).mono ?_
    rintro e w1 ⟨rfl, rfl⟩
    go_wp2_with fail
    refine bodyPost_ret (v := .agg #[.int .i64 0, .int .i64 v, .int .i64 0]) (by simp [results, Try.results187, go_sem]) rfl ⟨rfl, ?_⟩
    exact Below.alloc (Below.refl _ _) (Nat.le_refl _) _
  · rw [if_neg h0] at h
    split at h
    · injection h with h
      injection h with e1 e2
      subst e1 e2
      go_enter Try.func187, Try.ntmps187
      go_wp2_with fail
      refine (H1.out _).mono ?_
      rintro e w1 ⟨rfl, rfl⟩
      go_wp2_with fail
      refine (H2.out _).mono ?_
      rintro e w1 ⟨rfl, rfl⟩
      go_wp2_with fail
      refine bodyPost_ret (v := .agg #[.int .i64 1, .int .i64 d, .int .i64 0]) (by simp [results, Try.results187, go_sem]) rfl ⟨rfl, ?_⟩
      exact Below.alloc (Below.refl _ _) (Nat.le_refl _) _
    · cases h
/-- what EvalFormula returns -/
def evfV (p x y z : Int) (s : ByteArray) : Int := match foF p s with
  | none => -1
  | some f => if isE3 p x y z = true then evF p x y z f else -1
end Go.Proofs.Ytegkcfinklcglaa
