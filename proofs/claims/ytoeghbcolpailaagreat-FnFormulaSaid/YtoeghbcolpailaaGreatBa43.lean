/-
  The circuit of a polynomial as a list of gates. Conditions: the list of terms is a polynomial.
-/
import Derived.Test.YtoeghbcolpailaaGreatBa42
import Derived.Test.YtoeghbcolpailaaGreatBa33
namespace Go.Proofs.YtoeghbcolpailaaGreat
open Go.RowKit
/-- the one gate of an unknown -/
def unkG (v : Nat) (C : List Gt) : Nat × List Gt := shr ⟨0, (v : Int), 0⟩ C
def powG (v : Nat) : Nat → Int × List Gt → Int × List Gt
  | 0, s => s
  | n + 1, s => jnG 3 (powG v n s).1 ((unkG v (powG v n s).2).1 : Nat) (unkG v (powG v n s).2).2
def bgnB (x : Trm) : Bool := x.t != 1 || degT x == 0
def bgnG (x : Trm) (C : List Gt) : Int × List Gt := if bgnB x = true then ((C.length : Int), C ++ [⟨1, x.t, 0⟩]) else (-1, C)
def exV (x : Trm) (v : Nat) : Int := if v = 0 then x.a else if v = 1 then x.b else x.c
/-- the gates of a term behind others, as far as the first v unknowns -/
def trmG (x : Trm) (C : List Gt) : Nat → Int × List Gt
  | 0 => bgnG x C
  | v + 1 => powG v (exV x v).toNat (trmG x C v)
/-- the gates of the first k terms -/
def polG (L : List Trm) : Nat → Int × List Gt
  | 0 => (-1, [])
  | k + 1 => jnG 2 (polG L k).1 (trmG (L.getD k default) (polG L k).2 3).1 (trmG (L.getD k default) (polG L k).2 3).2
/-- the circuit of a polynomial, however many gates it has -/
def coG (L : List Trm) : List Gt := if L = [] then [⟨1, 0, 0⟩] else (polG L L.length).2
theorem unkG_st {p : Int} {C : List Gt} {v : Nat} (hv : v < 3) (h : AllOK p C) : AllOK p (unkG v C).2 := shr_ok h (by
  have : v = 0 ∨ v = 1 ∨ v = 2 := by omega
  rcases this with rfl | rfl | rfl <;> rfl)
theorem powG_st {p : Int} {v : Nat} (hv : v < 3) : ∀ (n : Nat) (s : Int × List Gt), StG p s → StG p (powG v n s) ∧ (0 < n ∨ 0 ≤ s.1 → 0 ≤ (powG v n s).1) ∧ s.2.length ≤ (powG v n s).2.length ∧ (powG v n s).2.length ≤ s.2.length + 2 * n
  | 0, s, h => ⟨h, fun h => by rcases h with h | h; omega; exact h, Nat.le_refl _, by simp [powG]⟩
  | n + 1, s, h => by
    obtain ⟨h1, _, h3, h4⟩ := powG_st hv n s h
    have hu := shr_facts ⟨0, (v : Int), 0⟩ (powG v n s).2
    have ho := unkG_st (v := v) hv h1.ok
    have := jnG_st (p := p) (k := 3) (s := ((powG v n s).1, (unkG v (powG v n s).2).2)) (next := ((unkG v (powG v n s).2).1 : Nat)) (.inr rfl) ho ⟨h1.lo, by
      have := h1.hi
      have h5 : (powG v n s).2.length ≤ (unkG v (powG v n s).2).2.length := hu.2.1
      show (powG v n s).1 < ((unkG v (powG v n s).2).2.length : Int)
      omega⟩ ⟨by omega, by
      have h5 : (unkG v (powG v n s).2).1 < (unkG v (powG v n s).2).2.length := hu.1
      show (((unkG v (powG v n s).2).1 : Nat) : Int) < ((unkG v (powG v n s).2).2.length : Int)
      omega⟩
    simp only at this
    have h5 : (powG v n s).2.length ≤ (unkG v (powG v n s).2).2.length := hu.2.1
    have h6 : (unkG v (powG v n s).2).2.length ≤ (powG v n s).2.length + 1 := hu.2.2
    exact ⟨this.1, fun _ => this.2.1, by show s.2.length ≤ (jnG _ _ _ _).2.length; omega, by show (jnG _ _ _ _).2.length ≤ _; omega⟩
theorem bgnG_st {p : Int} {x : Trm} {C : List Gt} (hx : 1 ≤ x.t ∧ x.t < p) (h : AllOK p C) : StG p (bgnG x C) ∧ C.length ≤ (bgnG x C).2.length ∧ (bgnG x C).2.length ≤ C.length + 1 ∧ (0 ≤ (bgnG x C).1 ∨ degT x ≠ 0) := by
  unfold bgnG
  split
  · refine ⟨⟨allOK_snoc h ?_, by show (-1 : Int) ≤ (C.length : Int); omega, by simp; omega⟩, by simp, by simp, .inl (by show (0 : Int) ≤ (C.length : Int); omega)⟩
    simp [gOK, inB]
    omega
  · rename_i hb
    refine ⟨⟨h, by simp, by show (-1 : Int) < (C.length : Int); omega⟩, Nat.le_refl _, Nat.le_succ _, .inr fun e => hb ?_⟩
    simp [bgnB, e]
theorem trmG_st {p : Int} {x : Trm} {C : List Gt} (hx : 1 ≤ x.t ∧ x.t < p) (hp : (0 ≤ x.a ∧ x.a ≤ 9) ∧ (0 ≤ x.b ∧ x.b ≤ 9) ∧ (0 ≤ x.c ∧ x.c ≤ 9)) (h : AllOK p C) :
    ∀ v, v ≤ 3 → StG p (trmG x C v) ∧ C.length ≤ (trmG x C v).2.length ∧ (trmG x C v).2.length ≤ C.length + 1 + 18 * v ∧ ((0 ≤ (trmG x C v).1) ∨ (v < 3 ∧ degT x ≠ 0 ∧ ∀ j, j < v → exV x j = 0))
  | 0, _ => by
    obtain ⟨h1, h2, h3, h4⟩ := bgnG_st hx h
    exact ⟨h1, h2, by show (bgnG x C).2.length ≤ _; omega, h4.imp id fun h => ⟨by omega, h, fun j hj => by omega⟩⟩
  | v + 1, hv => by
    obtain ⟨h1, h2, h3, h4⟩ := trmG_st hx hp h v (by omega)
    have he : 0 ≤ exV x v ∧ exV x v ≤ 9 := by unfold exV; split; exact hp.1; split; exact hp.2.1; exact hp.2.2
    obtain ⟨k1, k2, k3, k4⟩ := powG_st (p := p) (v := v) (by omega) (exV x v).toNat (trmG x C v) h1
    refine ⟨k1, by show C.length ≤ (powG _ _ _).2.length; omega, by show (powG _ _ _).2.length ≤ _; omega, ?_⟩
    by_cases h0 : 0 < (exV x v).toNat ∨ 0 ≤ (trmG x C v).1
    · exact .inl (k2 h0)
    · rcases h4 with h4 | ⟨_, h5, h6⟩
      · exact absurd (.inr h4) h0
      · have hz : exV x v = 0 := by omega
        by_cases hv3 : v + 1 < 3
        · refine .inr ⟨hv3, h5, fun j hj => ?_⟩
          by_cases e : j = v
          · rw [e]; exact hz
          · exact h6 j (by omega)
        · exfalso
          have hv2 : v = 2 := by omega
          subst hv2
          have a := h6 0 (by omega)
          have b := h6 1 (by omega)
          simp only [exV] at a b hz
          simp at a b hz
          apply h5
          unfold degT
          omega
theorem polG_st {p : Int} {L : List Trm} (hV : validB p L = true) : ∀ k, k ≤ L.length → StG p (polG L k) ∧ (polG L k).2.length ≤ 56 * k ∧ (0 < k → 0 ≤ (polG L k).1)
  | 0, _ => ⟨⟨fun j hj => by simp [polG] at hj, by simp [polG], by simp [polG]⟩, by simp [polG], fun h => by omega⟩
  | k + 1, hk => by
    obtain ⟨h1, h2, h3⟩ := polG_st hV k (by omega)
    obtain ⟨x, hx⟩ : ∃ x, x = L.getD k default := ⟨_, rfl⟩
    have hb := validB_el hV (show k < L.length by omega) hx
    have hp := validB_pows hV (show k < L.length by omega) hx
    obtain ⟨t1, t2, t3, t4⟩ := trmG_st (C := (polG L k).2) hb hp h1.ok 3 (Nat.le_refl _)
    have t5 : 0 ≤ (trmG x (polG L k).2 3).1 := by rcases t4 with t | t; exact t; omega
    have := jnG_st (p := p) (k := 2) (s := ((polG L k).1, (trmG x (polG L k).2 3).2)) (next := (trmG x (polG L k).2 3).1) (.inl rfl) t1.ok ⟨h1.lo, by
      have := h1.hi
      show (polG L k).1 < ((trmG x (polG L k).2 3).2.length : Int)
      omega⟩ ⟨t5, t1.hi⟩
    simp only at this
    have e : polG L (k + 1) = jnG 2 (polG L k).1 (trmG x (polG L k).2 3).1 (trmG x (polG L k).2 3).2 := by rw [hx]; rfl
    rw [e]
    exact ⟨this.1, by omega, fun _ => this.2.1⟩
theorem coG_st {p : Int} {L : List Trm} (hp : isP p = true) (hV : validB p L = true) : AllOK p (coG L) ∧ 1 ≤ (coG L).length ∧ (coG L).length ≤ 3360 := by
  have hb := isP_bd hp
  unfold coG
  split
  · refine ⟨fun j hj => ?_, by simp, by simp⟩
    have : j = 0 := by simpa using hj
    subst this
    show gOK (p - 1) ⟨1, 0, 0⟩ 0 = true
    simp [gOK, inB]
    omega
  · rename_i hn
    obtain ⟨h1, h2, h3⟩ := polG_st hV L.length (Nat.le_refl _)
    have hl := validB_len hV
    have h0 : 0 < L.length := List.length_pos_iff.2 hn
    have := h3 h0
    have := h1.hi
    exact ⟨h1.ok, by omega, by omega⟩
/-- what CircuitOf returns -/
def coB (p : Int) (L : List Trm) : Bool := (isP p && validB p L) && decide ((coG L).length ≤ 60)
def coV (p : Int) (L : List Trm) : List Gt := if coB p L = true then coG L else []
theorem coB_circ {p : Int} {L : List Trm} (hp : isP p = true) (hV : validB p L = true) : circB p (coG L) = decide ((coG L).length ≤ 60) := by
  obtain ⟨h1, h2, _⟩ := coG_st hp hV
  by_cases h : (coG L).length ≤ 60
  · rw [decide_eq_true h]
    exact circB_iff.2 ⟨hp, h2, h, h1⟩
  · rw [decide_eq_false h]
    exact circB_long (by omega)
end Go.Proofs.YtoeghbcolpailaaGreat
