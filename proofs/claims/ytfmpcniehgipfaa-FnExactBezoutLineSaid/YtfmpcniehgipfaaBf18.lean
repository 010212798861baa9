/-
  Euclid's rows of the model. Conditions: what the slices hold is known, lines over a prime.
  GcdLine of the model. Conditions: what the slices hold is known.
-/
import Derived.Test.YtfmpcniehgipfaaBf16
import Derived.Deep.Cut
namespace Go.Proofs.Ytfmpcniehgipfaa
set_option linter.unusedVariables false
open Go.RowKit
/-- the last row of Euclid -/
def euG (p : Int) (L1 L2 : List Int) : Tri := eucN p (ivV p) L2.length ⟨L1, [1], []⟩ ⟨L2, [], [1]⟩
/-- the greatest common divisor and what it is made of -/
def euT (p : Int) (L1 L2 : List Int) : Tri :=
  if (euG p L1 L2).a.length = 0 then ⟨[], [], []⟩ else ⟨smuL p (euG p L1 L2).a (ivL p (euG p L1 L2).a), smuL p (euG p L1 L2).b (ivL p (euG p L1 L2).a), smuL p (euG p L1 L2).c (ivL p (euG p L1 L2).a)⟩
def lenC (w : World) (R : Nat) : Nat := match w.cell? ⟨R, 0, none⟩ with
  | some v => lenV v
  | none => 0
theorem Bx3.alloc (w : World) (x y z : Value) (t : TypeId) : Bx3 (w.alloc (Obj.cells #[x, y, z] t)) w.heap.size x y z :=
  ⟨by simp [go_sem], by simp [go_sem], by simp [go_sem], World.frozen?_alloc_at _ _ _ 0 rfl, World.frozen?_alloc_at _ _ _ 1 rfl, World.frozen?_alloc_at _ _ _ 2 rfl, by simp⟩
theorem RowN.far {w : World} {B n i : Nat} {v u : Value} {L : List Int} (h : RowN w B v L) (hn : n < B) : RowN (w.setCell ⟨n, i, none⟩ u) B v L :=
  World.ownsRow.kept (row := some n) h ⟨rfl, rfl, rfl, by simp, fun k hk hne => Below.heap_setCell _ _ _ _ (fun e => hne (by rw [e]))⟩ (.inr (fun e => by have := (World.ownsRow.lt h n e).1; omega))
theorem RowN.far3 {w : World} {B n : Nat} {v a b c : Value} {L : List Int} (h : RowN w B v L) (hn : n < B) : RowN (((w.setCell ⟨n, 0, none⟩ a).setCell ⟨n, 1, none⟩ b).setCell ⟨n, 2, none⟩ c) B v L := ((h.far hn).far hn).far hn
theorem Off.excl {K : Nat → Prop} {w : World} {v : Value} {L : List Int} {C : Nat} (h : Off K w v L) (hC : w.heap.size ≤ C) : Off (fun g => K g ∨ g = C) w v L :=
  h.past.mono (fun g e => e.imp id (fun e => by omega))
theorem TriB.excl {K : Nat → Prop} {w : World} {R C : Nat} {x y z : Value} {T : Tri} (h : TriB K w R x y z T) (hC : w.heap.size ≤ C) : TriB (fun g => K g ∨ g = C) w R x y z T :=
  ⟨h.1, h.2.1.excl hC, h.2.2.1.excl hC, h.2.2.2.excl hC⟩
theorem TriB.mono {K K' : Nat → Prop} {w : World} {R : Nat} {x y z : Value} {T : Tri} (h : TriB K w R x y z T) (hk : ∀ g, K' g → K g) : TriB K' w R x y z T :=
  ⟨h.1, h.2.1.mono hk, h.2.2.1.mono hk, h.2.2.2.mono hk⟩
theorem TriB.set {K : Nat → Prop} {w : World} {R n i : Nat} {x y z u : Value} {T : Tri} (h : TriB K w R x y z T) (hn : K n) (hne : n ≠ R) : TriB K (w.setCell ⟨n, i, none⟩ u) R x y z T :=
  ⟨h.1.other hne, h.2.1.setCell hn, h.2.2.1.setCell hn, h.2.2.2.setCell hn⟩
theorem Bx3.other3 {w : World} {R n : Nat} {x y z a b c : Value} (h : Bx3 w R x y z) (hne : n ≠ R) : Bx3 (((w.setCell ⟨n, 0, none⟩ a).setCell ⟨n, 1, none⟩ b).setCell ⟨n, 2, none⟩ c) R x y z := ((h.other hne).other hne).other hne
theorem Off.set3 {K : Nat → Prop} {w : World} {n : Nat} {v a b c : Value} {L : List Int} (h : Off K w v L) (hn : K n) : Off K (((w.setCell ⟨n, 0, none⟩ a).setCell ⟨n, 1, none⟩ b).setCell ⟨n, 2, none⟩ c) v L := ((h.setCell hn).setCell hn).setCell hn
theorem TriB.set3 {K : Nat → Prop} {w : World} {R n : Nat} {x y z a b c : Value} {T : Tri} (h : TriB K w R x y z T) (hn : K n) (hne : n ≠ R) : TriB K (((w.setCell ⟨n, 0, none⟩ a).setCell ⟨n, 1, none⟩ b).setCell ⟨n, 2, none⟩ c) R x y z T := ((h.set hn hne).set hn hne).set hn hne
theorem TriB.put3 {K : Nat → Prop} {w : World} {R : Nat} {x y z a b c : Value} {T : Tri} (h : Bx3 w R x y z) (ha : Off K w a T.a) (hb : Off K w b T.b) (hc : Off K w c T.c) (hn : K R) : TriB K (((w.setCell ⟨R, 0, none⟩ a).setCell ⟨R, 1, none⟩ b).setCell ⟨R, 2, none⟩ c) R a b c T :=
  ⟨h.put a b c, ha.set3 hn, hb.set3 hn, hc.set3 hn⟩
theorem below_str3 {w w' : World} {B n : Nat} {a b c : Value} (h : Below B w w') (hn : B ≤ n) : Below B w (((w'.setCell ⟨n, 0, none⟩ a).setCell ⟨n, 1, none⟩ b).setCell ⟨n, 2, none⟩ c) := ((h.setCell hn _).setCell hn _).setCell hn _
theorem TOk.mono {p : Int} {T : Tri} {l l' k k' : Nat} (h : TOk p T l k) (hl : l ≤ l') (hk : k ≤ k') : TOk p T l' k' :=
  ⟨h.ca, h.cb, h.cc, h.ea, h.eb, h.ec, Nat.le_trans h.la hl, Nat.le_trans h.lb hk, Nat.le_trans h.lc hk⟩
theorem one_can : Can [1] := .inr (by decide)
theorem one_allE {p : Int} (hp : 1 < p) : AllE p [1] := fun k => by
  cases k with
  | zero => exact ⟨by decide, hp⟩
  | succ k => rw [cf_ge (by simp)]; omega
theorem nil_allE {p : Int} (hp : 1 < p) : AllE p [] := fun k => by rw [cf_nil]; omega
set_option maxRecDepth 100000 in
set_option maxHeartbeats 8000000 in
theorem sEuclid (p : Int) (v1 v2 : Value) (L1 L2 : List Int) (w : World) (hp : isP p = true) (h1 : Ints w v1 L1) (h2 : Ints w v2 L2) (hE1 : AllE p L1) (hE2 : AllE p L2) (hc1 : Can L1) (hc2 : Can L2) (hl1 : L1.length ≤ 10) (hl2 : L2.length ≤ 10) :
    Calls Try.prog 78 #[.int .i64 p, v1, v2] w fun e w' => ∃ x y z, e = .returned (.agg #[x, y, z]) ∧ Ilr w' x (euT p L1 L2).a ∧ Ilr w' y (euT p L1 L2).b ∧ Ilr w' z (euT p L1 L2).c ∧ Below w.heap.size w w' := by
  obtain ⟨q1, q2⟩ := isP_bd hp
  have HP := Lib.hid hp
  have HE1 := Lib.hid hE1
  have HE2 := Lib.hid hE2
  have HI1 := Lib.hid h1
  have HI2 := Lib.hid h2
  obtain ⟨_, a1, cp1, rfl, _⟩ := h1
  obtain ⟨_, a2, cp2, rfl, _⟩ := h2
  clear hE1 hE2 hp
  obtain ⟨W0, hW0⟩ : ∃ W0, W0 = (((((w.alloc (Obj.cells #[.slice none 0 0, .slice none 0 0, .slice none 0 0] 74)).alloc (Obj.cells #[.int .i64 1] 3)).alloc (Obj.cells #[.slice a1 L1.length cp1, .slice (some ⟨w.heap.size + 1, 0, none⟩) 1 1, .slice none 0 0] 74)).alloc (Obj.cells #[.int .i64 1] 3)).alloc (Obj.cells #[.slice a2 L2.length cp2, .slice none 0 0, .slice (some ⟨w.heap.size + 1 + 1 + 1, 0, none⟩) 1 1] 74)) := ⟨_, rfl⟩
  have hI1 := HI1.out
  have hI2 := HI2.out
  have HW0 := Lib.hid hW0
  obtain ⟨R, hR⟩ : ∃ R, R = w.heap.size := ⟨_, rfl⟩
  have HST0 : ∀ A B, A = w.heap.size + 1 + 1 → B = w.heap.size + 1 + 1 + 1 + 1 → TriB (fun g => g = A ∨ g = B) W0 A (.slice a1 L1.length cp1) (.slice (some ⟨w.heap.size + 1, 0, none⟩) 1 1) (.slice none 0 0) ⟨L1, [1], []⟩ ∧ TriB (fun g => g = A ∨ g = B) W0 B (.slice a2 L2.length cp2) (.slice none 0 0) (.slice (some ⟨w.heap.size + 1 + 1 + 1, 0, none⟩) 1 1) ⟨L2, [], [1]⟩ ∧ Bx3 W0 w.heap.size (.slice none 0 0) (.slice none 0 0) (.slice none 0 0) ∧ Below w.heap.size w W0 := by
    rintro A B rfl rfl
    obtain ⟨A1, hA1⟩ : ∃ A1, A1 = w.alloc (Obj.cells #[.slice none 0 0, .slice none 0 0, .slice none 0 0] 74) := ⟨_, rfl⟩
    have s1 : A1.heap.size = w.heap.size + 1 := by rw [hA1]; simp
    have b1 : Below w.heap.size w A1 := by rw [hA1]; exact Below.alloc (Below.refl _ _) (Nat.le_refl _) _
    have x1 : Bx3 A1 w.heap.size (.slice none 0 0) (.slice none 0 0) (.slice none 0 0) := by rw [hA1]; exact Bx3.alloc _ _ _ _ _
    rw [← hA1] at hW0
    obtain ⟨A2, hA2⟩ : ∃ A2, A2 = A1.alloc (Obj.cells #[.int .i64 1] 3) := ⟨_, rfl⟩
    have s2 : A2.heap.size = w.heap.size + 1 + 1 := by rw [hA2]; simp [s1]
    have b2 : Below A1.heap.size A1 A2 := by rw [hA2]; exact Below.alloc (Below.refl _ _) (Nat.le_refl _) _
    have i2 : Ints A2 (.slice (some ⟨w.heap.size + 1, 0, none⟩) 1 1) [1] := ⟨by simp, _, 1, rfl, .inr ⟨w.heap.size + 1, 0, rfl, by rw [s2]; omega, fun j hj => by
      have : j = 0 := by simp at hj; omega
      subst this
      rw [hA2, ← s1]; simp [go_sem]⟩⟩
    rw [← hA2] at hW0
    obtain ⟨A3, hA3⟩ : ∃ A3, A3 = A2.alloc (Obj.cells #[.slice a1 L1.length cp1, .slice (some ⟨w.heap.size + 1, 0, none⟩) 1 1, .slice none 0 0] 74) := ⟨_, rfl⟩
    have s3 : A3.heap.size = w.heap.size + 1 + 1 + 1 := by rw [hA3]; simp [s2]
    have b3 : Below A2.heap.size A2 A3 := by rw [hA3]; exact Below.alloc (Below.refl _ _) (Nat.le_refl _) _
    have x3 : Bx3 A3 (w.heap.size + 1 + 1) (.slice a1 L1.length cp1) (.slice (some ⟨w.heap.size + 1, 0, none⟩) 1 1) (.slice none 0 0) := by rw [hA3, ← s2]; exact Bx3.alloc _ _ _ _ _
    rw [← hA3] at hW0
    obtain ⟨A4, hA4⟩ : ∃ A4, A4 = A3.alloc (Obj.cells #[.int .i64 1] 3) := ⟨_, rfl⟩
    have s4 : A4.heap.size = w.heap.size + 1 + 1 + 1 + 1 := by rw [hA4]; simp [s3]
    have b4 : Below A3.heap.size A3 A4 := by rw [hA4]; exact Below.alloc (Below.refl _ _) (Nat.le_refl _) _
    have i4 : Ints A4 (.slice (some ⟨w.heap.size + 1 + 1 + 1, 0, none⟩) 1 1) [1] := ⟨by simp, _, 1, rfl, .inr ⟨w.heap.size + 1 + 1 + 1, 0, rfl, by rw [s4]; omega, fun j hj => by
      have : j = 0 := by simp at hj; omega
      subst this
      rw [hA4, ← s3]; simp [go_sem]⟩⟩
    rw [← hA4] at hW0
    have b5 : Below A4.heap.size A4 W0 := by rw [hW0]; exact Below.alloc (Below.refl _ _) (Nat.le_refl _) _
    have x5 : Bx3 W0 (w.heap.size + 1 + 1 + 1 + 1) (.slice a2 L2.length cp2) (.slice none 0 0) (.slice (some ⟨w.heap.size + 1 + 1 + 1, 0, none⟩) 1 1) := by rw [hW0, ← s4]; exact Bx3.alloc _ _ _ _ _
    have b25 : Below A2.heap.size A2 W0 := (b3.trans (b4.mono b3.size)).trans (b5.mono (Nat.le_trans b3.size b4.size))
    have b35 : Below A3.heap.size A3 W0 := b4.trans (b5.mono b4.size)
    have b15 : Below A1.heap.size A1 W0 := b2.trans (b25.mono b2.size)
    have b05 : Below w.heap.size w W0 := b1.trans (b15.mono b1.size)
    have n1 : Off (fun g => g = w.heap.size + 1 + 1 ∨ g = w.heap.size + 1 + 1 + 1 + 1) W0 (.slice none 0 0) [] := ⟨by simp, _, _, rfl, .inl rfl⟩
    exact ⟨⟨x3.below b35, (hI1.off (by omega) (fun g hg h => by omega)).below b05, (Off.below (K := fun g => g = w.heap.size + 1 + 1 ∨ g = w.heap.size + 1 + 1 + 1 + 1) ⟨by simp, _, _, rfl, .inr ⟨w.heap.size + 1, 0, rfl, by omega, by rw [s2]; omega, (fun j hj => by
        obtain ⟨_, a, c, e, h⟩ := i2
        injection e with e1 e2 e3
        subst e1
        rcases h with h | ⟨g, off, e, _, hc⟩
        · cases h
        · simp at e; obtain ⟨rfl, rfl⟩ := e; exact hc j hj)⟩⟩ b25), n1⟩, ⟨x5, (hI2.off (by omega) (fun g hg h => by omega)).below b05, n1, (Off.below (K := fun g => g = w.heap.size + 1 + 1 ∨ g = w.heap.size + 1 + 1 + 1 + 1) ⟨by simp, _, _, rfl, .inr ⟨w.heap.size + 1 + 1 + 1, 0, rfl, by omega, by rw [s4]; omega, (fun j hj => by
        obtain ⟨_, a, c, e, h⟩ := i4
        injection e with e1 e2 e3
        subst e1
        rcases h with h | ⟨g, off, e, _, hc⟩
        · cases h
        · simp at e; obtain ⟨rfl, rfl⟩ := e; exact hc j hj)⟩⟩ b5)⟩, x1.below b15, b05⟩
  obtain ⟨A, hA⟩ : ∃ A, A = w.heap.size + 1 + 1 := ⟨_, rfl⟩
  obtain ⟨B, hB⟩ : ∃ B, B = w.heap.size + 1 + 1 + 1 + 1 := ⟨_, rfl⟩
  have HS0 := Lib.hid (HST0 A B hA hB)
  obtain ⟨y1, hy1⟩ : ∃ v : Value, v = .slice (some ⟨w.heap.size + 1, 0, none⟩) 1 1 := ⟨_, rfl⟩
  obtain ⟨y2, hy2⟩ : ∃ v : Value, v = .slice (some ⟨w.heap.size + 1 + 1 + 1, 0, none⟩) 1 1 := ⟨_, rfl⟩
  rw [← hy1, ← hy2] at HS0
  have HTO := Lib.hid (show TOk p ⟨L1, [1], []⟩ 10 1 ∧ TOk p ⟨L2, [], [1]⟩ 10 1 from ⟨⟨hc1, one_can, Can.nil, HE1.out, one_allE (by omega), nil_allE (by omega), hl1, by simp, by simp⟩, ⟨hc2, Can.nil, one_can, HE2.out, nil_allE (by omega), one_allE (by omega), hl2, by simp, by simp⟩⟩)
  have HOR := Lib.hid (show w.heap.size ≤ R ∧ R < A ∧ A < B from by omega)
  clear hI1 hI2 HST0
  go_enter Try.func78, Try.ntmps78
  go_wp2_with fail
  rw [← HW0.out, ← hB, ← hy2, ← hA, ← hy1, ← hR]
  have HSB := Lib.hid HS0.out.2.2.2
  have HRW := Lib.hid hR
  rw [← hR] at HS0
  clear hA hB hy1 hy2 hR HW0 hW0
  go_loopw [] (fun wr => ∃ (m n : Tri) (k kk : Nat) (x y z x' y' z' : Value), TriB (fun g => g = A ∨ g = B) wr A x y z m ∧ TriB (fun g => g = A ∨ g = B) wr B x' y' z' n ∧ Bx3 wr R (.slice none 0 0) (.slice none 0 0) (.slice none 0 0) ∧ TOk p m 10 kk ∧ TOk p n 10 kk ∧ kk + 10 * n.a.length ≤ 101 ∧ eucN p (ivV p) k m n = euG p L1 L2 ∧ n.a.length ≤ k ∧ Below w.heap.size w wr) (fun wr => lenC wr B)
  case atStart => exact ⟨⟨L1, [1], []⟩, ⟨L2, [], [1]⟩, L2.length, 1, _, _, _, _, _, _, HS0.out.1, HS0.out.2.1, HS0.out.2.2.1, HTO.out.1, HTO.out.2, (by show 1 + 10 * L2.length ≤ 101; omega), rfl, Nat.le_refl _, HSB.out⟩
  case round =>
    clear HS0 HTO HSB
    obtain ⟨m, n, k, kk, x, y, z, x', y', z', hA, hB, hR6, tm, tn, hkk, he, hnk, hb⟩ := hrel
    have HTA := Lib.hid hA
    have HTB := Lib.hid hB
    have HR6 := Lib.hid hR6
    have HBB := Lib.hid hb
    have HTM := Lib.hid tm
    have HTN := Lib.hid tn
    have HE := Lib.hid he
    have HKK := Lib.hid hkk
    obtain ⟨ax, cx, rfl⟩ := hA.2.1.form
    obtain ⟨ay, cy, rfl⟩ := hA.2.2.1.form
    obtain ⟨az, cz, rfl⟩ := hA.2.2.2.form
    obtain ⟨bx, dx, rfl⟩ := hB.2.1.form
    obtain ⟨by', dy, rfl⟩ := hB.2.2.1.form
    obtain ⟨bz, dz, rfl⟩ := hB.2.2.2.form
    obtain ⟨ca0, ca1, ca2, _, _, _, hAs⟩ := hA.1
    obtain ⟨cb0, cb1, cb2, _, _, _, hBs⟩ := hB.1
    have hma := tm.la
    have hna := tn.la
    have hord := HOR.out
    have hrw := HRW.out
    have hsz := hb.size
    by_cases hn0 : n.a.length = 0
    · have hle : ¬ (n.a.length : Int) > 0 := by omega
      have HG := Lib.hid (show m = euG p L1 L2 from by rw [← HE.out, eucN_nil _ _ _ _ _ hn0])
      have HR7 := Lib.hid (show Bx3 wr w.heap.size (.slice none 0 0) (.slice none 0 0) (.slice none 0 0) from by rw [← hrw]; exact hR6)
      clear hA hB hR6 hb tm tn he hkk
      by_cases hm0 : m.a.length = 0
      · have HT := Lib.hid (show euT p L1 L2 = ⟨[], [], []⟩ from by unfold euT; rw [← HG.out, if_pos hm0])
        have hbq : ((m.a.length : Int) == 0) = true := by simp [hm0]
        have hm0' : (m.a.length : Int) = 0 := by omega
        obtain ⟨e0, e1, e2, g0, g1, g2, gs⟩ := HR7.out
        have HZ := Lib.hid (below_str3 (a := .slice none 0 0) (b := .slice none 0 0) (c := .slice none 0 0) HBB.out (Nat.le_refl w.heap.size))
        have HZ2 := Lib.hid (HR7.out.put (.slice none 0 0) (.slice none 0 0) (.slice none 0 0))
        have hnil : ∀ w', Ilr w' (.slice none 0 0) [] := fun w' => ⟨by simp, none, 0, rfl, ⟨by simp, by unfold maxLen; omega⟩, .inl ⟨rfl, rfl, rfl⟩⟩
        clear ca1 ca2 cb1 cb2
        go_wp2_with fail
        have t0 := HZ2.out.c0
        have t1 := HZ2.out.c1
        have t2 := HZ2.out.c2
        refine bodyPost_ret (v := .agg #[.slice none 0 0, .slice none 0 0, .slice none 0 0]) (by simp [results, Try.results78, go_sem, t0, t1, t2]) rfl ⟨_, _, _, rfl, by rw [HT.out]; exact hnil _, by rw [HT.out]; exact hnil _, by rw [HT.out]; exact hnil _, HZ.out⟩
      · have HT := Lib.hid (show euT p L1 L2 = ⟨smuL p m.a (ivL p m.a), smuL p m.b (ivL p m.a), smuL p m.c (ivL p m.a)⟩ from by unfold euT; rw [← HG.out, if_neg hm0])
        obtain ⟨_, ax', cx', e1, e2⟩ := HTA.out.2.1
        simp only [Value.slice.injEq] at e1
        obtain ⟨rfl, _, rfl⟩ := e1
        obtain ⟨q, hq⟩ : ∃ q, m.a.length = q + 1 := ⟨m.a.length - 1, by omega⟩
        obtain ⟨ga, oa, rfl, _, hga, hca⟩ : ∃ g off, ax = some ⟨g, off, none⟩ ∧ ¬ (g = A ∨ g = B) ∧ g < wr.heap.size ∧ ∀ j, j < m.a.length → wr.cell? ⟨g, off + j, none⟩ = some (.int .i64 (m.a.getD j 0)) := by
          rcases e2 with e2 | e2
          · rw [e2] at hq; simp at hq
          · exact e2
        have hlc := hca q (by omega)
        obtain ⟨xl, hxl⟩ : ∃ x, x = m.a.getD q 0 := ⟨_, rfl⟩
        rw [← hxl] at hlc
        have hxb := HTM.out.ea q
        have hxe : cf m.a q = xl := hxl.symm
        rw [hxe] at hxb
        have HIV := Lib.hid (fun w => sInvV p xl w HP.out hxb.1 hxb.2)
        obtain ⟨iv, hiv⟩ : ∃ iv, iv = ivV p xl := ⟨_, rfl⟩
        rw [← hiv] at HIV
        have HIE := Lib.hid (show ivL p m.a = iv from by unfold ivL; rw [hq, show q + 1 - 1 = q by omega, hxe, hiv])
        have hib : 0 ≤ iv ∧ iv < p := by
          have := (iv_ok HP.out HTM.out.ca HTM.out.ea (show 0 < m.a.length by omega)).2.2
          rw [HIE.out] at this; exact this
        have hkk' := HKK.out
        have hlb := HTM.out.lb
        have hlc' := HTM.out.lc
        have HA1 := Lib.hid (fun w' (hb' : Below wr.heap.size wr w') => sScaledL p iv (.slice (some ⟨ga, oa, none⟩) m.a.length cx) m.a w' HP.out (HTA.out.2.1.below hb').ints HTM.out.ea hib.1 hib.2 (by omega))
        have HA2 := Lib.hid (fun w' (hb' : Below wr.heap.size wr w') => sScaledL p iv (.slice ay m.b.length cy) m.b w' HP.out (HTA.out.2.2.1.below hb').ints HTM.out.eb hib.1 hib.2 (by omega))
        have HA3 := Lib.hid (fun w' (hb' : Below wr.heap.size wr w') => sScaledL p iv (.slice az m.c.length cz) m.c w' HP.out (HTA.out.2.2.2.below hb').ints HTM.out.ec hib.1 hib.2 (by omega))
        have g1 := smuL_len p m.a iv
        have g2 := smuL_len p m.b iv
        have g3 := smuL_len p m.c iv
        rw [HIE.out] at HT
        obtain ⟨S1, hS1⟩ : ∃ S, S = smuL p m.a iv := ⟨_, rfl⟩
        obtain ⟨S2, hS2⟩ : ∃ S, S = smuL p m.b iv := ⟨_, rfl⟩
        obtain ⟨S3, hS3⟩ : ∃ S, S = smuL p m.c iv := ⟨_, rfl⟩
        rw [← hS1] at HA1 g1 HT
        rw [← hS2] at HA2 g2 HT
        rw [← hS3] at HA3 g3 HT
        have HSL := Lib.hid (show S1.length ≤ 400 ∧ S2.length ≤ 400 ∧ S3.length ≤ 400 from ⟨by omega, by omega, by omega⟩)
        have hwr1 : w.heap.size + 1 ≤ wr.heap.size := HR7.out.sz
        have hne0 : ((m.a.length : Int) == 0) = false := beq_eq_false_iff_ne.2 (by omega)
        have hnz : ¬ (m.a.length : Int) = 0 := by omega
        have hwi : IntKind.i64.wrap ((m.a.length : Int) - 1) = (q : Int) := by rw [hq]; exact (IntWalk.i64_in _ (by omega)).trans (by omega)
        have hq0 : (0 : Int) ≤ (q : Int) := by omega
        have hqlt : (q : Int) < (m.a.length : Int) := by omega
        have hqs : (m.a.length : Int) - 1 = (q : Int) := by omega
        have HKP := Lib.hid (fun w' (hb' : Below wr.heap.size wr w') => show w'.cell? ⟨A, 0, none⟩ = some (.slice (some ⟨ga, oa, none⟩) m.a.length cx) ∧ w'.cell? ⟨A, 1, none⟩ = some (.slice ay m.b.length cy) ∧ w'.cell? ⟨A, 2, none⟩ = some (.slice az m.c.length cz) from
          ⟨(hb'.cell (p := ⟨A, 0, none⟩) hAs).trans ca0, (hb'.cell (p := ⟨A, 1, none⟩) hAs).trans ca1, (hb'.cell (p := ⟨A, 2, none⟩) hAs).trans ca2⟩)
        clear hS1 hS2 hS3 g1 g2 g3 hxl hxe hiv hca e2 hxb hib hq
        go_upto_region 11 with (first | (refine (HIV.out _).mono ?_; rintro e w' ⟨rfl, rfl⟩) | fail)
        refine wp_region_seq [(0, true), (1, true), (2, true), (3, true), (5, true), (6, true), (7, true), (8, true), (10, true), (11, true), (12, true), (13, true), (4, false), (9, false), (14, false), (15, true)] (fun w' => w'.cell? ⟨A, 0, none⟩ = some (.slice (some ⟨ga, oa, none⟩) m.a.length cx) ∧ w'.cell? ⟨A, 1, none⟩ = some (.slice ay m.b.length cy) ∧ w'.cell? ⟨A, 2, none⟩ = some (.slice az m.c.length cz)) (by kernel_rfl) (by kernel_rfl) rfl (by first | (intro c a d v w h; cases d <;> exact h) | (rintro c a d v w ⟨h, _⟩; cases h)) (HKP.out _ (Below.drew (Below.refl _ _))) ?_
        iterate 12 (refine wpSeq_take (v := ?_) (List.getElem?_toArray.trans rfl) ?_ ?_; rotate_left; (intro w' hSw; (try dsimp only at hSw); go_simp; (try with_reducible rfl)); (try simp only [Act.put, List.setIfInBounds_toArray, List.set_cons_zero, List.set_cons_succ]))
        refine wpSeq_do (List.getElem?_toArray.trans rfl) (fun K hK => ?_)
        go_simp
        refine (HA1.out _ (Below.drew (Below.refl _ _))).mono ?_
        rintro e w6 ⟨u6, rfl, hu6, hb6⟩
        have B6 := Lib.hid (show Below wr.heap.size wr w6 from (Below.drew (Below.refl _ _)).trans (hb6.mono (by simp)))
        obtain ⟨b6, d6, rfl⟩ := hu6.form
        have X6 := Lib.hid (hu6.base (show w.heap.size + 1 ≤ _ from by simpa using hwr1))
        refine hK _ _ (HKP.out _ B6.out) ?_
        clear hK K hu6 hb6
        refine wpSeq_do (List.getElem?_toArray.trans rfl) (fun K hK => ?_)
        go_simp
        refine (HA2.out _ B6.out).mono ?_
        rintro e w7 ⟨u7, rfl, hu7, hb7⟩
        have B7 := Lib.hid (B6.out.trans (hb7.mono B6.out.size))
        obtain ⟨b7, d7, rfl⟩ := hu7.form
        have X7 := Lib.hid (And.intro (X6.out.below hb7) (hu7.base (show w.heap.size + 1 ≤ _ from Nat.le_trans hwr1 B6.out.size)))
        refine hK _ _ (HKP.out _ B7.out) ?_
        clear hK K hu7 hb7
        refine wpSeq_do (List.getElem?_toArray.trans rfl) (fun K hK => ?_)
        go_simp
        refine (HA3.out _ B7.out).mono ?_
        rintro e w8 ⟨u8, rfl, hu8, hb8⟩
        have B8 := Lib.hid (B7.out.trans (hb8.mono B7.out.size))
        obtain ⟨b8, d8, rfl⟩ := hu8.form
        have X8 := Lib.hid (And.intro (X7.out.1.below hb8) (And.intro (X7.out.2.below hb8) (hu8.base (show w.heap.size + 1 ≤ _ from Nat.le_trans hwr1 B7.out.size))))
        refine hK _ _ (HKP.out _ B8.out) ?_
        clear hK K hu8 hb8
        (refine wpSeq_take (v := ?_) (List.getElem?_toArray.trans rfl) ?_ ?_; rotate_left; (intro w' hSw; (try dsimp only at hSw); go_simp; (try with_reducible rfl)); (try simp only [Act.put, List.setIfInBounds_toArray, List.set_cons_zero, List.set_cons_succ]))
        refine wpSeq_nil ?_
        simp only [Exit.then]
        have R8 := Lib.hid (HR7.out.below B8.out)
        have HZ := Lib.hid (below_str3 (a := .slice b6 S1.length d6) (b := .slice b7 S2.length d7) (c := .slice b8 S3.length d8) (HBB.out.trans (B8.out.mono HBB.out.size)) (Nat.le_refl w.heap.size))
        have HZ2 := Lib.hid (R8.out.put (.slice b6 S1.length d6) (.slice b7 S2.length d7) (.slice b8 S3.length d8))
        have X9 := Lib.hid (show Ilr _ (.slice b6 S1.length d6) S1 ∧ Ilr _ (.slice b7 S2.length d7) S2 ∧ Ilr _ (.slice b8 S3.length d8) S3 from
          ⟨(X8.out.1.far3 (a := .slice b6 S1.length d6) (b := .slice b7 S2.length d7) (c := .slice b8 S3.length d8) (Nat.lt_succ_self w.heap.size)).ilr (by have := HSL.out; omega), (X8.out.2.1.far3 (a := .slice b6 S1.length d6) (b := .slice b7 S2.length d7) (c := .slice b8 S3.length d8) (Nat.lt_succ_self w.heap.size)).ilr (by have := HSL.out; omega), (X8.out.2.2.far3 (a := .slice b6 S1.length d6) (b := .slice b7 S2.length d7) (c := .slice b8 S3.length d8) (Nat.lt_succ_self w.heap.size)).ilr (by have := HSL.out; omega)⟩)
        obtain ⟨e0, e1, e2, g0, g1, g2, gs⟩ := R8.out
        go_wp2_with fail
        have t0 := HZ2.out.c0
        have t1 := HZ2.out.c1
        have t2 := HZ2.out.c2
        refine bodyPost_ret (v := .agg #[.slice b6 S1.length d6, .slice b7 S2.length d7, .slice b8 S3.length d8]) (by simp [results, Try.results78, go_sem, t0, t1, t2]) rfl ⟨_, _, _, rfl, by rw [HT.out]; exact X9.out.1, by rw [HT.out]; exact X9.out.2.1, by rw [HT.out]; exact X9.out.2.2, HZ.out⟩
    · clear hrw
      have hgt : (n.a.length : Int) > 0 := by omega
      have HDV := Lib.hid (sDivideF p _ _ m.a n.a wr HP.out hA.2.1.ints hB.2.1.ints tm.ea tn.ea tm.ca tn.ca (by omega) (by omega) (by omega))
      have hiv := iv_ok HP.out tn.ca tn.ea (by omega)
      have HS := Lib.hid (eucS_ok HP.out tm tn hiv)
      have HQL := Lib.hid (show (divQ p m.a n.a (ivL p n.a)).length ≤ 10 from by rw [divQ_len]; unfold dvN; omega)
      have HQE := Lib.hid (divQ_allE (show 0 < p by omega) m.a n.a (ivL p n.a))
      obtain ⟨j, hj, hst⟩ := eucN_step (p := p) (inv := ivV p) (m := m) hn0 hnk
      have HST := Lib.hid (And.intro hj hst)
      obtain ⟨Q, hQ⟩ : ∃ Q, Q = divQ p m.a n.a (ivL p n.a) := ⟨_, rfl⟩
      obtain ⟨V, hV⟩ : ∃ V, V = divR p m.a n.a (ivL p n.a) := ⟨_, rfl⟩
      rw [← hQ, ← hV] at HDV
      rw [← hQ] at HQL HQE
      have HQV := Lib.hid (And.intro hQ hV)
      clear hA hB hR6 hb tm tn he hkk hst hj hiv hQ hV
      go_wp2_with fail
      refine HDV.out.mono ?_
      rintro e ws ⟨tq, tr, rfl, hq4, hr4, hb4, hsrc⟩
      have HQ4 := Lib.hid (hq4.ilr (by have := HQL.out; omega)).ints
      have hr4o : Off (fun g => g = A ∨ g = B) ws tr V := by
        obtain ⟨h1, a, cap, hv, h2⟩ := hr4
        refine ⟨by rw [HQV.out.2]; have := HS.out.la; have := (divR_len (show 1 < p by omega) HTM.out.ea (iv_ok HP.out HTN.out.ca HTN.out.ea (by omega))); omega, a, cap, hv, ?_⟩
        by_cases hV0 : V = []
        · exact .inl hV0
        rcases h2 with h2 | ⟨g, off, ha, hg, hc⟩
        · exact .inl h2
        · rcases hsrc with hsrc | hsrc
          · exact .inl hsrc
          · refine .inr ⟨g, off, ha, ?_, hg, hc⟩
            rcases hsrc g off V.length cap (by rw [hv, ha]) with h | ⟨o', n', c', e⟩
            · intro h'; omega
            · obtain ⟨_, a2', c2', e2, h3⟩ := HTA.out.2.1
              rw [e2] at e
              simp only [Value.slice.injEq] at e
              rcases h3 with h3 | ⟨g3, o3, e3, hk3, _⟩
              · exfalso
                have h4 : V = [] := by
                  have h5 := HQV.out.2
                  have h6 : (divR p m.a n.a (ivL p n.a)).length ≤ m.a.length := by
                    unfold divR
                    exact Nat.le_trans (trim_len _) (by rw [lsU_len]; exact Nat.le_refl _)
                  rw [← h5, h3] at h6
                  exact List.length_eq_zero_iff.1 (by simpa using h6)
                exact hV0 h4
              · rw [e3] at e
                have : g3 = g := by have := e.1; simp at this; exact this.1
                rw [← this]; exact hk3
      obtain ⟨ra, rc, rfl⟩ := hr4o.form
      have HR4 := Lib.hid hr4o
      have HB4 := Lib.hid hb4
      clear hq4 hr4 hb4 hsrc hr4o
      have ca1' : ws.cell? ⟨A, 1, none⟩ = some (.slice ay m.b.length cy) := (HB4.out.cell (p := ⟨A, 1, none⟩) hAs).trans ca1
      have ca2' : ws.cell? ⟨A, 2, none⟩ = some (.slice az m.c.length cz) := (HB4.out.cell (p := ⟨A, 2, none⟩) hAs).trans ca2
      have cb1' : ws.cell? ⟨B, 1, none⟩ = some (.slice by' n.b.length dy) := (HB4.out.cell (p := ⟨B, 1, none⟩) hBs).trans cb1
      have cb2' : ws.cell? ⟨B, 2, none⟩ = some (.slice bz n.c.length dz) := (HB4.out.cell (p := ⟨B, 2, none⟩) hBs).trans cb2
      have hAs4 : A < ws.heap.size := Nat.lt_of_lt_of_le hAs HB4.out.size
      have hBs4 : B < ws.heap.size := Nat.lt_of_lt_of_le hBs HB4.out.size
      clear ca0 ca1 ca2 cb0 cb1 cb2
      have HQC := Lib.hid (show Can Q from by rw [HQV.out.1]; exact divQ_can HP.out HTM.out.ca HTM.out.ea (iv_ok HP.out HTN.out.ca HTN.out.ea (by omega)))
      have hlm := lmL_eq HP.out HQC.out HTN.out.cb HQE.out HTN.out.eb
      have hlm2 := lmL_eq HP.out HQC.out HTN.out.cc HQE.out HTN.out.ec
      have hlmb := HTM.out.lb
      have hlmc := HTM.out.lc
      have hlnb := HTN.out.lb
      have hlnc := HTN.out.lc
      have hql := HQL.out
      have hkk' := HKK.out
      have HM1 := Lib.hid (fun w' (hb' : Below ws.heap.size ws w') => sMulL p tq (.slice by' n.b.length dy) Q n.b w' HP.out (HQ4.out.below hb') ((HTB.out.2.2.1.below HB4.out).below hb').ints HQE.out HTN.out.eb (by omega) (by omega))
      have HM2 := Lib.hid (fun w' (hb' : Below ws.heap.size ws w') => sMulL p tq (.slice bz n.c.length dz) Q n.c w' HP.out (HQ4.out.below hb') ((HTB.out.2.2.2.below HB4.out).below hb').ints HQE.out HTN.out.ec (by omega) (by omega))
      have hl1' : (lmL p Q n.b).length ≤ 200 := by have := lmL_len (p := p) Q n.b; omega
      have hl2' : (lmL p Q n.c).length ≤ 200 := by have := lmL_len (p := p) Q n.c; omega
      have he1 : AllE p (lmL p Q n.b) := by rw [hlm]; exact mlU_allE (by omega) _ _
      have he2 : AllE p (lmL p Q n.c) := by rw [hlm2]; exact mlU_allE (by omega) _ _
      obtain ⟨M1, hM1⟩ : ∃ M1, M1 = lmL p Q n.b := ⟨_, rfl⟩
      obtain ⟨M2, hM2⟩ : ∃ M2, M2 = lmL p Q n.c := ⟨_, rfl⟩
      rw [← hM1] at HM1 hl1' he1
      rw [← hM2] at HM2 hl2' he2
      have HN1 := Lib.hid (fun u w' (hb' : Below ws.heap.size ws w') (hu : Ints w' u M1) => sMinusL p (.slice ay m.b.length cy) u m.b M1 w' HP.out ((HTA.out.2.2.1.below HB4.out).below hb').ints hu HTM.out.eb he1 (by omega) (by omega))
      have HN2 := Lib.hid (fun u w' (hb' : Below ws.heap.size ws w') (hu : Ints w' u M2) => sMinusL p (.slice az m.c.length cz) u m.c M2 w' HP.out ((HTA.out.2.2.2.below HB4.out).below hb').ints hu HTM.out.ec he2 (by omega) (by omega))
      have hs1 := subL_len p m.b M1
      have hs2 := subL_len p m.c M2
      obtain ⟨D1, hD1⟩ : ∃ D, D = subL p m.b M1 := ⟨_, rfl⟩
      obtain ⟨D2, hD2⟩ : ∃ D, D = subL p m.c M2 := ⟨_, rfl⟩
      rw [← hD1] at HN1 hs1
      rw [← hD2] at HN2 hs2
      have HLQ := Lib.hid (show M1.length ≤ 200 ∧ M2.length ≤ 200 ∧ D1.length ≤ 400 ∧ D2.length ≤ 400 from ⟨hl1', hl2', by omega, by omega⟩)
      have HEU := Lib.hid (show eucS p (ivL p n.a) m n = ⟨V, D1, D2⟩ from by rw [hD1, hD2, hM1, hM2, hlm, hlm2, HQV.out.1, HQV.out.2]; rfl)
      have HAB := Lib.hid (And.intro hAs4 hBs4)
      have HKP := Lib.hid (fun w' (hb' : Below ws.heap.size ws w') => show w'.cell? ⟨A, 1, none⟩ = some (.slice ay m.b.length cy) ∧ w'.cell? ⟨B, 1, none⟩ = some (.slice by' n.b.length dy) ∧ w'.cell? ⟨A, 2, none⟩ = some (.slice az m.c.length cz) ∧ w'.cell? ⟨B, 2, none⟩ = some (.slice bz n.c.length dz) from
        ⟨(hb'.cell (p := ⟨A, 1, none⟩) hAs4).trans ca1', (hb'.cell (p := ⟨B, 1, none⟩) hBs4).trans cb1', (hb'.cell (p := ⟨A, 2, none⟩) hAs4).trans ca2', (hb'.cell (p := ⟨B, 2, none⟩) hBs4).trans cb2'⟩)
      clear ca1' ca2' cb1' cb2' hlm hlm2 hM1 hM2 hD1 hD2 hs1 hs2 he1 he2 hl1' hl2'
      go_wp2_with fail
      refine wp_region_plan (.take 0 (.take 1 (.take 2 (.take 3 (.take 4 (.take 5 (.take 6 (.take 7 (.take 10 (.take 11 (.take 12 (.take 13 (.take 14 (.take 15 (.take 16 (.two 8 20 (.two 9 20 (.two 17 20 (.two 18 20 (.take 19 (.one 20 .fin)) (.one 18 (.take 19 .fin))) (.one 17 (.one 18 (.take 19 .fin)))) (.one 9 (.one 17 (.one 18 (.take 19 .fin))))) (.one 8 (.one 9 (.one 17 (.one 18 (.take 19 .fin))))))))))))))))))))) (fun w' => w'.cell? ⟨A, 1, none⟩ = some (.slice ay m.b.length cy) ∧ w'.cell? ⟨B, 1, none⟩ = some (.slice by' n.b.length dy) ∧ w'.cell? ⟨A, 2, none⟩ = some (.slice az m.c.length cz) ∧ w'.cell? ⟨B, 2, none⟩ = some (.slice bz n.c.length dz)) (by kernel_rfl) (by kernel_rfl) rfl (by first | (intro c a d v w h; cases d <;> exact h) | (rintro c a d v w ⟨h, _⟩; cases h)) (HKP.out _ (Below.drew (Below.refl _ _))) ?_
      have b4 : Below ws.heap.size ws ws.drew := Below.drew (Below.refl _ _)
      obtain ⟨y4, hy4⟩ : ∃ y4, y4 = ws.drew := ⟨_, rfl⟩
      rw [← hy4] at b4 ⊢
      have bB := Lib.hid b4
      clear hy4 b4
      iterate 15 (refine wpPlan_take (v := ?_) (List.getElem?_toArray.trans rfl) ?_ ?_; rotate_left; (intro w' hSw; (try dsimp only at hSw); go_simp; (try with_reducible rfl)); (try simp only [Act.put, List.setIfInBounds_toArray, List.set_cons_zero, List.set_cons_succ]))
      refine wpPlan_two ?_ ?_
      · skip
        refine wpPlan_do (List.getElem?_toArray.trans rfl) (fun K hK => ?_)
        go_simp
        refine (HM1.out _ bB.out).mono ?_
        rintro e y8 ⟨u8, rfl, hu, hb'⟩
        have bN := Lib.hid (bB.out.trans (hb'.mono bB.out.size))
        have X8 := Lib.hid (hu.ilr (by have := HLQ.out; omega)).ints
        replace bB := bN
        clear bN hu hb'
        refine hK _ _ (HKP.out _ bB.out) ?_
        clear hK K
        refine wpPlan_two ?_ ?_
        · skip
          refine wpPlan_do (List.getElem?_toArray.trans rfl) (fun K hK => ?_)
          go_simp
          refine (HN1.out _ _ bB.out X8.out).mono ?_
          rintro e y9 ⟨u9, rfl, hu, hb'⟩
          have bN := Lib.hid (bB.out.trans (hb'.mono bB.out.size))
          obtain ⟨a9, c9, rfl⟩ := hu.form
          replace X8 := Lib.hid (X8.out.below hb')
          have X9 := Lib.hid (show Off (fun g => g = A ∨ g = B) y9 (.slice a9 D1.length c9) D1 from hu.off (by have := HLQ.out; omega) (fun g hg _ => by have h1 := bB.out.size; have h2 := HAB.out; intro h; omega))
          replace bB := bN
          clear bN hu hb'
          refine hK _ _ (HKP.out _ bB.out) ?_
          clear hK K
          refine wpPlan_two ?_ ?_
          · skip
            refine wpPlan_do (List.getElem?_toArray.trans rfl) (fun K hK => ?_)
            go_simp
            refine (HM2.out _ bB.out).mono ?_
            rintro e y17 ⟨u17, rfl, hu, hb'⟩
            have bN := Lib.hid (bB.out.trans (hb'.mono bB.out.size))
            replace X8 := Lib.hid (X8.out.below hb')
            replace X9 := Lib.hid (X9.out.below hb')
            have X17 := Lib.hid (hu.ilr (by have := HLQ.out; omega)).ints
            replace bB := bN
            clear bN hu hb'
            refine hK _ _ (HKP.out _ bB.out) ?_
            clear hK K
            refine wpPlan_two ?_ ?_
            · skip
              refine wpPlan_do (List.getElem?_toArray.trans rfl) (fun K hK => ?_)
              go_simp
              refine (HN2.out _ _ bB.out X17.out).mono ?_
              rintro e y18 ⟨u18, rfl, hu, hb'⟩
              have bN := Lib.hid (bB.out.trans (hb'.mono bB.out.size))
              obtain ⟨a18, c18, rfl⟩ := hu.form
              replace X8 := Lib.hid (X8.out.below hb')
              replace X9 := Lib.hid (X9.out.below hb')
              replace X17 := Lib.hid (X17.out.below hb')
              have X18 := Lib.hid (show Off (fun g => g = A ∨ g = B) y18 (.slice a18 D2.length c18) D2 from hu.off (by have := HLQ.out; omega) (fun g hg _ => by have h1 := bB.out.size; have h2 := HAB.out; intro h; omega))
              replace bB := bN
              clear bN hu hb'
              refine hK _ _ (HKP.out _ bB.out) ?_
              clear hK K
              (refine wpPlan_take (v := ?_) (List.getElem?_toArray.trans rfl) ?_ ?_; rotate_left; (intro w' hSw; (try dsimp only at hSw); go_simp; (try with_reducible rfl)); (try simp only [Act.put, List.setIfInBounds_toArray, List.set_cons_zero, List.set_cons_succ]))
              refine wpPlan_do (List.getElem?_toArray.trans rfl) (fun K hK => ?_)
              go_simp
              refine hK _ _ (HKP.out _ (Below.alloc bB.out bB.out.size _)) ?_
              clear hK K
              obtain ⟨ya, hya⟩ : ∃ ya, ya = y18.alloc (Obj.cells #[.slice none 0 0, .slice none 0 0, .slice none 0 0] 74) := ⟨_, rfl⟩
              rw [← hya]
              obtain ⟨C, hC⟩ : ∃ C, C = y18.heap.size := ⟨_, rfl⟩
              rw [← hC]
              have hb' : Below y18.heap.size y18 ya := by rw [hya]; exact Below.alloc (Below.refl _ _) (Nat.le_refl _) _
              have cC := Lib.hid (show Bx3 ya C (.slice none 0 0) (.slice none 0 0) (.slice none 0 0) ∧ ws.heap.size ≤ C from ⟨by rw [hya, hC]; exact Bx3.alloc _ _ _ _ _, by have := bB.out.size; omega⟩)
              replace X8 := Lib.hid (X8.out.below hb')
              replace X9 := Lib.hid ((X9.out.past.mono (K' := fun g => (g = A ∨ g = B) ∨ g = C) (fun g h => h.imp id (fun e => by omega))).below hb')
              replace X17 := Lib.hid (X17.out.below hb')
              replace X18 := Lib.hid ((X18.out.past.mono (K' := fun g => (g = A ∨ g = B) ∨ g = C) (fun g h => h.imp id (fun e => by omega))).below hb')
              replace bB := Lib.hid (bB.out.trans (hb'.mono bB.out.size))
              clear hya hC hb'
              refine wpPlan_fin ?_
              simp only [Exit.then]
              obtain ⟨yz, hyz⟩ : ∃ yz, yz = ya := ⟨_, rfl⟩
              rw [← hyz] at bB X9 X18 cC ⊢
              clear hyz HKP
              have bA := HB4.out.trans (bB.out.mono HB4.out.size)
              have hCA : C ≠ A := by have := cC.out.2; have := HAB.out; omega
              have hCB : C ≠ B := by have := cC.out.2; have := HAB.out; omega
              have hCR : C ≠ R := by have := cC.out.2; have := HAB.out; omega
              have hAB : A ≠ B := by omega
              have hAR : A ≠ R := by omega
              have hBR : B ≠ R := by omega
              have hwC : wr.heap.size ≤ C := by have := cC.out.2; have := HB4.out.size; omega
              have TA := (HTA.out.excl hwC).below bA
              have TB := (HTB.out.excl hwC).below bA
              have R6 := HR6.out.below bA
              have TV := (HR4.out.excl cC.out.2).below bB.out
              have cx := cC.out.1
              have hBW := HBB.out.trans (bA.mono HBB.out.size)
              have TA1 := Lib.hid (TA.set3 (a := .slice ra V.length rc) (b := .slice a9 D1.length c9) (c := .slice a18 D2.length c18) (.inr rfl) hCA)
              have TB1 := Lib.hid (TB.set3 (a := .slice ra V.length rc) (b := .slice a9 D1.length c9) (c := .slice a18 D2.length c18) (.inr rfl) hCB)
              have TC1 := Lib.hid (TriB.put3 (T := ⟨V, D1, D2⟩) cx TV X9.out X18.out (.inr rfl))
              have TR1 := Lib.hid (R6.other3 (a := .slice ra V.length rc) (b := .slice a9 D1.length c9) (c := .slice a18 D2.length c18) hCR)
              have TW1 := Lib.hid (below_str3 (a := .slice ra V.length rc) (b := .slice a9 D1.length c9) (c := .slice a18 D2.length c18) hBW (show w.heap.size ≤ C by omega))
              obtain ⟨cc0, cc1, cc2, cf0, cf1, cf2, cs⟩ := cx
              clear TA TB R6 TV bA hBW
              go_upto_region 6 with fail
              obtain ⟨z1, hz1⟩ : ∃ z1, z1 = (((yz.setCell ⟨C, 0, none⟩ (.slice ra V.length rc)).setCell ⟨C, 1, none⟩ (.slice a9 D1.length c9)).setCell ⟨C, 2, none⟩ (.slice a18 D2.length c18)) := ⟨_, rfl⟩
              rw [← hz1] at TA1 TB1 TC1 TR1 TW1 ⊢
              clear hz1 cc0 cc1 cc2 cf0 cf1 cf2 cs X9 X18 cC bB
              have TA2 := Lib.hid (TriB.put3 TA1.out.1 TB1.out.2.1 TB1.out.2.2.1 TB1.out.2.2.2 (.inl (.inl rfl)))
              have TB2 := Lib.hid (TB1.out.1.other3 (a := .slice bx n.a.length dx) (b := .slice by' n.b.length dy) (c := .slice bz n.c.length dz) hAB)
              have TC2 := Lib.hid (TC1.out.set3 (a := .slice bx n.a.length dx) (b := .slice by' n.b.length dy) (c := .slice bz n.c.length dz) (.inl (.inl rfl)) (Ne.symm hCA))
              have TR2 := Lib.hid (TR1.out.other3 (a := .slice bx n.a.length dx) (b := .slice by' n.b.length dy) (c := .slice bz n.c.length dz) hAR)
              have TW2 := Lib.hid (below_str3 (a := .slice bx n.a.length dx) (b := .slice by' n.b.length dy) (c := .slice bz n.c.length dz) TW1.out (show w.heap.size ≤ A by omega))
              obtain ⟨da0, da1, da2, df0, df1, df2, ds⟩ := TA1.out.1
              obtain ⟨db0, db1, db2, _, _, _, _⟩ := TB1.out.1
              go_upto_region 7 with fail
              obtain ⟨z2, hz2⟩ : ∃ z2, z2 = (((z1.setCell ⟨A, 0, none⟩ (.slice bx n.a.length dx)).setCell ⟨A, 1, none⟩ (.slice by' n.b.length dy)).setCell ⟨A, 2, none⟩ (.slice bz n.c.length dz)) := ⟨_, rfl⟩
              rw [← hz2] at TA2 TB2 TC2 TR2 TW2 ⊢
              clear hz2 da0 da1 da2 df0 df1 df2 ds db0 db1 db2 TA1 TB1 TC1 TR1 TW1
              have TA3 := Lib.hid (TA2.out.set3 (a := .slice ra V.length rc) (b := .slice a9 D1.length c9) (c := .slice a18 D2.length c18) (.inl (.inr rfl)) (Ne.symm hAB))
              have TB3 := Lib.hid (TriB.put3 (T := ⟨V, D1, D2⟩) TB2.out TC2.out.2.1 TC2.out.2.2.1 TC2.out.2.2.2 (.inl (.inr rfl)))
              have TR3 := Lib.hid (TR2.out.other3 (a := .slice ra V.length rc) (b := .slice a9 D1.length c9) (c := .slice a18 D2.length c18) hBR)
              have TW3 := Lib.hid (below_str3 (a := .slice ra V.length rc) (b := .slice a9 D1.length c9) (c := .slice a18 D2.length c18) TW2.out (show w.heap.size ≤ B by omega))
              obtain ⟨da0, da1, da2, df0, df1, df2, ds⟩ := TB2.out
              obtain ⟨db0, db1, db2, _, _, _, _⟩ := TC2.out.1
              go_wp2_with fail
              obtain ⟨z3, hz3⟩ : ∃ z3, z3 = (((z2.setCell ⟨B, 0, none⟩ (.slice ra V.length rc)).setCell ⟨B, 1, none⟩ (.slice a9 D1.length c9)).setCell ⟨B, 2, none⟩ (.slice a18 D2.length c18)) := ⟨_, rfl⟩
              rw [← hz3] at TA3 TB3 TR3 TW3 ⊢
              clear hz3 da0 da1 da2 df0 df1 df2 ds db0 db1 db2 TA2 TB2 TC2 TR2 TW2
              have hm1 : lenC z3 B = V.length := by unfold lenC; rw [TB3.out.1.c0]; rfl
              have hm0 : lenC wr B = n.a.length := by unfold lenC; rw [HTB.out.1.c0]; rfl
              have hts := HS.out
              rw [HEU.out] at hts
              have hla := hts.la
              have hend : ∃ (m n : Tri) (k kk : Nat) (x y z x' y' z' : Value), TriB (fun g => g = A ∨ g = B) z3 A x y z m ∧ TriB (fun g => g = A ∨ g = B) z3 B x' y' z' n ∧ Bx3 z3 R (.slice none 0 0) (.slice none 0 0) (.slice none 0 0) ∧ TOk p m 10 kk ∧ TOk p n 10 kk ∧ kk + 10 * n.a.length ≤ 101 ∧ eucN p (ivV p) k m n = euG p L1 L2 ∧ n.a.length ≤ k ∧ Below w.heap.size w z3 := by
                refine ⟨n, ⟨V, D1, D2⟩, j, kk + 10, _, _, _, _, _, _, TA3.out.mono (fun g h => .inl h), TB3.out.mono (fun g h => .inl h), TR3.out, HTN.out.mono (Nat.le_refl _) (by omega), hts.mono (by omega) (Nat.le_refl _), ?_, ?_, ?_, TW3.out⟩
                · have := HKK.out
                  have h2 : V.length ≤ n.a.length - 1 := hla
                  show kk + 10 + 10 * V.length ≤ 101
                  omega
                · rw [← HE.out, HST.out.2, show ivV p (cf n.a (n.a.length - 1)) = ivL p n.a from rfl, HEU.out]
                · have := HST.out.1
                  have h2 : V.length ≤ n.a.length - 1 := hla
                  show V.length ≤ j
                  omega
              go_roundw
              case rel => first | exact hend | (iterate 38 apply Exists.intro; exact ⟨hend, rfl⟩)
              case measure => rw [hm1, hm0]; have h2 : V.length ≤ n.a.length - 1 := hla; omega
            · skip
              refine wpPlan_do (List.getElem?_toArray.trans rfl) (fun K hK => ?_)
              go_simp
              refine hK _ _ (HKP.out _ (Below.alloc bB.out bB.out.size _)) ?_
              clear hK K
              obtain ⟨ya, hya⟩ : ∃ ya, ya = y17.alloc (Obj.cells #[.slice none 0 0, .slice none 0 0, .slice none 0 0] 74) := ⟨_, rfl⟩
              rw [← hya]
              obtain ⟨C, hC⟩ : ∃ C, C = y17.heap.size := ⟨_, rfl⟩
              rw [← hC]
              have hb' : Below y17.heap.size y17 ya := by rw [hya]; exact Below.alloc (Below.refl _ _) (Nat.le_refl _) _
              have cC := Lib.hid (show Bx3 ya C (.slice none 0 0) (.slice none 0 0) (.slice none 0 0) ∧ ws.heap.size ≤ C from ⟨by rw [hya, hC]; exact Bx3.alloc _ _ _ _ _, by have := bB.out.size; omega⟩)
              replace X8 := Lib.hid (X8.out.below hb')
              replace X9 := Lib.hid ((X9.out.past.mono (K' := fun g => (g = A ∨ g = B) ∨ g = C) (fun g h => h.imp id (fun e => by omega))).below hb')
              replace X17 := Lib.hid (X17.out.below hb')
              replace bB := Lib.hid (bB.out.trans (hb'.mono bB.out.size))
              clear hya hC hb'
              refine wpPlan_do (List.getElem?_toArray.trans rfl) (fun K hK => ?_)
              go_simp
              refine (HN2.out _ _ bB.out X17.out).mono ?_
              rintro e y18 ⟨u18, rfl, hu, hb'⟩
              have bN := Lib.hid (bB.out.trans (hb'.mono bB.out.size))
              obtain ⟨a18, c18, rfl⟩ := hu.form
              replace X8 := Lib.hid (X8.out.below hb')
              replace X9 := Lib.hid (X9.out.below hb')
              replace X17 := Lib.hid (X17.out.below hb')
              have X18 := Lib.hid (show Off (fun g => (g = A ∨ g = B) ∨ g = C) y18 (.slice a18 D2.length c18) D2 from hu.off (by have := HLQ.out; omega) (fun g hg _ => by have h1 := bB.out.size; have h2 := HAB.out; have h3 := cC.out.1.sz; intro h; omega))
              replace cC := Lib.hid (And.intro (cC.out.1.below hb') cC.out.2)
              replace bB := bN
              clear bN hu hb'
              refine hK _ _ (HKP.out _ bB.out) ?_
              clear hK K
              (refine wpPlan_take (v := ?_) (List.getElem?_toArray.trans rfl) ?_ ?_; rotate_left; (intro w' hSw; (try dsimp only at hSw); go_simp; (try with_reducible rfl)); (try simp only [Act.put, List.setIfInBounds_toArray, List.set_cons_zero, List.set_cons_succ]))
              refine wpPlan_fin ?_
              simp only [Exit.then]
              obtain ⟨yz, hyz⟩ : ∃ yz, yz = y18 := ⟨_, rfl⟩
              rw [← hyz] at bB X9 X18 cC ⊢
              clear hyz HKP
              have bA := HB4.out.trans (bB.out.mono HB4.out.size)
              have hCA : C ≠ A := by have := cC.out.2; have := HAB.out; omega
              have hCB : C ≠ B := by have := cC.out.2; have := HAB.out; omega
              have hCR : C ≠ R := by have := cC.out.2; have := HAB.out; omega
              have hAB : A ≠ B := by omega
              have hAR : A ≠ R := by omega
              have hBR : B ≠ R := by omega
              have hwC : wr.heap.size ≤ C := by have := cC.out.2; have := HB4.out.size; omega
              have TA := (HTA.out.excl hwC).below bA
              have TB := (HTB.out.excl hwC).below bA
              have R6 := HR6.out.below bA
              have TV := (HR4.out.excl cC.out.2).below bB.out
              have cx := cC.out.1
              have hBW := HBB.out.trans (bA.mono HBB.out.size)
              have TA1 := Lib.hid (TA.set3 (a := .slice ra V.length rc) (b := .slice a9 D1.length c9) (c := .slice a18 D2.length c18) (.inr rfl) hCA)
              have TB1 := Lib.hid (TB.set3 (a := .slice ra V.length rc) (b := .slice a9 D1.length c9) (c := .slice a18 D2.length c18) (.inr rfl) hCB)
              have TC1 := Lib.hid (TriB.put3 (T := ⟨V, D1, D2⟩) cx TV X9.out X18.out (.inr rfl))
              have TR1 := Lib.hid (R6.other3 (a := .slice ra V.length rc) (b := .slice a9 D1.length c9) (c := .slice a18 D2.length c18) hCR)
              have TW1 := Lib.hid (below_str3 (a := .slice ra V.length rc) (b := .slice a9 D1.length c9) (c := .slice a18 D2.length c18) hBW (show w.heap.size ≤ C by omega))
              obtain ⟨cc0, cc1, cc2, cf0, cf1, cf2, cs⟩ := cx
              clear TA TB R6 TV bA hBW
              go_upto_region 6 with fail
              obtain ⟨z1, hz1⟩ : ∃ z1, z1 = (((yz.setCell ⟨C, 0, none⟩ (.slice ra V.length rc)).setCell ⟨C, 1, none⟩ (.slice a9 D1.length c9)).setCell ⟨C, 2, none⟩ (.slice a18 D2.length c18)) := ⟨_, rfl⟩
              rw [← hz1] at TA1 TB1 TC1 TR1 TW1 ⊢
              clear hz1 cc0 cc1 cc2 cf0 cf1 cf2 cs X9 X18 cC bB
              have TA2 := Lib.hid (TriB.put3 TA1.out.1 TB1.out.2.1 TB1.out.2.2.1 TB1.out.2.2.2 (.inl (.inl rfl)))
              have TB2 := Lib.hid (TB1.out.1.other3 (a := .slice bx n.a.length dx) (b := .slice by' n.b.length dy) (c := .slice bz n.c.length dz) hAB)
              have TC2 := Lib.hid (TC1.out.set3 (a := .slice bx n.a.length dx) (b := .slice by' n.b.length dy) (c := .slice bz n.c.length dz) (.inl (.inl rfl)) (Ne.symm hCA))
              have TR2 := Lib.hid (TR1.out.other3 (a := .slice bx n.a.length dx) (b := .slice by' n.b.length dy) (c := .slice bz n.c.length dz) hAR)
              have TW2 := Lib.hid (below_str3 (a := .slice bx n.a.length dx) (b := .slice by' n.b.length dy) (c := .slice bz n.c.length dz) TW1.out (show w.heap.size ≤ A by omega))
              obtain ⟨da0, da1, da2, df0, df1, df2, ds⟩ := TA1.out.1
              obtain ⟨db0, db1, db2, _, _, _, _⟩ := TB1.out.1
              go_upto_region 7 with fail
              obtain ⟨z2, hz2⟩ : ∃ z2, z2 = (((z1.setCell ⟨A, 0, none⟩ (.slice bx n.a.length dx)).setCell ⟨A, 1, none⟩ (.slice by' n.b.length dy)).setCell ⟨A, 2, none⟩ (.slice bz n.c.length dz)) := ⟨_, rfl⟩
              rw [← hz2] at TA2 TB2 TC2 TR2 TW2 ⊢
              clear hz2 da0 da1 da2 df0 df1 df2 ds db0 db1 db2 TA1 TB1 TC1 TR1 TW1
              have TA3 := Lib.hid (TA2.out.set3 (a := .slice ra V.length rc) (b := .slice a9 D1.length c9) (c := .slice a18 D2.length c18) (.inl (.inr rfl)) (Ne.symm hAB))
              have TB3 := Lib.hid (TriB.put3 (T := ⟨V, D1, D2⟩) TB2.out TC2.out.2.1 TC2.out.2.2.1 TC2.out.2.2.2 (.inl (.inr rfl)))
              have TR3 := Lib.hid (TR2.out.other3 (a := .slice ra V.length rc) (b := .slice a9 D1.length c9) (c := .slice a18 D2.length c18) hBR)
              have TW3 := Lib.hid (below_str3 (a := .slice ra V.length rc) (b := .slice a9 D1.length c9) (c := .slice a18 D2.length c18) TW2.out (show w.heap.size ≤ B by omega))
              obtain ⟨da0, da1, da2, df0, df1, df2, ds⟩ := TB2.out
              obtain ⟨db0, db1, db2, _, _, _, _⟩ := TC2.out.1
              go_wp2_with fail
              obtain ⟨z3, hz3⟩ : ∃ z3, z3 = (((z2.setCell ⟨B, 0, none⟩ (.slice ra V.length rc)).setCell ⟨B, 1, none⟩ (.slice a9 D1.length c9)).setCell ⟨B, 2, none⟩ (.slice a18 D2.length c18)) := ⟨_, rfl⟩
              rw [← hz3] at TA3 TB3 TR3 TW3 ⊢
              clear hz3 da0 da1 da2 df0 df1 df2 ds db0 db1 db2 TA2 TB2 TC2 TR2 TW2
              have hm1 : lenC z3 B = V.length := by unfold lenC; rw [TB3.out.1.c0]; rfl
              have hm0 : lenC wr B = n.a.length := by unfold lenC; rw [HTB.out.1.c0]; rfl
              have hts := HS.out
              rw [HEU.out] at hts
              have hla := hts.la
              have hend : ∃ (m n : Tri) (k kk : Nat) (x y z x' y' z' : Value), TriB (fun g => g = A ∨ g = B) z3 A x y z m ∧ TriB (fun g => g = A ∨ g = B) z3 B x' y' z' n ∧ Bx3 z3 R (.slice none 0 0) (.slice none 0 0) (.slice none 0 0) ∧ TOk p m 10 kk ∧ TOk p n 10 kk ∧ kk + 10 * n.a.length ≤ 101 ∧ eucN p (ivV p) k m n = euG p L1 L2 ∧ n.a.length ≤ k ∧ Below w.heap.size w z3 := by
                refine ⟨n, ⟨V, D1, D2⟩, j, kk + 10, _, _, _, _, _, _, TA3.out.mono (fun g h => .inl h), TB3.out.mono (fun g h => .inl h), TR3.out, HTN.out.mono (Nat.le_refl _) (by omega), hts.mono (by omega) (Nat.le_refl _), ?_, ?_, ?_, TW3.out⟩
                · have := HKK.out
                  have h2 : V.length ≤ n.a.length - 1 := hla
                  show kk + 10 + 10 * V.length ≤ 101
                  omega
                · rw [← HE.out, HST.out.2, show ivV p (cf n.a (n.a.length - 1)) = ivL p n.a from rfl, HEU.out]
                · have := HST.out.1
                  have h2 : V.length ≤ n.a.length - 1 := hla
                  show V.length ≤ j
                  omega
              go_roundw
              case rel => first | exact hend | (iterate 38 apply Exists.intro; exact ⟨hend, rfl⟩)
              case measure => rw [hm1, hm0]; have h2 : V.length ≤ n.a.length - 1 := hla; omega
          · skip
            refine wpPlan_do (List.getElem?_toArray.trans rfl) (fun K hK => ?_)
            go_simp
            refine hK _ _ (HKP.out _ (Below.alloc bB.out bB.out.size _)) ?_
            clear hK K
            obtain ⟨ya, hya⟩ : ∃ ya, ya = y9.alloc (Obj.cells #[.slice none 0 0, .slice none 0 0, .slice none 0 0] 74) := ⟨_, rfl⟩
            rw [← hya]
            obtain ⟨C, hC⟩ : ∃ C, C = y9.heap.size := ⟨_, rfl⟩
            rw [← hC]
            have hb' : Below y9.heap.size y9 ya := by rw [hya]; exact Below.alloc (Below.refl _ _) (Nat.le_refl _) _
            have cC := Lib.hid (show Bx3 ya C (.slice none 0 0) (.slice none 0 0) (.slice none 0 0) ∧ ws.heap.size ≤ C from ⟨by rw [hya, hC]; exact Bx3.alloc _ _ _ _ _, by have := bB.out.size; omega⟩)
            replace X8 := Lib.hid (X8.out.below hb')
            replace X9 := Lib.hid ((X9.out.past.mono (K' := fun g => (g = A ∨ g = B) ∨ g = C) (fun g h => h.imp id (fun e => by omega))).below hb')
            replace bB := Lib.hid (bB.out.trans (hb'.mono bB.out.size))
            clear hya hC hb'
            refine wpPlan_do (List.getElem?_toArray.trans rfl) (fun K hK => ?_)
            go_simp
            refine (HM2.out _ bB.out).mono ?_
            rintro e y17 ⟨u17, rfl, hu, hb'⟩
            have bN := Lib.hid (bB.out.trans (hb'.mono bB.out.size))
            replace X8 := Lib.hid (X8.out.below hb')
            replace X9 := Lib.hid (X9.out.below hb')
            have X17 := Lib.hid (hu.ilr (by have := HLQ.out; omega)).ints
            replace cC := Lib.hid (And.intro (cC.out.1.below hb') cC.out.2)
            replace bB := bN
            clear bN hu hb'
            refine hK _ _ (HKP.out _ bB.out) ?_
            clear hK K
            refine wpPlan_do (List.getElem?_toArray.trans rfl) (fun K hK => ?_)
            go_simp
            refine (HN2.out _ _ bB.out X17.out).mono ?_
            rintro e y18 ⟨u18, rfl, hu, hb'⟩
            have bN := Lib.hid (bB.out.trans (hb'.mono bB.out.size))
            obtain ⟨a18, c18, rfl⟩ := hu.form
            replace X8 := Lib.hid (X8.out.below hb')
            replace X9 := Lib.hid (X9.out.below hb')
            replace X17 := Lib.hid (X17.out.below hb')
            have X18 := Lib.hid (show Off (fun g => (g = A ∨ g = B) ∨ g = C) y18 (.slice a18 D2.length c18) D2 from hu.off (by have := HLQ.out; omega) (fun g hg _ => by have h1 := bB.out.size; have h2 := HAB.out; have h3 := cC.out.1.sz; intro h; omega))
            replace cC := Lib.hid (And.intro (cC.out.1.below hb') cC.out.2)
            replace bB := bN
            clear bN hu hb'
            refine hK _ _ (HKP.out _ bB.out) ?_
            clear hK K
            (refine wpPlan_take (v := ?_) (List.getElem?_toArray.trans rfl) ?_ ?_; rotate_left; (intro w' hSw; (try dsimp only at hSw); go_simp; (try with_reducible rfl)); (try simp only [Act.put, List.setIfInBounds_toArray, List.set_cons_zero, List.set_cons_succ]))
            refine wpPlan_fin ?_
            simp only [Exit.then]
            obtain ⟨yz, hyz⟩ : ∃ yz, yz = y18 := ⟨_, rfl⟩
            rw [← hyz] at bB X9 X18 cC ⊢
            clear hyz HKP
            have bA := HB4.out.trans (bB.out.mono HB4.out.size)
            have hCA : C ≠ A := by have := cC.out.2; have := HAB.out; omega
            have hCB : C ≠ B := by have := cC.out.2; have := HAB.out; omega
            have hCR : C ≠ R := by have := cC.out.2; have := HAB.out; omega
            have hAB : A ≠ B := by omega
            have hAR : A ≠ R := by omega
            have hBR : B ≠ R := by omega
            have hwC : wr.heap.size ≤ C := by have := cC.out.2; have := HB4.out.size; omega
            have TA := (HTA.out.excl hwC).below bA
            have TB := (HTB.out.excl hwC).below bA
            have R6 := HR6.out.below bA
            have TV := (HR4.out.excl cC.out.2).below bB.out
            have cx := cC.out.1
            have hBW := HBB.out.trans (bA.mono HBB.out.size)
            have TA1 := Lib.hid (TA.set3 (a := .slice ra V.length rc) (b := .slice a9 D1.length c9) (c := .slice a18 D2.length c18) (.inr rfl) hCA)
            have TB1 := Lib.hid (TB.set3 (a := .slice ra V.length rc) (b := .slice a9 D1.length c9) (c := .slice a18 D2.length c18) (.inr rfl) hCB)
            have TC1 := Lib.hid (TriB.put3 (T := ⟨V, D1, D2⟩) cx TV X9.out X18.out (.inr rfl))
            have TR1 := Lib.hid (R6.other3 (a := .slice ra V.length rc) (b := .slice a9 D1.length c9) (c := .slice a18 D2.length c18) hCR)
            have TW1 := Lib.hid (below_str3 (a := .slice ra V.length rc) (b := .slice a9 D1.length c9) (c := .slice a18 D2.length c18) hBW (show w.heap.size ≤ C by omega))
            obtain ⟨cc0, cc1, cc2, cf0, cf1, cf2, cs⟩ := cx
            clear TA TB R6 TV bA hBW
            go_upto_region 6 with fail
            obtain ⟨z1, hz1⟩ : ∃ z1, z1 = (((yz.setCell ⟨C, 0, none⟩ (.slice ra V.length rc)).setCell ⟨C, 1, none⟩ (.slice a9 D1.length c9)).setCell ⟨C, 2, none⟩ (.slice a18 D2.length c18)) := ⟨_, rfl⟩
            rw [← hz1] at TA1 TB1 TC1 TR1 TW1 ⊢
            clear hz1 cc0 cc1 cc2 cf0 cf1 cf2 cs X9 X18 cC bB
            have TA2 := Lib.hid (TriB.put3 TA1.out.1 TB1.out.2.1 TB1.out.2.2.1 TB1.out.2.2.2 (.inl (.inl rfl)))
            have TB2 := Lib.hid (TB1.out.1.other3 (a := .slice bx n.a.length dx) (b := .slice by' n.b.length dy) (c := .slice bz n.c.length dz) hAB)
            have TC2 := Lib.hid (TC1.out.set3 (a := .slice bx n.a.length dx) (b := .slice by' n.b.length dy) (c := .slice bz n.c.length dz) (.inl (.inl rfl)) (Ne.symm hCA))
            have TR2 := Lib.hid (TR1.out.other3 (a := .slice bx n.a.length dx) (b := .slice by' n.b.length dy) (c := .slice bz n.c.length dz) hAR)
            have TW2 := Lib.hid (below_str3 (a := .slice bx n.a.length dx) (b := .slice by' n.b.length dy) (c := .slice bz n.c.length dz) TW1.out (show w.heap.size ≤ A by omega))
            obtain ⟨da0, da1, da2, df0, df1, df2, ds⟩ := TA1.out.1
            obtain ⟨db0, db1, db2, _, _, _, _⟩ := TB1.out.1
            go_upto_region 7 with fail
            obtain ⟨z2, hz2⟩ : ∃ z2, z2 = (((z1.setCell ⟨A, 0, none⟩ (.slice bx n.a.length dx)).setCell ⟨A, 1, none⟩ (.slice by' n.b.length dy)).setCell ⟨A, 2, none⟩ (.slice bz n.c.length dz)) := ⟨_, rfl⟩
            rw [← hz2] at TA2 TB2 TC2 TR2 TW2 ⊢
            clear hz2 da0 da1 da2 df0 df1 df2 ds db0 db1 db2 TA1 TB1 TC1 TR1 TW1
            have TA3 := Lib.hid (TA2.out.set3 (a := .slice ra V.length rc) (b := .slice a9 D1.length c9) (c := .slice a18 D2.length c18) (.inl (.inr rfl)) (Ne.symm hAB))
            have TB3 := Lib.hid (TriB.put3 (T := ⟨V, D1, D2⟩) TB2.out TC2.out.2.1 TC2.out.2.2.1 TC2.out.2.2.2 (.inl (.inr rfl)))
            have TR3 := Lib.hid (TR2.out.other3 (a := .slice ra V.length rc) (b := .slice a9 D1.length c9) (c := .slice a18 D2.length c18) hBR)
            have TW3 := Lib.hid (below_str3 (a := .slice ra V.length rc) (b := .slice a9 D1.length c9) (c := .slice a18 D2.length c18) TW2.out (show w.heap.size ≤ B by omega))
            obtain ⟨da0, da1, da2, df0, df1, df2, ds⟩ := TB2.out
            obtain ⟨db0, db1, db2, _, _, _, _⟩ := TC2.out.1
            go_wp2_with fail
            obtain ⟨z3, hz3⟩ : ∃ z3, z3 = (((z2.setCell ⟨B, 0, none⟩ (.slice ra V.length rc)).setCell ⟨B, 1, none⟩ (.slice a9 D1.length c9)).setCell ⟨B, 2, none⟩ (.slice a18 D2.length c18)) := ⟨_, rfl⟩
            rw [← hz3] at TA3 TB3 TR3 TW3 ⊢
            clear hz3 da0 da1 da2 df0 df1 df2 ds db0 db1 db2 TA2 TB2 TC2 TR2 TW2
            have hm1 : lenC z3 B = V.length := by unfold lenC; rw [TB3.out.1.c0]; rfl
            have hm0 : lenC wr B = n.a.length := by unfold lenC; rw [HTB.out.1.c0]; rfl
            have hts := HS.out
            rw [HEU.out] at hts
            have hla := hts.la
            have hend : ∃ (m n : Tri) (k kk : Nat) (x y z x' y' z' : Value), TriB (fun g => g = A ∨ g = B) z3 A x y z m ∧ TriB (fun g => g = A ∨ g = B) z3 B x' y' z' n ∧ Bx3 z3 R (.slice none 0 0) (.slice none 0 0) (.slice none 0 0) ∧ TOk p m 10 kk ∧ TOk p n 10 kk ∧ kk + 10 * n.a.length ≤ 101 ∧ eucN p (ivV p) k m n = euG p L1 L2 ∧ n.a.length ≤ k ∧ Below w.heap.size w z3 := by
              refine ⟨n, ⟨V, D1, D2⟩, j, kk + 10, _, _, _, _, _, _, TA3.out.mono (fun g h => .inl h), TB3.out.mono (fun g h => .inl h), TR3.out, HTN.out.mono (Nat.le_refl _) (by omega), hts.mono (by omega) (Nat.le_refl _), ?_, ?_, ?_, TW3.out⟩
              · have := HKK.out
                have h2 : V.length ≤ n.a.length - 1 := hla
                show kk + 10 + 10 * V.length ≤ 101
                omega
              · rw [← HE.out, HST.out.2, show ivV p (cf n.a (n.a.length - 1)) = ivL p n.a from rfl, HEU.out]
              · have := HST.out.1
                have h2 : V.length ≤ n.a.length - 1 := hla
                show V.length ≤ j
                omega
            go_roundw
            case rel => first | exact hend | (iterate 38 apply Exists.intro; exact ⟨hend, rfl⟩)
            case measure => rw [hm1, hm0]; have h2 : V.length ≤ n.a.length - 1 := hla; omega
        · skip
          refine wpPlan_do (List.getElem?_toArray.trans rfl) (fun K hK => ?_)
          go_simp
          refine hK _ _ (HKP.out _ (Below.alloc bB.out bB.out.size _)) ?_
          clear hK K
          obtain ⟨ya, hya⟩ : ∃ ya, ya = y8.alloc (Obj.cells #[.slice none 0 0, .slice none 0 0, .slice none 0 0] 74) := ⟨_, rfl⟩
          rw [← hya]
          obtain ⟨C, hC⟩ : ∃ C, C = y8.heap.size := ⟨_, rfl⟩
          rw [← hC]
          have hb' : Below y8.heap.size y8 ya := by rw [hya]; exact Below.alloc (Below.refl _ _) (Nat.le_refl _) _
          have cC := Lib.hid (show Bx3 ya C (.slice none 0 0) (.slice none 0 0) (.slice none 0 0) ∧ ws.heap.size ≤ C from ⟨by rw [hya, hC]; exact Bx3.alloc _ _ _ _ _, by have := bB.out.size; omega⟩)
          replace X8 := Lib.hid (X8.out.below hb')
          replace bB := Lib.hid (bB.out.trans (hb'.mono bB.out.size))
          clear hya hC hb'
          refine wpPlan_do (List.getElem?_toArray.trans rfl) (fun K hK => ?_)
          go_simp
          refine (HN1.out _ _ bB.out X8.out).mono ?_
          rintro e y9 ⟨u9, rfl, hu, hb'⟩
          have bN := Lib.hid (bB.out.trans (hb'.mono bB.out.size))
          obtain ⟨a9, c9, rfl⟩ := hu.form
          replace X8 := Lib.hid (X8.out.below hb')
          have X9 := Lib.hid (show Off (fun g => (g = A ∨ g = B) ∨ g = C) y9 (.slice a9 D1.length c9) D1 from hu.off (by have := HLQ.out; omega) (fun g hg _ => by have h1 := bB.out.size; have h2 := HAB.out; have h3 := cC.out.1.sz; intro h; omega))
          replace cC := Lib.hid (And.intro (cC.out.1.below hb') cC.out.2)
          replace bB := bN
          clear bN hu hb'
          refine hK _ _ (HKP.out _ bB.out) ?_
          clear hK K
          refine wpPlan_do (List.getElem?_toArray.trans rfl) (fun K hK => ?_)
          go_simp
          refine (HM2.out _ bB.out).mono ?_
          rintro e y17 ⟨u17, rfl, hu, hb'⟩
          have bN := Lib.hid (bB.out.trans (hb'.mono bB.out.size))
          replace X8 := Lib.hid (X8.out.below hb')
          replace X9 := Lib.hid (X9.out.below hb')
          have X17 := Lib.hid (hu.ilr (by have := HLQ.out; omega)).ints
          replace cC := Lib.hid (And.intro (cC.out.1.below hb') cC.out.2)
          replace bB := bN
          clear bN hu hb'
          refine hK _ _ (HKP.out _ bB.out) ?_
          clear hK K
          refine wpPlan_do (List.getElem?_toArray.trans rfl) (fun K hK => ?_)
          go_simp
          refine (HN2.out _ _ bB.out X17.out).mono ?_
          rintro e y18 ⟨u18, rfl, hu, hb'⟩
          have bN := Lib.hid (bB.out.trans (hb'.mono bB.out.size))
          obtain ⟨a18, c18, rfl⟩ := hu.form
          replace X8 := Lib.hid (X8.out.below hb')
          replace X9 := Lib.hid (X9.out.below hb')
          replace X17 := Lib.hid (X17.out.below hb')
          have X18 := Lib.hid (show Off (fun g => (g = A ∨ g = B) ∨ g = C) y18 (.slice a18 D2.length c18) D2 from hu.off (by have := HLQ.out; omega) (fun g hg _ => by have h1 := bB.out.size; have h2 := HAB.out; have h3 := cC.out.1.sz; intro h; omega))
          replace cC := Lib.hid (And.intro (cC.out.1.below hb') cC.out.2)
          replace bB := bN
          clear bN hu hb'
          refine hK _ _ (HKP.out _ bB.out) ?_
          clear hK K
          (refine wpPlan_take (v := ?_) (List.getElem?_toArray.trans rfl) ?_ ?_; rotate_left; (intro w' hSw; (try dsimp only at hSw); go_simp; (try with_reducible rfl)); (try simp only [Act.put, List.setIfInBounds_toArray, List.set_cons_zero, List.set_cons_succ]))
          refine wpPlan_fin ?_
          simp only [Exit.then]
          obtain ⟨yz, hyz⟩ : ∃ yz, yz = y18 := ⟨_, rfl⟩
          rw [← hyz] at bB X9 X18 cC ⊢
          clear hyz HKP
          have bA := HB4.out.trans (bB.out.mono HB4.out.size)
          have hCA : C ≠ A := by have := cC.out.2; have := HAB.out; omega
          have hCB : C ≠ B := by have := cC.out.2; have := HAB.out; omega
          have hCR : C ≠ R := by have := cC.out.2; have := HAB.out; omega
          have hAB : A ≠ B := by omega
          have hAR : A ≠ R := by omega
          have hBR : B ≠ R := by omega
          have hwC : wr.heap.size ≤ C := by have := cC.out.2; have := HB4.out.size; omega
          have TA := (HTA.out.excl hwC).below bA
          have TB := (HTB.out.excl hwC).below bA
          have R6 := HR6.out.below bA
          have TV := (HR4.out.excl cC.out.2).below bB.out
          have cx := cC.out.1
          have hBW := HBB.out.trans (bA.mono HBB.out.size)
          have TA1 := Lib.hid (TA.set3 (a := .slice ra V.length rc) (b := .slice a9 D1.length c9) (c := .slice a18 D2.length c18) (.inr rfl) hCA)
          have TB1 := Lib.hid (TB.set3 (a := .slice ra V.length rc) (b := .slice a9 D1.length c9) (c := .slice a18 D2.length c18) (.inr rfl) hCB)
          have TC1 := Lib.hid (TriB.put3 (T := ⟨V, D1, D2⟩) cx TV X9.out X18.out (.inr rfl))
          have TR1 := Lib.hid (R6.other3 (a := .slice ra V.length rc) (b := .slice a9 D1.length c9) (c := .slice a18 D2.length c18) hCR)
          have TW1 := Lib.hid (below_str3 (a := .slice ra V.length rc) (b := .slice a9 D1.length c9) (c := .slice a18 D2.length c18) hBW (show w.heap.size ≤ C by omega))
          obtain ⟨cc0, cc1, cc2, cf0, cf1, cf2, cs⟩ := cx
          clear TA TB R6 TV bA hBW
          go_upto_region 6 with fail
          obtain ⟨z1, hz1⟩ : ∃ z1, z1 = (((yz.setCell ⟨C, 0, none⟩ (.slice ra V.length rc)).setCell ⟨C, 1, none⟩ (.slice a9 D1.length c9)).setCell ⟨C, 2, none⟩ (.slice a18 D2.length c18)) := ⟨_, rfl⟩
          rw [← hz1] at TA1 TB1 TC1 TR1 TW1 ⊢
          clear hz1 cc0 cc1 cc2 cf0 cf1 cf2 cs X9 X18 cC bB
          have TA2 := Lib.hid (TriB.put3 TA1.out.1 TB1.out.2.1 TB1.out.2.2.1 TB1.out.2.2.2 (.inl (.inl rfl)))
          have TB2 := Lib.hid (TB1.out.1.other3 (a := .slice bx n.a.length dx) (b := .slice by' n.b.length dy) (c := .slice bz n.c.length dz) hAB)
          have TC2 := Lib.hid (TC1.out.set3 (a := .slice bx n.a.length dx) (b := .slice by' n.b.length dy) (c := .slice bz n.c.length dz) (.inl (.inl rfl)) (Ne.symm hCA))
          have TR2 := Lib.hid (TR1.out.other3 (a := .slice bx n.a.length dx) (b := .slice by' n.b.length dy) (c := .slice bz n.c.length dz) hAR)
          have TW2 := Lib.hid (below_str3 (a := .slice bx n.a.length dx) (b := .slice by' n.b.length dy) (c := .slice bz n.c.length dz) TW1.out (show w.heap.size ≤ A by omega))
          obtain ⟨da0, da1, da2, df0, df1, df2, ds⟩ := TA1.out.1
          obtain ⟨db0, db1, db2, _, _, _, _⟩ := TB1.out.1
          go_upto_region 7 with fail
          obtain ⟨z2, hz2⟩ : ∃ z2, z2 = (((z1.setCell ⟨A, 0, none⟩ (.slice bx n.a.length dx)).setCell ⟨A, 1, none⟩ (.slice by' n.b.length dy)).setCell ⟨A, 2, none⟩ (.slice bz n.c.length dz)) := ⟨_, rfl⟩
          rw [← hz2] at TA2 TB2 TC2 TR2 TW2 ⊢
          clear hz2 da0 da1 da2 df0 df1 df2 ds db0 db1 db2 TA1 TB1 TC1 TR1 TW1
          have TA3 := Lib.hid (TA2.out.set3 (a := .slice ra V.length rc) (b := .slice a9 D1.length c9) (c := .slice a18 D2.length c18) (.inl (.inr rfl)) (Ne.symm hAB))
          have TB3 := Lib.hid (TriB.put3 (T := ⟨V, D1, D2⟩) TB2.out TC2.out.2.1 TC2.out.2.2.1 TC2.out.2.2.2 (.inl (.inr rfl)))
          have TR3 := Lib.hid (TR2.out.other3 (a := .slice ra V.length rc) (b := .slice a9 D1.length c9) (c := .slice a18 D2.length c18) hBR)
          have TW3 := Lib.hid (below_str3 (a := .slice ra V.length rc) (b := .slice a9 D1.length c9) (c := .slice a18 D2.length c18) TW2.out (show w.heap.size ≤ B by omega))
          obtain ⟨da0, da1, da2, df0, df1, df2, ds⟩ := TB2.out
          obtain ⟨db0, db1, db2, _, _, _, _⟩ := TC2.out.1
          go_wp2_with fail
          obtain ⟨z3, hz3⟩ : ∃ z3, z3 = (((z2.setCell ⟨B, 0, none⟩ (.slice ra V.length rc)).setCell ⟨B, 1, none⟩ (.slice a9 D1.length c9)).setCell ⟨B, 2, none⟩ (.slice a18 D2.length c18)) := ⟨_, rfl⟩
          rw [← hz3] at TA3 TB3 TR3 TW3 ⊢
          clear hz3 da0 da1 da2 df0 df1 df2 ds db0 db1 db2 TA2 TB2 TC2 TR2 TW2
          have hm1 : lenC z3 B = V.length := by unfold lenC; rw [TB3.out.1.c0]; rfl
          have hm0 : lenC wr B = n.a.length := by unfold lenC; rw [HTB.out.1.c0]; rfl
          have hts := HS.out
          rw [HEU.out] at hts
          have hla := hts.la
          have hend : ∃ (m n : Tri) (k kk : Nat) (x y z x' y' z' : Value), TriB (fun g => g = A ∨ g = B) z3 A x y z m ∧ TriB (fun g => g = A ∨ g = B) z3 B x' y' z' n ∧ Bx3 z3 R (.slice none 0 0) (.slice none 0 0) (.slice none 0 0) ∧ TOk p m 10 kk ∧ TOk p n 10 kk ∧ kk + 10 * n.a.length ≤ 101 ∧ eucN p (ivV p) k m n = euG p L1 L2 ∧ n.a.length ≤ k ∧ Below w.heap.size w z3 := by
            refine ⟨n, ⟨V, D1, D2⟩, j, kk + 10, _, _, _, _, _, _, TA3.out.mono (fun g h => .inl h), TB3.out.mono (fun g h => .inl h), TR3.out, HTN.out.mono (Nat.le_refl _) (by omega), hts.mono (by omega) (Nat.le_refl _), ?_, ?_, ?_, TW3.out⟩
            · have := HKK.out
              have h2 : V.length ≤ n.a.length - 1 := hla
              show kk + 10 + 10 * V.length ≤ 101
              omega
            · rw [← HE.out, HST.out.2, show ivV p (cf n.a (n.a.length - 1)) = ivL p n.a from rfl, HEU.out]
            · have := HST.out.1
              have h2 : V.length ≤ n.a.length - 1 := hla
              show V.length ≤ j
              omega
          go_roundw
          case rel => first | exact hend | (iterate 38 apply Exists.intro; exact ⟨hend, rfl⟩)
          case measure => rw [hm1, hm0]; have h2 : V.length ≤ n.a.length - 1 := hla; omega
      · skip
        refine wpPlan_do (List.getElem?_toArray.trans rfl) (fun K hK => ?_)
        go_simp
        refine hK _ _ (HKP.out _ (Below.alloc bB.out bB.out.size _)) ?_
        clear hK K
        obtain ⟨ya, hya⟩ : ∃ ya, ya = y4.alloc (Obj.cells #[.slice none 0 0, .slice none 0 0, .slice none 0 0] 74) := ⟨_, rfl⟩
        rw [← hya]
        obtain ⟨C, hC⟩ : ∃ C, C = y4.heap.size := ⟨_, rfl⟩
        rw [← hC]
        have hb' : Below y4.heap.size y4 ya := by rw [hya]; exact Below.alloc (Below.refl _ _) (Nat.le_refl _) _
        have cC := Lib.hid (show Bx3 ya C (.slice none 0 0) (.slice none 0 0) (.slice none 0 0) ∧ ws.heap.size ≤ C from ⟨by rw [hya, hC]; exact Bx3.alloc _ _ _ _ _, by have := bB.out.size; omega⟩)
        replace bB := Lib.hid (bB.out.trans (hb'.mono bB.out.size))
        clear hya hC hb'
        refine wpPlan_do (List.getElem?_toArray.trans rfl) (fun K hK => ?_)
        go_simp
        refine (HM1.out _ bB.out).mono ?_
        rintro e y8 ⟨u8, rfl, hu, hb'⟩
        have bN := Lib.hid (bB.out.trans (hb'.mono bB.out.size))
        have X8 := Lib.hid (hu.ilr (by have := HLQ.out; omega)).ints
        replace cC := Lib.hid (And.intro (cC.out.1.below hb') cC.out.2)
        replace bB := bN
        clear bN hu hb'
        refine hK _ _ (HKP.out _ bB.out) ?_
        clear hK K
        refine wpPlan_do (List.getElem?_toArray.trans rfl) (fun K hK => ?_)
        go_simp
        refine (HN1.out _ _ bB.out X8.out).mono ?_
        rintro e y9 ⟨u9, rfl, hu, hb'⟩
        have bN := Lib.hid (bB.out.trans (hb'.mono bB.out.size))
        obtain ⟨a9, c9, rfl⟩ := hu.form
        replace X8 := Lib.hid (X8.out.below hb')
        have X9 := Lib.hid (show Off (fun g => (g = A ∨ g = B) ∨ g = C) y9 (.slice a9 D1.length c9) D1 from hu.off (by have := HLQ.out; omega) (fun g hg _ => by have h1 := bB.out.size; have h2 := HAB.out; have h3 := cC.out.1.sz; intro h; omega))
        replace cC := Lib.hid (And.intro (cC.out.1.below hb') cC.out.2)
        replace bB := bN
        clear bN hu hb'
        refine hK _ _ (HKP.out _ bB.out) ?_
        clear hK K
        refine wpPlan_do (List.getElem?_toArray.trans rfl) (fun K hK => ?_)
        go_simp
        refine (HM2.out _ bB.out).mono ?_
        rintro e y17 ⟨u17, rfl, hu, hb'⟩
        have bN := Lib.hid (bB.out.trans (hb'.mono bB.out.size))
        replace X8 := Lib.hid (X8.out.below hb')
        replace X9 := Lib.hid (X9.out.below hb')
        have X17 := Lib.hid (hu.ilr (by have := HLQ.out; omega)).ints
        replace cC := Lib.hid (And.intro (cC.out.1.below hb') cC.out.2)
        replace bB := bN
        clear bN hu hb'
        refine hK _ _ (HKP.out _ bB.out) ?_
        clear hK K
        refine wpPlan_do (List.getElem?_toArray.trans rfl) (fun K hK => ?_)
        go_simp
        refine (HN2.out _ _ bB.out X17.out).mono ?_
        rintro e y18 ⟨u18, rfl, hu, hb'⟩
        have bN := Lib.hid (bB.out.trans (hb'.mono bB.out.size))
        obtain ⟨a18, c18, rfl⟩ := hu.form
        replace X8 := Lib.hid (X8.out.below hb')
        replace X9 := Lib.hid (X9.out.below hb')
        replace X17 := Lib.hid (X17.out.below hb')
        have X18 := Lib.hid (show Off (fun g => (g = A ∨ g = B) ∨ g = C) y18 (.slice a18 D2.length c18) D2 from hu.off (by have := HLQ.out; omega) (fun g hg _ => by have h1 := bB.out.size; have h2 := HAB.out; have h3 := cC.out.1.sz; intro h; omega))
        replace cC := Lib.hid (And.intro (cC.out.1.below hb') cC.out.2)
        replace bB := bN
        clear bN hu hb'
        refine hK _ _ (HKP.out _ bB.out) ?_
        clear hK K
        (refine wpPlan_take (v := ?_) (List.getElem?_toArray.trans rfl) ?_ ?_; rotate_left; (intro w' hSw; (try dsimp only at hSw); go_simp; (try with_reducible rfl)); (try simp only [Act.put, List.setIfInBounds_toArray, List.set_cons_zero, List.set_cons_succ]))
        refine wpPlan_fin ?_
        simp only [Exit.then]
        obtain ⟨yz, hyz⟩ : ∃ yz, yz = y18 := ⟨_, rfl⟩
        rw [← hyz] at bB X9 X18 cC ⊢
        clear hyz HKP
        have bA := HB4.out.trans (bB.out.mono HB4.out.size)
        have hCA : C ≠ A := by have := cC.out.2; have := HAB.out; omega
        have hCB : C ≠ B := by have := cC.out.2; have := HAB.out; omega
        have hCR : C ≠ R := by have := cC.out.2; have := HAB.out; omega
        have hAB : A ≠ B := by omega
        have hAR : A ≠ R := by omega
        have hBR : B ≠ R := by omega
        have hwC : wr.heap.size ≤ C := by have := cC.out.2; have := HB4.out.size; omega
        have TA := (HTA.out.excl hwC).below bA
        have TB := (HTB.out.excl hwC).below bA
        have R6 := HR6.out.below bA
        have TV := (HR4.out.excl cC.out.2).below bB.out
        have cx := cC.out.1
        have hBW := HBB.out.trans (bA.mono HBB.out.size)
        have TA1 := Lib.hid (TA.set3 (a := .slice ra V.length rc) (b := .slice a9 D1.length c9) (c := .slice a18 D2.length c18) (.inr rfl) hCA)
        have TB1 := Lib.hid (TB.set3 (a := .slice ra V.length rc) (b := .slice a9 D1.length c9) (c := .slice a18 D2.length c18) (.inr rfl) hCB)
        have TC1 := Lib.hid (TriB.put3 (T := ⟨V, D1, D2⟩) cx TV X9.out X18.out (.inr rfl))
        have TR1 := Lib.hid (R6.other3 (a := .slice ra V.length rc) (b := .slice a9 D1.length c9) (c := .slice a18 D2.length c18) hCR)
        have TW1 := Lib.hid (below_str3 (a := .slice ra V.length rc) (b := .slice a9 D1.length c9) (c := .slice a18 D2.length c18) hBW (show w.heap.size ≤ C by omega))
        obtain ⟨cc0, cc1, cc2, cf0, cf1, cf2, cs⟩ := cx
        clear TA TB R6 TV bA hBW
        go_upto_region 6 with fail
        obtain ⟨z1, hz1⟩ : ∃ z1, z1 = (((yz.setCell ⟨C, 0, none⟩ (.slice ra V.length rc)).setCell ⟨C, 1, none⟩ (.slice a9 D1.length c9)).setCell ⟨C, 2, none⟩ (.slice a18 D2.length c18)) := ⟨_, rfl⟩
        rw [← hz1] at TA1 TB1 TC1 TR1 TW1 ⊢
        clear hz1 cc0 cc1 cc2 cf0 cf1 cf2 cs X9 X18 cC bB
        have TA2 := Lib.hid (TriB.put3 TA1.out.1 TB1.out.2.1 TB1.out.2.2.1 TB1.out.2.2.2 (.inl (.inl rfl)))
        have TB2 := Lib.hid (TB1.out.1.other3 (a := .slice bx n.a.length dx) (b := .slice by' n.b.length dy) (c := .slice bz n.c.length dz) hAB)
        have TC2 := Lib.hid (TC1.out.set3 (a := .slice bx n.a.length dx) (b := .slice by' n.b.length dy) (c := .slice bz n.c.length dz) (.inl (.inl rfl)) (Ne.symm hCA))
        have TR2 := Lib.hid (TR1.out.other3 (a := .slice bx n.a.length dx) (b := .slice by' n.b.length dy) (c := .slice bz n.c.length dz) hAR)
        have TW2 := Lib.hid (below_str3 (a := .slice bx n.a.length dx) (b := .slice by' n.b.length dy) (c := .slice bz n.c.length dz) TW1.out (show w.heap.size ≤ A by omega))
        obtain ⟨da0, da1, da2, df0, df1, df2, ds⟩ := TA1.out.1
        obtain ⟨db0, db1, db2, _, _, _, _⟩ := TB1.out.1
        go_upto_region 7 with fail
        obtain ⟨z2, hz2⟩ : ∃ z2, z2 = (((z1.setCell ⟨A, 0, none⟩ (.slice bx n.a.length dx)).setCell ⟨A, 1, none⟩ (.slice by' n.b.length dy)).setCell ⟨A, 2, none⟩ (.slice bz n.c.length dz)) := ⟨_, rfl⟩
        rw [← hz2] at TA2 TB2 TC2 TR2 TW2 ⊢
        clear hz2 da0 da1 da2 df0 df1 df2 ds db0 db1 db2 TA1 TB1 TC1 TR1 TW1
        have TA3 := Lib.hid (TA2.out.set3 (a := .slice ra V.length rc) (b := .slice a9 D1.length c9) (c := .slice a18 D2.length c18) (.inl (.inr rfl)) (Ne.symm hAB))
        have TB3 := Lib.hid (TriB.put3 (T := ⟨V, D1, D2⟩) TB2.out TC2.out.2.1 TC2.out.2.2.1 TC2.out.2.2.2 (.inl (.inr rfl)))
        have TR3 := Lib.hid (TR2.out.other3 (a := .slice ra V.length rc) (b := .slice a9 D1.length c9) (c := .slice a18 D2.length c18) hBR)
        have TW3 := Lib.hid (below_str3 (a := .slice ra V.length rc) (b := .slice a9 D1.length c9) (c := .slice a18 D2.length c18) TW2.out (show w.heap.size ≤ B by omega))
        obtain ⟨da0, da1, da2, df0, df1, df2, ds⟩ := TB2.out
        obtain ⟨db0, db1, db2, _, _, _, _⟩ := TC2.out.1
        go_wp2_with fail
        obtain ⟨z3, hz3⟩ : ∃ z3, z3 = (((z2.setCell ⟨B, 0, none⟩ (.slice ra V.length rc)).setCell ⟨B, 1, none⟩ (.slice a9 D1.length c9)).setCell ⟨B, 2, none⟩ (.slice a18 D2.length c18)) := ⟨_, rfl⟩
        rw [← hz3] at TA3 TB3 TR3 TW3 ⊢
        clear hz3 da0 da1 da2 df0 df1 df2 ds db0 db1 db2 TA2 TB2 TC2 TR2 TW2
        have hm1 : lenC z3 B = V.length := by unfold lenC; rw [TB3.out.1.c0]; rfl
        have hm0 : lenC wr B = n.a.length := by unfold lenC; rw [HTB.out.1.c0]; rfl
        have hts := HS.out
        rw [HEU.out] at hts
        have hla := hts.la
        have hend : ∃ (m n : Tri) (k kk : Nat) (x y z x' y' z' : Value), TriB (fun g => g = A ∨ g = B) z3 A x y z m ∧ TriB (fun g => g = A ∨ g = B) z3 B x' y' z' n ∧ Bx3 z3 R (.slice none 0 0) (.slice none 0 0) (.slice none 0 0) ∧ TOk p m 10 kk ∧ TOk p n 10 kk ∧ kk + 10 * n.a.length ≤ 101 ∧ eucN p (ivV p) k m n = euG p L1 L2 ∧ n.a.length ≤ k ∧ Below w.heap.size w z3 := by
          refine ⟨n, ⟨V, D1, D2⟩, j, kk + 10, _, _, _, _, _, _, TA3.out.mono (fun g h => .inl h), TB3.out.mono (fun g h => .inl h), TR3.out, HTN.out.mono (Nat.le_refl _) (by omega), hts.mono (by omega) (Nat.le_refl _), ?_, ?_, ?_, TW3.out⟩
          · have := HKK.out
            have h2 : V.length ≤ n.a.length - 1 := hla
            show kk + 10 + 10 * V.length ≤ 101
            omega
          · rw [← HE.out, HST.out.2, show ivV p (cf n.a (n.a.length - 1)) = ivL p n.a from rfl, HEU.out]
          · have := HST.out.1
            have h2 : V.length ≤ n.a.length - 1 := hla
            show V.length ≤ j
            omega
        go_roundw
        case rel => first | exact hend | (iterate 38 apply Exists.intro; exact ⟨hend, rfl⟩)
        case measure => rw [hm1, hm0]; have h2 : V.length ≤ n.a.length - 1 := hla; omega
end Go.Proofs.Ytfmpcniehgipfaa
namespace Go.Proofs.Ytfmpcniehgipfaa
set_option linter.unusedVariables false
open Go.RowKit
theorem eucN_ok {p : Int} (hp : isP p = true) : ∀ (k : Nat) (m n : Tri) (kk : Nat), TOk p m 10 kk → TOk p n 10 kk → kk + 10 * n.a.length ≤ 101 → TOk p (eucN p (ivV p) k m n) 10 101 := by
  intro k
  induction k with
  | zero => intro m n kk hm hn hk; exact hm.mono (Nat.le_refl _) (by omega)
  | succ k ih =>
    intro m n kk hm hn hk
    by_cases h : n.a.length = 0
    · rw [eucN_nil _ _ _ _ _ h]; exact hm.mono (Nat.le_refl _) (by omega)
    · show TOk p (if _ then _ else _) 10 101
      rw [if_neg h]
      have hs := eucS_ok hp hm hn (iv_ok hp hn.ca hn.ea (by omega))
      have hl := hs.la
      have hn' := hn.la
      refine ih _ _ (kk + 10) (hn.mono (Nat.le_refl _) (by omega)) (hs.mono (by omega) (Nat.le_refl _)) ?_
      have h2 : (eucS p (ivV p (cf n.a (n.a.length - 1))) m n).a.length ≤ n.a.length - 1 := hl
      omega
theorem euG_ok {p : Int} {L1 L2 : List Int} (hp : isP p = true) (e1 : AllE p L1) (e2 : AllE p L2) (c1 : Can L1) (c2 : Can L2) (l1 : L1.length ≤ 10) (l2 : L2.length ≤ 10) : TOk p (euG p L1 L2) 10 101 := by
  have q := isP_bd hp
  exact eucN_ok hp _ _ _ 1 ⟨c1, one_can, Can.nil, e1, one_allE (by omega), nil_allE (by omega), l1, by simp, by simp⟩ ⟨c2, Can.nil, one_can, e2, nil_allE (by omega), one_allE (by omega), l2, by simp, by simp⟩ (by show 1 + 10 * L2.length ≤ 101; omega)
theorem euT_ok {p : Int} {L1 L2 : List Int} (hp : isP p = true) (e1 : AllE p L1) (e2 : AllE p L2) (c1 : Can L1) (c2 : Can L2) (l1 : L1.length ≤ 10) (l2 : L2.length ≤ 10) : TOk p (euT p L1 L2) 10 101 := by
  have q := isP_bd hp
  have h := euG_ok hp e1 e2 c1 c2 l1 l2
  unfold euT
  split
  · exact ⟨Can.nil, Can.nil, Can.nil, nil_allE (by omega), nil_allE (by omega), nil_allE (by omega), by simp, by simp, by simp⟩
  · exact ⟨smuL_can _ _ _, smuL_can _ _ _, smuL_can _ _ _, smuL_allE (by omega) _ _, smuL_allE (by omega) _ _, smuL_allE (by omega) _ _, Nat.le_trans (smuL_len _ _ _) h.la, Nat.le_trans (smuL_len _ _ _) h.lb, Nat.le_trans (smuL_len _ _ _) h.lc⟩
/-- whether two lists are lines -/
def gcB (p : Int) (L1 L2 : List Int) : Bool := lineB p L1 && lineB p L2
/-- the greatest common divisor -/
def gcV (p : Int) (L1 L2 : List Int) : List Int := if gcB p L1 L2 = true then (euT p L1 L2).a else []
theorem fldR (x y z : Value) (w : World) : (Instr.field 74 (.agg #[x, y, z]) 0).run Try.prog w = .ok x w := by kernel_rfl
set_option maxRecDepth 100000 in
set_option maxHeartbeats 4000000 in
theorem sGcdLine (p : Int) (v1 v2 : Value) (L1 L2 : List Int) (w : World) (h1 : Ints w v1 L1) (h2 : Ints w v2 L2) (hl1 : L1.length ≤ 1048576) (hl2 : L2.length ≤ 1048576) :
    Calls Try.prog 32 #[.int .i64 p, v1, v2] w (GivesIB (gcV p L1 L2) (gcB p L1 L2) w) := by
  have HV1 := Lib.hid (sLineValid p v1 L1 w h1 hl1)
  have HV2 := Lib.hid (sLineValid p v2 L2 w h2 hl2)
  have HE := Lib.hid (RowN.empty w (Nat.le_refl _))
  have HBE := Lib.hid (show Below w.heap.size w (w.alloc (Obj.cells #[] 3)) from Below.alloc (Below.refl _ _) (Nat.le_refl _) _)
  cases hB1 : lineB p L1
  · have HV := Lib.hid (show gcV p L1 L2 = [] ∧ gcB p L1 L2 = false by unfold gcV gcB; rw [hB1]; exact ⟨rfl, rfl⟩)
    rw [hB1] at HV1
    rw [HV.out.1, HV.out.2]
    clear hB1 h1 h2
    go_enter Try.func32, Try.ntmps32
    go_wp2_with fail
    refine HV1.out.mono ?_
    rintro e w2 ⟨rfl, rfl⟩
    go_wp2_with fail
    refine bodyPost_ret (v := .tuple #[.slice (some ⟨w.heap.size, 0, none⟩) 0 0, .bool false]) (by simp [results, Try.results32, go_sem]) rfl ⟨_, rfl, HE.out.own (by simp), HBE.out⟩
  · cases hB2 : lineB p L2
    · have HV := Lib.hid (show gcV p L1 L2 = [] ∧ gcB p L1 L2 = false by unfold gcV gcB; rw [hB1, hB2]; exact ⟨rfl, rfl⟩)
      rw [hB1] at HV1
      rw [hB2] at HV2
      rw [HV.out.1, HV.out.2]
      clear hB1 hB2 h1 h2
      go_enter Try.func32, Try.ntmps32
      go_wp2_with fail
      refine HV1.out.mono ?_
      rintro e w2 ⟨rfl, rfl⟩
      go_wp2_with fail
      refine HV2.out.mono ?_
      rintro e w2 ⟨rfl, rfl⟩
      go_wp2_with fail
      refine bodyPost_ret (v := .tuple #[.slice (some ⟨w.heap.size, 0, none⟩) 0 0, .bool false]) (by simp [results, Try.results32, go_sem]) rfl ⟨_, rfl, HE.out.own (by simp), HBE.out⟩
    · obtain ⟨hp, e1, l1, k1⟩ := lineB_iff.1 hB1
      obtain ⟨_, e2, l2, k2⟩ := lineB_iff.1 hB2
      have HM := Lib.hid (sEuclid p v1 v2 L1 L2 w hp h1 h2 e1 e2 k1 k2 l1 l2)
      have HO := Lib.hid (euT_ok hp e1 e2 k1 k2 l1 l2)
      have HV := Lib.hid (show gcV p L1 L2 = (euT p L1 L2).a ∧ gcB p L1 L2 = true by
        have h : gcB p L1 L2 = true := by unfold gcB; rw [hB1, hB2]; rfl
        refine ⟨?_, h⟩
        unfold gcV; rw [if_pos h])
      rw [hB1] at HV1
      rw [hB2] at HV2
      rw [HV.out.1, HV.out.2]
      obtain ⟨T, hT⟩ : ∃ T, T = euT p L1 L2 := ⟨_, rfl⟩
      rw [← hT] at HM HO ⊢
      clear hB1 hB2 h1 h2 hT HV hp e1 e2 k1 k2
      go_enter Try.func32, Try.ntmps32
      go_wp2_with fail
      refine HV1.out.mono ?_
      rintro e w2 ⟨rfl, rfl⟩
      go_wp2_with fail
      refine HV2.out.mono ?_
      rintro e w2 ⟨rfl, rfl⟩
      go_wp2_with fail
      refine HM.out.mono ?_
      rintro e w3 ⟨x, y, z, rfl, hx, hy, hz, hb3⟩
      obtain ⟨ax, cx, rfl⟩ := hx.form
      obtain ⟨ay, cy, rfl⟩ := hy.form
      obtain ⟨az, cz, rfl⟩ := hz.form
      have H3 := Lib.hid (And.intro hx hb3)
      have HT := Lib.hid (sTrim _ T.a w3 hx (by have := HO.out.la; omega))
      rw [trim_of HO.out.ca] at HT
      have hfd : ∀ w : World, (Instr.field 74 (.agg #[.slice ax T.a.length cx, .slice ay T.b.length cy, .slice az T.c.length cz]) 0).run Try.prog w = .ok (.slice ax T.a.length cx) w := fun w => fldR _ _ _ w
      clear hx hy hz hb3
      go_wp2_with fail
      refine HT.out.mono ?_
      rintro e w4 ⟨u4, rfl, hu4, hb4⟩
      have H4 := Lib.hid (show OwnInts w4 w.heap.size u4 T.a ∧ Below w.heap.size w w4 from ⟨(hu4.base H3.out.2.size).own (by have := HO.out.la; omega), H3.out.2.trans (hb4.mono H3.out.2.size)⟩)
      clear hu4 hb4
      go_wp2_with fail
      refine bodyPost_ret (v := .tuple #[u4, .bool true]) (by simp [results, Try.results32, go_sem]) rfl ⟨_, rfl, H4.out⟩
end Go.Proofs.Ytfmpcniehgipfaa
