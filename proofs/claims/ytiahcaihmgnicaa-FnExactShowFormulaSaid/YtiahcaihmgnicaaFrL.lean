/-
  Contract of the program's leaf of a sign. Conditions: the field is one, the sign is not below 0.
-/
import Derived.Test.YtiahcaihmgnicaaFrI
namespace Go.Proofs.Ytiahcaihmgnicaa
open Go.RowKit
/-- the index of a sign in a text of signs below 128 -/
def idxV (l : List UInt8) (r : Int) : Int := if r < 128 then Lib.indexByte l r.toNat.toUInt8 else -1
theorem iRune (s : ByteArray) (r : Int) (w : World) (hs : ∀ b ∈ s.data.toList, b.toNat < 128) (hl : s.size ≤ 1000) (h0 : 0 ≤ r) :
    Calls Try.prog 154 #[.string s, .int .i32 r] w fun e w' => e = .returned (.int .i64 (idxV s.data.toList r)) ∧ Below w.heap.size w w' := by
  unfold idxV
  split
  · exact iRune_low s r w h0 (by omega)
  · by_cases h2 : r = 65533
    · subst h2
      exact iRune_err s w hs
    · cases hv : Utf8.valid r
      · exact iRune_bad s r w (by omega) h2 hv
      · exact iRune_high s r w hs hl (by omega) h2 hv
/-- the leaf of a sign that a range over a text gives -/
def leafR (p r : Int) : Option (Int × Int) := if r < 128 then leafB p r.toNat.toUInt8 else none
theorem idxV_bd (l : List UInt8) (r : Int) : -1 ≤ idxV l r ∧ idxV l r ≤ l.length := by
  unfold idxV
  split
  · refine ⟨Lib.indexByte_ge _ _, ?_⟩
    rw [← Lib.index_one]
    exact Lib.index_le l _
  · omega
theorem leafR_cases {p r : Int} : (0 ≤ idxV letB r ∧ leafR p r = some (0, idxV letB r)) ∨ (¬ 0 ≤ idxV letB r ∧ leafR p r = if 0 ≤ idxV digB r ∧ idxV digB r < p then some (1, idxV digB r) else none) := by
  unfold leafR idxV leafB
  by_cases h : r < 128
  · simp only [h, if_true]
    by_cases h0 : 0 ≤ Lib.indexByte letB r.toNat.toUInt8
    · exact .inl ⟨h0, by rw [if_pos h0]⟩
    · exact .inr ⟨h0, by rw [if_neg h0]⟩
  · simp only [h, if_false]
    exact .inr ⟨by omega, by rw [if_neg (by omega)]⟩
/-- a block of three cells that the call has laid -/
structure Lf3 (n : Nat) (w wr : World) : Prop where
  c : ∀ i, i < 3 → ∃ x, wr.cell? ⟨n, i, none⟩ = some x
  f : ∀ i, wr.frozen? ⟨n, i, none⟩ = false
  sz : n < wr.heap.size
  low : Below w.heap.size w wr
theorem Lf3.below {n : Nat} {w wr w1 : World} (h : Lf3 n w wr) (hb : Below wr.heap.size wr w1) : Lf3 n w w1 :=
  ⟨fun i hi => by rw [hb.cell (p := ⟨n, i, none⟩) h.sz]; exact h.c i hi, fun i => by rw [hb.frozen (p := ⟨n, i, none⟩) h.sz]; exact h.f i, Nat.lt_of_lt_of_le h.sz hb.size, h.low.trans (hb.mono h.low.size)⟩
theorem Lf3.new (w : World) (a b c : Value) (t : TypeId) : Lf3 w.heap.size w (w.alloc (Obj.cells #[a, b, c] t)) := by
  refine ⟨fun i hi => ?_, fun i => World.frozen?_alloc_at _ _ _ i rfl, by simp, Below.alloc (Below.refl _ _) (Nat.le_refl _) _⟩
  have : i = 0 ∨ i = 1 ∨ i = 2 := by omega
  rcases this with rfl | rfl | rfl <;> exact ⟨_, by simp [go_sem]; rfl⟩
set_option maxRecDepth 100000 in
set_option maxHeartbeats 4000000 in
theorem iLeaf (p r : Int) (w : World) (hp : isP p = true) (h0 : 0 ≤ r) :
    Calls Try.prog 150 #[.int .i64 p, .int .i32 r] w fun e w' => ∃ k a, e = .returned (.tuple #[.agg #[.int .i64 k, .int .i64 a, .int .i64 0], .bool (leafR p r).isSome]) ∧ (∀ x, leafR p r = some x → x = (k, a)) ∧ Below w.heap.size w w' := by
  have H1 := Lib.hid (fun w => iRune ⟨#[120, 121, 122]⟩ r w (by decide) (by decide) h0)
  have H2 := Lib.hid (fun w => iRune ⟨#[48, 49, 50, 51, 52, 53, 54, 55, 56, 57, 65, 66, 67]⟩ r w (by decide) (by decide) h0)
  rw [show (⟨#[120, 121, 122]⟩ : ByteArray).data.toList = letB from rfl] at H1
  rw [show (⟨#[48, 49, 50, 51, 52, 53, 54, 55, 56, 57, 65, 66, 67]⟩ : ByteArray).data.toList = digB from rfl] at H2
  obtain ⟨v, hv⟩ : ∃ v, v = idxV letB r := ⟨_, rfl⟩
  obtain ⟨a, ha⟩ : ∃ a, a = idxV digB r := ⟨_, rfl⟩
  have hc := leafR_cases (p := p) (r := r)
  rw [← hv, ← ha] at hc
  rw [← hv] at H1
  rw [← ha] at H2
  have HA := Lib.hid (fun (b : Nat) w (hc : w.cell? ⟨b, 0, none⟩ = some (.int .i64 a)) => (iAE_p p hp b 0 [a] w (by simp) (fun k hk => by
    have : k = 0 := by simpa using hk
    subst this
    exact hc) : Calls Try.prog 104 #[.int .i64 p, .slice (some ⟨b, 0, none⟩) 1 1] w fun e w' => e = .returned (.bool ([a].all (isE p))) ∧ w = w'))
  rw [show [a].all (isE p) = isE p a by simp] at HA
  rcases hc with ⟨hv0, hL⟩ | ⟨hv0, hL⟩
  · have HL := Lib.hid hL
    rw [hL]
    clear hv ha hL
    go_enter Try.func150, Try.ntmps150
    go_wp2_with fail
    refine (H1.out _).mono ?_
    rintro e w1 ⟨rfl, hb1⟩
    have HF := Lib.hid ((Lf3.new w _ _ _ _).below hb1)
    clear hb1
    obtain ⟨c, f, sz, -⟩ := HF.out
    obtain ⟨x0, c0⟩ := c 0 (by omega)
    obtain ⟨x1, c1⟩ := c 1 (by omega)
    obtain ⟨x2, c2⟩ := c 2 (by omega)
    have f0 := f 0
    have f1 := f 1
    have f2 := f 2
    clear c f
    go_wp2_with fail
    refine bodyPost_ret (v := .tuple #[.agg #[.int .i64 0, .int .i64 v, .int .i64 0], .bool true]) (by simp [results, Try.results150, go_sem, c0, c1, c2, f0, f1, f2]) rfl ⟨0, v, rfl, fun x hx => by injection hx with hx; exact hx.symm, ?_⟩
    repeat (first | exact HF.out.low | (refine Below.setCell ?_ (by first | omega | (simp; done)) _))
  · have HL := Lib.hid hL
    have hE : (leafR p r).isSome = isE p a := by
      rw [hL]
      unfold isE
      split
      · rename_i h; simp [h.1, h.2]
      · rename_i h; simp; omega
    have hX : ∀ x, leafR p r = some x → x = (1, a) := fun x hx => by
      rw [hL] at hx
      split at hx
      · injection hx with hx; exact hx.symm
      · cases hx
    have HX := Lib.hid hX
    rw [hE]
    clear hv ha hL hE hX
    go_enter Try.func150, Try.ntmps150
    go_wp2_with fail
    refine (H1.out _).mono ?_
    rintro e w1 ⟨rfl, hb1⟩
    have HF := Lib.hid ((Lf3.new w _ _ _ _).below hb1)
    clear hb1
    go_wp2_with fail
    refine (H2.out _).mono ?_
    rintro e w2 ⟨rfl, hb2⟩
    have HF2 := Lib.hid (HF.out.below hb2)
    clear hb2
    go_wp2_with fail
    refine (HA.out _ _ ?_).mono ?_
    · simp [go_sem]
    rintro e w3 ⟨rfl, rfl⟩
    have HF3 := Lib.hid (HF2.out.below (Below.alloc (Below.refl _ _) (Nat.le_refl _) (Obj.cells #[.int .i64 a] 3)))
    generalize (w2.alloc (Obj.cells #[.int .i64 a] 3)) = w3 at HF3 ⊢
    obtain ⟨c, f, sz, -⟩ := HF3.out
    obtain ⟨x0, c0⟩ := c 0 (by omega)
    obtain ⟨x1, c1⟩ := c 1 (by omega)
    obtain ⟨x2, c2⟩ := c 2 (by omega)
    have f0 := f 0
    have f1 := f 1
    have f2 := f 2
    clear c f
    go_wp2_with fail
    refine bodyPost_ret (v := .tuple #[.agg #[.int .i64 1, .int .i64 a, .int .i64 0], .bool (isE p a)]) (by simp [results, Try.results150, go_sem, c0, c1, c2, f0, f1, f2]) rfl ⟨1, a, rfl, HX.out, ?_⟩
    repeat (first | exact HF3.out.low | (refine Below.setCell ?_ (by first | omega | (simp; done)) _))
end Go.Proofs.Ytiahcaihmgnicaa
