/-
  How many of each sign a formula has, and its usual form. No world.
-/
import Derived.Test.YtegkcfinklcglaaBv2
import Derived.Test.YtegkcfinklcglaaBz1
namespace Go.Proofs.Ytegkcfinklcglaa
open Go.RowKit
def cs (c : UInt8) (l : List UInt8) : Nat := (l.filter fun x => x == c).length
theorem cs_app (c : UInt8) (a b : List UInt8) : cs c (a ++ b) = cs c a + cs c b := by unfold cs; rw [List.filter_append, List.length_append]
theorem cs_cons (c x : UInt8) (l : List UInt8) : cs c (x :: l) = (if x == c then 1 else 0) + cs c l := by
  unfold cs
  rw [List.filter_cons]
  split <;> simp <;> omega
theorem cs_le (c : UInt8) (l : List UInt8) : cs c l ≤ l.length := List.length_filter_le _ _
theorem cs_take {l : List UInt8} {pos : Nat} (h : pos < l.length) (c : UInt8) : cs c (l.take (pos + 1)) = cs c (l.take pos) + (if l[pos] == c then 1 else 0) := by
  rw [List.take_succ_eq_append_getElem h, cs_app, cs_cons]
  show _ = _
  unfold cs
  simp
def numK (k : Int) : Fm → Nat
  | .leaf _ _ => 0
  | .pair k' f g => (if k' = k then 1 else 0) + numK k f + numK k g
theorem el13 {p a : Int} (hp : p ≤ 13) (h : 0 ≤ a ∧ a < p) : a = 0 ∨ a = 1 ∨ a = 2 ∨ a = 3 ∨ a = 4 ∨ a = 5 ∨ a = 6 ∨ a = 7 ∨ a = 8 ∨ a = 9 ∨ a = 10 ∨ a = 11 ∨ a = 12 := by omega
theorem tx_cs {p : Int} (hp : p ≤ 13) : ∀ f : Fm, okF p f → cs 43 (txF f) = numK 2 f ∧ cs 42 (txF f) = numK 3 f
  | .leaf k a, ho => by
    rcases ho with ⟨rfl, rfl | rfl | rfl⟩ | ⟨rfl, h⟩
    · exact ⟨rfl, rfl⟩
    · exact ⟨rfl, rfl⟩
    · exact ⟨rfl, rfl⟩
    · rcases el13 hp h with rfl | rfl | rfl | rfl | rfl | rfl | rfl | rfl | rfl | rfl | rfl | rfl | rfl <;> exact ⟨rfl, rfl⟩
  | .pair k f g, ho => by
    have h1 := tx_cs hp f ho.2.1
    have h2 := tx_cs hp g ho.2.2
    show cs 43 ((if k = 2 then 43 else 42) :: (txF f ++ txF g)) = (if k = 2 then 1 else 0) + numK 2 f + numK 2 g ∧ cs 42 ((if k = 2 then 43 else 42) :: (txF f ++ txF g)) = (if k = 3 then 1 else 0) + numK 3 f + numK 3 g
    rw [cs_cons, cs_cons, cs_app, cs_app, h1.1, h1.2, h2.1, h2.2]
    rcases ho.1 with rfl | rfl
    · exact ⟨by simp; omega, by simp⟩
    · exact ⟨by simp, by simp; omega⟩
theorem sh_cs {p : Int} (hp : p ≤ 13) : ∀ f : Fm, okF p f → cs 43 (shF f).data.toList = numK 2 f ∧ cs 42 (shF f).data.toList = numK 3 f ∧ cs 40 (shF f).data.toList + leavesF f = sizeF f ∧ ∀ b ∈ (shF f).data.toList, b.toNat < 128
  | .leaf k a, ho => by
    rcases ho with ⟨rfl, rfl | rfl | rfl⟩ | ⟨rfl, h⟩
    · exact ⟨rfl, rfl, rfl, by decide⟩
    · exact ⟨rfl, rfl, rfl, by decide⟩
    · exact ⟨rfl, rfl, rfl, by decide⟩
    · rcases el13 hp h with rfl | rfl | rfl | rfl | rfl | rfl | rfl | rfl | rfl | rfl | rfl | rfl | rfl <;> exact ⟨rfl, rfl, rfl, by decide⟩
  | .pair k f g, ho => by
    obtain ⟨a1, a2, a3, a4⟩ := sh_cs hp f ho.2.1
    obtain ⟨b1, b2, b3, b4⟩ := sh_cs hp g ho.2.2
    obtain ⟨S, hS, s1, s2, s3, s4⟩ : ∃ S, (sgnS k).data.toList = S ∧ cs 43 S = (if k = 2 then 1 else 0) ∧ cs 42 S = (if k = 3 then 1 else 0) ∧ cs 40 S = 0 ∧ ∀ b ∈ S, b.toNat < 128 := by
      rcases ho.1 with rfl | rfl
      · exact ⟨_, rfl, rfl, rfl, rfl, by decide⟩
      · exact ⟨_, rfl, rfl, rfl, rfl, by decide⟩
    have e : (shF (.pair k f g)).data.toList = 40 :: ((shF f).data.toList ++ S ++ (shF g).data.toList ++ [41]) := by
      show ((((⟨#[40]⟩ ++ shF f) ++ sgnS k) ++ shF g) ++ ⟨#[41]⟩ : ByteArray).data.toList = _
      simp only [ByteArray.data_append, Array.toList_append, hS]
      simp
    rw [e]
    show _ = (if k = 2 then 1 else 0) + numK 2 f + numK 2 g ∧ _ = (if k = 3 then 1 else 0) + numK 3 f + numK 3 g ∧ _ + (leavesF f + leavesF g) = 1 + sizeF f + sizeF g ∧ _
    simp only [cs_cons, cs_app, a1, a2, b1, b2, s1, s2, s3, show ∀ c, cs c ([] : List UInt8) = 0 from fun _ => rfl, show ((40 : UInt8) == 43) = false from rfl, show ((40 : UInt8) == 42) = false from rfl, show ((40 : UInt8) == 40) = true from rfl, show ((41 : UInt8) == 43) = false from rfl, show ((41 : UInt8) == 42) = false from rfl, show ((41 : UInt8) == 40) = false from rfl, Bool.false_eq_true, if_false, if_true]
    refine ⟨by omega, by omega, by omega, fun b hb => ?_⟩
    · simp only [List.mem_cons, List.mem_append, List.mem_nil_iff, or_false] at hb
      rcases hb with rfl | ((hb | hb) | hb) | rfl
      · decide
      · exact a4 b hb
      · exact s4 b hb
      · exact b4 b hb
      · decide
theorem shF_pos : ∀ f : Fm, 1 ≤ (shF f).size
  | .leaf k a => by
    show 1 ≤ (if k = 0 then letS a else decB a).size
    have h1 := letS_size a
    split
    · omega
    · unfold decB
      split
      · exact Nat.le_refl _
      · show 1 ≤ 2
        omega
  | .pair k f g => by
    show 1 ≤ ((((⟨#[40]⟩ ++ shF f) ++ sgnS k) ++ shF g) ++ ⟨#[41]⟩ : ByteArray).size
    simp only [ByteArray.size_append]
    have e1 : (⟨#[40]⟩ : ByteArray).size = 1 := rfl
    omega
/-- all that the law of ShowFormula asks -/
structure ShoF (p : Int) (s t : ByteArray) : Prop where
  ps : cs 43 t.data.toList = cs 43 s.data.toList
  ts : cs 42 t.data.toList = cs 42 s.data.toList
  op : (cs 40 t.data.toList : Int) = (s.size : Int) - lvsV p s
  sa : ∀ b ∈ s.data.toList, b.toNat < 128
  ta : ∀ b ∈ t.data.toList, b.toNat < 128
  ss : s.size ≤ 60
  st : t.size ≤ 1000
  ne : 1 ≤ t.size
  fo : fokB p s = true
  lv : 0 ≤ lvsV p s ∧ lvsV p s ≤ 60
theorem shoF {p : Int} {s : ByteArray} {f : Fm} (h : foF p s = some f) : showV p s = shF f ∧ ShoF p s (shF f) := by
  have e : showV p s = shF f := by unfold showV; rw [h]
  obtain ⟨hp, h60, hf⟩ := foF_some h
  have hb := isP_bd hp
  have ho := formF_ok hf
  have ht := form_txt hf
  have a := tx_cs hb.2 f ho
  rw [← ht] at a
  obtain ⟨b1, b2, b3, b4⟩ := sh_cs hb.2 f ho
  have hl := foF_leaves h
  have hz := fo_size h
  have hsz := shF_size f
  have e2 : lvsV p s = (leavesF f : Int) := by unfold lvsV; rw [h]
  exact ⟨e, by rw [b1, a.1], by rw [b2, a.2], by rw [e2]; omega, formF_ascii hf, b4, h60, by omega, shF_pos f, by rw [fokB_some, h]; rfl, by rw [e2]; omega⟩
end Go.Proofs.Ytegkcfinklcglaa
