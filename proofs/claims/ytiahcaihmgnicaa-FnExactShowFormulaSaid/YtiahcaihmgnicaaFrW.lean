/-
  ShowFormula, of the model and of the program, and the walk of its exact law. Conditions: none.
-/
import Derived.Test.YtiahcaihmgnicaaFrE
namespace Go.Proofs.Ytiahcaihmgnicaa
open Go.RowKit
def decB (a : Int) : ByteArray := if a < 10 then ⟨#[(48 + a.toNat).toUInt8]⟩ else ⟨#[49, (38 + a.toNat).toUInt8]⟩
def letS (a : Int) : ByteArray := if a = 0 then ⟨#[120]⟩ else if a = 1 then ⟨#[121]⟩ else ⟨#[122]⟩
def sgnS (k : Int) : ByteArray := if k = 3 then ⟨#[32, 42, 32]⟩ else ⟨#[32, 43, 32]⟩
/-- a formula in the usual form -/
def shF : Fm → ByteArray
  | .leaf k a => if k = 0 then letS a else decB a
  | .pair k f g => (((⟨#[40]⟩ ++ shF f) ++ sgnS k) ++ shF g) ++ ⟨#[41]⟩
theorem letS_size (a : Int) : (letS a).size = 1 := by unfold letS; split; rfl; split <;> rfl
theorem decB_size (a : Int) : (decB a).size ≤ 2 := by
  unfold decB
  split
  · show 1 ≤ 2
    decide
  · show 2 ≤ 2
    decide
theorem sgnS_size (k : Int) : (sgnS k).size = 3 := by unfold sgnS; split <;> rfl
theorem shF_size : ∀ f : Fm, (shF f).size + 5 ≤ 7 * leavesF f
  | .leaf k a => by
    have h1 := letS_size a
    have h2 := decB_size a
    show (if k = 0 then letS a else decB a).size + 5 ≤ 7 * 1
    split <;> omega
  | .pair k f g => by
    have h1 := shF_size f
    have h2 := shF_size g
    have h3 := sgnS_size k
    show ((((⟨#[40]⟩ ++ shF f) ++ sgnS k) ++ shF g) ++ ⟨#[41]⟩ : ByteArray).size + 5 ≤ 7 * (leavesF f + leavesF g)
    simp only [ByteArray.size_append]
    have e1 : (⟨#[40]⟩ : ByteArray).size = 1 := rfl
    have e2 : (⟨#[41]⟩ : ByteArray).size = 1 := rfl
    omega
theorem leafB_sh {p : Int} {c : UInt8} {k a : Int} (h : leafB p c = some (k, a)) :
    (k = 0 ∧ Lib.indexByte digB c = -1 ∧ (⟨#[c]⟩ : ByteArray) = letS a) ∨ (k = 1 ∧ Lib.indexByte digB c = a ∧ (a ≤ 9 → (⟨#[c]⟩ : ByteArray) = decB a) ∧ 0 ≤ a ∧ a ≤ 12) := by
  have hm : c = 120 ∨ c = 121 ∨ c = 122 ∨ c = 48 ∨ c = 49 ∨ c = 50 ∨ c = 51 ∨ c = 52 ∨ c = 53 ∨ c = 54 ∨ c = 55 ∨ c = 56 ∨ c = 57 ∨ c = 65 ∨ c = 66 ∨ c = 67 := by simpa [letB, digB, or_assoc] using leafB_mem h
  unfold leafB at h
  rcases hm with rfl | rfl | rfl | hm
  · left
    rw [if_pos (by decide)] at h
    injection h with h
    injection h with e1 e2
    subst e1 e2
    exact ⟨rfl, rfl, rfl⟩
  · left
    rw [if_pos (by decide)] at h
    injection h with h
    injection h with e1 e2
    subst e1 e2
    exact ⟨rfl, rfl, rfl⟩
  · left
    rw [if_pos (by decide)] at h
    injection h with h
    injection h with e1 e2
    subst e1 e2
    exact ⟨rfl, rfl, rfl⟩
  · right
    rcases hm with rfl | rfl | rfl | rfl | rfl | rfl | rfl | rfl | rfl | rfl | rfl | rfl | rfl
    all_goals
      rw [if_neg (by decide)] at h
      split at h
      · injection h with h
        injection h with e1 e2
        subst e1 e2
        exact ⟨rfl, rfl, fun _ => by first | rfl | (exfalso; revert ‹_ ≤ (9 : Int)›; decide), by decide, by decide⟩
      · cases h
set_option maxRecDepth 100000 in
set_option maxHeartbeats 8000000 in
theorem iSmall (a : Int) (h0 : 0 ≤ a) (h1 : a ≤ 12) (w : World) : Calls Try.prog 181 #[.int .i64 a] w fun e w' => e = .returned (.string (decB a)) ∧ w' = w := by
  have ha : a = 0 ∨ a = 1 ∨ a = 2 ∨ a = 3 ∨ a = 4 ∨ a = 5 ∨ a = 6 ∨ a = 7 ∨ a = 8 ∨ a = 9 ∨ a = 10 ∨ a = 11 ∨ a = 12 := by omega
  clear h0 h1
  rcases ha with rfl | rfl | rfl | rfl | rfl | rfl | rfl | rfl | rfl | rfl | rfl | rfl | rfl
  all_goals
    go_enter Try.func181, Try.ntmps181
    go_wp2_with fail
    go_ret
    exact ⟨by kernel_rfl, rfl⟩
set_option maxRecDepth 100000 in
set_option maxHeartbeats 8000000 in
theorem iFormatInt (a : Int) (h0 : 0 ≤ a) (h1 : a ≤ 12) (w : World) : Calls Try.prog 180 #[.int .i64 a, .int .i64 10] w fun e w' => e = .returned (.string (decB a)) ∧ w' = w := by
  have H := Lib.hid (iSmall a h0 h1)
  have h2 : a < 100 := by omega
  go_enter Try.func180, Try.ntmps180
  go_wp2_with fail
  refine (H.out _).mono ?_
  rintro e w1 ⟨rfl, rfl⟩
  go_wp2_with fail
  go_ret
  exact ⟨rfl, rfl⟩
theorem iItoaI (a : Int) (h0 : 0 ≤ a) (h1 : a ≤ 12) (w : World) : Calls Try.prog 179 #[.int .i64 a] w fun e w' => e = .returned (.string (decB a)) ∧ w' = w := by
  have H := Lib.hid (iFormatInt a h0 h1)
  go_enter Try.func179, Try.ntmps179
  go_wp2_with fail
  refine (H.out _).mono ?_
  rintro e w1 ⟨rfl, rfl⟩
  go_wp2_with fail
  go_ret
  exact ⟨rfl, rfl⟩
theorem iItoa (a : Int) (h0 : 0 ≤ a) (h1 : a ≤ 12) (w : World) : Calls Try.prog 178 #[.int .i64 a] w fun e w' => e = .returned (.string (decB a)) ∧ w' = w := by
  have H := Lib.hid (iItoaI a h0 h1)
  go_enter Try.func178, Try.ntmps178
  go_wp2_with fail
  refine (H.out _).mono ?_
  rintro e w1 ⟨rfl, rfl⟩
  go_wp2_with fail
  go_ret
  exact ⟨rfl, rfl⟩
set_option maxRecDepth 100000 in
set_option maxHeartbeats 8000000 in
theorem iGText0 (a : Int) (ha : a = 0 ∨ a = 1 ∨ a = 2) (w : World) : Calls Try.prog 192 #[.agg #[.int .i64 0, .int .i64 a, .int .i64 0]] w fun e w' => e = .returned (.string (letS a)) ∧ Below w.heap.size w w' := by
  rcases ha with rfl | rfl | rfl
  all_goals
    go_enter Try.func192, Try.ntmps192
    go_wp2_with fail
    go_ret
    exact ⟨by kernel_rfl, Below.alloc (Below.refl _ _) (Nat.le_refl _) _⟩
set_option maxRecDepth 100000 in
set_option maxHeartbeats 8000000 in
theorem iGText1 (a : Int) (h0 : 0 ≤ a) (h1 : a ≤ 12) (w : World) : Calls Try.prog 192 #[.agg #[.int .i64 1, .int .i64 a, .int .i64 0]] w fun e w' => e = .returned (.string (decB a)) ∧ Below w.heap.size w w' := by
  have H := Lib.hid (iItoa a h0 h1)
  go_enter Try.func192, Try.ntmps192
  go_wp2_with fail
  refine (H.out _).mono ?_
  rintro e w1 ⟨rfl, rfl⟩
  go_wp2_with fail
  go_ret
  exact ⟨rfl, Below.alloc (Below.refl _ _) (Nat.le_refl _) _⟩
@[go_sem] theorem method_leaf (w : World) (a b c : Value) : (method 312 156 (.agg #[a, b, c]) "loop.example/polycircuits/impl.text").run Try.prog w = .ok (192, .agg #[a, b, c]) w := by kernel_rfl
@[go_sem] theorem method_pair (w : World) (a b c : Value) : (method 312 159 (.agg #[a, b, c]) "loop.example/polycircuits/impl.text").run Try.prog w = .ok (193, .agg #[a, b, c]) w := by kernel_rfl
def textId : Fm → Nat
  | .leaf _ _ => 192
  | .pair _ _ _ => 193
def textV : Fm → Value
  | .leaf k a => .agg #[.int .i64 k, .int .i64 a, .int .i64 0]
  | .pair k f g => .agg #[.int .i64 k, fmV f, fmV g]
set_option maxRecDepth 100000 in
set_option maxHeartbeats 8000000 in
theorem iPairLL (k : Int) (a1 b1 c1 a2 b2 c2 : Value) (A B : ByteArray) (hA : A.size ≤ 500) (hB : B.size ≤ 500) (w : World) (o1 : (Value.iface 156 (.agg #[a1, b1, c1])).oneCell' = true) (o2 : (Value.iface 156 (.agg #[a2, b2, c2])).oneCell' = true)
    (HA : ∀ w, Calls Try.prog 192 #[.agg #[a1, b1, c1]] w fun e w' => e = .returned (.string A) ∧ Below w.heap.size w w')
    (HB : ∀ w, Calls Try.prog 192 #[.agg #[a2, b2, c2]] w fun e w' => e = .returned (.string B) ∧ Below w.heap.size w w') (hk : k = 2 ∨ k = 3) :
    Calls Try.prog 193 #[.agg #[.int .i64 k, .iface 156 (.agg #[a1, b1, c1]), .iface 156 (.agg #[a2, b2, c2])]] w
      fun e w' => e = .returned (.string ((((⟨#[40]⟩ ++ A) ++ sgnS k) ++ B) ++ ⟨#[41]⟩)) ∧ Below w.heap.size w w' := by
  have HA := Lib.hid HA
  have HB := Lib.hid HB
  have n1 : ¬ 9223372036854775807 < 1 + A.size := by omega
  have n2 : ¬ 9223372036854775807 < 1 + A.size + 3 := by omega
  have n3 : ¬ 9223372036854775807 < 1 + A.size + 3 + B.size := by omega
  have n4 : ¬ 9223372036854775807 < 1 + A.size + 3 + B.size + 1 := by omega
  clear o1 o2
  rcases hk with rfl | rfl
  · rw [show sgnS 2 = ⟨#[32, 43, 32]⟩ from rfl]
    go_enter Try.func193, Try.ntmps193
    go_wp2_with fail
    obtain ⟨W, hW⟩ : ∃ W, W = w.alloc (Obj.cells #[.int .i64 2, .iface 156 (.agg #[a1, b1, c1]), .iface 156 (.agg #[a2, b2, c2])] 159) := ⟨_, rfl⟩
    have HC := Lib.hid (fun w' (hb : Below W.heap.size W w') => show w'.cell? ⟨w.heap.size, 1, none⟩ = some (.iface 156 (.agg #[a1, b1, c1])) ∧ w'.cell? ⟨w.heap.size, 2, none⟩ = some (.iface 156 (.agg #[a2, b2, c2])) by
      have hs : w.heap.size < W.heap.size := by rw [hW]; simp
      exact ⟨by rw [hb.cell (p := ⟨w.heap.size, 1, none⟩) hs, hW]; simp [go_sem], by rw [hb.cell (p := ⟨w.heap.size, 2, none⟩) hs, hW]; simp [go_sem]⟩)
    have HBW := Lib.hid (show Below w.heap.size w W by rw [hW]; exact Below.alloc (Below.refl _ _) (Nat.le_refl _) _)
    rw [← hW]
    clear hW
    refine wp_region_below (by kernel_rfl) (by kernel_rfl) ?_
    (with_reducible refine wpQuiet_yes ?_ ?_; (focus (kernel_rfl)); intro K hK; go_simp; refine ⟨_, fun _ _ => rfl, ?_⟩; with_reducible refine hK _ ?_; clear hK K)
    (with_reducible refine wpQuiet_yes ?_ ?_; (focus (kernel_rfl)); intro K hK; go_simp; refine ⟨(.iface 156 (.agg #[a1, b1, c1])), ?_, ?_⟩; rotate_left; with_reducible refine hK _ ?_; clear hK K; rotate_left)
    · intro w' hw
      obtain ⟨c1, c2⟩ := HC.out w' hw
      simp only [c1, go_sem, Result.andThen, and_self]
    (with_reducible refine wpQuiet_yes ?_ ?_; (focus (kernel_rfl)); intro K hK; go_simp; refine ⟨(.string A), ?_, ?_⟩; rotate_left; with_reducible refine hK _ ?_; clear hK K; rotate_left)
    · intro w' hw
      exact (HA.out w').mono fun e w'' ⟨he, h⟩ => ⟨he, hw.trans (h.mono hw.size)⟩
    (with_reducible refine wpQuiet_yes ?_ ?_; (focus (kernel_rfl)); intro K hK; go_simp; refine ⟨_, fun _ _ => rfl, ?_⟩; with_reducible refine hK _ ?_; clear hK K)
    (with_reducible refine wpQuiet_yes ?_ ?_; (focus (kernel_rfl)); intro K hK; go_simp; refine ⟨_, fun _ _ => rfl, ?_⟩; with_reducible refine hK _ ?_; clear hK K)
    (with_reducible refine wpQuiet_yes ?_ ?_; (focus (kernel_rfl)); intro K hK; go_simp; refine ⟨_, fun _ _ => rfl, ?_⟩; with_reducible refine hK _ ?_; clear hK K)
    (with_reducible refine wpQuiet_yes ?_ ?_; (focus (kernel_rfl)); intro K hK; go_simp; refine ⟨_, fun _ _ => rfl, ?_⟩; with_reducible refine hK _ ?_; clear hK K)
    (with_reducible refine wpQuiet_yes ?_ ?_; (focus (kernel_rfl)); intro K hK; go_simp; refine ⟨(.iface 156 (.agg #[a2, b2, c2])), ?_, ?_⟩; rotate_left; with_reducible refine hK _ ?_; clear hK K; rotate_left)
    · intro w' hw
      obtain ⟨c1, c2⟩ := HC.out w' hw
      simp only [c2, go_sem, Result.andThen, and_self]
    (with_reducible refine wpQuiet_yes ?_ ?_; (focus (kernel_rfl)); intro K hK; go_simp; refine ⟨(.string B), ?_, ?_⟩; rotate_left; with_reducible refine hK _ ?_; clear hK K; rotate_left)
    · intro w' hw
      exact (HB.out w').mono fun e w'' ⟨he, h⟩ => ⟨he, hw.trans (h.mono hw.size)⟩
    (with_reducible refine wpQuiet_yes ?_ ?_; (focus (kernel_rfl)); intro K hK; go_simp; refine ⟨_, fun _ _ => rfl, ?_⟩; with_reducible refine hK _ ?_; clear hK K)
    (with_reducible refine wpQuiet_yes ?_ ?_; (focus (kernel_rfl)); intro K hK; go_simp; refine ⟨_, fun _ _ => rfl, ?_⟩; with_reducible refine hK _ ?_; clear hK K)
    (with_reducible refine wpQuiet_yes ?_ ?_; (focus (kernel_rfl)); intro K hK; go_simp; refine ⟨_, fun _ _ => rfl, ?_⟩; with_reducible refine hK _ ?_; clear hK K)
    refine wpQuiet_nil fun w2 hb2 => ?_
    have HB2 := Lib.hid (HBW.out.trans (hb2.mono HBW.out.size))
    clear hb2
    simp only [Exit.then]
    go_wp2_with fail
    go_ret
    exact ⟨rfl, HB2.out⟩
  · rw [show sgnS 3 = ⟨#[32, 42, 32]⟩ from rfl]
    go_enter Try.func193, Try.ntmps193
    go_wp2_with fail
    obtain ⟨W, hW⟩ : ∃ W, W = w.alloc (Obj.cells #[.int .i64 3, .iface 156 (.agg #[a1, b1, c1]), .iface 156 (.agg #[a2, b2, c2])] 159) := ⟨_, rfl⟩
    have HC := Lib.hid (fun w' (hb : Below W.heap.size W w') => show w'.cell? ⟨w.heap.size, 1, none⟩ = some (.iface 156 (.agg #[a1, b1, c1])) ∧ w'.cell? ⟨w.heap.size, 2, none⟩ = some (.iface 156 (.agg #[a2, b2, c2])) by
      have hs : w.heap.size < W.heap.size := by rw [hW]; simp
      exact ⟨by rw [hb.cell (p := ⟨w.heap.size, 1, none⟩) hs, hW]; simp [go_sem], by rw [hb.cell (p := ⟨w.heap.size, 2, none⟩) hs, hW]; simp [go_sem]⟩)
    have HBW := Lib.hid (show Below w.heap.size w W by rw [hW]; exact Below.alloc (Below.refl _ _) (Nat.le_refl _) _)
    rw [← hW]
    clear hW
    refine wp_region_below (by kernel_rfl) (by kernel_rfl) ?_
    (with_reducible refine wpQuiet_yes ?_ ?_; (focus (kernel_rfl)); intro K hK; go_simp; refine ⟨_, fun _ _ => rfl, ?_⟩; with_reducible refine hK _ ?_; clear hK K)
    (with_reducible refine wpQuiet_yes ?_ ?_; (focus (kernel_rfl)); intro K hK; go_simp; refine ⟨(.iface 156 (.agg #[a1, b1, c1])), ?_, ?_⟩; rotate_left; with_reducible refine hK _ ?_; clear hK K; rotate_left)
    · intro w' hw
      obtain ⟨c1, c2⟩ := HC.out w' hw
      simp only [c1, go_sem, Result.andThen, and_self]
    (with_reducible refine wpQuiet_yes ?_ ?_; (focus (kernel_rfl)); intro K hK; go_simp; refine ⟨(.string A), ?_, ?_⟩; rotate_left; with_reducible refine hK _ ?_; clear hK K; rotate_left)
    · intro w' hw
      exact (HA.out w').mono fun e w'' ⟨he, h⟩ => ⟨he, hw.trans (h.mono hw.size)⟩
    (with_reducible refine wpQuiet_yes ?_ ?_; (focus (kernel_rfl)); intro K hK; go_simp; refine ⟨_, fun _ _ => rfl, ?_⟩; with_reducible refine hK _ ?_; clear hK K)
    (with_reducible refine wpQuiet_yes ?_ ?_; (focus (kernel_rfl)); intro K hK; go_simp; refine ⟨_, fun _ _ => rfl, ?_⟩; with_reducible refine hK _ ?_; clear hK K)
    (with_reducible refine wpQuiet_yes ?_ ?_; (focus (kernel_rfl)); intro K hK; go_simp; refine ⟨_, fun _ _ => rfl, ?_⟩; with_reducible refine hK _ ?_; clear hK K)
    (with_reducible refine wpQuiet_yes ?_ ?_; (focus (kernel_rfl)); intro K hK; go_simp; refine ⟨_, fun _ _ => rfl, ?_⟩; with_reducible refine hK _ ?_; clear hK K)
    (with_reducible refine wpQuiet_yes ?_ ?_; (focus (kernel_rfl)); intro K hK; go_simp; refine ⟨(.iface 156 (.agg #[a2, b2, c2])), ?_, ?_⟩; rotate_left; with_reducible refine hK _ ?_; clear hK K; rotate_left)
    · intro w' hw
      obtain ⟨c1, c2⟩ := HC.out w' hw
      simp only [c2, go_sem, Result.andThen, and_self]
    (with_reducible refine wpQuiet_yes ?_ ?_; (focus (kernel_rfl)); intro K hK; go_simp; refine ⟨(.string B), ?_, ?_⟩; rotate_left; with_reducible refine hK _ ?_; clear hK K; rotate_left)
    · intro w' hw
      exact (HB.out w').mono fun e w'' ⟨he, h⟩ => ⟨he, hw.trans (h.mono hw.size)⟩
    (with_reducible refine wpQuiet_yes ?_ ?_; (focus (kernel_rfl)); intro K hK; go_simp; refine ⟨_, fun _ _ => rfl, ?_⟩; with_reducible refine hK _ ?_; clear hK K)
    (with_reducible refine wpQuiet_yes ?_ ?_; (focus (kernel_rfl)); intro K hK; go_simp; refine ⟨_, fun _ _ => rfl, ?_⟩; with_reducible refine hK _ ?_; clear hK K)
    (with_reducible refine wpQuiet_yes ?_ ?_; (focus (kernel_rfl)); intro K hK; go_simp; refine ⟨_, fun _ _ => rfl, ?_⟩; with_reducible refine hK _ ?_; clear hK K)
    refine wpQuiet_nil fun w2 hb2 => ?_
    have HB2 := Lib.hid (HBW.out.trans (hb2.mono HBW.out.size))
    clear hb2
    simp only [Exit.then]
    go_wp2_with fail
    go_ret
    exact ⟨rfl, HB2.out⟩
set_option maxRecDepth 100000 in
set_option maxHeartbeats 8000000 in
theorem iPairLP (k : Int) (a1 b1 c1 a2 b2 c2 : Value) (A B : ByteArray) (hA : A.size ≤ 500) (hB : B.size ≤ 500) (w : World) (o1 : (Value.iface 156 (.agg #[a1, b1, c1])).oneCell' = true) (o2 : (Value.iface 159 (.agg #[a2, b2, c2])).oneCell' = true)
    (HA : ∀ w, Calls Try.prog 192 #[.agg #[a1, b1, c1]] w fun e w' => e = .returned (.string A) ∧ Below w.heap.size w w')
    (HB : ∀ w, Calls Try.prog 193 #[.agg #[a2, b2, c2]] w fun e w' => e = .returned (.string B) ∧ Below w.heap.size w w') (hk : k = 2 ∨ k = 3) :
    Calls Try.prog 193 #[.agg #[.int .i64 k, .iface 156 (.agg #[a1, b1, c1]), .iface 159 (.agg #[a2, b2, c2])]] w
      fun e w' => e = .returned (.string ((((⟨#[40]⟩ ++ A) ++ sgnS k) ++ B) ++ ⟨#[41]⟩)) ∧ Below w.heap.size w w' := by
  have HA := Lib.hid HA
  have HB := Lib.hid HB
  have n1 : ¬ 9223372036854775807 < 1 + A.size := by omega
  have n2 : ¬ 9223372036854775807 < 1 + A.size + 3 := by omega
  have n3 : ¬ 9223372036854775807 < 1 + A.size + 3 + B.size := by omega
  have n4 : ¬ 9223372036854775807 < 1 + A.size + 3 + B.size + 1 := by omega
  clear o1 o2
  rcases hk with rfl | rfl
  · rw [show sgnS 2 = ⟨#[32, 43, 32]⟩ from rfl]
    go_enter Try.func193, Try.ntmps193
    go_wp2_with fail
    obtain ⟨W, hW⟩ : ∃ W, W = w.alloc (Obj.cells #[.int .i64 2, .iface 156 (.agg #[a1, b1, c1]), .iface 159 (.agg #[a2, b2, c2])] 159) := ⟨_, rfl⟩
    have HC := Lib.hid (fun w' (hb : Below W.heap.size W w') => show w'.cell? ⟨w.heap.size, 1, none⟩ = some (.iface 156 (.agg #[a1, b1, c1])) ∧ w'.cell? ⟨w.heap.size, 2, none⟩ = some (.iface 159 (.agg #[a2, b2, c2])) by
      have hs : w.heap.size < W.heap.size := by rw [hW]; simp
      exact ⟨by rw [hb.cell (p := ⟨w.heap.size, 1, none⟩) hs, hW]; simp [go_sem], by rw [hb.cell (p := ⟨w.heap.size, 2, none⟩) hs, hW]; simp [go_sem]⟩)
    have HBW := Lib.hid (show Below w.heap.size w W by rw [hW]; exact Below.alloc (Below.refl _ _) (Nat.le_refl _) _)
    rw [← hW]
    clear hW
    refine wp_region_below (by kernel_rfl) (by kernel_rfl) ?_
    (with_reducible refine wpQuiet_yes ?_ ?_; (focus (kernel_rfl)); intro K hK; go_simp; refine ⟨_, fun _ _ => rfl, ?_⟩; with_reducible refine hK _ ?_; clear hK K)
    (with_reducible refine wpQuiet_yes ?_ ?_; (focus (kernel_rfl)); intro K hK; go_simp; refine ⟨(.iface 156 (.agg #[a1, b1, c1])), ?_, ?_⟩; rotate_left; with_reducible refine hK _ ?_; clear hK K; rotate_left)
    · intro w' hw
      obtain ⟨c1, c2⟩ := HC.out w' hw
      simp only [c1, go_sem, Result.andThen, and_self]
    (with_reducible refine wpQuiet_yes ?_ ?_; (focus (kernel_rfl)); intro K hK; go_simp; refine ⟨(.string A), ?_, ?_⟩; rotate_left; with_reducible refine hK _ ?_; clear hK K; rotate_left)
    · intro w' hw
      exact (HA.out w').mono fun e w'' ⟨he, h⟩ => ⟨he, hw.trans (h.mono hw.size)⟩
    (with_reducible refine wpQuiet_yes ?_ ?_; (focus (kernel_rfl)); intro K hK; go_simp; refine ⟨_, fun _ _ => rfl, ?_⟩; with_reducible refine hK _ ?_; clear hK K)
    (with_reducible refine wpQuiet_yes ?_ ?_; (focus (kernel_rfl)); intro K hK; go_simp; refine ⟨_, fun _ _ => rfl, ?_⟩; with_reducible refine hK _ ?_; clear hK K)
    (with_reducible refine wpQuiet_yes ?_ ?_; (focus (kernel_rfl)); intro K hK; go_simp; refine ⟨_, fun _ _ => rfl, ?_⟩; with_reducible refine hK _ ?_; clear hK K)
    (with_reducible refine wpQuiet_yes ?_ ?_; (focus (kernel_rfl)); intro K hK; go_simp; refine ⟨_, fun _ _ => rfl, ?_⟩; with_reducible refine hK _ ?_; clear hK K)
    (with_reducible refine wpQuiet_yes ?_ ?_; (focus (kernel_rfl)); intro K hK; go_simp; refine ⟨(.iface 159 (.agg #[a2, b2, c2])), ?_, ?_⟩; rotate_left; with_reducible refine hK _ ?_; clear hK K; rotate_left)
    · intro w' hw
      obtain ⟨c1, c2⟩ := HC.out w' hw
      simp only [c2, go_sem, Result.andThen, and_self]
    (with_reducible refine wpQuiet_yes ?_ ?_; (focus (kernel_rfl)); intro K hK; go_simp; refine ⟨(.string B), ?_, ?_⟩; rotate_left; with_reducible refine hK _ ?_; clear hK K; rotate_left)
    · intro w' hw
      exact (HB.out w').mono fun e w'' ⟨he, h⟩ => ⟨he, hw.trans (h.mono hw.size)⟩
    (with_reducible refine wpQuiet_yes ?_ ?_; (focus (kernel_rfl)); intro K hK; go_simp; refine ⟨_, fun _ _ => rfl, ?_⟩; with_reducible refine hK _ ?_; clear hK K)
    (with_reducible refine wpQuiet_yes ?_ ?_; (focus (kernel_rfl)); intro K hK; go_simp; refine ⟨_, fun _ _ => rfl, ?_⟩; with_reducible refine hK _ ?_; clear hK K)
    (with_reducible refine wpQuiet_yes ?_ ?_; (focus (kernel_rfl)); intro K hK; go_simp; refine ⟨_, fun _ _ => rfl, ?_⟩; with_reducible refine hK _ ?_; clear hK K)
    refine wpQuiet_nil fun w2 hb2 => ?_
    have HB2 := Lib.hid (HBW.out.trans (hb2.mono HBW.out.size))
    clear hb2
    simp only [Exit.then]
    go_wp2_with fail
    go_ret
    exact ⟨rfl, HB2.out⟩
  · rw [show sgnS 3 = ⟨#[32, 42, 32]⟩ from rfl]
    go_enter Try.func193, Try.ntmps193
    go_wp2_with fail
    obtain ⟨W, hW⟩ : ∃ W, W = w.alloc (Obj.cells #[.int .i64 3, .iface 156 (.agg #[a1, b1, c1]), .iface 159 (.agg #[a2, b2, c2])] 159) := ⟨_, rfl⟩
    have HC := Lib.hid (fun w' (hb : Below W.heap.size W w') => show w'.cell? ⟨w.heap.size, 1, none⟩ = some (.iface 156 (.agg #[a1, b1, c1])) ∧ w'.cell? ⟨w.heap.size, 2, none⟩ = some (.iface 159 (.agg #[a2, b2, c2])) by
      have hs : w.heap.size < W.heap.size := by rw [hW]; simp
      exact ⟨by rw [hb.cell (p := ⟨w.heap.size, 1, none⟩) hs, hW]; simp [go_sem], by rw [hb.cell (p := ⟨w.heap.size, 2, none⟩) hs, hW]; simp [go_sem]⟩)
    have HBW := Lib.hid (show Below w.heap.size w W by rw [hW]; exact Below.alloc (Below.refl _ _) (Nat.le_refl _) _)
    rw [← hW]
    clear hW
    refine wp_region_below (by kernel_rfl) (by kernel_rfl) ?_
    (with_reducible refine wpQuiet_yes ?_ ?_; (focus (kernel_rfl)); intro K hK; go_simp; refine ⟨_, fun _ _ => rfl, ?_⟩; with_reducible refine hK _ ?_; clear hK K)
    (with_reducible refine wpQuiet_yes ?_ ?_; (focus (kernel_rfl)); intro K hK; go_simp; refine ⟨(.iface 156 (.agg #[a1, b1, c1])), ?_, ?_⟩; rotate_left; with_reducible refine hK _ ?_; clear hK K; rotate_left)
    · intro w' hw
      obtain ⟨c1, c2⟩ := HC.out w' hw
      simp only [c1, go_sem, Result.andThen, and_self]
    (with_reducible refine wpQuiet_yes ?_ ?_; (focus (kernel_rfl)); intro K hK; go_simp; refine ⟨(.string A), ?_, ?_⟩; rotate_left; with_reducible refine hK _ ?_; clear hK K; rotate_left)
    · intro w' hw
      exact (HA.out w').mono fun e w'' ⟨he, h⟩ => ⟨he, hw.trans (h.mono hw.size)⟩
    (with_reducible refine wpQuiet_yes ?_ ?_; (focus (kernel_rfl)); intro K hK; go_simp; refine ⟨_, fun _ _ => rfl, ?_⟩; with_reducible refine hK _ ?_; clear hK K)
    (with_reducible refine wpQuiet_yes ?_ ?_; (focus (kernel_rfl)); intro K hK; go_simp; refine ⟨_, fun _ _ => rfl, ?_⟩; with_reducible refine hK _ ?_; clear hK K)
    (with_reducible refine wpQuiet_yes ?_ ?_; (focus (kernel_rfl)); intro K hK; go_simp; refine ⟨_, fun _ _ => rfl, ?_⟩; with_reducible refine hK _ ?_; clear hK K)
    (with_reducible refine wpQuiet_yes ?_ ?_; (focus (kernel_rfl)); intro K hK; go_simp; refine ⟨_, fun _ _ => rfl, ?_⟩; with_reducible refine hK _ ?_; clear hK K)
    (with_reducible refine wpQuiet_yes ?_ ?_; (focus (kernel_rfl)); intro K hK; go_simp; refine ⟨(.iface 159 (.agg #[a2, b2, c2])), ?_, ?_⟩; rotate_left; with_reducible refine hK _ ?_; clear hK K; rotate_left)
    · intro w' hw
      obtain ⟨c1, c2⟩ := HC.out w' hw
      simp only [c2, go_sem, Result.andThen, and_self]
    (with_reducible refine wpQuiet_yes ?_ ?_; (focus (kernel_rfl)); intro K hK; go_simp; refine ⟨(.string B), ?_, ?_⟩; rotate_left; with_reducible refine hK _ ?_; clear hK K; rotate_left)
    · intro w' hw
      exact (HB.out w').mono fun e w'' ⟨he, h⟩ => ⟨he, hw.trans (h.mono hw.size)⟩
    (with_reducible refine wpQuiet_yes ?_ ?_; (focus (kernel_rfl)); intro K hK; go_simp; refine ⟨_, fun _ _ => rfl, ?_⟩; with_reducible refine hK _ ?_; clear hK K)
    (with_reducible refine wpQuiet_yes ?_ ?_; (focus (kernel_rfl)); intro K hK; go_simp; refine ⟨_, fun _ _ => rfl, ?_⟩; with_reducible refine hK _ ?_; clear hK K)
    (with_reducible refine wpQuiet_yes ?_ ?_; (focus (kernel_rfl)); intro K hK; go_simp; refine ⟨_, fun _ _ => rfl, ?_⟩; with_reducible refine hK _ ?_; clear hK K)
    refine wpQuiet_nil fun w2 hb2 => ?_
    have HB2 := Lib.hid (HBW.out.trans (hb2.mono HBW.out.size))
    clear hb2
    simp only [Exit.then]
    go_wp2_with fail
    go_ret
    exact ⟨rfl, HB2.out⟩
set_option maxRecDepth 100000 in
set_option maxHeartbeats 8000000 in
theorem iPairPL (k : Int) (a1 b1 c1 a2 b2 c2 : Value) (A B : ByteArray) (hA : A.size ≤ 500) (hB : B.size ≤ 500) (w : World) (o1 : (Value.iface 159 (.agg #[a1, b1, c1])).oneCell' = true) (o2 : (Value.iface 156 (.agg #[a2, b2, c2])).oneCell' = true)
    (HA : ∀ w, Calls Try.prog 193 #[.agg #[a1, b1, c1]] w fun e w' => e = .returned (.string A) ∧ Below w.heap.size w w')
    (HB : ∀ w, Calls Try.prog 192 #[.agg #[a2, b2, c2]] w fun e w' => e = .returned (.string B) ∧ Below w.heap.size w w') (hk : k = 2 ∨ k = 3) :
    Calls Try.prog 193 #[.agg #[.int .i64 k, .iface 159 (.agg #[a1, b1, c1]), .iface 156 (.agg #[a2, b2, c2])]] w
      fun e w' => e = .returned (.string ((((⟨#[40]⟩ ++ A) ++ sgnS k) ++ B) ++ ⟨#[41]⟩)) ∧ Below w.heap.size w w' := by
  have HA := Lib.hid HA
  have HB := Lib.hid HB
  have n1 : ¬ 9223372036854775807 < 1 + A.size := by omega
  have n2 : ¬ 9223372036854775807 < 1 + A.size + 3 := by omega
  have n3 : ¬ 9223372036854775807 < 1 + A.size + 3 + B.size := by omega
  have n4 : ¬ 9223372036854775807 < 1 + A.size + 3 + B.size + 1 := by omega
  clear o1 o2
  rcases hk with rfl | rfl
  · rw [show sgnS 2 = ⟨#[32, 43, 32]⟩ from rfl]
    go_enter Try.func193, Try.ntmps193
    go_wp2_with fail
    obtain ⟨W, hW⟩ : ∃ W, W = w.alloc (Obj.cells #[.int .i64 2, .iface 159 (.agg #[a1, b1, c1]), .iface 156 (.agg #[a2, b2, c2])] 159) := ⟨_, rfl⟩
    have HC := Lib.hid (fun w' (hb : Below W.heap.size W w') => show w'.cell? ⟨w.heap.size, 1, none⟩ = some (.iface 159 (.agg #[a1, b1, c1])) ∧ w'.cell? ⟨w.heap.size, 2, none⟩ = some (.iface 156 (.agg #[a2, b2, c2])) by
      have hs : w.heap.size < W.heap.size := by rw [hW]; simp
      exact ⟨by rw [hb.cell (p := ⟨w.heap.size, 1, none⟩) hs, hW]; simp [go_sem], by rw [hb.cell (p := ⟨w.heap.size, 2, none⟩) hs, hW]; simp [go_sem]⟩)
    have HBW := Lib.hid (show Below w.heap.size w W by rw [hW]; exact Below.alloc (Below.refl _ _) (Nat.le_refl _) _)
    rw [← hW]
    clear hW
    refine wp_region_below (by kernel_rfl) (by kernel_rfl) ?_
    (with_reducible refine wpQuiet_yes ?_ ?_; (focus (kernel_rfl)); intro K hK; go_simp; refine ⟨_, fun _ _ => rfl, ?_⟩; with_reducible refine hK _ ?_; clear hK K)
    (with_reducible refine wpQuiet_yes ?_ ?_; (focus (kernel_rfl)); intro K hK; go_simp; refine ⟨(.iface 159 (.agg #[a1, b1, c1])), ?_, ?_⟩; rotate_left; with_reducible refine hK _ ?_; clear hK K; rotate_left)
    · intro w' hw
      obtain ⟨c1, c2⟩ := HC.out w' hw
      simp only [c1, go_sem, Result.andThen, and_self]
    (with_reducible refine wpQuiet_yes ?_ ?_; (focus (kernel_rfl)); intro K hK; go_simp; refine ⟨(.string A), ?_, ?_⟩; rotate_left; with_reducible refine hK _ ?_; clear hK K; rotate_left)
    · intro w' hw
      exact (HA.out w').mono fun e w'' ⟨he, h⟩ => ⟨he, hw.trans (h.mono hw.size)⟩
    (with_reducible refine wpQuiet_yes ?_ ?_; (focus (kernel_rfl)); intro K hK; go_simp; refine ⟨_, fun _ _ => rfl, ?_⟩; with_reducible refine hK _ ?_; clear hK K)
    (with_reducible refine wpQuiet_yes ?_ ?_; (focus (kernel_rfl)); intro K hK; go_simp; refine ⟨_, fun _ _ => rfl, ?_⟩; with_reducible refine hK _ ?_; clear hK K)
    (with_reducible refine wpQuiet_yes ?_ ?_; (focus (kernel_rfl)); intro K hK; go_simp; refine ⟨_, fun _ _ => rfl, ?_⟩; with_reducible refine hK _ ?_; clear hK K)
    (with_reducible refine wpQuiet_yes ?_ ?_; (focus (kernel_rfl)); intro K hK; go_simp; refine ⟨_, fun _ _ => rfl, ?_⟩; with_reducible refine hK _ ?_; clear hK K)
    (with_reducible refine wpQuiet_yes ?_ ?_; (focus (kernel_rfl)); intro K hK; go_simp; refine ⟨(.iface 156 (.agg #[a2, b2, c2])), ?_, ?_⟩; rotate_left; with_reducible refine hK _ ?_; clear hK K; rotate_left)
    · intro w' hw
      obtain ⟨c1, c2⟩ := HC.out w' hw
      simp only [c2, go_sem, Result.andThen, and_self]
    (with_reducible refine wpQuiet_yes ?_ ?_; (focus (kernel_rfl)); intro K hK; go_simp; refine ⟨(.string B), ?_, ?_⟩; rotate_left; with_reducible refine hK _ ?_; clear hK K; rotate_left)
    · intro w' hw
      exact (HB.out w').mono fun e w'' ⟨he, h⟩ => ⟨he, hw.trans (h.mono hw.size)⟩
    (with_reducible refine wpQuiet_yes ?_ ?_; (focus (kernel_rfl)); intro K hK; go_simp; refine ⟨_, fun _ _ => rfl, ?_⟩; with_reducible refine hK _ ?_; clear hK K)
    (with_reducible refine wpQuiet_yes ?_ ?_; (focus (kernel_rfl)); intro K hK; go_simp; refine ⟨_, fun _ _ => rfl, ?_⟩; with_reducible refine hK _ ?_; clear hK K)
    (with_reducible refine wpQuiet_yes ?_ ?_; (focus (kernel_rfl)); intro K hK; go_simp; refine ⟨_, fun _ _ => rfl, ?_⟩; with_reducible refine hK _ ?_; clear hK K)
    refine wpQuiet_nil fun w2 hb2 => ?_
    have HB2 := Lib.hid (HBW.out.trans (hb2.mono HBW.out.size))
    clear hb2
    simp only [Exit.then]
    go_wp2_with fail
    go_ret
    exact ⟨rfl, HB2.out⟩
  · rw [show sgnS 3 = ⟨#[32, 42, 32]⟩ from rfl]
    go_enter Try.func193, Try.ntmps193
    go_wp2_with fail
    obtain ⟨W, hW⟩ : ∃ W, W = w.alloc (Obj.cells #[.int .i64 3, .iface 159 (.agg #[a1, b1, c1]), .iface 156 (.agg #[a2, b2, c2])] 159) := ⟨_, rfl⟩
    have HC := Lib.hid (fun w' (hb : Below W.heap.size W w') => show w'.cell? ⟨w.heap.size, 1, none⟩ = some (.iface 159 (.agg #[a1, b1, c1])) ∧ w'.cell? ⟨w.heap.size, 2, none⟩ = some (.iface 156 (.agg #[a2, b2, c2])) by
      have hs : w.heap.size < W.heap.size := by rw [hW]; simp
      exact ⟨by rw [hb.cell (p := ⟨w.heap.size, 1, none⟩) hs, hW]; simp [go_sem], by rw [hb.cell (p := ⟨w.heap.size, 2, none⟩) hs, hW]; simp [go_sem]⟩)
    have HBW := Lib.hid (show Below w.heap.size w W by rw [hW]; exact Below.alloc (Below.refl _ _) (Nat.le_refl _) _)
    rw [← hW]
    clear hW
    refine wp_region_below (by kernel_rfl) (by kernel_rfl) ?_
    (with_reducible refine wpQuiet_yes ?_ ?_; (focus (kernel_rfl)); intro K hK; go_simp; refine ⟨_, fun _ _ => rfl, ?_⟩; with_reducible refine hK _ ?_; clear hK K)
    (with_reducible refine wpQuiet_yes ?_ ?_; (focus (kernel_rfl)); intro K hK; go_simp; refine ⟨(.iface 159 (.agg #[a1, b1, c1])), ?_, ?_⟩; rotate_left; with_reducible refine hK _ ?_; clear hK K; rotate_left)
    · intro w' hw
      obtain ⟨c1, c2⟩ := HC.out w' hw
      simp only [c1, go_sem, Result.andThen, and_self]
    (with_reducible refine wpQuiet_yes ?_ ?_; (focus (kernel_rfl)); intro K hK; go_simp; refine ⟨(.string A), ?_, ?_⟩; rotate_left; with_reducible refine hK _ ?_; clear hK K; rotate_left)
    · intro w' hw
      exact (HA.out w').mono fun e w'' ⟨he, h⟩ => ⟨he, hw.trans (h.mono hw.size)⟩
    (with_reducible refine wpQuiet_yes ?_ ?_; (focus (kernel_rfl)); intro K hK; go_simp; refine ⟨_, fun _ _ => rfl, ?_⟩; with_reducible refine hK _ ?_; clear hK K)
    (with_reducible refine wpQuiet_yes ?_ ?_; (focus (kernel_rfl)); intro K hK; go_simp; refine ⟨_, fun _ _ => rfl, ?_⟩; with_reducible refine hK _ ?_; clear hK K)
    (with_reducible refine wpQuiet_yes ?_ ?_; (focus (kernel_rfl)); intro K hK; go_simp; refine ⟨_, fun _ _ => rfl, ?_⟩; with_reducible refine hK _ ?_; clear hK K)
    (with_reducible refine wpQuiet_yes ?_ ?_; (focus (kernel_rfl)); intro K hK; go_simp; refine ⟨_, fun _ _ => rfl, ?_⟩; with_reducible refine hK _ ?_; clear hK K)
    (with_reducible refine wpQuiet_yes ?_ ?_; (focus (kernel_rfl)); intro K hK; go_simp; refine ⟨(.iface 156 (.agg #[a2, b2, c2])), ?_, ?_⟩; rotate_left; with_reducible refine hK _ ?_; clear hK K; rotate_left)
    · intro w' hw
      obtain ⟨c1, c2⟩ := HC.out w' hw
      simp only [c2, go_sem, Result.andThen, and_self]
    (with_reducible refine wpQuiet_yes ?_ ?_; (focus (kernel_rfl)); intro K hK; go_simp; refine ⟨(.string B), ?_, ?_⟩; rotate_left; with_reducible refine hK _ ?_; clear hK K; rotate_left)
    · intro w' hw
      exact (HB.out w').mono fun e w'' ⟨he, h⟩ => ⟨he, hw.trans (h.mono hw.size)⟩
    (with_reducible refine wpQuiet_yes ?_ ?_; (focus (kernel_rfl)); intro K hK; go_simp; refine ⟨_, fun _ _ => rfl, ?_⟩; with_reducible refine hK _ ?_; clear hK K)
    (with_reducible refine wpQuiet_yes ?_ ?_; (focus (kernel_rfl)); intro K hK; go_simp; refine ⟨_, fun _ _ => rfl, ?_⟩; with_reducible refine hK _ ?_; clear hK K)
    (with_reducible refine wpQuiet_yes ?_ ?_; (focus (kernel_rfl)); intro K hK; go_simp; refine ⟨_, fun _ _ => rfl, ?_⟩; with_reducible refine hK _ ?_; clear hK K)
    refine wpQuiet_nil fun w2 hb2 => ?_
    have HB2 := Lib.hid (HBW.out.trans (hb2.mono HBW.out.size))
    clear hb2
    simp only [Exit.then]
    go_wp2_with fail
    go_ret
    exact ⟨rfl, HB2.out⟩
set_option maxRecDepth 100000 in
set_option maxHeartbeats 8000000 in
theorem iPairPP (k : Int) (a1 b1 c1 a2 b2 c2 : Value) (A B : ByteArray) (hA : A.size ≤ 500) (hB : B.size ≤ 500) (w : World) (o1 : (Value.iface 159 (.agg #[a1, b1, c1])).oneCell' = true) (o2 : (Value.iface 159 (.agg #[a2, b2, c2])).oneCell' = true)
    (HA : ∀ w, Calls Try.prog 193 #[.agg #[a1, b1, c1]] w fun e w' => e = .returned (.string A) ∧ Below w.heap.size w w')
    (HB : ∀ w, Calls Try.prog 193 #[.agg #[a2, b2, c2]] w fun e w' => e = .returned (.string B) ∧ Below w.heap.size w w') (hk : k = 2 ∨ k = 3) :
    Calls Try.prog 193 #[.agg #[.int .i64 k, .iface 159 (.agg #[a1, b1, c1]), .iface 159 (.agg #[a2, b2, c2])]] w
      fun e w' => e = .returned (.string ((((⟨#[40]⟩ ++ A) ++ sgnS k) ++ B) ++ ⟨#[41]⟩)) ∧ Below w.heap.size w w' := by
  have HA := Lib.hid HA
  have HB := Lib.hid HB
  have n1 : ¬ 9223372036854775807 < 1 + A.size := by omega
  have n2 : ¬ 9223372036854775807 < 1 + A.size + 3 := by omega
  have n3 : ¬ 9223372036854775807 < 1 + A.size + 3 + B.size := by omega
  have n4 : ¬ 9223372036854775807 < 1 + A.size + 3 + B.size + 1 := by omega
  clear o1 o2
  rcases hk with rfl | rfl
  · rw [show sgnS 2 = ⟨#[32, 43, 32]⟩ from rfl]
    go_enter Try.func193, Try.ntmps193
    go_wp2_with fail
    obtain ⟨W, hW⟩ : ∃ W, W = w.alloc (Obj.cells #[.int .i64 2, .iface 159 (.agg #[a1, b1, c1]), .iface 159 (.agg #[a2, b2, c2])] 159) := ⟨_, rfl⟩
    have HC := Lib.hid (fun w' (hb : Below W.heap.size W w') => show w'.cell? ⟨w.heap.size, 1, none⟩ = some (.iface 159 (.agg #[a1, b1, c1])) ∧ w'.cell? ⟨w.heap.size, 2, none⟩ = some (.iface 159 (.agg #[a2, b2, c2])) by
      have hs : w.heap.size < W.heap.size := by rw [hW]; simp
      exact ⟨by rw [hb.cell (p := ⟨w.heap.size, 1, none⟩) hs, hW]; simp [go_sem], by rw [hb.cell (p := ⟨w.heap.size, 2, none⟩) hs, hW]; simp [go_sem]⟩)
    have HBW := Lib.hid (show Below w.heap.size w W by rw [hW]; exact Below.alloc (Below.refl _ _) (Nat.le_refl _) _)
    rw [← hW]
    clear hW
    refine wp_region_below (by kernel_rfl) (by kernel_rfl) ?_
    (with_reducible refine wpQuiet_yes ?_ ?_; (focus (kernel_rfl)); intro K hK; go_simp; refine ⟨_, fun _ _ => rfl, ?_⟩; with_reducible refine hK _ ?_; clear hK K)
    (with_reducible refine wpQuiet_yes ?_ ?_; (focus (kernel_rfl)); intro K hK; go_simp; refine ⟨(.iface 159 (.agg #[a1, b1, c1])), ?_, ?_⟩; rotate_left; with_reducible refine hK _ ?_; clear hK K; rotate_left)
    · intro w' hw
      obtain ⟨c1, c2⟩ := HC.out w' hw
      simp only [c1, go_sem, Result.andThen, and_self]
    (with_reducible refine wpQuiet_yes ?_ ?_; (focus (kernel_rfl)); intro K hK; go_simp; refine ⟨(.string A), ?_, ?_⟩; rotate_left; with_reducible refine hK _ ?_; clear hK K; rotate_left)
    · intro w' hw
      exact (HA.out w').mono fun e w'' ⟨he, h⟩ => ⟨he, hw.trans (h.mono hw.size)⟩
    (with_reducible refine wpQuiet_yes ?_ ?_; (focus (kernel_rfl)); intro K hK; go_simp; refine ⟨_, fun _ _ => rfl, ?_⟩; with_reducible refine hK _ ?_; clear hK K)
    (with_reducible refine wpQuiet_yes ?_ ?_; (focus (kernel_rfl)); intro K hK; go_simp; refine ⟨_, fun _ _ => rfl, ?_⟩; with_reducible refine hK _ ?_; clear hK K)
    (with_reducible refine wpQuiet_yes ?_ ?_; (focus (kernel_rfl)); intro K hK; go_simp; refine ⟨_, fun _ _ => rfl, ?_⟩; with_reducible refine hK _ ?_; clear hK K)
    (with_reducible refine wpQuiet_yes ?_ ?_; (focus (kernel_rfl)); intro K hK; go_simp; refine ⟨_, fun _ _ => rfl, ?_⟩; with_reducible refine hK _ ?_; clear hK K)
    (with_reducible refine wpQuiet_yes ?_ ?_; (focus (kernel_rfl)); intro K hK; go_simp; refine ⟨(.iface 159 (.agg #[a2, b2, c2])), ?_, ?_⟩; rotate_left; with_reducible refine hK _ ?_; clear hK K; rotate_left)
    · intro w' hw
      obtain ⟨c1, c2⟩ := HC.out w' hw
      simp only [c2, go_sem, Result.andThen, and_self]
    (with_reducible refine wpQuiet_yes ?_ ?_; (focus (kernel_rfl)); intro K hK; go_simp; refine ⟨(.string B), ?_, ?_⟩; rotate_left; with_reducible refine hK _ ?_; clear hK K; rotate_left)
    · intro w' hw
      exact (HB.out w').mono fun e w'' ⟨he, h⟩ => ⟨he, hw.trans (h.mono hw.size)⟩
    (with_reducible refine wpQuiet_yes ?_ ?_; (focus (kernel_rfl)); intro K hK; go_simp; refine ⟨_, fun _ _ => rfl, ?_⟩; with_reducible refine hK _ ?_; clear hK K)
    (with_reducible refine wpQuiet_yes ?_ ?_; (focus (kernel_rfl)); intro K hK; go_simp; refine ⟨_, fun _ _ => rfl, ?_⟩; with_reducible refine hK _ ?_; clear hK K)
    (with_reducible refine wpQuiet_yes ?_ ?_; (focus (kernel_rfl)); intro K hK; go_simp; refine ⟨_, fun _ _ => rfl, ?_⟩; with_reducible refine hK _ ?_; clear hK K)
    refine wpQuiet_nil fun w2 hb2 => ?_
    have HB2 := Lib.hid (HBW.out.trans (hb2.mono HBW.out.size))
    clear hb2
    simp only [Exit.then]
    go_wp2_with fail
    go_ret
    exact ⟨rfl, HB2.out⟩
  · rw [show sgnS 3 = ⟨#[32, 42, 32]⟩ from rfl]
    go_enter Try.func193, Try.ntmps193
    go_wp2_with fail
    obtain ⟨W, hW⟩ : ∃ W, W = w.alloc (Obj.cells #[.int .i64 3, .iface 159 (.agg #[a1, b1, c1]), .iface 159 (.agg #[a2, b2, c2])] 159) := ⟨_, rfl⟩
    have HC := Lib.hid (fun w' (hb : Below W.heap.size W w') => show w'.cell? ⟨w.heap.size, 1, none⟩ = some (.iface 159 (.agg #[a1, b1, c1])) ∧ w'.cell? ⟨w.heap.size, 2, none⟩ = some (.iface 159 (.agg #[a2, b2, c2])) by
      have hs : w.heap.size < W.heap.size := by rw [hW]; simp
      exact ⟨by rw [hb.cell (p := ⟨w.heap.size, 1, none⟩) hs, hW]; simp [go_sem], by rw [hb.cell (p := ⟨w.heap.size, 2, none⟩) hs, hW]; simp [go_sem]⟩)
    have HBW := Lib.hid (show Below w.heap.size w W by rw [hW]; exact Below.alloc (Below.refl _ _) (Nat.le_refl _) _)
    rw [← hW]
    clear hW
    refine wp_region_below (by kernel_rfl) (by kernel_rfl) ?_
    (with_reducible refine wpQuiet_yes ?_ ?_; (focus (kernel_rfl)); intro K hK; go_simp; refine ⟨_, fun _ _ => rfl, ?_⟩; with_reducible refine hK _ ?_; clear hK K)
    (with_reducible refine wpQuiet_yes ?_ ?_; (focus (kernel_rfl)); intro K hK; go_simp; refine ⟨(.iface 159 (.agg #[a1, b1, c1])), ?_, ?_⟩; rotate_left; with_reducible refine hK _ ?_; clear hK K; rotate_left)
    · intro w' hw
      obtain ⟨c1, c2⟩ := HC.out w' hw
      simp only [c1, go_sem, Result.andThen, and_self]
    (with_reducible refine wpQuiet_yes ?_ ?_; (focus (kernel_rfl)); intro K hK; go_simp; refine ⟨(.string A), ?_, ?_⟩; rotate_left; with_reducible refine hK _ ?_; clear hK K; rotate_left)
    · intro w' hw
      exact (HA.out w').mono fun e w'' ⟨he, h⟩ => ⟨he, hw.trans (h.mono hw.size)⟩
    (with_reducible refine wpQuiet_yes ?_ ?_; (focus (kernel_rfl)); intro K hK; go_simp; refine ⟨_, fun _ _ => rfl, ?_⟩; with_reducible refine hK _ ?_; clear hK K)
    (with_reducible refine wpQuiet_yes ?_ ?_; (focus (kernel_rfl)); intro K hK; go_simp; refine ⟨_, fun _ _ => rfl, ?_⟩; with_reducible refine hK _ ?_; clear hK K)
    (with_reducible refine wpQuiet_yes ?_ ?_; (focus (kernel_rfl)); intro K hK; go_simp; refine ⟨_, fun _ _ => rfl, ?_⟩; with_reducible refine hK _ ?_; clear hK K)
    (with_reducible refine wpQuiet_yes ?_ ?_; (focus (kernel_rfl)); intro K hK; go_simp; refine ⟨_, fun _ _ => rfl, ?_⟩; with_reducible refine hK _ ?_; clear hK K)
    (with_reducible refine wpQuiet_yes ?_ ?_; (focus (kernel_rfl)); intro K hK; go_simp; refine ⟨(.iface 159 (.agg #[a2, b2, c2])), ?_, ?_⟩; rotate_left; with_reducible refine hK _ ?_; clear hK K; rotate_left)
    · intro w' hw
      obtain ⟨c1, c2⟩ := HC.out w' hw
      simp only [c2, go_sem, Result.andThen, and_self]
    (with_reducible refine wpQuiet_yes ?_ ?_; (focus (kernel_rfl)); intro K hK; go_simp; refine ⟨(.string B), ?_, ?_⟩; rotate_left; with_reducible refine hK _ ?_; clear hK K; rotate_left)
    · intro w' hw
      exact (HB.out w').mono fun e w'' ⟨he, h⟩ => ⟨he, hw.trans (h.mono hw.size)⟩
    (with_reducible refine wpQuiet_yes ?_ ?_; (focus (kernel_rfl)); intro K hK; go_simp; refine ⟨_, fun _ _ => rfl, ?_⟩; with_reducible refine hK _ ?_; clear hK K)
    (with_reducible refine wpQuiet_yes ?_ ?_; (focus (kernel_rfl)); intro K hK; go_simp; refine ⟨_, fun _ _ => rfl, ?_⟩; with_reducible refine hK _ ?_; clear hK K)
    (with_reducible refine wpQuiet_yes ?_ ?_; (focus (kernel_rfl)); intro K hK; go_simp; refine ⟨_, fun _ _ => rfl, ?_⟩; with_reducible refine hK _ ?_; clear hK K)
    refine wpQuiet_nil fun w2 hb2 => ?_
    have HB2 := Lib.hid (HBW.out.trans (hb2.mono HBW.out.size))
    clear hb2
    simp only [Exit.then]
    go_wp2_with fail
    go_ret
    exact ⟨rfl, HB2.out⟩
end Go.Proofs.Ytiahcaihmgnicaa
