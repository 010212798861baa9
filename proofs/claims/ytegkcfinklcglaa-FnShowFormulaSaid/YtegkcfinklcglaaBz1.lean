/-
  ShowFormula, of the model and of the program, and the walk of its exact law. Conditions: none.
  ShowFormula, of the model and of the program, and the walk of its exact law. Conditions: none.
-/
import Derived.Test.YtegkcfinklcglaaBo33
import Derived.Laws.BytesArg
namespace Go.Proofs.Ytegkcfinklcglaa
open Go.RowKit
def decB (a : Int) : ByteArray := if a < 10 then ⟨#[(48 + a.toNat).toUInt8]⟩ else ⟨#[49, (38 + a.toNat).toUInt8]⟩
def letS (a : Int) : ByteArray := if a = 0 then ⟨#[120]⟩ else if a = 1 then ⟨#[121]⟩ else ⟨#[122]⟩
def sgnS (k : Int) : ByteArray := if k = 3 then ⟨#[32, 42, 32]⟩ else ⟨#[32, 43, 32]⟩
/-- a formula in the usual form -/
def shF : Fm → ByteArray
  | .leaf k a => if k = 0 then letS a else decB a
  | .pair k f g => (((⟨#[40]⟩ ++ shF f) ++ sgnS k) ++ shF g) ++ ⟨#[41]⟩
theorem letS_size (a : Int) : (letS a).size = 1 := by unfold letS; split; rfl; split <;> rfl
theorem decB_size (a : Int) : (decB a).size ≤ 2 := by
  unfold decB
  split
  · show 1 ≤ 2
    decide
  · show 2 ≤ 2
    decide
theorem sgnS_size (k : Int) : (sgnS k).size = 3 := by unfold sgnS; split <;> rfl
theorem shF_size : ∀ f : Fm, (shF f).size + 5 ≤ 7 * leavesF f
  | .leaf k a => by
    have h1 := letS_size a
    have h2 := decB_size a
    show (if k = 0 then letS a else decB a).size + 5 ≤ 7 * 1
    split <;> omega
  | .pair k f g => by
    have h1 := shF_size f
    have h2 := shF_size g
    have h3 := sgnS_size k
    show ((((⟨#[40]⟩ ++ shF f) ++ sgnS k) ++ shF g) ++ ⟨#[41]⟩ : ByteArray).size + 5 ≤ 7 * (leavesF f + leavesF g)
    simp only [ByteArray.size_append]
    have e1 : (⟨#[40]⟩ : ByteArray).size = 1 := rfl
    have e2 : (⟨#[41]⟩ : ByteArray).size = 1 := rfl
    omega
theorem leafB_sh {p : Int} {c : UInt8} {k a : Int} (h : leafB p c = some (k, a)) :
    (k = 0 ∧ Lib.indexByte digB c = -1 ∧ (⟨#[c]⟩ : ByteArray) = letS a) ∨ (k = 1 ∧ Lib.indexByte digB c = a ∧ (a ≤ 9 → (⟨#[c]⟩ : ByteArray) = decB a) ∧ 0 ≤ a ∧ a ≤ 12) := by
  have hm : c = 120 ∨ c = 121 ∨ c = 122 ∨ c = 48 ∨ c = 49 ∨ c = 50 ∨ c = 51 ∨ c = 52 ∨ c = 53 ∨ c = 54 ∨ c = 55 ∨ c = 56 ∨ c = 57 ∨ c = 65 ∨ c = 66 ∨ c = 67 := by simpa [letB, digB, or_assoc] using leafB_mem h
  unfold leafB at h
  rcases hm with rfl | rfl | rfl | hm
  · left
    rw [if_pos (by decide)] at h
    injection h with h
    injection h with e1 e2
    subst e1 e2
    exact ⟨rfl, rfl, rfl⟩
  · left
    rw [if_pos (by decide)] at h
    injection h with h
    injection h with e1 e2
    subst e1 e2
    exact ⟨rfl, rfl, rfl⟩
  · left
    rw [if_pos (by decide)] at h
    injection h with h
    injection h with e1 e2
    subst e1 e2
    exact ⟨rfl, rfl, rfl⟩
  · right
    rcases hm with rfl | rfl | rfl | rfl | rfl | rfl | rfl | rfl | rfl | rfl | rfl | rfl | rfl
    all_goals
      rw [if_neg (by decide)] at h
      split at h
      · injection h with h
        injection h with e1 e2
        subst e1 e2
        exact ⟨rfl, rfl, fun _ => by first | rfl | (exfalso; revert ‹_ ≤ (9 : Int)›; decide), by decide, by decide⟩
      · cases h
set_option maxRecDepth 100000 in
set_option maxHeartbeats 8000000 in
theorem iSmall (a : Int) (h0 : 0 ≤ a) (h1 : a ≤ 12) (w : World) : Calls Try.prog 235 #[.int .i64 a] w fun e w' => e = .returned (.string (decB a)) ∧ w' = w := by
  have ha : a = 0 ∨ a = 1 ∨ a = 2 ∨ a = 3 ∨ a = 4 ∨ a = 5 ∨ a = 6 ∨ a = 7 ∨ a = 8 ∨ a = 9 ∨ a = 10 ∨ a = 11 ∨ a = 12 := by omega
  clear h0 h1
  rcases ha with rfl | rfl | rfl | rfl | rfl | rfl | rfl | rfl | rfl | rfl | rfl | rfl | rfl
  all_goals
    go_enter Try.func235, Try.ntmps235
    go_wp2_with fail
    go_ret
    exact ⟨by kernel_rfl, rfl⟩
set_option maxRecDepth 100000 in
set_option maxHeartbeats 8000000 in
theorem iFormatInt (a : Int) (h0 : 0 ≤ a) (h1 : a ≤ 12) (w : World) : Calls Try.prog 234 #[.int .i64 a, .int .i64 10] w fun e w' => e = .returned (.string (decB a)) ∧ w' = w := by
  have H := Lib.hid (iSmall a h0 h1)
  have h2 : a < 100 := by omega
  go_enter Try.func234, Try.ntmps234
  go_wp2_with fail
  refine (H.out _).mono ?_
  rintro e w1 ⟨rfl, rfl⟩
  go_wp2_with fail
  go_ret
  exact ⟨rfl, rfl⟩
theorem iItoaI (a : Int) (h0 : 0 ≤ a) (h1 : a ≤ 12) (w : World) : Calls Try.prog 233 #[.int .i64 a] w fun e w' => e = .returned (.string (decB a)) ∧ w' = w := by
  have H := Lib.hid (iFormatInt a h0 h1)
  go_enter Try.func233, Try.ntmps233
  go_wp2_with fail
  refine (H.out _).mono ?_
  rintro e w1 ⟨rfl, rfl⟩
  go_wp2_with fail
  go_ret
  exact ⟨rfl, rfl⟩
theorem iItoa (a : Int) (h0 : 0 ≤ a) (h1 : a ≤ 12) (w : World) : Calls Try.prog 232 #[.int .i64 a] w fun e w' => e = .returned (.string (decB a)) ∧ w' = w := by
  have H := Lib.hid (iItoaI a h0 h1)
  go_enter Try.func232, Try.ntmps232
  go_wp2_with fail
  refine (H.out _).mono ?_
  rintro e w1 ⟨rfl, rfl⟩
  go_wp2_with fail
  go_ret
  exact ⟨rfl, rfl⟩
set_option maxRecDepth 100000 in
set_option maxHeartbeats 8000000 in
theorem iGText0 (a : Int) (ha : a = 0 ∨ a = 1 ∨ a = 2) (w : World) : Calls Try.prog 246 #[.agg #[.int .i64 0, .int .i64 a, .int .i64 0]] w fun e w' => e = .returned (.string (letS a)) ∧ Below w.heap.size w w' := by
  rcases ha with rfl | rfl | rfl
  all_goals
    go_enter Try.func246, Try.ntmps246
    go_wp2_with fail
    go_ret
    exact ⟨by kernel_rfl, Below.alloc (Below.refl _ _) (Nat.le_refl _) _⟩
set_option maxRecDepth 100000 in
set_option maxHeartbeats 8000000 in
theorem iGText1 (a : Int) (h0 : 0 ≤ a) (h1 : a ≤ 12) (w : World) : Calls Try.prog 246 #[.agg #[.int .i64 1, .int .i64 a, .int .i64 0]] w fun e w' => e = .returned (.string (decB a)) ∧ Below w.heap.size w w' := by
  have H := Lib.hid (iItoa a h0 h1)
  go_enter Try.func246, Try.ntmps246
  go_wp2_with fail
  refine (H.out _).mono ?_
  rintro e w1 ⟨rfl, rfl⟩
  go_wp2_with fail
  go_ret
  exact ⟨rfl, Below.alloc (Below.refl _ _) (Nat.le_refl _) _⟩
@[go_sem] theorem method_leaf (w : World) (a b c : Value) : (method 346 186 (.agg #[a, b, c]) "loop.example/polycircuits/impl.text").run Try.prog w = .ok (246, .agg #[a, b, c]) w := by kernel_rfl
@[go_sem] theorem method_pair (w : World) (a b c : Value) : (method 346 188 (.agg #[a, b, c]) "loop.example/polycircuits/impl.text").run Try.prog w = .ok (249, .agg #[a, b, c]) w := by kernel_rfl
def textId : Fm → Nat
  | .leaf _ _ => 246
  | .pair _ _ _ => 249
def textV : Fm → Value
  | .leaf k a => .agg #[.int .i64 k, .int .i64 a, .int .i64 0]
  | .pair k f g => .agg #[.int .i64 k, fmV f, fmV g]
set_option maxRecDepth 100000 in
set_option maxHeartbeats 8000000 in
theorem iPairLL (k : Int) (a1 b1 c1 a2 b2 c2 : Value) (A B : ByteArray) (hA : A.size ≤ 500) (hB : B.size ≤ 500) (w : World) (_o1 : (Value.iface 186 (.agg #[a1, b1, c1])).oneCell' = true) (_o2 : (Value.iface 186 (.agg #[a2, b2, c2])).oneCell' = true)
    (HA : ∀ w, Calls Try.prog 246 #[.agg #[a1, b1, c1]] w fun e w' => e = .returned (.string A) ∧ Below w.heap.size w w')
    (HB : ∀ w, Calls Try.prog 246 #[.agg #[a2, b2, c2]] w fun e w' => e = .returned (.string B) ∧ Below w.heap.size w w') (hk : k = 2 ∨ k = 3) :
    Calls Try.prog 249 #[.agg #[.int .i64 k, .iface 186 (.agg #[a1, b1, c1]), .iface 186 (.agg #[a2, b2, c2])]] w
      fun e w' => e = .returned (.string ((((⟨#[40]⟩ ++ A) ++ sgnS k) ++ B) ++ ⟨#[41]⟩)) ∧ Below w.heap.size w w' := by
  have HA := Lib.hid HA
  have HB := Lib.hid HB
  have n1 : ¬ 9223372036854775807 < 1 + A.size := by omega
  have n2 : ¬ 9223372036854775807 < 1 + A.size + 3 := by omega
  have n3 : ¬ 9223372036854775807 < 1 + A.size + 3 + B.size := by omega
  have n4 : ¬ 9223372036854775807 < 1 + A.size + 3 + B.size + 1 := by omega
  clear _o1 _o2
  rcases hk with rfl | rfl
  · rw [show sgnS 2 = ⟨#[32, 43, 32]⟩ from rfl]
    go_enter Try.func249, Try.ntmps249
    go_wp2_with fail
    obtain ⟨W, hW⟩ : ∃ W, W = w.alloc (Obj.cells #[.int .i64 2, .iface 186 (.agg #[a1, b1, c1]), .iface 186 (.agg #[a2, b2, c2])] 188) := ⟨_, rfl⟩
    have HC := Lib.hid (fun w' (hb : Below W.heap.size W w') => show w'.cell? ⟨w.heap.size, 1, none⟩ = some (.iface 186 (.agg #[a1, b1, c1])) ∧ w'.cell? ⟨w.heap.size, 2, none⟩ = some (.iface 186 (.agg #[a2, b2, c2])) by
      have hs : w.heap.size < W.heap.size := by rw [hW]; simp
      exact ⟨by rw [hb.cell (p := ⟨w.heap.size, 1, none⟩) hs, hW]; simp [go_sem], by rw [hb.cell (p := ⟨w.heap.size, 2, none⟩) hs, hW]; simp [go_sem]⟩)
    have HBW := Lib.hid (show Below w.heap.size w W by rw [hW]; exact Below.alloc (Below.refl _ _) (Nat.le_refl _) _)
    rw [← hW]
    clear hW
    refine wp_region_below (by kernel_rfl) (by kernel_rfl) ?_
    (with_reducible refine wpQuiet_yes ?_ ?_; (focus (kernel_rfl)); intro K hK; go_simp; refine ⟨_, fun _ _ => rfl, ?_⟩; with_reducible refine hK _ ?_; clear hK K)
    (with_reducible refine wpQuiet_yes ?_ ?_; (focus (kernel_rfl)); intro K hK; go_simp; refine ⟨(.iface 186 (.agg #[a1, b1, c1])), ?_, ?_⟩; rotate_left; with_reducible refine hK _ ?_; clear hK K; rotate_left)
    · intro w' hw
      obtain ⟨c1, c2⟩ := HC.out w' hw
      simp only [c1, go_sem, Result.andThen, and_self]
    (with_reducible refine wpQuiet_yes ?_ ?_; (focus (kernel_rfl)); intro K hK; go_simp; refine ⟨(.string A), ?_, ?_⟩; rotate_left; with_reducible refine hK _ ?_; clear hK K; rotate_left)
    · intro w' hw
      exact (HA.out w').mono fun e w'' ⟨he, h⟩ => ⟨he, hw.trans (h.mono hw.size)⟩
    (with_reducible refine wpQuiet_yes ?_ ?_; (focus (kernel_rfl)); intro K hK; go_simp; refine ⟨_, fun _ _ => rfl, ?_⟩; with_reducible refine hK _ ?_; clear hK K)
    (with_reducible refine wpQuiet_yes ?_ ?_; (focus (kernel_rfl)); intro K hK; go_simp; refine ⟨_, fun _ _ => rfl, ?_⟩; with_reducible refine hK _ ?_; clear hK K)
    (with_reducible refine wpQuiet_yes ?_ ?_; (focus (kernel_rfl)); intro K hK; go_simp; refine ⟨_, fun _ _ => rfl, ?_⟩; with_reducible refine hK _ ?_; clear hK K)
    (with_reducible refine wpQuiet_yes ?_ ?_; (focus (kernel_rfl)); intro K hK; go_simp; refine ⟨_, fun _ _ => rfl, ?_⟩; with_reducible refine hK _ ?_; clear hK K)
    (with_reducible refine wpQuiet_yes ?_ ?_; (focus (kernel_rfl)); intro K hK; go_simp; refine ⟨(.iface 186 (.agg #[a2, b2, c2])), ?_, ?_⟩; rotate_left; with_reducible refine hK _ ?_; clear hK K; rotate_left)
    · intro w' hw
      obtain ⟨c1, c2⟩ := HC.out w' hw
      simp only [c2, go_sem, Result.andThen, and_self]
    (with_reducible refine wpQuiet_yes ?_ ?_; (focus (kernel_rfl)); intro K hK; go_simp; refine ⟨(.string B), ?_, ?_⟩; rotate_left; with_reducible refine hK _ ?_; clear hK K; rotate_left)
    · intro w' hw
      exact (HB.out w').mono fun e w'' ⟨he, h⟩ => ⟨he, hw.trans (h.mono hw.size)⟩
    (with_reducible refine wpQuiet_yes ?_ ?_; (focus (kernel_rfl)); intro K hK; go_simp; refine ⟨_, fun _ _ => rfl, ?_⟩; with_reducible refine hK _ ?_; clear hK K)
    (with_reducible refine wpQuiet_yes ?_ ?_; (focus (kernel_rfl)); intro K hK; go_simp; refine ⟨_, fun _ _ => rfl, ?_⟩; with_reducible refine hK _ ?_; clear hK K)
    (with_reducible refine wpQuiet_yes ?_ ?_; (focus (kernel_rfl)); intro K hK; go_simp; refine ⟨_, fun _ _ => rfl, ?_⟩; with_reducible refine hK _ ?_; clear hK K)
    refine wpQuiet_nil fun w2 hb2 => ?_
    have HB2 := Lib.hid (HBW.out.trans (hb2.mono HBW.out.size))
    clear hb2
    simp only [Exit.then]
    go_wp2_with fail
    go_ret
    exact ⟨rfl, HB2.out⟩
  · rw [show sgnS 3 = ⟨#[32, 42, 32]⟩ from rfl]
    go_enter Try.func249, Try.ntmps249
    go_wp2_with fail
    obtain ⟨W, hW⟩ : ∃ W, W = w.alloc (Obj.cells #[.int .i64 3, .iface 186 (.agg #[a1, b1, c1]), .iface 186 (.agg #[a2, b2, c2])] 188) := ⟨_, rfl⟩
    have HC := Lib.hid (fun w' (hb : Below W.heap.size W w') => show w'.cell? ⟨w.heap.size, 1, none⟩ = some (.iface 186 (.agg #[a1, b1, c1])) ∧ w'.cell? ⟨w.heap.size, 2, none⟩ = some (.iface 186 (.agg #[a2, b2, c2])) by
      have hs : w.heap.size < W.heap.size := by rw [hW]; simp
      exact ⟨by rw [hb.cell (p := ⟨w.heap.size, 1, none⟩) hs, hW]; simp [go_sem], by rw [hb.cell (p := ⟨w.heap.size, 2, none⟩) hs, hW]; simp [go_sem]⟩)
    have HBW := Lib.hid (show Below w.heap.size w W by rw [hW]; exact Below.alloc (Below.refl _ _) (Nat.le_refl _) _)
    rw [← hW]
    clear hW
    refine wp_region_below (by kernel_rfl) (by kernel_rfl) ?_
    (with_reducible refine wpQuiet_yes ?_ ?_; (focus (kernel_rfl)); intro K hK; go_simp; refine ⟨_, fun _ _ => rfl, ?_⟩; with_reducible refine hK _ ?_; clear hK K)
    (with_reducible refine wpQuiet_yes ?_ ?_; (focus (kernel_rfl)); intro K hK; go_simp; refine ⟨(.iface 186 (.agg #[a1, b1, c1])), ?_, ?_⟩; rotate_left; with_reducible refine hK _ ?_; clear hK K; rotate_left)
    · intro w' hw
      obtain ⟨c1, c2⟩ := HC.out w' hw
      simp only [c1, go_sem, Result.andThen, and_self]
    (with_reducible refine wpQuiet_yes ?_ ?_; (focus (kernel_rfl)); intro K hK; go_simp; refine ⟨(.string A), ?_, ?_⟩; rotate_left; with_reducible refine hK _ ?_; clear hK K; rotate_left)
    · intro w' hw
      exact (HA.out w').mono fun e w'' ⟨he, h⟩ => ⟨he, hw.trans (h.mono hw.size)⟩
    (with_reducible refine wpQuiet_yes ?_ ?_; (focus (kernel_rfl)); intro K hK; go_simp; refine ⟨_, fun _ _ => rfl, ?_⟩; with_reducible refine hK _ ?_; clear hK K)
    (with_reducible refine wpQuiet_yes ?_ ?_; (focus (kernel_rfl)); intro K hK; go_simp; refine ⟨_, fun _ _ => rfl, ?_⟩; with_reducible refine hK _ ?_; clear hK K)
    (with_reducible refine wpQuiet_yes ?_ ?_; (focus (kernel_rfl)); intro K hK; go_simp; refine ⟨_, fun _ _ => rfl, ?_⟩; with_reducible refine hK _ ?_; clear hK K)
    (with_reducible refine wpQuiet_yes ?_ ?_; (focus (kernel_rfl)); intro K hK; go_simp; refine ⟨_, fun _ _ => rfl, ?_⟩; with_reducible refine hK _ ?_; clear hK K)
    (with_reducible refine wpQuiet_yes ?_ ?_; (focus (kernel_rfl)); intro K hK; go_simp; refine ⟨(.iface 186 (.agg #[a2, b2, c2])), ?_, ?_⟩; rotate_left; with_reducible refine hK _ ?_; clear hK K; rotate_left)
    · intro w' hw
      obtain ⟨c1, c2⟩ := HC.out w' hw
      simp only [c2, go_sem, Result.andThen, and_self]
    (with_reducible refine wpQuiet_yes ?_ ?_; (focus (kernel_rfl)); intro K hK; go_simp; refine ⟨(.string B), ?_, ?_⟩; rotate_left; with_reducible refine hK _ ?_; clear hK K; rotate_left)
    · intro w' hw
      exact (HB.out w').mono fun e w'' ⟨he, h⟩ => ⟨he, hw.trans (h.mono hw.size)⟩
    (with_reducible refine wpQuiet_yes ?_ ?_; (focus (kernel_rfl)); intro K hK; go_simp; refine ⟨_, fun _ _ => rfl, ?_⟩; with_reducible refine hK _ ?_; clear hK K)
    (with_reducible refine wpQuiet_yes ?_ ?_; (focus (kernel_rfl)); intro K hK; go_simp; refine ⟨_, fun _ _ => rfl, ?_⟩; with_reducible refine hK _ ?_; clear hK K)
    (with_reducible refine wpQuiet_yes ?_ ?_; (focus (kernel_rfl)); intro K hK; go_simp; refine ⟨_, fun _ _ => rfl, ?_⟩; with_reducible refine hK _ ?_; clear hK K)
    refine wpQuiet_nil fun w2 hb2 => ?_
    have HB2 := Lib.hid (HBW.out.trans (hb2.mono HBW.out.size))
    clear hb2
    simp only [Exit.then]
    go_wp2_with fail
    go_ret
    exact ⟨rfl, HB2.out⟩
set_option maxRecDepth 100000 in
set_option maxHeartbeats 8000000 in
theorem iPairLP (k : Int) (a1 b1 c1 a2 b2 c2 : Value) (A B : ByteArray) (hA : A.size ≤ 500) (hB : B.size ≤ 500) (w : World) (_o1 : (Value.iface 186 (.agg #[a1, b1, c1])).oneCell' = true) (_o2 : (Value.iface 188 (.agg #[a2, b2, c2])).oneCell' = true)
    (HA : ∀ w, Calls Try.prog 246 #[.agg #[a1, b1, c1]] w fun e w' => e = .returned (.string A) ∧ Below w.heap.size w w')
    (HB : ∀ w, Calls Try.prog 249 #[.agg #[a2, b2, c2]] w fun e w' => e = .returned (.string B) ∧ Below w.heap.size w w') (hk : k = 2 ∨ k = 3) :
    Calls Try.prog 249 #[.agg #[.int .i64 k, .iface 186 (.agg #[a1, b1, c1]), .iface 188 (.agg #[a2, b2, c2])]] w
      fun e w' => e = .returned (.string ((((⟨#[40]⟩ ++ A) ++ sgnS k) ++ B) ++ ⟨#[41]⟩)) ∧ Below w.heap.size w w' := by
  have HA := Lib.hid HA
  have HB := Lib.hid HB
  have n1 : ¬ 9223372036854775807 < 1 + A.size := by omega
  have n2 : ¬ 9223372036854775807 < 1 + A.size + 3 := by omega
  have n3 : ¬ 9223372036854775807 < 1 + A.size + 3 + B.size := by omega
  have n4 : ¬ 9223372036854775807 < 1 + A.size + 3 + B.size + 1 := by omega
  clear _o1 _o2
  rcases hk with rfl | rfl
  · rw [show sgnS 2 = ⟨#[32, 43, 32]⟩ from rfl]
    go_enter Try.func249, Try.ntmps249
    go_wp2_with fail
    obtain ⟨W, hW⟩ : ∃ W, W = w.alloc (Obj.cells #[.int .i64 2, .iface 186 (.agg #[a1, b1, c1]), .iface 188 (.agg #[a2, b2, c2])] 188) := ⟨_, rfl⟩
    have HC := Lib.hid (fun w' (hb : Below W.heap.size W w') => show w'.cell? ⟨w.heap.size, 1, none⟩ = some (.iface 186 (.agg #[a1, b1, c1])) ∧ w'.cell? ⟨w.heap.size, 2, none⟩ = some (.iface 188 (.agg #[a2, b2, c2])) by
      have hs : w.heap.size < W.heap.size := by rw [hW]; simp
      exact ⟨by rw [hb.cell (p := ⟨w.heap.size, 1, none⟩) hs, hW]; simp [go_sem], by rw [hb.cell (p := ⟨w.heap.size, 2, none⟩) hs, hW]; simp [go_sem]⟩)
    have HBW := Lib.hid (show Below w.heap.size w W by rw [hW]; exact Below.alloc (Below.refl _ _) (Nat.le_refl _) _)
    rw [← hW]
    clear hW
    refine wp_region_below (by kernel_rfl) (by kernel_rfl) ?_
    (with_reducible refine wpQuiet_yes ?_ ?_; (focus (kernel_rfl)); intro K hK; go_simp; refine ⟨_, fun _ _ => rfl, ?_⟩; with_reducible refine hK _ ?_; clear hK K)
    (with_reducible refine wpQuiet_yes ?_ ?_; (focus (kernel_rfl)); intro K hK; go_simp; refine ⟨(.iface 186 (.agg #[a1, b1, c1])), ?_, ?_⟩; rotate_left; with_reducible refine hK _ ?_; clear hK K; rotate_left)
    · intro w' hw
      obtain ⟨c1, c2⟩ := HC.out w' hw
      simp only [c1, go_sem, Result.andThen, and_self]
    (with_reducible refine wpQuiet_yes ?_ ?_; (focus (kernel_rfl)); intro K hK; go_simp; refine ⟨(.string A), ?_, ?_⟩; rotate_left; with_reducible refine hK _ ?_; clear hK K; rotate_left)
    · intro w' hw
      exact (HA.out w').mono fun e w'' ⟨he, h⟩ => ⟨he, hw.trans (h.mono hw.size)⟩
    (with_reducible refine wpQuiet_yes ?_ ?_; (focus (kernel_rfl)); intro K hK; go_simp; refine ⟨_, fun _ _ => rfl, ?_⟩; with_reducible refine hK _ ?_; clear hK K)
    (with_reducible refine wpQuiet_yes ?_ ?_; (focus (kernel_rfl)); intro K hK; go_simp; refine ⟨_, fun _ _ => rfl, ?_⟩; with_reducible refine hK _ ?_; clear hK K)
    (with_reducible refine wpQuiet_yes ?_ ?_; (focus (kernel_rfl)); intro K hK; go_simp; refine ⟨_, fun _ _ => rfl, ?_⟩; with_reducible refine hK _ ?_; clear hK K)
    (with_reducible refine wpQuiet_yes ?_ ?_; (focus (kernel_rfl)); intro K hK; go_simp; refine ⟨_, fun _ _ => rfl, ?_⟩; with_reducible refine hK _ ?_; clear hK K)
    (with_reducible refine wpQuiet_yes ?_ ?_; (focus (kernel_rfl)); intro K hK; go_simp; refine ⟨(.iface 188 (.agg #[a2, b2, c2])), ?_, ?_⟩; rotate_left; with_reducible refine hK _ ?_; clear hK K; rotate_left)
    · intro w' hw
      obtain ⟨c1, c2⟩ := HC.out w' hw
      simp only [c2, go_sem, Result.andThen, and_self]
    (with_reducible refine wpQuiet_yes ?_ ?_; (focus (kernel_rfl)); intro K hK; go_simp; refine ⟨(.string B), ?_, ?_⟩; rotate_left; with_reducible refine hK _ ?_; clear hK K; rotate_left)
    · intro w' hw
      exact (HB.out w').mono fun e w'' ⟨he, h⟩ => ⟨he, hw.trans (h.mono hw.size)⟩
    (with_reducible refine wpQuiet_yes ?_ ?_; (focus (kernel_rfl)); intro K hK; go_simp; refine ⟨_, fun _ _ => rfl, ?_⟩; with_reducible refine hK _ ?_; clear hK K)
    (with_reducible refine wpQuiet_yes ?_ ?_; (focus (kernel_rfl)); intro K hK; go_simp; refine ⟨_, fun _ _ => rfl, ?_⟩; with_reducible refine hK _ ?_; clear hK K)
    (with_reducible refine wpQuiet_yes ?_ ?_; (focus (kernel_rfl)); intro K hK; go_simp; refine ⟨_, fun _ _ => rfl, ?_⟩; with_reducible refine hK _ ?_; clear hK K)
    refine wpQuiet_nil fun w2 hb2 => ?_
    have HB2 := Lib.hid (HBW.out.trans (hb2.mono HBW.out.size))
    clear hb2
    simp only [Exit.then]
    go_wp2_with fail
    go_ret
    exact ⟨rfl, HB2.out⟩
  · rw [show sgnS 3 = ⟨#[32, 42, 32]⟩ from rfl]
    go_enter Try.func249, Try.ntmps249
    go_wp2_with fail
    obtain ⟨W, hW⟩ : ∃ W, W = w.alloc (Obj.cells #[.int .i64 3, .iface 186 (.agg #[a1, b1, c1]), .iface 188 (.agg #[a2, b2, c2])] 188) := ⟨_, rfl⟩
    have HC := Lib.hid (fun w' (hb : Below W.heap.size W w') => show w'.cell? ⟨w.heap.size, 1, none⟩ = some (.iface 186 (.agg #[a1, b1, c1])) ∧ w'.cell? ⟨w.heap.size, 2, none⟩ = some (.iface 188 (.agg #[a2, b2, c2])) by
      have hs : w.heap.size < W.heap.size := by rw [hW]; simp
      exact ⟨by rw [hb.cell (p := ⟨w.heap.size, 1, none⟩) hs, hW]; simp [go_sem], by rw [hb.cell (p := ⟨w.heap.size, 2, none⟩) hs, hW]; simp [go_sem]⟩)
    have HBW := Lib.hid (show Below w.heap.size w W by rw [hW]; exact Below.alloc (Below.refl _ _) (Nat.le_refl _) _)
    rw [← hW]
    clear hW
    refine wp_region_below (by kernel_rfl) (by kernel_rfl) ?_
    (with_reducible refine wpQuiet_yes ?_ ?_; (focus (kernel_rfl)); intro K hK; go_simp; refine ⟨_, fun _ _ => rfl, ?_⟩; with_reducible refine hK _ ?_; clear hK K)
    (with_reducible refine wpQuiet_yes ?_ ?_; (focus (kernel_rfl)); intro K hK; go_simp; refine ⟨(.iface 186 (.agg #[a1, b1, c1])), ?_, ?_⟩; rotate_left; with_reducible refine hK _ ?_; clear hK K; rotate_left)
    · intro w' hw
      obtain ⟨c1, c2⟩ := HC.out w' hw
      simp only [c1, go_sem, Result.andThen, and_self]
    (with_reducible refine wpQuiet_yes ?_ ?_; (focus (kernel_rfl)); intro K hK; go_simp; refine ⟨(.string A), ?_, ?_⟩; rotate_left; with_reducible refine hK _ ?_; clear hK K; rotate_left)
    · intro w' hw
      exact (HA.out w').mono fun e w'' ⟨he, h⟩ => ⟨he, hw.trans (h.mono hw.size)⟩
    (with_reducible refine wpQuiet_yes ?_ ?_; (focus (kernel_rfl)); intro K hK; go_simp; refine ⟨_, fun _ _ => rfl, ?_⟩; with_reducible refine hK _ ?_; clear hK K)
    (with_reducible refine wpQuiet_yes ?_ ?_; (focus (kernel_rfl)); intro K hK; go_simp; refine ⟨_, fun _ _ => rfl, ?_⟩; with_reducible refine hK _ ?_; clear hK K)
    (with_reducible refine wpQuiet_yes ?_ ?_; (focus (kernel_rfl)); intro K hK; go_simp; refine ⟨_, fun _ _ => rfl, ?_⟩; with_reducible refine hK _ ?_; clear hK K)
    (with_reducible refine wpQuiet_yes ?_ ?_; (focus (kernel_rfl)); intro K hK; go_simp; refine ⟨_, fun _ _ => rfl, ?_⟩; with_reducible refine hK _ ?_; clear hK K)
    (with_reducible refine wpQuiet_yes ?_ ?_; (focus (kernel_rfl)); intro K hK; go_simp; refine ⟨(.iface 188 (.agg #[a2, b2, c2])), ?_, ?_⟩; rotate_left; with_reducible refine hK _ ?_; clear hK K; rotate_left)
    · intro w' hw
      obtain ⟨c1, c2⟩ := HC.out w' hw
      simp only [c2, go_sem, Result.andThen, and_self]
    (with_reducible refine wpQuiet_yes ?_ ?_; (focus (kernel_rfl)); intro K hK; go_simp; refine ⟨(.string B), ?_, ?_⟩; rotate_left; with_reducible refine hK _ ?_; clear hK K; rotate_left)
    · intro w' hw
      exact (HB.out w').mono fun e w'' ⟨he, h⟩ => ⟨he, hw.trans (h.mono hw.size)⟩
    (with_reducible refine wpQuiet_yes ?_ ?_; (focus (kernel_rfl)); intro K hK; go_simp; refine ⟨_, fun _ _ => rfl, ?_⟩; with_reducible refine hK _ ?_; clear hK K)
    (with_reducible refine wpQuiet_yes ?_ ?_; (focus (kernel_rfl)); intro K hK; go_simp; refine ⟨_, fun _ _ => rfl, ?_⟩; with_reducible refine hK _ ?_; clear hK K)
    (with_reducible refine wpQuiet_yes ?_ ?_; (focus (kernel_rfl)); intro K hK; go_simp; refine ⟨_, fun _ _ => rfl, ?_⟩; with_reducible refine hK _ ?_; clear hK K)
    refine wpQuiet_nil fun w2 hb2 => ?_
    have HB2 := Lib.hid (HBW.out.trans (hb2.mono HBW.out.size))
    clear hb2
    simp only [Exit.then]
    go_wp2_with fail
    go_ret
    exact ⟨rfl, HB2.out⟩
set_option maxRecDepth 100000 in
set_option maxHeartbeats 8000000 in
theorem iPairPL (k : Int) (a1 b1 c1 a2 b2 c2 : Value) (A B : ByteArray) (hA : A.size ≤ 500) (hB : B.size ≤ 500) (w : World) (_o1 : (Value.iface 188 (.agg #[a1, b1, c1])).oneCell' = true) (_o2 : (Value.iface 186 (.agg #[a2, b2, c2])).oneCell' = true)
    (HA : ∀ w, Calls Try.prog 249 #[.agg #[a1, b1, c1]] w fun e w' => e = .returned (.string A) ∧ Below w.heap.size w w')
    (HB : ∀ w, Calls Try.prog 246 #[.agg #[a2, b2, c2]] w fun e w' => e = .returned (.string B) ∧ Below w.heap.size w w') (hk : k = 2 ∨ k = 3) :
    Calls Try.prog 249 #[.agg #[.int .i64 k, .iface 188 (.agg #[a1, b1, c1]), .iface 186 (.agg #[a2, b2, c2])]] w
      fun e w' => e = .returned (.string ((((⟨#[40]⟩ ++ A) ++ sgnS k) ++ B) ++ ⟨#[41]⟩)) ∧ Below w.heap.size w w' := by
  have HA := Lib.hid HA
  have HB := Lib.hid HB
  have n1 : ¬ 9223372036854775807 < 1 + A.size := by omega
  have n2 : ¬ 9223372036854775807 < 1 + A.size + 3 := by omega
  have n3 : ¬ 9223372036854775807 < 1 + A.size + 3 + B.size := by omega
  have n4 : ¬ 9223372036854775807 < 1 + A.size + 3 + B.size + 1 := by omega
  clear _o1 _o2
  rcases hk with rfl | rfl
  · rw [show sgnS 2 = ⟨#[32, 43, 32]⟩ from rfl]
    go_enter Try.func249, Try.ntmps249
    go_wp2_with fail
    obtain ⟨W, hW⟩ : ∃ W, W = w.alloc (Obj.cells #[.int .i64 2, .iface 188 (.agg #[a1, b1, c1]), .iface 186 (.agg #[a2, b2, c2])] 188) := ⟨_, rfl⟩
    have HC := Lib.hid (fun w' (hb : Below W.heap.size W w') => show w'.cell? ⟨w.heap.size, 1, none⟩ = some (.iface 188 (.agg #[a1, b1, c1])) ∧ w'.cell? ⟨w.heap.size, 2, none⟩ = some (.iface 186 (.agg #[a2, b2, c2])) by
      have hs : w.heap.size < W.heap.size := by rw [hW]; simp
      exact ⟨by rw [hb.cell (p := ⟨w.heap.size, 1, none⟩) hs, hW]; simp [go_sem], by rw [hb.cell (p := ⟨w.heap.size, 2, none⟩) hs, hW]; simp [go_sem]⟩)
    have HBW := Lib.hid (show Below w.heap.size w W by rw [hW]; exact Below.alloc (Below.refl _ _) (Nat.le_refl _) _)
    rw [← hW]
    clear hW
    refine wp_region_below (by kernel_rfl) (by kernel_rfl) ?_
    (with_reducible refine wpQuiet_yes ?_ ?_; (focus (kernel_rfl)); intro K hK; go_simp; refine ⟨_, fun _ _ => rfl, ?_⟩; with_reducible refine hK _ ?_; clear hK K)
    (with_reducible refine wpQuiet_yes ?_ ?_; (focus (kernel_rfl)); intro K hK; go_simp; refine ⟨(.iface 188 (.agg #[a1, b1, c1])), ?_, ?_⟩; rotate_left; with_reducible refine hK _ ?_; clear hK K; rotate_left)
    · intro w' hw
      obtain ⟨c1, c2⟩ := HC.out w' hw
      simp only [c1, go_sem, Result.andThen, and_self]
    (with_reducible refine wpQuiet_yes ?_ ?_; (focus (kernel_rfl)); intro K hK; go_simp; refine ⟨(.string A), ?_, ?_⟩; rotate_left; with_reducible refine hK _ ?_; clear hK K; rotate_left)
    · intro w' hw
      exact (HA.out w').mono fun e w'' ⟨he, h⟩ => ⟨he, hw.trans (h.mono hw.size)⟩
    (with_reducible refine wpQuiet_yes ?_ ?_; (focus (kernel_rfl)); intro K hK; go_simp; refine ⟨_, fun _ _ => rfl, ?_⟩; with_reducible refine hK _ ?_; clear hK K)
    (with_reducible refine wpQuiet_yes ?_ ?_; (focus (kernel_rfl)); intro K hK; go_simp; refine ⟨_, fun _ _ => rfl, ?_⟩; with_reducible refine hK _ ?_; clear hK K)
    (with_reducible refine wpQuiet_yes ?_ ?_; (focus (kernel_rfl)); intro K hK; go_simp; refine ⟨_, fun _ _ => rfl, ?_⟩; with_reducible refine hK _ ?_; clear hK K)
    (with_reducible refine wpQuiet_yes ?_ ?_; (focus (kernel_rfl)); intro K hK; go_simp; refine ⟨_, fun _ _ => rfl, ?_⟩; with_reducible refine hK _ ?_; clear hK K)
    (with_reducible refine wpQuiet_yes ?_ ?_; (focus (kernel_rfl)); intro K hK; go_simp; refine ⟨(.iface 186 (.agg #[a2, b2, c2])), ?_, ?_⟩; rotate_left; with_reducible refine hK _ ?_; clear hK K; rotate_left)
    · intro w' hw
      obtain ⟨c1, c2⟩ := HC.out w' hw
      simp only [c2, go_sem, Result.andThen, and_self]
    (with_reducible refine wpQuiet_yes ?_ ?_; (focus (kernel_rfl)); intro K hK; go_simp; refine ⟨(.string B), ?_, ?_⟩; rotate_left; with_reducible refine hK _ ?_; clear hK K; rotate_left)
    · intro w' hw
      exact (HB.out w').mono fun e w'' ⟨he, h⟩ => ⟨he, hw.trans (h.mono hw.size)⟩
    (with_reducible refine wpQuiet_yes ?_ ?_; (focus (kernel_rfl)); intro K hK; go_simp; refine ⟨_, fun _ _ => rfl, ?_⟩; with_reducible refine hK _ ?_; clear hK K)
    (with_reducible refine wpQuiet_yes ?_ ?_; (focus (kernel_rfl)); intro K hK; go_simp; refine ⟨_, fun _ _ => rfl, ?_⟩; with_reducible refine hK _ ?_; clear hK K)
    (with_reducible refine wpQuiet_yes ?_ ?_; (focus (kernel_rfl)); intro K hK; go_simp; refine ⟨_, fun _ _ => rfl, ?_⟩; with_reducible refine hK _ ?_; clear hK K)
    refine wpQuiet_nil fun w2 hb2 => ?_
    have HB2 := Lib.hid (HBW.out.trans (hb2.mono HBW.out.size))
    clear hb2
    simp only [Exit.then]
    go_wp2_with fail
    go_ret
    exact ⟨rfl, HB2.out⟩
  · rw [show sgnS 3 = ⟨#[32, 42, 32]⟩ from rfl]
    go_enter Try.func249, Try.ntmps249
    go_wp2_with fail
    obtain ⟨W, hW⟩ : ∃ W, W = w.alloc (Obj.cells #[.int .i64 3, .iface 188 (.agg #[a1, b1, c1]), .iface 186 (.agg #[a2, b2, c2])] 188) := ⟨_, rfl⟩
    have HC := Lib.hid (fun w' (hb : Below W.heap.size W w') => show w'.cell? ⟨w.heap.size, 1, none⟩ = some (.iface 188 (.agg #[a1, b1, c1])) ∧ w'.cell? ⟨w.heap.size, 2, none⟩ = some (.iface 186 (.agg #[a2, b2, c2])) by
      have hs : w.heap.size < W.heap.size := by rw [hW]; simp
      exact ⟨by rw [hb.cell (p := ⟨w.heap.size, 1, none⟩) hs, hW]; simp [go_sem], by rw [hb.cell (p := ⟨w.heap.size, 2, none⟩) hs, hW]; simp [go_sem]⟩)
    have HBW := Lib.hid (show Below w.heap.size w W by rw [hW]; exact Below.alloc (Below.refl _ _) (Nat.le_refl _) _)
    rw [← hW]
    clear hW
    refine wp_region_below (by kernel_rfl) (by kernel_rfl) ?_
    (with_reducible refine wpQuiet_yes ?_ ?_; (focus (kernel_rfl)); intro K hK; go_simp; refine ⟨_, fun _ _ => rfl, ?_⟩; with_reducible refine hK _ ?_; clear hK K)
    (with_reducible refine wpQuiet_yes ?_ ?_; (focus (kernel_rfl)); intro K hK; go_simp; refine ⟨(.iface 188 (.agg #[a1, b1, c1])), ?_, ?_⟩; rotate_left; with_reducible refine hK _ ?_; clear hK K; rotate_left)
    · intro w' hw
      obtain ⟨c1, c2⟩ := HC.out w' hw
      simp only [c1, go_sem, Result.andThen, and_self]
    (with_reducible refine wpQuiet_yes ?_ ?_; (focus (kernel_rfl)); intro K hK; go_simp; refine ⟨(.string A), ?_, ?_⟩; rotate_left; with_reducible refine hK _ ?_; clear hK K; rotate_left)
    · intro w' hw
      exact (HA.out w').mono fun e w'' ⟨he, h⟩ => ⟨he, hw.trans (h.mono hw.size)⟩
    (with_reducible refine wpQuiet_yes ?_ ?_; (focus (kernel_rfl)); intro K hK; go_simp; refine ⟨_, fun _ _ => rfl, ?_⟩; with_reducible refine hK _ ?_; clear hK K)
    (with_reducible refine wpQuiet_yes ?_ ?_; (focus (kernel_rfl)); intro K hK; go_simp; refine ⟨_, fun _ _ => rfl, ?_⟩; with_reducible refine hK _ ?_; clear hK K)
    (with_reducible refine wpQuiet_yes ?_ ?_; (focus (kernel_rfl)); intro K hK; go_simp; refine ⟨_, fun _ _ => rfl, ?_⟩; with_reducible refine hK _ ?_; clear hK K)
    (with_reducible refine wpQuiet_yes ?_ ?_; (focus (kernel_rfl)); intro K hK; go_simp; refine ⟨_, fun _ _ => rfl, ?_⟩; with_reducible refine hK _ ?_; clear hK K)
    (with_reducible refine wpQuiet_yes ?_ ?_; (focus (kernel_rfl)); intro K hK; go_simp; refine ⟨(.iface 186 (.agg #[a2, b2, c2])), ?_, ?_⟩; rotate_left; with_reducible refine hK _ ?_; clear hK K; rotate_left)
    · intro w' hw
      obtain ⟨c1, c2⟩ := HC.out w' hw
      simp only [c2, go_sem, Result.andThen, and_self]
    (with_reducible refine wpQuiet_yes ?_ ?_; (focus (kernel_rfl)); intro K hK; go_simp; refine ⟨(.string B), ?_, ?_⟩; rotate_left; with_reducible refine hK _ ?_; clear hK K; rotate_left)
    · intro w' hw
      exact (HB.out w').mono fun e w'' ⟨he, h⟩ => ⟨he, hw.trans (h.mono hw.size)⟩
    (with_reducible refine wpQuiet_yes ?_ ?_; (focus (kernel_rfl)); intro K hK; go_simp; refine ⟨_, fun _ _ => rfl, ?_⟩; with_reducible refine hK _ ?_; clear hK K)
    (with_reducible refine wpQuiet_yes ?_ ?_; (focus (kernel_rfl)); intro K hK; go_simp; refine ⟨_, fun _ _ => rfl, ?_⟩; with_reducible refine hK _ ?_; clear hK K)
    (with_reducible refine wpQuiet_yes ?_ ?_; (focus (kernel_rfl)); intro K hK; go_simp; refine ⟨_, fun _ _ => rfl, ?_⟩; with_reducible refine hK _ ?_; clear hK K)
    refine wpQuiet_nil fun w2 hb2 => ?_
    have HB2 := Lib.hid (HBW.out.trans (hb2.mono HBW.out.size))
    clear hb2
    simp only [Exit.then]
    go_wp2_with fail
    go_ret
    exact ⟨rfl, HB2.out⟩
set_option maxRecDepth 100000 in
set_option maxHeartbeats 8000000 in
theorem iPairPP (k : Int) (a1 b1 c1 a2 b2 c2 : Value) (A B : ByteArray) (hA : A.size ≤ 500) (hB : B.size ≤ 500) (w : World) (_o1 : (Value.iface 188 (.agg #[a1, b1, c1])).oneCell' = true) (_o2 : (Value.iface 188 (.agg #[a2, b2, c2])).oneCell' = true)
    (HA : ∀ w, Calls Try.prog 249 #[.agg #[a1, b1, c1]] w fun e w' => e = .returned (.string A) ∧ Below w.heap.size w w')
    (HB : ∀ w, Calls Try.prog 249 #[.agg #[a2, b2, c2]] w fun e w' => e = .returned (.string B) ∧ Below w.heap.size w w') (hk : k = 2 ∨ k = 3) :
    Calls Try.prog 249 #[.agg #[.int .i64 k, .iface 188 (.agg #[a1, b1, c1]), .iface 188 (.agg #[a2, b2, c2])]] w
      fun e w' => e = .returned (.string ((((⟨#[40]⟩ ++ A) ++ sgnS k) ++ B) ++ ⟨#[41]⟩)) ∧ Below w.heap.size w w' := by
  have HA := Lib.hid HA
  have HB := Lib.hid HB
  have n1 : ¬ 9223372036854775807 < 1 + A.size := by omega
  have n2 : ¬ 9223372036854775807 < 1 + A.size + 3 := by omega
  have n3 : ¬ 9223372036854775807 < 1 + A.size + 3 + B.size := by omega
  have n4 : ¬ 9223372036854775807 < 1 + A.size + 3 + B.size + 1 := by omega
  clear _o1 _o2
  rcases hk with rfl | rfl
  · rw [show sgnS 2 = ⟨#[32, 43, 32]⟩ from rfl]
    go_enter Try.func249, Try.ntmps249
    go_wp2_with fail
    obtain ⟨W, hW⟩ : ∃ W, W = w.alloc (Obj.cells #[.int .i64 2, .iface 188 (.agg #[a1, b1, c1]), .iface 188 (.agg #[a2, b2, c2])] 188) := ⟨_, rfl⟩
    have HC := Lib.hid (fun w' (hb : Below W.heap.size W w') => show w'.cell? ⟨w.heap.size, 1, none⟩ = some (.iface 188 (.agg #[a1, b1, c1])) ∧ w'.cell? ⟨w.heap.size, 2, none⟩ = some (.iface 188 (.agg #[a2, b2, c2])) by
      have hs : w.heap.size < W.heap.size := by rw [hW]; simp
      exact ⟨by rw [hb.cell (p := ⟨w.heap.size, 1, none⟩) hs, hW]; simp [go_sem], by rw [hb.cell (p := ⟨w.heap.size, 2, none⟩) hs, hW]; simp [go_sem]⟩)
    have HBW := Lib.hid (show Below w.heap.size w W by rw [hW]; exact Below.alloc (Below.refl _ _) (Nat.le_refl _) _)
    rw [← hW]
    clear hW
    refine wp_region_below (by kernel_rfl) (by kernel_rfl) ?_
    (with_reducible refine wpQuiet_yes ?_ ?_; (focus (kernel_rfl)); intro K hK; go_simp; refine ⟨_, fun _ _ => rfl, ?_⟩; with_reducible refine hK _ ?_; clear hK K)
    (with_reducible refine wpQuiet_yes ?_ ?_; (focus (kernel_rfl)); intro K hK; go_simp; refine ⟨(.iface 188 (.agg #[a1, b1, c1])), ?_, ?_⟩; rotate_left; with_reducible refine hK _ ?_; clear hK K; rotate_left)
    · intro w' hw
      obtain ⟨c1, c2⟩ := HC.out w' hw
      simp only [c1, go_sem, Result.andThen, and_self]
    (with_reducible refine wpQuiet_yes ?_ ?_; (focus (kernel_rfl)); intro K hK; go_simp; refine ⟨(.string A), ?_, ?_⟩; rotate_left; with_reducible refine hK _ ?_; clear hK K; rotate_left)
    · intro w' hw
      exact (HA.out w').mono fun e w'' ⟨he, h⟩ => ⟨he, hw.trans (h.mono hw.size)⟩
    (with_reducible refine wpQuiet_yes ?_ ?_; (focus (kernel_rfl)); intro K hK; go_simp; refine ⟨_, fun _ _ => rfl, ?_⟩; with_reducible refine hK _ ?_; clear hK K)
    (with_reducible refine wpQuiet_yes ?_ ?_; (focus (kernel_rfl)); intro K hK; go_simp; refine ⟨_, fun _ _ => rfl, ?_⟩; with_reducible refine hK _ ?_; clear hK K)
    (with_reducible refine wpQuiet_yes ?_ ?_; (focus (kernel_rfl)); intro K hK; go_simp; refine ⟨_, fun _ _ => rfl, ?_⟩; with_reducible refine hK _ ?_; clear hK K)
    (with_reducible refine wpQuiet_yes ?_ ?_; (focus (kernel_rfl)); intro K hK; go_simp; refine ⟨_, fun _ _ => rfl, ?_⟩; with_reducible refine hK _ ?_; clear hK K)
    (with_reducible refine wpQuiet_yes ?_ ?_; (focus (kernel_rfl)); intro K hK; go_simp; refine ⟨(.iface 188 (.agg #[a2, b2, c2])), ?_, ?_⟩; rotate_left; with_reducible refine hK _ ?_; clear hK K; rotate_left)
    · intro w' hw
      obtain ⟨c1, c2⟩ := HC.out w' hw
      simp only [c2, go_sem, Result.andThen, and_self]
    (with_reducible refine wpQuiet_yes ?_ ?_; (focus (kernel_rfl)); intro K hK; go_simp; refine ⟨(.string B), ?_, ?_⟩; rotate_left; with_reducible refine hK _ ?_; clear hK K; rotate_left)
    · intro w' hw
      exact (HB.out w').mono fun e w'' ⟨he, h⟩ => ⟨he, hw.trans (h.mono hw.size)⟩
    (with_reducible refine wpQuiet_yes ?_ ?_; (focus (kernel_rfl)); intro K hK; go_simp; refine ⟨_, fun _ _ => rfl, ?_⟩; with_reducible refine hK _ ?_; clear hK K)
    (with_reducible refine wpQuiet_yes ?_ ?_; (focus (kernel_rfl)); intro K hK; go_simp; refine ⟨_, fun _ _ => rfl, ?_⟩; with_reducible refine hK _ ?_; clear hK K)
    (with_reducible refine wpQuiet_yes ?_ ?_; (focus (kernel_rfl)); intro K hK; go_simp; refine ⟨_, fun _ _ => rfl, ?_⟩; with_reducible refine hK _ ?_; clear hK K)
    refine wpQuiet_nil fun w2 hb2 => ?_
    have HB2 := Lib.hid (HBW.out.trans (hb2.mono HBW.out.size))
    clear hb2
    simp only [Exit.then]
    go_wp2_with fail
    go_ret
    exact ⟨rfl, HB2.out⟩
  · rw [show sgnS 3 = ⟨#[32, 42, 32]⟩ from rfl]
    go_enter Try.func249, Try.ntmps249
    go_wp2_with fail
    obtain ⟨W, hW⟩ : ∃ W, W = w.alloc (Obj.cells #[.int .i64 3, .iface 188 (.agg #[a1, b1, c1]), .iface 188 (.agg #[a2, b2, c2])] 188) := ⟨_, rfl⟩
    have HC := Lib.hid (fun w' (hb : Below W.heap.size W w') => show w'.cell? ⟨w.heap.size, 1, none⟩ = some (.iface 188 (.agg #[a1, b1, c1])) ∧ w'.cell? ⟨w.heap.size, 2, none⟩ = some (.iface 188 (.agg #[a2, b2, c2])) by
      have hs : w.heap.size < W.heap.size := by rw [hW]; simp
      exact ⟨by rw [hb.cell (p := ⟨w.heap.size, 1, none⟩) hs, hW]; simp [go_sem], by rw [hb.cell (p := ⟨w.heap.size, 2, none⟩) hs, hW]; simp [go_sem]⟩)
    have HBW := Lib.hid (show Below w.heap.size w W by rw [hW]; exact Below.alloc (Below.refl _ _) (Nat.le_refl _) _)
    rw [← hW]
    clear hW
    refine wp_region_below (by kernel_rfl) (by kernel_rfl) ?_
    (with_reducible refine wpQuiet_yes ?_ ?_; (focus (kernel_rfl)); intro K hK; go_simp; refine ⟨_, fun _ _ => rfl, ?_⟩; with_reducible refine hK _ ?_; clear hK K)
    (with_reducible refine wpQuiet_yes ?_ ?_; (focus (kernel_rfl)); intro K hK; go_simp; refine ⟨(.iface 188 (.agg #[a1, b1, c1])), ?_, ?_⟩; rotate_left; with_reducible refine hK _ ?_; clear hK K; rotate_left)
    · intro w' hw
      obtain ⟨c1, c2⟩ := HC.out w' hw
      simp only [c1, go_sem, Result.andThen, and_self]
    (with_reducible refine wpQuiet_yes ?_ ?_; (focus (kernel_rfl)); intro K hK; go_simp; refine ⟨(.string A), ?_, ?_⟩; rotate_left; with_reducible refine hK _ ?_; clear hK K; rotate_left)
    · intro w' hw
      exact (HA.out w').mono fun e w'' ⟨he, h⟩ => ⟨he, hw.trans (h.mono hw.size)⟩
    (with_reducible refine wpQuiet_yes ?_ ?_; (focus (kernel_rfl)); intro K hK; go_simp; refine ⟨_, fun _ _ => rfl, ?_⟩; with_reducible refine hK _ ?_; clear hK K)
    (with_reducible refine wpQuiet_yes ?_ ?_; (focus (kernel_rfl)); intro K hK; go_simp; refine ⟨_, fun _ _ => rfl, ?_⟩; with_reducible refine hK _ ?_; clear hK K)
    (with_reducible refine wpQuiet_yes ?_ ?_; (focus (kernel_rfl)); intro K hK; go_simp; refine ⟨_, fun _ _ => rfl, ?_⟩; with_reducible refine hK _ ?_; clear hK K)
    (with_reducible refine wpQuiet_yes ?_ ?_; (focus (kernel_rfl)); intro K hK; go_simp; refine ⟨_, fun _ _ => rfl, ?_⟩; with_reducible refine hK _ ?_; clear hK K)
    (with_reducible refine wpQuiet_yes ?_ ?_; (focus (kernel_rfl)); intro K hK; go_simp; refine ⟨(.iface 188 (.agg #[a2, b2, c2])), ?_, ?_⟩; rotate_left; with_reducible refine hK _ ?_; clear hK K; rotate_left)
    · intro w' hw
      obtain ⟨c1, c2⟩ := HC.out w' hw
      simp only [c2, go_sem, Result.andThen, and_self]
    (with_reducible refine wpQuiet_yes ?_ ?_; (focus (kernel_rfl)); intro K hK; go_simp; refine ⟨(.string B), ?_, ?_⟩; rotate_left; with_reducible refine hK _ ?_; clear hK K; rotate_left)
    · intro w' hw
      exact (HB.out w').mono fun e w'' ⟨he, h⟩ => ⟨he, hw.trans (h.mono hw.size)⟩
    (with_reducible refine wpQuiet_yes ?_ ?_; (focus (kernel_rfl)); intro K hK; go_simp; refine ⟨_, fun _ _ => rfl, ?_⟩; with_reducible refine hK _ ?_; clear hK K)
    (with_reducible refine wpQuiet_yes ?_ ?_; (focus (kernel_rfl)); intro K hK; go_simp; refine ⟨_, fun _ _ => rfl, ?_⟩; with_reducible refine hK _ ?_; clear hK K)
    (with_reducible refine wpQuiet_yes ?_ ?_; (focus (kernel_rfl)); intro K hK; go_simp; refine ⟨_, fun _ _ => rfl, ?_⟩; with_reducible refine hK _ ?_; clear hK K)
    refine wpQuiet_nil fun w2 hb2 => ?_
    have HB2 := Lib.hid (HBW.out.trans (hb2.mono HBW.out.size))
    clear hb2
    simp only [Exit.then]
    go_wp2_with fail
    go_ret
    exact ⟨rfl, HB2.out⟩
end Go.Proofs.Ytegkcfinklcglaa
namespace Go.Proofs.Ytegkcfinklcglaa
open Go.RowKit
theorem sh500 {f : Fm} (h : leavesF f ≤ 60) : (shF f).size ≤ 500 := by
  have := shF_size f
  omega
theorem iText (p : Int) (hp : isP p = true) : ∀ (f : Fm) (w : World), okF p f → leavesF f ≤ 60 → Calls Try.prog (textId f) #[textV f] w fun e w' => e = .returned (.string (shF f)) ∧ Below w.heap.size w w'
  | .leaf k a, w, hok, _ => by
    have hb := isP_bd hp
    rcases hok with ⟨rfl, ha⟩ | ⟨rfl, h0, h1⟩
    · exact iGText0 a ha w
    · exact iGText1 a h0 (by omega) w
  | .pair k f g, w, hok, hl => by
    obtain ⟨hk, hof, hog⟩ := hok
    have hl' : leavesF f + leavesF g ≤ 60 := hl
    have IF := fun w => iText p hp f w hof (by omega)
    have IG := fun w => iText p hp g w hog (by omega)
    have zf := sh500 (f := f) (by omega)
    have zg := sh500 (f := g) (by omega)
    cases f with
    | leaf ka aa => cases g with
      | leaf kb ab => exact iPairLL k _ _ _ _ _ _ _ _ zf zg w rfl rfl IF IG hk
      | pair kb u v => exact iPairLP k _ _ _ _ _ _ _ _ zf zg w rfl rfl IF IG hk
    | pair ka x y => cases g with
      | leaf kb ab => exact iPairPL k _ _ _ _ _ _ _ _ zf zg w rfl rfl IF IG hk
      | pair kb u v => exact iPairPP k _ _ _ _ _ _ _ _ zf zg w rfl rfl IF IG hk
/-- what ShowFormula returns -/
def showV (p : Int) (s : ByteArray) : ByteArray := match foF p s with
  | none => ⟨#[]⟩
  | some f => shF f
set_option maxRecDepth 100000 in
set_option maxHeartbeats 4000000 in
theorem iShowFormula (p : Int) (s : ByteArray) (w : World) :
    Calls Try.prog 77 #[.int .i64 p, .string s] w fun e w' => e = .returned (.string (showV p s)) ∧ Below w.heap.size w w' := by
  have HF := Lib.hid (iFormulaOf p s)
  cases h : foF p s with
  | none =>
    rw [h] at HF
    have e : showV p s = ⟨#[]⟩ := by unfold showV; rw [h]
    rw [e]
    clear h e
    go_enter Try.func77, Try.ntmps77
    go_wp2_with fail
    refine (HF.out _).mono ?_
    rintro e w' ⟨rfl, hb⟩
    have HB := Lib.hid hb
    clear hb
    simp only [optV]
    go_wp2_with fail
    go_ret
    exact ⟨rfl, HB.out⟩
  | some f =>
    have e : showV p s = shF f := by unfold showV; rw [h]
    rw [e]
    have HT := Lib.hid (fun w => iText p (foF_some h).1 f w (formF_ok (foF_some h).2.2) (foF_leaves h))
    obtain ⟨A, hA⟩ : ∃ A, A = shF f := ⟨_, rfl⟩
    rw [h] at HF
    rw [← hA] at HT ⊢
    clear h e hA
    cases f with
    | leaf k a =>
      have HT2 := Lib.hid (show ∀ w, Calls Try.prog 246 #[.agg #[.int .i64 k, .int .i64 a, .int .i64 0]] w fun e w' => e = .returned (.string A) ∧ Below w.heap.size w w' from HT.out)
      clear HT
      go_enter Try.func77, Try.ntmps77
      go_wp2_with fail
      refine (HF.out _).mono ?_
      rintro e w' ⟨rfl, hb⟩
      have HB := Lib.hid hb
      clear hb
      simp only [optV, fmV]
      go_wp2_with fail
      refine (HT2.out _).mono ?_
      rintro e w2 ⟨rfl, hb2⟩
      have HB2 := Lib.hid (HB.out.trans (hb2.mono HB.out.size))
      clear hb2
      go_wp2_with fail
      go_ret
      exact ⟨rfl, HB2.out⟩
    | pair k u v =>
      obtain ⟨U, hU⟩ : ∃ U, U = fmV u := ⟨_, rfl⟩
      obtain ⟨V, hV⟩ : ∃ V, V = fmV v := ⟨_, rfl⟩
      have HT2 := Lib.hid (show ∀ w, Calls Try.prog 249 #[.agg #[.int .i64 k, U, V]] w fun e w' => e = .returned (.string A) ∧ Below w.heap.size w w' by rw [hU, hV]; exact HT.out)
      have HF2 := Lib.hid (show ∀ w, Calls Try.prog 144 #[.int .i64 p, .string s] w fun e w' => e = .returned (.iface 188 (.agg #[.int .i64 k, U, V])) ∧ Below w.heap.size w w' by rw [hU, hV]; exact HF.out)
      clear HT HF hU hV
      go_enter Try.func77, Try.ntmps77
      go_wp2_with fail
      refine (HF2.out _).mono ?_
      rintro e w' ⟨rfl, hb⟩
      have HB := Lib.hid hb
      clear hb
      go_wp2_with fail
      refine (HT2.out _).mono ?_
      rintro e w2 ⟨rfl, hb2⟩
      have HB2 := Lib.hid (HB.out.trans (hb2.mono HB.out.size))
      clear hb2
      go_wp2_with fail
      go_ret
      exact ⟨rfl, HB2.out⟩
theorem byte1 (w : World) (b : Nat) (c : Int) (h : w.cell? ⟨b, 0, none⟩ = some (.int .u8 c)) : (convert 22 9 (.slice (some ⟨b, 0, none⟩) 1 1)).run Try.prog w = .ok (.string ⟨#[UInt8.ofNat c.toNat]⟩) w :=
  run_convert_bytes_arg (P := Try.prog) w 22 5 (by kernel_rfl) (by kernel_rfl) b 0 1 1 [c] rfl (fun i hi => by
    have : i = 0 := by omega
    subst this
    simpa using h) 9 (by kernel_rfl)
set_option maxRecDepth 100000 in
set_option maxHeartbeats 8000000 in
theorem sDec (a : Int) (ha : a = 10 ∨ a = 11 ∨ a = 12) (w : World) : Calls Try.prog 190 #[.int .i64 a] w fun e w' => e = .returned (.string (decB a)) ∧ Below w.heap.size w w' := by
  rcases ha with rfl | rfl | rfl
  · have h1 := byte1 (w.alloc (Obj.cells #[.int .u8 48] 5)) w.heap.size 48 (by simp [go_sem])
    have h2 := byte1 ((w.alloc (Obj.cells #[.int .u8 48] 5)).alloc (Obj.cells #[.int .u8 49] 5)) (w.heap.size + 1) 49 (by simp [go_sem])
    go_enter Try.func190, Try.ntmps190
    go_wp2_with fail
    refine wp_loop_rounds 2 ?_
    rw [rounds_succ]
    go_wp2_with fail
    rw [rounds_succ]
    go_wp2_with fail
    go_ret
    exact ⟨by kernel_rfl, Below.alloc (Below.alloc (Below.refl _ _) (Nat.le_refl _) _) (by simp) _⟩
  · have h1 := byte1 (w.alloc (Obj.cells #[.int .u8 49] 5)) w.heap.size 49 (by simp [go_sem])
    have h2 := byte1 ((w.alloc (Obj.cells #[.int .u8 49] 5)).alloc (Obj.cells #[.int .u8 49] 5)) (w.heap.size + 1) 49 (by simp [go_sem])
    go_enter Try.func190, Try.ntmps190
    go_wp2_with fail
    refine wp_loop_rounds 2 ?_
    rw [rounds_succ]
    go_wp2_with fail
    rw [rounds_succ]
    go_wp2_with fail
    go_ret
    exact ⟨by kernel_rfl, Below.alloc (Below.alloc (Below.refl _ _) (Nat.le_refl _) _) (by simp) _⟩
  · have h1 := byte1 (w.alloc (Obj.cells #[.int .u8 50] 5)) w.heap.size 50 (by simp [go_sem])
    have h2 := byte1 ((w.alloc (Obj.cells #[.int .u8 50] 5)).alloc (Obj.cells #[.int .u8 49] 5)) (w.heap.size + 1) 49 (by simp [go_sem])
    go_enter Try.func190, Try.ntmps190
    go_wp2_with fail
    refine wp_loop_rounds 2 ?_
    rw [rounds_succ]
    go_wp2_with fail
    rw [rounds_succ]
    go_wp2_with fail
    go_ret
    exact ⟨by kernel_rfl, Below.alloc (Below.alloc (Below.refl _ _) (Nat.le_refl _) _) (by simp) _⟩
theorem extract_one {s : ByteArray} {i : Nat} (h : i < s.size) : s.extract i (i + 1) = ⟨#[s[i]]⟩ := by
  apply ByteArray.ext
  rw [ByteArray.data_extract]
  apply Array.ext'
  rw [Array.toList_extract, List.extract_eq_drop_take', List.drop_take, drop_at h]
  simp
set_option maxRecDepth 100000 in
set_option maxHeartbeats 8000000 in
theorem sShow (p : Int) (s : ByteArray) (hs : s.size ≤ 60) : ∀ (n i : Nat) (f : Fm) (t1 : List UInt8) (w : World), parseF p n (s.data.toList.drop i) = some (f, t1) → i ≤ s.size →
    Calls Try.prog 151 #[.string s, .int .i64 (i : Int)] w fun e w' => e = .returned (.tuple #[.string (shF f), .int .i64 ((s.size : Int) - t1.length)]) ∧ Below w.heap.size w w'
  | n, i, f, t1, w, hpf, hi => by
    have hsl : s.data.toList.length = s.size := by rw [Array.length_toList]; rfl
    by_cases hlt : i < s.size
    · cases n with
      | zero => simp [parseF] at hpf
      | succ n =>
        have hdr := drop_at hlt
        obtain ⟨c, hc⟩ : ∃ c, c = s[i] := ⟨_, rfl⟩
        rw [← hc] at hdr
        have hltp : (i : Int) < (s.size : Int) := by omega
        have hi0 : (0 : Int) ≤ (i : Int) := by omega
        have hw2 : IntKind.i64.wrap ((i : Int) + 1) = (i : Int) + 1 := IntWalk.i64_in _ (by omega)
        have hcn : ((s[i].toNat : Nat) : Int) = ((c.toNat : Nat) : Int) := by rw [hc]
        have hlen : (s.data.toList.drop (i + 1)).length = s.size - (i + 1) := by rw [List.length_drop, hsl]
        rw [hdr] at hpf
        simp only [parseF] at hpf
        split at hpf
        · rename_i hsg
          cases h1 : parseF p n (s.data.toList.drop (i + 1)) with
          | none => rw [h1] at hpf; simp at hpf
          | some r1 =>
            obtain ⟨f1, u1⟩ := r1
            rw [h1] at hpf
            simp only at hpf
            cases h2 : parseF p n u1 with
            | none => rw [h2] at hpf; simp at hpf
            | some r2 =>
              obtain ⟨f2, u2⟩ := r2
              rw [h2] at hpf
              simp at hpf
              obtain ⟨rfl, rfl⟩ := hpf
              have e1 := parseF_drop h1
              have l1 := parseF_len h1
              have e2 : u1 = s.data.toList.drop (s.size - u1.length) := by
                rw [List.drop_drop] at e1
                rw [show s.size - u1.length = i + 1 + ((s.data.toList.drop (i + 1)).length - u1.length) by omega]
                exact e1
              have hcast : ((i + 1 : Nat) : Int) = (i : Int) + 1 := by omega
              have hcast2 : ((s.size - u1.length : Nat) : Int) = (s.size : Int) - u1.length := by omega
              have IH1 := Lib.hid (fun w => hcast ▸ sShow p s hs n (i + 1) f1 u1 w h1 (by omega))
              have h2' : parseF p n (s.data.toList.drop (s.size - u1.length)) = some (f2, u2) := by rw [← e2]; exact h2
              have IH2 := Lib.hid (fun w => hcast2 ▸ sShow p s hs n (s.size - u1.length) f2 u2 w h2' (by omega))
              have z1 : (shF f1).size ≤ 500 := sh500 (by
                have e := parseF_leaves h1
                have := List.length_filter_le (fun c => !signB c) (s.data.toList.drop (i + 1))
                omega)
              have z2 : (shF f2).size ≤ 500 := sh500 (by
                have e := parseF_leaves h2
                have := List.length_filter_le (fun c => !signB c) u1
                omega)
              have hev : shF (.pair (kindB c) f1 f2) = (((⟨#[40]⟩ ++ shF f1) ++ sgnS (kindB c)) ++ shF f2) ++ ⟨#[41]⟩ := rfl
              rw [hev]
              obtain ⟨A, ha⟩ : ∃ a, a = shF f1 := ⟨_, rfl⟩
              obtain ⟨B, hb⟩ : ∃ b, b = shF f2 := ⟨_, rfl⟩
              obtain ⟨j, hj⟩ : ∃ j : Int, j = (s.size : Int) - u1.length := ⟨_, rfl⟩
              obtain ⟨k, hk⟩ : ∃ k : Int, k = (s.size : Int) - u2.length := ⟨_, rfl⟩
              rw [← ha] at z1 IH1 ⊢
              rw [← hb] at z2 IH2 ⊢
              rw [← hj] at IH1 IH2
              rw [← hk] at IH2 ⊢
              have n1 : ¬ 9223372036854775807 < 1 + A.size := by omega
              have n2 : ¬ 9223372036854775807 < 1 + A.size + 3 := by omega
              have n3 : ¬ 9223372036854775807 < 1 + A.size + 3 + B.size := by omega
              have n4 : ¬ 9223372036854775807 < 1 + A.size + 3 + B.size + 1 := by omega
              have hcs : c = 43 ∨ c = 42 := by simpa [signB] using hsg
              clear hdr hc hlen h1 h2 h2' e1 l1 e2 hcast hcast2 hev ha hb hj hk hsg z1 z2
              go_enter Try.func151, Try.ntmps151
              rcases hcs with rfl | rfl
              · rw [show (((43 : UInt8).toNat : Nat) : Int) = 43 from rfl] at hcn
                rw [show sgnS (kindB 43) = ⟨#[32, 43, 32]⟩ from rfl]
                go_wp2_with fail
                refine (IH1.out _).mono ?_
                rintro e w1 ⟨rfl, hb1⟩
                have HB1 := Lib.hid hb1
                clear hb1
                go_wp2_with fail
                refine (IH2.out _).mono ?_
                rintro e w2 ⟨rfl, hb2⟩
                have HB2 := Lib.hid (HB1.out.trans (hb2.mono HB1.out.size))
                clear hb2
                go_wp2_with fail
                refine bodyPost_ret (results_tmp2 rfl _ _ _) rfl ?_
                exact ⟨rfl, HB2.out⟩
              · rw [show (((42 : UInt8).toNat : Nat) : Int) = 42 from rfl] at hcn
                rw [show sgnS (kindB 42) = ⟨#[32, 42, 32]⟩ from rfl]
                go_wp2_with fail
                refine (IH1.out _).mono ?_
                rintro e w1 ⟨rfl, hb1⟩
                have HB1 := Lib.hid hb1
                clear hb1
                go_wp2_with fail
                refine (IH2.out _).mono ?_
                rintro e w2 ⟨rfl, hb2⟩
                have HB2 := Lib.hid (HB1.out.trans (hb2.mono HB1.out.size))
                clear hb2
                go_wp2_with fail
                refine bodyPost_ret (results_tmp2 rfl _ _ _) rfl ?_
                exact ⟨rfl, HB2.out⟩
        · rename_i hsg
          cases h1 : leafB p c with
          | none => rw [h1] at hpf; simp at hpf
          | some r1 =>
            obtain ⟨k, a⟩ := r1
            rw [h1] at hpf
            simp at hpf
            obtain ⟨rfl, rfl⟩ := hpf
            have hok := leafB_sh h1
            have n43 : ¬ ((c.toNat : Nat) : Int) = 43 := byte_ne (b := 43) (fun e => by rw [e] at hsg; simp [signB] at hsg)
            have n42 : ¬ ((c.toNat : Nat) : Int) = 42 := byte_ne (b := 42) (fun e => by rw [e] at hsg; simp [signB] at hsg)
            have hend : (s.size : Int) - ((s.data.toList.drop (i + 1)).length : Nat) = (i : Int) + 1 := by rw [hlen]; omega
            rw [hend]
            obtain ⟨d, hd⟩ : ∃ d, d = Lib.indexByte digB c := ⟨_, rfl⟩
            have HF := Lib.hid (fun w => show Calls Try.prog 189 #[.string ⟨#[48, 49, 50, 51, 52, 53, 54, 55, 56, 57, 65, 66, 67]⟩, .int .u8 (c.toNat : Int)] w fun e w' => e = .returned (.int .i64 d) ∧ w' = w by
              rw [hd]
              exact sFind ⟨#[48, 49, 50, 51, 52, 53, 54, 55, 56, 57, 65, 66, 67]⟩ c w (by decide))
            rw [← hd] at hok
            have hx : s.extract i (i + 1) = ⟨#[c]⟩ := by rw [extract_one hlt, hc]
            have hle : (i : Int) + 1 ≤ (s.size : Int) := by omega
            have hi1 : (0 : Int) ≤ (i : Int) + 1 := by omega
            have hii : (i : Int) ≤ (i : Int) + 1 := by omega
            obtain ⟨X, hX⟩ : ∃ X, X = shF (.leaf k a) := ⟨_, rfl⟩
            rw [← hX]
            have hX2 : X = if k = 0 then letS a else decB a := hX
            by_cases h9 : 9 < d
            · have hda : d = 10 ∨ d = 11 ∨ d = 12 := by
                rcases hok with ⟨_, h, _⟩ | ⟨_, h, _, h3, h4⟩ <;> omega
              have hXd : X = decB d := by
                rcases hok with ⟨_, h, _⟩ | ⟨rfl, rfl, _, _, _⟩
                · omega
                · rw [hX2]; rfl
              have HD := Lib.hid (fun w => sDec d hda w)
              rw [← hXd] at HD
              clear hdr hc hlen h1 hsg hend hd hok hda hXd hX hX2 hx
              go_enter Try.func151, Try.ntmps151
              go_wp2_with fail
              refine (HF.out _).mono ?_
              rintro e w1 ⟨rfl, rfl⟩
              go_wp2_with fail
              refine (HD.out _).mono ?_
              rintro e w2 ⟨rfl, hb2⟩
              have HB2 := Lib.hid hb2
              clear hb2
              go_wp2_with fail
              refine bodyPost_ret (results_tmp2 rfl _ _ _) rfl ?_
              exact ⟨rfl, HB2.out⟩
            · have hXc : X = ⟨#[c]⟩ := by
                rcases hok with ⟨rfl, _, h⟩ | ⟨rfl, rfl, h, _, _⟩
                · rw [hX2, h]; rfl
                · rw [hX2, h (by omega)]; rfl
              have HX := Lib.hid (show s.extract i (i + 1) = X by rw [hx, hXc])
              clear hdr hc hlen h1 hsg hend hd hok hX hX2 hx hXc
              go_enter Try.func151, Try.ntmps151
              go_wp2_with fail
              refine (HF.out _).mono ?_
              rintro e w1 ⟨rfl, rfl⟩
              go_wp2_with fail
              refine bodyPost_ret (results_tmp2 rfl _ _ _) rfl ?_
              exact ⟨by rw [← HX.out]; rfl, Below.refl _ _⟩
    · rw [List.drop_eq_nil_of_le (by omega)] at hpf
      cases n <;> simp [parseF] at hpf
termination_by n _ _ _ => n
set_option maxRecDepth 100000 in
set_option maxHeartbeats 4000000 in
theorem sShowFormula (p : Int) (s : ByteArray) (w : World) :
    Calls Try.prog 78 #[.int .i64 p, .string s] w fun e w' => e = .returned (.string (showV p s)) ∧ Below w.heap.size w w' := by
  have HF := Lib.hid (sFormulaValid p s)
  cases h : foF p s with
  | none =>
    have e : showV p s = ⟨#[]⟩ := by unfold showV; rw [h]
    have e2 : fokB p s = false := by rw [fokB_some, h]; rfl
    rw [e]
    rw [e2] at HF
    clear h e e2
    go_enter Try.func78, Try.ntmps78
    go_wp2_with fail
    refine (HF.out _).mono ?_
    rintro e w1 ⟨rfl, hb1⟩
    have HB := Lib.hid hb1
    clear hb1
    go_wp2_with fail
    go_ret
    exact ⟨rfl, HB.out⟩
  | some f =>
    have e2 : fokB p s = true := by rw [fokB_some, h]; rfl
    rw [e2] at HF
    obtain ⟨hp, hs, hf⟩ := foF_some h
    have e : showV p s = shF f := by unfold showV; rw [h]
    rw [e]
    have hw : parseF p s.size (s.data.toList.drop 0) = some (f, []) := by
      unfold formF at hf
      rw [Array.length_toList] at hf
      rw [List.drop_zero]
      show parseF p s.data.size _ = _
      cases h1 : parseF p s.data.size s.data.toList with
      | none => rw [h1] at hf; simp at hf
      | some r =>
        obtain ⟨g, u⟩ := r
        rw [h1] at hf
        cases u with
        | nil => simp at hf; rw [hf]
        | cons c u => simp at hf
    have HV := Lib.hid (fun w => sShow p s hs s.size 0 f [] w hw (by omega))
    obtain ⟨r, hr⟩ : ∃ r, r = shF f := ⟨_, rfl⟩
    obtain ⟨k, hk⟩ : ∃ k : Int, k = (s.size : Int) - (([] : List UInt8).length : Nat) := ⟨_, rfl⟩
    rw [← hr, ← hk] at HV
    rw [← hr]
    clear h e e2 hf hw hr hk hp
    go_enter Try.func78, Try.ntmps78
    go_wp2_with fail
    refine (HF.out _).mono ?_
    rintro e w1 ⟨rfl, hb1⟩
    have HB := Lib.hid hb1
    clear hb1
    go_wp2_with fail
    refine (HV.out _).mono ?_
    rintro e w2 ⟨rfl, hb2⟩
    have HB2 := Lib.hid (HB.out.trans (hb2.mono HB.out.size))
    clear hb2
    go_wp2_with fail
    go_ret
    exact ⟨rfl, HB2.out⟩
end Go.Proofs.Ytegkcfinklcglaa
