/-
  FormulaOfCircuit, of the model. Conditions: what the slice holds is known.
-/
import Derived.Test.YtiahcaihmgnicaaSpM
import Derived.Test.YtiahcaihmgnicaaQui
namespace Go.Proofs.Ytiahcaihmgnicaa
open Go.RowKit
set_option maxRecDepth 100000 in
set_option maxHeartbeats 8000000 in
theorem sSpread (p : Int) (L : List Gt) (hv : circB p L = true) (g off cap : Nat) : ∀ (i : Nat) (w : World), i < L.length → (tx L i).size ≤ 60 → g < w.heap.size → (∀ j : Nat, j < L.length → GAt w g (off + j * 3) (L.getD j default)) →
    Calls Try.prog 111 #[.slice (some ⟨g, off, none⟩) L.length cap, .int .i64 (i : Int)] w fun e w' => e = .returned (.string (tx L i)) ∧ Below w.heap.size w w' := by
  intro i
  induction i using Nat.strongRecOn with
  | _ i ih =>
    intro w hi hsz hg hc
    have hip : (i : Int) < (L.length : Int) := by omega
    have hi0 : (0 : Int) ≤ (i : Int) := by omega
    obtain ⟨a0, a1, a2⟩ := hc i hi
    obtain ⟨x, hx⟩ : ∃ x, x = L.getD i default := ⟨_, rfl⟩
    rw [← hx] at a0 a1 a2
    have hgx : gAt L i = ⟨x.k, x.a, x.b⟩ := (gat_mk hx).symm
    cases hj : joinsB (gAt L i)
    · rcases tx_leaf hv hi hj with ⟨hk, he, h0, h1⟩ | ⟨hk, he, h0, h1⟩
      · rw [hgx] at hk he h0 h1
        simp only at hk he h0 h1
        rw [he]
        clear ih hc hx hgx he hsz hj
        obtain ⟨xk, xa, xb⟩ := x
        simp only at hk h0 h1 a0 a1 a2 ⊢
        subst hk
        obtain ⟨n, rfl⟩ := Int.eq_ofNat_of_zero_le h0
        have hw : IntKind.i64.wrap ((n : Int) + 1) = (n : Int) + 1 := IntWalk.i64_in _ (by omega)
        have q1 : (n : Int) + 1 ≤ 3 := by omega
        have q2 : (0 : Int) ≤ (n : Int) + 1 := by omega
        have q3 : (n : Int) ≤ (n : Int) + 1 := by omega
        go_enter Try.func111, Try.ntmps111
        go_wp2_with fail
        go_ret
        exact ⟨rfl, Below.alloc (Below.refl _ _) (Nat.le_refl _) _⟩
      · rw [hgx] at hk he h0 h1
        simp only at hk he h0 h1
        rw [he]
        clear ih hc hx hgx he hsz hj
        obtain ⟨xk, xa, xb⟩ := x
        simp only at hk h0 h1 a0 a1 a2 ⊢
        subst hk
        obtain ⟨n, rfl⟩ := Int.eq_ofNat_of_zero_le h0
        have hw : IntKind.i64.wrap ((n : Int) + 1) = (n : Int) + 1 := IntWalk.i64_in _ (by omega)
        have q1 : (n : Int) + 1 ≤ 13 := by omega
        have q2 : (0 : Int) ≤ (n : Int) + 1 := by omega
        have q3 : (n : Int) ≤ (n : Int) + 1 := by omega
        go_enter Try.func111, Try.ntmps111
        go_wp2_with fail
        go_ret
        exact ⟨rfl, Below.alloc (Below.refl _ _) (Nat.le_refl _) _⟩
    · obtain ⟨he, ha, hb⟩ := tx_join hv hi hj
      have hk : (gAt L i).k = 2 ∨ (gAt L i).k = 3 := by simpa [joinsB] using hj
      have hcs := gOK_cases ((circB_iff.1 hv).2.2.2 i hi)
      rw [hgx] at he ha hb hk hcs
      simp only at he ha hb hk hcs
      have hsz2 := hsz
      rw [he] at hsz2 ⊢
      simp only [ByteArray.size_append, sgS_size] at hsz2
      obtain ⟨W, hW⟩ : ∃ W, W = w.alloc (Obj.cells #[.int .i64 x.k, .int .i64 x.a, .int .i64 x.b] 93) := ⟨_, rfl⟩
      have hB0 : Below w.heap.size w W := by rw [hW]; exact Below.alloc (Below.refl _ _) (Nat.le_refl _) _
      have hs : w.heap.size < W.heap.size := by rw [hW]; simp
      have HC := Lib.hid (fun w' (hb : Below W.heap.size W w') => show w'.cell? ⟨w.heap.size, 1, none⟩ = some (.int .i64 x.a) ∧ w'.cell? ⟨w.heap.size, 2, none⟩ = some (.int .i64 x.b) from
        ⟨by rw [hb.cell (p := ⟨w.heap.size, 1, none⟩) hs, hW]; simp [go_sem], by rw [hb.cell (p := ⟨w.heap.size, 2, none⟩) hs, hW]; simp [go_sem]⟩)
      have IA := Lib.hid (fun w' (hb' : Below W.heap.size W w') => ih x.a.toNat ha w' (by omega) (by omega) (Nat.lt_of_lt_of_le (by omega) hb'.size) (fun j hj => ((hc j hj).below hB0 hg).below hb' (by omega)))
      have IB := Lib.hid (fun w' (hb' : Below W.heap.size W w') => ih x.b.toNat hb w' (by omega) (by omega) (Nat.lt_of_lt_of_le (by omega) hb'.size) (fun j hj => ((hc j hj).below hB0 hg).below hb' (by omega)))
      rw [show ((x.a.toNat : Nat) : Int) = x.a by omega] at IA
      rw [show ((x.b.toNat : Nat) : Int) = x.b by omega] at IB
      obtain ⟨A, hA⟩ : ∃ A, A = tx L x.a.toNat := ⟨_, rfl⟩
      obtain ⟨B, hBe⟩ : ∃ B, B = tx L x.b.toNat := ⟨_, rfl⟩
      rw [← hA] at IA hsz2 ⊢
      rw [← hBe] at IB hsz2 ⊢
      have n1 : ¬ 9223372036854775807 < 1 + A.size := by omega
      have n2 : ¬ 9223372036854775807 < 1 + A.size + B.size := by omega
      have HW := Lib.hid hW
      have HB0 := Lib.hid hB0
      clear ih hc hx hgx he hsz hsz2 hj hA hBe ha hb hcs hW hB0 hs
      obtain ⟨xk, xa, xb⟩ := x
      simp only at hk a0 a1 a2 HC IA IB HW ⊢
      rcases hk with rfl | rfl
      all_goals
        first | rw [show sgS 2 = ⟨#[43]⟩ from rfl] | rw [show sgS 3 = ⟨#[42]⟩ from rfl]
        go_enter Try.func111, Try.ntmps111
        go_wp2_with fail
        rw [← HW.out]
        refine wp_region_below (by kernel_rfl) (by kernel_rfl) ?_
        (with_reducible refine wpQuiet_yes ?_ ?_; (focus (kernel_rfl)); intro K hK; go_simp; refine ⟨_, fun _ _ => rfl, ?_⟩; with_reducible refine hK _ ?_; clear hK K)
        (with_reducible refine wpQuiet_yes ?_ ?_; (focus (kernel_rfl)); intro K hK; go_simp; refine ⟨_, fun _ _ => rfl, ?_⟩; with_reducible refine hK _ ?_; clear hK K)
        (with_reducible refine wpQuiet_yes ?_ ?_; (focus (kernel_rfl)); intro K hK; go_simp; refine ⟨(.int .i64 xa), ?_, ?_⟩; rotate_left; with_reducible refine hK _ ?_; clear hK K; rotate_left)
        · intro w' hw
          obtain ⟨c1, c2⟩ := HC.out w' hw
          simp only [c1, go_sem, Result.andThen, and_self]
        (with_reducible refine wpQuiet_yes ?_ ?_; (focus (kernel_rfl)); intro K hK; go_simp; refine ⟨(.string A), ?_, ?_⟩; rotate_left; with_reducible refine hK _ ?_; clear hK K; rotate_left)
        · intro w' hw
          exact (IA.out w' hw).mono fun e w'' ⟨he, h⟩ => ⟨he, hw.trans (h.mono hw.size)⟩
        (with_reducible refine wpQuiet_yes ?_ ?_; (focus (kernel_rfl)); intro K hK; go_simp; refine ⟨_, fun _ _ => rfl, ?_⟩; with_reducible refine hK _ ?_; clear hK K)
        (with_reducible refine wpQuiet_yes ?_ ?_; (focus (kernel_rfl)); intro K hK; go_simp; refine ⟨_, fun _ _ => rfl, ?_⟩; with_reducible refine hK _ ?_; clear hK K)
        (with_reducible refine wpQuiet_yes ?_ ?_; (focus (kernel_rfl)); intro K hK; go_simp; refine ⟨_, fun _ _ => rfl, ?_⟩; with_reducible refine hK _ ?_; clear hK K)
        (with_reducible refine wpQuiet_yes ?_ ?_; (focus (kernel_rfl)); intro K hK; go_simp; refine ⟨(.int .i64 xb), ?_, ?_⟩; rotate_left; with_reducible refine hK _ ?_; clear hK K; rotate_left)
        · intro w' hw
          obtain ⟨c1, c2⟩ := HC.out w' hw
          simp only [c2, go_sem, Result.andThen, and_self]
        (with_reducible refine wpQuiet_yes ?_ ?_; (focus (kernel_rfl)); intro K hK; go_simp; refine ⟨(.string B), ?_, ?_⟩; rotate_left; with_reducible refine hK _ ?_; clear hK K; rotate_left)
        · intro w' hw
          exact (IB.out w' hw).mono fun e w'' ⟨he, h⟩ => ⟨he, hw.trans (h.mono hw.size)⟩
        (with_reducible refine wpQuiet_yes ?_ ?_; (focus (kernel_rfl)); intro K hK; go_simp; refine ⟨_, fun _ _ => rfl, ?_⟩; with_reducible refine hK _ ?_; clear hK K)
        (with_reducible refine wpQuiet_yes ?_ ?_; (focus (kernel_rfl)); intro K hK; go_simp; refine ⟨_, fun _ _ => rfl, ?_⟩; with_reducible refine hK _ ?_; clear hK K)
        refine wpQuiet_nil fun w2 hb2 => ?_
        have HB2 := Lib.hid (HB0.out.trans (hb2.mono HB0.out.size))
        clear hb2
        simp only [Exit.then]
        go_wp2_with fail
        go_ret
        exact ⟨rfl, HB2.out⟩
end Go.Proofs.Ytiahcaihmgnicaa
