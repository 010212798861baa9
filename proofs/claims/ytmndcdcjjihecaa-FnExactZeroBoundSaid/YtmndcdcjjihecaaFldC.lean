/-
  Contracts of the element's methods: sum, product, opposite. Conditions: the element's numbers lie in the field of a prime.
-/
import Derived.Test.YtmndcdcjjihecaaFldB
import Derived.Outline
import Derived.Deep.RegionHeld3
import Derived.StillTailTactics
namespace Go.Proofs.Ytmndcdcjjihecaa
open Go.RowKit
set_option maxHeartbeats 400000 in
theorem iTimes (p a b : Int) (hp0 : isP p = true) (ha0 : 0 ≤ a) (ha1 : a < p) (hb0 : 0 ≤ b) (hb1 : b < p) (w : World) :
    Calls Try.prog 96 #[(.agg #[.int .i64 (p), .int .i64 (a)]), (.agg #[.int .i64 (p), .int .i64 (b)])] w fun e w' => e = .returned ((.agg #[.int .i64 (p), .int .i64 (a * b % p)])) ∧ Below w.heap.size w w' := by
  have hp := Lib.hid hp0
  have hb := isP_bd hp0
  obtain ⟨hpb1, hpb2⟩ := hb
  have hab0 : 0 ≤ a * b := Int.mul_nonneg ha0 hb0
  have hab1 : a * b ≤ 169 := by
    have := Int.mul_le_mul (show a ≤ 13 by omega) (show b ≤ 13 by omega) hb0 (by omega)
    omega
  clear hp0
  have hw1 : IntKind.i64.wrap (a * b) = a * b := IntWalk.i64_in _ (by omega)
  go_enter Try.func96, Try.ntmps96
  go_wp2_with fail
  go_region_held3 (fun w' => w'.cell? ⟨w.heap.size, 0, none⟩ = some (.int .i64 p) ∧ w'.cell? ⟨w.heap.size, 1, none⟩ = some (.int .i64 a) ∧ w'.cell? ⟨w.heap.size + 1, 1, none⟩ = some (.int .i64 b)) (go_keep)
    (first | (go_at_call 65; refine (iRed _ _ _ hp.out).mono ?_; rintro e w' ⟨rfl, rfl⟩))
  go_wp2
  exact bodyPost_ret (v := (.agg #[.int .i64 (p), .int .i64 (a * b % p)])) (by simp [results, Try.results96, go_sem]) rfl ⟨rfl, by repeat (first | exact Below.refl _ _ | apply Below.drew | (refine Below.setCell ?_ (by simp <;> omega) _) | (refine Below.alloc ?_ (by simp <;> omega) _))⟩
set_option maxHeartbeats 400000 in
theorem iPlus (p a b : Int) (hp0 : isP p = true) (ha0 : 0 ≤ a) (ha1 : a < p) (hb0 : 0 ≤ b) (hb1 : b < p) (w : World) :
    Calls Try.prog 87 #[(.agg #[.int .i64 (p), .int .i64 (a)]), (.agg #[.int .i64 (p), .int .i64 (b)])] w fun e w' => e = .returned ((.agg #[.int .i64 (p), .int .i64 ((a + b) % p)])) ∧ Below w.heap.size w w' := by
  have hp := Lib.hid hp0
  have hb := isP_bd hp0
  obtain ⟨hpb1, hpb2⟩ := hb
  clear hp0
  have hw1 : IntKind.i64.wrap (a + b) = a + b := IntWalk.i64_in _ (by omega)
  go_enter Try.func87, Try.ntmps87
  go_wp2_with fail
  go_region_held3 (fun w' => w'.cell? ⟨w.heap.size, 0, none⟩ = some (.int .i64 p) ∧ w'.cell? ⟨w.heap.size, 1, none⟩ = some (.int .i64 a) ∧ w'.cell? ⟨w.heap.size + 1, 1, none⟩ = some (.int .i64 b)) (go_keep)
    (first | (go_at_call 65; refine (iRed _ _ _ hp.out).mono ?_; rintro e w' ⟨rfl, rfl⟩))
  go_wp2
  exact bodyPost_ret (v := (.agg #[.int .i64 (p), .int .i64 ((a + b) % p)])) (by simp [results, Try.results87, go_sem]) rfl ⟨rfl, by repeat (first | exact Below.refl _ _ | apply Below.drew | (refine Below.setCell ?_ (by simp <;> omega) _) | (refine Below.alloc ?_ (by simp <;> omega) _))⟩
end Go.Proofs.Ytmndcdcjjihecaa
