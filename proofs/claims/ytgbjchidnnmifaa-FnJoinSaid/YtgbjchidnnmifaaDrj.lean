/-
  Contract of the model's draw of JoinCircuits' arguments. Conditions: the bytes can be read.
-/
import Derived.Test.YtgbjchidnnmifaaDri
namespace Go.Proofs.Ytgbjchidnnmifaa
open Go.RowKit
def sizes4 : List Int := [3, 5, 1, 12]
def kinds8 : List Int := [2, 3, 2, 3, 2, 3, 1, 4]
/-- a number, two lists of gates and a kind -/
def DrawJ (w : World) (e : Ending) (w' : World) : Prop :=
  ∃ (p : Int) (v u : Value) (L M : List Gt) (k : Int), e = .returned (.tuple #[.int .i64 p, v, u, .int .i64 k]) ∧ L.length ≤ 61 ∧ M.length ≤ 61 ∧ OwnGats w' w.heap.size v L ∧ OwnGats w' w.heap.size u M ∧ Below w.heap.size w w'
set_option maxHeartbeats 4000000 in
theorem drawJoin (a : Option Addr) (len cap : Nat) (w : World) (h : ByteRow w a len cap) :
    Calls Try.prog 18 #[.slice a len cap] w (DrawJ w) := by
  go_enter Try.func18, Try.ntmps18
  go_wp2_with fail
  refine (open_any a len cap w h).mono ?_
  rintro e w1 ⟨a1, l1, c1, rfl, hR1, hb1⟩
  have hs1 := hR1.sz
  obtain ⟨R, hR⟩ : ∃ R, R = w.heap.size := ⟨_, rfl⟩
  rw [← hR] at hR1 hs1 ⊢
  have hB1 : Below w.heap.size w w1 := hb1
  have hRw : w.heap.size ≤ R := by omega
  clear hb1 hR
  go_wp2_with fail
  refine (circ_any R a1 l1 c1 0 w1 hR1 (by omega)).mono ?_
  rintro e w2 ⟨p, v, L, q, rfl, _, hL, hq, hR2, hr2, hn2, hg2⟩
  have hB2 := hB1.grown hg2 hB1.size (fun k hk => by cases hk; omega)
  have hs2 : w1.heap.size ≤ w2.heap.size := hg2.size
  clear hg2 hR1 hB1 hn2
  go_wp2_with fail
  refine (field_any p w2).mono ?_
  rintro e w3 ⟨f, rfl, f0, f1, hb3⟩
  have hR3 := hR2.far hb3.size (B := w2.heap.size) (fun k hk => hb3.block k hk) hR2.sz hR2.la
  have hr3 := hr2.below hb3
  have hB3 := hB2.trans (hb3.mono hB2.size)
  have hs3 : w1.heap.size ≤ w3.heap.size := Nat.le_trans hs2 hb3.size
  clear hb3 hR2 hr2 hB2
  go_wp2_with fail
  refine (num_new R a1 l1 c1 q sizes4 4 rfl _ w3 hR3 (by omega) (by decide) (by decide) ?_).mono ?_
  · intro j hj
    have : j = 0 ∨ j = 1 ∨ j = 2 ∨ j = 3 := by simp [sizes4] at hj; omega
    rcases this with rfl | rfl | rfl | rfl
    all_goals rfl
  rintro e w4 ⟨y, rfl, hy, hR4, hg4⟩
  have hy9 : 0 ≤ y ∧ y ≤ 12 := by simp [sizes4] at hy; omega
  obtain ⟨n, rfl⟩ := Int.eq_ofNat_of_zero_le hy9.1
  have hg4' := grown_trans (grown_alloc w3 (.cells #[.int .i64 3, .int .i64 5, .int .i64 1, .int .i64 12] 3) (some R)) hg4
  have hr4 : RowGt w4 w1.heap.size v L := World.ownsRow.kept (row := some R) hr3 hg4' (.inr (hr3.block hs1))
  have hB4 := hB3.grown hg4' hB3.size (fun k hk => by cases hk; omega)
  have hs4 : w1.heap.size ≤ w4.heap.size := Nat.le_trans hs3 hg4'.size
  clear hy hg4 hg4' hR3 hr3 hB3
  go_wp2_with fail
  refine (gates_any R a1 l1 c1 (q + 1) f n f0 f1 (by omega) w4 hR4 (by omega)).mono ?_
  rintro e w5 ⟨v5, M5, q5, rfl, hM5, hq5, hS5⟩
  obtain ⟨g5, c5, rfl⟩ := hS5.sl
  have hR5 := hS5.rd
  have hm5 := hS5.row.mono (Nat.zero_le _)
  have hr5 : RowGt w5 w1.heap.size v L := World.ownsRow.kept (row := some R) hr4 hS5.gr (.inr (hr4.block hs1))
  have hB5 := hB4.grown hS5.gr hB4.size (fun k hk => by cases hk; omega)
  have hs5 : w1.heap.size ≤ w5.heap.size := Nat.le_trans hs4 hS5.gr.size
  clear hS5 hR4 hr4 hB4
  go_wp2_with fail
  refine (bad_any R a1 l1 c1 q5 g5 c5 M5 hM5 w5 hR5 hm5 (by omega)).mono ?_
  rintro e w6 ⟨v6, M, q6, rfl, hM, hq6, hS6⟩
  have hR6 := hS6.rd
  have hm6 : RowGt w6 w1.heap.size v6 M := hS6.row.mono hs5
  have hr6 : RowGt w6 w1.heap.size v L := World.ownsRow.kept (row := some R) hr5 hS6.gr (.inr (hr5.block hs1))
  have hB6 := hB5.grown hS6.gr hB5.size (fun k hk => by cases hk; omega)
  clear hS6 hR5 hr5 hB5 hm5
  go_wp2_with fail
  refine (num_new R a1 l1 c1 q6 kinds8 8 rfl _ w6 hR6 (by omega) (by decide) (by decide) ?_).mono ?_
  · intro j hj
    have : j = 0 ∨ j = 1 ∨ j = 2 ∨ j = 3 ∨ j = 4 ∨ j = 5 ∨ j = 6 ∨ j = 7 := by simp [kinds8] at hj; omega
    rcases this with rfl | rfl | rfl | rfl | rfl | rfl | rfl | rfl
    all_goals rfl
  rintro e w7 ⟨k, rfl, _, hR7, hg7⟩
  have hg7' := grown_trans (grown_alloc w6 (.cells #[.int .i64 2, .int .i64 3, .int .i64 2, .int .i64 3, .int .i64 2, .int .i64 3, .int .i64 1, .int .i64 4] 3) (some R)) hg7
  have hw1 : w.heap.size ≤ w1.heap.size := by omega
  have HO1 := Lib.hid ((RowGt.mono (World.ownsRow.kept (row := some R) hr6 hg7' (.inr (hr6.block hs1)) : RowGt w7 w1.heap.size v L) hw1).own (by omega))
  have HO2 := Lib.hid ((RowGt.mono (World.ownsRow.kept (row := some R) hm6 hg7' (.inr (hm6.block hs1)) : RowGt w7 w1.heap.size v6 M) hw1).own (by omega))
  have HB7 := Lib.hid (hB6.grown hg7' hB6.size (fun k hk => by cases hk; omega))
  clear hR6 hr6 hm6 hB6 hg7 hg7' hR7
  go_wp2_with fail
  refine bodyPost_ret (v := .tuple #[.int .i64 p, v, v6, .int .i64 k]) (by simp [results, Try.results18, go_sem]) rfl ⟨p, v, v6, L, M, k, rfl, hL, hM, HO1.out, HO2.out, HB7.out⟩
end Go.Proofs.Ytgbjchidnnmifaa
