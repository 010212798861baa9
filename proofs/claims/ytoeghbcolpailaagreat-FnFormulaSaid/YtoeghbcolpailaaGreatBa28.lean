/-
  Contracts of the model's EvalGates. Conditions: what the slice holds is known.
  Contracts of EvalGates, of both. Conditions: what the slice holds is known.
-/
import Derived.Test.YtoeghbcolpailaaGreatBa15
import Derived.Test.YtoeghbcolpailaaGreatBa10
import Derived.Test.YtoeghbcolpailaaGreatBa26
import Derived.BigQuiet
import Derived.Deep.QuietTactic
import Derived.Test.YtoeghbcolpailaaGreatBa14
import Derived.Deep.RegionHeld3
namespace Go.Proofs.YtoeghbcolpailaaGreat
open Go.RowKit
def coord (x y z a : Int) : Int := if a == 0 then x else if a == 1 then y else z
/-- the values of the gates below k -/
def evL (p x y z : Int) (L : List Gt) : Nat → List Int
  | 0 => []
  | k + 1 => evL p x y z L k ++ [let g := gAt L k
      if g.k == 0 then coord x y z g.a
      else if g.k == 2 then ((evL p x y z L k).getD g.a.toNat 0 + (evL p x y z L k).getD g.b.toNat 0) % p
      else if g.k == 3 then ((evL p x y z L k).getD g.a.toNat 0 * (evL p x y z L k).getD g.b.toNat 0) % p
      else g.a]
theorem evL_len (p x y z : Int) (L : List Gt) : ∀ k, (evL p x y z L k).length = k
  | 0 => rfl
  | k + 1 => by simp [evL, evL_len p x y z L k]
theorem isE3_iff {p x y z : Int} : isE3 p x y z = true ↔ (0 ≤ x ∧ x < p) ∧ (0 ≤ y ∧ y < p) ∧ (0 ≤ z ∧ z < p) := by simp [isE3, isE]
theorem evL_bd {p x y z : Int} {L : List Gt} (hv : circB p L = true) (he : isE3 p x y z = true) : ∀ k : Nat, k ≤ L.length → ∀ j : Nat, j < k → 0 ≤ (evL p x y z L k).getD j 0 ∧ (evL p x y z L k).getD j 0 < p
  | 0, _, j, h => by omega
  | k + 1, hk, j, hj => by
    have ih := evL_bd hv he k (by omega)
    obtain ⟨hp, _, _, hall⟩ := circB_iff.1 hv
    obtain ⟨p0, p1⟩ := isP_bd hp
    obtain ⟨hx, hy, hz⟩ := isE3_iff.1 he
    have hl := evL_len p x y z L k
    simp only [evL, List.getD_eq_getElem?_getD] at ih ⊢
    by_cases hjk : j < k
    · rw [List.getElem?_append_left (by omega)]
      exact ih j hjk
    · have : j = k := by omega
      subst this
      rw [List.getElem?_append_right (by omega), hl, Nat.sub_self]
      simp only [List.getElem?_cons_zero, Option.getD_some]
      have h := gOK_cases (hall j (by omega))
      generalize gAt L j = g at h
      obtain ⟨gk, ga, gb⟩ := g
      simp only at h ⊢
      split
      · unfold coord; split
        · exact hx
        · split
          · exact hy
          · exact hz
      · split
        · exact ⟨Int.emod_nonneg _ (by omega), Int.emod_lt_of_pos _ (by omega)⟩
        · split
          · exact ⟨Int.emod_nonneg _ (by omega), Int.emod_lt_of_pos _ (by omega)⟩
          · rename_i h0 h2 h3; simp at h0 h2 h3; omega
/-- what EvalGates returns -/
def evV2 (p x y z : Int) (L : List Gt) : List Int := if circB p L && isE3 p x y z then evL p x y z L L.length else []
/-- the values fit the gate -/
theorem evL_step {p x y z : Int} {L : List Gt} {k : Nat} {g : Gt} (hg : gAt L k = g) {v : Int}
    (h : (if g.k == 0 then coord x y z g.a else if g.k == 2 then ((evL p x y z L k).getD g.a.toNat 0 + (evL p x y z L k).getD g.b.toNat 0) % p
      else if g.k == 3 then ((evL p x y z L k).getD g.a.toNat 0 * (evL p x y z L k).getD g.b.toNat 0) % p else g.a) = v) : evL p x y z L (k + 1) = evL p x y z L k ++ [v] := by
  simp only [evL, hg, h]
end Go.Proofs.YtoeghbcolpailaaGreat
namespace Go.Proofs.YtoeghbcolpailaaGreat
open Go.RowKit
theorem addV_at {p a c : Int} (hp : isP p = true) (a0 : 0 ≤ a) (a1 : a < p) (c0 : 0 ≤ c) (c1 : c < p) : addV p a c = (a + c) % p := by
  have : isE2 p a c = true := isE2_iff.2 ⟨hp, ⟨a0, a1⟩, ⟨c0, c1⟩⟩
  simp [addV, this]
theorem mulV_at {p a c : Int} (hp : isP p = true) (a0 : 0 ≤ a) (a1 : a < p) (c0 : 0 ≤ c) (c1 : c < p) : mulV p a c = (a * c) % p := by
  have : isE2 p a c = true := isE2_iff.2 ⟨hp, ⟨a0, a1⟩, ⟨c0, c1⟩⟩
  simp [mulV, this]
theorem keepVal {W w1 : World} {t g ja jb : Nat} {a b da db : Value} (hb : Below W.heap.size W w1) (hg : g < W.heap.size) (ht : t < W.heap.size)
    (h : W.cell? ⟨t, 1, none⟩ = some a ∧ W.cell? ⟨t, 2, none⟩ = some b ∧ W.cell? ⟨g, ja, none⟩ = some da ∧ W.cell? ⟨g, jb, none⟩ = some db) :
    w1.cell? ⟨t, 1, none⟩ = some a ∧ w1.cell? ⟨t, 2, none⟩ = some b ∧ w1.cell? ⟨g, ja, none⟩ = some da ∧ w1.cell? ⟨g, jb, none⟩ = some db := by
  refine ⟨?_, ?_, ?_, ?_⟩
  · rw [hb.cell (p := ⟨t, 1, none⟩) ht]; exact h.1
  · rw [hb.cell (p := ⟨t, 2, none⟩) ht]; exact h.2.1
  · rw [hb.cell (p := ⟨g, ja, none⟩) hg]; exact h.2.2.1
  · rw [hb.cell (p := ⟨g, jb, none⟩) hg]; exact h.2.2.2
theorem gats_slice {p : Int} {w : World} {v : Value} {L : List Gt} (h : Gats w v L) (hv : circB p L = true) :
    ∃ g off cap, v = .slice (some ⟨g, off, none⟩) L.length cap ∧ g < w.heap.size ∧ ∀ j : Nat, j < L.length → GAt w g (off + j * 3) (L.getD j default) := by
  obtain ⟨_, a, cap, rfl, h2⟩ := h
  rcases h2 with rfl | ⟨g, off, rfl, hg, hc⟩
  · have := (circB_iff.1 hv).2.1; simp at this
  · exact ⟨g, off, cap, rfl, hg, hc⟩
theorem RowI.mono {w : World} {B B' : Nat} {v : Value} {L : List Int} (h : RowI w B v L) (hb : B' ≤ B) : RowI w B' v L := by
  refine ⟨h.1, ?_⟩
  rcases h.2 with h | ⟨g, cap, cur, hv, hg, r⟩
  · exact .inl h
  · exact .inr ⟨g, cap, cur, hv, by omega, r⟩
theorem iVal0 (p x y z xa xb : Int) (hxa : xa = 0 ∨ xa = 1 ∨ xa = 2) (a : Option Addr) (n cap : Nat) (w : World) :
    Calls Tryz.prog 39 #[.agg #[.int .i64 0, .int .i64 xa, .int .i64 xb], .int .i64 p, .agg #[.int .i64 x, .int .i64 y, .int .i64 z], .slice a n cap] w fun e w' => e = .returned (.int .i64 (coord x y z xa)) ∧ Below w.heap.size w w' := by
  rcases hxa with rfl | rfl | rfl
  all_goals
    go_enter Tryz.func39, Tryz.ntmps39
    go_wp2
    go_ret
    exact ⟨by simp [coord], (by repeat (first | exact Below.refl _ _ | apply Below.drew | apply below_drewN | (refine Below.alloc ?_ (by first | omega | (simp <;> omega)) _)))⟩
theorem iVal1 (p x y z xa xb : Int) (a : Option Addr) (n cap : Nat) (w : World) :
    Calls Tryz.prog 39 #[.agg #[.int .i64 1, .int .i64 xa, .int .i64 xb], .int .i64 p, .agg #[.int .i64 x, .int .i64 y, .int .i64 z], .slice a n cap] w fun e w' => e = .returned (.int .i64 xa) ∧ Below w.heap.size w w' := by
  go_enter Tryz.func39, Tryz.ntmps39
  go_wp2
  go_ret
  exact ⟨rfl, (by repeat (first | exact Below.refl _ _ | apply Below.drew | apply below_drewN | (refine Below.alloc ?_ (by first | omega | (simp <;> omega)) _)))⟩
set_option maxRecDepth 100000 in
set_option maxHeartbeats 4000000 in
theorem iVal2 (p x y z : Int) (hp : isP p = true) (ja jb n : Nat) (hja : ja < n) (hjb : jb < n) (hn : n ≤ 60) (g cap : Nat) (da db : Int) (b1 : 0 ≤ da ∧ da < p) (b2 : 0 ≤ db ∧ db < p) (w : World) (hg : g < w.heap.size)
    (h0 : w.cell? ⟨g, ja, none⟩ = some (.int .i64 da)) (h1 : w.cell? ⟨g, jb, none⟩ = some (.int .i64 db)) :
    Calls Tryz.prog 39 #[.agg #[.int .i64 2, .int .i64 ja, .int .i64 jb], .int .i64 p, .agg #[.int .i64 x, .int .i64 y, .int .i64 z], .slice (some ⟨g, 0, none⟩) n cap] w fun e w' => e = .returned (.int .i64 ((da + db) % p)) ∧ Below w.heap.size w w' := by
  have HE := Lib.hid (addV_at hp b1.1 b1.2 b2.1 b2.2)
  obtain ⟨r, hr⟩ : ∃ r, addV p da db = r := ⟨_, rfl⟩
  rw [hr] at HE
  rw [← HE.out]
  obtain ⟨W, hW⟩ : ∃ W, W = (w.alloc (Obj.cells #[.int .i64 2, .int .i64 ja, .int .i64 jb] 71)).alloc (Obj.cells #[.int .i64 x, .int .i64 y, .int .i64 z] 23) := ⟨_, rfl⟩
  have bW : Below w.heap.size w W := by rw [hW]; exact (by repeat (first | exact Below.refl _ _ | apply Below.drew | apply below_drewN | (refine Below.alloc ?_ (by first | omega | (simp <;> omega)) _)))
  have c1 : W.cell? ⟨w.heap.size, 1, none⟩ = some (.int .i64 ja) := by rw [hW]; simp [go_sem]
  have c2 : W.cell? ⟨w.heap.size, 2, none⟩ = some (.int .i64 jb) := by rw [hW]; simp [go_sem]
  have ht : w.heap.size < W.heap.size := by rw [hW]; simp; omega
  have d0 := bW.cell (p := ⟨g, ja, none⟩) hg
  have d1 := bW.cell (p := ⟨g, jb, none⟩) hg
  rw [h0] at d0
  rw [h1] at d1
  have hg2 : g < W.heap.size := by omega
  have ja0 : (0 : Int) ≤ ja := by omega
  have jb0 : (0 : Int) ≤ jb := by omega
  have jan : (ja : Int) < (n : Int) := by omega
  have jbn : (jb : Int) < (n : Int) := by omega
  have hn0 : (n : Int) ≤ 60 := by omega
  have HR := Lib.hid hr
  have HW := Lib.hid hW
  have HB := Lib.hid bW
  clear hr hW bW hp h0 h1 b1 b2
  go_enter Tryz.func39, Tryz.ntmps39
  go_wp2_with fail
  rw [← HW.out]
  clear HW
  go_region_held3 (fun w' => w'.cell? ⟨w.heap.size, 1, none⟩ = some (.int .i64 ja) ∧ w'.cell? ⟨w.heap.size, 2, none⟩ = some (.int .i64 jb) ∧ w'.cell? ⟨g, ja, none⟩ = some (.int .i64 da) ∧ w'.cell? ⟨g, jb, none⟩ = some (.int .i64 db)) (first | exact keepVal hb1 (by simpa using hg2) (by simpa using ht) (by assumption) | go_keep)
    (first | (go_at_call 27; refine (iAdd p da db _).mono ?_; rintro e w1 ⟨he, hb1⟩; rw [HR.out] at he; subst he))
  all_goals
    have B1 : Below w.heap.size w w1 := HB.out.trans (((Below.drew (Below.refl _ _) : Below W.heap.size W W.drew).trans (by simpa using hb1)).mono (by omega))
    go_wp2_with fail
    go_ret
    exact ⟨rfl, B1⟩
set_option maxRecDepth 100000 in
set_option maxHeartbeats 4000000 in
theorem iVal3 (p x y z : Int) (hp : isP p = true) (ja jb n : Nat) (hja : ja < n) (hjb : jb < n) (hn : n ≤ 60) (g cap : Nat) (da db : Int) (b1 : 0 ≤ da ∧ da < p) (b2 : 0 ≤ db ∧ db < p) (w : World) (hg : g < w.heap.size)
    (h0 : w.cell? ⟨g, ja, none⟩ = some (.int .i64 da)) (h1 : w.cell? ⟨g, jb, none⟩ = some (.int .i64 db)) :
    Calls Tryz.prog 39 #[.agg #[.int .i64 3, .int .i64 ja, .int .i64 jb], .int .i64 p, .agg #[.int .i64 x, .int .i64 y, .int .i64 z], .slice (some ⟨g, 0, none⟩) n cap] w fun e w' => e = .returned (.int .i64 ((da * db) % p)) ∧ Below w.heap.size w w' := by
  have HE := Lib.hid (mulV_at hp b1.1 b1.2 b2.1 b2.2)
  obtain ⟨r, hr⟩ : ∃ r, mulV p da db = r := ⟨_, rfl⟩
  rw [hr] at HE
  rw [← HE.out]
  obtain ⟨W, hW⟩ : ∃ W, W = (w.alloc (Obj.cells #[.int .i64 3, .int .i64 ja, .int .i64 jb] 71)).alloc (Obj.cells #[.int .i64 x, .int .i64 y, .int .i64 z] 23) := ⟨_, rfl⟩
  have bW : Below w.heap.size w W := by rw [hW]; exact (by repeat (first | exact Below.refl _ _ | apply Below.drew | apply below_drewN | (refine Below.alloc ?_ (by first | omega | (simp <;> omega)) _)))
  have c1 : W.cell? ⟨w.heap.size, 1, none⟩ = some (.int .i64 ja) := by rw [hW]; simp [go_sem]
  have c2 : W.cell? ⟨w.heap.size, 2, none⟩ = some (.int .i64 jb) := by rw [hW]; simp [go_sem]
  have ht : w.heap.size < W.heap.size := by rw [hW]; simp; omega
  have d0 := bW.cell (p := ⟨g, ja, none⟩) hg
  have d1 := bW.cell (p := ⟨g, jb, none⟩) hg
  rw [h0] at d0
  rw [h1] at d1
  have hg2 : g < W.heap.size := by omega
  have ja0 : (0 : Int) ≤ ja := by omega
  have jb0 : (0 : Int) ≤ jb := by omega
  have jan : (ja : Int) < (n : Int) := by omega
  have jbn : (jb : Int) < (n : Int) := by omega
  have hn0 : (n : Int) ≤ 60 := by omega
  have HR := Lib.hid hr
  have HW := Lib.hid hW
  have HB := Lib.hid bW
  clear hr hW bW hp h0 h1 b1 b2
  go_enter Tryz.func39, Tryz.ntmps39
  go_wp2_with fail
  rw [← HW.out]
  clear HW
  go_region_held3 (fun w' => w'.cell? ⟨w.heap.size, 1, none⟩ = some (.int .i64 ja) ∧ w'.cell? ⟨w.heap.size, 2, none⟩ = some (.int .i64 jb) ∧ w'.cell? ⟨g, ja, none⟩ = some (.int .i64 da) ∧ w'.cell? ⟨g, jb, none⟩ = some (.int .i64 db)) (first | exact keepVal hb1 (by simpa using hg2) (by simpa using ht) (by assumption) | go_keep)
    (first | (go_at_call 52; refine (iMul p da db _).mono ?_; rintro e w1 ⟨he, hb1⟩; rw [HR.out] at he; subst he))
  all_goals
    have B1 : Below w.heap.size w w1 := HB.out.trans (((Below.drew (Below.refl _ _) : Below W.heap.size W W.drew).trans (by simpa using hb1)).mono (by omega))
    go_wp2_with fail
    go_ret
    exact ⟨rfl, B1⟩
end Go.Proofs.YtoeghbcolpailaaGreat
