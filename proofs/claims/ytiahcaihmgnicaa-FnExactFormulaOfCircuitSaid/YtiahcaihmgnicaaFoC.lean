/-
  FormulaOfCircuit, of the model and of the program, and the walk of its exact law. Conditions: none but that the slice reads as a list of gates.
-/
import Derived.Test.YtiahcaihmgnicaaSpS
import Derived.Test.YtiahcaihmgnicaaLaws
import Derived.Test.YtiahcaihmgnicaaInG
namespace Go.Proofs.Ytiahcaihmgnicaa
open Go.RowKit
/-- may the formula be made, and what it is -/
def focB (p : Int) (L : List Gt) : Bool := circB p L && decide (szAt L (L.length - 1) ≤ 60)
def focS (p : Int) (L : List Gt) : ByteArray := if focB p L = true then tx L (L.length - 1) else ⟨#[]⟩
theorem sprV_at {p : Int} {L : List Gt} (hv : circB p L = true) : sprV p L = szAt L (L.length - 1) := by
  have hl := (circB_iff.1 hv).2.1
  unfold sprV
  rw [if_pos hv]
  exact sizL_st L _ _ (by omega)
set_option maxRecDepth 100000 in
set_option maxHeartbeats 4000000 in
theorem sFoC (p : Int) (f : Value) (L : List Gt) (w : World) (h : Gats w f L) :
    Calls Try.prog 54 #[.int .i64 p, f] w fun e w' => e = .returned (.tuple #[.string (focS p L), .bool (focB p L)]) ∧ Below w.heap.size w w' := by
  have HCV := Lib.hid (sCircuitValid p f L w h)
  have HSS := Lib.hid (fun w' (hb : Below w.heap.size w w') => sSpreadSize p f L w' (h.below hb))
  cases hv : circB p L
  · have e1 : focB p L = false := by unfold focB; rw [hv]; rfl
    have e2 : focS p L = ⟨#[]⟩ := by unfold focS; rw [e1]; rfl
    rw [e1, e2]
    rw [hv] at HCV
    obtain ⟨_, a, cap, rfl, _⟩ := h
    clear hv e1 e2
    go_enter Try.func54, Try.ntmps54
    go_wp2_with fail
    refine HCV.out.mono ?_
    rintro e w1 ⟨rfl, hb1⟩
    have HB := Lib.hid hb1
    clear hb1
    go_wp2_with fail
    refine bodyPost_ret (results_tmp2 rfl _ _ _) rfl ?_
    exact ⟨rfl, HB.out⟩
  · rw [hv] at HCV
    rw [sprV_at hv] at HSS
    obtain ⟨g, off, cap, rfl, hg, hc⟩ := gats_u h hv
    obtain ⟨z, hz⟩ : ∃ z, z = szAt L (L.length - 1) := ⟨_, rfl⟩
    rw [← hz] at HSS
    obtain ⟨hp, hl1, hl2, hall⟩ := circB_iff.1 hv
    by_cases h60 : z ≤ 60
    · have e1 : focB p L = true := by unfold focB; rw [hv, ← hz, decide_eq_true h60]; rfl
      have e2 : focS p L = tx L (L.length - 1) := by unfold focS; rw [e1]; rfl
      have hts : (tx L (L.length - 1)).size ≤ 60 := by
        have := tx_size hv (L.length - 1) (by omega) (by omega)
        omega
      rw [e1, e2]
      obtain ⟨n, hn⟩ : ∃ n, L.length = n + 1 := ⟨L.length - 1, by omega⟩
      have hnn : (L.length : Int) - 1 = (n : Int) := by omega
      have hn1 : L.length - 1 = n := by omega
      rw [hn1] at hts ⊢
      have HSP := Lib.hid (fun w' (hb : Below w.heap.size w w') => sSpread p L hv g off cap n w' (by omega) hts (Nat.lt_of_lt_of_le hg hb.size) (fun j hj => (hc j hj).below hb hg))
      obtain ⟨X, hX⟩ : ∃ X, X = tx L n := ⟨_, rfl⟩
      rw [← hX] at HSP ⊢
      have HN := Lib.hid hnn
      clear hv hc hz hall e1 e2 hts hn hn1 hX hp h hnn
      go_enter Try.func54, Try.ntmps54
      go_wp2_with fail
      refine HCV.out.mono ?_
      rintro e w1 ⟨rfl, hb1⟩
      have HB := Lib.hid hb1
      clear hb1
      go_wp2_with fail
      refine (HSS.out _ HB.out).mono ?_
      rintro e w2 ⟨rfl, hb2⟩
      have HB2 := Lib.hid (HB.out.trans (hb2.mono HB.out.size))
      clear hb2
      go_wp2_with fail
      rw [HN.out]
      refine (HSP.out _ HB2.out).mono ?_
      rintro e w3 ⟨rfl, hb3⟩
      have HB3 := Lib.hid (HB2.out.trans (hb3.mono HB2.out.size))
      clear hb3
      go_wp2_with fail
      refine bodyPost_ret (results_tmp2 rfl _ _ _) rfl ?_
      exact ⟨rfl, HB3.out⟩
    · have e1 : focB p L = false := by unfold focB; rw [hv, ← hz, decide_eq_false h60]; rfl
      have e2 : focS p L = ⟨#[]⟩ := by unfold focS; rw [e1]; rfl
      rw [e1, e2]
      clear hv hc hz hall e1 e2 hp h
      go_enter Try.func54, Try.ntmps54
      go_wp2_with fail
      refine HCV.out.mono ?_
      rintro e w1 ⟨rfl, hb1⟩
      have HB := Lib.hid hb1
      clear hb1
      go_wp2_with fail
      refine (HSS.out _ HB.out).mono ?_
      rintro e w2 ⟨rfl, hb2⟩
      have HB2 := Lib.hid (HB.out.trans (hb2.mono HB.out.size))
      clear hb2
      go_wp2_with fail
      refine bodyPost_ret (results_tmp2 rfl _ _ _) rfl ?_
      exact ⟨rfl, HB2.out⟩
/-- a block whose first cells hold texts -/
structure StrW (w : World) (G n : Nat) (F : Nat → Value) : Prop where
  sz : G < w.heap.size
  c : ∀ j, j < n → w.cell? ⟨G, j, none⟩ = some (F j) ∧ w.frozen? ⟨G, j, none⟩ = false
theorem StrW.below {w w' : World} {G n : Nat} {F : Nat → Value} (h : StrW w G n F) (hb : Below w.heap.size w w') : StrW w' G n F :=
  ⟨Nat.lt_of_lt_of_le h.sz hb.size, fun j hj => ⟨by rw [hb.cell (p := ⟨G, j, none⟩) h.sz]; exact (h.c j hj).1, by rw [hb.frozen (p := ⟨G, j, none⟩) h.sz]; exact (h.c j hj).2⟩⟩
theorem StrW.set {w : World} {G n i : Nat} {F : Nat → Value} (h : StrW w G n F) (hi : i < n) (u : Value) : StrW (w.setCell ⟨G, i, none⟩ u) G n (fun j => if j = i then u else F j) := by
  refine ⟨by simpa using h.sz, fun j hj => ⟨?_, by rw [World.frozen?_setCell]; exact (h.c j hj).2⟩⟩
  by_cases e : j = i
  · subst e
    rw [if_pos rfl]
    exact World.cell?_setCell_same _ _ _ (h.c j hj).1
  · rw [if_neg e, World.cell?_setCell_other _ _ _ _ (by simp <;> omega)]
    exact (h.c j hj).1
theorem infoStr : (Try.prog.info? 9).map (fun i => (i.zero, i.size, i.bytes)) = some (some (.string ⟨#[]⟩), 1, 16) := by kernel_rfl
set_option maxRecDepth 100000 in
set_option maxHeartbeats 8000000 in
theorem iFText (p : Int) (L : List Gt) (hv : circB p L = true) (i : Nat) (hi : i < L.length) (x : Gt) (hx : x = L.getD i default) (G n cap : Nat) (F : Nat → Value) (w : World) (hS : StrW w G n F) (hin : i < n) (hsz : (tx L i).size ≤ 60)
    (hF : joinsB (gAt L i) = true → F (gAt L i).a.toNat = .string (tx L (gAt L i).a.toNat) ∧ F (gAt L i).b.toNat = .string (tx L (gAt L i).b.toNat)) :
    Calls Try.prog 112 #[.agg #[.int .i64 x.k, .int .i64 x.a, .int .i64 x.b], .slice (some ⟨G, 0, none⟩) n cap] w fun e w' => e = .returned (.string (tx L i)) ∧ Below w.heap.size w w' := by
  have hgx : gAt L i = ⟨x.k, x.a, x.b⟩ := (gat_mk hx).symm
  cases hj : joinsB (gAt L i)
  · rcases tx_leaf hv hi hj with ⟨hk, he, h0, h1⟩ | ⟨hk, he, h0, h1⟩
    · rw [hgx] at hk he h0 h1
      simp only at hk he h0 h1
      rw [he]
      clear hx hgx he hsz hj hF hS
      obtain ⟨xk, xa, xb⟩ := x
      simp only at hk h0 h1 ⊢
      subst hk
      obtain ⟨m, rfl⟩ := Int.eq_ofNat_of_zero_le h0
      have hw : IntKind.i64.wrap ((m : Int) + 1) = (m : Int) + 1 := IntWalk.i64_in _ (by omega)
      have q1 : (m : Int) + 1 ≤ 3 := by omega
      have q2 : (0 : Int) ≤ (m : Int) + 1 := by omega
      have q3 : (m : Int) ≤ (m : Int) + 1 := by omega
      go_enter Try.func112, Try.ntmps112
      go_wp2_with fail
      go_ret
      exact ⟨rfl, Below.alloc (Below.refl _ _) (Nat.le_refl _) _⟩
    · rw [hgx] at hk he h0 h1
      simp only at hk he h0 h1
      rw [he]
      clear hx hgx he hsz hj hF hS
      obtain ⟨xk, xa, xb⟩ := x
      simp only at hk h0 h1 ⊢
      subst hk
      obtain ⟨m, rfl⟩ := Int.eq_ofNat_of_zero_le h0
      have hw : IntKind.i64.wrap ((m : Int) + 1) = (m : Int) + 1 := IntWalk.i64_in _ (by omega)
      have q1 : (m : Int) + 1 ≤ 13 := by omega
      have q2 : (0 : Int) ≤ (m : Int) + 1 := by omega
      have q3 : (m : Int) ≤ (m : Int) + 1 := by omega
      go_enter Try.func112, Try.ntmps112
      go_wp2_with fail
      go_ret
      exact ⟨rfl, Below.alloc (Below.refl _ _) (Nat.le_refl _) _⟩
  · obtain ⟨he, ha, hb⟩ := tx_join hv hi hj
    obtain ⟨f1, f2⟩ := hF hj
    have hk : (gAt L i).k = 2 ∨ (gAt L i).k = 3 := by simpa [joinsB] using hj
    have hcs := gOK_cases ((circB_iff.1 hv).2.2.2 i hi)
    have hl2 := (circB_iff.1 hv).2.2.1
    rw [hgx] at he ha hb hk hcs f1 f2
    simp only at he ha hb hk hcs f1 f2
    rw [he] at hsz ⊢
    simp only [ByteArray.size_append, sgS_size] at hsz
    have c1 := (hS.c x.a.toNat (by omega)).1
    have c2 := (hS.c x.b.toNat (by omega)).1
    rw [f1] at c1
    rw [f2] at c2
    have hGs := hS.sz
    obtain ⟨A, hA⟩ : ∃ A, A = tx L x.a.toNat := ⟨_, rfl⟩
    obtain ⟨B, hBe⟩ : ∃ B, B = tx L x.b.toNat := ⟨_, rfl⟩
    rw [← hA] at c1 hsz ⊢
    rw [← hBe] at c2 hsz ⊢
    have n1 : ¬ 9223372036854775807 < 1 + A.size := by omega
    have n2 : ¬ 9223372036854775807 < 1 + A.size + B.size := by omega
    have hk2 : (x.k = 2 ∨ x.k = 3) ∧ (0 ≤ x.a ∧ x.a < n) ∧ (0 ≤ x.b ∧ x.b < n) := by omega
    clear hx hgx he hsz hj hF hS hA hBe ha hb hcs f1 f2 hk
    obtain ⟨xk, xa, xb⟩ := x
    obtain ⟨hk, ⟨a0, a1⟩, ⟨b0, b1⟩⟩ := hk2
    simp only at hk a0 a1 b0 b1 c1 c2 ⊢
    obtain ⟨ja, rfl⟩ := Int.eq_ofNat_of_zero_le a0
    obtain ⟨jb, rfl⟩ := Int.eq_ofNat_of_zero_le b0
    simp only [Int.toNat_natCast] at c1 c2
    have a2 : ja < n := by omega
    have b2 : jb < n := by omega
    rcases hk with rfl | rfl
    all_goals
      first | rw [show sgS 2 = ⟨#[43]⟩ from rfl] | rw [show sgS 3 = ⟨#[42]⟩ from rfl]
      go_enter Try.func112, Try.ntmps112
      go_wp2_with fail
      go_quiet (fail)
      go_wp2_with fail
      go_ret
      exact ⟨rfl, by repeat (first | exact Below.refl _ _ | apply Below.drew | apply below_drewN | (refine Below.alloc ?_ (by first | omega | (simp; done)) _))⟩
end Go.Proofs.Ytiahcaihmgnicaa
