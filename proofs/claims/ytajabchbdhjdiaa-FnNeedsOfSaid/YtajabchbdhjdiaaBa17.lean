/-
  Points: three integers in a block; their checks; the exact laws' copy of them. Conditions: what the block holds is known.
  Exponents below the prime: the model's l5Low, the program's lowerExponents. Conditions: the number is one of the primes, the exponents are from 0 to 9.
-/
import Derived.Test.YtajabchbdhjdiaaBa2
import Derived.Test.YtajabchbdhjdiaaBa13
namespace Go.Proofs.Ytajabchbdhjdiaa
open Go.RowKit
/-- three cells that hold a point -/
def PtAt (w : World) (g : Nat) (x y z : Int) : Prop :=
  w.cell? ⟨g, 0, none⟩ = some (.int .i64 x) ∧ w.cell? ⟨g, 1, none⟩ = some (.int .i64 y) ∧ w.cell? ⟨g, 2, none⟩ = some (.int .i64 z)
theorem PtAt.below {w w' : World} {B g : Nat} {x y z : Int} (h : PtAt w g x y z) (hb : Below B w w') (hg : g < B) : PtAt w' g x y z := by
  obtain ⟨h0, h1, h2⟩ := h
  refine ⟨?_, ?_, ?_⟩
  · rw [hb.cell (p := ⟨g, 0, none⟩) hg]; exact h0
  · rw [hb.cell (p := ⟨g, 1, none⟩) hg]; exact h1
  · rw [hb.cell (p := ⟨g, 2, none⟩) hg]; exact h2
def isE3 (p x y z : Int) : Bool := isE p x && (isE p y && isE p z)
theorem iAE3 (r : Bool) (p x y z : Int) (hp : isP p = true) (hr : isE3 p x y z = r) (b : Nat) (w : World) (h : PtAt w b x y z) :
    Calls Try.prog 91 #[.int .i64 p, .slice (some ⟨b, 0, none⟩) 3 3] w fun e w' => e = .returned (.bool r) ∧ w = w' := by
  have : r = [x, y, z].all (isE p) := by simp [← hr, isE3]
  rw [this]; refine iAE_p p hp b 0 [x, y, z] w (by simp) ?_
  obtain ⟨h0, h1, h2⟩ := h
  intro k hk
  match k, hk with
  | 0, _ => simpa using h0
  | 1, _ => simpa using h1
  | 2, _ => simpa using h2
theorem sEl3 (r : Bool) (p x y z : Int) (hp : isP p = true) (hr : isE3 p x y z = r) (b : Nat) (w : World) (h : PtAt w b x y z) :
    Calls Try.prog 71 #[.int .i64 p, .slice (some ⟨b, 0, none⟩) 3 3] w fun e w' => e = .returned (.bool r) ∧ w = w' := by
  have : r = [x, y, z].all (isE p) := by simp [← hr, isE3]
  rw [this]; refine sEl_p p hp b 0 [x, y, z] w (by simp) ?_
  obtain ⟨h0, h1, h2⟩ := h
  intro k hk
  match k, hk with
  | 0, _ => simpa using h0
  | 1, _ => simpa using h1
  | 2, _ => simpa using h2
theorem toA3b (a b c : Int) (w : World) :
    Calls Try.prog 115 #[.agg #[.int .i64 a, .int .i64 b, .int .i64 c]] w fun e w' => e = .returned (.agg #[.int .i64 a, .int .i64 b, .int .i64 c]) ∧ Below w.heap.size w w' :=
  (toA3 a b c w).mono fun e w' ⟨h1, h2⟩ => ⟨h1, by subst h2; unfold three; exact Below.alloc (Below.alloc (Below.alloc (Below.refl _ _) (by omega) _) (by simp) _) (by simp; omega) _⟩
theorem keepPt {W w1 : World} {b : Nat} {x y z : Int} (hb : Below W.heap.size W w1) (h1 : b < W.heap.size) (h : W.cell? ⟨b, 0, none⟩ = some (.int .i64 x) ∧ W.cell? ⟨b, 1, none⟩ = some (.int .i64 y) ∧ W.cell? ⟨b, 2, none⟩ = some (.int .i64 z)) :
    w1.cell? ⟨b, 0, none⟩ = some (.int .i64 x) ∧ w1.cell? ⟨b, 1, none⟩ = some (.int .i64 y) ∧ w1.cell? ⟨b, 2, none⟩ = some (.int .i64 z) := PtAt.below h hb h1
end Go.Proofs.Ytajabchbdhjdiaa
namespace Go.Proofs.Ytajabchbdhjdiaa
open Go.RowKit
/-- an exponent from which p - 1 is taken as long as it is no less than p, at most k times -/
def lowF (p : Int) : Nat → Int → Int
  | 0, n => n
  | k + 1, n => if p ≤ n then lowF p k (n - (p - 1)) else n
def lowE (p n : Int) : Int := lowF p 9 n
theorem lowF_below {p n : Int} (h : n < p) : ∀ k, lowF p k n = n
  | 0 => rfl
  | k + 1 => by simp only [lowF]; rw [if_neg (by omega)]
theorem lowF_step {p n : Int} (h : p ≤ n) (k : Nat) : lowF p (k + 1) n = lowF p k (n - (p - 1)) := by simp only [lowF]; rw [if_pos h]
theorem lowF_bd {p : Int} (hp : 2 ≤ p) : ∀ (k : Nat) (n : Int), 0 ≤ n → n ≤ k → 0 ≤ lowF p k n ∧ lowF p k n ≤ n ∧ lowF p k n < p
  | 0, n, h0, h1 => by simp only [lowF]; omega
  | k + 1, n, h0, h1 => by
    simp only [lowF]
    split
    · have := lowF_bd hp k (n - (p - 1)) (by omega) (by omega)
      omega
    · omega
theorem lowE_bd {p n : Int} (hp : isP p = true) (h0 : 0 ≤ n) (h1 : n ≤ 9) : 0 ≤ lowE p n ∧ lowE p n ≤ 9 ∧ lowE p n < p := by
  have := isP_bd hp
  have := lowF_bd (p := p) (by omega) 9 n h0 (by omega)
  unfold lowE; omega
theorem lowE_id {p n : Int} (h : n < p) : lowE p n = n := lowF_below h 9
set_option maxHeartbeats 1000000 in
theorem sLow (p n : Int) (hp : isP p = true) (h0 : 0 ≤ n) (h1 : n ≤ 9) (w : World) :
    Calls Try.prog 128 #[.int .i64 p, .int .i64 n] w fun e w' => e = .returned (.int .i64 (lowE p n)) ∧ w = w' := by
  have hb := isP_bd hp
  obtain ⟨hb1, hb2⟩ := hb
  obtain ⟨L, hL⟩ : ∃ L, L = lowE p n := ⟨_, rfl⟩
  have HL := Lib.hid hL
  rw [← hL]
  clear hL hp
  go_enter Try.func128, Try.ntmps128
  go_wp2
  go_loopw [1] (fun m wr => ∃ (k : Nat) (i : Int), m = .int .i64 i ∧ 0 ≤ i ∧ i ≤ 9 ∧ i ≤ k ∧ lowF p k i = L ∧ w = wr) (fun m _ => (intOf m).toNat)
  case atStart => exact ⟨9, n, rfl, h0, h1, by omega, HL.out.symm, rfl⟩
  case round =>
    obtain ⟨k, i, rfl, i0, i1, ik, hF, rfl⟩ := hrel
    by_cases hlt : p ≤ i
    · have hge : i ≥ p := hlt
      have e1 : IntKind.i64.wrap (p - 1) = p - 1 := IntWalk.i64_in _ (by omega)
      have e2 : IntKind.i64.wrap (i - (p - 1)) = i - (p - 1) := IntWalk.i64_in _ (by omega)
      obtain ⟨k', rfl⟩ : ∃ k', k = k' + 1 := ⟨k - 1, by omega⟩
      rw [lowF_step hlt] at hF
      have HF := Lib.hid hF
      clear hF h0 h1
      go_wp2
      go_roundw
      case rel => exact ⟨k', i - (p - 1), rfl, by omega, by omega, by omega, HF.out, trivial⟩
      case measure => simp [intOf]; omega
    · have hlt2 : i < p := by omega
      rw [lowF_below hlt2] at hF
      subst hF
      go_wp2
      go_ret
      exact ⟨rfl, rfl⟩
/-- three cells from an offset on hold F; all else lies as it lay -/
structure LowTo (w w' : World) (G o : Nat) (F : Nat → Int) : Prop where
  cells : ∀ j : Nat, j < 3 → w'.cell? ⟨G, o + j, none⟩ = some (.int .i64 (F j))
  far : ∀ b i : Nat, b ≠ G ∨ i < o ∨ o + 3 ≤ i → w'.cell? ⟨b, i, none⟩ = w.cell? ⟨b, i, none⟩
  froz : ∀ q : Addr, w'.frozen? q = w.frozen? q
  low : ∀ B, B ≤ G → Below B w w'
theorem LowTo.set {w w' : World} {G o : Nat} {F : Nat → Int} (h : LowTo w w' G o F) {k : Nat} (hk : k < 3) (v : Int) : LowTo w (w'.setCell ⟨G, o + k, none⟩ (.int .i64 v)) G o (fun j => if j = k then v else F j) := by
  refine ⟨fun j hj => ?_, fun b i hi => ?_, fun q => by rw [World.frozen?_setCell]; exact h.froz q, fun B hB => (h.low B hB).setCell hB _⟩
  · by_cases e : j = k
    · subst e
      rw [if_pos rfl]
      exact World.cell?_setCell_same _ _ _ (h.cells j hj)
    · rw [if_neg e, World.cell?_setCell_other _ _ _ _ (by intro e'; injection e' with e1 e2; omega)]
      exact h.cells j hj
  · rw [World.cell?_setCell_other _ _ _ _ (by intro e'; injection e' with e1 e2; omega)]
    exact h.far b i hi
theorem LowTo.drewN {w w' : World} {G o : Nat} {F : Nat → Int} (h : LowTo w w' G o F) (n : Nat) : LowTo w (w'.drewN n) G o F :=
  ⟨h.cells, h.far, h.froz, fun B hB => below_drewN (h.low B hB) n⟩
theorem LowTo.ext {w w' : World} {G o : Nat} {F H : Nat → Int} (h : LowTo w w' G o F) (e : ∀ j, j < 3 → F j = H j) : LowTo w w' G o H :=
  ⟨fun j hj => by rw [← e j hj]; exact h.cells j hj, h.far, h.froz, h.low⟩
set_option maxHeartbeats 4000000 in
theorem iLower (p : Int) (hp : isP p = true) (G o : Nat) (F : Nat → Int) (hF : ∀ j, j < 3 → 0 ≤ F j ∧ F j ≤ 9) (w : World) (hc : ∀ j : Nat, j < 3 → w.cell? ⟨G, o + j, none⟩ = some (.int .i64 (F j))) (hf : ∀ j, j < 3 → w.frozen? ⟨G, o + j, none⟩ = false) :
    Calls Try.prog 87 #[.int .i64 p, .pointer (some ⟨G, o, none⟩)] w fun e w' => e = .returned (.tuple #[]) ∧ LowTo w w' G o (fun j => lowE p (F j)) := by
  have hb := isP_bd hp
  obtain ⟨hb1, hb2⟩ := hb
  have HF := Lib.hid hF
  have HZ := Lib.hid hf
  have HS := Lib.hid (show LowTo w w G o F from ⟨hc, fun _ _ _ => rfl, fun _ => rfl, fun B _ => Below.refl _ _⟩)
  have e1 : IntKind.i64.wrap (p - 1) = p - 1 := IntWalk.i64_in _ (by omega)
  clear hF hf hp hc
  go_enter Try.func87, Try.ntmps87
  go_wp2_with fail
  go_loopw [5] (fun i wr => ∃ k : Nat, k ≤ 3 ∧ i = .int .i64 k ∧ LowTo w wr G o (fun j => if j < k then lowE p (F j) else F j)) (fun i _ => 3 - (intOf i).toNat)
  case atStart => exact ⟨0, by omega, rfl, HS.out.ext (fun j hj => by simp)⟩
  case round =>
    clear HS
    obtain ⟨k, hk, rfl, hS⟩ := hrel
    by_cases hlt : k < 3
    · have hltp : (k : Int) < 3 := by omega
      have hk0 : (0 : Int) ≤ (k : Int) := by omega
      have HS := Lib.hid hS
      clear hS
      go_wp2_with fail
      go_loopw [] (fun wv => ∃ (m : Nat) (i : Int), 0 ≤ i ∧ i ≤ 9 ∧ i ≤ m ∧ lowF p m i = lowE p (F k) ∧ LowTo w wv G o (fun j => if j = k then i else if j < k then lowE p (F j) else F j)) (fun wv => ((wv.cell? ⟨G, o + k, none⟩).elim 0 (fun v => (intOf v).toNat)))
      case atStart => exact ⟨9, F k, (HF.out k hlt).1, (HF.out k hlt).2, by have := (HF.out k hlt).2; omega, rfl, HS.out.ext (fun j hj => by by_cases e : j = k <;> simp [e])⟩
      case round =>
        obtain ⟨m, i, i0, i1, im, hG, hW⟩ := hrel
        have c0 := hW.cells k hlt
        have z0 := (hW.froz _).trans (HZ.out k hlt)
        simp only [if_true] at c0
        have HW := Lib.hid hW
        clear hW
        by_cases hlt2 : p ≤ i
        · have hge : i ≥ p := hlt2
          have e2 : IntKind.i64.wrap (i - (p - 1)) = i - (p - 1) := IntWalk.i64_in _ (by omega)
          obtain ⟨m', rfl⟩ : ∃ m', m = m' + 1 := ⟨m - 1, by omega⟩
          rw [lowF_step hlt2] at hG
          have HG := Lib.hid hG
          clear hG
          go_wp2_with fail
          refine wp_region_quiet_last (C := fun w' => ∃ n, w' = wr.drewN n) (by kernel_rfl) (by kernel_rfl) ⟨1, rfl⟩ ?_
          repeat (refine wpQL_step (fun K hK => ?_); go_simp; refine hK _ ?_; clear hK K)
          refine wpQL_one ?_
          rintro _ ⟨n0, rfl⟩
          go_wp2_with fail
          have hN := (HW.out.drewN n0).set hlt (i - (p - 1))
          go_roundw
          case rel => exact ⟨m', i - (p - 1), by omega, by omega, by omega, HG.out, hN.ext (fun j _ => by by_cases e : j = k <;> simp [e])⟩
          case measure =>
            have q1 := hN.cells k hlt
            simp only [if_true] at q1
            rw [q1, c0]
            simp [intOf]; omega
        · have hlt2 : i < p := by omega
          rw [lowF_below hlt2] at hG
          go_wp2_with fail
          go_roundw
          case rel => exact ⟨k + 1, by omega, by go_num, HW.out.ext (fun j hj => by
            by_cases e : j = k
            · subst e; simp [hG]
            · by_cases e2 : j < k
              · simp [e, e2, Nat.lt_succ_of_lt e2]
              · have e3 : ¬ j < k + 1 := by omega
                simp [e, e2, e3])⟩
          case measure => simp [intOf]; omega
    · have hkl : k = 3 := by omega
      subst hkl
      go_wp2_with fail
      go_end0
      exact ⟨rfl, hS.ext (fun j hj => by simp [hj])⟩
end Go.Proofs.Ytajabchbdhjdiaa
