/-
  Contracts of the model's draws of matrices. Conditions: the bytes can be read.
-/
import Derived.Test.YtlcmddghppdmgaaBh25
import Derived.Test.YtlcmddghppdmgaaBh18
import Derived.Test.YtlcmddghppdmgaaBh10
namespace Go.Proofs.Ytlcmddghppdmgaa
set_option linter.unusedVariables false
open Go.RowKit Go.Shelf
theorem OMat.grown {w w' : World} {B g R : Nat} {H O : Nat → Nat} {off : Nat} {M : List (List Int)} (h : OMat w B g off H O M) (hb : w.grownBy w' (some R)) (hR : R < B) : OMat w' B g off H O M :=
  h.same (hb.block g h.gl (fun e => by have := h.bg; injection e with e; omega)) (fun i hi hn => hb.block _ (h.hl hi hn).2.1 (fun e => by have := (h.hl hi hn).1; injection e with e; omega))
/-- a matrix drawn: its rows lie in blocks of their own -/
def DrawM (R : Nat) (a : Option Addr) (len cap q r c : Nat) (w : World) (e : Ending) (w' : World) : Prop :=
  ∃ (g cap2 : Nat) (H : Nat → Nat) (F : Nat → Nat → Int) (q' : Nat), e = .returned (.slice (some ⟨g, 0, none⟩) r cap2) ∧ OMat w' w.heap.size g 0 H (fun _ => 0) (matF c F r) ∧ q' ≤ q + 40 ∧ Rd w' R a len cap q' ∧ w.grownBy w' (some R)
set_option maxRecDepth 100000 in
set_option maxHeartbeats 4000000 in
theorem drawM (R : Nat) (a : Option Addr) (len cap q : Nat) (p : Int) (r c : Nat) (w : World) (h : Rd w R a len cap q) (hq : q ≤ 900000) (hr1 : 1 ≤ r) (hr4 : r ≤ 4) (hc1 : 1 ≤ c) (hc4 : c ≤ 4) :
    Calls Try.prog 131 #[.pointer (some ⟨R, 0, none⟩), .int .i64 p, .int .i64 r, .int .i64 c] w (DrawM R a len cap q r c w) := by
  have HN := Lib.hid (sNew r c (by omega) (by omega) w)
  have hRs := h.sz
  have HLA := Lib.hid h.la
  have HR0 := Lib.hid h
  have hrp : 0 < r := by omega
  clear h
  go_enter Try.func131, Try.ntmps131
  go_wp2_with fail
  refine HN.out.mono ?_
  rintro e w1 ⟨u, V, H, rfl, hR, hb⟩
  rw [zeroM_F] at hR
  obtain ⟨g2, cap2, rfl, hm⟩ := hR.formF hr1
  have HS := Lib.hid (show ∃ (F : Nat → Nat → Int) (q' : Nat), OMat w1 w.heap.size g2 0 H (fun _ => 0) (matF c F r) ∧ q' ≤ q + 0 ∧ Rd w1 R a len cap q' ∧ w.grownBy w1 (some R) from
    ⟨fun _ _ => 0, q, hm, Nat.le_refl _, HR0.out.far hb.size (fun k hk => hb.block k hk) hRs HLA.out, grown_of hb⟩)
  clear hR hm hb HR0
  go_wp2_with fail
  go_loopw [18] (fun i wr => ∃ k : Nat, k ≤ r ∧ i = .int .i64 k ∧ ∃ (F : Nat → Nat → Int) (q' : Nat), OMat wr w.heap.size g2 0 H (fun _ => 0) (matF c F r) ∧ q' ≤ q + 5 * k ∧ Rd wr R a len cap q' ∧ w.grownBy wr (some R)) (fun i _ => r - (intOf i).toNat)
  case atStart => exact ⟨0, by omega, rfl, HS.out⟩
  case round =>
    clear HS
    obtain ⟨i, hi, rfl, F0, q0, hm, hq0, hRd, hG⟩ := hrel
    by_cases hlt : i < r
    · have hltp : (i : Int) < (r : Int) := by omega
      have hi0 : (0 : Int) ≤ (i : Int) := by omega
      obtain ⟨cp, h1, _⟩ := hm.cellF hlt hc1
      rw [Nat.zero_add] at h1
      have HS := Lib.hid (And.intro hm (And.intro hq0 (And.intro hRd hG)))
      clear hm hRd hG
      go_wp2_with fail
      go_loopw [24] (fun i2 wr => ∃ k : Nat, k ≤ c ∧ i2 = .int .i64 k ∧ ∃ (F : Nat → Nat → Int) (q' : Nat), OMat wr w.heap.size g2 0 H (fun _ => 0) (matF c F r) ∧ q' ≤ q0 + k ∧ Rd wr R a len cap q' ∧ w.grownBy wr (some R)) (fun i2 _ => c - (intOf i2).toNat)
      case atStart => exact ⟨0, by omega, rfl, F0, q0, HS.out.1, Nat.le_refl _, HS.out.2.2.1, HS.out.2.2.2⟩
      case round =>
        clear HS h1
        obtain ⟨k, hk, rfl, F, q1, hm, hq1, hRd, hG⟩ := hrel
        by_cases hlk : k < c
        · have hlkp : (k : Int) < (c : Int) := by omega
          have hk0 : (0 : Int) ≤ (k : Int) := by omega
          have HP := Lib.hid (pick_any R a len cap q1 p wr hRd (by omega))
          have HS := Lib.hid (And.intro hm hG)
          clear hm hRd hG
          go_wp2_with fail
          refine HP.out.mono ?_
          rintro e w3 ⟨x, rfl, _, _, hR3, hg3, hs3⟩
          have hm3 := HS.out.1.grown hg3 hRs
          have hG3 := grown_trans HS.out.2 hg3
          obtain ⟨_, _, h2, h3, h4, h5⟩ := hm3.cellF hlt hc1
          obtain ⟨c1, c2⟩ := h5 k hlk
          rw [Nat.zero_add] at c1 c2
          have HF := Lib.hid (show OMat (w3.setCell ⟨H i, k, none⟩ (.int .i64 x)) w.heap.size g2 0 H (fun _ => 0) (matF c (upd F i k x) r) ∧ Rd (w3.setCell ⟨H i, k, none⟩ (.int .i64 x)) R a len cap (q1 + 1) ∧ w.grownBy (w3.setCell ⟨H i, k, none⟩ (.int .i64 x)) (some R) from by
            have := hm3.setF hlt hlk x
            rw [Nat.zero_add] at this
            have hb : Below w.heap.size w3 (w3.setCell ⟨H i, k, none⟩ (.int .i64 x)) := (Below.refl _ _).setCell (by show w.heap.size ≤ H i; omega) _
            refine ⟨this, hR3.far hb.size (fun k hk => hb.block k hk) hRs HLA.out, ?_⟩
            exact ⟨hb.os.trans hG3.os, hb.tape.trans hG3.tape, hb.output.trans hG3.output, Nat.le_trans hG3.size hb.size, fun k hk hne => (hb.block k hk).trans (hG3.block k hk hne)⟩)
          clear hR3 hg3 hs3 hm3 hG3 h5
          go_wp2_with fail
          go_roundw
          case rel => exact ⟨k + 1, by omega, by go_num, _, _, HF.out.1, by omega, HF.out.2.1, HF.out.2.2⟩
          case measure => simp [intOf]; omega
        · have hkc : k = c := by omega
          subst hkc
          have HF := Lib.hid (And.intro hm (And.intro hRd hG))
          clear hm hRd hG
          go_wp2_with fail
          go_roundw
          case rel => exact ⟨i + 1, by omega, by go_num, F, q1, HF.out.1, by omega, HF.out.2.1, HF.out.2.2⟩
          case measure => simp [intOf]; omega
    · have hir : i = r := by omega
      subst hir
      have hq1 : q0 ≤ q + 20 := by omega
      by_cases h1 : 1 < i
      · have hgt : (i : Int) > 1 := by omega
        have HP := Lib.hid (pick_any R a len cap q0 4 wr hRd (by omega))
        have HS := Lib.hid (And.intro hm hG)
        clear hm hRd hG
        go_wp2_with fail
        refine HP.out.mono ?_
        rintro e w3 ⟨x, rfl, _, _, hR3, hg3, hs3⟩
        have hm3 := HS.out.1.grown hg3 hRs
        have hG3 := grown_trans HS.out.2 hg3
        by_cases hx : x = 0
        · subst hx
          obtain ⟨r2, hr2⟩ : ∃ r2, i = r2 + 1 := ⟨i - 1, by omega⟩
          have hwr : IntKind.i64.wrap ((i : Int) - 1) = (r2 : Int) := by rw [IntWalk.i64_in _ (by omega)]; omega
          have e0 : (0 : Int) ≤ (r2 : Int) := by omega
          have e1 : (r2 : Int) < (i : Int) := by omega
          have e2 : r2 < i := by omega
          have e3 : (0 : Int) < (i : Int) := by omega
          obtain ⟨cp0, a1, _, a3, a4, a5⟩ := hm3.cellF (i := 0) hrp hc1
          obtain ⟨cp2, b1, _, b3, b4, b5⟩ := hm3.cellF (i := r2) e2 hc1
          rw [Nat.zero_add] at a1 b1
          have HC := Lib.hid (copy_ints w3.drew 3 (H 0) 0 c cp0 (H r2) 0 c cp2 c (fun j => F0 r2 j) (Nat.min_self c).symm (fun j hj => (b5 j hj).1) (fun j hj => ⟨_, (a5 j hj).1⟩) (fun j hj => (a5 j hj).2))
          have hb : Below w.heap.size w3 (w3.drew.setCells (H 0) 0 (vals c (fun j => F0 r2 j))) := (Below.drew (Below.refl _ _)).trans (setCells_below a3 _ _ _)
          have HF := Lib.hid (show OMat (w3.drew.setCells (H 0) 0 (vals c (fun j => F0 r2 j))) w.heap.size g2 0 H (fun _ => 0) (matF c (updR F0 0 0 c (fun j => F0 r2 j)) i) ∧ Rd (w3.drew.setCells (H 0) 0 (vals c (fun j => F0 r2 j))) R a len cap (q0 + 1) ∧ w.grownBy (w3.drew.setCells (H 0) 0 (vals c (fun j => F0 r2 j))) (some R) from
            ⟨(hm3.below (Below.drew (Below.refl _ _))).setsF (i := 0) (q := 0) (n := c) hrp hc1 (by omega) (fun j => F0 r2 j), hR3.far hb.size (fun k hk => hb.block k hk) hRs HLA.out,
              ⟨hb.os.trans hG3.os, hb.tape.trans hG3.tape, hb.output.trans hG3.output, Nat.le_trans hG3.size hb.size, fun k hk hne => (hb.block k hk).trans (hG3.block k hk hne)⟩⟩)
          have HCL := Lib.hid (show w3.drew.cell? ⟨g2, 0, none⟩ = some (.slice (some ⟨H 0, 0, none⟩) c cp0) ∧ w3.drew.cell? ⟨g2, r2, none⟩ = some (.slice (some ⟨H r2, 0, none⟩) c cp2) from ⟨a1, b1⟩)
          obtain ⟨W5, hW5⟩ : ∃ W5, W5 = w3.drew.setCells (H 0) 0 (vals c (fun j => F0 r2 j)) := ⟨_, rfl⟩
          rw [← hW5] at HC HF
          clear hb a1 a3 a4 a5 b1 b3 b4 b5 hR3 hg3 hs3 hm3 hG3 hW5 hr2
          go_wp2_with fail
          refine wp_region_seq [(0, true), (1, true), (2, true), (3, true), (4, true), (5, true), (6, true), (7, true)] (fun w' => w'.cell? ⟨g2, 0, none⟩ = some (.slice (some ⟨H 0, 0, none⟩) c cp0) ∧ w'.cell? ⟨g2, r2, none⟩ = some (.slice (some ⟨H r2, 0, none⟩) c cp2)) (by kernel_rfl) (by kernel_rfl) rfl (by intro c a d v w h; cases d <;> exact h) HCL.out ?_
          iterate 8 (refine wpSeq_take (v := ?_) (List.getElem?_toArray.trans rfl) ?_ ?_; rotate_left; (intro w' hSw; (try dsimp only at hSw); go_simp; (try with_reducible rfl)); (try simp only [Act.put, List.setIfInBounds_toArray, List.set_cons_zero, List.set_cons_succ]))
          refine wpSeq_nil ?_
          simp only [Exit.then]
          refine Lib.wpList_copy_run _ rfl _ _ 62 62 rfl _ _ rfl rfl HC.out ?_
          go_wp2_with fail
          go_ret
          exact ⟨g2, cap2, H, _, q0 + 1, rfl, HF.out.1, by omega, HF.out.2.1, HF.out.2.2⟩
        · have hx0 : (x == 0) = false := by simpa using hx
          have HF := Lib.hid (And.intro hm3 (And.intro hR3 hG3))
          clear hR3 hg3 hs3 hm3 hG3
          go_wp2_with fail
          go_ret
          exact ⟨g2, cap2, H, F0, q0 + 1, rfl, HF.out.1, by omega, HF.out.2.1, HF.out.2.2⟩
      · have hng : ¬ (i : Int) > 1 := by omega
        have HF := Lib.hid (And.intro hm (And.intro hRd hG))
        clear hm hRd hG
        go_wp2_with fail
        go_ret
        exact ⟨g2, cap2, H, F0, q0, rfl, HF.out.1, by omega, HF.out.2.1, HF.out.2.2⟩
end Go.Proofs.Ytlcmddghppdmgaa
