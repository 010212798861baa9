/-
  The place of a term in a sum: the closure and sort.Search. Conditions: the terms of the sum are in order.
-/
import Derived.Test.YtfmpcniehgipfaaBd8
import Derived.Test.YtfmpcniehgipfaaBd2
import Derived.Deep.LoopGhost
import Derived.Lib.Walk
import Derived.Lib.Strings
namespace Go.Proofs.Ytfmpcniehgipfaa
open Go.RowKit
/-- what the closure of put reads: s lies boxed in block n, t in block n + 1; the sum in block S; its terms in block g -/
structure PutW (W : World) (n S g cap : Nat) (L : List Trm) (x : Trm) : Prop where
  bs : W.cell? ⟨n, 0, none⟩ = some (.pointer (some ⟨S, 0, none⟩))
  bt : TAt W (n + 1) 0 x
  sv : W.cell? ⟨S, 1, none⟩ = some (.slice (some ⟨g, 0, none⟩) L.length cap)
  row : ∀ j : Nat, j < L.length → TAt W g (j * 4) (L.getD j default)
  n1 : n + 1 < W.heap.size
  s1 : S < W.heap.size
  g1 : g < W.heap.size
theorem PutW.below {W W' : World} {n S g cap : Nat} {L : List Trm} {x : Trm} (h : PutW W n S g cap L x) (hb : Below W.heap.size W W') : PutW W' n S g cap L x := by
  have e := hb.size
  have n1 := h.n1
  have s1 := h.s1
  have g1 := h.g1
  refine ⟨?_, h.bt.below hb n1, ?_, fun j hj => (h.row j hj).below hb g1, by omega, by omega, by omega⟩
  · rw [hb.cell (p := ⟨n, 0, none⟩) (by show n < _; omega)]; exact h.bs
  · rw [hb.cell (p := ⟨S, 1, none⟩) s1]; exact h.sv
set_option maxRecDepth 100000 in
set_option maxHeartbeats 4000000 in
theorem iClo (n S g cap : Nat) (L : List Trm) (x : Trm) (W : World) (i : Nat) (hi : i < L.length) (_ : L.length ≤ 4000) (h : PutW W n S g cap L x) (r : Bool) (hr : bef (L.getD i default) x = r) :
    Calls Try.prog 136 #[.int .i64 i, .pointer (some ⟨n, 0, none⟩), .pointer (some ⟨n + 1, 0, none⟩)] W fun e w' => e = .returned (.bool (!r)) ∧ Below W.heap.size W w' := by
  have hi0 : (0 : Int) ≤ (i : Int) := by omega
  have hip : (i : Int) < (L.length : Int) := by omega
  obtain ⟨y, hy⟩ : ∃ y, y = L.getD i default := ⟨_, rfl⟩
  rw [← hy] at hr
  have HR := Lib.hid (show befB y.a y.b y.c x.a x.b x.c = r from hr)
  have HY := Lib.hid (show ∀ w', Below W.heap.size W w' → TAt w' g (i * 4) y from fun w' hb => by rw [hy]; exact (h.below hb).row i hi)
  have HX := Lib.hid (show ∀ w', Below W.heap.size W w' → TAt w' (n + 1) 0 x from fun w' hb => (h.below hb).bt)
  have HS := Lib.hid (show ∀ w', Below W.heap.size W w' → w'.cell? ⟨n, 0, none⟩ = some (.pointer (some ⟨S, 0, none⟩)) ∧ w'.cell? ⟨S, 1, none⟩ = some (.slice (some ⟨g, 0, none⟩) L.length cap) from fun w' hb => ⟨(h.below hb).bs, (h.below hb).sv⟩)
  clear hr hy h
  go_enter Try.func136, Try.ntmps136
  go_wp2_with fail
  refine wp_region_below (by kernel_rfl) (by kernel_rfl) ?_
  (with_reducible refine wpQuiet_yes ?_ ?_; (focus (kernel_rfl)); intro K hK; go_simp; refine ⟨(.pointer (some ⟨S, 0, none⟩)), ?_, ?_⟩; rotate_left; with_reducible refine hK _ ?_; clear hK K; rotate_left)
  · intro w' hw
    simp only [(HS.out w' hw).1, go_sem, Result.andThen, and_self]
  (with_reducible refine wpQuiet_yes ?_ ?_; (focus (kernel_rfl)); intro K hK; go_simp; refine ⟨_, fun _ _ => rfl, ?_⟩; with_reducible refine hK _ ?_; clear hK K)
  (with_reducible refine wpQuiet_yes ?_ ?_; (focus (kernel_rfl)); intro K hK; go_simp; refine ⟨_, fun _ _ => rfl, ?_⟩; with_reducible refine hK _ ?_; clear hK K)
  (with_reducible refine wpQuiet_yes ?_ ?_; (focus (kernel_rfl)); intro K hK; go_simp; refine ⟨(.slice (some ⟨g, 0, none⟩) L.length cap), ?_, ?_⟩; rotate_left; with_reducible refine hK _ ?_; clear hK K; rotate_left)
  · intro w' hw
    simp only [(HS.out w' hw).2, go_sem, Result.andThen, and_self]
  (with_reducible refine wpQuiet_yes ?_ ?_; (focus (kernel_rfl)); intro K hK; go_simp; refine ⟨_, fun _ _ => rfl, ?_⟩; with_reducible refine hK _ ?_; clear hK K)
  (with_reducible refine wpQuiet_yes ?_ ?_; (focus (kernel_rfl)); intro K hK; go_simp; refine ⟨_, fun _ _ => rfl, ?_⟩; with_reducible refine hK _ ?_; clear hK K)
  (with_reducible refine wpQuiet_yes ?_ ?_; (focus (kernel_rfl)); intro K hK; go_simp; refine ⟨_, fun _ _ => rfl, ?_⟩; with_reducible refine hK _ ?_; clear hK K)
  (with_reducible refine wpQuiet_yes ?_ ?_; (focus (kernel_rfl)); intro K hK; go_simp; refine ⟨(.agg #[.int .i64 y.a, .int .i64 y.b, .int .i64 y.c]), ?_, ?_⟩; rotate_left; with_reducible refine hK _ ?_; clear hK K; rotate_left)
  · intro w' hw
    obtain ⟨c0, c1, c2, c3⟩ := HY.out w' hw
    simp only [c0, c1, c2, go_sem, Result.andThen, and_self]
  (with_reducible refine wpQuiet_yes ?_ ?_; (focus (kernel_rfl)); intro K hK; go_simp; refine ⟨_, fun _ _ => rfl, ?_⟩; with_reducible refine hK _ ?_; clear hK K)
  (with_reducible refine wpQuiet_yes ?_ ?_; (focus (kernel_rfl)); intro K hK; go_simp; refine ⟨(.agg #[.int .i64 x.a, .int .i64 x.b, .int .i64 x.c]), ?_, ?_⟩; rotate_left; with_reducible refine hK _ ?_; clear hK K; rotate_left)
  · intro w' hw
    obtain ⟨c0, c1, c2, c3⟩ := HX.out w' hw
    simp only [c0, c1, c2, go_sem, Result.andThen, and_self]
  (with_reducible refine wpQuiet_yes ?_ ?_; (focus (kernel_rfl)); intro K hK; go_simp; refine ⟨(.bool r), ?_, ?_⟩; rotate_left; with_reducible refine hK _ ?_; clear hK K; rotate_left)
  · intro w' hw
    exact (iGrt_is r _ _ _ _ _ _ HR.out _).mono fun e w'' ⟨he, h⟩ => ⟨he, h.below' (Below.alloc (Below.alloc hw hw.size _) (by simpa using Nat.le_succ_of_le hw.size) _)⟩
  (with_reducible refine wpQuiet_yes ?_ ?_; (focus (kernel_rfl)); intro K hK; go_simp; refine ⟨_, fun _ _ => rfl, ?_⟩; with_reducible refine hK _ ?_; clear hK K)
  (with_reducible refine wpQuiet_yes ?_ ?_; (focus (kernel_rfl)); intro K hK; go_simp; refine ⟨_, fun _ _ => rfl, ?_⟩; with_reducible refine hK _ ?_; clear hK K)
  refine wpQuiet_nil fun w2 hb2 => ?_
  have Hb2 := Lib.hid hb2
  clear hb2
  simp only [Exit.then]
  go_wp2_with fail
  go_ret
  exact ⟨rfl, Hb2.out⟩
set_option maxRecDepth 100000 in
set_option maxHeartbeats 4000000 in
theorem iSearch (n S g cap : Nat) (L : List Trm) (x : Trm) (w : World) (hl : L.length ≤ 4000) (hs : Srt L) (h : PutW w n S g cap L x) :
    Calls Try.prog 135 #[.int .i64 L.length, .func (.func 136) #[] #[.pointer (some ⟨n, 0, none⟩), .pointer (some ⟨n + 1, 0, none⟩)]] w fun e w' => e = .returned (.int .i64 (plc x L : Nat)) ∧ Below w.heap.size w w' := by
  have HC := Lib.hid (show ∀ W, Below w.heap.size w W → ∀ i : Nat, i < L.length → ∀ r, bef (L.getD i default) x = r → Calls Try.prog 136 #[.int .i64 i, .pointer (some ⟨n, 0, none⟩), .pointer (some ⟨n + 1, 0, none⟩)] W fun e w' => e = .returned (.bool (!r)) ∧ Below W.heap.size W w' from
    fun W hb i hi r hr => iClo n S g cap L x W i hi hl (h.below hb) r hr)
  have HP := Lib.hid (And.intro (fun (j : Nat) (hj : j < L.length) (hp : plc x L ≤ j) => plc_ge hs hj hp) (fun (j : Nat) (hj : j < plc x L) => plc_lt hj))
  have hpl := plc_le x L
  obtain ⟨P, hP⟩ : ∃ P, P = plc x L := ⟨_, rfl⟩
  rw [← hP] at HP hpl ⊢
  clear h hs hP
  go_enter Try.func135, Try.ntmps135
  go_wp2_with fail
  go_loopw [5, 6] (fun a b wr => ∃ lo hi : Nat, a = .int .i64 lo ∧ b = .int .i64 hi ∧ lo ≤ P ∧ P ≤ hi ∧ hi ≤ L.length ∧ Below w.heap.size w wr) (fun a b _ => (intOf b).toNat - (intOf a).toNat)
  case atStart => exact ⟨0, L.length, rfl, rfl, by omega, hpl, by omega, Below.refl _ _⟩
  case round =>
    obtain ⟨lo, hi, rfl, rfl, h1, h2, h3, hb⟩ := hrel
    have Hb := Lib.hid hb
    by_cases hlt : lo < hi
    · have hltp : (lo : Int) < (hi : Int) := by omega
      obtain ⟨m, hm⟩ : ∃ m, m = (lo + hi) / 2 := ⟨_, rfl⟩
      have hm1 : lo ≤ m := by omega
      have hm2 : m < hi := by omega
      have hdv : ((lo : Int) + (hi : Int)) / 2 = (m : Int) := by omega
      clear hm
      clear hb
      rcases Bool.eq_false_or_eq_true (bef (L.getD m default) x) with hbm | hbm
      · have HM := Lib.hid hbm
        have hmp : m < P := by
          apply Nat.lt_of_not_le
          intro hle
          have := HP.out.1 m (by omega) hle
          rw [hbm] at this
          cases this
        clear hbm
        go_wp2_with fail
        refine (HC.out _ Hb.out m (by omega) true HM.out).mono ?_
        rintro e w1 ⟨rfl, hb1⟩
        have H1 := Lib.hid (Hb.out.trans (hb1.mono Hb.out.size))
        clear hb1
        go_wp2_with fail
        go_roundw
        case rel => exact ⟨m + 1, hi, by go_num, rfl, by omega, h2, h3, H1.out⟩
        case measure => simp [intOf]; omega
      · have HM := Lib.hid hbm
        have hmp : P ≤ m := by
          apply Nat.le_of_not_lt
          intro hle
          have := HP.out.2 m hle
          rw [hbm] at this
          cases this
        clear hbm
        go_wp2_with fail
        refine (HC.out _ Hb.out m (by omega) false HM.out).mono ?_
        rintro e w1 ⟨rfl, hb1⟩
        have H1 := Lib.hid (Hb.out.trans (hb1.mono Hb.out.size))
        clear hb1
        go_wp2_with fail
        go_roundw
        case rel => exact ⟨lo, m, rfl, rfl, h1, hmp, by omega, H1.out⟩
        case measure => simp [intOf]; omega
    · have : lo = P := by omega
      have hhi : hi = P := by omega
      subst hhi
      subst this
      go_wp2
      go_ret
      exact ⟨rfl, hb⟩
end Go.Proofs.Ytfmpcniehgipfaa
