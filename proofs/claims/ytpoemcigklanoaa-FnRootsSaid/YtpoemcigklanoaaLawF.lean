/-
  The walk of the law FnRoots: it returns true. Conditions: the bytes can be read.
-/
import Derived.Test.YtpoemcigklanoaaDrw2
import Derived.Test.YtpoemcigklanoaaFldLaw
import Derived.Test.YtpoemcigklanoaaFldK
import Derived.Test.YtpoemcigklanoaaLawD
namespace Go.Proofs.Ytpoemcigklanoaa
open Go.RowKit
set_option maxRecDepth 100000 in
set_option maxHeartbeats 4000000 in
theorem acSameInts (v1 v2 : Value) (L1 L2 : List Int) (w : World) (h1 : Ints w v1 L1) (h2 : Ints w v2 L2) (he : L1 = L2) :
    Calls Try.prog 45 #[v1, v2] w fun e w' => e = .returned (.bool true) ∧ Drawn w w' := by
  subst he
  obtain ⟨m1, a1, cap1, rfl, h1⟩ := h1
  obtain ⟨m2, a2, cap2, rfl, h2⟩ := h2
  have H1 := Lib.hid h1
  have H2 := Lib.hid h2
  clear h1 h2
  go_enter Try.func45, Try.ntmps45
  go_wp2_with fail
  go_loopw [5] (fun i wr => ∃ k : Nat, k ≤ L1.length ∧ i = .int .i64 k ∧ Drawn w wr) (fun i _ => L1.length - (intOf i).toNat)
  case atStart => exact ⟨0, by omega, rfl, Drawn.refl _⟩
  case round =>
    obtain ⟨k, hk, rfl, hR⟩ := hrel
    by_cases hlt : k < L1.length
    · obtain ⟨n, rfl⟩ := hR
      rcases H1.out with h1 | ⟨g1, off1, rfl, hg1, hc1⟩
      · exact absurd hlt (by rw [h1]; simp)
      rcases H2.out with h2 | ⟨g2, off2, rfl, hg2, hc2⟩
      · exact absurd hlt (by rw [h2]; simp)
      have c1 := hc1 k hlt
      have c2 := hc2 k hlt
      have hlt1 : (k : Int) < (L1.length : Int) := by omega
      have hk0 : (0 : Int) ≤ (k : Int) := by omega
      clear hc1 hc2 H1 H2
      generalize L1.getD k 0 = x at c1 c2
      have hxy : (x != x) = false := by simp
      go_wp2_with fail
      go_quiet (fail)
      go_wp2
      go_roundw
      case rel => exact ⟨k + 1, by omega, by go_num, ⟨n + nq, by simp⟩⟩
      case measure => simp [intOf]; omega
    · clear H1 H2
      go_wp2
      go_ret
      exact ⟨by simp, hR⟩
theorem rootsK_grow (p a : Int) (n b c : Nat) : ∃ r, rootsK p a n (b + c) = rootsK p a n b ++ r := by
  induction c with
  | zero => exact ⟨[], by simp⟩
  | succ c ih =>
    obtain ⟨r, hr⟩ := ih
    cases h : ((b + c : Nat) : Int) ^ n % p == a
    · exact ⟨r, by rw [← Nat.add_assoc, rootsK_miss h, hr]⟩
    · exact ⟨r ++ [((b + c : Nat) : Int)], by rw [← Nat.add_assoc, rootsK_hit h, hr, List.append_assoc]⟩
theorem rootsK_at {p a : Int} {n b q : Nat} (h : ((b : Int) ^ n % p == a) = true) (hb : b < q) :
    (rootsK p a n b).length < (rootsK p a n q).length ∧ (rootsK p a n q).getD (rootsK p a n b).length 0 = (b : Int) := by
  obtain ⟨r, hr⟩ := rootsK_grow p a n (b + 1) (q - (b + 1))
  have e : b + 1 + (q - (b + 1)) = q := by omega
  rw [e, rootsK_hit h] at hr
  rw [hr]
  refine ⟨by simp, by simp⟩
theorem roots_few : ∀ q ∈ [2, 3, 5, 7, 11, 13], ∀ a, a < q → ∀ n, n < 13 → 0 < n → (rootsK (q : Nat) (a : Nat) n q).length ≤ n := by
  decide +kernel
theorem roots_le {p a : Int} (n : Nat) (hp : isP p = true) (a0 : 0 ≤ a) (a1 : a < p) (hn : 0 < n) : (rootsK p a n p.toNat).length ≤ n := by
  have hb := isP_bd hp
  obtain ⟨x, rfl⟩ := Int.eq_ofNat_of_zero_le a0
  obtain ⟨q, rfl⟩ := Int.eq_ofNat_of_zero_le (show 0 ≤ p by omega)
  have hq : q ∈ [2, 3, 5, 7, 11, 13] := by
    have := isP_cases hp
    simp only [List.mem_cons, List.not_mem_nil, or_false]
    omega
  rw [Int.toNat_natCast]
  by_cases h : n < 13
  · exact roots_few q hq x (by omega) n h hn
  · have := rootsK_le (q : Int) (x : Int) n q
    omega
set_option maxRecDepth 100000 in
set_option maxHeartbeats 4000000 in
theorem wRoots_no (a : Option Addr) (len cap : Nat) (w : World) (h : ByteRow w a len cap) (hl : len ≤ 1048576) :
    Calls Try.prog 8 #[.slice a len cap] w fun e w' => e = .returned (.bool true) ∧ Below w.heap.size w w' := by
  have hh := Lib.hid h
  clear h
  go_enter Try.func8, Try.ntmps8
  go_wp2_with fail
  refine (drawRootsIn a len cap w hh.out).mono ?_
  rintro e w0 ⟨p, x, n, rfl, hp, hx, hn, hb⟩
  obtain ⟨hn0, hn1⟩ := hn
  have hL := rootsL_le p x n (by cases isP p <;> simp)
  go_wp2_with fail
  refine (iRoots p x n hn1 _).mono ?_
  rintro e W1 ⟨v1, rfl, own1, hb1⟩
  have o1 := own_of_row own1 (by omega)
  have hb := hb.trans (hb1.mono hb.size)
  clear own1 hb1
  go_wp2_with fail
  refine (sRoots p x n hn1 _).mono ?_
  rintro e W2 ⟨v2, rfl, own2, hb2⟩
  have o2 := own_of_row own2 (by omega)
  have o12 := o1.below hb2
  have hb := hb.trans (hb2.mono hb.size)
  clear own2 hb2 o1
  go_wp2_with fail
  refine (acSameInts v1 v2 _ _ _ o12.ints o2.ints rfl).mono ?_
  rintro e W3 ⟨rfl, hd3⟩
  have o3 := o12.below (hd3.below _)
  have hb := hb.trans (hd3.below _)
  clear o12 o2 hd3
  go_wp2_with fail
  refine (iAdd p x 0 _).mono ?_
  rintro e W4 ⟨rfl, hb4⟩
  have o4 := o3.below hb4
  have hb := hb.trans (hb4.mono hb.size)
  clear o3 hb4
  obtain ⟨_, a1, cap1, rfl, hcells⟩ := o4.ints
  cases hE : isE1 p x
  · have hv : rootsL p x n = [] := by simp [rootsL, hE]
    have hneg : addV p x 0 < 0 := by
      have : isE2 p x 0 = false := by
        rw [← Bool.not_eq_true]
        intro e
        have := isE2_iff.1 e
        rw [isE1_iff.2 ⟨this.1, this.2.1⟩] at hE
        cases hE
      rw [(mulV_no this).2]; omega
    have hlen : ((rootsL p x n).length : Int) = 0 := by rw [hv]; rfl
    have hz : (((rootsL p x n).length : Int) == 0) = true := by rw [hlen]; rfl
    clear hcells hv hlen hE
    go_wp2
    go_ret
    exact ⟨rfl, by assumption⟩
  · obtain ⟨hP, x0, x1⟩ := isE1_iff.1 hE
    obtain ⟨p0, p1⟩ := isP_bd hP
    have hpos := (mulV_bd (isE2_mk hP x0 x1 (show (0 : Int) ≤ 0 by omega) (by omega))).2.2.1
    by_cases hn2 : n < 1
    · have hv : rootsL p x n = [] := by unfold rootsL; rw [if_neg (by omega)]
      have hlen : ((rootsL p x n).length : Int) = 0 := by rw [hv]; rfl
      have hz : (((rootsL p x n).length : Int) == 0) = true := by rw [hlen]; rfl
      clear hcells hv hlen hE
      go_wp2
      go_ret
      exact ⟨rfl, by assumption⟩
    · have hv : rootsL p x n = rootsK p x n.toNat p.toNat := by unfold rootsL; rw [if_pos ⟨hE, by omega⟩]
      rw [hv] at hcells hL
      rw [hv]
      have hfew := roots_le n.toNat hP x0 x1 (by omega)
      obtain ⟨N, hN⟩ : ∃ N : Nat, N = n.toNat := ⟨_, rfl⟩
      obtain ⟨q, hq⟩ : ∃ q : Nat, q = p.toNat := ⟨_, rfl⟩
      rw [← hN, ← hq] at hcells hL hfew
      rw [← hN, ← hq]
      have hNn : (N : Int) = n := by omega
      have hpw : ∀ b : Nat, b < q → powV p b n = (b : Int) ^ N % p := fun b hb => by
        rw [powV_eq hP (by omega) (by omega) (by omega), ← hN]
      have HPW := Lib.hid hpw
      have HC := Lib.hid hcells
      have hqp : (q : Int) = p := by omega
      have HNn := Lib.hid hNn
      have hle : ((rootsK p x N q).length : Int) ≤ n := by omega
      have hqp1 : (q : Int) ≤ p := by omega
      have hqp2 : p ≤ (q : Int) := by omega
      clear hpw hcells hv hE hN hq hNn hqp o4 hfew
      have hW : Below W4.heap.size W4 W4 := Below.refl _ _
      go_wp2_with fail
      go_loopw [7, 8] (fun k i wr => ∃ b : Nat, b ≤ q ∧ i = .int .i64 b ∧ k = .int .i64 ((rootsK p x N b).length : Nat) ∧ Below W4.heap.size W4 wr) (fun _ i _ => q - (intOf i).toNat)
      case atStart => exact ⟨0, by omega, rfl, rfl, hW⟩
      case round =>
        clear hW
        obtain ⟨b, hbq, rfl, rfl, hW⟩ := hrel
        by_cases hlt : b < q
        · have hltp : (b : Int) < p := by omega
          have HB := Lib.hid (HPW.out b hlt)
          go_wp2_with fail
          refine (iPowerIn p b n hn1 _).mono ?_
          rw [HB.out]
          rintro e W5 ⟨rfl, hb5⟩
          have hW5 := hW.trans (hb5.mono hW.size)
          clear hb5
          cases his : ((b : Int) ^ N % p == x)
          · have hm := Lib.hid (rootsK_miss his)
            have His := Lib.hid his
            go_wp2
            go_roundw
            case rel => exact ⟨b + 1, by omega, by go_num, by rw [hm.out], hW5⟩
            case measure => simp [intOf]; omega
          · have hm := Lib.hid (rootsK_hit his)
            obtain ⟨l1, l2⟩ := rootsK_at his hlt
            rcases HC.out with h0 | ⟨g, off, rfl, hg, hc⟩
            · exact absurd l1 (by rw [h0]; simp)
            have hcl := hc _ l1
            rw [l2] at hcl
            have hcl5 : W5.cell? ⟨g, off + (rootsK p x N b).length, none⟩ = some (.int .i64 b) := by rw [hW5.cell (p := ⟨g, _, none⟩) hg]; exact hcl
            have hle2 := rootsK_le p x N b
            have hge : ¬ (((rootsK p x N q).length : Int) ≤ ((rootsK p x N b).length : Int)) := by omega
            have hne : ((b : Int) != (b : Int)) = false := by simp
            have hk0 : (0 : Int) ≤ ((rootsK p x N b).length : Int) := by omega
            have hk1 : ((rootsK p x N b).length : Int) < ((rootsK p x N q).length : Int) := by omega
            have hlen1 : (rootsK p x N (b + 1)).length = (rootsK p x N b).length + 1 := by rw [hm.out]; simp
            have Hlen1 := Lib.hid hlen1
            clear hc hcl l1 l2 HC hm hlen1
            go_wp2
            go_roundw
            case rel => exact ⟨b + 1, by omega, by go_num, by rw [Hlen1.out]; go_num, hW5⟩
            case measure => simp [intOf]; omega
        · have hbq2 : b = q := by omega
          subst hbq2
          have hz : (((rootsK p x N b).length : Int) == ((rootsK p x N b).length : Int)) = true := by simp
          go_wp2
          go_ret
          exact ⟨rfl, hb.trans (hW.mono hb.size)⟩
theorem wRoots_long (a : Option Addr) (len cap : Nat) (w : World) (h : len ≤ cap ∧ cap ≤ 9223372036854775807) (hl : ¬ len ≤ 1048576) :
    Calls Try.prog 8 #[.slice a len cap] w fun e w' => e = .returned (.bool true) ∧ Below w.heap.size w w' := by
  obtain ⟨h1, h2⟩ := h
  go_enter Try.func8, Try.ntmps8
  go_wp2_with fail
  go_ret
  exact ⟨rfl, Below.refl _ _⟩
theorem wRoots (a : Option Addr) (len cap : Nat) (w : World) (h : ByteRow w a len cap) :
    Calls Try.prog 8 #[.slice a len cap] w fun e w' => e = .returned (.bool true) ∧ Below w.heap.size w w' := by
  by_cases hl : len ≤ 1048576
  · exact wRoots_no a len cap w h hl
  · exact wRoots_long a len cap w ⟨h.1, h.2.1⟩ hl
end Go.Proofs.Ytpoemcigklanoaa
