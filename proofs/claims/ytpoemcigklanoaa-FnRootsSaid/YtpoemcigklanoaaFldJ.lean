/-
  Contracts of RootsIn, of both: the result is a slice of the call's own with the roots in it. Conditions: none.
-/
import Derived.Test.YtpoemcigklanoaaFldI
import Derived.Below
import Derived.OwnWalk
namespace Go.Proofs.Ytpoemcigklanoaa
open Go.RowKit
theorem infoI : (Try.prog.info? 3).map (fun i => (i.zero, i.size, i.bytes)) = some (some (.int .i64 0), 1, 8) := by kernel_rfl
/-- the numbers below k whose power with the exponent n is a -/
def rootsK (p a : Int) (n : Nat) (k : Nat) : List Int := ((List.range k).filter fun b => ((b : Nat) : Int) ^ n % p == a).map fun b => ((b : Nat) : Int)
theorem rootsK_hit {p a : Int} {n k : Nat} (h : ((k : Int) ^ n % p == a) = true) : rootsK p a n (k + 1) = rootsK p a n k ++ [(k : Int)] := by
  simp [rootsK, List.range_succ, List.filter_append, h]
theorem rootsK_miss {p a : Int} {n k : Nat} (h : ((k : Int) ^ n % p == a) = false) : rootsK p a n (k + 1) = rootsK p a n k := by
  simp [rootsK, List.range_succ, List.filter_append, h]
theorem rootsK_le (p a : Int) (n k : Nat) : (rootsK p a n k).length ≤ k := by
  unfold rootsK; rw [List.length_map]
  exact Nat.le_trans (List.length_filter_le _ _) (by simp)
theorem ownsRow_belowKept {w w1 : World} {base : Nat} {e : TypeId} {size : Nat} {v : Value} {n : Nat} {xs : List Value} (h : w.ownsRow base e size v n xs) (hb : Below w.heap.size w w1) : w1.ownsRow base e size v n xs := by
  have hl := h.lt
  obtain ⟨h1, h2⟩ := h
  refine ⟨h1, ?_⟩
  rcases h2 with h2 | ⟨g, cap, cur, hv, hg, hh, hr⟩
  · exact .inl h2
  · subst hv
    have := (hl g rfl).2
    exact .inr ⟨g, cap, cur, rfl, hg, by rw [hb.block g this]; exact hh, hr⟩
/-- what RootsIn returns, for all arguments -/
def rootsL (p a n : Int) : List Int := if isE1 p a = true ∧ 1 ≤ n then rootsK p a n.toNat p.toNat else []
/-- a call hands back a slice of its own, with these numbers in it, and writes into nothing that was there -/
def GivesInts (L : List Int) (w : World) (e : Ending) (w' : World) : Prop :=
  ∃ v, e = .returned v ∧ w'.ownsRow w.heap.size 3 1 v L.length (L.map (Value.int .i64)) ∧ Below w.heap.size w w'
theorem rel_hit {B k : Nat} {p a : Int} {n : Nat} {w wr w1 : World} {v v' : Value} {o : Obj} (h : ((k : Int) ^ n % p == a) = true)
    (hown : wr.ownsRow B 3 1 v (rootsK p a n k).length ((rootsK p a n k).map (Value.int .i64))) (hlow : Below B w wr) (hB : B ≤ wr.heap.size)
    (hown' : w1.ownsRow B 3 1 v' ((rootsK p a n k).length + 1) ((rootsK p a n k).map (Value.int .i64) ++ [.int .i64 k])) (hgrow : (wr.alloc o).grownBy w1 v.ownBlock) :
    w1.ownsRow B 3 1 v' (rootsK p a n (k + 1)).length ((rootsK p a n (k + 1)).map (Value.int .i64)) ∧ Below B w w1 := by
  refine ⟨by rw [rootsK_hit h]; simpa using hown', (hlow.alloc hB o).grown hgrow (by simp; omega) (fun j hj => (hown.lt j hj).1)⟩
set_option maxHeartbeats 1000000 in
theorem iRoots_yes (p a n : Int) (hE : isE1 p a = true) (hn0 : 1 ≤ n) (hn1 : n ≤ 9223372036854775807) (w : World) :
    Calls Try.prog 44 #[.int .i64 p, .int .i64 a, .int .i64 n] w (GivesInts (rootsK p a n.toNat p.toNat) w) := by
  obtain ⟨i0, hi, hz0, hz1, hz2⟩ := info_parts infoI
  obtain ⟨hp, a0, a1⟩ := isE1_iff.1 hE
  obtain ⟨hpb1, hpb2⟩ := isP_bd hp
  have hP := Lib.hid hp
  have hB := Lib.hid hE
  clear hE hp
  have hf := fld1
  go_enter Try.func44, Try.ntmps44
  go_wp2_with (go_at_call 52; refine (iAE1 p a _ _ (by simp)).mono ?_; rw [hB.out]; rintro e w' ⟨rfl, rfl⟩)
  go_loopw [7, 19] (fun v i wr => ∃ k : Nat, (k : Int) ≤ p ∧ i = .int .i64 k ∧ wr.ownsRow w.heap.size 3 1 v (rootsK p a n.toNat k).length ((rootsK p a n.toNat k).map (Value.int .i64)) ∧ Below w.heap.size w wr) (fun _ i _ => p.toNat - (intOf i).toNat)
  case atStart => exact ⟨0, by omega, rfl, World.ownsRow_nil _ _ _ _, (Below.refl _ _).alloc (Nat.le_refl _) _⟩
  case round =>
    obtain ⟨k, hk, rfl, hown, hlow⟩ := hrel
    have hsz := hlow.size
    by_cases hlt : (k : Int) < p
    · go_wp2_with fail
      refine (iPow p k n hP.out (by omega) hlt (by omega) hn1 _).mono ?_
      rintro e w1 ⟨rfl, hb1⟩
      have hown1 : w1.ownsRow w.heap.size 3 1 _ _ _ := ownsRow_belowKept hown hb1
      have hlow1 := hlow.trans (hb1.mono hsz)
      have hsz1 := hlow1.size
      clear hown hlow hsz hb1
      cases h1 : ((k : Int) ^ n.toNat % p == a)
      · have Hb := Lib.hid h1
        have Hown := Lib.hid hown1
        clear hown1
        go_wp2
        go_roundw
        case rel => exact ⟨k + 1, by omega, by go_num, by rw [rootsK_miss Hb.out]; exact Hown.out, hlow1⟩
        case measure => simp [intOf]; omega
      · have Hb := Lib.hid h1
        have hle := rootsK_le p a n.toNat k
        go_wp2_with (at_builtin; refine wpList_append_own _ rfl _ _ 37 rfl w.heap.size 3 i0 (.int .i64 0) 1 8 Try.underlying37 hi hz0 hz1 hz2 rfl (by decide) _ _ _ rfl (hown1.alloc _) ⟨w1.heap.size, 0, none⟩ 1 1 [.int .i64 k] rfl rfl ?c1 ?c2 ?c3 ?c4 ?c5 ?_)
        case c1 =>
          intro j u hj
          match j, hj with
          | 0, hj => simp at hj; subst hj; simp [Addr.add]
        case c2 => intro u hu; simp at hu; subst hu; rfl
        case c3 => unfold maxLen; omega
        case c4 => omega
        case c5 => simp; omega
        intro v' w2 hown' hgrow _
        have R := rel_hit Hb.out hown1 hlow1 hsz1 hown' hgrow
        obtain ⟨R1, R2⟩ := R
        clear hown' hgrow hown1 hlow1 hsz1 h1
        go_wp2
        go_roundw
        case rel => exact ⟨k + 1, by omega, by go_num, R1, R2⟩
        case measure => simp [intOf]; omega
    · have hkp : k = p.toNat := by omega
      go_wp2
      go_ret
      exact ⟨_, rfl, by rw [← hkp]; exact hown, hlow⟩
theorem iRoots (p a n : Int) (hn1 : n ≤ 9223372036854775807) (w : World) :
    Calls Try.prog 44 #[.int .i64 p, .int .i64 a, .int .i64 n] w (GivesInts (rootsL p a n) w) := by
  cases hE : isE1 p a
  · have hv : rootsL p a n = [] := by simp [rootsL, hE]
    rw [hv]
    have hB := Lib.hid hE
    clear hE hv
    go_enter Try.func44, Try.ntmps44
    go_wp2_with (go_at_call 52; refine (iAE1 p a _ _ (by simp)).mono ?_; rw [hB.out]; rintro e w' ⟨rfl, rfl⟩)
    go_ret
    exact ⟨_, rfl, World.ownsRow_nil _ _ _ _, (Below.refl _ _).alloc (Nat.le_refl _) _⟩
  · by_cases hn : 1 ≤ n
    · have hv : rootsL p a n = rootsK p a n.toNat p.toNat := by simp [rootsL, hE, hn]
      rw [hv]; exact iRoots_yes p a n hE hn hn1 w
    · have hv : rootsL p a n = [] := by simp [rootsL, hn]
      rw [hv]
      have hB := Lib.hid hE
      clear hE hv
      go_enter Try.func44, Try.ntmps44
      go_wp2_with (go_at_call 52; refine (iAE1 p a _ _ (by simp)).mono ?_; rw [hB.out]; rintro e w' ⟨rfl, rfl⟩)
      go_ret
      exact ⟨_, rfl, World.ownsRow_nil _ _ _ _, (Below.refl _ _).alloc (Nat.le_refl _) _⟩
theorem owns_empty (w : World) : (w.alloc (.cells #[] 3)).ownsRow w.heap.size 3 1 (.slice (some ⟨w.heap.size, 0, none⟩) 0 0) 0 [] :=
  ⟨rfl, .inr ⟨w.heap.size, 0, #[], rfl, Nat.le_refl _, (MapKept.heap_alloc w _).1, Nat.le_refl _, by decide, rfl, rfl⟩⟩
set_option maxHeartbeats 1000000 in
theorem sRoots_yes (p a n : Int) (hE : isE1 p a = true) (hn0 : 1 ≤ n) (hn1 : n ≤ 9223372036854775807) (w : World) :
    Calls Try.prog 46 #[.int .i64 p, .int .i64 a, .int .i64 n] w (GivesInts (rootsK p a n.toNat p.toNat) w) := by
  obtain ⟨i0, hi, hz0, hz1, hz2⟩ := info_parts infoI
  obtain ⟨hp, a0, a1⟩ := isE1_iff.1 hE
  obtain ⟨hpb1, hpb2⟩ := isP_bd hp
  have hP := Lib.hid hp
  have hB := Lib.hid hE
  clear hE hp
  go_enter Try.func46, Try.ntmps46
  go_wp2_with (go_at_call 55; refine (sEl1 p a _ _ (by simp)).mono ?_; rw [hB.out]; rintro e w' ⟨rfl, rfl⟩)
  go_loopw [7, 21] (fun v i wr => ∃ k : Nat, (k : Int) ≤ p ∧ i = .int .i64 k ∧ wr.ownsRow w.heap.size 3 1 v (rootsK p a n.toNat k).length ((rootsK p a n.toNat k).map (Value.int .i64)) ∧ Below w.heap.size w wr) (fun _ i _ => p.toNat - (intOf i).toNat)
  case atStart => exact ⟨0, by omega, rfl, (owns_empty w).alloc _, ((Below.refl _ _).alloc (Nat.le_refl _) _).alloc (by simp) _⟩
  case round =>
    obtain ⟨k, hk, rfl, hown, hlow⟩ := hrel
    have hsz := hlow.size
    by_cases hlt : (k : Int) < p
    · go_wp2_with fail
      refine (sPowLoop p k n hP.out (by omega) hlt (by omega) hn1 _).mono ?_
      rintro e w1 ⟨rfl, rfl⟩
      cases h1 : ((k : Int) ^ n.toNat % p == a)
      · have Hb := Lib.hid h1
        have Hown := Lib.hid hown
        clear hown
        go_wp2
        go_roundw
        case rel => exact ⟨k + 1, by omega, by go_num, by rw [rootsK_miss Hb.out]; exact Hown.out, hlow⟩
        case measure => simp [intOf]; omega
      · have Hb := Lib.hid h1
        have hle := rootsK_le p a n.toNat k
        go_wp2_with (at_builtin; refine wpList_append_own _ rfl _ _ 37 rfl w.heap.size 3 i0 (.int .i64 0) 1 8 Try.underlying37 hi hz0 hz1 hz2 rfl (by decide) _ _ _ rfl (hown.alloc _) ⟨wr.heap.size, 0, none⟩ 1 1 [.int .i64 k] rfl rfl ?c1 ?c2 ?c3 ?c4 ?c5 ?_)
        case c1 =>
          intro j u hj
          match j, hj with
          | 0, hj => simp at hj; subst hj; simp [Addr.add]
        case c2 => intro u hu; simp at hu; subst hu; rfl
        case c3 => unfold maxLen; omega
        case c4 => omega
        case c5 => simp; omega
        intro v' w2 hown' hgrow _
        have R := rel_hit Hb.out hown hlow hsz hown' hgrow
        obtain ⟨R1, R2⟩ := R
        clear hown' hgrow hown hlow hsz h1
        go_wp2
        go_roundw
        case rel => exact ⟨k + 1, by omega, by go_num, R1, R2⟩
        case measure => simp [intOf]; omega
    · have hkp : k = p.toNat := by omega
      go_wp2
      go_ret
      exact ⟨_, rfl, by rw [← hkp]; exact hown, hlow⟩
theorem sRoots (p a n : Int) (hn1 : n ≤ 9223372036854775807) (w : World) :
    Calls Try.prog 46 #[.int .i64 p, .int .i64 a, .int .i64 n] w (GivesInts (rootsL p a n) w) := by
  cases hE : isE1 p a
  · have hv : rootsL p a n = [] := by simp [rootsL, hE]
    rw [hv]
    have hB := Lib.hid hE
    clear hE hv
    go_enter Try.func46, Try.ntmps46
    go_wp2_with (go_at_call 55; refine (sEl1 p a _ _ (by simp)).mono ?_; rw [hB.out]; rintro e w' ⟨rfl, rfl⟩)
    go_ret
    exact ⟨_, rfl, (owns_empty w).alloc _, ((Below.refl _ _).alloc (Nat.le_refl _) _).alloc (by simp) _⟩
  · by_cases hn : 1 ≤ n
    · have hv : rootsL p a n = rootsK p a n.toNat p.toNat := by simp [rootsL, hE, hn]
      rw [hv]; exact sRoots_yes p a n hE hn hn1 w
    · have hv : rootsL p a n = [] := by simp [rootsL, hn]
      rw [hv]
      have hB := Lib.hid hE
      clear hE hv
      go_enter Try.func46, Try.ntmps46
      go_wp2_with (go_at_call 55; refine (sEl1 p a _ _ (by simp)).mono ?_; rw [hB.out]; rintro e w' ⟨rfl, rfl⟩)
      go_ret
      exact ⟨_, rfl, (owns_empty w).alloc _, ((Below.refl _ _).alloc (Nat.le_refl _) _).alloc (by simp) _⟩
end Go.Proofs.Ytpoemcigklanoaa
