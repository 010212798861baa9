/-
  The walk of the law FnGenerator: it returns true. Conditions: the bytes can be read.
-/
import Derived.Test.YtpoemcigklanoaaDrw2
import Derived.Test.YtpoemcigklanoaaLawD
namespace Go.Proofs.Ytpoemcigklanoaa
open Go.RowKit
theorem infoB : (Try.prog.info? 4).map (fun i => (i.zero, i.size, i.bytes)) = some (some (.bool false), 1, 1) := by kernel_rfl
theorem gen_laws : ∀ q ∈ [2, 3, 5, 7, 11, 13], ((genO (q : Nat)).isSome = true ∧ (genO (q : Nat)).getD 0 ≠ 0 ∧ (genO (q : Nat)).getD 0 < q ∧ (∀ i, i < q - 1 → (genO (q : Nat)).getD 0 ^ i % q ≠ 0) ∧
    ∀ j, j < q - 1 → ∀ i, i < j → (genO (q : Nat)).getD 0 ^ i % q ≠ (genO (q : Nat)).getD 0 ^ j % q) := by
  decide +kernel
theorem gen_fact {q : Nat} (hp : isP (q : Int) = true) :
    ∃ g : Nat, genV q = (g : Int) ∧ 0 < g ∧ g < q ∧ (ordV q g == (q : Int) - 1) = true ∧ (∀ a : Nat, a < g → (ordV q a == (q : Int) - 1) = false) ∧
      (∀ i : Nat, i < q - 1 → ∃ t : Nat, powV q g i = (t : Int) ∧ 0 < t ∧ t < q) ∧ (∀ j : Nat, j < q - 1 → ∀ i : Nat, i < j → powV q g i ≠ powV q g j) := by
  have hq : q ∈ [2, 3, 5, 7, 11, 13] := by
    have := isP_cases hp
    simp only [List.mem_cons, List.not_mem_nil, or_false]
    omega
  obtain ⟨r1, r2, r3, r4, r5⟩ := gen_laws q hq
  obtain ⟨g, hg⟩ := Option.isSome_iff_exists.1 r1
  rw [hg] at r2 r3 r4 r5
  simp only [Option.getD_some] at r2 r3 r4 r5
  have hV : genV q = (g : Int) := by unfold genV; rw [if_pos hp, hg]
  have hg2 := hg
  unfold genO at hg2
  rw [List.find?_range_eq_some] at hg2
  obtain ⟨m1, m2, m3⟩ := hg2
  have hpw : ∀ i : Nat, powV q g i = ((g ^ i % q : Nat) : Int) := fun i => by
    rw [powV_eq hp (by omega) (by omega) (by omega), Int.toNat_natCast]; simp
  refine ⟨g, hV, by omega, r3, ?_, ?_, ?_, ?_⟩
  · rw [ordV_eq hp (by omega)]; exact m1
  · intro a ha
    rw [ordV_eq hp (by omega)]
    simpa using m3 a ha
  · intro i hi
    refine ⟨g ^ i % q, hpw i, ?_, Nat.mod_lt _ (by omega)⟩
    have := r4 i hi
    omega
  · intro j hj i hi e
    rw [hpw, hpw] at e
    exact r5 j hj i hi (by exact_mod_cast e)
/-- which numbers were seen behind k rounds -/
def seenB (p g : Int) (k : Nat) (j : Nat) : Bool := (List.range k).any fun i => powV p g (i : Nat) == (j : Nat)
theorem seenB_zero (p g : Int) (j : Nat) : seenB p g 0 j = false := rfl
theorem seenB_succ (p g : Int) (k j : Nat) : seenB p g (k + 1) j = (seenB p g k j || powV p g (k : Nat) == (j : Nat)) := by
  simp [seenB, List.range_succ, List.any_append]
theorem seenB_no {p g : Int} {k t : Nat} (h : ∀ i : Nat, i < k → powV p g (i : Nat) ≠ powV p g (k : Nat)) (ht : powV p g (k : Nat) = (t : Int)) : seenB p g k t = false := by
  unfold seenB
  rw [List.any_eq_false]
  intro i hi
  have := h i (by simpa using hi)
  rw [ht] at this
  simpa using this
theorem made_at (q j : Nat) (hj : j < q) : (madeCells #[Value.bool false] q).toList[j]? = some (.bool false) := by
  rw [toList_madeCells_one]; simp [hj]
structure SeenW (p g : Int) (q G k : Nat) (w wr : World) : Prop where
  cells : ∀ j : Nat, j < q → wr.cell? ⟨G, j, none⟩ = some (.bool (seenB p g k j))
  froz : ∀ j : Nat, j < q → wr.frozen? ⟨G, j, none⟩ = false
  sz : G < wr.heap.size
  low : Below w.heap.size w wr
theorem SeenW.below {p g : Int} {q G k : Nat} {w wr w1 : World} (h : SeenW p g q G k w wr) (hb : Below wr.heap.size wr w1) : SeenW p g q G k w w1 := by
  have sz := h.sz
  have e := hb.size
  constructor
  · intro j hj; rw [hb.cell (p := ⟨G, j, none⟩) sz]; exact h.cells j hj
  · intro j hj; rw [hb.frozen (p := ⟨G, j, none⟩) sz]; exact h.froz j hj
  · omega
  · exact h.low.trans (hb.mono h.low.size)
theorem SeenW.step {p g : Int} {q G k : Nat} {w wr : World} (h : SeenW p g q G k w wr) (t : Nat) (ht : powV p g (k : Nat) = (t : Int)) (hw : w.heap.size ≤ G) (htq : t < q) :
    SeenW p g q G (k + 1) w (wr.setCell ⟨G, t, none⟩ (.bool true)) := by
  constructor
  · intro j hj
    rw [seenB_succ, ht]
    by_cases e : j = t
    · subst e
      rw [World.cell?_setCell_same _ _ _ (h.cells _ hj)]; simp
    · have hne : (((t : Nat) : Int) == ((j : Nat) : Int)) = false := by simp; omega
      rw [World.cell?_setCell_other _ _ _ _ (by simp <;> omega), h.cells j hj, hne, Bool.or_false]
  · intro j hj; rw [World.frozen?_setCell]; exact h.froz j hj
  · simpa using h.sz
  · exact h.low.setCell (by exact hw) _
set_option maxRecDepth 100000 in
set_option maxHeartbeats 4000000 in
theorem wGen_no (a : Option Addr) (len cap : Nat) (w : World) (h : ByteRow w a len cap) (hl : len ≤ 1048576) :
    Calls Try.prog 7 #[.slice a len cap] w fun e w' => e = .returned (.bool true) ∧ Below w.heap.size w w' := by
  have hh := Lib.hid h
  clear h
  go_enter Try.func7, Try.ntmps7
  go_wp2_with fail
  refine (drawGeneratorIn a len cap w hh.out).mono ?_
  rintro e w0 ⟨p, rfl, hp, hb⟩
  obtain ⟨hp0, hp1⟩ := hp
  cases hE : isP p
  · have hneg : genV p < 0 := by simp [genV, hE]
    have HP := Lib.hid hE
    clear hE
    go_wp2_with (first
      | (go_at_call 41; refine (iGen _ _).mono ?_; rintro e w1 ⟨rfl, hb1⟩; replace hb := hb.trans (hb1.mono hb.size); clear hb1)
      | (go_at_call 42; refine (sGen _ _ (by omega)).mono ?_; rintro e w1 ⟨rfl, hb1⟩; replace hb := hb.trans (hb1.mono hb.size); clear hb1)
      | (go_at_call 24; refine (iPV_no _ _ HP.out).mono ?_; rintro e w1 ⟨rfl, rfl⟩))
    go_ret
    exact ⟨rfl, hb⟩
  · obtain ⟨p0, p1⟩ := isP_bd hE
    obtain ⟨q, rfl⟩ := Int.eq_ofNat_of_zero_le (show 0 ≤ p by omega)
    obtain ⟨g, hG, g0, g1, o1, o2, o3, o4⟩ := gen_fact hE
    have HG := Lib.hid hG
    have O2 := Lib.hid o2
    have O3 := Lib.hid o3
    have O4 := Lib.hid o4
    obtain ⟨i0, hi, hz0, hz1, hz2⟩ := info_parts infoB
    have HP := Lib.hid hE
    clear hE hG o2 o3 o4
    go_wp2_with (first
      | (go_at_call 41; refine (iGen _ _).mono ?_; rw [HG.out]; rintro e w1 ⟨rfl, hb1⟩; replace hb := hb.trans (hb1.mono hb.size); clear hb1)
      | (go_at_call 42; refine (sGen _ _ (by omega)).mono ?_; rw [HG.out]; rintro e w1 ⟨rfl, hb1⟩; replace hb := hb.trans (hb1.mono hb.size); clear hb1)
      | (at_make; refine wpList_make_full _ rfl _ _ 36 rfl w.heap.size 4 i0 (.bool false) 1 Try.underlying36 hi hz0 hz1 .i64 .i64 q q q rfl rfl rfl rfl ?c2 ?c3 ?c4 ?_))
    case c2 => rw [hz2]; omega
    case c3 => unfold maxLen; omega
    case c4 => exact hb.size
    intro w2 hown hgr
    obtain ⟨G, hGe⟩ : ∃ G : Nat, G = w1.heap.size := ⟨_, rfl⟩
    have hwG : w.heap.size ≤ G := by rw [hGe]; exact hb.size
    have hS : SeenW q g q G 0 w w2 := by
      rw [hGe]
      constructor
      · intro j hj
        rw [hown.cellAt j (by omega), made_at q j hj, seenB_zero]
      · intro j hj; exact hown.frozenAt j
      · exact (hown.lt _ rfl).2
      · exact hb.grown hgr hb.size (fun k hk => by cases hk)
    rw [← hGe]
    clear hown hgr hb hi hz0 hz1 hz2 hGe
    go_wp2_with fail
    go_loopw [6] (fun i wr => ∃ k : Nat, k ≤ q - 1 ∧ i = .int .i64 k ∧ SeenW q g q G k w wr) (fun i _ => q - (intOf i).toNat)
    case atStart => exact ⟨0, by omega, rfl, hS⟩
    case round =>
      clear hS
      obtain ⟨k, hk, rfl, hS⟩ := hrel
      by_cases hlt : k < q - 1
      · obtain ⟨t, ht, t0, tq⟩ := O3.out k hlt
        have hno := seenB_no (O4.out k hlt) ht
        have HT := Lib.hid ht
        have hltz : (k : Int) < (q : Int) - 1 := by omega
        clear ht
        go_wp2_with fail
        refine (iPowerIn q g k (by omega) _).mono ?_
        rw [HT.out]
        rintro e w3 ⟨rfl, hb3⟩
        have hS3 := hS.below hb3
        have c1 : w3.cell? ⟨G, t, none⟩ = some (.bool false) := by rw [hS3.cells t tq, hno]
        have f1 := hS3.froz t tq
        have hSt := Lib.hid (hS3.step t HT.out hwG tq)
        have tb : ((t : Int) == 0) = false := by simp; omega
        have tz0 : (0 : Int) ≤ (t : Int) := by omega
        have tz1 : (t : Int) < (q : Int) := by omega
        clear hS hb3 hS3 hno
        go_wp2
        go_roundw
        case rel => exact ⟨k + 1, by omega, by go_num, hSt.out⟩
        case measure => simp [intOf]; omega
      · have hltz : ¬ (k : Int) < (q : Int) - 1 := by omega
        have hb := hS.low
        clear hS
        go_wp2_with fail
        go_loopw [8] (fun i wr => ∃ k : Nat, 1 ≤ k ∧ k ≤ g ∧ i = .int .i64 k ∧ Below w.heap.size w wr) (fun i _ => g - (intOf i).toNat)
        case atStart => exact ⟨1, by omega, by omega, rfl, hb⟩
        case round =>
          clear hb
          obtain ⟨j, hj1, hj2, rfl, hb⟩ := hrel
          by_cases hjl : j < g
          · have u1 := O2.out j hjl
            go_wp2_with (go_at_call 37; refine (iOrder _ _ _).mono ?_; rintro e w1 ⟨rfl, hb1⟩; replace hb := hb.trans (hb1.mono hb.size); clear hb1)
            go_roundw
            case rel => exact ⟨j + 1, by omega, by omega, by go_num, hb⟩
            case measure => simp [intOf]; omega
          · go_wp2_with (go_at_call 37; refine (iOrder _ _ _).mono ?_; rintro e w1 ⟨rfl, hb1⟩; replace hb := hb.trans (hb1.mono hb.size); clear hb1)
            go_ret
            exact ⟨rfl, hb⟩
theorem wGen_long (a : Option Addr) (len cap : Nat) (w : World) (h : len ≤ cap ∧ cap ≤ 9223372036854775807) (hl : ¬ len ≤ 1048576) :
    Calls Try.prog 7 #[.slice a len cap] w fun e w' => e = .returned (.bool true) ∧ Below w.heap.size w w' := by
  obtain ⟨h1, h2⟩ := h
  go_enter Try.func7, Try.ntmps7
  go_wp2_with fail
  go_ret
  exact ⟨rfl, Below.refl _ _⟩
theorem wGenerator (a : Option Addr) (len cap : Nat) (w : World) (h : ByteRow w a len cap) :
    Calls Try.prog 7 #[.slice a len cap] w fun e w' => e = .returned (.bool true) ∧ Below w.heap.size w w' := by
  by_cases hl : len ≤ 1048576
  · exact wGen_no a len cap w h hl
  · exact wGen_long a len cap w ⟨h.1, h.2.1⟩ hl
end Go.Proofs.Ytpoemcigklanoaa
