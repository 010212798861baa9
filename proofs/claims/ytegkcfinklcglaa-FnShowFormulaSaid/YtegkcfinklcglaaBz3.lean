/-
  The walk of the law of ShowFormula. Conditions: none but that the bytes can be read.
-/
import Derived.Test.YtegkcfinklcglaaBz2
import Derived.Test.YtegkcfinklcglaaBv1
namespace Go.Proofs.Ytegkcfinklcglaa
open Go.RowKit
theorem lit_is {c : UInt8} {k : UInt8} {z : Int} (hz : ((k.toNat : Nat) : Int) = z) : (((c.toNat : Nat) : Int) = z) ↔ (c == k) = true := by
  rw [beq_iff_eq, ← hz]
  exact ⟨fun h => UInt8.toNat_inj.1 (by omega), fun h => by rw [h]⟩
set_option maxRecDepth 100000 in
set_option maxHeartbeats 16000000 in
theorem wSho_in (a : Option Addr) (len cap : Nat) (w : World) (h : ByteRow w a len cap) (hl : len ≤ 1048576) :
    Calls Try.prog 14 #[.slice a len cap] w fun e w' => e = .returned (.bool true) ∧ Below w.heap.size w w' := by
  have hlp : (len : Int) ≤ 1048576 := by omega
  have HD := Lib.hid (drawShow a len cap w h)
  clear h
  go_enter Try.func14, Try.ntmps14
  go_wp2_with fail
  refine HD.out.mono ?_
  rintro e w1 ⟨p, s, rfl, hs70, hb1⟩
  have HB1 := Lib.hid hb1
  clear hb1 HD
  obtain ⟨T, hT⟩ : ∃ T, T = showV p s := ⟨_, rfl⟩
  have HT := Lib.hid hT
  clear hT
  go_wp2_with fail
  refine (iShowFormula p s w1).mono ?_
  rw [← HT.out]
  rintro e w2 ⟨rfl, hb⟩
  have HB2 := Lib.hid (HB1.out.trans (hb.mono HB1.out.size))
  clear hb HB1
  go_wp2_with fail
  refine (sShowFormula p s w2).mono ?_
  rw [← HT.out]
  rintro e w3 ⟨rfl, hb⟩
  have HB3 := Lib.hid (HB2.out.trans (hb.mono HB2.out.size))
  clear hb HB2
  cases hf : foF p s with
  | none =>
    have hTe : T = ⟨#[]⟩ := by rw [HT.out]; unfold showV; rw [hf]
    subst hTe
    have e2 : fokB p s = false := by rw [fokB_some, hf]; rfl
    have E2 := Lib.hid e2
    clear e2 hf
    go_wp2_with fail
    refine (sShowFormula p s w3).mono ?_
    rw [← HT.out]
    rintro e w4 ⟨rfl, hb⟩
    have HB4 := Lib.hid (HB3.out.trans (hb.mono HB3.out.size))
    clear hb HB3
    go_wp2_with fail
    refine (iFormulaValid p s w4).mono ?_
    rw [E2.out]
    rintro e w5 ⟨rfl, hb⟩
    have HB5 := Lib.hid (HB4.out.trans (hb.mono HB4.out.size))
    clear hb HB4
    go_wp2_with fail
    go_ret
    exact ⟨rfl, HB5.out⟩
  | some f =>
    obtain ⟨e0, hF⟩ := shoF hf
    rw [← HT.out] at e0
    rw [← e0] at hF
    have hne : T.toList.isEmpty = false := by
      have := hF.ne
      rw [Lib.toList_data]
      cases h : T.data.toList with
      | nil =>
        have h2 : T.data.toList.length = T.size := by rw [Array.length_toList]; rfl
        rw [h] at h2
        simp at h2
        omega
      | cons c r => rfl
    have HF := Lib.hid hF
    have hs60 : (s.size : Int) ≤ 60 := by have := hF.ss; omega
    clear hF e0 hf HT
    have HI := Lib.hid (World.iter_heap w3 s 0)
    have HB := Lib.hid (show Below w.heap.size w (w3.iter s 0) from Below.alloc HB3.out HB3.out.size _)
    have hn1 := HB3.out.size
    go_wp2_with fail
    obtain ⟨n, hn⟩ : ∃ n, n = w3.heap.size := ⟨_, rfl⟩
    rw [← hn] at HI hn1 ⊢
    generalize w3.iter s 0 = W at HI HB ⊢
    clear hn
    go_loopw [6, 7] (fun u v wr => ∃ pos : Nat, u = .int .i64 (cs 43 (s.data.toList.take pos) : Nat) ∧ v = .int .i64 (cs 42 (s.data.toList.take pos) : Nat) ∧ wr.heap[n]? = some (.stringIter s pos) ∧ Below w.heap.size w wr ∧ pos ≤ s.size) (fun _ _ wr => s.size - wr.iterPos n)
    case atStart => exact ⟨0, rfl, rfl, HI.out, HB.out, by omega⟩
    case round =>
      clear HI HB
      obtain ⟨pos, rfl, rfl, hit, hb, hps⟩ := hrel
      have HP0 := Lib.hid (iterPos_of hit)
      have hsl : s.data.toList.length = s.size := by rw [Array.length_toList]; rfl
      have l43 := cs_le 43 (s.data.toList.take pos)
      have l42 := cs_le 42 (s.data.toList.take pos)
      have ltk := List.length_take_le pos s.data.toList
      have k3 : cs 43 (s.data.toList.take pos) ≤ 60 := by omega
      have k2 : cs 42 (s.data.toList.take pos) ≤ 60 := by omega
      obtain ⟨a3, ha3⟩ : ∃ m, m = cs 43 (s.data.toList.take pos) := ⟨_, rfl⟩
      obtain ⟨a2, ha2⟩ : ∃ m, m = cs 42 (s.data.toList.take pos) := ⟨_, rfl⟩
      rw [← ha3] at k3 ⊢
      rw [← ha2] at k2 ⊢
      have hw3 : IntKind.i64.wrap ((a3 : Int) + 1) = (a3 : Int) + 1 := IntWalk.i64_in _ (by omega)
      have hw2 : IntKind.i64.wrap ((a2 : Int) + 1) = (a2 : Int) + 1 := IntWalk.i64_in _ (by omega)
      by_cases hlt : pos < s.size
      · have ha := ascii_at HF.out.sa hlt
        have hnx : ∀ ty, (Instr.next (.pointer (some ⟨n, 0, none⟩)) true ty).run Try.prog wr = _ := fun ty => Lib.run_next_ascii_at wr n s pos ty hit hlt ha
        have hit2 := Lib.iterAt_heap wr n s pos (pos + 1) hit
        have hb2 := Lib.below_iterAt hb (k := n) hn1 s (pos + 1)
        obtain ⟨W1, hW1⟩ : ∃ W1, W1 = wr.iterAt n s (pos + 1) := ⟨_, rfl⟩
        rw [← hW1] at hnx hit2 hb2
        have HQ := Lib.hid (And.intro hit2 hb2)
        have hltp : (pos : Int) < (s.size : Int) := by omega
        have hk0 : (0 : Int) ≤ (pos : Int) := by omega
        have t3 := cs_take (l := s.data.toList) (pos := pos) (by omega) 43
        have t2 := cs_take (l := s.data.toList) (pos := pos) (by omega) 42
        have el : s.data.toList[pos]'(by omega) = s[pos]'hlt := rfl
        rw [el, ← ha3] at t3
        rw [el, ← ha2] at t2
        have T3 := Lib.hid t3
        have T2 := Lib.hid t2
        have i3 := lit_is (c := s[pos]'hlt) (k := 43) (z := 43) rfl
        have i2 := lit_is (c := s[pos]'hlt) (k := 42) (z := 42) rfl
        clear hW1 hit hit2 hb hb2 ha ha3 ha2 t3 t2 el l43 l42 ltk hsl
        by_cases h43 : (((s[pos]'hlt).toNat : Nat) : Int) = 43
        · have E3 := Lib.hid (i3.1 h43)
          have E2 := Lib.hid (show ((s[pos]'hlt) == 42) = false from Bool.eq_false_iff.2 fun e => by have := i2.2 e; omega)
          have b43 : ((((s[pos]'hlt).toNat : Nat) : Int) == 43) = true := beq_iff_eq.2 h43
          clear i3 i2
          go_wp2_with fail
          go_roundw
          case rel => exact ⟨pos + 1, by rw [T3.out, E3.out]; rfl, by rw [T2.out, E2.out]; rfl, HQ.out.1, HQ.out.2, by omega⟩
          case measure => rw [iterPos_of HQ.out.1, HP0.out]; omega
        · have E3 := Lib.hid (show ((s[pos]'hlt) == 43) = false from Bool.eq_false_iff.2 fun e => h43 (i3.2 e))
          have b43 : ((((s[pos]'hlt).toNat : Nat) : Int) == 43) = false := beq_eq_false_iff_ne.2 h43
          by_cases h42 : (((s[pos]'hlt).toNat : Nat) : Int) = 42
          · have E2 := Lib.hid (i2.1 h42)
            have b42 : ((((s[pos]'hlt).toNat : Nat) : Int) == 42) = true := beq_iff_eq.2 h42
            clear i3 i2
            go_wp2_with fail
            go_roundw
            case rel => exact ⟨pos + 1, by rw [T3.out, E3.out]; rfl, by rw [T2.out, E2.out]; rfl, HQ.out.1, HQ.out.2, by omega⟩
            case measure => rw [iterPos_of HQ.out.1, HP0.out]; omega
          · have E2 := Lib.hid (show ((s[pos]'hlt) == 42) = false from Bool.eq_false_iff.2 fun e => h42 (i2.2 e))
            have b42 : ((((s[pos]'hlt).toNat : Nat) : Int) == 42) = false := beq_eq_false_iff_ne.2 h42
            clear i3 i2
            go_wp2_with fail
            go_roundw
            case rel => exact ⟨pos + 1, by rw [T3.out, E3.out]; rfl, by rw [T2.out, E2.out]; rfl, HQ.out.1, HQ.out.2, by omega⟩
            case measure => rw [iterPos_of HQ.out.1, HP0.out]; omega
      · have hnx : ∀ ty, (Instr.next (.pointer (some ⟨n, 0, none⟩)) true ty).run Try.prog wr = _ := fun ty => Lib.run_next_end_at wr n s pos ty hit hlt
        have e3 := Lib.hid (show a3 = cs 43 T.data.toList by rw [ha3, List.take_of_length_le (by omega), HF.out.ps])
        have e2 := Lib.hid (show a2 = cs 42 T.data.toList by rw [ha2, List.take_of_length_le (by omega), HF.out.ts])
        have HI2 := Lib.hid (World.iter_heap wr T 0)
        have HB2 := Lib.hid (show Below w.heap.size w (wr.iter T 0) from Below.alloc hb hb.size _)
        have hn2 := hb.size
        clear hit hb ha3 ha2 l43 l42 ltk hsl HP0
        go_wp2_with fail
        obtain ⟨n2, hn⟩ : ∃ n2, n2 = wr.heap.size := ⟨_, rfl⟩
        rw [← hn] at HI2 hn2 ⊢
        generalize wr.iter T 0 = W2 at HI2 HB2 ⊢
        clear hn hnx hlt hps hn1 hw3 hw2
        go_loopw [6, 7, 8] (fun u v o wr => ∃ q : Nat, u = .int .i64 ((a3 : Int) - (cs 43 (T.data.toList.take q) : Nat)) ∧ v = .int .i64 ((a2 : Int) - (cs 42 (T.data.toList.take q) : Nat)) ∧ o = .int .i64 (cs 40 (T.data.toList.take q) : Nat) ∧ wr.heap[n2]? = some (.stringIter T q) ∧ Below w.heap.size w wr ∧ q ≤ T.size) (fun _ _ _ wr => T.size - wr.iterPos n2)
        case atStart => exact ⟨0, by rw [show cs 43 (T.data.toList.take 0) = 0 from rfl]; simp, by rw [show cs 42 (T.data.toList.take 0) = 0 from rfl]; simp, rfl, HI2.out, HB2.out, by omega⟩
        case round =>
          clear HI2 HB2
          obtain ⟨q, rfl, rfl, rfl, hit, hb, hps⟩ := hrel
          have HP0 := Lib.hid (iterPos_of hit)
          have hsl : T.data.toList.length = T.size := by rw [Array.length_toList]; rfl
          have hst := HF.out.st
          have l43 := cs_le 43 (T.data.toList.take q)
          have l42 := cs_le 42 (T.data.toList.take q)
          have l40 := cs_le 40 (T.data.toList.take q)
          have ltk := List.length_take_le q T.data.toList
          have k3' : cs 43 (T.data.toList.take q) ≤ 1000 := by omega
          have k2' : cs 42 (T.data.toList.take q) ≤ 1000 := by omega
          have k0' : cs 40 (T.data.toList.take q) ≤ 1000 := by omega
          obtain ⟨b3, hb3⟩ : ∃ m, m = cs 43 (T.data.toList.take q) := ⟨_, rfl⟩
          obtain ⟨b2, hb2'⟩ : ∃ m, m = cs 42 (T.data.toList.take q) := ⟨_, rfl⟩
          obtain ⟨b0, hb0⟩ : ∃ m, m = cs 40 (T.data.toList.take q) := ⟨_, rfl⟩
          rw [← hb3] at k3' ⊢
          rw [← hb2'] at k2' ⊢
          rw [← hb0] at k0' ⊢
          by_cases hlt : q < T.size
          · have hw3 : IntKind.i64.wrap ((a3 : Int) - b3 - 1) = (a3 : Int) - b3 - 1 := IntWalk.i64_in _ (by omega)
            have hw2 : IntKind.i64.wrap ((a2 : Int) - b2 - 1) = (a2 : Int) - b2 - 1 := IntWalk.i64_in _ (by omega)
            have hw0 : IntKind.i64.wrap ((b0 : Int) + 1) = (b0 : Int) + 1 := IntWalk.i64_in _ (by omega)
            have ha := ascii_at HF.out.ta hlt
            have hnx : ∀ ty, (Instr.next (.pointer (some ⟨n2, 0, none⟩)) true ty).run Try.prog wr = _ := fun ty => Lib.run_next_ascii_at wr n2 T q ty hit hlt ha
            have hit2 := Lib.iterAt_heap wr n2 T q (q + 1) hit
            have hbq := Lib.below_iterAt hb (k := n2) hn2 T (q + 1)
            obtain ⟨W1, hW1⟩ : ∃ W1, W1 = wr.iterAt n2 T (q + 1) := ⟨_, rfl⟩
            rw [← hW1] at hnx hit2 hbq
            have HQ := Lib.hid (And.intro hit2 hbq)
            have hltp : (q : Int) < (T.size : Int) := by omega
            have hk0 : (0 : Int) ≤ (q : Int) := by omega
            have t3 := cs_take (l := T.data.toList) (pos := q) (by omega) 43
            have t2 := cs_take (l := T.data.toList) (pos := q) (by omega) 42
            have t0 := cs_take (l := T.data.toList) (pos := q) (by omega) 40
            have el : T.data.toList[q]'(by omega) = T[q]'hlt := rfl
            rw [el, ← hb3] at t3
            rw [el, ← hb2'] at t2
            rw [el, ← hb0] at t0
            have T3 := Lib.hid t3
            have T2 := Lib.hid t2
            have T0 := Lib.hid t0
            have i3 := lit_is (c := T[q]'hlt) (k := 43) (z := 43) rfl
            have i2 := lit_is (c := T[q]'hlt) (k := 42) (z := 42) rfl
            have i0 := lit_is (c := T[q]'hlt) (k := 40) (z := 40) rfl
            clear hW1 hit hit2 hb hbq ha hb3 hb2' hb0 t3 t2 t0 el l43 l42 l40 ltk hsl
            by_cases h43 : (((T[q]'hlt).toNat : Nat) : Int) = 43
            · have E3 := Lib.hid (i3.1 h43)
              have E2 := Lib.hid (show ((T[q]'hlt) == 42) = false from Bool.eq_false_iff.2 fun e => by have := i2.2 e; omega)
              have E0 := Lib.hid (show ((T[q]'hlt) == 40) = false from Bool.eq_false_iff.2 fun e => by have := i0.2 e; omega)
              have b43 : ((((T[q]'hlt).toNat : Nat) : Int) == 43) = true := beq_iff_eq.2 h43
              have N3 := Lib.hid (show (a3 : Int) - b3 - 1 = (a3 : Int) - (cs 43 (T.data.toList.take (q + 1)) : Nat) by rw [T3.out, E3.out]; simp <;> omega)
              have N2 := Lib.hid (show (a2 : Int) - b2 = (a2 : Int) - (cs 42 (T.data.toList.take (q + 1)) : Nat) by rw [T2.out, E2.out]; simp <;> omega)
              have N0 := Lib.hid (show (b0 : Int) = ((cs 40 (T.data.toList.take (q + 1)) : Nat) : Int) by rw [T0.out, E0.out]; simp)
              clear i3 i2 i0
              go_wp2_with fail
              go_roundw
              case rel => exact ⟨q + 1, by rw [← N3.out], by rw [← N2.out], by rw [← N0.out], HQ.out.1, HQ.out.2, by omega⟩
              case measure => rw [iterPos_of HQ.out.1, HP0.out]; omega
            · have E3 := Lib.hid (show ((T[q]'hlt) == 43) = false from Bool.eq_false_iff.2 fun e => h43 (i3.2 e))
              have b43 : ((((T[q]'hlt).toNat : Nat) : Int) == 43) = false := beq_eq_false_iff_ne.2 h43
              by_cases h42 : (((T[q]'hlt).toNat : Nat) : Int) = 42
              · have E2 := Lib.hid (i2.1 h42)
                have E0 := Lib.hid (show ((T[q]'hlt) == 40) = false from Bool.eq_false_iff.2 fun e => by have := i0.2 e; omega)
                have b42 : ((((T[q]'hlt).toNat : Nat) : Int) == 42) = true := beq_iff_eq.2 h42
                have N3 := Lib.hid (show (a3 : Int) - b3 = (a3 : Int) - (cs 43 (T.data.toList.take (q + 1)) : Nat) by rw [T3.out, E3.out]; simp <;> omega)
                have N2 := Lib.hid (show (a2 : Int) - b2 - 1 = (a2 : Int) - (cs 42 (T.data.toList.take (q + 1)) : Nat) by rw [T2.out, E2.out]; simp <;> omega)
                have N0 := Lib.hid (show (b0 : Int) = ((cs 40 (T.data.toList.take (q + 1)) : Nat) : Int) by rw [T0.out, E0.out]; simp)
                clear i3 i2 i0
                go_wp2_with fail
                go_roundw
                case rel => exact ⟨q + 1, by rw [← N3.out], by rw [← N2.out], by rw [← N0.out], HQ.out.1, HQ.out.2, by omega⟩
                case measure => rw [iterPos_of HQ.out.1, HP0.out]; omega
              · have E2 := Lib.hid (show ((T[q]'hlt) == 42) = false from Bool.eq_false_iff.2 fun e => h42 (i2.2 e))
                have b42 : ((((T[q]'hlt).toNat : Nat) : Int) == 42) = false := beq_eq_false_iff_ne.2 h42
                by_cases h40 : (((T[q]'hlt).toNat : Nat) : Int) = 40
                · have E0 := Lib.hid (i0.1 h40)
                  have b40 : ((((T[q]'hlt).toNat : Nat) : Int) == 40) = true := beq_iff_eq.2 h40
                  have N3 := Lib.hid (show (a3 : Int) - b3 = (a3 : Int) - (cs 43 (T.data.toList.take (q + 1)) : Nat) by rw [T3.out, E3.out]; simp <;> omega)
                  have N2 := Lib.hid (show (a2 : Int) - b2 = (a2 : Int) - (cs 42 (T.data.toList.take (q + 1)) : Nat) by rw [T2.out, E2.out]; simp <;> omega)
                  have N0 := Lib.hid (show (b0 : Int) + 1 = ((cs 40 (T.data.toList.take (q + 1)) : Nat) : Int) by rw [T0.out, E0.out]; simp)
                  clear i3 i2 i0
                  go_wp2_with fail
                  go_roundw
                  case rel => exact ⟨q + 1, by rw [← N3.out], by rw [← N2.out], by rw [← N0.out], HQ.out.1, HQ.out.2, by omega⟩
                  case measure => rw [iterPos_of HQ.out.1, HP0.out]; omega
                · have E0 := Lib.hid (show ((T[q]'hlt) == 40) = false from Bool.eq_false_iff.2 fun e => h40 (i0.2 e))
                  have b40 : ((((T[q]'hlt).toNat : Nat) : Int) == 40) = false := beq_eq_false_iff_ne.2 h40
                  have N3 := Lib.hid (show (a3 : Int) - b3 = (a3 : Int) - (cs 43 (T.data.toList.take (q + 1)) : Nat) by rw [T3.out, E3.out]; simp <;> omega)
                  have N2 := Lib.hid (show (a2 : Int) - b2 = (a2 : Int) - (cs 42 (T.data.toList.take (q + 1)) : Nat) by rw [T2.out, E2.out]; simp <;> omega)
                  have N0 := Lib.hid (show (b0 : Int) = ((cs 40 (T.data.toList.take (q + 1)) : Nat) : Int) by rw [T0.out, E0.out]; simp)
                  clear i3 i2 i0
                  go_wp2_with fail
                  go_roundw
                  case rel => exact ⟨q + 1, by rw [← N3.out], by rw [← N2.out], by rw [← N0.out], HQ.out.1, HQ.out.2, by omega⟩
                  case measure => rw [iterPos_of HQ.out.1, HP0.out]; omega
          · have hnx : ∀ ty, (Instr.next (.pointer (some ⟨n2, 0, none⟩)) true ty).run Try.prog wr = _ := fun ty => Lib.run_next_end_at wr n2 T q ty hit hlt
            have hlv := HF.out.lv
            have z3 : (a3 : Int) - (b3 : Int) = 0 := by have := e3.out; rw [hb3, List.take_of_length_le (by omega)]; omega
            have z2 : (a2 : Int) - (b2 : Int) = 0 := by have := e2.out; rw [hb2', List.take_of_length_le (by omega)]; omega
            have z0 : (b0 : Int) = (s.size : Int) - lvsV p s := by rw [hb0, List.take_of_length_le (by omega)]; exact HF.out.op
            rw [z3, z2, z0]
            have HBE := Lib.hid hb
            have HIL := Lib.hid (iLeavesOf p s)
            clear hit hb hb3 hb2' hb0 l43 l42 l40 ltk hsl z3 z2 z0
            obtain ⟨lv, hlve⟩ : ∃ lv, lv = lvsV p s := ⟨_, rfl⟩
            rw [← hlve] at HIL hlv ⊢
            clear hlve
            have hwl : IntKind.i64.wrap ((s.size : Int) - lv) = (s.size : Int) - lv := IntWalk.i64_in _ (by omega)
            go_wp2_with fail
            refine (HIL.out _).mono ?_
            rintro e w9 ⟨rfl, hb9⟩
            have HE := Lib.hid (HBE.out.trans (hb9.mono HBE.out.size))
            clear hb9
            go_wp2_with fail
            go_ret
            exact ⟨rfl, HE.out⟩
set_option maxRecDepth 100000 in
set_option maxHeartbeats 4000000 in
theorem wSho (a : Option Addr) (len cap : Nat) (w : World) (h : ByteRow w a len cap) :
    Calls Try.prog 14 #[.slice a len cap] w fun e w' => e = .returned (.bool true) ∧ Below w.heap.size w w' := by
  by_cases hl : len ≤ 1048576
  · exact wSho_in a len cap w h hl
  · have hp : (1048576 : Int) < (len : Int) := by omega
    have h1 := Nat.le_trans h.1 h.2.1
    clear h
    go_enter Try.func14, Try.ntmps14
    go_wp2_with fail
    go_ret
    exact ⟨rfl, Below.refl _ _⟩
end Go.Proofs.Ytegkcfinklcglaa
