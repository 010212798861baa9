/-
  Contracts of the program's reader of formulas: the index of a sign, the leaf of a sign. Conditions: the field is one.
-/
import Derived.Test.YtiahcaihmgnicaaStk
import Derived.Test.YtiahcaihmgnicaaFrS
import Derived.Test.YtiahcaihmgnicaaFldB
import Derived.Laws.Runes
import Derived.Laws.RangeAny
import Derived.Lib.Bytealg
import Derived.Lib.OthersKept
import Derived.WalkMore
namespace Go.Proofs.Ytiahcaihmgnicaa
open Go.RowKit
set_option maxRecDepth 100000 in
set_option maxHeartbeats 4000000 in
theorem iLite (s : ByteArray) (c : Int) (w : World) :
    Calls Try.prog 160 #[.string s, .int .u8 c] w fun e w' => e = .returned (.int .i64 (Lib.indexByte s.data.toList c.toNat.toUInt8)) ∧ w' = w := by
  go_enter Try.func160, Try.ntmps160
  go_wp2_with fail
  rw [run_callFunc_extern (P := Try.prog) (f := 161) (fn := Try.f161) Try.func161 (by kernel_rfl) (by kernel_rfl) (by kernel_rfl) (e := Extern.BytealgIndexByte.indexByte) (by kernel_rfl), Lib.run_indexByteString]
  simp only [Result.andThen]
  rw [Oper.upon_value]
  go_wp2_with fail
  go_ret
  exact ⟨rfl, rfl⟩
set_option maxRecDepth 100000 in
set_option maxHeartbeats 4000000 in
theorem iIndexByte (s : ByteArray) (c : Int) (w : World) :
    Calls Try.prog 156 #[.string s, .int .u8 c] w fun e w' => e = .returned (.int .i64 (Lib.indexByte s.data.toList c.toNat.toUInt8)) ∧ w' = w := by
  have HL := Lib.hid (iLite s c)
  go_enter Try.func156, Try.ntmps156
  go_wp2_with fail
  refine (HL.out _).mono ?_
  rintro e w' ⟨rfl, rfl⟩
  go_wp2_with fail
  go_ret
  exact ⟨rfl, rfl⟩
set_option maxRecDepth 100000 in
set_option maxHeartbeats 4000000 in
theorem iValidRune (r : Int) (w : World) :
    Calls Try.prog 157 #[.int .i32 r] w fun e w' => e = .returned (.bool (Utf8.valid r)) ∧ w' = w := by
  rw [validRune_eq]
  unfold validRune
  rcases Classical.em (0 ≤ r) with h0 | h0
  · rcases Classical.em (r < 55296) with h1 | h1
    · rw [decide_eq_true (.inl ⟨h0, h1⟩)]
      go_enter Try.func157, Try.ntmps157
      go_wp2_with fail
      go_ret
      exact ⟨rfl, rfl⟩
    · rcases Classical.em (57343 < r) with h2 | h2
      · rcases Classical.em (r ≤ 1114111) with h3 | h3
        · rw [decide_eq_true (.inr ⟨h2, h3⟩)]
          go_enter Try.func157, Try.ntmps157
          go_wp2_with fail
          go_ret
          exact ⟨rfl, rfl⟩
        · rw [decide_eq_false (by omega)]
          go_enter Try.func157, Try.ntmps157
          go_wp2_with fail
          go_ret
          exact ⟨rfl, rfl⟩
      · rw [decide_eq_false (by omega)]
        go_enter Try.func157, Try.ntmps157
        go_wp2_with fail
        go_ret
        exact ⟨rfl, rfl⟩
  · have h2 : ¬ 57343 < r := by omega
    rw [decide_eq_false (by omega)]
    go_enter Try.func157, Try.ntmps157
    go_wp2_with fail
    go_ret
    exact ⟨rfl, rfl⟩
set_option maxRecDepth 100000 in
set_option maxHeartbeats 4000000 in
theorem iRune_low (s : ByteArray) (r : Int) (w : World) (h0 : 0 ≤ r) (h1 : r < 128) :
    Calls Try.prog 154 #[.string s, .int .i32 r] w fun e w' => e = .returned (.int .i64 (Lib.indexByte s.data.toList r.toNat.toUInt8)) ∧ Below w.heap.size w w' := by
  have HB := Lib.hid (iIndexByte s r)
  have hw : IntKind.u8.wrap r = r := by rw [IntKind.wrap]; simp [IntKind.bits, IntKind.signed]; omega
  go_enter Try.func154, Try.ntmps154
  go_wp2_with fail
  refine (HB.out _).mono ?_
  rintro e w' ⟨rfl, rfl⟩
  go_wp2_with fail
  go_ret
  exact ⟨rfl, Below.refl _ _⟩
theorem iterPos_of {w : World} {k : Nat} {s : ByteArray} {p : Nat} (h : w.heap[k]? = some (.stringIter s p)) : w.iterPos k = p := by simp [World.iterPos, h]
theorem ascii_at {s : ByteArray} (hs : ∀ b ∈ s.data.toList, b.toNat < 128) {i : Nat} (h : i < s.size) : (s[i]'h).toNat < 128 := hs _ (List.mem_iff_getElem?.2 ⟨i, Lib.data_getElem? s i h⟩)
theorem encode_last {r : Int} (hv : Utf8.valid r = true) (h128 : 128 ≤ r) : ∃ (E : ByteArray) (n : Nat) (h : n < E.size) (b : UInt8), E = Utf8.encode r ∧ E.size = n + 1 ∧ 1 ≤ n ∧ n ≤ 3 ∧ E[n] = b ∧ 128 ≤ b.toNat := by
  obtain ⟨h1, h2, h3⟩ := encode_facts r hv h128
  exact ⟨Utf8.encode r, (Utf8.encode r).size - 1, by omega, _, rfl, by omega, by omega, by omega, rfl, h3 (by omega)⟩
set_option maxRecDepth 100000 in
set_option maxHeartbeats 4000000 in
theorem iRune_err (s : ByteArray) (w : World) (hs : ∀ b ∈ s.data.toList, b.toNat < 128) :
    Calls Try.prog 154 #[.string s, .int .i32 65533] w fun e w' => e = .returned (.int .i64 (-1)) ∧ Below w.heap.size w w' := by
  have HA := Lib.hid (fun i h => ascii_at hs (i := i) h)
  clear hs
  go_enter Try.func154, Try.ntmps154
  go_wp2_with fail
  go_loopw [5] (fun _ wr => ∃ pos : Nat, wr.heap[w.heap.size]? = some (.stringIter s pos) ∧ Below w.heap.size w wr) (fun _ wr => s.size - wr.iterPos w.heap.size)
  case atStart => exact ⟨0, World.iter_heap w s 0, (Below.refl _ _).alloc (Nat.le_refl _) _⟩
  case round =>
    obtain ⟨pos, hit, hb⟩ := hrel
    have hpos0 := iterPos_of hit
    by_cases hp : pos < s.size
    · have ha := HA.out pos hp
      have hnx : ∀ ty, (Instr.next (.pointer (some ⟨w.heap.size, 0, none⟩)) true ty).run Try.prog wr = _ := fun ty => Lib.run_next_ascii_at wr w.heap.size s pos ty hit hp ha
      have hit2 := Lib.iterAt_heap wr w.heap.size s pos (pos + 1) hit
      have hb2 := Lib.below_iterAt hb (k := w.heap.size) (Nat.le_refl _) s (pos + 1)
      obtain ⟨W1, hW1⟩ : ∃ W1, W1 = wr.iterAt w.heap.size s (pos + 1) := ⟨_, rfl⟩
      rw [← hW1] at hnx hit2 hb2
      have hne : (((s[pos].toNat : Nat) : Int) == 65533) = false := by rw [beq_eq_false_iff_ne]; omega
      have HIT := Lib.hid hit2
      have HB := Lib.hid hb2
      have HP0 := Lib.hid hpos0
      clear hW1 hit hb hit2 hb2 ha hpos0
      go_wp2_with fail
      go_roundw
      case rel => exact ⟨pos + 1, HIT.out, HB.out⟩
      case measure => rw [iterPos_of HIT.out, HP0.out]; omega
    · have hnx : ∀ ty, (Instr.next (.pointer (some ⟨w.heap.size, 0, none⟩)) true ty).run Try.prog wr = _ := fun ty => Lib.run_next_end_at wr w.heap.size s pos ty hit hp
      have HB := Lib.hid hb
      clear hit hb hpos0
      go_wp2_with fail
      go_ret
      exact ⟨rfl, HB.out⟩
set_option maxRecDepth 100000 in
set_option maxHeartbeats 4000000 in
theorem iRune_bad (s : ByteArray) (r : Int) (w : World) (h1 : 128 ≤ r) (h2 : r ≠ 65533) (hv : Utf8.valid r = false) :
    Calls Try.prog 154 #[.string s, .int .i32 r] w fun e w' => e = .returned (.int .i64 (-1)) ∧ Below w.heap.size w w' := by
  have HV := Lib.hid (fun w => (hv ▸ iValidRune r w : Calls Try.prog 157 #[.int .i32 r] w fun e w' => e = .returned (.bool false) ∧ w' = w))
  have h0 : 0 ≤ r := by omega
  have h3 : ¬ r < 128 := by omega
  clear hv
  go_enter Try.func154, Try.ntmps154
  go_wp2_with fail
  refine (HV.out _).mono ?_
  rintro e w' ⟨rfl, rfl⟩
  go_wp2_with fail
  go_ret
  exact ⟨rfl, Below.refl _ _⟩
set_option maxRecDepth 100000 in
set_option maxHeartbeats 8000000 in
theorem iRune_high (s : ByteArray) (r : Int) (w : World) (hs : ∀ b ∈ s.data.toList, b.toNat < 128) (_hl : s.size ≤ 1000) (h1 : 128 ≤ r) (h2 : r ≠ 65533) (hv : Utf8.valid r = true) :
    Calls Try.prog 154 #[.string s, .int .i32 r] w fun e w' => e = .returned (.int .i64 (-1)) ∧ Below w.heap.size w w' := by
  have HV := Lib.hid (fun w => (hv ▸ iValidRune r w : Calls Try.prog 157 #[.int .i32 r] w fun e w' => e = .returned (.bool true) ∧ w' = w))
  obtain ⟨E, n, hn, b, hE, hsz, n1, n3, hEb, hb⟩ := encode_last hv h1
  have h0 : 0 ≤ r := by omega
  have h3 : ¬ r < 128 := by omega
  have hEs : (E.size : Int) = (n : Int) + 1 := by omega
  have HI := Lib.hid (fun (a : Nat) w => (show Calls Try.prog 156 #[.string (s.extract a s.size), .int .u8 (b.toNat : Int)] w fun e w' => e = .returned (.int .i64 (-1)) ∧ w' = w by
    have e : Lib.indexByte (s.extract a s.size).data.toList ((b.toNat : Int).toNat.toUInt8) = -1 := by
      rw [← Lib.firstIdx_eq]
      exact firstIdx_ascii s a s.size _ hs (by simpa using hb)
    have h := iIndexByte (s.extract a s.size) (b.toNat : Int) w
    rw [e] at h
    exact h))
  have HA := Lib.hid (fun (h : n < s.size) => show (((s[n].toNat : Nat) : Int) == ((b.toNat : Nat) : Int)) = false by
    have := ascii_at hs h
    rw [beq_eq_false_iff_ne]
    omega)
  clear hv hs
  go_enter Try.func154, Try.ntmps154
  go_wp2_with fail
  refine (HV.out _).mono ?_
  rintro e w' ⟨rfl, rfl⟩
  go_wp2_with fail
  go_step3
  have hE2 := hE.symm
  clear hE
  rcases Classical.em (n < s.size) with hns | hns
  · have hne := HA.out hns
    have hnp : (n : Int) < (s.size : Int) := by omega
    have hn0 : (0 : Int) ≤ (n : Int) := by omega
    have hw : IntKind.i64.wrap ((n : Int) + 1) = (n : Int) + 1 := IntWalk.i64_in _ (by omega)
    have hn2 : (n : Int) + 1 ≤ (s.size : Int) := by omega
    have hn3 : (0 : Int) ≤ (n : Int) + 1 := by omega
    have hn4 : (n : Int) < (n : Int) + 1 := by omega
    go_wp2_with fail
    refine wp_loop_rounds 1 ?_
    rw [rounds_succ]
    go_wp2_with fail
    go_step3
    go_wp2_with fail
    go_quiet (fail)
    go_wp2_with fail
    refine wp_region_below (by kernel_rfl) (by kernel_rfl) ?_
    (with_reducible refine wpQuiet_yes ?_ ?_; (focus (kernel_rfl)); intro K hK; go_simp; refine ⟨_, fun _ _ => rfl, ?_⟩; with_reducible refine hK _ ?_; clear hK K)
    (with_reducible refine wpQuiet_yes ?_ ?_; (focus (kernel_rfl)); intro K hK; go_simp; refine ⟨_, fun _ _ => rfl, ?_⟩; with_reducible refine hK _ ?_; clear hK K)
    (with_reducible refine wpQuiet_yes ?_ ?_; (focus (kernel_rfl)); intro K hK; go_simp; refine ⟨_, fun _ _ => rfl, ?_⟩; with_reducible refine hK _ ?_; clear hK K)
    (with_reducible refine wpQuiet_yes ?_ ?_; (focus (kernel_rfl)); intro K hK; go_simp; refine ⟨_, fun _ _ => rfl, ?_⟩; with_reducible refine hK _ ?_; clear hK K)
    (with_reducible refine wpQuiet_yes ?_ ?_; (focus (kernel_rfl)); intro K hK; go_simp; refine ⟨_, fun _ _ => rfl, ?_⟩; with_reducible refine hK _ ?_; clear hK K)
    (with_reducible refine wpQuiet_yes ?_ ?_; (focus (kernel_rfl)); intro K hK; go_simp; refine ⟨_, fun _ _ => rfl, ?_⟩; with_reducible refine hK _ ?_; clear hK K)
    (with_reducible refine wpQuiet_yes ?_ ?_; (focus (kernel_rfl)); intro K hK; go_simp; refine ⟨_, fun _ _ => rfl, ?_⟩; with_reducible refine hK _ ?_; clear hK K)
    (with_reducible refine wpQuiet_yes ?_ ?_; (focus (kernel_rfl)); intro K hK; go_simp; refine ⟨(.int .i64 (-1)), ?_, ?_⟩; rotate_left; with_reducible refine hK _ ?_; clear hK K; rotate_left)
    · intro w' hw'
      exact (HI.out (n + 1) w').mono fun e w'' ⟨he, h⟩ => ⟨he, h ▸ hw'⟩
    (with_reducible refine wpQuiet_yes ?_ ?_; (focus (kernel_rfl)); intro K hK; go_simp; refine ⟨_, fun _ _ => rfl, ?_⟩; with_reducible refine hK _ ?_; clear hK K)
    refine wpQuiet_nil fun w2 hb2 => ?_
    have HB := Lib.hid hb2
    clear hb2
    simp only [Exit.then]
    go_wp2_with fail
    repeat rw [Exit.noGoto_ret]
    simp only [Exit.then, Exit.inBlock]
    repeat rw [Exit.noGoto_ret]
    go_ret
    exact ⟨rfl, (below_drewN (Below.refl _ _) _).trans (HB.out.mono (Nat.le_refl _))⟩
  · go_wp2_with fail
    refine wp_loop_rounds 1 ?_
    rw [rounds_succ]
    go_wp2_with fail
    repeat rw [Exit.noGoto_ret]
    go_ret
    exact ⟨rfl, Below.refl _ _⟩
end Go.Proofs.Ytiahcaihmgnicaa
