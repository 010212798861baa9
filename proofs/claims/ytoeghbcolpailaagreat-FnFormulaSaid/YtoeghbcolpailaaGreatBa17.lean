/-
  Contracts of the program's reader of formulas: the index of a sign, the leaf of a sign. Conditions: the field is one.
  Contract of the program's leaf of a sign. Conditions: the field is one, the sign is not below 0.
  Contracts of the program's reader of formulas: place, read, formulaOf. Conditions: the reader lies at one block, its stack in a block of its own.
  Contracts of the program's reader of formulas: read, formulaOf. Conditions: as in place.
  FormulaValid and LeavesOf, of the model and of the program, and the walks of their exact laws. Conditions: none.
-/
import Derived.Test.YtoeghbcolpailaaGreatBa6
import Derived.Test.YtoeghbcolpailaaGreatBa16
import Derived.Test.YtoeghbcolpailaaGreatBa12
import Derived.Laws.Runes
import Derived.Laws.RangeAny
import Derived.Lib.Bytealg
import Derived.Lib.OthersKept
import Derived.WalkMore
import Derived.Test.YtoeghbcolpailaaGreatBa11
namespace Go.Proofs.YtoeghbcolpailaaGreat
open Go.RowKit
set_option maxRecDepth 100000 in
set_option maxHeartbeats 4000000 in
theorem iLite (s : ByteArray) (c : Int) (w : World) :
    Calls Tryz.prog 91 #[.string s, .int .u8 c] w fun e w' => e = .returned (.int .i64 (Lib.indexByte s.data.toList c.toNat.toUInt8)) ∧ w' = w := by
  go_enter Tryz.func91, Tryz.ntmps91
  go_wp2_with fail
  rw [run_callFunc_extern (P := Tryz.prog) (f := 94) (fn := Tryz.f94) Tryz.func94 (by kernel_rfl) (by kernel_rfl) (by kernel_rfl) (e := Extern.BytealgIndexByte.indexByte) (by kernel_rfl), Lib.run_indexByteString]
  simp only [Result.andThen]
  rw [Oper.upon_value]
  go_wp2_with fail
  go_ret
  exact ⟨rfl, rfl⟩
set_option maxRecDepth 100000 in
set_option maxHeartbeats 4000000 in
theorem iIndexByte (s : ByteArray) (c : Int) (w : World) :
    Calls Tryz.prog 81 #[.string s, .int .u8 c] w fun e w' => e = .returned (.int .i64 (Lib.indexByte s.data.toList c.toNat.toUInt8)) ∧ w' = w := by
  have HL := Lib.hid (iLite s c)
  go_enter Tryz.func81, Tryz.ntmps81
  go_wp2_with fail
  refine (HL.out _).mono ?_
  rintro e w' ⟨rfl, rfl⟩
  go_wp2_with fail
  go_ret
  exact ⟨rfl, rfl⟩
set_option maxRecDepth 100000 in
set_option maxHeartbeats 4000000 in
theorem iValidRune (r : Int) (w : World) :
    Calls Tryz.prog 82 #[.int .i32 r] w fun e w' => e = .returned (.bool (Utf8.valid r)) ∧ w' = w := by
  rw [validRune_eq]
  unfold validRune
  rcases Classical.em (0 ≤ r) with h0 | h0
  · rcases Classical.em (r < 55296) with h1 | h1
    · rw [decide_eq_true (.inl ⟨h0, h1⟩)]
      go_enter Tryz.func82, Tryz.ntmps82
      go_wp2_with fail
      go_ret
      exact ⟨rfl, rfl⟩
    · rcases Classical.em (57343 < r) with h2 | h2
      · rcases Classical.em (r ≤ 1114111) with h3 | h3
        · rw [decide_eq_true (.inr ⟨h2, h3⟩)]
          go_enter Tryz.func82, Tryz.ntmps82
          go_wp2_with fail
          go_ret
          exact ⟨rfl, rfl⟩
        · rw [decide_eq_false (by omega)]
          go_enter Tryz.func82, Tryz.ntmps82
          go_wp2_with fail
          go_ret
          exact ⟨rfl, rfl⟩
      · rw [decide_eq_false (by omega)]
        go_enter Tryz.func82, Tryz.ntmps82
        go_wp2_with fail
        go_ret
        exact ⟨rfl, rfl⟩
  · have h2 : ¬ 57343 < r := by omega
    rw [decide_eq_false (by omega)]
    go_enter Tryz.func82, Tryz.ntmps82
    go_wp2_with fail
    go_ret
    exact ⟨rfl, rfl⟩
set_option maxRecDepth 100000 in
set_option maxHeartbeats 4000000 in
theorem iRune_low (s : ByteArray) (r : Int) (w : World) (h0 : 0 ≤ r) (h1 : r < 128) :
    Calls Tryz.prog 72 #[.string s, .int .i32 r] w fun e w' => e = .returned (.int .i64 (Lib.indexByte s.data.toList r.toNat.toUInt8)) ∧ Below w.heap.size w w' := by
  have HB := Lib.hid (iIndexByte s r)
  have hw : IntKind.u8.wrap r = r := by rw [IntKind.wrap]; simp [IntKind.bits, IntKind.signed]; omega
  go_enter Tryz.func72, Tryz.ntmps72
  go_wp2_with fail
  refine (HB.out _).mono ?_
  rintro e w' ⟨rfl, rfl⟩
  go_wp2_with fail
  go_ret
  exact ⟨rfl, Below.refl _ _⟩
theorem iterPos_of {w : World} {k : Nat} {s : ByteArray} {p : Nat} (h : w.heap[k]? = some (.stringIter s p)) : w.iterPos k = p := by simp [World.iterPos, h]
theorem ascii_at {s : ByteArray} (hs : ∀ b ∈ s.data.toList, b.toNat < 128) {i : Nat} (h : i < s.size) : (s[i]'h).toNat < 128 := hs _ (List.mem_iff_getElem?.2 ⟨i, Lib.data_getElem? s i h⟩)
theorem encode_last {r : Int} (hv : Utf8.valid r = true) (h128 : 128 ≤ r) : ∃ (E : ByteArray) (n : Nat) (h : n < E.size) (b : UInt8), E = Utf8.encode r ∧ E.size = n + 1 ∧ 1 ≤ n ∧ n ≤ 3 ∧ E[n] = b ∧ 128 ≤ b.toNat := by
  obtain ⟨h1, h2, h3⟩ := encode_facts r hv h128
  exact ⟨Utf8.encode r, (Utf8.encode r).size - 1, by omega, _, rfl, by omega, by omega, by omega, rfl, h3 (by omega)⟩
set_option maxRecDepth 100000 in
set_option maxHeartbeats 4000000 in
theorem iRune_err (s : ByteArray) (w : World) (hs : ∀ b ∈ s.data.toList, b.toNat < 128) :
    Calls Tryz.prog 72 #[.string s, .int .i32 65533] w fun e w' => e = .returned (.int .i64 (-1)) ∧ Below w.heap.size w w' := by
  have HA := Lib.hid (fun i h => ascii_at hs (i := i) h)
  clear hs
  go_enter Tryz.func72, Tryz.ntmps72
  go_wp2_with fail
  go_loopw [5] (fun _ wr => ∃ pos : Nat, wr.heap[w.heap.size]? = some (.stringIter s pos) ∧ Below w.heap.size w wr) (fun _ wr => s.size - wr.iterPos w.heap.size)
  case atStart => exact ⟨0, World.iter_heap w s 0, (Below.refl _ _).alloc (Nat.le_refl _) _⟩
  case round =>
    obtain ⟨pos, hit, hb⟩ := hrel
    have hpos0 := iterPos_of hit
    by_cases hp : pos < s.size
    · have ha := HA.out pos hp
      have hnx : ∀ ty, (Instr.next (.pointer (some ⟨w.heap.size, 0, none⟩)) true ty).run Tryz.prog wr = _ := fun ty => Lib.run_next_ascii_at wr w.heap.size s pos ty hit hp ha
      have hit2 := Lib.iterAt_heap wr w.heap.size s pos (pos + 1) hit
      have hb2 := Lib.below_iterAt hb (k := w.heap.size) (Nat.le_refl _) s (pos + 1)
      obtain ⟨W1, hW1⟩ : ∃ W1, W1 = wr.iterAt w.heap.size s (pos + 1) := ⟨_, rfl⟩
      rw [← hW1] at hnx hit2 hb2
      have hne : (((s[pos].toNat : Nat) : Int) == 65533) = false := by rw [beq_eq_false_iff_ne]; omega
      have HIT := Lib.hid hit2
      have HB := Lib.hid hb2
      have HP0 := Lib.hid hpos0
      clear hW1 hit hb hit2 hb2 ha hpos0
      go_wp2_with fail
      go_roundw
      case rel => exact ⟨pos + 1, HIT.out, HB.out⟩
      case measure => rw [iterPos_of HIT.out, HP0.out]; omega
    · have hnx : ∀ ty, (Instr.next (.pointer (some ⟨w.heap.size, 0, none⟩)) true ty).run Tryz.prog wr = _ := fun ty => Lib.run_next_end_at wr w.heap.size s pos ty hit hp
      have HB := Lib.hid hb
      clear hit hb hpos0
      go_wp2_with fail
      go_ret
      exact ⟨rfl, HB.out⟩
set_option maxRecDepth 100000 in
set_option maxHeartbeats 4000000 in
theorem iRune_bad (s : ByteArray) (r : Int) (w : World) (h1 : 128 ≤ r) (h2 : r ≠ 65533) (hv : Utf8.valid r = false) :
    Calls Tryz.prog 72 #[.string s, .int .i32 r] w fun e w' => e = .returned (.int .i64 (-1)) ∧ Below w.heap.size w w' := by
  have HV := Lib.hid (fun w => (hv ▸ iValidRune r w : Calls Tryz.prog 82 #[.int .i32 r] w fun e w' => e = .returned (.bool false) ∧ w' = w))
  have h0 : 0 ≤ r := by omega
  have h3 : ¬ r < 128 := by omega
  clear hv
  go_enter Tryz.func72, Tryz.ntmps72
  go_wp2_with fail
  refine (HV.out _).mono ?_
  rintro e w' ⟨rfl, rfl⟩
  go_wp2_with fail
  go_ret
  exact ⟨rfl, Below.refl _ _⟩
set_option maxRecDepth 100000 in
set_option maxHeartbeats 8000000 in
theorem iRune_high (s : ByteArray) (r : Int) (w : World) (hs : ∀ b ∈ s.data.toList, b.toNat < 128) (_hl : s.size ≤ 1000) (h1 : 128 ≤ r) (h2 : r ≠ 65533) (hv : Utf8.valid r = true) :
    Calls Tryz.prog 72 #[.string s, .int .i32 r] w fun e w' => e = .returned (.int .i64 (-1)) ∧ Below w.heap.size w w' := by
  have HV := Lib.hid (fun w => (hv ▸ iValidRune r w : Calls Tryz.prog 82 #[.int .i32 r] w fun e w' => e = .returned (.bool true) ∧ w' = w))
  obtain ⟨E, n, hn, b, hE, hsz, n1, n3, hEb, hb⟩ := encode_last hv h1
  have h0 : 0 ≤ r := by omega
  have h3 : ¬ r < 128 := by omega
  have hEs : (E.size : Int) = (n : Int) + 1 := by omega
  have HI := Lib.hid (fun (a : Nat) w => (show Calls Tryz.prog 81 #[.string (s.extract a s.size), .int .u8 (b.toNat : Int)] w fun e w' => e = .returned (.int .i64 (-1)) ∧ w' = w by
    have e : Lib.indexByte (s.extract a s.size).data.toList ((b.toNat : Int).toNat.toUInt8) = -1 := by
      rw [← Lib.firstIdx_eq]
      exact firstIdx_ascii s a s.size _ hs (by simpa using hb)
    have h := iIndexByte (s.extract a s.size) (b.toNat : Int) w
    rw [e] at h
    exact h))
  have HA := Lib.hid (fun (h : n < s.size) => show (((s[n].toNat : Nat) : Int) == ((b.toNat : Nat) : Int)) = false by
    have := ascii_at hs h
    rw [beq_eq_false_iff_ne]
    omega)
  clear hv hs
  go_enter Tryz.func72, Tryz.ntmps72
  go_wp2_with fail
  refine (HV.out _).mono ?_
  rintro e w' ⟨rfl, rfl⟩
  go_wp2_with fail
  go_step3
  have hE2 := hE.symm
  clear hE
  rcases Classical.em (n < s.size) with hns | hns
  · have hne := HA.out hns
    have hnp : (n : Int) < (s.size : Int) := by omega
    have hn0 : (0 : Int) ≤ (n : Int) := by omega
    have hw : IntKind.i64.wrap ((n : Int) + 1) = (n : Int) + 1 := IntWalk.i64_in _ (by omega)
    have hn2 : (n : Int) + 1 ≤ (s.size : Int) := by omega
    have hn3 : (0 : Int) ≤ (n : Int) + 1 := by omega
    have hn4 : (n : Int) < (n : Int) + 1 := by omega
    go_wp2_with fail
    refine wp_loop_rounds 1 ?_
    rw [rounds_succ]
    go_wp2_with fail
    go_step3
    go_wp2_with fail
    go_quiet (fail)
    go_wp2_with fail
    refine wp_region_below (by kernel_rfl) (by kernel_rfl) ?_
    (with_reducible refine wpQuiet_yes ?_ ?_; (focus (kernel_rfl)); intro K hK; go_simp; refine ⟨_, fun _ _ => rfl, ?_⟩; with_reducible refine hK _ ?_; clear hK K)
    (with_reducible refine wpQuiet_yes ?_ ?_; (focus (kernel_rfl)); intro K hK; go_simp; refine ⟨_, fun _ _ => rfl, ?_⟩; with_reducible refine hK _ ?_; clear hK K)
    (with_reducible refine wpQuiet_yes ?_ ?_; (focus (kernel_rfl)); intro K hK; go_simp; refine ⟨_, fun _ _ => rfl, ?_⟩; with_reducible refine hK _ ?_; clear hK K)
    (with_reducible refine wpQuiet_yes ?_ ?_; (focus (kernel_rfl)); intro K hK; go_simp; refine ⟨_, fun _ _ => rfl, ?_⟩; with_reducible refine hK _ ?_; clear hK K)
    (with_reducible refine wpQuiet_yes ?_ ?_; (focus (kernel_rfl)); intro K hK; go_simp; refine ⟨_, fun _ _ => rfl, ?_⟩; with_reducible refine hK _ ?_; clear hK K)
    (with_reducible refine wpQuiet_yes ?_ ?_; (focus (kernel_rfl)); intro K hK; go_simp; refine ⟨_, fun _ _ => rfl, ?_⟩; with_reducible refine hK _ ?_; clear hK K)
    (with_reducible refine wpQuiet_yes ?_ ?_; (focus (kernel_rfl)); intro K hK; go_simp; refine ⟨_, fun _ _ => rfl, ?_⟩; with_reducible refine hK _ ?_; clear hK K)
    (with_reducible refine wpQuiet_yes ?_ ?_; (focus (kernel_rfl)); intro K hK; go_simp; refine ⟨(.int .i64 (-1)), ?_, ?_⟩; rotate_left; with_reducible refine hK _ ?_; clear hK K; rotate_left)
    · intro w' hw'
      exact (HI.out (n + 1) w').mono fun e w'' ⟨he, h⟩ => ⟨he, h ▸ hw'⟩
    (with_reducible refine wpQuiet_yes ?_ ?_; (focus (kernel_rfl)); intro K hK; go_simp; refine ⟨_, fun _ _ => rfl, ?_⟩; with_reducible refine hK _ ?_; clear hK K)
    refine wpQuiet_nil fun w2 hb2 => ?_
    have HB := Lib.hid hb2
    clear hb2
    simp only [Exit.then]
    go_wp2_with fail
    repeat rw [Exit.noGoto_ret]
    simp only [Exit.then, Exit.inBlock]
    repeat rw [Exit.noGoto_ret]
    go_ret
    exact ⟨rfl, (below_drewN (Below.refl _ _) _).trans (HB.out.mono (Nat.le_refl _))⟩
  · go_wp2_with fail
    refine wp_loop_rounds 1 ?_
    rw [rounds_succ]
    go_wp2_with fail
    repeat rw [Exit.noGoto_ret]
    go_ret
    exact ⟨rfl, Below.refl _ _⟩
end Go.Proofs.YtoeghbcolpailaaGreat
namespace Go.Proofs.YtoeghbcolpailaaGreat
open Go.RowKit
/-- the index of a sign in a text of signs below 128 -/
def idxV (l : List UInt8) (r : Int) : Int := if r < 128 then Lib.indexByte l r.toNat.toUInt8 else -1
theorem iRune (s : ByteArray) (r : Int) (w : World) (hs : ∀ b ∈ s.data.toList, b.toNat < 128) (hl : s.size ≤ 1000) (h0 : 0 ≤ r) :
    Calls Tryz.prog 72 #[.string s, .int .i32 r] w fun e w' => e = .returned (.int .i64 (idxV s.data.toList r)) ∧ Below w.heap.size w w' := by
  unfold idxV
  split
  · exact iRune_low s r w h0 (by omega)
  · by_cases h2 : r = 65533
    · subst h2
      exact iRune_err s w hs
    · cases hv : Utf8.valid r
      · exact iRune_bad s r w (by omega) h2 hv
      · exact iRune_high s r w hs hl (by omega) h2 hv
/-- the leaf of a sign that a range over a text gives -/
def leafR (p r : Int) : Option (Int × Int) := if r < 128 then leafB p r.toNat.toUInt8 else none
theorem idxV_bd (l : List UInt8) (r : Int) : -1 ≤ idxV l r ∧ idxV l r ≤ l.length := by
  unfold idxV
  split
  · refine ⟨Lib.indexByte_ge _ _, ?_⟩
    rw [← Lib.index_one]
    exact Lib.index_le l _
  · omega
theorem leafR_cases {p r : Int} : (0 ≤ idxV letB r ∧ leafR p r = some (0, idxV letB r)) ∨ (¬ 0 ≤ idxV letB r ∧ leafR p r = if 0 ≤ idxV digB r ∧ idxV digB r < p then some (1, idxV digB r) else none) := by
  unfold leafR idxV leafB
  by_cases h : r < 128
  · simp only [h, if_true]
    by_cases h0 : 0 ≤ Lib.indexByte letB r.toNat.toUInt8
    · exact .inl ⟨h0, by rw [if_pos h0]⟩
    · exact .inr ⟨h0, by rw [if_neg h0]⟩
  · simp only [h, if_false]
    exact .inr ⟨by omega, by rw [if_neg (by omega)]⟩
/-- a block of three cells that the call has laid -/
structure Lf3 (n : Nat) (w wr : World) : Prop where
  c : ∀ i, i < 3 → ∃ x, wr.cell? ⟨n, i, none⟩ = some x
  f : ∀ i, wr.frozen? ⟨n, i, none⟩ = false
  sz : n < wr.heap.size
  low : Below w.heap.size w wr
theorem Lf3.below {n : Nat} {w wr w1 : World} (h : Lf3 n w wr) (hb : Below wr.heap.size wr w1) : Lf3 n w w1 :=
  ⟨fun i hi => by rw [hb.cell (p := ⟨n, i, none⟩) h.sz]; exact h.c i hi, fun i => by rw [hb.frozen (p := ⟨n, i, none⟩) h.sz]; exact h.f i, Nat.lt_of_lt_of_le h.sz hb.size, h.low.trans (hb.mono h.low.size)⟩
theorem Lf3.new (w : World) (a b c : Value) (t : TypeId) : Lf3 w.heap.size w (w.alloc (Obj.cells #[a, b, c] t)) := by
  refine ⟨fun i hi => ?_, fun i => World.frozen?_alloc_at _ _ _ i rfl, by simp, Below.alloc (Below.refl _ _) (Nat.le_refl _) _⟩
  have : i = 0 ∨ i = 1 ∨ i = 2 := by omega
  rcases this with rfl | rfl | rfl <;> exact ⟨_, by simp [go_sem]; rfl⟩
set_option maxRecDepth 100000 in
set_option maxHeartbeats 4000000 in
theorem iLeaf (p r : Int) (w : World) (hp : isP p = true) (h0 : 0 ≤ r) :
    Calls Tryz.prog 55 #[.int .i64 p, .int .i32 r] w fun e w' => ∃ k a, e = .returned (.tuple #[.agg #[.int .i64 k, .int .i64 a, .int .i64 0], .bool (leafR p r).isSome]) ∧ (∀ x, leafR p r = some x → x = (k, a)) ∧ Below w.heap.size w w' := by
  have H1 := Lib.hid (fun w => iRune ⟨#[120, 121, 122]⟩ r w (by decide) (by decide) h0)
  have H2 := Lib.hid (fun w => iRune ⟨#[48, 49, 50, 51, 52, 53, 54, 55, 56, 57, 65, 66, 67]⟩ r w (by decide) (by decide) h0)
  rw [show (⟨#[120, 121, 122]⟩ : ByteArray).data.toList = letB from rfl] at H1
  rw [show (⟨#[48, 49, 50, 51, 52, 53, 54, 55, 56, 57, 65, 66, 67]⟩ : ByteArray).data.toList = digB from rfl] at H2
  obtain ⟨v, hv⟩ : ∃ v, v = idxV letB r := ⟨_, rfl⟩
  obtain ⟨a, ha⟩ : ∃ a, a = idxV digB r := ⟨_, rfl⟩
  have hc := leafR_cases (p := p) (r := r)
  rw [← hv, ← ha] at hc
  rw [← hv] at H1
  rw [← ha] at H2
  have HA := Lib.hid (fun (b : Nat) w (hc : w.cell? ⟨b, 0, none⟩ = some (.int .i64 a)) => (iAE_p p hp b 0 [a] w (by simp) (fun k hk => by
    have : k = 0 := by simpa using hk
    subst this
    exact hc) : Calls Tryz.prog 17 #[.int .i64 p, .slice (some ⟨b, 0, none⟩) 1 1] w fun e w' => e = .returned (.bool ([a].all (isE p))) ∧ w = w'))
  rw [show [a].all (isE p) = isE p a by simp] at HA
  rcases hc with ⟨hv0, hL⟩ | ⟨hv0, hL⟩
  · have HL := Lib.hid hL
    rw [hL]
    clear hv ha hL
    go_enter Tryz.func55, Tryz.ntmps55
    go_wp2_with fail
    refine (H1.out _).mono ?_
    rintro e w1 ⟨rfl, hb1⟩
    have HF := Lib.hid ((Lf3.new w _ _ _ _).below hb1)
    clear hb1
    obtain ⟨c, f, sz, -⟩ := HF.out
    obtain ⟨x0, c0⟩ := c 0 (by omega)
    obtain ⟨x1, c1⟩ := c 1 (by omega)
    obtain ⟨x2, c2⟩ := c 2 (by omega)
    have f0 := f 0
    have f1 := f 1
    have f2 := f 2
    clear c f
    go_wp2_with fail
    refine bodyPost_ret (v := .tuple #[.agg #[.int .i64 0, .int .i64 v, .int .i64 0], .bool true]) (by simp [results, Tryz.results55, go_sem, c0, c1, c2]) rfl ⟨0, v, rfl, fun x hx => by injection hx with hx; exact hx.symm, ?_⟩
    repeat (first | exact HF.out.low | (refine Below.setCell ?_ (by first | omega | (simp; done)) _))
  · have HL := Lib.hid hL
    have hE : (leafR p r).isSome = isE p a := by
      rw [hL]
      unfold isE
      split
      · rename_i h; simp [h.1, h.2]
      · rename_i h; simp; omega
    have hX : ∀ x, leafR p r = some x → x = (1, a) := fun x hx => by
      rw [hL] at hx
      split at hx
      · injection hx with hx; exact hx.symm
      · cases hx
    have HX := Lib.hid hX
    rw [hE]
    clear hv ha hL hE hX
    go_enter Tryz.func55, Tryz.ntmps55
    go_wp2_with fail
    refine (H1.out _).mono ?_
    rintro e w1 ⟨rfl, hb1⟩
    have HF := Lib.hid ((Lf3.new w _ _ _ _).below hb1)
    clear hb1
    go_wp2_with fail
    refine (H2.out _).mono ?_
    rintro e w2 ⟨rfl, hb2⟩
    have HF2 := Lib.hid (HF.out.below hb2)
    clear hb2
    go_wp2_with fail
    refine (HA.out _ _ ?_).mono ?_
    · simp [go_sem]
    rintro e w3 ⟨rfl, rfl⟩
    have HF3 := Lib.hid (HF2.out.below (Below.alloc (Below.refl _ _) (Nat.le_refl _) (Obj.cells #[.int .i64 a] 3)))
    generalize (w2.alloc (Obj.cells #[.int .i64 a] 3)) = w3 at HF3 ⊢
    obtain ⟨c, f, sz, -⟩ := HF3.out
    obtain ⟨x0, c0⟩ := c 0 (by omega)
    obtain ⟨x1, c1⟩ := c 1 (by omega)
    obtain ⟨x2, c2⟩ := c 2 (by omega)
    have f0 := f 0
    have f1 := f 1
    have f2 := f 2
    clear c f
    go_wp2_with fail
    refine bodyPost_ret (v := .tuple #[.agg #[.int .i64 1, .int .i64 a, .int .i64 0], .bool (isE p a)]) (by simp [results, Tryz.results55, go_sem, c0, c1, c2]) rfl ⟨1, a, rfl, HX.out, ?_⟩
    repeat (first | exact HF3.out.low | (refine Below.setCell ?_ (by first | omega | (simp; done)) _))
end Go.Proofs.YtoeghbcolpailaaGreat
namespace Go.Proofs.YtoeghbcolpailaaGreat
open Go.RowKit
/-- only the block R and what lies from B on is written -/
structure Only (R B : Nat) (w w' : World) : Prop where
  os : w'.os = w.os
  tape : w'.tape = w.tape
  output : w'.output = w.output
  size : w.heap.size ≤ w'.heap.size
  block : ∀ k, k < B → k ≠ R → w'.heap[k]? = w.heap[k]?
theorem Only.refl (R B : Nat) (w : World) : Only R B w w := ⟨rfl, rfl, rfl, Nat.le_refl _, fun _ _ _ => rfl⟩
theorem Only.trans {R B : Nat} {a b c : World} (h : Only R B a b) (k : Only R B b c) : Only R B a c :=
  ⟨k.os.trans h.os, k.tape.trans h.tape, k.output.trans h.output, Nat.le_trans h.size k.size, fun i hi hn => (k.block i hi hn).trans (h.block i hi hn)⟩
theorem Only.of_below {R B : Nat} {w w' : World} (h : Below B w w') : Only R B w w' := ⟨h.os, h.tape, h.output, h.size, fun k hk _ => h.block k hk⟩
theorem Only.set {R B : Nat} {a w : World} (h : Only R B a w) {p : Addr} (hp : p.block = R ∨ B ≤ p.block) (u : Value) : Only R B a (w.setCell p u) :=
  ⟨h.os, h.tape, h.output, by simpa using h.size, fun k hk hn => by rw [Below.heap_setCell _ _ _ _ (fun e => by rcases hp with hp | hp <;> omega)]; exact h.block k hk hn⟩
theorem Only.low {R B : Nat} {a w : World} (h : Only R B a w) (hr : R ≤ B) : Below R a w := ⟨h.os, h.tape, h.output, h.size, fun k hk => h.block k (by omega) (by omega)⟩
/-- the reader lies in block R: its field, its open pairs, what is whole -/
structure RdW (p : Int) (B R : Nat) (O : Stk) (f : Option Fm) (w : World) : Prop where
  c0 : w.cell? ⟨R, 0, none⟩ = some (.int .i64 p)
  c1 : ∃ v, w.cell? ⟨R, 1, none⟩ = some v ∧ StkR w B v O
  c2 : w.cell? ⟨R, 2, none⟩ = some (optV f)
  fz : ∀ i, w.frozen? ⟨R, i, none⟩ = false
  RB : R < B
  sz : B ≤ w.heap.size
theorem RdW.below {p : Int} {B R : Nat} {O : Stk} {f : Option Fm} {w w' : World} (h : RdW p B R O f w) (hb : Below w.heap.size w w') : RdW p B R O f w' := by
  have h1 := h.RB
  have h2 := h.sz
  obtain ⟨v, hv, hr⟩ := h.c1
  exact ⟨by rw [hb.cell (p := ⟨R, 0, none⟩) (show R < w.heap.size by omega)]; exact h.c0, ⟨v, by rw [hb.cell (p := ⟨R, 1, none⟩) (show R < w.heap.size by omega)]; exact hv, hr.below hb⟩,
    by rw [hb.cell (p := ⟨R, 2, none⟩) (show R < w.heap.size by omega)]; exact h.c2, fun i => by rw [hb.frozen (p := ⟨R, i, none⟩) (show R < w.heap.size by omega)]; exact h.fz i, h1, Nat.le_trans h2 hb.size⟩
theorem StkR.low {w : World} {B R i : Nat} {v : Value} {O : Stk} (h : StkR w B v O) (hR : R < B) (u : Value) : StkR (w.setCell ⟨R, i, none⟩ u) B v O :=
  World.ownsRow.kept (row := some R) h ⟨rfl, rfl, rfl, by simp, fun k hk hne => Below.heap_setCell _ _ _ _ (fun e => hne (by rw [e]))⟩ (.inr (fun e => by have := (World.ownsRow.lt h _ e).1; omega))
/-- the open pairs of the reader anew -/
theorem RdW.open1 {p : Int} {B R : Nat} {O O' : Stk} {f : Option Fm} {w w1 : World} (h : RdW p B R O f w) (h1 : Only R B w w1) (h0 : ∀ i, w1.cell? ⟨R, i, none⟩ = w.cell? ⟨R, i, none⟩) (hf : ∀ i, w1.frozen? ⟨R, i, none⟩ = w.frozen? ⟨R, i, none⟩) {v : Value} (hr : StkR w1 B v O') :
    RdW p B R O' f (w1.setCell ⟨R, 1, none⟩ v) := by
  have e1 := h.RB
  have e2 := h.sz
  obtain ⟨u, hu, _⟩ := h.c1
  refine ⟨?_, ⟨v, World.cell?_setCell_same _ _ _ (show w1.cell? ⟨R, 1, none⟩ = some u by rw [h0]; exact hu), hr.low e1 v⟩, ?_, fun i => by rw [World.frozen?_setCell, hf]; exact h.fz i, e1, by simpa using Nat.le_trans e2 h1.size⟩
  · rw [World.cell?_setCell_other _ _ _ _ (by simp), h0]; exact h.c0
  · rw [World.cell?_setCell_other _ _ _ _ (by simp), h0]; exact h.c2
theorem RdW.whole {p : Int} {B R : Nat} {w : World} (h : RdW p B R [] none w) (f : Fm) : RdW p B R [] (some f) (w.setCell ⟨R, 2, none⟩ (fmV f)) := by
  have e1 := h.RB
  obtain ⟨v, hv, hr⟩ := h.c1
  refine ⟨?_, ⟨v, ?_, hr.low e1 _⟩, World.cell?_setCell_same _ _ _ h.c2, fun i => by rw [World.frozen?_setCell]; exact h.fz i, e1, by simpa using h.sz⟩
  · rw [World.cell?_setCell_other _ _ _ _ (by simp)]; exact h.c0
  · rw [World.cell?_setCell_other _ _ _ _ (by simp)]; exact hv
theorem RdW.first {p : Int} {B R g n cap : Nat} {O : Stk} {k : Int} {w : World} (h : RdW p B R ((k, none) :: O) none w) (hv : w.cell? ⟨R, 1, none⟩ = some (.slice (some ⟨g, 0, none⟩) n cap)) (hr : StkR w B (.slice (some ⟨g, 0, none⟩) n cap) ((k, none) :: O)) (hn : n = O.length + 1) (hg : B ≤ g) (f : Fm) :
    RdW p B R ((k, some f) :: O) none (w.setCell ⟨g, O.length * 3 + 1, none⟩ (fmV f)) := by
  have e1 := h.RB
  have ne : ∀ i, (⟨g, O.length * 3 + 1, none⟩ : Addr) ≠ ⟨R, i, none⟩ := fun i e => by have := congrArg Addr.block e; simp at this; omega
  refine ⟨?_, ⟨_, ?_, hr.first hn f⟩, ?_, fun i => by rw [World.frozen?_setCell]; exact h.fz i, e1, by simpa using h.sz⟩
  · rw [World.cell?_setCell_other _ _ _ _ (ne 0)]; exact h.c0
  · rw [World.cell?_setCell_other _ _ _ _ (ne 1)]; exact hv
  · rw [World.cell?_setCell_other _ _ _ _ (ne 2)]; exact h.c2
theorem RdW.pop {p : Int} {B R g n cap : Nat} {O : Stk} {k : Int} {x : Option Fm} {w : World} (h : RdW p B R ((k, x) :: O) none w) (hr : StkR w B (.slice (some ⟨g, 0, none⟩) n cap) ((k, x) :: O)) (hn : n = O.length + 1) (hg : B ≤ g) (f : Fm) :
    RdW p B R O none ((w.setCell ⟨g, O.length * 3 + 2, none⟩ (fmV f)).setCell ⟨R, 1, none⟩ (.slice (some ⟨g, 0, none⟩) O.length cap)) := by
  have e1 := h.RB
  have ne : ∀ i, (⟨g, O.length * 3 + 2, none⟩ : Addr) ≠ ⟨R, i, none⟩ := fun i e => by have := congrArg Addr.block e; simp at this; omega
  exact h.open1 ((Only.refl R B w).set (.inr hg) _) (fun i => World.cell?_setCell_other _ _ _ _ (ne i)) (fun i => World.frozen?_setCell _ _ _ _) (hr.pop hn f)
/-- how many pairs are open -/
def opnN (w : World) (R : Nat) : Nat := match w.cell? ⟨R, 1, none⟩ with
  | some (.slice _ n _) => n
  | _ => 0
theorem opnN_of {w : World} {R n cap : Nat} {a : Option Addr} (h : w.cell? ⟨R, 1, none⟩ = some (.slice a n cap)) : opnN w R = n := by unfold opnN; rw [h]
theorem RdW.shape {p : Int} {B R : Nat} {O : Stk} {f : Option Fm} {w : World} (h : RdW p B R O f w) : ∃ a cap, w.cell? ⟨R, 1, none⟩ = some (.slice a O.length cap) ∧ StkR w B (.slice a O.length cap) O ∧ O.length ≤ maxLen ∧ (O = [] ∨ ∃ g, a = some ⟨g, 0, none⟩ ∧ B ≤ g ∧ g < w.heap.size ∧ O.length ≤ cap) := by
  obtain ⟨v, hv, hr⟩ := h.c1
  rcases hr.shape with ⟨rfl, rfl⟩ | ⟨g, cap, rfl, hb, hg, hn, hm⟩
  · exact ⟨none, 0, hv, hr, by simp, .inl rfl⟩
  · exact ⟨_, cap, hv, hr, Nat.le_trans hn hm, .inr ⟨g, rfl, hb, hg, hn⟩⟩
theorem fmV_is (f : Fm) : ∃ t v, fmV f = .iface t v := by cases f <;> exact ⟨_, _, rfl⟩
set_option maxRecDepth 100000 in
set_option maxHeartbeats 4000000 in
theorem iPlace (p : Int) (B R : Nat) (f : Fm) (O : Stk) (w : World) (h : RdW p B R O none w) :
    Calls Tryz.prog 56 #[.pointer (some ⟨R, 0, none⟩), fmV f] w fun e w' => e = .returned (.tuple #[]) ∧ RdW p B R (plcF f O).1 (plcF f O).2 w' ∧ Only R B w w' := by
  have H0 := Lib.hid h
  obtain ⟨F, hF⟩ : ∃ F, F = fmV f := ⟨_, rfl⟩
  have HF := Lib.hid hF
  obtain ⟨Z, hZ⟩ : ∃ Z, Z = plcF f O := ⟨_, rfl⟩
  have HZ := Lib.hid hZ
  rw [← hZ, ← hF]
  have c159 : Tryz.prog.cellsOf 76 = 3 := by kernel_rfl
  clear h hF hZ
  go_enter Tryz.func56, Tryz.ntmps56
  go_wp2_with fail
  go_loopw [1] (fun u wr => ∃ (f' : Fm) (O' : Stk), u = fmV f' ∧ RdW p B R O' none wr ∧ plcF f' O' = Z ∧ Only R B w wr) (fun _ wr => opnN wr R)
  case atStart => exact ⟨f, O, HF.out, H0.out, HZ.out.symm, Only.refl _ _ _⟩
  case round =>
    clear HF HZ H0
    obtain ⟨f', O', rfl, hR, hZ', hOn⟩ := hrel
    obtain ⟨a, cap, hc1, hst, hml, hsh⟩ := hR.shape
    have hop := opnN_of hc1
    have hcz : wr.cell? ⟨R, 2, none⟩ = some .nilIface := hR.c2
    obtain ⟨ft, fv, hfe⟩ := fmV_is f'
    rw [hfe]
    have HE := Lib.hid hfe
    clear hfe
    have hfz := hR.fz 2
    have HR := Lib.hid hR
    have HZ := Lib.hid hZ'
    have HO := Lib.hid hOn
    have HP := Lib.hid hop
    unfold maxLen at hml
    cases O' with
    | nil =>
      simp only [List.length_nil] at hc1
      clear hR hZ' hOn hst hop hsh hml c159
      go_wp2_with fail
      refine bodyPost_end (v := .tuple #[]) (by simp [results, Tryz.results56, go_sem]) rfl ⟨rfl, ?_, HO.out.set (.inl rfl) _⟩
      rw [← HZ.out, ← HE.out]
      exact HR.out.whole f'
    | cons x O' =>
      obtain ⟨k, y⟩ := x
      obtain ⟨g, rfl, hg, hgw, hn⟩ := hsh.resolve_left (by simp)
      simp only [List.length_cons] at hc1 hst hop hml hn
      obtain ⟨t0, t1, t2⟩ := hst.top rfl
      have tf := fun j => hst.frozen rfl j
      have HT := Lib.hid hst
      have hwr : IntKind.i64.wrap (O'.length : Int) = (O'.length : Int) := IntWalk.i64_in _ (by omega)
      have hix1 : (O'.length : Int) < (O'.length : Int) + 1 := by omega
      have hix2 : (O'.length : Int) < ((O'.length + 1 : Nat) : Int) := by omega
      have hix3 : O'.length < O'.length + 1 := by omega
      have hix0 : (0 : Int) ≤ (O'.length : Int) := by omega
      have hgt : (0 : Int) < (O'.length : Int) + 1 := by omega
      clear hR hZ' hOn hst hop hsh hcz
      cases y with
      | none =>
        have t1' : wr.cell? ⟨g, O'.length * 3 + 1, none⟩ = some .nilIface := t1
        clear t1
        have tf1 := tf (O'.length * 3 + 1)
        clear tf
        go_wp2_with fail
        refine bodyPost_ret (v := .tuple #[]) (by simp [results, Tryz.results56, go_sem]) rfl ⟨rfl, ?_, HO.out.set (.inr hg) _⟩
        rw [← HZ.out, ← HE.out]
        exact HR.out.first hc1 HT.out rfl hg f'
      | some x =>
        obtain ⟨xt, xv, hxe⟩ := fmV_is x
        have t1' : wr.cell? ⟨g, O'.length * 3 + 1, none⟩ = some (.iface xt xv) := by rw [← hxe]; exact t1
        have HXE := Lib.hid hxe
        have tf2 := tf (O'.length * 3 + 2)
        have fz1 := HR.out.fz 1
        have hgR : (⟨g, O'.length * 3 + 2, none⟩ : Addr) ≠ ⟨R, 1, none⟩ := fun e => by have h1 := congrArg Addr.block e; have h2 := HR.out.RB; simp only at h1; omega
        have HQ := Lib.hid (show RdW p B R O' none ((wr.setCell ⟨g, O'.length * 3 + 2, none⟩ (.iface ft fv)).setCell ⟨R, 1, none⟩ (.slice (some ⟨g, 0, none⟩) O'.length cap)) by
          rw [← HE.out]
          exact HR.out.pop HT.out rfl hg f')
        have HQ2 := Lib.hid (show Only R B w ((wr.setCell ⟨g, O'.length * 3 + 2, none⟩ (.iface ft fv)).setCell ⟨R, 1, none⟩ (.slice (some ⟨g, 0, none⟩) O'.length cap)) from (HO.out.set (.inr hg) _).set (.inl rfl) _)
        have hle : O'.length ≤ cap := by omega
        have hc2 : ((wr.setCell ⟨g, O'.length * 3 + 2, none⟩ (.iface ft fv))).cell? ⟨R, 1, none⟩ = some (.slice (some ⟨g, 0, none⟩) (O'.length + 1) cap) := by rw [World.cell?_setCell_other _ _ _ _ hgR]; exact hc1
        clear t1 tf hxe
        go_wp2_with fail
        refine ⟨⟨.pair k x f', O', ?_, HQ.out, HZ.out, HQ2.out⟩, ?_⟩
        · show _ = Value.iface _ _
          rw [← HXE.out, ← HE.out]
        · rw [HP.out, opnN_of (World.cell?_setCell_same _ _ _ hc2)]
          simp
end Go.Proofs.YtoeghbcolpailaaGreat
namespace Go.Proofs.YtoeghbcolpailaaGreat
open Go.RowKit
/-- the next sign is taken, as a number of a range over a text -/
def readR (p : Int) (s : Stk × Option Fm) (r : Int) : Option (Stk × Option Fm) := match s with
  | (_, some _) => none
  | (O, none) => if r = 43 ∨ r = 42 then some ((if r = 43 then 2 else 3, none) :: O, none) else match leafR p r with
    | none => none
    | some (k, a) => some (plcF (.leaf k a) O)
theorem readR_low {p : Int} {s : Stk × Option Fm} {c : UInt8} (h : c.toNat < 128) : readR p s (c.toNat : Int) = readB p s c := by
  obtain ⟨O, f⟩ := s
  cases f with
  | some f => rfl
  | none =>
    have e1 : leafR p (c.toNat : Int) = leafB p c := by
      unfold leafR
      rw [if_pos (by omega)]
      simp
    have e43 : ((c.toNat : Int) = 43) ↔ c = 43 := by
      constructor
      · intro h
        exact UInt8.toNat_inj.1 (by simpa using (show c.toNat = 43 by omega))
      · rintro rfl; rfl
    have e42 : ((c.toNat : Int) = 42) ↔ c = 42 := by
      constructor
      · intro h
        exact UInt8.toNat_inj.1 (by simpa using (show c.toNat = 42 by omega))
      · rintro rfl; rfl
    simp only [readR, readB, signB, kindB, e1, e43, e42, Bool.or_eq_true, beq_iff_eq]
    rfl
theorem readR_high {p : Int} {s : Stk × Option Fm} {r : Int} (h : 128 ≤ r) : readR p s r = none := by
  obtain ⟨O, f⟩ := s
  cases f with
  | some f => rfl
  | none =>
    have e1 : leafR p r = none := by
      unfold leafR
      rw [if_neg (by omega)]
    simp only [readR, e1]
    rw [if_neg (by omega)]
theorem readB_high {p : Int} {s : Stk × Option Fm} {c : UInt8} (h : ¬ c.toNat < 128) : readB p s c = none := by
  obtain ⟨O, f⟩ := s
  cases f with
  | some f => rfl
  | none =>
    have hs : signB c = false := by
      cases e : signB c with
      | false => rfl
      | true => exact absurd (signB_ascii e) h
    simp only [readB, hs, leafB_high h, Bool.false_eq_true, if_false]
theorem infoPair : (Tryz.prog.info? 76).map (fun i => (i.zero, i.size, i.bytes)) = some (some (.agg #[.int .i64 0, .nilIface, .nilIface]), 3, 40) := by kernel_rfl
/-- what read leaves -/
def ReadTo (p : Int) (B R : Nat) (o : Option (Stk × Option Fm)) (w : World) (e : Ending) (w' : World) : Prop :=
  e = .returned (.bool o.isSome) ∧ (∀ s, o = some s → RdW p B R s.1 s.2 w') ∧ Only R B w w'
set_option maxRecDepth 100000 in
set_option maxHeartbeats 4000000 in
theorem iRead_done (p r : Int) (B R : Nat) (O : Stk) (f : Fm) (w : World) (h : RdW p B R O (some f) w) :
    Calls Tryz.prog 41 #[.pointer (some ⟨R, 0, none⟩), .int .i32 r] w (ReadTo p B R none w) := by
  obtain ⟨ft, fv, hfe⟩ := fmV_is f
  have hc : w.cell? ⟨R, 2, none⟩ = some (.iface ft fv) := by rw [← hfe]; exact h.c2
  clear h hfe
  go_enter Tryz.func41, Tryz.ntmps41
  go_wp2_with fail
  go_ret
  refine ⟨rfl, ?_, Only.refl _ _ _⟩
  intro s hs
  cases hs
set_option maxRecDepth 100000 in
set_option maxHeartbeats 4000000 in
theorem iRead_sign (p r k : Int) (B R : Nat) (O : Stk) (w : World) (h : RdW p B R O none w) (hl : O.length ≤ 1000) (hr : (r = 43 ∧ k = 2) ∨ (r = 42 ∧ k = 3)) :
    Calls Tryz.prog 41 #[.pointer (some ⟨R, 0, none⟩), .int .i32 r] w (ReadTo p B R (some ((k, none) :: O, none)) w) := by
  obtain ⟨i0, hi, hz0, hz1, hz2⟩ := info_parts infoPair
  obtain ⟨a, cap, hc1, hst, _, hsh⟩ := h.shape
  have hc2 : w.cell? ⟨R, 2, none⟩ = some .nilIface := h.c2
  have HR := Lib.hid h
  have HT := Lib.hid hst
  have fz1 := h.fz 1
  have hRw : R < w.heap.size := Nat.lt_of_lt_of_le h.RB h.sz
  have hBw := h.sz
  clear h hst hsh
  go_enter Tryz.func41, Tryz.ntmps41
  rcases hr with ⟨rfl, rfl⟩ | ⟨rfl, rfl⟩
  · go_wp2_with (at_builtin; refine wpList_append_own _ rfl _ _ 78 rfl B 76 i0 (.agg #[.int .i64 0, .nilIface, .nilIface]) 3 40 Tryz.underlying78 hi hz0 hz1 hz2 rfl (by decide) _ _ _ rfl (HT.out.below (Below.alloc (Below.refl _ _) (Nat.le_refl _) _)) ⟨w.heap.size, 0, none⟩ 1 1 [.int .i64 2, .nilIface, .nilIface] rfl rfl (by intro j u hj; match j, hj with | 0, hj => (simp at hj; subst hj; simp [Addr.add, go_sem]) | 1, hj => (simp at hj; subst hj; simp [Addr.add, go_sem]) | 2, hj => (simp at hj; subst hj; simp [Addr.add, go_sem])) (pair_ok 2 .nilIface .nilIface rfl rfl) (by unfold maxLen; omega) (by omega) (by simp; omega) ?_)
    intro v' w2 hown' hgrow hnil
    obtain ⟨a2, c2, rfl⟩ : ∃ a2 c2, v' = .slice a2 (O.length + 1) c2 := by
      rcases (StkR.push (k := 2) hown').shape with ⟨_, h⟩ | ⟨g, c, h, _⟩
      · cases h
      · exact ⟨_, _, h⟩
    have hb2 : Below B w w2 := Below.grown ((Below.refl B w).alloc hBw _) hgrow (by simp; omega) (fun j hj => (World.ownsRow.lt HT.out _ hj).1)
    have HQ := Lib.hid (show RdW p B R ((2, none) :: O) none (w2.setCell ⟨R, 1, none⟩ (.slice a2 (O.length + 1) c2)) from HR.out.open1 (Only.of_below hb2) (fun i => hb2.cell (p := ⟨R, i, none⟩) HR.out.RB) (fun i => hb2.frozen (p := ⟨R, i, none⟩) HR.out.RB) (StkR.push hown'))
    have HQ2 := Lib.hid (show Only R B w (w2.setCell ⟨R, 1, none⟩ (.slice a2 (O.length + 1) c2)) from Only.set (p := ⟨R, 1, none⟩) (Only.of_below hb2) (.inl rfl) _)
    have hc1' : w2.cell? ⟨R, 1, none⟩ = some (.slice a O.length cap) := by rw [hb2.cell (p := ⟨R, 1, none⟩) HR.out.RB]; exact hc1
    have fz1' : w2.frozen? ⟨R, 1, none⟩ = false := by rw [hb2.frozen (p := ⟨R, 1, none⟩) HR.out.RB]; exact fz1
    clear hown' hgrow hnil hb2
    go_wp2_with fail
    go_ret
    refine ⟨rfl, ?_, HQ2.out⟩
    intro s hs
    injection hs with hs
    subst hs
    exact HQ.out
  · go_wp2_with (at_builtin; refine wpList_append_own _ rfl _ _ 78 rfl B 76 i0 (.agg #[.int .i64 0, .nilIface, .nilIface]) 3 40 Tryz.underlying78 hi hz0 hz1 hz2 rfl (by decide) _ _ _ rfl (HT.out.below (Below.alloc (Below.refl _ _) (Nat.le_refl _) _)) ⟨w.heap.size, 0, none⟩ 1 1 [.int .i64 3, .nilIface, .nilIface] rfl rfl (by intro j u hj; match j, hj with | 0, hj => (simp at hj; subst hj; simp [Addr.add, go_sem]) | 1, hj => (simp at hj; subst hj; simp [Addr.add, go_sem]) | 2, hj => (simp at hj; subst hj; simp [Addr.add, go_sem])) (pair_ok 3 .nilIface .nilIface rfl rfl) (by unfold maxLen; omega) (by omega) (by simp; omega) ?_)
    intro v' w2 hown' hgrow hnil
    obtain ⟨a2, c2, rfl⟩ : ∃ a2 c2, v' = .slice a2 (O.length + 1) c2 := by
      rcases (StkR.push (k := 3) hown').shape with ⟨_, h⟩ | ⟨g, c, h, _⟩
      · cases h
      · exact ⟨_, _, h⟩
    have hb2 : Below B w w2 := Below.grown ((Below.refl B w).alloc hBw _) hgrow (by simp; omega) (fun j hj => (World.ownsRow.lt HT.out _ hj).1)
    have HQ := Lib.hid (show RdW p B R ((3, none) :: O) none (w2.setCell ⟨R, 1, none⟩ (.slice a2 (O.length + 1) c2)) from HR.out.open1 (Only.of_below hb2) (fun i => hb2.cell (p := ⟨R, i, none⟩) HR.out.RB) (fun i => hb2.frozen (p := ⟨R, i, none⟩) HR.out.RB) (StkR.push hown'))
    have HQ2 := Lib.hid (show Only R B w (w2.setCell ⟨R, 1, none⟩ (.slice a2 (O.length + 1) c2)) from Only.set (p := ⟨R, 1, none⟩) (Only.of_below hb2) (.inl rfl) _)
    have hc1' : w2.cell? ⟨R, 1, none⟩ = some (.slice a O.length cap) := by rw [hb2.cell (p := ⟨R, 1, none⟩) HR.out.RB]; exact hc1
    have fz1' : w2.frozen? ⟨R, 1, none⟩ = false := by rw [hb2.frozen (p := ⟨R, 1, none⟩) HR.out.RB]; exact fz1
    clear hown' hgrow hnil hb2
    go_wp2_with fail
    go_ret
    refine ⟨rfl, ?_, HQ2.out⟩
    intro s hs
    injection hs with hs
    subst hs
    exact HQ.out
set_option maxRecDepth 100000 in
set_option maxHeartbeats 4000000 in
theorem iRead_leaf (p r : Int) (B R : Nat) (O : Stk) (w : World) (h : RdW p B R O none w) (hp : isP p = true) (h0 : 0 ≤ r) (h43 : ¬ r = 43) (h42 : ¬ r = 42) :
    Calls Tryz.prog 41 #[.pointer (some ⟨R, 0, none⟩), .int .i32 r] w (ReadTo p B R (readR p (O, none) r) w) := by
  have HL := Lib.hid (fun w => iLeaf p r w hp h0)
  have HR := Lib.hid h
  have hc0 := h.c0
  have hc2 : w.cell? ⟨R, 2, none⟩ = some .nilIface := h.c2
  have hRw : R < w.heap.size := Nat.lt_of_lt_of_le h.RB h.sz
  have hE : readR p (O, none) r = match leafR p r with
    | none => none
    | some (k, a) => some (plcF (.leaf k a) O) := by
    show (if r = 43 ∨ r = 42 then _ else _) = _
    rw [if_neg (by omega)]
  rw [hE]
  clear h hE
  obtain ⟨o, ho⟩ : ∃ o, o = leafR p r := ⟨_, rfl⟩
  rw [← ho] at HL ⊢
  clear ho
  go_enter Tryz.func41, Tryz.ntmps41
  go_wp2_with fail
  refine (HL.out _).mono ?_
  rintro e w1 ⟨k, a, rfl, hx, hb1⟩
  cases o with
  | none =>
    have HB := Lib.hid hb1
    clear hb1 hx
    simp only [Option.isSome]
    go_wp2_with fail
    go_ret
    refine ⟨rfl, ?_, Only.of_below (Below.alloc (HB.out.mono HR.out.sz) (Nat.le_trans HR.out.sz HB.out.size) _)⟩
    intro s hs
    cases hs
  | some x =>
    obtain rfl := hx x rfl
    have HB := Lib.hid hb1
    clear hb1 hx
    simp only [Option.isSome]
    go_wp2_with fail
    have hb2 : Below w.heap.size w (w1.alloc (Obj.cells #[.int .i64 k, .int .i64 a, .int .i64 0] 73)) := Below.alloc HB.out HB.out.size _
    refine (iPlace p B R (.leaf k a) O _ (HR.out.below hb2)).mono ?_
    rintro e w2 ⟨rfl, hR2, hO2⟩
    have HQ := Lib.hid (And.intro hR2 ((Only.of_below (R := R) (hb2.mono HR.out.sz)).trans hO2))
    clear hR2 hO2 hb2
    go_wp2_with fail
    go_ret
    refine ⟨rfl, ?_, HQ.out.2⟩
    intro s hs
    injection hs with hs
    subst hs
    exact HQ.out.1
theorem iRead (p r : Int) (B R : Nat) (O : Stk) (f : Option Fm) (w : World) (h : RdW p B R O f w) (hp : isP p = true) (hl : O.length ≤ 1000) (h0 : 0 ≤ r) :
    Calls Tryz.prog 41 #[.pointer (some ⟨R, 0, none⟩), .int .i32 r] w (ReadTo p B R (readR p (O, f) r) w) := by
  cases f with
  | some f => exact iRead_done p r B R O f w h
  | none =>
    by_cases h43 : r = 43
    · have e : readR p (O, none) r = some ((2, none) :: O, none) := by show (if r = 43 ∨ r = 42 then _ else _) = _; rw [if_pos (.inl h43), if_pos h43]
      rw [e]
      exact iRead_sign p r 2 B R O w h hl (.inl ⟨h43, rfl⟩)
    · by_cases h42 : r = 42
      · have e : readR p (O, none) r = some ((3, none) :: O, none) := by show (if r = 43 ∨ r = 42 then _ else _) = _; rw [if_pos (.inr h42), if_neg h43]
        rw [e]
        exact iRead_sign p r 3 B R O w h hl (.inr ⟨h42, rfl⟩)
      · exact iRead_leaf p r B R O w h hp h0 h43 h42
/-- the formula that a text is over a field, if it is not too long -/
def foF (p : Int) (s : ByteArray) : Option Fm := if isP p = true ∧ s.size ≤ 60 then formF p s.data.toList else none
theorem fokB_some (p : Int) (s : ByteArray) : fokB p s = (foF p s).isSome := by
  unfold fokB foF
  by_cases h1 : isP p = true <;> by_cases h2 : s.size ≤ 60 <;> simp [h1, h2]
theorem plcF_len : ∀ (O : Stk) (f : Fm), (plcF f O).1.length ≤ O.length
  | [], f => by simp [plcF]
  | (k, none) :: O, f => by simp [plcF]
  | (k, some g) :: O, f => by have := plcF_len O (.pair k g f); simp [plcF]; omega
theorem readB_len {p : Int} {O O' : Stk} {f f' : Option Fm} {c : UInt8} (h : readB p (O, f) c = some (O', f')) : O'.length ≤ O.length + 1 := by
  cases f with
  | some f => simp [readB] at h
  | none =>
    simp only [readB] at h
    split at h
    · injection h with h; injection h with h h2; subst h; simp
    · cases hl : leafB p c with
      | none => rw [hl] at h; simp at h
      | some r =>
        rw [hl] at h
        simp only at h
        injection h with h
        have e := plcF_len O (.leaf r.1 r.2)
        rw [show (plcF (.leaf r.1 r.2) O) = (O', f') from h] at e
        simpa using Nat.le_succ_of_le e
theorem RdW.new (p : Int) (w : World) (t : TypeId) (s : ByteArray) : RdW p (w.heap.size + 2) w.heap.size [] none ((w.alloc (Obj.cells #[.int .i64 p, .slice none 0 0, .nilIface] t)).iter s 0) := by
  have hb : Below (w.alloc (Obj.cells #[.int .i64 p, .slice none 0 0, .nilIface] t)).heap.size (w.alloc (Obj.cells #[.int .i64 p, .slice none 0 0, .nilIface] t)) ((w.alloc (Obj.cells #[.int .i64 p, .slice none 0 0, .nilIface] t)).iter s 0) := Below.alloc (Below.refl _ _) (Nat.le_refl _) _
  have hs : w.heap.size < (w.alloc (Obj.cells #[.int .i64 p, .slice none 0 0, .nilIface] t)).heap.size := by simp
  refine ⟨?_, ⟨_, ?_, StkR.nil _ _⟩, ?_, fun i => ?_, by omega, by simp [World.iter]⟩
  · rw [hb.cell (p := ⟨w.heap.size, 0, none⟩) hs]; simp [go_sem]
  · rw [hb.cell (p := ⟨w.heap.size, 1, none⟩) hs]; simp [go_sem]
  · rw [hb.cell (p := ⟨w.heap.size, 2, none⟩) hs]; simp [go_sem, optV]
  · rw [hb.frozen (p := ⟨w.heap.size, i, none⟩) hs]; exact World.frozen?_alloc_at _ _ _ i rfl
theorem RdW.iterAt {p : Int} {B R k : Nat} {O : Stk} {f : Option Fm} {w : World} (h : RdW p B R O f w) (hk : k < B) (hr : R < k) (s : ByteArray) (q : Nat) : RdW p B R O f (w.iterAt k s q) := by
  have hb : Below k w (w.iterAt k s q) := Lib.below_iterAt (Below.refl _ _) (Nat.le_refl _) s q
  obtain ⟨v, hv, hst⟩ := h.c1
  exact ⟨by rw [hb.cell (p := ⟨R, 0, none⟩) hr]; exact h.c0, ⟨v, by rw [hb.cell (p := ⟨R, 1, none⟩) hr]; exact hv, ownsRow_iterAt hst hk s q⟩, by rw [hb.cell (p := ⟨R, 2, none⟩) hr]; exact h.c2,
    fun i => by rw [hb.frozen (p := ⟨R, i, none⟩) hr]; exact h.fz i, h.RB, Nat.le_trans h.sz hb.size⟩
theorem drop_at {s : ByteArray} {i : Nat} (h : i < s.size) : s.data.toList.drop i = s[i] :: s.data.toList.drop (i + 1) := by
  rw [List.drop_eq_getElem_cons (show i < s.data.toList.length by rw [Array.length_toList]; exact h)]
  rfl
set_option maxRecDepth 100000 in
set_option maxHeartbeats 4000000 in
theorem iFormulaOf_some (p : Int) (s : ByteArray) (w : World) (hp : isP p = true) (hs : s.size ≤ 60) :
    Calls Tryz.prog 19 #[.int .i64 p, .string s] w fun e w' => e = .returned (optV (formF p s.data.toList)) ∧ Below w.heap.size w w' := by
  have HV := Lib.hid (fun w => (hp ▸ iPV p w : Calls Tryz.prog 38 #[.int .i64 p] w fun e w' => e = .returned (.bool true) ∧ w = w'))
  have HP := Lib.hid hp
  obtain ⟨Z, hZ⟩ : ∃ Z, Z = formF p s.data.toList := ⟨_, rfl⟩
  have HZ := Lib.hid (show wholeB (runB p s.data.toList ([], none)) = Z by rw [runB_whole, hZ])
  rw [← hZ]
  have hsi : (s.size : Int) ≤ 60 := by omega
  clear hp hZ
  go_enter Tryz.func19, Tryz.ntmps19
  go_wp2_with fail
  refine (HV.out _).mono ?_
  rintro e w' ⟨rfl, rfl⟩
  go_wp2_with fail
  have H0 := Lib.hid (RdW.new p w 80 s)
  have HI := Lib.hid (World.iter_heap (w.alloc (Obj.cells #[.int .i64 p, .slice none 0 0, .nilIface] 80)) s 0)
  have HB := Lib.hid (show Below w.heap.size w ((w.alloc (Obj.cells #[.int .i64 p, .slice none 0 0, .nilIface] 80)).iter s 0) from Below.alloc (Below.alloc (Below.refl _ _) (Nat.le_refl _) _) (by simp) _)
  rw [show (w.alloc (Obj.cells #[.int .i64 p, .slice none 0 0, .nilIface] 80)).heap.size = w.heap.size + 1 by simp] at HI
  generalize ((w.alloc (Obj.cells #[.int .i64 p, .slice none 0 0, .nilIface] 80)).iter s 0) = W at H0 HI HB ⊢
  obtain ⟨n, hn⟩ : ∃ n, n = w.heap.size := ⟨_, rfl⟩
  rw [← hn] at H0 HI HB ⊢
  have HN := Lib.hid hn
  clear hn
  go_loopw [7] (fun _ wr => ∃ (pos : Nat) (O : Stk) (f : Option Fm), wr.heap[n + 1]? = some (.stringIter s pos) ∧ RdW p (n + 2) n O f wr ∧ runB p (s.data.toList.drop pos) (O, f) = runB p s.data.toList ([], none) ∧ Below n w wr ∧ O.length ≤ pos ∧ pos ≤ s.size) (fun _ wr => s.size - wr.iterPos (n + 1))
  case atStart => exact ⟨0, [], none, HI.out, H0.out, by rw [List.drop_zero], HB.out, by simp, by omega⟩
  case round =>
    clear H0 HI HB
    obtain ⟨pos, O, f, hit, hR, hrun, hb, hol, hps⟩ := hrel
    have hpos0 := iterPos_of hit
    have HP0 := Lib.hid hpos0
    have HR := Lib.hid hR
    have HRUN := Lib.hid hrun
    have HB := Lib.hid hb
    by_cases hlt : pos < s.size
    · have hit2 := fun q => Lib.iterAt_heap wr (n + 1) s pos q hit
      have hR2 := fun q => hR.iterAt (k := n + 1) (by omega) (by omega) s q
      have hb2 := fun q => Lib.below_iterAt hb (k := n + 1) (by omega) s q
      have HIT := Lib.hid hit2
      have HR2 := Lib.hid hR2
      have HB2 := Lib.hid hb2
      clear hit2 hR2 hb2 hR hrun hb hpos0
      by_cases ha : (s[pos]'hlt).toNat < 128
      · have hnx : ∀ ty, (Instr.next (.pointer (some ⟨n + 1, 0, none⟩)) true ty).run Tryz.prog wr = _ := fun ty => Lib.run_next_ascii_at wr (n + 1) s pos ty hit hlt ha
        have HRD := Lib.hid (iRead p (((s[pos]'hlt).toNat : Nat) : Int) (n + 2) n O f (wr.iterAt (n + 1) s (pos + 1)) (HR2.out _) HP.out (by omega) (by omega))
        rw [readR_low ha] at HRD
        have hw1 : n + 1 < (wr.iterAt (n + 1) s (pos + 1)).heap.size := lt_of_block (HIT.out (pos + 1))
        obtain ⟨W1, hW1⟩ : ∃ W1, W1 = wr.iterAt (n + 1) s (pos + 1) := ⟨_, rfl⟩
        have HW1 := Lib.hid hW1
        rw [← hW1] at hnx HRD hw1
        obtain ⟨c, hc⟩ : ∃ c, c = s[pos]'hlt := ⟨_, rfl⟩
        rw [← hc] at hnx HRD
        have HC := Lib.hid (show s.data.toList.drop pos = c :: s.data.toList.drop (pos + 1) by rw [hc]; exact drop_at hlt)
        obtain ⟨o, ho⟩ : ∃ o, o = readB p (O, f) c := ⟨_, rfl⟩
        have HO := Lib.hid ho
        rw [← ho] at HRD
        clear hW1 hit ha hc ho
        go_wp2_with fail
        refine HRD.out.mono ?_
        rintro e w2 ⟨rfl, hs2, hO2⟩
        cases o with
        | none =>
          have e0 : Z = none := by
            rw [← HZ.out, ← HRUN.out, HC.out]
            simp only [runB, ← HO.out, wholeB]
          have HBB := Lib.hid ((HW1.out ▸ HB2.out (pos + 1) : Below n w W1).trans (hO2.low (by omega)))
          have E0 := Lib.hid e0
          clear e0 hs2 hO2
          simp only [Option.isSome]
          go_wp2_with fail
          go_ret
          exact ⟨by rw [E0.out]; rfl, HN.out ▸ HBB.out⟩
        | some x =>
          obtain ⟨O2, f2⟩ := x
          have hr2 := hs2 _ rfl
          have hln := readB_len HO.out.symm
          have hi2 : w2.heap[n + 1]? = some (.stringIter s (pos + 1)) := by
            rw [hO2.block (n + 1) (by omega) (by omega), HW1.out]
            exact HIT.out (pos + 1)
          have HQ := Lib.hid (show RdW p (n + 2) n O2 f2 w2 ∧ runB p (s.data.toList.drop (pos + 1)) (O2, f2) = runB p s.data.toList ([], none) ∧ Below n w w2 from
            ⟨hr2, by rw [← HRUN.out, HC.out]; simp only [runB, ← HO.out], (HW1.out ▸ HB2.out (pos + 1) : Below n w W1).trans (hO2.low (by omega))⟩)
          have HI2 := Lib.hid hi2
          clear hs2 hO2 hr2 hi2
          simp only [Option.isSome]
          go_wp2_with fail
          go_roundw
          case rel => exact ⟨pos + 1, O2, f2, HI2.out, HQ.out.1, HQ.out.2.1, HQ.out.2.2, by omega, by omega⟩
          case measure => rw [iterPos_of HI2.out, HP0.out]; omega
      · have hnx : ∀ ty, (Instr.next (.pointer (some ⟨n + 1, 0, none⟩)) true ty).run Tryz.prog wr = _ := fun ty => Lib.run_next_any_at wr (n + 1) s pos ty hit hlt
        have hd := decode_high s pos hlt (by omega)
        have HRD := Lib.hid (iRead p ((Utf8.decode s pos).1 : Int) (n + 2) n O f (wr.iterAt (n + 1) s (pos + (Utf8.decode s pos).2)) (HR2.out _) HP.out (by omega) (by omega))
        rw [readR_high (by omega)] at HRD
        obtain ⟨W1, hW1⟩ : ∃ W1, W1 = wr.iterAt (n + 1) s (pos + (Utf8.decode s pos).2) := ⟨_, rfl⟩
        have HBW := Lib.hid (hW1 ▸ HB2.out _ : Below n w W1)
        rw [← hW1] at hnx HRD
        have e0 : Z = none := by
          rw [← HZ.out, ← HRUN.out, drop_at hlt]
          simp only [runB, readB_high ha, wholeB]
        have E0 := Lib.hid e0
        clear hW1 hit ha hd e0
        go_wp2_with fail
        refine HRD.out.mono ?_
        rintro e w2 ⟨rfl, _, hO2⟩
        have HBB := Lib.hid (HBW.out.trans (hO2.low (by omega)))
        clear hO2
        simp only [Option.isSome]
        go_wp2_with fail
        go_ret
        exact ⟨by rw [E0.out]; rfl, HN.out ▸ HBB.out⟩
    · have hnx : ∀ ty, (Instr.next (.pointer (some ⟨n + 1, 0, none⟩)) true ty).run Tryz.prog wr = _ := fun ty => Lib.run_next_end_at wr (n + 1) s pos ty hit hlt
      have e0 : Z = f := by
        rw [← HZ.out, ← HRUN.out, List.drop_eq_nil_of_le (by rw [Array.length_toList]; exact Nat.le_of_not_lt hlt)]
        rfl
      have E0 := Lib.hid e0
      have hc2 := hR.c2
      obtain ⟨u, hu⟩ : ∃ u, u = optV f := ⟨_, rfl⟩
      rw [← hu] at hc2
      have HU := Lib.hid hu
      clear hit hR hrun hb hpos0 e0 hu
      go_wp2_with fail
      go_ret
      exact ⟨by rw [E0.out, ← HU.out]; rfl, HN.out ▸ HB.out⟩
set_option maxRecDepth 100000 in
set_option maxHeartbeats 4000000 in
theorem iFormulaOf (p : Int) (s : ByteArray) (w : World) :
    Calls Tryz.prog 19 #[.int .i64 p, .string s] w fun e w' => e = .returned (optV (foF p s)) ∧ Below w.heap.size w w' := by
  have HV := Lib.hid (iPV p)
  rcases Bool.eq_false_or_eq_true (isP p) with hp | hp
  · by_cases hs : s.size ≤ 60
    · have e : foF p s = formF p s.data.toList := by unfold foF; rw [if_pos ⟨hp, hs⟩]
      rw [e]
      exact iFormulaOf_some p s w hp hs
    · have e : foF p s = none := by unfold foF; rw [if_neg (fun h => hs h.2)]
      rw [e]
      rw [hp] at HV
      have hsi : ¬ (s.size : Int) ≤ 60 := by omega
      clear hp e
      go_enter Tryz.func19, Tryz.ntmps19
      go_wp2_with fail
      refine (HV.out _).mono ?_
      rintro e w' ⟨rfl, rfl⟩
      go_wp2_with fail
      go_ret
      exact ⟨rfl, Below.refl _ _⟩
  · have e : foF p s = none := by unfold foF; rw [if_neg (fun h => by rw [hp] at h; cases h.1)]
    rw [e]
    rw [hp] at HV
    clear hp e
    go_enter Tryz.func19, Tryz.ntmps19
    go_wp2_with fail
    refine (HV.out _).mono ?_
    rintro e w' ⟨rfl, rfl⟩
    go_wp2_with fail
    go_ret
    exact ⟨rfl, Below.refl _ _⟩
end Go.Proofs.YtoeghbcolpailaaGreat
namespace Go.Proofs.YtoeghbcolpailaaGreat
open Go.RowKit
set_option maxRecDepth 100000 in
set_option maxHeartbeats 4000000 in
theorem iFormulaValid (p : Int) (s : ByteArray) (w : World) :
    Calls Tryz.prog 7 #[.int .i64 p, .string s] w fun e w' => e = .returned (.bool (fokB p s)) ∧ Below w.heap.size w w' := by
  have HF := Lib.hid (iFormulaOf p s)
  rw [fokB_some]
  cases h : foF p s with
  | none =>
    rw [h] at HF
    clear h
    go_enter Tryz.func7, Tryz.ntmps7
    go_wp2_with fail
    refine (HF.out _).mono ?_
    rintro e w' ⟨rfl, hb⟩
    have HB := Lib.hid hb
    clear hb
    simp only [optV]
    go_wp2_with fail
    go_ret
    exact ⟨rfl, HB.out⟩
  | some f =>
    rw [h] at HF
    obtain ⟨ft, fv, hfe⟩ := fmV_is f
    have e : optV (some f) = .iface ft fv := hfe
    rw [e] at HF
    clear h e hfe
    go_enter Tryz.func7, Tryz.ntmps7
    go_wp2_with fail
    refine (HF.out _).mono ?_
    rintro e w' ⟨rfl, hb⟩
    have HB := Lib.hid hb
    clear hb
    go_wp2_with fail
    go_ret
    exact ⟨rfl, HB.out⟩
@[go_sem] theorem asLeaf_yes (W : World) (v : Value) : (Instr.typeAssert (.iface 73 v) 45 73 true).run Tryz.prog W = .ok (.tuple #[v, .bool true]) W := by kernel_rfl
@[go_sem] theorem asPair_yes (W : World) (v : Value) : (Instr.typeAssert (.iface 76 v) 45 76 true).run Tryz.prog W = .ok (.tuple #[v, .bool true]) W := by kernel_rfl
@[go_sem] theorem asLeaf_no (W : World) (v : Value) : (Instr.typeAssert (.iface 76 v) 45 73 true).run Tryz.prog W = .ok (.tuple #[.agg #[.int .i64 0, .int .i64 0, .int .i64 0], .bool false]) W := by kernel_rfl
@[go_sem] theorem asLeaf_nil (W : World) : (Instr.typeAssert .nilIface 45 73 true).run Tryz.prog W = .ok (.tuple #[.agg #[.int .i64 0, .int .i64 0, .int .i64 0], .bool false]) W := by kernel_rfl
@[go_sem] theorem asPair_nil (W : World) : (Instr.typeAssert .nilIface 45 76 true).run Tryz.prog W = .ok (.tuple #[.agg #[.int .i64 0, .nilIface, .nilIface], .bool false]) W := by kernel_rfl
set_option maxRecDepth 100000 in
set_option maxHeartbeats 4000000 in
theorem iLeavesNil (w : World) : Calls Tryz.prog 29 #[.nilIface] w fun e w' => e = .returned (.int .i64 (-1)) ∧ Below w.heap.size w w' := by
  go_enter Tryz.func29, Tryz.ntmps29
  go_wp2_with fail
  go_ret
  exact ⟨rfl, Below.refl _ _⟩
set_option maxRecDepth 100000 in
set_option maxHeartbeats 4000000 in
theorem iLeaves : ∀ (f : Fm) (w : World), leavesF f ≤ 1000 → Calls Tryz.prog 29 #[fmV f] w fun e w' => e = .returned (.int .i64 (leavesF f : Int)) ∧ Below w.heap.size w w'
  | .leaf k a, w, _ => by
    show Calls Tryz.prog 29 #[.iface 73 (.agg #[.int .i64 k, .int .i64 a, .int .i64 0])] w fun e w' => e = .returned (.int .i64 1) ∧ Below w.heap.size w w'
    go_enter Tryz.func29, Tryz.ntmps29
    go_wp2_with fail
    go_ret
    exact ⟨rfl, Below.alloc (Below.refl _ _) (Nat.le_refl _) _⟩
  | .pair k f g, w, hl => by
    have hl' : leavesF f + leavesF g ≤ 1000 := hl
    have HF := Lib.hid (fun w => iLeaves f w (by omega))
    have HG := Lib.hid (fun w => iLeaves g w (by omega))
    show Calls Tryz.prog 29 #[.iface 76 (.agg #[.int .i64 k, fmV f, fmV g])] w fun e w' => e = .returned (.int .i64 ((leavesF f + leavesF g : Nat) : Int)) ∧ Below w.heap.size w w'
    obtain ⟨a, ha⟩ : ∃ a, a = leavesF f := ⟨_, rfl⟩
    obtain ⟨b, hb⟩ : ∃ b, b = leavesF g := ⟨_, rfl⟩
    obtain ⟨ft, fv, hfe⟩ := fmV_is f
    obtain ⟨gt, gv, hge⟩ := fmV_is g
    rw [← ha, hfe] at HF
    rw [← hb, hge] at HG
    rw [← ha, ← hb, hfe, hge]
    rw [← ha, ← hb] at hl'
    have hw : IntKind.i64.wrap ((a : Int) + (b : Int)) = (a : Int) + (b : Int) := IntWalk.i64_in _ (by omega)
    clear ha hb hfe hge hl
    go_enter Tryz.func29, Tryz.ntmps29
    go_wp2_with fail
    obtain ⟨W, hW⟩ : ∃ W, W = w.alloc (Obj.cells #[.int .i64 k, .iface ft fv, .iface gt gv] 76) := ⟨_, rfl⟩
    have HC := Lib.hid (fun w' (hb : Below W.heap.size W w') => show w'.cell? ⟨w.heap.size, 1, none⟩ = some (.iface ft fv) ∧ w'.cell? ⟨w.heap.size, 2, none⟩ = some (.iface gt gv) by
      have hs : w.heap.size < W.heap.size := by rw [hW]; simp
      exact ⟨by rw [hb.cell (p := ⟨w.heap.size, 1, none⟩) hs, hW]; simp [go_sem], by rw [hb.cell (p := ⟨w.heap.size, 2, none⟩) hs, hW]; simp [go_sem]⟩)
    have HB := Lib.hid (show Below w.heap.size w W by rw [hW]; exact Below.alloc (Below.refl _ _) (Nat.le_refl _) _)
    rw [← hW]
    clear hW
    refine wp_region_below (by kernel_rfl) (by kernel_rfl) ?_
    (with_reducible refine wpQuiet_yes ?_ ?_; (focus (kernel_rfl)); intro K hK; go_simp; refine ⟨_, fun _ _ => rfl, ?_⟩; with_reducible refine hK _ ?_; clear hK K)
    (with_reducible refine wpQuiet_yes ?_ ?_; (focus (kernel_rfl)); intro K hK; go_simp; refine ⟨(.iface ft fv), ?_, ?_⟩; rotate_left; with_reducible refine hK _ ?_; clear hK K; rotate_left)
    · intro w' hw
      obtain ⟨c1, c2⟩ := HC.out w' hw
      simp only [c1, go_sem, Result.andThen, and_self]
    (with_reducible refine wpQuiet_yes ?_ ?_; (focus (kernel_rfl)); intro K hK; go_simp; refine ⟨(.int .i64 a), ?_, ?_⟩; rotate_left; with_reducible refine hK _ ?_; clear hK K; rotate_left)
    · intro w' hw
      exact (HF.out w').mono fun e w'' ⟨he, h⟩ => ⟨he, hw.trans (h.mono hw.size)⟩
    (with_reducible refine wpQuiet_yes ?_ ?_; (focus (kernel_rfl)); intro K hK; go_simp; refine ⟨_, fun _ _ => rfl, ?_⟩; with_reducible refine hK _ ?_; clear hK K)
    (with_reducible refine wpQuiet_yes ?_ ?_; (focus (kernel_rfl)); intro K hK; go_simp; refine ⟨(.iface gt gv), ?_, ?_⟩; rotate_left; with_reducible refine hK _ ?_; clear hK K; rotate_left)
    · intro w' hw
      obtain ⟨c1, c2⟩ := HC.out w' hw
      simp only [c2, go_sem, Result.andThen, and_self]
    (with_reducible refine wpQuiet_yes ?_ ?_; (focus (kernel_rfl)); intro K hK; go_simp; refine ⟨(.int .i64 b), ?_, ?_⟩; rotate_left; with_reducible refine hK _ ?_; clear hK K; rotate_left)
    · intro w' hw
      exact (HG.out w').mono fun e w'' ⟨he, h⟩ => ⟨he, hw.trans (h.mono hw.size)⟩
    (with_reducible refine wpQuiet_yes ?_ ?_; (focus (kernel_rfl)); intro K hK; go_simp; refine ⟨_, fun _ _ => rfl, ?_⟩; with_reducible refine hK _ ?_; clear hK K)
    (with_reducible refine wpQuiet_yes ?_ ?_; (focus (kernel_rfl)); intro K hK; go_simp; refine ⟨_, fun _ _ => rfl, ?_⟩; with_reducible refine hK _ ?_; clear hK K)
    refine wpQuiet_nil fun w2 hb2 => ?_
    have HB2 := Lib.hid (HB.out.trans (hb2.mono HB.out.size))
    clear hb2
    simp only [Exit.then]
    go_wp2_with fail
    go_ret
    exact ⟨by first | rfl | simp, HB2.out⟩
/-- what LeavesOf returns -/
def lvsV (p : Int) (s : ByteArray) : Int := match foF p s with
  | none => -1
  | some f => (leavesF f : Int)
theorem foF_some {p : Int} {s : ByteArray} {f : Fm} (h : foF p s = some f) : isP p = true ∧ s.size ≤ 60 ∧ formF p s.data.toList = some f := by
  unfold foF at h
  split at h
  · rename_i hc; exact ⟨hc.1, hc.2, h⟩
  · cases h
theorem foF_leaves {p : Int} {s : ByteArray} {f : Fm} (h : foF p s = some f) : leavesF f ≤ 60 := by
  obtain ⟨_, hs, hf⟩ := foF_some h
  rw [← formF_leaves hf]
  exact Nat.le_trans (List.length_filter_le _ _) (by rw [Array.length_toList]; exact hs)
set_option maxRecDepth 100000 in
set_option maxHeartbeats 4000000 in
theorem iLeavesOf (p : Int) (s : ByteArray) (w : World) :
    Calls Tryz.prog 13 #[.int .i64 p, .string s] w fun e w' => e = .returned (.int .i64 (lvsV p s)) ∧ Below w.heap.size w w' := by
  have HF := Lib.hid (iFormulaOf p s)
  have HL := Lib.hid (fun w => show Calls Tryz.prog 29 #[optV (foF p s)] w fun e w' => e = .returned (.int .i64 (lvsV p s)) ∧ Below w.heap.size w w' by
    unfold lvsV
    cases h : foF p s with
    | none => exact iLeavesNil w
    | some f => exact iLeaves f w (by have := foF_leaves h; omega))
  obtain ⟨u, hu⟩ : ∃ u, u = optV (foF p s) := ⟨_, rfl⟩
  obtain ⟨r, hr⟩ : ∃ r, r = lvsV p s := ⟨_, rfl⟩
  rw [← hu] at HF HL
  rw [← hr] at HL ⊢
  clear hu hr
  go_enter Tryz.func13, Tryz.ntmps13
  go_wp2_with fail
  refine (HF.out _).mono ?_
  rintro e w1 ⟨rfl, hb1⟩
  have HB := Lib.hid hb1
  clear hb1
  go_wp2_with fail
  refine (HL.out _).mono ?_
  rintro e w2 ⟨rfl, hb2⟩
  have HB2 := Lib.hid (HB.out.trans (hb2.mono HB.out.size))
  clear hb2
  go_wp2_with fail
  go_ret
  exact ⟨rfl, HB2.out⟩
end Go.Proofs.YtoeghbcolpailaaGreat
