/-
  Contracts of the program's reader of formulas: read, formulaOf. Conditions: as in place.
-/
import Derived.Test.YtiahcaihmgnicaaFrR
namespace Go.Proofs.Ytiahcaihmgnicaa
open Go.RowKit
/-- the next sign is taken, as a number of a range over a text -/
def readR (p : Int) (s : Stk × Option Fm) (r : Int) : Option (Stk × Option Fm) := match s with
  | (_, some _) => none
  | (O, none) => if r = 43 ∨ r = 42 then some ((if r = 43 then 2 else 3, none) :: O, none) else match leafR p r with
    | none => none
    | some (k, a) => some (plcF (.leaf k a) O)
theorem readR_low {p : Int} {s : Stk × Option Fm} {c : UInt8} (h : c.toNat < 128) : readR p s (c.toNat : Int) = readB p s c := by
  obtain ⟨O, f⟩ := s
  cases f with
  | some f => rfl
  | none =>
    have e1 : leafR p (c.toNat : Int) = leafB p c := by
      unfold leafR
      rw [if_pos (by omega)]
      simp
    have e43 : ((c.toNat : Int) = 43) ↔ c = 43 := by
      constructor
      · intro h
        exact UInt8.toNat_inj.1 (by simpa using (show c.toNat = 43 by omega))
      · rintro rfl; rfl
    have e42 : ((c.toNat : Int) = 42) ↔ c = 42 := by
      constructor
      · intro h
        exact UInt8.toNat_inj.1 (by simpa using (show c.toNat = 42 by omega))
      · rintro rfl; rfl
    simp only [readR, readB, signB, kindB, e1, e43, e42, Bool.or_eq_true, beq_iff_eq]
    rfl
theorem readR_high {p : Int} {s : Stk × Option Fm} {r : Int} (h : 128 ≤ r) : readR p s r = none := by
  obtain ⟨O, f⟩ := s
  cases f with
  | some f => rfl
  | none =>
    have e1 : leafR p r = none := by
      unfold leafR
      rw [if_neg (by omega)]
    simp only [readR, e1]
    rw [if_neg (by omega)]
theorem readB_high {p : Int} {s : Stk × Option Fm} {c : UInt8} (h : ¬ c.toNat < 128) : readB p s c = none := by
  obtain ⟨O, f⟩ := s
  cases f with
  | some f => rfl
  | none =>
    have hs : signB c = false := by
      cases e : signB c with
      | false => rfl
      | true => exact absurd (signB_ascii e) h
    simp only [readB, hs, leafB_high h, Bool.false_eq_true, if_false]
theorem infoPair : (Try.prog.info? 159).map (fun i => (i.zero, i.size, i.bytes)) = some (some (.agg #[.int .i64 0, .nilIface, .nilIface]), 3, 40) := by kernel_rfl
/-- what read leaves -/
def ReadTo (p : Int) (B R : Nat) (o : Option (Stk × Option Fm)) (w : World) (e : Ending) (w' : World) : Prop :=
  e = .returned (.bool o.isSome) ∧ (∀ s, o = some s → RdW p B R s.1 s.2 w') ∧ Only R B w w'
set_option maxRecDepth 100000 in
set_option maxHeartbeats 4000000 in
theorem iRead_done (p r : Int) (B R : Nat) (O : Stk) (f : Fm) (w : World) (h : RdW p B R O (some f) w) :
    Calls Try.prog 135 #[.pointer (some ⟨R, 0, none⟩), .int .i32 r] w (ReadTo p B R none w) := by
  obtain ⟨ft, fv, hfe⟩ := fmV_is f
  have hc : w.cell? ⟨R, 2, none⟩ = some (.iface ft fv) := by rw [← hfe]; exact h.c2
  clear h hfe
  go_enter Try.func135, Try.ntmps135
  go_wp2_with fail
  go_ret
  refine ⟨rfl, ?_, Only.refl _ _ _⟩
  intro s hs
  cases hs
set_option maxRecDepth 100000 in
set_option maxHeartbeats 4000000 in
theorem iRead_sign (p r k : Int) (B R : Nat) (O : Stk) (w : World) (h : RdW p B R O none w) (hl : O.length ≤ 1000) (hr : (r = 43 ∧ k = 2) ∨ (r = 42 ∧ k = 3)) :
    Calls Try.prog 135 #[.pointer (some ⟨R, 0, none⟩), .int .i32 r] w (ReadTo p B R (some ((k, none) :: O, none)) w) := by
  obtain ⟨i0, hi, hz0, hz1, hz2⟩ := info_parts infoPair
  obtain ⟨a, cap, hc1, hst, _, hsh⟩ := h.shape
  have hc2 : w.cell? ⟨R, 2, none⟩ = some .nilIface := h.c2
  have HR := Lib.hid h
  have HT := Lib.hid hst
  have fz1 := h.fz 1
  have hRw : R < w.heap.size := Nat.lt_of_lt_of_le h.RB h.sz
  have hBw := h.sz
  clear h hst hsh
  go_enter Try.func135, Try.ntmps135
  rcases hr with ⟨rfl, rfl⟩ | ⟨rfl, rfl⟩
  · go_wp2_with (at_builtin; refine wpList_append_own _ rfl _ _ 150 rfl B 159 i0 (.agg #[.int .i64 0, .nilIface, .nilIface]) 3 40 Try.underlying150 hi hz0 hz1 hz2 rfl (by decide) _ _ _ rfl (HT.out.below (Below.alloc (Below.refl _ _) (Nat.le_refl _) _)) ⟨w.heap.size, 0, none⟩ 1 1 [.int .i64 2, .nilIface, .nilIface] rfl rfl (by intro j u hj; match j, hj with | 0, hj => (simp at hj; subst hj; simp [Addr.add, go_sem]) | 1, hj => (simp at hj; subst hj; simp [Addr.add, go_sem]) | 2, hj => (simp at hj; subst hj; simp [Addr.add, go_sem])) (pair_ok 2 .nilIface .nilIface rfl rfl) (by unfold maxLen; omega) (by omega) (by simp; omega) ?_)
    intro v' w2 hown' hgrow hnil
    obtain ⟨a2, c2, rfl⟩ : ∃ a2 c2, v' = .slice a2 (O.length + 1) c2 := by
      rcases (StkR.push (k := 2) hown').shape with ⟨_, h⟩ | ⟨g, c, h, _⟩
      · cases h
      · exact ⟨_, _, h⟩
    have hb2 : Below B w w2 := Below.grown ((Below.refl B w).alloc hBw _) hgrow (by simp; omega) (fun j hj => (World.ownsRow.lt HT.out _ hj).1)
    have HQ := Lib.hid (show RdW p B R ((2, none) :: O) none (w2.setCell ⟨R, 1, none⟩ (.slice a2 (O.length + 1) c2)) from HR.out.open1 (Only.of_below hb2) (fun i => hb2.cell (p := ⟨R, i, none⟩) HR.out.RB) (fun i => hb2.frozen (p := ⟨R, i, none⟩) HR.out.RB) (StkR.push hown'))
    have HQ2 := Lib.hid (show Only R B w (w2.setCell ⟨R, 1, none⟩ (.slice a2 (O.length + 1) c2)) from Only.set (p := ⟨R, 1, none⟩) (Only.of_below hb2) (.inl rfl) _)
    have hc1' : w2.cell? ⟨R, 1, none⟩ = some (.slice a O.length cap) := by rw [hb2.cell (p := ⟨R, 1, none⟩) HR.out.RB]; exact hc1
    have fz1' : w2.frozen? ⟨R, 1, none⟩ = false := by rw [hb2.frozen (p := ⟨R, 1, none⟩) HR.out.RB]; exact fz1
    clear hown' hgrow hnil hb2
    go_wp2_with fail
    go_ret
    refine ⟨rfl, ?_, HQ2.out⟩
    intro s hs
    injection hs with hs
    subst hs
    exact HQ.out
  · go_wp2_with (at_builtin; refine wpList_append_own _ rfl _ _ 150 rfl B 159 i0 (.agg #[.int .i64 0, .nilIface, .nilIface]) 3 40 Try.underlying150 hi hz0 hz1 hz2 rfl (by decide) _ _ _ rfl (HT.out.below (Below.alloc (Below.refl _ _) (Nat.le_refl _) _)) ⟨w.heap.size, 0, none⟩ 1 1 [.int .i64 3, .nilIface, .nilIface] rfl rfl (by intro j u hj; match j, hj with | 0, hj => (simp at hj; subst hj; simp [Addr.add, go_sem]) | 1, hj => (simp at hj; subst hj; simp [Addr.add, go_sem]) | 2, hj => (simp at hj; subst hj; simp [Addr.add, go_sem])) (pair_ok 3 .nilIface .nilIface rfl rfl) (by unfold maxLen; omega) (by omega) (by simp; omega) ?_)
    intro v' w2 hown' hgrow hnil
    obtain ⟨a2, c2, rfl⟩ : ∃ a2 c2, v' = .slice a2 (O.length + 1) c2 := by
      rcases (StkR.push (k := 3) hown').shape with ⟨_, h⟩ | ⟨g, c, h, _⟩
      · cases h
      · exact ⟨_, _, h⟩
    have hb2 : Below B w w2 := Below.grown ((Below.refl B w).alloc hBw _) hgrow (by simp; omega) (fun j hj => (World.ownsRow.lt HT.out _ hj).1)
    have HQ := Lib.hid (show RdW p B R ((3, none) :: O) none (w2.setCell ⟨R, 1, none⟩ (.slice a2 (O.length + 1) c2)) from HR.out.open1 (Only.of_below hb2) (fun i => hb2.cell (p := ⟨R, i, none⟩) HR.out.RB) (fun i => hb2.frozen (p := ⟨R, i, none⟩) HR.out.RB) (StkR.push hown'))
    have HQ2 := Lib.hid (show Only R B w (w2.setCell ⟨R, 1, none⟩ (.slice a2 (O.length + 1) c2)) from Only.set (p := ⟨R, 1, none⟩) (Only.of_below hb2) (.inl rfl) _)
    have hc1' : w2.cell? ⟨R, 1, none⟩ = some (.slice a O.length cap) := by rw [hb2.cell (p := ⟨R, 1, none⟩) HR.out.RB]; exact hc1
    have fz1' : w2.frozen? ⟨R, 1, none⟩ = false := by rw [hb2.frozen (p := ⟨R, 1, none⟩) HR.out.RB]; exact fz1
    clear hown' hgrow hnil hb2
    go_wp2_with fail
    go_ret
    refine ⟨rfl, ?_, HQ2.out⟩
    intro s hs
    injection hs with hs
    subst hs
    exact HQ.out
set_option maxRecDepth 100000 in
set_option maxHeartbeats 4000000 in
theorem iRead_leaf (p r : Int) (B R : Nat) (O : Stk) (w : World) (h : RdW p B R O none w) (hp : isP p = true) (h0 : 0 ≤ r) (h43 : ¬ r = 43) (h42 : ¬ r = 42) :
    Calls Try.prog 135 #[.pointer (some ⟨R, 0, none⟩), .int .i32 r] w (ReadTo p B R (readR p (O, none) r) w) := by
  have HL := Lib.hid (fun w => iLeaf p r w hp h0)
  have HR := Lib.hid h
  have hc0 := h.c0
  have hc2 : w.cell? ⟨R, 2, none⟩ = some .nilIface := h.c2
  have hRw : R < w.heap.size := Nat.lt_of_lt_of_le h.RB h.sz
  have hE : readR p (O, none) r = match leafR p r with
    | none => none
    | some (k, a) => some (plcF (.leaf k a) O) := by
    show (if r = 43 ∨ r = 42 then _ else _) = _
    rw [if_neg (by omega)]
  rw [hE]
  clear h hE
  obtain ⟨o, ho⟩ : ∃ o, o = leafR p r := ⟨_, rfl⟩
  rw [← ho] at HL ⊢
  clear ho
  go_enter Try.func135, Try.ntmps135
  go_wp2_with fail
  refine (HL.out _).mono ?_
  rintro e w1 ⟨k, a, rfl, hx, hb1⟩
  cases o with
  | none =>
    have HB := Lib.hid hb1
    clear hb1 hx
    simp only [Option.isSome]
    go_wp2_with fail
    go_ret
    refine ⟨rfl, ?_, Only.of_below (Below.alloc (HB.out.mono HR.out.sz) (Nat.le_trans HR.out.sz HB.out.size) _)⟩
    intro s hs
    cases hs
  | some x =>
    obtain rfl := hx x rfl
    have HB := Lib.hid hb1
    clear hb1 hx
    simp only [Option.isSome]
    go_wp2_with fail
    have hb2 : Below w.heap.size w (w1.alloc (Obj.cells #[.int .i64 k, .int .i64 a, .int .i64 0] 156)) := Below.alloc HB.out HB.out.size _
    refine (iPlace p B R (.leaf k a) O _ (HR.out.below hb2)).mono ?_
    rintro e w2 ⟨rfl, hR2, hO2⟩
    have HQ := Lib.hid (And.intro hR2 ((Only.of_below (R := R) (hb2.mono HR.out.sz)).trans hO2))
    clear hR2 hO2 hb2
    go_wp2_with fail
    go_ret
    refine ⟨rfl, ?_, HQ.out.2⟩
    intro s hs
    injection hs with hs
    subst hs
    exact HQ.out.1
theorem iRead (p r : Int) (B R : Nat) (O : Stk) (f : Option Fm) (w : World) (h : RdW p B R O f w) (hp : isP p = true) (hl : O.length ≤ 1000) (h0 : 0 ≤ r) :
    Calls Try.prog 135 #[.pointer (some ⟨R, 0, none⟩), .int .i32 r] w (ReadTo p B R (readR p (O, f) r) w) := by
  cases f with
  | some f => exact iRead_done p r B R O f w h
  | none =>
    by_cases h43 : r = 43
    · have e : readR p (O, none) r = some ((2, none) :: O, none) := by show (if r = 43 ∨ r = 42 then _ else _) = _; rw [if_pos (.inl h43), if_pos h43]
      rw [e]
      exact iRead_sign p r 2 B R O w h hl (.inl ⟨h43, rfl⟩)
    · by_cases h42 : r = 42
      · have e : readR p (O, none) r = some ((3, none) :: O, none) := by show (if r = 43 ∨ r = 42 then _ else _) = _; rw [if_pos (.inr h42), if_neg h43]
        rw [e]
        exact iRead_sign p r 3 B R O w h hl (.inr ⟨h42, rfl⟩)
      · exact iRead_leaf p r B R O w h hp h0 h43 h42
/-- the formula that a text is over a field, if it is not too long -/
def foF (p : Int) (s : ByteArray) : Option Fm := if isP p = true ∧ s.size ≤ 60 then formF p s.data.toList else none
theorem fokB_some (p : Int) (s : ByteArray) : fokB p s = (foF p s).isSome := by
  unfold fokB foF
  by_cases h1 : isP p = true <;> by_cases h2 : s.size ≤ 60 <;> simp [h1, h2]
theorem plcF_len : ∀ (O : Stk) (f : Fm), (plcF f O).1.length ≤ O.length
  | [], f => by simp [plcF]
  | (k, none) :: O, f => by simp [plcF]
  | (k, some g) :: O, f => by have := plcF_len O (.pair k g f); simp [plcF]; omega
theorem readB_len {p : Int} {O O' : Stk} {f f' : Option Fm} {c : UInt8} (h : readB p (O, f) c = some (O', f')) : O'.length ≤ O.length + 1 := by
  cases f with
  | some f => simp [readB] at h
  | none =>
    simp only [readB] at h
    split at h
    · injection h with h; injection h with h h2; subst h; simp
    · cases hl : leafB p c with
      | none => rw [hl] at h; simp at h
      | some r =>
        rw [hl] at h
        simp only at h
        injection h with h
        have e := plcF_len O (.leaf r.1 r.2)
        rw [show (plcF (.leaf r.1 r.2) O) = (O', f') from h] at e
        simpa using Nat.le_succ_of_le e
theorem RdW.new (p : Int) (w : World) (t : TypeId) (s : ByteArray) : RdW p (w.heap.size + 2) w.heap.size [] none ((w.alloc (Obj.cells #[.int .i64 p, .slice none 0 0, .nilIface] t)).iter s 0) := by
  have hb : Below (w.alloc (Obj.cells #[.int .i64 p, .slice none 0 0, .nilIface] t)).heap.size (w.alloc (Obj.cells #[.int .i64 p, .slice none 0 0, .nilIface] t)) ((w.alloc (Obj.cells #[.int .i64 p, .slice none 0 0, .nilIface] t)).iter s 0) := Below.alloc (Below.refl _ _) (Nat.le_refl _) _
  have hs : w.heap.size < (w.alloc (Obj.cells #[.int .i64 p, .slice none 0 0, .nilIface] t)).heap.size := by simp
  refine ⟨?_, ⟨_, ?_, StkR.nil _ _⟩, ?_, fun i => ?_, by omega, by simp [World.iter]⟩
  · rw [hb.cell (p := ⟨w.heap.size, 0, none⟩) hs]; simp [go_sem]
  · rw [hb.cell (p := ⟨w.heap.size, 1, none⟩) hs]; simp [go_sem]
  · rw [hb.cell (p := ⟨w.heap.size, 2, none⟩) hs]; simp [go_sem, optV]
  · rw [hb.frozen (p := ⟨w.heap.size, i, none⟩) hs]; exact World.frozen?_alloc_at _ _ _ i rfl
theorem RdW.iterAt {p : Int} {B R k : Nat} {O : Stk} {f : Option Fm} {w : World} (h : RdW p B R O f w) (hk : k < B) (hr : R < k) (s : ByteArray) (q : Nat) : RdW p B R O f (w.iterAt k s q) := by
  have hb : Below k w (w.iterAt k s q) := Lib.below_iterAt (Below.refl _ _) (Nat.le_refl _) s q
  obtain ⟨v, hv, hst⟩ := h.c1
  exact ⟨by rw [hb.cell (p := ⟨R, 0, none⟩) hr]; exact h.c0, ⟨v, by rw [hb.cell (p := ⟨R, 1, none⟩) hr]; exact hv, ownsRow_iterAt hst hk s q⟩, by rw [hb.cell (p := ⟨R, 2, none⟩) hr]; exact h.c2,
    fun i => by rw [hb.frozen (p := ⟨R, i, none⟩) hr]; exact h.fz i, h.RB, Nat.le_trans h.sz hb.size⟩
theorem drop_at {s : ByteArray} {i : Nat} (h : i < s.size) : s.data.toList.drop i = s[i] :: s.data.toList.drop (i + 1) := by
  rw [List.drop_eq_getElem_cons (show i < s.data.toList.length by rw [Array.length_toList]; exact h)]
  rfl
set_option maxRecDepth 100000 in
set_option maxHeartbeats 4000000 in
theorem iFormulaOf_some (p : Int) (s : ByteArray) (w : World) (hp : isP p = true) (hs : s.size ≤ 60) :
    Calls Try.prog 101 #[.int .i64 p, .string s] w fun e w' => e = .returned (optV (formF p s.data.toList)) ∧ Below w.heap.size w w' := by
  have HV := Lib.hid (fun w => (hp ▸ iPV p w : Calls Try.prog 66 #[.int .i64 p] w fun e w' => e = .returned (.bool true) ∧ w = w'))
  have HP := Lib.hid hp
  obtain ⟨Z, hZ⟩ : ∃ Z, Z = formF p s.data.toList := ⟨_, rfl⟩
  have HZ := Lib.hid (show wholeB (runB p s.data.toList ([], none)) = Z by rw [runB_whole, hZ])
  rw [← hZ]
  have hsi : (s.size : Int) ≤ 60 := by omega
  clear hp hZ
  go_enter Try.func101, Try.ntmps101
  go_wp2_with fail
  refine (HV.out _).mono ?_
  rintro e w' ⟨rfl, rfl⟩
  go_wp2_with fail
  have H0 := Lib.hid (RdW.new p w 152 s)
  have HI := Lib.hid (World.iter_heap (w.alloc (Obj.cells #[.int .i64 p, .slice none 0 0, .nilIface] 152)) s 0)
  have HB := Lib.hid (show Below w.heap.size w ((w.alloc (Obj.cells #[.int .i64 p, .slice none 0 0, .nilIface] 152)).iter s 0) from Below.alloc (Below.alloc (Below.refl _ _) (Nat.le_refl _) _) (by simp) _)
  rw [show (w.alloc (Obj.cells #[.int .i64 p, .slice none 0 0, .nilIface] 152)).heap.size = w.heap.size + 1 by simp] at HI
  generalize ((w.alloc (Obj.cells #[.int .i64 p, .slice none 0 0, .nilIface] 152)).iter s 0) = W at H0 HI HB ⊢
  obtain ⟨n, hn⟩ : ∃ n, n = w.heap.size := ⟨_, rfl⟩
  rw [← hn] at H0 HI HB ⊢
  have HN := Lib.hid hn
  clear hn
  go_loopw [7] (fun _ wr => ∃ (pos : Nat) (O : Stk) (f : Option Fm), wr.heap[n + 1]? = some (.stringIter s pos) ∧ RdW p (n + 2) n O f wr ∧ runB p (s.data.toList.drop pos) (O, f) = runB p s.data.toList ([], none) ∧ Below n w wr ∧ O.length ≤ pos ∧ pos ≤ s.size) (fun _ wr => s.size - wr.iterPos (n + 1))
  case atStart => exact ⟨0, [], none, HI.out, H0.out, by rw [List.drop_zero], HB.out, by simp, by omega⟩
  case round =>
    clear H0 HI HB
    obtain ⟨pos, O, f, hit, hR, hrun, hb, hol, hps⟩ := hrel
    have hpos0 := iterPos_of hit
    have HP0 := Lib.hid hpos0
    have HR := Lib.hid hR
    have HRUN := Lib.hid hrun
    have HB := Lib.hid hb
    by_cases hlt : pos < s.size
    · have hit2 := fun q => Lib.iterAt_heap wr (n + 1) s pos q hit
      have hR2 := fun q => hR.iterAt (k := n + 1) (by omega) (by omega) s q
      have hb2 := fun q => Lib.below_iterAt hb (k := n + 1) (by omega) s q
      have HIT := Lib.hid hit2
      have HR2 := Lib.hid hR2
      have HB2 := Lib.hid hb2
      clear hit2 hR2 hb2 hR hrun hb hpos0
      by_cases ha : (s[pos]'hlt).toNat < 128
      · have hnx : ∀ ty, (Instr.next (.pointer (some ⟨n + 1, 0, none⟩)) true ty).run Try.prog wr = _ := fun ty => Lib.run_next_ascii_at wr (n + 1) s pos ty hit hlt ha
        have HRD := Lib.hid (iRead p (((s[pos]'hlt).toNat : Nat) : Int) (n + 2) n O f (wr.iterAt (n + 1) s (pos + 1)) (HR2.out _) HP.out (by omega) (by omega))
        rw [readR_low ha] at HRD
        have hw1 : n + 1 < (wr.iterAt (n + 1) s (pos + 1)).heap.size := lt_of_block (HIT.out (pos + 1))
        obtain ⟨W1, hW1⟩ : ∃ W1, W1 = wr.iterAt (n + 1) s (pos + 1) := ⟨_, rfl⟩
        have HW1 := Lib.hid hW1
        rw [← hW1] at hnx HRD hw1
        obtain ⟨c, hc⟩ : ∃ c, c = s[pos]'hlt := ⟨_, rfl⟩
        rw [← hc] at hnx HRD
        have HC := Lib.hid (show s.data.toList.drop pos = c :: s.data.toList.drop (pos + 1) by rw [hc]; exact drop_at hlt)
        obtain ⟨o, ho⟩ : ∃ o, o = readB p (O, f) c := ⟨_, rfl⟩
        have HO := Lib.hid ho
        rw [← ho] at HRD
        clear hW1 hit ha hc ho
        go_wp2_with fail
        refine HRD.out.mono ?_
        rintro e w2 ⟨rfl, hs2, hO2⟩
        cases o with
        | none =>
          have e0 : Z = none := by
            rw [← HZ.out, ← HRUN.out, HC.out]
            simp only [runB, ← HO.out, wholeB]
          have HBB := Lib.hid ((HW1.out ▸ HB2.out (pos + 1) : Below n w W1).trans (hO2.low (by omega)))
          have E0 := Lib.hid e0
          clear e0 hs2 hO2
          simp only [Option.isSome]
          go_wp2_with fail
          go_ret
          exact ⟨by rw [E0.out]; rfl, HN.out ▸ HBB.out⟩
        | some x =>
          obtain ⟨O2, f2⟩ := x
          have hr2 := hs2 _ rfl
          have hln := readB_len HO.out.symm
          have hi2 : w2.heap[n + 1]? = some (.stringIter s (pos + 1)) := by
            rw [hO2.block (n + 1) (by omega) (by omega), HW1.out]
            exact HIT.out (pos + 1)
          have HQ := Lib.hid (show RdW p (n + 2) n O2 f2 w2 ∧ runB p (s.data.toList.drop (pos + 1)) (O2, f2) = runB p s.data.toList ([], none) ∧ Below n w w2 from
            ⟨hr2, by rw [← HRUN.out, HC.out]; simp only [runB, ← HO.out], (HW1.out ▸ HB2.out (pos + 1) : Below n w W1).trans (hO2.low (by omega))⟩)
          have HI2 := Lib.hid hi2
          clear hs2 hO2 hr2 hi2
          simp only [Option.isSome]
          go_wp2_with fail
          go_roundw
          case rel => exact ⟨pos + 1, O2, f2, HI2.out, HQ.out.1, HQ.out.2.1, HQ.out.2.2, by omega, by omega⟩
          case measure => rw [iterPos_of HI2.out, HP0.out]; omega
      · have hnx : ∀ ty, (Instr.next (.pointer (some ⟨n + 1, 0, none⟩)) true ty).run Try.prog wr = _ := fun ty => Lib.run_next_any_at wr (n + 1) s pos ty hit hlt
        have hd := decode_high s pos hlt (by omega)
        have HRD := Lib.hid (iRead p ((Utf8.decode s pos).1 : Int) (n + 2) n O f (wr.iterAt (n + 1) s (pos + (Utf8.decode s pos).2)) (HR2.out _) HP.out (by omega) (by omega))
        rw [readR_high (by omega)] at HRD
        obtain ⟨W1, hW1⟩ : ∃ W1, W1 = wr.iterAt (n + 1) s (pos + (Utf8.decode s pos).2) := ⟨_, rfl⟩
        have HBW := Lib.hid (hW1 ▸ HB2.out _ : Below n w W1)
        rw [← hW1] at hnx HRD
        have e0 : Z = none := by
          rw [← HZ.out, ← HRUN.out, drop_at hlt]
          simp only [runB, readB_high ha, wholeB]
        have E0 := Lib.hid e0
        clear hW1 hit ha hd e0
        go_wp2_with fail
        refine HRD.out.mono ?_
        rintro e w2 ⟨rfl, _, hO2⟩
        have HBB := Lib.hid (HBW.out.trans (hO2.low (by omega)))
        clear hO2
        simp only [Option.isSome]
        go_wp2_with fail
        go_ret
        exact ⟨by rw [E0.out]; rfl, HN.out ▸ HBB.out⟩
    · have hnx : ∀ ty, (Instr.next (.pointer (some ⟨n + 1, 0, none⟩)) true ty).run Try.prog wr = _ := fun ty => Lib.run_next_end_at wr (n + 1) s pos ty hit hlt
      have e0 : Z = f := by
        rw [← HZ.out, ← HRUN.out, List.drop_eq_nil_of_le (by rw [Array.length_toList]; exact Nat.le_of_not_lt hlt)]
        rfl
      have E0 := Lib.hid e0
      have hc2 := hR.c2
      obtain ⟨u, hu⟩ : ∃ u, u = optV f := ⟨_, rfl⟩
      rw [← hu] at hc2
      have HU := Lib.hid hu
      clear hit hR hrun hb hpos0 e0 hu
      go_wp2_with fail
      go_ret
      exact ⟨by rw [E0.out, ← HU.out]; rfl, HN.out ▸ HB.out⟩
set_option maxRecDepth 100000 in
set_option maxHeartbeats 4000000 in
theorem iFormulaOf (p : Int) (s : ByteArray) (w : World) :
    Calls Try.prog 101 #[.int .i64 p, .string s] w fun e w' => e = .returned (optV (foF p s)) ∧ Below w.heap.size w w' := by
  have HV := Lib.hid (iPV p)
  rcases Bool.eq_false_or_eq_true (isP p) with hp | hp
  · by_cases hs : s.size ≤ 60
    · have e : foF p s = formF p s.data.toList := by unfold foF; rw [if_pos ⟨hp, hs⟩]
      rw [e]
      exact iFormulaOf_some p s w hp hs
    · have e : foF p s = none := by unfold foF; rw [if_neg (fun h => hs h.2)]
      rw [e]
      rw [hp] at HV
      have hsi : ¬ (s.size : Int) ≤ 60 := by omega
      clear hp e
      go_enter Try.func101, Try.ntmps101
      go_wp2_with fail
      refine (HV.out _).mono ?_
      rintro e w' ⟨rfl, rfl⟩
      go_wp2_with fail
      go_ret
      exact ⟨rfl, Below.refl _ _⟩
  · have e : foF p s = none := by unfold foF; rw [if_neg (fun h => by rw [hp] at h; cases h.1)]
    rw [e]
    rw [hp] at HV
    clear hp e
    go_enter Try.func101, Try.ntmps101
    go_wp2_with fail
    refine (HV.out _).mono ?_
    rintro e w' ⟨rfl, rfl⟩
    go_wp2_with fail
    go_ret
    exact ⟨rfl, Below.refl _ _⟩
end Go.Proofs.Ytiahcaihmgnicaa
