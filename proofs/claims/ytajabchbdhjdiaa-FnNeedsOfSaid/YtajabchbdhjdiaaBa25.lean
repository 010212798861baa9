/-
  Contracts of the sum of two polynomials, of the model and of the program, and the walk of the exact law of AddPoly. Conditions: none but that the slices read as lists of terms.
  The program's MulPoly. Conditions: what the slices hold is known.
  Contract of the model's product of two polynomials. Conditions: both are polynomials over a field that is one.
-/
import Derived.Test.YtajabchbdhjdiaaBa23
import Derived.Lib.AppendZeros
import Derived.Test.YtajabchbdhjdiaaBa24
import Derived.Test.YtajabchbdhjdiaaBa14
import Derived.Test.YtajabchbdhjdiaaBa5
namespace Go.Proofs.Ytajabchbdhjdiaa
open Go.RowKit
/-- nothing appended to nothing -/
theorem run_append_none {P : Program} (w : World) (t ty e : TypeId) (i : TypeInfo) (ht : P.underlying t = some (.slice e)) (hi : P.info? e = some i) (b : Addr) :
    (Builtin.append_ #[t, t] ty #[.slice (some b) 0 0, .slice none 0 0]).run P w = .ok (.slice (some b) 0 0) w := by
  simp [Builtin.append_, run_underlying ht, sizeOf, typeInfo, hi, Builtin.lenOf, Builtin.firstCells, storeCells]
theorem wpList_append_none {P : Program} {w : World} {ops : Array Oper} {rest : List Oper} {o : Oper} {a : Act} {Q : Exit → Act → World → Prop} (hgd : o.guard = none) (s x : Operand) (t e : TypeId) (i : TypeInfo)
    (ho : o.op = .call { callee := .builtin .append, args := #[s, x], argTypes := #[t, t] }) (ht : P.underlying t = some (.slice e)) (hi : P.info? e = some i) (b : Addr) (hs : a.eval s = .slice (some b) 0 0) (hx : a.eval x = .slice none 0 0)
    (h : wpList P ops Q rest (a.put o.dst (.slice (some b) 0 0)) w) : wpList P ops Q (o :: rest) a w := by
  refine wpList_plain hgd fun _ hK => ?_
  have hr := run_append_none w t o.type e i ht hi b
  have he : (execOp a.eval o).run P w = .ok (.value (.slice (some b) 0 0)) w := by
    unfold execOp
    simp only [ho, resolve, invoke, builtin, Sem.run_bind, Sem.run_pure, Result.andThen_ok, List.map_toArray, List.map_cons, List.map_nil, hs, hx, hr]
  unfold Oper.wp
  rw [he]
  exact hK _ _ h
theorem addT_nil {p : Int} {x : Trm} (hx : ¬ x.t = 0) : addT p x [] = [x] := by
  unfold addT
  rw [if_neg hx, if_neg (by simp [hit])]
  simp [plc]
set_option maxRecDepth 100000 in
set_option maxHeartbeats 16000000 in
theorem sAddNil (B S : Nat) (p : Int) (x : Trm) (w : World) (hS : ModW w S (.slice none 0 0)) (hB : B ≤ w.heap.size) :
    Calls Try.prog 129 #[.pointer (some ⟨S, 0, none⟩), .int .i64 p, .agg #[.int .i64 x.a, .int .i64 x.b, .int .i64 x.c, .int .i64 x.t]] w (AddTo B S (.slice none 0 0) (addT p x []) w) := by
  obtain ⟨i0, hi, hz0, hz1, hz2⟩ := info_parts infoT
  have HMO := Lib.hid hS
  obtain ⟨s0, sf, ssz⟩ := hS
  go_enter Try.func129, Try.ntmps129
  go_wp2_with fail
  obtain ⟨W, hW⟩ : ∃ W, W = w.alloc (Obj.cells #[.int .i64 x.a, .int .i64 x.b, .int .i64 x.c, .int .i64 x.t] 69) := ⟨_, rfl⟩
  have hb0 : Below w.heap.size w W := by rw [hW]; exact Below.alloc (Below.refl _ _) (Nat.le_refl _) _
  have HB0 := Lib.hid hb0
  have HT := Lib.hid (show TAt W w.heap.size 0 x by rw [hW]; refine ⟨?_, ?_, ?_, ?_⟩ <;> simp [go_sem])
  have hn1 : w.heap.size < W.heap.size := by rw [hW]; simp
  have HF := Lib.hid (show ∀ w', Below W.heap.size W w' → w'.cell? ⟨S, 0, none⟩ = some (.slice none 0 0) from fun w' hb => ((HMO.out.below hb0).below hb).c)
  rw [← hW]
  clear hW hb0 s0 sf
  go_loopg [6] 0 (fun gk i wr => gk = 0 ∧ i = .int .i64 0 ∧ Below W.heap.size W wr)
  case atStart => exact ⟨rfl, rfl, Below.refl _ _⟩
  case round =>
    obtain ⟨rfl, rfl, hb⟩ := hrel
    have Hb := Lib.hid hb
    clear hb
    have HFr := Lib.hid (show ∀ w', Below wr.heap.size wr w' → w'.cell? ⟨S, 0, none⟩ = some (.slice none 0 0) from fun w' hb => HF.out w' (Hb.out.trans (hb.mono Hb.out.size)))
    go_upto_region 2 with fail
    refine wp_region_below (by kernel_rfl) (by kernel_rfl) ?_
    (with_reducible refine wpQuiet_yes ?_ ?_; (focus (kernel_rfl)); intro K hK; go_simp; refine ⟨_, fun _ _ => rfl, ?_⟩; with_reducible refine hK _ ?_; clear hK K)
    (with_reducible refine wpQuiet_yes ?_ ?_; (focus (kernel_rfl)); intro K hK; go_simp; refine ⟨_, fun _ _ => rfl, ?_⟩; with_reducible refine hK _ ?_; clear hK K)
    (with_reducible refine wpQuiet_yes ?_ ?_; (focus (kernel_rfl)); intro K hK; go_simp; refine ⟨_, fun _ _ => rfl, ?_⟩; with_reducible refine hK _ ?_; clear hK K)
    (with_reducible refine wpQuiet_yes ?_ ?_; (focus (kernel_rfl)); intro K hK; go_simp; refine ⟨_, fun _ _ => rfl, ?_⟩; with_reducible refine hK _ ?_; clear hK K)
    (with_reducible refine wpQuiet_yes ?_ ?_; (focus (kernel_rfl)); intro K hK; go_simp; refine ⟨(.slice none 0 0), ?_, ?_⟩; rotate_left; with_reducible refine hK _ ?_; clear hK K; rotate_left)
    · intro w' hw
      simp only [HFr.out w' hw, go_sem, Result.andThen, and_self]
    (with_reducible refine wpQuiet_yes ?_ ?_; (focus (kernel_rfl)); intro K hK; go_simp; refine ⟨_, fun _ _ => rfl, ?_⟩; with_reducible refine hK _ ?_; clear hK K)
    (with_reducible refine wpQuiet_yes ?_ ?_; (focus (kernel_rfl)); intro K hK; go_simp; refine ⟨(.bool false), ?_, ?_⟩; rotate_left; with_reducible refine hK _ ?_; clear hK K; rotate_left)
    · intro w' hw
      simp
    (with_reducible refine wpQuiet_yes ?_ ?_; (focus (kernel_rfl)); intro K hK; go_simp; refine ⟨_, fun _ _ => rfl, ?_⟩; with_reducible refine hK _ ?_; clear hK K)
    iterate 11 (with_reducible refine wpQuiet_no ?_ ?_; (focus (kernel_rfl)); intro K hK; go_simp; with_reducible refine hK _ ?_; clear hK K)
    (with_reducible refine wpQuiet_yes ?_ ?_; (focus (kernel_rfl)); intro K hK; go_simp; refine ⟨_, fun _ _ => rfl, ?_⟩; with_reducible refine hK _ ?_; clear hK K)
    refine wpQuiet_nil fun w2 hb2 => ?_
    have HB2 := Lib.hid (Hb.out.trans (hb2.mono Hb.out.size))
    clear hb2 HFr Hb
    simp only [Exit.then]
    obtain ⟨t0, t1, t2, t3⟩ := HT.out.below HB2.out hn1
    simp only [Nat.zero_add] at t0 t1 t2 t3
    by_cases hx0 : x.t = 0
    · have HX0 := Lib.hid hx0
      have HLO := Lib.hid (HB0.out.trans (HB2.out.mono HB0.out.size))
      go_wp2_with fail
      refine bodyPost_ret (v := .tuple #[]) (by simp [results, Try.results129, go_sem]) rfl ⟨rfl, _, HMO.out.below HLO.out, by rw [addT_zero0 HX0.out]; exact Row.nil _ _, by simp [Value.ownBlock], Kept.of_below HLO.out, .inl rfl⟩
    · have HX0 := Lib.hid hx0
      have hxe : (x.t == 0) = false := by simp [hx0]
      clear hx0
      have HFr := Lib.hid (show ∀ w', Below w2.heap.size w2 w' → w'.cell? ⟨S, 0, none⟩ = some (.slice none 0 0) from fun w' hb => HF.out w' (HB2.out.trans (hb.mono HB2.out.size)))
      go_upto_region 7 with fail
      clear t0 t1 t2 t3
      refine wp_region_below (by kernel_rfl) (by kernel_rfl) ?_
      (with_reducible refine wpQuiet_yes ?_ ?_; (focus (kernel_rfl)); intro K hK; go_simp; refine ⟨_, fun _ _ => rfl, ?_⟩; with_reducible refine hK _ ?_; clear hK K)
      (with_reducible refine wpQuiet_yes ?_ ?_; (focus (kernel_rfl)); intro K hK; go_simp; refine ⟨_, fun _ _ => rfl, ?_⟩; with_reducible refine hK _ ?_; clear hK K)
      (with_reducible refine wpQuiet_yes ?_ ?_; (focus (kernel_rfl)); intro K hK; go_simp; refine ⟨_, fun _ _ => rfl, ?_⟩; with_reducible refine hK _ ?_; clear hK K)
      (with_reducible refine wpQuiet_yes ?_ ?_; (focus (kernel_rfl)); intro K hK; go_simp; refine ⟨_, fun _ _ => rfl, ?_⟩; with_reducible refine hK _ ?_; clear hK K)
      (with_reducible refine wpQuiet_yes ?_ ?_; (focus (kernel_rfl)); intro K hK; go_simp; refine ⟨(.slice none 0 0), ?_, ?_⟩; rotate_left; with_reducible refine hK _ ?_; clear hK K; rotate_left)
      · intro w' hw
        simp only [HFr.out w' hw, go_sem, Result.andThen, and_self]
      (with_reducible refine wpQuiet_yes ?_ ?_; (focus (kernel_rfl)); intro K hK; go_simp; refine ⟨_, fun _ _ => rfl, ?_⟩; with_reducible refine hK _ ?_; clear hK K)
      (with_reducible refine wpQuiet_yes ?_ ?_; (focus (kernel_rfl)); intro K hK; go_simp; refine ⟨(.bool false), ?_, ?_⟩; rotate_left; with_reducible refine hK _ ?_; clear hK K; rotate_left)
      · intro w' hw
        simp
      (with_reducible refine wpQuiet_yes ?_ ?_; (focus (kernel_rfl)); intro K hK; go_simp; refine ⟨_, fun _ _ => rfl, ?_⟩; with_reducible refine hK _ ?_; clear hK K)
      iterate 11 (with_reducible refine wpQuiet_no ?_ ?_; (focus (kernel_rfl)); intro K hK; go_simp; with_reducible refine hK _ ?_; clear hK K)
      (with_reducible refine wpQuiet_yes ?_ ?_; (focus (kernel_rfl)); intro K hK; go_simp; refine ⟨_, fun _ _ => rfl, ?_⟩; with_reducible refine hK _ ?_; clear hK K)
      (with_reducible refine wpQuiet_yes ?_ ?_; (focus (kernel_rfl)); intro K hK; go_simp; refine ⟨_, fun _ _ => rfl, ?_⟩; with_reducible refine hK _ ?_; clear hK K)
      refine wpQuiet_nil fun w3 hb3 => ?_
      have hB3 : Below w.heap.size w w3 := HB0.out.trans ((HB2.out.trans (hb3.mono HB2.out.size)).mono HB0.out.size)
      have hT3 : TAt w3 w.heap.size 0 x := (HT.out.below HB2.out hn1).below hb3 (Nat.lt_of_lt_of_le hn1 HB2.out.size)
      have A0 : ASt w B S w.heap.size (.slice none 0 0) (.slice none 0 0) (.slice none 0 0) [] x w3 :=
        ⟨HMO.out.below hB3, Row.nil _ _, by simp [Value.ownBlock], Kept.of_below hB3, .inl rfl, hT3, by have := hb3.size; have := HB2.out.size; omega, Nat.le_refl _, ssz, hB, by simp [Value.ownBlock]⟩
      have hL1 : Below w3.heap.size w3 (w3.alloc (.cells #[] 69)) := Below.alloc (Below.refl _ _) (Nat.le_refl _) _
      have HA1 := Lib.hid (A0.on hL1)
      have HR1 := Lib.hid (Row.lit0 w3 w3.heap.size (Nat.le_refl _))
      obtain ⟨s0, sf, _⟩ := HA1.out.mo
      clear hB3 hT3 A0 HFr HF HB2 HB0 HT hb3
      simp only [Exit.then]
      go_wp2_with (at_builtin; refine wpList_append_none rfl _ _ 26 69 i0 rfl Try.underlying26 hi ⟨w3.heap.size, 0, none⟩ rfl rfl ?_)
      obtain ⟨W4, hW4⟩ : ∃ W, W = w3.alloc (.cells #[] 69) := ⟨_, rfl⟩
      have hsz4 : W4.heap.size = w3.heap.size + 1 := by rw [hW4]; simp
      obtain ⟨g8, hg8⟩ : ∃ g, g = w3.heap.size := ⟨_, rfl⟩
      rw [← hg8] at HR1 hsz4 ⊢
      rw [← hW4] at HR1 HA1 s0 sf ⊢
      have hg84 : g8 < W4.heap.size := by omega
      clear hW4 hL1 hg8 hsz4
      obtain ⟨t0, t1, t2, t3⟩ := HA1.out.bx
      simp only [Nat.zero_add] at t0 t1 t2 t3
      have hBW : B ≤ W4.heap.size := by have := HA1.out.hB; have := HA1.out.hn; have := HA1.out.n1; omega
      have hn3 := HA1.out.n1
      have b12 : ∀ o, Below W4.heap.size W4 (W4.alloc o).drew := fun o => Below.drew (Below.alloc (Below.refl _ _) (Nat.le_refl _) _)
      have HSK := Lib.hid (show ∀ o, ((W4.alloc o).drew.cell? ⟨S, 0, none⟩ = some (.slice none 0 0) ∧ (W4.alloc o).drew.cell? ⟨w.heap.size, 0, none⟩ = some (.int .i64 x.a) ∧ (W4.alloc o).drew.cell? ⟨w.heap.size, 1, none⟩ = some (.int .i64 x.b) ∧ (W4.alloc o).drew.cell? ⟨w.heap.size, 2, none⟩ = some (.int .i64 x.c) ∧ (W4.alloc o).drew.cell? ⟨w.heap.size, 3, none⟩ = some (.int .i64 x.t)) from fun o => by
        obtain ⟨q0, q1, q2, q3⟩ := (HA1.out.on (b12 o)).bx
        exact ⟨(HA1.out.on (b12 o)).mo.c, q0, q1, q2, q3⟩)
      have HA12 := Lib.hid (HA1.out.on (b12 (Obj.cells #[.int .i64 x.a, .int .i64 x.b, .int .i64 x.c, .int .i64 x.t] 69)))
      have hB12 : B ≤ ((W4.alloc (Obj.cells #[.int .i64 x.a, .int .i64 x.b, .int .i64 x.c, .int .i64 x.t] 69)).drew).heap.size := Nat.le_trans hBW (b12 _).size
      clear b12 HR1 HA1
      go_wp2_with fail
      refine wp_region_seq [(0, true), (1, true), (2, true), (3, true), (4, true), (5, true), (6, true), (7, true), (10, true), (8, false), (9, false), (11, false), (12, true), (13, true)] (fun w' => w'.cell? ⟨S, 0, none⟩ = some (.slice none 0 0) ∧ w'.cell? ⟨w.heap.size, 0, none⟩ = some (.int .i64 x.a) ∧ w'.cell? ⟨w.heap.size, 1, none⟩ = some (.int .i64 x.b) ∧ w'.cell? ⟨w.heap.size, 2, none⟩ = some (.int .i64 x.c) ∧ w'.cell? ⟨w.heap.size, 3, none⟩ = some (.int .i64 x.t)) (by kernel_rfl) (by kernel_rfl) rfl (by intro c a d v w h; cases d <;> exact h) ⟨s0, t0, t1, t2, t3⟩ ?_
      iterate 9 (refine wpSeq_take (v := ?_) (List.getElem?_toArray.trans rfl) ?_ ?_; rotate_left; (intro w' hSw; (try dsimp only at hSw); go_simp; (try with_reducible rfl)); (try simp only [Act.put, List.setIfInBounds_toArray, List.set_cons_zero, List.set_cons_succ]))
      refine wpSeq_do (List.getElem?_toArray.trans rfl) (fun K hK => ?_)
      go_simp
      refine hK _ _ (HSK.out _) ?_
      clear hK K
      refine wpSeq_do (List.getElem?_toArray.trans rfl) (fun K hK => ?_)
      refine wp_append_lies _ _ _ 26 rfl B 69 i0 (.agg #[.int .i64 0, .int .i64 0, .int .i64 0, .int .i64 0]) 4 32 Try.underlying26 hi hz0 hz1 hz2 rfl (by decide) (.slice none 0 0) 0 [] (by simp [Act.eval]) HA12.out.row _ 1 1 [.int .i64 x.a, .int .i64 x.b, .int .i64 x.c, .int .i64 x.t] (by simp [Act.eval]; rfl) rfl (by intro j u hj; match j, hj with | 0, hj => (simp at hj; subst hj; simp [Addr.add, go_sem]) | 1, hj => (simp at hj; subst hj; simp [Addr.add, go_sem]) | 2, hj => (simp at hj; subst hj; simp [Addr.add, go_sem]) | 3, hj => (simp at hj; subst hj; simp [Addr.add, go_sem])) (by intro u hu; simp at hu; rcases hu with rfl | rfl | rfl | rfl <;> rfl) (by omega) (by unfold maxLen; omega) (by omega) hB12 _ rfl ?_
      intro gv cv w5 hown hgrow hat _
      have A13 := (HA12.out.app (v' := .slice (some ⟨gv, 0, none⟩) (0 + 1) cv) (R' := [x]) (by unfold Row; rw [flat_one]; exact hown) hgrow (by
        rcases hat with e | e
        · exact .inl e.symm
        · exact .inr (by rw [e]; rfl)))
      obtain ⟨q0, q1, q2, q3⟩ := A13.bx
      refine hK _ _ ⟨A13.mo.c, q0, q1, q2, q3⟩ ?_
      clear hK K
      simp only [Act.put, List.setIfInBounds_toArray, List.set_cons_zero, List.set_cons_succ]
      have hB5 : B ≤ w5.heap.size := Nat.le_trans hB12 hgrow.size
      refine wpSeq_do (List.getElem?_toArray.trans rfl) (fun K hK => ?_)
      refine wp_app_at _ _ 26 rfl B 69 i0 (.agg #[.int .i64 0, .int .i64 0, .int .i64 0, .int .i64 0]) 4 32 Try.underlying26 hi hz0 hz1 hz2 rfl (by decide) (.slice (some ⟨gv, 0, none⟩) (0 + 1) cv) 1 (flat [x]) (by simp [Act.eval]) A13.row ⟨g8, 0, none⟩ 0 0 [] (by simp [Act.eval]) rfl (by intro j u hj; simp at hj) (by intro u hu; cases hu) (by unfold maxLen; omega) (by omega) (by omega) ?_
      intro v9 w9 hown9 hgrow9 hnil9 hat9
      have A9 := (A13.app (R' := [x]) (by unfold Row; simpa using hown9) hgrow9 hat9)
      obtain ⟨g9, n9, c9, rfl⟩ : ∃ g n c, v9 = .slice (some ⟨g, 0, none⟩) n c := by
        rcases A9.row.shape with ⟨h1, _⟩ | ⟨g', c', h1, _⟩
        · exact absurd (hnil9.1 h1).1 (by simp)
        · exact ⟨g', _, c', h1⟩
      obtain ⟨q0, q1, q2, q3⟩ := A9.bx
      refine hK _ _ ⟨A9.mo.c, q0, q1, q2, q3⟩ ?_
      clear hK K
      iterate 2 (refine wpSeq_take (v := ?_) (List.getElem?_toArray.trans rfl) ?_ ?_; rotate_left; (intro w' hSw; (try dsimp only at hSw); go_simp; (try with_reducible rfl)); (try simp only [Act.put, List.setIfInBounds_toArray, List.set_cons_zero, List.set_cons_succ]))
      refine wpSeq_nil ?_
      simp only [Exit.then]
      have HA9 := Lib.hid A9.store
      clear s0 sf t0 t1 t2 t3
      obtain ⟨s1, sf1, _⟩ := A9.mo
      clear hown hgrow hat A9 A13 hnil9 hown9 hgrow9 hat9
      go_wp2_with fail
      refine bodyPost_ret (v := .tuple #[]) (by simp [results, Try.results129, go_sem]) rfl ?_
      rw [addT_nil HX0.out]; exact HA9.out.done
/-- the model's add, whatever its list is -/
theorem sAdd (B S : Nat) (p : Int) (L : List Trm) (x : Trm) (v : Value) (w : World) (hS : ModW w S v) (hR : Row w B v L) (hl : L.length ≤ 4000) (hs : Srt L) (hv : v.ownBlock ≠ some S) (hp : isP p = true) (he : Els p L) (hx : 0 ≤ x.t ∧ x.t < p) (hB : B ≤ w.heap.size) :
    Calls Try.prog 129 #[.pointer (some ⟨S, 0, none⟩), .int .i64 p, .agg #[.int .i64 x.a, .int .i64 x.b, .int .i64 x.c, .int .i64 x.t]] w (AddTo B S v (addT p x L) w) := by
  rcases hR.shape with ⟨rfl, rfl⟩ | ⟨g, cap, rfl, _⟩
  · exact sAddNil B S p x w hS hB
  · exact sAddSome B S g cap p L x w hS hR hl hs (fun e => hv (by rw [e]; rfl)) hp he hx hB
end Go.Proofs.Ytajabchbdhjdiaa
namespace Go.Proofs.Ytajabchbdhjdiaa
open Go.RowKit
/-- what is appended may be of another named type -/
theorem run_append_tx {P : Program} (w : World) (t tx ty e : TypeId) (i : TypeInfo) (ht : P.underlying t = some (.slice e)) (hx : P.underlying tx = some (.slice e)) (hi : P.info? e = some i) (b : Option Addr) (n c : Nat) (x : Value) :
    (Builtin.append_ #[t, tx] ty #[.slice b n c, x]).run P w = (Builtin.append_ #[t, t] ty #[.slice b n c, x]).run P w := by
  simp [Builtin.append_, run_underlying ht, run_underlying hx, sizeOf, typeInfo, hi]
/-- a copy of a row, appended to a literal without terms -/
theorem app_copy (t tx ty : TypeId) (ht : Try.prog.underlying t = some (.slice 69)) (hx : Try.prog.underlying tx = some (.slice 69)) (W : World) (B : Nat) (v : Value) (L : List Trm) (hR : Row W B v L) (hl : L.length ≤ 4000) :
    ∃ v' w', (Builtin.append_ #[t, tx] ty #[.slice (some ⟨W.heap.size, 0, none⟩) 0 0, v]).run Try.prog (W.alloc (.cells #[] 69)) = .ok v' w' ∧ Row w' W.heap.size v' L ∧ Below W.heap.size W w' := by
  obtain ⟨i0, hi, hz0, hz1, hz2⟩ := info_parts infoT
  rw [run_append_tx _ t tx ty _ i0 ht hx hi]
  have hb : Below W.heap.size W (W.alloc (.cells #[] 69)) := Below.alloc (Below.refl _ _) (Nat.le_refl _) _
  have hL0 := Row.lit0 W W.heap.size (Nat.le_refl _)
  rcases hR.shape with ⟨rfl, rfl⟩ | ⟨g, cap, rfl, _⟩
  · exact ⟨_, _, run_append_none _ t ty _ i0 ht hi _, hL0, hb⟩
  · obtain ⟨v', w', hr, hown, hgrow, _⟩ := run_append_own_at (P := Try.prog) (W.alloc (.cells #[] 69)) W.heap.size t ty 69 i0 (.agg #[.int .i64 0, .int .i64 0, .int .i64 0, .int .i64 0]) 4 32 ht hi hz0 hz1 hz2 rfl (by decide) _ 0 [] hL0 ⟨g, 0, none⟩ L.length cap (flat L) (flat_len L) (World.ownsRow.cells (hR.below hb) rfl) (flat_cell L) (by unfold maxLen; omega) (by omega) (by simp)
    refine ⟨v', w', hr, ?_, hb.trans (hL0.low (by simp) hgrow)⟩
    unfold Row
    simpa using hown
theorem sVal (B : Nat) (p : Int) (hp : isP p = true) (L : List Trm) (v : Value) (w : World) (hR : Row w B v L) (hl : L.length ≤ 4000) :
    Calls Try.prog 114 #[.int .i64 p, v] w fun e w' => e = .returned (.bool (validB p L)) ∧ Below w.heap.size w w' := by
  rcases hR.shape with ⟨rfl, rfl⟩ | ⟨g, cap, rfl, _, hg, _⟩
  · exact (sVal_nil p none 0 w).mono fun e w' ⟨he, hw⟩ => ⟨by rw [he]; simp [validB], by rw [← hw]; exact Below.refl _ _⟩
  · exact sVal_some p hp g 0 cap L w (by omega) hg (fun j hj => by rw [Nat.zero_add]; exact hR.tat rfl hj)
set_option maxRecDepth 100000 in
set_option maxHeartbeats 4000000 in
theorem sTold (B : Nat) (p : Int) (hp : isP p = true) (L : List Trm) (v : Value) (w : World) (hR : Row w B v L) (hl : L.length ≤ 4000) :
    Calls Try.prog 119 #[.int .i64 p, .agg #[v]] w (GivesPB (if validB p L = true then L else []) (validB p L) w) := by
  have HRO := Lib.hid hR
  have HV := Lib.hid (fun (w' : World) (hb : Below w.heap.size w w') => sVal B p hp L v w' (hR.below hb) hl)
  obtain ⟨r, hr⟩ : ∃ r, r = validB p L := ⟨_, rfl⟩
  rw [← hr] at HV ⊢
  clear hr hR
  cases r
  · go_enter Try.func119, Try.ntmps119
    go_upto_region 1 with fail
    obtain ⟨W, hW⟩ : ∃ W, W = w.alloc (Obj.cells #[v] 101) := ⟨_, rfl⟩
    have hb0 : Below w.heap.size w W := by rw [hW]; exact Below.alloc (Below.refl _ _) (Nat.le_refl _) _
    have s0 : W.cell? ⟨w.heap.size, 0, none⟩ = some v := by rw [hW]; simp [go_sem]
    have HB0 := Lib.hid hb0
    rw [← hW]
    clear hW hb0
    go_wp2_with (go_at_call 114; refine (HV.out _ HB0.out).mono ?_; rintro e w2 ⟨rfl, hb2⟩)
    have hb : Below w.heap.size w w2 := HB0.out.trans (hb2.mono HB0.out.size)
    refine bodyPost_ret (v := .tuple #[.slice (some ⟨w2.heap.size, 0, none⟩) 0 0, .bool false]) (by simp [results, Try.results119, go_sem]) rfl ⟨_, rfl, (Row.lit0 w2 w.heap.size hb.size).own (by simp), Below.alloc hb hb.size _⟩
  · go_enter Try.func119, Try.ntmps119
    go_upto_region 1 with fail
    obtain ⟨W, hW⟩ : ∃ W, W = w.alloc (Obj.cells #[v] 101) := ⟨_, rfl⟩
    have hb0 : Below w.heap.size w W := by rw [hW]; exact Below.alloc (Below.refl _ _) (Nat.le_refl _) _
    have s0 : W.cell? ⟨w.heap.size, 0, none⟩ = some v := by rw [hW]; simp [go_sem]
    have hn : w.heap.size < W.heap.size := by rw [hW]; simp
    have HB0 := Lib.hid hb0
    rw [← hW]
    clear hW hb0
    go_upto_region 3 with (go_at_call 114; refine (HV.out _ HB0.out).mono ?_; rintro e w2 ⟨rfl, hb2⟩)
    have hb : Below w.heap.size w w2 := HB0.out.trans (hb2.mono HB0.out.size)
    have s2 : (w2.alloc (Obj.cells #[] 69)).cell? ⟨w.heap.size, 0, none⟩ = some v := by
      rw [World.cell?_alloc_past _ _ _ (show w.heap.size < w2.heap.size from Nat.lt_of_lt_of_le hn hb2.size), hb2.cell (p := ⟨w.heap.size, 0, none⟩) hn]; exact s0
    obtain ⟨v', w', hr, hrow, hbw⟩ := app_copy 27 26 27 Try.underlying27 Try.underlying26 w2 B v L (HRO.out.below hb) hl
    go_wp2_with (at_builtin; refine Lib.wpList_append_run _ rfl _ _ 27 26 rfl _ _ rfl rfl _ _ hr ?_)
    refine bodyPost_ret (v := .tuple #[v', .bool true]) (by simp [results, Try.results119, go_sem]) rfl ⟨_, rfl, ?_, hb.trans (hbw.mono hb.size)⟩
    have ho := (row_base hrow hb.size).own (by omega)
    simpa using ho
end Go.Proofs.Ytajabchbdhjdiaa
namespace Go.Proofs.Ytajabchbdhjdiaa
open Go.RowKit
/-- no term appended -/
theorem run_append_zero {P : Program} (w : World) (t ty e : TypeId) (i : TypeInfo) (ht : P.underlying t = some (.slice e)) (hi : P.info? e = some i) (b : Addr) (a : Option Addr) (c : Nat) :
    (Builtin.append_ #[t, t] ty #[.slice (some b) 0 0, .slice a 0 c]).run P w = .ok (.slice (some b) 0 0) w := by
  cases a <;> simp [Builtin.append_, run_underlying ht, sizeOf, typeInfo, hi, Builtin.lenOf, Builtin.firstCells, storeCells, loadCells, loadCellsFrom]
/-- a copy of a polynomial, appended to a literal without terms -/
theorem app_copyT (t tx ty : TypeId) (ht : Try.prog.underlying t = some (.slice 69)) (hx : Try.prog.underlying tx = some (.slice 69)) (W : World) (v : Value) (L : List Trm) (hT : Trms W v L) (hl : L.length ≤ 4000) :
    ∃ v' w', (Builtin.append_ #[t, tx] ty #[.slice (some ⟨W.heap.size, 0, none⟩) 0 0, v]).run Try.prog (W.alloc (.cells #[] 69)) = .ok v' w' ∧ Row w' W.heap.size v' L ∧ Below W.heap.size W w' := by
  obtain ⟨i0, hi, hz0, hz1, hz2⟩ := info_parts infoT
  rw [run_append_tx _ t tx ty _ i0 ht hx hi]
  have hb : Below W.heap.size W (W.alloc (.cells #[] 69)) := Below.alloc (Below.refl _ _) (Nat.le_refl _) _
  have hL0 := Row.lit0 W W.heap.size (Nat.le_refl _)
  obtain ⟨_, a, cap, rfl, rfl | ⟨g, off, rfl, hg, hc⟩⟩ := hT
  · exact ⟨_, _, run_append_zero _ t ty _ i0 ht hi _ a cap, hL0, hb⟩
  · obtain ⟨v', w', hr, hown, hgrow, _⟩ := run_append_own_at (P := Try.prog) (W.alloc (.cells #[] 69)) W.heap.size t ty 69 i0 (.agg #[.int .i64 0, .int .i64 0, .int .i64 0, .int .i64 0]) 4 32 ht hi hz0 hz1 hz2 rfl (by decide) _ 0 [] hL0 ⟨g, off, none⟩ L.length cap (flat L) (flat_len L) (flatT_read (fun j hj => (hc j hj).below hb hg)) (flat_cell L) (by unfold maxLen; omega) (by omega) (by simp)
    refine ⟨v', w', hr, ?_, hb.trans (hL0.low (by simp) hgrow)⟩
    unfold Row
    simpa using hown
theorem AddTo.low {B S : Nat} {v : Value} {L L' : List Trm} {w w' : World} {e : Ending} (h : AddTo B S v L' w e w') (hR : Row w B v L) (hS : B ≤ S) (hB : B ≤ w.heap.size) : Below B w w' := by
  obtain ⟨_, v', _, _, _, hk, _⟩ := h
  exact ⟨hk.os, hk.tape, hk.output, hk.size, fun k hk2 => hk.block k (by omega) (fun hn => by
    rcases hn with hn | hn
    · omega
    · have := (World.ownsRow.lt hR k hn).1; omega)⟩
theorem addAll_take {p : Int} {M L : List Trm} {k : Nat} (hk : k < M.length) : addT p (M.getD k default) (addAll p (M.take k) L) = addAll p (M.take (k + 1)) L := by
  rw [List.take_succ_eq_append_getElem hk, addAll_snoc]
  simp [List.getD_eq_getElem?_getD, hk]
theorem sum_facts {p : Int} {L M : List Trm} (hp : isP p = true) (hL : validB p L = true) (hM : validB p M = true) (k : Nat) : Srt (addAll p (M.take k) L) ∧ Els p (addAll p (M.take k) L) ∧ (addAll p (M.take k) L).length ≤ 120 := by
  have hb := isP_bd hp
  refine ⟨addAll_srt _ _ (validB_srt hL), addAll_els (by omega) _ _ (fun x hx => ?_) (validB_els hL), ?_⟩
  · have := validB_els hM x (List.mem_of_mem_take hx)
    omega
  · have := addAll_len (p := p) (M.take k) L
    have h1 := validB_len hL
    have h2 := validB_len hM
    simp only [List.length_take] at this
    omega
set_option maxRecDepth 100000 in
set_option maxHeartbeats 8000000 in
theorem sSum (p : Int) (fv : Value) (a : Option Addr) (cap : Nat) (L M : List Trm) (w : World) (hp : isP p = true) (hL : Trms w fv L) (hM : Trms w (.slice a M.length cap) M) (hVL : validB p L = true) (hVM : validB p M = true) :
    Calls Try.prog 120 #[.int .i64 p, fv, .slice a M.length cap] w fun e w' => ∃ v', e = .returned (.agg #[v']) ∧ Row w' w.heap.size v' (addAll p M L) ∧ Below w.heap.size w w' := by
  have HP := Lib.hid hp
  have HL := Lib.hid hL
  have HM := Lib.hid hM
  have HVL := Lib.hid hVL
  have HVM := Lib.hid hVM
  have hml := validB_len hVM
  clear hp hL hM hVL hVM
  go_enter Try.func120, Try.ntmps120
  go_upto_region 1 with fail
  obtain ⟨W, hW⟩ : ∃ W, W = w.alloc (Obj.cells #[.slice none 0 0] 101) := ⟨_, rfl⟩
  have hb0 : Below w.heap.size w W := by rw [hW]; exact Below.alloc (Below.refl _ _) (Nat.le_refl _) _
  have s0 : W.cell? ⟨w.heap.size, 0, none⟩ = some (.slice none 0 0) ∧ W.frozen? ⟨w.heap.size, 0, none⟩ = false ∧ w.heap.size < W.heap.size := by rw [hW]; exact ⟨by simp [go_sem], World.frozen?_alloc_at _ _ _ 0 (by simp), by simp⟩
  have HS0 := Lib.hid s0
  have HB0 := Lib.hid hb0
  rw [← hW]
  clear hW hb0 s0
  obtain ⟨v1, w2, hr, hrow, hbw⟩ := app_copyT 26 27 26 Try.underlying26 Try.underlying27 W fv L (HL.out.below HB0.out) (by have := validB_len HVL.out; omega)
  obtain ⟨a1, c1, rfl⟩ : ∃ a c, v1 = .slice a L.length c := by
    rcases hrow.shape with ⟨rfl, rfl⟩ | ⟨g, c, rfl, _⟩
    · exact ⟨none, 0, rfl⟩
    · exact ⟨_, c, rfl⟩
  go_upto_region 2 with (at_builtin; refine Lib.wpList_append_run _ rfl _ _ 26 27 rfl _ _ rfl rfl _ _ hr ?_)
  obtain ⟨W2, hW2⟩ : ∃ W, W = w2.alloc (Obj.cells #[.slice a1 L.length c1] 101) := ⟨_, rfl⟩
  obtain ⟨S, hSe⟩ : ∃ S, S = w2.heap.size := ⟨_, rfl⟩
  have hv1 : Value.ownBlock (.slice a1 L.length c1) ≠ some w2.heap.size := fun e => by have := (World.ownsRow.lt hrow _ e).2; omega
  have HW := Lib.hid (show ModW W2 S (.slice a1 L.length c1) ∧ Row W2 W.heap.size (.slice a1 L.length c1) (addAll p (M.take 0) L) ∧ Value.ownBlock (.slice a1 L.length c1) ≠ some S ∧ Below W.heap.size W W2 by
    have hb2 : Below w2.heap.size w2 W2 := by rw [hW2]; exact Below.alloc (Below.refl _ _) (Nat.le_refl _) _
    refine ⟨?_, hrow.below hb2, by rw [hSe]; exact hv1, hbw.trans (hb2.mono hbw.size)⟩
    rw [hW2, hSe]
    exact ⟨by simp [go_sem], World.frozen?_alloc_at _ _ _ 0 rfl, by simp⟩)
  have hSW : W.heap.size ≤ S := by rw [hSe]; exact hbw.size
  rw [← hW2, ← hSe]
  clear hW2 hSe hv1 hr hrow hbw
  go_wp2_with fail
  go_loopw [16] (fun i wr => ∃ (k : Nat) (v : Value), k ≤ M.length ∧ i = .int .i64 k ∧ ModW wr S v ∧ Row wr W.heap.size v (addAll p (M.take k) L) ∧ v.ownBlock ≠ some S ∧ Below W.heap.size W wr) (fun i _ => M.length - (intOf i).toNat)
  case atStart => exact ⟨0, _, by omega, rfl, HW.out⟩
  case round =>
    clear HW
    obtain ⟨k, v, hk, rfl, hS, hR, hv, hb⟩ := hrel
    by_cases hlt : k < M.length
    · have hltp : (k : Int) < (M.length : Int) := by omega
      have hk0 : (0 : Int) ≤ (k : Int) := by omega
      obtain ⟨x, hx⟩ : ∃ x, x = M.getD k default := ⟨_, rfl⟩
      have hel := validB_el HVM.out hlt hx
      obtain ⟨g, off, rfl, hg, hc⟩ : ∃ g off, a = some ⟨g, off, none⟩ ∧ g < w.heap.size ∧ ∀ j : Nat, j < M.length → TAt w g (off + j * 4) (M.getD j default) := by
        obtain ⟨_, a', cap', he, h⟩ := HM.out
        injection he with e1 e2 e3
        subst e1
        rcases h with h | h
        · rw [h] at hlt; simp at hlt
        · exact h
      obtain ⟨a0, a1', a2, a3⟩ := ((hc k hlt).below HB0.out hg).below hb (Nat.lt_of_lt_of_le hg HB0.out.size)
      rw [← hx] at a0 a1' a2 a3
      have HXK := Lib.hid (show addT p x (addAll p (M.take k) L) = addAll p (M.take (k + 1)) L by rw [hx, addAll_take hlt])
      have HS := Lib.hid hS
      have HR := Lib.hid hR
      have HV2 := Lib.hid hv
      have Hb := Lib.hid hb
      have Hr := Lib.hid (Below.alloc (Below.refl wr.heap.size wr) (Nat.le_refl _) (Obj.cells #[.int .i64 x.a, .int .i64 x.b, .int .i64 x.c, .int .i64 x.t] 69))
      have H3 := Lib.hid (Hb.out.trans (Hr.out.mono Hb.out.size))
      clear hx hS hR hv hb hc
      go_wp2_with fail
      have hf := sum_facts HP.out HVL.out HVM.out k
      refine (sAdd W.heap.size S p (addAll p (M.take k) L) x v _ (HS.out.below Hr.out) (HR.out.below Hr.out) (by omega) hf.1 HV2.out HP.out hf.2.1 (by omega) H3.out.size).mono ?_
      rintro e w4 hP4
      have hlow := hP4.low (HR.out.below Hr.out) hSW H3.out.size
      obtain ⟨rfl, v', hS', hR', hv', _, _⟩ := hP4
      rw [HXK.out] at hR'
      have HQ := Lib.hid (And.intro hS' (And.intro hR' (And.intro hv' (H3.out.trans hlow))))
      clear hS' hR' hv' hlow hf
      go_wp2_with fail
      go_roundw
      case rel => exact ⟨k + 1, v', by omega, by go_num, HQ.out⟩
      case measure => simp [intOf]; omega
    · have hkl : k = M.length := by omega
      subst hkl
      rw [List.take_length] at hR
      obtain ⟨q0, q1, q2⟩ := HS0.out
      have r0 : wr.cell? ⟨w.heap.size, 0, none⟩ = some (.slice none 0 0) := by rw [hb.cell (p := ⟨w.heap.size, 0, none⟩) q2]; exact q0
      have r1 : wr.frozen? ⟨w.heap.size, 0, none⟩ = false := by rw [hb.frozen (p := ⟨w.heap.size, 0, none⟩) q2]; exact q1
      obtain ⟨s0, sf, _⟩ := hS
      obtain ⟨a2, c2, rfl⟩ : ∃ a c, v = .slice a (addAll p M L).length c := by
        rcases hR.shape with ⟨rfl, h⟩ | ⟨g, c, rfl, _⟩
        · exact ⟨none, 0, by rw [h]; rfl⟩
        · exact ⟨_, c, rfl⟩
      have HQ := Lib.hid (show Row (wr.setCell ⟨w.heap.size, 0, none⟩ (.slice a2 (addAll p M L).length c2)) w.heap.size (.slice a2 (addAll p M L).length c2) (addAll p M L) ∧ Below w.heap.size w (wr.setCell ⟨w.heap.size, 0, none⟩ (.slice a2 (addAll p M L).length c2)) from
        ⟨row_base (World.ownsRow.kept (row := some w.heap.size) hR ⟨rfl, rfl, rfl, by simp, fun k hk hne => Below.heap_setCell _ _ _ _ (fun e => hne (by rw [e]))⟩ (.inr (fun e => by have := (World.ownsRow.lt hR _ e).1; omega))) HB0.out.size,
         Below.setCell (HB0.out.trans (hb.mono HB0.out.size)) (Nat.le_refl _) _⟩)
      clear hR hb hv
      go_wp2_with fail
      have hq := World.cell?_setCell_same wr ⟨w.heap.size, 0, none⟩ (.slice a2 (addAll p M L).length c2) r0
      refine bodyPost_ret (v := .agg #[.slice a2 (addAll p M L).length c2]) (by simp [results, Try.results120, go_sem, hq]) rfl ⟨_, rfl, HQ.out⟩
end Go.Proofs.Ytajabchbdhjdiaa
namespace Go.Proofs.Ytajabchbdhjdiaa
open Go.RowKit
/-- a slice of terms and what it holds -/
abbrev VT := Value × List Trm
def vt0 : VT := (.slice none 0 0, [])
def okB (p : Int) (z : VT) : Bool := isP p && validB p z.2
theorem vall_snoc (p : Int) (zs : List VT) (k : Nat) (h : k < zs.length) : (zs.take (k + 1)).all (okB p) = ((zs.take k).all (okB p) && okB p (zs.getD k vt0)) := by
  rw [List.take_succ_eq_append_getElem h, List.all_append]; simp [h]
theorem vall_no (p : Int) (zs : List VT) (k : Nat) (h : k < zs.length) (hn : okB p (zs.getD k vt0) = false) : zs.all (okB p) = false := by
  rw [List.all_eq_false]; exact ⟨zs[k], List.getElem_mem h, by simpa [h] using hn⟩
set_option maxRecDepth 100000 in
set_option maxHeartbeats 4000000 in
theorem sBoth (p : Int) (b off : Nat) (zs : List VT) (w : World) (hl : zs.length ≤ 1000000) (hb : b < w.heap.size)
    (hc : ∀ k, k < zs.length → w.cell? ⟨b, off + k, none⟩ = some (zs.getD k vt0).1) (hT : ∀ k, k < zs.length → Trms w (zs.getD k vt0).1 (zs.getD k vt0).2) :
    Calls Try.prog 108 #[.int .i64 p, .slice (some ⟨b, off, none⟩) zs.length zs.length] w fun e w' => e = .returned (.bool (zs.all (okB p))) ∧ Below w.heap.size w w' := by
  have hC := Lib.hid hc
  have HT := Lib.hid hT
  clear hc hT
  go_enter Try.func108, Try.ntmps108
  go_wp2_with fail
  go_loopw [9] (fun i wr => ∃ k : Nat, k ≤ zs.length ∧ i = .int .i64 k ∧ (zs.take k).all (okB p) = true ∧ Below w.heap.size w wr) (fun i _ => zs.length - (intOf i).toNat)
  case atStart => exact ⟨0, Nat.zero_le _, rfl, by simp, Below.refl _ _⟩
  case round =>
    obtain ⟨k, hk, rfl, hall, hbw⟩ := hrel
    have Hall := Lib.hid hall
    have Hb := Lib.hid hbw
    clear hall
    by_cases hlt : k < zs.length
    · have hltp : (k : Int) < (zs.length : Int) := by omega
      have hk0 : (0 : Int) ≤ (k : Int) := by omega
      have hck : wr.cell? ⟨b, off + k, none⟩ = some (zs.getD k vt0).1 := by rw [hbw.cell (p := ⟨b, off + k, none⟩) hb]; exact hC.out k hlt
      have hz1 := vall_no p zs k hlt
      have hz2 := vall_snoc p zs k hlt
      have hTk := (HT.out k hlt).below hbw
      clear hbw
      generalize zs.getD k vt0 = z at hck hz1 hz2 hTk
      obtain ⟨zv, zl⟩ := z
      dsimp only at hck hTk
      have hV := sPolyValid p zv zl wr hTk
      obtain ⟨h0, a, cap, rfl, h2⟩ := hTk
      have HV := Lib.hid hV
      clear hV h0 h2
      cases hE : okB p (.slice a zl.length cap, zl)
      · have hz := Lib.hid (hz1 hE)
        unfold okB at hE
        dsimp only at hE
        rw [hE] at HV
        clear hz1 hz2 hE
        go_wp2_with (go_at_call 63; refine HV.out.mono ?_; rintro e w2 ⟨rfl, hb2⟩)
        go_ret
        exact ⟨ret_bool hz.out.symm, Hb.out.trans (hb2.mono Hb.out.size)⟩
      · have hz := Lib.hid hz2
        have hE' := Lib.hid hE
        unfold okB at hE
        dsimp only at hE
        rw [hE] at HV
        clear hz1 hz2 hE
        go_wp2_with (go_at_call 63; refine HV.out.mono ?_; rintro e w2 ⟨rfl, hb2⟩)
        have H2 := Lib.hid (Hb.out.trans (hb2.mono Hb.out.size))
        clear hb2
        go_roundw
        case rel => exact ⟨k + 1, by omega, by go_num, by rw [hz.out, Hall.out, hE'.out]; rfl, H2.out⟩
        case measure => simp [intOf]; omega
    · have hkl : ¬ (k : Int) < (zs.length : Int) := by omega
      go_wp2_with fail
      go_ret
      exact ⟨ret_bool (by rw [← Hall.out, List.take_of_length_le (by omega)]), Hb.out⟩
end Go.Proofs.Ytajabchbdhjdiaa
namespace Go.Proofs.Ytajabchbdhjdiaa
open Go.RowKit
theorem ownTrms_mono {w : World} {B B' : Nat} {v : Value} {L : List Trm} (h : OwnTrms w B v L) (hb : B' ≤ B) : OwnTrms w B' v L := by
  obtain ⟨h1, a, cap, hv, h2⟩ := h
  refine ⟨h1, a, cap, hv, ?_⟩
  rcases h2 with h2 | ⟨g, off, ha, h3, h4⟩
  · exact .inl h2
  · exact .inr ⟨g, off, ha, Nat.le_trans hb h3, h4⟩
theorem bothAt (p : Int) (fv gv : Value) (L M : List Trm) (w : World) (hL : Trms w fv L) (hM : Trms w gv M) (r : Bool) (hr : (okB p (fv, L) && okB p (gv, M)) = r) :
    Calls Try.prog 108 #[.int .i64 p, .slice (some ⟨w.heap.size, 0, none⟩) 2 2] (w.alloc (Obj.cells #[fv, gv] 27)) fun e w' => e = .returned (.bool r) ∧ Below w.heap.size w w' := by
  have hb : Below w.heap.size w (w.alloc (Obj.cells #[fv, gv] 27)) := Below.alloc (Below.refl _ _) (Nat.le_refl _) _
  have h := sBoth p w.heap.size 0 [(fv, L), (gv, M)] (w.alloc (Obj.cells #[fv, gv] 27)) (by simp) (by simp)
    (fun k hk => by
      match k, hk with
      | 0, _ => simp
      | 1, _ => simp
      | k + 2, hk => exact absurd hk (by simp))
    (fun k hk => by
      match k, hk with
      | 0, _ => exact hL.below hb
      | 1, _ => exact hM.below hb
      | k + 2, hk => exact absurd hk (by simp))
  refine h.mono fun e w' h => ⟨?_, hb.trans (h.2.mono hb.size)⟩
  rw [h.1, ← hr]
  simp
set_option maxRecDepth 100000 in
set_option maxHeartbeats 4000000 in
theorem sAddPoly_no (p : Int) (fv gv : Value) (L M : List Trm) (w : World) (hL : Trms w fv L) (hM : Trms w gv M) (hr : (okB p (fv, L) && okB p (gv, M)) = false) :
    Calls Try.prog 72 #[.int .i64 p, fv, gv] w (GivesPB [] false w) := by
  have HB := Lib.hid (bothAt p fv gv L M w hL hM false hr)
  clear hr
  obtain ⟨_, a, cap, rfl, _⟩ := hL
  obtain ⟨_, a2, cap2, rfl, _⟩ := hM
  go_enter Try.func72, Try.ntmps72
  go_wp2_with (go_at_call 108; refine HB.out.mono ?_; rintro e w2 ⟨rfl, hb2⟩)
  refine bodyPost_ret (v := .tuple #[.slice (some ⟨w2.heap.size, 0, none⟩) 0 0, .bool false]) (by simp [results, Try.results72, go_sem]) rfl ⟨_, rfl, (Row.lit0 w2 w.heap.size hb2.size).own (by simp), Below.alloc hb2 hb2.size _⟩
set_option maxRecDepth 100000 in
set_option maxHeartbeats 4000000 in
theorem sAddPoly_yes (p : Int) (fv gv : Value) (L M : List Trm) (w : World) (hL : Trms w fv L) (hM : Trms w gv M) (hp : isP p = true) (hVL : validB p L = true) (hVM : validB p M = true) :
    Calls Try.prog 72 #[.int .i64 p, fv, gv] w (GivesPB (if validB p (addAll p M L) = true then addAll p M L else []) (validB p (addAll p M L)) w) := by
  have HB := Lib.hid (bothAt p fv gv L M w hL hM true (by unfold okB; dsimp only; rw [hp, hVL, hVM]; rfl))
  obtain ⟨m0, a2, cap2, rfl, m1⟩ := hM
  have HS := Lib.hid (fun (w' : World) (hb : Below w.heap.size w w') => sSum p fv a2 cap2 L M w' hp (hL.below hb) (Trms.below ⟨m0, a2, cap2, rfl, m1⟩ hb) hVL hVM)
  have HT := Lib.hid (fun (B : Nat) (v : Value) (w' : World) (hR : Row w' B v (addAll p M L)) => sTold B p hp (addAll p M L) v w' hR (by
    have h1 := addAll_len (p := p) M L
    have h2 := validB_len hVL
    have h3 := validB_len hVM
    omega))
  clear m1
  obtain ⟨_, a, cap, rfl, _⟩ := hL
  obtain ⟨R, hR⟩ : ∃ R, R = addAll p M L := ⟨_, rfl⟩
  rw [← hR] at HS HT ⊢
  obtain ⟨b, hb⟩ : ∃ b, b = validB p R := ⟨_, rfl⟩
  rw [← hb] at HT ⊢
  obtain ⟨R2, hR2⟩ : ∃ R2, R2 = (if b = true then R else []) := ⟨_, rfl⟩
  rw [← hR2] at HT ⊢
  clear hR hb hR2 hp hVL hVM
  go_enter Try.func72, Try.ntmps72
  go_wp2_with first
    | (go_at_call 108; refine HB.out.mono ?_; rintro e w2 ⟨rfl, hb2⟩)
    | (go_at_call 120; refine (HS.out _ hb2).mono ?_; rintro e w3 ⟨v3, rfl, hR3, hb3⟩)
    | (go_at_call 119; refine (HT.out _ _ _ hR3).mono ?_; rintro e w4 ⟨v4, rfl, ho4, hb4⟩)
  have h3 := hb2.trans (hb3.mono hb2.size)
  refine bodyPost_ret (v := .tuple #[v4, .bool b]) (by simp [results, Try.results72, go_sem]) rfl ⟨_, rfl, ownTrms_mono ho4 h3.size, h3.trans (hb4.mono h3.size)⟩
end Go.Proofs.Ytajabchbdhjdiaa
namespace Go.Proofs.Ytajabchbdhjdiaa
open Go.RowKit
set_option maxRecDepth 100000 in
set_option maxHeartbeats 4000000 in
theorem iBoth (p : Int) (b off : Nat) (zs : List VT) (w : World) (hl : zs.length ≤ 1000000) (hb : b < w.heap.size)
    (hc : ∀ k, k < zs.length → w.cell? ⟨b, off + k, none⟩ = some (zs.getD k vt0).1) (hT : ∀ k, k < zs.length → Trms w (zs.getD k vt0).1 (zs.getD k vt0).2) :
    Calls Try.prog 112 #[.int .i64 p, .slice (some ⟨b, off, none⟩) zs.length zs.length] w fun e w' => e = .returned (.bool (zs.all (okB p))) ∧ Below w.heap.size w w' := by
  have hC := Lib.hid hc
  have HT := Lib.hid hT
  clear hc hT
  go_enter Try.func112, Try.ntmps112
  go_wp2_with fail
  go_loopw [9] (fun i wr => ∃ k : Nat, k ≤ zs.length ∧ i = .int .i64 k ∧ (zs.take k).all (okB p) = true ∧ Below w.heap.size w wr) (fun i _ => zs.length - (intOf i).toNat)
  case atStart => exact ⟨0, Nat.zero_le _, rfl, by simp, Below.refl _ _⟩
  case round =>
    obtain ⟨k, hk, rfl, hall, hbw⟩ := hrel
    have Hall := Lib.hid hall
    have Hb := Lib.hid hbw
    clear hall
    by_cases hlt : k < zs.length
    · have hltp : (k : Int) < (zs.length : Int) := by omega
      have hk0 : (0 : Int) ≤ (k : Int) := by omega
      have hck : wr.cell? ⟨b, off + k, none⟩ = some (zs.getD k vt0).1 := by rw [hbw.cell (p := ⟨b, off + k, none⟩) hb]; exact hC.out k hlt
      have hz1 := vall_no p zs k hlt
      have hz2 := vall_snoc p zs k hlt
      have hTk := (HT.out k hlt).below hbw
      clear hbw
      generalize zs.getD k vt0 = z at hck hz1 hz2 hTk
      obtain ⟨zv, zl⟩ := z
      dsimp only at hck hTk
      have hV := iPolyValid p zv zl wr hTk
      obtain ⟨h0, a, cap, rfl, h2⟩ := hTk
      have HV := Lib.hid hV
      clear hV h0 h2
      cases hE : okB p (.slice a zl.length cap, zl)
      · have hz := Lib.hid (hz1 hE)
        unfold okB at hE
        dsimp only at hE
        rw [hE] at HV
        clear hz1 hz2 hE
        go_wp2_with (go_at_call 48; refine HV.out.mono ?_; rintro e w2 ⟨rfl, hb2⟩)
        go_ret
        exact ⟨ret_bool hz.out.symm, Hb.out.trans (hb2.mono Hb.out.size)⟩
      · have hz := Lib.hid hz2
        have hE' := Lib.hid hE
        unfold okB at hE
        dsimp only at hE
        rw [hE] at HV
        clear hz1 hz2 hE
        go_wp2_with (go_at_call 48; refine HV.out.mono ?_; rintro e w2 ⟨rfl, hb2⟩)
        have H2 := Lib.hid (Hb.out.trans (hb2.mono Hb.out.size))
        clear hb2
        go_roundw
        case rel => exact ⟨k + 1, by omega, by go_num, by rw [hz.out, Hall.out, hE'.out]; rfl, H2.out⟩
        case measure => simp [intOf]; omega
    · have hkl : ¬ (k : Int) < (zs.length : Int) := by omega
      go_wp2_with fail
      go_ret
      exact ⟨ret_bool (by rw [← Hall.out, List.take_of_length_le (by omega)]), Hb.out⟩
theorem iBothAt (p : Int) (fv gv : Value) (L M : List Trm) (w : World) (hL : Trms w fv L) (hM : Trms w gv M) (r : Bool) (hr : (okB p (fv, L) && okB p (gv, M)) = r) :
    Calls Try.prog 112 #[.int .i64 p, .slice (some ⟨w.heap.size, 0, none⟩) 2 2] (w.alloc (Obj.cells #[fv, gv] 27)) fun e w' => e = .returned (.bool r) ∧ Below w.heap.size w w' := by
  have hb : Below w.heap.size w (w.alloc (Obj.cells #[fv, gv] 27)) := Below.alloc (Below.refl _ _) (Nat.le_refl _) _
  have h := iBoth p w.heap.size 0 [(fv, L), (gv, M)] (w.alloc (Obj.cells #[fv, gv] 27)) (by simp) (by simp)
    (fun k hk => by
      match k, hk with
      | 0, _ => simp
      | 1, _ => simp
      | k + 2, hk => exact absurd hk (by simp))
    (fun k hk => by
      match k, hk with
      | 0, _ => exact hL.below hb
      | 1, _ => exact hM.below hb
      | k + 2, hk => exact absurd hk (by simp))
  refine h.mono fun e w' h => ⟨?_, hb.trans (h.2.mono hb.size)⟩
  rw [h.1, ← hr]
  simp
theorem addAll_self {p : Int} {L : List Trm} (hs : Srt L) (he : Els p L) : ∀ k, k ≤ L.length → addAll p (L.take k) [] = L.take k
  | 0, _ => by simp [addAll]
  | k + 1, h => by
    have hkl : k < L.length := by omega
    rw [List.take_succ_eq_append_getElem hkl, addAll_snoc, addAll_self hs he k (by omega), addT_end ?_ ?_]
    · intro y hy
      obtain ⟨j, hj, rfl⟩ := List.getElem_of_mem hy
      simp only [List.length_take] at hj
      rw [List.getElem_take]
      exact List.pairwise_iff_getElem.1 hs j k (by omega) hkl (by omega)
    · have := he _ (List.getElem_mem hkl)
      omega
theorem put_facts {p : Int} {L M : List Trm} (hp : isP p = true) (hL : validB p L = true) (hM : validB p M = true) (k : Nat) : Srt (addAll p (M.take k) L) ∧ Els p (addAll p (M.take k) L) ∧ (addAll p (M.take k) L).length ≤ 120 := sum_facts hp hL hM k
set_option maxRecDepth 100000 in
set_option maxHeartbeats 4000000 in
theorem iAddPoly_no (p : Int) (fv gv : Value) (L M : List Trm) (w : World) (hL : Trms w fv L) (hM : Trms w gv M) (hr : (okB p (fv, L) && okB p (gv, M)) = false) :
    Calls Try.prog 62 #[.int .i64 p, fv, gv] w (GivesPB [] false w) := by
  have HB := Lib.hid (iBothAt p fv gv L M w hL hM false hr)
  clear hr
  obtain ⟨_, a, cap, rfl, _⟩ := hL
  obtain ⟨_, a2, cap2, rfl, _⟩ := hM
  go_enter Try.func62, Try.ntmps62
  go_wp2_with (go_at_call 112; refine HB.out.mono ?_; rintro e w2 ⟨rfl, hb2⟩)
  refine bodyPost_ret (v := .tuple #[.slice none 0 0, .bool false]) (by simp [results, Try.results62, go_sem]) rfl ⟨_, rfl, (Row.nil w2 w.heap.size).own (by simp), hb2⟩
set_option maxRecDepth 100000 in
set_option maxHeartbeats 8000000 in
theorem iAddPoly_yes (p : Int) (fv gv : Value) (L M : List Trm) (w : World) (hL : Trms w fv L) (hM : Trms w gv M) (hp : isP p = true) (hVL : validB p L = true) (hVM : validB p M = true) :
    Calls Try.prog 62 #[.int .i64 p, fv, gv] w (GivesPB (if validB p (addAll p M L) = true then addAll p M L else []) (validB p (addAll p M L)) w) := by
  have HB := Lib.hid (iBothAt p fv gv L M w hL hM true (by unfold okB; dsimp only; rw [hp, hVL, hVM]; rfl))
  have HP := Lib.hid hp
  have HVL := Lib.hid hVL
  have HVM := Lib.hid hVM
  have hl1 := validB_len hVL
  have hm1 := validB_len hVM
  obtain ⟨m0, a2, cap2, rfl, m1⟩ := hM
  have HM := Lib.hid (show Trms w (.slice a2 M.length cap2) M from ⟨m0, a2, cap2, rfl, m1⟩)
  obtain ⟨l0, a, cap, rfl, l1⟩ := hL
  have HL := Lib.hid (show Trms w (.slice a L.length cap) L from ⟨l0, a, cap, rfl, l1⟩)
  obtain ⟨R, hRe⟩ : ∃ R, R = addAll p M L := ⟨_, rfl⟩
  rw [← hRe]
  obtain ⟨b, hbe⟩ : ∃ b, b = validB p R := ⟨_, rfl⟩
  rw [← hbe]
  obtain ⟨R2, hR2⟩ : ∃ R2, R2 = (if b = true then R else []) := ⟨_, rfl⟩
  rw [← hR2]
  have HRE := Lib.hid hRe
  have HBE := Lib.hid hbe
  have HR2 := Lib.hid hR2
  clear m0 m1 l0 l1 hp hVL hVM hRe hbe hR2
  go_enter Try.func62, Try.ntmps62
  go_wp2_with (go_at_call 112; refine HB.out.mono ?_; rintro e w2 ⟨rfl, hb2⟩)
  obtain ⟨W, hW⟩ : ∃ W, W = w2.alloc (Obj.cells #[.int .i64 p, .slice none 0 0] 125) := ⟨_, rfl⟩
  have HW := Lib.hid (show SumW W w2.heap.size p (.slice none 0 0) ∧ Row W w.heap.size (.slice none 0 0) (addAll p (L.take 0) []) ∧ Value.ownBlock (.slice none 0 0) ≠ some w2.heap.size ∧ Below w.heap.size w W by
    rw [hW]
    exact ⟨⟨by simp [go_sem], by simp [go_sem], World.frozen?_alloc_at _ _ _ 0 rfl, World.frozen?_alloc_at _ _ _ 1 rfl, by simp⟩, Row.nil _ _, by simp [Value.ownBlock], Below.alloc hb2 hb2.size _⟩)
  rw [← hW]
  obtain ⟨S, hSe⟩ : ∃ S, S = w2.heap.size := ⟨_, rfl⟩
  have hSB : w.heap.size ≤ S := by rw [hSe]; exact hb2.size
  rw [← hSe] at HW ⊢
  clear hSe hW hb2
  go_loopw [23] (fun i wr => ∃ (k : Nat) (v : Value), k ≤ L.length ∧ i = .int .i64 k ∧ SumW wr S p v ∧ Row wr w.heap.size v (addAll p (L.take k) []) ∧ v.ownBlock ≠ some S ∧ Below w.heap.size w wr) (fun i _ => L.length - (intOf i).toNat)
  case atStart => exact ⟨0, _, by omega, rfl, HW.out⟩
  case round =>
    clear HW
    obtain ⟨k, v, hk, rfl, hS, hR, hv, hb⟩ := hrel
    by_cases hlt : k < L.length
    · have hltp : (k : Int) < (L.length : Int) := by omega
      have hk0 : (0 : Int) ≤ (k : Int) := by omega
      obtain ⟨x, hx⟩ : ∃ x, x = L.getD k default := ⟨_, rfl⟩
      have hel := validB_el HVL.out hlt hx
      obtain ⟨g, off, rfl, hg, hc⟩ : ∃ g off, a = some ⟨g, off, none⟩ ∧ g < w.heap.size ∧ ∀ j : Nat, j < L.length → TAt w g (off + j * 4) (L.getD j default) := by
        obtain ⟨_, a', cap', he, h⟩ := HL.out
        injection he with e1 e2 e3
        subst e1
        rcases h with h | h
        · rw [h] at hlt; simp at hlt
        · exact h
      obtain ⟨b0, b1, b2, b3⟩ := (hc k hlt).below hb hg
      rw [← hx] at b0 b1 b2 b3
      have HXK := Lib.hid (show addT p x (addAll p (L.take k) []) = addAll p (L.take (k + 1)) [] by rw [hx, addAll_take hlt])
      have HS := Lib.hid hS
      have HR := Lib.hid hR
      have HV2 := Lib.hid hv
      have Hb := Lib.hid hb
      have Hr := Lib.hid (Below.alloc (Below.refl wr.heap.size wr) (Nat.le_refl _) (Obj.cells #[.int .i64 x.a, .int .i64 x.b, .int .i64 x.c, .int .i64 x.t] 69))
      have H3 := Lib.hid (Hb.out.trans (Hr.out.mono Hb.out.size))
      clear hx hS hR hv hb hc
      go_wp2_with fail
      have hf := (sum_facts HP.out (validB_nil p) HVL.out) k
      refine (iPut w.heap.size S p v (addAll p (L.take k) []) x _ (HS.out.below Hr.out) (HR.out.below Hr.out) H3.out.size HP.out hf.1 hf.2.1 (isE_iff.2 (by omega)) (by omega) HV2.out).mono ?_
      rintro e w4 hP4
      have hlow := hP4.low (HR.out.below Hr.out) hSB H3.out.size
      obtain ⟨rfl, v', hS', hR', hv', _, _⟩ := hP4
      rw [HXK.out] at hR'
      have HQ := Lib.hid (And.intro hS' (And.intro hR' (And.intro hv' (H3.out.trans hlow))))
      clear hS' hR' hv' hlow hf
      go_wp2_with fail
      go_roundw
      case rel => exact ⟨k + 1, v', by omega, by go_num, HQ.out⟩
      case measure => simp [intOf]; omega
    · have hkl : k = L.length := by omega
      subst hkl
      rw [addAll_self (validB_srt HVL.out) (validB_els HVL.out) L.length (Nat.le_refl _), List.take_length] at hR
      have HW := Lib.hid (And.intro hS (And.intro hR (And.intro hv hb)))
      clear hS hR hv hb
      go_wp2_with fail
      go_loopw [32] (fun i wr => ∃ (k : Nat) (v : Value), k ≤ M.length ∧ i = .int .i64 k ∧ SumW wr S p v ∧ Row wr w.heap.size v (addAll p (M.take k) L) ∧ v.ownBlock ≠ some S ∧ Below w.heap.size w wr) (fun i _ => M.length - (intOf i).toNat)
      case atStart => exact ⟨0, _, by omega, rfl, HW.out⟩
      case round =>
        clear HW
        obtain ⟨k, v, hk, rfl, hS, hR, hv, hb⟩ := hrel
        by_cases hlt : k < M.length
        · have hltp : (k : Int) < (M.length : Int) := by omega
          have hk0 : (0 : Int) ≤ (k : Int) := by omega
          obtain ⟨x, hx⟩ : ∃ x, x = M.getD k default := ⟨_, rfl⟩
          have hel := validB_el HVM.out hlt hx
          obtain ⟨g, off, rfl, hg, hc⟩ : ∃ g off, a2 = some ⟨g, off, none⟩ ∧ g < w.heap.size ∧ ∀ j : Nat, j < M.length → TAt w g (off + j * 4) (M.getD j default) := by
            obtain ⟨_, a', cap', he, h⟩ := HM.out
            injection he with e1 e2 e3
            subst e1
            rcases h with h | h
            · rw [h] at hlt; simp at hlt
            · exact h
          obtain ⟨b0, b1, b2, b3⟩ := (hc k hlt).below hb hg
          rw [← hx] at b0 b1 b2 b3
          have HXK := Lib.hid (show addT p x (addAll p (M.take k) L) = addAll p (M.take (k + 1)) L by rw [hx, addAll_take hlt])
          have HS := Lib.hid hS
          have HR := Lib.hid hR
          have HV2 := Lib.hid hv
          have Hb := Lib.hid hb
          have Hr := Lib.hid (Below.alloc (Below.refl wr.heap.size wr) (Nat.le_refl _) (Obj.cells #[.int .i64 x.a, .int .i64 x.b, .int .i64 x.c, .int .i64 x.t] 69))
          have H3 := Lib.hid (Hb.out.trans (Hr.out.mono Hb.out.size))
          clear hx hS hR hv hb hc
          go_wp2_with fail
          have hf := (sum_facts HP.out HVL.out HVM.out) k
          refine (iPut w.heap.size S p v (addAll p (M.take k) L) x _ (HS.out.below Hr.out) (HR.out.below Hr.out) H3.out.size HP.out hf.1 hf.2.1 (isE_iff.2 (by omega)) (by omega) HV2.out).mono ?_
          rintro e w4 hP4
          have hlow := hP4.low (HR.out.below Hr.out) hSB H3.out.size
          obtain ⟨rfl, v', hS', hR', hv', _, _⟩ := hP4
          rw [HXK.out] at hR'
          have HQ := Lib.hid (And.intro hS' (And.intro hR' (And.intro hv' (H3.out.trans hlow))))
          clear hS' hR' hv' hlow hf
          go_wp2_with fail
          go_roundw
          case rel => exact ⟨k + 1, v', by omega, by go_num, HQ.out⟩
          case measure => simp [intOf]; omega
        · have hkl : k = M.length := by omega
          subst hkl
          rw [List.take_length] at hR
          have hf := sum_facts HP.out HVL.out HVM.out M.length
          rw [List.take_length] at hf
          have hown := hR.own (by omega)
          rw [← HRE.out] at hown
          obtain ⟨hl2, ao, co, rfl, _⟩ := hown.trms
          have HO := Lib.hid hown
          have HS := Lib.hid hS
          have Hb := Lib.hid hb
          have HT := Lib.hid (iPolyOf S p ao co R wr hS hown.trms)
          rw [HP.out, ← HBE.out] at HT
          clear hown hS hb hR hf hv
          cases b
          · have hz : R2 = [] := by rw [HR2.out]; rfl
            subst hz
            go_wp2_with (go_at_call 111; refine HT.out.mono ?_; rintro e w5 ⟨rfl, hb5⟩)
            have H5 := Lib.hid (Hb.out.trans (hb5.mono Hb.out.size))
            refine bodyPost_ret (v := .tuple #[.slice none 0 0, .bool false]) (by simp [results, Try.results62, go_sem]) rfl ⟨_, rfl, (Row.nil _ w.heap.size).own (by simp), H5.out⟩
          · have hz : R2 = R := by rw [HR2.out]; rfl
            subst hz
            go_wp2_with (go_at_call 111; refine HT.out.mono ?_; rintro e w5 ⟨rfl, hb5⟩)
            have H5 := Lib.hid (And.intro (HO.out.below hb5) (Hb.out.trans (hb5.mono Hb.out.size)))
            refine bodyPost_ret (v := .tuple #[.slice ao R2.length co, .bool true]) (by simp [results, Try.results62, go_sem]) rfl ⟨_, rfl, H5.out.1, H5.out.2⟩
end Go.Proofs.Ytajabchbdhjdiaa
namespace Go.Proofs.Ytajabchbdhjdiaa
open Go.RowKit
def addOk (p : Int) (L M : List Trm) : Bool := ((isP p && validB p L) && (isP p && validB p M)) && validB p (addAll p M L)
def sumV (p : Int) (L M : List Trm) : List Trm := if addOk p L M = true then addAll p M L else []
theorem addOk_no {p : Int} {L M : List Trm} (h : ((isP p && validB p L) && (isP p && validB p M)) = false) : addOk p L M = false ∧ sumV p L M = [] := by
  have e : addOk p L M = false := by unfold addOk; rw [h]; rfl
  exact ⟨e, by unfold sumV; rw [e]; rfl⟩
theorem addOk_yes {p : Int} {L M : List Trm} (h : ((isP p && validB p L) && (isP p && validB p M)) = true) : addOk p L M = validB p (addAll p M L) ∧ sumV p L M = (if validB p (addAll p M L) = true then addAll p M L else []) := by
  have e : addOk p L M = validB p (addAll p M L) := by unfold addOk; rw [h, Bool.true_and]
  exact ⟨e, by unfold sumV; rw [e]⟩
theorem sAddPoly (p : Int) (f g : Value) (L M : List Trm) (w : World) (hL : Trms w f L) (hM : Trms w g M) :
    Calls Try.prog 72 #[.int .i64 p, f, g] w (GivesPB (sumV p L M) (addOk p L M) w) := by
  cases h : ((isP p && validB p L) && (isP p && validB p M))
  · rw [(addOk_no h).1, (addOk_no h).2]
    exact sAddPoly_no p f g L M w hL hM h
  · rw [(addOk_yes h).1, (addOk_yes h).2]
    simp only [Bool.and_eq_true] at h
    exact sAddPoly_yes p f g L M w hL hM h.1.1 h.1.2 h.2.2
theorem iAddPoly (p : Int) (f g : Value) (L M : List Trm) (w : World) (hL : Trms w f L) (hM : Trms w g M) :
    Calls Try.prog 62 #[.int .i64 p, f, g] w (GivesPB (sumV p L M) (addOk p L M) w) := by
  cases h : ((isP p && validB p L) && (isP p && validB p M))
  · rw [(addOk_no h).1, (addOk_no h).2]
    exact iAddPoly_no p f g L M w hL hM h
  · rw [(addOk_yes h).1, (addOk_yes h).2]
    simp only [Bool.and_eq_true] at h
    exact iAddPoly_yes p f g L M w hL hM h.1.1 h.1.2 h.2.2
end Go.Proofs.Ytajabchbdhjdiaa
namespace Go.Proofs.Ytajabchbdhjdiaa
open Go.RowKit
/-- the product of two terms -/
def mulTT (p : Int) (x y : Trm) : Trm := ⟨x.a + y.a, x.b + y.b, x.c + y.c, x.t * y.t % p⟩
/-- the products of all terms of two polynomials, in order -/
def prodT (p : Int) (L M : List Trm) : List Trm := L.flatMap fun x => M.map (mulTT p x)
/-- the sum of the products of the first k terms with all, and of the next one with the first j -/
def prodK (p : Int) (L M : List Trm) (k j : Nat) : List Trm := addAll p (prodT p (L.take k) M ++ (M.take j).map (mulTT p (L.getD k default))) []
theorem prodK_zero (p : Int) (L M : List Trm) : prodK p L M 0 0 = [] := by simp [prodK, prodT, addAll]
theorem prodK_next {p : Int} {L M : List Trm} {k j : Nat} (hj : j < M.length) : addT p (mulTT p (L.getD k default) (M.getD j default)) (prodK p L M k j) = prodK p L M k (j + 1) := by
  unfold prodK
  rw [List.take_succ_eq_append_getElem hj, List.map_append, List.map_singleton, ← List.append_assoc, addAll_snoc]
  simp [List.getD_eq_getElem?_getD, hj]
theorem prodK_row {p : Int} {L M : List Trm} {k : Nat} (hk : k < L.length) : prodK p L M k M.length = prodK p L M (k + 1) 0 := by
  unfold prodK prodT
  rw [List.take_succ_eq_append_getElem hk, List.flatMap_append, List.take_length]
  simp [List.getD_eq_getElem?_getD, hk]
theorem prodK_end (p : Int) (L M : List Trm) : prodK p L M L.length 0 = addAll p (prodT p L M) [] := by
  unfold prodK
  simp
theorem prodT_len (p : Int) (M : List Trm) : ∀ L : List Trm, (prodT p L M).length = L.length * M.length
  | [] => by simp [prodT]
  | x :: r => by
    have h := prodT_len p M r
    unfold prodT at h ⊢
    rw [List.flatMap_cons, List.length_append, h, List.length_map, List.length_cons, Nat.add_mul]
    omega
theorem prodK_facts {p : Int} {L M : List Trm} (hp : isP p = true) {k j : Nat} (hk : k ≤ L.length) (hj : j ≤ M.length) (hL : L.length ≤ 60) (hM : M.length ≤ 60) : Srt (prodK p L M k j) ∧ Els p (prodK p L M k j) ∧ (prodK p L M k j).length ≤ 3660 := by
  have hb := isP_bd hp
  refine ⟨addAll_srt _ _ List.Pairwise.nil, addAll_els (by omega) _ _ (fun x hx => ?_) (fun y hy => by cases hy), ?_⟩
  · rcases List.mem_append.1 hx with h | h
    · obtain ⟨y, _, h⟩ := List.mem_flatMap.1 h
      obtain ⟨z, _, rfl⟩ := List.mem_map.1 h
      exact emod_bd hb.1
    · obtain ⟨z, _, rfl⟩ := List.mem_map.1 h
      exact emod_bd hb.1
  · have := addAll_len (p := p) (prodT p (L.take k) M ++ (M.take j).map (mulTT p (L.getD k default))) []
    rw [List.length_append, prodT_len, List.length_map, List.length_take, List.length_take, List.length_nil] at this
    have h1 : min k L.length * M.length ≤ 60 * 60 := Nat.mul_le_mul (by omega) hM
    unfold prodK
    omega
set_option maxRecDepth 100000 in
set_option maxHeartbeats 4000000 in
theorem iMulPoly_no (p : Int) (fv gv : Value) (L M : List Trm) (w : World) (hL : Trms w fv L) (hM : Trms w gv M) (hr : (okB p (fv, L) && okB p (gv, M)) = false) :
    Calls Try.prog 79 #[.int .i64 p, fv, gv] w (GivesPB [] false w) := by
  have HB := Lib.hid (iBothAt p fv gv L M w hL hM false hr)
  clear hr
  obtain ⟨_, a, cap, rfl, _⟩ := hL
  obtain ⟨_, a2, cap2, rfl, _⟩ := hM
  go_enter Try.func79, Try.ntmps79
  go_wp2_with (go_at_call 112; refine HB.out.mono ?_; rintro e w2 ⟨rfl, hb2⟩)
  refine bodyPost_ret (v := .tuple #[.slice none 0 0, .bool false]) (by simp [results, Try.results79, go_sem]) rfl ⟨_, rfl, (Row.nil w2 w.heap.size).own (by simp), hb2⟩
set_option maxRecDepth 100000 in
set_option maxHeartbeats 8000000 in
theorem iMulPoly_yes (p : Int) (fv gv : Value) (L M : List Trm) (w : World) (hL : Trms w fv L) (hM : Trms w gv M) (hp : isP p = true) (hVL : validB p L = true) (hVM : validB p M = true) :
    Calls Try.prog 79 #[.int .i64 p, fv, gv] w (GivesPB (if validB p (addAll p (prodT p L M) []) = true then addAll p (prodT p L M) [] else []) (validB p (addAll p (prodT p L M) [])) w) := by
  have HB := Lib.hid (iBothAt p fv gv L M w hL hM true (by unfold okB; dsimp only; rw [hp, hVL, hVM]; rfl))
  have HP := Lib.hid hp
  have HVL := Lib.hid hVL
  have HVM := Lib.hid hVM
  have hl1 := validB_len hVL
  have hm1 := validB_len hVM
  obtain ⟨m0, a2, cap2, rfl, m1⟩ := hM
  have HM := Lib.hid (show Trms w (.slice a2 M.length cap2) M from ⟨m0, a2, cap2, rfl, m1⟩)
  obtain ⟨l0, a, cap, rfl, l1⟩ := hL
  have HL := Lib.hid (show Trms w (.slice a L.length cap) L from ⟨l0, a, cap, rfl, l1⟩)
  obtain ⟨R, hRe⟩ : ∃ R, R = addAll p (prodT p L M) [] := ⟨_, rfl⟩
  rw [← hRe]
  obtain ⟨b, hbe⟩ : ∃ b, b = validB p R := ⟨_, rfl⟩
  rw [← hbe]
  obtain ⟨R2, hR2⟩ : ∃ R2, R2 = (if b = true then R else []) := ⟨_, rfl⟩
  rw [← hR2]
  have HRE := Lib.hid hRe
  have HBE := Lib.hid hbe
  have HR2 := Lib.hid hR2
  clear m0 m1 l0 l1 hp hVL hVM hRe hbe hR2
  go_enter Try.func79, Try.ntmps79
  go_wp2_with (go_at_call 112; refine HB.out.mono ?_; rintro e w2 ⟨rfl, hb2⟩)
  obtain ⟨W, hW⟩ : ∃ W, W = w2.alloc (Obj.cells #[.int .i64 p, .slice none 0 0] 125) := ⟨_, rfl⟩
  have HW := Lib.hid (show SumW W w2.heap.size p (.slice none 0 0) ∧ Row W w.heap.size (.slice none 0 0) (prodK p L M 0 0) ∧ Value.ownBlock (.slice none 0 0) ≠ some w2.heap.size ∧ Below w.heap.size w W by
    rw [hW, prodK_zero]
    exact ⟨⟨by simp [go_sem], by simp [go_sem], World.frozen?_alloc_at _ _ _ 0 rfl, World.frozen?_alloc_at _ _ _ 1 rfl, by simp⟩, Row.nil _ _, by simp [Value.ownBlock], Below.alloc hb2 hb2.size _⟩)
  rw [← hW]
  obtain ⟨S, hSe⟩ : ∃ S, S = w2.heap.size := ⟨_, rfl⟩
  have hSB : w.heap.size ≤ S := by rw [hSe]; exact hb2.size
  rw [← hSe] at HW ⊢
  clear hSe hW hb2
  go_loopw [23] (fun i wr => ∃ (k : Nat) (v : Value), k ≤ L.length ∧ i = .int .i64 k ∧ SumW wr S p v ∧ Row wr w.heap.size v (prodK p L M k 0) ∧ v.ownBlock ≠ some S ∧ Below w.heap.size w wr) (fun i _ => L.length - (intOf i).toNat)
  case atStart => exact ⟨0, _, by omega, rfl, HW.out⟩
  case round =>
    clear HW
    obtain ⟨k, v, hk, rfl, hS, hR, hv, hb⟩ := hrel
    by_cases hlt : k < L.length
    · have hltp : (k : Int) < (L.length : Int) := by omega
      have hk0 : (0 : Int) ≤ (k : Int) := by omega
      obtain ⟨x, hx⟩ : ∃ x, x = L.getD k default := ⟨_, rfl⟩
      have HX := Lib.hid hx
      have HEX := Lib.hid (validB_el HVL.out hlt hx)
      have HPX := Lib.hid (validB_pows HVL.out hlt hx)
      obtain ⟨g, off, rfl, hg, hc⟩ : ∃ g off, a = some ⟨g, off, none⟩ ∧ g < w.heap.size ∧ ∀ j : Nat, j < L.length → TAt w g (off + j * 4) (L.getD j default) := by
        obtain ⟨_, a', cap', he, h⟩ := HL.out
        injection he with e1 e2 e3
        subst e1
        rcases h with h | h
        · rw [h] at hlt; simp at hlt
        · exact h
      obtain ⟨b0, b1, b2, b3⟩ := (hc k hlt).below hb hg
      rw [← hx] at b0 b1 b2 b3
      have hn : v.ownBlock ≠ some wr.heap.size := fun e => by have := (World.ownsRow.lt hR _ e).2; omega
      have HIN := Lib.hid (show ∀ W, W = wr.alloc (Obj.cells #[.int .i64 x.a, .int .i64 x.b, .int .i64 x.c, .int .i64 x.t] 69) → SumW W S p v ∧ Row W w.heap.size v (prodK p L M k 0) ∧ v.ownBlock ≠ some S ∧ v.ownBlock ≠ some wr.heap.size ∧ TAt W wr.heap.size 0 x ∧ wr.heap.size < W.heap.size ∧ Below w.heap.size w W from fun W hW => by
        have hb2 : Below wr.heap.size wr W := by rw [hW]; exact Below.alloc (Below.refl _ _) (Nat.le_refl _) _
        exact ⟨hS.below hb2, hR.below hb2, hv, hn, by rw [hW]; refine ⟨?_, ?_, ?_, ?_⟩ <;> simp [go_sem], by rw [hW]; simp, hb.trans (hb2.mono hb.size)⟩)
      have hSn : S < wr.heap.size := hS.sz
      clear hx hS hR hv hb hc hn
      go_wp2_with fail
      obtain ⟨W1, hW1⟩ : ∃ W, W = wr.alloc (Obj.cells #[.int .i64 x.a, .int .i64 x.b, .int .i64 x.c, .int .i64 x.t] 69) := ⟨_, rfl⟩
      have HI1 := Lib.hid (HIN.out W1 hW1)
      rw [← hW1]
      obtain ⟨n, hne⟩ : ∃ n, n = wr.heap.size := ⟨_, rfl⟩
      rw [← hne] at HI1 hSn ⊢
      clear hW1 hne HIN b0 b1 b2 b3
      go_loopw [29] (fun i wr => ∃ (j : Nat) (v : Value), j ≤ M.length ∧ i = .int .i64 j ∧ SumW wr S p v ∧ Row wr w.heap.size v (prodK p L M k j) ∧ v.ownBlock ≠ some S ∧ v.ownBlock ≠ some n ∧ TAt wr n 0 x ∧ n < wr.heap.size ∧ Below w.heap.size w wr) (fun i _ => M.length - (intOf i).toNat)
      case atStart => exact ⟨0, _, by omega, rfl, HI1.out⟩
      case round =>
        clear HI1
        obtain ⟨j, v, hj, rfl, hS, hR, hv, hvn, hT, hnw, hb⟩ := hrel
        by_cases hjt : j < M.length
        · have hjtp : (j : Int) < (M.length : Int) := by omega
          have hj0 : (0 : Int) ≤ (j : Int) := by omega
          obtain ⟨y, hy⟩ : ∃ y, y = M.getD j default := ⟨_, rfl⟩
          have hely := validB_el HVM.out hjt hy
          have hpy := validB_pows HVM.out hjt hy
          obtain ⟨g2, off2, rfl, hg2, hc⟩ : ∃ g off, a2 = some ⟨g, off, none⟩ ∧ g < w.heap.size ∧ ∀ j : Nat, j < M.length → TAt w g (off + j * 4) (M.getD j default) := by
            obtain ⟨_, a', cap', he, h⟩ := HM.out
            injection he with e1 e2 e3
            subst e1
            rcases h with h | h
            · rw [h] at hjt; simp at hjt
            · exact h
          obtain ⟨b0, b1, b2, b3⟩ := (hc j hjt).below hb hg2
          rw [← hy] at b0 b1 b2 b3
          have hex := HEX.out
          have HMT := Lib.hid (fun w => by
            have := iMulT p x y w HPX.out hpy
            rw [mulV_is HP.out (isE_iff.2 (by omega)) (isE_iff.2 (by omega))] at this
            exact this)
          have HXK := Lib.hid (show addT p (mulTT p x y) (prodK p L M k j) = prodK p L M k (j + 1) by rw [HX.out, hy, prodK_next hjt])
          have HS := Lib.hid hS
          have HR := Lib.hid hR
          have HV2 := Lib.hid hv
          have HV3 := Lib.hid hvn
          have HT := Lib.hid hT
          have Hb := Lib.hid hb
          have Ha := Lib.hid (Below.alloc (Below.refl wr.heap.size wr) (Nat.le_refl _) (Obj.cells #[.int .i64 y.a, .int .i64 y.b, .int .i64 y.c, .int .i64 y.t] 69))
          obtain ⟨t0, t1, t2, t3⟩ := hT
          simp only [Nat.zero_add] at t0 t1 t2 t3
          clear hy hS hR hv hvn hb hc hely hpy hex
          go_wp2_with fail
          refine (HMT.out _).mono ?_
          rintro e w3 ⟨rfl, hb3⟩
          have Hr := Lib.hid (Ha.out.trans (hb3.mono Ha.out.size))
          have H3 := Lib.hid (Hb.out.trans (Hr.out.mono Hb.out.size))
          clear hb3
          go_wp2_with fail
          have hf := prodK_facts (p := p) HP.out (k := k) (j := j) hk hj hl1 hm1
          have hpb := isP_bd HP.out
          have hn3 : n < w3.heap.size := Nat.lt_of_lt_of_le hnw Hr.out.size
          refine (iPut w.heap.size S p v (prodK p L M k j) (mulTT p x y) w3 (HS.out.below Hr.out) (HR.out.below Hr.out) H3.out.size HP.out hf.1 hf.2.1 (isE_iff.2 (emod_bd hpb.1)) (by omega) HV2.out).mono ?_
          rintro e w4 hP4
          have hlow := hP4.low (HR.out.below Hr.out) hSB H3.out.size
          obtain ⟨rfl, v', hS', hR', hv', hk', hd'⟩ := hP4
          rw [HXK.out] at hR'
          have hTn : TAt w4 n 0 x := TAt.kept (HT.out.below Hr.out hnw) hk' hn3 (fun h => by
            rcases h with h | h
            · omega
            · exact HV3.out h)
          have hvn' : v'.ownBlock ≠ some n := by
            rcases hd' with h | ⟨q, h, hq⟩
            · rw [h]; exact HV3.out
            · rw [h]; intro e; injection e with e; omega
          have HQ := Lib.hid (And.intro hS' (And.intro hR' (And.intro hv' (And.intro hvn' (And.intro hTn (And.intro (Nat.lt_of_lt_of_le hn3 hk'.size) (H3.out.trans hlow)))))))
          clear hS' hR' hv' hvn' hTn hlow hf hk' hd' t0 t1 t2 t3
          go_wp2_with fail
          go_roundw
          case rel => exact ⟨j + 1, v', by omega, by go_num, HQ.out⟩
          case measure => simp [intOf]; omega
        · have hjl : j = M.length := by omega
          subst hjl
          rw [prodK_row hlt] at hR
          have HQ := Lib.hid (And.intro hS (And.intro hR (And.intro hv hb)))
          clear hS hR hv hvn hT hb
          go_wp2_with fail
          go_roundw
          case rel => exact ⟨k + 1, v, by omega, by go_num, HQ.out⟩
          case measure => simp [intOf]; omega
    · have hkl : k = L.length := by omega
      subst hkl
      have hf := prodK_facts (p := p) HP.out (k := L.length) (j := 0) (Nat.le_refl _) (Nat.zero_le _) hl1 hm1
      have hown := hR.own (by omega)
      rw [prodK_end, ← HRE.out] at hown
      obtain ⟨hl2, ao, co, rfl, _⟩ := hown.trms
      have HO := Lib.hid hown
      have HS := Lib.hid hS
      have Hb := Lib.hid hb
      have HT := Lib.hid (iPolyOf S p ao co R wr hS hown.trms)
      rw [HP.out, ← HBE.out] at HT
      clear hown hS hb hR hf hv
      cases b
      · have hz : R2 = [] := by rw [HR2.out]; rfl
        subst hz
        go_wp2_with (go_at_call 111; refine HT.out.mono ?_; rintro e w5 ⟨rfl, hb5⟩)
        have H5 := Lib.hid (Hb.out.trans (hb5.mono Hb.out.size))
        refine bodyPost_ret (v := .tuple #[.slice none 0 0, .bool false]) (by simp [results, Try.results79, go_sem]) rfl ⟨_, rfl, (Row.nil _ w.heap.size).own (by simp), H5.out⟩
      · have hz : R2 = R := by rw [HR2.out]; rfl
        subst hz
        go_wp2_with (go_at_call 111; refine HT.out.mono ?_; rintro e w5 ⟨rfl, hb5⟩)
        have H5 := Lib.hid (And.intro (HO.out.below hb5) (Hb.out.trans (hb5.mono Hb.out.size)))
        refine bodyPost_ret (v := .tuple #[.slice ao R2.length co, .bool true]) (by simp [results, Try.results79, go_sem]) rfl ⟨_, rfl, H5.out.1, H5.out.2⟩
end Go.Proofs.Ytajabchbdhjdiaa
namespace Go.Proofs.Ytajabchbdhjdiaa
open Go.RowKit
/-- the world inside the model's product: one term in block n, the other in block m, the result in m + 1 -/
structure ZSt (n m : Nat) (x y z : Trm) (w wr : World) : Prop where
  tx : TAt wr n 0 x
  ty : TAt wr m 0 y
  tz : TAt wr (m + 1) 0 z
  fz : ∀ i, wr.frozen? ⟨m + 1, i, none⟩ = false
  nm : n < m
  sz : m + 1 < wr.heap.size
  bm : w.heap.size = m
  low : Below w.heap.size w wr
theorem ZSt.below {n m : Nat} {x y z : Trm} {w wr w1 : World} (h : ZSt n m x y z w wr) (hb : Below wr.heap.size wr w1) : ZSt n m x y z w w1 := by
  have sz := h.sz
  have nm := h.nm
  have e := hb.size
  exact ⟨h.tx.below hb (by omega), h.ty.below hb (by omega), h.tz.below hb sz, fun i => by rw [hb.frozen (p := ⟨m + 1, i, none⟩) sz]; exact h.fz i, nm, by omega, h.bm, h.low.trans (hb.mono h.low.size)⟩
theorem ZSt.other {n m i : Nat} {x y z z' : Trm} {w wr : World} (h : ZSt n m x y z w wr) (v : Value) (ht : TAt (wr.setCell ⟨m + 1, i, none⟩ v) (m + 1) 0 z') : ZSt n m x y z' w (wr.setCell ⟨m + 1, i, none⟩ v) := by
  have nm := h.nm
  obtain ⟨u0, u1, u2, u3⟩ := h.tx
  obtain ⟨q0, q1, q2, q3⟩ := h.ty
  have en : ∀ j, (⟨m + 1, i, none⟩ : Addr) ≠ ⟨n, j, none⟩ := fun j e => by have := congrArg Addr.block e; simp at this; omega
  have em : ∀ j, (⟨m + 1, i, none⟩ : Addr) ≠ ⟨m, j, none⟩ := fun j e => by have := congrArg Addr.block e; simp at this
  refine ⟨⟨?_, ?_, ?_, ?_⟩, ⟨?_, ?_, ?_, ?_⟩, ht, fun j => ?_, nm, by simpa using h.sz, h.bm, h.low.setCell (show w.heap.size ≤ m + 1 by have := h.bm; omega) _⟩
  · rw [World.cell?_setCell_other _ _ _ _ (en _)]; exact u0
  · rw [World.cell?_setCell_other _ _ _ _ (en _)]; exact u1
  · rw [World.cell?_setCell_other _ _ _ _ (en _)]; exact u2
  · rw [World.cell?_setCell_other _ _ _ _ (en _)]; exact u3
  · rw [World.cell?_setCell_other _ _ _ _ (em _)]; exact q0
  · rw [World.cell?_setCell_other _ _ _ _ (em _)]; exact q1
  · rw [World.cell?_setCell_other _ _ _ _ (em _)]; exact q2
  · rw [World.cell?_setCell_other _ _ _ _ (em _)]; exact q3
  · rw [World.frozen?_setCell]; exact h.fz j
theorem ZSt.s0 {n m : Nat} {x y z : Trm} {w wr : World} (h : ZSt n m x y z w wr) (v : Int) : ZSt n m x y ⟨v, z.b, z.c, z.t⟩ w (wr.setCell ⟨m + 1, 0, none⟩ (.int .i64 v)) := by
  obtain ⟨t0, t1, t2, t3⟩ := h.tz
  refine h.other _ ⟨World.cell?_setCell_same _ _ _ t0, ?_, ?_, ?_⟩
  · rw [World.cell?_setCell_other _ _ _ _ (by simp)]; exact t1
  · rw [World.cell?_setCell_other _ _ _ _ (by simp)]; exact t2
  · rw [World.cell?_setCell_other _ _ _ _ (by simp)]; exact t3
theorem ZSt.s1 {n m : Nat} {x y z : Trm} {w wr : World} (h : ZSt n m x y z w wr) (v : Int) : ZSt n m x y ⟨z.a, v, z.c, z.t⟩ w (wr.setCell ⟨m + 1, 1, none⟩ (.int .i64 v)) := by
  obtain ⟨t0, t1, t2, t3⟩ := h.tz
  refine h.other _ ⟨?_, World.cell?_setCell_same _ _ _ t1, ?_, ?_⟩
  · rw [World.cell?_setCell_other _ _ _ _ (by simp)]; exact t0
  · rw [World.cell?_setCell_other _ _ _ _ (by simp)]; exact t2
  · rw [World.cell?_setCell_other _ _ _ _ (by simp)]; exact t3
theorem ZSt.s2 {n m : Nat} {x y z : Trm} {w wr : World} (h : ZSt n m x y z w wr) (v : Int) : ZSt n m x y ⟨z.a, z.b, v, z.t⟩ w (wr.setCell ⟨m + 1, 2, none⟩ (.int .i64 v)) := by
  obtain ⟨t0, t1, t2, t3⟩ := h.tz
  refine h.other _ ⟨?_, ?_, World.cell?_setCell_same _ _ _ t2, ?_⟩
  · rw [World.cell?_setCell_other _ _ _ _ (by simp)]; exact t0
  · rw [World.cell?_setCell_other _ _ _ _ (by simp)]; exact t1
  · rw [World.cell?_setCell_other _ _ _ _ (by simp)]; exact t3
theorem wp_name {P : Program} {c : Code} {Q : Exit → Act → World → Prop} {a : Act} {w : World} (h : ∀ Q', Q' = Q → c.wp P Q' a w) : c.wp P Q a w := h Q rfl
set_option maxRecDepth 100000 in
set_option maxHeartbeats 8000000 in
theorem sProduct (p : Int) (a a2 : Option Addr) (cap cap2 : Nat) (L M : List Trm) (w : World) (hp : isP p = true) (hL : Trms w (.slice a L.length cap) L) (hM : Trms w (.slice a2 M.length cap2) M) (hVL : validB p L = true) (hVM : validB p M = true) :
    Calls Try.prog 151 #[.int .i64 p, .slice a L.length cap, .slice a2 M.length cap2] w fun e w' => ∃ v', e = .returned (.agg #[v']) ∧ Row w' w.heap.size v' (addAll p (prodT p L M) []) ∧ Below w.heap.size w w' := by
  have HP := Lib.hid hp
  have HVL := Lib.hid hVL
  have HVM := Lib.hid hVM
  have HL := Lib.hid hL
  have HM := Lib.hid hM
  have hl1 := validB_len hVL
  have hm1 := validB_len hVM
  obtain ⟨R, hRe⟩ : ∃ R, R = addAll p (prodT p L M) [] := ⟨_, rfl⟩
  rw [← hRe]
  have HRE := Lib.hid hRe
  clear hp hVL hVM hRe hL hM
  go_enter Try.func151, Try.ntmps151
  go_upto_region 1 with fail
  obtain ⟨W0, hW0⟩ : ∃ W, W = w.alloc (Obj.cells #[.slice none 0 0] 101) := ⟨_, rfl⟩
  have hb0 : Below w.heap.size w W0 := by rw [hW0]; exact Below.alloc (Below.refl _ _) (Nat.le_refl _) _
  have HS0 := Lib.hid (show W0.cell? ⟨w.heap.size, 0, none⟩ = some (.slice none 0 0) ∧ W0.frozen? ⟨w.heap.size, 0, none⟩ = false ∧ w.heap.size < W0.heap.size by rw [hW0]; exact ⟨by simp [go_sem], World.frozen?_alloc_at _ _ _ 0 (by simp), by simp⟩)
  have HB0 := Lib.hid hb0
  rw [← hW0]
  clear hW0 hb0
  go_wp2_with fail
  obtain ⟨W, hW⟩ : ∃ W, W = W0.alloc (Obj.cells #[.slice none 0 0] 101) := ⟨_, rfl⟩
  have HW := Lib.hid (show ModW W W0.heap.size (.slice none 0 0) ∧ Row W W0.heap.size (.slice none 0 0) (prodK p L M 0 0) ∧ Value.ownBlock (.slice none 0 0) ≠ some W0.heap.size ∧ Below W0.heap.size W0 W by
    rw [hW, prodK_zero]
    exact ⟨⟨by simp [go_sem], World.frozen?_alloc_at _ _ _ 0 rfl, by simp⟩, Row.nil _ _, by simp [Value.ownBlock], Below.alloc (Below.refl _ _) (Nat.le_refl _) _⟩)
  rw [← hW]
  obtain ⟨S, hSe⟩ : ∃ S, S = W0.heap.size := ⟨_, rfl⟩
  have hSB : W0.heap.size ≤ S := by rw [hSe]; exact Nat.le_refl _
  rw [show ModW W W0.heap.size (.slice none 0 0) = ModW W S (.slice none 0 0) by rw [hSe], show (Value.ownBlock (.slice none 0 0) ≠ some W0.heap.size) = (Value.ownBlock (.slice none 0 0) ≠ some S) by rw [hSe]] at HW
  rw [← hSe]
  clear hSe hW
  go_loopw [17] (fun i wr => ∃ (k : Nat) (v : Value), k ≤ L.length ∧ i = .int .i64 k ∧ ModW wr S v ∧ Row wr W0.heap.size v (prodK p L M k 0) ∧ v.ownBlock ≠ some S ∧ Below W0.heap.size W0 wr) (fun i _ => L.length - (intOf i).toNat)
  case atStart => exact ⟨0, _, by omega, rfl, HW.out⟩
  case round =>
    clear HW
    obtain ⟨k, v, hk, rfl, hS, hR, hv, hb⟩ := hrel
    by_cases hlt : k < L.length
    · have hltp : (k : Int) < (L.length : Int) := by omega
      have hk0 : (0 : Int) ≤ (k : Int) := by omega
      obtain ⟨x, hx⟩ : ∃ x, x = L.getD k default := ⟨_, rfl⟩
      have HX := Lib.hid hx
      have HEX := Lib.hid (validB_el HVL.out hlt hx)
      have HPX := Lib.hid (validB_pows HVL.out hlt hx)
      obtain ⟨g, off, rfl, hg, hc⟩ : ∃ g off, a = some ⟨g, off, none⟩ ∧ g < w.heap.size ∧ ∀ j : Nat, j < L.length → TAt w g (off + j * 4) (L.getD j default) := by
        obtain ⟨_, a', cap', he, h⟩ := HL.out
        injection he with e1 e2 e3
        subst e1
        rcases h with h | h
        · rw [h] at hlt; simp at hlt
        · exact h
      obtain ⟨b0, b1, b2, b3⟩ := ((hc k hlt).below HB0.out hg).below hb (Nat.lt_of_lt_of_le hg HB0.out.size)
      rw [← hx] at b0 b1 b2 b3
      have hn : v.ownBlock ≠ some wr.heap.size := fun e => by have := (World.ownsRow.lt hR _ e).2; omega
      have HIN := Lib.hid (show ∀ W, W = wr.alloc (Obj.cells #[.int .i64 x.a, .int .i64 x.b, .int .i64 x.c, .int .i64 x.t] 69) → ModW W S v ∧ Row W W0.heap.size v (prodK p L M k 0) ∧ v.ownBlock ≠ some S ∧ v.ownBlock ≠ some wr.heap.size ∧ TAt W wr.heap.size 0 x ∧ wr.heap.size < W.heap.size ∧ Below W0.heap.size W0 W from fun W hW => by
        have hb2 : Below wr.heap.size wr W := by rw [hW]; exact Below.alloc (Below.refl _ _) (Nat.le_refl _) _
        exact ⟨hS.below hb2, hR.below hb2, hv, hn, by rw [hW]; refine ⟨?_, ?_, ?_, ?_⟩ <;> simp [go_sem], by rw [hW]; simp, hb.trans (hb2.mono hb.size)⟩)
      have hSn : S < wr.heap.size := hS.sz
      clear hx hS hR hv hb hc hn
      go_wp2_with fail
      obtain ⟨W1, hW1⟩ : ∃ W, W = wr.alloc (Obj.cells #[.int .i64 x.a, .int .i64 x.b, .int .i64 x.c, .int .i64 x.t] 69) := ⟨_, rfl⟩
      have HI1 := Lib.hid (HIN.out W1 hW1)
      rw [← hW1]
      obtain ⟨n, hne⟩ : ∃ n, n = wr.heap.size := ⟨_, rfl⟩
      rw [← hne] at HI1 hSn ⊢
      clear hW1 hne HIN b0 b1 b2 b3
      go_loopw [23] (fun i wr => ∃ (j : Nat) (v : Value), j ≤ M.length ∧ i = .int .i64 j ∧ ModW wr S v ∧ Row wr W0.heap.size v (prodK p L M k j) ∧ v.ownBlock ≠ some S ∧ v.ownBlock ≠ some n ∧ TAt wr n 0 x ∧ n < wr.heap.size ∧ Below W0.heap.size W0 wr) (fun i _ => M.length - (intOf i).toNat)
      case atStart => exact ⟨0, _, by omega, rfl, HI1.out⟩
      case round =>
        clear HI1
        obtain ⟨j, v, hj, rfl, hS, hR, hv, hvn, hT, hnw, hb⟩ := hrel
        by_cases hjt : j < M.length
        · have hjtp : (j : Int) < (M.length : Int) := by omega
          have hj0 : (0 : Int) ≤ (j : Int) := by omega
          obtain ⟨y, hy⟩ : ∃ y, y = M.getD j default := ⟨_, rfl⟩
          have hely := validB_el HVM.out hjt hy
          have hpy := validB_pows HVM.out hjt hy
          obtain ⟨g2, off2, rfl, hg2, hc⟩ : ∃ g off, a2 = some ⟨g, off, none⟩ ∧ g < w.heap.size ∧ ∀ j : Nat, j < M.length → TAt w g (off + j * 4) (M.getD j default) := by
            obtain ⟨_, a', cap', he, h⟩ := HM.out
            injection he with e1 e2 e3
            subst e1
            rcases h with h | h
            · rw [h] at hjt; simp at hjt
            · exact h
          obtain ⟨b0, b1, b2, b3⟩ := ((hc j hjt).below HB0.out hg2).below hb (Nat.lt_of_lt_of_le hg2 HB0.out.size)
          rw [← hy] at b0 b1 b2 b3
          have hex := HEX.out
          have HXK := Lib.hid (show addT p (mulTT p x y) (prodK p L M k j) = prodK p L M k (j + 1) by rw [HX.out, hy, prodK_next hjt])
          have HS := Lib.hid hS
          have HR := Lib.hid hR
          have HV2 := Lib.hid hv
          have HV3 := Lib.hid hvn
          have HT := Lib.hid hT
          have Hb := Lib.hid hb
          have Ha := Lib.hid (Below.alloc (Below.refl wr.heap.size wr) (Nat.le_refl _) (Obj.cells #[.int .i64 y.a, .int .i64 y.b, .int .i64 y.c, .int .i64 y.t] 69))
          obtain ⟨t0, t1, t2, t3⟩ := hT
          simp only [Nat.zero_add] at t0 t1 t2 t3
          clear hy hS hR hv hvn hb hc
          obtain ⟨p2, p13⟩ := isP_bd HP.out
          have hq0 : 0 ≤ x.t * y.t := Int.mul_nonneg (by omega) (by omega)
          have hq1 : x.t * y.t ≤ 13 * 13 := Int.mul_le_mul (by omega) (by omega) (by omega) (by omega)
          have hw : IntKind.i64.wrap (x.t * y.t) = x.t * y.t := IntWalk.i64_in _ (by omega)
          obtain ⟨⟨xa0, xa1⟩, ⟨xb0, xb1⟩, ⟨xc0, xc1⟩⟩ := HPX.out
          obtain ⟨⟨ya0, ya1⟩, ⟨yb0, yb1⟩, ⟨yc0, yc1⟩⟩ := hpy
          have wa : IntKind.i64.wrap (x.a + y.a) = x.a + y.a := IntWalk.i64_in _ (by omega)
          have wb : IntKind.i64.wrap (x.b + y.b) = x.b + y.b := IntWalk.i64_in _ (by omega)
          have wcc : IntKind.i64.wrap (x.c + y.c) = x.c + y.c := IntWalk.i64_in _ (by omega)
          go_wp2_with fail
          obtain ⟨W, hW⟩ : ∃ W, W = (wr.alloc (Obj.cells #[.int .i64 y.a, .int .i64 y.b, .int .i64 y.c, .int .i64 y.t] 69)).alloc (Obj.cells #[.int .i64 0, .int .i64 0, .int .i64 0, .int .i64 (x.t * y.t % p)] 69) := ⟨_, rfl⟩
          have H := Lib.hid (show ZSt n wr.heap.size x y ⟨0, 0, 0, x.t * y.t % p⟩ wr W by
            have hbW : Below wr.heap.size wr W := by rw [hW]; exact Below.alloc (Below.alloc (Below.refl _ _) (Nat.le_refl _) _) (by simp) _
            refine ⟨HT.out.below hbW hnw, ?_, ?_, fun i => ?_, hnw, by rw [hW]; simp, rfl, hbW⟩
            · rw [hW]; refine ⟨?_, ?_, ?_, ?_⟩ <;> simp [go_sem]
            · rw [hW]; refine ⟨?_, ?_, ?_, ?_⟩ <;> simp [go_sem]
            · rw [hW]; exact World.frozen?_alloc_at (w := wr.alloc _) _ _ _ i (by simp))
          rw [← hW]
          obtain ⟨m, hme⟩ : ∃ m, m = wr.heap.size := ⟨_, rfl⟩
          rw [← hme] at H ⊢
          clear hW hme t0 t1 t2 t3 b0 b1 b2 b3
          refine wp_loop_rounds 4 ?_
          obtain ⟨⟨t0, t1, t2, t3⟩, ⟨u0, u1, u2, u3⟩, ⟨z0, z1, z2, z3⟩, fz, -, sz, -, -⟩ := H.out
          have fz0 := fz 0
          simp only [Nat.zero_add] at t0 t1 t2 t3 u0 u1 u2 u3 z0 z1 z2 z3
          clear hltp hk0 hjtp hj0 hely p2 p13 hq0 hq1 hw xa0 xa1 xb0 xb1 xc0 xc1 ya0 ya1 yb0 yb1 yc0 yc1 hl1 hm1 hex
          rw [rounds_succ]
          go_wp2_with fail
          refine wp_name (fun Q0 hQ0 => ?_)
          have HQ0 := Lib.hid hQ0
          clear hQ0
          refine wp_region_quiet_last (C := fun w' => ∃ n, w' = W.drewN n) (by kernel_rfl) (by kernel_rfl) ⟨1, rfl⟩ ?_
          repeat (refine wpQL_step (fun K hK => ?_); go_simp; refine hK _ ?_; clear hK K)
          refine wpQL_one ?_
          rintro _ ⟨n0, rfl⟩
          go_wp2_with fail
          rw [HQ0.out]
          go_wp2_with fail
          have H := Lib.hid ((H.out.below (below_drewN (Below.refl _ _) n0)).s0 (x.a + y.a))
          clear t0 t1 t2 t3 u0 u1 u2 u3 z0 z1 z2 z3 fz fz0 sz
          generalize ((W.drewN n0).setCell ⟨m + 1, 0, none⟩ (.int .i64 (x.a + y.a))) = W1 at H ⊢
          obtain ⟨⟨t0, t1, t2, t3⟩, ⟨u0, u1, u2, u3⟩, ⟨z0, z1, z2, z3⟩, fz, -, sz, -, -⟩ := H.out
          have fz1 := fz 1
          simp only [Nat.zero_add] at t0 t1 t2 t3 u0 u1 u2 u3 z0 z1 z2 z3
          rw [rounds_succ]
          go_wp2_with fail
          refine wp_name (fun Q1 hQ1 => ?_)
          have HQ1 := Lib.hid hQ1
          clear hQ1
          refine wp_region_quiet_last (C := fun w' => ∃ n, w' = W1.drewN n) (by kernel_rfl) (by kernel_rfl) ⟨1, rfl⟩ ?_
          repeat (refine wpQL_step (fun K hK => ?_); go_simp; refine hK _ ?_; clear hK K)
          refine wpQL_one ?_
          rintro _ ⟨n1, rfl⟩
          go_wp2_with fail
          rw [HQ1.out]
          go_wp2_with fail
          have H := Lib.hid ((H.out.below (below_drewN (Below.refl _ _) n1)).s1 (x.b + y.b))
          clear t0 t1 t2 t3 u0 u1 u2 u3 z0 z1 z2 z3 fz fz1 sz
          generalize ((W1.drewN n1).setCell ⟨m + 1, 1, none⟩ (.int .i64 (x.b + y.b))) = W2 at H ⊢
          obtain ⟨⟨t0, t1, t2, t3⟩, ⟨u0, u1, u2, u3⟩, ⟨z0, z1, z2, z3⟩, fz, -, sz, -, -⟩ := H.out
          have fz2 := fz 2
          simp only [Nat.zero_add] at t0 t1 t2 t3 u0 u1 u2 u3 z0 z1 z2 z3
          rw [rounds_succ]
          go_wp2_with fail
          refine wp_name (fun Q2 hQ2 => ?_)
          have HQ2 := Lib.hid hQ2
          clear hQ2
          refine wp_region_quiet_last (C := fun w' => ∃ n, w' = W2.drewN n) (by kernel_rfl) (by kernel_rfl) ⟨1, rfl⟩ ?_
          repeat (refine wpQL_step (fun K hK => ?_); go_simp; refine hK _ ?_; clear hK K)
          refine wpQL_one ?_
          rintro _ ⟨n2, rfl⟩
          go_wp2_with fail
          rw [HQ2.out]
          go_wp2_with fail
          have H := Lib.hid ((H.out.below (below_drewN (Below.refl _ _) n2)).s2 (x.c + y.c))
          clear t0 t1 t2 t3 u0 u1 u2 u3 z0 z1 z2 z3 fz fz2 sz
          generalize ((W2.drewN n2).setCell ⟨m + 1, 2, none⟩ (.int .i64 (x.c + y.c))) = W3 at H ⊢
          obtain ⟨⟨t0, t1, t2, t3⟩, ⟨u0, u1, u2, u3⟩, ⟨z0, z1, z2, z3⟩, fz, -, sz, -, -⟩ := H.out
          have fz3 := fz 3
          simp only [Nat.zero_add] at t0 t1 t2 t3 u0 u1 u2 u3 z0 z1 z2 z3
          rw [rounds_succ]
          go_wp2_with fail
          have hlow := H.out.low
          have hnW : n < _ := Nat.lt_of_lt_of_le hnw hlow.size
          have hf := prodK_facts HP.out (Nat.le_of_lt hlt) hj (validB_len HVL.out) (validB_len HVM.out)
          have H3 := Lib.hid (Hb.out.trans (hlow.mono Hb.out.size))
          have hpb := isP_bd HP.out
          refine (sAdd W0.heap.size S p (prodK p L M k j) (mulTT p x y) v _ (HS.out.below hlow) (HR.out.below hlow) (by omega) hf.1 HV2.out HP.out hf.2.1 ⟨Int.emod_nonneg _ (by omega), Int.emod_lt_of_pos _ (by omega)⟩ H3.out.size).mono ?_
          rintro e w4 hP4
          have hlw := hP4.low (HR.out.below hlow) hSB H3.out.size
          obtain ⟨rfl, v', hS', hR', hv', hK, hor⟩ := hP4
          rw [HXK.out] at hR'
          have hvn' : v'.ownBlock ≠ some n := by
            rcases hor with e | ⟨g, e, hg⟩
            · rw [e]; exact HV3.out
            · rw [e]; intro h; injection h with h; omega
          have hT' : TAt w4 n 0 x := by
            obtain ⟨q0, q1, q2, q3⟩ := H.out.tx
            have hc : ∀ i, w4.cell? ⟨n, i, none⟩ = W3.cell? ⟨n, i, none⟩ := fun i => hK.cell (p := ⟨n, i, none⟩) hnW (fun h => h.elim (fun h => absurd h (show n ≠ S by omega)) (fun h => HV3.out h))
            exact ⟨by rw [hc]; exact q0, by rw [hc]; exact q1, by rw [hc]; exact q2, by rw [hc]; exact q3⟩
          have hn4 : n < w4.heap.size := Nat.lt_of_lt_of_le hnW hlw.size
          have HQ := Lib.hid (And.intro hS' (And.intro hR' (And.intro hv' (And.intro hvn' (And.intro hT' (And.intro hn4 (H3.out.trans hlw)))))))
          clear hS' hR' hv' hvn' hT' hn4 hlw hK hor hf hlow hnW hpb t0 t1 t2 t3 u0 u1 u2 u3 z0 z1 z2 z3 fz fz3 sz
          have hm1 := validB_len HVM.out
          go_wp2_with fail
          go_roundw
          case rel => exact ⟨j + 1, v', by omega, by go_num, HQ.out⟩
          case measure => simp [intOf]; omega
        · have hjl : j = M.length := by omega
          subst hjl
          rw [prodK_row hlt] at hR
          have HQ := Lib.hid (And.intro hS (And.intro hR (And.intro hv hb)))
          clear hS hR hv hvn hT hb
          go_wp2_with fail
          go_roundw
          case rel => exact ⟨k + 1, v, by omega, by go_num, HQ.out⟩
          case measure => simp [intOf]; omega
    · have hkl : k = L.length := by omega
      subst hkl
      rw [prodK_end, ← HRE.out] at hR
      obtain ⟨q0, q1, q2⟩ := HS0.out
      have r0 : wr.cell? ⟨w.heap.size, 0, none⟩ = some (.slice none 0 0) := by rw [hb.cell (p := ⟨w.heap.size, 0, none⟩) q2]; exact q0
      have r1 : wr.frozen? ⟨w.heap.size, 0, none⟩ = false := by rw [hb.frozen (p := ⟨w.heap.size, 0, none⟩) q2]; exact q1
      obtain ⟨s0, sf, _⟩ := hS
      obtain ⟨a3, c3, rfl⟩ : ∃ a c, v = .slice a R.length c := by
        rcases hR.shape with ⟨rfl, h⟩ | ⟨g, c, rfl, _⟩
        · exact ⟨none, 0, by rw [h]; rfl⟩
        · exact ⟨_, c, rfl⟩
      have HQ := Lib.hid (show Row (wr.setCell ⟨w.heap.size, 0, none⟩ (.slice a3 R.length c3)) w.heap.size (.slice a3 R.length c3) R ∧ Below w.heap.size w (wr.setCell ⟨w.heap.size, 0, none⟩ (.slice a3 R.length c3)) from
        ⟨row_base (World.ownsRow.kept (row := some w.heap.size) hR ⟨rfl, rfl, rfl, by simp, fun k hk hne => Below.heap_setCell _ _ _ _ (fun e => hne (by rw [e]))⟩ (.inr (fun e => by have := (World.ownsRow.lt hR _ e).1; omega))) HB0.out.size,
         Below.setCell (HB0.out.trans (hb.mono HB0.out.size)) (Nat.le_refl _) _⟩)
      clear hR hb hv
      have hq := World.cell?_setCell_same wr ⟨w.heap.size, 0, none⟩ (.slice a3 R.length c3) r0
      go_wp2_with fail
      refine bodyPost_ret (v := .agg #[.slice a3 R.length c3]) (by simp [results, Try.results151, go_sem, hq]) rfl ⟨_, rfl, HQ.out⟩
end Go.Proofs.Ytajabchbdhjdiaa
